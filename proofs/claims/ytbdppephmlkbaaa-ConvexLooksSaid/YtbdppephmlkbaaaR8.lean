import Derived.Test.YtbdppephmlkbaaaR7
namespace Go.Proofs.Ytbdppephmlkbaaa
set_option maxRecDepth 100000
open Go.RowKit Go.Shelf
attribute [local go_sem] Oper.semAt_some
theorem rest_bd {ps : List Pt} (hn : nearP ps) {k : Nat} (hk : k < ps.length) {s y : Int} (hs : 0 ≤ s ∧ s ≤ 1) (hy : -1000 ≤ y ∧ y ≤ 1000) : -100000000 ≤ restZ s ps k y ∧ restZ s ps k y ≤ 100000000 := by
  have b0 := from_near hn hk
  have b1 := from_near hn (show (k + 1) % ps.length < ps.length from Nat.mod_lt _ (by omega))
  have e : toP ps k = fromP ps ((k + 1) % ps.length) := rfl
  have m1 := mul_20 (a := (stepP ps k).1) (b := y - (fromP ps k).2) (by unfold stepP; rw [e]; simp only; omega) (by omega)
  have m2 : -40000000 ≤ (stepP ps k).2 * (fromP ps k).1 ∧ (stepP ps k).2 * (fromP ps k).1 ≤ 40000000 := by
    have h1 := Int.natAbs_mul (stepP ps k).2 (fromP ps k).1
    have h2 : (stepP ps k).2.natAbs * (fromP ps k).1.natAbs ≤ 2000 * 1000 := Nat.mul_le_mul (by unfold stepP; rw [e]; simp only; omega) (by omega)
    generalize (stepP ps k).2 * (fromP ps k).1 = z at *
    generalize (stepP ps k).2.natAbs * (fromP ps k).1.natAbs = n at *
    omega
  have m1' : -40000000 ≤ (stepP ps k).1 * (y - (fromP ps k).2) ∧ (stepP ps k).1 * (y - (fromP ps k).2) ≤ 40000000 := by
    have h1 := Int.natAbs_mul (stepP ps k).1 (y - (fromP ps k).2)
    have h2 : (stepP ps k).1.natAbs * (y - (fromP ps k).2).natAbs ≤ 2000 * 2000 := Nat.mul_le_mul (by unfold stepP; rw [e]; simp only; omega) (by omega)
    generalize (stepP ps k).1 * (y - (fromP ps k).2) = z at *
    generalize (stepP ps k).1.natAbs * (y - (fromP ps k).2).natAbs = n at *
    omega
  unfold restZ
  omega
theorem ediv_bd {a b : Int} (ha : -100000000 ≤ a ∧ a ≤ 100000000) (hb : 0 < b) : -100000001 ≤ a / b ∧ a / b ≤ 100000000 := by
  have h := floor_is (a := a) hb
  have h2 := tdiv_bd (d := b) ha
  rw [h]
  split <;> omega
theorem row_bd {ps : List Pt} (hn : nearP ps) {s y : Int} (hs : 0 ≤ s ∧ s ≤ 1) (hy : -1000 ≤ y ∧ y ≤ 1000) : ∀ k, k ≤ ps.length → loZ s ps y k ≤ 100000001 ∧ -100000001 ≤ hiZ s ps y k := by
  intro k
  induction k with
  | zero => intro _; simp [loZ, hiZ]
  | succ k ih =>
    intro hk
    have h1 := ih (by omega)
    have hr := rest_bd hn (show k < ps.length by omega) hs hy
    simp only [loZ, hiZ]
    constructor
    · split
      · have := ediv_bd (b := -(stepP ps k).2) hr (by omega); omega
      · exact h1.1
    · split
      · have := ediv_bd (b := (stepP ps k).2) hr (by omega); omega
      · exact h1.2
/-- what the reference finds of a row -/
def rowR (s : Int) (ps : List Pt) (y : Int) : Int × Int := if flatB s ps y ps.length = true then (loZ s ps y ps.length, hiZ s ps y ps.length) else (0, -1)
theorem flat_stays {s : Int} {ps : List Pt} {y : Int} {k : Nat} (h : flatB s ps y k = false) : ∀ j, flatB s ps y (k + j) = false := by
  intro j
  induction j with
  | zero => exact h
  | succ j ih =>
    show (flatB s ps y (k + j) && _) = false
    rw [ih]; rfl
set_option maxHeartbeats 8000000 in
theorem inRow_c (v : Value) (ps : List Pt) (y s : Int) (w : World) (hv : Vecs w v ps) (hn : nearP ps) (h3 : 3 ≤ ps.length) (h32 : ps.length ≤ 32) (hy : -1000 ≤ y ∧ y ≤ 1000) (hs : 0 ≤ s ∧ s ≤ 1) :
    Calls Try.prog 58 #[v, .int .i64 y, .int .i64 s] w fun e w' => e = two (.int .i64 (rowR s ps y).1) (.int .i64 (rowR s ps y).2) ∧ Ext w w' := by
  obtain ⟨b, o, cap, rfl, hl, hm, hc⟩ := vecs_cells hv (by omega)
  have HC := Lib.hid hc
  have HNR := Lib.hid (fun (k : Nat) (hk : k < ps.length) => from_near hn hk)
  have HRB := Lib.hid (fun (k : Nat) (hk : k < ps.length) => rest_bd hn hk hs hy)
  have HLO := Lib.hid (fun k => (show -1000 ≤ loZ s ps y k from lo_ge s ps y k))
  have HHI := Lib.hid (fun k => (show hiZ s ps y k ≤ 1000 from hi_le' s ps y k))
  obtain ⟨n, hnn⟩ : ∃ n, n = ps.length := ⟨_, rfl⟩
  have hn3 : 3 ≤ n ∧ n ≤ 32 := by omega
  have HFIN := Lib.hid (show flatB s ps y n = true → rowR s ps y = (loZ s ps y n, hiZ s ps y n) from fun h => by unfold rowR; rw [← hnn, if_pos h])
  have HBAD := Lib.hid (show flatB s ps y n = false → rowR s ps y = (0, -1) from fun h => by unfold rowR; rw [← hnn, if_neg (by rw [h]; simp)])
  rw [← hnn] at HC HNR HRB hl ⊢
  have HN := Lib.hid hnn
  clear hv hc hn h3 h32 hnn
  generalize hRR : rowR s ps y = RR at *
  obtain ⟨R1, R2⟩ := RR
  clear hRR
  simp only
  go_enter Try.func58, Try.ntmps58
  go_wp2_with fail
  go_loopw [10, 8, 9] (fun iv lv hv wr => ∃ i : Nat, iv = .int .i64 (i : Int) ∧ i ≤ n ∧ lv = .int .i64 (loZ s ps y i) ∧ hv = .int .i64 (hiZ s ps y i) ∧ flatB s ps y i = true ∧ Ext w wr) (fun iv _ _ _ => n - (intOf iv).toNat)
  case atStart => exact ⟨0, rfl, Nat.zero_le _, rfl, rfl, rfl, Ext.refl _⟩
  case round =>
    rename World => wr
    obtain ⟨i, rfl, hi, rfl, rfl, hfl, hE⟩ := hrel
    have HFL := Lib.hid hfl
    have HE := Lib.hid hE
    clear hfl hE
    by_cases hil : i < n
    · obtain ⟨j, hj⟩ : ∃ j, j = (i + 1) % n := ⟨_, rfl⟩
      have hjn : j < n := by rw [hj]; exact Nat.mod_lt _ (by omega)
      have hjm : ((i : Int) + 1) % (n : Int) = (j : Int) := by rw [hj, Int.natCast_emod, Int.natCast_add]; rfl
      have hjt : ((i : Int) + 1).tmod (n : Int) = (j : Int) := by rw [Int.tmod_eq_emod_of_nonneg (by omega)]; exact hjm
      have hnz : ¬ (n : Int) = 0 := by omega
      have hnz2 : ¬ n = 0 := by omega
      obtain ⟨c1, c2⟩ := HC.out i hil
      obtain ⟨c3, c4⟩ := HC.out j hjn
      have b0 := HNR.out i hil
      have b1 := HNR.out j hjn
      have HTO := Lib.hid (show toP ps i = fromP ps j from by rw [to_from, hj, HN.out])
      have HRI := Lib.hid (HRB.out i hil)
      have HDX := Lib.hid (show (stepP ps i).1 = (fromP ps j).1 - (fromP ps i).1 from by unfold stepP; rw [HTO.out])
      have HDY := Lib.hid (show (stepP ps i).2 = (fromP ps j).2 - (fromP ps i).2 from by unfold stepP; rw [HTO.out])
      have HRE := Lib.hid (show restZ s ps i y = ((fromP ps j).1 - (fromP ps i).1) * (y - (fromP ps i).2) + ((fromP ps j).2 - (fromP ps i).2) * (fromP ps i).1 - s from by unfold restZ; rw [HDX.out, HDY.out])
      have HLS := Lib.hid (show loZ s ps y (i + 1) = if (stepP ps i).2 < 0 then max (loZ s ps y i) (-(restZ s ps i y / -(stepP ps i).2)) else loZ s ps y i from rfl)
      have HHS := Lib.hid (show hiZ s ps y (i + 1) = if 0 < (stepP ps i).2 then min (hiZ s ps y i) (restZ s ps i y / (stepP ps i).2) else hiZ s ps y i from rfl)
      have HFS := Lib.hid (show flatB s ps y (i + 1) = (flatB s ps y i && decide ((stepP ps i).2 = 0 → 0 ≤ restZ s ps i y)) from rfl)
      rw [HDY.out] at HLS HHS HFS
      have m1 := mul_20 (a := (fromP ps j).1 - (fromP ps i).1) (b := y - (fromP ps i).2) (by omega) (by omega)
      have m2 := mul_20 (a := (fromP ps j).2 - (fromP ps i).2) (b := (fromP ps i).1) (by omega) (by omega)
      obtain ⟨xi, hxi⟩ : ∃ z, z = (fromP ps i).1 := ⟨_, rfl⟩
      obtain ⟨yi, hyi⟩ : ∃ z, z = (fromP ps i).2 := ⟨_, rfl⟩
      obtain ⟨xj, hxj⟩ : ∃ z, z = (fromP ps j).1 := ⟨_, rfl⟩
      obtain ⟨yj, hyj⟩ : ∃ z, z = (fromP ps j).2 := ⟨_, rfl⟩
      obtain ⟨rz, hrz⟩ : ∃ z, z = restZ s ps i y := ⟨_, rfl⟩
      rw [← hxi, ← hyi, ← hxj, ← hyj] at HRE
      rw [← hxi, ← hyi] at b0
      rw [← hxj, ← hyj] at b1
      rw [← hyi, ← hyj] at HLS HHS HFS
      rw [← hrz] at HRE HRI HLS HHS HFS
      rw [← hxi] at c1
      rw [← hyi] at c2
      rw [← hxj] at c3
      rw [← hyj] at c4
      rw [← hxi, ← hyi, ← hxj] at m1
      rw [← hxi, ← hyi, ← hyj] at m2
      clear hxi hyi hxj hyj hrz HDX HDY HTO hj
      have C1 := Lib.hid (Ext.cell HE.out c1)
      have C2 := Lib.hid (Ext.cell HE.out c2)
      have C3 := Lib.hid (Ext.cell HE.out c3)
      have C4 := Lib.hid (Ext.cell HE.out c4)
      clear c1 c2 c3 c4
      have c1 := C1.out
      have c2 := C2.out
      have c3 := C3.out
      have c4 := C4.out
      have k1 := cell_lt c1
      have k3 := cell_lt c3
      have hilz : (i : Int) < (n : Int) := by omega
      obtain ⟨dy, hdy⟩ : ∃ dy, dy = yj - yi := ⟨_, rfl⟩
      obtain ⟨P1, hP1⟩ : ∃ P1, P1 = (xj - xi) * (y - yi) := ⟨_, rfl⟩
      obtain ⟨P2, hP2⟩ : ∃ P2, P2 = (yj - yi) * xi := ⟨_, rfl⟩
      rw [← hP1] at m1 HRE
      rw [← hP2] at m2 HRE
      rw [← hdy] at HLS HHS HFS
      have hw1 : IntKind.i64.wrap ((xj - xi) * (y - yi)) = P1 := by rw [← hP1]; exact IntWalk.i64_in _ (by omega)
      have hw2 : IntKind.i64.wrap ((yj - yi) * xi) = P2 := by rw [← hP2]; exact IntWalk.i64_in _ (by omega)
      have HDY := Lib.hid hdy
      have hdb : -2000 ≤ dy ∧ dy ≤ 2000 := by omega
      clear hP1 hP2 hdy
      go_wp2_with fail
      go_region
      · have HA := Lib.hid (show VRow ((wr.alloc (.cells #[.int .i64 xi, .int .i64 yi] 32)).alloc (.cells #[.int .i64 xj, .int .i64 yj] 32)).drew wr.heap.size 32 [.int .i64 xi, .int .i64 yi] from ((vrow_alloc wr [.int .i64 xi, .int .i64 yi] 32).alloc _).drew)
        have HB := Lib.hid (show VRow ((wr.alloc (.cells #[.int .i64 xi, .int .i64 yi] 32)).alloc (.cells #[.int .i64 xj, .int .i64 yj] 32)).drew (wr.heap.size + 1) 32 [.int .i64 xj, .int .i64 yj] from by
          have h := (vrow_alloc (wr.alloc (.cells #[.int .i64 xi, .int .i64 yi] 32)) [.int .i64 xj, .int .i64 yj] 32).drew
          have e : (wr.alloc (.cells #[.int .i64 xi, .int .i64 yi] 32)).heap.size = wr.heap.size + 1 := by simp
          rw [e] at h
          exact h)
        have HEW := Lib.hid (show Ext wr ((wr.alloc (.cells #[.int .i64 xi, .int .i64 yi] 32)).alloc (.cells #[.int .i64 xj, .int .i64 yj] 32)).drew from Below.drew (Ext.alloc (Ext.alloc (Ext.refl wr) _) _))
        generalize ((wr.alloc (.cells #[.int .i64 xi, .int .i64 yi] 32)).alloc (.cells #[.int .i64 xj, .int .i64 yj] 32)).drew = W at *
        clear c1 c2 c3 c4 k1 k3
        have a0 := VRow.cell HA.out (k := 0) rfl
        have a1 := VRow.cell HA.out (k := 1) rfl
        have a2 := VRow.cell HB.out (k := 0) rfl
        have a3 := VRow.cell HB.out (k := 1) rfl
        rcases Int.lt_trichotomy dy 0 with hd | hd | hd
        · -- down: a lower bound
          obtain ⟨q, hq⟩ : ∃ q, q = rz / -dy := ⟨_, rfl⟩
          have hqb := ediv_bd HRI.out (show 0 < -dy by omega)
          rw [← hq] at hqb HLS
          have HFC := Lib.hid (show ∀ W, Calls Try.prog 85 #[.int .i64 (P1 + P2 - s), .int .i64 (-(yj - yi))] W fun e w' => e = .returned (.int .i64 q) ∧ Ext W w' from fun W => by
            have h := floor_c rz (-dy) W HRI.out (by omega)
            rw [← hq] at h
            rw [← HRE.out, ← HDY.out]
            exact h)
          have HL := Lib.hid (show loZ s ps y (i + 1) = max (loZ s ps y i) (-q) from by rw [HLS.out, if_pos hd])
          have HH := Lib.hid (show hiZ s ps y (i + 1) = hiZ s ps y i from by rw [HHS.out, if_neg (by omega)])
          have HF := Lib.hid (show flatB s ps y (i + 1) = true from by rw [HFS.out, HFL.out, decide_eq_true (fun e => by omega)]; rfl)
          have hd1 : yj - yi < 0 := by have := HDY.out; omega
          have hd2 : ¬ 0 < yj - yi := by omega
          clear hq hd
          obtain ⟨lz, hlz⟩ : ∃ lz, lz = loZ s ps y i := ⟨_, rfl⟩
          rw [← hlz] at HL ⊢
          clear hlz
          go_wp2_with fail
          refine (HFC.out _).mono ?_
          rintro e w5 ⟨rfl, hE⟩
          have HE5 := Lib.hid (Ext.trans HEW.out hE)
          clear hE a0 a1 a2 a3
          go_wp2_with fail
          exact ⟨⟨i + 1, by simp, by omega, by rw [HL.out], by rw [HH.out], HF.out, Ext.trans HE.out HE5.out⟩, by simp [intOf]; omega⟩
        · -- along the row
          have HL := Lib.hid (show loZ s ps y (i + 1) = loZ s ps y i from by rw [HLS.out, if_neg (by omega)])
          have HH := Lib.hid (show hiZ s ps y (i + 1) = hiZ s ps y i from by rw [HHS.out, if_neg (by omega)])
          have hd1 : ¬ yj - yi < 0 := by have := HDY.out; omega
          have hd2 : ¬ 0 < yj - yi := by have := HDY.out; omega
          by_cases hr : rz < 0
          · have HF := Lib.hid (show flatB s ps y (i + 1) = false from by
              rw [HFS.out, decide_eq_false (fun h => by have := h hd; omega), Bool.and_false])
            have HB2 := Lib.hid (show R1 = 0 ∧ R2 = -1 from by
              have h := flat_stays HF.out (n - (i + 1))
              rw [show i + 1 + (n - (i + 1)) = n by omega] at h
              have h2 := HBAD.out h
              injection h2 with h3 h4
              exact ⟨h3, h4⟩)
            have hr1 : P1 + P2 - s < 0 := by have := HRE.out; omega
            clear hd
            go_wp2_with fail
            go_ret2
            exact ⟨by rw [HB2.out.1, HB2.out.2]; rfl, Ext.trans HE.out HEW.out⟩
          · have HF := Lib.hid (show flatB s ps y (i + 1) = true from by
              rw [HFS.out, HFL.out, decide_eq_true (fun _ => by omega)]; rfl)
            have hr1 : ¬ P1 + P2 - s < 0 := by have := HRE.out; omega
            clear hd
            go_wp2_with fail
            exact ⟨⟨i + 1, by simp, by omega, by rw [HL.out], by rw [HH.out], HF.out, Ext.trans HE.out HEW.out⟩, by simp [intOf]; omega⟩
        · -- up: an upper bound
          obtain ⟨q, hq⟩ : ∃ q, q = rz / dy := ⟨_, rfl⟩
          have hqb := ediv_bd HRI.out hd
          rw [← hq] at hqb HHS
          have HFC := Lib.hid (show ∀ W, Calls Try.prog 85 #[.int .i64 (P1 + P2 - s), .int .i64 (yj - yi)] W fun e w' => e = .returned (.int .i64 q) ∧ Ext W w' from fun W => by
            have h := floor_c rz dy W HRI.out (by omega)
            rw [← hq] at h
            rw [← HRE.out, ← HDY.out]
            exact h)
          have HL := Lib.hid (show loZ s ps y (i + 1) = loZ s ps y i from by rw [HLS.out, if_neg (by omega)])
          have HH := Lib.hid (show hiZ s ps y (i + 1) = min (hiZ s ps y i) q from by rw [HHS.out, if_pos hd])
          have HF := Lib.hid (show flatB s ps y (i + 1) = true from by rw [HFS.out, HFL.out, decide_eq_true (fun e => by omega)]; rfl)
          have hd1 : 0 < yj - yi := by have := HDY.out; omega
          clear hq hd
          obtain ⟨hz, hhz⟩ : ∃ hz, hz = hiZ s ps y i := ⟨_, rfl⟩
          rw [← hhz] at HH ⊢
          clear hhz
          go_wp2_with fail
          refine (HFC.out _).mono ?_
          rintro e w5 ⟨rfl, hE⟩
          have HE5 := Lib.hid (Ext.trans HEW.out hE)
          clear hE a0 a1 a2 a3
          go_wp2_with fail
          exact ⟨⟨i + 1, by simp, by omega, by rw [HL.out], by rw [HH.out], HF.out, Ext.trans HE.out HE5.out⟩, by simp [intOf]; omega⟩
      · have HB := Lib.hid (show VRow ((wr.alloc (.cells #[.int .i64 xj, .int .i64 yj] 32)).alloc (.cells #[.int .i64 xi, .int .i64 yi] 32)).drew wr.heap.size 32 [.int .i64 xj, .int .i64 yj] from ((vrow_alloc wr [.int .i64 xj, .int .i64 yj] 32).alloc _).drew)
        have HA := Lib.hid (show VRow ((wr.alloc (.cells #[.int .i64 xj, .int .i64 yj] 32)).alloc (.cells #[.int .i64 xi, .int .i64 yi] 32)).drew (wr.heap.size + 1) 32 [.int .i64 xi, .int .i64 yi] from by
          have h := (vrow_alloc (wr.alloc (.cells #[.int .i64 xj, .int .i64 yj] 32)) [.int .i64 xi, .int .i64 yi] 32).drew
          have e : (wr.alloc (.cells #[.int .i64 xj, .int .i64 yj] 32)).heap.size = wr.heap.size + 1 := by simp
          rw [e] at h
          exact h)
        have HEW := Lib.hid (show Ext wr ((wr.alloc (.cells #[.int .i64 xj, .int .i64 yj] 32)).alloc (.cells #[.int .i64 xi, .int .i64 yi] 32)).drew from Below.drew (Ext.alloc (Ext.alloc (Ext.refl wr) _) _))
        generalize ((wr.alloc (.cells #[.int .i64 xj, .int .i64 yj] 32)).alloc (.cells #[.int .i64 xi, .int .i64 yi] 32)).drew = W at *
        clear c1 c2 c3 c4 k1 k3
        have a0 := VRow.cell HA.out (k := 0) rfl
        have a1 := VRow.cell HA.out (k := 1) rfl
        have a2 := VRow.cell HB.out (k := 0) rfl
        have a3 := VRow.cell HB.out (k := 1) rfl
        rcases Int.lt_trichotomy dy 0 with hd | hd | hd
        · -- down: a lower bound
          obtain ⟨q, hq⟩ : ∃ q, q = rz / -dy := ⟨_, rfl⟩
          have hqb := ediv_bd HRI.out (show 0 < -dy by omega)
          rw [← hq] at hqb HLS
          have HFC := Lib.hid (show ∀ W, Calls Try.prog 85 #[.int .i64 (P1 + P2 - s), .int .i64 (-(yj - yi))] W fun e w' => e = .returned (.int .i64 q) ∧ Ext W w' from fun W => by
            have h := floor_c rz (-dy) W HRI.out (by omega)
            rw [← hq] at h
            rw [← HRE.out, ← HDY.out]
            exact h)
          have HL := Lib.hid (show loZ s ps y (i + 1) = max (loZ s ps y i) (-q) from by rw [HLS.out, if_pos hd])
          have HH := Lib.hid (show hiZ s ps y (i + 1) = hiZ s ps y i from by rw [HHS.out, if_neg (by omega)])
          have HF := Lib.hid (show flatB s ps y (i + 1) = true from by rw [HFS.out, HFL.out, decide_eq_true (fun e => by omega)]; rfl)
          have hd1 : yj - yi < 0 := by have := HDY.out; omega
          have hd2 : ¬ 0 < yj - yi := by omega
          clear hq hd
          obtain ⟨lz, hlz⟩ : ∃ lz, lz = loZ s ps y i := ⟨_, rfl⟩
          rw [← hlz] at HL ⊢
          clear hlz
          go_wp2_with fail
          refine (HFC.out _).mono ?_
          rintro e w5 ⟨rfl, hE⟩
          have HE5 := Lib.hid (Ext.trans HEW.out hE)
          clear hE a0 a1 a2 a3
          go_wp2_with fail
          exact ⟨⟨i + 1, by simp, by omega, by rw [HL.out], by rw [HH.out], HF.out, Ext.trans HE.out HE5.out⟩, by simp [intOf]; omega⟩
        · -- along the row
          have HL := Lib.hid (show loZ s ps y (i + 1) = loZ s ps y i from by rw [HLS.out, if_neg (by omega)])
          have HH := Lib.hid (show hiZ s ps y (i + 1) = hiZ s ps y i from by rw [HHS.out, if_neg (by omega)])
          have hd1 : ¬ yj - yi < 0 := by have := HDY.out; omega
          have hd2 : ¬ 0 < yj - yi := by have := HDY.out; omega
          by_cases hr : rz < 0
          · have HF := Lib.hid (show flatB s ps y (i + 1) = false from by
              rw [HFS.out, decide_eq_false (fun h => by have := h hd; omega), Bool.and_false])
            have HB2 := Lib.hid (show R1 = 0 ∧ R2 = -1 from by
              have h := flat_stays HF.out (n - (i + 1))
              rw [show i + 1 + (n - (i + 1)) = n by omega] at h
              have h2 := HBAD.out h
              injection h2 with h3 h4
              exact ⟨h3, h4⟩)
            have hr1 : P1 + P2 - s < 0 := by have := HRE.out; omega
            clear hd
            go_wp2_with fail
            go_ret2
            exact ⟨by rw [HB2.out.1, HB2.out.2]; rfl, Ext.trans HE.out HEW.out⟩
          · have HF := Lib.hid (show flatB s ps y (i + 1) = true from by
              rw [HFS.out, HFL.out, decide_eq_true (fun _ => by omega)]; rfl)
            have hr1 : ¬ P1 + P2 - s < 0 := by have := HRE.out; omega
            clear hd
            go_wp2_with fail
            exact ⟨⟨i + 1, by simp, by omega, by rw [HL.out], by rw [HH.out], HF.out, Ext.trans HE.out HEW.out⟩, by simp [intOf]; omega⟩
        · -- up: an upper bound
          obtain ⟨q, hq⟩ : ∃ q, q = rz / dy := ⟨_, rfl⟩
          have hqb := ediv_bd HRI.out hd
          rw [← hq] at hqb HHS
          have HFC := Lib.hid (show ∀ W, Calls Try.prog 85 #[.int .i64 (P1 + P2 - s), .int .i64 (yj - yi)] W fun e w' => e = .returned (.int .i64 q) ∧ Ext W w' from fun W => by
            have h := floor_c rz dy W HRI.out (by omega)
            rw [← hq] at h
            rw [← HRE.out, ← HDY.out]
            exact h)
          have HL := Lib.hid (show loZ s ps y (i + 1) = loZ s ps y i from by rw [HLS.out, if_neg (by omega)])
          have HH := Lib.hid (show hiZ s ps y (i + 1) = min (hiZ s ps y i) q from by rw [HHS.out, if_pos hd])
          have HF := Lib.hid (show flatB s ps y (i + 1) = true from by rw [HFS.out, HFL.out, decide_eq_true (fun e => by omega)]; rfl)
          have hd1 : 0 < yj - yi := by have := HDY.out; omega
          clear hq hd
          obtain ⟨hz, hhz⟩ : ∃ hz, hz = hiZ s ps y i := ⟨_, rfl⟩
          rw [← hhz] at HH ⊢
          clear hhz
          go_wp2_with fail
          refine (HFC.out _).mono ?_
          rintro e w5 ⟨rfl, hE⟩
          have HE5 := Lib.hid (Ext.trans HEW.out hE)
          clear hE a0 a1 a2 a3
          go_wp2_with fail
          exact ⟨⟨i + 1, by simp, by omega, by rw [HL.out], by rw [HH.out], HF.out, Ext.trans HE.out HE5.out⟩, by simp [intOf]; omega⟩
    · have hilz : ¬ (i : Int) < (n : Int) := by omega
      have hin : i = n := by omega
      have HF2 := Lib.hid (HFIN.out (by rw [← hin]; exact HFL.out))
      have HE1 := Lib.hid (show R1 = loZ s ps y i ∧ R2 = hiZ s ps y i from by
        have h := HF2.out
        rw [← hin] at h
        injection h with h1 h2
        exact ⟨h1, h2⟩)
      clear hin
      generalize loZ s ps y i = lz at *
      generalize hiZ s ps y i = hz at *
      go_wp2_with fail
      go_ret2
      exact ⟨by rw [HE1.out.1, HE1.out.2]; rfl, HE.out⟩
end Go.Proofs.Ytbdppephmlkbaaa
