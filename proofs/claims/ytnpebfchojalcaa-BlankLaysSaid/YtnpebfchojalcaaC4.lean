import Derived.Test.YtnpebfchojalcaaC3
namespace Go.Proofs.Ytnpebfchojalcaa
set_option maxRecDepth 100000
open Go.RowKit Go.Shelf
theorem info126 : (Try.prog.info? 126).map (fun i => (i.zero, i.size, i.bytes)) = some (some (.slice none 0 0), 1, 24) := by kernel_rfl
theorem info100 : (Try.prog.info? 100).map (fun i => (i.zero, i.size, i.bytes)) = some (some (.agg #[.int .i64 0, .int .i64 0, .int .i64 0]), 3, 24) := by kernel_rfl
theorem made_one (z : Value) (n : Nat) : madeCells #[z] n = Array.replicate n z := by
  apply Array.ext
  · simp [madeCells]
  · intro i h1 h2
    simp [madeCells, Nat.mod_one]
theorem made_three (z : Value) (n : Nat) : madeCells #[z, z, z] n = Array.replicate n z := by
  apply Array.ext
  · simp [madeCells]
  · intro i h1 h2
    have h3 : i % 3 < 3 := Nat.mod_lt _ (by omega)
    have h4 : i % 3 = 0 ∨ i % 3 = 1 ∨ i % 3 = 2 := by omega
    rcases h4 with h | h | h <;> simp [madeCells, h]
theorem vrow_rep (w : World) (z : Value) (n : Nat) (t : TypeId) : VRow (w.alloc (.cells (Array.replicate n z) t)) w.heap.size t (List.replicate n z) := by
  have h := vrow_alloc w (List.replicate n z) t
  rw [List.toArray_replicate] at h
  exact h
theorem run_make_rows (n : Nat) (hn : n ≤ 1000) (w : World) :
    (Instr.makeSlice 97 (.int .i64 (n : Int)) (.int .i64 (n : Int))).run Try.prog w = .ok (.slice (some ⟨w.heap.size, 0, none⟩) n n) (w.alloc (.cells (Array.replicate n (.slice none 0 0)) 126)) := by
  obtain ⟨i, hi, hz, hs, hb⟩ := info_parts info126
  have hr := run_make (P := Try.prog) w 97 126 i (.slice none 0 0) Try.underlying97 hi hz .i64 .i64 n n (by omega) (Int.le_refl _) (by rw [hb]; omega) (by omega)
  simp only [Int.toNat_natCast, hs] at hr
  have e : (Value.slice none 0 0).cells = #[Value.slice none 0 0] := rfl
  rw [e, made_one, Nat.mul_one] at hr
  exact hr
theorem run_make_choices (n : Nat) (hn : n ≤ 1000) (w : World) :
    (Instr.makeSlice 126 (.int .i64 (n : Int)) (.int .i64 (n : Int))).run Try.prog w = .ok (.slice (some ⟨w.heap.size, 0, none⟩) n n) (w.alloc (.cells (Array.replicate (n * 3) (.int .i64 0)) 100)) := by
  obtain ⟨i, hi, hz, hs, hb⟩ := info_parts info100
  have hr := run_make (P := Try.prog) w 126 100 i (.agg #[.int .i64 0, .int .i64 0, .int .i64 0]) Try.underlying126 hi hz .i64 .i64 n n (by omega) (Int.le_refl _) (by rw [hb]; omega) (by omega)
  simp only [Int.toNat_natCast, hs] at hr
  have e : (Value.agg #[Value.int IntKind.i64 0, Value.int IntKind.i64 0, Value.int IntKind.i64 0]).cells = #[Value.int IntKind.i64 0, Value.int IntKind.i64 0, Value.int IntKind.i64 0] := rfl
  rw [e, made_three] at hr
  exact hr
/-- row a of the table lies in block R, good up to j -/
def RowOk (w : World) (ts : List It) (T M a R j : Nat) : Prop := w.cell? ⟨T, a, none⟩ = some (.slice (some ⟨R, 0, none⟩) M M) ∧
  ∀ b, b < j → w.cell? ⟨R, b * 3, none⟩ = some (.int .i64 (bestC ts a b).1) ∧ w.cell? ⟨R, b * 3 + 1, none⟩ = some (.int .i64 (bestC ts a b).2.1) ∧ w.cell? ⟨R, b * 3 + 2, none⟩ = some (.int .i64 (bestC ts a b).2.2)
def TabOk (w : World) (ts : List It) (T M k B : Nat) : Prop := ∀ a, a < k → ∃ R, T < R ∧ R < B ∧ RowOk w ts T M a R M
theorem RowOk.entry {w : World} {ts : List It} {T M N a R j b : Nat} (h : RowOk w ts T M a R j) (ha : a < N) (hb : b < j) (hj : j ≤ M) : Entry w (.slice (some ⟨T, 0, none⟩) N N) a b (bestC ts a b) := by
  obtain ⟨h1, h2⟩ := h
  obtain ⟨h3, h4, h5⟩ := h2 b hb
  exact ⟨T, 0, N, N, R, 0, M, M, rfl, ha, by rw [Nat.zero_add]; exact h1, by omega, by rw [Nat.zero_add]; exact h3, by rw [Nat.zero_add]; exact h4, by rw [Nat.zero_add]; exact h5⟩
theorem RowOk.below {w w' : World} {ts : List It} {T M a R j B : Nat} (h : RowOk w ts T M a R j) (he : Below B w w') (hT : T < B) (hR : R < B) : RowOk w' ts T M a R j :=
  ⟨by rw [Below.cell he (p := ⟨T, a, none⟩) hT]; exact h.1, fun b hb => ⟨by rw [Below.cell he (p := ⟨R, b * 3, none⟩) hR]; exact (h.2 b hb).1, by rw [Below.cell he (p := ⟨R, b * 3 + 1, none⟩) hR]; exact (h.2 b hb).2.1, by rw [Below.cell he (p := ⟨R, b * 3 + 2, none⟩) hR]; exact (h.2 b hb).2.2⟩⟩
theorem TabOk.below {w w' : World} {ts : List It} {T M k B C : Nat} (h : TabOk w ts T M k B) (he : Below C w w') (hT : T < C) (hB : B ≤ C) : TabOk w' ts T M k B := fun a ha => by
  obtain ⟨R, h1, h2, h3⟩ := h a ha
  exact ⟨R, h1, h2, h3.below he hT (by omega)⟩
/-- the row in the making -/
def RowSt (ts : List It) (a M j : Nat) (vs : List Value) : Prop := vs.length = M * 3 ∧ ∀ b, b < j → vs[b * 3]? = some (.int .i64 (bestC ts a b).1) ∧ vs[b * 3 + 1]? = some (.int .i64 (bestC ts a b).2.1) ∧ vs[b * 3 + 2]? = some (.int .i64 (bestC ts a b).2.2)
theorem rowSt_put {ts : List It} {a M j : Nat} {vs : List Value} (h : RowSt ts a M j vs) (hj : j < M) :
    RowSt ts a M (j + 1) (((vs.set (j * 3) (.int .i64 (bestC ts a j).1)).set (j * 3 + 1) (.int .i64 (bestC ts a j).2.1)).set (j * 3 + 2) (.int .i64 (bestC ts a j).2.2)) := by
  obtain ⟨h1, h2⟩ := h
  refine ⟨by simp [h1], fun b hb => ?_⟩
  by_cases e : b = j
  · subst e
    refine ⟨?_, ?_, ?_⟩
    · rw [List.getElem?_set_ne (by omega), List.getElem?_set_ne (by omega), List.getElem?_set_self (by omega)]
    · rw [List.getElem?_set_ne (by omega), List.getElem?_set_self (by simp; omega)]
    · rw [List.getElem?_set_self (by simp; omega)]
  · obtain ⟨h3, h4, h5⟩ := h2 b (by omega)
    refine ⟨?_, ?_, ?_⟩
    · rw [List.getElem?_set_ne (by omega), List.getElem?_set_ne (by omega), List.getElem?_set_ne (by omega)]; exact h3
    · rw [List.getElem?_set_ne (by omega), List.getElem?_set_ne (by omega), List.getElem?_set_ne (by omega)]; exact h4
    · rw [List.getElem?_set_ne (by omega), List.getElem?_set_ne (by omega), List.getElem?_set_ne (by omega)]; exact h5
theorem rowSt_ok {w : World} {ts : List It} {T M a R j : Nat} {vs : List Value} (h : RowSt ts a M j vs) (hr : VRow w R 100 vs) (hc : w.cell? ⟨T, a, none⟩ = some (.slice (some ⟨R, 0, none⟩) M M)) : RowOk w ts T M a R j :=
  ⟨hc, fun b hb => ⟨VRow.cell hr (h.2 b hb).1, VRow.cell hr (h.2 b hb).2.1, VRow.cell hr (h.2 b hb).2.2⟩⟩
theorem below3_put {B : Nat} {w W : World} {g o : Nat} (h : Below B w W) (hs : B ≤ g) (x y z : Value) : Below B w (((W.setCell ⟨g, o, none⟩ x).setCell ⟨g, o + 1, none⟩ y).setCell ⟨g, o + 2, none⟩ z) :=
  Below.setCell (p := ⟨g, o + 2, none⟩) (Below.setCell (p := ⟨g, o + 1, none⟩) (Below.setCell (p := ⟨g, o, none⟩) h hs _) hs _) hs _
set_option maxHeartbeats 4000000 in
theorem choose_c (v : Value) (ts : List It) (W H : Nat) (w : World) (hW : W ≤ 100) (hH : H ≤ 100) (hv : Items w v ts) (hok : ts.all itemB = true) :
    Calls Try.prog 65 #[rectV W H, v] w fun e w' => ∃ T, e = .returned (.slice (some ⟨T, 0, none⟩) (W + 1) (W + 1)) ∧ (∀ a b, a ≤ W → b ≤ H → Entry w' (.slice (some ⟨T, 0, none⟩) (W + 1) (W + 1)) a b (bestC ts a b)) ∧ Ext w w' := by
  obtain ⟨a, cap, rfl, hl, hm, hr⟩ := hv.at
  have HV := Lib.hid hv
  have HOK := Lib.hid hok
  clear hv hr hok
  obtain ⟨N, hN⟩ : ∃ N, N = W + 1 := ⟨_, rfl⟩
  obtain ⟨M, hM⟩ : ∃ M, M = H + 1 := ⟨_, rfl⟩
  have hNz : (W : Int) + 1 = (N : Int) := by omega
  have hMz : (H : Int) + 1 = (M : Int) := by omega
  rw [← hN]
  have HN := Lib.hid hN
  have HM := Lib.hid hM
  have hNb : N ≤ 101 := by omega
  have hMb : M ≤ 101 := by omega
  clear hN hM
  unfold rectV
  have hmk := run_make_rows N (by omega)
  have HMK := Lib.hid (run_make_choices M (by omega))
  have hE := Ext.alloc (Ext.alloc (Ext.refl w) (.cells #[.int .i64 (W : Int), .int .i64 (H : Int)] 92)) (.cells (Array.replicate N (.slice none 0 0)) 126)
  have s1 : (w.alloc (.cells #[.int .i64 (W : Int), .int .i64 (H : Int)] 92)).heap.size = w.heap.size + 1 := by simp
  have p0 := (vrow_alloc w [.int .i64 (W : Int), .int .i64 (H : Int)] 92).alloc (.cells (Array.replicate N (.slice none 0 0)) 126)
  have p1 := vrow_rep (w.alloc (.cells #[.int .i64 (W : Int), .int .i64 (H : Int)] 92)) (.slice none 0 0) N 126
  rw [s1] at p1
  change VRow ((w.alloc (.cells #[.int .i64 (W : Int), .int .i64 (H : Int)] 92)).alloc (.cells (Array.replicate N (.slice none 0 0)) 126)) _ _ _ at p0
  have HP0 := Lib.hid p0
  have HP1 := Lib.hid p1
  have HE := Lib.hid hE
  have s2 : ((w.alloc (.cells #[.int .i64 (W : Int), .int .i64 (H : Int)] 92)).alloc (.cells (Array.replicate N (.slice none 0 0)) 126)).heap.size = w.heap.size + 2 := by simp
  clear p0 p1 hE
  go_enter Try.func65, Try.ntmps65
  go_wp2_with fail
  clear hmk s1
  generalize (w.alloc (.cells #[.int .i64 (W : Int), .int .i64 (H : Int)] 92)).alloc (.cells (Array.replicate N (.slice none 0 0)) 126) = w1 at *
  go_loopw [14] (fun i wr => ∃ (k : Nat) (vs : List Value), i = .int .i64 k ∧ k ≤ N ∧ VRow wr w.heap.size 92 [.int .i64 (W : Int), .int .i64 (H : Int)] ∧ VRow wr (w.heap.size + 1) 126 vs ∧ vs.length = N ∧ TabOk wr ts (w.heap.size + 1) M k wr.heap.size ∧ w.heap.size + 1 < wr.heap.size ∧ Ext w wr) (fun i _ => N - (intOf i).toNat)
  case atStart => exact ⟨0, _, rfl, Nat.zero_le _, HP0.out, HP1.out, by simp, fun a ha => by omega, by omega, HE.out⟩
  case round =>
    obtain ⟨k, vs, rfl, hk, hB, hT, hvs, hTab, hsz, hE⟩ := hrel
    have HB1 := Lib.hid hB
    have HT1 := Lib.hid hT
    have HTab := Lib.hid hTab
    have HE1 := Lib.hid hE
    have HVS := Lib.hid hvs
    clear hB hT hTab hE hvs HP0 HP1 HE s2
    by_cases hlt : k < N
    · have c1 := VRow.cell HB1.out (k := 1) rfl
      have hbl := VRow.lt HB1.out
      have hmk := HMK.out
      have fz := VRow.frozen HT1.out k none
      obtain ⟨u, hu⟩ := getElem?_len (show k < vs.length by rw [HVS.out]; exact hlt)
      have cz := VRow.cell HT1.out hu
      have cz2 := VRow.cell (VRow.alloc (VRow.set HT1.out k (.slice (some ⟨wr.heap.size, 0, none⟩) M M)) (.cells (Array.replicate (M * 3) (.int .i64 0)) 100)) (k := k) (by rw [List.getElem?_set_self (by rw [HVS.out]; exact hlt)])
      clear hu
      have hszs : (wr.setCell ⟨w.heap.size + 1, k, none⟩ (.slice (some ⟨wr.heap.size, 0, none⟩) M M)).heap.size = wr.heap.size := by simp [World.setCell]
      have HSZ := Lib.hid hszs
      clear hszs
      go_wp2_with fail
      clear c1 hmk fz cz
      have hW2R := vrow_rep (wr.setCell ⟨w.heap.size + 1, k, none⟩ (.slice (some ⟨wr.heap.size, 0, none⟩) M M)) (.int .i64 0) (M * 3) 100
      rw [HSZ.out] at hW2R
      have KT := Lib.hid (show VRow ((wr.setCell ⟨w.heap.size + 1, k, none⟩ (.slice (some ⟨wr.heap.size, 0, none⟩) M M)).alloc (.cells (Array.replicate (M * 3) (.int .i64 0)) 100)) _ _ _ from VRow.alloc (VRow.set HT1.out k (.slice (some ⟨wr.heap.size, 0, none⟩) M M)) (.cells (Array.replicate (M * 3) (.int .i64 0)) 100))
      have KB := Lib.hid (show VRow ((wr.setCell ⟨w.heap.size + 1, k, none⟩ (.slice (some ⟨wr.heap.size, 0, none⟩) M M)).alloc (.cells (Array.replicate (M * 3) (.int .i64 0)) 100)) _ _ _ from VRow.alloc (VRow.setOther HB1.out (a := ⟨w.heap.size + 1, k, none⟩) (by show w.heap.size ≠ w.heap.size + 1; omega) (.slice (some ⟨wr.heap.size, 0, none⟩) M M)) (.cells (Array.replicate (M * 3) (.int .i64 0)) 100))
      have KR := Lib.hid (show VRow ((wr.setCell ⟨w.heap.size + 1, k, none⟩ (.slice (some ⟨wr.heap.size, 0, none⟩) M M)).alloc (.cells (Array.replicate (M * 3) (.int .i64 0)) 100)) _ _ _ from hW2R)
      have KE := Lib.hid (show Ext w ((wr.setCell ⟨w.heap.size + 1, k, none⟩ (.slice (some ⟨wr.heap.size, 0, none⟩) M M)).alloc (.cells (Array.replicate (M * 3) (.int .i64 0)) 100)) from Ext.alloc (Below.setCell (p := ⟨w.heap.size + 1, k, none⟩) HE1.out (by show w.heap.size ≤ w.heap.size + 1; omega) (.slice (some ⟨wr.heap.size, 0, none⟩) M M)) (.cells (Array.replicate (M * 3) (.int .i64 0)) 100))
      have KTab := Lib.hid (show TabOk ((wr.setCell ⟨w.heap.size + 1, k, none⟩ (.slice (some ⟨wr.heap.size, 0, none⟩) M M)).alloc (.cells (Array.replicate (M * 3) (.int .i64 0)) 100)) ts (w.heap.size + 1) M k wr.heap.size from fun a ha => by
        obtain ⟨R', h1, h2, h3⟩ := HTab.out a ha
        have ne : ∀ o, (⟨w.heap.size + 1, k, none⟩ : Addr) ≠ ⟨R', o, none⟩ := fun o e => by injection e with e; omega
        have ne2 : (⟨w.heap.size + 1, k, none⟩ : Addr) ≠ ⟨w.heap.size + 1, a, none⟩ := fun e => by injection e with e1 e2; omega
        have hx := Ext.alloc (Ext.refl (wr.setCell ⟨w.heap.size + 1, k, none⟩ (.slice (some ⟨wr.heap.size, 0, none⟩) M M))) (.cells (Array.replicate (M * 3) (.int .i64 0)) 100)
        exact ⟨R', h1, h2, Ext.cell hx ((World.cell?_setCell_other (h := ne2) ..).trans h3.1), fun b hb => ⟨Ext.cell hx ((World.cell?_setCell_other (h := ne _) ..).trans (h3.2 b hb).1), Ext.cell hx ((World.cell?_setCell_other (h := ne _) ..).trans (h3.2 b hb).2.1), Ext.cell hx ((World.cell?_setCell_other (h := ne _) ..).trans (h3.2 b hb).2.2)⟩⟩)
      have KC := Lib.hid (show ((wr.setCell ⟨w.heap.size + 1, k, none⟩ (.slice (some ⟨wr.heap.size, 0, none⟩) M M)).alloc (.cells (Array.replicate (M * 3) (.int .i64 0)) 100)).cell? ⟨w.heap.size + 1, k, none⟩ = some (.slice (some ⟨wr.heap.size, 0, none⟩) M M) from cz2)
      clear hW2R cz2 HT1 HB1 HTab HE1 HSZ
      generalize (wr.setCell ⟨w.heap.size + 1, k, none⟩ (.slice (some ⟨wr.heap.size, 0, none⟩) M M)).alloc (.cells (Array.replicate (M * 3) (.int .i64 0)) 100) = w2 at *
      generalize wr.heap.size = R at *
      go_loopw [29] (fun i w3 => ∃ (j : Nat) (us : List Value), i = .int .i64 j ∧ j ≤ M ∧ VRow w3 R 100 us ∧ RowSt ts k M j us ∧ Below R w2 w3) (fun i _ => M - (intOf i).toNat)
      case atStart => exact ⟨0, _, rfl, Nat.zero_le _, KR.out, ⟨by simp, fun b hb => by omega⟩, Below.refl _ _⟩
      case round =>
        obtain ⟨j, us, rfl, hj, hus, hst, hbel⟩ := hrel
        have HUS := Lib.hid hus
        have HST := Lib.hid hst
        have HBL := Lib.hid hbel
        clear hus hst hbel
        by_cases hjl : j < M
        · skip
          have hkW : k ≤ W := by have := HN.out; omega
          have hjH : j ≤ H := by have := HM.out; omega
          have HIT := Lib.hid (HV.out.ext (Below.trans KE.out (HBL.out.mono (by omega))))
          have HROW := Lib.hid (show RowOk wr ts (w.heap.size + 1) M k R j from rowSt_ok HST.out HUS.out (by rw [Below.cell HBL.out (p := ⟨w.heap.size + 1, k, none⟩) (by show w.heap.size + 1 < R; omega)]; exact KC.out))
          have HTA := Lib.hid (KTab.out.below HBL.out (by omega) (Nat.le_refl _))
          have HET1 := Lib.hid (fun (x : Nat) (_ : 1 ≤ x) (h2 : x < k) => (show Entry wr (.slice (some ⟨w.heap.size + 1, 0, none⟩) N N) x j (bestC ts x j) by obtain ⟨R', _, _, h3⟩ := HTA.out x h2; exact h3.entry (by omega) hjl (Nat.le_refl _)))
          have HET2 := Lib.hid (fun (y : Nat) (_ : 1 ≤ y) (h2 : y < j) => (show Entry wr (.slice (some ⟨w.heap.size + 1, 0, none⟩) N N) k y (bestC ts k y) from HROW.out.entry hlt h2 (by omega)))
          have HCC := Lib.hid HROW.out.1
          have HPUT := Lib.hid (rowSt_put HST.out hjl)
          have HBC := Lib.hid (fun (W5 : World) (h5 : Ext wr W5) => best_c (w.heap.size + 1) 0 N N (.slice a ts.length cap) ts k j W5 (by omega) (by omega) (HIT.out.ext h5) HOK.out (fun x h1 h2 => (HET1.out x h1 h2).ext h5) (fun y h1 h2 => (HET2.out y h1 h2).ext h5))
          clear HIT HROW HTA HET1 HET2
          generalize bestC ts k j = c at *
          go_wp2_with fail
          refine wp_region_stable_last [⟨[], none⟩, ⟨[], none⟩, ⟨[(0, 32), (1, 33)], none⟩, ⟨[(2, 34)], none⟩, ⟨[], none⟩, ⟨[], none⟩, ⟨[], none⟩, ⟨[], none⟩, ⟨[(6, 38), (7, 39)], none⟩, ⟨[], none⟩, ⟨[(5, 37), (8, 40), (9, 41)], none⟩, ⟨[(3, 35), (4, 36)], none⟩] (fun x y => Below x.heap.size x y) (MPat [MP.eq (.slice (some ⟨w.heap.size + 1, 0, none⟩) N N), MP.eq (.int .i64 (k : Int)), MP.eq (.pointer (some ⟨w.heap.size + 1, k, none⟩)), MP.eq (.slice (some ⟨R, 0, none⟩) M M), MP.eq (.int .i64 (j : Int)), MP.eq (.slice (some ⟨w.heap.size + 1, 0, none⟩) N N), MP.eq (.int .i64 (k : Int)), MP.eq (.int .i64 (j : Int)), MP.eq (rectV (k : Int) (j : Int)), MP.eq (.slice a ts.length cap), MP.eq (tripV c), MP.eq (.pointer (some ⟨R, j * 3, none⟩))]) rfl (by kernel_rfl) (fun _ _ _ h k => Ext.trans h k) (fun _ => Below.refl _ _) (fun x => (Below.refl x.heap.size x).drew) (MPat.mono _) (by kernel_rfl) (by kernel_rfl) (by kernel_rfl) ?obs ?rest
          case obs =>
            refine ⟨?_, ?_, ?_, ?_, ?_, ?_, ?_, ?_, ?_, ?_, ?_, ?_, trivial⟩
            · intro ev W5 hf _ _ hst hd
              have e5 : ev (.tmp 5) = .slice (some ⟨w.heap.size + 1, 0, none⟩) N N := hf 5 (by kernel_rfl)
              refine st_value (v := .slice (some ⟨w.heap.size + 1, 0, none⟩) N N) ?_ (Below.refl _ _) ?_
              · simp [execOp, go_sem, e5]
              · exact rfl
            · intro ev W5 hf _ _ hst hd
              have e6 : ev (.tmp 6) = .int .i64 (k : Int) := hf 6 (by kernel_rfl)
              refine st_value (v := .int .i64 (k : Int)) ?_ (Below.refl _ _) ?_
              · simp [execOp, go_sem, e6]
              · exact rfl
            · intro ev W5 hf _ _ hst hd
              obtain ⟨d32, d33, _⟩ := hd
              have e32 : ev (.tmp 32) = .slice (some ⟨w.heap.size + 1, 0, none⟩) N N := d32
              have e33 : ev (.tmp 33) = .int .i64 (k : Int) := d33
              refine st_value (v := .pointer (some ⟨w.heap.size + 1, k, none⟩)) ?_ (Below.refl _ _) ?_
              · simp [execOp, go_sem, e32, e33, hlt]
              · exact rfl
            · intro ev W5 hf _ _ hst hd
              obtain ⟨d34, _⟩ := hd
              have e34 : ev (.tmp 34) = .pointer (some ⟨w.heap.size + 1, k, none⟩) := d34
              have q0 := Ext.cell hst HCC.out
              refine st_value (v := .slice (some ⟨R, 0, none⟩) M M) ?_ (Below.refl _ _) ?_
              · simp [execOp, go_sem, e34, q0]
              · exact rfl
            · intro ev W5 hf _ _ hst hd
              have e7 : ev (.tmp 7) = .int .i64 (j : Int) := hf 7 (by kernel_rfl)
              refine st_value (v := .int .i64 (j : Int)) ?_ (Below.refl _ _) ?_
              · simp [execOp, go_sem, e7]
              · exact rfl
            · intro ev W5 hf _ _ hst hd
              have e5 : ev (.tmp 5) = .slice (some ⟨w.heap.size + 1, 0, none⟩) N N := hf 5 (by kernel_rfl)
              refine st_value (v := .slice (some ⟨w.heap.size + 1, 0, none⟩) N N) ?_ (Below.refl _ _) ?_
              · simp [execOp, go_sem, e5]
              · exact rfl
            · intro ev W5 hf _ _ hst hd
              have e6 : ev (.tmp 6) = .int .i64 (k : Int) := hf 6 (by kernel_rfl)
              refine st_value (v := .int .i64 (k : Int)) ?_ (Below.refl _ _) ?_
              · simp [execOp, go_sem, e6]
              · exact rfl
            · intro ev W5 hf _ _ hst hd
              have e7 : ev (.tmp 7) = .int .i64 (j : Int) := hf 7 (by kernel_rfl)
              refine st_value (v := .int .i64 (j : Int)) ?_ (Below.refl _ _) ?_
              · simp [execOp, go_sem, e7]
              · exact rfl
            · intro ev W5 hf _ _ hst hd
              obtain ⟨d38, d39, _⟩ := hd
              have e38 : ev (.tmp 38) = .int .i64 (k : Int) := d38
              have e39 : ev (.tmp 39) = .int .i64 (j : Int) := d39
              refine st_value (v := rectV (k : Int) (j : Int)) ?_ (Below.refl _ _) ?_
              · simp [execOp, go_sem, e38, e39, rectV]
              · exact rfl
            · intro ev W5 hf _ _ hst hd
              have e1 : ev (.tmp 1) = .slice a ts.length cap := hf 1 (by kernel_rfl)
              refine st_value (v := .slice a ts.length cap) ?_ (Below.refl _ _) ?_
              · simp [execOp, go_sem, e1]
              · exact rfl
            · intro ev W5 hf _ hfn hst hd
              obtain ⟨d37, d40, d41, _⟩ := hd
              have e37 : ev (.tmp 37) = .slice (some ⟨w.heap.size + 1, 0, none⟩) N N := d37
              have e40 : ev (.tmp 40) = rectV (k : Int) (j : Int) := d40
              have e41 : ev (.tmp 41) = .slice a ts.length cap := d41
              refine st_call (f := 98) (args := #[.slice (some ⟨w.heap.size + 1, 0, none⟩) N N, rectV (k : Int) (j : Int), .slice a ts.length cap]) (by simp [execOp, go_sem, hfn, e37, e40, e41]) (HBC.out W5 hst) (fun _ _ => rfl)
            · intro ev W5 hf _ _ hst hd
              obtain ⟨d35, d36, _⟩ := hd
              have e35 : ev (.tmp 35) = .slice (some ⟨R, 0, none⟩) M M := d35
              have e36 : ev (.tmp 36) = .int .i64 (j : Int) := d36
              refine st_value (v := .pointer (some ⟨R, j * 3, none⟩)) ?_ (Below.refl _ _) ?_
              · simp [execOp, go_sem, e35, e36, hjl]
              · exact rfl
          case rest =>
            intro vs w5 hl hst hg
            have hx0 : ∀ u, vs[0]? = some u → u = .slice (some ⟨w.heap.size + 1, 0, none⟩) N N := fun u hu => hg 0 u hu
            have hx1 : ∀ u, vs[1]? = some u → u = .int .i64 (k : Int) := fun u hu => hg 1 u hu
            have hx2 : ∀ u, vs[2]? = some u → u = .pointer (some ⟨w.heap.size + 1, k, none⟩) := fun u hu => hg 2 u hu
            have hx3 : ∀ u, vs[3]? = some u → u = .slice (some ⟨R, 0, none⟩) M M := fun u hu => hg 3 u hu
            have hx4 : ∀ u, vs[4]? = some u → u = .int .i64 (j : Int) := fun u hu => hg 4 u hu
            have hx5 : ∀ u, vs[5]? = some u → u = .slice (some ⟨w.heap.size + 1, 0, none⟩) N N := fun u hu => hg 5 u hu
            have hx6 : ∀ u, vs[6]? = some u → u = .int .i64 (k : Int) := fun u hu => hg 6 u hu
            have hx7 : ∀ u, vs[7]? = some u → u = .int .i64 (j : Int) := fun u hu => hg 7 u hu
            have hx8 : ∀ u, vs[8]? = some u → u = rectV (k : Int) (j : Int) := fun u hu => hg 8 u hu
            have hx9 : ∀ u, vs[9]? = some u → u = .slice a ts.length cap := fun u hu => hg 9 u hu
            have hx10 : ∀ u, vs[10]? = some u → u = tripV c := fun u hu => hg 10 u hu
            have hx11 : ∀ u, vs[11]? = some u → u = .pointer (some ⟨R, j * 3, none⟩) := fun u hu => hg 11 u hu
            have HE3 := Lib.hid hst
            clear hg hst
            obtain ⟨x0, vs0, rfl, hl0⟩ := len_succ hl
            obtain ⟨x1, vs1, rfl, hl1⟩ := len_succ hl0
            obtain ⟨x2, vs2, rfl, hl2⟩ := len_succ hl1
            obtain ⟨x3, vs3, rfl, hl3⟩ := len_succ hl2
            obtain ⟨x4, vs4, rfl, hl4⟩ := len_succ hl3
            obtain ⟨x5, vs5, rfl, hl5⟩ := len_succ hl4
            obtain ⟨x6, vs6, rfl, hl6⟩ := len_succ hl5
            obtain ⟨x7, vs7, rfl, hl7⟩ := len_succ hl6
            obtain ⟨x8, vs8, rfl, hl8⟩ := len_succ hl7
            obtain ⟨x9, vs9, rfl, hl9⟩ := len_succ hl8
            obtain ⟨x10, vs10, rfl, hl10⟩ := len_succ hl9
            obtain ⟨x11, vs11, rfl, hl11⟩ := len_succ hl10
            have hnil : vs11 = [] := List.length_eq_zero_iff.1 hl11
            subst hnil
            obtain rfl : x0 = .slice (some ⟨w.heap.size + 1, 0, none⟩) N N := hx0 _ rfl
            obtain rfl : x1 = .int .i64 (k : Int) := hx1 _ rfl
            obtain rfl : x2 = .pointer (some ⟨w.heap.size + 1, k, none⟩) := hx2 _ rfl
            obtain rfl : x3 = .slice (some ⟨R, 0, none⟩) M M := hx3 _ rfl
            obtain rfl : x4 = .int .i64 (j : Int) := hx4 _ rfl
            obtain rfl : x5 = .slice (some ⟨w.heap.size + 1, 0, none⟩) N N := hx5 _ rfl
            obtain rfl : x6 = .int .i64 (k : Int) := hx6 _ rfl
            obtain rfl : x7 = .int .i64 (j : Int) := hx7 _ rfl
            obtain rfl : x8 = rectV (k : Int) (j : Int) := hx8 _ rfl
            obtain rfl : x9 = .slice a ts.length cap := hx9 _ rfl
            obtain rfl : x10 = tripV c := hx10 _ rfl
            obtain rfl : x11 = .pointer (some ⟨R, j * 3, none⟩) := hx11 _ rfl
            clear hx0 hx1 hx2 hx3 hx4 hx5 hx6 hx7 hx8 hx9 hx10 hx11
            simp only [putAll, Act.put, List.dropLast, List.setIfInBounds_toArray, List.set_cons_zero, List.set_cons_succ]
            have hU := VRow.ext HUS.out HE3.out
            have hul : us.length = M * 3 := HST.out.1
            obtain ⟨u0, hu0⟩ := getElem?_len (show j * 3 < us.length by omega)
            obtain ⟨u1, hu1⟩ := getElem?_len (show j * 3 + 1 < us.length by omega)
            obtain ⟨u2, hu2⟩ := getElem?_len (show j * 3 + 2 < us.length by omega)
            have m0 := VRow.cell hU hu0
            have m1 := VRow.cell hU hu1
            have m2 := VRow.cell hU hu2
            have f0 := VRow.frozen hU (j * 3) none
            have f1 := VRow.frozen hU (j * 3 + 1) none
            have f2 := VRow.frozen hU (j * 3 + 2) none
            have HU := Lib.hid hU
            clear hu0 hu1 hu2 hU hul
            unfold tripV
            go_wp2_with fail
            have hRl := VRow.lt HUS.out
            refine ⟨⟨j + 1, _, by simp, by omega, VRow.set (VRow.set (VRow.set HU.out (j * 3) (.int .i64 c.1)) (j * 3 + 1) (.int .i64 c.2.1)) (j * 3 + 2) (.int .i64 c.2.2), HPUT.out, below3_put (Below.lastly HBL.out HE3.out (by omega)) (Nat.le_refl _) _ _ _⟩, by simp [intOf]; omega⟩
        · obtain rfl : M = j := by omega
          go_wp2_with fail
          have hx : RowOk wr ts (w.heap.size + 1) M k R M := rowSt_ok HST.out HUS.out (by rw [Below.cell HBL.out (p := ⟨w.heap.size + 1, k, none⟩) (by show w.heap.size + 1 < R; omega)]; exact KC.out)
          have hRl := VRow.lt HUS.out
          have hw2 := HBL.out.size
          refine ⟨⟨k + 1, _, by simp, by omega, VRow.below KB.out HBL.out (by omega), VRow.below KT.out HBL.out (by omega), by rw [List.length_set]; exact HVS.out, fun a ha => ?_, by omega, Below.trans KE.out (HBL.out.mono (by omega))⟩, by simp [intOf]; omega⟩
          by_cases e : a = k
          · subst e; exact ⟨R, by omega, hRl, hx⟩
          · obtain ⟨R', h1, h2, h3⟩ := KTab.out a (by omega)
            exact ⟨R', h1, by omega, h3.below HBL.out (by omega) h2⟩
    · obtain rfl : k = N := by omega
      go_wp2_with fail
      go_ret
      refine ⟨w.heap.size + 1, rfl, fun a b ha hb => ?_, HE1.out⟩
      obtain ⟨R, h1, h2, h3⟩ := HTab.out a (by have := HN.out; omega)
      exact h3.entry (by have := HN.out; omega) (by have := HM.out; omega) (Nat.le_refl _)
end Go.Proofs.Ytnpebfchojalcaa

