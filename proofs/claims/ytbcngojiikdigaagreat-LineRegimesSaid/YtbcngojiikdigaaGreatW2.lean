import Derived.Test.YtbcngojiikdigaaGreatW1
namespace Go.Proofs.YtbcngojiikdigaaGreat
set_option maxRecDepth 100000
open Go.RowKit Go.Shelf
theorem info107 : (Tryz.prog.info? 107).map (fun i => (i.zero, i.size, i.bytes)) = some (some (.slice none 0 0), 1, 24) := by kernel_rfl
theorem info104 : (Tryz.prog.info? 104).map (fun i => (i.zero, i.size, i.bytes)) = some (some (Value.bool false), 1, 1) := by kernel_rfl
theorem wrun_make_mat (n : Nat) (hn : n ≤ 1000) (w : World) :
    (Instr.makeSlice 102 (.int .i64 (n : Int)) (.int .i64 (n : Int))).run Tryz.prog w = .ok (.slice (some ⟨w.heap.size, 0, none⟩) n n) (w.alloc (.cells (Array.replicate n (.slice none 0 0)) 107)) := by
  obtain ⟨i, hi, hz, hs, hb⟩ := info_parts info107
  have hr := run_make (P := Tryz.prog) w 102 107 i (.slice none 0 0) Tryz.underlying102 hi hz .i64 .i64 n n (by omega) (Int.le_refl _) (by rw [hb]; omega) (by omega)
  simp only [Int.toNat_natCast, hs] at hr
  have e : (Value.slice none 0 0).cells = #[Value.slice none 0 0] := rfl
  rw [e, made_one, Nat.mul_one] at hr
  exact hr
theorem wrun_make_row (n : Nat) (hn : n ≤ 1000) (w : World) :
    (Instr.makeSlice 107 (.int .i64 (n : Int)) (.int .i64 (n : Int))).run Tryz.prog w = .ok (.slice (some ⟨w.heap.size, 0, none⟩) n n) (w.alloc (.cells (Array.replicate n (Value.bool false)) 104)) := by
  obtain ⟨i, hi, hz, hs, hb⟩ := info_parts info104
  have hr := run_make (P := Tryz.prog) w 107 104 i (Value.bool false) Tryz.underlying107 hi hz .i64 .i64 n n (by omega) (Int.le_refl _) (by rw [hb]; omega) (by omega)
  simp only [Int.toNat_natCast, hs] at hr
  have e : (Value.bool false).cells = #[Value.bool false] := rfl
  rw [e, made_one, Nat.mul_one] at hr
  exact hr
/-- the first j numbers of a row in the making -/
def WRowTo (x : Nat → E) (n j : Nat) (vs : List Value) : Prop := vs.length = n ∧ ∀ b, b < j → vs[b]? = some (bv (x b))
theorem wrowTo_put {x : Nat → E} {n j : Nat} {vs : List Value} (h : WRowTo x n j vs) (hj : j < n) : WRowTo x n (j + 1) (vs.set j (bv (x j))) := by
  obtain ⟨h1, h2⟩ := h
  refine ⟨by simp [h1], fun b hb => ?_⟩
  by_cases e : b = j
  · subst e; rw [List.getElem?_set_self (by omega)]
  · rw [List.getElem?_set_ne (by omega)]; exact h2 b (by omega)
/-- a row of numbers in a block of its own -/
def WERow (w : World) (R t n : Nat) (x : Nat → E) : Prop := ∃ vs, VRow w R t vs ∧ WRowTo x n n vs
theorem WERow.vec {w : World} {R t n : Nat} {x : Nat → E} (h : WERow w R t n x) (hn : n ≤ 9223372036854775807) : WVecAt w (.slice (some ⟨R, 0, none⟩) n n) n x := by
  obtain ⟨vs, h1, h2, h3⟩ := h
  exact ⟨R, 0, n, rfl, Nat.le_refl _, hn, fun i hi => by rw [Nat.zero_add]; exact VRow.cell h1 (h3 i hi)⟩
theorem WERow.below {w w' : World} {R t n B : Nat} {x : Nat → E} (h : WERow w R t n x) (he : Below B w w') (hR : R < B) : WERow w' R t n x := by
  obtain ⟨vs, h1, h2⟩ := h
  exact ⟨vs, VRow.below h1 he hR, h2⟩
theorem WERow.lt {w : World} {R t n : Nat} {x : Nat → E} (h : WERow w R t n x) : R < w.heap.size := by
  obtain ⟨vs, h1, _⟩ := h
  exact VRow.lt h1
/-- the first k rows, each in a block of its own behind C -/
def WRowsTo (w : World) (C t n k : Nat) (M : MF) : Prop := ∀ i, i < k → ∃ R, C < R ∧ w.cell? ⟨C, i, none⟩ = some (.slice (some ⟨R, 0, none⟩) n n) ∧ WERow w R t n (M i)
theorem WRowsTo.below {w w' : World} {C t n k B : Nat} {M : MF} (h : WRowsTo w C t n k M) (he : Below B w w') (hC : C < B) (hR : w.heap.size ≤ B) : WRowsTo w' C t n k M := fun i hi => by
  obtain ⟨R, h1, h2, h3⟩ := h i hi
  exact ⟨R, h1, by rw [Below.cell he (p := ⟨C, i, none⟩) hC]; exact h2, h3.below he (by have := h3.lt; omega)⟩
/-- a matrix in memory of its own, behind a bound: t its entries' type, tr its rows' -/
def WNewMat (base : Nat) (w : World) (v : Value) (t tr n : Nat) (M : MF) : Prop :=
  ∃ C vs, base ≤ C ∧ v = .slice (some ⟨C, 0, none⟩) n n ∧ VRow w C tr vs ∧ vs.length = n ∧ WRowsTo w C t n n M
theorem WNewMat.mat {base : Nat} {w : World} {v : Value} {t tr n : Nat} {M : MF} (h : WNewMat base w v t tr n M) (hn : n ≤ 9223372036854775807) : WMatAt w v n M := by
  obtain ⟨C, vs, h1, h2, h3, h4, h5⟩ := h
  refine ⟨C, 0, n, h2, Nat.le_refl _, hn, fun i hi => ?_⟩
  obtain ⟨R, h6, h7, h8⟩ := h5 i hi
  exact ⟨_, by rw [Nat.zero_add]; exact h7, h8.vec hn⟩
theorem WNewMat.congr {base : Nat} {w : World} {v : Value} {t tr n : Nat} {A B : MF} (h : WNewMat base w v t tr n A) (e : eqF n A B) : WNewMat base w v t tr n B := by
  obtain ⟨C, vs, h1, h2, h3, h4, h5⟩ := h
  refine ⟨C, vs, h1, h2, h3, h4, fun i hi => ?_⟩
  obtain ⟨R, h6, h7, us, h8, h9, h10⟩ := h5 i hi
  exact ⟨R, h6, h7, us, h8, h9, fun b hb => by rw [h10 b hb, e i hi b hb]⟩
theorem WNewMat.mono {base c : Nat} {w : World} {v : Value} {t tr n : Nat} {M : MF} (h : WNewMat base w v t tr n M) (hc : c ≤ base) : WNewMat c w v t tr n M := by
  obtain ⟨C, vs, h1, h2⟩ := h
  exact ⟨C, vs, by omega, h2⟩
theorem WNewMat.ext {base : Nat} {w w' : World} {v : Value} {t tr n : Nat} {M : MF} (h : WNewMat base w v t tr n M) (he : Ext w w') : WNewMat base w' v t tr n M := by
  obtain ⟨C, vs, h1, h2, h3, h4, h5⟩ := h
  exact ⟨C, vs, h1, h2, VRow.ext h3 he, h4, h5.below he (VRow.lt h3) (Nat.le_refl _)⟩
set_option maxHeartbeats 8000000 in
theorem wmtimes_c (u v : Value) (n : Nat) (A B : MF) (w : World) (hn1 : 1 ≤ n) (hn : n ≤ 6) (hA : WMatAt w u n A) (hB : WMatAt w v n B) (bA : bdF KB n A) (bB : bdF KB n B) (bM : ∀ i, i < n → ∀ j, j < n → ∀ k, k < n → bdE KB (ep (A i k) (B k j))) :
    Calls Tryz.prog 135 #[u, v] w fun e w' => ∃ r, e = .returned r ∧ WNewMat w.heap.size w' r 104 107 n (mulF n A B) ∧ Ext w w' := by
  have HB := Lib.hid hB
  have HBA := Lib.hid bA
  have HBB := Lib.hid bB
  have HBM := Lib.hid bM
  obtain ⟨ub, uo, uc, rfl, hu1, hu2, hu3⟩ := hA
  have HA := Lib.hid hu3
  obtain ⟨vb, vo, vc, rfl, hv1, hv2, _⟩ := hB
  clear bA bB bM hu3
  have hmk := wrun_make_mat n (by omega)
  have HMK := Lib.hid (wrun_make_row n (by omega))
  have s1 : (w.alloc (.cells #[.slice (some ⟨vb, vo, none⟩) n vc] 102)).heap.size = w.heap.size + 1 := by simp
  have p0 := (vrow_alloc w [.slice (some ⟨vb, vo, none⟩) n vc] 102).alloc (.cells (Array.replicate n (.slice none 0 0)) 107)
  have p1 := vrow_rep (w.alloc (.cells #[.slice (some ⟨vb, vo, none⟩) n vc] 102)) (.slice none 0 0) n 107
  rw [s1] at p1
  have HP0 := Lib.hid (show VRow ((w.alloc (.cells #[.slice (some ⟨vb, vo, none⟩) n vc] 102)).alloc (.cells (Array.replicate n (.slice none 0 0)) 107)) _ _ _ from p0)
  have HP1 := Lib.hid (show VRow ((w.alloc (.cells #[.slice (some ⟨vb, vo, none⟩) n vc] 102)).alloc (.cells (Array.replicate n (.slice none 0 0)) 107)) _ _ _ from p1)
  have HE := Lib.hid (Ext.alloc (Ext.alloc (Ext.refl w) (.cells #[.slice (some ⟨vb, vo, none⟩) n vc] 102)) (.cells (Array.replicate n (.slice none 0 0)) 107))
  have s2 : ((w.alloc (.cells #[.slice (some ⟨vb, vo, none⟩) n vc] 102)).alloc (.cells (Array.replicate n (.slice none 0 0)) 107)).heap.size = w.heap.size + 2 := by simp
  clear p0 p1
  go_enter Tryz.func135, Tryz.ntmps135
  go_wp2_with fail
  clear hmk s1
  generalize (w.alloc (.cells #[.slice (some ⟨vb, vo, none⟩) n vc] 102)).alloc (.cells (Array.replicate n (.slice none 0 0)) 107) = w1 at *
  obtain ⟨C, hCC⟩ : ∃ C, C = w.heap.size + 1 := ⟨_, rfl⟩
  obtain ⟨Pb, hPb⟩ : ∃ P, P = w.heap.size := ⟨_, rfl⟩
  rw [← hCC, ← hPb]
  rw [← hPb] at HP0
  rw [← hCC] at HP1
  have hCP : Pb < C := by omega
  have hwP : w.heap.size ≤ Pb := by omega
  clear hCC hPb s2
  go_loopw [14] (fun i wr => ∃ (k : Nat) (vs : List Value), i = .int .i64 k ∧ k ≤ n ∧ VRow wr Pb 102 [.slice (some ⟨vb, vo, none⟩) n vc] ∧ VRow wr C 107 vs ∧ vs.length = n ∧ WRowsTo wr C 104 n k (mulF n A B) ∧ Ext w wr) (fun i _ => n - (intOf i).toNat)
  case atStart => exact ⟨0, _, rfl, Nat.zero_le _, HP0.out, HP1.out, by simp, fun i h => by omega, HE.out⟩
  case round =>
    rename World => wr
    obtain ⟨k, vs, rfl, hk, hP0, hC, hvs, hrows, hE⟩ := hrel
    have HP0 := Lib.hid hP0
    have HC := Lib.hid hC
    have HRO := Lib.hid hrows
    have HE := Lib.hid hE
    have HVS := Lib.hid hvs
    clear hP0 hC hrows hE hvs
    by_cases hlt : k < n
    · obtain ⟨u, c1, ⟨rb, ro, rc, rfl, hr1, hr2, hr3⟩⟩ := HA.out k hlt
      have HR3 := Lib.hid hr3
      replace c1 := Ext.cell HE.out c1
      have hcb := cell_lt c1
      clear hr3
      have hmk := HMK.out
      have hx := Ext.alloc (Ext.alloc (Ext.refl wr) (.cells #[.slice (some ⟨rb, ro, none⟩) n rc] 107)) (.cells (Array.replicate n (Value.bool false)) 104)
      have HX := Lib.hid hx
      have hCx := VRow.ext HC.out hx
      have fz := VRow.frozen hCx k none
      obtain ⟨uz, huz⟩ := getElem?_len (show k < vs.length by rw [HVS.out]; exact hlt)
      have cz := VRow.cell hCx huz
      have hCl := VRow.lt HC.out
      have hs3 : (wr.alloc (.cells #[.slice (some ⟨rb, ro, none⟩) n rc] 107)).heap.size = wr.heap.size + 1 := by simp
      clear huz hx hCx
      go_wp2_with fail
      clear hmk fz cz hs3 c1
      obtain ⟨ws, hws⟩ : ∃ x, x = wr.setCell ⟨C, k, none⟩ (.slice (some ⟨wr.heap.size + 1, 0, none⟩) n n) := ⟨_, rfl⟩
      have hs4 : ws.heap.size = wr.heap.size := by rw [hws]; simp [World.setCell]
      have hCs : VRow ws C 107 (vs.set k (.slice (some ⟨wr.heap.size + 1, 0, none⟩) n n)) := by rw [hws]; exact VRow.set HC.out k _
      have hPs : VRow ws Pb 102 [.slice (some ⟨vb, vo, none⟩) n vc] := by rw [hws]; exact VRow.setOther HP0.out (a := ⟨C, k, none⟩) (by show Pb ≠ C; omega) _
      have hEs : Ext w ws := by rw [hws]; exact Below.setCell (p := ⟨C, k, none⟩) HE.out (by show w.heap.size ≤ C; omega) _
      have hRs : ∀ i, i < k → ∃ R', C < R' ∧ R' < wr.heap.size ∧ ws.cell? ⟨C, i, none⟩ = some (.slice (some ⟨R', 0, none⟩) n n) ∧ WERow ws R' 104 n (mulF n A B i) := fun i hi => by
        obtain ⟨R', h1, h2, h3⟩ := HRO.out i hi
        have ne2 : (⟨C, k, none⟩ : Addr) ≠ ⟨C, i, none⟩ := fun e => by injection e with e1 e2; omega
        have hl3 := h3.lt
        obtain ⟨us, h4, h5⟩ := h3
        rw [hws]
        exact ⟨R', h1, hl3, (World.cell?_setCell_other (h := ne2) ..).trans h2, us, VRow.setOther h4 (by show R' ≠ C; omega) _, h5⟩
      rw [← hws]
      clear hws HX
      obtain ⟨w2, hw2⟩ : ∃ x, x = (ws.alloc (.cells #[.slice (some ⟨rb, ro, none⟩) n rc] 107)).alloc (.cells (Array.replicate n (Value.bool false)) 104) := ⟨_, rfl⟩
      have hs5 : (ws.alloc (.cells #[.slice (some ⟨rb, ro, none⟩) n rc] 107)).heap.size = wr.heap.size + 1 := by simp [hs4]
      have hs6 : w2.heap.size = wr.heap.size + 2 := by rw [hw2]; simp [hs4]
      have hx2 : Ext ws w2 := by rw [hw2]; exact Ext.alloc (Ext.alloc (Ext.refl ws) _) _
      have hk1 : VRow w2 wr.heap.size 107 [.slice (some ⟨rb, ro, none⟩) n rc] := by
        have h := (vrow_alloc ws [.slice (some ⟨rb, ro, none⟩) n rc] 107).alloc (.cells (Array.replicate n (Value.bool false)) 104)
        rw [hs4] at h
        rw [hw2]; exact h
      have hk2 : VRow w2 (wr.heap.size + 1) 104 (List.replicate n (Value.bool false)) := by
        have h := vrow_rep (ws.alloc (.cells #[.slice (some ⟨rb, ro, none⟩) n rc] 107)) (Value.bool false) n 104
        rw [hs5] at h
        rw [hw2]; exact h
      rw [← hw2]
      clear hw2 hs5
      obtain ⟨R, hR⟩ : ∃ R, R = wr.heap.size + 1 := ⟨_, rfl⟩
      obtain ⟨P1, hP1⟩ : ∃ P, P = wr.heap.size := ⟨_, rfl⟩
      rw [← hR, ← hP1]
      rw [← hP1] at hk1 hRs hCl
      rw [← hR] at hk2 hCs
      have KB1 := Lib.hid hk1
      have KR := Lib.hid hk2
      have KP := Lib.hid (VRow.ext hPs hx2)
      have KC := Lib.hid (VRow.ext hCs hx2)
      have KE := Lib.hid (Ext.trans hEs hx2)
      have KRO := Lib.hid (show ∀ i, i < k → ∃ R', C < R' ∧ R' < P1 ∧ w2.cell? ⟨C, i, none⟩ = some (.slice (some ⟨R', 0, none⟩) n n) ∧ WERow w2 R' 104 n (mulF n A B i) from fun i hi => by
        obtain ⟨R', h1, h2, h3, h4⟩ := hRs i hi
        exact ⟨R', h1, h2, Ext.cell hx2 h3, h4.below hx2 (by omega)⟩)
      have KS := Lib.hid (show w2.heap.size = R + 1 by omega)
      have hPR : P1 < R := by omega
      have hCP1 : C < P1 := by omega
      have hvs2 := HVS.out
      have HVS2 := Lib.hid (show (vs.set k (Value.slice (some ⟨R, 0, none⟩) n n)).length = n by rw [List.length_set]; exact hvs2)
      have HKC := Lib.hid (show w2.cell? ⟨C, k, none⟩ = some (.slice (some ⟨R, 0, none⟩) n n) from VRow.cell KC.out (by rw [List.getElem?_set_self (by omega)]))
      clear hk1 hk2 hx2 hCs hPs hEs hRs HC HP0 HRO HE hR hP1 hCl hs4 hs6
      clear hvs2
      go_loopw [27] (fun i w3 => ∃ (j : Nat) (us : List Value), i = .int .i64 j ∧ j ≤ n ∧ VRow w3 R 104 us ∧ WRowTo (mulF n A B k) n j us ∧ Below R w2 w3) (fun i _ => n - (intOf i).toNat)
      case atStart => exact ⟨0, _, rfl, Nat.zero_le _, KR.out, ⟨by simp, fun b h => by omega⟩, Below.refl _ _⟩
      case round =>
        rename World => w3
        obtain ⟨j, us, rfl, hj, hus, hst, hbel⟩ := hrel
        have HUS := Lib.hid hus
        have HST := Lib.hid hst
        have HBL := Lib.hid hbel
        clear hus hst hbel
        by_cases hjl : j < n
        · obtain ⟨wq, hwq⟩ : ∃ x, x = w3.alloc (.cells #[.int .i64 (j : Int)] 3) := ⟨_, rfl⟩
          have hq1 : VRow wq w3.heap.size 3 [.int .i64 (j : Int)] := by rw [hwq]; exact vrow_alloc w3 [.int .i64 (j : Int)] 3
          have hqe : Ext w3 wq := by rw [hwq]; exact Ext.alloc (Ext.refl w3) _
          have hRl := VRow.lt HUS.out
          have hw2s := HBL.out.size
          have HQ1 := Lib.hid hq1
          have HQE := Lib.hid hqe
          have HB2 := Lib.hid (Below.lastly HBL.out hqe (by omega))
          have HQC := Lib.hid (show wq.cell? ⟨C, k, none⟩ = some (.slice (some ⟨R, 0, none⟩) n n) from by rw [Below.cell HB2.out (p := ⟨C, k, none⟩) (by show C < R; omega)]; exact HKC.out)
          have HQB := Lib.hid (show VRow wq P1 107 [.slice (some ⟨rb, ro, none⟩) n rc] from VRow.below KB1.out HB2.out (by omega))
          have HQP := Lib.hid (show VRow wq Pb 102 [.slice (some ⟨vb, vo, none⟩) n vc] from VRow.below KP.out HB2.out (by omega))
          have HQW := Lib.hid (show Ext w wq from Below.trans KE.out (HB2.out.mono (by omega)))
          have HQU := Lib.hid (VRow.ext HUS.out hqe)
          obtain ⟨z, hz⟩ : ∃ z, z = mulF n A B k j := ⟨_, rfl⟩
          have HPUT := Lib.hid (show WRowTo (mulF n A B k) n (j + 1) (us.set j (bv z)) from by rw [hz]; exact wrowTo_put HST.out hjl)
          obtain ⟨P3, hP3⟩ : ∃ P, P = w3.heap.size := ⟨_, rfl⟩
          rw [← hP3] at HQ1
          have HSU := Lib.hid (fun (W5 : World) (h5 : Ext wq W5) => (show Calls Tryz.prog 138 #[.int .i64 (n : Int), .func (.func 139) #[] #[.pointer (some ⟨P1, 0, none⟩), .pointer (some ⟨Pb, 0, none⟩), .pointer (some ⟨P3, 0, none⟩)]] W5 fun e w' => e = .returned (bv z) ∧ Ext W5 w' from by
            rw [hz]
            refine wsumT_c _ _ _ n (fun q => ep (A k q) (B q j)) W5 hn (fun q hq => HBM.out k hlt j hjl q hq) fun q hq W hW => ?_
            have hx := Ext.trans h5 hW
            have hx2 := Ext.trans HQW.out hx
            exact wtimes1_c P1 Pb P3 n q j _ _ (A k) B W hq hjl (⟨rb, ro, rc, rfl, hr1, hr2, fun i hi => Ext.cell hx2 (HR3.out i hi)⟩) (HB.out.ext hx2) (VRow.cell (VRow.ext HQB.out hx) (k := 0) rfl) (VRow.cell (VRow.ext HQP.out hx) (k := 0) rfl) (VRow.cell (VRow.ext HQ1.out hx) (k := 0) rfl) (HBA.out k hlt q hq) (HBB.out q hq j hjl)))
          clear hq1 hqe hz
          have hgo := hwq
          clear hwq
          go_wp2_with fail
          rw [← hgo, ← hP3]
          clear hgo hP3
          refine wp_region_stable_last [⟨[], none⟩, ⟨[], none⟩, ⟨[(0, 30), (1, 31)], none⟩, ⟨[(2, 32)], none⟩, ⟨[], none⟩, ⟨[], none⟩, ⟨[(5, 35)], none⟩, ⟨[], none⟩, ⟨[(6, 36), (7, 37)], none⟩, ⟨[(3, 33), (4, 34)], none⟩] (fun x y => Below x.heap.size x y) (MPat [MP.eq (.slice (some ⟨C, 0, none⟩) n n), MP.eq (.int .i64 (k : Int)), MP.eq (.pointer (some ⟨C, k, none⟩)), MP.eq (.slice (some ⟨R, 0, none⟩) n n), MP.eq (.int .i64 (j : Int)), MP.eq (.slice (some ⟨rb, ro, none⟩) n rc), MP.eq (.int .i64 (n : Int)), MP.eq (.func (.func 139) #[] #[.pointer (some ⟨P1, 0, none⟩), .pointer (some ⟨Pb, 0, none⟩), .pointer (some ⟨P3, 0, none⟩)]), MP.eq (bv z), MP.eq (.pointer (some ⟨R, j, none⟩))]) rfl (by kernel_rfl) (fun _ _ _ h k => Ext.trans h k) (fun _ => Below.refl _ _) (fun x => (Below.refl x.heap.size x).drew) (MPat.mono _) (by kernel_rfl) (by kernel_rfl) (by kernel_rfl) ?obs ?rest
          case obs =>
            refine ⟨?_, ?_, ?_, ?_, ?_, ?_, ?_, ?_, ?_, ?_, trivial⟩
            · intro ev W hf _ _ hst hd
              have e5 : ev (.tmp 5) = .slice (some ⟨C, 0, none⟩) n n := hf 5 (by kernel_rfl)
              refine st_value (v := .slice (some ⟨C, 0, none⟩) n n) ?_ (Below.refl _ _) ?_
              · simp [execOp, go_sem, e5]
              · exact rfl
            · intro ev W hf _ _ hst hd
              have e6 : ev (.tmp 6) = .int .i64 (k : Int) := hf 6 (by kernel_rfl)
              refine st_value (v := .int .i64 (k : Int)) ?_ (Below.refl _ _) ?_
              · simp [execOp, go_sem, e6]
              · exact rfl
            · intro ev W hf _ _ hst hd
              obtain ⟨d30, d31, _⟩ := hd
              have e30 : ev (.tmp 30) = .slice (some ⟨C, 0, none⟩) n n := d30
              have e31 : ev (.tmp 31) = .int .i64 (k : Int) := d31
              refine st_value (v := .pointer (some ⟨C, k, none⟩)) ?_ (Below.refl _ _) ?_
              · simp [execOp, go_sem, e30, e31, hlt]
              · exact rfl
            · intro ev W hf _ _ hst hd
              obtain ⟨d32, _⟩ := hd
              have e32 : ev (.tmp 32) = .pointer (some ⟨C, k, none⟩) := d32
              have q0 := Ext.cell hst HQC.out
              refine st_value (v := .slice (some ⟨R, 0, none⟩) n n) ?_ (Below.refl _ _) ?_
              · simp [execOp, go_sem, e32, q0]
              · exact rfl
            · intro ev W hf _ _ hst hd
              have e8 : ev (.tmp 8) = .pointer (some ⟨P3, 0, none⟩) := hf 8 (by kernel_rfl)
              have q0 := Ext.cell hst (VRow.cell HQ1.out (k := 0) rfl)
              refine st_value (v := .int .i64 (j : Int)) ?_ (Below.refl _ _) ?_
              · simp [execOp, go_sem, e8, q0]
              · exact rfl
            · intro ev W hf _ _ hst hd
              have e7 : ev (.tmp 7) = .pointer (some ⟨P1, 0, none⟩) := hf 7 (by kernel_rfl)
              have q0 := Ext.cell hst (VRow.cell HQB.out (k := 0) rfl)
              refine st_value (v := .slice (some ⟨rb, ro, none⟩) n rc) ?_ (Below.refl _ _) ?_
              · simp [execOp, go_sem, e7, q0]
              · exact rfl
            · intro ev W hf _ _ hst hd
              obtain ⟨d35, _⟩ := hd
              have e35 : ev (.tmp 35) = .slice (some ⟨rb, ro, none⟩) n rc := d35
              refine st_value (v := .int .i64 (n : Int)) ?_ (Below.refl _ _) ?_
              · simp [execOp, go_sem, e35]
              · exact rfl
            · intro ev W hf _ _ hst hd
              have e7 : ev (.tmp 7) = .pointer (some ⟨P1, 0, none⟩) := hf 7 (by kernel_rfl)
              have e3 : ev (.tmp 3) = .pointer (some ⟨Pb, 0, none⟩) := hf 3 (by kernel_rfl)
              have e8 : ev (.tmp 8) = .pointer (some ⟨P3, 0, none⟩) := hf 8 (by kernel_rfl)
              refine st_value (v := .func (.func 139) #[] #[.pointer (some ⟨P1, 0, none⟩), .pointer (some ⟨Pb, 0, none⟩), .pointer (some ⟨P3, 0, none⟩)]) ?_ (Below.refl _ _) ?_
              · simp [execOp, go_sem, e7, e3, e8]
              · exact rfl
            · intro ev W hf _ hfn hst hd
              obtain ⟨d36, d37, _⟩ := hd
              have e36 : ev (.tmp 36) = .int .i64 (n : Int) := d36
              have e37 : ev (.tmp 37) = .func (.func 139) #[] #[.pointer (some ⟨P1, 0, none⟩), .pointer (some ⟨Pb, 0, none⟩), .pointer (some ⟨P3, 0, none⟩)] := d37
              refine st_call (f := 138) (args := #[.int .i64 (n : Int), .func (.func 139) #[] #[.pointer (some ⟨P1, 0, none⟩), .pointer (some ⟨Pb, 0, none⟩), .pointer (some ⟨P3, 0, none⟩)]]) (by simp [execOp, go_sem, hfn, e36, e37]) (HSU.out _ hst) (fun _ _ => rfl)
            · intro ev W hf _ _ hst hd
              obtain ⟨d33, d34, _⟩ := hd
              have e33 : ev (.tmp 33) = .slice (some ⟨R, 0, none⟩) n n := d33
              have e34 : ev (.tmp 34) = .int .i64 (j : Int) := d34
              refine st_value (v := .pointer (some ⟨R, j, none⟩)) ?_ (Below.refl _ _) ?_
              · simp [execOp, go_sem, e33, e34, hjl]
              · exact rfl
          case rest =>
            intro vs w5 hl hst hg
            have HE3 := Lib.hid hst
            have hvs : vs = [.slice (some ⟨C, 0, none⟩) n n, .int .i64 (k : Int), .pointer (some ⟨C, k, none⟩), .slice (some ⟨R, 0, none⟩) n n, .int .i64 (j : Int), .slice (some ⟨rb, ro, none⟩) n rc, .int .i64 (n : Int), .func (.func 139) #[] #[.pointer (some ⟨P1, 0, none⟩), .pointer (some ⟨Pb, 0, none⟩), .pointer (some ⟨P3, 0, none⟩)], bv z, .pointer (some ⟨R, j, none⟩)] := list_of hl (fun i u hu => by
              match i, hu with
              | 0, hu => exact (congrArg some (hg 0 u hu)).symm
              | 1, hu => exact (congrArg some (hg 1 u hu)).symm
              | 2, hu => exact (congrArg some (hg 2 u hu)).symm
              | 3, hu => exact (congrArg some (hg 3 u hu)).symm
              | 4, hu => exact (congrArg some (hg 4 u hu)).symm
              | 5, hu => exact (congrArg some (hg 5 u hu)).symm
              | 6, hu => exact (congrArg some (hg 6 u hu)).symm
              | 7, hu => exact (congrArg some (hg 7 u hu)).symm
              | 8, hu => exact (congrArg some (hg 8 u hu)).symm
              | 9, hu => exact (congrArg some (hg 9 u hu)).symm
              | n + 10, hu => exact absurd (lt_len hu) (by rw [hl]; simp))
            clear hg hst hl
            subst hvs
            simp only [putAll, Act.put, List.dropLast, List.setIfInBounds_toArray, List.set_cons_zero, List.set_cons_succ]
            have HU := Lib.hid (VRow.ext HQU.out HE3.out)
            obtain ⟨u0, hu0⟩ := getElem?_len (show j < us.length by rw [HST.out.1]; exact hjl)
            have m0 := VRow.cell HU.out hu0
            have f0 := VRow.frozen HU.out j none
            clear hu0
            go_wp2_with fail
            refine ⟨⟨j + 1, _, by simp, by omega, VRow.set HU.out j (bv z), HPUT.out, Below.setCell (p := ⟨R, j, none⟩) (Below.lastly HB2.out HE3.out (by have := HQE.out.size; omega)) (Nat.le_refl _) _⟩, by simp [intOf]; omega⟩
        · obtain rfl : n = j := by omega
          go_wp2_with fail
          have hRl := VRow.lt HUS.out
          have hw2s := HBL.out.size
          have hks := KS.out
          refine ⟨⟨k + 1, _, by simp, by omega, VRow.below KP.out HBL.out (by omega), VRow.below KC.out HBL.out (by omega), HVS2.out, fun i hi => ?_, Below.trans KE.out (HBL.out.mono (by omega))⟩, by simp [intOf]; omega⟩
          by_cases e : i = k
          · subst e
            exact ⟨R, by omega, by rw [Below.cell HBL.out (p := ⟨C, i, none⟩) (by show C < R; omega)]; exact HKC.out, _, HUS.out, HST.out⟩
          · obtain ⟨R', h1, h9, h2, us', h3, h4⟩ := KRO.out i (by omega)
            exact ⟨R', h1, by rw [Below.cell HBL.out (p := ⟨C, i, none⟩) (by show C < R; omega)]; exact h2, us', VRow.below h3 HBL.out (by omega), h4⟩
    · obtain rfl : k = n := by omega
      go_wp2_with fail
      go_ret
      exact ⟨_, rfl, ⟨C, vs, by omega, rfl, HC.out, HVS.out, HRO.out⟩, HE.out⟩

end Go.Proofs.YtbcngojiikdigaaGreat
