import Derived.Test.YtblaipkhmmaenaaC10
namespace Go.Proofs.Ytblaipkhmmaenaa
open Go.RowKit
abbrev boxV (l0 l1 l2 l3 l4 h0 h1 h2 h3 h4 : Int) : Value := .agg #[.int .i64 l0, .int .i64 l1, .int .i64 l2, .int .i64 l3, .int .i64 l4, .int .i64 h0, .int .i64 h1, .int .i64 h2, .int .i64 h3, .int .i64 h4]
def divB (lo hi : List Int) (j : Nat) (at' : Int) : Bool := decide (lo.getD j 0 ≤ at') && decide (at' < hi.getD j 0)
theorem box_lo {lo hi : List Int} {j : Nat} {x : Int} (hx : lo[j]? = some x) : ((lo ++ hi).map (Value.int .i64))[j]? = some (.int .i64 x) := by
  rw [List.getElem?_map, List.getElem?_append_left (lt_len hx), hx]; rfl
theorem box_hi {lo hi : List Int} {j : Nat} {y : Int} (hl : lo.length = 5) (hy : hi[j]? = some y) : ((lo ++ hi).map (Value.int .i64))[5 + j]? = some (.int .i64 y) := by
  rw [List.getElem?_map, List.getElem?_append_right (by omega), hl, Nat.add_sub_cancel_left, hy]; rfl
theorem setCell_same {w : World} {g k : Nat} {t : TypeId} {vs : List Value} {x : Value} (h : VRow w g t vs) (hk : vs[k]? = some x) : w.setCell ⟨g, k, none⟩ x = w := by
  have hg : w.heap[g]? = some (.cells vs.toArray t (0, 0)) := h
  obtain ⟨hlt, he⟩ := Array.getElem?_eq_some_iff.1 hg
  have e : (w.setCell ⟨g, k, none⟩ x).heap = w.heap := by
    apply Array.ext
    · simp [World.setCell]
    · intro i h1 h2
      by_cases hi : i = g
      · subst hi
        have h9 := VRow.set h k x
        have h8 : (w.setCell ⟨i, k, none⟩ x).heap[i]? = some (.cells (vs.set k x).toArray t (0, 0)) := h9
        rw [Array.getElem?_eq_getElem h1] at h8
        have := Option.some.inj h8
        rw [this, he]
        congr 2
        apply List.ext_getElem?
        intro n
        by_cases hn : n = k
        · subst hn
          rw [hk, List.getElem?_set_self (lt_len hk)]
        · rw [List.getElem?_set_ne (fun e => hn e.symm)]
      · have h9 := Below.heap_setCell w ⟨g, k, none⟩ x i hi
        rw [Array.getElem?_eq_getElem h1, Array.getElem?_eq_getElem h2] at h9
        exact Option.some.inj h9
  show ({ w with heap := (w.setCell ⟨g, k, none⟩ x).heap } : World) = w
  rw [e]
theorem set_hi {lo hi mi : List Int} {j : Nat} {x : Int} (hl : lo.length = 5) (h : hi.set j x = mi) : ((lo ++ hi).map (Value.int .i64)).set (5 + j) (.int .i64 x) = (lo ++ mi).map (Value.int .i64) := by
  rw [← List.map_set, List.set_append_right _ _ (by omega), hl, Nat.add_sub_cancel_left, h]
theorem set_lo {lo hi mi : List Int} {j : Nat} {x : Int} (hj : j < lo.length) (h : lo.set j x = mi) : ((lo ++ hi).map (Value.int .i64)).set j (.int .i64 x) = (mi ++ hi).map (Value.int .i64) := by
  rw [← List.map_set, List.set_append_left _ _ hj, h]
set_option maxRecDepth 100000 in
set_option maxHeartbeats 4000000 in
theorem divides_c (l0 l1 l2 l3 l4 h0 h1 h2 h3 h4 : Int) (j : Nat) (at' : Int) (w : World) (hj : j < 5) :
    Calls Try.prog 47 #[boxV l0 l1 l2 l3 l4 h0 h1 h2 h3 h4, .int .i64 j, .int .i64 at'] w fun e w' => e = .returned (.bool (divB [l0, l1, l2, l3, l4] [h0, h1, h2, h3, h4] j at')) ∧ Ext w w' := by
  have hb := vrow_alloc w [.int .i64 l0, .int .i64 l1, .int .i64 l2, .int .i64 l3, .int .i64 l4, .int .i64 h0, .int .i64 h1, .int .i64 h2, .int .i64 h3, .int .i64 h4] 58
  have HE := Lib.hid (Ext.alloc (Ext.refl w) (.cells [.int .i64 l0, .int .i64 l1, .int .i64 l2, .int .i64 l3, .int .i64 l4, .int .i64 h0, .int .i64 h1, .int .i64 h2, .int .i64 h3, .int .i64 h4].toArray 58))
  obtain ⟨x, hx⟩ : ∃ x, [l0, l1, l2, l3, l4][j]? = some x := getElem?_len hj
  obtain ⟨y, hy⟩ : ∃ y, [h0, h1, h2, h3, h4][j]? = some y := getElem?_len hj
  have q1 := VRow.cell hb (k := j) (x := .int .i64 x) (box_lo (lo := [l0, l1, l2, l3, l4]) (hi := [h0, h1, h2, h3, h4]) hx)
  have q2 := VRow.cell hb (k := 5 + j) (x := .int .i64 y) (box_hi (lo := [l0, l1, l2, l3, l4]) (hi := [h0, h1, h2, h3, h4]) rfl hy)
  change (w.alloc (.cells #[.int .i64 l0, .int .i64 l1, .int .i64 l2, .int .i64 l3, .int .i64 l4, .int .i64 h0, .int .i64 h1, .int .i64 h2, .int .i64 h3, .int .i64 h4] 58)).cell? _ = _ at q1 q2
  have HR : Hid (divB [l0, l1, l2, l3, l4] [h0, h1, h2, h3, h4] j at' = (decide (x ≤ at') && decide (at' < y))) := Lib.hid (by simp only [divB, List.getD_eq_getElem?_getD, hx, hy, Option.getD_some])
  clear hb hx hy
  by_cases c1 : x ≤ at'
  · by_cases c2 : at' < y
    · have C2 := Lib.hid c2
      have C1 := Lib.hid c1
      go_enter Try.func47, Try.ntmps47
      go_wp2
      go_ret
      exact ⟨ret_bool (by rw [HR.out, decide_eq_true C1.out, decide_eq_true C2.out]; rfl), HE.out⟩
    · have C2 := Lib.hid c2
      have C1 := Lib.hid c1
      go_enter Try.func47, Try.ntmps47
      go_wp2
      go_ret
      exact ⟨ret_bool (by rw [HR.out, decide_eq_true C1.out, decide_eq_false (Int.not_lt.2 C2.out)]; rfl), HE.out⟩
  · have C1 := Lib.hid c1
    go_enter Try.func47, Try.ntmps47
    go_wp2
    go_ret
    exact ⟨ret_bool (by rw [HR.out, decide_eq_false (Int.not_le.2 C1.out)]; rfl), HE.out⟩
set_option maxRecDepth 100000 in
set_option maxHeartbeats 4000000 in
theorem split_c (l0 l1 l2 l3 l4 h0 h1 h2 h3 h4 m0 m1 m2 m3 m4 n0 n1 n2 n3 n4 : Int) (j : Nat) (at' : Int) (w : World) (hj : j < 5) (hm : [h0, h1, h2, h3, h4].set j at' = [m0, m1, m2, m3, m4]) (hn : [l0, l1, l2, l3, l4].set j (at' + 1) = [n0, n1, n2, n3, n4])
    (hat : -9223372036854775808 ≤ at' ∧ at' < 9223372036854775807) :
    Calls Try.prog 48 #[boxV l0 l1 l2 l3 l4 h0 h1 h2 h3 h4, .int .i64 j, .int .i64 at'] w fun e w' => e = .returned (.tuple #[boxV l0 l1 l2 l3 l4 m0 m1 m2 m3 m4, boxV n0 n1 n2 n3 n4 h0 h1 h2 h3 h4]) ∧ Ext w w' := by
  have hwat : IntKind.i64.wrap (at' + 1) = at' + 1 := by simp [IntKind.wrap, IntKind.signed, IntKind.bits]; omega
  have hE := Below.drew (Ext.alloc (Ext.alloc (Ext.alloc (Ext.refl w) (.cells #[.int .i64 l0, .int .i64 l1, .int .i64 l2, .int .i64 l3, .int .i64 l4, .int .i64 h0, .int .i64 h1, .int .i64 h2, .int .i64 h3, .int .i64 h4] 58)) (.cells #[.int .i64 l0, .int .i64 l1, .int .i64 l2, .int .i64 l3, .int .i64 l4, .int .i64 h0, .int .i64 h1, .int .i64 h2, .int .i64 h3, .int .i64 h4] 58)) (.cells #[.int .i64 l0, .int .i64 l1, .int .i64 l2, .int .i64 l3, .int .i64 l4, .int .i64 h0, .int .i64 h1, .int .i64 h2, .int .i64 h3, .int .i64 h4] 58))
  have a6 := VRow.drew (VRow.alloc (vrow_alloc (w.alloc (.cells #[.int .i64 l0, .int .i64 l1, .int .i64 l2, .int .i64 l3, .int .i64 l4, .int .i64 h0, .int .i64 h1, .int .i64 h2, .int .i64 h3, .int .i64 h4] 58)) [.int .i64 l0, .int .i64 l1, .int .i64 l2, .int .i64 l3, .int .i64 l4, .int .i64 h0, .int .i64 h1, .int .i64 h2, .int .i64 h3, .int .i64 h4] 58) (.cells #[.int .i64 l0, .int .i64 l1, .int .i64 l2, .int .i64 l3, .int .i64 l4, .int .i64 h0, .int .i64 h1, .int .i64 h2, .int .i64 h3, .int .i64 h4] 58))
  have a7 := VRow.drew (vrow_alloc ((w.alloc (.cells #[.int .i64 l0, .int .i64 l1, .int .i64 l2, .int .i64 l3, .int .i64 l4, .int .i64 h0, .int .i64 h1, .int .i64 h2, .int .i64 h3, .int .i64 h4] 58)).alloc (.cells #[.int .i64 l0, .int .i64 l1, .int .i64 l2, .int .i64 l3, .int .i64 l4, .int .i64 h0, .int .i64 h1, .int .i64 h2, .int .i64 h3, .int .i64 h4] 58)) [.int .i64 l0, .int .i64 l1, .int .i64 l2, .int .i64 l3, .int .i64 l4, .int .i64 h0, .int .i64 h1, .int .i64 h2, .int .i64 h3, .int .i64 h4] 58)
  rw [World.size_alloc] at a6
  rw [World.size_alloc, World.size_alloc] at a7
  change VRow (((w.alloc (.cells #[.int .i64 l0, .int .i64 l1, .int .i64 l2, .int .i64 l3, .int .i64 l4, .int .i64 h0, .int .i64 h1, .int .i64 h2, .int .i64 h3, .int .i64 h4] 58)).alloc (.cells #[.int .i64 l0, .int .i64 l1, .int .i64 l2, .int .i64 l3, .int .i64 l4, .int .i64 h0, .int .i64 h1, .int .i64 h2, .int .i64 h3, .int .i64 h4] 58)).alloc (.cells #[.int .i64 l0, .int .i64 l1, .int .i64 l2, .int .i64 l3, .int .i64 l4, .int .i64 h0, .int .i64 h1, .int .i64 h2, .int .i64 h3, .int .i64 h4] 58)).drew _ _ _ at a6 a7
  have HE := Lib.hid hE
  have HA6 := Lib.hid a6
  have HA7 := Lib.hid a7
  clear hE a6 a7
  go_enter Try.func48, Try.ntmps48
  go_wp2
  go_region
  generalize (((w.alloc (.cells #[.int .i64 l0, .int .i64 l1, .int .i64 l2, .int .i64 l3, .int .i64 l4, .int .i64 h0, .int .i64 h1, .int .i64 h2, .int .i64 h3, .int .i64 h4] 58)).alloc (.cells #[.int .i64 l0, .int .i64 l1, .int .i64 l2, .int .i64 l3, .int .i64 l4, .int .i64 h0, .int .i64 h1, .int .i64 h2, .int .i64 h3, .int .i64 h4] 58)).alloc (.cells #[.int .i64 l0, .int .i64 l1, .int .i64 l2, .int .i64 l3, .int .i64 l4, .int .i64 h0, .int .i64 h1, .int .i64 h2, .int .i64 h3, .int .i64 h4] 58)).drew = w1 at *
  generalize hs : w.heap.size = s at *
  obtain ⟨x, hx⟩ : ∃ x, [l0, l1, l2, l3, l4][j]? = some x := getElem?_len hj
  obtain ⟨y, hy⟩ : ∃ y, [h0, h1, h2, h3, h4][j]? = some y := getElem?_len hj
  have q1 := VRow.cell HA7.out (k := j) (x := .int .i64 x) (box_lo (lo := [l0, l1, l2, l3, l4]) (hi := [h0, h1, h2, h3, h4]) hx)
  have q2 := VRow.cell HA6.out (k := 5 + j) (x := .int .i64 y) (box_hi (lo := [l0, l1, l2, l3, l4]) (hi := [h0, h1, h2, h3, h4]) rfl hy)
  have f1 := VRow.frozen HA7.out j none
  have f2 := VRow.frozen HA6.out (5 + j) none
  have s6 := VRow.set HA6.out (5 + j) (.int .i64 at')
  have s7 := VRow.set (VRow.setOther HA7.out (a := ⟨s + 1, 5 + j, none⟩) (by show s + 1 + 1 ≠ s + 1; omega) (.int .i64 at')) j (.int .i64 (at' + 1))
  have s6' := VRow.setOther s6 (a := ⟨s + 1 + 1, j, none⟩) (by show s + 1 ≠ s + 1 + 1; omega) (.int .i64 (at' + 1))
  have s6b : VRow ((w1.setCell ⟨s + 1, 5 + j, none⟩ (.int .i64 at')).setCell ⟨s + 1 + 1, j, none⟩ (.int .i64 (at' + 1))) (s + 1) 58 (([l0, l1, l2, l3, l4] ++ [m0, m1, m2, m3, m4]).map (Value.int .i64)) := by
    rw [← set_hi rfl hm]; exact s6'
  have s7b : VRow ((w1.setCell ⟨s + 1, 5 + j, none⟩ (.int .i64 at')).setCell ⟨s + 1 + 1, j, none⟩ (.int .i64 (at' + 1))) (s + 1 + 1) 58 (([n0, n1, n2, n3, n4] ++ [h0, h1, h2, h3, h4]).map (Value.int .i64)) := by
    rw [← set_lo hj hn]; exact s7
  have hE2 := Below.setCell (p := ⟨s + 1 + 1, j, none⟩) (Below.setCell (p := ⟨s + 1, 5 + j, none⟩) HE.out (show s ≤ s + 1 by omega) (.int .i64 at')) (show s ≤ s + 1 + 1 by omega) (.int .i64 (at' + 1))
  have HE2 := Lib.hid hE2
  have HS6 := Lib.hid s6b
  have HS7 := Lib.hid s7b
  clear s6 s6' s6b s7 s7b hE2 hx hy hm hn HA6 HA7 HE
  go_wp2
  clear q1 q2 f1 f2
  generalize (w1.setCell ⟨s + 1, 5 + j, none⟩ (.int .i64 at')).setCell ⟨s + 1 + 1, j, none⟩ (.int .i64 (at' + 1)) = w2 at *
  have x0 := VRow.cell HS6.out (k := 0) rfl
  have xf0 := VRow.frozen HS6.out 0 none
  have x1 := VRow.cell HS6.out (k := 1) rfl
  have xf1 := VRow.frozen HS6.out 1 none
  have x2 := VRow.cell HS6.out (k := 2) rfl
  have xf2 := VRow.frozen HS6.out 2 none
  have x3 := VRow.cell HS6.out (k := 3) rfl
  have xf3 := VRow.frozen HS6.out 3 none
  have x4 := VRow.cell HS6.out (k := 4) rfl
  have xf4 := VRow.frozen HS6.out 4 none
  have x5 := VRow.cell HS6.out (k := 5) rfl
  have xf5 := VRow.frozen HS6.out 5 none
  have x6 := VRow.cell HS6.out (k := 6) rfl
  have xf6 := VRow.frozen HS6.out 6 none
  have x7 := VRow.cell HS6.out (k := 7) rfl
  have xf7 := VRow.frozen HS6.out 7 none
  have x8 := VRow.cell HS6.out (k := 8) rfl
  have xf8 := VRow.frozen HS6.out 8 none
  have x9 := VRow.cell HS6.out (k := 9) rfl
  have xf9 := VRow.frozen HS6.out 9 none
  have y0 := VRow.cell HS7.out (k := 0) rfl
  have yf0 := VRow.frozen HS7.out 0 none
  have y1 := VRow.cell HS7.out (k := 1) rfl
  have yf1 := VRow.frozen HS7.out 1 none
  have y2 := VRow.cell HS7.out (k := 2) rfl
  have yf2 := VRow.frozen HS7.out 2 none
  have y3 := VRow.cell HS7.out (k := 3) rfl
  have yf3 := VRow.frozen HS7.out 3 none
  have y4 := VRow.cell HS7.out (k := 4) rfl
  have yf4 := VRow.frozen HS7.out 4 none
  have y5 := VRow.cell HS7.out (k := 5) rfl
  have yf5 := VRow.frozen HS7.out 5 none
  have y6 := VRow.cell HS7.out (k := 6) rfl
  have yf6 := VRow.frozen HS7.out 6 none
  have y7 := VRow.cell HS7.out (k := 7) rfl
  have yf7 := VRow.frozen HS7.out 7 none
  have y8 := VRow.cell HS7.out (k := 8) rfl
  have yf8 := VRow.frozen HS7.out 8 none
  have y9 := VRow.cell HS7.out (k := 9) rfl
  have yf9 := VRow.frozen HS7.out 9 none
  go_region
  have e60 : w2.setCell ⟨s + 1, 0, none⟩ (.int .i64 l0) = w2 := setCell_same HS6.out (k := 0) rfl
  have e70 : w2.setCell ⟨s + 1 + 1, 0, none⟩ (.int .i64 n0) = w2 := setCell_same HS7.out (k := 0) rfl
  have e61 : w2.setCell ⟨s + 1, 1, none⟩ (.int .i64 l1) = w2 := setCell_same HS6.out (k := 1) rfl
  have e71 : w2.setCell ⟨s + 1 + 1, 1, none⟩ (.int .i64 n1) = w2 := setCell_same HS7.out (k := 1) rfl
  have e62 : w2.setCell ⟨s + 1, 2, none⟩ (.int .i64 l2) = w2 := setCell_same HS6.out (k := 2) rfl
  have e72 : w2.setCell ⟨s + 1 + 1, 2, none⟩ (.int .i64 n2) = w2 := setCell_same HS7.out (k := 2) rfl
  have e63 : w2.setCell ⟨s + 1, 3, none⟩ (.int .i64 l3) = w2 := setCell_same HS6.out (k := 3) rfl
  have e73 : w2.setCell ⟨s + 1 + 1, 3, none⟩ (.int .i64 n3) = w2 := setCell_same HS7.out (k := 3) rfl
  have e64 : w2.setCell ⟨s + 1, 4, none⟩ (.int .i64 l4) = w2 := setCell_same HS6.out (k := 4) rfl
  have e74 : w2.setCell ⟨s + 1 + 1, 4, none⟩ (.int .i64 n4) = w2 := setCell_same HS7.out (k := 4) rfl
  have e65 : w2.setCell ⟨s + 1, 5, none⟩ (.int .i64 m0) = w2 := setCell_same HS6.out (k := 5) rfl
  have e75 : w2.setCell ⟨s + 1 + 1, 5, none⟩ (.int .i64 h0) = w2 := setCell_same HS7.out (k := 5) rfl
  have e66 : w2.setCell ⟨s + 1, 6, none⟩ (.int .i64 m1) = w2 := setCell_same HS6.out (k := 6) rfl
  have e76 : w2.setCell ⟨s + 1 + 1, 6, none⟩ (.int .i64 h1) = w2 := setCell_same HS7.out (k := 6) rfl
  have e67 : w2.setCell ⟨s + 1, 7, none⟩ (.int .i64 m2) = w2 := setCell_same HS6.out (k := 7) rfl
  have e77 : w2.setCell ⟨s + 1 + 1, 7, none⟩ (.int .i64 h2) = w2 := setCell_same HS7.out (k := 7) rfl
  have e68 : w2.setCell ⟨s + 1, 8, none⟩ (.int .i64 m3) = w2 := setCell_same HS6.out (k := 8) rfl
  have e78 : w2.setCell ⟨s + 1 + 1, 8, none⟩ (.int .i64 h3) = w2 := setCell_same HS7.out (k := 8) rfl
  have e69 : w2.setCell ⟨s + 1, 9, none⟩ (.int .i64 m4) = w2 := setCell_same HS6.out (k := 9) rfl
  have e79 : w2.setCell ⟨s + 1 + 1, 9, none⟩ (.int .i64 h4) = w2 := setCell_same HS7.out (k := 9) rfl
  simp only [e60, e70, e61, e71, e62, e72, e63, e73, e64, e74, e65, e75, e66, e76, e67, e77, e68, e78, e69, e79]
  go_wp2
  refine bodyPost_ret (v := .tuple #[boxV l0 l1 l2 l3 l4 m0 m1 m2 m3 m4, boxV n0 n1 n2 n3 n4 h0 h1 h2 h3 h4]) (by simp [results, Try.results48, go_sem, x0, y0, x1, y1, x2, y2, x3, y3, x4, y4, x5, y5, x6, y6, x7, y7, x8, y8, x9, y9]) rfl ⟨rfl, ?_⟩
  rw [← hs] at HE2
  exact Below.drew HE2.out
end Go.Proofs.Ytblaipkhmmaenaa
