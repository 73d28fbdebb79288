import Derived.Test.YtnpebfchojalcaaW2
import Derived.Shelf.SlSortCmp.WholeK
import Derived.Shelf.SlGeneric
import Derived.Shelf.SlLaysF0
import Derived.Ground.SlsfProg
import Derived.Test.YtnpebfchojalcaaVX
import Derived.Test.YtnpebfchojalcaaProg
namespace Go.Proofs.Ytnpebfchojalcaa
set_option maxRecDepth 100000
open Go.RowKit
/-- new blocks and draws alone -/
def Gr (x y : World) : Prop := Ext x y ∧ x.drawn ≤ y.drawn
theorem Gr.refl (w : World) : Gr w w := ⟨Ext.refl w, Nat.le_refl _⟩
theorem Gr.trans {a b c : World} (h : Gr a b) (k : Gr b c) : Gr a c := ⟨Ext.trans h.1 k.1, Nat.le_trans h.2 k.2⟩
theorem Gr.draw (x : World) : Gr x { x with drawn := x.drawn + 1 } := ⟨(Below.refl x.heap.size x).drew, Nat.le_succ _⟩
theorem Gr.grow {w w' : World} (h : Gr w w') : ∃ q os, w' = Sort.grow (w.drewN q) os := by
  obtain ⟨he, hd⟩ := h
  refine ⟨w'.drawn - w.drawn, w'.heap.extract w.heap.size w'.heap.size, ?_⟩
  have hh : w'.heap = w.heap ++ w'.heap.extract w.heap.size w'.heap.size := by
    apply Array.ext_getElem?
    intro i
    by_cases hi : i < w.heap.size
    · rw [Array.getElem?_append_left hi]; exact he.block i hi
    · rw [Array.getElem?_append_right (by omega), Array.getElem?_extract]
      have := he.size
      split
      · congr 1; omega
      · rw [Array.getElem?_eq_none (by omega)]
  have ho := he.os
  have ht := he.tape
  have hp := he.output
  cases w' with
  | mk heap tape drawn os output =>
    cases w with
    | mk heap0 tape0 drawn0 os0 output0 =>
      simp only at *
      subst ho ht hp
      unfold Sort.grow World.drewN
      simp only [World.mk.injEq, true_and, and_true]
      exact ⟨hh, by omega⟩
theorem st_new_g {P : Program} {G : Value → World → Prop} {w : World} {r : Result Next} {v : Value} {o : Obj} (hr : r = .ok (.value v) (w.alloc o)) (hg : G v (w.alloc o)) : stUpon P Gr G w r := by
  subst hr
  exact ⟨⟨(Below.refl _ _).alloc (Nat.le_refl _) _, Nat.le_refl _⟩, hg⟩
theorem st_call_g {P : Program} {G : Value → World → Prop} {w : World} {r : Result Next} {f : FuncId} {args : Array Value} {u : Value} (hr : r = .ok (.enter f args) w)
    (h : Calls P f args w fun e w'' => e = .returned u ∧ Gr w w'') (hg : ∀ w'', Gr w w'' → G u w'') : stUpon P Gr G w r :=
  st_enter hr (h.mono fun _ w'' he => ⟨u, he.1, he.2, hg w'' he.2⟩)
theorem calls_same_g {f : FuncId} {args : Array Value} {w : World} {u : Value} (h : Calls Try.prog f args w fun e w' => e = .returned u ∧ w = w') : Calls Try.prog f args w fun e w' => e = .returned u ∧ Gr w w' :=
  h.mono fun _ _ he => ⟨he.1, by rw [← he.2]; exact Gr.refl _⟩
set_option maxHeartbeats 400000 in
theorem cross_g (a b c d : Int) (w : World) (ha : fine a) (hb : fine b) (hc : fine c) (hd : fine d) :
    Calls Try.prog 100 #[vecV a b, vecV c d] w fun e w' => e = .returned (.int .i64 (crossZ a b c d)) ∧ Gr w w' := by
  have m1 := mul_fine ha hd
  have m2 := mul_fine hb hc
  have e1 : wrap64 (a * d) = a * d := by unfold wrap64; omega
  have e2 : wrap64 (b * c) = b * c := by unfold wrap64; omega
  have e3 : wrap64 (a * d - b * c) = a * d - b * c := by unfold wrap64; omega
  clear ha hb hc hd m1 m2
  go_enter Try.func100, Try.ntmps100
  go_wp2
  all_goals go_ret
  all_goals exact ⟨ret_int (by first | rfl | simp [crossZ, e3]), by (repeat' (first | exact Below.refl _ _ | refine Below.drew ?_ | refine Below.alloc ?_ (by simp <;> omega) _ | refine Below.setCell ?_ (by simp <;> omega) _)), Nat.le_refl _⟩
set_option maxRecDepth 100000 in
set_option maxHeartbeats 1000000 in
theorem byHeight_g (a b c d : Int) (w : World) :
    Calls Try.prog 75 #[vecV a b, vecV c d] w fun e w' => e = .returned (.int .i64 (heightZ a b c d)) ∧ Gr w w' := by
  have hm0 := VRow.alloc (vrow_alloc w [.int .i64 a, .int .i64 b] 31) (.cells #[.int .i64 c, .int .i64 d] 31)
  have hn0 := vrow_alloc (w.alloc (.cells #[.int .i64 a, .int .i64 b] 31)) [.int .i64 c, .int .i64 d] 31
  have hE := Ext.alloc (Ext.alloc (Ext.refl w) (.cells #[.int .i64 a, .int .i64 b] 31)) (.cells #[.int .i64 c, .int .i64 d] 31)
  have hs1 : (w.alloc (.cells #[.int .i64 a, .int .i64 b] 31)).heap.size = w.heap.size + 1 := by simp
  rw [hs1] at hn0
  change VRow ((w.alloc (.cells #[.int .i64 a, .int .i64 b] 31)).alloc (.cells #[.int .i64 c, .int .i64 d] 31)) _ _ _ at hm0 hn0
  have HM := Lib.hid hm0
  have HN := Lib.hid hn0
  have HE := Lib.hid (show Gr w _ from ⟨hE, Nat.le_refl _⟩)
  clear hs1 hm0 hn0 hE
  go_enter Try.func75, Try.ntmps75
  go_wp2_with fail
  generalize (w.alloc (.cells #[.int .i64 a, .int .i64 b] 31)).alloc (.cells #[.int .i64 c, .int .i64 d] 31) = w1 at *
  generalize hs : w.heap.size = s at *
  refine wp_region_stable [⟨[], none⟩, ⟨[(0, 5)], none⟩, ⟨[], none⟩, ⟨[(2, 7)], none⟩, ⟨[(1, 6), (3, 8)], none⟩, ⟨[], none⟩, ⟨[(5, 10)], none⟩, ⟨[], none⟩, ⟨[(7, 12)], none⟩, ⟨[(6, 11), (8, 13)], none⟩, ⟨[(4, 9), (9, 14)], none⟩, ⟨[(10, 15)], none⟩, ⟨[(11, 16)], none⟩] Gr (MPat [MP.eq (.pointer (some ⟨s, 1, none⟩)), MP.eq (.int .i64 b), MP.eq (.pointer (some ⟨s + 1, 1, none⟩)), MP.eq (.int .i64 d), MP.eq (.int .i64 (sgnZ b d)), MP.eq (.pointer (some ⟨s, 0, none⟩)), MP.eq (.int .i64 a), MP.eq (.pointer (some ⟨s + 1, 0, none⟩)), MP.eq (.int .i64 c), MP.eq (.int .i64 (sgnZ a c)), MP.ints [sgnZ b d, sgnZ a c], MP.eq (.int .i64 (heightZ a b c d)), MP.eq (.int .i64 (heightZ a b c d))]) (by kernel_rfl) (fun _ _ _ h k => Gr.trans h k) Gr.refl Gr.draw (fun j u x y h => MPat.mono _ j u x y h.1) (by kernel_rfl) ?obs ?rest
  case obs =>
    refine ⟨?_, ?_, ?_, ?_, ?_, ?_, ?_, ?_, ?_, ?_, ?_, ?_, ?_, trivial⟩
    · intro ev W hf _ _ hst hd
      have e2 : ev (.tmp 2) = .pointer (some ⟨s, 0, none⟩) := hf 2 (by kernel_rfl)
      refine st_value (v := .pointer (some ⟨s, 1, none⟩)) ?_ (Gr.refl _) ?_
      · simp [execOp, go_sem, e2]
      · exact rfl
    · intro ev W hf _ _ hst hd
      obtain ⟨d5, _⟩ := hd
      have e5 : ev (.tmp 5) = .pointer (some ⟨s, 1, none⟩) := d5
      have kk := VRow.ext HM.out hst.1
      have k1 := VRow.cell kk (k := 1) rfl
      refine st_value (v := .int .i64 b) ?_ (Gr.refl _) ?_
      · simp [execOp, go_sem, e5, k1]
      · exact rfl
    · intro ev W hf _ _ hst hd
      have e3 : ev (.tmp 3) = .pointer (some ⟨s + 1, 0, none⟩) := hf 3 (by kernel_rfl)
      refine st_value (v := .pointer (some ⟨s + 1, 1, none⟩)) ?_ (Gr.refl _) ?_
      · simp [execOp, go_sem, e3]
      · exact rfl
    · intro ev W hf _ _ hst hd
      obtain ⟨d7, _⟩ := hd
      have e7 : ev (.tmp 7) = .pointer (some ⟨s + 1, 1, none⟩) := d7
      have kk := VRow.ext HN.out hst.1
      have k1 := VRow.cell kk (k := 1) rfl
      refine st_value (v := .int .i64 d) ?_ (Gr.refl _) ?_
      · simp [execOp, go_sem, e7, k1]
      · exact rfl
    · intro ev W hf _ hfn hst hd
      obtain ⟨d6, d8, _⟩ := hd
      have e6 : ev (.tmp 6) = .int .i64 b := d6
      have e8 : ev (.tmp 8) = .int .i64 d := d8
      refine st_call_g (f := 50) (args := #[.int .i64 b, .int .i64 d]) (by simp [execOp, go_sem, hfn, e6, e8]) (calls_same_g (compare_c b d W)) (fun _ _ => rfl)
    · intro ev W hf _ _ hst hd
      have e2 : ev (.tmp 2) = .pointer (some ⟨s, 0, none⟩) := hf 2 (by kernel_rfl)
      refine st_value (v := .pointer (some ⟨s, 0, none⟩)) ?_ (Gr.refl _) ?_
      · simp [execOp, go_sem, e2]
      · exact rfl
    · intro ev W hf _ _ hst hd
      obtain ⟨d10, _⟩ := hd
      have e10 : ev (.tmp 10) = .pointer (some ⟨s, 0, none⟩) := d10
      have kk := VRow.ext HM.out hst.1
      have k0 := VRow.cell kk (k := 0) rfl
      refine st_value (v := .int .i64 a) ?_ (Gr.refl _) ?_
      · simp [execOp, go_sem, e10, k0]
      · exact rfl
    · intro ev W hf _ _ hst hd
      have e3 : ev (.tmp 3) = .pointer (some ⟨s + 1, 0, none⟩) := hf 3 (by kernel_rfl)
      refine st_value (v := .pointer (some ⟨s + 1, 0, none⟩)) ?_ (Gr.refl _) ?_
      · simp [execOp, go_sem, e3]
      · exact rfl
    · intro ev W hf _ _ hst hd
      obtain ⟨d12, _⟩ := hd
      have e12 : ev (.tmp 12) = .pointer (some ⟨s + 1, 0, none⟩) := d12
      have kk := VRow.ext HN.out hst.1
      have k0 := VRow.cell kk (k := 0) rfl
      refine st_value (v := .int .i64 c) ?_ (Gr.refl _) ?_
      · simp [execOp, go_sem, e12, k0]
      · exact rfl
    · intro ev W hf _ hfn hst hd
      obtain ⟨d11, d13, _⟩ := hd
      have e11 : ev (.tmp 11) = .int .i64 a := d11
      have e13 : ev (.tmp 13) = .int .i64 c := d13
      refine st_call_g (f := 50) (args := #[.int .i64 a, .int .i64 c]) (by simp [execOp, go_sem, hfn, e11, e13]) (calls_same_g (compare_c a c W)) (fun _ _ => rfl)
    · intro ev W hf _ hfn hst hd
      obtain ⟨d9, d14, _⟩ := hd
      have e9 : ev (.tmp 9) = .int .i64 (sgnZ b d) := d9
      have e14 : ev (.tmp 14) = .int .i64 (sgnZ a c) := d14
      refine st_new_g (v := .slice (some ⟨W.heap.size, 0, none⟩) 2 2) (o := .cells #[.int .i64 (sgnZ b d), .int .i64 (sgnZ a c)] 3) ?_ ?_
      · simp [execOp, go_sem, e9, e14]
      · exact IRow.ints' (xs := [sgnZ b d, sgnZ a c]) (vrow_alloc W [.int .i64 (sgnZ b d), .int .i64 (sgnZ a c)] 3) rfl (by simp) (by simp)
    · intro ev W hf _ hfn hst hd
      obtain ⟨d15, _⟩ := hd
      have d15 : Ints W (ev (.tmp 15)) [sgnZ b d, sgnZ a c] := d15
      refine st_call_g (f := 49) (args := #[ev (.tmp 15)]) (by simp [execOp, go_sem, hfn]) ?_ (fun _ _ => rfl)
      have h9 := calls_same_g (or_c _ _ W d15)
      rw [heightZ_or] at h9
      exact h9
    · intro ev W hf _ _ hst hd
      obtain ⟨d16, _⟩ := hd
      have e16 : ev (.tmp 16) = .int .i64 (heightZ a b c d) := d16
      refine st_value (v := .int .i64 (heightZ a b c d)) ?_ (Gr.refl _) ?_
      · simp [execOp, go_sem, e16]
      · exact rfl
  case rest =>
    intro vs w3 hl hst hg
    have hx0 : ∀ u, vs[0]? = some u → u = .pointer (some ⟨s, 1, none⟩) := fun u hu => hg 0 u hu
    have hx1 : ∀ u, vs[1]? = some u → u = .int .i64 b := fun u hu => hg 1 u hu
    have hx2 : ∀ u, vs[2]? = some u → u = .pointer (some ⟨s + 1, 1, none⟩) := fun u hu => hg 2 u hu
    have hx3 : ∀ u, vs[3]? = some u → u = .int .i64 d := fun u hu => hg 3 u hu
    have hx4 : ∀ u, vs[4]? = some u → u = .int .i64 (sgnZ b d) := fun u hu => hg 4 u hu
    have hx5 : ∀ u, vs[5]? = some u → u = .pointer (some ⟨s, 0, none⟩) := fun u hu => hg 5 u hu
    have hx6 : ∀ u, vs[6]? = some u → u = .int .i64 a := fun u hu => hg 6 u hu
    have hx7 : ∀ u, vs[7]? = some u → u = .pointer (some ⟨s + 1, 0, none⟩) := fun u hu => hg 7 u hu
    have hx8 : ∀ u, vs[8]? = some u → u = .int .i64 c := fun u hu => hg 8 u hu
    have hx9 : ∀ u, vs[9]? = some u → u = .int .i64 (sgnZ a c) := fun u hu => hg 9 u hu
    have hx10 : ∀ u, vs[10]? = some u → MP.p (MP.ints [sgnZ b d, sgnZ a c]) u w3 := fun u hu => hg 10 u hu
    have hx11 : ∀ u, vs[11]? = some u → u = .int .i64 (heightZ a b c d) := fun u hu => hg 11 u hu
    have hx12 : ∀ u, vs[12]? = some u → u = .int .i64 (heightZ a b c d) := fun u hu => hg 12 u hu
    have HE3 := Lib.hid hst
    clear hg hst
    obtain ⟨x0, vs0, rfl, hl0⟩ := len_succ hl
    obtain ⟨x1, vs1, rfl, hl1⟩ := len_succ hl0
    obtain ⟨x2, vs2, rfl, hl2⟩ := len_succ hl1
    obtain ⟨x3, vs3, rfl, hl3⟩ := len_succ hl2
    obtain ⟨x4, vs4, rfl, hl4⟩ := len_succ hl3
    obtain ⟨x5, vs5, rfl, hl5⟩ := len_succ hl4
    obtain ⟨x6, vs6, rfl, hl6⟩ := len_succ hl5
    obtain ⟨x7, vs7, rfl, hl7⟩ := len_succ hl6
    obtain ⟨x8, vs8, rfl, hl8⟩ := len_succ hl7
    obtain ⟨x9, vs9, rfl, hl9⟩ := len_succ hl8
    obtain ⟨x10, vs10, rfl, hl10⟩ := len_succ hl9
    obtain ⟨x11, vs11, rfl, hl11⟩ := len_succ hl10
    obtain ⟨x12, vs12, rfl, hl12⟩ := len_succ hl11
    have hnil : vs12 = [] := List.length_eq_zero_iff.1 hl12
    subst hnil
    obtain rfl : x0 = .pointer (some ⟨s, 1, none⟩) := hx0 _ rfl
    obtain rfl : x1 = .int .i64 b := hx1 _ rfl
    obtain rfl : x2 = .pointer (some ⟨s + 1, 1, none⟩) := hx2 _ rfl
    obtain rfl : x3 = .int .i64 d := hx3 _ rfl
    obtain rfl : x4 = .int .i64 (sgnZ b d) := hx4 _ rfl
    obtain rfl : x5 = .pointer (some ⟨s, 0, none⟩) := hx5 _ rfl
    obtain rfl : x6 = .int .i64 a := hx6 _ rfl
    obtain rfl : x7 = .pointer (some ⟨s + 1, 0, none⟩) := hx7 _ rfl
    obtain rfl : x8 = .int .i64 c := hx8 _ rfl
    obtain rfl : x9 = .int .i64 (sgnZ a c) := hx9 _ rfl
    replace hx10 := hx10 _ rfl
    obtain rfl : x11 = .int .i64 (heightZ a b c d) := hx11 _ rfl
    obtain rfl : x12 = .int .i64 (heightZ a b c d) := hx12 _ rfl
    clear hx0 hx1 hx2 hx3 hx4 hx5 hx6 hx7 hx8 hx9 hx11 hx12
    simp only [putAll, Act.put, List.setIfInBounds_toArray, List.set_cons_zero, List.set_cons_succ]
    go_wp2_with fail
    go_ret
    exact ⟨rfl, Gr.trans HE.out HE3.out⟩
set_option maxHeartbeats 400000 in
theorem sinks_g (a b : Int) (w : World) :
    Calls Try.prog 123 #[vecV a b] w fun e w' => e = .returned (.bool (sinksB a b)) ∧ Gr w w' := by
  go_enter Try.func123, Try.ntmps123
  go_wp2_with (go_at_call 75; refine (byHeight_g a b 0 0 _).mono ?_; rintro e w' ⟨rfl, hE⟩)
  all_goals go_ret
  all_goals refine ⟨ret_bool ?_, Gr.trans ⟨Ext.alloc (Ext.refl w) _, Nat.le_refl _⟩ hE⟩
  all_goals rw [← sinks_iff]
set_option maxRecDepth 100000 in
set_option maxHeartbeats 1000000 in
theorem byAngle_g (a b c d : Int) (w : World) (ha : fine a) (hb : fine b) (hc : fine c) (hd : fine d) :
    Calls Try.prog 102 #[vecV a b, vecV c d] w fun e w' => e = .returned (.int .i64 (angleZ a b c d)) ∧ Gr w w' := by
  have hm0 := VRow.alloc (vrow_alloc w [.int .i64 a, .int .i64 b] 31) (.cells #[.int .i64 c, .int .i64 d] 31)
  have hn0 := vrow_alloc (w.alloc (.cells #[.int .i64 a, .int .i64 b] 31)) [.int .i64 c, .int .i64 d] 31
  have hE := Ext.alloc (Ext.alloc (Ext.refl w) (.cells #[.int .i64 a, .int .i64 b] 31)) (.cells #[.int .i64 c, .int .i64 d] 31)
  have hs1 : (w.alloc (.cells #[.int .i64 a, .int .i64 b] 31)).heap.size = w.heap.size + 1 := by simp
  rw [hs1] at hn0
  change VRow ((w.alloc (.cells #[.int .i64 a, .int .i64 b] 31)).alloc (.cells #[.int .i64 c, .int .i64 d] 31)) _ _ _ at hm0 hn0
  have HM := Lib.hid hm0
  have HN := Lib.hid hn0
  have HE := Lib.hid (show Gr w _ from ⟨hE, Nat.le_refl _⟩)
  clear hs1 hm0 hn0 hE
  have HA := Lib.hid ha
  have HB := Lib.hid hb
  have HC := Lib.hid hc
  have HD := Lib.hid hd
  clear ha hb hc hd
  cases h1 : sinksB a b <;> cases h2 : sinksB c d
  · go_enter Try.func102, Try.ntmps102
    go_wp2_with fail
    generalize (w.alloc (.cells #[.int .i64 a, .int .i64 b] 31)).alloc (.cells #[.int .i64 c, .int .i64 d] 31) = w1 at *
    generalize hs : w.heap.size = s at *
    refine wp_region_stable [⟨[], none⟩, ⟨[(0, 5)], none⟩, ⟨[], none⟩, ⟨[(2, 7)], none⟩, ⟨[(1, 6), (3, 8)], none⟩] Gr (MPat [MP.eq (vecV a b), MP.eq (.bool false), MP.eq (vecV c d), MP.eq (.bool false), MP.eq (.bool false)]) (by kernel_rfl) (fun _ _ _ h k => Gr.trans h k) Gr.refl Gr.draw (fun j u x y h => MPat.mono _ j u x y h.1) (by kernel_rfl) ?obs ?rest
    case obs =>
      refine ⟨?_, ?_, ?_, ?_, ?_, trivial⟩
      · intro ev W hf _ _ hst hd
        have e2 : ev (.tmp 2) = .pointer (some ⟨s, 0, none⟩) := hf 2 (by kernel_rfl)
        have kk := VRow.ext HM.out hst.1
        have k0 := VRow.cell kk (k := 0) rfl
        have k1 := VRow.cell kk (k := 1) rfl
        refine st_value (v := vecV a b) ?_ (Gr.refl _) ?_
        · simp [execOp, go_sem, e2, k0, k1]
        · exact rfl
      · intro ev W hf _ hfn hst hd
        obtain ⟨d5, _⟩ := hd
        have e5 : ev (.tmp 5) = vecV a b := d5
        refine st_call_g (f := 123) (args := #[vecV a b]) (by simp [execOp, go_sem, hfn, e5]) (by rw [← h1]; exact sinks_g a b W) (fun _ _ => rfl)
      · intro ev W hf _ _ hst hd
        have e3 : ev (.tmp 3) = .pointer (some ⟨s + 1, 0, none⟩) := hf 3 (by kernel_rfl)
        have kk := VRow.ext HN.out hst.1
        have k0 := VRow.cell kk (k := 0) rfl
        have k1 := VRow.cell kk (k := 1) rfl
        refine st_value (v := vecV c d) ?_ (Gr.refl _) ?_
        · simp [execOp, go_sem, e3, k0, k1]
        · exact rfl
      · intro ev W hf _ hfn hst hd
        obtain ⟨d7, _⟩ := hd
        have e7 : ev (.tmp 7) = vecV c d := d7
        refine st_call_g (f := 123) (args := #[vecV c d]) (by simp [execOp, go_sem, hfn, e7]) (by rw [← h2]; exact sinks_g c d W) (fun _ _ => rfl)
      · intro ev W hf _ _ hst hd
        obtain ⟨d6, d8, _⟩ := hd
        have e6 : ev (.tmp 6) = .bool false := d6
        have e8 : ev (.tmp 8) = .bool false := d8
        refine st_value (v := .bool false) ?_ (Gr.refl _) ?_
        · simp [execOp, go_sem, e6, e8]
        · exact rfl
    case rest =>
      intro vs w3 hl hst hg
      have hx0 : ∀ u, vs[0]? = some u → u = vecV a b := fun u hu => hg 0 u hu
      have hx1 : ∀ u, vs[1]? = some u → u = .bool false := fun u hu => hg 1 u hu
      have hx2 : ∀ u, vs[2]? = some u → u = vecV c d := fun u hu => hg 2 u hu
      have hx3 : ∀ u, vs[3]? = some u → u = .bool false := fun u hu => hg 3 u hu
      have hx4 : ∀ u, vs[4]? = some u → u = .bool false := fun u hu => hg 4 u hu
      have HE3 := Lib.hid hst
      clear hg hst
      obtain ⟨x0, vs0, rfl, hl0⟩ := len_succ hl
      obtain ⟨x1, vs1, rfl, hl1⟩ := len_succ hl0
      obtain ⟨x2, vs2, rfl, hl2⟩ := len_succ hl1
      obtain ⟨x3, vs3, rfl, hl3⟩ := len_succ hl2
      obtain ⟨x4, vs4, rfl, hl4⟩ := len_succ hl3
      have hnil : vs4 = [] := List.length_eq_zero_iff.1 hl4
      subst hnil
      obtain rfl : x0 = vecV a b := hx0 _ rfl
      obtain rfl : x1 = .bool false := hx1 _ rfl
      obtain rfl : x2 = vecV c d := hx2 _ rfl
      obtain rfl : x3 = .bool false := hx3 _ rfl
      obtain rfl : x4 = .bool false := hx4 _ rfl
      clear hx0 hx1 hx2 hx3 hx4
      simp only [putAll, Act.put, List.setIfInBounds_toArray, List.set_cons_zero, List.set_cons_succ]
      have m0 := VRow.cell (VRow.ext HM.out HE3.out.1) (k := 0) rfl
      have m1 := VRow.cell (VRow.ext HM.out HE3.out.1) (k := 1) rfl
      have n0 := VRow.cell (VRow.ext HN.out HE3.out.1) (k := 0) rfl
      have n1 := VRow.cell (VRow.ext HN.out HE3.out.1) (k := 1) rfl
      go_wp2_with (go_at_call 100; refine (cross_g a b c d w3 HA.out HB.out HC.out HD.out).mono ?_; rintro e w4 ⟨rfl, hE4⟩)
      refine (compare_c _ _ w4).mono ?_
      rintro e w5 ⟨rfl, rfl⟩
      go_wp2_with fail
      go_ret
      exact ⟨ret_int (by unfold angleZ; rw [h1, h2]; rfl), Gr.trans HE.out (Gr.trans HE3.out hE4)⟩
  · go_enter Try.func102, Try.ntmps102
    go_wp2_with fail
    generalize (w.alloc (.cells #[.int .i64 a, .int .i64 b] 31)).alloc (.cells #[.int .i64 c, .int .i64 d] 31) = w1 at *
    generalize hs : w.heap.size = s at *
    refine wp_region_stable [⟨[], none⟩, ⟨[(0, 5)], none⟩, ⟨[], none⟩, ⟨[(2, 7)], none⟩, ⟨[(1, 6), (3, 8)], none⟩] Gr (MPat [MP.eq (vecV a b), MP.eq (.bool false), MP.eq (vecV c d), MP.eq (.bool true), MP.eq (.bool true)]) (by kernel_rfl) (fun _ _ _ h k => Gr.trans h k) Gr.refl Gr.draw (fun j u x y h => MPat.mono _ j u x y h.1) (by kernel_rfl) ?obs ?rest
    case obs =>
      refine ⟨?_, ?_, ?_, ?_, ?_, trivial⟩
      · intro ev W hf _ _ hst hd
        have e2 : ev (.tmp 2) = .pointer (some ⟨s, 0, none⟩) := hf 2 (by kernel_rfl)
        have kk := VRow.ext HM.out hst.1
        have k0 := VRow.cell kk (k := 0) rfl
        have k1 := VRow.cell kk (k := 1) rfl
        refine st_value (v := vecV a b) ?_ (Gr.refl _) ?_
        · simp [execOp, go_sem, e2, k0, k1]
        · exact rfl
      · intro ev W hf _ hfn hst hd
        obtain ⟨d5, _⟩ := hd
        have e5 : ev (.tmp 5) = vecV a b := d5
        refine st_call_g (f := 123) (args := #[vecV a b]) (by simp [execOp, go_sem, hfn, e5]) (by rw [← h1]; exact sinks_g a b W) (fun _ _ => rfl)
      · intro ev W hf _ _ hst hd
        have e3 : ev (.tmp 3) = .pointer (some ⟨s + 1, 0, none⟩) := hf 3 (by kernel_rfl)
        have kk := VRow.ext HN.out hst.1
        have k0 := VRow.cell kk (k := 0) rfl
        have k1 := VRow.cell kk (k := 1) rfl
        refine st_value (v := vecV c d) ?_ (Gr.refl _) ?_
        · simp [execOp, go_sem, e3, k0, k1]
        · exact rfl
      · intro ev W hf _ hfn hst hd
        obtain ⟨d7, _⟩ := hd
        have e7 : ev (.tmp 7) = vecV c d := d7
        refine st_call_g (f := 123) (args := #[vecV c d]) (by simp [execOp, go_sem, hfn, e7]) (by rw [← h2]; exact sinks_g c d W) (fun _ _ => rfl)
      · intro ev W hf _ _ hst hd
        obtain ⟨d6, d8, _⟩ := hd
        have e6 : ev (.tmp 6) = .bool false := d6
        have e8 : ev (.tmp 8) = .bool true := d8
        refine st_value (v := .bool true) ?_ (Gr.refl _) ?_
        · simp [execOp, go_sem, e6, e8]
        · exact rfl
    case rest =>
      intro vs w3 hl hst hg
      have hx0 : ∀ u, vs[0]? = some u → u = vecV a b := fun u hu => hg 0 u hu
      have hx1 : ∀ u, vs[1]? = some u → u = .bool false := fun u hu => hg 1 u hu
      have hx2 : ∀ u, vs[2]? = some u → u = vecV c d := fun u hu => hg 2 u hu
      have hx3 : ∀ u, vs[3]? = some u → u = .bool true := fun u hu => hg 3 u hu
      have hx4 : ∀ u, vs[4]? = some u → u = .bool true := fun u hu => hg 4 u hu
      have HE3 := Lib.hid hst
      clear hg hst
      obtain ⟨x0, vs0, rfl, hl0⟩ := len_succ hl
      obtain ⟨x1, vs1, rfl, hl1⟩ := len_succ hl0
      obtain ⟨x2, vs2, rfl, hl2⟩ := len_succ hl1
      obtain ⟨x3, vs3, rfl, hl3⟩ := len_succ hl2
      obtain ⟨x4, vs4, rfl, hl4⟩ := len_succ hl3
      have hnil : vs4 = [] := List.length_eq_zero_iff.1 hl4
      subst hnil
      obtain rfl : x0 = vecV a b := hx0 _ rfl
      obtain rfl : x1 = .bool false := hx1 _ rfl
      obtain rfl : x2 = vecV c d := hx2 _ rfl
      obtain rfl : x3 = .bool true := hx3 _ rfl
      obtain rfl : x4 = .bool true := hx4 _ rfl
      clear hx0 hx1 hx2 hx3 hx4
      simp only [putAll, Act.put, List.setIfInBounds_toArray, List.set_cons_zero, List.set_cons_succ]
      have m0 := VRow.cell (VRow.ext HM.out HE3.out.1) (k := 0) rfl
      have m1 := VRow.cell (VRow.ext HM.out HE3.out.1) (k := 1) rfl
      go_wp2_with fail
      refine (show Calls Try.prog 123 #[vecV a b] w3 _ from (sinks_g a b w3)).mono ?_
      rintro e w4 ⟨rfl, hE4⟩
      rw [h1]
      go_wp2_with fail
      go_ret
      exact ⟨ret_int (by unfold angleZ; rw [h1, h2]; rfl), Gr.trans HE.out (Gr.trans HE3.out hE4)⟩
  · go_enter Try.func102, Try.ntmps102
    go_wp2_with fail
    generalize (w.alloc (.cells #[.int .i64 a, .int .i64 b] 31)).alloc (.cells #[.int .i64 c, .int .i64 d] 31) = w1 at *
    generalize hs : w.heap.size = s at *
    refine wp_region_stable [⟨[], none⟩, ⟨[(0, 5)], none⟩, ⟨[], none⟩, ⟨[(2, 7)], none⟩, ⟨[(1, 6), (3, 8)], none⟩] Gr (MPat [MP.eq (vecV a b), MP.eq (.bool true), MP.eq (vecV c d), MP.eq (.bool false), MP.eq (.bool true)]) (by kernel_rfl) (fun _ _ _ h k => Gr.trans h k) Gr.refl Gr.draw (fun j u x y h => MPat.mono _ j u x y h.1) (by kernel_rfl) ?obs ?rest
    case obs =>
      refine ⟨?_, ?_, ?_, ?_, ?_, trivial⟩
      · intro ev W hf _ _ hst hd
        have e2 : ev (.tmp 2) = .pointer (some ⟨s, 0, none⟩) := hf 2 (by kernel_rfl)
        have kk := VRow.ext HM.out hst.1
        have k0 := VRow.cell kk (k := 0) rfl
        have k1 := VRow.cell kk (k := 1) rfl
        refine st_value (v := vecV a b) ?_ (Gr.refl _) ?_
        · simp [execOp, go_sem, e2, k0, k1]
        · exact rfl
      · intro ev W hf _ hfn hst hd
        obtain ⟨d5, _⟩ := hd
        have e5 : ev (.tmp 5) = vecV a b := d5
        refine st_call_g (f := 123) (args := #[vecV a b]) (by simp [execOp, go_sem, hfn, e5]) (by rw [← h1]; exact sinks_g a b W) (fun _ _ => rfl)
      · intro ev W hf _ _ hst hd
        have e3 : ev (.tmp 3) = .pointer (some ⟨s + 1, 0, none⟩) := hf 3 (by kernel_rfl)
        have kk := VRow.ext HN.out hst.1
        have k0 := VRow.cell kk (k := 0) rfl
        have k1 := VRow.cell kk (k := 1) rfl
        refine st_value (v := vecV c d) ?_ (Gr.refl _) ?_
        · simp [execOp, go_sem, e3, k0, k1]
        · exact rfl
      · intro ev W hf _ hfn hst hd
        obtain ⟨d7, _⟩ := hd
        have e7 : ev (.tmp 7) = vecV c d := d7
        refine st_call_g (f := 123) (args := #[vecV c d]) (by simp [execOp, go_sem, hfn, e7]) (by rw [← h2]; exact sinks_g c d W) (fun _ _ => rfl)
      · intro ev W hf _ _ hst hd
        obtain ⟨d6, d8, _⟩ := hd
        have e6 : ev (.tmp 6) = .bool true := d6
        have e8 : ev (.tmp 8) = .bool false := d8
        refine st_value (v := .bool true) ?_ (Gr.refl _) ?_
        · simp [execOp, go_sem, e6, e8]
        · exact rfl
    case rest =>
      intro vs w3 hl hst hg
      have hx0 : ∀ u, vs[0]? = some u → u = vecV a b := fun u hu => hg 0 u hu
      have hx1 : ∀ u, vs[1]? = some u → u = .bool true := fun u hu => hg 1 u hu
      have hx2 : ∀ u, vs[2]? = some u → u = vecV c d := fun u hu => hg 2 u hu
      have hx3 : ∀ u, vs[3]? = some u → u = .bool false := fun u hu => hg 3 u hu
      have hx4 : ∀ u, vs[4]? = some u → u = .bool true := fun u hu => hg 4 u hu
      have HE3 := Lib.hid hst
      clear hg hst
      obtain ⟨x0, vs0, rfl, hl0⟩ := len_succ hl
      obtain ⟨x1, vs1, rfl, hl1⟩ := len_succ hl0
      obtain ⟨x2, vs2, rfl, hl2⟩ := len_succ hl1
      obtain ⟨x3, vs3, rfl, hl3⟩ := len_succ hl2
      obtain ⟨x4, vs4, rfl, hl4⟩ := len_succ hl3
      have hnil : vs4 = [] := List.length_eq_zero_iff.1 hl4
      subst hnil
      obtain rfl : x0 = vecV a b := hx0 _ rfl
      obtain rfl : x1 = .bool true := hx1 _ rfl
      obtain rfl : x2 = vecV c d := hx2 _ rfl
      obtain rfl : x3 = .bool false := hx3 _ rfl
      obtain rfl : x4 = .bool true := hx4 _ rfl
      clear hx0 hx1 hx2 hx3 hx4
      simp only [putAll, Act.put, List.setIfInBounds_toArray, List.set_cons_zero, List.set_cons_succ]
      have m0 := VRow.cell (VRow.ext HM.out HE3.out.1) (k := 0) rfl
      have m1 := VRow.cell (VRow.ext HM.out HE3.out.1) (k := 1) rfl
      go_wp2_with fail
      refine (show Calls Try.prog 123 #[vecV a b] w3 _ from (sinks_g a b w3)).mono ?_
      rintro e w4 ⟨rfl, hE4⟩
      rw [h1]
      go_wp2_with fail
      go_ret
      exact ⟨ret_int (by unfold angleZ; rw [h1, h2]; rfl), Gr.trans HE.out (Gr.trans HE3.out hE4)⟩
  · go_enter Try.func102, Try.ntmps102
    go_wp2_with fail
    generalize (w.alloc (.cells #[.int .i64 a, .int .i64 b] 31)).alloc (.cells #[.int .i64 c, .int .i64 d] 31) = w1 at *
    generalize hs : w.heap.size = s at *
    refine wp_region_stable [⟨[], none⟩, ⟨[(0, 5)], none⟩, ⟨[], none⟩, ⟨[(2, 7)], none⟩, ⟨[(1, 6), (3, 8)], none⟩] Gr (MPat [MP.eq (vecV a b), MP.eq (.bool true), MP.eq (vecV c d), MP.eq (.bool true), MP.eq (.bool false)]) (by kernel_rfl) (fun _ _ _ h k => Gr.trans h k) Gr.refl Gr.draw (fun j u x y h => MPat.mono _ j u x y h.1) (by kernel_rfl) ?obs ?rest
    case obs =>
      refine ⟨?_, ?_, ?_, ?_, ?_, trivial⟩
      · intro ev W hf _ _ hst hd
        have e2 : ev (.tmp 2) = .pointer (some ⟨s, 0, none⟩) := hf 2 (by kernel_rfl)
        have kk := VRow.ext HM.out hst.1
        have k0 := VRow.cell kk (k := 0) rfl
        have k1 := VRow.cell kk (k := 1) rfl
        refine st_value (v := vecV a b) ?_ (Gr.refl _) ?_
        · simp [execOp, go_sem, e2, k0, k1]
        · exact rfl
      · intro ev W hf _ hfn hst hd
        obtain ⟨d5, _⟩ := hd
        have e5 : ev (.tmp 5) = vecV a b := d5
        refine st_call_g (f := 123) (args := #[vecV a b]) (by simp [execOp, go_sem, hfn, e5]) (by rw [← h1]; exact sinks_g a b W) (fun _ _ => rfl)
      · intro ev W hf _ _ hst hd
        have e3 : ev (.tmp 3) = .pointer (some ⟨s + 1, 0, none⟩) := hf 3 (by kernel_rfl)
        have kk := VRow.ext HN.out hst.1
        have k0 := VRow.cell kk (k := 0) rfl
        have k1 := VRow.cell kk (k := 1) rfl
        refine st_value (v := vecV c d) ?_ (Gr.refl _) ?_
        · simp [execOp, go_sem, e3, k0, k1]
        · exact rfl
      · intro ev W hf _ hfn hst hd
        obtain ⟨d7, _⟩ := hd
        have e7 : ev (.tmp 7) = vecV c d := d7
        refine st_call_g (f := 123) (args := #[vecV c d]) (by simp [execOp, go_sem, hfn, e7]) (by rw [← h2]; exact sinks_g c d W) (fun _ _ => rfl)
      · intro ev W hf _ _ hst hd
        obtain ⟨d6, d8, _⟩ := hd
        have e6 : ev (.tmp 6) = .bool true := d6
        have e8 : ev (.tmp 8) = .bool true := d8
        refine st_value (v := .bool false) ?_ (Gr.refl _) ?_
        · simp [execOp, go_sem, e6, e8]
        · exact rfl
    case rest =>
      intro vs w3 hl hst hg
      have hx0 : ∀ u, vs[0]? = some u → u = vecV a b := fun u hu => hg 0 u hu
      have hx1 : ∀ u, vs[1]? = some u → u = .bool true := fun u hu => hg 1 u hu
      have hx2 : ∀ u, vs[2]? = some u → u = vecV c d := fun u hu => hg 2 u hu
      have hx3 : ∀ u, vs[3]? = some u → u = .bool true := fun u hu => hg 3 u hu
      have hx4 : ∀ u, vs[4]? = some u → u = .bool false := fun u hu => hg 4 u hu
      have HE3 := Lib.hid hst
      clear hg hst
      obtain ⟨x0, vs0, rfl, hl0⟩ := len_succ hl
      obtain ⟨x1, vs1, rfl, hl1⟩ := len_succ hl0
      obtain ⟨x2, vs2, rfl, hl2⟩ := len_succ hl1
      obtain ⟨x3, vs3, rfl, hl3⟩ := len_succ hl2
      obtain ⟨x4, vs4, rfl, hl4⟩ := len_succ hl3
      have hnil : vs4 = [] := List.length_eq_zero_iff.1 hl4
      subst hnil
      obtain rfl : x0 = vecV a b := hx0 _ rfl
      obtain rfl : x1 = .bool true := hx1 _ rfl
      obtain rfl : x2 = vecV c d := hx2 _ rfl
      obtain rfl : x3 = .bool true := hx3 _ rfl
      obtain rfl : x4 = .bool false := hx4 _ rfl
      clear hx0 hx1 hx2 hx3 hx4
      simp only [putAll, Act.put, List.setIfInBounds_toArray, List.set_cons_zero, List.set_cons_succ]
      have m0 := VRow.cell (VRow.ext HM.out HE3.out.1) (k := 0) rfl
      have m1 := VRow.cell (VRow.ext HM.out HE3.out.1) (k := 1) rfl
      have n0 := VRow.cell (VRow.ext HN.out HE3.out.1) (k := 0) rfl
      have n1 := VRow.cell (VRow.ext HN.out HE3.out.1) (k := 1) rfl
      go_wp2_with (go_at_call 100; refine (cross_g a b c d w3 HA.out HB.out HC.out HD.out).mono ?_; rintro e w4 ⟨rfl, hE4⟩)
      refine (compare_c _ _ w4).mono ?_
      rintro e w5 ⟨rfl, rfl⟩
      go_wp2_with fail
      go_ret
      exact ⟨ret_int (by unfold angleZ; rw [h1, h2]; rfl), Gr.trans HE.out (Gr.trans HE3.out hE4)⟩
end Go.Proofs.Ytnpebfchojalcaa

namespace Go.Proofs.Ytnpebfchojalcaa
set_option maxRecDepth 100000
open Go.Shelf
def Try.sortVec_ren : Go.Shelf.Ren := ⟨fun | 6 => 105 | 15 => 127 | 14 => 126 | 28 => 142 | 29 => 143 | 20 => 134 | 21 => 135 | 22 => 136 | 23 => 137 | 24 => 138 | 25 => 139 | 26 => 140 | 27 => 141 | 46 => 145 | 47 => 146 | 48 => 147 | 49 => 148 | 50 => 149 | 57 => 151 | n => n, fun | 22 => 22 | 24 => 31 | 25 => 80 | 3 => 3 | 39 => 151 | 0 => 0 | 53 => 162 | 55 => 164 | 4 => 4 | 46 => 155 | 45 => 154 | 50 => 159 | 5 => 5 | 9 => 9 | 66 => 165 | 70 => 169 | 76 => 171 | 77 => 138 | n => n, fun | n => n⟩
theorem Try.sortVec : Go.Proofs.SlLaysF0.n6 Try.prog Try.sortVec_ren := {
  mixed := by kernel_rfl
  f6 := ⟨Try.f105.name, by decide, Try.func105.trans (congrArg some (by kernel_rfl))⟩
  f14 := ⟨Try.f126.name, by decide, Try.func126.trans (congrArg some (by kernel_rfl))⟩
  f15 := Try.func127.trans (congrArg some (by kernel_rfl))
  f20 := ⟨Try.f134.name, by decide, Try.func134.trans (congrArg some (by kernel_rfl))⟩
  f21 := ⟨Try.f135.name, by decide, Try.func135.trans (congrArg some (by kernel_rfl))⟩
  f22 := ⟨Try.f136.name, by decide, Try.func136.trans (congrArg some (by kernel_rfl))⟩
  f23 := ⟨Try.f137.name, by decide, Try.func137.trans (congrArg some (by kernel_rfl))⟩
  f24 := ⟨Try.f138.name, by decide, Try.func138.trans (congrArg some (by kernel_rfl))⟩
  f25 := ⟨Try.f139.name, by decide, Try.func139.trans (congrArg some (by kernel_rfl))⟩
  f26 := ⟨Try.f140.name, by decide, Try.func140.trans (congrArg some (by kernel_rfl))⟩
  f27 := ⟨Try.f141.name, by decide, Try.func141.trans (congrArg some (by kernel_rfl))⟩
  f28 := Try.func142.trans (congrArg some (by kernel_rfl))
  f29 := Try.func143.trans (congrArg some (by kernel_rfl))
  f46 := ⟨Try.f145.name, by decide, Try.func145.trans (congrArg some (by kernel_rfl))⟩
  f47 := Try.func146.trans (congrArg some (by kernel_rfl))
  f48 := Try.func147.trans (congrArg some (by kernel_rfl))
  f49 := ⟨Try.f148.name, by decide, Try.func148.trans (congrArg some (by kernel_rfl))⟩
  f50 := ⟨Try.f149.name, by decide, Try.func149.trans (congrArg some (by kernel_rfl))⟩
  f57 := ⟨Try.f151.name, by decide, Try.func151.trans (congrArg some (by kernel_rfl))⟩
  t0 := Try.underlying0
  a0 := Try.isAgg0
  z0 := Try.sizeOf0
  v0 := Try.zeroValue0
  t3 := Try.underlying3
  a3 := Try.isAgg3
  z3 := Try.sizeOf3
  v3 := Try.zeroValue3
  t4 := Try.underlying4
  a4 := Try.isAgg4
  z4 := Try.sizeOf4
  v4 := Try.zeroValue4
  t5 := Try.underlying5
  a5 := Try.isAgg5
  z5 := Try.sizeOf5
  v5 := Try.zeroValue5
  t9 := Try.underlying9
  a9 := Try.isAgg9
  z9 := Try.sizeOf9
  v9 := Try.zeroValue9
  t22 := Try.underlying22
  a22 := Try.isAgg22
  z22 := Try.sizeOf22
  v22 := Try.zeroValue22
  t25 := Try.underlying80
  a25 := Try.isAgg80
  z25 := Try.sizeOf80
  v25 := Try.zeroValue80
  t39 := Try.underlying151
  a39 := Try.isAgg151
  z39 := Try.sizeOf151
  v39 := Try.zeroValue151
  t45 := Try.underlying154
  a45 := Try.isAgg154
  z45 := Try.sizeOf154
  v45 := Try.zeroValue154
  t46 := Try.underlying155
  a46 := Try.isAgg155
  z46 := Try.sizeOf155
  v46 := Try.zeroValue155
  t50 := Try.underlying159
  a50 := Try.isAgg159
  z50 := Try.sizeOf159
  v50 := Try.zeroValue159
  t53 := Try.underlying162
  a53 := Try.isAgg162
  z53 := Try.sizeOf162
  v53 := Try.zeroValue162
  t55 := Try.underlying164
  a55 := Try.isAgg164
  z55 := Try.sizeOf164
  v55 := Try.zeroValue164
  t66 := Try.underlying165
  a66 := Try.isAgg165
  z66 := Try.sizeOf165
  v66 := Try.zeroValue165
  t70 := Try.underlying169
  a70 := Try.isAgg169
  z70 := Try.sizeOf169
  v70 := Try.zeroValue169
  t76 := Try.underlying171
  a76 := Try.isAgg171
  z76 := Try.sizeOf171
  v76 := Try.zeroValue171
  t77 := Try.underlying138
  a77 := Try.isAgg138
  z77 := Try.sizeOf138
  v77 := Try.zeroValue138 }
open Go.RowKit Go.Sort
/-- steps that the order can tell -/
abbrev StepA := { p : Pt // okA p }
theorem okOne : okA (1, 0) := ⟨by unfold fine; decide, by unfold fine; decide, by decide⟩
instance : Inhabited StepA := ⟨⟨(1, 0), okOne⟩⟩
def encA (x : StepA) : List Value := [.int .i64 x.1.1, .int .i64 x.1.2]
def cfA (x y : StepA) : Int := angP x.1 y.1
theorem ltOf_A (x y : StepA) : ltOf cfA x y = true ↔ ltA x.1 y.1 := by
  unfold ltOf cfA
  rw [decide_eq_true_eq, angP_neg]
theorem ltOf_A' (x y : StepA) : ltOf cfA x y = false ↔ ¬ ltA x.1 y.1 := by
  rw [← ltOf_A, Bool.not_eq_true]
theorem swoA : SWO (ltOf cfA) where
  irrefl x := by rw [ltOf_A']; exact ltA_irrefl _
  trans x y z h1 h2 := by rw [ltOf_A] at *; exact ltA_trans x.2.2.2 y.2.2.2 z.2.2.2 h1 h2
  ntrans x y z h1 h2 := by rw [ltOf_A'] at *; exact ltA_ntrans x.2.2.2 y.2.2.2 z.2.2.2 h1 h2
theorem cmpA (blk off size : Nat) (w : World) : CmpLays Try.prog 102 #[] encA 2 cfA blk off size w := fun m os dk _ x y => by
  refine (byAngle_g x.1.1 x.1.2 y.1.1 y.1.2 _ x.2.1 x.2.2.1 y.2.1 y.2.2.1).mono ?_
  rintro e w' ⟨rfl, hG⟩
  exact ⟨rfl, hG.grow⟩
section
variable {α : Type} [Inhabited α] (enc : α → List Value)
theorem sort_heap {w : World} {g n : Nat} {cur : Array Value} {e : TypeId} {fr : Nat × Nat} (hb : w.heap[g]? = some (.cells cur e fr)) (d : Array α) (os : Array Obj) :
    (sortWorldK enc 2 w g 0 n d os).heap[g]? = some (.cells (putCells id 0 (flatK enc 2 d) cur) e fr) := by
  have hl := (Array.getElem?_eq_some_iff.1 hb).1
  unfold sortWorldK putRowK
  rw [heap_grow_old _ _ (by simpa [putRow, mapBlock, Sort.ahead] using hl)]
  simp [putRow, mapBlock, Sort.ahead, Array.getElem?_modify, hb, onCells]
theorem sort_held {w : World} {g n : Nat} (d : Array α) (os : Array Obj) : Held (fun j => j < w.heap.size ∧ j ≠ g) w (sortWorldK enc 2 w g 0 n d os) := by
  refine ⟨rfl, rfl, rfl, ?_, fun k hk => ?_⟩
  · unfold sortWorldK putRowK
    simp [grow, putRow, mapBlock, Sort.ahead]
  · unfold sortWorldK putRowK
    rw [heap_grow_old _ _ (by simpa [putRow, mapBlock, Sort.ahead] using hk.1)]
    have : ¬ g = k := fun e => hk.2 e.symm
    simp [putRow, mapBlock, Sort.ahead, Array.getElem?_modify, this]
end
def listP (d : Array StepA) : List Pt := d.toList.map (·.1)
theorem flat_cells (d : Array StepA) (j : Nat) (hj : j < d.size * 2) : (cellsOf (listP d))[j]? = some ((encA d[j / 2]!)[j % 2]!) := by
  have hk : j / 2 < d.size := by omega
  have hq : (listP d)[j / 2]? = some d[j / 2]!.1 := by
    unfold listP
    rw [List.getElem?_map, Array.getElem?_toList, Array.getElem?_eq_getElem hk, getElem!_pos d _ hk]
    rfl
  obtain ⟨h1, h2⟩ := cellsOf_at _ _ _ hq
  rcases Nat.mod_two_eq_zero_or_one j with h | h
  · rw [h, show j = j / 2 * 2 by omega, h1, show j / 2 * 2 / 2 = j / 2 by omega]; rfl
  · rw [h, show j = j / 2 * 2 + 1 by omega, h2, show (j / 2 * 2 + 1) / 2 = j / 2 by omega]; rfl
theorem take_flat (cur : Array Value) (d : Array StepA) (h : d.size * 2 ≤ cur.size) : (putCells id 0 (flatK encA 2 d) cur).toList.take (d.size * 2) = cellsOf (listP d) := by
  apply List.ext_getElem?
  intro j
  by_cases hj : j < d.size * 2
  · rw [List.getElem?_take_of_lt hj, flat_cells d j hj, Array.getElem?_toList]
    unfold putCells
    rw [Array.getElem?_mapIdx, Array.getElem?_eq_getElem (show j < cur.size by omega)]
    simp only [Option.map_some, size_flatK, Nat.zero_le, Nat.zero_add, hj, and_self, if_true, Nat.sub_zero, id_eq]
    rw [get_flatK _ _ _ _ hj]
  · rw [List.getElem?_eq_none (by simp; omega), List.getElem?_eq_none (by rw [cellsOf_length]; unfold listP; simp; omega)]
theorem sort_c : SortC 102 ltA okA := by
  intro g cap base n ds W hO hn hok hm
  obtain ⟨d, hd⟩ : ∃ d : Array StepA, listP d = ds := ⟨(ds.pmap (fun q h => ⟨q, h⟩) hok).toArray, by unfold listP; simp [List.map_pmap]⟩
  have hds : d.size = n := by rw [← hn, ← hd]; unfold listP; simp
  rcases hO.2 with ⟨h0, h1⟩ | ⟨g', cap', cur, hv, hg, hc, hnc, hmx, hsz, htk⟩
  · cases h0
  · injection hv with e1 e2 e3
    injection e1 with e1
    injection e1 with e1 _
    subst e1 e3
    have hlt := (Array.getElem?_eq_some_iff.1 hc).1
    have hH : HoldsK encA 2 W g 0 d := by
      intro j hj
      rw [size_flatK] at hj
      rw [Nat.zero_add, get_flatK _ _ _ _ hj]
      have h1 := flat_cells d j hj
      rw [hd, ← htk, List.getElem?_take_of_lt (by omega), Array.getElem?_toList] at h1
      refine ⟨?_, ?_⟩
      · simp [World.cell?, hc, h1]
      · simp [World.frozen?, hc]
    have hcon := AnyQ.slices_SortFunc Try.sortVec 2 Try.isAgg31 Try.sizeOf31 encA (fun _ => rfl) (fun x v hv => by simp [encA] at hv; rcases hv with rfl | rfl <;> rfl) cfA swoA 102 #[] g 0 cap d W (enters_of Try.func102 (by kernel_rfl) rfl) (cmpA g 0 d.size W) hH hlt (by omega)
    change Calls Try.prog 105 _ _ _ at hcon
    rw [hds] at hcon
    refine hcon.mono ?_
    rintro e w' ⟨rfl, d', m, os, ⟨hp1, _, hp3⟩, hs, rfl⟩
    have hd's : d'.size = n := by rw [hp1, hds]
    refine ⟨rfl, listP d', ?_, ?_, ⟨?_, .inr ⟨g, cap, _, rfl, hg, sort_heap encA hc d' os, hnc, hmx, ?_, ?_⟩⟩, sort_held encA d' os⟩
    · rw [← hd]
      unfold listP
      refine List.Perm.map _ ?_
      have e1 : d'.extract 0 n = d' := by rw [← hd's]; simp
      have e2 : d.extract 0 n = d := by rw [← hds]; simp
      rw [e1, e2] at hp3
      exact hp3
    · unfold listP
      rw [List.pairwise_map, List.pairwise_iff_getElem]
      intro i j hi hj hij
      rw [← ltOf_A']
      have := hs i j (Nat.zero_le _) hij (by simp at hj; omega)
      simp at hi hj
      rwa [getElem!_pos d' i hi, getElem!_pos d' j hj] at this
    · rw [cellsOf_length]; unfold listP; simp [hd's]
    · unfold putCells; simp [hsz]
    · rw [← hd's]; exact take_flat cur d' (by rw [hd's, hsz]; exact Nat.mul_le_mul_right 2 hnc)
end Go.Proofs.Ytnpebfchojalcaa

namespace Go.Proofs.Ytnpebfchojalcaa
set_option maxRecDepth 100000
open Go.RowKit Go.Shelf
set_option maxRecDepth 100000 in
set_option maxHeartbeats 1000000 in
theorem Sum_c (u v : Value) (ps qs : List Pt) (w : World) (hu : Vecs w u ps) (hv : Vecs w v qs) (h1 : validB ps = true) (h2 : validB qs = true) :
    Calls Try.prog 34 #[u, v] w fun e w' => ∃ r ds, Sorted ps qs ds ∧ e = limR r (sumP ps qs ds) ∧ Vecs w' r (sumP ps qs ds) ∧ Ext w w' := by
  obtain ⟨a, cap, rfl, hl, hm, _⟩ := hu.at
  obtain ⟨a2, cap2, rfl, hl2, hm2, _⟩ := hv.at
  have HU := Lib.hid hu
  have HV := Lib.hid hv
  have H1 := Lib.hid h1
  have H2 := Lib.hid h2
  clear hu hv h1 h2
  go_enter Try.func34, Try.ntmps34
  go_wp2_with fail
  refine (valid_c _ ps _ HU.out).mono ?_
  rintro e w2 ⟨rfl, hE⟩
  rw [H1.out]
  have HE := Lib.hid hE
  clear hE
  go_wp2_with fail
  refine (valid_c _ qs _ (HV.out.ext HE.out)).mono ?_
  rintro e w3 ⟨rfl, hE3⟩
  rw [H2.out]
  have HE3 := Lib.hid (Ext.trans HE.out hE3)
  clear hE3
  go_wp2_with fail
  refine (sum_c sort_c _ _ ps qs w3 (HU.out.ext HE3.out) (HV.out.ext HE3.out) H1.out H2.out).mono ?_
  rintro e w4 ⟨r, ds, rfl, hp, hs, hr, hE4⟩
  have HP := Lib.hid (show Sorted ps qs ds from ⟨hp, hs⟩)
  have HR := Lib.hid (show Vecs w4 r (sumP ps qs ds) from hr)
  have HE4 := Lib.hid (Ext.trans HE3.out hE4)
  clear hp hs hr hE4
  generalize hss : sumP ps qs ds = ss at *
  have HSS := Lib.hid hss
  clear hss
  go_wp2_with fail
  refine (limited_c r ss w4 HR.out).mono ?_
  rintro e w5 ⟨rfl, hE5⟩
  obtain ⟨ra, rb, hab⟩ := lim_two r ss
  have HAB := Lib.hid hab
  have HR5 := Lib.hid (HR.out.ext hE5)
  have HE5 := Lib.hid (Ext.trans HE4.out hE5)
  rw [hab]
  clear hab hE5
  simp only [two]
  go_wp2_with fail
  go_ret2
  refine ⟨r, ds, HP.out, ?_, ?_, HE5.out⟩
  · rw [HSS.out, HAB.out]; rfl
  · rw [HSS.out]; exact HR5.out
instance (a b : Pt) : Decidable (ltA a b) := by unfold ltA; infer_instance
def triT : List Pt := [(0, 0), (2, 0), (0, 2)]
def triF : List Pt := [(0, -2), (0, 0), (-2, 0)]
def triD : List Pt := [(2, 0), (0, 2), (-2, 2), (-2, 0), (0, -2), (2, -2)]
def triS : List Pt := [(0, -2), (2, -2), (2, 0), (0, 2), (-2, 2), (-2, 0)]
theorem tri_valid : validB triT = true := by decide +kernel
theorem tri_flip : flipP triT = triF := by decide +kernel
theorem triF_valid : validB triF = true := by decide +kernel
theorem triS_valid : validB triS = true := by decide +kernel
theorem tri_area : areaZ triS = 24 := by decide +kernel
theorem tri_sorted {ds : List Pt} (h : Sorted triT triF ds) : sumP triT triF ds = triS := by
  have e : ds = triD := by
    have hp : ds.Perm triD := h.1.trans (by decide +kernel)
    refine perm_sorted ds triD hp h.2 (by decide +kernel) ?_
    have hm : ∀ x ∈ triD, ∀ y ∈ triD, ¬ ltA y x → ¬ ltA x y → x = y := by decide +kernel
    exact fun x hx y hy h1 h2 => hm x (hp.mem_iff.1 hx) y (hp.mem_iff.1 hy) h1 h2
  rw [e]
  decide +kernel
end Go.Proofs.Ytnpebfchojalcaa
