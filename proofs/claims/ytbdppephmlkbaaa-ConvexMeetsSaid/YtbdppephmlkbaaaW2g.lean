import Derived.Test.YtbdppephmlkbaaaW2
import Derived.Shelf.SlSortCmp.WholeK
namespace Go.Proofs.Ytbdppephmlkbaaa
set_option maxRecDepth 100000
open Go.RowKit
/-- new blocks and draws alone -/
def Gr (x y : World) : Prop := Ext x y ∧ x.drawn ≤ y.drawn
theorem Gr.refl (w : World) : Gr w w := ⟨Ext.refl w, Nat.le_refl _⟩
theorem Gr.trans {a b c : World} (h : Gr a b) (k : Gr b c) : Gr a c := ⟨Ext.trans h.1 k.1, Nat.le_trans h.2 k.2⟩
theorem Gr.draw (x : World) : Gr x { x with drawn := x.drawn + 1 } := ⟨(Below.refl x.heap.size x).drew, Nat.le_succ _⟩
theorem Gr.grow {w w' : World} (h : Gr w w') : ∃ q os, w' = Sort.grow (w.drewN q) os := by
  obtain ⟨he, hd⟩ := h
  refine ⟨w'.drawn - w.drawn, w'.heap.extract w.heap.size w'.heap.size, ?_⟩
  have hh : w'.heap = w.heap ++ w'.heap.extract w.heap.size w'.heap.size := by
    apply Array.ext_getElem?
    intro i
    by_cases hi : i < w.heap.size
    · rw [Array.getElem?_append_left hi]; exact he.block i hi
    · rw [Array.getElem?_append_right (by omega), Array.getElem?_extract]
      have := he.size
      split
      · congr 1; omega
      · rw [Array.getElem?_eq_none (by omega)]
  have ho := he.os
  have ht := he.tape
  have hp := he.output
  cases w' with
  | mk heap tape drawn os output =>
    cases w with
    | mk heap0 tape0 drawn0 os0 output0 =>
      simp only at *
      subst ho ht hp
      unfold Sort.grow World.drewN
      simp only [World.mk.injEq, true_and, and_true]
      exact ⟨hh, by omega⟩
theorem st_new_g {P : Program} {G : Value → World → Prop} {w : World} {r : Result Next} {v : Value} {o : Obj} (hr : r = .ok (.value v) (w.alloc o)) (hg : G v (w.alloc o)) : stUpon P Gr G w r := by
  subst hr
  exact ⟨⟨(Below.refl _ _).alloc (Nat.le_refl _) _, Nat.le_refl _⟩, hg⟩
theorem st_call_g {P : Program} {G : Value → World → Prop} {w : World} {r : Result Next} {f : FuncId} {args : Array Value} {u : Value} (hr : r = .ok (.enter f args) w)
    (h : Calls P f args w fun e w'' => e = .returned u ∧ Gr w w'') (hg : ∀ w'', Gr w w'' → G u w'') : stUpon P Gr G w r :=
  st_enter hr (h.mono fun _ w'' he => ⟨u, he.1, he.2, hg w'' he.2⟩)
theorem calls_same_g {f : FuncId} {args : Array Value} {w : World} {u : Value} (h : Calls Try.prog f args w fun e w' => e = .returned u ∧ w = w') : Calls Try.prog f args w fun e w' => e = .returned u ∧ Gr w w' :=
  h.mono fun _ _ he => ⟨he.1, by rw [← he.2]; exact Gr.refl _⟩
set_option maxHeartbeats 400000 in
theorem cross_g (a b c d : Int) (w : World) (ha : fine a) (hb : fine b) (hc : fine c) (hd : fine d) :
    Calls Try.prog 46 #[vecV a b, vecV c d] w fun e w' => e = .returned (.int .i64 (crossZ a b c d)) ∧ Gr w w' := by
  have m1 := mul_fine ha hd
  have m2 := mul_fine hb hc
  have e1 : wrap64 (a * d) = a * d := by unfold wrap64; omega
  have e2 : wrap64 (b * c) = b * c := by unfold wrap64; omega
  have e3 : wrap64 (a * d - b * c) = a * d - b * c := by unfold wrap64; omega
  clear ha hb hc hd m1 m2
  go_enter Try.func46, Try.ntmps46
  go_wp2
  all_goals go_ret
  all_goals exact ⟨ret_int (by first | rfl | simp [crossZ, e3]), by (repeat' (first | exact Below.refl _ _ | refine Below.drew ?_ | refine Below.alloc ?_ (by simp <;> omega) _ | refine Below.setCell ?_ (by simp <;> omega) _)), Nat.le_refl _⟩
set_option maxRecDepth 100000 in
set_option maxHeartbeats 1000000 in
theorem byHeight_g (a b c d : Int) (w : World) :
    Calls Try.prog 64 #[vecV a b, vecV c d] w fun e w' => e = .returned (.int .i64 (heightZ a b c d)) ∧ Gr w w' := by
  have hm0 := VRow.alloc (vrow_alloc w [.int .i64 a, .int .i64 b] 32) (.cells #[.int .i64 c, .int .i64 d] 32)
  have hn0 := vrow_alloc (w.alloc (.cells #[.int .i64 a, .int .i64 b] 32)) [.int .i64 c, .int .i64 d] 32
  have hE := Ext.alloc (Ext.alloc (Ext.refl w) (.cells #[.int .i64 a, .int .i64 b] 32)) (.cells #[.int .i64 c, .int .i64 d] 32)
  have hs1 : (w.alloc (.cells #[.int .i64 a, .int .i64 b] 32)).heap.size = w.heap.size + 1 := by simp
  rw [hs1] at hn0
  change VRow ((w.alloc (.cells #[.int .i64 a, .int .i64 b] 32)).alloc (.cells #[.int .i64 c, .int .i64 d] 32)) _ _ _ at hm0 hn0
  have HM := Lib.hid hm0
  have HN := Lib.hid hn0
  have HE := Lib.hid (show Gr w _ from ⟨hE, Nat.le_refl _⟩)
  clear hs1 hm0 hn0 hE
  go_enter Try.func64, Try.ntmps64
  go_wp2_with fail
  generalize (w.alloc (.cells #[.int .i64 a, .int .i64 b] 32)).alloc (.cells #[.int .i64 c, .int .i64 d] 32) = w1 at *
  generalize hs : w.heap.size = s at *
  refine wp_region_stable [⟨[], none⟩, ⟨[(0, 5)], none⟩, ⟨[], none⟩, ⟨[(2, 7)], none⟩, ⟨[(1, 6), (3, 8)], none⟩, ⟨[], none⟩, ⟨[(5, 10)], none⟩, ⟨[], none⟩, ⟨[(7, 12)], none⟩, ⟨[(6, 11), (8, 13)], none⟩, ⟨[(4, 9), (9, 14)], none⟩, ⟨[(10, 15)], none⟩, ⟨[(11, 16)], none⟩] Gr (MPat [MP.eq (.pointer (some ⟨s, 1, none⟩)), MP.eq (.int .i64 b), MP.eq (.pointer (some ⟨s + 1, 1, none⟩)), MP.eq (.int .i64 d), MP.eq (.int .i64 (sgnZ b d)), MP.eq (.pointer (some ⟨s, 0, none⟩)), MP.eq (.int .i64 a), MP.eq (.pointer (some ⟨s + 1, 0, none⟩)), MP.eq (.int .i64 c), MP.eq (.int .i64 (sgnZ a c)), MP.ints [sgnZ b d, sgnZ a c], MP.eq (.int .i64 (heightZ a b c d)), MP.eq (.int .i64 (heightZ a b c d))]) (by kernel_rfl) (fun _ _ _ h k => Gr.trans h k) Gr.refl Gr.draw (fun j u x y h => MPat.mono _ j u x y h.1) (by kernel_rfl) ?obs ?rest
  case obs =>
    refine ⟨?_, ?_, ?_, ?_, ?_, ?_, ?_, ?_, ?_, ?_, ?_, ?_, ?_, trivial⟩
    · intro ev W hf _ _ hst hd
      have e2 : ev (.tmp 2) = .pointer (some ⟨s, 0, none⟩) := hf 2 (by kernel_rfl)
      refine st_value (v := .pointer (some ⟨s, 1, none⟩)) ?_ (Gr.refl _) ?_
      · simp [execOp, go_sem, e2]
      · exact rfl
    · intro ev W hf _ _ hst hd
      obtain ⟨d5, _⟩ := hd
      have e5 : ev (.tmp 5) = .pointer (some ⟨s, 1, none⟩) := d5
      have kk := VRow.ext HM.out hst.1
      have k1 := VRow.cell kk (k := 1) rfl
      refine st_value (v := .int .i64 b) ?_ (Gr.refl _) ?_
      · simp [execOp, go_sem, e5, k1]
      · exact rfl
    · intro ev W hf _ _ hst hd
      have e3 : ev (.tmp 3) = .pointer (some ⟨s + 1, 0, none⟩) := hf 3 (by kernel_rfl)
      refine st_value (v := .pointer (some ⟨s + 1, 1, none⟩)) ?_ (Gr.refl _) ?_
      · simp [execOp, go_sem, e3]
      · exact rfl
    · intro ev W hf _ _ hst hd
      obtain ⟨d7, _⟩ := hd
      have e7 : ev (.tmp 7) = .pointer (some ⟨s + 1, 1, none⟩) := d7
      have kk := VRow.ext HN.out hst.1
      have k1 := VRow.cell kk (k := 1) rfl
      refine st_value (v := .int .i64 d) ?_ (Gr.refl _) ?_
      · simp [execOp, go_sem, e7, k1]
      · exact rfl
    · intro ev W hf _ hfn hst hd
      obtain ⟨d6, d8, _⟩ := hd
      have e6 : ev (.tmp 6) = .int .i64 b := d6
      have e8 : ev (.tmp 8) = .int .i64 d := d8
      refine st_call_g (f := 80) (args := #[.int .i64 b, .int .i64 d]) (by simp [execOp, go_sem, hfn, e6, e8]) (calls_same_g (compare_c b d W)) (fun _ _ => rfl)
    · intro ev W hf _ _ hst hd
      have e2 : ev (.tmp 2) = .pointer (some ⟨s, 0, none⟩) := hf 2 (by kernel_rfl)
      refine st_value (v := .pointer (some ⟨s, 0, none⟩)) ?_ (Gr.refl _) ?_
      · simp [execOp, go_sem, e2]
      · exact rfl
    · intro ev W hf _ _ hst hd
      obtain ⟨d10, _⟩ := hd
      have e10 : ev (.tmp 10) = .pointer (some ⟨s, 0, none⟩) := d10
      have kk := VRow.ext HM.out hst.1
      have k0 := VRow.cell kk (k := 0) rfl
      refine st_value (v := .int .i64 a) ?_ (Gr.refl _) ?_
      · simp [execOp, go_sem, e10, k0]
      · exact rfl
    · intro ev W hf _ _ hst hd
      have e3 : ev (.tmp 3) = .pointer (some ⟨s + 1, 0, none⟩) := hf 3 (by kernel_rfl)
      refine st_value (v := .pointer (some ⟨s + 1, 0, none⟩)) ?_ (Gr.refl _) ?_
      · simp [execOp, go_sem, e3]
      · exact rfl
    · intro ev W hf _ _ hst hd
      obtain ⟨d12, _⟩ := hd
      have e12 : ev (.tmp 12) = .pointer (some ⟨s + 1, 0, none⟩) := d12
      have kk := VRow.ext HN.out hst.1
      have k0 := VRow.cell kk (k := 0) rfl
      refine st_value (v := .int .i64 c) ?_ (Gr.refl _) ?_
      · simp [execOp, go_sem, e12, k0]
      · exact rfl
    · intro ev W hf _ hfn hst hd
      obtain ⟨d11, d13, _⟩ := hd
      have e11 : ev (.tmp 11) = .int .i64 a := d11
      have e13 : ev (.tmp 13) = .int .i64 c := d13
      refine st_call_g (f := 80) (args := #[.int .i64 a, .int .i64 c]) (by simp [execOp, go_sem, hfn, e11, e13]) (calls_same_g (compare_c a c W)) (fun _ _ => rfl)
    · intro ev W hf _ hfn hst hd
      obtain ⟨d9, d14, _⟩ := hd
      have e9 : ev (.tmp 9) = .int .i64 (sgnZ b d) := d9
      have e14 : ev (.tmp 14) = .int .i64 (sgnZ a c) := d14
      refine st_new_g (v := .slice (some ⟨W.heap.size, 0, none⟩) 2 2) (o := .cells #[.int .i64 (sgnZ b d), .int .i64 (sgnZ a c)] 3) ?_ ?_
      · simp [execOp, go_sem, e9, e14]
      · exact IRow.ints' (xs := [sgnZ b d, sgnZ a c]) (vrow_alloc W [.int .i64 (sgnZ b d), .int .i64 (sgnZ a c)] 3) rfl (by simp) (by simp)
    · intro ev W hf _ hfn hst hd
      obtain ⟨d15, _⟩ := hd
      have d15 : Ints W (ev (.tmp 15)) [sgnZ b d, sgnZ a c] := d15
      refine st_call_g (f := 86) (args := #[ev (.tmp 15)]) (by simp [execOp, go_sem, hfn]) ?_ (fun _ _ => rfl)
      have h9 := calls_same_g (or_c _ _ W d15)
      rw [heightZ_or] at h9
      exact h9
    · intro ev W hf _ _ hst hd
      obtain ⟨d16, _⟩ := hd
      have e16 : ev (.tmp 16) = .int .i64 (heightZ a b c d) := d16
      refine st_value (v := .int .i64 (heightZ a b c d)) ?_ (Gr.refl _) ?_
      · simp [execOp, go_sem, e16]
      · exact rfl
  case rest =>
    intro vs w3 hl hst hg
    have hx0 : ∀ u, vs[0]? = some u → u = .pointer (some ⟨s, 1, none⟩) := fun u hu => hg 0 u hu
    have hx1 : ∀ u, vs[1]? = some u → u = .int .i64 b := fun u hu => hg 1 u hu
    have hx2 : ∀ u, vs[2]? = some u → u = .pointer (some ⟨s + 1, 1, none⟩) := fun u hu => hg 2 u hu
    have hx3 : ∀ u, vs[3]? = some u → u = .int .i64 d := fun u hu => hg 3 u hu
    have hx4 : ∀ u, vs[4]? = some u → u = .int .i64 (sgnZ b d) := fun u hu => hg 4 u hu
    have hx5 : ∀ u, vs[5]? = some u → u = .pointer (some ⟨s, 0, none⟩) := fun u hu => hg 5 u hu
    have hx6 : ∀ u, vs[6]? = some u → u = .int .i64 a := fun u hu => hg 6 u hu
    have hx7 : ∀ u, vs[7]? = some u → u = .pointer (some ⟨s + 1, 0, none⟩) := fun u hu => hg 7 u hu
    have hx8 : ∀ u, vs[8]? = some u → u = .int .i64 c := fun u hu => hg 8 u hu
    have hx9 : ∀ u, vs[9]? = some u → u = .int .i64 (sgnZ a c) := fun u hu => hg 9 u hu
    have hx10 : ∀ u, vs[10]? = some u → MP.p (MP.ints [sgnZ b d, sgnZ a c]) u w3 := fun u hu => hg 10 u hu
    have hx11 : ∀ u, vs[11]? = some u → u = .int .i64 (heightZ a b c d) := fun u hu => hg 11 u hu
    have hx12 : ∀ u, vs[12]? = some u → u = .int .i64 (heightZ a b c d) := fun u hu => hg 12 u hu
    have HE3 := Lib.hid hst
    clear hg hst
    obtain ⟨x0, vs0, rfl, hl0⟩ := len_succ hl
    obtain ⟨x1, vs1, rfl, hl1⟩ := len_succ hl0
    obtain ⟨x2, vs2, rfl, hl2⟩ := len_succ hl1
    obtain ⟨x3, vs3, rfl, hl3⟩ := len_succ hl2
    obtain ⟨x4, vs4, rfl, hl4⟩ := len_succ hl3
    obtain ⟨x5, vs5, rfl, hl5⟩ := len_succ hl4
    obtain ⟨x6, vs6, rfl, hl6⟩ := len_succ hl5
    obtain ⟨x7, vs7, rfl, hl7⟩ := len_succ hl6
    obtain ⟨x8, vs8, rfl, hl8⟩ := len_succ hl7
    obtain ⟨x9, vs9, rfl, hl9⟩ := len_succ hl8
    obtain ⟨x10, vs10, rfl, hl10⟩ := len_succ hl9
    obtain ⟨x11, vs11, rfl, hl11⟩ := len_succ hl10
    obtain ⟨x12, vs12, rfl, hl12⟩ := len_succ hl11
    have hnil : vs12 = [] := List.length_eq_zero_iff.1 hl12
    subst hnil
    obtain rfl : x0 = .pointer (some ⟨s, 1, none⟩) := hx0 _ rfl
    obtain rfl : x1 = .int .i64 b := hx1 _ rfl
    obtain rfl : x2 = .pointer (some ⟨s + 1, 1, none⟩) := hx2 _ rfl
    obtain rfl : x3 = .int .i64 d := hx3 _ rfl
    obtain rfl : x4 = .int .i64 (sgnZ b d) := hx4 _ rfl
    obtain rfl : x5 = .pointer (some ⟨s, 0, none⟩) := hx5 _ rfl
    obtain rfl : x6 = .int .i64 a := hx6 _ rfl
    obtain rfl : x7 = .pointer (some ⟨s + 1, 0, none⟩) := hx7 _ rfl
    obtain rfl : x8 = .int .i64 c := hx8 _ rfl
    obtain rfl : x9 = .int .i64 (sgnZ a c) := hx9 _ rfl
    replace hx10 := hx10 _ rfl
    obtain rfl : x11 = .int .i64 (heightZ a b c d) := hx11 _ rfl
    obtain rfl : x12 = .int .i64 (heightZ a b c d) := hx12 _ rfl
    clear hx0 hx1 hx2 hx3 hx4 hx5 hx6 hx7 hx8 hx9 hx11 hx12
    simp only [putAll, Act.put, List.setIfInBounds_toArray, List.set_cons_zero, List.set_cons_succ]
    go_wp2_with fail
    go_ret
    exact ⟨rfl, Gr.trans HE.out HE3.out⟩
set_option maxHeartbeats 400000 in
theorem sinks_g (a b : Int) (w : World) :
    Calls Try.prog 79 #[vecV a b] w fun e w' => e = .returned (.bool (sinksB a b)) ∧ Gr w w' := by
  go_enter Try.func79, Try.ntmps79
  go_wp2_with (go_at_call 64; refine (byHeight_g a b 0 0 _).mono ?_; rintro e w' ⟨rfl, hE⟩)
  all_goals go_ret
  all_goals refine ⟨ret_bool ?_, Gr.trans ⟨Ext.alloc (Ext.refl w) _, Nat.le_refl _⟩ hE⟩
  all_goals rw [← sinks_iff]
set_option maxRecDepth 100000 in
set_option maxHeartbeats 1000000 in
theorem byAngle_g (a b c d : Int) (w : World) (ha : fine a) (hb : fine b) (hc : fine c) (hd : fine d) :
    Calls Try.prog 48 #[vecV a b, vecV c d] w fun e w' => e = .returned (.int .i64 (angleZ a b c d)) ∧ Gr w w' := by
  have hm0 := VRow.alloc (vrow_alloc w [.int .i64 a, .int .i64 b] 32) (.cells #[.int .i64 c, .int .i64 d] 32)
  have hn0 := vrow_alloc (w.alloc (.cells #[.int .i64 a, .int .i64 b] 32)) [.int .i64 c, .int .i64 d] 32
  have hE := Ext.alloc (Ext.alloc (Ext.refl w) (.cells #[.int .i64 a, .int .i64 b] 32)) (.cells #[.int .i64 c, .int .i64 d] 32)
  have hs1 : (w.alloc (.cells #[.int .i64 a, .int .i64 b] 32)).heap.size = w.heap.size + 1 := by simp
  rw [hs1] at hn0
  change VRow ((w.alloc (.cells #[.int .i64 a, .int .i64 b] 32)).alloc (.cells #[.int .i64 c, .int .i64 d] 32)) _ _ _ at hm0 hn0
  have HM := Lib.hid hm0
  have HN := Lib.hid hn0
  have HE := Lib.hid (show Gr w _ from ⟨hE, Nat.le_refl _⟩)
  clear hs1 hm0 hn0 hE
  have HA := Lib.hid ha
  have HB := Lib.hid hb
  have HC := Lib.hid hc
  have HD := Lib.hid hd
  clear ha hb hc hd
  cases h1 : sinksB a b <;> cases h2 : sinksB c d
  · go_enter Try.func48, Try.ntmps48
    go_wp2_with fail
    generalize (w.alloc (.cells #[.int .i64 a, .int .i64 b] 32)).alloc (.cells #[.int .i64 c, .int .i64 d] 32) = w1 at *
    generalize hs : w.heap.size = s at *
    refine wp_region_stable [⟨[], none⟩, ⟨[(0, 5)], none⟩, ⟨[], none⟩, ⟨[(2, 7)], none⟩, ⟨[(1, 6), (3, 8)], none⟩] Gr (MPat [MP.eq (vecV a b), MP.eq (.bool false), MP.eq (vecV c d), MP.eq (.bool false), MP.eq (.bool false)]) (by kernel_rfl) (fun _ _ _ h k => Gr.trans h k) Gr.refl Gr.draw (fun j u x y h => MPat.mono _ j u x y h.1) (by kernel_rfl) ?obs ?rest
    case obs =>
      refine ⟨?_, ?_, ?_, ?_, ?_, trivial⟩
      · intro ev W hf _ _ hst hd
        have e2 : ev (.tmp 2) = .pointer (some ⟨s, 0, none⟩) := hf 2 (by kernel_rfl)
        have kk := VRow.ext HM.out hst.1
        have k0 := VRow.cell kk (k := 0) rfl
        have k1 := VRow.cell kk (k := 1) rfl
        refine st_value (v := vecV a b) ?_ (Gr.refl _) ?_
        · simp [execOp, go_sem, e2, k0, k1]
        · exact rfl
      · intro ev W hf _ hfn hst hd
        obtain ⟨d5, _⟩ := hd
        have e5 : ev (.tmp 5) = vecV a b := d5
        refine st_call_g (f := 79) (args := #[vecV a b]) (by simp [execOp, go_sem, hfn, e5]) (by rw [← h1]; exact sinks_g a b W) (fun _ _ => rfl)
      · intro ev W hf _ _ hst hd
        have e3 : ev (.tmp 3) = .pointer (some ⟨s + 1, 0, none⟩) := hf 3 (by kernel_rfl)
        have kk := VRow.ext HN.out hst.1
        have k0 := VRow.cell kk (k := 0) rfl
        have k1 := VRow.cell kk (k := 1) rfl
        refine st_value (v := vecV c d) ?_ (Gr.refl _) ?_
        · simp [execOp, go_sem, e3, k0, k1]
        · exact rfl
      · intro ev W hf _ hfn hst hd
        obtain ⟨d7, _⟩ := hd
        have e7 : ev (.tmp 7) = vecV c d := d7
        refine st_call_g (f := 79) (args := #[vecV c d]) (by simp [execOp, go_sem, hfn, e7]) (by rw [← h2]; exact sinks_g c d W) (fun _ _ => rfl)
      · intro ev W hf _ _ hst hd
        obtain ⟨d6, d8, _⟩ := hd
        have e6 : ev (.tmp 6) = .bool false := d6
        have e8 : ev (.tmp 8) = .bool false := d8
        refine st_value (v := .bool false) ?_ (Gr.refl _) ?_
        · simp [execOp, go_sem, e6, e8]
        · exact rfl
    case rest =>
      intro vs w3 hl hst hg
      have hx0 : ∀ u, vs[0]? = some u → u = vecV a b := fun u hu => hg 0 u hu
      have hx1 : ∀ u, vs[1]? = some u → u = .bool false := fun u hu => hg 1 u hu
      have hx2 : ∀ u, vs[2]? = some u → u = vecV c d := fun u hu => hg 2 u hu
      have hx3 : ∀ u, vs[3]? = some u → u = .bool false := fun u hu => hg 3 u hu
      have hx4 : ∀ u, vs[4]? = some u → u = .bool false := fun u hu => hg 4 u hu
      have HE3 := Lib.hid hst
      clear hg hst
      obtain ⟨x0, vs0, rfl, hl0⟩ := len_succ hl
      obtain ⟨x1, vs1, rfl, hl1⟩ := len_succ hl0
      obtain ⟨x2, vs2, rfl, hl2⟩ := len_succ hl1
      obtain ⟨x3, vs3, rfl, hl3⟩ := len_succ hl2
      obtain ⟨x4, vs4, rfl, hl4⟩ := len_succ hl3
      have hnil : vs4 = [] := List.length_eq_zero_iff.1 hl4
      subst hnil
      obtain rfl : x0 = vecV a b := hx0 _ rfl
      obtain rfl : x1 = .bool false := hx1 _ rfl
      obtain rfl : x2 = vecV c d := hx2 _ rfl
      obtain rfl : x3 = .bool false := hx3 _ rfl
      obtain rfl : x4 = .bool false := hx4 _ rfl
      clear hx0 hx1 hx2 hx3 hx4
      simp only [putAll, Act.put, List.setIfInBounds_toArray, List.set_cons_zero, List.set_cons_succ]
      have m0 := VRow.cell (VRow.ext HM.out HE3.out.1) (k := 0) rfl
      have m1 := VRow.cell (VRow.ext HM.out HE3.out.1) (k := 1) rfl
      have n0 := VRow.cell (VRow.ext HN.out HE3.out.1) (k := 0) rfl
      have n1 := VRow.cell (VRow.ext HN.out HE3.out.1) (k := 1) rfl
      go_wp2_with (go_at_call 46; refine (cross_g a b c d w3 HA.out HB.out HC.out HD.out).mono ?_; rintro e w4 ⟨rfl, hE4⟩)
      refine (compare_c _ _ w4).mono ?_
      rintro e w5 ⟨rfl, rfl⟩
      go_wp2_with fail
      go_ret
      exact ⟨ret_int (by unfold angleZ; rw [h1, h2]; rfl), Gr.trans HE.out (Gr.trans HE3.out hE4)⟩
  · go_enter Try.func48, Try.ntmps48
    go_wp2_with fail
    generalize (w.alloc (.cells #[.int .i64 a, .int .i64 b] 32)).alloc (.cells #[.int .i64 c, .int .i64 d] 32) = w1 at *
    generalize hs : w.heap.size = s at *
    refine wp_region_stable [⟨[], none⟩, ⟨[(0, 5)], none⟩, ⟨[], none⟩, ⟨[(2, 7)], none⟩, ⟨[(1, 6), (3, 8)], none⟩] Gr (MPat [MP.eq (vecV a b), MP.eq (.bool false), MP.eq (vecV c d), MP.eq (.bool true), MP.eq (.bool true)]) (by kernel_rfl) (fun _ _ _ h k => Gr.trans h k) Gr.refl Gr.draw (fun j u x y h => MPat.mono _ j u x y h.1) (by kernel_rfl) ?obs ?rest
    case obs =>
      refine ⟨?_, ?_, ?_, ?_, ?_, trivial⟩
      · intro ev W hf _ _ hst hd
        have e2 : ev (.tmp 2) = .pointer (some ⟨s, 0, none⟩) := hf 2 (by kernel_rfl)
        have kk := VRow.ext HM.out hst.1
        have k0 := VRow.cell kk (k := 0) rfl
        have k1 := VRow.cell kk (k := 1) rfl
        refine st_value (v := vecV a b) ?_ (Gr.refl _) ?_
        · simp [execOp, go_sem, e2, k0, k1]
        · exact rfl
      · intro ev W hf _ hfn hst hd
        obtain ⟨d5, _⟩ := hd
        have e5 : ev (.tmp 5) = vecV a b := d5
        refine st_call_g (f := 79) (args := #[vecV a b]) (by simp [execOp, go_sem, hfn, e5]) (by rw [← h1]; exact sinks_g a b W) (fun _ _ => rfl)
      · intro ev W hf _ _ hst hd
        have e3 : ev (.tmp 3) = .pointer (some ⟨s + 1, 0, none⟩) := hf 3 (by kernel_rfl)
        have kk := VRow.ext HN.out hst.1
        have k0 := VRow.cell kk (k := 0) rfl
        have k1 := VRow.cell kk (k := 1) rfl
        refine st_value (v := vecV c d) ?_ (Gr.refl _) ?_
        · simp [execOp, go_sem, e3, k0, k1]
        · exact rfl
      · intro ev W hf _ hfn hst hd
        obtain ⟨d7, _⟩ := hd
        have e7 : ev (.tmp 7) = vecV c d := d7
        refine st_call_g (f := 79) (args := #[vecV c d]) (by simp [execOp, go_sem, hfn, e7]) (by rw [← h2]; exact sinks_g c d W) (fun _ _ => rfl)
      · intro ev W hf _ _ hst hd
        obtain ⟨d6, d8, _⟩ := hd
        have e6 : ev (.tmp 6) = .bool false := d6
        have e8 : ev (.tmp 8) = .bool true := d8
        refine st_value (v := .bool true) ?_ (Gr.refl _) ?_
        · simp [execOp, go_sem, e6, e8]
        · exact rfl
    case rest =>
      intro vs w3 hl hst hg
      have hx0 : ∀ u, vs[0]? = some u → u = vecV a b := fun u hu => hg 0 u hu
      have hx1 : ∀ u, vs[1]? = some u → u = .bool false := fun u hu => hg 1 u hu
      have hx2 : ∀ u, vs[2]? = some u → u = vecV c d := fun u hu => hg 2 u hu
      have hx3 : ∀ u, vs[3]? = some u → u = .bool true := fun u hu => hg 3 u hu
      have hx4 : ∀ u, vs[4]? = some u → u = .bool true := fun u hu => hg 4 u hu
      have HE3 := Lib.hid hst
      clear hg hst
      obtain ⟨x0, vs0, rfl, hl0⟩ := len_succ hl
      obtain ⟨x1, vs1, rfl, hl1⟩ := len_succ hl0
      obtain ⟨x2, vs2, rfl, hl2⟩ := len_succ hl1
      obtain ⟨x3, vs3, rfl, hl3⟩ := len_succ hl2
      obtain ⟨x4, vs4, rfl, hl4⟩ := len_succ hl3
      have hnil : vs4 = [] := List.length_eq_zero_iff.1 hl4
      subst hnil
      obtain rfl : x0 = vecV a b := hx0 _ rfl
      obtain rfl : x1 = .bool false := hx1 _ rfl
      obtain rfl : x2 = vecV c d := hx2 _ rfl
      obtain rfl : x3 = .bool true := hx3 _ rfl
      obtain rfl : x4 = .bool true := hx4 _ rfl
      clear hx0 hx1 hx2 hx3 hx4
      simp only [putAll, Act.put, List.setIfInBounds_toArray, List.set_cons_zero, List.set_cons_succ]
      have m0 := VRow.cell (VRow.ext HM.out HE3.out.1) (k := 0) rfl
      have m1 := VRow.cell (VRow.ext HM.out HE3.out.1) (k := 1) rfl
      go_wp2_with fail
      refine (show Calls Try.prog 79 #[vecV a b] w3 _ from (sinks_g a b w3)).mono ?_
      rintro e w4 ⟨rfl, hE4⟩
      rw [h1]
      go_wp2_with fail
      go_ret
      exact ⟨ret_int (by unfold angleZ; rw [h1, h2]; rfl), Gr.trans HE.out (Gr.trans HE3.out hE4)⟩
  · go_enter Try.func48, Try.ntmps48
    go_wp2_with fail
    generalize (w.alloc (.cells #[.int .i64 a, .int .i64 b] 32)).alloc (.cells #[.int .i64 c, .int .i64 d] 32) = w1 at *
    generalize hs : w.heap.size = s at *
    refine wp_region_stable [⟨[], none⟩, ⟨[(0, 5)], none⟩, ⟨[], none⟩, ⟨[(2, 7)], none⟩, ⟨[(1, 6), (3, 8)], none⟩] Gr (MPat [MP.eq (vecV a b), MP.eq (.bool true), MP.eq (vecV c d), MP.eq (.bool false), MP.eq (.bool true)]) (by kernel_rfl) (fun _ _ _ h k => Gr.trans h k) Gr.refl Gr.draw (fun j u x y h => MPat.mono _ j u x y h.1) (by kernel_rfl) ?obs ?rest
    case obs =>
      refine ⟨?_, ?_, ?_, ?_, ?_, trivial⟩
      · intro ev W hf _ _ hst hd
        have e2 : ev (.tmp 2) = .pointer (some ⟨s, 0, none⟩) := hf 2 (by kernel_rfl)
        have kk := VRow.ext HM.out hst.1
        have k0 := VRow.cell kk (k := 0) rfl
        have k1 := VRow.cell kk (k := 1) rfl
        refine st_value (v := vecV a b) ?_ (Gr.refl _) ?_
        · simp [execOp, go_sem, e2, k0, k1]
        · exact rfl
      · intro ev W hf _ hfn hst hd
        obtain ⟨d5, _⟩ := hd
        have e5 : ev (.tmp 5) = vecV a b := d5
        refine st_call_g (f := 79) (args := #[vecV a b]) (by simp [execOp, go_sem, hfn, e5]) (by rw [← h1]; exact sinks_g a b W) (fun _ _ => rfl)
      · intro ev W hf _ _ hst hd
        have e3 : ev (.tmp 3) = .pointer (some ⟨s + 1, 0, none⟩) := hf 3 (by kernel_rfl)
        have kk := VRow.ext HN.out hst.1
        have k0 := VRow.cell kk (k := 0) rfl
        have k1 := VRow.cell kk (k := 1) rfl
        refine st_value (v := vecV c d) ?_ (Gr.refl _) ?_
        · simp [execOp, go_sem, e3, k0, k1]
        · exact rfl
      · intro ev W hf _ hfn hst hd
        obtain ⟨d7, _⟩ := hd
        have e7 : ev (.tmp 7) = vecV c d := d7
        refine st_call_g (f := 79) (args := #[vecV c d]) (by simp [execOp, go_sem, hfn, e7]) (by rw [← h2]; exact sinks_g c d W) (fun _ _ => rfl)
      · intro ev W hf _ _ hst hd
        obtain ⟨d6, d8, _⟩ := hd
        have e6 : ev (.tmp 6) = .bool true := d6
        have e8 : ev (.tmp 8) = .bool false := d8
        refine st_value (v := .bool true) ?_ (Gr.refl _) ?_
        · simp [execOp, go_sem, e6, e8]
        · exact rfl
    case rest =>
      intro vs w3 hl hst hg
      have hx0 : ∀ u, vs[0]? = some u → u = vecV a b := fun u hu => hg 0 u hu
      have hx1 : ∀ u, vs[1]? = some u → u = .bool true := fun u hu => hg 1 u hu
      have hx2 : ∀ u, vs[2]? = some u → u = vecV c d := fun u hu => hg 2 u hu
      have hx3 : ∀ u, vs[3]? = some u → u = .bool false := fun u hu => hg 3 u hu
      have hx4 : ∀ u, vs[4]? = some u → u = .bool true := fun u hu => hg 4 u hu
      have HE3 := Lib.hid hst
      clear hg hst
      obtain ⟨x0, vs0, rfl, hl0⟩ := len_succ hl
      obtain ⟨x1, vs1, rfl, hl1⟩ := len_succ hl0
      obtain ⟨x2, vs2, rfl, hl2⟩ := len_succ hl1
      obtain ⟨x3, vs3, rfl, hl3⟩ := len_succ hl2
      obtain ⟨x4, vs4, rfl, hl4⟩ := len_succ hl3
      have hnil : vs4 = [] := List.length_eq_zero_iff.1 hl4
      subst hnil
      obtain rfl : x0 = vecV a b := hx0 _ rfl
      obtain rfl : x1 = .bool true := hx1 _ rfl
      obtain rfl : x2 = vecV c d := hx2 _ rfl
      obtain rfl : x3 = .bool false := hx3 _ rfl
      obtain rfl : x4 = .bool true := hx4 _ rfl
      clear hx0 hx1 hx2 hx3 hx4
      simp only [putAll, Act.put, List.setIfInBounds_toArray, List.set_cons_zero, List.set_cons_succ]
      have m0 := VRow.cell (VRow.ext HM.out HE3.out.1) (k := 0) rfl
      have m1 := VRow.cell (VRow.ext HM.out HE3.out.1) (k := 1) rfl
      go_wp2_with fail
      refine (show Calls Try.prog 79 #[vecV a b] w3 _ from (sinks_g a b w3)).mono ?_
      rintro e w4 ⟨rfl, hE4⟩
      rw [h1]
      go_wp2_with fail
      go_ret
      exact ⟨ret_int (by unfold angleZ; rw [h1, h2]; rfl), Gr.trans HE.out (Gr.trans HE3.out hE4)⟩
  · go_enter Try.func48, Try.ntmps48
    go_wp2_with fail
    generalize (w.alloc (.cells #[.int .i64 a, .int .i64 b] 32)).alloc (.cells #[.int .i64 c, .int .i64 d] 32) = w1 at *
    generalize hs : w.heap.size = s at *
    refine wp_region_stable [⟨[], none⟩, ⟨[(0, 5)], none⟩, ⟨[], none⟩, ⟨[(2, 7)], none⟩, ⟨[(1, 6), (3, 8)], none⟩] Gr (MPat [MP.eq (vecV a b), MP.eq (.bool true), MP.eq (vecV c d), MP.eq (.bool true), MP.eq (.bool false)]) (by kernel_rfl) (fun _ _ _ h k => Gr.trans h k) Gr.refl Gr.draw (fun j u x y h => MPat.mono _ j u x y h.1) (by kernel_rfl) ?obs ?rest
    case obs =>
      refine ⟨?_, ?_, ?_, ?_, ?_, trivial⟩
      · intro ev W hf _ _ hst hd
        have e2 : ev (.tmp 2) = .pointer (some ⟨s, 0, none⟩) := hf 2 (by kernel_rfl)
        have kk := VRow.ext HM.out hst.1
        have k0 := VRow.cell kk (k := 0) rfl
        have k1 := VRow.cell kk (k := 1) rfl
        refine st_value (v := vecV a b) ?_ (Gr.refl _) ?_
        · simp [execOp, go_sem, e2, k0, k1]
        · exact rfl
      · intro ev W hf _ hfn hst hd
        obtain ⟨d5, _⟩ := hd
        have e5 : ev (.tmp 5) = vecV a b := d5
        refine st_call_g (f := 79) (args := #[vecV a b]) (by simp [execOp, go_sem, hfn, e5]) (by rw [← h1]; exact sinks_g a b W) (fun _ _ => rfl)
      · intro ev W hf _ _ hst hd
        have e3 : ev (.tmp 3) = .pointer (some ⟨s + 1, 0, none⟩) := hf 3 (by kernel_rfl)
        have kk := VRow.ext HN.out hst.1
        have k0 := VRow.cell kk (k := 0) rfl
        have k1 := VRow.cell kk (k := 1) rfl
        refine st_value (v := vecV c d) ?_ (Gr.refl _) ?_
        · simp [execOp, go_sem, e3, k0, k1]
        · exact rfl
      · intro ev W hf _ hfn hst hd
        obtain ⟨d7, _⟩ := hd
        have e7 : ev (.tmp 7) = vecV c d := d7
        refine st_call_g (f := 79) (args := #[vecV c d]) (by simp [execOp, go_sem, hfn, e7]) (by rw [← h2]; exact sinks_g c d W) (fun _ _ => rfl)
      · intro ev W hf _ _ hst hd
        obtain ⟨d6, d8, _⟩ := hd
        have e6 : ev (.tmp 6) = .bool true := d6
        have e8 : ev (.tmp 8) = .bool true := d8
        refine st_value (v := .bool false) ?_ (Gr.refl _) ?_
        · simp [execOp, go_sem, e6, e8]
        · exact rfl
    case rest =>
      intro vs w3 hl hst hg
      have hx0 : ∀ u, vs[0]? = some u → u = vecV a b := fun u hu => hg 0 u hu
      have hx1 : ∀ u, vs[1]? = some u → u = .bool true := fun u hu => hg 1 u hu
      have hx2 : ∀ u, vs[2]? = some u → u = vecV c d := fun u hu => hg 2 u hu
      have hx3 : ∀ u, vs[3]? = some u → u = .bool true := fun u hu => hg 3 u hu
      have hx4 : ∀ u, vs[4]? = some u → u = .bool false := fun u hu => hg 4 u hu
      have HE3 := Lib.hid hst
      clear hg hst
      obtain ⟨x0, vs0, rfl, hl0⟩ := len_succ hl
      obtain ⟨x1, vs1, rfl, hl1⟩ := len_succ hl0
      obtain ⟨x2, vs2, rfl, hl2⟩ := len_succ hl1
      obtain ⟨x3, vs3, rfl, hl3⟩ := len_succ hl2
      obtain ⟨x4, vs4, rfl, hl4⟩ := len_succ hl3
      have hnil : vs4 = [] := List.length_eq_zero_iff.1 hl4
      subst hnil
      obtain rfl : x0 = vecV a b := hx0 _ rfl
      obtain rfl : x1 = .bool true := hx1 _ rfl
      obtain rfl : x2 = vecV c d := hx2 _ rfl
      obtain rfl : x3 = .bool true := hx3 _ rfl
      obtain rfl : x4 = .bool false := hx4 _ rfl
      clear hx0 hx1 hx2 hx3 hx4
      simp only [putAll, Act.put, List.setIfInBounds_toArray, List.set_cons_zero, List.set_cons_succ]
      have m0 := VRow.cell (VRow.ext HM.out HE3.out.1) (k := 0) rfl
      have m1 := VRow.cell (VRow.ext HM.out HE3.out.1) (k := 1) rfl
      have n0 := VRow.cell (VRow.ext HN.out HE3.out.1) (k := 0) rfl
      have n1 := VRow.cell (VRow.ext HN.out HE3.out.1) (k := 1) rfl
      go_wp2_with (go_at_call 46; refine (cross_g a b c d w3 HA.out HB.out HC.out HD.out).mono ?_; rintro e w4 ⟨rfl, hE4⟩)
      refine (compare_c _ _ w4).mono ?_
      rintro e w5 ⟨rfl, rfl⟩
      go_wp2_with fail
      go_ret
      exact ⟨ret_int (by unfold angleZ; rw [h1, h2]; rfl), Gr.trans HE.out (Gr.trans HE3.out hE4)⟩
end Go.Proofs.Ytbdppephmlkbaaa
