import Derived.Test.YtnpebfchojalcaaV14
import Derived.Test.YtnpebfchojalcaaG1
import Derived.Test.YtnpebfchojalcaaB5
import Derived.Maps.OwnRows
import Derived.WideKeyEntry
import Derived.Test.YtnpebfchojalcaaMX
import Derived.Maps.AppendAt
import Derived.Test.YtnpebfchojalcaaNZ
import Derived.Deep.CutRange
namespace Go.Proofs.Ytnpebfchojalcaa
set_option maxRecDepth 100000
open Go.RowKit Go.Shelf
attribute [local go_sem] Oper.semAt_some
/-- a direction that Extreme takes -/
def extOk (ps : List Pt) (x y : Int) : Prop := validB ps = true ∧ farB x y = false ∧ ¬ (x = 0 ∧ y = 0)
def ExtS (ps : List Pt) (x y m er : Int) : Prop := (extOk ps x y ∧ er = 0 ∧ m = (extK ps (x, y) ps.length).1) ∨ (¬ extOk ps x y ∧ er = 2 ∧ m = 0)
set_option maxRecDepth 100000 in
set_option maxHeartbeats 2000000 in
theorem Extreme_c (v : Value) (ps : List Pt) (x y : Int) (w : World) (hv : Vecs w v ps) :
    Calls Try.prog 119 #[v, vecV x y] w fun e w' => ∃ m i er : Int, e = .returned (.tuple #[.int .i64 m, .int .i64 i, .int .i64 er]) ∧ ExtS ps x y m er ∧ Ext w w' := by
  obtain ⟨a, cap, rfl, hl, hm, hra⟩ := hv.at
  have hE0 := Ext.alloc (Ext.refl w) (.cells #[.int .i64 x, .int .i64 y] 31)
  have HV := Lib.hid (hv.ext hE0)
  have HE0 := Lib.hid hE0
  have HB := Lib.hid (show VRow (w.alloc (.cells #[.int .i64 x, .int .i64 y] 31)) _ _ _ from vrow_alloc w [.int .i64 x, .int .i64 y] 31)
  clear hv hE0 hra
  cases hf : validB ps with
  | false =>
    have HO := Lib.hid (show ¬ extOk ps x y from fun h => by rw [extOk, hf] at h; exact absurd h.1 (by decide))
    have Hf := Lib.hid hf
    clear hf
    go_enter Try.func119, Try.ntmps119
    go_wp2_with fail
    refine (valid_c _ ps _ HV.out).mono ?_
    rintro e w2 ⟨rfl, hE⟩
    rw [Hf.out]
    go_wp2_with fail
    (try simp only [Exit.inBlock, Exit.then])
    refine bodyPost_ret (results_tmp3 rfl _ _ _) rfl ?_
    exact ⟨_, _, _, rfl, .inr ⟨HO.out, rfl, rfl⟩, Ext.trans HE0.out hE⟩
  | true =>
    cases hg : farB x y with
    | true =>
      have HO := Lib.hid (show ¬ extOk ps x y from fun h => by rw [extOk, hg] at h; exact absurd h.2.1 (by decide))
      have Hf := Lib.hid hf
      have Hg := Lib.hid hg
      clear hf hg
      go_enter Try.func119, Try.ntmps119
      go_wp2_with fail
      refine (valid_c _ ps _ HV.out).mono ?_
      rintro e w2 ⟨rfl, hE⟩
      rw [Hf.out]
      have hb := VRow.ext HB.out hE
      have b0 := VRow.cell hb (k := 0) rfl
      have b1 := VRow.cell hb (k := 1) rfl
      go_wp2_with fail
      refine (show Calls Try.prog 79 #[vecV x y] _ _ from (far_c x y _).mono ?_)
      rintro e w3 ⟨rfl, hE3⟩
      rw [Hg.out]
      clear b0 b1
      go_wp2_with fail
      (try simp only [Exit.inBlock, Exit.then])
      refine bodyPost_ret (results_tmp3 rfl _ _ _) rfl ?_
      exact ⟨_, _, _, rfl, .inr ⟨HO.out, rfl, rfl⟩, Ext.trans HE0.out (Ext.trans hE hE3)⟩
    | false =>
      have Hf := Lib.hid hf
      have Hg := Lib.hid hg
      have hxy := far_in hg
      have hn : ps.length ≤ 32 := (valid_near hf).2.2
      by_cases hx : x = 0
      · subst hx
        by_cases hy : y = 0
        · subst hy
          have HO := Lib.hid (show ¬ extOk ps 0 0 from fun h => h.2.2 ⟨rfl, rfl⟩)
          clear hf hg
          have HX := Lib.hid (show (-10000 ≤ 0 ∧ 0 ≤ 10000) ∧ (-10000 ≤ 0 ∧ 0 ≤ 10000) by omega)
          clear hxy
          go_enter Try.func119, Try.ntmps119
          go_wp2_with fail
          refine (valid_c _ ps _ HV.out).mono ?_
          rintro e w2 ⟨rfl, hE⟩
          rw [Hf.out]
          have hb := VRow.ext HB.out hE
          have b0 := VRow.cell hb (k := 0) rfl
          have b1 := VRow.cell hb (k := 1) rfl
          go_wp2_with fail
          refine (show Calls Try.prog 79 #[vecV 0 0] _ _ from (far_c 0 0 _).mono ?_)
          rintro e w3 ⟨rfl, hE3⟩
          rw [Hg.out]
          have HE3 := Lib.hid (Ext.trans hE hE3)
          clear b0 b1 hb hE hE3
          have hb := VRow.ext HB.out HE3.out
          have b0 := VRow.cell hb (k := 0) rfl
          have b1 := VRow.cell hb (k := 1) rfl
          go_wp2
          (try simp only [Exit.inBlock, Exit.then])
          refine bodyPost_ret (results_tmp3 rfl _ _ _) rfl ?_
          exact ⟨_, _, _, rfl, .inr ⟨HO.out, rfl, rfl⟩, Ext.trans HE0.out HE3.out⟩
        · have HO := Lib.hid (show extOk ps 0 y from ⟨hf, hg, fun h => hy h.2⟩)
          have hz : (y == 0) = false := by simpa using hy
          clear hf hg
          have HX := Lib.hid (show (-10000 ≤ 0 ∧ 0 ≤ 10000) ∧ (-10000 ≤ y ∧ y ≤ 10000) by omega)
          clear hxy
          go_enter Try.func119, Try.ntmps119
          go_wp2_with fail
          refine (valid_c _ ps _ HV.out).mono ?_
          rintro e w2 ⟨rfl, hE⟩
          rw [Hf.out]
          have hb := VRow.ext HB.out hE
          have b0 := VRow.cell hb (k := 0) rfl
          have b1 := VRow.cell hb (k := 1) rfl
          go_wp2_with fail
          refine (show Calls Try.prog 79 #[vecV 0 y] _ _ from (far_c 0 y _).mono ?_)
          rintro e w3 ⟨rfl, hE3⟩
          rw [Hg.out]
          have HE3 := Lib.hid (Ext.trans hE hE3)
          clear b0 b1 hb hE hE3
          have hb := VRow.ext HB.out HE3.out
          have b0 := VRow.cell hb (k := 0) rfl
          have b1 := VRow.cell hb (k := 1) rfl
          go_wp2_with fail
          refine (show Calls Try.prog 107 #[.slice a ps.length cap, vecV 0 y] w3 _ from (extreme_c _ ps 0 y w3 (HV.out.ext HE3.out) (fine_near (valid_near Hf.out).1) (by have := (valid_near Hf.out).2.1; omega) (by have := HX.out; unfold fine; omega) (by have := HX.out; unfold fine; omega)).mono ?_)
          rintro e w4 ⟨rfl, hE4⟩
          clear b0 b1
          generalize hm : (extK ps (0, y) ps.length).1 = M at *
          generalize (extK ps (0, y) ps.length).2 = I at *
          have HM := Lib.hid hm
          clear hm
          simp only [two]
          go_wp2
          (try simp only [Exit.inBlock, Exit.then])
          refine bodyPost_ret (results_tmp3 rfl _ _ _) rfl ?_
          exact ⟨_, _, _, rfl, .inl ⟨HO.out, rfl, HM.out.symm⟩, Ext.trans HE0.out (Ext.trans HE3.out hE4)⟩
      · have HO := Lib.hid (show extOk ps x y from ⟨hf, hg, fun h => hx h.1⟩)
        have hz : (x == 0) = false := by simpa using hx
        clear hf hg
        have HX := Lib.hid (show (-10000 ≤ x ∧ x ≤ 10000) ∧ (-10000 ≤ y ∧ y ≤ 10000) by omega)
        clear hxy
        go_enter Try.func119, Try.ntmps119
        go_wp2_with fail
        refine (valid_c _ ps _ HV.out).mono ?_
        rintro e w2 ⟨rfl, hE⟩
        rw [Hf.out]
        have hb := VRow.ext HB.out hE
        have b0 := VRow.cell hb (k := 0) rfl
        have b1 := VRow.cell hb (k := 1) rfl
        go_wp2_with fail
        refine (show Calls Try.prog 79 #[vecV x y] _ _ from (far_c x y _).mono ?_)
        rintro e w3 ⟨rfl, hE3⟩
        rw [Hg.out]
        have HE3 := Lib.hid (Ext.trans hE hE3)
        clear b0 b1 hb hE hE3
        have hb := VRow.ext HB.out HE3.out
        have b0 := VRow.cell hb (k := 0) rfl
        have b1 := VRow.cell hb (k := 1) rfl
        go_wp2_with fail
        refine (show Calls Try.prog 107 #[.slice a ps.length cap, vecV x y] w3 _ from (extreme_c _ ps x y w3 (HV.out.ext HE3.out) (fine_near (valid_near Hf.out).1) (by have := (valid_near Hf.out).2.1; omega) (by have := HX.out; unfold fine; omega) (by have := HX.out; unfold fine; omega)).mono ?_)
        rintro e w4 ⟨rfl, hE4⟩
        clear b0 b1
        generalize hm : (extK ps (x, y) ps.length).1 = M at *
        generalize (extK ps (x, y) ps.length).2 = I at *
        have HM := Lib.hid hm
        clear hm
        simp only [two]
        go_wp2
        (try simp only [Exit.inBlock, Exit.then])
        refine bodyPost_ret (results_tmp3 rfl _ _ _) rfl ?_
        exact ⟨_, _, _, rfl, .inl ⟨HO.out, rfl, HM.out.symm⟩, Ext.trans HE0.out (Ext.trans HE3.out hE4)⟩
end Go.Proofs.Ytnpebfchojalcaa

namespace Go.Proofs.Ytnpebfchojalcaa
set_option maxRecDepth 100000
open Go.RowKit Go.Shelf
attribute [local go_sem] Oper.semAt_some
/-! How far a blank goes, and a vector's offset. -/
/-- a vector's offset by a grid -/
def offP (A B D : Int) (v : Pt) : Pt := (v.1 % A, (v.2 - v.1 / A * B) % D)
theorem offP_bd {A B D : Int} (hA : 1 ≤ A) (hD : 1 ≤ D) (v : Pt) : (0 ≤ (offP A B D v).1 ∧ (offP A B D v).1 < A) ∧ (0 ≤ (offP A B D v).2 ∧ (offP A B D v).2 < D) :=
  ⟨⟨Int.emod_nonneg _ (by omega), Int.emod_lt_of_pos _ (by omega)⟩, ⟨Int.emod_nonneg _ (by omega), Int.emod_lt_of_pos _ (by omega)⟩⟩
theorem quo_back {x A : Int} (hA : 1 ≤ A) : (x - x % A).tdiv A = x / A := by
  have e : x - x % A = A * (x / A) := by have := Int.mul_ediv_add_emod x A; omega
  rw [e, Int.mul_tdiv_cancel_left _ (by omega)]
theorem ext2_putU {w W : World} {g : Nat} (h : Ext w W) (hg : w.heap.size ≤ g) (x y : Value) : Ext w ((W.setCell ⟨g, 0, none⟩ x).setCell ⟨g, 1, none⟩ y) :=
  Below.setCell (p := ⟨g, 1, none⟩) (Below.setCell (p := ⟨g, 0, none⟩) h hg _) hg _
theorem reach_c (v : Value) (ps : List Pt) (x y : Int) (w : World) (hv : Vecs w v ps) (hok : extOk ps x y) :
    Calls Try.prog 93 #[v, vecV x y] w fun e w' => e = .returned (.int .i64 (extK ps (x, y) ps.length).1) ∧ Ext w w' := by
  obtain ⟨a, cap, rfl, hl, hm, _⟩ := hv.at
  have HE1 := Lib.hid (Ext.alloc (Ext.refl w) (.cells #[.int .i64 x, .int .i64 y] 31))
  have HU := Lib.hid (hv.ext HE1.out)
  have HV := Lib.hid (show VRow (w.alloc (.cells #[.int .i64 x, .int .i64 y] 31)) _ _ _ from vrow_alloc w [.int .i64 x, .int .i64 y] 31)
  have HK := Lib.hid hok
  clear hv hok
  have b0 := VRow.cell HV.out (k := 0) rfl
  have b1 := VRow.cell HV.out (k := 1) rfl
  go_enter Try.func93, Try.ntmps93
  go_wp2_with fail
  clear b0 b1
  refine (show Calls Try.prog 119 #[_, vecV x y] _ _ from Extreme_c _ ps x y _ HU.out).mono ?_
  rintro e w2 ⟨m, i, er, rfl, hS, hE⟩
  have hm2 : m = (extK ps (x, y) ps.length).1 := by
    rcases hS with ⟨_, _, h⟩ | ⟨h, _⟩
    · exact h
    · exact absurd HK.out h
  have HM := Lib.hid hm2
  have HE2 := Lib.hid (Ext.trans HE1.out hE)
  clear hm2 hS hE
  go_wp2_with fail
  go_ret
  exact ⟨ret_int HM.out, HE2.out⟩
set_option maxHeartbeats 2000000 in
theorem offset_c (A B D x y : Int) (w : World) (hg : gridB A B D = true) (hx : -1000 ≤ x ∧ x ≤ 1000) (hy : -1000 ≤ y ∧ y ≤ 1000) :
    Calls Try.prog 94 #[gridV A B D, vecV x y] w fun e w' => e = .returned (vecV (offP A B D (x, y)).1 (offP A B D (x, y)).2) ∧ Ext w w' := by
  have hgi := gridB_iff.1 hg
  have hE0 := Ext.alloc (Ext.alloc (Ext.alloc (Ext.refl w) (.cells #[.int .i64 A, .int .i64 B, .int .i64 D] 24)) (.cells #[.int .i64 x, .int .i64 y] 31)) (.cells #[.int .i64 0, .int .i64 0] 31)
  have HE0 := Lib.hid hE0
  have HG := Lib.hid (show VRow (((w.alloc (.cells #[.int .i64 A, .int .i64 B, .int .i64 D] 24)).alloc (.cells #[.int .i64 x, .int .i64 y] 31)).alloc (.cells #[.int .i64 0, .int .i64 0] 31)) w.heap.size 24 [.int .i64 A, .int .i64 B, .int .i64 D] from ((vrow_alloc w [.int .i64 A, .int .i64 B, .int .i64 D] 24).alloc _).alloc _)
  have HX := Lib.hid (show VRow (((w.alloc (.cells #[.int .i64 A, .int .i64 B, .int .i64 D] 24)).alloc (.cells #[.int .i64 x, .int .i64 y] 31)).alloc (.cells #[.int .i64 0, .int .i64 0] 31)) (w.heap.size + 1) 31 [.int .i64 x, .int .i64 y] from by
    have h := vrow_alloc (w.alloc (.cells #[.int .i64 A, .int .i64 B, .int .i64 D] 24)) [.int .i64 x, .int .i64 y] 31
    rw [show (w.alloc (.cells #[.int .i64 A, .int .i64 B, .int .i64 D] 24)).heap.size = w.heap.size + 1 by simp] at h
    exact h.alloc _)
  have HR := Lib.hid (show VRow (((w.alloc (.cells #[.int .i64 A, .int .i64 B, .int .i64 D] 24)).alloc (.cells #[.int .i64 x, .int .i64 y] 31)).alloc (.cells #[.int .i64 0, .int .i64 0] 31)) (w.heap.size + 2) 31 [.int .i64 0, .int .i64 0] from by
    have h := vrow_alloc ((w.alloc (.cells #[.int .i64 A, .int .i64 B, .int .i64 D] 24)).alloc (.cells #[.int .i64 x, .int .i64 y] 31)) [.int .i64 0, .int .i64 0] 31
    rw [show ((w.alloc (.cells #[.int .i64 A, .int .i64 B, .int .i64 D] 24)).alloc (.cells #[.int .i64 x, .int .i64 y] 31)).heap.size = w.heap.size + 2 by simp] at h
    exact h)
  have b1 := Int.emod_nonneg x (show A ≠ 0 by omega)
  have b2 := Int.emod_lt_of_pos x (show 0 < A by omega)
  have hq := quo_back (x := x) (A := A) (by omega)
  have hqb : -1000 ≤ x / A ∧ x / A ≤ 1000 := by
    have h1 := Int.mul_ediv_add_emod x A
    constructor
    · refine Int.not_lt.1 fun h => ?_
      have := Int.mul_le_mul_of_nonneg_left (c := A) (show x / A ≤ -1001 by omega) (by omega)
      omega
    · refine Int.not_lt.1 fun h => ?_
      have := Int.mul_le_mul_of_nonneg_left (c := A) (show 1001 ≤ x / A by omega) (by omega)
      omega
  have hpb : -400000 ≤ x / A * B ∧ x / A * B ≤ 400000 := by
    constructor
    · refine Int.le_trans ?_ (Int.mul_le_mul_of_nonneg_right hqb.1 (by omega))
      omega
    · refine Int.le_trans (Int.mul_le_mul_of_nonneg_right hqb.2 (by omega)) ?_
      omega
  have HW1 := Lib.hid (IntWalk.i64_in (x - x % A) (by omega))
  have HW2 := Lib.hid (IntWalk.i64_in (x / A) (by omega))
  have HW3 := Lib.hid (IntWalk.i64_in (x / A * B) (by omega))
  have HW4 := Lib.hid (IntWalk.i64_in (y - x / A * B) (by omega))
  have HQ := Lib.hid hq
  have HA := Lib.hid (show (1 ≤ A ∧ A ≤ 1000000) ∧ (1 ≤ D ∧ D ≤ 1000000) by omega)
  have HY := Lib.hid (show -1000000000 ≤ y - x / A * B ∧ y - x / A * B ≤ 1000000000 by omega)
  have HXB := Lib.hid (show -1000000000 ≤ x ∧ x ≤ 1000000000 by omega)
  have hA0 : A ≠ 0 := by omega
  clear hgi hE0 b1 b2 hq hqb hpb hg hx hy
  have c0 := VRow.cell HG.out (k := 0) rfl
  have c1 := VRow.cell HG.out (k := 1) rfl
  have c2 := VRow.cell HG.out (k := 2) rfl
  have d0 := VRow.cell HX.out (k := 0) rfl
  have d1 := VRow.cell HX.out (k := 1) rfl
  have f0 := VRow.frozen HR.out 0 none
  have f1 := VRow.frozen HR.out 1 none
  have r0 := VRow.cell HR.out (k := 0) rfl
  have r1 := VRow.cell HR.out (k := 1) rfl
  unfold gridV
  go_enter Try.func94, Try.ntmps94
  go_wp2_with fail
  refine (mod_c x A _ HXB.out.1 HXB.out.2 HA.out.1.1 HA.out.1.2).mono ?_
  rintro e w2 ⟨rfl, rfl⟩
  have w1 := HW1.out
  have w2 := HW2.out
  have w3 := HW3.out
  have w4 := HW4.out
  have hq := HQ.out
  go_wp2_with fail
  clear w1 w2 w3 w4 hq
  refine (mod_c (y - x / A * B) D _ HY.out.1 HY.out.2 HA.out.2.1 HA.out.2.2).mono ?_
  rintro e w2 ⟨rfl, rfl⟩
  go_wp2_with fail
  (try simp only [Exit.inBlock, Exit.then])
  refine bodyPost_ret (v := vecV (offP A B D (x, y)).1 (offP A B D (x, y)).2) (by rw [results_cell1 rfl]; go_simp; exact ⟨rfl, rfl⟩) rfl ?_
  exact ⟨rfl, Ext.alloc (Ext.alloc (Ext.alloc (Ext.refl w) _) _) _⟩
end Go.Proofs.Ytnpebfchojalcaa

namespace Go.Proofs.Ytnpebfchojalcaa
set_option maxRecDepth 100000
open Go.RowKit Go.Maps Go.WideElems Go.ChangeMaps
/-! A map whose values are slices of vectors: the vectors of a list by a key of theirs. -/
theorem vec_str {v : Value} {l : Lit} (h : keyOf Try.prog 31 v = some l) : ∃ s, l = .string s := by
  unfold keyOf at h
  simp only [Try.underlying31] at h
  split at h
  · obtain ⟨ls, _, rfl⟩ := Option.map_eq_some_iff.1 h
    exact ⟨_, rfl⟩
  · cases h
theorem vecLaw : Go.WideMaps.KeyLaw Try.prog 31 := ⟨vec_str, vecKeyed.inj, vecKeyed.check, vecKeyed.find, vecKeyed.stays⟩
/-- an element reads as true, whatever it is -/
def R0 : Value → Option (DataW Unit × List MemPlace) := fun _ => some (.lit (.bool true), [])
/-- those of a list that have a key -/
def grp (f : Pt → Pt) (L : List Pt) (q : Pt) : List Pt := L.filter fun v => decide (f v = q)
theorem grp_snoc_same {f : Pt → Pt} {L : List Pt} {q v : Pt} (h : f v = q) : grp f (L ++ [v]) q = grp f L q ++ [v] := by
  unfold grp
  rw [List.filter_append]
  congr 1
  simp [h]
theorem grp_snoc_other {f : Pt → Pt} {L : List Pt} {q v : Pt} (h : f v ≠ q) : grp f (L ++ [v]) q = grp f L q := by
  unfold grp
  rw [List.filter_append]
  simp [h]
theorem grp_none {f : Pt → Pt} {L : List Pt} {q : Pt} (h : q ∉ L.map f) : grp f L q = [] := by
  unfold grp
  rw [List.filter_eq_nil_iff]
  intro v hv e
  exact h (List.mem_map.2 ⟨v, hv, of_decide_eq_true e⟩)
theorem grp_some {f : Pt → Pt} {L : List Pt} {q : Pt} (h : q ∈ L.map f) : 0 < (grp f L q).length := by
  obtain ⟨v, hv, e⟩ := List.mem_map.1 h
  exact List.length_pos_of_mem (List.mem_filter.2 ⟨hv, decide_eq_true e⟩)
theorem grp_le (f : Pt → Pt) (L : List Pt) (q : Pt) : (grp f L q).length ≤ L.length := List.length_filter_le _ _
theorem vec_inj {p q : Pt} (h : vecV p.1 p.2 = vecV q.1 q.2) : p = q := by
  simp only [vecV, Value.agg.injEq] at h
  have e := congrArg Array.toList h
  simp only [List.cons.injEq, Value.int.injEq, true_and, and_true] at e
  exact Prod.ext e.1 e.2
/-- block b is the map of the groups of a list, each in a row of its own from a block on -/
structure GMap (W : World) (base b : Nat) (f : Pt → Pt) (L : List Pt) : Prop where
  low : b < base
  own : W.ownsMap (H := Unit) Try.prog 31 R0 b L.length (setD (L.map f))
  rows : ∀ es clock, W.heap[b]? = some (.map es clock) → ∀ e ∈ es.toList, ∃ q : Pt, q ∈ L.map f ∧ e.key = vecV q.1 q.2 ∧ W.ownsRow base 31 2 e.val (grp f L q).length (cellsOf (grp f L q))
  apart : ∀ es clock, W.heap[b]? = some (.map es clock) → ∀ e1 ∈ es.toList, ∀ e2 ∈ es.toList, e1.key ≠ e2.key → e1.val.ownBlock ≠ e2.val.ownBlock
theorem gmap_made (w : World) (f : Pt → Pt) : GMap (w.alloc (.map #[] 0)) (w.heap.size + 1) w.heap.size f [] := by
  have hh := World.alloc_heap_new w (.map #[] 0)
  refine ⟨by omega, World.ownsMap_made _ _ _ _, fun es clock h e he => ?_, fun es clock h e he => ?_⟩
  · rw [hh] at h
    injection h with h
    injection h with h
    subst h
    cases he
  · rw [hh] at h
    injection h with h
    injection h with h
    subst h
    cases he
theorem coll_hasU (ks : List Pt) (kl : Lit) : has (setD ks) kl = true ↔ ∃ q, q ∈ ks ∧ (keyL q).sameKey kl = true := by
  unfold setD
  rw [has_setOf]
  · simp only [List.any_eq_true, List.mem_map]
    constructor
    · rintro ⟨_, ⟨q, hq, rfl⟩, h⟩
      exact ⟨q, hq, h⟩
    · rintro ⟨q, hq, h⟩
      exact ⟨_, ⟨q, hq, rfl⟩, h⟩
  · intro x hx
    rw [List.mem_map] at hx
    obtain ⟨q, _, rfl⟩ := hx
    exact keyL_lit q
theorem GMap.lt {W : World} {base b : Nat} {f : Pt → Pt} {L : List Pt} (h : GMap W base b f L) : b < W.heap.size := World.ownsMap.lt h.own
theorem GMap.ext {W W' : World} {base b : Nat} {f : Pt → Pt} {L : List Pt} (h : GMap W base b f L) (he : Ext W W') : GMap W' base b f L := by
  have hb := he.block b h.lt
  obtain ⟨es, c, h1, h2⟩ := h.own
  refine ⟨h.low, ⟨es, c, hb.trans h1, h2⟩, fun es clock hh e hm => ?_, fun es clock hh => h.apart es clock (hb.symm.trans hh)⟩
  obtain ⟨q, a1, a2, a3⟩ := h.rows es clock (hb.symm.trans hh) e hm
  exact ⟨q, a1, a2, ownsRow_ext a3 he⟩
theorem setB_grown {W : World} {b : Nat} {es es' : Array MapEntry} {c c' : Nat} (hb : W.heap[b]? = some (.map es c)) : W.grownBy (setBlock W b (.map es' c')) (some b) :=
  ⟨rfl, rfl, rfl, by simp [setBlock], fun i _ hi => heap_setBlock_other hb _ (fun e => hi (by rw [e]))⟩
theorem row_block {W : World} {base n : Nat} {v : Value} {xs : List Value} (h : W.ownsRow base 31 2 v n xs) {j : Nat} (hj : v.ownBlock = some j) : base ≤ j ∧ j < W.heap.size := by
  rcases h.2 with ⟨rfl, _⟩ | ⟨g, cap, cur, rfl, hg, hc, _⟩
  · cases hj
  · simp only [Value.ownBlock, Option.some.injEq] at hj
    subst hj
    exact ⟨hg, (Array.getElem?_eq_some_iff.1 hc).1⟩
theorem row_has {W : World} {base n : Nat} {v : Value} {xs : List Value} (h : W.ownsRow base 31 2 v n xs) (hn : 0 < n) : ∃ j, v.ownBlock = some j := by
  rcases h.2 with ⟨_, h0⟩ | ⟨g, cap, cur, rfl, hg, hc, _⟩
  · omega
  · exact ⟨g, rfl⟩
theorem zero22 (w : World) : (zeroValue 22).run Try.prog w = .ok (.slice none 0 0) w := by
  simp [go_sem]
/-- a look-up in such a map -/
theorem gmap_look {W : World} {base b : Nat} {f : Pt → Pt} {L : List Pt} (h : GMap W base b f L) {q : Pt} (hq : nearPt q) :
    ∃ v, (Instr.lookup 85 (.map (some b)) (vecV q.1 q.2) false).run Try.prog W = .ok v W ∧ W.ownsRow base 31 2 v (grp f L q).length (cellsOf (grp f L q)) := by
  obtain ⟨es, c, hb, F, hs, hD⟩ := h.own
  rcases Maps.fit_look false vecKeyed Try.underlying85 (zero22 W) hb F (key_vec q hq) with ⟨hrun, hne, hat⟩ | ⟨e0, y, he, hk, hrun, _⟩
  · refine ⟨_, hrun, ?_⟩
    have hnot : q ∉ L.map f := fun hm => by
      have h1 := (coll_hasU (L.map f) (keyL q)).2 ⟨q, hm, (keyL_same q q).2 rfl⟩
      rw [hD] at h1
      rw [has_false_of_atKey hat] at h1
      cases h1
    rw [grp_none hnot]
    exact ⟨rfl, .inl ⟨rfl, rfl⟩⟩
  · obtain ⟨q', _, h2, h3⟩ := h.rows es c hb e0 he
    have e := vec_inj (hk.symm.trans h2)
    subst e
    exact ⟨_, hrun, h3⟩
/-- an entry of such a map: what it holds, and what it is when one more vector has been put to it -/
theorem gmap_entry {W : World} {base b : Nat} {f : Pt → Pt} {L : List Pt} (h : GMap W base b f L) {q : Pt} (hq : nearPt q) (hL : L.length < 1000000) :
    ∃ v0 st es1 clock1, (Instr.mapEntry 85 (.map (some b)) (vecV q.1 q.2)).run Try.prog W = .ok (.tuple #[v0, .int .i64 st]) (setBlock W b (.map es1 clock1)) ∧
      (setBlock W b (.map es1 clock1)).ownsRow base 31 2 v0 (grp f L q).length (cellsOf (grp f L q)) ∧ W.grownBy (setBlock W b (.map es1 clock1)) (some b) ∧
      ∀ (v : Pt) (W2 : World) (v1 : Value), f v = q → (setBlock W b (.map es1 clock1)).grownBy W2 v0.ownBlock → W2.ownsRow base 31 2 v1 ((grp f L q).length + 1) (cellsOf (grp f L q) ++ [.int .i64 v.1, .int .i64 v.2]) →
        (v1.ownBlock = v0.ownBlock ∨ ∃ g, v1.ownBlock = some g ∧ W.heap.size ≤ g) →
        ∃ W3, (Instr.entryStore 85 (.map (some b)) (.int .i64 st) v1).run Try.prog W2 = .ok () W3 ∧ GMap W3 base b f (L ++ [v]) ∧ W2.grownBy W3 (some b) := by
  obtain ⟨es, c, hb, F, hs, hD⟩ := h.own
  have hrows := h.rows es c hb
  have hap := h.apart es c hb
  have hlow := h.low
  obtain ⟨v0, st, es1, clock1, hrun, hv0, hstore⟩ := entry_then_store (R := R0) (H := Unit) vecLaw Try.underlying85 zero22 hb F (key_vec q hq)
  have hg1 : W.grownBy (setBlock W b (.map es1 clock1)) (some b) := setB_grown hb
  have hb1 : (setBlock W b (.map es1 clock1)).heap[b]? = some (.map es1 clock1) := heap_setBlock_same hb _
  have hsz1 : (setBlock W b (.map es1 clock1)).heap.size = W.heap.size := by simp [setBlock]
  have hold : (∃ e0 ∈ es.toList, e0.key = vecV q.1 q.2 ∧ v0 = e0.val) ∨ ((∀ x ∈ es.toList, x.key ≠ vecV q.1 q.2) ∧ v0 = .slice none 0 0) := hv0
  have hown0 : W.ownsRow base 31 2 v0 (grp f L q).length (cellsOf (grp f L q)) := by
    rcases hold with ⟨e0, he, hk, rfl⟩ | ⟨hne, rfl⟩
    · obtain ⟨q', _, h2, h3⟩ := hrows e0 he
      have e := vec_inj (hk.symm.trans h2)
      subst e
      exact h3
    · obtain ⟨u, hl, ho⟩ := gmap_look h hq
      rcases Maps.fit_look false vecKeyed Try.underlying85 (zero22 W) hb F (key_vec q hq) with ⟨hr, _⟩ | ⟨e0, y, he, hk, _⟩
      · rw [hr] at hl
        have e : (.slice none 0 0 : Value) = u := by simpa using hl
        rw [e]; exact ho
      · exact absurd hk (hne e0 he)
  have kept : ∀ {A B : World} {r : Option Nat} {v : Value} {n : Nat} {xs : List Value}, A.ownsRow base 31 2 v n xs → A.grownBy B r → (∀ j, v.ownBlock = some j → some j ≠ r) → B.ownsRow base 31 2 v n xs := fun {A B r v n xs} ho hg hne => ho.kept hg (by
    cases hj : v.ownBlock with
    | none => exact .inl rfl
    | some j => exact .inr (hne j hj))
  have hown1 : (setBlock W b (.map es1 clock1)).ownsRow base 31 2 v0 (grp f L q).length (cellsOf (grp f L q)) := kept hown0 hg1 fun j hj e => by
    injection e with e
    have := row_block hown0 hj
    omega
  refine ⟨v0, st, es1, clock1, hrun, hown1, hg1, fun v W2 v1 hf hg2 ho2 hwhere => ?_⟩
  have hb2 : W2.heap[b]? = some (.map es1 clock1) := (hg2.block b (by have := h.lt; omega) fun e => by
    have := row_block hown0 e.symm
    omega).trans hb1
  obtain ⟨es', clock', hrun3, hup⟩ := hstore W2 v1 hb2
  obtain ⟨es2, clock2, hup2, F', hput, _, _, hwho⟩ := Maps.fit_store (R' := R0) (val := v1) vecKeyed Try.underlying85 hb F (by unfold maxLen; omega) (fun _ _ _ _ hz => hz) (key_vec q hq) (rfl : R0 v1 = some (.lit (.bool true), []))
  have hE : es2 = es' ∧ clock2 = clock' := by
    rw [hup] at hup2
    have e : setBlock W b (.map es' clock') = setBlock W b (.map es2 clock2) := by simpa using hup2
    have e2 := heap_setBlock_same hb (.map es' clock')
    rw [e, heap_setBlock_same hb (.map es2 clock2)] at e2
    injection e2 with e2
    injection e2 with e2 e3
    exact ⟨e2, e3⟩
  obtain ⟨rfl, rfl⟩ := hE
  have hg3 : W2.grownBy (setBlock W2 b (.map es2 clock2)) (some b) := setB_grown hb2
  have hb3 : (setBlock W2 b (.map es2 clock2)).heap[b]? = some (.map es2 clock2) := heap_setBlock_same hb2 _
  have hmap : (L ++ [v]).map f = L.map f ++ [q] := by rw [List.map_append, List.map_singleton, hf]
  have old : ∀ e ∈ es.toList, e.key ≠ vecV q.1 q.2 → ∃ q' : Pt, q' ∈ L.map f ∧ q' ≠ q ∧ e.key = vecV q'.1 q'.2 ∧ (∃ j, e.val.ownBlock = some j ∧ j < W.heap.size ∧ v0.ownBlock ≠ some j) ∧ (setBlock W2 b (.map es2 clock2)).ownsRow base 31 2 e.val (grp f L q').length (cellsOf (grp f L q')) := fun e he hne => by
    obtain ⟨q', a1, a2, a3⟩ := hrows e he
    have hqq : q' ≠ q := fun e9 => hne (by rw [a2, e9])
    obtain ⟨j, hj⟩ := row_has a3 (grp_some a1)
    have hjb := row_block a3 hj
    have h0j : v0.ownBlock ≠ some j := fun e9 => by
      rcases hold with ⟨e0, he0, hk0, rfl⟩ | ⟨_, rfl⟩
      · exact hap e he e0 he0 (by rw [hk0]; exact hne) (by rw [hj, e9])
      · cases e9
    refine ⟨q', a1, hqq, a2, ⟨j, hj, hjb.2, h0j⟩, ?_⟩
    refine kept (kept (kept a3 hg1 fun i hi e9 => ?_) hg2 fun i hi e9 => ?_) hg3 fun i hi e9 => ?_
    · injection e9 with e9; rw [hj] at hi; injection hi with hi; omega
    · rw [hj] at hi; injection hi with hi; subst hi; exact h0j e9.symm
    · injection e9 with e9; rw [hj] at hi; injection hi with hi; omega
  have hnew : (setBlock W2 b (.map es2 clock2)).ownsRow base 31 2 v1 ((grp f L q).length + 1) (cellsOf (grp f L q) ++ [.int .i64 v.1, .int .i64 v.2]) := kept ho2 hg3 fun j hj e9 => by
    injection e9 with e9
    have := row_block ho2 hj
    omega
  obtain ⟨j1, hj1⟩ := row_has ho2 (Nat.succ_pos _)
  refine ⟨_, hrun3, ⟨hlow, ⟨es2, clock2, hb3, F', ?_, ?_⟩, fun es3 c3 h3 e he => ?_, fun es3 c3 h3 => ?_⟩, hg3⟩
  · have e1 : es2.size = ((es2.toList.map (rg Try.prog 31 R0)).foldr DataW.insert []).length := by rw [length_sorted]; simp
    rw [e1, hput]
    unfold putKey
    rw [length_insert]
    have e2 := List.length_filter_le (notKey (keyL q)) ((es.toList.map (rg Try.prog 31 R0)).foldr DataW.insert [])
    rw [length_sorted] at e2
    simp at e2
    simp only [List.length_append, List.length_singleton]
    omega
  · rw [hmap, ← setD_snoc, hD, DataW.put_eq, hput]
  · rw [hb3] at h3
    injection h3 with h3
    injection h3 with h3 _
    subst h3
    rcases hwho e he with ⟨he0, hne⟩ | ⟨hk, hv⟩
    · obtain ⟨q', a1, a2, a3, _, a4⟩ := old e he0 hne
      exact ⟨q', by rw [hmap]; exact List.mem_append_left _ a1, a3, by rw [grp_snoc_other (by rw [hf]; exact fun e9 => a2 e9.symm)]; exact a4⟩
    · refine ⟨q, by rw [hmap]; exact List.mem_append_right _ List.mem_cons_self, hk, ?_⟩
      rw [hv, grp_snoc_same hf, cellsOf_append, List.length_append]
      exact hnew
  · rw [hb3] at h3
    injection h3 with h3
    injection h3 with h3 _
    subst h3
    intro e1 he1 e2 he2 hne
    have nw : ∀ e ∈ es2.toList, ∀ e' ∈ es2.toList, (e ∈ es.toList ∧ e.key ≠ vecV q.1 q.2) → (e'.key = vecV q.1 q.2 ∧ e'.val = v1) → e.val.ownBlock ≠ e'.val.ownBlock := fun e _ e' _ h1 h2 h9 => by
      obtain ⟨q', _, _, _, ⟨j, hj, hjl, hj0⟩, _⟩ := old e h1.1 h1.2
      rw [h2.2, hj, hj1] at h9
      injection h9 with h9
      subst h9
      rcases hwhere with hw | ⟨g, hw, hgl⟩
      · exact hj0 (by rw [← hw]; exact hj1)
      · rw [hj1] at hw; injection hw with hw; omega
    rcases hwho e1 he1 with h1 | h1 <;> rcases hwho e2 he2 with h2 | h2
    · exact hap e1 h1.1 e2 h2.1 hne
    · exact nw e1 he1 e2 he2 h1 h2
    · exact fun e9 => nw e2 he2 e1 he1 h2 h1 e9.symm
    · exact absurd (h1.1.trans h2.1.symm) hne
end Go.Proofs.Ytnpebfchojalcaa

namespace Go.Proofs.Ytnpebfchojalcaa
set_option maxRecDepth 100000
open Go.RowKit Go.Shelf
attribute [local go_sem] Oper.semAt_some
/-! The places of a blank on a sheet, and its layouts. -/
def lineP (x0 y : Int) : Nat → List Pt
  | 0 => []
  | i + 1 => lineP x0 y i ++ [(x0 + (i : Int), y)]
def gridP (x0 y0 : Int) (n : Nat) : Nat → List Pt
  | 0 => []
  | j + 1 => gridP x0 y0 n j ++ lineP x0 (y0 + (j : Int)) n
theorem lineP_len (x0 y : Int) : ∀ i, (lineP x0 y i).length = i
  | 0 => rfl
  | i + 1 => by rw [lineP, List.length_append, lineP_len]; rfl
theorem gridP_len (x0 y0 : Int) (n : Nat) : ∀ j, (gridP x0 y0 n j).length = j * n
  | 0 => by simp [gridP]
  | j + 1 => by rw [gridP, List.length_append, gridP_len x0 y0 n j, lineP_len, Nat.succ_mul]
theorem lineP_mem {x0 y : Int} {v : Pt} : ∀ n, v ∈ lineP x0 y n ↔ v.2 = y ∧ x0 ≤ v.1 ∧ v.1 < x0 + n
  | 0 => by
    constructor
    · intro h; cases h
    · intro h; omega
  | i + 1 => by
    rw [lineP, List.mem_append, lineP_mem i, List.mem_singleton]
    constructor
    · rintro (h | rfl)
      · omega
      · exact ⟨rfl, by dsimp only; omega, by dsimp only; omega⟩
    · intro h
      by_cases h2 : v.1 < x0 + i
      · exact .inl (by omega)
      · exact .inr (Prod.ext (by dsimp only; omega) (by dsimp only; omega))
theorem gridP_mem {x0 y0 : Int} {n : Nat} {v : Pt} : ∀ m, v ∈ gridP x0 y0 n m ↔ (y0 ≤ v.2 ∧ v.2 < y0 + m) ∧ x0 ≤ v.1 ∧ v.1 < x0 + n
  | 0 => by
    constructor
    · intro h; cases h
    · intro h; omega
  | j + 1 => by
    rw [gridP, List.mem_append, gridP_mem j, lineP_mem]
    constructor
    · rintro (h | h) <;> omega
    · intro h
      by_cases h2 : v.2 < y0 + j
      · exact .inl (by omega)
      · exact .inr (by omega)
def goL (ps : List Pt) (x y : Int) : Int := (extK ps (x, y) ps.length).1
theorem go_at {ps : List Pt} (hn : 0 < ps.length) (x y : Int) : ∃ j, j < ps.length ∧ goL ps x y = x * (fromP ps j).1 + y * (fromP ps j).2 := by
  obtain ⟨j, hj, _, h⟩ := (ext_spec (d := (x, y)) hn ps.length).2
  exact ⟨j, hj, h (Nat.le_refl _)⟩
theorem go_le {ps : List Pt} (hn : 0 < ps.length) (x y : Int) {q : Pt} (hq : q ∈ ps) : x * q.1 + y * q.2 ≤ goL ps x y := by
  obtain ⟨j, hj, rfl⟩ := mem_from hq
  exact (ext_spec (d := (x, y)) hn ps.length).1 j hj
theorem go_bd {ps : List Pt} (hb : blankB ps = true) : (-12 ≤ goL ps (-1) 0 ∧ goL ps (-1) 0 ≤ 0) ∧ (0 ≤ goL ps 1 0 ∧ goL ps 1 0 ≤ 12) ∧ (-12 ≤ goL ps 0 (-1) ∧ goL ps 0 (-1) ≤ 0) ∧ (0 ≤ goL ps 0 1 ∧ goL ps 0 1 ≤ 12) := by
  obtain ⟨hv, hin⟩ := blank_parts hb
  have hn : 0 < ps.length := by have := (valid_near hv).2; omega
  obtain ⟨j1, h1, e1⟩ := go_at hn (-1) 0
  obtain ⟨j2, h2, e2⟩ := go_at hn 1 0
  obtain ⟨j3, h3, e3⟩ := go_at hn 0 (-1)
  obtain ⟨j4, h4, e4⟩ := go_at hn 0 1
  have b1 := hin _ (from_mem h1)
  have b2 := hin _ (from_mem h2)
  have b3 := hin _ (from_mem h3)
  have b4 := hin _ (from_mem h4)
  omega
/-- all vectors by which a blank lies on a sheet, row by row -/
def placesL (ps : List Pt) (W H : Int) : List Pt := gridP (goL ps (-1) 0) (goL ps 0 (-1)) (W - goL ps 1 0 - goL ps (-1) 0 + 1).toNat (H - goL ps 0 1 - goL ps 0 (-1) + 1).toNat
theorem two_cellsU {W : World} {r : Nat} {t : TypeId} {x y : Value} (h : VRow W r t [x, y]) (j : Nat) (u : Value) (hj : [x, y][j]? = some u) : W.cell? ((⟨r, 0, none⟩ : Addr).add j) = some u := by
  match j, hj with
  | 0, hj => exact VRow.cell h (k := 0) hj
  | 1, hj => exact VRow.cell h (k := 1) hj
theorem ext_okay {ps : List Pt} (hb : blankB ps = true) {x y : Int} (hx : -1 ≤ x ∧ x ≤ 1) (hy : -1 ≤ y ∧ y ≤ 1) (h0 : ¬ (x = 0 ∧ y = 0)) : extOk ps x y :=
  ⟨(blank_parts hb).1, by simp [farB]; omega, h0⟩
set_option maxHeartbeats 8000000 in
theorem layouts_c (v : Value) (ps : List Pt) (A B D W H : Int) (w : World) (hv : Vecs w v ps) (hb : blankB ps = true) (hg : gridB A B D = true) (hw : 1 ≤ W ∧ W ≤ 100) (hh : 1 ≤ H ∧ H ≤ 100) :
    Calls Try.prog 58 #[v, gridV A B D, .int .i64 W, .int .i64 H] w fun e w' => ∃ b, e = .returned (.map (some b)) ∧ GMap w' (b + 1) b (offP A B D) (placesL ps W H) ∧ w.heap.size ≤ b ∧ Ext w w' := by
  obtain ⟨a, cap, rfl, hl, hm, _⟩ := hv.at
  have hE0 := Ext.alloc (Ext.refl w) (.cells #[.int .i64 A, .int .i64 B, .int .i64 D] 24)
  have HV := Lib.hid (hv.ext hE0)
  have HE0 := Lib.hid hE0
  have HG := Lib.hid (show VRow (w.alloc (.cells #[.int .i64 A, .int .i64 B, .int .i64 D] 24)) _ _ _ from vrow_alloc w [.int .i64 A, .int .i64 B, .int .i64 D] 24)
  have HGB := Lib.hid hg
  have HGI := Lib.hid (gridB_iff.1 hg)
  have HO1 := Lib.hid (ext_okay hb (x := -1) (y := 0) (by omega) (by omega) (by omega))
  have HO2 := Lib.hid (ext_okay hb (x := 1) (y := 0) (by omega) (by omega) (by omega))
  have HO3 := Lib.hid (ext_okay hb (x := 0) (y := -1) (by omega) (by omega) (by omega))
  have HO4 := Lib.hid (ext_okay hb (x := 0) (y := 1) (by omega) (by omega) (by omega))
  have hbd := go_bd hb
  obtain ⟨pl, hpl⟩ : ∃ pl, pl = placesL ps W H := ⟨_, rfl⟩
  have HPL := Lib.hid hpl
  unfold placesL at HPL
  rw [← hpl]
  have HL1 := Lib.hid (show goL ps (-1) 0 = (extK ps (-1, 0) ps.length).1 from rfl)
  have HL2 := Lib.hid (show goL ps 1 0 = (extK ps (1, 0) ps.length).1 from rfl)
  have HL3 := Lib.hid (show goL ps 0 (-1) = (extK ps (0, -1) ps.length).1 from rfl)
  have HL4 := Lib.hid (show goL ps 0 1 = (extK ps (0, 1) ps.length).1 from rfl)
  generalize goL ps (-1) 0 = x0 at *
  generalize goL ps 1 0 = x1 at *
  generalize goL ps 0 (-1) = y0 at *
  generalize goL ps 0 1 = y1 at *
  obtain ⟨n, hn⟩ : ∃ n, n = (W - x1 - x0 + 1).toNat := ⟨_, rfl⟩
  obtain ⟨m, hmm⟩ : ∃ m, m = (H - y1 - y0 + 1).toNat := ⟨_, rfl⟩
  rw [← hn, ← hmm] at HPL
  have HN := Lib.hid (show (n : Int) = max 0 (W - x1 - x0 + 1) ∧ n ≤ 113 from by omega)
  have HM := Lib.hid (show (m : Int) = max 0 (H - y1 - y0 + 1) ∧ m ≤ 113 from by omega)
  have HBD := Lib.hid hbd
  have HWH := Lib.hid (And.intro hw hh)
  clear hv hb hg hE0 hpl hn hmm hbd hw hh
  obtain ⟨i0, hi0, hz0, hz1, hz2⟩ := info_parts info31
  have HI := Lib.hid hi0
  have HZ0 := Lib.hid hz0
  have HZ1 := Lib.hid hz1
  have HZ2 := Lib.hid hz2
  clear hi0 hz0 hz1 hz2
  unfold gridV
  go_enter Try.func58, Try.ntmps58
  go_wp2_with fail
  refine (show Calls Try.prog 93 #[_, vecV (-1) 0] _ _ from reach_c _ ps (-1) 0 _ HV.out HO1.out).mono ?_
  rintro e w1 ⟨rfl, hE⟩
  rw [← HL1.out]
  have HV1 := Lib.hid (HV.out.ext hE)
  have HG1 := Lib.hid (VRow.ext HG.out hE)
  have HE1 := Lib.hid (Ext.trans HE0.out hE)
  clear hE
  go_wp2_with fail
  refine (show Calls Try.prog 93 #[_, vecV 1 0] _ _ from reach_c _ ps 1 0 _ HV1.out HO2.out).mono ?_
  rintro e w2 ⟨rfl, hE⟩
  rw [← HL2.out]
  have HV2 := Lib.hid (HV1.out.ext hE)
  have HG2 := Lib.hid (VRow.ext HG1.out hE)
  have HE2 := Lib.hid (Ext.trans HE1.out hE)
  clear hE
  go_wp2_with fail
  refine (show Calls Try.prog 93 #[_, vecV 0 (-1)] _ _ from reach_c _ ps 0 (-1) _ HV2.out HO3.out).mono ?_
  rintro e w3 ⟨rfl, hE⟩
  rw [← HL3.out]
  have HV3 := Lib.hid (HV2.out.ext hE)
  have HG3 := Lib.hid (VRow.ext HG2.out hE)
  have HE3 := Lib.hid (Ext.trans HE2.out hE)
  clear hE
  go_wp2_with fail
  refine (show Calls Try.prog 93 #[_, vecV 0 1] _ _ from reach_c _ ps 0 1 _ HV3.out HO4.out).mono ?_
  rintro e w4 ⟨rfl, hE⟩
  rw [← HL4.out]
  have HV4 := Lib.hid (HV3.out.ext hE)
  have HG4 := Lib.hid (VRow.ext HG3.out hE)
  have HE4 := Lib.hid (Ext.trans HE3.out hE)
  clear hE
  have hmk := @run_makeMap Try.prog
  go_wp2_with fail
  clear hmk
  obtain ⟨b, hbs⟩ : ∃ b, b = w4.heap.size := ⟨_, rfl⟩
  have HM0 := Lib.hid (gmap_made w4 (offP A B D))
  have HEb := Lib.hid (Ext.alloc HE4.out (.map #[] 0))
  have HGb := Lib.hid (VRow.alloc HG4.out (.map #[] 0))
  have HLb := Lib.hid (show w.heap.size ≤ b from by rw [hbs]; exact HE4.out.size)
  rw [← hbs] at HM0 ⊢
  have HBS := Lib.hid hbs
  clear hbs
  generalize w4.alloc (.map #[] 0) = wm at *
  obtain ⟨gb, hgb⟩ : ∃ gb, gb = w.heap.size := ⟨_, rfl⟩
  have HGLT := Lib.hid (show gb < b from by rw [hgb]; have := VRow.lt HG4.out; have := HBS.out; omega)
  rw [← hgb] at HGb ⊢
  have HGL := Lib.hid hgb
  clear hgb HG HE0 HV
  go_loopw [14] (fun yv wr => ∃ j : Nat, yv = .int .i64 (y0 + (j : Int)) ∧ j ≤ m ∧ GMap wr (b + 1) b (offP A B D) (gridP x0 y0 n j) ∧ Ext w wr ∧ VRow wr gb 24 [.int .i64 A, .int .i64 B, .int .i64 D]) (fun yv _ => (y0 + (m : Int) - intOf yv).toNat)
  case atStart => exact ⟨0, by simp, Nat.zero_le _, HM0.out, HEb.out, HGb.out⟩
  case round =>
    rename World => wr
    obtain ⟨j, rfl, hj, hR, hE, hG⟩ := hrel
    have HR := Lib.hid hR
    have HE := Lib.hid hE
    have HGr := Lib.hid hG
    clear hR hE hG
    have hbd := HBD.out
    have hwh := HWH.out
    have hmv := HM.out
    have w1 := IntWalk.i64_in (H - y1) (by omega)
    obtain ⟨y, hy⟩ : ∃ y, y = y0 + (j : Int) := ⟨_, rfl⟩
    have HYJ := Lib.hid hy
    rw [← hy]
    by_cases hlt : j < m
    · have k1 : y ≤ H - y1 := by omega
      have HK := Lib.hid (show -12 ≤ y ∧ y ≤ 101 from by omega)
      clear hbd hwh hmv hy
      have HI0 := Lib.hid (show GMap wr (b + 1) b (offP A B D) (gridP x0 y0 n j ++ lineP x0 y 0) from by
        show GMap wr (b + 1) b (offP A B D) (gridP x0 y0 n j ++ [])
        rw [List.append_nil]; exact HR.out)
      go_wp2_with fail
      clear w1 k1
      go_loopw [15] (fun xv wq => ∃ i : Nat, xv = .int .i64 (x0 + (i : Int)) ∧ i ≤ n ∧ GMap wq (b + 1) b (offP A B D) (gridP x0 y0 n j ++ lineP x0 y i) ∧ Ext w wq ∧ VRow wq gb 24 [.int .i64 A, .int .i64 B, .int .i64 D]) (fun xv _ => (x0 + (n : Int) - intOf xv).toNat)
      case atStart => exact ⟨0, by simp, Nat.zero_le _, HI0.out, HE.out, HGr.out⟩
      case round =>
        rename World => wq
        obtain ⟨i, rfl, hi, hR, hE, hG⟩ := hrel
        have HRq := Lib.hid hR
        have HEq := Lib.hid hE
        have HGq := Lib.hid hG
        clear hR hE hG
        have hbd := HBD.out
        have hwh := HWH.out
        have hnv := HN.out
        have w1 := IntWalk.i64_in (W - x1) (by omega)
        obtain ⟨x, hx⟩ : ∃ x, x = x0 + (i : Int) := ⟨_, rfl⟩
        have HXI := Lib.hid hx
        rw [← hx]
        by_cases hit : i < n
        · have k1 : x ≤ W - x1 := by omega
          have HKX := Lib.hid (show -12 ≤ x ∧ x ≤ 101 from by omega)
          have w2 := IntWalk.i64_in (x + 1) (by omega)
          have HW2 := Lib.hid w2
          clear hbd hwh hnv hx w2
          obtain ⟨L, hL⟩ : ∃ L, L = gridP x0 y0 n j ++ lineP x0 y i := ⟨_, rfl⟩
          have HNX := Lib.hid (show gridP x0 y0 n j ++ lineP x0 y (i + 1) = L ++ [(x, y)] from by rw [hL, lineP, ← HXI.out, List.append_assoc])
          have HLN := Lib.hid (show L.length ≤ 100000 from by
            rw [hL, List.length_append, gridP_len, lineP_len]
            have h1 := Nat.mul_le_mul (show j ≤ 113 by have := HM.out.2; omega) HN.out.2
            have h2 := HN.out.2
            omega)
          rw [← hL] at HRq
          clear hL
          obtain ⟨s1, hs1⟩ : ∃ s1, s1 = wq.alloc (.cells #[.int .i64 x, .int .i64 y] 31) := ⟨_, rfl⟩
          have e1 := Ext.alloc (Ext.refl wq) (.cells #[.int .i64 x, .int .i64 y] 31)
          have HX1 := Lib.hid (show VRow (wq.alloc (.cells #[.int .i64 x, .int .i64 y] 31)) wq.heap.size 31 [.int .i64 x, .int .i64 y] from vrow_alloc wq [.int .i64 x, .int .i64 y] 31)
          have HR1 := Lib.hid (HRq.out.ext e1)
          have HE1 := Lib.hid (Ext.trans HEq.out e1)
          have HG1 := Lib.hid (VRow.ext HGq.out e1)
          have c0 := VRow.cell HG1.out (k := 0) rfl
          have c1 := VRow.cell HG1.out (k := 1) rfl
          have c2 := VRow.cell HG1.out (k := 2) rfl
          have d0 := VRow.cell HX1.out (k := 0) rfl
          have d1 := VRow.cell HX1.out (k := 1) rfl
          clear hs1 e1
          go_wp2_with fail
          clear c0 c1 c2 d0 d1 w1
          refine (show Calls Try.prog 94 #[gridV A B D, vecV x y] _ _ from offset_c A B D x y _ HGB.out (by have := HKX.out; omega) (by have := HK.out; omega)).mono ?_
          rintro e w5 ⟨rfl, hE⟩
          obtain ⟨q, hq⟩ : ∃ q, q = offP A B D (x, y) := ⟨_, rfl⟩
          have HQ := Lib.hid hq
          rw [← hq]
          have hqb := offP_bd (A := A) (B := B) (D := D) HGI.out.1 HGI.out.2.2.1 (x, y)
          rw [← hq] at hqb
          have HNQ := Lib.hid (show nearPt q from by have := HGI.out; unfold nearPt; omega)
          clear hq hqb
          obtain ⟨qx, qy⟩ := q
          have HR5 := Lib.hid (HR1.out.ext hE)
          have e2 := Ext.trans hE (Ext.alloc (Ext.refl w5) (.cells #[.int .i64 qx, .int .i64 qy] 31))
          have e3 := Ext.trans e2 (Ext.alloc (Ext.refl _) (.cells #[.int .i64 x, .int .i64 y] 31))
          have HR3 := Lib.hid (HR1.out.ext e3)
          have HE3 := Lib.hid (Ext.trans HE1.out e3)
          have HG3 := Lib.hid (VRow.ext HG1.out e3)
          have HX2 := Lib.hid (VRow.ext HX1.out e2)
          have HQ2 := Lib.hid (show VRow (w5.alloc (.cells #[.int .i64 qx, .int .i64 qy] 31)) w5.heap.size 31 [.int .i64 qx, .int .i64 qy] from vrow_alloc w5 [.int .i64 qx, .int .i64 qy] 31)
          clear hE e2 e3
          have hsz5 : (w5.alloc (.cells #[.int .i64 qx, .int .i64 qy] 31)).heap.size = w5.heap.size + 1 := by simp
          have HNW := Lib.hid (show VRow ((w5.alloc (.cells #[.int .i64 qx, .int .i64 qy] 31)).alloc (.cells #[.int .i64 x, .int .i64 y] 31)) (w5.heap.size + 1) 31 [.int .i64 x, .int .i64 y] from by
            have h := vrow_alloc (w5.alloc (.cells #[.int .i64 qx, .int .i64 qy] 31)) [.int .i64 x, .int .i64 y] 31
            rw [hsz5] at h
            exact h)
          have hln := HLN.out
          obtain ⟨v0, st, es1, clk, hme, ho0, hg1, hfin⟩ := gmap_entry HR3.out (q := (qx, qy)) HNQ.out (by omega)
          have d0 := VRow.cell HX2.out (k := 0) rfl
          have d1 := VRow.cell HX2.out (k := 1) rfl
          have f0 := VRow.cell HQ2.out (k := 0) rfl
          have f1 := VRow.cell HQ2.out (k := 1) rfl
          have HO0 := Lib.hid ho0
          have HG9 := Lib.hid hg1
          have HFIN := Lib.hid hfin
          have HSB := Lib.hid (show (Go.ChangeMaps.setBlock ((w5.alloc (.cells #[.int .i64 qx, .int .i64 qy] 31)).alloc (.cells #[.int .i64 x, .int .i64 y] 31)) b (.map es1 clk)).heap.size = w5.heap.size + 2 from by simp [Go.ChangeMaps.setBlock])
          clear ho0 hg1 hfin
          generalize Go.ChangeMaps.setBlock ((w5.alloc (.cells #[.int .i64 qx, .int .i64 qy] 31)).alloc (.cells #[.int .i64 x, .int .i64 y] 31)) b (.map es1 clk) = W1 at *
          have hbl := HR5.out.lt
          have HNC := Lib.hid (show ∀ (j : Nat) (u : Value), [(.int .i64 x : Value), .int .i64 y][j]? = some u → W1.cell? ((⟨w5.heap.size + 1, 0, none⟩ : Addr).add j) = some u from fun j u hj => by
            have hv : VRow W1 (w5.heap.size + 1) 31 [.int .i64 x, .int .i64 y] := (HG9.out.block _ (by simp) (fun e => by injection e with e; omega)).trans HNW.out
            exact two_cellsU hv j u hj)
          have HV1 := Lib.hid (show VRow W1 gb 24 [.int .i64 A, .int .i64 B, .int .i64 D] from (HG9.out.block _ (VRow.lt HG3.out) (fun e => by injection e with e; have := HGLT.out; omega)).trans HG3.out)
          have HX9 := Lib.hid (Below.grown HE3.out HG9.out HE3.out.size (fun j e => by injection e with e; have := HLb.out; omega))
          have hsb := HSB.out
          have hgl := Nat.le_trans (grp_le (offP A B D) L (qx, qy)) hln
          have w2 := HW2.out
          dsimp only at hme ⊢
          clear hsz5
          go_wp2_with (at_builtin; (refine wpList_append_own_at _ rfl _ _ 22 rfl (b + 1) 31 i0 (.agg #[.int .i64 0, .int .i64 0]) 2 16 Try.underlying22 HI.out HZ0.out HZ1.out HZ2.out rfl (by decide) _ _ _ rfl HO0.out ⟨w5.heap.size + 1, 0, none⟩ 1 1 [.int .i64 x, .int .i64 y] rfl rfl HNC.out (by simp [Value.oneCell']) (by unfold maxLen; omega) (by omega) (by omega) ?_; intro v1 W2 hO hG hnil hat; obtain ⟨W3, hst, hGM, hg3⟩ := HFIN.out (x, y) W2 v1 HQ.out.symm hG hO (hat.imp id fun h => ⟨_, h, by rw [HSB.out]; simp⟩); have HGM := Lib.hid hGM; have HGA := Lib.hid hG; have HGB3 := Lib.hid hg3; have HOA := Lib.hid hO; clear hO hG hnil hat hGM hg3))
          have h0b : ∀ j, v0.ownBlock = some j → b + 1 ≤ j := fun j hj => (row_block HO0.out hj).1
          have hX2 := Below.grown HX9.out HGA.out HX9.out.size (fun j e => by have := h0b j e; have := HLb.out; omega)
          have hX3 := Below.grown hX2 HGB3.out hX2.size (fun j e => by injection e with e; have := HLb.out; omega)
          have hV2 : VRow W2 gb 24 [.int .i64 A, .int .i64 B, .int .i64 D] := (HGA.out.block _ (VRow.lt HV1.out) (fun e => by have := h0b _ e.symm; have := HGLT.out; omega)).trans HV1.out
          have hV3 : VRow W3 gb 24 [.int .i64 A, .int .i64 B, .int .i64 D] := (HGB3.out.block _ (VRow.lt hV2) (fun e => by injection e with e; have := HGLT.out; omega)).trans hV2
          refine ⟨⟨i + 1, ?_, by omega, by rw [HNX.out]; exact HGM.out, hX3, hV3⟩, ?_⟩
          · have := HXI.out; (try simp); omega
          · have := HXI.out; simp [intOf]; omega
        · have k1 : ¬ x ≤ W - x1 := by omega
          have hin : i = n := by omega
          have HXF := Lib.hid (show gridP x0 y0 n (j + 1) = gridP x0 y0 n j ++ lineP x0 y i from by rw [hin, HYJ.out]; rfl)
          have w2 := IntWalk.i64_in (y + 1) (by have := HK.out; omega)
          clear hbd hwh hnv hx hin
          go_wp2_with fail
          refine ⟨⟨j + 1, ?_, by omega, by rw [HXF.out]; exact HRq.out, HEq.out, HGq.out⟩, ?_⟩
          · have := HYJ.out; (try simp); omega
          · have := HYJ.out; simp [intOf]; omega
    · have k1 : ¬ y ≤ H - y1 := by omega
      have hjm : j = m := by omega
      have HF := Lib.hid (show pl = gridP x0 y0 n j from by rw [hjm]; exact HPL.out)
      clear hbd hwh hmv hy hjm
      go_wp2_with fail
      go_ret
      exact ⟨b, rfl, by rw [HF.out]; exact HR.out, HLb.out, HE.out⟩
end Go.Proofs.Ytnpebfchojalcaa

namespace Go.Proofs.Ytnpebfchojalcaa
set_option maxRecDepth 100000
open Go.RowKit Go.Shelf
attribute [local go_sem] Oper.semAt_some
/-! The reference's offsets. -/
theorem modulo_c (a n : Int) (w : World) (_ : -1000000000 ≤ a) (_ : a ≤ 1000000000) (hn1 : 1 ≤ n) (hn2 : n ≤ 1000000) :
    Calls Try.prog 84 #[.int .i64 a, .int .i64 n] w fun e w' => e = .returned (.int .i64 (a % n)) ∧ w = w' := by
  have hn0 : n ≠ 0 := by omega
  have b1 : -n < a.tmod n := by
    have := Int.neg_tmod a n
    have h3 := Int.tmod_lt_of_pos (-a) (show 0 < n by omega)
    omega
  have b2 := Int.tmod_lt_of_pos a (show 0 < n by omega)
  have HR := Lib.hid (show (a.tmod n + n) % n = a % n by rw [← Int.tmod_eq_emod_of_nonneg (by omega), tmod_mod a n hn1])
  go_enter Try.func84, Try.ntmps84
  go_wp2
  go_ret
  exact ⟨ret_int HR.out, rfl⟩
set_option maxHeartbeats 2000000 in
theorem rOffset_c (A B D x y : Int) (w : World) (hg : gridB A B D = true) (hx : -1000 ≤ x ∧ x ≤ 1000) (hy : -1000 ≤ y ∧ y ≤ 1000) :
    Calls Try.prog 40 #[gridV A B D, vecV x y] w fun e w' => e = .returned (vecV (offP A B D (x, y)).1 (offP A B D (x, y)).2) ∧ Ext w w' := by
  have hgi := gridB_iff.1 hg
  have hE0 := Ext.alloc (Ext.alloc (Ext.alloc (Ext.refl w) (.cells #[.int .i64 A, .int .i64 B, .int .i64 D] 24)) (.cells #[.int .i64 x, .int .i64 y] 31)) (.cells #[.int .i64 0, .int .i64 0] 31)
  have HE0 := Lib.hid hE0
  have HG := Lib.hid (show VRow (((w.alloc (.cells #[.int .i64 A, .int .i64 B, .int .i64 D] 24)).alloc (.cells #[.int .i64 x, .int .i64 y] 31)).alloc (.cells #[.int .i64 0, .int .i64 0] 31)) w.heap.size 24 [.int .i64 A, .int .i64 B, .int .i64 D] from ((vrow_alloc w [.int .i64 A, .int .i64 B, .int .i64 D] 24).alloc _).alloc _)
  have HX := Lib.hid (show VRow (((w.alloc (.cells #[.int .i64 A, .int .i64 B, .int .i64 D] 24)).alloc (.cells #[.int .i64 x, .int .i64 y] 31)).alloc (.cells #[.int .i64 0, .int .i64 0] 31)) (w.heap.size + 1) 31 [.int .i64 x, .int .i64 y] from by
    have h := vrow_alloc (w.alloc (.cells #[.int .i64 A, .int .i64 B, .int .i64 D] 24)) [.int .i64 x, .int .i64 y] 31
    rw [show (w.alloc (.cells #[.int .i64 A, .int .i64 B, .int .i64 D] 24)).heap.size = w.heap.size + 1 by simp] at h
    exact h.alloc _)
  have HR := Lib.hid (show VRow (((w.alloc (.cells #[.int .i64 A, .int .i64 B, .int .i64 D] 24)).alloc (.cells #[.int .i64 x, .int .i64 y] 31)).alloc (.cells #[.int .i64 0, .int .i64 0] 31)) (w.heap.size + 2) 31 [.int .i64 0, .int .i64 0] from by
    have h := vrow_alloc ((w.alloc (.cells #[.int .i64 A, .int .i64 B, .int .i64 D] 24)).alloc (.cells #[.int .i64 x, .int .i64 y] 31)) [.int .i64 0, .int .i64 0] 31
    rw [show ((w.alloc (.cells #[.int .i64 A, .int .i64 B, .int .i64 D] 24)).alloc (.cells #[.int .i64 x, .int .i64 y] 31)).heap.size = w.heap.size + 2 by simp] at h
    exact h)
  have b1 := Int.emod_nonneg x (show A ≠ 0 by omega)
  have b2 := Int.emod_lt_of_pos x (show 0 < A by omega)
  have hq := quo_back (x := x) (A := A) (by omega)
  have hqb : -1000 ≤ x / A ∧ x / A ≤ 1000 := by
    have h1 := Int.mul_ediv_add_emod x A
    constructor
    · refine Int.not_lt.1 fun h => ?_
      have := Int.mul_le_mul_of_nonneg_left (c := A) (show x / A ≤ -1001 by omega) (by omega)
      omega
    · refine Int.not_lt.1 fun h => ?_
      have := Int.mul_le_mul_of_nonneg_left (c := A) (show 1001 ≤ x / A by omega) (by omega)
      omega
  have hpb : -400000 ≤ x / A * B ∧ x / A * B ≤ 400000 := by
    constructor
    · refine Int.le_trans ?_ (Int.mul_le_mul_of_nonneg_right hqb.1 (by omega))
      omega
    · refine Int.le_trans (Int.mul_le_mul_of_nonneg_right hqb.2 (by omega)) ?_
      omega
  have HW1 := Lib.hid (IntWalk.i64_in (x - x % A) (by omega))
  have HW2 := Lib.hid (IntWalk.i64_in (x / A) (by omega))
  have HW3 := Lib.hid (IntWalk.i64_in (x / A * B) (by omega))
  have HW4 := Lib.hid (IntWalk.i64_in (y - x / A * B) (by omega))
  have HQ := Lib.hid hq
  have HA := Lib.hid (show (1 ≤ A ∧ A ≤ 1000000) ∧ (1 ≤ D ∧ D ≤ 1000000) by omega)
  have HY := Lib.hid (show -1000000000 ≤ y - x / A * B ∧ y - x / A * B ≤ 1000000000 by omega)
  have HXB := Lib.hid (show -1000000000 ≤ x ∧ x ≤ 1000000000 by omega)
  have hA0 : A ≠ 0 := by omega
  clear hgi hE0 b1 b2 hq hqb hpb hg hx hy
  have c0 := VRow.cell HG.out (k := 0) rfl
  have d0 := VRow.cell HX.out (k := 0) rfl
  unfold gridV
  go_enter Try.func40, Try.ntmps40
  go_wp2_with fail
  refine (modulo_c x A _ HXB.out.1 HXB.out.2 HA.out.1.1 HA.out.1.2).mono ?_
  rintro e w2 ⟨rfl, rfl⟩
  go_wp2_with fail
  clear c0 d0
  generalize ((w.alloc (.cells #[.int .i64 A, .int .i64 B, .int .i64 D] 24)).alloc (.cells #[.int .i64 x, .int .i64 y] 31)).alloc (.cells #[.int .i64 0, .int .i64 0] 31) = w1 at *
  obtain ⟨s, hs⟩ : ∃ s, s = w.heap.size := ⟨_, rfl⟩
  have HSS := Lib.hid (show w.heap.size ≤ s + 2 from by omega)
  rw [← hs] at HG HX HR ⊢
  rw [show s + 1 + 1 = s + 2 from rfl]
  clear hs
  refine wp_region_stable_last [⟨[], none⟩, ⟨[], none⟩, ⟨[(1, 12)], none⟩, ⟨[], none⟩, ⟨[(3, 14)], none⟩, ⟨[], none⟩, ⟨[(4, 15), (5, 16)], none⟩, ⟨[], none⟩, ⟨[(7, 18)], none⟩, ⟨[(6, 17), (8, 19)], none⟩, ⟨[], none⟩, ⟨[(10, 21)], none⟩, ⟨[(9, 20), (11, 22)], none⟩, ⟨[(2, 13), (12, 23)], none⟩, ⟨[], none⟩, ⟨[(14, 25)], none⟩, ⟨[(13, 24), (15, 26)], none⟩, ⟨[(0, 11), (16, 27)], none⟩] (fun x y => Below x.heap.size x y) (MPat [MP.eq (.int .i64 (x % A)), MP.eq (.pointer (some ⟨(s + 1), 1, none⟩)), MP.eq (.int .i64 y), MP.eq (.pointer (some ⟨(s + 1), 0, none⟩)), MP.eq (.int .i64 x), MP.eq (.int .i64 (x % A)), MP.eq (.int .i64 (x - x % A)), MP.eq (.pointer (some ⟨s, 0, none⟩)), MP.eq (.int .i64 A), MP.eq (.int .i64 (x / A)), MP.eq (.pointer (some ⟨s, 1, none⟩)), MP.eq (.int .i64 B), MP.eq (.int .i64 (x / A * B)), MP.eq (.int .i64 (y - x / A * B)), MP.eq (.pointer (some ⟨s, 2, none⟩)), MP.eq (.int .i64 D), MP.eq (.int .i64 ((y - x / A * B) % D)), MP.eq (vecV (x % A) ((y - x / A * B) % D))]) rfl (by kernel_rfl) (fun _ _ _ h k => Ext.trans h k) (fun _ => Below.refl _ _) (fun x => (Below.refl x.heap.size x).drew) (MPat.mono _) (by kernel_rfl) (by kernel_rfl) (by kernel_rfl) ?obs ?rest
  case obs =>
    refine ⟨?_, ?_, ?_, ?_, ?_, ?_, ?_, ?_, ?_, ?_, ?_, ?_, ?_, ?_, ?_, ?_, ?_, ?_, trivial⟩
    · intro ev W hf _ _ hst hd
      have e5 : ev (.tmp 5) = .int .i64 (x % A) := hf 5 (by kernel_rfl)
      exact st_value (v := .int .i64 (x % A)) (by simp [execOp, go_sem, e5]) (Below.refl _ _) rfl
    · intro ev W hf _ _ hst hd
      have e3 : ev (.tmp 3) = .pointer (some ⟨(s + 1), 0, none⟩) := hf 3 (by kernel_rfl)
      exact st_value (v := .pointer (some ⟨(s + 1), 1, none⟩)) (by simp [execOp, go_sem, e3]) (Below.refl _ _) rfl
    · intro ev W hf _ _ hst hd
      obtain ⟨d12, _⟩ := hd
      have e12 : ev (.tmp 12) = .pointer (some ⟨(s + 1), 1, none⟩) := d12
      have kk := VRow.ext HX.out hst
      have k0 := VRow.cell kk (k := 1) rfl
      exact st_value (v := .int .i64 y) (by simp [execOp, go_sem, e12, k0]) (Below.refl _ _) rfl
    · intro ev W hf _ _ hst hd
      have e3 : ev (.tmp 3) = .pointer (some ⟨(s + 1), 0, none⟩) := hf 3 (by kernel_rfl)
      exact st_value (v := .pointer (some ⟨(s + 1), 0, none⟩)) (by simp [execOp, go_sem, e3]) (Below.refl _ _) rfl
    · intro ev W hf _ _ hst hd
      obtain ⟨d14, _⟩ := hd
      have e14 : ev (.tmp 14) = .pointer (some ⟨(s + 1), 0, none⟩) := d14
      have kk := VRow.ext HX.out hst
      have k0 := VRow.cell kk (k := 0) rfl
      exact st_value (v := .int .i64 x) (by simp [execOp, go_sem, e14, k0]) (Below.refl _ _) rfl
    · intro ev W hf _ _ hst hd
      have e5 : ev (.tmp 5) = .int .i64 (x % A) := hf 5 (by kernel_rfl)
      exact st_value (v := .int .i64 (x % A)) (by simp [execOp, go_sem, e5]) (Below.refl _ _) rfl
    · intro ev W hf _ _ hst hd
      obtain ⟨d15, d16, _⟩ := hd
      have e15 : ev (.tmp 15) = .int .i64 x := d15
      have e16 : ev (.tmp 16) = .int .i64 (x % A) := d16
      have k0 := HW1.out
      exact st_value (v := .int .i64 (x - x % A)) (by simp [execOp, go_sem, e15, e16, k0]) (Below.refl _ _) rfl
    · intro ev W hf _ _ hst hd
      have e2 : ev (.tmp 2) = .pointer (some ⟨s, 0, none⟩) := hf 2 (by kernel_rfl)
      exact st_value (v := .pointer (some ⟨s, 0, none⟩)) (by simp [execOp, go_sem, e2]) (Below.refl _ _) rfl
    · intro ev W hf _ _ hst hd
      obtain ⟨d18, _⟩ := hd
      have e18 : ev (.tmp 18) = .pointer (some ⟨s, 0, none⟩) := d18
      have kk := VRow.ext HG.out hst
      have k0 := VRow.cell kk (k := 0) rfl
      exact st_value (v := .int .i64 A) (by simp [execOp, go_sem, e18, k0]) (Below.refl _ _) rfl
    · intro ev W hf _ _ hst hd
      obtain ⟨d17, d19, _⟩ := hd
      have e17 : ev (.tmp 17) = .int .i64 (x - x % A) := d17
      have e19 : ev (.tmp 19) = .int .i64 A := d19
      have k0 := HW2.out
      have k1 := HQ.out
      exact st_value (v := .int .i64 (x / A)) (by simp [execOp, go_sem, e17, e19, hA0, k1, k0]) (Below.refl _ _) rfl
    · intro ev W hf _ _ hst hd
      have e2 : ev (.tmp 2) = .pointer (some ⟨s, 0, none⟩) := hf 2 (by kernel_rfl)
      exact st_value (v := .pointer (some ⟨s, 1, none⟩)) (by simp [execOp, go_sem, e2]) (Below.refl _ _) rfl
    · intro ev W hf _ _ hst hd
      obtain ⟨d21, _⟩ := hd
      have e21 : ev (.tmp 21) = .pointer (some ⟨s, 1, none⟩) := d21
      have kk := VRow.ext HG.out hst
      have k0 := VRow.cell kk (k := 1) rfl
      exact st_value (v := .int .i64 B) (by simp [execOp, go_sem, e21, k0]) (Below.refl _ _) rfl
    · intro ev W hf _ _ hst hd
      obtain ⟨d20, d22, _⟩ := hd
      have e20 : ev (.tmp 20) = .int .i64 (x / A) := d20
      have e22 : ev (.tmp 22) = .int .i64 B := d22
      have k0 := HW3.out
      exact st_value (v := .int .i64 (x / A * B)) (by simp [execOp, go_sem, e20, e22, k0]) (Below.refl _ _) rfl
    · intro ev W hf _ _ hst hd
      obtain ⟨d13, d23, _⟩ := hd
      have e13 : ev (.tmp 13) = .int .i64 y := d13
      have e23 : ev (.tmp 23) = .int .i64 (x / A * B) := d23
      have k0 := HW4.out
      exact st_value (v := .int .i64 (y - x / A * B)) (by simp [execOp, go_sem, e13, e23, k0]) (Below.refl _ _) rfl
    · intro ev W hf _ _ hst hd
      have e2 : ev (.tmp 2) = .pointer (some ⟨s, 0, none⟩) := hf 2 (by kernel_rfl)
      exact st_value (v := .pointer (some ⟨s, 2, none⟩)) (by simp [execOp, go_sem, e2]) (Below.refl _ _) rfl
    · intro ev W hf _ _ hst hd
      obtain ⟨d25, _⟩ := hd
      have e25 : ev (.tmp 25) = .pointer (some ⟨s, 2, none⟩) := d25
      have kk := VRow.ext HG.out hst
      have k0 := VRow.cell kk (k := 2) rfl
      exact st_value (v := .int .i64 D) (by simp [execOp, go_sem, e25, k0]) (Below.refl _ _) rfl
    · intro ev W hf _ hfn hst hd
      obtain ⟨d24, d26, _⟩ := hd
      have e24 : ev (.tmp 24) = .int .i64 (y - x / A * B) := d24
      have e26 : ev (.tmp 26) = .int .i64 D := d26
      refine st_call (f := 84) (args := #[.int .i64 (y - x / A * B), .int .i64 D]) (by simp [execOp, go_sem, hfn, e24, e26]) (calls_same (modulo_c (y - x / A * B) D W HY.out.1 HY.out.2 HA.out.2.1 HA.out.2.2)) (fun _ _ => rfl)
    · intro ev W hf _ _ hst hd
      obtain ⟨d11, d27, _⟩ := hd
      have e11 : ev (.tmp 11) = .int .i64 (x % A) := d11
      have e27 : ev (.tmp 27) = .int .i64 ((y - x / A * B) % D) := d27
      exact st_value (v := vecV (x % A) ((y - x / A * B) % D)) (by simp [execOp, go_sem, e11, e27]) (Below.refl _ _) rfl
  case rest =>
    intro vs w3 hl hst hg
    have hvs : vs = [.int .i64 (x % A), .pointer (some ⟨(s + 1), 1, none⟩), .int .i64 y, .pointer (some ⟨(s + 1), 0, none⟩), .int .i64 x, .int .i64 (x % A), .int .i64 (x - x % A), .pointer (some ⟨s, 0, none⟩), .int .i64 A, .int .i64 (x / A), .pointer (some ⟨s, 1, none⟩), .int .i64 B, .int .i64 (x / A * B), .int .i64 (y - x / A * B), .pointer (some ⟨s, 2, none⟩), .int .i64 D, .int .i64 ((y - x / A * B) % D), vecV (x % A) ((y - x / A * B) % D)] := vs_all hl hg
    have HE3 := Lib.hid hst
    clear hg hst hl
    subst hvs
    simp only [putAll, Act.put, List.dropLast, List.setIfInBounds_toArray, List.set_cons_zero, List.set_cons_succ]
    have HR3 := Lib.hid (VRow.ext HR.out HE3.out)
    have f0 := VRow.frozen HR3.out 0 none
    have f1 := VRow.frozen HR3.out 1 none
    have r0 := VRow.cell HR3.out (k := 0) rfl
    have r1 := VRow.cell HR3.out (k := 1) rfl
    go_wp2_with fail
    (try simp only [Exit.inBlock, Exit.then])
    refine bodyPost_ret (v := vecV (offP A B D (x, y)).1 (offP A B D (x, y)).2) (by rw [results_cell1 rfl]; go_simp; (try exact ⟨rfl, rfl⟩)) rfl ?_
    exact ⟨rfl, ext2_putU (Ext.trans HE0.out HE3.out) HSS.out _ _⟩
end Go.Proofs.Ytnpebfchojalcaa

namespace Go.Proofs.Ytnpebfchojalcaa
set_option maxRecDepth 100000
open Go.RowKit Go.Shelf
attribute [local go_sem] Oper.semAt_some
/-! The reference's places. -/
def mnZ (a b : Int) : Int := if b < a then b else a
def mxZ (a b : Int) : Int := if a < b then b else a
def loP (ps : List Pt) : Nat → Pt
  | 0 => fromP ps 0
  | k + 1 => (mnZ (loP ps k).1 (fromP ps (k + 1)).1, mnZ (loP ps k).2 (fromP ps (k + 1)).2)
def hiQ (ps : List Pt) : Nat → Pt
  | 0 => fromP ps 0
  | k + 1 => (mxZ (hiQ ps k).1 (fromP ps (k + 1)).1, mxZ (hiQ ps k).2 (fromP ps (k + 1)).2)
theorem lo_spec (ps : List Pt) : ∀ k, (∀ j, j ≤ k → (loP ps k).1 ≤ (fromP ps j).1 ∧ (loP ps k).2 ≤ (fromP ps j).2) ∧ (∃ j, j ≤ k ∧ (loP ps k).1 = (fromP ps j).1) ∧ ∃ j, j ≤ k ∧ (loP ps k).2 = (fromP ps j).2
  | 0 => ⟨fun j hj => by obtain rfl : j = 0 := by omega
                         exact ⟨Int.le_refl _, Int.le_refl _⟩, ⟨0, Nat.le_refl _, rfl⟩, ⟨0, Nat.le_refl _, rfl⟩⟩
  | k + 1 => by
    obtain ⟨h1, ⟨j1, a1, a2⟩, ⟨j2, b1, b2⟩⟩ := lo_spec ps k
    refine ⟨fun j hj => ?_, ?_, ?_⟩
    · by_cases h : j = k + 1
      · subst h
        unfold loP mnZ
        dsimp only
        constructor <;> split <;> omega
      · have := h1 j (by omega)
        unfold loP mnZ
        dsimp only
        constructor <;> split <;> omega
    · unfold loP mnZ
      dsimp only
      split
      · exact ⟨k + 1, Nat.le_refl _, rfl⟩
      · exact ⟨j1, by omega, a2⟩
    · unfold loP mnZ
      dsimp only
      split
      · exact ⟨k + 1, Nat.le_refl _, rfl⟩
      · exact ⟨j2, by omega, b2⟩
theorem hi_spec (ps : List Pt) : ∀ k, (∀ j, j ≤ k → (fromP ps j).1 ≤ (hiQ ps k).1 ∧ (fromP ps j).2 ≤ (hiQ ps k).2) ∧ (∃ j, j ≤ k ∧ (hiQ ps k).1 = (fromP ps j).1) ∧ ∃ j, j ≤ k ∧ (hiQ ps k).2 = (fromP ps j).2
  | 0 => ⟨fun j hj => by obtain rfl : j = 0 := by omega
                         exact ⟨Int.le_refl _, Int.le_refl _⟩, ⟨0, Nat.le_refl _, rfl⟩, ⟨0, Nat.le_refl _, rfl⟩⟩
  | k + 1 => by
    obtain ⟨h1, ⟨j1, a1, a2⟩, ⟨j2, b1, b2⟩⟩ := hi_spec ps k
    refine ⟨fun j hj => ?_, ?_, ?_⟩
    · by_cases h : j = k + 1
      · subst h
        unfold hiQ mxZ
        dsimp only
        constructor <;> split <;> omega
      · have := h1 j (by omega)
        unfold hiQ mxZ
        dsimp only
        constructor <;> split <;> omega
    · unfold hiQ mxZ
      dsimp only
      split
      · exact ⟨k + 1, Nat.le_refl _, rfl⟩
      · exact ⟨j1, by omega, a2⟩
    · unfold hiQ mxZ
      dsimp only
      split
      · exact ⟨k + 1, Nat.le_refl _, rfl⟩
      · exact ⟨j2, by omega, b2⟩
theorem lo_go {ps : List Pt} (hn : 0 < ps.length) : goL ps (-1) 0 = -(loP ps (ps.length - 1)).1 ∧ goL ps 0 (-1) = -(loP ps (ps.length - 1)).2 := by
  obtain ⟨h1, ⟨j1, a1, a2⟩, ⟨j2, b1, b2⟩⟩ := lo_spec ps (ps.length - 1)
  obtain ⟨i1, c1, e1⟩ := go_at hn (-1) 0
  obtain ⟨i2, c2, e2⟩ := go_at hn 0 (-1)
  have d1 := go_le hn (-1) 0 (from_mem (show j1 < ps.length by omega))
  have d2 := go_le hn 0 (-1) (from_mem (show j2 < ps.length by omega))
  have f1 := h1 i1 (by omega)
  have f2 := h1 i2 (by omega)
  omega
theorem hi_go {ps : List Pt} (hn : 0 < ps.length) : goL ps 1 0 = (hiQ ps (ps.length - 1)).1 ∧ goL ps 0 1 = (hiQ ps (ps.length - 1)).2 := by
  obtain ⟨h1, ⟨j1, a1, a2⟩, ⟨j2, b1, b2⟩⟩ := hi_spec ps (ps.length - 1)
  obtain ⟨i1, c1, e1⟩ := go_at hn 1 0
  obtain ⟨i2, c2, e2⟩ := go_at hn 0 1
  have d1 := go_le hn 1 0 (from_mem (show j1 < ps.length by omega))
  have d2 := go_le hn 0 1 (from_mem (show j2 < ps.length by omega))
  have f1 := h1 i1 (by omega)
  have f2 := h1 i2 (by omega)
  omega
theorem row_baseU2 {w : World} {base c n : Nat} {v : Value} {xs : List Value} (h : w.ownsRow base 31 2 v n xs) (hc : c ≤ base) : w.ownsRow c 31 2 v n xs := by
  obtain ⟨h1, h2⟩ := h
  refine ⟨h1, ?_⟩
  rcases h2 with h2 | ⟨g, cap, cur, a1, a2, a3⟩
  · exact .inl h2
  · exact .inr ⟨g, cap, cur, a1, Nat.le_trans hc a2, a3⟩
set_option maxHeartbeats 16000000 in
theorem rplaces_c (v : Value) (ps : List Pt) (W H : Int) (w : World) (hv : Vecs w v ps) (hb : blankB ps = true) (hw : 1 ≤ W ∧ W ≤ 100) (hh : 1 ≤ H ∧ H ≤ 100) :
    Calls Try.prog 56 #[v, .int .i64 W, .int .i64 H] w fun e w' => ∃ r, e = .returned r ∧ w'.ownsRow w.heap.size 31 2 r (placesL ps W H).length (cellsOf (placesL ps W H)) ∧ Ext w w' := by
  obtain ⟨base, hbase⟩ : ∃ base, base = w.heap.size := ⟨_, rfl⟩
  rw [← hbase]
  have HBASE := Lib.hid (show base ≤ w.heap.size from Nat.le_of_eq hbase)
  clear hbase
  have h1 : 1 ≤ ps.length := by have := (valid_near (blank_parts hb).1).2; omega
  have hbd := go_bd hb
  have hlg := lo_go (ps := ps) (by omega)
  have hhg := hi_go (ps := ps) (by omega)
  obtain ⟨b, o, cap, rfl, hl, hm, hc⟩ := vecs_cells hv h1
  have HC := Lib.hid hc
  obtain ⟨pl, hpl⟩ : ∃ pl, pl = placesL ps W H := ⟨_, rfl⟩
  have HPL := Lib.hid hpl
  unfold placesL at HPL
  rw [← hpl]
  have HBD := Lib.hid hbd
  have HLG := Lib.hid hlg
  have HHG := Lib.hid hhg
  have HWH := Lib.hid (And.intro hw hh)
  clear hpl hbd hlg hhg hw hh hb
  have c := hc 0 (by omega)
  have c0 := c.1
  have c1 := c.2
  simp only [Nat.zero_mul, Nat.add_zero] at c0 c1
  have hblt := cell_lt c0
  have HBL := Lib.hid hblt
  have eA := Ext.alloc (Ext.alloc (Ext.refl w) (.cells #[.int .i64 0, .int .i64 0] 31)) (.cells #[.int .i64 0, .int .i64 0] 31)
  have e0 := Ext.cell eA c0
  have e1 := Ext.cell eA c1
  have hn0 : 0 < ps.length := by omega
  have hnz : (0 : Int) < (ps.length : Int) := by omega
  have HN1 := Lib.hid h1
  obtain ⟨i0, hi0, hz0, hz1, hz2⟩ := info_parts info31
  have HI := Lib.hid hi0
  have HZ0 := Lib.hid hz0
  have HZ1 := Lib.hid hz1
  have HZ2 := Lib.hid hz2
  clear hv hc h1 c eA hi0 hz0 hz1 hz2
  obtain ⟨p0, hp0⟩ : ∃ p0, p0 = fromP ps 0 := ⟨_, rfl⟩
  rw [← hp0] at c0 c1 e0 e1
  have HP0 := Lib.hid (show loP ps 0 = p0 ∧ hiQ ps 0 = p0 from ⟨hp0.symm, hp0.symm⟩)
  have vA := vrow_alloc w [.int .i64 p0.1, .int .i64 p0.2] 31
  have vB := vrow_alloc (w.alloc (.cells #[.int .i64 p0.1, .int .i64 p0.2] 31)) [.int .i64 p0.1, .int .i64 p0.2] 31
  rw [show (w.alloc (.cells #[.int .i64 p0.1, .int .i64 p0.2] 31)).heap.size = w.heap.size + 1 by simp] at vB
  have VA := Lib.hid (show VRow ((w.alloc (.cells #[.int .i64 p0.1, .int .i64 p0.2] 31)).alloc (.cells #[.int .i64 p0.1, .int .i64 p0.2] 31)).drew w.heap.size 31 [.int .i64 p0.1, .int .i64 p0.2] from VRow.alloc vA _)
  have VB := Lib.hid (show VRow ((w.alloc (.cells #[.int .i64 p0.1, .int .i64 p0.2] 31)).alloc (.cells #[.int .i64 p0.1, .int .i64 p0.2] 31)).drew (w.heap.size + 1) 31 [.int .i64 p0.1, .int .i64 p0.2] from vB)
  have EAB := Lib.hid (show Ext w ((w.alloc (.cells #[.int .i64 p0.1, .int .i64 p0.2] 31)).alloc (.cells #[.int .i64 p0.1, .int .i64 p0.2] 31)).drew from Below.drew (Ext.alloc (Ext.alloc (Ext.refl w) _) _))
  clear vA vB hp0
  go_enter Try.func56, Try.ntmps56
  go_upto_region 1 with fail
  go_cut [7, 8] from 13 to 18 (fun sa sb wa => ∃ g1 g2 : Nat, sa = .pointer (some ⟨g1, 0, none⟩) ∧ sb = .pointer (some ⟨g2, 0, none⟩) ∧ VRow wa g1 31 [.int .i64 p0.1, .int .i64 p0.2] ∧ VRow wa g2 31 [.int .i64 p0.1, .int .i64 p0.2] ∧ (g1 ≠ g2 ∧ w.heap.size ≤ g1 ∧ w.heap.size ≤ g2) ∧ Ext w wa)
  case first =>
    go_region
    · go_wp2_with fail
      go_meet
      case rel => exact ⟨_, _, rfl, rfl, VA.out, VB.out, by omega, EAB.out⟩
    · go_wp2_with fail
      go_meet
      case rel => exact ⟨_, _, rfl, rfl, VB.out, VA.out, by omega, EAB.out⟩
  case rest =>
    clear c0 c1 e0 e1 hblt VA VB EAB
    rename_i hcut
    obtain ⟨g1, g2, rfl, rfl, vA, vB, hgg, eAB⟩ := hcut
    have VA := Lib.hid vA
    have VB := Lib.hid vB
    have HGG := Lib.hid hgg
    have EAB := Lib.hid eAB
    clear vA vB hgg eAB
    go_wp2_with fail
    go_loopw [9] (fun kv wr => ∃ k : Nat, kv = .int .i64 (k : Int) ∧ (1 ≤ k ∧ k ≤ ps.length) ∧ VRow wr g1 31 [.int .i64 (loP ps (k - 1)).1, .int .i64 (loP ps (k - 1)).2] ∧ VRow wr g2 31 [.int .i64 (hiQ ps (k - 1)).1, .int .i64 (hiQ ps (k - 1)).2] ∧ Ext w wr) (fun kv _ => ps.length - (intOf kv).toNat)
    case atStart => exact ⟨1, rfl, ⟨Nat.le_refl _, HN1.out⟩, by rw [show 1 - 1 = 0 from rfl, HP0.out.1]; exact VA.out, by rw [show 1 - 1 = 0 from rfl, HP0.out.2]; exact VB.out, EAB.out⟩
    case round =>
      rename World => wr
      obtain ⟨k, rfl, hk, hA, hB, hE⟩ := hrel
      have HAk := Lib.hid hA
      have HBk := Lib.hid hB
      have HEk := Lib.hid hE
      clear hA hB hE VA VB EAB
      by_cases hlt : k < ps.length
      · obtain ⟨q0, q1⟩ := HC.out k hlt
        have HCK := Lib.hid (show _ ∧ _ from ⟨Ext.cell HEk.out q0, Ext.cell HEk.out q1⟩)
        have HCW := Lib.hid (show _ ∧ _ from ⟨q0, q1⟩)
        have HLO := Lib.hid (show loP ps k = (mnZ (loP ps (k - 1)).1 (fromP ps k).1, mnZ (loP ps (k - 1)).2 (fromP ps k).2) from by
          obtain ⟨j, rfl⟩ : ∃ j, k = j + 1 := ⟨k - 1, by omega⟩
          rfl)
        have HHI := Lib.hid (show hiQ ps k = (mxZ (hiQ ps (k - 1)).1 (fromP ps k).1, mxZ (hiQ ps (k - 1)).2 (fromP ps k).2) from by
          obtain ⟨j, rfl⟩ : ∃ j, k = j + 1 := ⟨k - 1, by omega⟩
          rfl)
        have HLK := Lib.hid hlt
        clear q0 q1
        obtain ⟨px, hpx⟩ : ∃ z, z = (fromP ps k).1 := ⟨_, rfl⟩
        obtain ⟨py, hpy⟩ : ∃ z, z = (fromP ps k).2 := ⟨_, rfl⟩
        obtain ⟨a1, ha1⟩ : ∃ z, z = (loP ps (k - 1)).1 := ⟨_, rfl⟩
        obtain ⟨a2, ha2⟩ : ∃ z, z = (loP ps (k - 1)).2 := ⟨_, rfl⟩
        obtain ⟨b1, hb1⟩ : ∃ z, z = (hiQ ps (k - 1)).1 := ⟨_, rfl⟩
        obtain ⟨b2, hb2⟩ : ∃ z, z = (hiQ ps (k - 1)).2 := ⟨_, rfl⟩
        rw [← hpx, ← hpy] at HCK HCW
        rw [← ha1, ← ha2] at HAk
        rw [← hb1, ← hb2] at HBk
        rw [← ha1, ← ha2, ← hpx, ← hpy] at HLO
        rw [← hb1, ← hb2, ← hpx, ← hpy] at HHI
        clear hpx hpy ha1 ha2 hb1 hb2
        go_wp2_with fail
        refine wp_region_stable_last [⟨[], none⟩, ⟨[(0, 25)], none⟩, ⟨[], none⟩, ⟨[], none⟩, ⟨[(2, 27), (3, 28)], none⟩, ⟨[(4, 29)], none⟩, ⟨[(5, 30)], none⟩, ⟨[(1, 26), (6, 31)], none⟩, ⟨[], none⟩, ⟨[(8, 33)], none⟩, ⟨[], none⟩, ⟨[], none⟩, ⟨[(10, 35), (11, 36)], none⟩, ⟨[(12, 37)], none⟩, ⟨[(13, 38)], none⟩, ⟨[(9, 34), (14, 39)], none⟩, ⟨[(7, 32), (15, 40)], none⟩] (fun x y => Below x.heap.size x y) (MPat [MP.eq (.pointer (some ⟨g1, 0, none⟩)), MP.eq (.int .i64 a1), MP.eq (.slice (some ⟨b, o, none⟩) ps.length cap), MP.eq (.int .i64 k), MP.eq (.pointer (some ⟨b, o + k * 2, none⟩)), MP.eq (.pointer (some ⟨b, o + k * 2, none⟩)), MP.eq (.int .i64 px), MP.eq (.int .i64 (mnZ a1 px)), MP.eq (.pointer (some ⟨g1, 1, none⟩)), MP.eq (.int .i64 a2), MP.eq (.slice (some ⟨b, o, none⟩) ps.length cap), MP.eq (.int .i64 k), MP.eq (.pointer (some ⟨b, o + k * 2, none⟩)), MP.eq (.pointer (some ⟨b, o + k * 2 + 1, none⟩)), MP.eq (.int .i64 py), MP.eq (.int .i64 (mnZ a2 py)), MP.eq (vecV (mnZ a1 px) (mnZ a2 py))]) rfl (by kernel_rfl) (fun _ _ _ h k => Ext.trans h k) (fun _ => Below.refl _ _) (fun x => (Below.refl x.heap.size x).drew) (MPat.mono _) (by kernel_rfl) (by kernel_rfl) (by kernel_rfl) ?obs ?rest
        case obs =>
          refine ⟨?_, ?_, ?_, ?_, ?_, ?_, ?_, ?_, ?_, ?_, ?_, ?_, ?_, ?_, ?_, ?_, ?_, trivial⟩
          · intro ev W hf _ _ hst hd
            have e7 : ev (.tmp 7) = .pointer (some ⟨g1, 0, none⟩) := hf 7 (by kernel_rfl)
            exact st_value (v := .pointer (some ⟨g1, 0, none⟩)) (by simp [execOp, go_sem, e7]) (Below.refl _ _) rfl
          · intro ev W hf _ _ hst hd
            obtain ⟨d25, _⟩ := hd
            have e25 : ev (.tmp 25) = .pointer (some ⟨g1, 0, none⟩) := d25
            have kk := VRow.ext HAk.out hst
            have k0 := VRow.cell kk (k := 0) rfl
            exact st_value (v := .int .i64 a1) (by simp [execOp, go_sem, e25, k0]) (Below.refl _ _) rfl
          · intro ev W hf _ _ hst hd
            have e0 : ev (.tmp 0) = .slice (some ⟨b, o, none⟩) ps.length cap := hf 0 (by kernel_rfl)
            exact st_value (v := .slice (some ⟨b, o, none⟩) ps.length cap) (by simp [execOp, go_sem, e0]) (Below.refl _ _) rfl
          · intro ev W hf _ _ hst hd
            have e9 : ev (.tmp 9) = .int .i64 k := hf 9 (by kernel_rfl)
            exact st_value (v := .int .i64 k) (by simp [execOp, go_sem, e9]) (Below.refl _ _) rfl
          · intro ev W hf _ _ hst hd
            obtain ⟨d27, d28, _⟩ := hd
            have e27 : ev (.tmp 27) = .slice (some ⟨b, o, none⟩) ps.length cap := d27
            have e28 : ev (.tmp 28) = .int .i64 k := d28
            have hlk := HLK.out
            exact st_value (v := .pointer (some ⟨b, o + k * 2, none⟩)) (by simp [execOp, go_sem, e27, e28, hlk]) (Below.refl _ _) rfl
          · intro ev W hf _ _ hst hd
            obtain ⟨d29, _⟩ := hd
            have e29 : ev (.tmp 29) = .pointer (some ⟨b, o + k * 2, none⟩) := d29
            exact st_value (v := .pointer (some ⟨b, o + k * 2, none⟩)) (by simp [execOp, go_sem, e29]) (Below.refl _ _) rfl
          · intro ev W hf _ _ hst hd
            obtain ⟨d30, _⟩ := hd
            have e30 : ev (.tmp 30) = .pointer (some ⟨b, o + k * 2, none⟩) := d30
            have k0 := Ext.cell hst HCK.out.1
            exact st_value (v := .int .i64 px) (by simp [execOp, go_sem, e30, k0]) (Below.refl _ _) rfl
          · intro ev W hf _ _ hst hd
            obtain ⟨d26, d31, _⟩ := hd
            have e26 : ev (.tmp 26) = .int .i64 a1 := d26
            have e31 : ev (.tmp 31) = .int .i64 px := d31
            exact st_value (v := .int .i64 (mnZ a1 px)) (by simp [execOp, go_sem, e26, e31, mnZ]) (Below.refl _ _) rfl
          · intro ev W hf _ _ hst hd
            have e7 : ev (.tmp 7) = .pointer (some ⟨g1, 0, none⟩) := hf 7 (by kernel_rfl)
            exact st_value (v := .pointer (some ⟨g1, 1, none⟩)) (by simp [execOp, go_sem, e7]) (Below.refl _ _) rfl
          · intro ev W hf _ _ hst hd
            obtain ⟨d33, _⟩ := hd
            have e33 : ev (.tmp 33) = .pointer (some ⟨g1, 1, none⟩) := d33
            have kk := VRow.ext HAk.out hst
            have k0 := VRow.cell kk (k := 1) rfl
            exact st_value (v := .int .i64 a2) (by simp [execOp, go_sem, e33, k0]) (Below.refl _ _) rfl
          · intro ev W hf _ _ hst hd
            have e0 : ev (.tmp 0) = .slice (some ⟨b, o, none⟩) ps.length cap := hf 0 (by kernel_rfl)
            exact st_value (v := .slice (some ⟨b, o, none⟩) ps.length cap) (by simp [execOp, go_sem, e0]) (Below.refl _ _) rfl
          · intro ev W hf _ _ hst hd
            have e9 : ev (.tmp 9) = .int .i64 k := hf 9 (by kernel_rfl)
            exact st_value (v := .int .i64 k) (by simp [execOp, go_sem, e9]) (Below.refl _ _) rfl
          · intro ev W hf _ _ hst hd
            obtain ⟨d35, d36, _⟩ := hd
            have e35 : ev (.tmp 35) = .slice (some ⟨b, o, none⟩) ps.length cap := d35
            have e36 : ev (.tmp 36) = .int .i64 k := d36
            have hlk := HLK.out
            exact st_value (v := .pointer (some ⟨b, o + k * 2, none⟩)) (by simp [execOp, go_sem, e35, e36, hlk]) (Below.refl _ _) rfl
          · intro ev W hf _ _ hst hd
            obtain ⟨d37, _⟩ := hd
            have e37 : ev (.tmp 37) = .pointer (some ⟨b, o + k * 2, none⟩) := d37
            exact st_value (v := .pointer (some ⟨b, o + k * 2 + 1, none⟩)) (by simp [execOp, go_sem, e37]) (Below.refl _ _) rfl
          · intro ev W hf _ _ hst hd
            obtain ⟨d38, _⟩ := hd
            have e38 : ev (.tmp 38) = .pointer (some ⟨b, o + k * 2 + 1, none⟩) := d38
            have k0 := Ext.cell hst HCK.out.2
            exact st_value (v := .int .i64 py) (by simp [execOp, go_sem, e38, k0]) (Below.refl _ _) rfl
          · intro ev W hf _ _ hst hd
            obtain ⟨d34, d39, _⟩ := hd
            have e34 : ev (.tmp 34) = .int .i64 a2 := d34
            have e39 : ev (.tmp 39) = .int .i64 py := d39
            exact st_value (v := .int .i64 (mnZ a2 py)) (by simp [execOp, go_sem, e34, e39, mnZ]) (Below.refl _ _) rfl
          · intro ev W hf _ _ hst hd
            obtain ⟨d32, d40, _⟩ := hd
            have e32 : ev (.tmp 32) = .int .i64 (mnZ a1 px) := d32
            have e40 : ev (.tmp 40) = .int .i64 (mnZ a2 py) := d40
            exact st_value (v := vecV (mnZ a1 px) (mnZ a2 py)) (by simp [execOp, go_sem, e32, e40]) (Below.refl _ _) rfl
        case rest =>
          intro vs w3 hl hst hg
          have hvs : vs = [.pointer (some ⟨g1, 0, none⟩), .int .i64 a1, .slice (some ⟨b, o, none⟩) ps.length cap, .int .i64 k, .pointer (some ⟨b, o + k * 2, none⟩), .pointer (some ⟨b, o + k * 2, none⟩), .int .i64 px, .int .i64 (mnZ a1 px), .pointer (some ⟨g1, 1, none⟩), .int .i64 a2, .slice (some ⟨b, o, none⟩) ps.length cap, .int .i64 k, .pointer (some ⟨b, o + k * 2, none⟩), .pointer (some ⟨b, o + k * 2 + 1, none⟩), .int .i64 py, .int .i64 (mnZ a2 py), vecV (mnZ a1 px) (mnZ a2 py)] := vs_all hl hg
          have HE3 := Lib.hid hst
          clear hg hst hl
          subst hvs
          simp only [putAll, Act.put, List.dropLast, List.setIfInBounds_toArray, List.set_cons_zero, List.set_cons_succ]
          have HA3 := Lib.hid (VRow.ext HAk.out HE3.out)
          have HB3 := Lib.hid (VRow.ext HBk.out HE3.out)
          have HX3 := Lib.hid (Ext.trans HEk.out HE3.out)
          have f0 := VRow.frozen HA3.out 0 none
          have f1 := VRow.frozen HA3.out 1 none
          have r0 := VRow.cell HA3.out (k := 0) rfl
          have r1 := VRow.cell HA3.out (k := 1) rfl
          have HA6 := Lib.hid (VRow.set (VRow.set HA3.out 0 (.int .i64 (mnZ a1 px))) 1 (.int .i64 (mnZ a2 py)))
          have HB6 := Lib.hid (VRow.setOther (VRow.setOther HB3.out (a := ⟨g1, 0, none⟩) HGG.out.1.symm (.int .i64 (mnZ a1 px))) (a := ⟨g1, 1, none⟩) HGG.out.1.symm (.int .i64 (mnZ a2 py)))
          have HE6 := Lib.hid (ext2_putU HX3.out HGG.out.2.1 (.int .i64 (mnZ a1 px)) (.int .i64 (mnZ a2 py)))
          have HCK := Lib.hid (show _ ∧ _ from ⟨Ext.cell HE6.out HCW.out.1, Ext.cell HE6.out HCW.out.2⟩)
          go_wp2_with fail
          clear f0 f1 r0 r1 HCW HA3 HB3 HX3 HE3
          generalize (w3.setCell ⟨g1, 0, none⟩ (.int .i64 (mnZ a1 px))).setCell ⟨g1, 1, none⟩ (.int .i64 (mnZ a2 py)) = wz at *
          refine wp_region_stable_last [⟨[], none⟩, ⟨[(0, 42)], none⟩, ⟨[], none⟩, ⟨[], none⟩, ⟨[(2, 44), (3, 45)], none⟩, ⟨[(4, 46)], none⟩, ⟨[(5, 47)], none⟩, ⟨[(1, 43), (6, 48)], none⟩, ⟨[], none⟩, ⟨[(8, 50)], none⟩, ⟨[], none⟩, ⟨[], none⟩, ⟨[(10, 52), (11, 53)], none⟩, ⟨[(12, 54)], none⟩, ⟨[(13, 55)], none⟩, ⟨[(9, 51), (14, 56)], none⟩, ⟨[(7, 49), (15, 57)], none⟩] (fun x y => Below x.heap.size x y) (MPat [MP.eq (.pointer (some ⟨g2, 0, none⟩)), MP.eq (.int .i64 b1), MP.eq (.slice (some ⟨b, o, none⟩) ps.length cap), MP.eq (.int .i64 k), MP.eq (.pointer (some ⟨b, o + k * 2, none⟩)), MP.eq (.pointer (some ⟨b, o + k * 2, none⟩)), MP.eq (.int .i64 px), MP.eq (.int .i64 (mxZ b1 px)), MP.eq (.pointer (some ⟨g2, 1, none⟩)), MP.eq (.int .i64 b2), MP.eq (.slice (some ⟨b, o, none⟩) ps.length cap), MP.eq (.int .i64 k), MP.eq (.pointer (some ⟨b, o + k * 2, none⟩)), MP.eq (.pointer (some ⟨b, o + k * 2 + 1, none⟩)), MP.eq (.int .i64 py), MP.eq (.int .i64 (mxZ b2 py)), MP.eq (vecV (mxZ b1 px) (mxZ b2 py))]) rfl (by kernel_rfl) (fun _ _ _ h k => Ext.trans h k) (fun _ => Below.refl _ _) (fun x => (Below.refl x.heap.size x).drew) (MPat.mono _) (by kernel_rfl) (by kernel_rfl) (by kernel_rfl) ?obs ?rest
          case obs =>
            refine ⟨?_, ?_, ?_, ?_, ?_, ?_, ?_, ?_, ?_, ?_, ?_, ?_, ?_, ?_, ?_, ?_, ?_, trivial⟩
            · intro ev W hf _ _ hst hd
              have e8 : ev (.tmp 8) = .pointer (some ⟨g2, 0, none⟩) := hf 8 (by kernel_rfl)
              exact st_value (v := .pointer (some ⟨g2, 0, none⟩)) (by simp [execOp, go_sem, e8]) (Below.refl _ _) rfl
            · intro ev W hf _ _ hst hd
              obtain ⟨d42, _⟩ := hd
              have e42 : ev (.tmp 42) = .pointer (some ⟨g2, 0, none⟩) := d42
              have kk := VRow.ext HB6.out hst
              have k0 := VRow.cell kk (k := 0) rfl
              exact st_value (v := .int .i64 b1) (by simp [execOp, go_sem, e42, k0]) (Below.refl _ _) rfl
            · intro ev W hf _ _ hst hd
              have e0 : ev (.tmp 0) = .slice (some ⟨b, o, none⟩) ps.length cap := hf 0 (by kernel_rfl)
              exact st_value (v := .slice (some ⟨b, o, none⟩) ps.length cap) (by simp [execOp, go_sem, e0]) (Below.refl _ _) rfl
            · intro ev W hf _ _ hst hd
              have e9 : ev (.tmp 9) = .int .i64 k := hf 9 (by kernel_rfl)
              exact st_value (v := .int .i64 k) (by simp [execOp, go_sem, e9]) (Below.refl _ _) rfl
            · intro ev W hf _ _ hst hd
              obtain ⟨d44, d45, _⟩ := hd
              have e44 : ev (.tmp 44) = .slice (some ⟨b, o, none⟩) ps.length cap := d44
              have e45 : ev (.tmp 45) = .int .i64 k := d45
              have hlk := HLK.out
              exact st_value (v := .pointer (some ⟨b, o + k * 2, none⟩)) (by simp [execOp, go_sem, e44, e45, hlk]) (Below.refl _ _) rfl
            · intro ev W hf _ _ hst hd
              obtain ⟨d46, _⟩ := hd
              have e46 : ev (.tmp 46) = .pointer (some ⟨b, o + k * 2, none⟩) := d46
              exact st_value (v := .pointer (some ⟨b, o + k * 2, none⟩)) (by simp [execOp, go_sem, e46]) (Below.refl _ _) rfl
            · intro ev W hf _ _ hst hd
              obtain ⟨d47, _⟩ := hd
              have e47 : ev (.tmp 47) = .pointer (some ⟨b, o + k * 2, none⟩) := d47
              have k0 := Ext.cell hst HCK.out.1
              exact st_value (v := .int .i64 px) (by simp [execOp, go_sem, e47, k0]) (Below.refl _ _) rfl
            · intro ev W hf _ _ hst hd
              obtain ⟨d43, d48, _⟩ := hd
              have e43 : ev (.tmp 43) = .int .i64 b1 := d43
              have e48 : ev (.tmp 48) = .int .i64 px := d48
              exact st_value (v := .int .i64 (mxZ b1 px)) (by simp [execOp, go_sem, e43, e48, mxZ]) (Below.refl _ _) rfl
            · intro ev W hf _ _ hst hd
              have e8 : ev (.tmp 8) = .pointer (some ⟨g2, 0, none⟩) := hf 8 (by kernel_rfl)
              exact st_value (v := .pointer (some ⟨g2, 1, none⟩)) (by simp [execOp, go_sem, e8]) (Below.refl _ _) rfl
            · intro ev W hf _ _ hst hd
              obtain ⟨d50, _⟩ := hd
              have e50 : ev (.tmp 50) = .pointer (some ⟨g2, 1, none⟩) := d50
              have kk := VRow.ext HB6.out hst
              have k0 := VRow.cell kk (k := 1) rfl
              exact st_value (v := .int .i64 b2) (by simp [execOp, go_sem, e50, k0]) (Below.refl _ _) rfl
            · intro ev W hf _ _ hst hd
              have e0 : ev (.tmp 0) = .slice (some ⟨b, o, none⟩) ps.length cap := hf 0 (by kernel_rfl)
              exact st_value (v := .slice (some ⟨b, o, none⟩) ps.length cap) (by simp [execOp, go_sem, e0]) (Below.refl _ _) rfl
            · intro ev W hf _ _ hst hd
              have e9 : ev (.tmp 9) = .int .i64 k := hf 9 (by kernel_rfl)
              exact st_value (v := .int .i64 k) (by simp [execOp, go_sem, e9]) (Below.refl _ _) rfl
            · intro ev W hf _ _ hst hd
              obtain ⟨d52, d53, _⟩ := hd
              have e52 : ev (.tmp 52) = .slice (some ⟨b, o, none⟩) ps.length cap := d52
              have e53 : ev (.tmp 53) = .int .i64 k := d53
              have hlk := HLK.out
              exact st_value (v := .pointer (some ⟨b, o + k * 2, none⟩)) (by simp [execOp, go_sem, e52, e53, hlk]) (Below.refl _ _) rfl
            · intro ev W hf _ _ hst hd
              obtain ⟨d54, _⟩ := hd
              have e54 : ev (.tmp 54) = .pointer (some ⟨b, o + k * 2, none⟩) := d54
              exact st_value (v := .pointer (some ⟨b, o + k * 2 + 1, none⟩)) (by simp [execOp, go_sem, e54]) (Below.refl _ _) rfl
            · intro ev W hf _ _ hst hd
              obtain ⟨d55, _⟩ := hd
              have e55 : ev (.tmp 55) = .pointer (some ⟨b, o + k * 2 + 1, none⟩) := d55
              have k0 := Ext.cell hst HCK.out.2
              exact st_value (v := .int .i64 py) (by simp [execOp, go_sem, e55, k0]) (Below.refl _ _) rfl
            · intro ev W hf _ _ hst hd
              obtain ⟨d51, d56, _⟩ := hd
              have e51 : ev (.tmp 51) = .int .i64 b2 := d51
              have e56 : ev (.tmp 56) = .int .i64 py := d56
              exact st_value (v := .int .i64 (mxZ b2 py)) (by simp [execOp, go_sem, e51, e56, mxZ]) (Below.refl _ _) rfl
            · intro ev W hf _ _ hst hd
              obtain ⟨d49, d57, _⟩ := hd
              have e49 : ev (.tmp 49) = .int .i64 (mxZ b1 px) := d49
              have e57 : ev (.tmp 57) = .int .i64 (mxZ b2 py) := d57
              exact st_value (v := vecV (mxZ b1 px) (mxZ b2 py)) (by simp [execOp, go_sem, e49, e57]) (Below.refl _ _) rfl
          case rest =>
            intro vs w3 hl hst hg
            have hvs : vs = [.pointer (some ⟨g2, 0, none⟩), .int .i64 b1, .slice (some ⟨b, o, none⟩) ps.length cap, .int .i64 k, .pointer (some ⟨b, o + k * 2, none⟩), .pointer (some ⟨b, o + k * 2, none⟩), .int .i64 px, .int .i64 (mxZ b1 px), .pointer (some ⟨g2, 1, none⟩), .int .i64 b2, .slice (some ⟨b, o, none⟩) ps.length cap, .int .i64 k, .pointer (some ⟨b, o + k * 2, none⟩), .pointer (some ⟨b, o + k * 2 + 1, none⟩), .int .i64 py, .int .i64 (mxZ b2 py), vecV (mxZ b1 px) (mxZ b2 py)] := vs_all hl hg
            have HE3 := Lib.hid hst
            clear hg hst hl
            subst hvs
            simp only [putAll, Act.put, List.dropLast, List.setIfInBounds_toArray, List.set_cons_zero, List.set_cons_succ]
            have HB3 := Lib.hid (VRow.ext HB6.out HE3.out)
            have HA3 := Lib.hid (VRow.ext HA6.out HE3.out)
            have HX3 := Lib.hid (Ext.trans HE6.out HE3.out)
            have f0 := VRow.frozen HB3.out 0 none
            have f1 := VRow.frozen HB3.out 1 none
            have r0 := VRow.cell HB3.out (k := 0) rfl
            have r1 := VRow.cell HB3.out (k := 1) rfl
            go_wp2_with fail
            have hgg := HGG.out
            refine ⟨⟨k + 1, by (try simp), by omega, ?_, ?_, ?_⟩, by simp [intOf]; omega⟩
            · have e := HLO.out
              rw [Nat.add_sub_cancel, e]
              exact VRow.setOther (VRow.setOther HA3.out (by simp; omega) _) (by simp; omega) _
            · have e := HHI.out
              rw [Nat.add_sub_cancel, e]
              exact VRow.set (VRow.set HB3.out 0 _) 1 _
            · exact ext2_putU HX3.out hgg.2.2 _ _
      · have hkn : k = ps.length := by omega
        rw [hkn] at HAk HBk
        rw [hkn]
        have hbd := HBD.out
        have hlg := HLG.out
        have hhg := HHG.out
        generalize goL ps (-1) 0 = x0 at *
        generalize goL ps 1 0 = x1 at *
        generalize goL ps 0 (-1) = y0 at *
        generalize goL ps 0 1 = y1 at *
        rw [show (loP ps (ps.length - 1)).1 = -x0 by omega, show (loP ps (ps.length - 1)).2 = -y0 by omega] at HAk
        rw [← hhg.1, ← hhg.2] at HBk
        clear hlg hhg hlt hkn hk HLG HHG
        have hwh := HWH.out
        obtain ⟨n, hn⟩ : ∃ n, n = (W - x1 - x0 + 1).toNat := ⟨_, rfl⟩
        obtain ⟨m, hmm⟩ : ∃ m, m = (H - y1 - y0 + 1).toNat := ⟨_, rfl⟩
        rw [← hn, ← hmm] at HPL
        have HN := Lib.hid (show (n : Int) = max 0 (W - x1 - x0 + 1) ∧ n ≤ 113 from by omega)
        have HM := Lib.hid (show (m : Int) = max 0 (H - y1 - y0 + 1) ∧ m ≤ 113 from by omega)
        have HW0 := Lib.hid (show IntKind.i64.wrap (-(-x0)) = x0 from by rw [Int.neg_neg]; exact IntWalk.i64_in _ (by omega))
        have HW1 := Lib.hid (show IntKind.i64.wrap (-(-y0)) = y0 from by rw [Int.neg_neg]; exact IntWalk.i64_in _ (by omega))
        have HX64 := Lib.hid (show wrap64 x0 = x0 from by unfold wrap64; omega)
        have HY64 := Lib.hid (show wrap64 y0 = y0 from by unfold wrap64; omega)
        clear hn hmm hbd hwh
        have l0 := VRow.cell HAk.out (k := 0) rfl
        have l1 := VRow.cell HAk.out (k := 1) rfl
        have nn1 : IntKind.i64.wrap (-(-y0)) = y0 := HW1.out
        go_wp2_with fail
        clear nn1
        obtain ⟨bs, hbs⟩ : ∃ bs, bs = wr.heap.size := ⟨_, rfl⟩
        have HBS := Lib.hid (show g1 < bs ∧ g2 < bs ∧ w.heap.size ≤ bs from ⟨by rw [hbs]; exact VRow.lt HAk.out, by rw [hbs]; exact VRow.lt HBk.out, by rw [hbs]; exact HEk.out.size⟩)
        have HBR := Lib.hid (show bs ≤ wr.heap.size from Nat.le_of_eq hbs)
        clear hbs l0 l1
        go_loopw [10, 11] (fun ov yv wq => ∃ j : Nat, yv = .int .i64 (y0 + (j : Int)) ∧ j ≤ m ∧ wq.ownsRow bs 31 2 ov (gridP x0 y0 n j).length (cellsOf (gridP x0 y0 n j)) ∧ Ext w wq ∧ VRow wq g1 31 [.int .i64 (-x0), .int .i64 (-y0)] ∧ VRow wq g2 31 [.int .i64 x1, .int .i64 y1] ∧ bs ≤ wq.heap.size) (fun _ yv _ => (y0 + (m : Int) - intOf yv).toNat)
        case atStart => exact ⟨0, by simp; exact HY64.out, Nat.zero_le _, ⟨rfl, .inl ⟨rfl, rfl⟩⟩, HEk.out, HAk.out, HBk.out, HBR.out⟩
        case round =>
          rename World => wq
          obtain ⟨j, rfl, hj, hR, hE, hA, hB, hS⟩ := hrel
          obtain ⟨a1, c1, rfl⟩ := row_slice hR
          have HR := Lib.hid hR
          have HE := Lib.hid hE
          have HAq := Lib.hid hA
          have HBq := Lib.hid hB
          have HSq := Lib.hid hS
          clear hR hE hA hB hS HAk HBk HEk HBR
          have hbd := HBD.out
          have hwh := HWH.out
          have hmv := HM.out
          have w1 := IntWalk.i64_in (H - y1) (by omega)
          obtain ⟨y, hy⟩ : ∃ y, y = y0 + (j : Int) := ⟨_, rfl⟩
          have HYJ := Lib.hid hy
          rw [← hy]
          have l0 := VRow.cell HAq.out (k := 0) rfl
          have l1 := VRow.cell HAq.out (k := 1) rfl
          have m0 := VRow.cell HBq.out (k := 0) rfl
          have m1 := VRow.cell HBq.out (k := 1) rfl
          by_cases hlt : j < m
          · have k1 : y ≤ H - y1 := by omega
            have HK := Lib.hid (show -12 ≤ y ∧ y ≤ 101 from by omega)
            have nn0 : IntKind.i64.wrap (-(-x0)) = x0 := HW0.out
            clear hbd hwh hmv hy
            have HI0 := Lib.hid (show wq.ownsRow bs 31 2 (.slice a1 (gridP x0 y0 n j).length c1) (gridP x0 y0 n j ++ lineP x0 y 0).length (cellsOf (gridP x0 y0 n j ++ lineP x0 y 0)) from by
              show wq.ownsRow bs 31 2 _ (gridP x0 y0 n j ++ []).length (cellsOf (gridP x0 y0 n j ++ []))
              rw [List.append_nil]; exact HR.out)
            go_wp2_with fail
            clear w1 k1 nn0 l0 l1 m0 m1
            go_loopw [10, 12] (fun ov xv wz => ∃ i : Nat, xv = .int .i64 (x0 + (i : Int)) ∧ i ≤ n ∧ wz.ownsRow bs 31 2 ov (gridP x0 y0 n j ++ lineP x0 y i).length (cellsOf (gridP x0 y0 n j ++ lineP x0 y i)) ∧ Ext w wz ∧ VRow wz g1 31 [.int .i64 (-x0), .int .i64 (-y0)] ∧ VRow wz g2 31 [.int .i64 x1, .int .i64 y1] ∧ bs ≤ wz.heap.size) (fun _ xv _ => (x0 + (n : Int) - intOf xv).toNat)
            case atStart => exact ⟨0, by simp; exact HX64.out, Nat.zero_le _, HI0.out, HE.out, HAq.out, HBq.out, HSq.out⟩
            case round =>
              rename World => wz
              obtain ⟨i, rfl, hi, hR, hE, hA, hB, hS⟩ := hrel
              obtain ⟨a2, c2, rfl⟩ := row_slice hR
              have HRz := Lib.hid hR
              have HEz := Lib.hid hE
              have HAz := Lib.hid hA
              have HBz := Lib.hid hB
              have HSz := Lib.hid hS
              clear hR hE hA hB hS
              have hbd := HBD.out
              have hwh := HWH.out
              have hnv := HN.out
              have w1 := IntWalk.i64_in (W - x1) (by omega)
              obtain ⟨x, hx⟩ : ∃ x, x = x0 + (i : Int) := ⟨_, rfl⟩
              have HXI := Lib.hid hx
              rw [← hx]
              have m0 := VRow.cell HBz.out (k := 0) rfl
              have m1 := VRow.cell HBz.out (k := 1) rfl
              by_cases hit : i < n
              · have k1 : x ≤ W - x1 := by omega
                have HW2 := Lib.hid (IntWalk.i64_in (x + 1) (by omega))
                clear hbd hwh hnv hx
                obtain ⟨L, hL⟩ : ∃ L, L = gridP x0 y0 n j ++ lineP x0 y i := ⟨_, rfl⟩
                have HNX := Lib.hid (show gridP x0 y0 n j ++ lineP x0 y (i + 1) = L ++ [(x, y)] from by rw [hL, lineP, ← HXI.out, List.append_assoc])
                have HLN := Lib.hid (show L.length ≤ 100000 from by
                  rw [hL, List.length_append, gridP_len, lineP_len]
                  have h1 := Nat.mul_le_mul (show j ≤ 113 by have := HM.out.2; omega) HN.out.2
                  have h2 := HN.out.2
                  omega)
                rw [← hL] at HRz ⊢
                clear hL
                have HO := Lib.hid (ownsRow_ext HRz.out (Ext.alloc (Ext.refl wz) (.cells #[.int .i64 x, .int .i64 y] 31)))
                have HE6 := Lib.hid (Ext.trans HEz.out (Ext.alloc (Ext.refl wz) (.cells #[.int .i64 x, .int .i64 y] 31)))
                have HA6 := Lib.hid (VRow.alloc HAz.out (.cells #[.int .i64 x, .int .i64 y] 31))
                have HB6 := Lib.hid (VRow.alloc HBz.out (.cells #[.int .i64 x, .int .i64 y] 31))
                have hsz6 : (wz.alloc (.cells #[.int .i64 x, .int .i64 y] 31)).heap.size = wz.heap.size + 1 := by simp
                have hln := HLN.out
                have hss := HSz.out
                have w2 := HW2.out
                go_wp2_with (at_builtin; (refine wpList_append_own _ rfl _ _ 22 rfl bs 31 i0 (.agg #[.int .i64 0, .int .i64 0]) 2 16 Try.underlying22 HI.out HZ0.out HZ1.out HZ2.out rfl (by decide) _ _ _ rfl HO.out ⟨wz.heap.size, 0, none⟩ 1 1 [.int .i64 x, .int .i64 y] rfl rfl (fun j u h => cell_two_new wz _ _ 31 j u h) (by simp [Value.oneCell']) (by unfold maxLen; omega) (by omega) (by omega) ?_; intro v' w' hown' hgrow hnil; have HO9 := Lib.hid hown'; have HG9 := Lib.hid hgrow; clear hown' hgrow hnil))
                obtain ⟨a4, c4, e4⟩ := row_slice HO9.out
                subst e4
                have HCE := Lib.hid (show cellsOf L ++ [.int .i64 x, .int .i64 y] = cellsOf (L ++ [(x, y)]) from by rw [cellsOf_append]; rfl)
                have hob : ∀ q, (Value.slice a2 L.length c2).ownBlock = some q → bs ≤ q := fun q hq => (row_block HO.out hq).1
                have hbs := HBS.out
                have hE9 := Below.grown HE6.out HG9.out HE6.out.size (fun q e => by have := hob q e; omega)
                have hA9 : VRow w' g1 31 [.int .i64 (-x0), .int .i64 (-y0)] := (HG9.out.block _ (VRow.lt HA6.out) (fun e => by have := hob _ e.symm; omega)).trans HA6.out
                have hB9 : VRow w' g2 31 [.int .i64 x1, .int .i64 y1] := (HG9.out.block _ (VRow.lt HB6.out) (fun e => by have := hob _ e.symm; omega)).trans HB6.out
                have hS9 := HG9.out.size
                refine ⟨⟨i + 1, ?_, by omega, ?_, hE9, hA9, hB9, by omega⟩, ?_⟩
                · have := HXI.out; (try simp); omega
                · rw [HNX.out, List.length_append, ← HCE.out]
                  exact HO9.out
                · have := HXI.out; simp [intOf]; omega
              · have k1 : ¬ x ≤ W - x1 := by omega
                have hin : i = n := by omega
                have HXF := Lib.hid (show gridP x0 y0 n (j + 1) = gridP x0 y0 n j ++ lineP x0 y i from by rw [hin, HYJ.out]; rfl)
                have w2 := IntWalk.i64_in (y + 1) (by have := HK.out; omega)
                clear hbd hwh hnv hx hin
                go_wp2_with fail
                refine ⟨⟨j + 1, ?_, by omega, by rw [HXF.out]; exact HRz.out, HEz.out, HAz.out, HBz.out, HSz.out⟩, ?_⟩
                · have := HYJ.out; (try simp); omega
                · have := HYJ.out; simp [intOf]; omega
          · have k1 : ¬ y ≤ H - y1 := by omega
            have hjm : j = m := by omega
            have HF := Lib.hid (show pl = gridP x0 y0 n j from by rw [hjm]; exact HPL.out)
            clear hbd hwh hmv hy hjm
            go_wp2_with fail
            go_ret
            exact ⟨_, rfl, by rw [HF.out]; exact row_baseU2 HR.out (by have := HBS.out; have := HBASE.out; omega), HE.out⟩
end Go.Proofs.Ytnpebfchojalcaa
