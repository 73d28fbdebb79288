import Derived.Test.YtbdppephmlkbaaaR2
import Derived.Test.YtbdppephmlkbaaaR4
import Derived.Test.YtbdppephmlkbaaaV26
import Derived.Test.YtbdppephmlkbaaaV24
namespace Go.Proofs.Ytbdppephmlkbaaa
set_option maxRecDepth 100000
open Go.RowKit Go.Shelf
attribute [local go_sem] Oper.semAt_some
/-! The reference's Area, Place, Extreme. -/
set_option maxHeartbeats 1000000 in
theorem rArea_c (v : Value) (ps : List Pt) (w : World) (hv : Vecs w v ps) :
    Calls Try.prog 17 #[v] w fun e w' => e = areaR ps ∧ Ext w w' := by
  obtain ⟨a, cap, rfl, hl, hm, _⟩ := hv.at
  have HV := Lib.hid hv
  clear hv
  cases hf : validB ps with
  | false =>
    have HR := Lib.hid (show areaR ps = two (.int .i64 0) (.int .i64 2) by simp [areaR, hf])
    generalize areaR ps = R at *
    have Hf := Lib.hid hf
    clear hf
    go_enter Try.func17, Try.ntmps17
    go_wp2_with fail
    refine (rvalid_c _ ps _ HV.out).mono ?_
    rintro e w2 ⟨rfl, hE⟩
    rw [Hf.out]
    have HE := Lib.hid hE
    clear hE
    go_wp2_with fail
    go_ret2
    exact ⟨HR.out.symm, HE.out⟩
  | true =>
    have HR := Lib.hid (show areaR ps = two (.int .i64 (areaZ ps)) (.int .i64 0) by simp [areaR, hf])
    generalize areaR ps = R at *
    have Hf := Lib.hid hf
    clear hf
    go_enter Try.func17, Try.ntmps17
    go_wp2_with fail
    refine (rvalid_c _ ps _ HV.out).mono ?_
    rintro e w2 ⟨rfl, hE⟩
    rw [Hf.out]
    have HE := Lib.hid hE
    clear hE
    go_wp2_with fail
    refine (rarea_c _ ps _ (HV.out.ext HE.out) (valid_near Hf.out).1 (valid_near Hf.out).2.1 (valid_near Hf.out).2.2).mono ?_
    rintro e w3 ⟨rfl, hE⟩
    have HE3 := Lib.hid (Ext.trans HE.out hE)
    clear hE
    generalize areaZ ps = Z at *
    go_wp2_with fail
    go_ret2
    exact ⟨HR.out.symm, HE3.out⟩
set_option maxHeartbeats 1000000 in
theorem rPlace_c (v : Value) (ps : List Pt) (x y : Int) (w : World) (hv : Vecs w v ps) :
    Calls Try.prog 19 #[v, vecV x y] w fun e w' => e = placeR ps x y ∧ Ext w w' := by
  obtain ⟨a, cap, rfl, hl, hm, hra⟩ := hv.at
  have hE0 := Ext.alloc (Ext.refl w) (.cells #[.int .i64 x, .int .i64 y] 32)
  have HV := Lib.hid (hv.ext hE0)
  have HE0 := Lib.hid hE0
  have HB := Lib.hid (show VRow (w.alloc (.cells #[.int .i64 x, .int .i64 y] 32)) _ _ _ from vrow_alloc w [.int .i64 x, .int .i64 y] 32)
  clear hv hE0 hra
  cases hf : validB ps with
  | false =>
    have HR := Lib.hid (show placeR ps x y = two (.int .i64 0) (.int .i64 2) by simp [placeR, hf])
    generalize placeR ps x y = R at *
    have Hf := Lib.hid hf
    clear hf
    go_enter Try.func19, Try.ntmps19
    go_wp2_with fail
    refine (rvalid_c _ ps _ HV.out).mono ?_
    rintro e w2 ⟨rfl, hE⟩
    rw [Hf.out]
    go_wp2_with fail
    go_ret2
    exact ⟨HR.out.symm, Ext.trans HE0.out hE⟩
  | true =>
    cases hg : farB x y with
    | true =>
      have HR := Lib.hid (show placeR ps x y = two (.int .i64 0) (.int .i64 2) by simp [placeR, hg])
      generalize placeR ps x y = R at *
      have Hf := Lib.hid hf
      have Hg := Lib.hid hg
      clear hf hg
      go_enter Try.func19, Try.ntmps19
      go_wp2_with fail
      refine (rvalid_c _ ps _ HV.out).mono ?_
      rintro e w2 ⟨rfl, hE⟩
      rw [Hf.out]
      have hb := VRow.ext HB.out hE
      have b0 := VRow.cell hb (k := 0) rfl
      have b1 := VRow.cell hb (k := 1) rfl
      go_wp2_with fail
      refine (show Calls Try.prog 42 #[vecV x y] _ _ from (good_c x y _).mono ?_)
      rintro e w3 ⟨rfl, hE3⟩
      rw [Hg.out]
      clear b0 b1
      go_wp2_with fail
      go_ret2
      exact ⟨HR.out.symm, Ext.trans HE0.out (Ext.trans hE hE3)⟩
    | false =>
      have HR := Lib.hid (show placeR ps x y = two (.int .i64 (placeZ ps x y)) (.int .i64 0) by simp [placeR, hf, hg])
      generalize placeR ps x y = R at *
      have Hf := Lib.hid hf
      have Hg := Lib.hid hg
      clear hf hg
      go_enter Try.func19, Try.ntmps19
      go_wp2_with fail
      refine (rvalid_c _ ps _ HV.out).mono ?_
      rintro e w2 ⟨rfl, hE⟩
      rw [Hf.out]
      have hb := VRow.ext HB.out hE
      have b0 := VRow.cell hb (k := 0) rfl
      have b1 := VRow.cell hb (k := 1) rfl
      go_wp2_with fail
      refine (show Calls Try.prog 42 #[vecV x y] _ _ from (good_c x y _).mono ?_)
      rintro e w3 ⟨rfl, hE3⟩
      rw [Hg.out]
      have HE3 := Lib.hid (Ext.trans hE hE3)
      clear b0 b1 hb hE hE3
      have hb := VRow.ext HB.out HE3.out
      have b0 := VRow.cell hb (k := 0) rfl
      have b1 := VRow.cell hb (k := 1) rfl
      go_wp2_with fail
      refine (show Calls Try.prog 54 #[.slice a ps.length cap, vecV x y] w3 _ from (rplace_c _ ps x y w3 (HV.out.ext HE3.out) (valid_near Hf.out).1 (valid_near Hf.out).2.1 (valid_near Hf.out).2.2 (by have := far_in Hg.out; omega)).mono ?_)
      rintro e w4 ⟨rfl, hE4⟩
      clear b0 b1 hb
      generalize placeZ ps x y = Z at *
      have HE4 := Lib.hid (Ext.trans HE0.out (Ext.trans HE3.out hE4))
      clear hE4
      go_wp2_with fail
      go_ret2
      exact ⟨HR.out.symm, HE4.out⟩
end Go.Proofs.Ytbdppephmlkbaaa
