import Derived.Test.YtbdppephmlkbaaaV17
namespace Go.Proofs.Ytbdppephmlkbaaa
set_option maxRecDepth 100000
open Go.RowKit
def placeR (ps : List Pt) (x y : Int) : Ending := if validB ps = true ∧ farB x y = false then two (.int .i64 (placeZ ps x y)) (.int .i64 0) else two (.int .i64 0) (.int .i64 2)
set_option maxRecDepth 100000 in
set_option maxHeartbeats 1000000 in
theorem Place_c (v : Value) (ps : List Pt) (x y : Int) (w : World) (hv : Vecs w v ps) :
    Calls Try.prog 18 #[v, vecV x y] w fun e w' => e = placeR ps x y ∧ Ext w w' := by
  obtain ⟨a, cap, rfl, hl, hm, hra⟩ := hv.at
  have hE0 := Ext.alloc (Ext.refl w) (.cells #[.int .i64 x, .int .i64 y] 32)
  have HV := Lib.hid (hv.ext hE0)
  have HE0 := Lib.hid hE0
  have HB := Lib.hid (show VRow (w.alloc (.cells #[.int .i64 x, .int .i64 y] 32)) _ _ _ from vrow_alloc w [.int .i64 x, .int .i64 y] 32)
  clear hv hE0 hra
  cases hf : validB ps with
  | false =>
    have HR := Lib.hid (show placeR ps x y = two (.int .i64 0) (.int .i64 2) by simp [placeR, hf])
    generalize placeR ps x y = R at *
    have Hf := Lib.hid hf
    clear hf
    go_enter Try.func18, Try.ntmps18
    go_wp2_with fail
    refine (valid_c _ ps _ HV.out).mono ?_
    rintro e w2 ⟨rfl, hE⟩
    rw [Hf.out]
    go_wp2_with fail
    go_ret2
    exact ⟨HR.out.symm, Ext.trans HE0.out hE⟩
  | true =>
    cases hg : farB x y with
    | true =>
      have HR := Lib.hid (show placeR ps x y = two (.int .i64 0) (.int .i64 2) by simp [placeR, hg])
      generalize placeR ps x y = R at *
      have Hf := Lib.hid hf
      have Hg := Lib.hid hg
      clear hf hg
      go_enter Try.func18, Try.ntmps18
      go_wp2_with fail
      refine (valid_c _ ps _ HV.out).mono ?_
      rintro e w2 ⟨rfl, hE⟩
      rw [Hf.out]
      have hb := VRow.ext HB.out hE
      have b0 := VRow.cell hb (k := 0) rfl
      have b1 := VRow.cell hb (k := 1) rfl
      go_wp2_with fail
      refine (show Calls Try.prog 39 #[vecV x y] _ _ from (far_c x y _).mono ?_)
      rintro e w3 ⟨rfl, hE3⟩
      rw [Hg.out]
      clear b0 b1
      go_wp2_with fail
      go_ret2
      exact ⟨HR.out.symm, Ext.trans HE0.out (Ext.trans hE hE3)⟩
    | false =>
      have HR := Lib.hid (show placeR ps x y = two (.int .i64 (placeZ ps x y)) (.int .i64 0) by simp [placeR, hf, hg])
      generalize placeR ps x y = R at *
      have Hf := Lib.hid hf
      have Hg := Lib.hid hg
      have hxy := far_in hg
      have hn : ps.length ≤ 32 := (valid_near hf).2.2
      have HX := Lib.hid (show (-10000 ≤ x ∧ x ≤ 10000) ∧ (-10000 ≤ y ∧ y ≤ 10000) by omega)
      have HW := Lib.hid (valid_wide hf)
      clear hf hg hxy
      go_enter Try.func18, Try.ntmps18
      go_wp2_with fail
      refine (valid_c _ ps _ HV.out).mono ?_
      rintro e w2 ⟨rfl, hE⟩
      rw [Hf.out]
      have hb := VRow.ext HB.out hE
      have b0 := VRow.cell hb (k := 0) rfl
      have b1 := VRow.cell hb (k := 1) rfl
      go_wp2_with fail
      refine (show Calls Try.prog 39 #[vecV x y] _ _ from (far_c x y _).mono ?_)
      rintro e w3 ⟨rfl, hE3⟩
      rw [Hg.out]
      have HE3 := Lib.hid (Ext.trans hE hE3)
      clear b0 b1 hb hE hE3
      have hb := VRow.ext HB.out HE3.out
      have b0 := VRow.cell hb (k := 0) rfl
      have b1 := VRow.cell hb (k := 1) rfl
      go_wp2_with fail
      refine (show Calls Try.prog 53 #[.slice a ps.length cap, vecV x y] w3 _ from (place_c _ ps x y w3 (HV.out.ext HE3.out) HW.out (by omega) HX.out.1 HX.out.2).mono ?_)
      rintro e w4 ⟨rfl, hE4⟩
      clear b0 b1
      generalize placeZ ps x y = Z at *
      go_wp2
      go_ret2
      exact ⟨HR.out.symm, Ext.trans HE0.out (Ext.trans HE3.out hE4)⟩
end Go.Proofs.Ytbdppephmlkbaaa
