import Derived.Test.YtnpebfchojalcaaV7
namespace Go.Proofs.Ytnpebfchojalcaa
open Go.RowKit Go.Shelf
attribute [local go_sem] Oper.semAt_some
theorem valid_near {ps : List Pt} (h : validB ps = true) : nearP ps ∧ 3 ≤ ps.length ∧ ps.length ≤ 32 := by
  simp only [validB, Bool.and_eq_true, decide_eq_true_eq, Bool.not_eq_true'] at h
  exact ⟨near_of h.1.1.2, h.1.1.1.1, h.1.1.1.2⟩
theorem valid_wide {ps : List Pt} (h : validB ps = true) : wideP ps := wide_near (valid_near h).1
/-- a pair of results -/
def two (a b : Value) : Ending := .returned (.tuple #[a, b])
def areaR (ps : List Pt) : Ending := if validB ps = true then two (.int .i64 (areaZ ps)) (.int .i64 0) else two (.int .i64 0) (.int .i64 2)
set_option maxHeartbeats 400000 in
theorem Area_c (v : Value) (ps : List Pt) (w : World) (hv : Vecs w v ps) :
    Calls Try.prog 32 #[v] w fun e w' => e = areaR ps ∧ Ext w w' := by
  obtain ⟨a, cap, rfl, hl, hm, _⟩ := hv.at
  have HV := Lib.hid hv
  clear hv
  cases hf : validB ps with
  | false =>
    have HR := Lib.hid (show areaR ps = two (.int .i64 0) (.int .i64 2) by simp [areaR, hf])
    generalize areaR ps = R at *
    have Hf := Lib.hid hf
    clear hf
    go_enter Try.func32, Try.ntmps32
    go_wp2_with fail
    refine (valid_c _ ps _ HV.out).mono ?_
    rintro e w2 ⟨rfl, hE⟩
    rw [Hf.out]
    go_wp2
    go_ret2
    exact ⟨HR.out.symm, hE⟩
  | true =>
    have HR := Lib.hid (show areaR ps = two (.int .i64 (areaZ ps)) (.int .i64 0) by simp [areaR, hf])
    generalize areaR ps = R at *
    have Hf := Lib.hid hf
    clear hf
    go_enter Try.func32, Try.ntmps32
    go_wp2_with fail
    refine (valid_c _ ps _ HV.out).mono ?_
    rintro e w2 ⟨rfl, hE⟩
    rw [Hf.out]
    go_wp2_with fail
    refine (area_c _ ps _ (HV.out.ext hE) (valid_wide Hf.out) (by have := (valid_near Hf.out).2.2; omega)).mono ?_
    rintro e w3 ⟨rfl, hE3⟩
    go_wp2
    go_ret2
    exact ⟨HR.out.symm, Ext.trans hE hE3⟩
/-- the same points in a box -/
def outB (ps : List Pt) (q : Pt) : Bool := decide (placeZ ps q.1 q.2 < 0)
def insideR (ps qs : List Pt) : Ending := if validB ps = true ∧ validB qs = true then two (.bool (!ps.any (outB qs))) (.int .i64 0) else two (.bool false) (.int .i64 2)
def limR (v : Value) (ps : List Pt) : Ending := if ps.any farP = true then two (.slice none 0 0) (.int .i64 4) else if 32 < ps.length then two (.slice none 0 0) (.int .i64 8) else two v (.int .i64 0)
set_option maxHeartbeats 400000 in
theorem limited_c (v : Value) (ps : List Pt) (w : World) (hv : Vecs w v ps) :
    Calls Try.prog 77 #[v] w fun e w' => e = limR v ps ∧ Ext w w' := by
  obtain ⟨a, cap, rfl, hl, hm, _⟩ := hv.at
  have HV := Lib.hid hv
  clear hv
  cases hf : ps.any farP with
  | true =>
    have HR := Lib.hid (show limR (.slice a ps.length cap) ps = two (.slice none 0 0) (.int .i64 4) by simp [limR, hf])
    generalize limR (.slice a ps.length cap) ps = R at *
    have Hf := Lib.hid hf
    clear hf
    go_enter Try.func77, Try.ntmps77
    go_wp2_with fail
    refine (contains27_c _ farP ps _ (far_pred ps _) HV.out).mono ?_
    rintro e w2 ⟨rfl, hE⟩
    rw [Hf.out]
    go_wp2
    all_goals go_ret2
    all_goals exact ⟨HR.out.symm, hE⟩
  | false =>
    by_cases h32 : 32 < ps.length
    · skip
      have HR := Lib.hid (show limR (.slice a ps.length cap) ps = two (.slice none 0 0) (.int .i64 8) by simp [limR, hf, h32])
      generalize limR (.slice a ps.length cap) ps = R at *
      have Hf := Lib.hid hf
      clear hf
      go_enter Try.func77, Try.ntmps77
      go_wp2_with fail
      refine (contains27_c _ farP ps _ (far_pred ps _) HV.out).mono ?_
      rintro e w2 ⟨rfl, hE⟩
      rw [Hf.out]
      go_wp2
      all_goals go_ret2
      all_goals exact ⟨HR.out.symm, hE⟩
    · skip
      have HR := Lib.hid (show limR (.slice a ps.length cap) ps = two (.slice a ps.length cap) (.int .i64 0) by simp [limR, hf, h32])
      generalize limR (.slice a ps.length cap) ps = R at *
      have Hf := Lib.hid hf
      clear hf
      go_enter Try.func77, Try.ntmps77
      go_wp2_with fail
      refine (contains27_c _ farP ps _ (far_pred ps _) HV.out).mono ?_
      rintro e w2 ⟨rfl, hE⟩
      rw [Hf.out]
      go_wp2
      all_goals go_ret2
      all_goals exact ⟨HR.out.symm, hE⟩
end Go.Proofs.Ytnpebfchojalcaa
