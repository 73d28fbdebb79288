import Derived.Test.YtbdppephmlkbaaaV7
namespace Go.Proofs.Ytbdppephmlkbaaa
set_option maxRecDepth 100000
open Go.RowKit Go.Shelf
attribute [local go_sem] Oper.semAt_some
theorem valid_near {ps : List Pt} (h : validB ps = true) : nearP ps ∧ 3 ≤ ps.length ∧ ps.length ≤ 32 := by
  simp only [validB, Bool.and_eq_true, decide_eq_true_eq, Bool.not_eq_true'] at h
  exact ⟨near_of h.1.1.2, h.1.1.1.1, h.1.1.1.2⟩
theorem valid_wide {ps : List Pt} (h : validB ps = true) : wideP ps := wide_near (valid_near h).1
/-- a pair of results -/
def two (a b : Value) : Ending := .returned (.tuple #[a, b])
def areaR (ps : List Pt) : Ending := if validB ps = true then two (.int .i64 (areaZ ps)) (.int .i64 0) else two (.int .i64 0) (.int .i64 2)
set_option maxHeartbeats 400000 in
theorem Area_c (v : Value) (ps : List Pt) (w : World) (hv : Vecs w v ps) :
    Calls Try.prog 16 #[v] w fun e w' => e = areaR ps ∧ Ext w w' := by
  obtain ⟨a, cap, rfl, hl, hm, _⟩ := hv.at
  have HV := Lib.hid hv
  clear hv
  cases hf : validB ps with
  | false =>
    have HR := Lib.hid (show areaR ps = two (.int .i64 0) (.int .i64 2) by simp [areaR, hf])
    generalize areaR ps = R at *
    have Hf := Lib.hid hf
    clear hf
    go_enter Try.func16, Try.ntmps16
    go_wp2_with fail
    refine (valid_c _ ps _ HV.out).mono ?_
    rintro e w2 ⟨rfl, hE⟩
    rw [Hf.out]
    go_wp2
    go_ret2
    exact ⟨HR.out.symm, hE⟩
  | true =>
    have HR := Lib.hid (show areaR ps = two (.int .i64 (areaZ ps)) (.int .i64 0) by simp [areaR, hf])
    generalize areaR ps = R at *
    have Hf := Lib.hid hf
    clear hf
    go_enter Try.func16, Try.ntmps16
    go_wp2_with fail
    refine (valid_c _ ps _ HV.out).mono ?_
    rintro e w2 ⟨rfl, hE⟩
    rw [Hf.out]
    go_wp2_with fail
    refine (area_c _ ps _ (HV.out.ext hE) (valid_wide Hf.out) (by have := (valid_near Hf.out).2.2; omega)).mono ?_
    rintro e w3 ⟨rfl, hE3⟩
    go_wp2
    go_ret2
    exact ⟨HR.out.symm, Ext.trans hE hE3⟩
/-- the same points in a box -/
def outB (ps : List Pt) (q : Pt) : Bool := decide (placeZ ps q.1 q.2 < 0)
theorem inside1_c (b : Nat) (v : Value) (ps : List Pt) (x y : Int) (w : World) (hb : w.cell? ⟨b, 0, none⟩ = some v) (hv : Vecs w v ps) (hw : wideP ps) (hn : ps.length ≤ 1000) (hx : -10000 ≤ x ∧ x ≤ 10000) (hy : -10000 ≤ y ∧ y ≤ 10000) :
    Calls Try.prog 72 #[vecV x y, .pointer (some ⟨b, 0, none⟩)] w fun e w' => e = .returned (.bool (outB ps (x, y))) ∧ Ext w w' := by
  obtain ⟨a, cap, rfl, hl, hm, _⟩ := hv.at
  have HV := Lib.hid hv
  have hc := Ext.cell (Ext.alloc (Ext.refl w) (.cells #[.int .i64 x, .int .i64 y] 32)) hb
  have hlt := cell_lt hb
  clear hv
  go_enter Try.func72, Try.ntmps72
  go_wp2_with fail
  refine (show Calls Try.prog 53 #[.slice a ps.length cap, vecV x y] _ _ from (place_c _ ps x y _ (HV.out.ext (Ext.alloc (Ext.refl w) (.cells #[.int .i64 x, .int .i64 y] 32))) hw hn hx hy).mono ?_)
  rintro e w2 ⟨rfl, hE⟩
  go_wp2
  go_ret
  exact ⟨rfl, Ext.trans (Ext.alloc (Ext.refl w) _) hE⟩
def insideR (ps qs : List Pt) : Ending := if validB ps = true ∧ validB qs = true then two (.bool (!ps.any (outB qs))) (.int .i64 0) else two (.bool false) (.int .i64 2)
set_option maxRecDepth 100000 in
set_option maxHeartbeats 1000000 in
theorem Inside_c (u v : Value) (ps qs : List Pt) (w : World) (hu : Vecs w u ps) (hv : Vecs w v qs) :
    Calls Try.prog 36 #[u, v] w fun e w' => e = insideR ps qs ∧ Ext w w' := by
  obtain ⟨a, cap, rfl, hl, hm, _⟩ := hu.at
  obtain ⟨a2, cap2, rfl, hl2, hm2, _⟩ := hv.at
  have hE0 := Ext.alloc (Ext.refl w) (.cells #[.slice a2 qs.length cap2] 22)
  have HU := Lib.hid (hu.ext hE0)
  have HV := Lib.hid (hv.ext hE0)
  have HE0 := Lib.hid hE0
  have HB := Lib.hid (vrow_alloc w [.slice a2 qs.length cap2] 22)
  clear hu hv hE0
  cases hf : validB ps with
  | false =>
    have HR := Lib.hid (show insideR ps qs = two (.bool false) (.int .i64 2) by simp [insideR, hf])
    generalize insideR ps qs = R at *
    have Hf := Lib.hid hf
    clear hf
    go_enter Try.func36, Try.ntmps36
    go_wp2_with fail
    refine (valid_c _ ps _ HU.out).mono ?_
    rintro e w2 ⟨rfl, hE⟩
    rw [Hf.out]
    go_wp2
    go_ret2
    exact ⟨HR.out.symm, Ext.trans HE0.out hE⟩
  | true =>
    cases hg : validB qs with
    | false =>
      have HR := Lib.hid (show insideR ps qs = two (.bool false) (.int .i64 2) by simp [insideR, hf, hg])
      generalize insideR ps qs = R at *
      have Hf := Lib.hid hf
      clear hf
      have Hg := Lib.hid hg
      clear hg
      go_enter Try.func36, Try.ntmps36
      go_wp2_with fail
      refine (valid_c _ ps _ HU.out).mono ?_
      rintro e w2 ⟨rfl, hE⟩
      have hc := VRow.cell (VRow.ext (show VRow (w.alloc (.cells #[.slice a2 qs.length cap2] 22)) _ _ _ from HB.out) hE) (k := 0) rfl
      rw [Hf.out]
      go_wp2_with fail
      refine (valid_c _ qs _ (HV.out.ext hE)).mono ?_
      rintro e w3 ⟨rfl, hE3⟩
      rw [Hg.out]
      clear hc
      go_wp2
      go_ret2
      exact ⟨HR.out.symm, Ext.trans HE0.out (Ext.trans hE hE3)⟩
    | true =>
      have HR := Lib.hid (show insideR ps qs = two (.bool (!ps.any (outB qs))) (.int .i64 0) by simp [insideR, hf, hg])
      generalize insideR ps qs = R at *
      have Hf := Lib.hid hf
      clear hf
      have Hg := Lib.hid hg
      clear hg
      go_enter Try.func36, Try.ntmps36
      go_wp2_with fail
      refine (valid_c _ ps _ HU.out).mono ?_
      rintro e w2 ⟨rfl, hE⟩
      have HB2 := Lib.hid (VRow.ext (show VRow (w.alloc (.cells #[.slice a2 qs.length cap2] 22)) _ _ _ from HB.out) hE)
      have hc := VRow.cell HB2.out (k := 0) rfl
      rw [Hf.out]
      go_wp2_with fail
      refine (valid_c _ qs _ (HV.out.ext hE)).mono ?_
      rintro e w3 ⟨rfl, hE3⟩
      rw [Hg.out]
      clear hc
      have HE3 := Lib.hid (Ext.trans hE hE3)
      have HB3 := Lib.hid (VRow.ext HB2.out hE3)
      clear hE hE3
      go_wp2_with fail
      have hpred : PredC 72 #[.pointer (some ⟨w.heap.size, 0, none⟩)] (outB qs) ps w3 := fun k q W hk hW => by
        have hq := (valid_near Hf.out).1 q (List.mem_of_getElem? hk)
        exact inside1_c _ _ qs q.1 q.2 W (VRow.cell (VRow.ext HB3.out hW) (k := 0) rfl) (HV.out.ext (Ext.trans HE3.out hW)) (valid_wide Hg.out) (by have := (valid_near Hg.out).2.2; omega) (by omega) (by omega)
      refine (contains47_c _ _ (outB qs) ps w3 hpred (HU.out.ext HE3.out)).mono ?_
      rintro e w4 ⟨rfl, hE4⟩
      go_wp2
      go_ret2
      exact ⟨HR.out.symm, Ext.trans HE0.out (Ext.trans HE3.out hE4)⟩
def limR (v : Value) (ps : List Pt) : Ending := if ps.any farP = true then two (.slice none 0 0) (.int .i64 4) else if 32 < ps.length then two (.slice none 0 0) (.int .i64 8) else two v (.int .i64 0)
set_option maxHeartbeats 400000 in
theorem limited_c (v : Value) (ps : List Pt) (w : World) (hv : Vecs w v ps) :
    Calls Try.prog 41 #[v] w fun e w' => e = limR v ps ∧ Ext w w' := by
  obtain ⟨a, cap, rfl, hl, hm, _⟩ := hv.at
  have HV := Lib.hid hv
  clear hv
  cases hf : ps.any farP with
  | true =>
    have HR := Lib.hid (show limR (.slice a ps.length cap) ps = two (.slice none 0 0) (.int .i64 4) by simp [limR, hf])
    generalize limR (.slice a ps.length cap) ps = R at *
    have Hf := Lib.hid hf
    clear hf
    go_enter Try.func41, Try.ntmps41
    go_wp2_with fail
    refine (contains27_c _ farP ps _ (far_pred ps _) HV.out).mono ?_
    rintro e w2 ⟨rfl, hE⟩
    rw [Hf.out]
    go_wp2
    all_goals go_ret2
    all_goals exact ⟨HR.out.symm, hE⟩
  | false =>
    by_cases h32 : 32 < ps.length
    · skip
      have HR := Lib.hid (show limR (.slice a ps.length cap) ps = two (.slice none 0 0) (.int .i64 8) by simp [limR, hf, h32])
      generalize limR (.slice a ps.length cap) ps = R at *
      have Hf := Lib.hid hf
      clear hf
      go_enter Try.func41, Try.ntmps41
      go_wp2_with fail
      refine (contains27_c _ farP ps _ (far_pred ps _) HV.out).mono ?_
      rintro e w2 ⟨rfl, hE⟩
      rw [Hf.out]
      go_wp2
      all_goals go_ret2
      all_goals exact ⟨HR.out.symm, hE⟩
    · skip
      have HR := Lib.hid (show limR (.slice a ps.length cap) ps = two (.slice a ps.length cap) (.int .i64 0) by simp [limR, hf, h32])
      generalize limR (.slice a ps.length cap) ps = R at *
      have Hf := Lib.hid hf
      clear hf
      go_enter Try.func41, Try.ntmps41
      go_wp2_with fail
      refine (contains27_c _ farP ps _ (far_pred ps _) HV.out).mono ?_
      rintro e w2 ⟨rfl, hE⟩
      rw [Hf.out]
      go_wp2
      all_goals go_ret2
      all_goals exact ⟨HR.out.symm, hE⟩
end Go.Proofs.Ytbdppephmlkbaaa
