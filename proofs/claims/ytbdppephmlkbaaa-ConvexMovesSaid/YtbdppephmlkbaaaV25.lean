import Derived.Test.YtbdppephmlkbaaaV24
import Derived.Test.YtbdppephmlkbaaaM12
namespace Go.Proofs.Ytbdppephmlkbaaa
set_option maxRecDepth 100000
open Go.RowKit Go.Shelf
attribute [local go_sem] Oper.semAt_some
theorem nil_vecs (w : World) : Vecs w (.slice none 0 0) [] := ⟨none, 0, rfl, Nat.le_refl _, by decide, .inl rfl⟩
/-- what Sum answers -/
def SumS (ps qs : List Pt) (er : Int) (ts : List Pt) : Prop :=
  (validB ps = true ∧ validB qs = true ∧ ∃ ds, Sorted ps qs ds ∧ ((er = 0 ∧ ts = sumP ps qs ds ∧ (sumP ps qs ds).any farP = false ∧ (sumP ps qs ds).length ≤ 32) ∨ (er = 4 ∧ ts = [] ∧ (sumP ps qs ds).any farP = true) ∨ (er = 8 ∧ ts = [] ∧ (sumP ps qs ds).any farP = false ∧ 32 < (sumP ps qs ds).length))) ∨
  (¬ (validB ps = true ∧ validB qs = true) ∧ er = 2 ∧ ts = [])
set_option maxRecDepth 100000 in
set_option maxHeartbeats 1000000 in
theorem Sum_bad (u v : Value) (ps qs : List Pt) (w : World) (hu : Vecs w u ps) (hv : Vecs w v qs) (hb : ¬ (validB ps = true ∧ validB qs = true)) :
    Calls Try.prog 28 #[u, v] w fun e w' => e = two (.slice none 0 0) (.int .i64 2) ∧ Ext w w' := by
  obtain ⟨a, cap, rfl, hl, hm, _⟩ := hu.at
  obtain ⟨a2, cap2, rfl, hl2, hm2, _⟩ := hv.at
  have HU := Lib.hid hu
  have HV := Lib.hid hv
  clear hu hv
  cases h1 : validB ps with
  | false =>
    have H1 := Lib.hid h1
    clear h1 hb
    go_enter Try.func28, Try.ntmps28
    go_wp2_with fail
    refine (valid_c _ ps _ HU.out).mono ?_
    rintro e w2 ⟨rfl, hE⟩
    rw [H1.out]
    go_wp2
    go_ret2
    exact ⟨rfl, hE⟩
  | true =>
    cases h2 : validB qs with
    | true => exact absurd ⟨h1, h2⟩ hb
    | false =>
      have H1 := Lib.hid h1
      have H2 := Lib.hid h2
      clear h1 h2 hb
      go_enter Try.func28, Try.ntmps28
      go_wp2_with fail
      refine (valid_c _ ps _ HU.out).mono ?_
      rintro e w2 ⟨rfl, hE⟩
      rw [H1.out]
      have HE := Lib.hid hE
      clear hE
      go_wp2_with fail
      refine (valid_c _ qs _ (HV.out.ext HE.out)).mono ?_
      rintro e w3 ⟨rfl, hE3⟩
      rw [H2.out]
      go_wp2
      go_ret2
      exact ⟨rfl, Ext.trans HE.out hE3⟩
theorem Sum_all (u v : Value) (ps qs : List Pt) (w : World) (hu : Vecs w u ps) (hv : Vecs w v qs) :
    Calls Try.prog 28 #[u, v] w fun e w' => ∃ r er ts, e = .returned (.tuple #[r, .int .i64 er]) ∧ SumS ps qs er ts ∧ Vecs w' r ts ∧ Ext w w' := by
  by_cases hb : validB ps = true ∧ validB qs = true
  · refine (Sum_c u v ps qs w hu hv hb.1 hb.2).mono ?_
    rintro e w' ⟨r, ds, hs, rfl, hr, hE⟩
    cases hf : (sumP ps qs ds).any farP with
    | true =>
      refine ⟨_, 4, [], ?_, .inl ⟨hb.1, hb.2, ds, hs, .inr (.inl ⟨rfl, rfl, hf⟩)⟩, nil_vecs w', hE⟩
      unfold limR; rw [if_pos hf]; rfl
    | false =>
      by_cases h32 : 32 < (sumP ps qs ds).length
      · refine ⟨_, 8, [], ?_, .inl ⟨hb.1, hb.2, ds, hs, .inr (.inr ⟨rfl, rfl, hf, h32⟩)⟩, nil_vecs w', hE⟩
        unfold limR; rw [if_neg (by rw [hf]; decide), if_pos h32]; rfl
      · refine ⟨r, 0, _, ?_, .inl ⟨hb.1, hb.2, ds, hs, .inl ⟨rfl, rfl, hf, by omega⟩⟩, hr, hE⟩
        unfold limR; rw [if_neg (by rw [hf]; decide), if_neg h32]; rfl
  · refine (Sum_bad u v ps qs w hu hv hb).mono ?_
    rintro e w' ⟨rfl, hE⟩
    exact ⟨_, 2, [], rfl, .inr ⟨hb, rfl, rfl⟩, nil_vecs w', hE⟩
theorem merged_of {ps qs ds : List Pt} (h1 : validB ps = true) (h2 : validB qs = true) (h : Sorted ps qs ds) : Merged ps qs ds :=
  ⟨(valid_around h1).rolls, (valid_around h2).rolls, h⟩
theorem sumS_comm {ps qs ts us : List Pt} {a b : Int} (h : SumS ps qs a ts) (k : SumS qs ps b us) : a = b ∧ ts = us := by
  rcases h with ⟨h1, h2, ds, hs, h⟩ | ⟨h1, rfl, rfl⟩
  · rcases k with ⟨_, _, es, ks, k⟩ | ⟨k1, _, _⟩
    · have e := sum_comm (merged_of h1 h2 hs) (merged_of h2 h1 ks)
      rw [← e] at k
      rcases h with ⟨rfl, rfl, hf, hl⟩ | ⟨rfl, rfl, hf⟩ | ⟨rfl, rfl, hf, hl⟩ <;> rcases k with ⟨rfl, rfl, kf, kl⟩ | ⟨rfl, rfl, kf⟩ | ⟨rfl, rfl, kf, kl⟩ <;> first | exact ⟨rfl, rfl⟩ | (exfalso; omega) | (rw [hf] at kf; cases kf)
    · exact absurd ⟨h2, h1⟩ k1
  · rcases k with ⟨k1, k2, _⟩ | ⟨_, rfl, rfl⟩
    · exact absurd ⟨k2, k1⟩ h1
    · exact ⟨rfl, rfl⟩
theorem sumS_er {ps qs ts : List Pt} {a : Int} (h : SumS ps qs a ts) : a = 0 ∨ a = 2 ∨ a = 4 ∨ a = 8 := by
  rcases h with ⟨_, _, _, _, ⟨rfl, _⟩ | ⟨rfl, _⟩ | ⟨rfl, _⟩⟩ | ⟨_, rfl, _⟩ <;> decide
/-- what holds where Sum succeeds -/
theorem sumS_ok {ps qs ts : List Pt} (h : SumS ps qs 0 ts) : validB ps = true ∧ validB qs = true ∧ validB ts = true ∧ ∃ ds, Sorted ps qs ds ∧ ts = sumP ps qs ds := by
  rcases h with ⟨h1, h2, ds, hs, ⟨_, rfl, hf, hl⟩ | ⟨e, _⟩ | ⟨e, _⟩⟩ | ⟨_, e, _⟩
  · exact ⟨h1, h2, around_valid (sum_around (valid_around h1) (valid_around h2) hs) hl hf, ds, hs, rfl⟩
  · exact absurd e (by decide)
  · exact absurd e (by decide)
  · exact absurd e (by decide)
theorem sumS_assoc {ps qs rs ss us vs ws : List Pt} (h1 : SumS ps qs 0 ss) (h2 : SumS qs rs 0 us) (h3 : SumS ss rs 0 vs) (h4 : SumS ps us 0 ws) : vs = ws := by
  obtain ⟨a1, a2, a3, ds, hd, rfl⟩ := sumS_ok h1
  obtain ⟨_, b2, b3, es, he, rfl⟩ := sumS_ok h2
  obtain ⟨_, _, _, fs, hf, rfl⟩ := sumS_ok h3
  obtain ⟨_, _, _, gs, hg, rfl⟩ := sumS_ok h4
  exact sum_assoc (merged_of a1 a2 hd) (merged_of a2 b2 he) (merged_of a3 b2 hf) (merged_of a1 b3 hg)
theorem sumS_area {ps qs ts : List Pt} (h : SumS ps qs 0 ts) : areaZ ts = areaZ ps + areaZ qs + mixZ ps qs := by
  obtain ⟨a1, a2, _, ds, hd, rfl⟩ := sumS_ok h
  exact mixed_eq (merged_of a1 a2 hd)
theorem sumS_ext {ps qs ts : List Pt} (h : SumS ps qs 0 ts) {d : Pt} (hd : d ≠ (0, 0)) : (extK ts d ts.length).1 = (extK ps d ps.length).1 + (extK qs d qs.length).1 := by
  obtain ⟨a1, a2, a3, ds, hs, rfl⟩ := sumS_ok h
  exact ext_sum (merged_of a1 a2 hs) (valid_around a3).rolls hd
theorem mix_sum {ps qs ds : List Pt} (h1 : validB ps = true) (h2 : validB qs = true) (h : Sorted ps qs ds) : boxP 2000 (sumP ps qs ds) ∧ (sumP ps qs ds).length ≤ 64 ∧ areaZ (sumP ps qs ds) - areaZ ps - areaZ qs = mixZ ps qs := by
  have n1 := valid_near h1
  have n2 := valid_near h2
  have l := sum_len h
  have e := mixed_eq (merged_of h1 h2 h)
  exact ⟨sum_box (merged_of h1 h2 h) n1.1 n2.1, by omega, by omega⟩
theorem mix_bd {ps qs : List Pt} (h1 : validB ps = true) (h2 : validB qs = true) : 0 ≤ areaZ ps ∧ areaZ ps ≤ 128000000 ∧ 0 ≤ areaZ qs ∧ areaZ qs ≤ 128000000 ∧ 0 ≤ mixZ ps qs ∧ 4 * areaZ ps * areaZ qs ≤ mixZ ps qs * mixZ ps qs := by
  have n1 := valid_near h1
  have n2 := valid_near h2
  have a1 := area_near n1.1 n1.2.2
  have a2 := area_near n2.1 n2.2.2
  have m := minkowski (valid_around h1) (valid_around h2)
  exact ⟨(valid_around h1).area, a1.2, (valid_around h2).area, a2.2, m.1, m.2⟩
theorem box_wide {ps : List Pt} (h : boxP 2000 ps) : wideP ps := fun q hq => by have := h q hq; omega
def mixR (ps qs : List Pt) : Ending := if validB ps = true ∧ validB qs = true then two (.int .i64 (mixZ ps qs)) (.int .i64 0) else two (.int .i64 0) (.int .i64 2)
theorem mixR_comm (ps qs : List Pt) : mixR qs ps = mixR ps qs := by
  unfold mixR
  rw [mixZ_comm qs ps]
  by_cases h : validB ps = true ∧ validB qs = true
  · rw [if_pos h, if_pos h.symm]
  · rw [if_neg h, if_neg (fun k => h k.symm)]
set_option maxRecDepth 100000 in
set_option maxHeartbeats 1000000 in
theorem Mixed_c (u v : Value) (ps qs : List Pt) (w : World) (hu : Vecs w u ps) (hv : Vecs w v qs) :
    Calls Try.prog 30 #[u, v] w fun e w' => e = mixR ps qs ∧ Ext w w' := by
  obtain ⟨a, cap, rfl, hl, hm, _⟩ := hu.at
  obtain ⟨a2, cap2, rfl, hl2, hm2, _⟩ := hv.at
  have HU := Lib.hid hu
  have HV := Lib.hid hv
  clear hu hv
  cases h1 : validB ps with
  | false =>
    have HR := Lib.hid (show mixR ps qs = two (.int .i64 0) (.int .i64 2) by simp [mixR, h1])
    generalize mixR ps qs = R at *
    have H1 := Lib.hid h1
    clear h1
    go_enter Try.func30, Try.ntmps30
    go_wp2_with fail
    refine (valid_c _ ps _ HU.out).mono ?_
    rintro e w2 ⟨rfl, hE⟩
    rw [H1.out]
    go_wp2
    go_ret2
    exact ⟨HR.out.symm, hE⟩
  | true =>
    cases h2 : validB qs with
    | false =>
      have HR := Lib.hid (show mixR ps qs = two (.int .i64 0) (.int .i64 2) by simp [mixR, h2])
      generalize mixR ps qs = R at *
      have H1 := Lib.hid h1
      have H2 := Lib.hid h2
      clear h1 h2
      go_enter Try.func30, Try.ntmps30
      go_wp2_with fail
      refine (valid_c _ ps _ HU.out).mono ?_
      rintro e w2 ⟨rfl, hE⟩
      rw [H1.out]
      have HE := Lib.hid hE
      clear hE
      go_wp2_with fail
      refine (valid_c _ qs _ (HV.out.ext HE.out)).mono ?_
      rintro e w3 ⟨rfl, hE3⟩
      rw [H2.out]
      go_wp2
      go_ret2
      exact ⟨HR.out.symm, Ext.trans HE.out hE3⟩
    | true =>
      have HR := Lib.hid (show mixR ps qs = two (.int .i64 (mixZ ps qs)) (.int .i64 0) by simp [mixR, h1, h2])
      generalize mixR ps qs = R at *
      have H1 := Lib.hid h1
      have H2 := Lib.hid h2
      have HB := Lib.hid (mix_bd h1 h2)
      clear h1 h2
      go_enter Try.func30, Try.ntmps30
      go_wp2_with fail
      refine (valid_c _ ps _ HU.out).mono ?_
      rintro e w2 ⟨rfl, hE⟩
      rw [H1.out]
      have HE := Lib.hid hE
      clear hE
      go_wp2_with fail
      refine (valid_c _ qs _ (HV.out.ext HE.out)).mono ?_
      rintro e w3 ⟨rfl, hE3⟩
      rw [H2.out]
      have HE3 := Lib.hid (Ext.trans HE.out hE3)
      clear hE3
      go_wp2_with fail
      refine (sum_c sort_c _ _ ps qs w3 (HU.out.ext HE3.out) (HV.out.ext HE3.out) H1.out H2.out).mono ?_
      rintro e w4 ⟨r, ds, rfl, hp, hs, hr, hE4⟩
      have HP := Lib.hid (mix_sum H1.out H2.out (show Sorted ps qs ds from ⟨hp, hs⟩))
      have hr' : Vecs w4 r (sumP ps qs ds) := hr
      obtain ⟨a3, cap3, rfl, _, _, _⟩ := hr'.at
      have HRR := Lib.hid hr'
      have HE4 := Lib.hid (Ext.trans HE3.out hE4)
      clear hp hs hr hr' hE4
      generalize sumP ps qs ds = ss at *
      go_wp2_with fail
      refine (area_c _ ss w4 HRR.out (box_wide HP.out.1) (by have := HP.out.2.1; omega)).mono ?_
      rintro e w5 ⟨rfl, hE5⟩
      have HE5 := Lib.hid (Ext.trans HE4.out hE5)
      clear hE5
      go_wp2_with fail
      refine (area_c _ ps w5 (HU.out.ext HE5.out) (valid_wide H1.out) (by have := (valid_near H1.out).2.2; omega)).mono ?_
      rintro e w6 ⟨rfl, hE6⟩
      have HE6 := Lib.hid (Ext.trans HE5.out hE6)
      clear hE6
      go_wp2_with fail
      refine (area_c _ qs w6 (HV.out.ext HE6.out) (valid_wide H2.out) (by have := (valid_near H2.out).2.2; omega)).mono ?_
      rintro e w7 ⟨rfl, hE7⟩
      have b1 := HB.out
      have b2 := HP.out.2.2
      have b3 := area_far HP.out.1 HP.out.2.1
      have HE7 := Lib.hid (Ext.trans HE6.out hE7)
      clear hE7
      have w1 : wrap64 (areaZ ss - areaZ ps) = areaZ ss - areaZ ps := by unfold wrap64; omega
      have w2 : wrap64 (areaZ ss - areaZ ps - areaZ qs) = mixZ ps qs := by rw [b2]; unfold wrap64; omega
      clear b1 b2 b3
      generalize areaZ ss = A at *
      generalize areaZ ps = B at *
      generalize areaZ qs = C at *
      generalize mixZ ps qs = M at *
      go_wp2
      go_ret2
      exact ⟨by rw [HR.out, ← w2]; rfl, HE7.out⟩
end Go.Proofs.Ytbdppephmlkbaaa
