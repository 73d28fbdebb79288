import Derived.Test.YtnoacppfgckohaaM9
namespace Go.Proofs.Ytnoacppfgckohaa
open Go.RowKit
def UpP (e : Pt) : Prop := 0 < e.2 ∨ (e.2 = 0 ∧ 0 < e.1)
theorem up_sinks {e : Pt} (h : UpP e) : sinksB e.1 e.2 = false := by
  cases hs : sinksB e.1 e.2 with
  | false => rfl
  | true => have := down_of hs; unfold UpP at h; omega
theorem up_ne {e : Pt} (h : UpP e) : e ≠ (0, 0) := fun he => by rw [he] at h; unfold UpP at h; simp at h
theorem up_le {e f : Pt} (he : UpP e) (hf : UpP f) (h : ¬ ltA f e) : 0 ≤ crossP e f := by
  have a := cross_anti e f
  have : ¬ 0 < crossP f e := fun k => h (.inr ⟨by rw [up_sinks he, up_sinks hf], k⟩)
  omega
theorem sq_nn (a : Int) : 0 ≤ a * a := by
  rcases Int.le_total 0 a with h | h
  · exact Int.mul_nonneg h h
  · have := Int.mul_nonneg (show 0 ≤ -a by omega) (show 0 ≤ -a by omega)
    rwa [Int.neg_mul_neg] at this
theorem step_bound {e f W : Pt} {S : Int} (he : 0 < e.2) (hf : 0 < f.2) (hc : 0 ≤ crossP e f) (h : e.2 * S ≤ W.2 * crossP W e) : f.2 * S ≤ W.2 * crossP W f := by
  have h1 : f.2 * (e.2 * S) ≤ f.2 * (W.2 * crossP W e) := Int.mul_le_mul_of_nonneg_left h (by omega)
  have h2 : 0 ≤ (W.2 * W.2) * crossP e f := Int.mul_nonneg (sq_nn _) hc
  have h3 : e.2 * (W.2 * crossP W f) = f.2 * (W.2 * crossP W e) + (W.2 * W.2) * crossP e f := by unfold crossP crossZ; grind
  have h4 : e.2 * (f.2 * S) ≤ e.2 * (W.2 * crossP W f) := by
    have : e.2 * (f.2 * S) = f.2 * (e.2 * S) := by grind
    omega
  exact Int.le_of_mul_le_mul_left h4 he
/-- a walk with signs along sorted steps that rise, and that comes back to its height, has no area on its left -/
theorem energy : ∀ (L : List (Int × Pt)) (W : Pt) (S : Int), (∀ x ∈ L, UpP x.2) → SortW L →
    ((W.2 = 0 ∧ S = 0) ∨ ∃ e, UpP e ∧ 0 < e.2 ∧ (∀ x ∈ L, ¬ ltA x.2 e) ∧ e.2 * S ≤ W.2 * crossP W e) → W.2 + sumG (fun x => x.1 * x.2.2) L = 0 → S + wa W (L.map sc) ≤ 0
  | [], W, S, _, _, hI, hz => by
    simp only [sumG] at hz
    simp only [List.map_nil, wa]
    rcases hI with ⟨_, h⟩ | ⟨e, _, he, _, h⟩
    · omega
    · have : W.2 = 0 := by omega
      rw [this] at h
      refine Classical.byContradiction fun n => ?_
      have := Int.mul_pos he (show 0 < S by omega)
      simp at h
      omega
  | (w, f) :: L, W, S, hu, hs, hI, hz => by
    obtain ⟨s1, s2⟩ := List.pairwise_cons.1 hs
    have uf : UpP f := hu (w, f) (by simp)
    have hu' : ∀ x ∈ L, UpP x.2 := fun x hx => hu x (List.mem_cons_of_mem _ hx)
    have hz' : (addP (sc (w, f)) W).2 + sumG (fun x => x.1 * x.2.2) L = 0 := by
      simp only [sumG, addP, sc] at hz ⊢
      omega
    have goal : ∀ S', S' = S + crossP W (sc (w, f)) → S' + wa (addP (sc (w, f)) W) (L.map sc) ≤ 0 → S + wa W (((w, f) :: L).map sc) ≤ 0 := fun S' e h => by
      simp only [List.map_cons, wa]
      omega
    by_cases h0 : f.2 = 0
    · rcases hI with ⟨hw, h⟩ | ⟨e, ue, he, hb, h⟩
      · refine goal 0 ?_ (energy L _ 0 hu' s2 (.inl ⟨?_, rfl⟩) hz')
        · unfold crossP crossZ sc
          simp only [h0, hw]
          omega
        · simp only [addP, sc, h0, hw]
          omega
      · exfalso
        have := up_le ue uf (hb (w, f) (by simp))
        have h1 : 0 < f.1 := by unfold UpP at uf; omega
        have := Int.mul_pos he h1
        have h2 : crossP e f = -(e.2 * f.1) := by unfold crossP crossZ; rw [h0]; omega
        omega
    · have hf : 0 < f.2 := by unfold UpP at uf; omega
      have J : f.2 * S ≤ W.2 * crossP W f := by
        rcases hI with ⟨hw, h⟩ | ⟨e, ue, he, hb, h⟩
        · rw [hw, h]; simp
        · exact step_bound he hf (up_le ue uf (hb (w, f) (by simp))) h
      refine goal _ rfl (energy L _ _ hu' s2 (.inr ⟨f, uf, hf, fun x hx => s1 x hx, ?_⟩) hz')
      have i1 : crossP (addP (sc (w, f)) W) f = crossP W f := by unfold crossP crossZ addP sc; grind
      have i2 : crossP W (sc (w, f)) = w * crossP W f := by unfold crossP crossZ sc; grind
      rw [i1, i2]
      have i3 : (addP (sc (w, f)) W).2 = W.2 + w * f.2 := rfl
      rw [i3]
      have i4 : (W.2 + w * f.2) * crossP W f = W.2 * crossP W f + f.2 * (w * crossP W f) := by grind
      have i5 : f.2 * (S + w * crossP W f) = f.2 * S + f.2 * (w * crossP W f) := by grind
      omega
/-- sorting by insertion -/
def insW (x : Int × Pt) : List (Int × Pt) → List (Int × Pt)
  | [] => [x]
  | y :: L => if ltB y.2 x.2 = true then y :: insW x L else x :: y :: L
def sortW : List (Int × Pt) → List (Int × Pt)
  | [] => []
  | x :: L => insW x (sortW L)
theorem insW_perm (x : Int × Pt) : ∀ L, (insW x L).Perm (x :: L)
  | [] => .refl _
  | y :: L => by
    unfold insW
    split
    · exact ((insW_perm x L).cons y).trans (.swap x y L)
    · exact .refl _
theorem sortW_perm : ∀ L, (sortW L).Perm L
  | [] => .refl _
  | x :: L => (insW_perm x _).trans ((sortW_perm L).cons x)
theorem insW_sorted (x : Int × Pt) (hx : x.2 ≠ (0, 0)) : ∀ L : List (Int × Pt), (∀ y ∈ L, y.2 ≠ (0, 0)) → SortW L → SortW (insW x L)
  | [], _, _ => List.pairwise_cons.2 ⟨fun y hy => (by simp at hy), .nil⟩
  | y :: L, h0, hs => by
    obtain ⟨s1, s2⟩ := List.pairwise_cons.1 hs
    unfold insW
    split
    · rename_i hl
      have hl := (ltB_iff _ _).1 hl
      refine List.pairwise_cons.2 ⟨fun z hz => ?_, insW_sorted x hx L (fun z hz => h0 z (List.mem_cons_of_mem _ hz)) s2⟩
      rcases List.mem_cons.1 ((insW_perm x L).mem_iff.1 hz) with rfl | hz
      · intro k
        exact ltA_irrefl _ (ltA_trans (h0 y (by simp)) hx (h0 y (by simp)) hl k)
      · exact s1 z hz
    · rename_i hl
      have hl : ¬ ltA y.2 x.2 := fun k => hl ((ltB_iff _ _).2 k)
      refine List.pairwise_cons.2 ⟨fun z hz => ?_, hs⟩
      rcases List.mem_cons.1 hz with rfl | hz
      · exact hl
      · exact ltA_ntrans (h0 z (List.mem_cons_of_mem _ hz)) (h0 y (by simp)) hx (s1 z hz) hl
theorem sortW_sorted : ∀ L : List (Int × Pt), (∀ y ∈ L, y.2 ≠ (0, 0)) → SortW (sortW L)
  | [], _ => .nil
  | x :: L, h0 => insW_sorted x (h0 x (by simp)) _ (fun y hy => h0 y (List.mem_cons_of_mem _ ((sortW_perm L).mem_iff.1 hy))) (sortW_sorted L fun y hy => h0 y (List.mem_cons_of_mem _ hy))
theorem pw_wa (l : List Pt) : wa (0, 0) l = pw l := by
  rw [wa_pw]
  have : sumG (fun x => crossP (0, 0) x) l = 0 := by
    induction l with
    | nil => rfl
    | cons x l ih => simp only [sumG, ih]; unfold crossP crossZ; omega
  omega
theorem dbl_up {L : List (Int × Pt)} (hu : ∀ x ∈ L, UpP x.2) (hz : sumG (fun x => x.1 * x.2.2) L = 0) : dbl L L ≤ 0 := by
  have hp := sortW_perm L
  have hs := sortW_sorted L fun y hy => up_ne (hu y hy)
  rw [← dbl_perm hp, dbl_pw hs, ← pw_wa]
  have := energy (sortW L) (0, 0) 0 (fun x hx => hu x (hp.mem_iff.1 hx)) hs (.inl ⟨rfl, rfl⟩) (by rw [sumG_perm hp]; simp only; omega)
  omega
def vecS (L : List (Int × Pt)) : Pt := (sumG (fun x => x.1 * x.2.1) L, sumG (fun x => x.1 * x.2.2) L)
theorem cross_vecS (p : Pt) : ∀ L, sumG (fun y => crossP p (sc y)) L = crossP p (vecS L)
  | [] => by unfold vecS crossP crossZ; simp [sumG]
  | y :: L => by
    have ih := cross_vecS p L
    simp only [sumG, ih]
    unfold vecS crossP crossZ sc
    simp only [sumG]
    grind
theorem vecS_cross (q : Pt) : ∀ L, sumG (fun y => crossP (sc y) q) L = crossP (vecS L) q
  | [] => by unfold vecS crossP crossZ; simp [sumG]
  | y :: L => by
    have ih := vecS_cross q L
    simp only [sumG, ih]
    unfold vecS crossP crossZ sc
    simp only [sumG]
    grind
def negW (x : Int × Pt) : Int × Pt := (x.1, negP x.2)
theorem cP_neg {e f : Pt} (he : sinksB e.1 e.2 = true) (hf : sinksB f.1 f.2 = true) : cP (negP e) (negP f) = cP e f := by
  have iff : ltA (negP f) (negP e) ↔ ltA f e := by
    have n1 := up_sinks (e := negP e) (neg_up he)
    have n2 := up_sinks (e := negP f) (neg_up hf)
    have c := crossP_neg f e
    constructor
    · rintro (⟨_, k⟩ | ⟨_, k⟩)
      · rw [n1] at k; cases k
      · exact .inr ⟨by rw [he, hf], by unfold crossP at *; omega⟩
    · rintro (⟨k, _⟩ | ⟨_, k⟩)
      · rw [hf] at k; cases k
      · exact .inr ⟨by rw [n1, n2], by unfold crossP at *; omega⟩
  by_cases h : ltA f e
  · unfold cP
    rw [if_pos ((ltB_iff _ _).2 h), if_pos ((ltB_iff _ _).2 (iff.2 h)), crossP_neg]
  · rw [cP_of h, cP_of (fun k => h (iff.1 k)), crossP_neg]
theorem dbl_neg {L M : List (Int × Pt)} (hL : ∀ x ∈ L, sinksB x.2.1 x.2.2 = true) (hM : ∀ x ∈ M, sinksB x.2.1 x.2.2 = true) : dbl (L.map negW) (M.map negW) = dbl L M := by
  unfold dbl
  rw [sumG_map]
  refine sumG_congr fun x hx => ?_
  rw [sumG_map]
  refine sumG_congr fun y hy => ?_
  unfold cW negW
  rw [cP_neg (hL x hx) (hM y hy)]
/-- the form is not positive on what adds up to nothing, and has no height -/
theorem dbl_nonpos {L : List (Int × Pt)} (h0 : ∀ x ∈ L, x.2 ≠ (0, 0)) (hz : vecS L = (0, 0)) (hh : sumG (fun x => x.1 * x.2.2) (L.filter fun x => !sinksB x.2.1 x.2.2) = 0) : dbl L L ≤ 0 := by
  have hp : (L.filter (fun x => !sinksB x.2.1 x.2.2) ++ L.filter fun x => sinksB x.2.1 x.2.2).Perm L := by
    have := List.filter_append_perm (fun x : Int × Pt => !sinksB x.2.1 x.2.2) L
    simpa using this
  rw [← dbl_perm hp]
  have uU : ∀ x ∈ L.filter (fun x => !sinksB x.2.1 x.2.2), UpP x.2 := fun x hx => by
    obtain ⟨h1, h2⟩ := List.mem_filter.1 hx
    simp only [Bool.not_eq_true'] at h2
    exact up_of h2 (h0 x h1)
  have dD : ∀ x ∈ L.filter (fun x => sinksB x.2.1 x.2.2), sinksB x.2.1 x.2.2 = true := fun x hx => (List.mem_filter.1 hx).2
  have v0 : sumG (fun x => x.1 * x.2.1) L = 0 ∧ sumG (fun x => x.1 * x.2.2) L = 0 := by
    unfold vecS at hz
    simpa using hz
  rw [← sumG_perm hp, ← sumG_perm hp, sumG_append, sumG_append] at v0
  generalize L.filter (fun x => !sinksB x.2.1 x.2.2) = U at *
  generalize L.filter (fun x => sinksB x.2.1 x.2.2) = D at *
  rw [dbl_append_l, dbl_append_r, dbl_append_r, dbl_comm D U]
  have e1 := dbl_up uU hh
  have e2 : dbl D D ≤ 0 := by
    rw [← dbl_neg dD dD]
    refine dbl_up (fun x hx => ?_) ?_
    · obtain ⟨y, hy, rfl⟩ := List.mem_map.1 hx
      exact neg_up (dD y hy)
    · rw [sumG_map]
      have : sumG (fun x : Int × Pt => (negW x).1 * (negW x).2.2) D = (-1) * sumG (fun x => x.1 * x.2.2) D := by
        rw [← sumG_mul]
        exact sumG_congr fun x _ => by unfold negW negP; simp only; grind
      rw [this]
      omega
  have e3 : dbl U D = 0 := by
    have : dbl U D = crossP (vecS U) (vecS D) := by
      rw [← vecS_cross]
      unfold dbl
      refine sumG_congr fun x hx => ?_
      rw [← cross_vecS]
      refine sumG_congr fun y hy => ?_
      unfold cW
      have hn : ¬ ltA y.2 x.2 := by
        have s1 := up_sinks (uU x hx)
        have s2 := dD y hy
        rintro (⟨k, _⟩ | ⟨k, _⟩)
        · rw [s2] at k; cases k
        · rw [s1, s2] at k; cases k
      rw [cP_of hn, cross_sc]
    rw [this]
    have d1 : (vecS D).1 = -(vecS U).1 := by unfold vecS; simp only; omega
    have d2 : (vecS D).2 = -(vecS U).2 := by unfold vecS; simp only; omega
    unfold crossP crossZ
    rw [d1, d2]
    grind
  omega
end Go.Proofs.Ytnoacppfgckohaa
