import Derived.Test.YtbdppephmlkbaaaM7
namespace Go.Proofs.Ytbdppephmlkbaaa
open Go.RowKit
/-- the sum of a number over a list of anything -/
def sumG {α : Type} (f : α → Int) : List α → Int
  | [] => 0
  | x :: l => f x + sumG f l
section
variable {α β : Type}
theorem sumG_append (f : α → Int) : ∀ a b, sumG f (a ++ b) = sumG f a + sumG f b := by
  intro a b
  induction a with
  | nil => simp [sumG]
  | cons x l ih => simp only [List.cons_append, sumG, ih]; omega
theorem sumG_perm {f : α → Int} {a b : List α} (h : a.Perm b) : sumG f a = sumG f b := by
  induction h with
  | nil => rfl
  | cons x _ ih => simp only [sumG, ih]
  | swap x y l => simp only [sumG]; omega
  | trans _ _ h1 h2 => rw [h1, h2]
theorem sumG_add (f g : α → Int) : ∀ l, sumG (fun x => f x + g x) l = sumG f l + sumG g l
  | [] => rfl
  | x :: l => by simp only [sumG, sumG_add f g l]; omega
theorem sumG_mul (c : Int) (f : α → Int) : ∀ l, sumG (fun x => c * f x) l = c * sumG f l
  | [] => by simp [sumG]
  | x :: l => by simp only [sumG, sumG_mul c f l, Int.mul_add]
theorem sumG_congr {f g : α → Int} : ∀ {l : List α}, (∀ x ∈ l, f x = g x) → sumG f l = sumG g l
  | [], _ => rfl
  | x :: l, h => by simp only [sumG, h x (by simp), sumG_congr fun y hy => h y (List.mem_cons_of_mem _ hy)]
theorem sumG_map (f : β → Int) (g : α → β) : ∀ l, sumG f (l.map g) = sumG (fun x => f (g x)) l
  | [] => rfl
  | x :: l => by simp only [List.map_cons, sumG, sumG_map f g l]
end
theorem sumF_G (f : Pt → Int) : ∀ l, sumF f l = sumG f l
  | [] => rfl
  | x :: l => by simp only [sumF, sumG, sumF_G f l]
/-- the area between a walk and zero -/
def wa (a : Pt) : List Pt → Int
  | [] => 0
  | d :: l => crossP a d + wa (addP d a) l
/-- the sum over all pairs, in their order -/
def pw : List Pt → Int
  | [] => 0
  | d :: l => sumG (fun x => crossP d x) l + pw l
theorem wa_pw : ∀ (l : List Pt) (a : Pt), wa a l = sumG (fun x => crossP a x) l + pw l
  | [], _ => rfl
  | d :: l, a => by
    simp only [wa, pw, sumG, wa_pw l]
    have : sumG (fun x => crossP (addP d a) x) l = sumG (fun x => crossP d x) l + sumG (fun x => crossP a x) l := by
      rw [← sumG_add]
      exact sumG_congr fun x _ => lin_right x d a
    omega
theorem wa_runs : ∀ (l : List Pt) (a : Pt), (∀ x ∈ l, x ≠ (0, 0)) → wa a (runs l) = wa a l
  | [], _, _ => rfl
  | [d], _, _ => rfl
  | d :: e :: l, a, h0 => by
    have h1 : ∀ x ∈ e :: l, x ≠ (0, 0) := fun x hx => h0 x (List.mem_cons_of_mem _ hx)
    obtain ⟨h, t, e1, e2, e3⟩ := runs_cons e l h1
    have hd := h0 d (by simp)
    have he := h0 e (by simp)
    have ih := wa_runs (e :: l) (addP d a) h1
    unfold runs
    split
    · rename_i hs
      have k := SameD.trans hd he e3 ((angP_zero _ _).1 hs) e2
      have hz := ((same_iff _ _).1 k).2
      show _ = crossP a d + wa (addP d a) (e :: l)
      rw [← ih, e1]
      simp only [addHead, wa]
      have q1 : addP (addP h d) a = addP h (addP d a) := starts_add h d a
      have q2 : crossP a (addP h d) = crossP a h + crossP a d := lin_left a h d
      have q3 : crossP (addP d a) h = crossP d h + crossP a h := lin_right h d a
      rw [q1]
      omega
    · simp only [wa] at ih ⊢
      omega
theorem area_wa (ps : List Pt) : areaZ ps = wa (fromP ps 0) (stepsOf ps) := by
  have key : ∀ k, k < ps.length → areaK ps k + wa (fromP ps k) ((stepsOf ps).drop k) = wa (fromP ps 0) (stepsOf ps) := by
    intro k
    have hd : ∀ k, k < ps.length → (stepsOf ps).drop k = stepP ps k :: (stepsOf ps).drop (k + 1) := fun k hk => by
      rw [List.drop_eq_getElem_cons (by rw [stepsOf_length]; exact hk)]
      simp [stepsOf]
    induction k with
    | zero => intro _; simp [areaK]
    | succ k ih =>
      intro hk
      have h1 := ih (by omega)
      rw [hd k (by omega)] at h1
      have h3 : addP (stepP ps k) (fromP ps k) = fromP ps (k + 1) := by
        have : toP ps k = fromP ps (k + 1) := by unfold toP fromP; rw [Nat.mod_eq_of_lt hk]
        rw [← this]
        unfold addP stepP; exact Prod.ext (by simp only; omega) (by simp only; omega)
      simp only [wa, h3] at h1
      simp only [areaK]
      unfold crossK crossP at *
      omega
  by_cases h0 : ps.length = 0
  · have : ps = [] := List.eq_nil_of_length_eq_zero h0
    subst this
    rfl
  · obtain ⟨m, hm⟩ : ∃ m, ps.length = m + 1 := ⟨ps.length - 1, by omega⟩
    have h1 := key m (by omega)
    have hd : (stepsOf ps).drop m = [stepP ps m] := by
      rw [List.drop_eq_getElem_cons (by rw [stepsOf_length]; omega), List.drop_eq_nil_of_le (by rw [stepsOf_length]; omega)]
      simp [stepsOf]
    rw [hd] at h1
    rw [← h1]
    unfold areaZ
    rw [hm]
    simp only [areaK, wa]
    unfold crossK crossP
    omega
theorem area_pw (ps : List Pt) : areaZ ps = pw (stepsOf ps) := by
  rw [area_wa, wa_pw]
  have := path_sum (lin_left (fromP ps 0)) ps
  rw [sumF_G] at this
  omega
theorem area_sum {ps qs ds : List Pt} (h : Merged ps qs ds) : areaZ (sumP ps qs ds) = pw ds := by
  rw [area_wa, h.steps, wa_runs _ _ h.ne0, wa_pw]
  have e : sumG (fun x => crossP (fromP (sumP ps qs ds) 0) x) ds = 0 := by
    rw [← sumF_G, ← runs_sum (f := fun x => crossP (fromP (sumP ps qs ds) 0) x) (lin_left (fromP (sumP ps qs ds) 0))]
    exact h.sum0 (lin_left (fromP (sumP ps qs ds) 0))
  omega
/-- the cross product in the order of angles -/
def cP (e f : Pt) : Int := if ltB f e = true then crossP f e else crossP e f
theorem cP_of {e f : Pt} (h : ¬ ltA f e) : cP e f = crossP e f := by
  unfold cP
  rw [if_neg (fun k => h ((ltB_iff _ _).1 k))]
theorem cP_comm (e f : Pt) : cP e f = cP f e := by
  by_cases h1 : ltA f e
  · have h2 : ¬ ltA e f := fun k => by
      have a1 := cross_anti e f
      rcases h1 with ⟨p1, p2⟩ | ⟨p1, p2⟩
      · rcases k with ⟨q1, q2⟩ | ⟨q1, q2⟩
        · rw [p1] at q2; cases q2
        · rw [p1, p2] at q1; cases q1
      · rcases k with ⟨q1, q2⟩ | ⟨q1, q2⟩
        · rw [q1, q2] at p1; cases p1
        · unfold crossP at a1; omega
    rw [cP_of h2]
    unfold cP
    rw [if_pos ((ltB_iff _ _).2 h1)]
  · by_cases h2 : ltA e f
    · rw [cP_of h1]
      unfold cP
      rw [if_pos ((ltB_iff _ _).2 h2)]
    · rw [cP_of h1, cP_of h2]
      have := ((same_iff e f).1 ⟨h2, h1⟩).2
      have := cross_anti e f
      omega
/-- weighted steps, and the form that they make -/
def sc (x : Int × Pt) : Pt := (x.1 * x.2.1, x.1 * x.2.2)
def cW (x y : Int × Pt) : Int := x.1 * y.1 * cP x.2 y.2
theorem cW_comm (x y : Int × Pt) : cW x y = cW y x := by unfold cW; rw [cP_comm, Int.mul_comm x.1]
def dbl (L M : List (Int × Pt)) : Int := sumG (fun x => sumG (fun y => cW x y) M) L
theorem dbl_cons_r (L : List (Int × Pt)) (y : Int × Pt) (M : List (Int × Pt)) : dbl L (y :: M) = sumG (fun x => cW x y) L + dbl L M := by
  unfold dbl
  rw [← sumG_add]
  rfl
theorem dbl_append_l (L L' M : List (Int × Pt)) : dbl (L ++ L') M = dbl L M + dbl L' M := sumG_append _ _ _
theorem dbl_comm : ∀ L M, dbl L M = dbl M L
  | [], M => by
    have : ∀ M : List (Int × Pt), dbl M [] = 0 := fun M => by
      induction M with
      | nil => rfl
      | cons y M ih => show 0 + dbl M [] = 0; omega
    rw [this]; rfl
  | x :: L, M => by
    rw [dbl_cons_r, ← dbl_comm L M]
    show sumG (fun y => cW x y) M + dbl L M = _
    rw [sumG_congr fun y _ => cW_comm x y]
theorem dbl_append_r (L M M' : List (Int × Pt)) : dbl L (M ++ M') = dbl L M + dbl L M' := by
  rw [dbl_comm, dbl_append_l, dbl_comm M, dbl_comm M']
theorem dbl_perm_l {L L' : List (Int × Pt)} (M : List (Int × Pt)) (h : L.Perm L') : dbl L M = dbl L' M := sumG_perm h
theorem dbl_perm {L L' : List (Int × Pt)} (h : L.Perm L') : dbl L L = dbl L' L' := by
  rw [dbl_perm_l L h, dbl_comm, dbl_perm_l L' h]
def SortW (L : List (Int × Pt)) : Prop := L.Pairwise fun a b => ¬ ltA b.2 a.2
theorem cross_sc (x y : Int × Pt) : crossP (sc x) (sc y) = x.1 * y.1 * crossP x.2 y.2 := by unfold crossP crossZ sc; grind
theorem dbl_pw : ∀ {L : List (Int × Pt)}, SortW L → dbl L L = 2 * pw (L.map sc)
  | [], _ => rfl
  | x :: L, h => by
    obtain ⟨h1, h2⟩ := List.pairwise_cons.1 h
    have ih := dbl_pw (L := L) h2
    rw [dbl_cons_r]
    have e1 : sumG (fun y => cW x y) L = sumG (fun y => crossP (sc x) y) (L.map sc) := by
      rw [sumG_map]
      exact sumG_congr fun y hy => by unfold cW; rw [cP_of (h1 y hy), cross_sc]
    have e2 : cW x x = 0 := by unfold cW; rw [cP_of (ltA_irrefl _), cross_self]; simp
    have e3 : sumG (fun y => cW y x) L = sumG (fun y => cW x y) L := sumG_congr fun y _ => cW_comm y x
    simp only [List.map_cons, pw, sumG, dbl] at ih ⊢
    rw [e3, e1, e2, ih]
    omega
end Go.Proofs.Ytbdppephmlkbaaa

namespace Go.Proofs.Ytbdppephmlkbaaa
open Go.RowKit
def UpP (e : Pt) : Prop := 0 < e.2 ∨ (e.2 = 0 ∧ 0 < e.1)
theorem up_sinks {e : Pt} (h : UpP e) : sinksB e.1 e.2 = false := by
  cases hs : sinksB e.1 e.2 with
  | false => rfl
  | true => have := down_of hs; unfold UpP at h; omega
theorem up_ne {e : Pt} (h : UpP e) : e ≠ (0, 0) := fun he => by rw [he] at h; unfold UpP at h; simp at h
theorem up_le {e f : Pt} (he : UpP e) (hf : UpP f) (h : ¬ ltA f e) : 0 ≤ crossP e f := by
  have a := cross_anti e f
  have : ¬ 0 < crossP f e := fun k => h (.inr ⟨by rw [up_sinks he, up_sinks hf], k⟩)
  omega
theorem sq_nn (a : Int) : 0 ≤ a * a := by
  rcases Int.le_total 0 a with h | h
  · exact Int.mul_nonneg h h
  · have := Int.mul_nonneg (show 0 ≤ -a by omega) (show 0 ≤ -a by omega)
    rwa [Int.neg_mul_neg] at this
theorem step_bound {e f W : Pt} {S : Int} (he : 0 < e.2) (hf : 0 < f.2) (hc : 0 ≤ crossP e f) (h : e.2 * S ≤ W.2 * crossP W e) : f.2 * S ≤ W.2 * crossP W f := by
  have h1 : f.2 * (e.2 * S) ≤ f.2 * (W.2 * crossP W e) := Int.mul_le_mul_of_nonneg_left h (by omega)
  have h2 : 0 ≤ (W.2 * W.2) * crossP e f := Int.mul_nonneg (sq_nn _) hc
  have h3 : e.2 * (W.2 * crossP W f) = f.2 * (W.2 * crossP W e) + (W.2 * W.2) * crossP e f := by unfold crossP crossZ; grind
  have h4 : e.2 * (f.2 * S) ≤ e.2 * (W.2 * crossP W f) := by
    have : e.2 * (f.2 * S) = f.2 * (e.2 * S) := by grind
    omega
  exact Int.le_of_mul_le_mul_left h4 he
/-- a walk with signs along sorted steps that rise, and that comes back to its height, has no area on its left -/
theorem energy : ∀ (L : List (Int × Pt)) (W : Pt) (S : Int), (∀ x ∈ L, UpP x.2) → SortW L →
    ((W.2 = 0 ∧ S = 0) ∨ ∃ e, UpP e ∧ 0 < e.2 ∧ (∀ x ∈ L, ¬ ltA x.2 e) ∧ e.2 * S ≤ W.2 * crossP W e) → W.2 + sumG (fun x => x.1 * x.2.2) L = 0 → S + wa W (L.map sc) ≤ 0
  | [], W, S, _, _, hI, hz => by
    simp only [sumG] at hz
    simp only [List.map_nil, wa]
    rcases hI with ⟨_, h⟩ | ⟨e, _, he, _, h⟩
    · omega
    · have : W.2 = 0 := by omega
      rw [this] at h
      refine Classical.byContradiction fun n => ?_
      have := Int.mul_pos he (show 0 < S by omega)
      simp at h
      omega
  | (w, f) :: L, W, S, hu, hs, hI, hz => by
    obtain ⟨s1, s2⟩ := List.pairwise_cons.1 hs
    have uf : UpP f := hu (w, f) (by simp)
    have hu' : ∀ x ∈ L, UpP x.2 := fun x hx => hu x (List.mem_cons_of_mem _ hx)
    have hz' : (addP (sc (w, f)) W).2 + sumG (fun x => x.1 * x.2.2) L = 0 := by
      simp only [sumG, addP, sc] at hz ⊢
      omega
    have goal : ∀ S', S' = S + crossP W (sc (w, f)) → S' + wa (addP (sc (w, f)) W) (L.map sc) ≤ 0 → S + wa W (((w, f) :: L).map sc) ≤ 0 := fun S' e h => by
      simp only [List.map_cons, wa]
      omega
    by_cases h0 : f.2 = 0
    · rcases hI with ⟨hw, h⟩ | ⟨e, ue, he, hb, h⟩
      · refine goal 0 ?_ (energy L _ 0 hu' s2 (.inl ⟨?_, rfl⟩) hz')
        · unfold crossP crossZ sc
          simp only [h0, hw]
          omega
        · simp only [addP, sc, h0, hw]
          omega
      · exfalso
        have := up_le ue uf (hb (w, f) (by simp))
        have h1 : 0 < f.1 := by unfold UpP at uf; omega
        have := Int.mul_pos he h1
        have h2 : crossP e f = -(e.2 * f.1) := by unfold crossP crossZ; rw [h0]; omega
        omega
    · have hf : 0 < f.2 := by unfold UpP at uf; omega
      have J : f.2 * S ≤ W.2 * crossP W f := by
        rcases hI with ⟨hw, h⟩ | ⟨e, ue, he, hb, h⟩
        · rw [hw, h]; simp
        · exact step_bound he hf (up_le ue uf (hb (w, f) (by simp))) h
      refine goal _ rfl (energy L _ _ hu' s2 (.inr ⟨f, uf, hf, fun x hx => s1 x hx, ?_⟩) hz')
      have i1 : crossP (addP (sc (w, f)) W) f = crossP W f := by unfold crossP crossZ addP sc; grind
      have i2 : crossP W (sc (w, f)) = w * crossP W f := by unfold crossP crossZ sc; grind
      rw [i1, i2]
      have i3 : (addP (sc (w, f)) W).2 = W.2 + w * f.2 := rfl
      rw [i3]
      have i4 : (W.2 + w * f.2) * crossP W f = W.2 * crossP W f + f.2 * (w * crossP W f) := by grind
      have i5 : f.2 * (S + w * crossP W f) = f.2 * S + f.2 * (w * crossP W f) := by grind
      omega
/-- sorting by insertion -/
def insW (x : Int × Pt) : List (Int × Pt) → List (Int × Pt)
  | [] => [x]
  | y :: L => if ltB y.2 x.2 = true then y :: insW x L else x :: y :: L
def sortW : List (Int × Pt) → List (Int × Pt)
  | [] => []
  | x :: L => insW x (sortW L)
theorem insW_perm (x : Int × Pt) : ∀ L, (insW x L).Perm (x :: L)
  | [] => .refl _
  | y :: L => by
    unfold insW
    split
    · exact ((insW_perm x L).cons y).trans (.swap x y L)
    · exact .refl _
theorem sortW_perm : ∀ L, (sortW L).Perm L
  | [] => .refl _
  | x :: L => (insW_perm x _).trans ((sortW_perm L).cons x)
theorem insW_sorted (x : Int × Pt) (hx : x.2 ≠ (0, 0)) : ∀ L : List (Int × Pt), (∀ y ∈ L, y.2 ≠ (0, 0)) → SortW L → SortW (insW x L)
  | [], _, _ => List.pairwise_cons.2 ⟨fun y hy => (by simp at hy), .nil⟩
  | y :: L, h0, hs => by
    obtain ⟨s1, s2⟩ := List.pairwise_cons.1 hs
    unfold insW
    split
    · rename_i hl
      have hl := (ltB_iff _ _).1 hl
      refine List.pairwise_cons.2 ⟨fun z hz => ?_, insW_sorted x hx L (fun z hz => h0 z (List.mem_cons_of_mem _ hz)) s2⟩
      rcases List.mem_cons.1 ((insW_perm x L).mem_iff.1 hz) with rfl | hz
      · intro k
        exact ltA_irrefl _ (ltA_trans (h0 y (by simp)) hx (h0 y (by simp)) hl k)
      · exact s1 z hz
    · rename_i hl
      have hl : ¬ ltA y.2 x.2 := fun k => hl ((ltB_iff _ _).2 k)
      refine List.pairwise_cons.2 ⟨fun z hz => ?_, hs⟩
      rcases List.mem_cons.1 hz with rfl | hz
      · exact hl
      · exact ltA_ntrans (h0 z (List.mem_cons_of_mem _ hz)) (h0 y (by simp)) hx (s1 z hz) hl
theorem sortW_sorted : ∀ L : List (Int × Pt), (∀ y ∈ L, y.2 ≠ (0, 0)) → SortW (sortW L)
  | [], _ => .nil
  | x :: L, h0 => insW_sorted x (h0 x (by simp)) _ (fun y hy => h0 y (List.mem_cons_of_mem _ ((sortW_perm L).mem_iff.1 hy))) (sortW_sorted L fun y hy => h0 y (List.mem_cons_of_mem _ hy))
theorem pw_wa (l : List Pt) : wa (0, 0) l = pw l := by
  rw [wa_pw]
  have : sumG (fun x => crossP (0, 0) x) l = 0 := by
    induction l with
    | nil => rfl
    | cons x l ih => simp only [sumG, ih]; unfold crossP crossZ; omega
  omega
theorem dbl_up {L : List (Int × Pt)} (hu : ∀ x ∈ L, UpP x.2) (hz : sumG (fun x => x.1 * x.2.2) L = 0) : dbl L L ≤ 0 := by
  have hp := sortW_perm L
  have hs := sortW_sorted L fun y hy => up_ne (hu y hy)
  rw [← dbl_perm hp, dbl_pw hs, ← pw_wa]
  have := energy (sortW L) (0, 0) 0 (fun x hx => hu x (hp.mem_iff.1 hx)) hs (.inl ⟨rfl, rfl⟩) (by rw [sumG_perm hp]; simp only; omega)
  omega
def vecS (L : List (Int × Pt)) : Pt := (sumG (fun x => x.1 * x.2.1) L, sumG (fun x => x.1 * x.2.2) L)
theorem cross_vecS (p : Pt) : ∀ L, sumG (fun y => crossP p (sc y)) L = crossP p (vecS L)
  | [] => by unfold vecS crossP crossZ; simp [sumG]
  | y :: L => by
    have ih := cross_vecS p L
    simp only [sumG, ih]
    unfold vecS crossP crossZ sc
    simp only [sumG]
    grind
theorem vecS_cross (q : Pt) : ∀ L, sumG (fun y => crossP (sc y) q) L = crossP (vecS L) q
  | [] => by unfold vecS crossP crossZ; simp [sumG]
  | y :: L => by
    have ih := vecS_cross q L
    simp only [sumG, ih]
    unfold vecS crossP crossZ sc
    simp only [sumG]
    grind
def negW (x : Int × Pt) : Int × Pt := (x.1, negP x.2)
theorem cP_neg {e f : Pt} (he : sinksB e.1 e.2 = true) (hf : sinksB f.1 f.2 = true) : cP (negP e) (negP f) = cP e f := by
  have iff : ltA (negP f) (negP e) ↔ ltA f e := by
    have n1 := up_sinks (e := negP e) (neg_up he)
    have n2 := up_sinks (e := negP f) (neg_up hf)
    have c := crossP_neg f e
    constructor
    · rintro (⟨_, k⟩ | ⟨_, k⟩)
      · rw [n1] at k; cases k
      · exact .inr ⟨by rw [he, hf], by unfold crossP at *; omega⟩
    · rintro (⟨k, _⟩ | ⟨_, k⟩)
      · rw [hf] at k; cases k
      · exact .inr ⟨by rw [n1, n2], by unfold crossP at *; omega⟩
  by_cases h : ltA f e
  · unfold cP
    rw [if_pos ((ltB_iff _ _).2 h), if_pos ((ltB_iff _ _).2 (iff.2 h)), crossP_neg]
  · rw [cP_of h, cP_of (fun k => h (iff.1 k)), crossP_neg]
theorem dbl_neg {L M : List (Int × Pt)} (hL : ∀ x ∈ L, sinksB x.2.1 x.2.2 = true) (hM : ∀ x ∈ M, sinksB x.2.1 x.2.2 = true) : dbl (L.map negW) (M.map negW) = dbl L M := by
  unfold dbl
  rw [sumG_map]
  refine sumG_congr fun x hx => ?_
  rw [sumG_map]
  refine sumG_congr fun y hy => ?_
  unfold cW negW
  rw [cP_neg (hL x hx) (hM y hy)]
/-- the form is not positive on what adds up to nothing, and has no height -/
theorem dbl_nonpos {L : List (Int × Pt)} (h0 : ∀ x ∈ L, x.2 ≠ (0, 0)) (hz : vecS L = (0, 0)) (hh : sumG (fun x => x.1 * x.2.2) (L.filter fun x => !sinksB x.2.1 x.2.2) = 0) : dbl L L ≤ 0 := by
  have hp : (L.filter (fun x => !sinksB x.2.1 x.2.2) ++ L.filter fun x => sinksB x.2.1 x.2.2).Perm L := by
    have := List.filter_append_perm (fun x : Int × Pt => !sinksB x.2.1 x.2.2) L
    simpa using this
  rw [← dbl_perm hp]
  have uU : ∀ x ∈ L.filter (fun x => !sinksB x.2.1 x.2.2), UpP x.2 := fun x hx => by
    obtain ⟨h1, h2⟩ := List.mem_filter.1 hx
    simp only [Bool.not_eq_true'] at h2
    exact up_of h2 (h0 x h1)
  have dD : ∀ x ∈ L.filter (fun x => sinksB x.2.1 x.2.2), sinksB x.2.1 x.2.2 = true := fun x hx => (List.mem_filter.1 hx).2
  have v0 : sumG (fun x => x.1 * x.2.1) L = 0 ∧ sumG (fun x => x.1 * x.2.2) L = 0 := by
    unfold vecS at hz
    simpa using hz
  rw [← sumG_perm hp, ← sumG_perm hp, sumG_append, sumG_append] at v0
  generalize L.filter (fun x => !sinksB x.2.1 x.2.2) = U at *
  generalize L.filter (fun x => sinksB x.2.1 x.2.2) = D at *
  rw [dbl_append_l, dbl_append_r, dbl_append_r, dbl_comm D U]
  have e1 := dbl_up uU hh
  have e2 : dbl D D ≤ 0 := by
    rw [← dbl_neg dD dD]
    refine dbl_up (fun x hx => ?_) ?_
    · obtain ⟨y, hy, rfl⟩ := List.mem_map.1 hx
      exact neg_up (dD y hy)
    · rw [sumG_map]
      have : sumG (fun x : Int × Pt => (negW x).1 * (negW x).2.2) D = (-1) * sumG (fun x => x.1 * x.2.2) D := by
        rw [← sumG_mul]
        exact sumG_congr fun x _ => by unfold negW negP; simp only; grind
      rw [this]
      omega
  have e3 : dbl U D = 0 := by
    have : dbl U D = crossP (vecS U) (vecS D) := by
      rw [← vecS_cross]
      unfold dbl
      refine sumG_congr fun x hx => ?_
      rw [← cross_vecS]
      refine sumG_congr fun y hy => ?_
      unfold cW
      have hn : ¬ ltA y.2 x.2 := by
        have s1 := up_sinks (uU x hx)
        have s2 := dD y hy
        rintro (⟨k, _⟩ | ⟨k, _⟩)
        · rw [s2] at k; cases k
        · rw [s1, s2] at k; cases k
      rw [cP_of hn, cross_sc]
    rw [this]
    have d1 : (vecS D).1 = -(vecS U).1 := by unfold vecS; simp only; omega
    have d2 : (vecS D).2 = -(vecS U).2 := by unfold vecS; simp only; omega
    unfold crossP crossZ
    rw [d1, d2]
    grind
  omega
end Go.Proofs.Ytbdppephmlkbaaa

namespace Go.Proofs.Ytbdppephmlkbaaa
open Go.RowKit
theorem Around.strict {ps : List Pt} (h : Around ps) : (stepsOf ps).Pairwise ltA := by
  have adj : ∀ i, i + 1 < ps.length → ltA (stepP ps i) (stepP ps (i + 1)) := fun i hi => by
    have h1 := h.sorted i hi
    have h2 := h.turn (i + 1) hi
    have e : prevI ps.length (i + 1) = i := by unfold prevI; rw [if_neg (by omega)]; omega
    rw [e] at h2
    cases s1 : sinksB (stepP ps i).1 (stepP ps i).2 with
    | false =>
      cases s2 : sinksB (stepP ps (i + 1)).1 (stepP ps (i + 1)).2 with
      | false => exact .inr ⟨by rw [s1, s2], h2⟩
      | true => exact .inl ⟨s1, s2⟩
    | true =>
      cases s2 : sinksB (stepP ps (i + 1)).1 (stepP ps (i + 1)).2 with
      | false => exact absurd (.inl ⟨s2, s1⟩) h1
      | true => exact .inr ⟨by rw [s1, s2], h2⟩
  have key : ∀ d i, i + d + 1 < ps.length → ltA (stepP ps i) (stepP ps (i + d + 1)) := by
    intro d
    induction d with
    | zero => intro i hi; exact adj i hi
    | succ d ih =>
      intro i hi
      exact ltA_trans (h.ne0 (show i < ps.length by omega)) (h.ne0 (show i + d + 1 < ps.length by omega)) (h.ne0 (by omega)) (ih i (by omega)) (adj _ hi)
  rw [List.pairwise_iff_getElem]
  intro i j hi hj hij
  rw [stepsOf_length] at hi hj
  simp only [stepsOf, List.getElem_map, List.getElem_range]
  have := key (j - i - 1) i (by omega)
  rwa [show i + (j - i - 1) + 1 = j by omega] at this
theorem from_steps {ps : List Pt} {k : Nat} (hk : k < ps.length) : fromP (stepsOf ps) k = stepP ps k := stepsOf_getD hk
/-- where an edge lies, its direction has its maximum -/
theorem Around.at_edge {ps : List Pt} (h : Around ps) {k : Nat} (hk : k < ps.length) : crossP (fromP ps k) (stepP ps k) = hiP ps (stepP ps k) := by
  have e := path_get (lin_right (stepP ps k)) ps k hk
  have f := filter_at h.strict (k := k) (by rw [stepsOf_length]; exact hk)
  rw [from_steps hk] at f
  unfold hiP
  rw [f]
  exact e
/-- all vertices lie to the left of all edges -/
theorem Around.left {ps : List Pt} (h : Around ps) {k j : Nat} (hk : k < ps.length) (hj : j < ps.length) : 0 ≤ sideK ps (fromP ps j).1 (fromP ps j).2 k := by
  have h1 := h.at_edge hk
  have h2 := hi_le h.rolls (h.ne0 hk) hj
  rw [← h1] at h2
  have : sideK ps (fromP ps j).1 (fromP ps j).2 k = crossP (fromP ps k) (stepP ps k) - crossP (fromP ps j) (stepP ps k) := by
    unfold sideK crossP crossZ; grind
  omega
theorem sumTo_pos {f : Nat → Int} : ∀ n, (∀ k, k < n → 0 ≤ f k) → 0 ≤ sumTo f n
  | 0, _ => Int.le_refl _
  | n + 1, h => by
    have h1 := sumTo_pos n fun k hk => h k (by omega)
    have h2 := h n (by omega)
    simp only [sumTo]
    omega
theorem Around.area {ps : List Pt} (h : Around ps) : 0 ≤ areaZ ps := by
  have e : sumTo (fun k => sideK ps (fromP ps 0).1 (fromP ps 0).2 k) ps.length = areaZ ps := by
    have e1 : sumTo (fun k => sideK ps (fromP ps 0).1 (fromP ps 0).2 k) ps.length = sumTo (fun k => crossK ps k + ((fromP ps 0).2 * (stepP ps k).1 + -(fromP ps 0).1 * (stepP ps k).2)) ps.length := by
      refine sumTo_congr _ fun k _ => ?_
      unfold sideK crossK crossZ
      grind
    rw [e1, sumTo_add, sumTo_add, sumTo_mul, sumTo_mul, (sum_steps ps).1, (sum_steps ps).2]
    unfold areaZ
    rw [areaK_sum]
    omega
  rw [← e]
  exact sumTo_pos _ fun k hk => h.left hk (by have := h.three; omega)
/-- a list with the same weight everywhere -/
def wgt (c : Int) (l : List Pt) : List (Int × Pt) := l.map fun x => (c, x)
def mixZ (ps qs : List Pt) : Int := dbl (wgt 1 (stepsOf ps)) (wgt 1 (stepsOf qs))
theorem dbl_wgt (c d : Int) (l m : List Pt) : dbl (wgt c l) (wgt d m) = c * d * dbl (wgt 1 l) (wgt 1 m) := by
  unfold dbl wgt
  rw [sumG_map, sumG_map, ← sumG_mul]
  refine sumG_congr fun x _ => ?_
  rw [sumG_map, sumG_map, ← sumG_mul]
  refine sumG_congr fun y _ => ?_
  unfold cW
  grind
theorem wgt_sc (l : List Pt) : (wgt 1 l).map sc = l := by
  unfold wgt
  rw [List.map_map]
  have : (sc ∘ fun x : Pt => ((1 : Int), x)) = id := by
    funext x
    show sc (1, x) = x
    unfold sc
    exact Prod.ext (by simp) (by simp)
  rw [this, List.map_id]
theorem wgt_sorted {l : List Pt} (h : l.Pairwise fun a b => ¬ ltA b a) : SortW (wgt 1 l) := by
  unfold SortW wgt
  rw [List.pairwise_map]
  exact h
theorem pw_dbl {l : List Pt} (h : l.Pairwise fun a b => ¬ ltA b a) : dbl (wgt 1 l) (wgt 1 l) = 2 * pw l := by
  rw [dbl_pw (wgt_sorted h), wgt_sc]
theorem area_dbl {ps : List Pt} (h : Rolls ps) : dbl (wgt 1 (stepsOf ps)) (wgt 1 (stepsOf ps)) = 2 * areaZ ps := by
  rw [pw_dbl h.sorted, area_pw]
/-- what Mixed returns -/
theorem mixed_eq {ps qs ds : List Pt} (h : Merged ps qs ds) : areaZ (sumP ps qs ds) = areaZ ps + areaZ qs + mixZ ps qs := by
  have e := pw_dbl h.s.2
  have hp : (wgt 1 ds).Perm (wgt 1 (stepsOf ps) ++ wgt 1 (stepsOf qs)) := by
    unfold wgt
    rw [← List.map_append]
    exact h.s.1.map _
  rw [dbl_perm hp, dbl_append_l, dbl_append_r, dbl_append_r, area_dbl h.p, area_dbl h.q, dbl_comm (wgt 1 (stepsOf qs))] at e
  rw [area_sum h]
  unfold mixZ
  omega
theorem mixZ_comm (ps qs : List Pt) : mixZ ps qs = mixZ qs ps := dbl_comm _ _
/-- the height of a polygon, from its steps that rise -/
def tall (ps : List Pt) : Int := sumG (fun x => x.2) ((stepsOf ps).filter fun x => !sinksB x.1 x.2)
theorem Around.tall_pos {ps : List Pt} (h : Around ps) : 0 < tall ps := by
  have hz := path_sum lin_snd ps
  have hne : ∃ x ∈ stepsOf ps, x.2 ≠ 0 := Classical.byContradiction fun n => by
    have n' : ∀ x ∈ stepsOf ps, x.2 = 0 := fun x hx => Classical.byContradiction fun k => n ⟨x, hx, k⟩
    have hn := h.three
    have t := h.turn 1 (by omega)
    have a1 := n' _ (mem_steps (show 1 < ps.length by omega))
    have a0 := n' _ (mem_steps (show prevI ps.length 1 < ps.length by show 0 < ps.length; omega))
    unfold crossP crossZ at t
    rw [a1, a0] at t
    simp at t
  obtain ⟨x, hx, hx2⟩ := hne
  have hpos : ∃ y ∈ stepsOf ps, 0 < y.2 := Classical.byContradiction fun n => by
    have n' : ∀ y ∈ stepsOf ps, y.2 ≤ 0 := fun y hy => Classical.byContradiction fun k => n ⟨y, hy, by omega⟩
    exact hx2 (sumF_zero n' hz x hx)
  obtain ⟨y, hy, hy2⟩ := hpos
  have key : ∀ l : List Pt, (∀ x ∈ l, x ≠ (0, 0)) → y ∈ l → 0 < sumG (fun x => x.2) (l.filter fun x => !sinksB x.1 x.2) ∧ True := by
    have nn : ∀ l : List Pt, (∀ x ∈ l, x ≠ (0, 0)) → 0 ≤ sumG (fun x => x.2) (l.filter fun x => !sinksB x.1 x.2) := by
      intro l
      induction l with
      | nil => intro _; exact Int.le_refl _
      | cons z l ih =>
        intro h0
        have i := ih fun x hx => h0 x (List.mem_cons_of_mem _ hx)
        cases hs : sinksB z.1 z.2 with
        | true => rw [List.filter_cons_of_neg (by simp [hs])]; exact i
        | false =>
          rw [List.filter_cons_of_pos (by simp [hs])]
          have := up_of hs (h0 z (by simp))
          simp only [sumG]
          omega
    intro l h0 hl
    refine ⟨?_, trivial⟩
    induction l with
    | nil => simp at hl
    | cons z l ih =>
      have h1 : ∀ x ∈ l, x ≠ (0, 0) := fun x hx => h0 x (List.mem_cons_of_mem _ hx)
      have i := nn l h1
      rcases List.mem_cons.1 hl with rfl | hl
      · have hs : sinksB y.1 y.2 = false := up_sinks (e := y) (.inl hy2)
        rw [List.filter_cons_of_pos (by simp [hs])]
        simp only [sumG]
        omega
      · have i2 := ih h1 hl
        cases hs : sinksB z.1 z.2 with
        | true => rw [List.filter_cons_of_neg (by simp [hs])]; exact i2
        | false =>
          rw [List.filter_cons_of_pos (by simp [hs])]
          have := up_of hs (h0 z (by simp))
          simp only [sumG]
          omega
  exact (key _ h.rolls.ne0 hy).1
theorem wgt_sum (c : Int) (f : Pt → Int) (l : List Pt) : sumG (fun x : Int × Pt => x.1 * f x.2) (wgt c l) = c * sumG f l := by
  unfold wgt
  rw [sumG_map, ← sumG_mul]
theorem wgt_filter (c : Int) (p : Pt → Bool) (l : List Pt) : (wgt c l).filter (fun x => p x.2) = wgt c (l.filter p) := by
  unfold wgt
  rw [List.filter_map]
  rfl
/-- Minkowski's inequality, from Bonnesen's -/
theorem minkowski {ps qs : List Pt} (hp : Around ps) (hq : Around qs) : 0 ≤ mixZ ps qs ∧ 4 * areaZ ps * areaZ qs ≤ mixZ ps qs * mixZ ps qs := by
  have ta := hq.tall_pos
  have tb := hp.tall_pos
  have aa := hp.area
  have ab := hq.area
  have key : dbl (wgt (tall qs) (stepsOf ps) ++ wgt (-(tall ps)) (stepsOf qs)) (wgt (tall qs) (stepsOf ps) ++ wgt (-(tall ps)) (stepsOf qs)) ≤ 0 := by
    refine dbl_nonpos (fun x hx => ?_) ?_ ?_
    · rcases List.mem_append.1 hx with hx | hx
      · obtain ⟨y, hy, rfl⟩ := List.mem_map.1 hx
        exact hp.rolls.ne0 y hy
      · obtain ⟨y, hy, rfl⟩ := List.mem_map.1 hx
        exact hq.rolls.ne0 y hy
    · unfold vecS
      rw [sumG_append, sumG_append, wgt_sum _ (fun x => x.1), wgt_sum _ (fun x => x.1), wgt_sum _ (fun x => x.2), wgt_sum _ (fun x => x.2)]
      have a1 := path_sum lin_fst ps
      have a2 := path_sum lin_snd ps
      have b1 := path_sum lin_fst qs
      have b2 := path_sum lin_snd qs
      rw [sumF_G] at a1 a2 b1 b2
      rw [a1, a2, b1, b2]
      simp
    · rw [List.filter_append, wgt_filter _ (fun x => !sinksB x.1 x.2), wgt_filter _ (fun x => !sinksB x.1 x.2), sumG_append, wgt_sum _ (fun x => x.2), wgt_sum _ (fun x => x.2)]
      show tall qs * tall ps + -(tall ps) * tall qs = 0
      grind
  rw [dbl_append_l, dbl_append_r, dbl_append_r, dbl_wgt, dbl_wgt (tall qs), dbl_wgt (-(tall ps)), dbl_wgt (-(tall ps)), area_dbl hp.rolls, area_dbl hq.rolls, dbl_comm (wgt 1 (stepsOf qs))] at key
  change _ + _ * mixZ ps qs + (_ * mixZ ps qs + _) ≤ 0 at key
  generalize tall qs = t at *
  generalize tall ps = u at *
  generalize areaZ ps = a at *
  generalize areaZ qs = b at *
  generalize mixZ ps qs = m at *
  have tu : 0 < t * u := Int.mul_pos ta tb
  have e1 : t * t * a + u * u * b ≤ t * u * m := by grind
  have x0 : 0 ≤ t * t * a := Int.mul_nonneg (sq_nn t) aa
  have y0 : 0 ≤ u * u * b := Int.mul_nonneg (sq_nn u) ab
  have m0 : 0 ≤ m := Classical.byContradiction fun n => by
    have := Int.mul_neg_of_pos_of_neg tu (show m < 0 by omega)
    omega
  refine ⟨m0, ?_⟩
  have s1 : (t * t * a + u * u * b) * (t * t * a + u * u * b) ≤ (t * u * m) * (t * u * m) := Int.mul_le_mul e1 e1 (by omega) (by omega)
  have s2 : 4 * (t * t * a) * (u * u * b) ≤ (t * t * a + u * u * b) * (t * t * a + u * u * b) := by
    have := sq_nn (t * t * a - u * u * b)
    grind
  have s3 : (t * u * (t * u)) * (4 * a * b) ≤ (t * u * (t * u)) * (m * m) := by grind
  exact Int.le_of_mul_le_mul_left s3 (Int.mul_pos tu tu)
end Go.Proofs.Ytbdppephmlkbaaa

namespace Go.Proofs.Ytbdppephmlkbaaa
open Go.RowKit
/-- the same direction, told -/
def sdB (a b : Pt) : Bool := !ltB a b && !ltB b a
theorem sdB_iff (a b : Pt) : sdB a b = true ↔ SameD a b := by
  unfold sdB SameD
  rw [Bool.and_eq_true, Bool.not_eq_true', Bool.not_eq_true', ← ltB_iff, ← ltB_iff, Bool.not_eq_true, Bool.not_eq_true]
theorem sd_cong {a b r : Pt} (ha : a ≠ (0, 0)) (hb : b ≠ (0, 0)) (hr : r ≠ (0, 0)) (h : SameD a b) : sdB a r = sdB b r := by
  rw [Bool.eq_iff_iff, sdB_iff, sdB_iff]
  exact ⟨fun k => SameD.trans hb ha hr h.symm k, fun k => SameD.trans ha hb hr h k⟩
theorem sd_cong_r {a b r : Pt} (ha : a ≠ (0, 0)) (hb : b ≠ (0, 0)) (hr : r ≠ (0, 0)) (h : SameD a b) : sdB r a = sdB r b := by
  rw [Bool.eq_iff_iff, sdB_iff, sdB_iff]
  exact ⟨fun k => SameD.trans hr ha hb k h, fun k => SameD.trans hr hb ha k h.symm⟩
theorem runs_class {f : Pt → Int} (hf : Lin f) {p : Pt → Bool} (hp : ∀ a b, a ≠ (0, 0) → b ≠ (0, 0) → SameD a b → p a = p b) : ∀ l, (∀ x ∈ l, x ≠ (0, 0)) → sumF f ((runs l).filter p) = sumF f (l.filter p)
  | [], _ => rfl
  | [d], _ => rfl
  | d :: e :: l, h0 => by
    have h1 : ∀ x ∈ e :: l, x ≠ (0, 0) := fun x hx => h0 x (List.mem_cons_of_mem _ hx)
    have ih := runs_class hf hp (e :: l) h1
    obtain ⟨h, t, e1, e2, e3⟩ := runs_cons e l h1
    have hd := h0 d (by simp)
    have he := h0 e (by simp)
    unfold runs
    split
    · rename_i hs
      have k := SameD.trans hd he e3 ((angP_zero _ _).1 hs) e2
      have k2 := same_add hd e3 k
      have q1 : p (addP h d) = p d := (hp _ _ hd k2.2 k2.1).symm
      have q2 : p h = p d := (hp _ _ hd e3 k).symm
      rw [e1] at ih ⊢
      simp only [addHead]
      cases hb : p d with
      | true =>
        rw [List.filter_cons_of_pos (by simpa using q1.trans hb), List.filter_cons_of_pos (l := e :: l) (by simpa using hb)]
        rw [List.filter_cons_of_pos (by simpa using q2.trans hb)] at ih
        have := hf h d
        simp only [sumF] at ih ⊢
        omega
      | false =>
        rw [List.filter_cons_of_neg (by simp [q1, hb]), List.filter_cons_of_neg (l := e :: l) (by simp [hb])]
        rw [List.filter_cons_of_neg (by simp [q2, hb])] at ih
        exact ih
    · cases hb : p d with
      | true =>
        rw [List.filter_cons_of_pos (by simpa using hb), List.filter_cons_of_pos (l := e :: l) (by simpa using hb)]
        simp only [sumF, ih]
      | false =>
        rw [List.filter_cons_of_neg (by simp [hb]), List.filter_cons_of_neg (l := e :: l) (by simp [hb])]
        exact ih
theorem lt_not_same {a b : Pt} (h : ltA a b) : ¬ SameD a b := fun k => k.1 h
theorem strict_one {f : Pt → Int} : ∀ {l : List Pt}, l.Pairwise ltA → ∀ x ∈ l, sumF f (l.filter fun y => sdB y x) = f x
  | [], _, x, hx => by simp at hx
  | z :: t, h, x, hx => by
    obtain ⟨h1, h2⟩ := List.pairwise_cons.1 h
    rcases List.mem_cons.1 hx with rfl | hx
    · have e : t.filter (fun y => sdB y x) = [] := by
        rw [List.filter_eq_nil_iff]
        intro y hy k
        exact lt_not_same (h1 y hy) ((sdB_iff _ _).1 k).symm
      rw [List.filter_cons_of_pos (by rw [sdB_iff]; exact SameD.refl x), e]
      simp [sumF]
    · rw [List.filter_cons_of_neg (p := fun y => sdB y x) (fun k => lt_not_same (h1 x hx) ((sdB_iff _ _).1 k))]
      exact strict_one h2 x hx
theorem strict_eq : ∀ {l m : List Pt}, l.Pairwise ltA → m.Pairwise ltA → (∀ x ∈ l, x ≠ (0, 0)) → (∀ x, x ∈ l ↔ x ∈ m) → l = m
  | [], m, _, _, _, h => by
    cases m with
    | nil => rfl
    | cons y m => have := (h y).2 (by simp); simp at this
  | x :: l, [], _, _, _, h => by have := (h x).1 (by simp); simp at this
  | x :: l, y :: m, hl, hm, h0, h => by
    obtain ⟨l1, l2⟩ := List.pairwise_cons.1 hl
    obtain ⟨m1, m2⟩ := List.pairwise_cons.1 hm
    have hxy : x = y := by
      rcases List.mem_cons.1 ((h x).1 (by simp)) with e | hx
      · exact e
      · rcases List.mem_cons.1 ((h y).2 (by simp)) with e | hy
        · exact e.symm
        · exact absurd (ltA_trans (h0 x (by simp)) (h0 y (List.mem_cons_of_mem _ hy)) (h0 x (by simp)) (l1 y hy) (m1 x hx)) (ltA_irrefl x)
    subst hxy
    have : l = m := strict_eq l2 m2 (fun z hz => h0 z (List.mem_cons_of_mem _ hz)) fun z => by
      constructor
      · intro hz
        rcases List.mem_cons.1 ((h z).1 (List.mem_cons_of_mem _ hz)) with e | hz2
        · subst e; exact absurd (l1 z hz) (ltA_irrefl z)
        · exact hz2
      · intro hz
        rcases List.mem_cons.1 ((h z).2 (List.mem_cons_of_mem _ hz)) with e | hz2
        · subst e; exact absurd (m1 z hz) (ltA_irrefl z)
        · exact hz2
    rw [this]
/-- the same steps, but for how each direction is parted -/
structure Eqv (l m : List Pt) : Prop where
  sum : ∀ f, Lin f → ∀ r, r ≠ (0, 0) → sumF f (l.filter fun y => sdB y r) = sumF f (m.filter fun y => sdB y r)
  to : ∀ d ∈ l, ∃ e ∈ m, SameD d e
  back : ∀ d ∈ m, ∃ e ∈ l, SameD d e
theorem Eqv.perm {l m : List Pt} (h : l.Perm m) : Eqv l m :=
  ⟨fun _ _ _ _ => sumF_perm (h.filter _), fun d hd => ⟨d, h.mem_iff.1 hd, SameD.refl d⟩, fun d hd => ⟨d, h.mem_iff.2 hd, SameD.refl d⟩⟩
theorem Eqv.symm {l m : List Pt} (h : Eqv l m) : Eqv m l := ⟨fun f hf r hr => (h.sum f hf r hr).symm, h.back, h.to⟩
theorem Eqv.trans {l m n : List Pt} (h0 : ∀ x ∈ l, x ≠ (0, 0)) (h1 : ∀ x ∈ m, x ≠ (0, 0)) (h2 : ∀ x ∈ n, x ≠ (0, 0)) (h : Eqv l m) (k : Eqv m n) : Eqv l n :=
  ⟨fun f hf r hr => (h.sum f hf r hr).trans (k.sum f hf r hr), fun d hd => by
    obtain ⟨e, he, s⟩ := h.to d hd
    obtain ⟨g, hg, t⟩ := k.to e he
    exact ⟨g, hg, SameD.trans (h0 d hd) (h1 e he) (h2 g hg) s t⟩, fun d hd => by
    obtain ⟨e, he, s⟩ := k.back d hd
    obtain ⟨g, hg, t⟩ := h.back e he
    exact ⟨g, hg, SameD.trans (h2 d hd) (h1 e he) (h0 g hg) s t⟩⟩
theorem Eqv.runs {l : List Pt} (h0 : ∀ x ∈ l, x ≠ (0, 0)) : Eqv (runs l) l :=
  ⟨fun _ hf _ hr => runs_class hf (fun _ _ ha hb h => sd_cong ha hb hr h) l h0, fun x hx => by
    obtain ⟨_, d, hd, s⟩ := runs_mem l h0 x hx
    exact ⟨d, hd, s.symm⟩, fun d hd => mem_runs l h0 d hd⟩
theorem Eqv.append {l l' m m' : List Pt} (h : Eqv l l') (k : Eqv m m') : Eqv (l ++ m) (l' ++ m') :=
  ⟨fun f hf r hr => by rw [List.filter_append, List.filter_append, sumF_append, sumF_append, h.sum f hf r hr, k.sum f hf r hr], fun d hd => by
    rcases List.mem_append.1 hd with hd | hd
    · obtain ⟨e, he, s⟩ := h.to d hd; exact ⟨e, List.mem_append_left _ he, s⟩
    · obtain ⟨e, he, s⟩ := k.to d hd; exact ⟨e, List.mem_append_right _ he, s⟩, fun d hd => by
    rcases List.mem_append.1 hd with hd | hd
    · obtain ⟨e, he, s⟩ := h.back d hd; exact ⟨e, List.mem_append_left _ he, s⟩
    · obtain ⟨e, he, s⟩ := k.back d hd; exact ⟨e, List.mem_append_right _ he, s⟩⟩
theorem Eqv.mem {l m : List Pt} (hl : l.Pairwise ltA) (hm : m.Pairwise ltA) (h0 : ∀ x ∈ l, x ≠ (0, 0)) (h1 : ∀ x ∈ m, x ≠ (0, 0)) (h : Eqv l m) : ∀ x ∈ l, x ∈ m := by
  intro x hx
  obtain ⟨y, hy, s⟩ := h.to x hx
  have key : ∀ f, Lin f → f x = f y := fun f hf => by
    rw [← strict_one (f := f) hl x hx, ← strict_one (f := f) hm y hy, h.sum f hf x (h0 x hx)]
    congr 1
    refine List.filter_congr fun z hz => ?_
    exact sd_cong_r (h0 x hx) (h1 y hy) (h1 z hz) s
  rw [pt_ext (key _ lin_fst) (key _ lin_snd)]
  exact hy
/-- equal steps, sorted, have equal runs -/
theorem runs_eq {l m : List Pt} (h0 : ∀ x ∈ l, x ≠ (0, 0)) (h1 : ∀ x ∈ m, x ≠ (0, 0)) (hl : l.Pairwise fun a b => ¬ ltA b a) (hm : m.Pairwise fun a b => ¬ ltA b a) (h : Eqv l m) : runs l = runs m := by
  have r0 : ∀ x ∈ runs l, x ≠ (0, 0) := fun x hx => (runs_mem l h0 x hx).1
  have r1 : ∀ x ∈ runs m, x ≠ (0, 0) := fun x hx => (runs_mem m h1 x hx).1
  have e : Eqv (runs l) (runs m) := Eqv.trans r0 h0 r1 (.runs h0) (Eqv.trans h0 h1 r1 h (Eqv.runs h1).symm)
  have sl := runs_strict l h0 hl
  have sm := runs_strict m h1 hm
  exact strict_eq sl sm r0 fun x => ⟨e.mem sl sm r0 r1 x, e.symm.mem sm sl r1 r0 x⟩
theorem Sorted.swap {ps qs ds : List Pt} (h : Sorted ps qs ds) : Sorted qs ps ds := ⟨h.1.trans List.perm_append_comm, h.2⟩
theorem addP_comm (a b : Pt) : addP a b = addP b a := by unfold addP; simp only [Prod.mk.injEq]; omega
/-- Sum is commutative -/
theorem sum_comm {ps qs ds es : List Pt} (h : Merged ps qs ds) (k : Merged qs ps es) : sumP ps qs ds = sumP qs ps es := by
  rw [Merged.sum_eq, Merged.sum_eq, addP_comm, runs_eq h.ne0 k.ne0 h.s.2 k.s.2 (.perm (h.s.1.trans (k.s.swap.1).symm))]
theorem runs_some {ps qs ds : List Pt} (h : Merged ps qs ds) : 0 < (runs ds).length := by
  obtain ⟨d, l, e⟩ : ∃ d l, ds = d :: l := by
    cases hd : ds with
    | nil =>
      have := h.s.1.length_eq
      rw [hd, List.length_append, stepsOf_length] at this
      have h1 := h.p.some
      simp only [List.length_nil] at this
      omega
    | cons d l => exact ⟨d, l, rfl⟩
  obtain ⟨x, t, e2, _⟩ := runs_cons d l (by rw [← e]; exact h.ne0)
  rw [e, e2]; simp
theorem sum_first {ps qs ds : List Pt} (h : Merged ps qs ds) : fromP (sumP ps qs ds) 0 = addP (fromP qs 0) (fromP ps 0) := by
  have hn := runs_some h
  rw [Merged.sum_eq]
  cases hr : runs ds with
  | nil => rw [hr] at hn; simp at hn
  | cons d l => rfl
/-- Sum is associative -/
theorem sum_assoc {ps qs rs ds us vs ws : List Pt} (h1 : Merged ps qs ds) (h2 : Merged qs rs us) (h3 : Merged (sumP ps qs ds) rs vs) (h4 : Merged ps (sumP qs rs us) ws) :
    sumP (sumP ps qs ds) rs vs = sumP ps (sumP qs rs us) ws := by
  have p0 := h1.p.ne0
  have q0 := h1.q.ne0
  have r0 := h2.q.ne0
  have E : Eqv vs ws := by
    have a1 : Eqv vs (runs ds ++ stepsOf rs) := by rw [← h1.steps]; exact .perm h3.s.1
    have a2 : Eqv (runs ds ++ stepsOf rs) (ds ++ stepsOf rs) := .append (.runs h1.ne0) (.perm (.refl _))
    have a3 : Eqv (ds ++ stepsOf rs) (stepsOf ps ++ stepsOf qs ++ stepsOf rs) := .perm (h1.s.1.append_right _)
    have b1 : Eqv (stepsOf ps ++ runs us) ws := by rw [← h2.steps]; exact .perm h4.s.1.symm
    have b2 : Eqv (stepsOf ps ++ us) (stepsOf ps ++ runs us) := .append (.perm (.refl _)) (Eqv.runs h2.ne0).symm
    have b3 : Eqv (stepsOf ps ++ stepsOf qs ++ stepsOf rs) (stepsOf ps ++ us) := .perm (by rw [List.append_assoc]; exact (h2.s.1.symm).append_left _)
    have n1 : ∀ x ∈ runs ds ++ stepsOf rs, x ≠ (0, 0) := fun x hx => by
      rcases List.mem_append.1 hx with hx | hx
      · exact h1.rne0 x hx
      · exact r0 x hx
    have n2 : ∀ x ∈ ds ++ stepsOf rs, x ≠ (0, 0) := fun x hx => by
      rcases List.mem_append.1 hx with hx | hx
      · exact h1.ne0 x hx
      · exact r0 x hx
    have n3 : ∀ x ∈ stepsOf ps ++ stepsOf qs ++ stepsOf rs, x ≠ (0, 0) := fun x hx => by
      rcases List.mem_append.1 hx with hx | hx
      · rcases List.mem_append.1 hx with hx | hx
        · exact p0 x hx
        · exact q0 x hx
      · exact r0 x hx
    have n4 : ∀ x ∈ stepsOf ps ++ us, x ≠ (0, 0) := fun x hx => by
      rcases List.mem_append.1 hx with hx | hx
      · exact p0 x hx
      · exact h2.ne0 x hx
    have n5 : ∀ x ∈ stepsOf ps ++ runs us, x ≠ (0, 0) := fun x hx => by
      rcases List.mem_append.1 hx with hx | hx
      · exact p0 x hx
      · exact h2.rne0 x hx
    exact Eqv.trans h3.ne0 n1 h4.ne0 a1 (Eqv.trans n1 n2 h4.ne0 a2 (Eqv.trans n2 n3 h4.ne0 a3 (Eqv.trans n3 n4 h4.ne0 b3 (Eqv.trans n4 n5 h4.ne0 b2 b1))))
  rw [Merged.sum_eq (sumP ps qs ds), Merged.sum_eq ps (sumP qs rs us), sum_first h1, sum_first h2, runs_eq h3.ne0 h4.ne0 h3.s.2 h4.s.2 E]
  congr 1
  unfold addP
  simp only [Prod.mk.injEq]
  omega
/-- what Extreme returns is additive -/
theorem ext_hi {ps : List Pt} (h : Rolls ps) {d : Pt} (hd : d ≠ (0, 0)) : (extK ps d ps.length).1 = hiP ps (-d.2, d.1) := by
  have hr : ((-d.2, d.1) : Pt) ≠ (0, 0) := fun e => hd (by
    have e1 := congrArg Prod.fst e
    have e2 := congrArg Prod.snd e
    simp only at e1 e2
    exact pt_ext e2 (by simp only; omega))
  have hrt : rt (-d.2, d.1) = d := by unfold rt; exact Prod.ext rfl (by simp)
  obtain ⟨h1, j, hj, _, h2⟩ := ext_spec (d := d) h.some ps.length
  have h2 := h2 (Nat.le_refl _)
  obtain ⟨i, hi, e⟩ := hi_at h hr
  have g1 := h1 i hi
  have g2 := hi_le h hr hj
  rw [← dot_rt, hrt] at e g2
  omega
theorem ext_sum {ps qs ds : List Pt} (h : Merged ps qs ds) (k : Rolls (sumP ps qs ds)) {d : Pt} (hd : d ≠ (0, 0)) : (extK (sumP ps qs ds) d (sumP ps qs ds).length).1 = (extK ps d ps.length).1 + (extK qs d qs.length).1 := by
  have hr : ((-d.2, d.1) : Pt) ≠ (0, 0) := fun e => hd (by
    have e1 := congrArg Prod.fst e
    have e2 := congrArg Prod.snd e
    simp only at e1 e2
    exact pt_ext e2 (by simp only; omega))
  rw [ext_hi k hd, ext_hi h.p hd, ext_hi h.q hd, h.hi hr]
/-- a beginning of a polygon's steps leads to one of its vertices -/
theorem take_vertex {ps : List Pt} (h : Rolls ps) {k : Nat} (hk : k ≤ ps.length) : ∃ i, i < ps.length ∧ ∀ f, Lin f → f (fromP ps 0) + sumF f ((stepsOf ps).take k) = f (fromP ps i) := by
  by_cases hkn : k = ps.length
  · refine ⟨0, h.some, fun f hf => ?_⟩
    rw [hkn, ← stepsOf_length, List.take_length, path_sum hf]
    omega
  · exact ⟨k, by omega, fun f hf => (path_get hf ps k (by omega)).symm⟩
/-- each vertex of a sum is the sum of two vertices -/
theorem sum_vertex {ps qs ds : List Pt} (h : Merged ps qs ds) {k : Nat} (hk : k < (runs ds).length) : ∃ i j, i < ps.length ∧ j < qs.length ∧ fromP (sumP ps qs ds) k = addP (fromP qs j) (fromP ps i) := by
  have hr := h.rne0 _ (from_mem hk)
  obtain ⟨a, ha, e1⟩ := filter_take hr h.p.ne0 h.p.sorted
  obtain ⟨b, hb, e2⟩ := filter_take hr h.q.ne0 h.q.sorted
  rw [stepsOf_length] at ha hb
  obtain ⟨i, hi, f1⟩ := take_vertex h.p ha
  obtain ⟨j, hj, f2⟩ := take_vertex h.q hb
  refine ⟨i, j, hi, hj, ?_⟩
  have key : ∀ f, Lin f → f (fromP (sumP ps qs ds) k) = f (fromP qs j) + f (fromP ps i) := fun f hf => by
    have g := path_get hf (sumP ps qs ds) k (by rw [Merged.slen]; exact hk)
    rw [h.steps, ← filter_at h.strict hk, runs_filter hf hr ds h.ne0, sumF_perm (h.s.1.filter _), List.filter_append, sumF_append, e1, e2, sum_first h, hf] at g
    have := f1 f hf
    have := f2 f hf
    omega
  refine pt_ext ?_ ?_
  · have := key _ lin_fst; unfold addP; simp only; omega
  · have := key _ lin_snd; unfold addP; simp only; omega
def boxP (B : Int) (ps : List Pt) : Prop := ∀ q ∈ ps, -B ≤ q.1 ∧ q.1 ≤ B ∧ -B ≤ q.2 ∧ q.2 ≤ B
theorem sum_box {ps qs ds : List Pt} (h : Merged ps qs ds) (hp : nearP ps) (hq : nearP qs) : boxP 2000 (sumP ps qs ds) := by
  intro x hx
  obtain ⟨k, hk, rfl⟩ := mem_from hx
  rw [Merged.slen] at hk
  obtain ⟨i, j, hi, hj, e⟩ := sum_vertex h hk
  rw [e]
  have a := hp _ (from_mem hi)
  have b := hq _ (from_mem hj)
  unfold addP
  simp only
  omega
theorem sum_len {ps qs ds : List Pt} (h : Sorted ps qs ds) : (sumP ps qs ds).length ≤ ps.length + qs.length := by
  have e := walk_len (addP (fromP qs 0) (fromP ps 0)) ds ds.length
  have l := h.1.length_eq
  rw [List.length_append, stepsOf_length, stepsOf_length] at l
  unfold sumP
  omega
theorem mul_box {a b A B : Int} (h1 : -A ≤ a ∧ a ≤ A) (h2 : -B ≤ b ∧ b ≤ B) : -(A * B) ≤ a * b ∧ a * b ≤ A * B := by
  have e1 : 0 ≤ (A - a) * (B - b) := Int.mul_nonneg (by omega) (by omega)
  have e2 : 0 ≤ (A + a) * (B + b) := Int.mul_nonneg (by omega) (by omega)
  have e3 : 0 ≤ (A - a) * (B + b) := Int.mul_nonneg (by omega) (by omega)
  have e4 : 0 ≤ (A + a) * (B - b) := Int.mul_nonneg (by omega) (by omega)
  constructor <;> grind
theorem area_box {ps : List Pt} {B : Int} (h : boxP B ps) : ∀ k : Nat, k ≤ ps.length → -(4 * B * B * (k : Int)) ≤ areaK ps k ∧ areaK ps k ≤ 4 * B * B * (k : Int) := by
  intro k
  induction k with
  | zero => intro _; simp [areaK]
  | succ k ih =>
    intro hk
    have i := ih (by omega)
    have a := h (fromP ps k) (from_mem (by omega))
    have b := h (toP ps k) (from_mem (l := ps) (k := (k + 1) % ps.length) (Nat.mod_lt _ (by omega)))
    have m1 := mul_box (a := (fromP ps k).1) (b := (stepP ps k).2) (A := B) (B := 2 * B) (by omega) (by unfold stepP; simp only; omega)
    have m2 := mul_box (a := (fromP ps k).2) (b := (stepP ps k).1) (A := B) (B := 2 * B) (by omega) (by unfold stepP; simp only; omega)
    have e : 4 * B * B * ((k + 1 : Nat) : Int) = 4 * B * B * (k : Int) + 2 * (B * (2 * B)) := by
      rw [Int.natCast_add, Int.mul_add]; grind
    rw [e]
    simp only [areaK]
    unfold crossK crossZ
    omega
theorem area_near {ps : List Pt} (h : nearP ps) (hn : ps.length ≤ 32) : -128000000 ≤ areaZ ps ∧ areaZ ps ≤ 128000000 := by
  have := area_box (B := 1000) (fun q hq => h q hq) ps.length (Nat.le_refl _)
  unfold areaZ
  omega
theorem area_far {ps : List Pt} (h : boxP 2000 ps) (hn : ps.length ≤ 64) : -1024000000 ≤ areaZ ps ∧ areaZ ps ≤ 1024000000 := by
  have := area_box (B := 2000) h ps.length (Nat.le_refl _)
  unfold areaZ
  omega
end Go.Proofs.Ytbdppephmlkbaaa
