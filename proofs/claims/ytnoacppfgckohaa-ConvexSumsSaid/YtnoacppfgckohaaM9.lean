import Derived.Test.YtnoacppfgckohaaM7
namespace Go.Proofs.Ytnoacppfgckohaa
open Go.RowKit
/-- the sum of a number over a list of anything -/
def sumG {α : Type} (f : α → Int) : List α → Int
  | [] => 0
  | x :: l => f x + sumG f l
section
variable {α β : Type}
theorem sumG_append (f : α → Int) : ∀ a b, sumG f (a ++ b) = sumG f a + sumG f b := by
  intro a b
  induction a with
  | nil => simp [sumG]
  | cons x l ih => simp only [List.cons_append, sumG, ih]; omega
theorem sumG_perm {f : α → Int} {a b : List α} (h : a.Perm b) : sumG f a = sumG f b := by
  induction h with
  | nil => rfl
  | cons x _ ih => simp only [sumG, ih]
  | swap x y l => simp only [sumG]; omega
  | trans _ _ h1 h2 => rw [h1, h2]
theorem sumG_add (f g : α → Int) : ∀ l, sumG (fun x => f x + g x) l = sumG f l + sumG g l
  | [] => rfl
  | x :: l => by simp only [sumG, sumG_add f g l]; omega
theorem sumG_mul (c : Int) (f : α → Int) : ∀ l, sumG (fun x => c * f x) l = c * sumG f l
  | [] => by simp [sumG]
  | x :: l => by simp only [sumG, sumG_mul c f l, Int.mul_add]
theorem sumG_congr {f g : α → Int} : ∀ {l : List α}, (∀ x ∈ l, f x = g x) → sumG f l = sumG g l
  | [], _ => rfl
  | x :: l, h => by simp only [sumG, h x (by simp), sumG_congr fun y hy => h y (List.mem_cons_of_mem _ hy)]
theorem sumG_map (f : β → Int) (g : α → β) : ∀ l, sumG f (l.map g) = sumG (fun x => f (g x)) l
  | [] => rfl
  | x :: l => by simp only [List.map_cons, sumG, sumG_map f g l]
end
theorem sumF_G (f : Pt → Int) : ∀ l, sumF f l = sumG f l
  | [] => rfl
  | x :: l => by simp only [sumF, sumG, sumF_G f l]
/-- the area between a walk and zero -/
def wa (a : Pt) : List Pt → Int
  | [] => 0
  | d :: l => crossP a d + wa (addP d a) l
/-- the sum over all pairs, in their order -/
def pw : List Pt → Int
  | [] => 0
  | d :: l => sumG (fun x => crossP d x) l + pw l
theorem wa_pw : ∀ (l : List Pt) (a : Pt), wa a l = sumG (fun x => crossP a x) l + pw l
  | [], _ => rfl
  | d :: l, a => by
    simp only [wa, pw, sumG, wa_pw l]
    have : sumG (fun x => crossP (addP d a) x) l = sumG (fun x => crossP d x) l + sumG (fun x => crossP a x) l := by
      rw [← sumG_add]
      exact sumG_congr fun x _ => lin_right x d a
    omega
theorem wa_runs : ∀ (l : List Pt) (a : Pt), (∀ x ∈ l, x ≠ (0, 0)) → wa a (runs l) = wa a l
  | [], _, _ => rfl
  | [d], _, _ => rfl
  | d :: e :: l, a, h0 => by
    have h1 : ∀ x ∈ e :: l, x ≠ (0, 0) := fun x hx => h0 x (List.mem_cons_of_mem _ hx)
    obtain ⟨h, t, e1, e2, e3⟩ := runs_cons e l h1
    have hd := h0 d (by simp)
    have he := h0 e (by simp)
    have ih := wa_runs (e :: l) (addP d a) h1
    unfold runs
    split
    · rename_i hs
      have k := SameD.trans hd he e3 ((angP_zero _ _).1 hs) e2
      have hz := ((same_iff _ _).1 k).2
      show _ = crossP a d + wa (addP d a) (e :: l)
      rw [← ih, e1]
      simp only [addHead, wa]
      have q1 : addP (addP h d) a = addP h (addP d a) := starts_add h d a
      have q2 : crossP a (addP h d) = crossP a h + crossP a d := lin_left a h d
      have q3 : crossP (addP d a) h = crossP d h + crossP a h := lin_right h d a
      rw [q1]
      omega
    · simp only [wa] at ih ⊢
      omega
theorem area_wa (ps : List Pt) : areaZ ps = wa (fromP ps 0) (stepsOf ps) := by
  have key : ∀ k, k < ps.length → areaK ps k + wa (fromP ps k) ((stepsOf ps).drop k) = wa (fromP ps 0) (stepsOf ps) := by
    intro k
    have hd : ∀ k, k < ps.length → (stepsOf ps).drop k = stepP ps k :: (stepsOf ps).drop (k + 1) := fun k hk => by
      rw [List.drop_eq_getElem_cons (by rw [stepsOf_length]; exact hk)]
      simp [stepsOf]
    induction k with
    | zero => intro _; simp [areaK]
    | succ k ih =>
      intro hk
      have h1 := ih (by omega)
      rw [hd k (by omega)] at h1
      have h3 : addP (stepP ps k) (fromP ps k) = fromP ps (k + 1) := by
        have : toP ps k = fromP ps (k + 1) := by unfold toP fromP; rw [Nat.mod_eq_of_lt hk]
        rw [← this]
        unfold addP stepP; exact Prod.ext (by simp only; omega) (by simp only; omega)
      simp only [wa, h3] at h1
      simp only [areaK]
      unfold crossK crossP at *
      omega
  by_cases h0 : ps.length = 0
  · have : ps = [] := List.eq_nil_of_length_eq_zero h0
    subst this
    rfl
  · obtain ⟨m, hm⟩ : ∃ m, ps.length = m + 1 := ⟨ps.length - 1, by omega⟩
    have h1 := key m (by omega)
    have hd : (stepsOf ps).drop m = [stepP ps m] := by
      rw [List.drop_eq_getElem_cons (by rw [stepsOf_length]; omega), List.drop_eq_nil_of_le (by rw [stepsOf_length]; omega)]
      simp [stepsOf]
    rw [hd] at h1
    rw [← h1]
    unfold areaZ
    rw [hm]
    simp only [areaK, wa]
    unfold crossK crossP
    omega
theorem area_pw (ps : List Pt) : areaZ ps = pw (stepsOf ps) := by
  rw [area_wa, wa_pw]
  have := path_sum (lin_left (fromP ps 0)) ps
  rw [sumF_G] at this
  omega
theorem area_sum {ps qs ds : List Pt} (h : Merged ps qs ds) : areaZ (sumP ps qs ds) = pw ds := by
  rw [area_wa, h.steps, wa_runs _ _ h.ne0, wa_pw]
  have e : sumG (fun x => crossP (fromP (sumP ps qs ds) 0) x) ds = 0 := by
    rw [← sumF_G, ← runs_sum (f := fun x => crossP (fromP (sumP ps qs ds) 0) x) (lin_left (fromP (sumP ps qs ds) 0))]
    exact h.sum0 (lin_left (fromP (sumP ps qs ds) 0))
  omega
/-- the cross product in the order of angles -/
def cP (e f : Pt) : Int := if ltB f e = true then crossP f e else crossP e f
theorem cP_of {e f : Pt} (h : ¬ ltA f e) : cP e f = crossP e f := by
  unfold cP
  rw [if_neg (fun k => h ((ltB_iff _ _).1 k))]
theorem cP_comm (e f : Pt) : cP e f = cP f e := by
  by_cases h1 : ltA f e
  · have h2 : ¬ ltA e f := fun k => by
      have a1 := cross_anti e f
      rcases h1 with ⟨p1, p2⟩ | ⟨p1, p2⟩
      · rcases k with ⟨q1, q2⟩ | ⟨q1, q2⟩
        · rw [p1] at q2; cases q2
        · rw [p1, p2] at q1; cases q1
      · rcases k with ⟨q1, q2⟩ | ⟨q1, q2⟩
        · rw [q1, q2] at p1; cases p1
        · unfold crossP at a1; omega
    rw [cP_of h2]
    unfold cP
    rw [if_pos ((ltB_iff _ _).2 h1)]
  · by_cases h2 : ltA e f
    · rw [cP_of h1]
      unfold cP
      rw [if_pos ((ltB_iff _ _).2 h2)]
    · rw [cP_of h1, cP_of h2]
      have := ((same_iff e f).1 ⟨h2, h1⟩).2
      have := cross_anti e f
      omega
/-- weighted steps, and the form that they make -/
def sc (x : Int × Pt) : Pt := (x.1 * x.2.1, x.1 * x.2.2)
def cW (x y : Int × Pt) : Int := x.1 * y.1 * cP x.2 y.2
theorem cW_comm (x y : Int × Pt) : cW x y = cW y x := by unfold cW; rw [cP_comm, Int.mul_comm x.1]
def dbl (L M : List (Int × Pt)) : Int := sumG (fun x => sumG (fun y => cW x y) M) L
theorem dbl_cons_r (L : List (Int × Pt)) (y : Int × Pt) (M : List (Int × Pt)) : dbl L (y :: M) = sumG (fun x => cW x y) L + dbl L M := by
  unfold dbl
  rw [← sumG_add]
  rfl
theorem dbl_append_l (L L' M : List (Int × Pt)) : dbl (L ++ L') M = dbl L M + dbl L' M := sumG_append _ _ _
theorem dbl_comm : ∀ L M, dbl L M = dbl M L
  | [], M => by
    have : ∀ M : List (Int × Pt), dbl M [] = 0 := fun M => by
      induction M with
      | nil => rfl
      | cons y M ih => show 0 + dbl M [] = 0; omega
    rw [this]; rfl
  | x :: L, M => by
    rw [dbl_cons_r, ← dbl_comm L M]
    show sumG (fun y => cW x y) M + dbl L M = _
    rw [sumG_congr fun y _ => cW_comm x y]
theorem dbl_append_r (L M M' : List (Int × Pt)) : dbl L (M ++ M') = dbl L M + dbl L M' := by
  rw [dbl_comm, dbl_append_l, dbl_comm M, dbl_comm M']
theorem dbl_perm_l {L L' : List (Int × Pt)} (M : List (Int × Pt)) (h : L.Perm L') : dbl L M = dbl L' M := sumG_perm h
theorem dbl_perm {L L' : List (Int × Pt)} (h : L.Perm L') : dbl L L = dbl L' L' := by
  rw [dbl_perm_l L h, dbl_comm, dbl_perm_l L' h]
def SortW (L : List (Int × Pt)) : Prop := L.Pairwise fun a b => ¬ ltA b.2 a.2
theorem cross_sc (x y : Int × Pt) : crossP (sc x) (sc y) = x.1 * y.1 * crossP x.2 y.2 := by unfold crossP crossZ sc; grind
theorem dbl_pw : ∀ {L : List (Int × Pt)}, SortW L → dbl L L = 2 * pw (L.map sc)
  | [], _ => rfl
  | x :: L, h => by
    obtain ⟨h1, h2⟩ := List.pairwise_cons.1 h
    have ih := dbl_pw (L := L) h2
    rw [dbl_cons_r]
    have e1 : sumG (fun y => cW x y) L = sumG (fun y => crossP (sc x) y) (L.map sc) := by
      rw [sumG_map]
      exact sumG_congr fun y hy => by unfold cW; rw [cP_of (h1 y hy), cross_sc]
    have e2 : cW x x = 0 := by unfold cW; rw [cP_of (ltA_irrefl _), cross_self]; simp
    have e3 : sumG (fun y => cW y x) L = sumG (fun y => cW x y) L := sumG_congr fun y _ => cW_comm y x
    simp only [List.map_cons, pw, sumG, dbl] at ih ⊢
    rw [e3, e1, e2, ih]
    omega
end Go.Proofs.Ytnoacppfgckohaa
