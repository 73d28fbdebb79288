import Derived.Test.YtnoacppfgckohaaM4
namespace Go.Proofs.Ytnoacppfgckohaa
open Go.RowKit
/-- the same direction -/
def SameD (a b : Pt) : Prop := ¬ ltA a b ∧ ¬ ltA b a
theorem angP_zero (a b : Pt) : angP a b = 0 ↔ SameD a b := by
  unfold SameD
  rw [← angP_neg, ← angP_neg]
  unfold angP angleZ
  have e : crossZ b.1 b.2 a.1 a.2 = -crossZ a.1 a.2 b.1 b.2 := by
    unfold crossZ; rw [Int.mul_comm b.1, Int.mul_comm b.2]; omega
  rw [e]
  generalize crossZ a.1 a.2 b.1 b.2 = c
  cases sinksB a.1 a.2 <;> cases sinksB b.1 b.2 <;> simp [sgnZ] <;> (try split) <;> (try split) <;> (try split) <;> (try split) <;> simp_all <;> omega
theorem SameD.symm {a b : Pt} (h : SameD a b) : SameD b a := ⟨h.2, h.1⟩
theorem SameD.refl (a : Pt) : SameD a a := ⟨ltA_irrefl a, ltA_irrefl a⟩
theorem SameD.trans {a b c : Pt} (ha : a ≠ (0, 0)) (hb : b ≠ (0, 0)) (hc : c ≠ (0, 0)) (h : SameD a b) (k : SameD b c) : SameD a c :=
  ⟨ltA_ntrans ha hb hc h.1 k.1, ltA_ntrans hc hb ha k.2 h.2⟩
theorem same_iff (a b : Pt) : SameD a b ↔ sinksB a.1 a.2 = sinksB b.1 b.2 ∧ crossP a b = 0 := by
  have e : crossZ b.1 b.2 a.1 a.2 = -crossZ a.1 a.2 b.1 b.2 := by
    unfold crossZ; rw [Int.mul_comm b.1, Int.mul_comm b.2]; omega
  unfold SameD ltA crossP
  rw [e]
  cases sinksB a.1 a.2 <;> cases sinksB b.1 b.2 <;> simp <;> omega
theorem lt_left {a b c : Pt} (ha : a ≠ (0, 0)) (hb : b ≠ (0, 0)) (hc : c ≠ (0, 0)) (h : ¬ ltA b a) (k : ltA b c) : ltA a c :=
  Classical.byContradiction fun n => ltA_ntrans hb ha hc h n k
theorem lt_right {a b c : Pt} (ha : a ≠ (0, 0)) (hb : b ≠ (0, 0)) (hc : c ≠ (0, 0)) (h : ltA a b) (k : ¬ ltA c b) : ltA a c :=
  Classical.byContradiction fun n => ltA_ntrans ha hc hb n k h
theorem same_lt {a b r : Pt} (ha : a ≠ (0, 0)) (hb : b ≠ (0, 0)) (hr : r ≠ (0, 0)) (h : SameD a b) : ltB a r = ltB b r := by
  rw [Bool.eq_iff_iff, ltB_iff, ltB_iff]
  exact ⟨fun k => lt_left hb ha hr h.1 k, fun k => lt_left ha hb hr h.2 k⟩
theorem same_add {a b : Pt} (ha : a ≠ (0, 0)) (hb : b ≠ (0, 0)) (h : SameD a b) : SameD a (addP b a) ∧ addP b a ≠ (0, 0) := by
  rw [same_iff] at h
  obtain ⟨h1, h2⟩ := h
  have hc : crossP a (addP b a) = 0 := by
    unfold crossP crossZ addP at *
    simp only [Int.mul_add]
    have := Int.mul_comm a.1 a.2
    omega
  cases hs : sinksB a.1 a.2 with
  | false =>
    have u1 := up_of hs ha
    have u2 := up_of (h1.symm.trans hs) hb
    refine ⟨(same_iff _ _).2 ⟨?_, hc⟩, fun e => ?_⟩
    · rw [hs]
      unfold sinksB
      symm
      rw [Bool.or_eq_false_iff, Bool.and_eq_false_iff]
      exact ⟨decide_eq_false (by simp only [addP]; omega), by
        by_cases h : (addP b a).2 = 0
        · exact .inr (decide_eq_false (by simp only [addP] at h ⊢; omega))
        · exact .inl (decide_eq_false h)⟩
    · simp [addP, Prod.ext_iff] at e; omega
  | true =>
    have u1 := down_of hs
    have u2 := down_of (h1.symm.trans hs)
    refine ⟨(same_iff _ _).2 ⟨?_, hc⟩, fun e => ?_⟩
    · rw [hs]
      unfold sinksB
      symm
      rw [Bool.or_eq_true, Bool.and_eq_true]
      by_cases h : (addP b a).2 < 0
      · exact .inl (decide_eq_true h)
      · exact .inr ⟨decide_eq_true (by simp only [addP] at h ⊢; omega), decide_eq_true (by simp only [addP] at h ⊢; omega)⟩
    · simp [addP, Prod.ext_iff] at e; omega
/-- neighbours of the same direction added up -/
def addHead (d : Pt) : List Pt → List Pt
  | [] => [d]
  | h :: t => addP h d :: t
def runs : List Pt → List Pt
  | [] => []
  | [d] => [d]
  | d :: e :: l => if angP d e = 0 then addHead d (runs (e :: l)) else d :: runs (e :: l)
/-- where each step of a walk begins -/
def starts (a : Pt) : List Pt → List Pt
  | [] => []
  | d :: l => a :: starts (addP d a) l
theorem runs_cons (d : Pt) : ∀ l : List Pt, (∀ x ∈ d :: l, x ≠ (0, 0)) → ∃ h t, runs (d :: l) = h :: t ∧ SameD d h ∧ h ≠ (0, 0) := by
  intro l
  induction l generalizing d with
  | nil => intro h0; exact ⟨d, [], rfl, SameD.refl d, h0 d (by simp)⟩
  | cons e l ih =>
    intro h0
    obtain ⟨h, t, e1, e2, e3⟩ := ih e fun x hx => h0 x (List.mem_cons_of_mem _ hx)
    have hd := h0 d (by simp)
    have he := h0 e (by simp)
    unfold runs
    split
    · rename_i hs
      have k := SameD.trans hd he e3 ((angP_zero _ _).1 hs) e2
      rw [e1]
      exact ⟨_, _, rfl, (same_add hd e3 k).1, (same_add hd e3 k).2⟩
    · exact ⟨_, _, rfl, SameD.refl d, hd⟩
theorem runs_sum {f : Pt → Int} (hf : ∀ a b, f (addP a b) = f a + f b) : ∀ l, sumF f (runs l) = sumF f l
  | [] => rfl
  | [d] => rfl
  | d :: e :: l => by
    have ih := runs_sum hf (e :: l)
    unfold runs
    split
    · show _ = f d + sumF f (e :: l)
      rw [← ih]
      cases runs (e :: l) with
      | nil => rfl
      | cons h t => simp only [addHead, sumF, hf]; omega
    · simp only [sumF] at ih ⊢; omega
theorem runs_filter {f : Pt → Int} (hf : ∀ a b, f (addP a b) = f a + f b) {r : Pt} (hr : r ≠ (0, 0)) : ∀ l, (∀ x ∈ l, x ≠ (0, 0)) → sumF f ((runs l).filter fun x => ltB x r) = sumF f (l.filter fun x => ltB x r)
  | [], _ => rfl
  | [d], _ => rfl
  | d :: e :: l, h0 => by
    have h1 : ∀ x ∈ e :: l, x ≠ (0, 0) := fun x hx => h0 x (List.mem_cons_of_mem _ hx)
    have ih := runs_filter hf hr (e :: l) h1
    obtain ⟨h, t, e1, e2, e3⟩ := runs_cons e l h1
    have hd := h0 d (by simp)
    have he := h0 e (by simp)
    unfold runs
    split
    · rename_i hs
      have k := SameD.trans hd he e3 ((angP_zero _ _).1 hs) e2
      have k2 := same_add hd e3 k
      have q1 : ltB (addP h d) r = ltB d r := (same_lt hd k2.2 hr k2.1).symm
      have q2 : ltB h r = ltB d r := (same_lt hd e3 hr k).symm
      rw [e1] at ih ⊢
      simp only [addHead]
      cases hb : ltB d r with
      | true =>
        rw [List.filter_cons_of_pos (by simpa using q1.trans hb), List.filter_cons_of_pos (l := e :: l) (by simpa using hb)]
        rw [List.filter_cons_of_pos (by simpa using q2.trans hb)] at ih
        simp only [sumF, hf] at ih ⊢
        omega
      | false =>
        rw [List.filter_cons_of_neg (by simp [q1, hb]), List.filter_cons_of_neg (l := e :: l) (by simp [hb])]
        rw [List.filter_cons_of_neg (by simp [q2, hb])] at ih
        exact ih
    · cases hb : ltB d r with
      | true =>
        rw [List.filter_cons_of_pos (by simpa using hb), List.filter_cons_of_pos (l := e :: l) (by simpa using hb)]
        simp only [sumF, ih]
      | false =>
        rw [List.filter_cons_of_neg (by simp [hb]), List.filter_cons_of_neg (l := e :: l) (by simp [hb])]
        exact ih
theorem runs_mem : ∀ l, (∀ x ∈ l, x ≠ (0, 0)) → ∀ x ∈ runs l, x ≠ (0, 0) ∧ ∃ d ∈ l, SameD d x
  | [], _, _, hx => by simp [runs] at hx
  | [d], h0, x, hx => by
    simp [runs] at hx
    subst hx
    exact ⟨h0 x (by simp), x, by simp, SameD.refl x⟩
  | d :: e :: l, h0, x, hx => by
    have h1 : ∀ x ∈ e :: l, x ≠ (0, 0) := fun x hx => h0 x (List.mem_cons_of_mem _ hx)
    have ih := runs_mem (e :: l) h1
    obtain ⟨h, t, e1, e2, e3⟩ := runs_cons e l h1
    have hd := h0 d (by simp)
    have he := h0 e (by simp)
    unfold runs at hx
    split at hx
    · rename_i hs
      have k := SameD.trans hd he e3 ((angP_zero _ _).1 hs) e2
      have k2 := same_add hd e3 k
      rw [e1] at hx ih
      rcases List.mem_cons.1 hx with rfl | hx
      · exact ⟨k2.2, d, by simp, k2.1⟩
      · obtain ⟨g0, y, hy, g⟩ := ih x (by simp [hx])
        exact ⟨g0, y, List.mem_cons_of_mem _ hy, g⟩
    · rcases List.mem_cons.1 hx with rfl | hx
      · exact ⟨hd, x, by simp, SameD.refl x⟩
      · obtain ⟨g0, y, hy, g⟩ := ih x hx
        exact ⟨g0, y, List.mem_cons_of_mem _ hy, g⟩
theorem mem_runs : ∀ l, (∀ x ∈ l, x ≠ (0, 0)) → ∀ d ∈ l, ∃ x ∈ runs l, SameD d x
  | [], _, _, hx => by simp at hx
  | [d], _, x, hx => by
    simp at hx
    subst hx
    exact ⟨x, by simp [runs], SameD.refl x⟩
  | d :: e :: l, h0, x, hx => by
    have h1 : ∀ x ∈ e :: l, x ≠ (0, 0) := fun x hx => h0 x (List.mem_cons_of_mem _ hx)
    have ih := mem_runs (e :: l) h1
    obtain ⟨h, t, e1, e2, e3⟩ := runs_cons e l h1
    have hd := h0 d (by simp)
    have he := h0 e (by simp)
    unfold runs
    split
    · rename_i hs
      have k := SameD.trans hd he e3 ((angP_zero _ _).1 hs) e2
      have k2 := same_add hd e3 k
      rw [e1] at ih ⊢
      rcases List.mem_cons.1 hx with rfl | hx2
      · exact ⟨_, List.mem_cons_self, k2.1⟩
      · obtain ⟨y, hy, g⟩ := ih x hx2
        rcases List.mem_cons.1 hy with rfl | hy
        · refine ⟨_, List.mem_cons_self, ?_⟩
          exact SameD.trans (h1 x hx2) e3 k2.2 g (SameD.trans e3 hd k2.2 k.symm k2.1)
        · exact ⟨y, List.mem_cons_of_mem _ hy, g⟩
    · rcases List.mem_cons.1 hx with rfl | hx
      · exact ⟨x, by simp, SameD.refl x⟩
      · obtain ⟨y, hy, g⟩ := ih x hx
        exact ⟨y, List.mem_cons_of_mem _ hy, g⟩
theorem runs_strict : ∀ l, (∀ x ∈ l, x ≠ (0, 0)) → l.Pairwise (fun a b => ¬ ltA b a) → (runs l).Pairwise ltA
  | [], _, _ => List.Pairwise.nil
  | [d], _, _ => by simp [runs]
  | d :: e :: l, h0, hs => by
    have h1 : ∀ x ∈ e :: l, x ≠ (0, 0) := fun x hx => h0 x (List.mem_cons_of_mem _ hx)
    rw [List.pairwise_cons] at hs
    have ih := runs_strict (e :: l) h1 hs.2
    obtain ⟨h, t, e1, e2, e3⟩ := runs_cons e l h1
    have hd := h0 d (by simp)
    have he := h0 e (by simp)
    unfold runs
    split
    · rename_i hz
      have k := SameD.trans hd he e3 ((angP_zero _ _).1 hz) e2
      have k2 := same_add hd e3 k
      have hm := runs_mem (e :: l) h1
      rw [e1] at ih hm ⊢
      rw [List.pairwise_cons] at ih
      refine List.pairwise_cons.2 ⟨fun x hx => ?_, ih.2⟩
      have q := SameD.trans e3 hd k2.2 k.symm k2.1
      exact lt_left k2.2 e3 (hm x (by simp [hx])).1 q.1 (ih.1 x hx)
    · rename_i hz
      refine List.pairwise_cons.2 ⟨fun x hx => ?_, ih⟩
      obtain ⟨x0, y, hy, hsm⟩ := runs_mem (e :: l) h1 x hx
      have de : ltA d e := Classical.byContradiction fun n => hz ((angP_zero _ _).2 ⟨n, hs.1 e (by simp)⟩)
      have dy : ltA d y := by
        rcases List.mem_cons.1 hy with rfl | hy2
        · exact de
        · rw [List.pairwise_cons] at hs
          exact lt_right hd he (h1 y hy) de (hs.2.1 y hy2)
      exact lt_right hd (h1 y hy) x0 dy hsm.2
/-- the walk of sum is the one along the runs -/
def walkL (a : Pt) : Option Pt → List Pt → List Pt
  | _, [] => []
  | none, d :: l => a :: walkL (addP d a) (some d) l
  | some p, d :: l => if angP p d ≠ 0 then a :: walkL (addP d a) (some d) l else walkL (addP d a) (some d) l
theorem starts_add (h p a : Pt) : addP (addP h p) a = addP h (addP p a) := by
  unfold addP; simp only [Prod.mk.injEq]; omega
theorem walkL_runs : ∀ (l : List Pt) (p a : Pt), walkL (addP p a) (some p) l = (starts a (runs (p :: l))).tail
  | [], p, a => rfl
  | e :: l, p, a => by
    have ih := walkL_runs l e (addP p a)
    unfold walkL runs
    rw [ih]
    have hne : ∃ h t, runs (e :: l) = h :: t := by
      cases l with
      | nil => exact ⟨e, [], rfl⟩
      | cons f l =>
        unfold runs
        split
        · cases runs (f :: l) with
          | nil => exact ⟨_, _, rfl⟩
          | cons h t => exact ⟨_, _, rfl⟩
        · exact ⟨_, _, rfl⟩
    obtain ⟨h, t, ht⟩ := hne
    by_cases hz : angP p e = 0
    · rw [if_neg (by simpa using hz), if_pos hz, ht]
      simp only [starts, addHead, List.tail_cons, starts_add]
    · rw [if_pos hz, if_neg hz, ht]
      simp only [starts, List.tail_cons]
theorem walkK_L (a : Pt) (ds : List Pt) : ∀ k, k ≤ ds.length → (walkK a ds k).1 ++ walkL (walkK a ds k).2 (if k = 0 then none else some (fromP ds (k - 1))) (ds.drop k) = walkL a none ds := by
  intro k
  induction k with
  | zero => intro _; simp [walkK]
  | succ k ih =>
    intro hk
    have h1 := ih (by omega)
    rw [← h1]
    have hd : ds.drop k = fromP ds k :: ds.drop (k + 1) := by
      rw [List.drop_eq_getElem_cons (by omega)]
      unfold fromP
      rw [List.getD_eq_getElem?_getD, List.getElem?_eq_getElem (by omega)]
      rfl
    rw [hd]
    simp only [walkK, Nat.add_sub_cancel]
    rw [if_neg (show ¬ k + 1 = 0 by omega)]
    by_cases h0 : k = 0
    · subst h0
      simp [walkL]
    · rw [if_neg h0]
      by_cases hz : angP (fromP ds (k - 1)) (fromP ds k) = 0
      · simp [walkL, h0, hz]
      · simp [walkL, h0, hz]
theorem walk_runs (a : Pt) (ds : List Pt) : (walkK a ds ds.length).1 = starts a (runs ds) := by
  have h := walkK_L a ds ds.length (Nat.le_refl _)
  rw [List.drop_length] at h
  have e : ∀ b o, walkL b o [] = [] := fun b o => by cases o <;> rfl
  rw [e, List.append_nil] at h
  rw [h]
  cases ds with
  | nil => rfl
  | cons d l =>
    simp only [walkL]
    rw [walkL_runs]
    cases l with
    | nil => rfl
    | cons f l =>
      unfold runs
      split
      · cases runs (f :: l) with
        | nil => rfl
        | cons h t => rfl
      · rfl
end Go.Proofs.Ytnoacppfgckohaa
