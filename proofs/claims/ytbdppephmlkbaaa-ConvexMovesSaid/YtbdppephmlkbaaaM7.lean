import Derived.Test.YtbdppephmlkbaaaV19
import Derived.Test.YtbdppephmlkbaaaM3
namespace Go.Proofs.Ytbdppephmlkbaaa
open Go.RowKit
/-- the sum of a number over a list -/
def sumF (f : Pt → Int) : List Pt → Int
  | [] => 0
  | x :: l => f x + sumF f l
theorem sumF_append (f : Pt → Int) : ∀ a b, sumF f (a ++ b) = sumF f a + sumF f b := by
  intro a b
  induction a with
  | nil => simp [sumF]
  | cons x l ih => simp only [List.cons_append, sumF, ih]; omega
theorem sumF_perm {f : Pt → Int} {a b : List Pt} (h : a.Perm b) : sumF f a = sumF f b := by
  induction h with
  | nil => rfl
  | cons x _ ih => simp only [sumF, ih]
  | swap x y l => simp only [sumF]; omega
  | trans _ _ h1 h2 => rw [h1, h2]
theorem sumF_filter (f : Pt → Int) (p : Pt → Bool) : ∀ l, sumF f l = sumF f (l.filter p) + sumF f (l.filter fun x => !p x) := by
  intro l
  induction l with
  | nil => rfl
  | cons x l ih =>
    cases h : p x <;> simp only [List.filter_cons, h, sumF, ih, Bool.not_true, Bool.not_false, if_true, Bool.false_eq_true, if_false] <;> omega
theorem sumF_pos {f : Pt → Int} : ∀ {l : List Pt}, (∀ x ∈ l, 0 ≤ f x) → 0 ≤ sumF f l
  | [], _ => Int.le_refl _
  | x :: l, h => by
    have h1 := h x (by simp)
    have h2 := sumF_pos (l := l) fun y hy => h y (by simp [hy])
    simp only [sumF]; omega
theorem sumF_neg {f : Pt → Int} : ∀ {l : List Pt}, (∀ x ∈ l, f x ≤ 0) → sumF f l ≤ 0
  | [], _ => Int.le_refl _
  | x :: l, h => by
    have h1 := h x (by simp)
    have h2 := sumF_neg (l := l) fun y hy => h y (by simp [hy])
    simp only [sumF]; omega
def ltB (a b : Pt) : Bool := decide (angP a b < 0)
theorem ltB_iff (a b : Pt) : ltB a b = true ↔ ltA a b := by unfold ltB; rw [decide_eq_true_eq]; exact angP_neg a b
theorem neg_ne {r : Pt} (h : r ≠ (0, 0)) : negP r ≠ (0, 0) := fun e => h (by rw [← neg_neg' r, e]; rfl)
theorem cross_neg2 (x r : Pt) : crossP x (negP r) = -crossP x r := by
  unfold crossP crossZ negP; simp only [Int.mul_neg]; omega
section
variable {x r : Pt}
theorem up_low (hr : sinksB r.1 r.2 = false) (h : ltA x r) : 0 ≤ crossP x r := by
  rcases h with ⟨_, h⟩ | ⟨_, h⟩
  · rw [hr] at h; cases h
  · unfold crossP; omega
theorem up_far (hr0 : r ≠ (0, 0)) (hr : sinksB r.1 r.2 = false) (h : ¬ ltA x (negP r)) : 0 ≤ crossP x r ∧ ¬ ltA x r := by
  have hn := sinks_neg hr0
  rw [hr] at hn
  cases hs : sinksB x.1 x.2 with
  | false => exact absurd (.inl ⟨hs, hn⟩) h
  | true =>
    constructor
    · have h2 := cross_neg2 x r
      have : ¬ 0 < crossP x (negP r) := fun k => h (.inr ⟨by rw [hs, hn]; rfl, k⟩)
      omega
    · rintro (⟨k, _⟩ | ⟨k, _⟩)
      · rw [hs] at k; cases k
      · rw [hs, hr] at k; cases k
theorem up_mid (hr : sinksB r.1 r.2 = false) (h1 : ltA x (negP r)) (h2 : ¬ ltA x r) : crossP x r ≤ 0 := by
  cases hs : sinksB x.1 x.2 with
  | false =>
    have : ¬ 0 < crossP x r := fun k => h2 (.inr ⟨by rw [hs, hr], k⟩)
    omega
  | true =>
    rcases h1 with ⟨k, _⟩ | ⟨_, k⟩
    · rw [hs] at k; cases k
    · have := cross_neg2 x r
      unfold crossP at *; omega
theorem down_low (hr0 : r ≠ (0, 0)) (hr : sinksB r.1 r.2 = true) (h : ltA x (negP r)) : crossP x r ≤ 0 := by
  have hn := sinks_neg hr0
  rw [hr] at hn
  have h2 := cross_neg2 x r
  rcases h with ⟨_, k⟩ | ⟨_, k⟩
  · rw [hn] at k; cases k
  · unfold crossP at *; omega
theorem down_mid (hr0 : r ≠ (0, 0)) (hr : sinksB r.1 r.2 = true) (h : ltA x r) (h1 : ¬ ltA x (negP r)) : 0 ≤ crossP x r := by
  have hn := sinks_neg hr0
  rw [hr] at hn
  cases hs : sinksB x.1 x.2 with
  | false =>
    have h2 := cross_neg2 x r
    have : ¬ 0 < crossP x (negP r) := fun k => h1 (.inr ⟨by rw [hs, hn]; rfl, k⟩)
    omega
  | true =>
    rcases h with ⟨k, _⟩ | ⟨_, k⟩
    · rw [hs] at k; cases k
    · unfold crossP; omega
theorem down_far (hr : sinksB r.1 r.2 = true) (h : ¬ ltA x r) : crossP x r ≤ 0 := by
  cases hs : sinksB x.1 x.2 with
  | false => exact absurd (.inl ⟨hs, hr⟩) h
  | true =>
    have : ¬ 0 < crossP x r := fun k => h (.inr ⟨by rw [hs, hr], k⟩)
    omega
end
/-- no beginning of a closed walk that is sorted by angle goes further to the right of a direction than what comes before that direction -/
theorem supp {l : List Pt} {r : Pt} (h0 : ∀ x ∈ l, x ≠ (0, 0)) (hr : r ≠ (0, 0)) (hs : l.Pairwise fun a b => ¬ ltA b a) (hz : sumF (fun x => crossP x r) l = 0) (k : Nat) :
    sumF (fun x => crossP x r) (l.take k) ≤ sumF (fun x => crossP x r) (l.filter fun x => ltB x r) := by
  have hl := (List.take_append_drop k l).symm
  have hA : ∀ x ∈ l.take k, x ∈ l := fun x hx => List.mem_of_mem_take hx
  have hB : ∀ x ∈ l.drop k, x ∈ l := fun x hx => List.mem_of_mem_drop hx
  have hAB : ∀ x ∈ l.take k, ∀ y ∈ l.drop k, ¬ ltA y x := by
    rw [hl, List.pairwise_append] at hs
    exact hs.2.2
  have e0 : sumF (fun x => crossP x r) (l.take k) + sumF (fun x => crossP x r) (l.drop k) = 0 := by rw [← sumF_append, ← hl]; exact hz
  have e1 := sumF_filter (fun x => crossP x r) (fun x => ltB x r) (l.take k)
  have e2 : sumF (fun x => crossP x r) (l.filter fun x => ltB x r) = sumF (fun x => crossP x r) ((l.take k).filter fun x => ltB x r) + sumF (fun x => crossP x r) ((l.drop k).filter fun x => ltB x r) := by
    rw [← sumF_append, ← List.filter_append, ← hl]
  have e3 := sumF_filter (fun x => crossP x r) (fun x => ltB x r) l
  have up : ∀ x ∈ l.take k, ¬ ltA x (negP r) → ∀ y ∈ l.drop k, ¬ ltA y (negP r) := fun x hx h y hy =>
    ltA_ntrans (h0 y (hB y hy)) (h0 x (hA x hx)) (neg_ne hr) (hAB x hx y hy) h
  cases hd : sinksB r.1 r.2 with
  | false =>
    have p2 : 0 ≤ sumF (fun x => crossP x r) ((l.drop k).filter fun x => ltB x r) := sumF_pos fun x hx => up_low hd ((ltB_iff _ _).1 (List.mem_filter.1 hx).2)
    by_cases hE : ∃ x ∈ l.take k, ¬ ltA x (negP r)
    · obtain ⟨x, hx, hxn⟩ := hE
      have p1 : 0 ≤ sumF (fun x => crossP x r) (l.drop k) := sumF_pos fun y hy => (up_far hr hd (up x hx hxn y hy)).1
      have p3 : 0 ≤ sumF (fun x => crossP x r) (l.filter fun x => ltB x r) := sumF_pos fun x hx => up_low hd ((ltB_iff _ _).1 (List.mem_filter.1 hx).2)
      omega
    · have p1 : sumF (fun x => crossP x r) ((l.take k).filter fun x => !ltB x r) ≤ 0 := sumF_neg fun x hx => by
        obtain ⟨h1, h2⟩ := List.mem_filter.1 hx
        simp only [Bool.not_eq_true'] at h2
        refine up_mid hd (Classical.byContradiction fun h => hE ⟨x, h1, h⟩) fun h => ?_
        rw [(ltB_iff _ _).2 h] at h2; cases h2
      omega
  | true =>
    have far : ∀ l' : List Pt, sumF (fun x => crossP x r) (l'.filter fun x => !ltB x r) ≤ 0 := fun l' => sumF_neg fun x hx => by
      have h2 := (List.mem_filter.1 hx).2
      simp only [Bool.not_eq_true'] at h2
      refine down_far hd fun h => ?_
      rw [(ltB_iff _ _).2 h] at h2; cases h2
    by_cases hE : ∃ x ∈ l.take k, ¬ ltA x (negP r)
    · obtain ⟨x, hx, hxn⟩ := hE
      have p1 : 0 ≤ sumF (fun x => crossP x r) ((l.drop k).filter fun x => ltB x r) := sumF_pos fun y hy => by
        obtain ⟨h1, h2⟩ := List.mem_filter.1 hy
        exact down_mid hr hd ((ltB_iff _ _).1 h2) (up x hx hxn y h1)
      have := far (l.take k)
      omega
    · have p1 : sumF (fun x => crossP x r) (l.take k) ≤ 0 := sumF_neg fun x hx => down_low hr hd (Classical.byContradiction fun h => hE ⟨x, hx, h⟩)
      have := far l
      omega
/-- what comes before a direction is a beginning of the walk -/
theorem filter_take {r : Pt} (hr : r ≠ (0, 0)) : ∀ {l : List Pt}, (∀ x ∈ l, x ≠ (0, 0)) → l.Pairwise (fun a b => ¬ ltA b a) → ∃ k, k ≤ l.length ∧ l.filter (fun x => ltB x r) = l.take k
  | [], _, _ => ⟨0, Nat.le_refl _, rfl⟩
  | x :: l, h0, hs => by
    rw [List.pairwise_cons] at hs
    obtain ⟨k, hk, e⟩ := filter_take hr (l := l) (fun y hy => h0 y (by simp [hy])) hs.2
    cases h : ltB x r with
    | true => exact ⟨k + 1, by simpa using hk, by rw [List.filter_cons_of_pos (by simpa using h), e]; rfl⟩
    | false =>
      refine ⟨0, Nat.zero_le _, ?_⟩
      have hx : ¬ ltA x r := fun k => by rw [(ltB_iff _ _).2 k] at h; cases h
      rw [List.take_zero, List.filter_eq_nil_iff]
      intro y hy k
      rcases List.mem_cons.1 hy with rfl | hy
      · exact hx ((ltB_iff _ _).1 k)
      · exact ltA_ntrans (h0 y (by simp [hy])) (h0 x (by simp)) hr (hs.1 y hy) hx ((ltB_iff _ _).1 k)
end Go.Proofs.Ytbdppephmlkbaaa

namespace Go.Proofs.Ytbdppephmlkbaaa
open Go.RowKit
/-- the same direction -/
def SameD (a b : Pt) : Prop := ¬ ltA a b ∧ ¬ ltA b a
theorem angP_zero (a b : Pt) : angP a b = 0 ↔ SameD a b := by
  unfold SameD
  rw [← angP_neg, ← angP_neg]
  unfold angP angleZ
  have e : crossZ b.1 b.2 a.1 a.2 = -crossZ a.1 a.2 b.1 b.2 := by
    unfold crossZ; rw [Int.mul_comm b.1, Int.mul_comm b.2]; omega
  rw [e]
  generalize crossZ a.1 a.2 b.1 b.2 = c
  cases sinksB a.1 a.2 <;> cases sinksB b.1 b.2 <;> simp [sgnZ] <;> (try split) <;> (try split) <;> (try split) <;> (try split) <;> simp_all <;> omega
theorem SameD.symm {a b : Pt} (h : SameD a b) : SameD b a := ⟨h.2, h.1⟩
theorem SameD.refl (a : Pt) : SameD a a := ⟨ltA_irrefl a, ltA_irrefl a⟩
theorem SameD.trans {a b c : Pt} (ha : a ≠ (0, 0)) (hb : b ≠ (0, 0)) (hc : c ≠ (0, 0)) (h : SameD a b) (k : SameD b c) : SameD a c :=
  ⟨ltA_ntrans ha hb hc h.1 k.1, ltA_ntrans hc hb ha k.2 h.2⟩
theorem same_iff (a b : Pt) : SameD a b ↔ sinksB a.1 a.2 = sinksB b.1 b.2 ∧ crossP a b = 0 := by
  have e : crossZ b.1 b.2 a.1 a.2 = -crossZ a.1 a.2 b.1 b.2 := by
    unfold crossZ; rw [Int.mul_comm b.1, Int.mul_comm b.2]; omega
  unfold SameD ltA crossP
  rw [e]
  cases sinksB a.1 a.2 <;> cases sinksB b.1 b.2 <;> simp <;> omega
theorem lt_left {a b c : Pt} (ha : a ≠ (0, 0)) (hb : b ≠ (0, 0)) (hc : c ≠ (0, 0)) (h : ¬ ltA b a) (k : ltA b c) : ltA a c :=
  Classical.byContradiction fun n => ltA_ntrans hb ha hc h n k
theorem lt_right {a b c : Pt} (ha : a ≠ (0, 0)) (hb : b ≠ (0, 0)) (hc : c ≠ (0, 0)) (h : ltA a b) (k : ¬ ltA c b) : ltA a c :=
  Classical.byContradiction fun n => ltA_ntrans ha hc hb n k h
theorem same_lt {a b r : Pt} (ha : a ≠ (0, 0)) (hb : b ≠ (0, 0)) (hr : r ≠ (0, 0)) (h : SameD a b) : ltB a r = ltB b r := by
  rw [Bool.eq_iff_iff, ltB_iff, ltB_iff]
  exact ⟨fun k => lt_left hb ha hr h.1 k, fun k => lt_left ha hb hr h.2 k⟩
theorem same_add {a b : Pt} (ha : a ≠ (0, 0)) (hb : b ≠ (0, 0)) (h : SameD a b) : SameD a (addP b a) ∧ addP b a ≠ (0, 0) := by
  rw [same_iff] at h
  obtain ⟨h1, h2⟩ := h
  have hc : crossP a (addP b a) = 0 := by
    unfold crossP crossZ addP at *
    simp only [Int.mul_add]
    have := Int.mul_comm a.1 a.2
    omega
  cases hs : sinksB a.1 a.2 with
  | false =>
    have u1 := up_of hs ha
    have u2 := up_of (h1.symm.trans hs) hb
    refine ⟨(same_iff _ _).2 ⟨?_, hc⟩, fun e => ?_⟩
    · rw [hs]
      unfold sinksB
      symm
      rw [Bool.or_eq_false_iff, Bool.and_eq_false_iff]
      exact ⟨decide_eq_false (by simp only [addP]; omega), by
        by_cases h : (addP b a).2 = 0
        · exact .inr (decide_eq_false (by simp only [addP] at h ⊢; omega))
        · exact .inl (decide_eq_false h)⟩
    · simp [addP, Prod.ext_iff] at e; omega
  | true =>
    have u1 := down_of hs
    have u2 := down_of (h1.symm.trans hs)
    refine ⟨(same_iff _ _).2 ⟨?_, hc⟩, fun e => ?_⟩
    · rw [hs]
      unfold sinksB
      symm
      rw [Bool.or_eq_true, Bool.and_eq_true]
      by_cases h : (addP b a).2 < 0
      · exact .inl (decide_eq_true h)
      · exact .inr ⟨decide_eq_true (by simp only [addP] at h ⊢; omega), decide_eq_true (by simp only [addP] at h ⊢; omega)⟩
    · simp [addP, Prod.ext_iff] at e; omega
/-- neighbours of the same direction added up -/
def addHead (d : Pt) : List Pt → List Pt
  | [] => [d]
  | h :: t => addP h d :: t
def runs : List Pt → List Pt
  | [] => []
  | [d] => [d]
  | d :: e :: l => if angP d e = 0 then addHead d (runs (e :: l)) else d :: runs (e :: l)
/-- where each step of a walk begins -/
def starts (a : Pt) : List Pt → List Pt
  | [] => []
  | d :: l => a :: starts (addP d a) l
theorem runs_cons (d : Pt) : ∀ l : List Pt, (∀ x ∈ d :: l, x ≠ (0, 0)) → ∃ h t, runs (d :: l) = h :: t ∧ SameD d h ∧ h ≠ (0, 0) := by
  intro l
  induction l generalizing d with
  | nil => intro h0; exact ⟨d, [], rfl, SameD.refl d, h0 d (by simp)⟩
  | cons e l ih =>
    intro h0
    obtain ⟨h, t, e1, e2, e3⟩ := ih e fun x hx => h0 x (List.mem_cons_of_mem _ hx)
    have hd := h0 d (by simp)
    have he := h0 e (by simp)
    unfold runs
    split
    · rename_i hs
      have k := SameD.trans hd he e3 ((angP_zero _ _).1 hs) e2
      rw [e1]
      exact ⟨_, _, rfl, (same_add hd e3 k).1, (same_add hd e3 k).2⟩
    · exact ⟨_, _, rfl, SameD.refl d, hd⟩
theorem runs_sum {f : Pt → Int} (hf : ∀ a b, f (addP a b) = f a + f b) : ∀ l, sumF f (runs l) = sumF f l
  | [] => rfl
  | [d] => rfl
  | d :: e :: l => by
    have ih := runs_sum hf (e :: l)
    unfold runs
    split
    · show _ = f d + sumF f (e :: l)
      rw [← ih]
      cases runs (e :: l) with
      | nil => rfl
      | cons h t => simp only [addHead, sumF, hf]; omega
    · simp only [sumF] at ih ⊢; omega
theorem runs_filter {f : Pt → Int} (hf : ∀ a b, f (addP a b) = f a + f b) {r : Pt} (hr : r ≠ (0, 0)) : ∀ l, (∀ x ∈ l, x ≠ (0, 0)) → sumF f ((runs l).filter fun x => ltB x r) = sumF f (l.filter fun x => ltB x r)
  | [], _ => rfl
  | [d], _ => rfl
  | d :: e :: l, h0 => by
    have h1 : ∀ x ∈ e :: l, x ≠ (0, 0) := fun x hx => h0 x (List.mem_cons_of_mem _ hx)
    have ih := runs_filter hf hr (e :: l) h1
    obtain ⟨h, t, e1, e2, e3⟩ := runs_cons e l h1
    have hd := h0 d (by simp)
    have he := h0 e (by simp)
    unfold runs
    split
    · rename_i hs
      have k := SameD.trans hd he e3 ((angP_zero _ _).1 hs) e2
      have k2 := same_add hd e3 k
      have q1 : ltB (addP h d) r = ltB d r := (same_lt hd k2.2 hr k2.1).symm
      have q2 : ltB h r = ltB d r := (same_lt hd e3 hr k).symm
      rw [e1] at ih ⊢
      simp only [addHead]
      cases hb : ltB d r with
      | true =>
        rw [List.filter_cons_of_pos (by simpa using q1.trans hb), List.filter_cons_of_pos (l := e :: l) (by simpa using hb)]
        rw [List.filter_cons_of_pos (by simpa using q2.trans hb)] at ih
        simp only [sumF, hf] at ih ⊢
        omega
      | false =>
        rw [List.filter_cons_of_neg (by simp [q1, hb]), List.filter_cons_of_neg (l := e :: l) (by simp [hb])]
        rw [List.filter_cons_of_neg (by simp [q2, hb])] at ih
        exact ih
    · cases hb : ltB d r with
      | true =>
        rw [List.filter_cons_of_pos (by simpa using hb), List.filter_cons_of_pos (l := e :: l) (by simpa using hb)]
        simp only [sumF, ih]
      | false =>
        rw [List.filter_cons_of_neg (by simp [hb]), List.filter_cons_of_neg (l := e :: l) (by simp [hb])]
        exact ih
theorem runs_mem : ∀ l, (∀ x ∈ l, x ≠ (0, 0)) → ∀ x ∈ runs l, x ≠ (0, 0) ∧ ∃ d ∈ l, SameD d x
  | [], _, _, hx => by simp [runs] at hx
  | [d], h0, x, hx => by
    simp [runs] at hx
    subst hx
    exact ⟨h0 x (by simp), x, by simp, SameD.refl x⟩
  | d :: e :: l, h0, x, hx => by
    have h1 : ∀ x ∈ e :: l, x ≠ (0, 0) := fun x hx => h0 x (List.mem_cons_of_mem _ hx)
    have ih := runs_mem (e :: l) h1
    obtain ⟨h, t, e1, e2, e3⟩ := runs_cons e l h1
    have hd := h0 d (by simp)
    have he := h0 e (by simp)
    unfold runs at hx
    split at hx
    · rename_i hs
      have k := SameD.trans hd he e3 ((angP_zero _ _).1 hs) e2
      have k2 := same_add hd e3 k
      rw [e1] at hx ih
      rcases List.mem_cons.1 hx with rfl | hx
      · exact ⟨k2.2, d, by simp, k2.1⟩
      · obtain ⟨g0, y, hy, g⟩ := ih x (by simp [hx])
        exact ⟨g0, y, List.mem_cons_of_mem _ hy, g⟩
    · rcases List.mem_cons.1 hx with rfl | hx
      · exact ⟨hd, x, by simp, SameD.refl x⟩
      · obtain ⟨g0, y, hy, g⟩ := ih x hx
        exact ⟨g0, y, List.mem_cons_of_mem _ hy, g⟩
theorem mem_runs : ∀ l, (∀ x ∈ l, x ≠ (0, 0)) → ∀ d ∈ l, ∃ x ∈ runs l, SameD d x
  | [], _, _, hx => by simp at hx
  | [d], _, x, hx => by
    simp at hx
    subst hx
    exact ⟨x, by simp [runs], SameD.refl x⟩
  | d :: e :: l, h0, x, hx => by
    have h1 : ∀ x ∈ e :: l, x ≠ (0, 0) := fun x hx => h0 x (List.mem_cons_of_mem _ hx)
    have ih := mem_runs (e :: l) h1
    obtain ⟨h, t, e1, e2, e3⟩ := runs_cons e l h1
    have hd := h0 d (by simp)
    have he := h0 e (by simp)
    unfold runs
    split
    · rename_i hs
      have k := SameD.trans hd he e3 ((angP_zero _ _).1 hs) e2
      have k2 := same_add hd e3 k
      rw [e1] at ih ⊢
      rcases List.mem_cons.1 hx with rfl | hx2
      · exact ⟨_, List.mem_cons_self, k2.1⟩
      · obtain ⟨y, hy, g⟩ := ih x hx2
        rcases List.mem_cons.1 hy with rfl | hy
        · refine ⟨_, List.mem_cons_self, ?_⟩
          exact SameD.trans (h1 x hx2) e3 k2.2 g (SameD.trans e3 hd k2.2 k.symm k2.1)
        · exact ⟨y, List.mem_cons_of_mem _ hy, g⟩
    · rcases List.mem_cons.1 hx with rfl | hx
      · exact ⟨x, by simp, SameD.refl x⟩
      · obtain ⟨y, hy, g⟩ := ih x hx
        exact ⟨y, List.mem_cons_of_mem _ hy, g⟩
theorem runs_strict : ∀ l, (∀ x ∈ l, x ≠ (0, 0)) → l.Pairwise (fun a b => ¬ ltA b a) → (runs l).Pairwise ltA
  | [], _, _ => List.Pairwise.nil
  | [d], _, _ => by simp [runs]
  | d :: e :: l, h0, hs => by
    have h1 : ∀ x ∈ e :: l, x ≠ (0, 0) := fun x hx => h0 x (List.mem_cons_of_mem _ hx)
    rw [List.pairwise_cons] at hs
    have ih := runs_strict (e :: l) h1 hs.2
    obtain ⟨h, t, e1, e2, e3⟩ := runs_cons e l h1
    have hd := h0 d (by simp)
    have he := h0 e (by simp)
    unfold runs
    split
    · rename_i hz
      have k := SameD.trans hd he e3 ((angP_zero _ _).1 hz) e2
      have k2 := same_add hd e3 k
      have hm := runs_mem (e :: l) h1
      rw [e1] at ih hm ⊢
      rw [List.pairwise_cons] at ih
      refine List.pairwise_cons.2 ⟨fun x hx => ?_, ih.2⟩
      have q := SameD.trans e3 hd k2.2 k.symm k2.1
      exact lt_left k2.2 e3 (hm x (by simp [hx])).1 q.1 (ih.1 x hx)
    · rename_i hz
      refine List.pairwise_cons.2 ⟨fun x hx => ?_, ih⟩
      obtain ⟨x0, y, hy, hsm⟩ := runs_mem (e :: l) h1 x hx
      have de : ltA d e := Classical.byContradiction fun n => hz ((angP_zero _ _).2 ⟨n, hs.1 e (by simp)⟩)
      have dy : ltA d y := by
        rcases List.mem_cons.1 hy with rfl | hy2
        · exact de
        · rw [List.pairwise_cons] at hs
          exact lt_right hd he (h1 y hy) de (hs.2.1 y hy2)
      exact lt_right hd (h1 y hy) x0 dy hsm.2
/-- the walk of sum is the one along the runs -/
def walkL (a : Pt) : Option Pt → List Pt → List Pt
  | _, [] => []
  | none, d :: l => a :: walkL (addP d a) (some d) l
  | some p, d :: l => if angP p d ≠ 0 then a :: walkL (addP d a) (some d) l else walkL (addP d a) (some d) l
theorem starts_add (h p a : Pt) : addP (addP h p) a = addP h (addP p a) := by
  unfold addP; simp only [Prod.mk.injEq]; omega
theorem walkL_runs : ∀ (l : List Pt) (p a : Pt), walkL (addP p a) (some p) l = (starts a (runs (p :: l))).tail
  | [], p, a => rfl
  | e :: l, p, a => by
    have ih := walkL_runs l e (addP p a)
    unfold walkL runs
    rw [ih]
    have hne : ∃ h t, runs (e :: l) = h :: t := by
      cases l with
      | nil => exact ⟨e, [], rfl⟩
      | cons f l =>
        unfold runs
        split
        · cases runs (f :: l) with
          | nil => exact ⟨_, _, rfl⟩
          | cons h t => exact ⟨_, _, rfl⟩
        · exact ⟨_, _, rfl⟩
    obtain ⟨h, t, ht⟩ := hne
    by_cases hz : angP p e = 0
    · rw [if_neg (by simpa using hz), if_pos hz, ht]
      simp only [starts, addHead, List.tail_cons, starts_add]
    · rw [if_pos hz, if_neg hz, ht]
      simp only [starts, List.tail_cons]
theorem walkK_L (a : Pt) (ds : List Pt) : ∀ k, k ≤ ds.length → (walkK a ds k).1 ++ walkL (walkK a ds k).2 (if k = 0 then none else some (fromP ds (k - 1))) (ds.drop k) = walkL a none ds := by
  intro k
  induction k with
  | zero => intro _; simp [walkK]
  | succ k ih =>
    intro hk
    have h1 := ih (by omega)
    rw [← h1]
    have hd : ds.drop k = fromP ds k :: ds.drop (k + 1) := by
      rw [List.drop_eq_getElem_cons (by omega)]
      unfold fromP
      rw [List.getD_eq_getElem?_getD, List.getElem?_eq_getElem (by omega)]
      rfl
    rw [hd]
    simp only [walkK, Nat.add_sub_cancel]
    rw [if_neg (show ¬ k + 1 = 0 by omega)]
    by_cases h0 : k = 0
    · subst h0
      simp [walkL]
    · rw [if_neg h0]
      by_cases hz : angP (fromP ds (k - 1)) (fromP ds k) = 0
      · simp [walkL, h0, hz]
      · simp [walkL, h0, hz]
theorem walk_runs (a : Pt) (ds : List Pt) : (walkK a ds ds.length).1 = starts a (runs ds) := by
  have h := walkK_L a ds ds.length (Nat.le_refl _)
  rw [List.drop_length] at h
  have e : ∀ b o, walkL b o [] = [] := fun b o => by cases o <;> rfl
  rw [e, List.append_nil] at h
  rw [h]
  cases ds with
  | nil => rfl
  | cons d l =>
    simp only [walkL]
    rw [walkL_runs]
    cases l with
    | nil => rfl
    | cons f l =>
      unfold runs
      split
      · cases runs (f :: l) with
        | nil => rfl
        | cons h t => rfl
      · rfl
end Go.Proofs.Ytbdppephmlkbaaa

namespace Go.Proofs.Ytbdppephmlkbaaa
open Go.RowKit
def Lin (f : Pt → Int) : Prop := ∀ a b, f (addP a b) = f a + f b
theorem lin_fst : Lin fun x => x.1 := fun a b => by simp only [addP]; omega
theorem lin_snd : Lin fun x => x.2 := fun a b => by simp only [addP]; omega
theorem lin_left (u : Pt) : Lin fun x => crossP u x := fun a b => by simp only [crossP, crossZ, addP]; grind
theorem lin_right (u : Pt) : Lin fun x => crossP x u := fun a b => by simp only [crossP, crossZ, addP]; grind
theorem lin_lr {f : Pt → Int} (hf : Lin f) (ps : List Pt) (k : Nat) : f (toP ps k) = f (fromP ps k) + f (stepP ps k) := by
  have : toP ps k = addP (stepP ps k) (fromP ps k) := by
    unfold addP stepP; exact Prod.ext (by simp only; omega) (by simp only; omega)
  rw [this, hf]; omega
theorem take_steps (ps : List Pt) {k : Nat} (hk : k ≤ ps.length) : (stepsOf ps).take k = stepsTo ps k := by
  unfold stepsOf stepsTo
  rw [← List.map_take, List.take_range, Nat.min_eq_left hk]
theorem path_get {f : Pt → Int} (hf : Lin f) (ps : List Pt) : ∀ k, k < ps.length → f (fromP ps k) = f (fromP ps 0) + sumF f ((stepsOf ps).take k) := by
  intro k
  induction k with
  | zero => intro _; simp [sumF]
  | succ k ih =>
    intro hk
    have h1 := ih (by omega)
    rw [take_steps ps (by omega)] at h1 ⊢
    rw [stepsTo_succ, sumF_append]
    have h2 := lin_lr hf ps k
    have h3 : toP ps k = fromP ps (k + 1) := by unfold toP fromP; rw [Nat.mod_eq_of_lt hk]
    rw [h3] at h2
    simp only [sumF]
    omega
theorem path_sum {f : Pt → Int} (hf : Lin f) (ps : List Pt) : sumF f (stepsOf ps) = 0 := by
  by_cases h0 : ps.length = 0
  · have : stepsOf ps = [] := List.eq_nil_of_length_eq_zero (by rw [stepsOf_length, h0])
    rw [this]; rfl
  obtain ⟨m, hm⟩ : ∃ m, ps.length = m + 1 := ⟨ps.length - 1, by omega⟩
  have h1 := path_get hf ps m (by omega)
  have h2 := lin_lr hf ps m
  have h3 : toP ps m = fromP ps 0 := by unfold toP fromP; rw [← hm, Nat.mod_self]
  rw [take_steps ps (by omega)] at h1
  have h4 : stepsOf ps = stepsTo ps m ++ [stepP ps m] := by rw [← stepsTo_succ, ← hm]; rfl
  rw [h4, sumF_append]
  rw [h3] at h2
  simp only [sumF]
  omega
theorem starts_length : ∀ (a : Pt) (l : List Pt), (starts a l).length = l.length
  | _, [] => rfl
  | a, d :: l => by simp only [starts, List.length_cons, starts_length]
theorem starts_get {f : Pt → Int} (hf : Lin f) : ∀ (l : List Pt) (a : Pt) (k : Nat), k < l.length → f (fromP (starts a l) k) = f a + sumF f (l.take k)
  | [], _, _, h => by simp at h
  | d :: l, a, 0, _ => by show f a = f a + 0; omega
  | d :: l, a, k + 1, h => by
    have ih := starts_get hf l (addP d a) k (by simpa using h)
    show f (fromP (starts (addP d a) l) k) = _
    rw [ih, hf]
    simp only [List.take_succ_cons, sumF]
    omega
theorem pt_ext {a b : Pt} (h1 : a.1 = b.1) (h2 : a.2 = b.2) : a = b := Prod.ext h1 h2
theorem take_one {l : List Pt} {k : Nat} (h : k < l.length) : l.take (k + 1) = l.take k ++ [fromP l k] := by
  rw [List.take_add_one, List.getElem?_eq_getElem h]
  unfold fromP
  rw [List.getD_eq_getElem?_getD, List.getElem?_eq_getElem h]
  rfl
theorem starts_step {a : Pt} {l : List Pt} (h1 : sumF (fun x => x.1) l = 0) (h2 : sumF (fun x => x.2) l = 0) {k : Nat} (hk : k < l.length) : stepP (starts a l) k = fromP l k := by
  have key : ∀ f : Pt → Int, Lin f → sumF f l = 0 → f (toP (starts a l) k) - f (fromP (starts a l) k) = f (fromP l k) := by
    intro f hf hz
    have hto : toP (starts a l) k = fromP (starts a l) ((k + 1) % l.length) := by unfold toP fromP; rw [starts_length]
    rw [hto, starts_get hf l a _ (Nat.mod_lt _ (by omega)), starts_get hf l a _ hk]
    by_cases he : k + 1 = l.length
    · rw [he, Nat.mod_self, List.take_zero]
      have : l = l.take k ++ [fromP l k] := by rw [← take_one hk, he, List.take_length]
      rw [this, sumF_append] at hz
      simp only [sumF] at hz ⊢
      omega
    · rw [Nat.mod_eq_of_lt (by omega), take_one hk, sumF_append]
      simp only [sumF]
      omega
  exact pt_ext (key _ lin_fst h1) (key _ lin_snd h2)
theorem starts_steps {a : Pt} {l : List Pt} (h1 : sumF (fun x => x.1) l = 0) (h2 : sumF (fun x => x.2) l = 0) : stepsOf (starts a l) = l := by
  apply List.ext_getElem?
  intro i
  by_cases hi : i < l.length
  · have : (stepsOf (starts a l))[i]? = some (stepP (starts a l) i) := by
      unfold stepsOf
      rw [List.getElem?_map, List.getElem?_range (by rw [starts_length]; exact hi)]
      rfl
    rw [this, starts_step h1 h2 hi, List.getElem?_eq_getElem hi]
    unfold fromP
    rw [List.getD_eq_getElem?_getD, List.getElem?_eq_getElem hi]
    rfl
  · rw [List.getElem?_eq_none (by rw [stepsOf_length, starts_length]; omega), List.getElem?_eq_none (by omega)]
theorem sumF_zero {f : Pt → Int} : ∀ {l : List Pt}, (∀ x ∈ l, f x ≤ 0) → sumF f l = 0 → ∀ x ∈ l, f x = 0
  | [], _, _, x, hx => by simp at hx
  | y :: l, h, hz, x, hx => by
    have h1 := h y (by simp)
    have h2 := sumF_neg (l := l) fun z hz' => h z (by simp [hz'])
    simp only [sumF] at hz
    rcases List.mem_cons.1 hx with rfl | hx
    · omega
    · exact sumF_zero (fun z hz' => h z (by simp [hz'])) (by omega) x hx
theorem flat {u : Pt} (hu : u ≠ (0, 0)) {l : List Pt} (h : ∀ x ∈ l, crossP u x ≤ 0) (hz : sumF (fun x => crossP u x) l = 0) : ∀ x ∈ l, ∀ y ∈ l, crossP x y = 0 := by
  intro x hx y hy
  have hx0 := sumF_zero h hz x hx
  have hy0 := sumF_zero h hz y hy
  unfold crossP crossZ at *
  by_cases h2 : u.2 = 0
  · have h1 : u.1 ≠ 0 := fun e => hu (pt_ext e h2)
    have : u.1 * (x.1 * y.2 - x.2 * y.1) = 0 := by grind
    exact (Int.mul_eq_zero.1 this).resolve_left h1
  · have : u.2 * (x.1 * y.2 - x.2 * y.1) = 0 := by grind
    exact (Int.mul_eq_zero.1 this).resolve_left h2
theorem cross_anti (a b : Pt) : crossP b a = -crossP a b := by unfold crossP crossZ; grind
theorem cross_self (a : Pt) : crossP a a = 0 := by unfold crossP crossZ; grind
theorem lt_cross {a b : Pt} (h : ltA a b) (hs : sinksB a.1 a.2 = sinksB b.1 b.2) : 0 < crossP a b := by
  rcases h with ⟨h1, h2⟩ | ⟨_, h⟩
  · rw [h1, h2] at hs; cases hs
  · exact h
theorem lt_up {a b : Pt} (h : ltA a b) (hb : sinksB b.1 b.2 = false) : sinksB a.1 a.2 = false := by
  rcases h with ⟨_, h2⟩ | ⟨h1, _⟩
  · rw [h2] at hb; cases hb
  · rw [h1, hb]
theorem lt_down {a b : Pt} (h : ltA a b) (ha : sinksB a.1 a.2 = true) : sinksB b.1 b.2 = true := by
  rcases h with ⟨h1, _⟩ | ⟨h1, _⟩
  · rw [h1] at ha; cases ha
  · rw [← h1, ha]
theorem neg_up {a : Pt} (h : sinksB a.1 a.2 = true) : 0 < (negP a).2 ∨ ((negP a).2 = 0 ∧ 0 < (negP a).1) := down_up (down_of h)
theorem from_mem {l : List Pt} {k : Nat} (h : k < l.length) : fromP l k ∈ l := by
  unfold fromP
  rw [List.getD_eq_getElem?_getD, List.getElem?_eq_getElem h]
  exact List.getElem_mem _
theorem mem_from {l : List Pt} {x : Pt} (h : x ∈ l) : ∃ k, k < l.length ∧ fromP l k = x := by
  obtain ⟨k, hk, e⟩ := List.getElem_of_mem h
  refine ⟨k, hk, ?_⟩
  unfold fromP
  rw [List.getD_eq_getElem?_getD, List.getElem?_eq_getElem hk, ← e]
  rfl
theorem pair_lt {R : Pt → Pt → Prop} {l : List Pt} (h : l.Pairwise R) {i j : Nat} (hij : i < j) (hj : j < l.length) : R (fromP l i) (fromP l j) := by
  have := List.pairwise_iff_getElem.1 h i j (by omega) hj hij
  unfold fromP
  rw [List.getD_eq_getElem?_getD, List.getD_eq_getElem?_getD, List.getElem?_eq_getElem hj, List.getElem?_eq_getElem (show i < l.length by omega)]
  exact this
/-- strictly sorted directions that add up to nothing turn to the left everywhere, unless they lie on one line -/
theorem turns {l : List Pt} (h0 : ∀ x ∈ l, x ≠ (0, 0)) (hs : l.Pairwise ltA) (hz : ∀ f, Lin f → sumF f l = 0) (hc : ∃ x ∈ l, ∃ y ∈ l, crossP x y ≠ 0) :
    3 ≤ l.length ∧ ∀ i, i < l.length → 0 < crossP (fromP l (prevI l.length i)) (fromP l i) := by
  obtain ⟨x0, hx0, y0, hy0, hne⟩ := hc
  have no : ∀ u ∈ l, ¬ ∀ x ∈ l, crossP u x ≤ 0 := fun u hu h => hne (flat (h0 u hu) h (hz _ (lin_left u)) x0 hx0 y0 hy0)
  have hn : 0 < l.length := List.length_pos_of_mem hx0
  have ht : ∀ i, i < l.length → 0 < crossP (fromP l (prevI l.length i)) (fromP l i) := by
    intro i hi
    refine Classical.byContradiction fun hle => ?_
    by_cases hi0 : i = 0
    · subst hi0
      have e : prevI l.length 0 = l.length - 1 := rfl
      rw [e] at hle
      refine no (fromP l (l.length - 1)) (from_mem (by omega)) fun x hx => ?_
      obtain ⟨k, hk, rfl⟩ := mem_from hx
      by_cases hkl : k = l.length - 1
      · subst hkl; have := cross_self (fromP l (l.length - 1)); omega
      · have h1 := pair_lt hs (show k < l.length - 1 by omega) (by omega)
        by_cases hsk : sinksB (fromP l k).1 (fromP l k).2 = sinksB (fromP l (l.length - 1)).1 (fromP l (l.length - 1)).2
        · have := lt_cross h1 hsk
          have := cross_anti (fromP l k) (fromP l (l.length - 1))
          omega
        · rcases h1 with ⟨ku, kd⟩ | ⟨k1, _⟩
          · by_cases hk0 : k = 0
            · subst hk0; omega
            · have h2 := pair_lt hs (show 0 < k by omega) hk
              have h3 := lt_up h2 ku
              have h4 := lt_cross h2 (by rw [h3, ku])
              have q1 := cross_anti (fromP l k) (fromP l (l.length - 1))
              have q2 := cross_anti (fromP l 0) (fromP l (l.length - 1))
              have n1 := up_ntrans (a := fromP l k) (b := fromP l 0) (c := negP (fromP l (l.length - 1))) (up_of ku (h0 _ (from_mem hk))) (up_of h3 (h0 _ (from_mem hn))) (neg_up kd)
                (by have := cross_anti (fromP l 0) (fromP l k); unfold crossP at *; omega) (by have := cross_neg2 (fromP l 0) (fromP l (l.length - 1)); unfold crossP at *; omega)
              have := cross_neg2 (fromP l k) (fromP l (l.length - 1))
              unfold crossP at *
              omega
          · exact absurd k1 hsk
    · have e : prevI l.length i = i - 1 := by unfold prevI; rw [if_neg hi0]
      rw [e] at hle
      have h1 := pair_lt hs (show i - 1 < i by omega) hi
      have hud : sinksB (fromP l (i - 1)).1 (fromP l (i - 1)).2 = false ∧ sinksB (fromP l i).1 (fromP l i).2 = true := by
        rcases h1 with h1 | ⟨_, h1⟩
        · exact h1
        · unfold crossP at hle; omega
      refine no (fromP l (i - 1)) (from_mem (by omega)) fun x hx => ?_
      obtain ⟨k, hk, rfl⟩ := mem_from hx
      rcases Nat.lt_trichotomy k (i - 1) with hki | hki | hki
      · have h2 := pair_lt hs hki (by omega)
        have h3 := lt_up h2 hud.1
        have := lt_cross h2 (by rw [h3, hud.1])
        have := cross_anti (fromP l k) (fromP l (i - 1))
        omega
      · subst hki; have := cross_self (fromP l (i - 1)); omega
      · by_cases hki2 : k = i
        · subst hki2; omega
        · have h2 := pair_lt hs (show i < k by omega) hk
          have h3 := lt_down h2 hud.2
          have h4 := lt_cross h2 (by rw [h3, hud.2])
          have n1 := up_ntrans (a := negP (fromP l k)) (b := negP (fromP l i)) (c := fromP l (i - 1)) (neg_up h3) (neg_up hud.2) (up_of hud.1 (h0 _ (from_mem (by omega))))
            (by have := crossP_neg (fromP l k) (fromP l i); have := cross_anti (fromP l i) (fromP l k); unfold crossP at *; omega)
            (by have := cross_neg2 (fromP l (i - 1)) (fromP l i); have := cross_anti (fromP l (i - 1)) (negP (fromP l i)); unfold crossP at *; omega)
          have := cross_neg2 (fromP l (i - 1)) (fromP l k)
          have := cross_anti (fromP l (i - 1)) (negP (fromP l k))
          unfold crossP at *
          omega
  refine ⟨?_, ht⟩
  refine Classical.byContradiction fun h3 => ?_
  have a0 := ht 0 hn
  have a1 := ht (l.length - 1) (by omega)
  have e : prevI l.length 0 = l.length - 1 := rfl
  rw [e] at a0
  by_cases h1 : l.length = 1
  · rw [h1] at a0
    have := cross_self (fromP l 0)
    simp only [Nat.sub_self] at a0
    omega
  · have h2 : l.length = 2 := by omega
    rw [h2] at a0 a1
    have e1 : prevI 2 (2 - 1) = 0 := rfl
    rw [e1] at a1
    have := cross_anti (fromP l 0) (fromP l (2 - 1))
    omega
end Go.Proofs.Ytbdppephmlkbaaa

namespace Go.Proofs.Ytbdppephmlkbaaa
open Go.RowKit
/-- the maximum of the direction to the right of r over a polygon -/
def hiP (ps : List Pt) (r : Pt) : Int := crossP (fromP ps 0) r + sumF (fun x => crossP x r) ((stepsOf ps).filter fun x => ltB x r)
def rt (r : Pt) : Pt := (r.2, -r.1)
theorem dot_rt (r x : Pt) : dotP (rt r) x = crossP x r := by unfold dotP dotV rt crossP crossZ; grind
/-- what a sorted closed walk is like -/
structure Rolls (ps : List Pt) : Prop where
  some : 0 < ps.length
  ne0 : ∀ x ∈ stepsOf ps, x ≠ (0, 0)
  sorted : (stepsOf ps).Pairwise fun a b => ¬ ltA b a
theorem steps_mem {ps : List Pt} {x : Pt} (h : x ∈ stepsOf ps) : ∃ k, k < ps.length ∧ x = stepP ps k := by
  unfold stepsOf at h
  obtain ⟨k, hk, e⟩ := List.mem_map.1 h
  exact ⟨k, List.mem_range.1 hk, e.symm⟩
theorem mem_steps {ps : List Pt} {k : Nat} (h : k < ps.length) : stepP ps k ∈ stepsOf ps := List.mem_map.2 ⟨k, List.mem_range.2 h, rfl⟩
theorem Around.rolls {ps : List Pt} (h : Around ps) : Rolls ps := by
  have hne : ∀ x ∈ stepsOf ps, x ≠ (0, 0) := fun x hx => by
    obtain ⟨k, hk, rfl⟩ := steps_mem hx
    exact h.ne0 hk
  refine ⟨by have := h.three; omega, hne, ?_⟩
  have key : ∀ d i, i + d + 1 < ps.length → ¬ ltA (stepP ps (i + d + 1)) (stepP ps i) := by
    intro d
    induction d with
    | zero => intro i hi; exact h.sorted i hi
    | succ d ih =>
      intro i hi
      exact ltA_ntrans (h.ne0 hi) (h.ne0 (show i + d + 1 < ps.length by omega)) (h.ne0 (by omega)) (h.sorted _ hi) (ih i (by omega))
  rw [List.pairwise_iff_getElem]
  intro i j hi hj hij
  rw [stepsOf_length] at hi hj
  simp only [stepsOf, List.getElem_map, List.getElem_range]
  have := key (j - i - 1) i (by omega)
  rwa [show i + (j - i - 1) + 1 = j by omega] at this
section
variable {ps : List Pt} {r : Pt}
theorem hi_le (h : Rolls ps) (hr : r ≠ (0, 0)) {j : Nat} (hj : j < ps.length) : crossP (fromP ps j) r ≤ hiP ps r := by
  have h1 := path_get (lin_right r) ps j hj
  have h2 := supp h.ne0 hr h.sorted (path_sum (lin_right r) ps) j
  unfold hiP
  omega
theorem hi_at (h : Rolls ps) (hr : r ≠ (0, 0)) : ∃ j, j < ps.length ∧ crossP (fromP ps j) r = hiP ps r := by
  obtain ⟨k, hk, e⟩ := filter_take hr h.ne0 h.sorted
  rw [stepsOf_length] at hk
  unfold hiP
  rw [e]
  by_cases hkn : k = ps.length
  · refine ⟨0, h.some, ?_⟩
    have := path_sum (lin_right r) ps
    rw [hkn, ← stepsOf_length, List.take_length]
    omega
  · refine ⟨k, by omega, ?_⟩
    have := path_get (lin_right r) ps k (by omega)
    omega
end
theorem filter_at {l : List Pt} (hs : l.Pairwise ltA) {k : Nat} (hk : k < l.length) : l.filter (fun x => ltB x (fromP l k)) = l.take k := by
  have hl : l = l.take k ++ l.drop k := (List.take_append_drop k l).symm
  have e1 : (l.take k).filter (fun x => ltB x (fromP l k)) = l.take k := by
    rw [List.filter_eq_self]
    intro x hx
    obtain ⟨i, hi, rfl⟩ := List.getElem_of_mem hx
    rw [List.length_take] at hi
    rw [ltB_iff, List.getElem_take]
    have := pair_lt hs (show i < k by omega) hk
    unfold fromP at this ⊢
    rw [List.getD_eq_getElem?_getD, List.getElem?_eq_getElem (show i < l.length by omega)] at this
    exact this
  have e2 : (l.drop k).filter (fun x => ltB x (fromP l k)) = [] := by
    rw [List.filter_eq_nil_iff]
    intro x hx h
    rw [ltB_iff] at h
    obtain ⟨i, hi, rfl⟩ := List.getElem_of_mem hx
    rw [List.length_drop] at hi
    rw [List.getElem_drop] at h
    have e : l[k + i] = fromP l (k + i) := by
      unfold fromP
      rw [List.getD_eq_getElem?_getD, List.getElem?_eq_getElem (by omega)]
      rfl
    rw [e] at h
    by_cases h0 : i = 0
    · subst h0; exact ltA_irrefl _ h
    · have g := pair_lt hs (show k < k + i by omega) (by omega)
      have c1 := sinksB (fromP l k).1 (fromP l k).2
      rcases h with ⟨a1, a2⟩ | ⟨a1, a2⟩
      · have := lt_down g a2; rw [a1] at this; cases this
      · have := lt_cross g a1.symm
        have := cross_anti (fromP l k) (fromP l (k + i))
        unfold crossP at *
        omega
  conv => lhs; arg 2; rw [hl]
  rw [List.filter_append, e1, e2, List.append_nil]
/-- two sorted closed walks merged -/
structure Merged (ps qs ds : List Pt) : Prop where
  p : Rolls ps
  q : Rolls qs
  s : Sorted ps qs ds
namespace Merged
variable {ps qs ds : List Pt}
theorem ne0 (h : Merged ps qs ds) : ∀ x ∈ ds, x ≠ (0, 0) := fun x hx => by
  rcases List.mem_append.1 (h.s.1.mem_iff.1 hx) with hx | hx
  · exact h.p.ne0 x hx
  · exact h.q.ne0 x hx
theorem sum0 (h : Merged ps qs ds) {f : Pt → Int} (hf : Lin f) : sumF f (runs ds) = 0 := by
  rw [runs_sum hf, sumF_perm h.s.1, sumF_append, path_sum hf, path_sum hf]; rfl
theorem strict (h : Merged ps qs ds) : (runs ds).Pairwise ltA := runs_strict ds h.ne0 h.s.2
theorem rne0 (h : Merged ps qs ds) : ∀ x ∈ runs ds, x ≠ (0, 0) := fun x hx => (runs_mem ds h.ne0 x hx).1
theorem sum_eq (ps qs ds : List Pt) : sumP ps qs ds = starts (addP (fromP qs 0) (fromP ps 0)) (runs ds) := walk_runs _ _
theorem steps (h : Merged ps qs ds) : stepsOf (sumP ps qs ds) = runs ds := by
  rw [sum_eq]; exact starts_steps (h.sum0 lin_fst) (h.sum0 lin_snd)
theorem slen (ps qs ds : List Pt) : (sumP ps qs ds).length = (runs ds).length := by rw [sum_eq, starts_length]
theorem step (h : Merged ps qs ds) {k : Nat} (hk : k < (runs ds).length) : stepP (sumP ps qs ds) k = fromP (runs ds) k := by
  rw [sum_eq]; exact starts_step (h.sum0 lin_fst) (h.sum0 lin_snd) hk
/-- maxima over a sum are the sums of the maxima -/
theorem hi (h : Merged ps qs ds) {r : Pt} (hr : r ≠ (0, 0)) : hiP (sumP ps qs ds) r = hiP ps r + hiP qs r := by
  unfold hiP
  rw [h.steps, runs_filter (f := fun x => crossP x r) (lin_right r) hr ds h.ne0, sumF_perm (h.s.1.filter _), List.filter_append, sumF_append]
  have hn : 0 < (runs ds).length := by
    obtain ⟨d, l, e⟩ : ∃ d l, ds = d :: l := by
      cases hd : ds with
      | nil =>
        have := h.s.1.length_eq
        rw [hd, List.length_append, stepsOf_length] at this
        have h1 := h.p.some
        simp only [List.length_nil] at this
        omega
      | cons d l => exact ⟨d, l, rfl⟩
    obtain ⟨x, t, e2, _⟩ := runs_cons d l (by rw [← e]; exact h.ne0)
    rw [e, e2]; simp
  have e0 := starts_get (f := fun x => crossP x r) (lin_right r) (runs ds) (addP (fromP qs 0) (fromP ps 0)) 0 hn
  rw [← sum_eq, List.take_zero] at e0
  have e1 : crossP (addP (fromP qs 0) (fromP ps 0)) r = crossP (fromP qs 0) r + crossP (fromP ps 0) r := lin_right r _ _
  simp only [sumF] at e0
  omega
theorem at_edge (h : Merged ps qs ds) {k : Nat} (hk : k < (runs ds).length) : crossP (fromP (sumP ps qs ds) k) (fromP (runs ds) k) = hiP ps (fromP (runs ds) k) + hiP qs (fromP (runs ds) k) := by
  have hr := h.rne0 _ (from_mem hk)
  rw [← h.hi hr]
  have e := path_get (lin_right (fromP (runs ds) k)) (sumP ps qs ds) k (by rw [slen]; exact hk)
  unfold hiP
  rw [h.steps, filter_at h.strict hk]
  rw [h.steps] at e
  exact e
end Merged
theorem sum_around {ps qs ds : List Pt} (hp : Around ps) (hq : Around qs) (hs : Sorted ps qs ds) : Around (sumP ps qs ds) := by
  have h : Merged ps qs ds := ⟨hp.rolls, hq.rolls, hs⟩
  have hc : ∃ x ∈ runs ds, ∃ y ∈ runs ds, crossP x y ≠ 0 := by
    have hn := hp.three
    have m0 : stepP ps (prevI ps.length 1) ∈ ds := hs.1.mem_iff.2 (List.mem_append_left _ (mem_steps (by show 0 < ps.length; omega)))
    have m1 : stepP ps 1 ∈ ds := hs.1.mem_iff.2 (List.mem_append_left _ (mem_steps (by omega)))
    obtain ⟨x, hx, e1⟩ := mem_runs ds h.ne0 _ m0
    obtain ⟨y, hy, e2⟩ := mem_runs ds h.ne0 _ m1
    refine ⟨x, hx, y, hy, fun hz => ?_⟩
    have ht := hp.turn 1 (by omega)
    have z0 := h.ne0 _ m0
    have z1 := h.ne0 _ m1
    have zx := h.rne0 _ hx
    have zy := h.rne0 _ hy
    generalize stepP ps (prevI ps.length 1) = a at *
    generalize stepP ps 1 = b at *
    have c1 := ((same_iff _ _).1 e1).2
    have c2 := ((same_iff _ _).1 e2).2
    have hl : ∀ z ∈ [a, b], crossP x z = 0 := by
      have ya : crossP x a = 0 := by have := cross_anti a x; omega
      have yb : crossP y b = 0 := by have := cross_anti b y; omega
      intro z hz2
      simp at hz2
      rcases hz2 with rfl | rfl
      · exact ya
      · unfold crossP crossZ at *
        by_cases h2 : y.2 = 0
        · have h1 : y.1 ≠ 0 := fun e => zy (pt_ext e h2)
          have : y.1 * (x.1 * z.2 - x.2 * z.1) = 0 := by grind
          exact (Int.mul_eq_zero.1 this).resolve_left h1
        · have : y.2 * (x.1 * z.2 - x.2 * z.1) = 0 := by grind
          exact (Int.mul_eq_zero.1 this).resolve_left h2
    have ha := hl a (by simp)
    have hb := hl b (by simp)
    have : crossP a b = 0 := by
      unfold crossP crossZ at *
      by_cases h2 : x.2 = 0
      · have h1 : x.1 ≠ 0 := fun e => zx (pt_ext e h2)
        have : x.1 * (a.1 * b.2 - a.2 * b.1) = 0 := by grind
        exact (Int.mul_eq_zero.1 this).resolve_left h1
      · have : x.2 * (a.1 * b.2 - a.2 * b.1) = 0 := by grind
        exact (Int.mul_eq_zero.1 this).resolve_left h2
    omega
  obtain ⟨t3, tt⟩ := turns h.rne0 h.strict (fun f hf => h.sum0 hf) hc
  refine ⟨by rw [Merged.slen]; exact t3, fun i hi => ?_, fun i hi => ?_⟩
  · rw [Merged.slen] at hi ⊢
    rw [h.step hi, h.step (by unfold prevI; split <;> omega)]
    exact tt i hi
  · rw [Merged.slen] at hi
    rw [h.step hi, h.step (by omega)]
    have g := pair_lt h.strict (show i < i + 1 by omega) hi
    intro k
    rcases k with ⟨a1, a2⟩ | ⟨a1, a2⟩
    · have := lt_down g a2; rw [a1] at this; cases this
    · have := lt_cross g a1.symm
      have := cross_anti (fromP (runs ds) i) (fromP (runs ds) (i + 1))
      unfold crossP at *
      omega
end Go.Proofs.Ytbdppephmlkbaaa
