import Derived.Test.YtnoacppfgckohaaV19
import Derived.Test.YtnoacppfgckohaaM3
namespace Go.Proofs.Ytnoacppfgckohaa
open Go.RowKit
/-- the sum of a number over a list -/
def sumF (f : Pt → Int) : List Pt → Int
  | [] => 0
  | x :: l => f x + sumF f l
theorem sumF_append (f : Pt → Int) : ∀ a b, sumF f (a ++ b) = sumF f a + sumF f b := by
  intro a b
  induction a with
  | nil => simp [sumF]
  | cons x l ih => simp only [List.cons_append, sumF, ih]; omega
theorem sumF_perm {f : Pt → Int} {a b : List Pt} (h : a.Perm b) : sumF f a = sumF f b := by
  induction h with
  | nil => rfl
  | cons x _ ih => simp only [sumF, ih]
  | swap x y l => simp only [sumF]; omega
  | trans _ _ h1 h2 => rw [h1, h2]
theorem sumF_filter (f : Pt → Int) (p : Pt → Bool) : ∀ l, sumF f l = sumF f (l.filter p) + sumF f (l.filter fun x => !p x) := by
  intro l
  induction l with
  | nil => rfl
  | cons x l ih =>
    cases h : p x <;> simp only [List.filter_cons, h, sumF, ih, Bool.not_true, Bool.not_false, if_true, Bool.false_eq_true, if_false] <;> omega
theorem sumF_pos {f : Pt → Int} : ∀ {l : List Pt}, (∀ x ∈ l, 0 ≤ f x) → 0 ≤ sumF f l
  | [], _ => Int.le_refl _
  | x :: l, h => by
    have h1 := h x (by simp)
    have h2 := sumF_pos (l := l) fun y hy => h y (by simp [hy])
    simp only [sumF]; omega
theorem sumF_neg {f : Pt → Int} : ∀ {l : List Pt}, (∀ x ∈ l, f x ≤ 0) → sumF f l ≤ 0
  | [], _ => Int.le_refl _
  | x :: l, h => by
    have h1 := h x (by simp)
    have h2 := sumF_neg (l := l) fun y hy => h y (by simp [hy])
    simp only [sumF]; omega
def ltB (a b : Pt) : Bool := decide (angP a b < 0)
theorem ltB_iff (a b : Pt) : ltB a b = true ↔ ltA a b := by unfold ltB; rw [decide_eq_true_eq]; exact angP_neg a b
theorem neg_ne {r : Pt} (h : r ≠ (0, 0)) : negP r ≠ (0, 0) := fun e => h (by rw [← neg_neg' r, e]; rfl)
theorem cross_neg2 (x r : Pt) : crossP x (negP r) = -crossP x r := by
  unfold crossP crossZ negP; simp only [Int.mul_neg]; omega
section
variable {x r : Pt}
theorem up_low (hr : sinksB r.1 r.2 = false) (h : ltA x r) : 0 ≤ crossP x r := by
  rcases h with ⟨_, h⟩ | ⟨_, h⟩
  · rw [hr] at h; cases h
  · unfold crossP; omega
theorem up_far (hr0 : r ≠ (0, 0)) (hr : sinksB r.1 r.2 = false) (h : ¬ ltA x (negP r)) : 0 ≤ crossP x r ∧ ¬ ltA x r := by
  have hn := sinks_neg hr0
  rw [hr] at hn
  cases hs : sinksB x.1 x.2 with
  | false => exact absurd (.inl ⟨hs, hn⟩) h
  | true =>
    constructor
    · have h2 := cross_neg2 x r
      have : ¬ 0 < crossP x (negP r) := fun k => h (.inr ⟨by rw [hs, hn]; rfl, k⟩)
      omega
    · rintro (⟨k, _⟩ | ⟨k, _⟩)
      · rw [hs] at k; cases k
      · rw [hs, hr] at k; cases k
theorem up_mid (hr : sinksB r.1 r.2 = false) (h1 : ltA x (negP r)) (h2 : ¬ ltA x r) : crossP x r ≤ 0 := by
  cases hs : sinksB x.1 x.2 with
  | false =>
    have : ¬ 0 < crossP x r := fun k => h2 (.inr ⟨by rw [hs, hr], k⟩)
    omega
  | true =>
    rcases h1 with ⟨k, _⟩ | ⟨_, k⟩
    · rw [hs] at k; cases k
    · have := cross_neg2 x r
      unfold crossP at *; omega
theorem down_low (hr0 : r ≠ (0, 0)) (hr : sinksB r.1 r.2 = true) (h : ltA x (negP r)) : crossP x r ≤ 0 := by
  have hn := sinks_neg hr0
  rw [hr] at hn
  have h2 := cross_neg2 x r
  rcases h with ⟨_, k⟩ | ⟨_, k⟩
  · rw [hn] at k; cases k
  · unfold crossP at *; omega
theorem down_mid (hr0 : r ≠ (0, 0)) (hr : sinksB r.1 r.2 = true) (h : ltA x r) (h1 : ¬ ltA x (negP r)) : 0 ≤ crossP x r := by
  have hn := sinks_neg hr0
  rw [hr] at hn
  cases hs : sinksB x.1 x.2 with
  | false =>
    have h2 := cross_neg2 x r
    have : ¬ 0 < crossP x (negP r) := fun k => h1 (.inr ⟨by rw [hs, hn]; rfl, k⟩)
    omega
  | true =>
    rcases h with ⟨k, _⟩ | ⟨_, k⟩
    · rw [hs] at k; cases k
    · unfold crossP; omega
theorem down_far (hr : sinksB r.1 r.2 = true) (h : ¬ ltA x r) : crossP x r ≤ 0 := by
  cases hs : sinksB x.1 x.2 with
  | false => exact absurd (.inl ⟨hs, hr⟩) h
  | true =>
    have : ¬ 0 < crossP x r := fun k => h (.inr ⟨by rw [hs, hr], k⟩)
    omega
end
/-- no beginning of a closed walk that is sorted by angle goes further to the right of a direction than what comes before that direction -/
theorem supp {l : List Pt} {r : Pt} (h0 : ∀ x ∈ l, x ≠ (0, 0)) (hr : r ≠ (0, 0)) (hs : l.Pairwise fun a b => ¬ ltA b a) (hz : sumF (fun x => crossP x r) l = 0) (k : Nat) :
    sumF (fun x => crossP x r) (l.take k) ≤ sumF (fun x => crossP x r) (l.filter fun x => ltB x r) := by
  have hl := (List.take_append_drop k l).symm
  have hA : ∀ x ∈ l.take k, x ∈ l := fun x hx => List.mem_of_mem_take hx
  have hB : ∀ x ∈ l.drop k, x ∈ l := fun x hx => List.mem_of_mem_drop hx
  have hAB : ∀ x ∈ l.take k, ∀ y ∈ l.drop k, ¬ ltA y x := by
    rw [hl, List.pairwise_append] at hs
    exact hs.2.2
  have e0 : sumF (fun x => crossP x r) (l.take k) + sumF (fun x => crossP x r) (l.drop k) = 0 := by rw [← sumF_append, ← hl]; exact hz
  have e1 := sumF_filter (fun x => crossP x r) (fun x => ltB x r) (l.take k)
  have e2 : sumF (fun x => crossP x r) (l.filter fun x => ltB x r) = sumF (fun x => crossP x r) ((l.take k).filter fun x => ltB x r) + sumF (fun x => crossP x r) ((l.drop k).filter fun x => ltB x r) := by
    rw [← sumF_append, ← List.filter_append, ← hl]
  have e3 := sumF_filter (fun x => crossP x r) (fun x => ltB x r) l
  have up : ∀ x ∈ l.take k, ¬ ltA x (negP r) → ∀ y ∈ l.drop k, ¬ ltA y (negP r) := fun x hx h y hy =>
    ltA_ntrans (h0 y (hB y hy)) (h0 x (hA x hx)) (neg_ne hr) (hAB x hx y hy) h
  cases hd : sinksB r.1 r.2 with
  | false =>
    have p2 : 0 ≤ sumF (fun x => crossP x r) ((l.drop k).filter fun x => ltB x r) := sumF_pos fun x hx => up_low hd ((ltB_iff _ _).1 (List.mem_filter.1 hx).2)
    by_cases hE : ∃ x ∈ l.take k, ¬ ltA x (negP r)
    · obtain ⟨x, hx, hxn⟩ := hE
      have p1 : 0 ≤ sumF (fun x => crossP x r) (l.drop k) := sumF_pos fun y hy => (up_far hr hd (up x hx hxn y hy)).1
      have p3 : 0 ≤ sumF (fun x => crossP x r) (l.filter fun x => ltB x r) := sumF_pos fun x hx => up_low hd ((ltB_iff _ _).1 (List.mem_filter.1 hx).2)
      omega
    · have p1 : sumF (fun x => crossP x r) ((l.take k).filter fun x => !ltB x r) ≤ 0 := sumF_neg fun x hx => by
        obtain ⟨h1, h2⟩ := List.mem_filter.1 hx
        simp only [Bool.not_eq_true'] at h2
        refine up_mid hd (Classical.byContradiction fun h => hE ⟨x, h1, h⟩) fun h => ?_
        rw [(ltB_iff _ _).2 h] at h2; cases h2
      omega
  | true =>
    have far : ∀ l' : List Pt, sumF (fun x => crossP x r) (l'.filter fun x => !ltB x r) ≤ 0 := fun l' => sumF_neg fun x hx => by
      have h2 := (List.mem_filter.1 hx).2
      simp only [Bool.not_eq_true'] at h2
      refine down_far hd fun h => ?_
      rw [(ltB_iff _ _).2 h] at h2; cases h2
    by_cases hE : ∃ x ∈ l.take k, ¬ ltA x (negP r)
    · obtain ⟨x, hx, hxn⟩ := hE
      have p1 : 0 ≤ sumF (fun x => crossP x r) ((l.drop k).filter fun x => ltB x r) := sumF_pos fun y hy => by
        obtain ⟨h1, h2⟩ := List.mem_filter.1 hy
        exact down_mid hr hd ((ltB_iff _ _).1 h2) (up x hx hxn y h1)
      have := far (l.take k)
      omega
    · have p1 : sumF (fun x => crossP x r) (l.take k) ≤ 0 := sumF_neg fun x hx => down_low hr hd (Classical.byContradiction fun h => hE ⟨x, hx, h⟩)
      have := far l
      omega
/-- what comes before a direction is a beginning of the walk -/
theorem filter_take {r : Pt} (hr : r ≠ (0, 0)) : ∀ {l : List Pt}, (∀ x ∈ l, x ≠ (0, 0)) → l.Pairwise (fun a b => ¬ ltA b a) → ∃ k, k ≤ l.length ∧ l.filter (fun x => ltB x r) = l.take k
  | [], _, _ => ⟨0, Nat.le_refl _, rfl⟩
  | x :: l, h0, hs => by
    rw [List.pairwise_cons] at hs
    obtain ⟨k, hk, e⟩ := filter_take hr (l := l) (fun y hy => h0 y (by simp [hy])) hs.2
    cases h : ltB x r with
    | true => exact ⟨k + 1, by simpa using hk, by rw [List.filter_cons_of_pos (by simpa using h), e]; rfl⟩
    | false =>
      refine ⟨0, Nat.zero_le _, ?_⟩
      have hx : ¬ ltA x r := fun k => by rw [(ltB_iff _ _).2 k] at h; cases h
      rw [List.take_zero, List.filter_eq_nil_iff]
      intro y hy k
      rcases List.mem_cons.1 hy with rfl | hy
      · exact hx ((ltB_iff _ _).1 k)
      · exact ltA_ntrans (h0 y (by simp [hy])) (h0 x (by simp)) hr (hs.1 y hy) hx ((ltB_iff _ _).1 k)
end Go.Proofs.Ytnoacppfgckohaa
