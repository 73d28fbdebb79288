import Derived.Test.YtnoacppfgckohaaM6
namespace Go.Proofs.Ytnoacppfgckohaa
open Go.RowKit
/-- the maximum of the direction to the right of r over a polygon -/
def hiP (ps : List Pt) (r : Pt) : Int := crossP (fromP ps 0) r + sumF (fun x => crossP x r) ((stepsOf ps).filter fun x => ltB x r)
def rt (r : Pt) : Pt := (r.2, -r.1)
theorem dot_rt (r x : Pt) : dotP (rt r) x = crossP x r := by unfold dotP dotV rt crossP crossZ; grind
/-- what a sorted closed walk is like -/
structure Rolls (ps : List Pt) : Prop where
  some : 0 < ps.length
  ne0 : ∀ x ∈ stepsOf ps, x ≠ (0, 0)
  sorted : (stepsOf ps).Pairwise fun a b => ¬ ltA b a
theorem steps_mem {ps : List Pt} {x : Pt} (h : x ∈ stepsOf ps) : ∃ k, k < ps.length ∧ x = stepP ps k := by
  unfold stepsOf at h
  obtain ⟨k, hk, e⟩ := List.mem_map.1 h
  exact ⟨k, List.mem_range.1 hk, e.symm⟩
theorem mem_steps {ps : List Pt} {k : Nat} (h : k < ps.length) : stepP ps k ∈ stepsOf ps := List.mem_map.2 ⟨k, List.mem_range.2 h, rfl⟩
theorem Around.rolls {ps : List Pt} (h : Around ps) : Rolls ps := by
  have hne : ∀ x ∈ stepsOf ps, x ≠ (0, 0) := fun x hx => by
    obtain ⟨k, hk, rfl⟩ := steps_mem hx
    exact h.ne0 hk
  refine ⟨by have := h.three; omega, hne, ?_⟩
  have key : ∀ d i, i + d + 1 < ps.length → ¬ ltA (stepP ps (i + d + 1)) (stepP ps i) := by
    intro d
    induction d with
    | zero => intro i hi; exact h.sorted i hi
    | succ d ih =>
      intro i hi
      exact ltA_ntrans (h.ne0 hi) (h.ne0 (show i + d + 1 < ps.length by omega)) (h.ne0 (by omega)) (h.sorted _ hi) (ih i (by omega))
  rw [List.pairwise_iff_getElem]
  intro i j hi hj hij
  rw [stepsOf_length] at hi hj
  simp only [stepsOf, List.getElem_map, List.getElem_range]
  have := key (j - i - 1) i (by omega)
  rwa [show i + (j - i - 1) + 1 = j by omega] at this
section
variable {ps : List Pt} {r : Pt}
theorem hi_le (h : Rolls ps) (hr : r ≠ (0, 0)) {j : Nat} (hj : j < ps.length) : crossP (fromP ps j) r ≤ hiP ps r := by
  have h1 := path_get (lin_right r) ps j hj
  have h2 := supp h.ne0 hr h.sorted (path_sum (lin_right r) ps) j
  unfold hiP
  omega
theorem hi_at (h : Rolls ps) (hr : r ≠ (0, 0)) : ∃ j, j < ps.length ∧ crossP (fromP ps j) r = hiP ps r := by
  obtain ⟨k, hk, e⟩ := filter_take hr h.ne0 h.sorted
  rw [stepsOf_length] at hk
  unfold hiP
  rw [e]
  by_cases hkn : k = ps.length
  · refine ⟨0, h.some, ?_⟩
    have := path_sum (lin_right r) ps
    rw [hkn, ← stepsOf_length, List.take_length]
    omega
  · refine ⟨k, by omega, ?_⟩
    have := path_get (lin_right r) ps k (by omega)
    omega
end
theorem filter_at {l : List Pt} (hs : l.Pairwise ltA) {k : Nat} (hk : k < l.length) : l.filter (fun x => ltB x (fromP l k)) = l.take k := by
  have hl : l = l.take k ++ l.drop k := (List.take_append_drop k l).symm
  have e1 : (l.take k).filter (fun x => ltB x (fromP l k)) = l.take k := by
    rw [List.filter_eq_self]
    intro x hx
    obtain ⟨i, hi, rfl⟩ := List.getElem_of_mem hx
    rw [List.length_take] at hi
    rw [ltB_iff, List.getElem_take]
    have := pair_lt hs (show i < k by omega) hk
    unfold fromP at this ⊢
    rw [List.getD_eq_getElem?_getD, List.getElem?_eq_getElem (show i < l.length by omega)] at this
    exact this
  have e2 : (l.drop k).filter (fun x => ltB x (fromP l k)) = [] := by
    rw [List.filter_eq_nil_iff]
    intro x hx h
    rw [ltB_iff] at h
    obtain ⟨i, hi, rfl⟩ := List.getElem_of_mem hx
    rw [List.length_drop] at hi
    rw [List.getElem_drop] at h
    have e : l[k + i] = fromP l (k + i) := by
      unfold fromP
      rw [List.getD_eq_getElem?_getD, List.getElem?_eq_getElem (by omega)]
      rfl
    rw [e] at h
    by_cases h0 : i = 0
    · subst h0; exact ltA_irrefl _ h
    · have g := pair_lt hs (show k < k + i by omega) (by omega)
      have c1 := sinksB (fromP l k).1 (fromP l k).2
      rcases h with ⟨a1, a2⟩ | ⟨a1, a2⟩
      · have := lt_down g a2; rw [a1] at this; cases this
      · have := lt_cross g a1.symm
        have := cross_anti (fromP l k) (fromP l (k + i))
        unfold crossP at *
        omega
  conv => lhs; arg 2; rw [hl]
  rw [List.filter_append, e1, e2, List.append_nil]
/-- two sorted closed walks merged -/
structure Merged (ps qs ds : List Pt) : Prop where
  p : Rolls ps
  q : Rolls qs
  s : Sorted ps qs ds
namespace Merged
variable {ps qs ds : List Pt}
theorem ne0 (h : Merged ps qs ds) : ∀ x ∈ ds, x ≠ (0, 0) := fun x hx => by
  rcases List.mem_append.1 (h.s.1.mem_iff.1 hx) with hx | hx
  · exact h.p.ne0 x hx
  · exact h.q.ne0 x hx
theorem sum0 (h : Merged ps qs ds) {f : Pt → Int} (hf : Lin f) : sumF f (runs ds) = 0 := by
  rw [runs_sum hf, sumF_perm h.s.1, sumF_append, path_sum hf, path_sum hf]; rfl
theorem strict (h : Merged ps qs ds) : (runs ds).Pairwise ltA := runs_strict ds h.ne0 h.s.2
theorem rne0 (h : Merged ps qs ds) : ∀ x ∈ runs ds, x ≠ (0, 0) := fun x hx => (runs_mem ds h.ne0 x hx).1
theorem sum_eq (ps qs ds : List Pt) : sumP ps qs ds = starts (addP (fromP qs 0) (fromP ps 0)) (runs ds) := walk_runs _ _
theorem steps (h : Merged ps qs ds) : stepsOf (sumP ps qs ds) = runs ds := by
  rw [sum_eq]; exact starts_steps (h.sum0 lin_fst) (h.sum0 lin_snd)
theorem slen (ps qs ds : List Pt) : (sumP ps qs ds).length = (runs ds).length := by rw [sum_eq, starts_length]
theorem step (h : Merged ps qs ds) {k : Nat} (hk : k < (runs ds).length) : stepP (sumP ps qs ds) k = fromP (runs ds) k := by
  rw [sum_eq]; exact starts_step (h.sum0 lin_fst) (h.sum0 lin_snd) hk
/-- maxima over a sum are the sums of the maxima -/
theorem hi (h : Merged ps qs ds) {r : Pt} (hr : r ≠ (0, 0)) : hiP (sumP ps qs ds) r = hiP ps r + hiP qs r := by
  unfold hiP
  rw [h.steps, runs_filter (f := fun x => crossP x r) (lin_right r) hr ds h.ne0, sumF_perm (h.s.1.filter _), List.filter_append, sumF_append]
  have hn : 0 < (runs ds).length := by
    obtain ⟨d, l, e⟩ : ∃ d l, ds = d :: l := by
      cases hd : ds with
      | nil =>
        have := h.s.1.length_eq
        rw [hd, List.length_append, stepsOf_length] at this
        have h1 := h.p.some
        simp only [List.length_nil] at this
        omega
      | cons d l => exact ⟨d, l, rfl⟩
    obtain ⟨x, t, e2, _⟩ := runs_cons d l (by rw [← e]; exact h.ne0)
    rw [e, e2]; simp
  have e0 := starts_get (f := fun x => crossP x r) (lin_right r) (runs ds) (addP (fromP qs 0) (fromP ps 0)) 0 hn
  rw [← sum_eq, List.take_zero] at e0
  have e1 : crossP (addP (fromP qs 0) (fromP ps 0)) r = crossP (fromP qs 0) r + crossP (fromP ps 0) r := lin_right r _ _
  simp only [sumF] at e0
  omega
theorem at_edge (h : Merged ps qs ds) {k : Nat} (hk : k < (runs ds).length) : crossP (fromP (sumP ps qs ds) k) (fromP (runs ds) k) = hiP ps (fromP (runs ds) k) + hiP qs (fromP (runs ds) k) := by
  have hr := h.rne0 _ (from_mem hk)
  rw [← h.hi hr]
  have e := path_get (lin_right (fromP (runs ds) k)) (sumP ps qs ds) k (by rw [slen]; exact hk)
  unfold hiP
  rw [h.steps, filter_at h.strict hk]
  rw [h.steps] at e
  exact e
end Merged
theorem sum_around {ps qs ds : List Pt} (hp : Around ps) (hq : Around qs) (hs : Sorted ps qs ds) : Around (sumP ps qs ds) := by
  have h : Merged ps qs ds := ⟨hp.rolls, hq.rolls, hs⟩
  have hc : ∃ x ∈ runs ds, ∃ y ∈ runs ds, crossP x y ≠ 0 := by
    have hn := hp.three
    have m0 : stepP ps (prevI ps.length 1) ∈ ds := hs.1.mem_iff.2 (List.mem_append_left _ (mem_steps (by show 0 < ps.length; omega)))
    have m1 : stepP ps 1 ∈ ds := hs.1.mem_iff.2 (List.mem_append_left _ (mem_steps (by omega)))
    obtain ⟨x, hx, e1⟩ := mem_runs ds h.ne0 _ m0
    obtain ⟨y, hy, e2⟩ := mem_runs ds h.ne0 _ m1
    refine ⟨x, hx, y, hy, fun hz => ?_⟩
    have ht := hp.turn 1 (by omega)
    have z0 := h.ne0 _ m0
    have z1 := h.ne0 _ m1
    have zx := h.rne0 _ hx
    have zy := h.rne0 _ hy
    generalize stepP ps (prevI ps.length 1) = a at *
    generalize stepP ps 1 = b at *
    have c1 := ((same_iff _ _).1 e1).2
    have c2 := ((same_iff _ _).1 e2).2
    have hl : ∀ z ∈ [a, b], crossP x z = 0 := by
      have ya : crossP x a = 0 := by have := cross_anti a x; omega
      have yb : crossP y b = 0 := by have := cross_anti b y; omega
      intro z hz2
      simp at hz2
      rcases hz2 with rfl | rfl
      · exact ya
      · unfold crossP crossZ at *
        by_cases h2 : y.2 = 0
        · have h1 : y.1 ≠ 0 := fun e => zy (pt_ext e h2)
          have : y.1 * (x.1 * z.2 - x.2 * z.1) = 0 := by grind
          exact (Int.mul_eq_zero.1 this).resolve_left h1
        · have : y.2 * (x.1 * z.2 - x.2 * z.1) = 0 := by grind
          exact (Int.mul_eq_zero.1 this).resolve_left h2
    have ha := hl a (by simp)
    have hb := hl b (by simp)
    have : crossP a b = 0 := by
      unfold crossP crossZ at *
      by_cases h2 : x.2 = 0
      · have h1 : x.1 ≠ 0 := fun e => zx (pt_ext e h2)
        have : x.1 * (a.1 * b.2 - a.2 * b.1) = 0 := by grind
        exact (Int.mul_eq_zero.1 this).resolve_left h1
      · have : x.2 * (a.1 * b.2 - a.2 * b.1) = 0 := by grind
        exact (Int.mul_eq_zero.1 this).resolve_left h2
    omega
  obtain ⟨t3, tt⟩ := turns h.rne0 h.strict (fun f hf => h.sum0 hf) hc
  refine ⟨by rw [Merged.slen]; exact t3, fun i hi => ?_, fun i hi => ?_⟩
  · rw [Merged.slen] at hi ⊢
    rw [h.step hi, h.step (by unfold prevI; split <;> omega)]
    exact tt i hi
  · rw [Merged.slen] at hi
    rw [h.step hi, h.step (by omega)]
    have g := pair_lt h.strict (show i < i + 1 by omega) hi
    intro k
    rcases k with ⟨a1, a2⟩ | ⟨a1, a2⟩
    · have := lt_down g a2; rw [a1] at this; cases this
    · have := lt_cross g a1.symm
      have := cross_anti (fromP (runs ds) i) (fromP (runs ds) (i + 1))
      unfold crossP at *
      omega
end Go.Proofs.Ytnoacppfgckohaa
