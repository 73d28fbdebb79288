import Derived.Test.YtnoacppfgckohaaM2
namespace Go.Proofs.Ytnoacppfgckohaa
def lowP (a b : Pt) : Prop := a.2 < b.2 ∨ (a.2 = b.2 ∧ a.1 < b.1)
theorem low_iff (a b : Pt) : heightP a b < 0 ↔ lowP a b := by
  unfold heightP heightZ sgnZ lowP
  rcases Int.lt_trichotomy a.2 b.2 with h | h | h
  · simp [h]
  · rw [h]
    simp
    rcases Int.lt_trichotomy a.1 b.1 with g | g | g
    · simp [g]
    · rw [g]; simp
    · have : ¬ a.1 < b.1 := by omega
      simp [this, g]
  · have h1 : ¬ a.2 < b.2 := by omega
    have h2 : ¬ a.2 = b.2 := by omega
    simp [h1, h, h2]
theorem low_trans {a b c : Pt} (h1 : lowP a b) (h2 : lowP b c) : lowP a c := by unfold lowP at *; omega
theorem low_irrefl (a : Pt) : ¬ lowP a a := by unfold lowP; omega
theorem low_neg {a b : Pt} (h : lowP a b) : lowP (negP b) (negP a) := by unfold lowP negP at *; simp only; omega
theorem neg_neg' (a : Pt) : negP (negP a) = a := by unfold negP; simp
theorem neg_inj {a b : Pt} (h : negP a = negP b) : a = b := by rw [← neg_neg' a, h, neg_neg']
theorem sinks_neg {a : Pt} (h : a ≠ (0, 0)) : sinksB (negP a).1 (negP a).2 = !sinksB a.1 a.2 := by
  cases hs : sinksB a.1 a.2 with
  | true =>
    rcases down_of hs with h1 | ⟨h1, h2⟩
    · simp [sinksB, negP]; omega
    · simp [sinksB, negP]; omega
  | false =>
    rcases up_of hs h with h1 | ⟨h1, h2⟩
    · simp [sinksB, negP]; omega
    · simp [sinksB, negP]; omega
theorem crossP_neg (a b : Pt) : crossP (negP a) (negP b) = crossP a b := cross_neg a b
/-- what a polygon's steps are like -/
structure Around (ps : List Pt) : Prop where
  three : 3 ≤ ps.length
  turn : ∀ i, i < ps.length → 0 < crossP (stepP ps (prevI ps.length i)) (stepP ps i)
  sorted : ∀ i, i + 1 < ps.length → ¬ ltA (stepP ps (i + 1)) (stepP ps i)
theorem valid_around {ps : List Pt} (h : validB ps = true) : Around ps := by
  have h1 := valid_near h
  have hf : ps.any farP = false := by
    simp only [validB, Bool.and_eq_true, Bool.not_eq_true'] at h
    exact h.1.1.2
  rw [validB_eq h1.2.1 h1.2.2 hf, Bool.and_eq_true] at h
  exact ⟨h1.2.1, (turn_iff ps).1 h.1, (sorted_iff ps).1 h.2⟩
theorem around_valid {ps : List Pt} (h : Around ps) (h32 : ps.length ≤ 32) (hf : ps.any farP = false) : validB ps = true := by
  rw [validB_eq h.three h32 hf, (turn_iff ps).2 h.turn, (sorted_iff ps).2 h.sorted]
  rfl
namespace Around
variable {ps : List Pt}
theorem ne0 (h : Around ps) {i : Nat} (hi : i < ps.length) : stepP ps i ≠ (0, 0) := fun e => by
  have := h.turn i hi
  rw [e] at this
  unfold crossP crossZ at this
  simp at this
theorem down_on (h : Around ps) {i : Nat} (hi : i + 1 < ps.length) (hs : sinksB (stepP ps i).1 (stepP ps i).2 = true) : sinksB (stepP ps (i + 1)).1 (stepP ps (i + 1)).2 = true := by
  cases hc : sinksB (stepP ps (i + 1)).1 (stepP ps (i + 1)).2 with
  | true => rfl
  | false => exact absurd (.inl ⟨hc, hs⟩) (h.sorted i hi)
/-- first the steps that rise, then those that sink -/
theorem split (h : Around ps) : ∃ u, u ≤ ps.length ∧ ∀ i, i < ps.length → (sinksB (stepP ps i).1 (stepP ps i).2 = true ↔ u ≤ i) := by
  have key : ∀ m, m ≤ ps.length → ∃ u, u ≤ m ∧ ∀ i, i < m → (sinksB (stepP ps i).1 (stepP ps i).2 = true ↔ u ≤ i) := by
    intro m
    induction m with
    | zero => intro _; exact ⟨0, Nat.le_refl _, fun i hi => by omega⟩
    | succ m ih =>
      intro hm
      obtain ⟨u, hu, hh⟩ := ih (by omega)
      cases hs : sinksB (stepP ps m).1 (stepP ps m).2 with
      | true =>
        refine ⟨u, by omega, fun i hi => ?_⟩
        by_cases him : i = m
        · subst him; simp [hs, hu]
        · exact hh i (by omega)
      | false =>
        have hum : u = m := by
          by_cases hlt : u < m
          · have h1 := (hh (m - 1) (by omega)).2 (by omega)
            have h2 := h.down_on (i := m - 1) (by omega) h1
            rw [show m - 1 + 1 = m by omega, hs] at h2
            cases h2
          · omega
        refine ⟨m + 1, Nat.le_refl _, fun i hi => ?_⟩
        by_cases him : i = m
        · subst him; simp [hs]
        · rw [hh i (by omega)]; omega
  exact key _ (Nat.le_refl _)
theorem rise (h : Around ps) {i : Nat} (hi : i < ps.length) (hs : sinksB (stepP ps i).1 (stepP ps i).2 = false) : lowP (fromP ps i) (toP ps i) := by
  have := up_of hs (h.ne0 hi)
  unfold stepP at this
  unfold lowP
  simp only at this
  omega
theorem sink (_ : Around ps) {i : Nat} (_ : i < ps.length) (hs : sinksB (stepP ps i).1 (stepP ps i).2 = true) : lowP (toP ps i) (fromP ps i) := by
  have := down_of hs
  unfold stepP at this
  unfold lowP
  simp only at this
  omega
/-- the highest vertex -/
theorem top (h : Around ps) : ∃ u, 1 ≤ u ∧ u < ps.length ∧ (∀ i, i < ps.length → (sinksB (stepP ps i).1 (stepP ps i).2 = true ↔ u ≤ i)) ∧ ∀ j, j < ps.length → j ≠ u → lowP (fromP ps j) (fromP ps u) := by
  obtain ⟨u, hu, hh⟩ := h.split
  have h3 := h.three
  have up : ∀ i, i < ps.length → i < u → lowP (fromP ps i) (toP ps i) := fun i hi hiu => h.rise hi (by
    cases hs : sinksB (stepP ps i).1 (stepP ps i).2 with
    | false => rfl
    | true => have := (hh i hi).1 hs; omega)
  have down : ∀ i, i < ps.length → u ≤ i → lowP (toP ps i) (fromP ps i) := fun i hi hiu => h.sink hi ((hh i hi).2 hiu)
  have nxt : ∀ i, i + 1 < ps.length → toP ps i = fromP ps (i + 1) := fun i hi => by rw [to_from, Nat.mod_eq_of_lt hi]
  have last : toP ps (ps.length - 1) = fromP ps 0 := by rw [to_from, show ps.length - 1 + 1 = ps.length by omega, Nat.mod_self]
  have chainUp : ∀ d i, i + d < ps.length → i + d ≤ u → 0 < d → lowP (fromP ps i) (fromP ps (i + d)) := by
    intro d
    induction d with
    | zero => intro i _ _ h0; omega
    | succ d ih =>
      intro i h1 h2 _
      have e := up (i + d) (by omega) (by omega)
      rw [nxt (i + d) (by omega)] at e
      by_cases hd : d = 0
      · subst hd; exact e
      · exact low_trans (ih i (by omega) (by omega) (by omega)) e
  have chainDown : ∀ d i, i + d < ps.length → u ≤ i → 0 < d → lowP (fromP ps (i + d)) (fromP ps i) := by
    intro d
    induction d with
    | zero => intro i _ _ h0; omega
    | succ d ih =>
      intro i h1 h2 _
      have e := down (i + d) (by omega) (by omega)
      rw [nxt (i + d) (by omega)] at e
      by_cases hd : d = 0
      · subst hd; exact e
      · exact low_trans e (ih i (by omega) (by omega) (by omega))
  have u0 : 1 ≤ u := by
    by_cases h0 : u = 0
    · subst h0
      have e1 := chainDown (ps.length - 1) 0 (by omega) (Nat.le_refl _) (by omega)
      rw [Nat.zero_add] at e1
      have e2 := down (ps.length - 1) (by omega) (Nat.zero_le _)
      rw [last] at e2
      exact absurd (low_trans e2 e1) (low_irrefl _)
    · omega
  have un : u < ps.length := by
    by_cases h0 : u = ps.length
    · have e1 := chainUp (ps.length - 1) 0 (by omega) (by omega) (by omega)
      rw [Nat.zero_add] at e1
      have e2 := up (ps.length - 1) (by omega) (by omega)
      rw [last] at e2
      exact absurd (low_trans e1 e2) (low_irrefl _)
    · omega
  refine ⟨u, u0, un, hh, fun j hj hju => ?_⟩
  by_cases hlt : j < u
  · have := chainUp (u - j) j (by omega) (by omega) (by omega)
    rwa [show j + (u - j) = u by omega] at this
  · have := chainDown (j - u) u (by omega) (Nat.le_refl _) (by omega)
    rwa [show u + (j - u) = j by omega] at this
end Around
theorem minK_low {fs : List Pt} : ∀ k j, j ≤ k → ¬ lowP (fromP fs j) (minK fs k) := by
  intro k
  induction k with
  | zero => intro j hj; obtain rfl : j = 0 := by omega
            exact low_irrefl _
  | succ k ih =>
    intro j hj
    simp only [minK]
    split
    · rename_i hlt
      rw [low_iff] at hlt
      by_cases hjk : j = k + 1
      · subst hjk; exact low_irrefl _
      · exact fun hh => ih j (by omega) (low_trans hh hlt)
    · rename_i hge
      by_cases hjk : j = k + 1
      · subst hjk; rwa [low_iff] at hge
      · exact ih j (by omega)
theorem flipS_top {ps : List Pt} {u : Nat} (hu : u < ps.length) (h : ∀ j, j < ps.length → j ≠ u → lowP (fromP ps j) (fromP ps u)) : flipS ps = u := by
  have hn : 0 < (ps.map negP).length := by rw [neg_length]; omega
  obtain ⟨h1, h2⟩ := idxK_lt (minP_mem hn)
  rw [neg_length] at h1
  change flipS ps < _ at h1
  change (ps.map negP)[flipS ps]? = _ at h2
  have e : negP (fromP ps (flipS ps)) = minP (ps.map negP) := by
    rw [← from_map negP h1]
    exact fromP_of h2
  by_cases hs : flipS ps = u
  · exact hs
  · exfalso
    have h3 := low_neg (h _ h1 hs)
    have h4 := minK_low (fs := ps.map negP) ((ps.map negP).length - 1) u (by rw [neg_length]; omega)
    apply h4
    rw [from_map negP hu]
    show lowP _ (minP (ps.map negP))
    rw [← e]
    exact h3
theorem prev_mod {n i s : Nat} (hi : i < n) (hs : s < n) : (prevI n i + s) % n = prevI n ((i + s) % n) := by
  unfold prevI
  by_cases h0 : i = 0
  · subst h0
    rw [if_pos rfl, Nat.zero_add, Nat.mod_eq_of_lt hs]
    by_cases h1 : s = 0
    · subst h1; rw [if_pos rfl, Nat.add_zero, Nat.mod_eq_of_lt (by omega)]
    · rw [if_neg h1, show n - 1 + s = (s - 1) + n by omega, Nat.add_mod_right, Nat.mod_eq_of_lt (by omega)]
  · rw [if_neg h0]
    by_cases h1 : i + s < n
    · rw [Nat.mod_eq_of_lt h1, if_neg (by omega), Nat.mod_eq_of_lt (by omega)]; omega
    · by_cases h2 : i + s = n
      · rw [h2, Nat.mod_self, if_pos rfl, Nat.mod_eq_of_lt (by omega)]; omega
      · rw [show i + s = (i + s - n) + n by omega, Nat.add_mod_right, Nat.mod_eq_of_lt (show i + s - n < n by omega), if_neg (by omega), show i - 1 + s = (i + s - n - 1) + n by omega, Nat.add_mod_right, Nat.mod_eq_of_lt (by omega)]
theorem around_flip {ps : List Pt} (h : Around ps) : Around (flipP ps) := by
  obtain ⟨u, u1, un, hh, htop⟩ := h.top
  have hS := flipS_top un htop
  have hn0 : 0 < ps.length := by omega
  have hl := flip_length hn0
  have hstep : ∀ k, k < ps.length → stepP (flipP ps) k = negP (stepP ps ((k + u) % ps.length)) := fun k hk => by rw [step_flip hk, hS]
  have same : ∀ a b : Pt, a ≠ (0, 0) → b ≠ (0, 0) → sinksB a.1 a.2 = sinksB b.1 b.2 → ¬ ltA a b → ¬ ltA (negP a) (negP b) := by
    intro a b ha hb hs hn hlt
    rcases hlt with ⟨h1, h2⟩ | ⟨_, h2⟩
    · rw [sinks_neg ha] at h1
      rw [sinks_neg hb, ← hs] at h2
      cases hc : sinksB a.1 a.2 <;> rw [hc] at h1 h2 <;> cases h1 <;> cases h2
    · exact hn (.inr ⟨hs, by have := crossP_neg a b; unfold crossP at this; rw [← this]; exact h2⟩)
  refine ⟨by rw [hl]; exact h.three, fun i hi => ?_, fun i hi => ?_⟩
  · rw [hl] at hi ⊢
    have hp : prevI ps.length i < ps.length := by unfold prevI; split <;> omega
    rw [hstep i hi, hstep _ hp, crossP_neg, prev_mod hi un]
    exact h.turn _ (Nat.mod_lt _ hn0)
  · rw [hl] at hi
    rw [hstep i (by omega), hstep (i + 1) hi]
    by_cases h1 : i + u + 1 < ps.length
    · rw [Nat.mod_eq_of_lt (show i + u < ps.length by omega), Nat.mod_eq_of_lt (show i + 1 + u < ps.length by omega)]
      have e : i + 1 + u = i + u + 1 := by omega
      rw [e]
      refine same _ _ (h.ne0 h1) (h.ne0 (by omega)) ?_ (h.sorted (i + u) h1)
      rw [(hh (i + u) (by omega)).2 (by omega), (hh (i + u + 1) h1).2 (by omega)]
    · by_cases h2 : i + u + 1 = ps.length
      · rw [Nat.mod_eq_of_lt (show i + u < ps.length by omega), show i + 1 + u = ps.length by omega, Nat.mod_self]
        have s0 : sinksB (stepP ps 0).1 (stepP ps 0).2 = false := by
          cases hs : sinksB (stepP ps 0).1 (stepP ps 0).2 with
          | false => rfl
          | true => have := (hh 0 hn0).1 hs; omega
        have s1 := (hh (i + u) (by omega)).2 (by omega)
        rintro (⟨g1, _⟩ | ⟨g1, _⟩)
        · rw [sinks_neg (h.ne0 hn0), s0] at g1; cases g1
        · rw [sinks_neg (h.ne0 hn0), s0, sinks_neg (h.ne0 (by omega)), s1] at g1; cases g1
      · have e1 : (i + u) % ps.length = i + u - ps.length := by
          rw [show i + u = (i + u - ps.length) + ps.length by omega, Nat.add_mod_right, Nat.mod_eq_of_lt (by omega)]; omega
        have e2 : (i + 1 + u) % ps.length = i + u - ps.length + 1 := by
          rw [show i + 1 + u = (i + u - ps.length + 1) + ps.length by omega, Nat.add_mod_right, Nat.mod_eq_of_lt (by omega)]
        rw [e1, e2]
        have hup : ∀ j, j < u → sinksB (stepP ps j).1 (stepP ps j).2 = false := fun j hj => by
          cases hs : sinksB (stepP ps j).1 (stepP ps j).2 with
          | false => rfl
          | true => have := (hh j (by omega)).1 hs; omega
        refine same _ _ (h.ne0 (by omega)) (h.ne0 (by omega)) ?_ (h.sorted (i + u - ps.length) (by omega))
        rw [hup _ (by omega), hup _ (by omega)]
theorem far_flip {ps : List Pt} (h : nearP ps) : (flipP ps).any farP = false := by
  rw [flip_rot, any_rot, List.any_map, List.any_eq_false]
  intro q hq
  have h1 := h q hq
  have h2 : farB (-q.1) (-q.2) = false := by
    unfold farB
    rw [decide_eq_false (by omega), decide_eq_false (by omega), decide_eq_false (by omega), decide_eq_false (by omega)]
    rfl
  simp [Function.comp, farP, negP, h2]
theorem valid_flip {ps : List Pt} (h : validB ps = true) : validB (flipP ps) = true := by
  have h1 := valid_near h
  refine around_valid (around_flip (valid_around h)) ?_ (far_flip h1.1)
  rw [flip_length (by omega)]
  exact h1.2.2
end Go.Proofs.Ytnoacppfgckohaa
