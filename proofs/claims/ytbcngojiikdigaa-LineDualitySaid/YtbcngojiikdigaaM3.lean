import Derived.Test.YtbcngojiikdigaaM2
namespace Go.Proofs.Ytbcngojiikdigaa
/-! The order of the algebra, sums of powers, walks, and the star (pure). -/
def leE (x y : E) : Prop := em x y = y
theorem leE.refl (x : E) : leE x x := em_idem x
theorem leE.trans {x y z : E} (h : leE x y) (k : leE y z) : leE x z := by
  unfold leE at *
  rw [← k, ← em_assoc, h]
theorem leE.antisymm {x y : E} (h : leE x y) (k : leE y x) : x = y := by
  unfold leE at *
  rw [← k, em_comm, h]
theorem le_em (x y : E) : leE x (em x y) := by unfold leE; rw [← em_assoc, em_idem]
theorem le_em' (x y : E) : leE y (em x y) := by rw [em_comm]; exact le_em y x
theorem em_lub {x y z : E} (h : leE x z) (k : leE y z) : leE (em x y) z := by unfold leE at *; rw [em_assoc, k, h]
theorem none_leE (x : E) : leE none x := none_em x
theorem leE_some {a b : Int} : leE (some a) (some b) ↔ a ≤ b := by
  constructor
  · intro h
    change some (if a < b then b else a) = some b at h
    injection h with h
    split at h <;> omega
  · intro h
    show some (if a < b then b else a) = some b
    split
    · rfl
    · exact congrArg some (by omega)
theorem ep_mono {x x' y y' : E} (h : leE x x') (k : leE y y') : leE (ep x y) (ep x' y') := by
  unfold leE at *
  have e : ep x' y' = em (em (ep x y) (ep x y')) (em (ep x' y) (ep x' y')) := by rw [← ep_em, ← ep_em, ← em_ep, h, k]
  rw [e]
  exact (show leE _ _ from (le_em _ _).trans (le_em _ _))
theorem es_le {f : Nat → E} {k : Nat} : ∀ {n : Nat}, k < n → leE (f k) (es f n) := by
  intro n
  induction n with
  | zero => intro h; omega
  | succ n ih =>
    intro h
    by_cases e : k = n
    · subst e; exact le_em' _ _
    · exact (ih (by omega)).trans (le_em _ _)
theorem es_lub {f : Nat → E} {z : E} : ∀ {n : Nat}, (∀ k, k < n → leE (f k) z) → leE (es f n) z := by
  intro n
  induction n with
  | zero => intro _; exact none_leE z
  | succ n ih => intro h; exact em_lub (ih fun k hk => h k (by omega)) (h n (by omega))
theorem em_cases (x y : E) : em x y = x ∨ em x y = y := by
  cases x with
  | none => exact .inr (none_em y)
  | some a =>
    cases y with
    | none => exact .inl rfl
    | some b =>
      show some (if a < b then b else a) = some a ∨ some (if a < b then b else a) = some b
      split
      · exact .inr rfl
      · exact .inl rfl
theorem es_attain {f : Nat → E} : ∀ {n : Nat}, es f n ≠ none → ∃ k, k < n ∧ es f n = f k := by
  intro n
  induction n with
  | zero => intro h; exact absurd rfl h
  | succ n ih =>
    intro h
    simp only [es] at h ⊢
    rcases em_cases (es f n) (f n) with e | e
    · rw [e] at h ⊢
      obtain ⟨k, hk, hf⟩ := ih h
      exact ⟨k, by omega, hf⟩
    · exact ⟨n, by omega, e⟩
/-- the greatest sums of walks with fewer than m arcs -/
def smF (n : Nat) (A : MF) (m : Nat) : MF := fun i j => es (fun k => pwF n A k i j) m
theorem mulF_add (n : Nat) (X Y Z : MF) (i j : Nat) : mulF n X (addF Y Z) i j = em (mulF n X Y i j) (mulF n X Z i j) := by
  unfold mulF addF
  rw [← es_em]
  exact es_congr fun k _ => ep_em _ _ _
theorem smF_mul (n : Nat) (A : MF) (m i j : Nat) : mulF n (smF n A m) A i j = es (fun k => pwF n A (k + 1) i j) m := by
  unfold mulF smF
  rw [show (fun x => ep (es (fun k => pwF n A k i x) m) (A x j)) = fun x => es (fun k => ep (pwF n A k i x) (A x j)) m from funext fun x => es_ep _ _ _]
  rw [es_swap]
  rfl
theorem clos_sum (n : Nat) (A : MF) : ∀ m, eqF n (pwF n (addF oneF A) m) (smF n A (m + 1)) := by
  intro m
  induction m with
  | zero => intro i _ j _; exact (none_em _).symm
  | succ m ih =>
    intro i hi j hj
    show mulF n (pwF n (addF oneF A) m) (addF oneF A) i j = _
    rw [mulF_congr ih (eqF.refl n _) i hi j hj, mulF_add, mulF_one n _ i hi j hj, smF_mul]
    unfold smF
    apply leE.antisymm
    · refine em_lub (es_lub fun k hk => ?_) (es_lub fun k hk => ?_)
      · exact es_le (f := fun k => pwF n A k i j) (by omega)
      · exact es_le (f := fun k => pwF n A k i j) (show k + 1 < m + 1 + 1 by omega)
    · refine es_lub fun k hk => ?_
      by_cases e : k < m + 1
      · exact (es_le (f := fun k => pwF n A k i j) e).trans (le_em _ _)
      · obtain rfl : k = m + 1 := by omega
        exact (es_le (f := fun k => pwF n A (k + 1) i j) (show m < m + 1 by omega)).trans (le_em' _ _)
/-- the sum of a walk -/
def wt (A : MF) (p : Nat → Nat) : Nat → E
  | 0 => some 0
  | k + 1 => ep (wt A p k) (A (p k) (p (k + 1)))
theorem wt_congr {A : MF} {p q : Nat → Nat} : ∀ {k : Nat}, (∀ t, t ≤ k → p t = q t) → wt A p k = wt A q k := by
  intro k
  induction k with
  | zero => intro _; rfl
  | succ k ih =>
    intro h
    simp only [wt]
    rw [ih (fun t ht => h t (by omega)), h k (by omega), h (k + 1) (by omega)]
theorem wt_split (A : MF) (p : Nat → Nat) (a : Nat) : ∀ b, wt A p (a + b) = ep (wt A p a) (wt A (fun t => p (a + t)) b) := by
  intro b
  induction b with
  | zero => exact (ep_zero _).symm
  | succ b ih =>
    show ep (wt A p (a + b)) (A (p (a + b)) (p (a + b + 1))) = _
    rw [ih, ep_assoc]
    rfl
theorem walk_le {n : Nat} {A : MF} {p : Nat → Nat} : ∀ {k : Nat}, (∀ t, t ≤ k → p t < n) → leE (wt A p k) (pwF n A k (p 0) (p k)) := by
  intro k
  induction k with
  | zero =>
    intro _
    show leE (some 0) (oneF (p 0) (p 0))
    unfold oneF
    rw [if_pos rfl]
    exact leE.refl _
  | succ k ih =>
    intro h
    refine (ep_mono (ih fun t ht => h t (by omega)) (leE.refl _)).trans ?_
    exact es_le (f := fun x => ep (pwF n A k (p 0) x) (A x (p (k + 1)))) (h k (by omega))
theorem walk_ex {n : Nat} {A : MF} {i : Nat} (hi : i < n) : ∀ {k j : Nat}, j < n → pwF n A k i j ≠ none → ∃ p : Nat → Nat, p 0 = i ∧ p k = j ∧ (∀ t, t ≤ k → p t < n) ∧ wt A p k = pwF n A k i j := by
  intro k
  induction k with
  | zero =>
    intro j hj h
    have e : i = j := by
      by_cases e : i = j
      · exact e
      · exact absurd (show oneF i j = none by unfold oneF; rw [if_neg e]) h
    subst e
    refine ⟨fun _ => i, rfl, rfl, fun _ _ => hi, ?_⟩
    show some 0 = oneF i i
    unfold oneF
    rw [if_pos rfl]
  | succ k ih =>
    intro j hj h
    obtain ⟨x, hx, e⟩ := es_attain (f := fun x => ep (pwF n A k i x) (A x j)) h
    have e : pwF n A (k + 1) i j = ep (pwF n A k i x) (A x j) := e
    have hne : pwF n A k i x ≠ none := fun e2 => h (by rw [e, e2, none_ep])
    obtain ⟨p, h0, hk, hb, hw⟩ := ih hx hne
    refine ⟨fun t => if t ≤ k then p t else j, by simp [h0], by show (if k + 1 ≤ k then p (k + 1) else j) = j; rw [if_neg (by omega)], fun t ht => ?_, ?_⟩
    · show (if t ≤ k then p t else j) < n
      split
      · exact hb t (by assumption)
      · exact hj
    · show ep (wt A _ k) (A (if k ≤ k then p k else j) (if k + 1 ≤ k then p (k + 1) else j)) = _
      rw [if_pos (Nat.le_refl k), if_neg (by omega), hk, e, ← hw]
      congr 1
      exact wt_congr fun t ht => by show (if t ≤ k then p t else j) = p t; rw [if_pos ht]
theorem pigeon : ∀ (n : Nat) (f : Nat → Nat), (∀ t, t ≤ n → f t < n) → ∃ a b, a < b ∧ b ≤ n ∧ f a = f b := by
  intro n
  induction n with
  | zero => intro f h; have := h 0 (Nat.le_refl 0); omega
  | succ n ih =>
    intro f h
    by_cases hc : ∃ a, a ≤ n ∧ f a = f (n + 1)
    · obtain ⟨a, ha, e⟩ := hc
      exact ⟨a, n + 1, by omega, Nat.le_refl _, e⟩
    · have hne : ∀ t, t ≤ n → f t ≠ f (n + 1) := fun t ht e => hc ⟨t, ht, e⟩
      obtain ⟨a, b, hab, hb, e⟩ := ih (fun t => if f (n + 1) < f t then f t - 1 else f t) (fun t ht => by
        have h1 := h t (by omega)
        have h2 := h (n + 1) (Nat.le_refl _)
        have h3 := hne t ht
        show (if f (n + 1) < f t then f t - 1 else f t) < n
        split <;> omega)
      refine ⟨a, b, hab, by omega, ?_⟩
      have h3 := hne a (by omega)
      have h4 := hne b hb
      change (if f (n + 1) < f a then f a - 1 else f a) = (if f (n + 1) < f b then f b - 1 else f b) at e
      split at e <;> split at e <;> omega
/-- no closed walk with at most n arcs adds anything -/
def NoPos (n : Nat) (A : MF) : Prop := ∀ m, 1 ≤ m → m ≤ n → leE (trF n A m) (some 0)
theorem pw_back {n : Nat} {A : MF} (h : NoPos n A) {i j : Nat} (hi : i < n) (hj : j < n) : leE (pwF n A n i j) (smF n A n i j) := by
  by_cases hne : pwF n A n i j = none
  · rw [hne]; exact none_leE _
  · obtain ⟨p, h0, hk, hb, hw⟩ := walk_ex hi hj hne
    obtain ⟨a, b, hab, hbn, e⟩ := pigeon n p (fun t ht => hb t ht)
    have s1 := wt_split A p a (n - a)
    have s2 := wt_split A (fun t => p (a + t)) (b - a) (n - b)
    rw [show a + (n - a) = n by omega] at s1
    rw [show b - a + (n - b) = n - a by omega] at s2
    have c1 : leE (wt A p a) (pwF n A a i (p a)) := by have := walk_le (n := n) (A := A) (p := p) (k := a) (fun t ht => hb t (by omega)); rwa [h0] at this
    have c2 : leE (wt A (fun t => p (a + t)) (b - a)) (some 0) := by
      have h1 := walk_le (n := n) (A := A) (p := fun t => p (a + t)) (k := b - a) (fun t ht => hb (a + t) (by omega))
      have h2 : p (a + (b - a)) = p a := by rw [show a + (b - a) = b by omega]; exact e.symm
      change leE _ (pwF n A (b - a) (p a) (p (a + (b - a)))) at h1
      rw [h2] at h1
      exact (h1.trans (es_le (f := fun x => pwF n A (b - a) x x) (hb a (by omega)))).trans (h (b - a) (by omega) (by omega))
    have c3 : leE (wt A (fun t => p (a + (b - a + t))) (n - b)) (pwF n A (n - b) (p a) j) := by
      have h1 := walk_le (n := n) (A := A) (p := fun t => p (a + (b - a + t))) (k := n - b) (fun t ht => hb _ (by omega))
      have h2 : p (a + (b - a + 0)) = p a := by rw [show a + (b - a + 0) = b by omega]; exact e.symm
      have h3 : p (a + (b - a + (n - b))) = j := by rw [show a + (b - a + (n - b)) = n by omega]; exact hk
      change leE _ (pwF n A (n - b) (p (a + (b - a + 0))) (p (a + (b - a + (n - b))))) at h1
      rwa [h2, h3] at h1
    rw [← hw, s1, s2]
    refine (ep_mono c1 (ep_mono c2 c3)).trans ?_
    rw [zero_ep]
    have c4 : leE (ep (pwF n A a i (p a)) (pwF n A (n - b) (p a) j)) (mulF n (pwF n A a) (pwF n A (n - b)) i j) := es_le (f := fun x => ep (pwF n A a i x) (pwF n A (n - b) x j)) (hb a (by omega))
    rw [← pwF_add n A a (n - b) i hi j hj] at c4
    exact c4.trans (es_le (f := fun k => pwF n A k i j) (by omega))
theorem pw_star {n : Nat} {A : MF} (hn : 1 ≤ n) (h : NoPos n A) : ∀ k i j, i < n → j < n → leE (pwF n A k i j) (smF n A n i j) := by
  intro k
  induction k with
  | zero => intro i j _ _; exact es_le (f := fun k => pwF n A k i j) (by omega)
  | succ k ih =>
    intro i j hi hj
    have h1 : leE (pwF n A (k + 1) i j) (mulF n (smF n A n) A i j) := es_lub fun x hx => (ep_mono (ih i x hi hx) (leE.refl _)).trans (es_le (f := fun x => ep (smF n A n i x) (A x j)) hx)
    refine h1.trans ?_
    rw [smF_mul]
    refine es_lub fun t ht => ?_
    by_cases e : t + 1 < n
    · exact es_le (f := fun k => pwF n A k i j) e
    · obtain rfl : n = t + 1 := by omega
      exact pw_back h hi hj
/-- the star is idempotent -/
theorem star_idem {n : Nat} {A : MF} (hn : 1 ≤ n) (h : NoPos n A) : eqF n (mulF n (smF n A n) (smF n A n)) (smF n A n) := fun i hi j hj => by
  apply leE.antisymm
  · refine es_lub fun x hx => ?_
    show leE (ep (es (fun k => pwF n A k i x) n) (es (fun k => pwF n A k x j) n)) _
    rw [es_ep]
    refine es_lub fun k _ => ?_
    rw [ep_es]
    refine es_lub fun l _ => ?_
    have c : leE (ep (pwF n A k i x) (pwF n A l x j)) (mulF n (pwF n A k) (pwF n A l) i j) := es_le (f := fun x => ep (pwF n A k i x) (pwF n A l x j)) hx
    rw [← pwF_add n A k l i hi j hj] at c
    exact c.trans (pw_star hn h _ i j hi hj)
  · have c : leE (ep (oneF i i) (smF n A n i j)) (mulF n (smF n A n) (smF n A n) i j) :=
      (ep_mono (es_le (f := fun k => pwF n A k i i) (show 0 < n by omega)) (leE.refl _)).trans (es_le (f := fun x => ep (smF n A n i x) (smF n A n x j)) hi)
    unfold oneF at c
    rw [if_pos rfl, zero_ep] at c
    exact c
theorem mul_pw (n : Nat) (A : MF) (k : Nat) : eqF n (mulF n A (pwF n A k)) (pwF n A (k + 1)) := by
  have h1 := pwF_add n A 1 k
  rw [Nat.add_comm] at h1
  exact ((mulF_congr (show eqF n A (pwF n A 1) from (one_mulF n A).symm) (eqF.refl n _)).trans h1.symm)
/-- the star's equation -/
theorem star_eq {n : Nat} {A : MF} (hn : 1 ≤ n) (h : NoPos n A) {i j : Nat} (hi : i < n) (hj : j < n) : smF n A n i j = em (mulF n A (smF n A n) i j) (oneF i j) := by
  have e : mulF n A (smF n A n) i j = es (fun k => pwF n A (k + 1) i j) n := by
    unfold mulF
    rw [show (fun x => ep (A i x) (smF n A n x j)) = fun x => es (fun k => ep (A i x) (pwF n A k x j)) n from funext fun x => ep_es _ _ _, es_swap]
    exact es_congr fun k _ => mul_pw n A k i hi j hj
  rw [e]
  apply leE.antisymm
  · refine es_lub fun k hk => ?_
    cases k with
    | zero => exact le_em' _ _
    | succ k => exact (es_le (f := fun k => pwF n A (k + 1) i j) (show k < n by omega)).trans (le_em _ _)
  · exact em_lub (es_lub fun k _ => pw_star hn h _ i j hi hj) (es_le (f := fun k => pwF n A k i j) (show 0 < n by omega))
/-- the best mean is at least every mean -/
theorem spK_best (n : Nat) (A : MF) : ∀ m, (∀ m', 1 ≤ m' → m' ≤ m → ∀ t, trF n A m' = some t → 0 < (spK n A m).2 ∧ t * (spK n A m).2 ≤ (spK n A m).1 * (m' : Int)) ∧ 0 ≤ (spK n A m).2 := by
  intro m
  induction m with
  | zero => exact ⟨fun m' h1 h2 => by omega, by simp [spK]⟩
  | succ m ih =>
    obtain ⟨ih, h0⟩ := ih
    simp only [spK]
    cases ht : trF n A (m + 1) with
    | none =>
      simp only
      refine ⟨fun m' h1 h2 t e => ?_, h0⟩
      by_cases hm : m' = m + 1
      · subst hm; rw [ht] at e; cases e
      · exact ih m' h1 (by omega) t e
    | some t =>
      simp only
      generalize spK n A m = s at *
      obtain ⟨N, d⟩ := s
      simp only at ih h0 ⊢
      split
      · rename_i hc
        refine ⟨fun m' h1 h2 t' e => ⟨by simp only; omega, ?_⟩, by simp only; omega⟩
        simp only
        by_cases hm : m' = m + 1
        · subst hm
          rw [ht] at e
          injection e with e
          subst e
          simp
        · obtain ⟨hd, hb⟩ := ih m' h1 (by omega) t' e
          rcases hc with hc | hc
          · omega
          · have g1 : t' * d * ((m : Int) + 1) ≤ N * (m' : Int) * ((m : Int) + 1) := Int.mul_le_mul_of_nonneg_right hb (by omega)
            have g2 : N * ((m : Int) + 1) * (m' : Int) ≤ t * d * (m' : Int) := Int.mul_le_mul_of_nonneg_right (by omega) (by omega)
            have g3 : d * (t' * ((m : Int) + 1)) ≤ d * (t * (m' : Int)) := by
              have e1 : d * (t' * ((m : Int) + 1)) = t' * d * ((m : Int) + 1) := by grind
              have e2 : d * (t * (m' : Int)) = t * d * (m' : Int) := by grind
              have e3 : N * (m' : Int) * ((m : Int) + 1) = N * ((m : Int) + 1) * (m' : Int) := by grind
              rw [e1, e2]
              omega
            exact Int.le_of_mul_le_mul_left g3 hd
      · rename_i hc
        refine ⟨fun m' h1 h2 t' e => ?_, h0⟩
        by_cases hm : m' = m + 1
        · subst hm
          rw [ht] at e
          injection e with e
          subst e
          refine ⟨by omega, ?_⟩
          have : ¬ N * ((m : Int) + 1) < t * d := fun h => hc (.inr h)
          have e : (((m + 1 : Nat)) : Int) = (m : Int) + 1 := by omega
          rw [e]
          show t * d ≤ N * ((m : Int) + 1)
          omega
        · exact ih m' h1 (by omega) t' e
/-- a speed that is not above 0 leaves no closed walk above 0 -/
theorem sp_noPos {n : Nat} {A : MF} (h : ∀ p q, spF n A = some (p, q) → p ≤ 0) : NoPos n A := fun m h1 h2 => by
  cases ht : trF n A m with
  | none => exact none_leE _
  | some t =>
    obtain ⟨hd, hb⟩ := (spK_best n A n).1 m h1 h2 t ht
    unfold spF at h
    rw [if_neg (by omega)] at h
    have hp := h _ _ rfl
    have hg : 0 < (Int.gcd (spK n A n).1 (spK n A n).2 : Int) := by
      have := Int.gcd_pos_of_ne_zero_right (spK n A n).1 (show (spK n A n).2 ≠ 0 by omega)
      omega
    have hdv : (spK n A n).1.tdiv (Int.gcd (spK n A n).1 (spK n A n).2 : Int) * (Int.gcd (spK n A n).1 (spK n A n).2 : Int) = (spK n A n).1 := Int.tdiv_mul_cancel (Int.gcd_dvd_left ..)
    have hN : (spK n A n).1 ≤ 0 := by
      rw [← hdv]
      exact Int.mul_nonpos_of_nonpos_of_nonneg hp (by omega)
    refine leE_some.2 ?_
    have h3 : (spK n A n).1 * (m : Int) ≤ 0 := Int.mul_nonpos_of_nonpos_of_nonneg hN (by omega)
    have h4 : t * (spK n A n).2 ≤ 0 * (spK n A n).2 := by omega
    exact Int.le_of_mul_le_mul_right h4 hd
end Go.Proofs.Ytbcngojiikdigaa
