import Derived.Test.YtbcngojiikdigaaGreatM2
import Derived.Test.YtbcngojiikdigaaGreatL27
import Derived.Test.YtbcngojiikdigaaGreatL33
namespace Go.Proofs.YtbcngojiikdigaaGreat
/-! The order of the algebra, sums of powers, walks, and the star (pure). -/
def leE (x y : E) : Prop := em x y = y
theorem leE.refl (x : E) : leE x x := em_idem x
theorem leE.trans {x y z : E} (h : leE x y) (k : leE y z) : leE x z := by
  unfold leE at *
  rw [← k, ← em_assoc, h]
theorem leE.antisymm {x y : E} (h : leE x y) (k : leE y x) : x = y := by
  unfold leE at *
  rw [← k, em_comm, h]
theorem le_em (x y : E) : leE x (em x y) := by unfold leE; rw [← em_assoc, em_idem]
theorem le_em' (x y : E) : leE y (em x y) := by rw [em_comm]; exact le_em y x
theorem em_lub {x y z : E} (h : leE x z) (k : leE y z) : leE (em x y) z := by unfold leE at *; rw [em_assoc, k, h]
theorem none_leE (x : E) : leE none x := none_em x
theorem leE_some {a b : Int} : leE (some a) (some b) ↔ a ≤ b := by
  constructor
  · intro h
    change some (if a < b then b else a) = some b at h
    injection h with h
    split at h <;> omega
  · intro h
    show some (if a < b then b else a) = some b
    split
    · rfl
    · exact congrArg some (by omega)
theorem ep_mono {x x' y y' : E} (h : leE x x') (k : leE y y') : leE (ep x y) (ep x' y') := by
  unfold leE at *
  have e : ep x' y' = em (em (ep x y) (ep x y')) (em (ep x' y) (ep x' y')) := by rw [← ep_em, ← ep_em, ← em_ep, h, k]
  rw [e]
  exact (show leE _ _ from (le_em _ _).trans (le_em _ _))
theorem es_le {f : Nat → E} {k : Nat} : ∀ {n : Nat}, k < n → leE (f k) (es f n) := by
  intro n
  induction n with
  | zero => intro h; omega
  | succ n ih =>
    intro h
    by_cases e : k = n
    · subst e; exact le_em' _ _
    · exact (ih (by omega)).trans (le_em _ _)
theorem es_lub {f : Nat → E} {z : E} : ∀ {n : Nat}, (∀ k, k < n → leE (f k) z) → leE (es f n) z := by
  intro n
  induction n with
  | zero => intro _; exact none_leE z
  | succ n ih => intro h; exact em_lub (ih fun k hk => h k (by omega)) (h n (by omega))
theorem em_cases (x y : E) : em x y = x ∨ em x y = y := by
  cases x with
  | none => exact .inr (none_em y)
  | some a =>
    cases y with
    | none => exact .inl rfl
    | some b =>
      show some (if a < b then b else a) = some a ∨ some (if a < b then b else a) = some b
      split
      · exact .inr rfl
      · exact .inl rfl
theorem es_attain {f : Nat → E} : ∀ {n : Nat}, es f n ≠ none → ∃ k, k < n ∧ es f n = f k := by
  intro n
  induction n with
  | zero => intro h; exact absurd rfl h
  | succ n ih =>
    intro h
    simp only [es] at h ⊢
    rcases em_cases (es f n) (f n) with e | e
    · rw [e] at h ⊢
      obtain ⟨k, hk, hf⟩ := ih h
      exact ⟨k, by omega, hf⟩
    · exact ⟨n, by omega, e⟩
/-- the greatest sums of walks with fewer than m arcs -/
def smF (n : Nat) (A : MF) (m : Nat) : MF := fun i j => es (fun k => pwF n A k i j) m
theorem mulF_add (n : Nat) (X Y Z : MF) (i j : Nat) : mulF n X (addF Y Z) i j = em (mulF n X Y i j) (mulF n X Z i j) := by
  unfold mulF addF
  rw [← es_em]
  exact es_congr fun k _ => ep_em _ _ _
theorem smF_mul (n : Nat) (A : MF) (m i j : Nat) : mulF n (smF n A m) A i j = es (fun k => pwF n A (k + 1) i j) m := by
  unfold mulF smF
  rw [show (fun x => ep (es (fun k => pwF n A k i x) m) (A x j)) = fun x => es (fun k => ep (pwF n A k i x) (A x j)) m from funext fun x => es_ep _ _ _]
  rw [es_swap]
  rfl
theorem clos_sum (n : Nat) (A : MF) : ∀ m, eqF n (pwF n (addF oneF A) m) (smF n A (m + 1)) := by
  intro m
  induction m with
  | zero => intro i _ j _; exact (none_em _).symm
  | succ m ih =>
    intro i hi j hj
    show mulF n (pwF n (addF oneF A) m) (addF oneF A) i j = _
    rw [mulF_congr ih (eqF.refl n _) i hi j hj, mulF_add, mulF_one n _ i hi j hj, smF_mul]
    unfold smF
    apply leE.antisymm
    · refine em_lub (es_lub fun k hk => ?_) (es_lub fun k hk => ?_)
      · exact es_le (f := fun k => pwF n A k i j) (by omega)
      · exact es_le (f := fun k => pwF n A k i j) (show k + 1 < m + 1 + 1 by omega)
    · refine es_lub fun k hk => ?_
      by_cases e : k < m + 1
      · exact (es_le (f := fun k => pwF n A k i j) e).trans (le_em _ _)
      · obtain rfl : k = m + 1 := by omega
        exact (es_le (f := fun k => pwF n A (k + 1) i j) (show m < m + 1 by omega)).trans (le_em' _ _)
/-- the sum of a walk -/
def wt (A : MF) (p : Nat → Nat) : Nat → E
  | 0 => some 0
  | k + 1 => ep (wt A p k) (A (p k) (p (k + 1)))
theorem wt_congr {A : MF} {p q : Nat → Nat} : ∀ {k : Nat}, (∀ t, t ≤ k → p t = q t) → wt A p k = wt A q k := by
  intro k
  induction k with
  | zero => intro _; rfl
  | succ k ih =>
    intro h
    simp only [wt]
    rw [ih (fun t ht => h t (by omega)), h k (by omega), h (k + 1) (by omega)]
theorem wt_split (A : MF) (p : Nat → Nat) (a : Nat) : ∀ b, wt A p (a + b) = ep (wt A p a) (wt A (fun t => p (a + t)) b) := by
  intro b
  induction b with
  | zero => exact (ep_zero _).symm
  | succ b ih =>
    show ep (wt A p (a + b)) (A (p (a + b)) (p (a + b + 1))) = _
    rw [ih, ep_assoc]
    rfl
theorem walk_le {n : Nat} {A : MF} {p : Nat → Nat} : ∀ {k : Nat}, (∀ t, t ≤ k → p t < n) → leE (wt A p k) (pwF n A k (p 0) (p k)) := by
  intro k
  induction k with
  | zero =>
    intro _
    show leE (some 0) (oneF (p 0) (p 0))
    unfold oneF
    rw [if_pos rfl]
    exact leE.refl _
  | succ k ih =>
    intro h
    refine (ep_mono (ih fun t ht => h t (by omega)) (leE.refl _)).trans ?_
    exact es_le (f := fun x => ep (pwF n A k (p 0) x) (A x (p (k + 1)))) (h k (by omega))
theorem walk_ex {n : Nat} {A : MF} {i : Nat} (hi : i < n) : ∀ {k j : Nat}, j < n → pwF n A k i j ≠ none → ∃ p : Nat → Nat, p 0 = i ∧ p k = j ∧ (∀ t, t ≤ k → p t < n) ∧ wt A p k = pwF n A k i j := by
  intro k
  induction k with
  | zero =>
    intro j hj h
    have e : i = j := by
      by_cases e : i = j
      · exact e
      · exact absurd (show oneF i j = none by unfold oneF; rw [if_neg e]) h
    subst e
    refine ⟨fun _ => i, rfl, rfl, fun _ _ => hi, ?_⟩
    show some 0 = oneF i i
    unfold oneF
    rw [if_pos rfl]
  | succ k ih =>
    intro j hj h
    obtain ⟨x, hx, e⟩ := es_attain (f := fun x => ep (pwF n A k i x) (A x j)) h
    have e : pwF n A (k + 1) i j = ep (pwF n A k i x) (A x j) := e
    have hne : pwF n A k i x ≠ none := fun e2 => h (by rw [e, e2, none_ep])
    obtain ⟨p, h0, hk, hb, hw⟩ := ih hx hne
    refine ⟨fun t => if t ≤ k then p t else j, by simp [h0], by show (if k + 1 ≤ k then p (k + 1) else j) = j; rw [if_neg (by omega)], fun t ht => ?_, ?_⟩
    · show (if t ≤ k then p t else j) < n
      split
      · exact hb t (by assumption)
      · exact hj
    · show ep (wt A _ k) (A (if k ≤ k then p k else j) (if k + 1 ≤ k then p (k + 1) else j)) = _
      rw [if_pos (Nat.le_refl k), if_neg (by omega), hk, e, ← hw]
      congr 1
      exact wt_congr fun t ht => by show (if t ≤ k then p t else j) = p t; rw [if_pos ht]
theorem pigeon : ∀ (n : Nat) (f : Nat → Nat), (∀ t, t ≤ n → f t < n) → ∃ a b, a < b ∧ b ≤ n ∧ f a = f b := by
  intro n
  induction n with
  | zero => intro f h; have := h 0 (Nat.le_refl 0); omega
  | succ n ih =>
    intro f h
    by_cases hc : ∃ a, a ≤ n ∧ f a = f (n + 1)
    · obtain ⟨a, ha, e⟩ := hc
      exact ⟨a, n + 1, by omega, Nat.le_refl _, e⟩
    · have hne : ∀ t, t ≤ n → f t ≠ f (n + 1) := fun t ht e => hc ⟨t, ht, e⟩
      obtain ⟨a, b, hab, hb, e⟩ := ih (fun t => if f (n + 1) < f t then f t - 1 else f t) (fun t ht => by
        have h1 := h t (by omega)
        have h2 := h (n + 1) (Nat.le_refl _)
        have h3 := hne t ht
        show (if f (n + 1) < f t then f t - 1 else f t) < n
        split <;> omega)
      refine ⟨a, b, hab, by omega, ?_⟩
      have h3 := hne a (by omega)
      have h4 := hne b hb
      change (if f (n + 1) < f a then f a - 1 else f a) = (if f (n + 1) < f b then f b - 1 else f b) at e
      split at e <;> split at e <;> omega
/-- no closed walk with at most n arcs adds anything -/
def NoPos (n : Nat) (A : MF) : Prop := ∀ m, 1 ≤ m → m ≤ n → leE (trF n A m) (some 0)
theorem pw_back {n : Nat} {A : MF} (h : NoPos n A) {i j : Nat} (hi : i < n) (hj : j < n) : leE (pwF n A n i j) (smF n A n i j) := by
  by_cases hne : pwF n A n i j = none
  · rw [hne]; exact none_leE _
  · obtain ⟨p, h0, hk, hb, hw⟩ := walk_ex hi hj hne
    obtain ⟨a, b, hab, hbn, e⟩ := pigeon n p (fun t ht => hb t ht)
    have s1 := wt_split A p a (n - a)
    have s2 := wt_split A (fun t => p (a + t)) (b - a) (n - b)
    rw [show a + (n - a) = n by omega] at s1
    rw [show b - a + (n - b) = n - a by omega] at s2
    have c1 : leE (wt A p a) (pwF n A a i (p a)) := by have := walk_le (n := n) (A := A) (p := p) (k := a) (fun t ht => hb t (by omega)); rwa [h0] at this
    have c2 : leE (wt A (fun t => p (a + t)) (b - a)) (some 0) := by
      have h1 := walk_le (n := n) (A := A) (p := fun t => p (a + t)) (k := b - a) (fun t ht => hb (a + t) (by omega))
      have h2 : p (a + (b - a)) = p a := by rw [show a + (b - a) = b by omega]; exact e.symm
      change leE _ (pwF n A (b - a) (p a) (p (a + (b - a)))) at h1
      rw [h2] at h1
      exact (h1.trans (es_le (f := fun x => pwF n A (b - a) x x) (hb a (by omega)))).trans (h (b - a) (by omega) (by omega))
    have c3 : leE (wt A (fun t => p (a + (b - a + t))) (n - b)) (pwF n A (n - b) (p a) j) := by
      have h1 := walk_le (n := n) (A := A) (p := fun t => p (a + (b - a + t))) (k := n - b) (fun t ht => hb _ (by omega))
      have h2 : p (a + (b - a + 0)) = p a := by rw [show a + (b - a + 0) = b by omega]; exact e.symm
      have h3 : p (a + (b - a + (n - b))) = j := by rw [show a + (b - a + (n - b)) = n by omega]; exact hk
      change leE _ (pwF n A (n - b) (p (a + (b - a + 0))) (p (a + (b - a + (n - b))))) at h1
      rwa [h2, h3] at h1
    rw [← hw, s1, s2]
    refine (ep_mono c1 (ep_mono c2 c3)).trans ?_
    rw [zero_ep]
    have c4 : leE (ep (pwF n A a i (p a)) (pwF n A (n - b) (p a) j)) (mulF n (pwF n A a) (pwF n A (n - b)) i j) := es_le (f := fun x => ep (pwF n A a i x) (pwF n A (n - b) x j)) (hb a (by omega))
    rw [← pwF_add n A a (n - b) i hi j hj] at c4
    exact c4.trans (es_le (f := fun k => pwF n A k i j) (by omega))
theorem pw_star {n : Nat} {A : MF} (hn : 1 ≤ n) (h : NoPos n A) : ∀ k i j, i < n → j < n → leE (pwF n A k i j) (smF n A n i j) := by
  intro k
  induction k with
  | zero => intro i j _ _; exact es_le (f := fun k => pwF n A k i j) (by omega)
  | succ k ih =>
    intro i j hi hj
    have h1 : leE (pwF n A (k + 1) i j) (mulF n (smF n A n) A i j) := es_lub fun x hx => (ep_mono (ih i x hi hx) (leE.refl _)).trans (es_le (f := fun x => ep (smF n A n i x) (A x j)) hx)
    refine h1.trans ?_
    rw [smF_mul]
    refine es_lub fun t ht => ?_
    by_cases e : t + 1 < n
    · exact es_le (f := fun k => pwF n A k i j) e
    · obtain rfl : n = t + 1 := by omega
      exact pw_back h hi hj
/-- the star is idempotent -/
theorem star_idem {n : Nat} {A : MF} (hn : 1 ≤ n) (h : NoPos n A) : eqF n (mulF n (smF n A n) (smF n A n)) (smF n A n) := fun i hi j hj => by
  apply leE.antisymm
  · refine es_lub fun x hx => ?_
    show leE (ep (es (fun k => pwF n A k i x) n) (es (fun k => pwF n A k x j) n)) _
    rw [es_ep]
    refine es_lub fun k _ => ?_
    rw [ep_es]
    refine es_lub fun l _ => ?_
    have c : leE (ep (pwF n A k i x) (pwF n A l x j)) (mulF n (pwF n A k) (pwF n A l) i j) := es_le (f := fun x => ep (pwF n A k i x) (pwF n A l x j)) hx
    rw [← pwF_add n A k l i hi j hj] at c
    exact c.trans (pw_star hn h _ i j hi hj)
  · have c : leE (ep (oneF i i) (smF n A n i j)) (mulF n (smF n A n) (smF n A n) i j) :=
      (ep_mono (es_le (f := fun k => pwF n A k i i) (show 0 < n by omega)) (leE.refl _)).trans (es_le (f := fun x => ep (smF n A n i x) (smF n A n x j)) hi)
    unfold oneF at c
    rw [if_pos rfl, zero_ep] at c
    exact c
theorem mul_pw (n : Nat) (A : MF) (k : Nat) : eqF n (mulF n A (pwF n A k)) (pwF n A (k + 1)) := by
  have h1 := pwF_add n A 1 k
  rw [Nat.add_comm] at h1
  exact ((mulF_congr (show eqF n A (pwF n A 1) from (one_mulF n A).symm) (eqF.refl n _)).trans h1.symm)
/-- the star's equation -/
theorem star_eq {n : Nat} {A : MF} (hn : 1 ≤ n) (h : NoPos n A) {i j : Nat} (hi : i < n) (hj : j < n) : smF n A n i j = em (mulF n A (smF n A n) i j) (oneF i j) := by
  have e : mulF n A (smF n A n) i j = es (fun k => pwF n A (k + 1) i j) n := by
    unfold mulF
    rw [show (fun x => ep (A i x) (smF n A n x j)) = fun x => es (fun k => ep (A i x) (pwF n A k x j)) n from funext fun x => ep_es _ _ _, es_swap]
    exact es_congr fun k _ => mul_pw n A k i hi j hj
  rw [e]
  apply leE.antisymm
  · refine es_lub fun k hk => ?_
    cases k with
    | zero => exact le_em' _ _
    | succ k => exact (es_le (f := fun k => pwF n A (k + 1) i j) (show k < n by omega)).trans (le_em _ _)
  · exact em_lub (es_lub fun k _ => pw_star hn h _ i j hi hj) (es_le (f := fun k => pwF n A k i j) (show 0 < n by omega))
/-- the best mean is at least every mean -/
theorem spK_best (n : Nat) (A : MF) : ∀ m, (∀ m', 1 ≤ m' → m' ≤ m → ∀ t, trF n A m' = some t → 0 < (spK n A m).2 ∧ t * (spK n A m).2 ≤ (spK n A m).1 * (m' : Int)) ∧ 0 ≤ (spK n A m).2 := by
  intro m
  induction m with
  | zero => exact ⟨fun m' h1 h2 => by omega, by simp [spK]⟩
  | succ m ih =>
    obtain ⟨ih, h0⟩ := ih
    simp only [spK]
    cases ht : trF n A (m + 1) with
    | none =>
      simp only
      refine ⟨fun m' h1 h2 t e => ?_, h0⟩
      by_cases hm : m' = m + 1
      · subst hm; rw [ht] at e; cases e
      · exact ih m' h1 (by omega) t e
    | some t =>
      simp only
      generalize spK n A m = s at *
      obtain ⟨N, d⟩ := s
      simp only at ih h0 ⊢
      split
      · rename_i hc
        refine ⟨fun m' h1 h2 t' e => ⟨by simp only; omega, ?_⟩, by simp only; omega⟩
        simp only
        by_cases hm : m' = m + 1
        · subst hm
          rw [ht] at e
          injection e with e
          subst e
          simp
        · obtain ⟨hd, hb⟩ := ih m' h1 (by omega) t' e
          rcases hc with hc | hc
          · omega
          · have g1 : t' * d * ((m : Int) + 1) ≤ N * (m' : Int) * ((m : Int) + 1) := Int.mul_le_mul_of_nonneg_right hb (by omega)
            have g2 : N * ((m : Int) + 1) * (m' : Int) ≤ t * d * (m' : Int) := Int.mul_le_mul_of_nonneg_right (by omega) (by omega)
            have g3 : d * (t' * ((m : Int) + 1)) ≤ d * (t * (m' : Int)) := by
              have e1 : d * (t' * ((m : Int) + 1)) = t' * d * ((m : Int) + 1) := by grind
              have e2 : d * (t * (m' : Int)) = t * d * (m' : Int) := by grind
              have e3 : N * (m' : Int) * ((m : Int) + 1) = N * ((m : Int) + 1) * (m' : Int) := by grind
              rw [e1, e2]
              omega
            exact Int.le_of_mul_le_mul_left g3 hd
      · rename_i hc
        refine ⟨fun m' h1 h2 t' e => ?_, h0⟩
        by_cases hm : m' = m + 1
        · subst hm
          rw [ht] at e
          injection e with e
          subst e
          refine ⟨by omega, ?_⟩
          have : ¬ N * ((m : Int) + 1) < t * d := fun h => hc (.inr h)
          have e : (((m + 1 : Nat)) : Int) = (m : Int) + 1 := by omega
          rw [e]
          show t * d ≤ N * ((m : Int) + 1)
          omega
        · exact ih m' h1 (by omega) t' e
/-- a speed that is not above 0 leaves no closed walk above 0 -/
theorem sp_noPos {n : Nat} {A : MF} (h : ∀ p q, spF n A = some (p, q) → p ≤ 0) : NoPos n A := fun m h1 h2 => by
  cases ht : trF n A m with
  | none => exact none_leE _
  | some t =>
    obtain ⟨hd, hb⟩ := (spK_best n A n).1 m h1 h2 t ht
    unfold spF at h
    rw [if_neg (by omega)] at h
    have hp := h _ _ rfl
    have hg : 0 < (Int.gcd (spK n A n).1 (spK n A n).2 : Int) := by
      have := Int.gcd_pos_of_ne_zero_right (spK n A n).1 (show (spK n A n).2 ≠ 0 by omega)
      omega
    have hdv : (spK n A n).1.tdiv (Int.gcd (spK n A n).1 (spK n A n).2 : Int) * (Int.gcd (spK n A n).1 (spK n A n).2 : Int) = (spK n A n).1 := Int.tdiv_mul_cancel (Int.gcd_dvd_left ..)
    have hN : (spK n A n).1 ≤ 0 := by
      rw [← hdv]
      exact Int.mul_nonpos_of_nonpos_of_nonneg hp (by omega)
    refine leE_some.2 ?_
    have h3 : (spK n A n).1 * (m : Int) ≤ 0 := Int.mul_nonpos_of_nonpos_of_nonneg hN (by omega)
    have h4 : t * (spK n A n).2 ≤ 0 * (spK n A n).2 := by omega
    exact Int.le_of_mul_le_mul_right h4 hd
end Go.Proofs.YtbcngojiikdigaaGreat

namespace Go.Proofs.YtbcngojiikdigaaGreat
/-! The level matrix: no closed walk above 0, a critical vertex, the eigenvector's equation (pure). -/
/-- a sum of m arcs, in units of 1/q and relative to p -/
def lvM (p q : Int) (m : Nat) : E → E
  | none => none
  | some x => some (q * x - p * m)
theorem lvM_em (p q : Int) (hq : 0 < q) (m : Nat) (x y : E) : lvM p q m (em x y) = em (lvM p q m x) (lvM p q m y) := by
  cases x with
  | none => rfl
  | some a =>
    cases y with
    | none => rfl
    | some b =>
      show some (q * (if a < b then b else a) - p * m) = some (if q * a - p * m < q * b - p * m then q * b - p * m else q * a - p * m)
      congr 1
      by_cases h : a < b
      · have : q * a < q * b := Int.mul_lt_mul_of_pos_left h hq
        rw [if_pos h, if_pos (by omega)]
      · have : q * b ≤ q * a := Int.mul_le_mul_of_nonneg_left (by omega) (by omega)
        rw [if_neg h, if_neg (by omega)]
theorem lvM_ep (p q : Int) (m k : Nat) (x y : E) : lvM p q (m + k) (ep x y) = ep (lvM p q m x) (lvM p q k y) := by
  cases x with
  | none => rfl
  | some a =>
    cases y with
    | none => rfl
    | some b =>
      show some (q * (a + b) - p * ((m + k : Nat) : Int)) = some (q * a - p * m + (q * b - p * k))
      congr 1
      rw [Int.natCast_add]
      grind
theorem lvM_es (p q : Int) (hq : 0 < q) (m : Nat) (f : Nat → E) : ∀ n, lvM p q m (es f n) = es (fun k => lvM p q m (f k)) n := by
  intro n
  induction n with
  | zero => rfl
  | succ n ih => simp only [es]; rw [lvM_em p q hq, ih]
theorem lv_pw {p q : Int} (hq : 0 < q) (n : Nat) (A : MF) : ∀ m, eqF n (pwF n (lvF p q A) m) (fun i j => lvM p q m (pwF n A m i j)) := by
  intro m
  induction m with
  | zero =>
    intro i _ j _
    show oneF i j = lvM p q 0 (oneF i j)
    unfold oneF
    split
    · show some 0 = some (q * 0 - p * 0)
      simp
    · rfl
  | succ m ih =>
    intro i hi j hj
    show mulF n (pwF n (lvF p q A) m) (lvF p q A) i j = lvM p q (m + 1) (mulF n (pwF n A m) A i j)
    unfold mulF
    rw [lvM_es p q hq]
    refine es_congr fun k hk => ?_
    rw [lvM_ep, ih i hi k hk]
    congr 1
    show lvE p q (A k j) = lvM p q 1 (A k j)
    cases A k j with
    | none => rfl
    | some x => simp [lvE, lvM]
theorem lv_tr {p q : Int} (hq : 0 < q) (n : Nat) (A : MF) (m : Nat) : trF n (lvF p q A) m = lvM p q m (trF n A m) := by
  unfold trF
  rw [lvM_es p q hq]
  exact es_congr fun i hi => lv_pw hq n A m i hi i hi
/-- the best mean is a mean -/
theorem spK_is (n : Nat) (A : MF) : ∀ m, (spK n A m).2 ≠ 0 → ∃ m', 1 ≤ m' ∧ m' ≤ m ∧ trF n A m' = some (spK n A m).1 ∧ (spK n A m).2 = (m' : Int) := by
  intro m
  induction m with
  | zero => intro h; exact absurd rfl h
  | succ m ih =>
    simp only [spK]
    cases ht : trF n A (m + 1) with
    | none =>
      intro h
      obtain ⟨m', h1, h2, h3⟩ := ih h
      exact ⟨m', h1, by omega, h3⟩
    | some t =>
      simp only
      split
      · intro _
        exact ⟨m + 1, by omega, Nat.le_refl _, ht, by simp⟩
      · intro h
        obtain ⟨m', h1, h2, h3⟩ := ih h
        exact ⟨m', h1, by omega, h3⟩
/-- the speed and the best mean -/
theorem sp_parts {n : Nat} {A : MF} {p q : Int} (h : spF n A = some (p, q)) : ∃ g : Int, 0 < g ∧ (spK n A n).1 = p * g ∧ (spK n A n).2 = q * g ∧ 0 < q := by
  unfold spF at h
  split at h
  · cases h
  · rename_i hne
    injection h with h
    injection h with h1 h2
    have hd0 := (spK_best n A n).2
    have hg : 0 < (Int.gcd (spK n A n).1 (spK n A n).2 : Int) := by
      have := Int.gcd_pos_of_ne_zero_right (spK n A n).1 hne
      omega
    have e1 : (spK n A n).1.tdiv (Int.gcd (spK n A n).1 (spK n A n).2 : Int) * (Int.gcd (spK n A n).1 (spK n A n).2 : Int) = (spK n A n).1 := Int.tdiv_mul_cancel (Int.gcd_dvd_left ..)
    have e2 : (spK n A n).2.tdiv (Int.gcd (spK n A n).1 (spK n A n).2 : Int) * (Int.gcd (spK n A n).1 (spK n A n).2 : Int) = (spK n A n).2 := Int.tdiv_mul_cancel (Int.gcd_dvd_right ..)
    rw [h1] at e1
    rw [h2] at e2
    refine ⟨_, hg, e1.symm, e2.symm, ?_⟩
    by_cases hq : 0 < q
    · exact hq
    · have : q * (Int.gcd (spK n A n).1 (spK n A n).2 : Int) ≤ 0 := Int.mul_nonpos_of_nonpos_of_nonneg (by omega) (by omega)
      omega
theorem lv_noPos {n : Nat} {A : MF} {p q : Int} (h : spF n A = some (p, q)) : NoPos n (lvF p q A) := fun m h1 h2 => by
  obtain ⟨g, hg, e1, e2, hq⟩ := sp_parts h
  rw [lv_tr hq]
  cases ht : trF n A m with
  | none => exact none_leE _
  | some t =>
    obtain ⟨_, hb⟩ := (spK_best n A n).1 m h1 h2 t ht
    rw [e1, e2] at hb
    refine leE_some.2 ?_
    have h3 : (q * t) * g ≤ (p * (m : Int)) * g := by
      have a1 : t * (q * g) = (q * t) * g := by grind
      have a2 : p * g * (m : Int) = (p * (m : Int)) * g := by grind
      omega
    have := Int.le_of_mul_le_mul_right h3 hg
    omega
/-- some vertex lies on a closed walk with the sum 0 -/
theorem crit_ex {n : Nat} {A : MF} {p q : Int} (hn : 1 ≤ n) (h : spF n A = some (p, q)) : ∃ f rest, critL n (lvF p q A) n = f :: rest ∧ f < n ∧ mulF n (lvF p q A) (closF n (lvF p q A)) f f = some 0 := by
  have hNP := lv_noPos h
  obtain ⟨g, hg, e1, e2, hq⟩ := sp_parts h
  have hd : (spK n A n).2 ≠ 0 := by rw [e2]; exact Int.mul_ne_zero (by omega) (by omega)
  obtain ⟨m, h1, h2, ht, hm⟩ := spK_is n A n hd
  have htr : trF n (lvF p q A) m = some 0 := by
    rw [lv_tr hq, ht]
    show some (q * (spK n A n).1 - p * (m : Int)) = some 0
    congr 1
    rw [← hm, e1, e2]
    grind
  generalize lvF p q A = B at *
  obtain ⟨i, hi, e⟩ := es_attain (f := fun i => pwF n B m i i) (n := n) (by show trF n B m ≠ none; rw [htr]; simp)
  have hii : pwF n B m i i = some 0 := by rw [← e]; exact htr
  have hBS : ∀ i, i < n → mulF n B (closF n B) i i = es (fun k => pwF n B (k + 1) i i) n := fun i hi => by
    have hcs : eqF n (closF n B) (smF n B n) := by
      have h := clos_sum n B (n - 1)
      rw [show n - 1 + 1 = n by omega] at h
      exact h
    rw [mulF_congr (eqF.refl n B) hcs i hi i hi]
    unfold mulF
    rw [show (fun x => ep (B i x) (smF n B n x i)) = fun x => es (fun k => ep (B i x) (pwF n B k x i)) n from funext fun x => ep_es _ _ _, es_swap]
    exact es_congr fun k _ => mul_pw n B k i hi i hi
  have hz : mulF n B (closF n B) i i = some 0 := by
    rw [hBS i hi]
    apply leE.antisymm
    · exact es_lub fun k hk => (es_le (f := fun i => pwF n B (k + 1) i i) hi).trans (hNP (k + 1) (by omega) (by omega))
    · have := es_le (f := fun k => pwF n B (k + 1) i i) (show m - 1 < n by omega)
      rw [show m - 1 + 1 = m by omega, hii] at this
      exact this
  have hmem : i ∈ critL n B n := by
    unfold critL
    rw [List.mem_filter]
    exact ⟨List.mem_range.2 hi, by rw [hz]; rfl⟩
  cases hc : critL n B n with
  | nil => rw [hc] at hmem; cases hmem
  | cons f rest =>
    refine ⟨f, rest, rfl, ?_⟩
    have hf : f ∈ critL n B n := by rw [hc]; exact List.mem_cons_self ..
    unfold critL at hf
    rw [List.mem_filter, List.mem_range] at hf
    refine ⟨hf.1, ?_⟩
    have := hf.2
    unfold zB at this
    simpa using this
end Go.Proofs.YtbcngojiikdigaaGreat

namespace Go.Proofs.YtbcngojiikdigaaGreat
set_option maxRecDepth 100000
open Go.RowKit Go.Shelf
theorem two_inj {a b c d : Value} (h : two a b = two c d) : a = c ∧ b = d := by simpa [two] using h
theorem clos_star {n : Nat} (A : MF) (hn : 1 ≤ n) : eqF n (closF n A) (smF n A n) := by
  have h := clos_sum n A (n - 1)
  rw [show n - 1 + 1 = n by omega] at h
  exact h
theorem clos_idem {n : Nat} {A : MF} (hn : 1 ≤ n) (h : NoPos n A) : eqF n (mulF n (closF n A) (closF n A)) (closF n A) :=
  ((mulF_congr (clos_star A hn) (clos_star A hn)).trans (star_idem hn h)).trans (clos_star A hn).symm
theorem clos_eq {n : Nat} {A : MF} (hn : 1 ≤ n) (h : NoPos n A) {i j : Nat} (hi : i < n) (hj : j < n) : closF n A i j = em (mulF n A (closF n A) i j) (oneF i j) := by
  rw [clos_star A hn i hi j hj, star_eq hn h hi hj, mulF_congr (eqF.refl n A) (clos_star A hn) i hi j hj]
theorem clos_bd {n : Nat} {A : MF} (hn : n ≤ 6) (bA : bdF 1000 n A) : bdF 6000 n (closF n A) := by
  have h : bdF (1000 * ((n - 1 : Nat) : Int)) n (closF n A) := bdF_pw (bdF_add ((bdF_one n).mono (by decide)) bA) (n - 1)
  exact h.mono (by omega)
theorem val_max0 {x : E} (hx : bdE KB x) : val (em x (some 0)) = if val x < 0 then 0 else val x := val_em_max hx (fun y hy => by injection hy with hy; subst hy; unfold KB; omega)
theorem list_short {n : Nat} {A : MF} (h : n ≤ 6) : ∀ r ∈ listM n A, r.length ≤ 1000000 := fun r hr => by rw [listM_row hr]; omega
open Go.RowKit Go.Shelf
/-! The eigenvector (pure) -/
theorem wB_em (x y : E) : wB (em x y) = (wB x || wB y) := by
  cases x with
  | none => rw [none_em]; rfl
  | some a => cases y with
    | none => rfl
    | some b => rfl
theorem wB_ep (x y : E) : wB (ep x y) = (wB x && wB y) := by cases x <;> cases y <;> rfl
theorem wB_es {f g : Nat → E} : ∀ {n : Nat}, (∀ k, k < n → wB (f k) = wB (g k)) → wB (es f n) = wB (es g n) := by
  intro n
  induction n with
  | zero => intro _; rfl
  | succ n ih =>
    intro h
    simp only [es]
    rw [wB_em, wB_em, ih (fun k hk => h k (by omega)), h n (by omega)]
theorem wB_mul {n : Nat} {A B C D : MF} (h : ∀ i, i < n → ∀ j, j < n → wB (A i j) = wB (C i j)) (k : ∀ i, i < n → ∀ j, j < n → wB (B i j) = wB (D i j)) {i j : Nat} (hi : i < n) (hj : j < n) : wB (mulF n A B i j) = wB (mulF n C D i j) := by
  unfold mulF
  refine wB_es fun l hl => ?_
  rw [wB_ep, wB_ep, h i hi l hl, k l hl j hj]
theorem wB_pw {n : Nat} {A B : MF} (h : ∀ i, i < n → ∀ j, j < n → wB (A i j) = wB (B i j)) : ∀ m i j, i < n → j < n → wB (pwF n A m i j) = wB (pwF n B m i j) := by
  intro m
  induction m with
  | zero => intro i j _ _; rfl
  | succ m ih =>
    intro i j hi hj
    exact wB_mul (fun i hi j hj => ih i j hi hj) h hi hj
theorem wB_clos {n : Nat} {A : MF} {i j : Nat} (hi : i < n) (hj : j < n) : wB (closF n (arcF A) i j) = wB (closF n A i j) := by
  refine wB_pw (fun i _ j _ => ?_) _ _ _ hi hj
  show wB (em (oneF i j) (arcF A i j)) = wB (em (oneF i j) (A i j))
  rw [wB_em, wB_em]
  congr 1
  unfold arcF arcE
  cases A i j <;> rfl
/-- connected: the closure has an entry everywhere -/
theorem conn_some {n : Nat} {A : MF} (h : connB n A = true) {i j : Nat} (hi : i < n) (hj : j < n) : ∃ y, closF n A i j = some y := by
  have h1 : wB (closF n (arcF A) i j) = true := by
    cases hw : wB (closF n (arcF A) i j) with
    | true => rfl
    | false =>
      unfold connB at h
      rw [noneMB_true hi (noneB_true hj hw)] at h
      cases h
  rw [wB_clos hi hj] at h1
  cases hc : closF n A i j with
  | none => rw [hc] at h1; cases h1
  | some y => exact ⟨y, rfl⟩
theorem eig_ok {n : Nat} {A : MF} {p q : Int} (hn : 1 ≤ n) (h : spF n A = some (p, q)) (hc : connB n (lvF p q A) = true) : EigOk n (lvF p q A) := by
  obtain ⟨f, rest, h1, h2, _⟩ := crit_ex hn h
  exact ⟨f, rest, h1, h2, fun i hi => conn_some hc hi h2⟩
/-- the column of a critical vertex is an eigenvector of the level matrix -/
theorem eig_eq {n : Nat} {B : MF} {f : Nat} (hn : 1 ≤ n) (hN : NoPos n B) (hf : f < n) (hz : mulF n B (closF n B) f f = some 0) {i : Nat} (hi : i < n) : vecF n B (fun j => closF n B j f) i = closF n B i f := by
  show mulF n B (closF n B) i f = closF n B i f
  have h := clos_eq hn hN hi hf
  by_cases e : i = f
  · subst e
    rw [h, hz]
    simp only [oneF, if_pos]
    rfl
  · rw [show oneF i f = none by simp [oneF, e], em_none] at h
    exact h.symm
/-- shifting a vector -/
theorem vecF_shift {n : Nat} {B : MF} {x : Nat → E} (c : Int) (i : Nat) : vecF n B (fun j => ep (x j) (some c)) i = ep (vecF n B x i) (some c) := by
  unfold vecF
  rw [es_ep]
  exact es_congr fun k _ => (ep_assoc _ _ _).symm
/-- powers keep it -/
theorem eig_pw {n : Nat} {B : MF} {v : Nat → E} (h : ∀ i, i < n → vecF n B v i = v i) : ∀ k i, i < n → vecF n (pwF n B k) v i = v i := by
  intro k
  induction k with
  | zero =>
    intro i hi
    show es (fun j => ep (oneF i j) (v j)) n = v i
    rw [es_one hi (fun k _ hk => by rw [show oneF i k = none by simp [oneF, Ne.symm hk]]; rfl)]
    rw [show oneF i i = some 0 by simp [oneF], zero_ep]
  | succ k ih =>
    intro i hi
    show vecF n (mulF n (pwF n B k) B) v i = v i
    rw [vecF_mul]
    rw [show vecF n (pwF n B k) (vecF n B v) i = vecF n (pwF n B k) v i from es_congr fun j hj => by rw [h j hj]]
    exact ih i hi
/-- what lies between shifts of an eigenvector stays between -/
theorem eig_up {n : Nat} {B : MF} {v x : Nat → E} (h : ∀ i, i < n → vecF n B v i = v i) {c : Int} (hx : ∀ i, i < n → leE (x i) (ep (v i) (some c))) (k : Nat) : ∀ i, i < n → leE (vecF n (pwF n B k) x i) (ep (v i) (some c)) := by
  intro i hi
  rw [← eig_pw h k i hi, ← vecF_shift]
  refine es_lub fun j hj => ?_
  exact (ep_mono (leE.refl _) (hx j hj)).trans (es_le (f := fun j => ep (pwF n B k i j) (ep (v j) (some c))) hj)
theorem eig_down {n : Nat} {B : MF} {v x : Nat → E} (h : ∀ i, i < n → vecF n B v i = v i) {c : Int} (hx : ∀ i, i < n → leE (ep (v i) (some c)) (x i)) (k : Nat) : ∀ i, i < n → leE (ep (v i) (some c)) (vecF n (pwF n B k) x i) := by
  intro i hi
  rw [← eig_pw h k i hi, ← vecF_shift]
  refine es_lub fun j hj => ?_
  exact (ep_mono (leE.refl _) (hx j hj)).trans (es_le (f := fun j => ep (pwF n B k i j) (x j)) hj)
/-- the run in units of 1/q, relative to p a step -/
theorem run_lv {n : Nat} {A : MF} {p q : Int} (hq : 0 < q) (x : Nat → E) (k : Nat) : ∀ i, i < n → lvM p q k (vecF n (pwF n A k) x i) = vecF n (pwF n (lvF p q A) k) (fun j => lvM p q 0 (x j)) i := by
  intro i hi
  unfold vecF
  rw [lvM_es p q hq]
  refine es_congr fun j hj => ?_
  rw [show k = k + 0 from rfl, lvM_ep, lv_pw hq n A (k + 0) i hi j hj]
  rfl
/-- the eigenvector's numbers -/
def eigV (n : Nat) (B : MF) (f i : Nat) : Int := colZ n B f i - mnK (colL n B f) (n - 1)
theorem mnK_le (xs : List Int) : ∀ k j, j ≤ k → mnK xs k ≤ xs.getD j 0 := by
  intro k
  induction k with
  | zero => intro j hj; obtain rfl : j = 0 := by omega
            exact Int.le_refl _
  | succ k ih =>
    intro j hj
    simp only [mnK]
    by_cases e : j = k + 1
    · subst e
      split <;> omega
    · have := ih j (by omega)
      split <;> omega
theorem mnK_is (xs : List Int) : ∀ k, ∃ j, j ≤ k ∧ mnK xs k = xs.getD j 0 := by
  intro k
  induction k with
  | zero => exact ⟨0, Nat.le_refl _, rfl⟩
  | succ k ih =>
    obtain ⟨j, hj, e⟩ := ih
    simp only [mnK]
    split
    · exact ⟨k + 1, Nat.le_refl _, rfl⟩
    · exact ⟨j, by omega, e⟩
theorem colL_getD {n : Nat} (B : MF) (f : Nat) {i : Nat} (hi : i < n) : (colL n B f).getD i 0 = colZ n B f i := by
  rw [List.getD_eq_getElem?_getD, colL_at B f hi]; rfl
theorem eigV_min {n : Nat} (hn : 1 ≤ n) (B : MF) (f : Nat) : (∀ i, i < n → 0 ≤ eigV n B f i) ∧ ∃ i, i < n ∧ eigV n B f i = 0 := by
  constructor
  · intro i hi
    have := mnK_le (colL n B f) (n - 1) i (by omega)
    rw [colL_getD B f hi] at this
    unfold eigV
    omega
  · obtain ⟨j, hj, e⟩ := mnK_is (colL n B f) (n - 1)
    rw [colL_getD B f (by omega : j < n)] at e
    exact ⟨j, by omega, by unfold eigV; omega⟩
theorem eigV_bd {n f : Nat} {B : MF} (hn : 1 ≤ n) (h6 : n ≤ 6) (hB : bdF 12000 n B) (hf : f < n) (hc : ∀ i, i < n → ∃ y, closF n B i f = some y) : ∀ i, i < n → eigV n B f i ≤ 144000 := by
  intro i hi
  have h1 := colZ_bd hB h6 hf hc
  obtain ⟨j, hj, e⟩ := mnK_is (colL n B f) (n - 1)
  rw [colL_getD B f (by omega : j < n)] at e
  have := h1 i hi
  have := h1 j (by omega)
  unfold eigV
  omega
theorem eigV_eq {n : Nat} {A : MF} {p q : Int} {f : Nat} {rest : List Nat} (hn : 1 ≤ n) (h : spF n A = some (p, q)) (hc : connB n (lvF p q A) = true) (hcr : critL n (lvF p q A) n = f :: rest) :
    ∀ i, i < n → vecF n (lvF p q A) (fun j => some (eigV n (lvF p q A) f j)) i = some (eigV n (lvF p q A) f i) := by
  intro i hi
  obtain ⟨f', rest', h1, h2, h3⟩ := crit_ex hn h
  rw [hcr] at h1
  injection h1 with e1 e2
  subst e1
  have hNP := lv_noPos h
  have hS : ∀ j, j < n → ep (closF n (lvF p q A) j f) (some (- mnK (colL n (lvF p q A) f) (n - 1))) = some (eigV n (lvF p q A) f j) := fun j hj => by
    obtain ⟨y, hy⟩ := conn_some hc hj h2
    unfold eigV colZ
    rw [hy]
    show some (y + - _) = some (y - _)
    rw [Int.sub_eq_add_neg]
  rw [← hS i hi]
  have e := eig_eq hn hNP h2 h3 hi
  rw [show vecF n (lvF p q A) (fun j => some (eigV n (lvF p q A) f j)) i = vecF n (lvF p q A) (fun j => ep (closF n (lvF p q A) j f) (some (- mnK (colL n (lvF p q A) f) (n - 1)))) i from es_congr fun j hj => by
    show ep _ (some _) = ep _ (ep _ _)
    rw [hS j hj]]
  rw [vecF_shift, e]
theorem lvE_zero (p q : Int) (x : E) : lvE p q x = ep (lvE 0 q x) (some (-p)) := by
  cases x with
  | none => rfl
  | some a =>
    show some (q * a - p) = some (q * a - 0 + -p)
    congr 1
    omega
/-- the equation in the law's own form -/
theorem eig_law {n : Nat} {A : MF} {p q : Int} {f : Nat} {rest : List Nat} (hn : 1 ≤ n) (h : spF n A = some (p, q)) (hc : connB n (lvF p q A) = true) (hcr : critL n (lvF p q A) n = f :: rest) :
    ∀ i, i < n → es (fun j => ep (lvE 0 q (A i j)) (some (eigV n (lvF p q A) f j))) n = some (p + eigV n (lvF p q A) f i) := by
  intro i hi
  have e := eigV_eq hn h hc hcr i hi
  generalize eigV n (lvF p q A) f = V at *
  have e2 : ep (es (fun j => ep (lvE 0 q (A i j)) (some (V j))) n) (some (-p)) = some (V i) := by
    rw [es_ep, ← e]
    unfold vecF
    refine es_congr fun j _ => ?_
    show _ = ep (lvE p q (A i j)) (some (V j))
    rw [lvE_zero p q, ep_assoc, ep_assoc, ep_comm (some (V j))]
  cases hz : es (fun j => ep (lvE 0 q (A i j)) (some (V j))) n with
  | none => rw [hz] at e2; cases e2
  | some z =>
    rw [hz] at e2
    have e3 : z + -p = V i := by injection e2
    congr 1
    omega
/-- the run stays as near as it began -/
theorem eig_run {n : Nat} {A : MF} {p q : Int} {f : Nat} {rest : List Nat} (hn : 1 ≤ n) (h : spF n A = some (p, q)) (hc : connB n (lvF p q A) = true) (hcr : critL n (lvF p q A) n = f :: rest)
    {x : Nat → E} {X : Nat → Int} {lo hi : Int} (hx : ∀ i, i < n → x i = some (X i)) (hlo : ∀ i, i < n → lo ≤ q * X i - eigV n (lvF p q A) f i ∧ q * X i - eigV n (lvF p q A) f i ≤ hi) (k : Nat) :
    ∀ i, i < n → ∃ y, vecF n (pwF n A k) x i = some y ∧ lo ≤ q * y - k * p - eigV n (lvF p q A) f i ∧ q * y - k * p - eigV n (lvF p q A) f i ≤ hi := by
  intro i hi'
  have hq : 0 < q := (sp_parts h).choose_spec.2.2.2
  have e := eigV_eq hn h hc hcr
  generalize eigV n (lvF p q A) f = V at *
  have r := run_lv hq x k i hi' (A := A) (p := p)
  have hs : ∀ j, j < n → lvM p q 0 (x j) = some (q * X j) := fun j hj => by
    rw [hx j hj]
    show some (q * X j - p * 0) = _
    simp
  have u := eig_up (x := fun j => lvM p q 0 (x j)) (c := hi) e (fun j hj => by
    show leE (lvM p q 0 (x j)) (ep (some (V j)) (some hi))
    rw [hs j hj]
    refine leE_some.2 ?_
    have := hlo j hj
    omega) k i hi'
  have d := eig_down (x := fun j => lvM p q 0 (x j)) (c := lo) e (fun j hj => by
    show leE (ep (some (V j)) (some lo)) (lvM p q 0 (x j))
    rw [hs j hj]
    refine leE_some.2 ?_
    have := hlo j hj
    omega) k i hi'
  rw [← r] at u d
  cases hy : vecF n (pwF n A k) x i with
  | none =>
    rw [hy] at d
    exact absurd d (by intro hd; cases hd)
  | some y =>
    rw [hy] at u d
    have u' := leE_some.1 u
    have d' := leE_some.1 d
    have hpk : p * (k : Int) = (k : Int) * p := Int.mul_comm _ _
    refine ⟨y, rfl, ?_, ?_⟩ <;> omega
/-- the run's numbers are small -/
theorem run_bd {n : Nat} {A : MF} (bA : bdF 1000 n A) {x : Nat → E} (hx : ∀ i, i < n → bdE 1000000 (x i)) {k : Nat} (hk : k ≤ 1000) : ∀ i, i < n → bdE 2000000 (vecF n (pwF n A k) x i) := by
  intro i hi
  refine bdE_es fun j hj => ?_
  have := bdE_ep (bdF_pw bA k i hi j hj) (hx j hj)
  exact this.mono (by omega)
/-! What the law asks of it -/
theorem qz_bd {q z K : Int} (hq : 1 ≤ q ∧ q ≤ 6) (hz : -K ≤ z ∧ z ≤ K) : -(6 * K) ≤ q * z ∧ q * z ≤ 6 * K := by
  obtain ⟨h1, h2⟩ := hq
  have : q = 1 ∨ q = 2 ∨ q = 3 ∨ q = 4 ∨ q = 5 ∨ q = 6 := by omega
  rcases this with rfl | rfl | rfl | rfl | rfl | rfl <;> omega
theorem mul_bd2 {m p : Int} (hm : 0 ≤ m ∧ m ≤ 999) (hp : -6000 ≤ p ∧ p ≤ 6000) : -6000000 ≤ m * p ∧ m * p ≤ 6000000 := by
  have h1 : m * p ≤ m * 6000 := Int.mul_le_mul_of_nonneg_left hp.2 hm.1
  have h2 : m * (-6000) ≤ m * p := Int.mul_le_mul_of_nonneg_left hp.1 hm.1
  omega
theorem startF_small {x : List Int} {n : Nat} (h : ∀ j, j < n → -1000000 ≤ x.getD j 0 ∧ x.getD j 0 ≤ 1000000) : ∀ j, j < n → startF x j = some (x.getD j 0) := fun j hj => by
  have := h j hj
  unfold startF unv
  rw [if_neg]
  unfold NV
  omega
theorem vecB_small {x : List Int} {n : Nat} (hl : x.length = n) (h : ∀ j, j < n → -1000000 ≤ x.getD j 0 ∧ x.getD j 0 ≤ 1000000) : vecB x n = true := by
  unfold vecB
  rw [decide_eq_true hl, Bool.true_and, Bool.not_eq_true', Bool.eq_false_iff]
  intro e
  obtain ⟨z, hz, he⟩ := List.any_eq_true.1 e
  obtain ⟨j, hj⟩ := List.getElem?_of_mem hz
  have hb := h j (by have := lt_len hj; omega)
  rw [List.getD_eq_getElem?_getD, hj] at hb
  have hb2 : -1000000 ≤ z ∧ z ≤ 1000000 := hb
  rw [show vecE z = true by unfold vecE; rw [Bool.or_eq_true]; right; rw [Bool.and_eq_true, decide_eq_true_eq, decide_eq_true_eq]; omega] at he
  cases he
theorem run_small {A : List (List Int)} {x : List Int} (bA : bdF 1000 A.length (entF A)) (h : ∀ j, j < A.length → -1000000 ≤ x.getD j 0 ∧ x.getD j 0 ≤ 1000000) {m : Nat} (hm : m ≤ 999) : (runL A x m).any (fun z => !resE z) = false := by
  rw [Bool.eq_false_iff]
  intro e
  obtain ⟨z, hz, he⟩ := List.any_eq_true.1 e
  obtain ⟨j, hj⟩ := List.getElem?_of_mem hz
  have hl := lt_len hj
  unfold runL at hj hl
  rw [listV_len] at hl
  rw [listV_at _ hl] at hj
  injection hj with hj
  have hb := run_bd bA (x := startF x) (fun i hi => by rw [startF_small h i hi]; intro y hy; injection hy with hy; subst hy; exact h i hi) (k := m) (by omega) j hl
  rw [show resE z = true by
    rw [← hj]
    cases hv : vecF A.length (pwF A.length (entF A) m) (startF x) j with
    | none => rfl
    | some y =>
      have := hb y hv
      show resE y = true
      unfold resE; rw [Bool.or_eq_true]; right; rw [Bool.and_eq_true, decide_eq_true_eq, decide_eq_true_eq]; omega] at he
  cases he
theorem runL_len (A : List (List Int)) (x : List Int) (m : Nat) : (runL A x m).length = A.length := by unfold runL; exact listV_len _ _
/-- the run, as the law looks at it -/
theorem run_law {A : List (List Int)} {x : List Int} {p q : Int} {f : Nat} {rest : List Nat} (hn : 1 ≤ A.length) (bA : bdF 1000 A.length (entF A)) (h : spF A.length (entF A) = some (p, q)) (hc : connB A.length (lvF p q (entF A)) = true) (hcr : critL A.length (lvF p q (entF A)) A.length = f :: rest)
    (lo hi : Int) (hx : ∀ j, j < A.length → lo ≤ q * x.getD j 0 - eigV A.length (lvF p q (entF A)) f j ∧ q * x.getD j 0 - eigV A.length (lvF p q (entF A)) f j ≤ hi ∧ -1000000 ≤ x.getD j 0 ∧ x.getD j 0 ≤ 1000000) (m : Nat) (hm : m ≤ 999) :
    ∀ i, i < A.length → lo ≤ q * (runL A x m).getD i 0 - (m : Int) * p - eigV A.length (lvF p q (entF A)) f i ∧ q * (runL A x m).getD i 0 - (m : Int) * p - eigV A.length (lvF p q (entF A)) f i ≤ hi ∧ -2000000 ≤ (runL A x m).getD i 0 ∧ (runL A x m).getD i 0 ≤ 2000000 := by
  intro i hi'
  have hsm := startF_small (x := x) (n := A.length) (fun j hj => (hx j hj).2.2)
  obtain ⟨y, hy, h1, h2⟩ := eig_run (lo := lo) (hi := hi) hn h hc hcr hsm (fun j hj => ⟨(hx j hj).1, (hx j hj).2.1⟩) m i hi'
  have hb := run_bd bA (x := startF x) (fun i hi => by rw [hsm i hi]; intro y hy; injection hy with hy; subst hy; exact (hx i hi).2.2) (k := m) (by omega) i hi' y hy
  have hg : (runL A x m).getD i 0 = y := by
    rw [List.getD_eq_getElem?_getD]
    unfold runL
    rw [listV_at _ hi', hy]
    rfl
  rw [hg]
  exact ⟨h1, h2, hb.1, hb.2⟩
theorem ints_getD {w : World} {v : Value} {xs : List Int} (h : Ints w v xs) (h1 : 1 ≤ xs.length) : ∃ b o cap, v = .slice (some ⟨b, o, none⟩) xs.length cap ∧ ∀ i, i < xs.length → w.cell? ⟨b, o + i, none⟩ = some (.int .i64 (xs.getD i 0)) := by
  obtain ⟨a, cap, hv, _, _, hr⟩ := h.at
  obtain ⟨z, hz⟩ := getElem?_len (show 0 < xs.length by omega)
  obtain ⟨b, o, ha, _⟩ := hr 0 z hz
  refine ⟨b, o, cap, by rw [hv, ha], fun i hi => ?_⟩
  obtain ⟨y, hy⟩ := getElem?_len hi
  obtain ⟨b', o', ha', hc⟩ := hr i y hy
  rw [ha] at ha'
  simp only [Option.some.injEq, Addr.mk.injEq, and_true] at ha'
  obtain ⟨rfl, rfl⟩ := ha'
  rw [hc, List.getD_eq_getElem?_getD, hy]
  rfl
end Go.Proofs.YtbcngojiikdigaaGreat

namespace Go.Proofs.YtbcngojiikdigaaGreat
/-! Potentials, a shortest cycle with the sum 0, and the speed of other matrices (pure). -/
def potF (n : Nat) (B : MF) : Nat → E := vecF n (closF n B) (fun _ => some 0)
theorem clos_diag {n : Nat} {B : MF} (hn : 1 ≤ n) {i : Nat} (hi : i < n) : leE (some 0) (closF n B i i) := by
  rw [clos_star B hn i hi i hi]
  have h := es_le (f := fun k => pwF n B k i i) (n := n) (k := 0) (by omega)
  have e : pwF n B 0 i i = some 0 := by show oneF i i = some 0; unfold oneF; rw [if_pos rfl]
  simp only [e] at h
  exact h
theorem pot_ge {n : Nat} {B : MF} {i k : Nat} (hk : k < n) : leE (closF n B i k) (potF n B i) := by
  have h := es_le (f := fun j => ep (closF n B i j) (some 0)) (n := n) hk
  simp only [ep_zero] at h
  unfold potF vecF
  simp only [ep_zero]
  exact h
theorem pot_pos {n : Nat} {B : MF} (hn : 1 ≤ n) {i : Nat} (hi : i < n) : leE (some 0) (potF n B i) := leE.trans (clos_diag hn hi) (pot_ge hi)
theorem pot_arc {n : Nat} {B : MF} (hn : 1 ≤ n) (h : NoPos n B) {i j : Nat} (hi : i < n) (hj : j < n) : leE (ep (B i j) (potF n B j)) (potF n B i) := by
  have e : ep (B i j) (potF n B j) = es (fun k => ep (B i j) (closF n B j k)) n := by
    unfold potF vecF
    rw [ep_es]
    simp only [ep_zero]
  rw [e]
  refine es_lub fun k hk => ?_
  have h1 : leE (ep (B i j) (closF n B j k)) (mulF n B (closF n B) i k) := es_le (f := fun x => ep (B i x) (closF n B x k)) hj
  have h2 : leE (mulF n B (closF n B) i k) (closF n B i k) := (congrArg (leE (mulF n B (closF n B) i k)) (clos_eq hn h hi hk)).mpr (le_em _ _)
  exact (h1.trans h2).trans (pot_ge hk)
theorem pot_zero {n : Nat} {B : MF} (hn : 1 ≤ n) (h : NoPos n B) : ∃ i, i < n ∧ potF n B i = some 0 := by
  have h0 := pot_pos (B := B) hn (show 0 < n by omega)
  have hne : potF n B 0 ≠ none := fun e => by rw [e] at h0; cases h0
  obtain ⟨j, hj, e⟩ := es_attain (f := fun j => ep (closF n B 0 j) (some 0)) (n := n) hne
  have e2 : potF n B 0 = closF n B 0 j := by rw [ep_zero] at e; exact e
  refine ⟨j, hj, leE.antisymm ?_ (pot_pos hn hj)⟩
  have e3 : potF n B j = es (fun k => closF n B j k) n := by unfold potF vecF; simp only [ep_zero]
  rw [e3]
  refine es_lub fun k hk => ?_
  have h1 : leE (ep (closF n B 0 j) (closF n B j k)) (closF n B 0 k) := by
    have h2 := clos_idem hn h 0 (by omega) k hk
    have h3 : leE (ep (closF n B 0 j) (closF n B j k)) (mulF n (closF n B) (closF n B) 0 k) := es_le (f := fun x => ep (closF n B 0 x) (closF n B x k)) hj
    rw [h2] at h3
    exact h3
  have h4 := h1.trans (pot_ge (B := B) (i := 0) hk)
  rw [e2] at h4 hne
  cases hc : closF n B 0 j with
  | none => exact absurd hc hne
  | some c =>
    rw [hc] at h4
    cases hx : closF n B j k with
    | none => exact none_leE _
    | some x =>
      rw [hx] at h4
      have := leE_some.1 (show leE (some (c + x)) (some c) from h4)
      exact leE_some.2 (by omega)
theorem pot_bd {n : Nat} {B : MF} (hn : n ≤ 6) (hB : bdF 12000 n B) {i : Nat} (hi : i < n) : bdE 60000 (potF n B i) := by
  have hb : bdF (12000 * ((n - 1 : Nat) : Int)) n (closF n B) := bdF_pw (bdF_add ((bdF_one n).mono (by decide)) hB) (n - 1)
  have e3 : potF n B i = es (fun k => closF n B i k) n := by unfold potF vecF; simp only [ep_zero]
  rw [e3]
  exact bdE_es fun k hk => (hb i hi k hk).mono (by omega)
/-- the least below n of which p holds; n: there is none -/
def fstF (p : Nat → Bool) : Nat → Nat
  | 0 => 0
  | n + 1 => if fstF p n < n then fstF p n else if p n then n else n + 1
theorem fst_le (p : Nat → Bool) : ∀ n, fstF p n ≤ n ∧ (fstF p n < n → p (fstF p n) = true) ∧ ∀ y, y < fstF p n → p y = false := by
  intro n
  induction n with
  | zero => exact ⟨Nat.le_refl _, fun h => absurd h (by simp [fstF]), fun y h => absurd h (by simp [fstF])⟩
  | succ n ih =>
    obtain ⟨h1, h2, h3⟩ := ih
    simp only [fstF]
    by_cases h : fstF p n < n
    · rw [if_pos h]
      exact ⟨by omega, fun _ => h2 h, h3⟩
    · rw [if_neg h]
      have he : fstF p n = n := by omega
      cases hp : p n with
      | true => rw [if_pos rfl]; exact ⟨by omega, fun _ => hp, fun y hy => h3 y (by omega)⟩
      | false =>
        rw [if_neg (by simp)]
        refine ⟨Nat.le_refl _, fun h => absurd h (Nat.lt_irrefl _), fun y hy => ?_⟩
        by_cases hyn : y = n
        · rw [hyn]; exact hp
        · exact h3 y (by omega)
theorem fst_eq {p : Nat → Bool} {n x : Nat} (hx : x < n) (hp : p x = true) (hl : ∀ y, y < x → p y = false) : fstF p n = x := by
  obtain ⟨h1, h2, h3⟩ := fst_le p n
  rcases Nat.lt_trichotomy (fstF p n) x with h | h | h
  · have := hl _ h; rw [h2 (by omega)] at this; cases this
  · exact h
  · have := h3 _ h; rw [hp] at this; cases this
theorem fst_ex {p : Nat → Bool} {n x : Nat} (hx : x < n) (hp : p x = true) : fstF p n < n := by
  obtain ⟨h1, h2, h3⟩ := fst_le p n
  rcases Nat.lt_or_ge (fstF p n) n with h | h
  · exact h
  · have := h3 x (by omega); rw [hp] at this; cases this
/-- does a walk that has come to a, with the sum ps, go on by x, with l more arcs from there? -/
def goB (n : Nat) (B : MF) (f l a : Nat) (ps : E) (x : Nat) : Bool := zB (ep (ep ps (B x a)) (pwF n B l f x))
/-- the rest of a cycle that has come to a -/
def cycK (n : Nat) (B : MF) (f : Nat) : Nat → Nat → E → List Nat
  | 0, _, _ => []
  | l + 1, a, ps => fstF (goB n B f (l + 1) a ps) n :: cycK n B f l (fstF (goB n B f (l + 1) a ps) n) (ep ps (B (fstF (goB n B f (l + 1) a ps) n) a))
/-- the sum of a cycle that has come to a -/
def foldC (B : MF) (f : Nat) : Nat → E → List Nat → E
  | a, ps, [] => ep ps (B f a)
  | a, ps, x :: xs => foldC B f x (ep ps (B x a)) xs
theorem zB_iff {x : E} : zB x = true ↔ x = some 0 := by unfold zB; exact decide_eq_true_iff
theorem go_ex {n : Nat} {B : MF} {f l a : Nat} {ps : E} (h : ep ps (pwF n B (l + 1) f a) = some 0) : fstF (goB n B f l a ps) n < n ∧ ep (ep ps (B (fstF (goB n B f l a ps) n) a)) (pwF n B l f (fstF (goB n B f l a ps) n)) = some 0 := by
  have hne : pwF n B (l + 1) f a ≠ none := fun e => by rw [e, ep_none] at h; cases h
  obtain ⟨k, hk, e⟩ := es_attain (f := fun k => ep (pwF n B l f k) (B k a)) (n := n) hne
  have e2 : pwF n B (l + 1) f a = ep (pwF n B l f k) (B k a) := e
  have hp : goB n B f l a ps k = true := by
    unfold goB
    rw [zB_iff, ep_assoc, ep_comm (B k a), ← e2]
    exact h
  have h1 := fst_ex hk hp
  exact ⟨h1, zB_iff.1 ((fst_le _ n).2.1 h1)⟩
theorem cyc_ok {n : Nat} {B : MF} {f : Nat} (hf : f < n) : ∀ l a ps, a < n → ep ps (pwF n B (l + 1) f a) = some 0 →
    (cycK n B f l a ps).length = l ∧ (∀ x ∈ cycK n B f l a ps, x < n) ∧ foldC B f a ps (cycK n B f l a ps) = some 0 := by
  intro l
  induction l with
  | zero =>
    intro a ps ha h
    refine ⟨rfl, (fun x hx => by cases hx), ?_⟩
    show ep ps (B f a) = some 0
    rw [← h, show pwF n B (0 + 1) f a = B f a from one_mulF n B f hf a ha]
  | succ l ih =>
    intro a ps ha h
    obtain ⟨h1, h2⟩ := go_ex h
    obtain ⟨i1, i2, i3⟩ := ih _ _ h1 h2
    refine ⟨by simp only [cycK, List.length_cons]; rw [i1], fun x hx => ?_, i3⟩
    simp only [cycK, List.mem_cons] at hx
    rcases hx with rfl | hx
    · exact h1
    · exact i2 x hx
/-- the sum of the first k arcs along g -/
def preL (A : MF) (g : Nat → Nat) : Nat → E
  | 0 => some 0
  | k + 1 => ep (preL A g k) (A (g (k + 1)) (g k))
theorem preL_first (A : MF) (g : Nat → Nat) : ∀ k, preL A g (k + 1) = ep (A (g 1) (g 0)) (preL A (fun i => g (i + 1)) k) := by
  intro k
  induction k with
  | zero => show ep (some 0) _ = ep _ (some 0); rw [zero_ep, ep_zero]
  | succ k ih =>
    show ep (preL A g (k + 1)) _ = ep _ (ep _ _)
    rw [ih, ep_assoc]
theorem fold_pre (B : MF) (f : Nat) : ∀ (xs : List Nat) (a : Nat) (ps : E), foldC B f a ps xs = ep ps (preL B (fun i => (a :: xs).getD i f) (xs.length + 1)) := by
  intro xs
  induction xs with
  | nil => intro a ps; show ep ps (B f a) = ep ps (ep (some 0) (B f a)); rw [zero_ep]
  | cons x xs ih =>
    intro a ps
    show foldC B f x (ep ps (B x a)) xs = _
    rw [ih, List.length_cons, preL_first B (fun i => (a :: x :: xs).getD i f) (xs.length + 1), ep_assoc]
    rfl
theorem lvE_one (p q : Int) (x : E) : lvE p q x = lvM p q 1 x := by
  cases x with
  | none => rfl
  | some a => show some (q * a - p) = some (q * a - p * ((1 : Nat) : Int)); simp
theorem preL_lv (p q : Int) (A : MF) (g : Nat → Nat) : ∀ k, preL (lvF p q A) g k = lvM p q k (preL A g k) := by
  intro k
  induction k with
  | zero => show some 0 = some (q * 0 - p * ((0 : Nat) : Int)); simp
  | succ k ih =>
    show ep (preL (lvF p q A) g k) (lvE p q (A (g (k + 1)) (g k))) = lvM p q (k + 1) (ep (preL A g k) (A (g (k + 1)) (g k)))
    rw [ih, lvE_one, lvM_ep]
theorem preL_some {A : MF} {g : Nat → Nat} {m : Nat} {s : Int} (h : preL A g m = some s) : ∀ k, k ≤ m → ∃ t, preL A g k = some t := by
  induction m generalizing s with
  | zero => intro k hk; obtain rfl : k = 0 := (by omega); exact ⟨0, rfl⟩
  | succ m ih =>
    intro k hk
    by_cases e : k = m + 1
    · rw [e]; exact ⟨s, h⟩
    · cases hm : preL A g m with
      | none => rw [show preL A g (m + 1) = ep (preL A g m) (A (g (m + 1)) (g m)) from rfl, hm] at h; cases h
      | some t => exact ih hm k (by omega)
theorem preL_arc {A : MF} {g : Nat → Nat} {m : Nat} {s : Int} (h : preL A g m = some s) {k : Nat} (hk : k < m) : ∃ t y, preL A g k = some t ∧ A (g (k + 1)) (g k) = some y ∧ preL A g (k + 1) = some (t + y) := by
  obtain ⟨t, ht⟩ := preL_some h k (by omega)
  obtain ⟨u, hu⟩ := preL_some h (k + 1) (by omega)
  rw [show preL A g (k + 1) = ep (preL A g k) (A (g (k + 1)) (g k)) from rfl, ht] at hu
  cases hy : A (g (k + 1)) (g k) with
  | none => rw [hy] at hu; cases hu
  | some y => exact ⟨t, y, ht, rfl, by show ep _ _ = _; rw [ht, hy]; rfl⟩
theorem preL_bd {n : Nat} {A : MF} {K : Int} {g : Nat → Nat} (hA : bdF K n A) (hg : ∀ i, g i < n) : ∀ k : Nat, bdE (K * k) (preL A g k) := by
  intro k
  induction k with
  | zero => intro y hy; injection hy with hy; omega
  | succ k ih =>
    have := bdE_ep ih (hA _ (hg (k + 1)) _ (hg k))
    have e : K * ((k + 1 : Nat) : Int) = K * (k : Int) + K := by rw [Int.natCast_add, Int.mul_add]; simp
    rw [e]
    exact this
/-- what a list must be to be a cycle with the mean p / q -/
def CycOk (n : Nat) (A : MF) (p q : Int) (c : List Nat) : Prop :=
  1 ≤ c.length ∧ c.length ≤ n ∧ (∀ x ∈ c, x < n) ∧ ∃ s, preL A (fun i => c.getD i (c.getD 0 0)) c.length = some s ∧ s * q = p * c.length
theorem cyc_law {n : Nat} {A : MF} {p q : Int} {f m : Nat} (hf : f < n) (h1 : 1 ≤ m) (hm : m ≤ n) (h : pwF n (lvF p q A) m f f = some 0) : CycOk n A p q (f :: cycK n (lvF p q A) f (m - 1) f (some 0)) := by
  have hz : ep (some 0) (pwF n (lvF p q A) (m - 1 + 1) f f) = some 0 := by rw [zero_ep, show m - 1 + 1 = m by omega]; exact h
  obtain ⟨i1, i2, i3⟩ := cyc_ok hf (m - 1) f (some 0) hf hz
  refine ⟨by simp, by simp only [List.length_cons]; omega, fun x hx => ?_, ?_⟩
  · rcases List.mem_cons.1 hx with rfl | hx
    · exact hf
    · exact i2 x hx
  · rw [fold_pre, zero_ep, preL_lv] at i3
    show ∃ s, preL A (fun i => (f :: cycK n (lvF p q A) f (m - 1) f (some 0)).getD i f) ((cycK n (lvF p q A) f (m - 1) f (some 0)).length + 1) = some s ∧ s * q = p * (((cycK n (lvF p q A) f (m - 1) f (some 0)).length + 1 : Nat) : Int)
    cases hs : preL A (fun i => (f :: cycK n (lvF p q A) f (m - 1) f (some 0)).getD i f) ((cycK n (lvF p q A) f (m - 1) f (some 0)).length + 1) with
    | none => rw [hs] at i3; cases i3
    | some s =>
      rw [hs] at i3
      refine ⟨s, rfl, ?_⟩
      have e : q * s - p * (((cycK n (lvF p q A) f (m - 1) f (some 0)).length + 1 : Nat) : Int) = 0 := Option.some.inj i3
      rw [Int.mul_comm s q]
      omega
/-- some closed walk of at most n arcs has the sum 0: the fewest arcs -/
theorem crit_least {n : Nat} {A : MF} {p q : Int} (h : spF n A = some (p, q)) : ∃ m, 1 ≤ m ∧ m ≤ n ∧ trF n (lvF p q A) m = some 0 ∧ ∀ m', 1 ≤ m' → m' < m → trF n (lvF p q A) m' ≠ some 0 := by
  obtain ⟨g, hg, e1, e2, hq⟩ := sp_parts h
  have hd : (spK n A n).2 ≠ 0 := by rw [e2]; exact Int.mul_ne_zero (by omega) (by omega)
  obtain ⟨m, h1, h2, ht, hm⟩ := spK_is n A n hd
  have htr : trF n (lvF p q A) m = some 0 := by
    rw [lv_tr hq, ht]
    show some (q * (spK n A n).1 - p * (m : Int)) = some 0
    rw [← hm, e1, e2]
    congr 1
    rw [← Int.mul_assoc, ← Int.mul_assoc, Int.mul_comm q p]
    omega
  have hp : (fun k => zB (trF n (lvF p q A) (k + 1))) (m - 1) = true := by
    show zB (trF n (lvF p q A) (m - 1 + 1)) = true
    rw [show m - 1 + 1 = m by omega, htr]
    rfl
  have hx := fst_ex (p := fun k => zB (trF n (lvF p q A) (k + 1))) (n := n) (x := m - 1) (by omega) hp
  obtain ⟨k1, k2, k3⟩ := fst_le (fun k => zB (trF n (lvF p q A) (k + 1))) n
  refine ⟨fstF (fun k => zB (trF n (lvF p q A) (k + 1))) n + 1, by omega, by omega, zB_iff.1 (k2 hx), fun m' h1 h2 e => ?_⟩
  have := k3 (m' - 1) (by omega)
  rw [show m' - 1 + 1 = m' by omega, e] at this
  cases this
theorem crit_first {n : Nat} {B : MF} {m : Nat} (h : trF n B m = some 0) : ∃ f, f < n ∧ pwF n B m f f = some 0 ∧ ∀ i, i < f → pwF n B m i i ≠ some 0 := by
  obtain ⟨i, hi, e⟩ := es_attain (f := fun i => pwF n B m i i) (n := n) (show trF n B m ≠ none by rw [h]; simp)
  have hii : pwF n B m i i = some 0 := by rw [← e]; exact h
  have hx := fst_ex (p := fun i => zB (pwF n B m i i)) (n := n) (x := i) hi (zB_iff.2 hii)
  obtain ⟨k1, k2, k3⟩ := fst_le (fun i => zB (pwF n B m i i)) n
  exact ⟨_, hx, zB_iff.1 (k2 hx), fun i hi e => by have := k3 i hi; rw [e] at this; cases this⟩
/-- matrices whose closed walks are the same have the same speed -/
theorem spK_tr {n : Nat} {A C : MF} : ∀ m, (∀ k, 1 ≤ k → k ≤ m → trF n C k = trF n A k) → spK n C m = spK n A m := by
  intro m
  induction m with
  | zero => intro _; rfl
  | succ m ih =>
    intro h
    simp only [spK]
    rw [ih (fun k h1 h2 => h k h1 (by omega)), h (m + 1) (by omega) (by omega)]
theorem spF_tr {n : Nat} {A C : MF} (h : ∀ k, trF n C k = trF n A k) : spF n C = spF n A := by
  unfold spF
  rw [spK_tr n fun k _ _ => h k]
theorem pw_T {n : Nat} {A : MF} : ∀ k i j, i < n → j < n → pwF n (fun i j => A j i) k i j = pwF n A k j i := by
  intro k
  induction k with
  | zero =>
    intro i j _ _
    show oneF i j = oneF j i
    unfold oneF
    by_cases e : i = j
    · rw [if_pos e, if_pos e.symm]
    · rw [if_neg e, if_neg fun h => e h.symm]
  | succ k ih =>
    intro i j hi hj
    rw [← mul_pw n A k j hj i hi]
    exact es_congr fun x hx => by rw [ih i x hi hx, ep_comm]
theorem spF_T (n : Nat) (A : MF) : spF n (fun i j => A j i) = spF n A := spF_tr fun k => es_congr fun i hi => pw_T k i i hi hi
/-- the vertices renumbered, and a number added -/
def rotF (n t : Nat) (s : Int) (A : MF) : MF := fun i j => ep (A ((i + t) % n) ((j + t) % n)) (some s)
theorem rot_lt {n : Nat} (hn : 1 ≤ n) (i t : Nat) : (i + t) % n < n := Nat.mod_lt _ (by omega)
theorem rot_inj {n i j t : Nat} (hi : i < n) (hj : j < n) (h : (i + t) % n = (j + t) % n) : i = j := by
  rcases Nat.le_total i j with hl | hl
  · have h1 := Nat.sub_mod_eq_zero_of_mod_eq h.symm
    rw [show j + t - (i + t) = j - i by omega, Nat.mod_eq_of_lt (by omega)] at h1
    omega
  · have h1 := Nat.sub_mod_eq_zero_of_mod_eq h
    rw [show i + t - (j + t) = i - j by omega, Nat.mod_eq_of_lt (by omega)] at h1
    omega
theorem rot_sur {n k t : Nat} (hk : k < n) : ∃ i, i < n ∧ (i + t) % n = k := by
  have ht := Nat.mod_lt t (show n > 0 by omega)
  refine ⟨(k + (n - t % n)) % n, Nat.mod_lt _ (by omega), ?_⟩
  rw [Nat.mod_add_mod]
  have e : k + (n - t % n) + t = k + n * (1 + t / n) := by
    have := Nat.div_add_mod t n
    rw [Nat.mul_add, Nat.mul_one]
    omega
  rw [e, Nat.add_mul_mod_self_left, Nat.mod_eq_of_lt hk]
theorem es_rot (f : Nat → E) {n : Nat} (hn : 1 ≤ n) (t : Nat) : es (fun k => f ((k + t) % n)) n = es f n := by
  apply leE.antisymm
  · exact es_lub fun k _ => es_le (rot_lt hn k t)
  · refine es_lub fun k hk => ?_
    obtain ⟨i, hi, e⟩ := rot_sur (t := t) hk
    have h := es_le (f := fun k => f ((k + t) % n)) hi
    simp only [e] at h
    exact h
theorem pw_rot {n : Nat} (hn : 1 ≤ n) (t : Nat) (s : Int) (A : MF) : ∀ k i j, i < n → j < n → pwF n (rotF n t s A) k i j = ep (pwF n A k ((i + t) % n) ((j + t) % n)) (some (s * k)) := by
  intro k
  induction k with
  | zero =>
    intro i j hi hj
    show oneF i j = ep (oneF _ _) _
    unfold oneF
    by_cases e : i = j
    · rw [if_pos e, if_pos (by rw [e])]; simp [ep]
    · rw [if_neg e, if_neg fun h => e (rot_inj hi hj h)]; rfl
  | succ k ih =>
    intro i j hi hj
    have h1 : pwF n (rotF n t s A) (k + 1) i j = es (fun x => (fun y => ep (ep (pwF n A k ((i + t) % n) y) (A y ((j + t) % n))) (some (s * ((k + 1 : Nat) : Int)))) ((x + t) % n)) n := by
      refine es_congr fun x hx => ?_
      rw [ih i x hi hx]
      show ep (ep _ _) (ep _ _) = ep (ep _ _) _
      have e : some (s * ((k + 1 : Nat) : Int)) = ep (some (s * (k : Int))) (some s) := by
        show _ = some (s * (k : Int) + s)
        congr 1
        rw [Int.natCast_add, Int.mul_add]
        simp
      rw [e]
      generalize pwF n A k ((i + t) % n) ((x + t) % n) = a
      generalize A ((x + t) % n) ((j + t) % n) = b
      generalize some (s * (k : Int)) = c
      generalize some s = d
      rw [ep_assoc, ep_assoc, ← ep_assoc c b d, ep_comm c b, ep_assoc b c d]
    refine h1.trans ((es_rot (fun y => ep (ep (pwF n A k ((i + t) % n) y) (A y ((j + t) % n))) (some (s * ((k + 1 : Nat) : Int)))) hn t).trans ?_)
    rw [← es_ep]
    rfl
theorem tr_rot {n : Nat} (hn : 1 ≤ n) (t : Nat) (s : Int) (A : MF) (k : Nat) : trF n (rotF n t s A) k = ep (trF n A k) (some (s * k)) := by
  unfold trF
  refine (es_congr (g := fun i => (fun y => ep (pwF n A k y y) (some (s * (k : Int)))) ((i + t) % n)) (fun i hi => pw_rot hn t s A k i i hi hi)).trans ((es_rot (fun y => ep (pwF n A k y y) (some (s * (k : Int)))) hn t).trans ?_)
  rw [← es_ep]
theorem spK_rot {n : Nat} (hn : 1 ≤ n) (t : Nat) (s : Int) (A : MF) : ∀ m, spK n (rotF n t s A) m = ((spK n A m).1 + s * (spK n A m).2, (spK n A m).2) := by
  intro m
  induction m with
  | zero => simp [spK]
  | succ m ih =>
    simp only [spK]
    rw [ih, tr_rot hn]
    cases trF n A (m + 1) with
    | none => rfl
    | some x =>
      show (if _ then _ else _) = _
      simp only
      have e : ((m + 1 : Nat) : Int) = (m : Int) + 1 := by omega
      generalize spK n A m = b at *
      obtain ⟨b1, b2⟩ := b
      simp only
      rw [e]
      have e2 : ((b1 + s * b2) * ((m : Int) + 1) < (x + s * ((m : Int) + 1)) * b2) = (b1 * ((m : Int) + 1) < x * b2) := by
        have h1 : (b1 + s * b2) * ((m : Int) + 1) = b1 * ((m : Int) + 1) + s * b2 * ((m : Int) + 1) := Int.add_mul _ _ _
        have h2 : (x + s * ((m : Int) + 1)) * b2 = x * b2 + s * b2 * ((m : Int) + 1) := by
          rw [Int.add_mul, Int.mul_assoc s, Int.mul_comm ((m : Int) + 1) b2, ← Int.mul_assoc]
        rw [h1, h2]
        exact propext ⟨fun h => by omega, fun h => by omega⟩
      by_cases hc : b2 = 0 ∨ b1 * ((m : Int) + 1) < x * b2
      · rw [if_pos hc, if_pos (hc.imp id fun h => e2.mpr h)]
      · rw [if_neg hc, if_neg fun h => hc (h.imp id fun h => e2.mp h)]
theorem spF_rot {n : Nat} (hn : 1 ≤ n) (t : Nat) (s : Int) {A : MF} {p q : Int} (h : spF n A = some (p, q)) : spF n (rotF n t s A) = some (p + s * q, q) := by
  have hk := spK_rot hn t s A n
  unfold spF at h ⊢
  rw [hk]
  simp only
  by_cases h0 : (spK n A n).2 = 0
  · rw [if_pos h0] at h; cases h
  · rw [if_neg h0] at h ⊢
    generalize spK n A n = b at *
    obtain ⟨b1, b2⟩ := b
    simp only at *
    rw [Int.gcd_add_mul_right_left]
    have hg0 : (Int.gcd b1 b2 : Int) ≠ 0 := by
      intro e
      have : Int.gcd b1 b2 = 0 := by omega
      exact h0 (Int.gcd_eq_zero_iff.1 this).2
    obtain ⟨x, hx⟩ := Int.gcd_dvd_left b1 b2
    obtain ⟨y, hy⟩ := Int.gcd_dvd_right b1 b2
    generalize (Int.gcd b1 b2 : Int) = g at *
    subst hx
    subst hy
    rw [Int.mul_tdiv_cancel_left _ hg0, Int.mul_tdiv_cancel_left _ hg0] at h
    rw [show g * x + s * (g * y) = g * (x + s * y) by rw [Int.mul_add, ← Int.mul_assoc s, Int.mul_comm s g, Int.mul_assoc], Int.mul_tdiv_cancel_left _ hg0, Int.mul_tdiv_cancel_left _ hg0]
    injection h with h
    injection h with h1 h2
    rw [h1, h2]
end Go.Proofs.YtbcngojiikdigaaGreat

namespace Go.Proofs.YtbcngojiikdigaaGreat
/-! All simple cycles, the best of them, and the vertices on those of the greatest mean (pure). -/
theorem pre_congr {A : MF} {g h : Nat → Nat} : ∀ {k : Nat}, (∀ t, t ≤ k → g t = h t) → preL A g k = preL A h k := by
  intro k
  induction k with
  | zero => intro _; rfl
  | succ k ih =>
    intro e
    show ep _ _ = ep _ _
    rw [ih (fun t ht => e t (by omega)), e (k + 1) (by omega), e k (by omega)]
theorem pre_split (A : MF) (g : Nat → Nat) (a : Nat) : ∀ b, preL A g (a + b) = ep (preL A g a) (preL A (fun t => g (a + t)) b) := by
  intro b
  induction b with
  | zero => exact (ep_zero _).symm
  | succ b ih =>
    show ep (preL A g (a + b)) _ = ep _ (ep _ _)
    rw [ih, ep_assoc]
    rfl
theorem pre_le {n : Nat} {A : MF} {g : Nat → Nat} : ∀ {k : Nat}, (∀ t, t ≤ k → g t < n) → leE (preL A g k) (pwF n A k (g k) (g 0)) := by
  intro k
  induction k with
  | zero => intro h; show leE (some 0) (oneF (g 0) (g 0)); unfold oneF; rw [if_pos rfl]; exact leE.refl _
  | succ k ih =>
    intro h
    rw [← mul_pw n A k (g (k + 1)) (h _ (Nat.le_refl _)) (g 0) (h 0 (by omega))]
    show leE (ep (preL A g k) (A (g (k + 1)) (g k))) _
    rw [ep_comm]
    exact (ep_mono (leE.refl _) (ih fun t ht => h t (by omega))).trans (es_le (f := fun x => ep (A (g (k + 1)) x) (pwF n A k x (g 0))) (h k (by omega)))
theorem pre_ex {n : Nat} {A : MF} {j : Nat} (hj : j < n) : ∀ {k i : Nat}, i < n → pwF n A k i j ≠ none → ∃ g : Nat → Nat, g 0 = j ∧ g k = i ∧ (∀ t, t ≤ k → g t < n) ∧ preL A g k = pwF n A k i j := by
  intro k
  induction k with
  | zero =>
    intro i hi h
    have e : i = j := by
      rcases Nat.decEq i j with e | e
      · exact absurd (show oneF i j = none from by unfold oneF; rw [if_neg e]) h
      · exact e
    subst e
    refine ⟨fun _ => i, rfl, rfl, fun _ _ => hi, ?_⟩
    show some 0 = oneF i i
    unfold oneF
    rw [if_pos rfl]
  | succ k ih =>
    intro i hi h
    have hm := mul_pw n A k i hi j hj
    rw [← hm] at h ⊢
    obtain ⟨x, hx, e⟩ := es_attain (f := fun x => ep (A i x) (pwF n A k x j)) (n := n) h
    have e2 : mulF n A (pwF n A k) i j = ep (A i x) (pwF n A k x j) := e
    rw [e2] at h ⊢
    have hp : pwF n A k x j ≠ none := fun e => h (by rw [e, ep_none])
    obtain ⟨g, g0, gk, gn, gp⟩ := ih hx hp
    refine ⟨fun t => if t ≤ k then g t else i, ?_, ?_, fun t ht => ?_, ?_⟩
    · show (if 0 ≤ k then g 0 else i) = j
      rw [if_pos (Nat.zero_le _)]; exact g0
    · show (if k + 1 ≤ k then g (k + 1) else i) = i
      rw [if_neg (by omega)]
    · show (if t ≤ k then g t else i) < n
      by_cases c : t ≤ k
      · rw [if_pos c]; exact gn t c
      · rw [if_neg c]; exact hi
    · show ep (preL A _ k) (A (if k + 1 ≤ k then g (k + 1) else i) (if k ≤ k then g k else i)) = _
      rw [if_neg (by omega), if_pos (Nat.le_refl _), gk, pre_congr (h := g) (fun t ht => if_pos ht), gp, ep_comm]
/-- closed walks of at most n arcs -/
theorem pre_closed {n : Nat} {B : MF} (hN : NoPos n B) {g : Nat → Nat} {k : Nat} (h1 : 1 ≤ k) (hk : k ≤ n) (hg : ∀ t, t ≤ k → g t < n) (hc : g k = g 0) : leE (preL B g k) (some 0) := by
  refine (pre_le hg).trans ?_
  rw [hc]
  exact (es_le (f := fun i => pwF n B k i i) (hg 0 (by omega))).trans (hN k h1 hk)
theorem pw_two {n : Nat} {B : MF} {a b i j k : Nat} (hi : i < n) (hj : j < n) (hk : k < n) : leE (ep (pwF n B a i k) (pwF n B b k j)) (pwF n B (a + b) i j) := by
  rw [pwF_add n B a b i hi j hj]
  exact es_le (f := fun k => ep (pwF n B a i k) (pwF n B b k j)) hk
theorem pw_loop {n : Nat} {B : MF} (hN : NoPos n B) {i k : Nat} (hi : i < n) (h1 : 1 ≤ k) (hk : k ≤ n) : leE (pwF n B k i i) (some 0) := (es_le (f := fun i => pwF n B k i i) hi).trans (hN k h1 hk)
theorem sum_zero {x y : E} (hx : leE x (some 0)) (hy : leE y (some 0)) (h : ep x y = some 0) : x = some 0 ∧ y = some 0 := by
  cases x with
  | none => cases h
  | some a =>
    cases y with
    | none => cases h
    | some b =>
      have h1 := leE_some.1 hx
      have h2 := leE_some.1 hy
      have h3 : a + b = 0 := Option.some.inj h
      exact ⟨by rw [show a = 0 by omega], by rw [show b = 0 by omega]⟩
/-- a closed walk with the sum 0 in two parts: each vertex of it is on a closed walk of as many arcs with the sum 0 -/
theorem pre_turn {n : Nat} {B : MF} (hN : NoPos n B) {g : Nat → Nat} {m : Nat} (h1 : 1 ≤ m) (hm : m ≤ n) (hg : ∀ t, t ≤ m → g t < n) (hc : g m = g 0) (h : preL B g m = some 0) {t : Nat} (ht : t ≤ m) : pwF n B m (g t) (g t) = some 0 := by
  apply leE.antisymm (pw_loop hN (hg t ht) h1 hm)
  have e := pre_split B g t (m - t)
  rw [show t + (m - t) = m by omega, h] at e
  rw [e]
  have l1 := pre_le (n := n) (A := B) (g := g) (k := t) (fun s hs => hg s (by omega))
  have l2 := pre_le (n := n) (A := B) (g := fun s => g (t + s)) (k := m - t) (fun s hs => hg (t + s) (by omega))
  simp only [Nat.add_zero] at l2
  rw [show t + (m - t) = m by omega, hc] at l2
  have l3 := pw_two (B := B) (a := t) (b := m - t) (hg t ht) (hg t ht) (hg 0 (by omega))
  rw [show t + (m - t) = m by omega] at l3
  exact (ep_mono l1 l2).trans l3
/-- a closed walk with the sum 0 that comes twice to one vertex has a part of fewer arcs with the sum 0, and so has the rest -/
theorem pre_part {n : Nat} {B : MF} (hN : NoPos n B) {g : Nat → Nat} {m : Nat} (hm : m ≤ n) (hg : ∀ t, t ≤ m → g t < n) (hc : g m = g 0) (h : preL B g m = some 0) {a b : Nat} (hab : a < b) (hb : b < m) (he : g a = g b) :
    pwF n B (b - a) (g a) (g a) = some 0 ∧ pwF n B (m - b + a) (g 0) (g 0) = some 0 := by
  have e1 := pre_split B g a (m - a)
  rw [show a + (m - a) = m by omega, h] at e1
  have e2 := pre_split B (fun t => g (a + t)) (b - a) (m - b)
  rw [show b - a + (m - b) = m - a by omega] at e2
  have l1 := pre_le (n := n) (A := B) (g := g) (k := a) (fun s hs => hg s (by omega))
  have l2 := pre_le (n := n) (A := B) (g := fun s => g (a + s)) (k := b - a) (fun s hs => hg (a + s) (by omega))
  have l3 := pre_le (n := n) (A := B) (g := fun t => g (a + (b - a + t))) (k := m - b) (fun s hs => hg _ (by omega))
  simp only [Nat.add_zero] at l2 l3
  rw [show a + (b - a) = b by omega, ← he] at l2
  rw [show a + (b - a + (m - b)) = m by omega, show a + (b - a) = b by omega, hc, ← he] at l3
  have l4 := pw_two (B := B) (a := m - b) (b := a) (hg 0 (by omega)) (hg 0 (by omega)) (hg a (by omega))
  have i1 := pw_loop hN (hg a (by omega)) (show 1 ≤ b - a by omega) (by omega)
  have i2 := pw_loop hN (hg 0 (by omega)) (show 1 ≤ m - b + a by omega) (by omega)
  rw [e2] at e1
  generalize preL B g a = x at *
  generalize preL B (fun t => g (a + t)) (b - a) = y at *
  generalize preL B (fun t => g (a + (b - a + t))) (m - b) = z at *
  have k1 : ep y (ep z x) = some 0 := by rw [e1, ← ep_assoc, ep_comm (ep y z) x]
  have k2 := (ep_mono l3 l1).trans l4
  obtain ⟨s1, s2⟩ := sum_zero (l2.trans i1) (k2.trans i2) k1
  rw [s1] at l2
  rw [s2] at k2
  exact ⟨leE.antisymm i1 l2, leE.antisymm i2 k2⟩
/-- the vertices of a list, and the first of them behind its end -/
def gC (c : List Nat) : Nat → Nat := fun i => c.getD i (c.getD 0 0)
theorem gC_lt {c : List Nat} {n : Nat} (h1 : 1 ≤ c.length) (h : ∀ x ∈ c, x < n) (t : Nat) : gC c t < n := by
  have hm : ∀ i, i < c.length → c.getD i (c.getD 0 0) < n := fun i hi => by
    rw [List.getD_eq_getElem?_getD, List.getElem?_eq_getElem hi]
    exact h _ (List.getElem_mem hi)
  unfold gC
  rcases Nat.lt_or_ge t c.length with ht | ht
  · exact hm t ht
  · rw [List.getD_eq_getElem?_getD (l := c) (i := t), List.getElem?_eq_none ht]
    show c.getD 0 0 < n
    rw [List.getD_eq_getElem?_getD, List.getElem?_eq_getElem (show 0 < c.length by omega)]
    exact h _ (List.getElem_mem _)
theorem gC_end (c : List Nat) : gC c c.length = gC c 0 := by
  unfold gC
  rw [List.getD_eq_getElem?_getD, List.getElem?_eq_none (Nat.le_refl _)]
  cases c <;> rfl
theorem gC_mem {c : List Nat} {t : Nat} (ht : t < c.length) : gC c t ∈ c := by
  unfold gC
  rw [List.getD_eq_getElem?_getD, List.getElem?_eq_getElem ht]
  exact List.getElem_mem ht
theorem gC_of {c : List Nat} {x : Nat} (h : x ∈ c) : ∃ t, t < c.length ∧ gC c t = x := by
  obtain ⟨t, ht, e⟩ := List.getElem_of_mem h
  refine ⟨t, ht, ?_⟩
  unfold gC
  rw [List.getD_eq_getElem?_getD, List.getElem?_eq_getElem ht]
  exact e
/-- no vertex twice -/
def Once (c : List Nat) : Prop := ∀ a b, a < b → b < c.length → gC c a ≠ gC c b
theorem once_len {c : List Nat} {n : Nat} (h1 : 1 ≤ c.length) (h : ∀ x ∈ c, x < n) (ho : Once c) : c.length ≤ n := by
  rcases Nat.lt_or_ge n c.length with hl | hl
  · obtain ⟨a, b, hab, hb, e⟩ := pigeon n (gC c) (fun t _ => gC_lt h1 h t)
    exact absurd e (ho a b hab (by omega))
  · exact hl
/-- a cycle that goes through no vertex twice, from its least one on -/
def IsCyc (n : Nat) (A : MF) (c : List Nat) : Prop :=
  1 ≤ c.length ∧ (∀ x ∈ c, x < n) ∧ Once c ∧ (∀ x ∈ c, gC c 0 ≤ x) ∧ preL A (gC c) c.length ≠ none
/-- the cycle of the code -/
def codeC (n : Nat) (B : MF) (f m : Nat) : List Nat := f :: cycK n B f (m - 1) f (some 0)
/-- what m and f are -/
def Least (n : Nat) (B : MF) (m f : Nat) : Prop :=
  1 ≤ m ∧ m ≤ n ∧ (∀ m', 1 ≤ m' → m' < m → trF n B m' ≠ some 0) ∧ f < n ∧ pwF n B m f f = some 0 ∧ ∀ i, i < f → pwF n B m i i ≠ some 0
theorem code_ok {n : Nat} {B : MF} {f m : Nat} (h : Least n B m f) : (codeC n B f m).length = m ∧ (∀ x ∈ codeC n B f m, x < n) ∧ preL B (gC (codeC n B f m)) m = some 0 := by
  obtain ⟨h1, hm, _, hf, hz, _⟩ := h
  have hz' : ep (some 0) (pwF n B (m - 1 + 1) f f) = some 0 := by rw [zero_ep, show m - 1 + 1 = m by omega]; exact hz
  obtain ⟨i1, i2, i3⟩ := cyc_ok hf (m - 1) f (some 0) hf hz'
  refine ⟨by unfold codeC; simp only [List.length_cons]; omega, fun x hx => ?_, ?_⟩
  · rcases List.mem_cons.1 hx with rfl | hx
    · exact hf
    · exact i2 x hx
  · rw [fold_pre, zero_ep, i1, show m - 1 + 1 = m by omega] at i3
    exact i3
theorem code_first (n : Nat) (B : MF) (f m : Nat) : gC (codeC n B f m) 0 = f := rfl
theorem code_once {n : Nat} {B : MF} (hN : NoPos n B) {f m : Nat} (h : Least n B m f) : Once (codeC n B f m) := by
  obtain ⟨hl, hx, hp⟩ := code_ok h
  obtain ⟨h1, hm, hmin, hf, hz, _⟩ := h
  intro a b hab hb he
  have hg := gC_lt (c := codeC n B f m) (n := n) (by omega) hx
  have hc := gC_end (codeC n B f m)
  rw [hl] at hc hb
  obtain ⟨k1, _⟩ := pre_part hN hm (fun t _ => hg t) hc hp hab hb he
  refine hmin (b - a) (by omega) (by omega) (leE.antisymm (hN _ (by omega) (by omega)) ?_)
  rw [← k1]
  exact es_le (f := fun i => pwF n B (b - a) i i) (hg a)
theorem code_first_le {n : Nat} {B : MF} (hN : NoPos n B) {f m : Nat} (h : Least n B m f) : ∀ x ∈ codeC n B f m, f ≤ x := by
  obtain ⟨hl, hx, hp⟩ := code_ok h
  obtain ⟨h1, hm, hmin, hf, hz, hf2⟩ := h
  intro x hxm
  obtain ⟨t, ht, e⟩ := gC_of hxm
  have hg := gC_lt (c := codeC n B f m) (n := n) (by omega) hx
  have hc := gC_end (codeC n B f m)
  rw [hl] at hc ht
  have h2 := pre_turn hN h1 hm (fun t _ => hg t) hc hp (t := t) (by omega)
  rw [e] at h2
  rcases Nat.lt_or_ge x f with h3 | h3
  · exact absurd h2 (hf2 x h3)
  · exact h3
theorem pre_lv_none {p q : Int} {A : MF} {g : Nat → Nat} {k : Nat} : preL (lvF p q A) g k = none ↔ preL A g k = none := by
  rw [preL_lv]
  cases preL A g k with
  | none => exact ⟨fun _ => rfl, fun _ => rfl⟩
  | some x => exact ⟨(fun h => by cases h), (fun h => by cases h)⟩
theorem code_cyc {n : Nat} {A : MF} {p q : Int} {f m : Nat} (hN : NoPos n (lvF p q A)) (h : Least n (lvF p q A) m f) : IsCyc n A (codeC n (lvF p q A) f m) := by
  obtain ⟨hl, hx, hp⟩ := code_ok h
  refine ⟨by have := h.1; omega, hx, code_once hN h, code_first_le hN h, fun e => ?_⟩
  rw [hl] at e
  rw [pre_lv_none.2 e] at hp
  cases hp
/-- the lexicographic order of lists of one length, from place k on -/
def lexB : List Nat → List Nat → Bool
  | [], [] => false
  | [], _ :: _ => true
  | _ :: _, [] => false
  | x :: xs, y :: ys => if x = y then lexB xs ys else decide (x < y)
theorem lex_irr : ∀ xs : List Nat, lexB xs xs = false := by
  intro xs
  induction xs with
  | nil => rfl
  | cons x xs ih => simp only [lexB, if_pos]; exact ih
theorem lex_asymm : ∀ {xs ys : List Nat}, lexB xs ys = true → lexB ys xs = false := by
  intro xs
  induction xs with
  | nil =>
    intro ys h
    cases ys with
    | nil => cases h
    | cons y ys => simp only [lexB]
  | cons x xs ih =>
    intro ys h
    cases ys with
    | nil => cases h
    | cons y ys =>
      simp only [lexB] at h ⊢
      by_cases e : x = y
      · rw [if_pos e] at h; rw [if_pos e.symm]; exact ih h
      · rw [if_neg e] at h; rw [if_neg fun k => e k.symm]; have := of_decide_eq_true h; exact decide_eq_false (by omega)
/-- the greedy rest is the least one -/
theorem cyc_lex {n : Nat} {B : MF} {f : Nat} (hf : f < n) : ∀ (l a : Nat) (ps : E) (ys : List Nat), a < n → (∀ y ∈ ys, y < n) → ys.length = l → foldC B f a ps ys = some 0 →
    leE (ep ps (pwF n B (l + 1) f a)) (some 0) → cycK n B f l a ps = ys ∨ lexB (cycK n B f l a ps) ys = true := by
  intro l
  induction l with
  | zero =>
    intro a ps ys _ _ hl _ _
    exact .inl (List.length_eq_zero_iff.1 hl).symm
  | succ l ih =>
    intro a ps ys ha hy hl hs hle
    cases ys with
    | nil => cases hl
    | cons y ys =>
      have hyn := hy y (by simp)
      have hs2 : foldC B f y (ep ps (B y a)) ys = some 0 := hs
      -- the rest of ys is a walk of l + 1 arcs from y to f
      have h1 : leE (foldC B f y (ep ps (B y a)) ys) (ep (ep ps (B y a)) (pwF n B (l + 1) f y)) := by
        rw [fold_pre]
        refine ep_mono (leE.refl _) ?_
        have hg : ∀ t, t ≤ ys.length + 1 → (fun i => (y :: ys).getD i f) t < n := fun t _ => by
          show (y :: ys).getD t f < n
          rw [List.getD_eq_getElem?_getD]
          cases ht : (y :: ys)[t]? with
          | none => exact hf
          | some z => exact hy z (List.mem_of_getElem? ht)
        have h2 := pre_le (n := n) (A := B) hg
        have hlen : ys.length = l := by simpa using hl
        have e : (y :: ys).getD (ys.length + 1) f = f := by
          rw [List.getD_eq_getElem?_getD, List.getElem?_eq_none (by simp)]
          rfl
        rw [e, hlen] at h2
        rw [hlen]
        exact h2
      have hle2 : ∀ x, x < n → leE (ep (ep ps (B x a)) (pwF n B (l + 1) f x)) (some 0) := fun x hx => by
        refine leE.trans ?_ hle
        rw [ep_assoc, ep_comm (B x a)]
        exact ep_mono (leE.refl _) (es_le (f := fun x => ep (pwF n B (l + 1) f x) (B x a)) hx)
      have hgo : goB n B f (l + 1) a ps y = true := zB_iff.2 (leE.antisymm (hle2 y hyn) (by rw [← hs2]; exact h1))
      obtain ⟨k1, k2, k3⟩ := fst_le (goB n B f (l + 1) a ps) n
      have kx := fst_ex hyn hgo
      have hfy : fstF (goB n B f (l + 1) a ps) n ≤ y := by
        rcases Nat.lt_or_ge y (fstF (goB n B f (l + 1) a ps) n) with h | h
        · have := k3 y h; rw [hgo] at this; cases this
        · exact h
      show (fstF (goB n B f (l + 1) a ps) n :: _) = y :: ys ∨ lexB (fstF (goB n B f (l + 1) a ps) n :: _) (y :: ys) = true
      by_cases e : fstF (goB n B f (l + 1) a ps) n = y
      · rw [e]
        rcases ih y (ep ps (B y a)) ys hyn (fun z hz => hy z (by simp [hz])) (by simpa using hl) hs2 (hle2 y hyn) with h | h
        · exact .inl (by rw [h])
        · exact .inr (by simp only [lexB, if_pos]; exact h)
      · refine .inr ?_
        simp only [lexB]
        rw [if_neg e]
        exact decide_eq_true (by omega)
/-- is a cycle better than another one? -/
def betB (A : MF) (c d : List Nat) : Bool :=
  let x := val (preL A (gC c) c.length) * d.length
  let y := val (preL A (gC d) d.length) * c.length
  decide (y < x) || (decide (x = y) && (decide (c.length < d.length) || (decide (c.length = d.length) && lexB c d)))
/-- the best of a list, so far -/
def bestK (A : MF) : Option (List Nat) → List (List Nat) → Option (List Nat)
  | o, [] => o
  | none, c :: l => bestK A (some c) l
  | some o, c :: l => bestK A (some (if betB A c o then c else o)) l
theorem best_is {A : MF} {c0 : List Nat} : ∀ (l : List (List Nat)) (o : Option (List Nat)), (∀ c ∈ l, betB A c c0 = false) → (∀ c ∈ l, c ≠ c0 → betB A c0 c = true) → (∀ c, o = some c → c ≠ c0 → betB A c0 c = true) → (o = some c0 ∨ c0 ∈ l) → bestK A o l = some c0 := by
  intro l
  induction l with
  | nil =>
    intro o _ _ _ h
    rcases h with rfl | h
    · rfl
    · cases h
  | cons c l ih =>
    intro o h1 h2 h3 h
    cases o with
    | none =>
      refine ih (some c) (fun d hd => h1 d (by simp [hd])) (fun d hd => h2 d (by simp [hd])) (fun d hd hne => ?_) ?_
      · injection hd with hd
        subst hd
        exact h2 c (by simp) hne
      · rcases h with h | h
        · cases h
        · rcases List.mem_cons.1 h with h | h
          · exact .inl (by rw [h])
          · exact .inr h
    | some o =>
      refine ih _ (fun d hd => h1 d (by simp [hd])) (fun d hd => h2 d (by simp [hd])) (fun d hd hne => ?_) ?_
      · injection hd with hd
        subst hd
        by_cases e : betB A c o = true
        · rw [if_pos e] at hne ⊢
          exact h2 c (by simp) hne
        · rw [if_neg e] at hne ⊢
          exact h3 o rfl hne
      · by_cases ho : o = c0
        · subst ho
          rw [h1 c (by simp)]
          exact .inl (by simp)
        · rcases h with h | h
          · injection h with h; exact absurd h ho
          · rcases List.mem_cons.1 h with h | h
            · subst h
              rw [h3 o rfl ho]
              exact .inl (by simp)
            · exact .inr h
theorem cyc_pre {n : Nat} {A : MF} {p q : Int} {c : List Nat} (hN : NoPos n (lvF p q A)) (h : IsCyc n A c) : ∃ s : Int, preL A (gC c) c.length = some s ∧ q * s - p * c.length ≤ 0 := by
  obtain ⟨h1, hx, ho, hl, hp⟩ := h
  cases hs : preL A (gC c) c.length with
  | none => exact absurd hs hp
  | some s =>
    refine ⟨s, rfl, ?_⟩
    have h2 := pre_closed hN h1 (once_len h1 hx ho) (fun t _ => gC_lt h1 hx t) (gC_end c)
    rw [preL_lv, hs] at h2
    exact leE_some.1 h2
/-- no cycle is better than that of the code, and that is better than every other -/
theorem code_best {n : Nat} {A : MF} {p q : Int} {f m : Nat} (hq : 0 < q) (hN : NoPos n (lvF p q A)) (h : Least n (lvF p q A) m f) {c : List Nat} (hc : IsCyc n A c) :
    betB A c (codeC n (lvF p q A) f m) = false ∧ (c ≠ codeC n (lvF p q A) f m → betB A (codeC n (lvF p q A) f m) c = true) := by
  obtain ⟨cl, cx, cp⟩ := code_ok h
  obtain ⟨h1, hm, hmin, hf, hz, hf2⟩ := h
  obtain ⟨s, hs, hs0⟩ := cyc_pre hN hc
  obtain ⟨c1, cn, co, cf, cne⟩ := hc
  rw [preL_lv] at cp
  obtain ⟨s0, hs1, hs2⟩ : ∃ s0, preL A (gC (codeC n (lvF p q A) f m)) m = some s0 ∧ q * s0 = p * m := by
    cases e : preL A (gC (codeC n (lvF p q A) f m)) m with
    | none => rw [e] at cp; cases cp
    | some s0 =>
      rw [e] at cp
      have e2 : q * s0 - p * (m : Int) = 0 := Option.some.inj cp
      exact ⟨s0, rfl, by omega⟩
  have hgc := gC_lt c1 cn
  have hcl := once_len c1 cn co
  have hle := gC_end c
  obtain ⟨k, hk⟩ : ∃ k, k = c.length := ⟨_, rfl⟩
  rw [← hk] at hs hs0 hcl hle c1
  -- the mean of c is that of the code's exactly if its sum is 0
  have hmk : (0 : Int) < m := by omega
  have hkk : (0 : Int) < k := by omega
  have e1 : q * (s0 * k - s * m) = -((q * s - p * k) * m) := by
    have a1 : q * (s0 * k) = p * m * k := by rw [← Int.mul_assoc, hs2]
    have a2 : q * (s * m) = q * s * m := (Int.mul_assoc _ _ _).symm
    rw [Int.mul_sub, a1, a2, Int.sub_mul, Int.mul_right_comm p (m : Int) k]
    omega
  unfold betB
  simp only
  rw [cl, ← hk, hs, hs1, show val (some s0) = s0 from rfl, show val (some s) = s from rfl]
  rcases Int.lt_or_le (q * s - p * k) 0 with hneg | hpos
  · have e2 : 0 < q * (s0 * k - s * m) := by
      rw [e1]
      have := Int.mul_neg_of_neg_of_pos hneg hmk
      omega
    have e3 : 0 < s0 * k - s * m := by
      rcases Int.lt_or_le 0 (s0 * k - s * m) with h | h
      · exact h
      · have := Int.mul_nonpos_of_nonneg_of_nonpos (Int.le_of_lt hq) h
        omega
    refine ⟨?_, fun _ => ?_⟩
    · rw [decide_eq_false (show ¬ s0 * (k : Int) < s * m by omega), decide_eq_false (show ¬ s * (m : Int) = s0 * k by omega)]
      rfl
    · rw [decide_eq_true (show s * (m : Int) < s0 * k by omega)]
      rfl
  · have hz0 : q * s - p * k = 0 := by omega
    have e2 : s0 * k - s * m = 0 := by
      rw [hz0, Int.zero_mul] at e1
      rcases Int.mul_eq_zero.1 (show q * (s0 * k - s * m) = 0 by omega) with h | h
      · omega
      · exact h
    have hb0 : preL (lvF p q A) (gC c) k = some 0 := by rw [preL_lv, hs]; show some (q * s - p * (k : Int)) = some 0; rw [hz0]
    have hmk2 : m ≤ k := by
      rcases Nat.lt_or_ge k m with hlt | hge
      · refine absurd (leE.antisymm (hN k c1 hcl) ?_) (hmin k c1 hlt)
        rw [← pre_turn hN c1 hcl (fun t _ => hgc t) hle hb0 (t := 0) (by omega)]
        exact es_le (f := fun i => pwF n (lvF p q A) k i i) (hgc 0)
      · exact hge
    rw [decide_eq_false (show ¬ s0 * (k : Int) < s * m by omega), decide_eq_false (show ¬ s * (m : Int) < s0 * k by omega), decide_eq_true (show s * (m : Int) = s0 * k by omega), decide_eq_true (show s0 * (k : Int) = s * m by omega)]
    simp only [Bool.false_or, Bool.true_and]
    by_cases hkm : m < k
    · rw [decide_eq_false (show ¬ k < m by omega), decide_eq_false (show ¬ k = m by omega), decide_eq_true hkm]
      exact ⟨rfl, fun _ => rfl⟩
    · obtain rfl : m = k := by omega
      rw [decide_eq_false (Nat.lt_irrefl _), decide_eq_true (rfl : m = m)]
      simp only [Bool.false_or, Bool.true_and]
      -- the same length: the lexicographic order
      have hf0 : f ≤ gC c 0 := by
        rcases Nat.lt_or_ge (gC c 0) f with h | h
        · exact absurd (pre_turn hN c1 hcl (fun t _ => hgc t) hle hb0 (t := 0) (by omega)) (hf2 _ h)
        · exact h
      cases c with
      | nil => simp at hk; omega
      | cons y ys =>
        have hf0 : f ≤ y := hf0
        have hlen : ys.length = m - 1 := by simp only [List.length_cons] at hk; omega
        by_cases e : f = y
        · subst e
          have hfold : foldC (lvF p q A) f f (some 0) ys = some 0 := by
            rw [fold_pre, zero_ep, hlen, show m - 1 + 1 = m by omega]
            exact hb0
          have hle3 : leE (ep (some 0) (pwF n (lvF p q A) (m - 1 + 1) f f)) (some 0) := by
            rw [zero_ep, show m - 1 + 1 = m by omega]
            exact pw_loop hN hf h1 hm
          have hlex := cyc_lex hf (m - 1) f (some 0) ys hf (fun z hz => cn z (by simp [hz])) hlen hfold hle3
          have hcod : codeC n (lvF p q A) f m = f :: cycK n (lvF p q A) f (m - 1) f (some 0) := rfl
          rw [hcod]
          generalize cycK n (lvF p q A) f (m - 1) f (some 0) = zs at *
          refine ⟨?_, fun hne => ?_⟩
          · rcases hlex with h | h
            · rw [h]; exact lex_irr _
            · simp only [lexB, if_pos]
              exact lex_asymm h
          · rcases hlex with h | h
            · exact absurd (by rw [h]) hne
            · simp only [lexB, if_pos]; exact h
        · have hlt : f < y := by omega
          have hcod : codeC n (lvF p q A) f m = f :: cycK n (lvF p q A) f (m - 1) f (some 0) := rfl
          rw [hcod]
          refine ⟨?_, fun _ => ?_⟩
          · simp only [lexB]; rw [if_neg fun h => e h.symm]; exact decide_eq_false (by omega)
          · simp only [lexB]; rw [if_neg e]; exact decide_eq_true hlt
end Go.Proofs.YtbcngojiikdigaaGreat

namespace Go.Proofs.YtbcngojiikdigaaGreat
/-! The list of all simple cycles, its best one, and the vertices on the best ones (pure). -/
/-- the cycles that a walk from f goes on to by i -/
def stepC (A : MF) (f : Nat) (next : List Nat → List (List Nat)) (walk : List Nat) (i : Nat) : List (List Nat) :=
  if i < f ∨ A i (walk.getLastD 0) = none then [] else if i = f then [walk] else if i ∈ walk then [] else next (walk ++ [i])
def cycF (n : Nat) (A : MF) (f : Nat) : Nat → List Nat → List (List Nat)
  | 0, _ => []
  | k + 1, walk => (List.range n).flatMap (stepC A f (cycF n A f k) walk)
/-- all simple cycles -/
def cycL (n : Nat) (A : MF) : List (List Nat) := (List.range n).flatMap fun i => cycF n A i n [i]
def extOk (n : Nat) (A : MF) (f : Nat) : List Nat → List Nat → Prop
  | walk, [] => A f (walk.getLastD 0) ≠ none
  | walk, x :: xs => f < x ∧ x < n ∧ x ∉ walk ∧ A x (walk.getLastD 0) ≠ none ∧ extOk n A f (walk ++ [x]) xs
theorem cycF_mem {n : Nat} {A : MF} {f : Nat} (hf : f < n) : ∀ (k : Nat) (walk c : List Nat), c ∈ cycF n A f k walk ↔ ∃ ext, c = walk ++ ext ∧ ext.length < k ∧ extOk n A f walk ext := by
  intro k
  induction k with
  | zero => intro walk c; exact ⟨(fun h => by cases h), fun ⟨ext, _, h, _⟩ => by omega⟩
  | succ k ih =>
    intro walk c
    simp only [cycF, List.mem_flatMap, List.mem_range]
    constructor
    · rintro ⟨i, hi, h⟩
      unfold stepC at h
      split at h
      · cases h
      · rename_i h1
        have h1a : f ≤ i := by
          rcases Nat.lt_or_ge i f with h | h
          · exact absurd (.inl h) h1
          · exact h
        have h1b : A i (walk.getLastD 0) ≠ none := fun e => h1 (.inr e)
        split at h
        · rename_i h2
          subst h2
          rw [List.mem_singleton.1 h]
          exact ⟨[], by simp, by simp, h1b⟩
        · rename_i h2
          split at h
          · cases h
          · rename_i h3
            obtain ⟨ext, e, hl, ho⟩ := (ih _ _).1 h
            exact ⟨i :: ext, by rw [e]; simp, by simp only [List.length_cons]; omega, by omega, hi, h3, h1b, ho⟩
    · rintro ⟨ext, e, hl, ho⟩
      cases ext with
      | nil =>
        have ho : A f (walk.getLastD 0) ≠ none := ho
        refine ⟨f, hf, ?_⟩
        unfold stepC
        rw [if_neg (by rintro (h | h); exact absurd h (Nat.lt_irrefl _); exact ho h), if_pos rfl, e]
        simp
      | cons x xs =>
        obtain ⟨o1, o2, o3, o4, o5⟩ := ho
        refine ⟨x, o2, ?_⟩
        unfold stepC
        rw [if_neg (by rintro (h | h); omega; exact o4 h), if_neg (by omega), if_neg o3]
        exact (ih _ _).2 ⟨xs, by rw [e]; simp, by simp only [List.length_cons] at hl; omega, o5⟩
theorem ep_ne {x y : E} : ep x y ≠ none ↔ x ≠ none ∧ y ≠ none := by
  cases x <;> cases y <;> simp [ep]
theorem fold_ne {A : MF} {f a x : Nat} {xs : List Nat} : foldC A f a (some 0) (x :: xs) ≠ none ↔ A x a ≠ none ∧ foldC A f x (some 0) xs ≠ none := by
  show foldC A f x (ep (some 0) (A x a)) xs ≠ none ↔ _
  rw [fold_pre, fold_pre, ep_ne, zero_ep, zero_ep]
theorem ext_iff {n : Nat} {A : MF} {f : Nat} : ∀ (ext walk : List Nat), extOk n A f walk ext ↔ (∀ x ∈ ext, f < x ∧ x < n ∧ x ∉ walk) ∧ ext.Nodup ∧ foldC A f (walk.getLastD 0) (some 0) ext ≠ none := by
  intro ext
  induction ext with
  | nil =>
    intro walk
    show A f (walk.getLastD 0) ≠ none ↔ _
    rw [show foldC A f (walk.getLastD 0) (some 0) [] = A f (walk.getLastD 0) from zero_ep _]
    exact ⟨fun h => ⟨(fun x hx => by cases hx), List.nodup_nil, h⟩, fun h => h.2.2⟩
  | cons x xs ih =>
    intro walk
    show (f < x ∧ x < n ∧ x ∉ walk ∧ A x (walk.getLastD 0) ≠ none ∧ extOk n A f (walk ++ [x]) xs) ↔ _
    rw [ih, fold_ne, List.nodup_cons, show (walk ++ [x]).getLastD 0 = x by simp]
    constructor
    · rintro ⟨h1, h2, h3, h4, h5, h6, h7⟩
      refine ⟨fun y hy => ?_, ⟨fun hx => (h5 x hx).2.2 (by simp), h6⟩, h4, h7⟩
      rcases List.mem_cons.1 hy with rfl | hy
      · exact ⟨h1, h2, h3⟩
      · exact ⟨(h5 y hy).1, (h5 y hy).2.1, fun h => (h5 y hy).2.2 (by simp [h])⟩
    · rintro ⟨h1, ⟨h2, h3⟩, h4, h5⟩
      have hx := h1 x (by simp)
      refine ⟨hx.1, hx.2.1, hx.2.2, h4, fun y hy => ?_, h3, h5⟩
      have hy2 := h1 y (by simp [hy])
      refine ⟨hy2.1, hy2.2.1, fun h => ?_⟩
      rcases List.mem_append.1 h with h | h
      · exact hy2.2.2 h
      · rw [List.mem_singleton.1 h] at hy; exact h2 hy
theorem once_nodup {c : List Nat} : Once c ↔ c.Nodup := by
  unfold List.Nodup
  rw [List.pairwise_iff_getElem]
  have hg : ∀ (i : Nat) (h : i < c.length), gC c i = c[i] := fun i h => by
    unfold gC
    rw [List.getD_eq_getElem?_getD, List.getElem?_eq_getElem h]
    rfl
  constructor
  · intro h i j hi hj hij
    have := h i j hij hj
    rw [hg i hi, hg j hj] at this
    exact this
  · intro h a b hab hb
    rw [hg a (by omega), hg b hb]
    exact h a b (by omega) hb hab
theorem cycL_mem {n : Nat} {A : MF} {c : List Nat} : c ∈ cycL n A ↔ IsCyc n A c := by
  unfold cycL
  simp only [List.mem_flatMap, List.mem_range]
  have key : ∀ f ext, f < n → (extOk n A f [f] ext ↔ IsCyc n A (f :: ext)) := fun f ext hf => by
    rw [ext_iff, show ([f] : List Nat).getLastD 0 = f from rfl, fold_pre, zero_ep]
    unfold IsCyc
    rw [once_nodup, List.nodup_cons]
    constructor
    · rintro ⟨h1, h2, h3⟩
      refine ⟨by simp, fun x hx => ?_, ⟨fun h => (h1 f h).2.2 (by simp), h2⟩, fun x hx => ?_, h3⟩
      · rcases List.mem_cons.1 hx with rfl | hx
        · exact hf
        · exact (h1 x hx).2.1
      · rcases List.mem_cons.1 hx with rfl | hx
        · exact Nat.le_refl _
        · exact Nat.le_of_lt (h1 x hx).1
    · rintro ⟨_, h2, ⟨h3, h4⟩, h5, h6⟩
      refine ⟨fun x hx => ?_, h4, h6⟩
      have e : f ≤ x := h5 x (by simp [hx])
      have ne : x ≠ f := fun e => h3 (by rw [← e]; exact hx)
      exact ⟨by omega, h2 x (by simp [hx]), by simp [ne]⟩
  constructor
  · rintro ⟨i, hi, h⟩
    obtain ⟨ext, e, _, ho⟩ := (cycF_mem hi _ _ _).1 h
    rw [e]
    exact (key i ext hi).1 ho
  · intro h
    cases c with
    | nil => have := h.1; simp at this
    | cons y ys =>
      have hy : y < n := h.2.1 y (by simp)
      refine ⟨y, hy, (cycF_mem hy _ _ _).2 ⟨ys, rfl, ?_, (key y ys hy).2 h⟩⟩
      have := once_len h.1 h.2.1 h.2.2.1
      simp only [List.length_cons] at this
      omega
theorem sp_cyc {n : Nat} {A : MF} (h : spF n A = none) : cycL n A = [] := by
  rw [List.eq_nil_iff_forall_not_mem]
  intro c hc
  obtain ⟨h1, hx, ho, hl, hp⟩ := cycL_mem.1 hc
  have hle := pre_le (n := n) (A := A) (g := gC c) (k := c.length) (fun t _ => gC_lt h1 hx t)
  rw [gC_end] at hle
  have htr := hle.trans (es_le (f := fun i => pwF n A c.length i i) (gC_lt h1 hx 0))
  have hne : trF n A c.length ≠ none := fun e => by
    have htr : leE (preL A (gC c) c.length) (trF n A c.length) := htr
    rw [e] at htr
    cases hs : preL A (gC c) c.length with
    | none => exact hp hs
    | some s => rw [hs] at htr; cases htr
  cases ht : trF n A c.length with
  | none => exact hne ht
  | some t =>
    have := ((spK_best n A n).1 c.length h1 (once_len h1 hx ho) t ht).1
    unfold spF at h
    split at h
    · omega
    · cases h
theorem least_ex {n : Nat} {A : MF} {p q : Int} (h : spF n A = some (p, q)) : ∃ m f, Least n (lvF p q A) m f := by
  obtain ⟨m, h1, h2, h3, h4⟩ := crit_least h
  obtain ⟨f, h5, h6, h7⟩ := crit_first h3
  exact ⟨m, f, h1, h2, h4, h5, h6, h7⟩
theorem best_code {n : Nat} {A : MF} {p q : Int} {f m : Nat} (hs : spF n A = some (p, q)) (h : Least n (lvF p q A) m f) : bestK A none (cycL n A) = some (codeC n (lvF p q A) f m) := by
  obtain ⟨g, hg, e1, e2, hq⟩ := sp_parts hs
  have hN := lv_noPos hs
  exact best_is _ _ (fun c hc => (code_best hq hN h (cycL_mem.1 hc)).1) (fun c hc hne => (code_best hq hN h (cycL_mem.1 hc)).2 hne) (fun c hc => by cases hc) (.inr (cycL_mem.2 (code_cyc hN h)))
theorem sp_coprime {n : Nat} {A : MF} {p q : Int} (h : spF n A = some (p, q)) : Int.gcd p q = 1 ∧ 0 < q := by
  obtain ⟨_, _, _, _, hq⟩ := sp_parts h
  refine ⟨?_, hq⟩
  unfold spF at h
  by_cases h0 : (spK n A n).2 = 0
  · rw [if_pos h0] at h; cases h
  · rw [if_neg h0] at h
    generalize spK n A n = b at *
    obtain ⟨b1, b2⟩ := b
    simp only at *
    have hgp : 0 < Int.gcd b1 b2 := Int.gcd_pos_of_ne_zero_right _ h0
    obtain ⟨x, hx⟩ := Int.gcd_dvd_left b1 b2
    obtain ⟨y, hy⟩ := Int.gcd_dvd_right b1 b2
    have hgg : Int.gcd b1 b2 = Int.gcd b1 b2 * Int.gcd x y := by
      have e := Int.gcd_mul_left (Int.gcd b1 b2 : Int) x y
      rw [← hx, ← hy] at e
      simpa using e
    have h1 : Int.gcd x y = 1 := Nat.eq_of_mul_eq_mul_left hgp (by rw [← hgg, Nat.mul_one])
    have hg0 : (Int.gcd b1 b2 : Int) ≠ 0 := by omega
    injection h with h
    injection h with ha hb
    have ea : b1.tdiv (Int.gcd b1 b2) = x := by
      conv => lhs; arg 1; rw [hx]
      exact Int.mul_tdiv_cancel_left _ hg0
    have eb : b2.tdiv (Int.gcd b1 b2) = y := by
      conv => lhs; arg 1; rw [hy]
      exact Int.mul_tdiv_cancel_left _ hg0
    rw [← ha, ← hb, ea, eb]
    exact h1
/-- a mean in lowest terms -/
theorem low_terms {s m p q : Int} (hm : 0 < m) (hq : 0 < q) (hc : Int.gcd p q = 1) (h : s * q = p * m) : s.tdiv (Int.gcd s m) = p ∧ m.tdiv (Int.gcd s m) = q := by
  have hd : q ∣ m := by
    have h1 : q ∣ p * m := ⟨s, by rw [← h, Int.mul_comm]⟩
    have h2 := Int.natAbs_dvd_natAbs.2 h1
    rw [Int.natAbs_mul] at h2
    exact Int.natAbs_dvd_natAbs.1 (Nat.Coprime.dvd_of_dvd_mul_left (show Nat.gcd q.natAbs p.natAbs = 1 from by rw [Nat.gcd_comm]; exact hc) h2)
  obtain ⟨t, rfl⟩ := hd
  have ht : 0 < t := by
    rcases Int.lt_or_le 0 t with h | h
    · exact h
    · have := Int.mul_nonpos_of_nonneg_of_nonpos (Int.le_of_lt hq) h
      omega
  have hs : s = p * t := by
    apply Int.eq_of_mul_eq_mul_right (show q ≠ 0 by omega)
    rw [h, Int.mul_assoc, Int.mul_comm t q]
  subst hs
  have hg : (Int.gcd (p * t) (q * t) : Int) = t := by
    rw [Int.gcd_mul_right, hc, Nat.one_mul]
    omega
  rw [hg]
  exact ⟨Int.mul_tdiv_cancel _ (by omega), Int.mul_tdiv_cancel _ (by omega)⟩
/-- the entries on the diagonal of B times its star -/
theorem crit_sum {n : Nat} {B : MF} (hn : 1 ≤ n) {i : Nat} (hi : i < n) : mulF n B (closF n B) i i = es (fun k => pwF n B (k + 1) i i) n := by
  rw [mulF_congr (eqF.refl n B) (clos_star B hn) i hi i hi]
  unfold mulF smF
  rw [show (fun k => ep (B i k) (es (fun l => pwF n B l k i) n)) = fun k => es (fun l => ep (B i k) (pwF n B l k i)) n from funext fun k => ep_es _ _ _]
  rw [es_swap]
  exact es_congr fun l _ => mul_pw n B l i hi i hi
/-- is a vertex on a cycle of the list with the mean p / q? -/
def OnC (n : Nat) (A : MF) (p q : Int) (v : Nat) : Prop := ∃ c s, c ∈ cycL n A ∧ preL A (gC c) c.length = some s ∧ s * q = p * c.length ∧ v ∈ c
theorem walk_cyc {n : Nat} {B : MF} {g : Nat → Nat} {k : Nat} (h1 : 1 ≤ k) (hg : ∀ t, t ≤ k → g t < n) (hc : g k = g 0) (hne : preL B g k ≠ none) (ho : ∀ a b, a < b → b < k → g a ≠ g b) : ∃ c, IsCyc n B c ∧ c.length = k ∧ preL B (gC c) k = preL B g k ∧ g 0 ∈ c := by
  -- the least vertex
  obtain ⟨t0, ht0, hmin⟩ : ∃ t0, t0 < k ∧ ∀ t, t < k → g t0 ≤ g t := by
    clear ho hne hc hg
    induction k with
    | zero => omega
    | succ k ih =>
      by_cases hk : 1 ≤ k
      · obtain ⟨t, ht, hm⟩ := ih hk
        by_cases hl : g t ≤ g k
        · exact ⟨t, by omega, fun s hs => by by_cases e : s = k; rw [e]; exact hl; exact hm s (by omega)⟩
        · exact ⟨k, by omega, fun s hs => by by_cases e : s = k; rw [e]; exact Nat.le_refl _; have := hm s (by omega); omega⟩
      · exact ⟨0, by omega, fun s hs => by rw [show s = 0 by omega]; exact Nat.le_refl _⟩
  -- the walk from there on
  obtain ⟨r, hr⟩ : ∃ r : Nat → Nat, r = fun t => if t0 + t < k then g (t0 + t) else g (t0 + t - k) := ⟨_, rfl⟩
  have ra : ∀ t, t0 + t ≤ k → r t = g (t0 + t) := fun t ht => by
    rw [hr]
    show (if t0 + t < k then g (t0 + t) else g (t0 + t - k)) = _
    by_cases e : t0 + t < k
    · rw [if_pos e]
    · rw [if_neg e, show t0 + t - k = 0 by omega, show t0 + t = k by omega, hc]
  have rb : ∀ t, t ≤ t0 → r (k - t0 + t) = g t := fun t ht => by
    rw [hr]
    show (if t0 + (k - t0 + t) < k then _ else g (t0 + (k - t0 + t) - k)) = _
    rw [if_neg (by omega), show t0 + (k - t0 + t) - k = t by omega]
  have rn : ∀ t, t < k → ∃ s, s < k ∧ r t = g s ∧ (s = t0 + t ∨ s + k = t0 + t) := fun t ht => by
    by_cases e : t0 + t < k
    · exact ⟨t0 + t, e, ra t (by omega), .inl rfl⟩
    · refine ⟨t0 + t - k, by omega, ?_, .inr (by omega)⟩
      have := rb (t0 + t - k) (by omega)
      rw [show k - t0 + (t0 + t - k) = t by omega] at this
      exact this
  have rk : r k = r 0 := by
    have h1 := rb t0 (Nat.le_refl _)
    rw [show k - t0 + t0 = k by omega] at h1
    rw [h1, ra 0 (by omega)]
    rfl
  have hpre : preL B r k = preL B g k := by
    have e1 := pre_split B r (k - t0) t0
    rw [show k - t0 + t0 = k by omega] at e1
    have e2 := pre_split B g t0 (k - t0)
    rw [show t0 + (k - t0) = k by omega] at e2
    rw [e1, e2, pre_congr (h := fun t => g (t0 + t)) (fun t ht => ra t (by omega)), pre_congr (g := fun t => r (k - t0 + t)) (h := g) (fun t ht => rb t ht), ep_comm]
  have hlen : ((List.range k).map r).length = k := by simp
  have hgt : ∀ t, t < k → gC ((List.range k).map r) t = r t := fun t ht => by
    unfold gC
    rw [List.getD_eq_getElem?_getD, List.getElem?_map, List.getElem?_range ht]
    rfl
  have hgk : gC ((List.range k).map r) k = r k := by
    have := gC_end ((List.range k).map r)
    rw [hlen] at this
    rw [this, hgt 0 (by omega), rk]
  have hpc : preL B (gC ((List.range k).map r)) k = preL B g k := by
    rw [← hpre]
    refine pre_congr fun t ht => ?_
    by_cases e : t = k
    · rw [e]; exact hgk
    · exact hgt t (by omega)
  refine ⟨(List.range k).map r, ⟨by rw [hlen]; exact h1, fun x hx => ?_, fun a b hab hb => ?_, fun x hx => ?_, ?_⟩, hlen, hpc, ?_⟩
  · obtain ⟨t, ht, rfl⟩ := List.mem_map.1 hx
    obtain ⟨s, hs, e, _⟩ := rn t (List.mem_range.1 ht)
    rw [e]
    exact hg s (by omega)
  · rw [hlen] at hb
    rw [hgt a (by omega), hgt b hb]
    obtain ⟨s, hs, e, es⟩ := rn a (by omega)
    obtain ⟨u, hu, e2, eu⟩ := rn b hb
    rw [e, e2]
    rcases Nat.lt_trichotomy s u with h | h | h
    · exact ho s u h hu
    · omega
    · exact fun e => ho u s h hs e.symm
  · obtain ⟨t, ht, rfl⟩ := List.mem_map.1 hx
    obtain ⟨s, hs, e, _⟩ := rn t (List.mem_range.1 ht)
    rw [hgt 0 (by omega), ra 0 (by omega), e]
    exact hmin s hs
  · rw [hlen, hpc]; exact hne
  · refine List.mem_map.2 ⟨if t0 = 0 then 0 else k - t0, List.mem_range.2 (by split <;> omega), ?_⟩
    by_cases e : t0 = 0
    · rw [if_pos e, ra 0 (by omega), e]
    · rw [if_neg e]
      exact rb 0 (by omega)
theorem crit_on {n : Nat} {A : MF} {p q : Int} (hn : 1 ≤ n) (h : spF n A = some (p, q)) {v : Nat} (hv : v < n) : zB (mulF n (lvF p q A) (closF n (lvF p q A)) v v) = true ↔ OnC n A p q v := by
  have hN := lv_noPos h
  obtain ⟨_, _, _, _, hq⟩ := sp_parts h
  rw [zB_iff, crit_sum hn hv]
  constructor
  · intro e
    obtain ⟨k, hk, e2⟩ := es_attain (f := fun k => pwF n (lvF p q A) (k + 1) v v) (n := n) (by rw [e]; simp)
    rw [e] at e2
    have hp : (fun k => zB (pwF n (lvF p q A) (k + 1) v v)) k = true := zB_iff.2 e2.symm
    have hx := fst_ex (p := fun k => zB (pwF n (lvF p q A) (k + 1) v v)) hk hp
    obtain ⟨_, k2, k3⟩ := fst_le (fun k => zB (pwF n (lvF p q A) (k + 1) v v)) n
    have kz := zB_iff.1 (k2 hx)
    generalize fstF (fun k => zB (pwF n (lvF p q A) (k + 1) v v)) n = m at *
    obtain ⟨g, g0, gm, gn, gp⟩ := pre_ex (n := n) (A := lvF p q A) hv (k := m + 1) hv (by rw [kz]; simp)
    rw [kz] at gp
    have ho : ∀ a b, a < b → b < m + 1 → g a ≠ g b := fun a b hab hb he => by
      have h2 := (pre_part hN (m := m + 1) (by omega) gn (by rw [gm, g0]) gp hab hb he).2
      rw [g0] at h2
      have h3 := k3 (m + 1 - b + a - 1) (by omega)
      rw [show m + 1 - b + a - 1 + 1 = m + 1 - b + a by omega, h2] at h3
      cases h3
    obtain ⟨c, hc, hl, hpc, hm⟩ := walk_cyc (k := m + 1) (by omega) gn (by rw [gm, g0]) (by rw [gp]; simp) ho
    rw [gp, preL_lv] at hpc
    cases hs : preL A (gC c) (m + 1) with
    | none => rw [hs] at hpc; cases hpc
    | some s =>
      rw [hs] at hpc
      have e3 : q * s - p * ((m + 1 : Nat) : Int) = 0 := Option.some.inj hpc
      have hcA : IsCyc n A c := ⟨hc.1, hc.2.1, hc.2.2.1, hc.2.2.2.1, by rw [hl, hs]; simp⟩
      refine ⟨c, s, cycL_mem.2 hcA, by rw [hl]; exact hs, by rw [hl, Int.mul_comm]; omega, by rw [g0] at hm; exact hm⟩
  · rintro ⟨c, s, hc, hs, he, hm⟩
    obtain ⟨h1, hx, ho, hl, hp⟩ := cycL_mem.1 hc
    have hcl := once_len h1 hx ho
    obtain ⟨t, ht, et⟩ := gC_of hm
    have hz : preL (lvF p q A) (gC c) c.length = some 0 := by
      rw [preL_lv, hs]
      show some (q * s - p * (c.length : Int)) = some 0
      rw [Int.mul_comm q s, he, Int.sub_self]
    have h2 := pre_turn hN h1 hcl (fun t _ => gC_lt h1 hx t) (gC_end c) hz (t := t) (by omega)
    rw [et] at h2
    apply leE.antisymm
    · exact es_lub fun k hk => pw_loop hN hv (by omega) (by omega)
    · rw [← h2]
      have h3 := es_le (f := fun k => pwF n (lvF p q A) (k + 1) v v) (n := n) (k := c.length - 1) (by omega)
      rw [show c.length - 1 + 1 = c.length by omega] at h3
      exact h3
end Go.Proofs.YtbcngojiikdigaaGreat

namespace Go.Proofs.YtbcngojiikdigaaGreat
/-! The powers of a connected matrix without a closed walk above 0, but with one of the sum 0, come again (pure). -/
/-- no closed walk adds anything -/
def NoLoop (n : Nat) (B : MF) : Prop := ∀ k i, 1 ≤ k → i < n → leE (pwF n B k i i) (some 0)
theorem noLoop {n : Nat} {B : MF} (hn : 1 ≤ n) (h : NoPos n B) : NoLoop n B := fun k i _ hi => by
  refine (pw_star hn h k i i hi hi).trans (es_lub fun m hm => ?_)
  rcases Nat.eq_zero_or_pos m with rfl | hm1
  · show leE (oneF i i) (some 0)
    unfold oneF
    rw [if_pos rfl]
    exact leE.refl _
  · exact pw_loop h hi hm1 (by omega)
theorem zl_zero (n : Nat) (B : MF) (v : Nat) : pwF n B 0 v v = some 0 := by
  show oneF v v = some 0
  unfold oneF
  rw [if_pos rfl]
theorem zl_add {n : Nat} {B : MF} (hL : NoLoop n B) {v : Nat} (hv : v < n) {a b : Nat} (ha : pwF n B a v v = some 0) (hb : pwF n B b v v = some 0) : pwF n B (a + b) v v = some 0 := by
  by_cases h : a + b = 0
  · rw [h]; exact zl_zero n B v
  · refine leE.antisymm (hL _ _ (by omega) hv) ?_
    have := pw_two (B := B) (a := a) (b := b) hv hv hv
    rw [ha, hb] at this
    exact this
theorem zl_mul {n : Nat} {B : MF} (hL : NoLoop n B) {v : Nat} (hv : v < n) {a : Nat} (ha : pwF n B a v v = some 0) : ∀ x, pwF n B (a * x) v v = some 0 := by
  intro x
  induction x with
  | zero => exact zl_zero n B v
  | succ x ih => rw [Nat.mul_succ]; exact zl_add hL hv ih ha
/-- a walk without a closed part of it is no smaller -/
theorem cut_le {n : Nat} {B : MF} (hL : NoLoop n B) {g : Nat → Nat} {m : Nat} (hg : ∀ t, t ≤ m → g t < n) {a b : Nat} (hab : a < b) (hb : b ≤ m) (he : g a = g b) : leE (preL B g m) (pwF n B (m - b + a) (g m) (g 0)) := by
  have e1 := pre_split B g a (m - a)
  rw [show a + (m - a) = m by omega] at e1
  have e2 := pre_split B (fun t => g (a + t)) (b - a) (m - b)
  rw [show b - a + (m - b) = m - a by omega] at e2
  have l1 := pre_le (n := n) (A := B) (g := g) (k := a) (fun s hs => hg s (by omega))
  have l2 := pre_le (n := n) (A := B) (g := fun s => g (a + s)) (k := b - a) (fun s hs => hg (a + s) (by omega))
  have l3 := pre_le (n := n) (A := B) (g := fun t => g (a + (b - a + t))) (k := m - b) (fun s hs => hg _ (by omega))
  simp only [Nat.add_zero] at l2 l3
  rw [show a + (b - a) = b by omega, ← he] at l2
  rw [show a + (b - a + (m - b)) = m by omega, show a + (b - a) = b by omega, ← he] at l3
  have l4 := pw_two (B := B) (a := m - b) (b := a) (hg m (by omega)) (hg 0 (by omega)) (hg a (by omega))
  have i1 := hL (b - a) (g a) (by omega) (hg a (by omega))
  rw [e1, e2]
  have k1 := ep_mono l1 (ep_mono (l2.trans i1) l3)
  rw [zero_ep, ep_comm (pwF n B a (g a) (g 0))] at k1
  exact k1.trans l4
theorem part_zero {n : Nat} {B : MF} (hL : NoLoop n B) {g : Nat → Nat} {m : Nat} (hg : ∀ t, t ≤ m → g t < n) (hc : g m = g 0) (h : preL B g m = some 0) {a b : Nat} (hab : a < b) (hb : b < m) (he : g a = g b) :
    pwF n B (b - a) (g a) (g a) = some 0 ∧ pwF n B (m - b + a) (g 0) (g 0) = some 0 := by
  have e1 := pre_split B g a (m - a)
  rw [show a + (m - a) = m by omega, h] at e1
  have e2 := pre_split B (fun t => g (a + t)) (b - a) (m - b)
  rw [show b - a + (m - b) = m - a by omega] at e2
  have l1 := pre_le (n := n) (A := B) (g := g) (k := a) (fun s hs => hg s (by omega))
  have l2 := pre_le (n := n) (A := B) (g := fun s => g (a + s)) (k := b - a) (fun s hs => hg (a + s) (by omega))
  have l3 := pre_le (n := n) (A := B) (g := fun t => g (a + (b - a + t))) (k := m - b) (fun s hs => hg _ (by omega))
  simp only [Nat.add_zero] at l2 l3
  rw [show a + (b - a) = b by omega, ← he] at l2
  rw [show a + (b - a + (m - b)) = m by omega, show a + (b - a) = b by omega, hc, ← he] at l3
  have l4 := pw_two (B := B) (a := m - b) (b := a) (hg 0 (by omega)) (hg 0 (by omega)) (hg a (by omega))
  have i1 := hL (b - a) (g a) (by omega) (hg a (by omega))
  have i2 := hL (m - b + a) (g 0) (by omega) (hg 0 (by omega))
  rw [e2] at e1
  generalize preL B g a = x at *
  generalize preL B (fun t => g (a + t)) (b - a) = y at *
  generalize preL B (fun t => g (a + (b - a + t))) (m - b) = z at *
  have k1 : ep y (ep z x) = some 0 := by rw [e1, ← ep_assoc, ep_comm (ep y z) x]
  have k2 := (ep_mono l3 l1).trans l4
  obtain ⟨s1, s2⟩ := sum_zero (l2.trans i1) (k2.trans i2) k1
  rw [s1] at l2
  rw [s2] at k2
  exact ⟨leE.antisymm i1 l2, leE.antisymm i2 k2⟩
/-- a walk of as many arcs, up to multiples of d, of at most n * d arcs, that is no smaller -/
theorem reduce {n : Nat} {B : MF} (hL : NoLoop n B) {d : Nat} (hd : 1 ≤ d) {i j : Nat} (hi : i < n) (hj : j < n) : ∀ L, ∃ L', L' ≤ n * d ∧ L' % d = L % d ∧ leE (pwF n B L i j) (pwF n B L' i j) := by
  intro L
  induction L using Nat.strongRecOn with
  | ind L ih =>
    by_cases hl : L ≤ n * d
    · exact ⟨L, hl, rfl, leE.refl _⟩
    · by_cases hne : pwF n B L i j = none
      · refine ⟨L % d, ?_, Nat.mod_mod _ _, by rw [hne]; exact none_leE _⟩
        have h1 := Nat.mod_lt L (show d > 0 by omega)
        have h2 : 1 * d ≤ n * d := Nat.mul_le_mul_right d (by omega)
        omega
      · obtain ⟨g, g0, gk, gn, gp⟩ := pre_ex hj hi hne
        have hf : ∀ t, t ≤ n * d → g t * d + t % d < n * d := fun t ht => by
          have h1 := Nat.mod_lt t (show d > 0 by omega)
          have h2 : (g t + 1) * d ≤ n * d := Nat.mul_le_mul_right d (gn t (by omega))
          rw [Nat.add_mul, Nat.one_mul] at h2
          omega
        obtain ⟨a, b, hab, hb, e⟩ := pigeon (n * d) (fun t => g t * d + t % d) hf
        have e : g a * d + a % d = g b * d + b % d := e
        have eg : g a = g b := by
          have h1 : (g a * d + a % d) / d = g a := by rw [Nat.add_comm, Nat.add_mul_div_right _ _ (by omega), Nat.div_eq_of_lt (Nat.mod_lt _ (by omega)), Nat.zero_add]
          have h2 : (g b * d + b % d) / d = g b := by rw [Nat.add_comm, Nat.add_mul_div_right _ _ (by omega), Nat.div_eq_of_lt (Nat.mod_lt _ (by omega)), Nat.zero_add]
          rw [← h1, ← h2, e]
        have em : a % d = b % d := by rw [eg] at e; omega
        have hc := cut_le hL gn hab (by omega) eg
        rw [gp, gk, g0] at hc
        obtain ⟨L', h1, h2, h3⟩ := ih (L - b + a) (by omega)
        refine ⟨L', h1, ?_, hc.trans h3⟩
        rw [h2]
        have hs := Nat.sub_mod_eq_zero_of_mod_eq em.symm
        obtain ⟨q, hq⟩ := Nat.dvd_of_mod_eq_zero hs
        rw [show L = L - b + a + d * q by omega, Nat.add_mul_mod_self_left, show L - b + a + d * q - b + a = L - b + a by omega]
/-- is a vertex on a closed walk with the sum 0? -/
def Crit (n : Nat) (B : MF) (v : Nat) : Prop := ∃ k, 1 ≤ k ∧ pwF n B k v v = some 0
theorem crit_small {n : Nat} {B : MF} (hL : NoLoop n B) {v : Nat} (hv : v < n) : ∀ k, 1 ≤ k → pwF n B k v v = some 0 → ∃ l, 1 ≤ l ∧ l ≤ n ∧ pwF n B l v v = some 0 := by
  intro k
  induction k using Nat.strongRecOn with
  | ind k ih =>
    intro h1 hz
    by_cases hk : k ≤ n
    · exact ⟨k, h1, hk, hz⟩
    · obtain ⟨g, g0, gk, gn, gp⟩ := pre_ex hv (k := k) hv (by rw [hz]; simp)
      rw [hz] at gp
      obtain ⟨a, b, hab, hb, e⟩ := pigeon n g (fun t ht => gn t (by omega))
      have h2 := (part_zero hL gn (by rw [gk, g0]) gp hab (by omega) e).2
      rw [g0] at h2
      exact ih (k - b + a) (by omega) (by omega) h2
theorem dvK_dvd {n : Nat} {B : MF} {v : Nat} : ∀ m l, 1 ≤ l → l ≤ m → pwF n B l v v = some 0 → dvK n B m v ∣ l := by
  intro m
  induction m with
  | zero => intro l h1 h2; omega
  | succ m ih =>
    intro l h1 h2 hz
    simp only [dvK]
    by_cases e : l = m + 1
    · subst e
      rw [if_pos (zB_iff.2 hz)]
      exact Nat.gcd_dvd_right _ _
    · split
      · exact Nat.dvd_trans (Nat.gcd_dvd_left _ _) (ih l h1 (by omega) hz)
      · exact ih l h1 (by omega) hz
theorem dvK_none {n : Nat} {B : MF} {v : Nat} (h : ¬ Crit n B v) : ∀ m, dvK n B m v = 0 := by
  intro m
  induction m with
  | zero => rfl
  | succ m ih =>
    simp only [dvK]
    rw [if_neg fun e => h ⟨m + 1, by omega, zB_iff.1 e⟩]
    exact ih
theorem star_at {n : Nat} {B : MF} (hn : 1 ≤ n) (hN : NoPos n B) {i j : Nat} (hi : i < n) (hj : j < n) {k : Nat} (h : pwF n B k i j ≠ none) : ∃ s, s < n ∧ leE (pwF n B k i j) (pwF n B s i j) := by
  have h1 := pw_star hn hN k i j hi hj
  have hne : smF n B n i j ≠ none := fun e => by
    rw [e] at h1
    cases hx : pwF n B k i j with
    | none => exact h hx
    | some x => rw [hx] at h1; cases h1
  obtain ⟨s, hs, e⟩ := es_attain (f := fun k => pwF n B k i j) (n := n) hne
  refine ⟨s, hs, ?_⟩
  rw [← e]
  exact h1
/-- the length of every closed walk with the sum 0 is a multiple -/
theorem dv_all {n : Nat} {B : MF} (hn : 1 ≤ n) (hN : NoPos n B) {v : Nat} (hv : v < n) : ∀ k, 1 ≤ k → pwF n B k v v = some 0 → dvK n B (3 * n) v ∣ k := by
  have hL := noLoop hn hN
  intro k
  induction k using Nat.strongRecOn with
  | ind k ih =>
    intro h1 hz
    by_cases hk : k ≤ 3 * n
    · exact dvK_dvd _ k h1 hk hz
    · obtain ⟨g, g0, gk, gn, gp⟩ := pre_ex hv (k := k) hv (by rw [hz]; simp)
      rw [hz] at gp
      obtain ⟨a, b, hab, hb, e⟩ := pigeon n g (fun t ht => gn t (by omega))
      obtain ⟨z1, z2⟩ := part_zero hL gn (by rw [gk, g0]) gp hab (by omega) e
      rw [g0] at z2
      have d1 := ih (k - b + a) (by omega) (by omega) z2
      -- from v to g a and back
      have hu : g a < n := gn a (by omega)
      have es := pre_split B g a (k - a)
      rw [show a + (k - a) = k by omega, gp] at es
      have l1 := pre_le (n := n) (A := B) (g := g) (k := a) (fun s hs => gn s (by omega))
      have l2 := pre_le (n := n) (A := B) (g := fun s => g (a + s)) (k := k - a) (fun s hs => gn (a + s) (by omega))
      simp only [Nat.add_zero] at l2
      rw [show a + (k - a) = k by omega, gk] at l2
      rw [g0] at l1
      generalize g a = u at *
      have n1 : preL B g a ≠ none := fun e => by rw [e] at es; cases es
      have n2 : preL B (fun t => g (a + t)) (k - a) ≠ none := fun e => by rw [e, ep_none] at es; cases es
      generalize preL B g a = x at *
      generalize preL B (fun t => g (a + t)) (k - a) = y at *
      have m1 : pwF n B a u v ≠ none := fun e => by
        rw [e] at l1
        cases hx : x with
        | none => exact n1 hx
        | some x' => rw [hx] at l1; cases l1
      have m2 : pwF n B (k - a) v u ≠ none := fun e => by
        rw [e] at l2
        cases hy : y with
        | none => exact n2 hy
        | some y' => rw [hy] at l2; cases l2
      obtain ⟨s, hs, ls⟩ := star_at hn hN hu hv m1
      obtain ⟨r, hr, lr⟩ := star_at hn hN hv hu m2
      have h0 : leE (some 0) (ep (pwF n B r v u) (pwF n B s u v)) := by
        rw [es, ep_comm x y]
        exact ep_mono (l2.trans lr) (l1.trans ls)
      have zr : pwF n B (r + s) v v = some 0 := by
        by_cases hrs : r + s = 0
        · rw [hrs]; exact zl_zero n B v
        · exact leE.antisymm (hL _ _ (by omega) hv) (h0.trans (pw_two hv hv hu))
      have zt : pwF n B (r + (b - a + s)) v v = some 0 := by
        refine leE.antisymm (hL _ _ (by omega) hv) (h0.trans ?_)
        have k1 := pw_two (B := B) (a := b - a) (b := s) hu hv hu
        rw [z1, zero_ep] at k1
        exact (ep_mono (leE.refl _) k1).trans (pw_two hv hv hu)
      have d2 : dvK n B (3 * n) v ∣ r + s := by
        by_cases hrs : r + s = 0
        · rw [hrs]; exact Nat.dvd_zero _
        · exact dvK_dvd _ _ (by omega) (by omega) zr
      have d3 := dvK_dvd (n := n) (B := B) (v := v) (3 * n) (r + (b - a + s)) (by omega) (by omega) zt
      have d4 : dvK n B (3 * n) v ∣ b - a := by
        have := Nat.dvd_sub d3 d2
        rw [show r + (b - a + s) - (r + s) = b - a by omega] at this
        exact this
      have := Nat.dvd_add d1 d4
      rw [show k - b + a + (b - a) = k by omega] at this
      exact this
theorem dv_crit {n : Nat} {B : MF} (hn : 1 ≤ n) (hN : NoPos n B) {v : Nat} (hv : v < n) (hc : Crit n B v) : 1 ≤ dvK n B (3 * n) v ∧ dvK n B (3 * n) v ≤ n := by
  obtain ⟨k, h1, hz⟩ := hc
  obtain ⟨l, l1, l2, l3⟩ := crit_small (noLoop hn hN) hv k h1 hz
  have hd := dv_all hn hN hv l l1 l3
  have := Nat.le_of_dvd (by omega) hd
  refine ⟨?_, by omega⟩
  rcases Nat.eq_zero_or_pos (dvK n B (3 * n) v) with h | h
  · rw [h] at hd; have := Nat.eq_zero_of_zero_dvd hd; omega
  · exact h
theorem bez (m n : Nat) : ∃ x y : Int, m * x + n * y = Nat.gcd m n := by
  induction m, n using Nat.gcd.induction with
  | H0 n => exact ⟨0, 1, by simp⟩
  | H1 m n hm ih =>
    obtain ⟨x, y, h⟩ := ih
    refine ⟨y - (n / m : Nat) * x, x, ?_⟩
    rw [Nat.gcd_rec, ← h]
    have e : ((n % m : Nat) : Int) = n - m * (n / m : Nat) := by
      have := Nat.div_add_mod n m
      omega
    rw [e]
    generalize ((n / m : Nat) : Int) = w
    rw [Int.mul_sub, Int.sub_mul, Int.mul_assoc]
    omega
theorem bez_mod {g l t : Nat} (hg : 0 < g) (h : Nat.gcd g l ∣ t) : ∃ y, y < g ∧ (l * y) % g = t % g := by
  obtain ⟨x, y, e⟩ := bez g l
  obtain ⟨s, hs⟩ := h
  refine ⟨((y * s) % (g : Int)).toNat, ?_, ?_⟩
  · have h1 := Int.emod_nonneg (y * s) (show (g : Int) ≠ 0 by omega)
    have h2 := Int.emod_lt_of_pos (y * s) (show (0 : Int) < g by omega)
    omega
  · have h1 := Int.emod_nonneg (y * s) (show (g : Int) ≠ 0 by omega)
    have e2 : ((l * ((y * s) % (g : Int)).toNat : Nat) : Int) = l * ((y * s) % (g : Int)) := by
      rw [Int.natCast_mul, Int.toNat_of_nonneg h1]
    have e3 : (t : Int) = g * (x * s) + l * (y * s) := by
      rw [hs, Int.natCast_mul, ← e, Int.add_mul, Int.mul_assoc, Int.mul_assoc]
    have e4 : ((l * ((y * s) % (g : Int)).toNat : Nat) : Int) % g = (t : Int) % g := by
      rw [e2, e3, Int.add_comm, Int.add_mul_emod_self_left, Int.mul_emod, Int.emod_emod_of_dvd _ (Int.dvd_refl _), ← Int.mul_emod]
    have e5 := e4
    rw [← Int.natCast_emod, ← Int.natCast_emod] at e5
    exact Int.natCast_inj.1 e5
/-- long enough multiples are lengths of closed walks with the sum 0 -/
theorem frob_m {n : Nat} {B : MF} (hL : NoLoop n B) {v : Nat} (hv : v < n) : ∀ m, m ≤ 18 → dvK n B m v = 0 ∨ ∀ t, 18 + 324 * m ≤ t → dvK n B m v ∣ t → pwF n B t v v = some 0 := by
  intro m
  induction m with
  | zero => intro _; exact .inl rfl
  | succ m ih =>
    intro hm
    simp only [dvK]
    by_cases hz : zB (pwF n B (m + 1) v v) = true
    · rw [if_pos hz]
      have hz := zB_iff.1 hz
      refine .inr fun t ht hd => ?_
      rcases Nat.eq_zero_or_pos (dvK n B m v) with h0 | h0
      · rw [h0, Nat.gcd_zero_left] at hd
        obtain ⟨x, rfl⟩ := hd
        exact zl_mul hL hv hz x
      · rcases ih (by omega) with h | h
        · omega
        · have hg := dvK_le n B m v
          obtain ⟨y, hy, e⟩ := bez_mod h0 hd
          have hb : (m + 1) * y ≤ 18 * 18 := Nat.mul_le_mul (by omega) (by omega)
          have hdd := Nat.dvd_of_mod_eq_zero (Nat.sub_mod_eq_zero_of_mod_eq e.symm)
          have z1 := h (t - (m + 1) * y) (by omega) hdd
          have z2 := zl_add hL hv z1 (zl_mul hL hv hz y)
          rw [show t - (m + 1) * y + (m + 1) * y = t by omega] at z2
          exact z2
    · rw [if_neg hz]
      rcases ih (by omega) with h | h
      · exact .inl h
      · exact .inr fun t ht hd => h t (by omega) hd
theorem frob {n : Nat} {B : MF} (hn : 1 ≤ n) (hn6 : n ≤ 6) (hN : NoPos n B) {v : Nat} (hv : v < n) (hc : Crit n B v) {t : Nat} (ht : 6000 ≤ t) (hd : dvK n B (3 * n) v ∣ t) : pwF n B t v v = some 0 := by
  rcases frob_m (noLoop hn hN) hv (3 * n) (by omega) with h | h
  · have := (dv_crit hn hN hv hc).1; omega
  · exact h t (by omega) hd
theorem pre_bd {n : Nat} {A : MF} {K : Int} {g : Nat → Nat} (hA : bdF K n A) : ∀ k : Nat, (∀ t, t ≤ k → g t < n) → bdE (K * k) (preL A g k) := by
  intro k
  induction k with
  | zero => intro _ y hy; injection hy with hy; omega
  | succ k ih =>
    intro hg
    have := bdE_ep (ih fun t ht => hg t (by omega)) (hA _ (hg (k + 1) (by omega)) _ (hg k (by omega)))
    have e : K * ((k + 1 : Nat) : Int) = K * (k : Int) + K := by rw [Int.natCast_add, Int.mul_add]; simp
    rw [e]
    exact this
/-- a walk through no vertex on a closed walk with the sum 0 -/
theorem nc_bd {n : Nat} {B : MF} {K : Int} (hL : NoLoop n B) (hK : 0 ≤ K) (hB : bdF K n B) : ∀ (L : Nat) (g : Nat → Nat) (w : Int), (∀ t, t ≤ L → g t < n ∧ ¬ Crit n B (g t)) → preL B g L = some w → n * w ≤ n * (K * n) + n - L := by
  intro L
  induction L using Nat.strongRecOn with
  | ind L ih =>
    intro g w hg hw
    by_cases hl : L < n
    · have h1 := (pre_bd hB L (fun t ht => (hg t ht).1) w hw).2
      have h2 : K * (L : Int) ≤ K * n := Int.mul_le_mul_of_nonneg_left (by omega) hK
      have h3 : (n : Int) * w ≤ n * (K * n) := Int.mul_le_mul_of_nonneg_left (by omega) (by omega)
      omega
    · obtain ⟨a, b, hab, hb, e⟩ := pigeon n g (fun t ht => (hg t (by omega)).1)
      have e1 := pre_split B g a (L - a)
      rw [show a + (L - a) = L by omega, hw] at e1
      have e2 := pre_split B (fun t => g (a + t)) (b - a) (L - b)
      rw [show b - a + (L - b) = L - a by omega] at e2
      have l2 := pre_le (n := n) (A := B) (g := fun s => g (a + s)) (k := b - a) (fun s hs => (hg (a + s) (by omega)).1)
      simp only [Nat.add_zero] at l2
      rw [show a + (b - a) = b by omega, ← e] at l2
      have i1 := hL (b - a) (g a) (by omega) (hg a (by omega)).1
      -- the rest is a walk
      obtain ⟨h, hh⟩ : ∃ h : Nat → Nat, h = fun t => if t ≤ a then g t else g (t + (b - a)) := ⟨_, rfl⟩
      have ha : ∀ t, t ≤ a → h t = g t := fun t ht => by rw [hh]; exact if_pos ht
      have hb2 : ∀ t, h (a + t) = g (b + t) := fun t => by
        rw [hh]
        show (if a + t ≤ a then g (a + t) else g (a + t + (b - a))) = _
        by_cases h0 : t = 0
        · subst h0; rw [if_pos (by omega)]; exact e
        · rw [if_neg (by omega), show a + t + (b - a) = b + t by omega]
      have e3 := pre_split B h a (L - b)
      rw [pre_congr (g := h) (h := g) (k := a) ha, pre_congr (g := fun t => h (a + t)) (h := fun t => g (a + (b - a + t))) (fun t _ => by show h (a + t) = g (a + (b - a + t)); rw [hb2, show a + (b - a + t) = b + t by omega])] at e3
      rw [e2] at e1
      cases hx : preL B g a with
      | none => rw [hx] at e1; cases e1
      | some x =>
        cases hy : preL B (fun t => g (a + t)) (b - a) with
        | none => rw [hx, hy] at e1; cases e1
        | some y =>
          cases hz : preL B (fun t => g (a + (b - a + t))) (L - b) with
          | none => rw [hx, hy, hz] at e1; cases e1
          | some z =>
            rw [hx, hy, hz] at e1
            have e1 : w = x + (y + z) := Option.some.inj e1
            rw [hx, hz] at e3
            have h1 := ih (a + (L - b)) (by omega) h (x + z) (fun t ht => by
              by_cases c : t ≤ a
              · rw [ha t c]; exact hg t (by omega)
              · have := hb2 (t - a)
                rw [show a + (t - a) = t by omega] at this
                rw [this]
                exact hg _ (by omega)) e3
            have hyn : y ≤ -1 := by
              rw [hy] at l2
              have h2 := leE_some.1 (l2.trans i1)
              rcases Int.lt_or_le y 0 with h | h
              · omega
              · obtain rfl : y = 0 := by omega
                exact absurd ⟨b - a, by omega, leE.antisymm i1 l2⟩ (hg a (by omega)).2
            have h4 : (n : Int) * w ≤ n * (x + z - 1) := Int.mul_le_mul_of_nonneg_left (by omega) (by omega)
            rw [Int.mul_sub, Int.mul_one] at h4
            omega
theorem le_ne {x y : E} (h : leE x y) (hx : x ≠ none) : y ≠ none := fun e => by
  rw [e] at h
  cases x with
  | none => exact hx rfl
  | some a => cases h
theorem le_low {x y : E} {C : Int} (h : leE x y) (hx : x ≠ none) (hb : ∀ a, x = some a → C ≤ a) : ∃ b, y = some b ∧ C ≤ b := by
  cases x with
  | none => exact absurd rfl hx
  | some a =>
    cases y with
    | none => cases h
    | some b => exact ⟨b, rfl, by have := leE_some.1 h; have := hb a rfl; omega⟩
theorem pw_rep {n : Nat} {B : MF} {j k : Nat} (hj : j < n) (h : pwF n B k j j ≠ none) : ∀ x, pwF n B (k * x) j j ≠ none := by
  intro x
  induction x with
  | zero => rw [Nat.mul_zero, zl_zero]; simp
  | succ x ih => rw [Nat.mul_succ]; exact le_ne (pw_two hj hj hj) (ep_ne.2 ⟨ih, h⟩)
/-- where there is a walk at all, there is one that is not too small -/
theorem pw_low {n : Nat} {B : MF} (hn : 1 ≤ n) (hn6 : n ≤ 6) (hN : NoPos n B) (hB : bdF 12000 n B) (hcn : ∀ i j, i < n → j < n → ∃ y, closF n B i j = some y) {v : Nat} (hv : v < n) (hc : Crit n B v)
    {i j L : Nat} (hi : i < n) (hj : j < n) (hL : 7000 ≤ L) (h : pwF n B L i j ≠ none) : ∃ w, pwF n B L i j = some w ∧ -1296000 ≤ w := by
  have hNL := noLoop hn hN
  obtain ⟨d1, d2⟩ := dv_crit hn hN hv hc
  obtain ⟨d, hd⟩ : ∃ d, d = dvK n B (3 * n) v := ⟨_, rfl⟩
  rw [← hd] at d1 d2
  have path : ∀ i j, i < n → j < n → ∃ a, a < n ∧ pwF n B a i j ≠ none := fun i j hi hj => by
    obtain ⟨y, hy⟩ := hcn i j hi hj
    rw [clos_star B hn i hi j hj] at hy
    have hne : smF n B n i j ≠ none := by rw [hy]; simp
    obtain ⟨a, ha, e⟩ := es_attain (f := fun k => pwF n B k i j) (n := n) hne
    exact ⟨a, ha, fun e2 => hne (by rw [← e2]; exact e)⟩
  obtain ⟨a, ha, pa⟩ := path v j hv hj
  obtain ⟨b, hb, pb⟩ := path j v hj hv
  obtain ⟨L', h1, h2, h3⟩ := reduce hNL d1 hi hj L
  have h3 := le_ne h3 h
  have hnd : n * d ≤ 6 * 6 := Nat.mul_le_mul hn6 (by omega)
  have hdab : (b + a) * d ≤ 10 * 6 := Nat.mul_le_mul (by omega) (by omega)
  -- the multiple of d that is left
  obtain ⟨s, hs⟩ : ∃ s, s = L - L' - (b + a) * d := ⟨_, rfl⟩
  have hds : d ∣ s := by
    have e1 := Nat.dvd_of_mod_eq_zero (Nat.sub_mod_eq_zero_of_mod_eq h2.symm)
    rw [hs]
    exact Nat.dvd_sub e1 (Nat.dvd_mul_left _ _)
  have zs := frob hn hn6 hN hv hc (t := s) (by omega) (by rw [← hd]; exact hds)
  -- j to v, around, to j, and d - 1 times more, to i
  have r1 : pwF n B ((b + a) * (d - 1)) j j ≠ none := pw_rep hj (le_ne (pw_two hj hj hv) (ep_ne.2 ⟨pb, pa⟩)) _
  have q1 : leE (pwF n B a v j) (pwF n B (s + a) v j) := by
    have := pw_two (B := B) (a := s) (b := a) hv hj hv
    rw [zs, zero_ep] at this
    exact this
  have q2 := (ep_mono (leE.refl (pwF n B b j v)) q1).trans (pw_two (B := B) hj hj hv)
  have q3 := (ep_mono (leE.refl (pwF n B ((b + a) * (d - 1)) j j)) q2).trans (pw_two (B := B) hj hj hj)
  have q4 := (ep_mono (leE.refl (pwF n B L' i j)) q3).trans (pw_two (B := B) hi hj hj)
  have hsum : L' + ((b + a) * (d - 1) + (b + (s + a))) = L := by
    have : (b + a) * d = (b + a) * (d - 1) + (b + a) := by
      rw [← Nat.mul_succ, show (d - 1).succ = d by omega]
    omega
  rw [hsum] at q4
  refine le_low q4 (ep_ne.2 ⟨h3, ep_ne.2 ⟨r1, ep_ne.2 ⟨pb, pa⟩⟩⟩) fun x hx => ?_
  have b1 := bdF_pw hB L' i hi j hj
  have b2 := bdF_pw hB ((b + a) * (d - 1)) j hj j hj
  have b3 := bdF_pw hB b j hj v hv
  have b4 := bdF_pw hB a v hv j hj
  have b5 := bdE_ep b1 (bdE_ep b2 (bdE_ep b3 b4)) x hx
  have : (b + a) * (d - 1) ≤ 10 * 6 := Nat.mul_le_mul (by omega) (by omega)
  generalize (b + a) * (d - 1) = z at *
  omega
/-- a long walk can be taken through a vertex on a closed walk with the sum 0 -/
theorem touch {n : Nat} {B : MF} (hn : 1 ≤ n) (hn6 : n ≤ 6) (hN : NoPos n B) (hB : bdF 12000 n B) (hcn : ∀ i j, i < n → j < n → ∃ y, closF n B i j = some y) {v : Nat} (hv : v < n) (hc : Crit n B v)
    {i j L : Nat} (hi : i < n) (hj : j < n) (hL : 10000000 ≤ L) (h : pwF n B L i j ≠ none) : ∃ u t, u < n ∧ Crit n B u ∧ t ≤ L ∧ leE (pwF n B L i j) (ep (pwF n B (L - t) i u) (pwF n B t u j)) := by
  have hNL := noLoop hn hN
  obtain ⟨w, hw, hlow⟩ := pw_low hn hn6 hN hB hcn hv hc hi hj (by omega) h
  obtain ⟨g, g0, gk, gn, gp⟩ := pre_ex hj hi h
  by_cases hex : ∃ t, t ≤ L ∧ Crit n B (g t)
  · obtain ⟨t, ht, hct⟩ := hex
    refine ⟨g t, t, gn t ht, hct, ht, ?_⟩
    have e := pre_split B g t (L - t)
    rw [show t + (L - t) = L by omega, gp] at e
    have l1 := pre_le (n := n) (A := B) (g := g) (k := t) (fun s hs => gn s (by omega))
    have l2 := pre_le (n := n) (A := B) (g := fun s => g (t + s)) (k := L - t) (fun s hs => gn (t + s) (by omega))
    simp only [Nat.add_zero] at l2
    rw [show t + (L - t) = L by omega, gk] at l2
    rw [g0] at l1
    rw [e, ep_comm]
    exact ep_mono l2 l1
  · have hb := nc_bd hNL (by omega) hB L g w (fun t ht => ⟨gn t ht, fun hc => hex ⟨t, ht, hc⟩⟩) (by rw [gp, hw])
    have h1 : (n : Int) * (12000 * n) ≤ 6 * (12000 * 6) := Int.mul_le_mul (by omega) (by omega) (by omega) (by omega)
    have h2 : (n : Int) * (-1296000) ≤ n * w := Int.mul_le_mul_of_nonneg_left hlow (by omega)
    omega
/-- walks of many arcs depend only on their number up to multiples -/
theorem pw_again {n : Nat} {B : MF} (hn : 1 ≤ n) (hn6 : n ≤ 6) (hN : NoPos n B) (hB : bdF 12000 n B) (hcn : ∀ i j, i < n → j < n → ∃ y, closF n B i j = some y) {v : Nat} (hv : v < n) (hc : Crit n B v)
    {L M : Nat} (hL : 10000000 ≤ L) (hM : 10000000 ≤ M) (hd : ∀ u, u < n → Crit n B u → L % dvK n B (3 * n) u = M % dvK n B (3 * n) u) {i j : Nat} (hi : i < n) (hj : j < n) : leE (pwF n B L i j) (pwF n B M i j) := by
  have hNL := noLoop hn hN
  by_cases h : pwF n B L i j = none
  · rw [h]; exact none_leE _
  · obtain ⟨u, t, hu, hcu, ht, hle⟩ := touch hn hn6 hN hB hcn hv hc hi hj hL h
    obtain ⟨d1, d2⟩ := dv_crit hn hN hu hcu
    have hdu := hd u hu hcu
    obtain ⟨d, hdd⟩ : ∃ d, d = dvK n B (3 * n) u := ⟨_, rfl⟩
    rw [← hdd] at d1 d2 hdu
    obtain ⟨x, x1, x2, x3⟩ := reduce hNL d1 hi hu (L - t)
    obtain ⟨y, y1, y2, y3⟩ := reduce hNL d1 hu hj t
    have hnd : n * d ≤ 6 * 6 := Nat.mul_le_mul hn6 (by omega)
    have hds : d ∣ M - (x + y) := by
      refine Nat.dvd_of_mod_eq_zero (Nat.sub_mod_eq_zero_of_mod_eq ?_)
      rw [← hdu, Nat.add_mod x y d, x2, y2, ← Nat.add_mod, show L - t + t = L by omega]
    have zs := frob hn hn6 hN hu hcu (t := M - (x + y)) (by omega) (by rw [← hdd]; exact hds)
    have q1 := pw_two (B := B) (a := M - (x + y)) (b := y) hu hj hu
    rw [zs, zero_ep] at q1
    have q2 := (ep_mono x3 (y3.trans q1)).trans (pw_two (B := B) hi hj hu)
    rw [show x + (M - (x + y) + y) = M by omega] at q2
    exact hle.trans q2
theorem stK_dvd {D : Nat → Nat} : ∀ k i, i < k → 0 < D i → D i ∣ stK D k := by
  intro k
  induction k with
  | zero => intro i h; omega
  | succ k ih =>
    intro i hi h
    simp only [stK]
    by_cases e : i = k
    · subst e
      rw [if_pos h]
      exact Nat.dvd_lcm_right _ _
    · split
      · exact Nat.dvd_trans (ih i (by omega) h) (Nat.dvd_lcm_left _ _)
      · exact ih i (by omega) h
theorem stK_of {D : Nat → Nat} {x : Nat} : ∀ k, (∀ i, i < k → 0 < D i → D i ∣ x) → stK D k ∣ x := by
  intro k
  induction k with
  | zero => intro _; exact Nat.one_dvd _
  | succ k ih =>
    intro h
    simp only [stK]
    split
    · rename_i hp
      exact Nat.lcm_dvd (ih fun i hi hp => h i (by omega) hp) (h k (by omega) hp)
    · exact ih fun i hi hp => h i (by omega) hp
/-- what a level matrix of a connected line is -/
structure Regular (n : Nat) (B : MF) : Prop where
  n1 : 1 ≤ n
  n6 : n ≤ 6
  pos : NoPos n B
  bd : bdF 12000 n B
  conn : ∀ i j, i < n → j < n → ∃ y, closF n B i j = some y
  crit : ∃ v, v < n ∧ Crit n B v
theorem dv_pos {n : Nat} {B : MF} {v : Nat} (h : 0 < dvK n B (3 * n) v) : Crit n B v := by
  by_cases hc : Crit n B v
  · exact hc
  · rw [dvK_none hc] at h; omega
theorem per_bd {n : Nat} {B : MF} (h : Regular n B) : 1 ≤ periodF n B ∧ periodF n B ≤ 60 := by
  have hd : periodF n B ∣ 60 := stK_of n fun i hi hp => by
    obtain ⟨d1, d2⟩ := dv_crit h.n1 h.pos hi (dv_pos hp)
    have := h.n6
    have : ∀ d, d < 7 → 1 ≤ d → d ∣ 60 := by decide
    exact this _ (by omega) d1
  have := Nat.le_of_dvd (by omega) hd
  refine ⟨?_, this⟩
  rcases Nat.eq_zero_or_pos (periodF n B) with h0 | h0
  · rw [h0] at hd; have := Nat.eq_zero_of_zero_dvd hd; omega
  · exact h0
theorem per_all {n : Nat} {B : MF} (h : Regular n B) {L : Nat} (hL : 10000000 ≤ L) : eqF n (pwF n B (L + periodF n B)) (pwF n B L) := fun i hi j hj => by
  obtain ⟨v, hv, hc⟩ := h.crit
  have hd : ∀ u, u < n → Crit n B u → (L + periodF n B) % dvK n B (3 * n) u = L % dvK n B (3 * n) u := fun u hu hcu => by
    obtain ⟨x, hx⟩ := stK_dvd (D := dvK n B (3 * n)) n u hu (dv_crit h.n1 h.pos hu hcu).1
    have hx : periodF n B = dvK n B (3 * n) u * x := hx
    rw [hx, Nat.add_mul_mod_self_left]
  exact leE.antisymm (pw_again h.n1 h.n6 h.pos h.bd h.conn hv hc (by omega) hL hd hi hj) (pw_again h.n1 h.n6 h.pos h.bd h.conn hv hc hL (by omega) (fun u hu hcu => (hd u hu hcu).symm) hi hj)
/-- what comes again once comes again for good -/
theorem eq_step {n : Nat} {B : MF} {x L : Nat} (h : eqF n (pwF n B (L + x)) (pwF n B L)) : ∀ k, eqF n (pwF n B (L + k + x)) (pwF n B (L + k)) := by
  intro k
  induction k with
  | zero => exact h
  | succ k ih =>
    rw [show L + (k + 1) + x = L + k + x + 1 by omega, show L + (k + 1) = L + k + 1 by omega]
    exact mulF_congr ih (eqF.refl n B)
/-- a number of steps after which anything comes again is a multiple of the period -/
theorem per_least {n : Nat} {B : MF} (h : Regular n B) {x L : Nat} (he : eqF n (pwF n B (L + x)) (pwF n B L)) : periodF n B ∣ x := by
  refine stK_of n fun v hv hp => ?_
  have hc := dv_pos hp
  obtain ⟨d, hd⟩ : ∃ d, d = dvK n B (3 * n) v := ⟨_, rfl⟩
  have hp1 : 1 ≤ d := by omega
  obtain ⟨y, hy⟩ : ∃ y, y = L + 6000 := ⟨_, rfl⟩
  have hge : y ≤ d * y := by have := Nat.mul_le_mul_right y hp1; omega
  have z1 := frob h.n1 h.n6 h.pos hv hc (t := d * y) (by omega) (by rw [hd]; exact Nat.dvd_mul_right _ _)
  obtain ⟨k, hk⟩ : ∃ k, d * y = L + k := ⟨_, (Nat.add_sub_of_le (show L ≤ d * y by omega)).symm⟩
  have e := eq_step he k v hv v hv
  rw [← hk, z1] at e
  by_cases h0 : x = 0
  · rw [h0]; exact Nat.dvd_zero _
  · have := dv_all h.n1 h.pos hv _ (by omega) e
    rw [← hd] at this ⊢
    exact (Nat.dvd_add_right (Nat.dvd_mul_right d y)).1 this
/-- where multiples of the period come again, the period does -/
theorem per_mult {n : Nat} {B : MF} (h : Regular n B) {x L : Nat} (hx : 1 ≤ x) (he : eqF n (pwF n B (L + x)) (pwF n B L)) : eqF n (pwF n B (L + periodF n B)) (pwF n B L) := by
  have hm : ∀ t, eqF n (pwF n B (L + x * t)) (pwF n B L) := fun t => by
    induction t with
    | zero => exact eqF.refl _ _
    | succ t ih =>
      rw [Nat.mul_succ, ← Nat.add_assoc]
      exact (eq_step he (x * t)).trans ih
  obtain ⟨T, hT⟩ : ∃ T, 10000000 ≤ T := ⟨_, Nat.le_refl _⟩
  have h1 := hm T
  have hge : 10000000 ≤ L + x * T := by have := Nat.mul_le_mul_right T hx; omega
  have h2 := per_all h hge
  have h3 : eqF n (pwF n B (L + periodF n B + x * T)) (pwF n B (L + periodF n B)) := eq_step (n := n) (B := B) (x := x * T) (L := L) h1 _
  rw [show L + periodF n B + x * T = L + x * T + periodF n B by omega] at h3
  exact (h3.symm.trans h2).trans h1
end Go.Proofs.YtbcngojiikdigaaGreat

namespace Go.Proofs.YtbcngojiikdigaaGreat
/-! From which power on a line repeats itself (pure). -/
theorem ag_iff {n : Nat} {B : MF} {c e : Nat} : agB n B c e = true ↔ eqF n (pwF n B (e + c)) (pwF n B e) := by
  unfold agB
  rw [eqMB_iff]
  exact ⟨fun h => (pwF_add n B e c).trans h.symm, fun h => h.symm.trans (pwF_add n B e c)⟩
theorem ag_step {n : Nat} {B : MF} {c e : Nat} (h : agB n B c e = true) {k : Nat} (hk : e ≤ k) : agB n B c k = true := by
  have := eq_step (ag_iff.1 h) (k - e)
  rw [show e + (k - e) = k by omega] at this
  exact ag_iff.2 this
theorem ag_big {n : Nat} {B : MF} (h : Regular n B) {L : Nat} (hL : 10000000 ≤ L) : agB n B (periodF n B) L = true := ag_iff.2 (per_all h hL)
/-- the first power that comes again -/
def regK (n : Nat) (B : MF) : Nat := fstF (agB n B (periodF n B)) 20000000
theorem reg_ok {n : Nat} {B : MF} (h : Regular n B) : agB n B (periodF n B) (regK n B) = true ∧ ∀ y, y < regK n B → agB n B (periodF n B) y = false := by
  obtain ⟨T, hT⟩ : ∃ T, T = 10000000 := ⟨_, rfl⟩
  obtain ⟨U, hU⟩ : ∃ U, U = 20000000 := ⟨_, rfl⟩
  unfold regK
  rw [← hU]
  have hx := fst_ex (p := agB n B (periodF n B)) (n := U) (x := T) (by omega) (ag_big h (by omega))
  obtain ⟨_, k2, k3⟩ := fst_le (agB n B (periodF n B)) U
  exact ⟨k2 hx, k3⟩
theorem reg_eq {n : Nat} {B : MF} (h : Regular n B) {k : Nat} (h1 : agB n B (periodF n B) k = true) (h2 : ∀ y, y < k → agB n B (periodF n B) y = false) : regK n B = k := by
  obtain ⟨r1, r2⟩ := reg_ok h
  rcases Nat.lt_trichotomy (regK n B) k with hl | hl | hl
  · have := h2 _ hl; rw [r1] at this; cases this
  · exact hl
  · have := r2 _ hl; rw [h1] at this; cases this
theorem start_ok {n : Nat} {B : MF} (h : Regular n B) (h0 : agB n B (periodF n B) 0 = false) : ∃ m, StartOk n (periodF n B) B m := by
  have hb := per_bd h
  have h24 : agB n B (periodF n B) (2 ^ 24) = true := ag_big h (by decide)
  have hx := fst_ex (p := fun t => agB n B (periodF n B) (2 ^ t)) (n := 25) (x := 24) (by omega) h24
  obtain ⟨k1, k2, k3⟩ := fst_le (fun t => agB n B (periodF n B) (2 ^ t)) 25
  generalize fstF (fun t => agB n B (periodF n B) (2 ^ t)) 25 = m at *
  have hp : 2 ^ m ≤ 2 ^ 24 := Nat.pow_le_pow_right (by omega) (by omega)
  rw [show (2 : Nat) ^ 24 = 16777216 by decide] at hp
  exact ⟨m, by omega, by unfold KB; omega, by omega, k3, k2 hx, h0⟩
theorem stH_inv {a : Nat → Bool} {m : Nat} (h0 : a 0 = false) (hs : ∀ e k, e ≤ k → a e = true → a k = true) (hm : a (2 ^ m) = true) : ∀ r, r ≤ m → a (stH a m r) = false ∧ a (stH a m r + 2 * 2 ^ (m - r)) = true := by
  intro r
  induction r with
  | zero => intro _; exact ⟨h0, hs _ _ (by simp only [stH, Nat.sub_zero]; omega) hm⟩
  | succ r ih =>
    intro hr
    obtain ⟨i1, i2⟩ := ih (by omega)
    have e : 2 ^ (m - r) = 2 * 2 ^ (m - (r + 1)) := by
      rw [show m - r = (m - (r + 1)) + 1 by omega, Nat.pow_succ]; omega
    simp only [stH]
    cases hp : a (stH a m r + 2 ^ (m - r)) with
    | true => rw [if_pos rfl]; exact ⟨i1, by rw [← e]; exact hp⟩
    | false =>
      rw [if_neg (by simp)]
      refine ⟨hp, ?_⟩
      rw [← e, show stH a m r + 2 ^ (m - r) + 2 ^ (m - r) = stH a m r + 2 * 2 ^ (m - r) by omega]
      exact i2
theorem stH_last {a : Nat → Bool} {m : Nat} (h0 : a 0 = false) (hs : ∀ e k, e ≤ k → a e = true → a k = true) (hm : a (2 ^ m) = true) : a (stH a m (m + 1)) = false ∧ a (stH a m (m + 1) + 1) = true := by
  obtain ⟨i1, i2⟩ := stH_inv h0 hs hm m (Nat.le_refl _)
  rw [Nat.sub_self, Nat.pow_zero, Nat.mul_one] at i2
  simp only [stH, Nat.sub_self, Nat.pow_zero]
  cases hp : a (stH a m m + 1) with
  | true => rw [if_pos rfl]; exact ⟨i1, hp⟩
  | false => rw [if_neg (by simp)]; exact ⟨hp, i2⟩
theorem start_is {n : Nat} {B : MF} (h : Regular n B) {m : Nat} (hs : StartOk n (periodF n B) B m) : stH (agB n B (periodF n B)) m (m + 1) + 1 = regK n B := by
  obtain ⟨_, _, _, _, s5, s6⟩ := hs
  have hst := stH_last s6 (fun e k hk he => ag_step he hk) s5
  refine (reg_eq h hst.2 fun y hy => ?_).symm
  cases hb : agB n B (periodF n B) y with
  | false => rfl
  | true => have := ag_step hb (show y ≤ stH (agB n B (periodF n B)) m (m + 1) by omega); rw [hst.1] at this; cases this
theorem reg_zero {n : Nat} {B : MF} (h : Regular n B) (h0 : agB n B (periodF n B) 0 = true) : regK n B = 0 := reg_eq h h0 fun y hy => by omega
/-- the level matrix of a connected line -/
theorem lv_regular {n : Nat} {A : MF} {p q : Int} (hn : 1 ≤ n) (hn6 : n ≤ 6) (bA : bdF 1000 n A) (h : spF n A = some (p, q)) (hc : connB n (lvF p q A) = true) : Regular n (lvF p q A) := by
  have hb := spF_bd bA hn6 h
  obtain ⟨m, h1, _, h3, _⟩ := crit_least h
  obtain ⟨f, h5, h6, _⟩ := crit_first h3
  exact ⟨hn, hn6, lv_noPos h, lvF_bd bA hb.1 hb.2, fun i j hi hj => conn_some hc hi hj, f, h5, m, h1, h6⟩
theorem per_dvd {n : Nat} {A : MF} {p q : Int} (h : spF n A = some (p, q)) (hr : Regular n (lvF p q A)) : q ∣ (periodF n (lvF p q A) : Int) * p := by
  obtain ⟨_, _, _, _, hq⟩ := sp_parts h
  obtain ⟨v, hv, hc⟩ := hr.crit
  obtain ⟨d1, d2⟩ := dv_crit hr.n1 hr.pos hv hc
  have hd := stK_dvd (D := dvK n (lvF p q A) (3 * n)) n v hv d1
  have z1 := frob hr.n1 hr.n6 hr.pos hv hc (t := dvK n (lvF p q A) (3 * n) v * 6000) (by omega) (Nat.dvd_mul_right _ _)
  have z2 := frob hr.n1 hr.n6 hr.pos hv hc (t := dvK n (lvF p q A) (3 * n) v * 6000 + periodF n (lvF p q A)) (by omega) (Nat.dvd_add (Nat.dvd_mul_right _ _) hd)
  generalize dvK n (lvF p q A) (3 * n) v * 6000 = t at *
  generalize periodF n (lvF p q A) = c at *
  rw [lv_pw hq n A _ v hv v hv] at z1 z2
  change lvM p q t (pwF n A t v v) = some 0 at z1
  change lvM p q (t + c) (pwF n A (t + c) v v) = some 0 at z2
  cases hx : pwF n A t v v with
  | none => rw [hx] at z1; cases z1
  | some x =>
    cases hy : pwF n A (t + c) v v with
    | none => rw [hy] at z2; cases z2
    | some y =>
      rw [hx] at z1
      rw [hy] at z2
      have z1 : q * x - p * (t : Int) = 0 := Option.some.inj z1
      have z2 : q * y - p * ((t + c : Nat) : Int) = 0 := Option.some.inj z2
      refine ⟨y - x, ?_⟩
      rw [Int.natCast_add, Int.mul_add] at z2
      rw [Int.mul_sub, Int.mul_comm (c : Int) p]
      omega
/-- as entries of the powers themselves -/
theorem rep_iff {n : Nat} {A : MF} {p q z : Int} (hq : 0 < q) {m x : Nat} (hz : q * z = p * x) : (∀ i, i < n → ∀ j, j < n → pwF n A (m + x) i j = ep (pwF n A m i j) (some z)) ↔ eqF n (pwF n (lvF p q A) (m + x)) (pwF n (lvF p q A) m) := by
  have key : ∀ (u v : E), u = ep v (some z) ↔ lvM p q (m + x) u = lvM p q m v := fun u v => by
    cases u with
    | none =>
      cases v with
      | none => exact ⟨fun _ => rfl, fun _ => rfl⟩
      | some b => exact ⟨(fun h => by cases h), (fun h => by cases h)⟩
    | some a =>
      cases v with
      | none => exact ⟨(fun h => by cases h), (fun h => by cases h)⟩
      | some b =>
        show some a = some (b + z) ↔ some (q * a - p * ((m + x : Nat) : Int)) = some (q * b - p * (m : Int))
        rw [Option.some.injEq, Option.some.injEq, Int.natCast_add, Int.mul_add]
        constructor
        · intro h; rw [h, Int.mul_add]; omega
        · intro h
          have h2 : q * a = q * (b + z) := by rw [Int.mul_add]; omega
          exact Int.eq_of_mul_eq_mul_left (by omega) h2
  constructor
  · intro h i hi j hj
    rw [lv_pw hq n A _ i hi j hj, lv_pw hq n A _ i hi j hj]
    exact (key _ _).1 (h i hi j hj)
  · intro h i hi j hj
    have := h i hi j hj
    rw [lv_pw hq n A _ i hi j hj, lv_pw hq n A _ i hi j hj] at this
    exact (key _ _).2 this
/-- the law of the regime: when a number of steps leads to the same again -/
theorem rep_law {n : Nat} {B : MF} (h : Regular n B) : (∀ k, eqF n (pwF n B (regK n B + k + periodF n B)) (pwF n B (regK n B + k))) ∧
    (∀ k, k < regK n B → ¬ eqF n (pwF n B (k + periodF n B)) (pwF n B k)) ∧ ∀ x k, 1 ≤ x → x < periodF n B → ¬ eqF n (pwF n B (k + x)) (pwF n B k) := by
  obtain ⟨r1, r2⟩ := reg_ok h
  refine ⟨fun k => eq_step (ag_iff.1 r1) k, fun k hk he => ?_, fun x k h1 h2 he => ?_⟩
  · have := r2 k hk; rw [ag_iff.2 he] at this; cases this
  · have := Nat.le_of_dvd (by omega) (per_least h he); omega
end Go.Proofs.YtbcngojiikdigaaGreat

namespace Go.Proofs.YtbcngojiikdigaaGreat
/-! What the reference lists and tries: vertices on cycles of greatest mean, and powers that come again (pure). -/
theorem conn_lv (n : Nat) (p q : Int) (A : MF) : connB n (lvF p q A) = connB n A := by
  have h : arcF (lvF p q A) = arcF A := by
    funext i j
    unfold arcF lvF lvE
    cases A i j <;> rfl
  unfold connB
  rw [h]
/-- has a cycle the mean p / q? -/
def meanB (A : MF) (p q : Int) (c : List Nat) : Bool := match preL A (gC c) c.length with
  | none => false
  | some s => decide (s * q = p * c.length)
/-- is a vertex on a cycle of a list that has this mean? -/
def onB (A : MF) (p q : Int) (l : List (List Nat)) (v : Nat) : Bool := l.any fun c => meanB A p q c && c.contains v
theorem onB_push (A : MF) (p q : Int) (l : List (List Nat)) (c : List Nat) (v : Nat) : onB A p q (l ++ [c]) v = (onB A p q l v || (meanB A p q c && c.contains v)) := by
  simp [onB, List.any_append]
theorem on_iff {n : Nat} {A : MF} {p q : Int} {v : Nat} : onB A p q (cycL n A) v = true ↔ OnC n A p q v := by
  unfold onB OnC
  rw [List.any_eq_true]
  constructor
  · rintro ⟨c, hc, h⟩
    rw [Bool.and_eq_true] at h
    obtain ⟨h1, h2⟩ := h
    unfold meanB at h1
    cases hs : preL A (gC c) c.length with
    | none => rw [hs] at h1; cases h1
    | some s => rw [hs] at h1; exact ⟨c, s, hc, hs, of_decide_eq_true h1, List.contains_iff_mem.1 h2⟩
  · rintro ⟨c, s, hc, hs, he, hm⟩
    refine ⟨c, hc, ?_⟩
    rw [Bool.and_eq_true]
    refine ⟨?_, List.contains_iff_mem.2 hm⟩
    unfold meanB
    rw [hs]
    exact decide_eq_true he
/-- the reference's list of critical vertices below k -/
def onL (n : Nat) (A : MF) (p q : Int) (k : Nat) : List Nat := (List.range k).filter (onB A p q (cycL n A))
theorem onL_succ (n : Nat) (A : MF) (p q : Int) (k : Nat) : onL n A p q (k + 1) = onL n A p q k ++ (if onB A p q (cycL n A) k then [k] else []) := by
  unfold onL
  rw [List.range_succ, List.filter_append]
  congr 1
  simp only [List.filter_cons, List.filter_nil]
theorem onL_len (n : Nat) (A : MF) (p q : Int) (k : Nat) : (onL n A p q k).length ≤ k := by
  unfold onL
  have := List.length_filter_le (onB A p q (cycL n A)) (List.range k)
  simpa using this
theorem onL_crit {n : Nat} {A : MF} {p q : Int} (hn : 1 ≤ n) (h : spF n A = some (p, q)) : onL n A p q n = critL n (lvF p q A) n := by
  unfold onL critL
  refine List.filter_congr fun v hv => ?_
  have hv := List.mem_range.1 hv
  rw [Bool.eq_iff_iff]
  exact on_iff.trans (crit_on hn h hv).symm
/-- a matrix with a number added to each entry -/
def shF (M : MF) (z : Int) : MF := fun i j => ep (M i j) (some z)
/-- the reference's test of two powers -/
def ahB (n : Nat) (M N : MF) (a d : Int) : Bool := decide (a.tmod d = 0) && eqMB n M (shF N (a.tdiv d))
/-- the first number of steps from 1 to m that leads to the same again -/
def fX (n : Nat) (A : MF) (p q : Int) (k : Nat) : Nat → Nat
  | 0 => 0
  | m + 1 => if fX n A p q k m ≠ 0 then fX n A p q k m else if ahB n (pwF n A (k + (m + 1))) (pwF n A k) (((m + 1 : Nat) : Int) * p) q = true then m + 1 else 0
theorem fX_stays {n : Nat} {A : MF} {p q : Int} {k m : Nat} (h : fX n A p q k m ≠ 0) : ∀ j, fX n A p q k (m + j) = fX n A p q k m := by
  intro j
  induction j with
  | zero => rfl
  | succ j ih =>
    show (if fX n A p q k (m + j) ≠ 0 then fX n A p q k (m + j) else _) = _
    rw [if_pos (by rw [ih]; exact h), ih]
theorem fX_spec (n : Nat) (A : MF) (p q : Int) (k : Nat) : ∀ m, (fX n A p q k m = 0 ∧ ∀ x, 1 ≤ x → x ≤ m → ahB n (pwF n A (k + x)) (pwF n A k) ((x : Int) * p) q = false) ∨
    (1 ≤ fX n A p q k m ∧ fX n A p q k m ≤ m ∧ ahB n (pwF n A (k + fX n A p q k m)) (pwF n A k) ((fX n A p q k m : Int) * p) q = true ∧ ∀ x, 1 ≤ x → x < fX n A p q k m → ahB n (pwF n A (k + x)) (pwF n A k) ((x : Int) * p) q = false) := by
  intro m
  induction m with
  | zero => exact .inl ⟨rfl, fun x h1 h2 => by omega⟩
  | succ m ih =>
    rcases ih with ⟨h1, h2⟩ | ⟨h1, h2, h3, h4⟩
    · by_cases hb : ahB n (pwF n A (k + (m + 1))) (pwF n A k) (((m + 1 : Nat) : Int) * p) q = true
      · have e : fX n A p q k (m + 1) = m + 1 := by
          show (if fX n A p q k m ≠ 0 then fX n A p q k m else _) = _
          rw [if_neg (fun h => h h1), if_pos hb]
        refine .inr ?_
        rw [e]
        exact ⟨by omega, by omega, hb, fun x k1 k2 => h2 x k1 (by omega)⟩
      · have e : fX n A p q k (m + 1) = 0 := by
          show (if fX n A p q k m ≠ 0 then fX n A p q k m else _) = _
          rw [if_neg (fun h => h h1), if_neg hb]
        refine .inl ⟨e, fun x k1 k2 => ?_⟩
        by_cases hx : x = m + 1
        · rw [hx]; exact Bool.eq_false_iff.2 hb
        · exact h2 x k1 (by omega)
    · have e : fX n A p q k (m + 1) = fX n A p q k m := by
        show (if fX n A p q k m ≠ 0 then fX n A p q k m else _) = _
        rw [if_pos (by omega)]
      refine .inr ?_
      rw [e]
      exact ⟨h1, by omega, h3, h4⟩
theorem tmod_dvd {a d : Int} : a.tmod d = 0 ↔ d ∣ a := (Int.dvd_iff_tmod_eq_zero).symm
theorem ah_iff {n : Nat} {A : MF} {p q : Int} (h : spF n A = some (p, q)) (hr : Regular n (lvF p q A)) {k x : Nat} :
    ahB n (pwF n A (k + x)) (pwF n A k) ((x : Int) * p) q = true ↔ eqF n (pwF n (lvF p q A) (k + x)) (pwF n (lvF p q A) k) := by
  obtain ⟨_, _, _, _, hq⟩ := sp_parts h
  have key : ∀ z : Int, q * z = p * x → (eqMB n (pwF n A (k + x)) (shF (pwF n A k) z) = true ↔ eqF n (pwF n (lvF p q A) (k + x)) (pwF n (lvF p q A) k)) := fun z hz => by
    rw [eqMB_iff, ← rep_iff hq hz]
    exact ⟨fun e i hi j hj => e i hi j hj, fun e i hi j hj => e i hi j hj⟩
  unfold ahB
  rw [Bool.and_eq_true, decide_eq_true_iff, tmod_dvd]
  have hz : q ∣ (x : Int) * p → q * ((x : Int) * p).tdiv q = p * x := fun hd => by
    rw [Int.mul_tdiv_cancel' hd, Int.mul_comm]
  constructor
  · rintro ⟨hd, he⟩
    exact (key _ (hz hd)).1 he
  · intro he
    have hd : q ∣ (x : Int) * p := by
      obtain ⟨y, hy⟩ := per_least hr he
      have := Int.dvd_mul_of_dvd_left (c := (y : Int)) (per_dvd h hr)
      rw [show (x : Int) * p = (periodF n (lvF p q A) : Int) * p * y by rw [hy, Int.natCast_mul, Int.mul_assoc, Int.mul_comm (y : Int) p, ← Int.mul_assoc]]
      exact this
    exact ⟨hd, (key _ (hz hd)).2 he⟩
/-- what the reference finds is the regime -/
theorem reg_found {n : Nat} {A : MF} {p q : Int} (h : spF n A = some (p, q)) (hr : Regular n (lvF p q A)) {k : Nat} (h1 : fX n A p q k 12 ≠ 0) (h2 : ∀ y, y < k → fX n A p q y 12 = 0) :
    fX n A p q k 12 = periodF n (lvF p q A) ∧ k = regK n (lvF p q A) := by
  have hpb := per_bd hr
  rcases fX_spec n A p q k 12 with ⟨e, _⟩ | ⟨k1, k2, k3, k4⟩
  · exact absurd e h1
  · have e1 := (ah_iff h hr).1 k3
    have e2 := per_mult hr k1 e1
    have hle : periodF n (lvF p q A) ≤ fX n A p q k 12 := Nat.le_of_dvd (by omega) (per_least hr e1)
    have e3 : fX n A p q k 12 = periodF n (lvF p q A) := by
      rcases Nat.lt_or_ge (periodF n (lvF p q A)) (fX n A p q k 12) with hl | hl
      · have := k4 _ hpb.1 hl
        rw [(ah_iff h hr).2 e2] at this
        cases this
      · omega
    refine ⟨e3, (reg_eq hr (ag_iff.2 e2) fun y hy => ?_).symm⟩
    cases hb : agB n (lvF p q A) (periodF n (lvF p q A)) y with
    | false => rfl
    | true =>
      have e4 := (ah_iff h hr).2 (ag_iff.1 hb)
      rcases fX_spec n A p q y 12 with ⟨_, k6⟩ | ⟨k5, _⟩
      · have := k6 _ hpb.1 (by omega)
        rw [e4] at this
        cases this
      · have := h2 y hy
        omega
end Go.Proofs.YtbcngojiikdigaaGreat

namespace Go.Proofs.YtbcngojiikdigaaGreat
set_option maxRecDepth 100000
open Go.RowKit Go.Shelf
theorem BRow.cell {w : World} {R n k : Nat} {x : Nat → Bool} (h : BRow w R 4 n x) (hk : k < n) : w.cell? ⟨R, k, none⟩ = some (.bool (x k)) := by
  obtain ⟨vs, hv, hl, hb⟩ := h
  exact VRow.cell hv (hb k hk)
set_option maxHeartbeats 1000000 in
theorem index_b (R n f : Nat) (x : Nat → Bool) (w : World) (hn : n ≤ 1000) (hx : BRow w R 4 n x) (hf : f < n) (ht : x f = true) (hl : ∀ y, y < f → x y = false) :
    Calls Tryz.prog 94 #[.slice (some ⟨R, 0, none⟩) n n, .bool true] w fun e w' => e = .returned (.int .i64 (f : Int)) ∧ Ext w w' := by
  have HX := Lib.hid hx
  have HL := Lib.hid hl
  have HT := Lib.hid ht
  clear hx hl ht
  go_enter Tryz.func94, Tryz.ntmps94
  go_wp2_with fail
  go_loopw [8] (fun i wr => ∃ k : Nat, i = .int .i64 (k : Int) ∧ k ≤ f ∧ Ext w wr) (fun i _ => n - (intOf i).toNat)
  case atStart => exact ⟨0, rfl, Nat.zero_le _, Ext.refl _⟩
  case round =>
    rename World => wr
    obtain ⟨k, rfl, hk, hE⟩ := hrel
    have HE := Lib.hid hE
    clear hE
    have hkn : k < n := by omega
    have c1 := Ext.cell HE.out (HX.out.cell hkn)
    have hcb := cell_lt c1
    by_cases hlt : k < f
    · rw [HL.out k hlt] at c1
      go_wp2_with fail
      exact ⟨⟨k + 1, by simp, by omega, HE.out⟩, by simp [intOf]; omega⟩
    · obtain rfl : k = f := by omega
      rw [HT.out] at c1
      go_wp2_with fail
      go_ret
      exact ⟨rfl, HE.out⟩
theorem bd_of_zero {K : Int} {x y : E} (h : ep x y = some 0) (hy : bdE K y) : bdE K x := fun a ha => by
  subst ha
  cases y with
  | none => cases h
  | some b =>
    have h1 : a + b = 0 := Option.some.inj h
    have := hy b rfl
    omega
theorem natsV_len (l : List Nat) : (natsV l).length = l.length := by simp [natsV]
set_option maxHeartbeats 16000000 in
theorem shortest_c (u : Value) (base n m f : Nat) (B : MF) (w : World) (hn1 : 1 ≤ n) (hn : n ≤ 6) (hb : NewMat base w u 56 62 n B) (bB : bdF 12000 n B) (hL : Least n B m f) (hN : leE (trF n B m) (some 0)) :
    Calls Tryz.prog 61 #[u] w fun e w' => ∃ v, e = .returned v ∧ w'.ownsRow w.heap.size 3 1 v m (natsV (codeC n B f m)) ∧ Ext w w' := by
  have HLE := Lib.hid hL
  have HNP := Lib.hid hN
  have hm1 := hL.1
  have hmn := hL.2.1
  have hfn := hL.2.2.2.1
  have HMIN := Lib.hid hL.2.2.1
  have HF := Lib.hid (And.intro hL.2.2.2.2.1 hL.2.2.2.2.2)
  have HBM := Lib.hid (hb.mat (by omega))
  have HB0 := Lib.hid hb
  have HBB := Lib.hid bB
  have HPB := Lib.hid (fun k (hk : k ≤ 6) => (bdF_pw bB k).mono (show (12000 : Int) * (k : Nat) ≤ KB by unfold KB; omega))
  obtain ⟨ua, uc, rfl⟩ := HBM.out.len
  clear hb bB hL hN
  obtain ⟨i0, hi0, hz0, hz1, hz2⟩ := info_parts info53
  have HI := Lib.hid hi0
  have HZ0 := Lib.hid hz0
  have HZ1 := Lib.hid hz1
  have HZ2 := Lib.hid hz2
  clear hi0 hz0 hz1 hz2
  go_enter Tryz.func61, Tryz.ntmps61
  go_wp2_with fail
  refine (identity_c n w hn1 hn).mono ?_
  rintro e w1 ⟨r1, rfl, hr1, hE⟩
  have HE1 := Lib.hid hE
  have HR1 := Lib.hid hr1
  obtain ⟨ra, rc, rfl⟩ := (hr1.mat (by omega)).len
  clear hr1 hE
  go_wp2_with fail
  have hD0 : (w1.alloc (.cells #[.slice (some ra) n rc, .slice (some ua) n uc] 53)).ownsRow w1.heap.size 53 1 (.slice (some ⟨w1.heap.size, 0, none⟩) 2 2) 2 [.slice (some ra) n rc, .slice (some ua) n uc] :=
    ⟨rfl, .inr ⟨w1.heap.size, 2, #[.slice (some ra) n rc, .slice (some ua) n uc], rfl, Nat.le_refl _, vrow_alloc w1 [.slice (some ra) n rc, .slice (some ua) n uc] 53, Nat.le_refl _, by unfold maxLen; omega, rfl, rfl⟩⟩
  have HD0 := Lib.hid hD0
  have HEr := Lib.hid (Ext.alloc (Ext.refl w1) (.cells #[.slice (some ra) n rc, .slice (some ua) n uc] 53))
  have HRQ := Lib.hid ((MatS.new (S := fun _ => True) HR1.out (by omega) (fun _ _ _ => trivial)).ext hn1 HEr.out)
  have HBQ := Lib.hid ((MatS.new (S := fun _ => True) HB0.out (by omega) (fun _ _ _ => trivial)).ext hn1 (Ext.trans HE1.out HEr.out))
  have hws := HE1.out.size
  clear hD0
  generalize w1.alloc (.cells #[.slice (some ra) n rc, .slice (some ua) n uc] 53) = w2 at *
  go_loopw [3] (fun pv wr => ∃ (t : Nat) (vs : List Value), 1 ≤ t ∧ t ≤ m ∧ wr.ownsRow w1.heap.size 53 1 pv (t + 1) vs ∧ (∀ (i : Nat) (x : Value), vs[i]? = some x → MatS (fun _ => True) wr x n (pwF n B i)) ∧ Ext w1 wr) (fun pv _ => m + 2 - lenS pv)
  case atStart =>
    refine ⟨1, _, Nat.le_refl _, hm1, HD0.out, fun i x h => ?_, HEr.out⟩
    match i, h with
    | 0, h => injection h with h; subst h; exact HRQ.out
    | 1, h => injection h with h; subst h; exact HBQ.out.congr (one_mulF n B).symm
  case round =>
    rename World => wr
    obtain ⟨t, vs, ht1, ht, hown, hvs, hE⟩ := hrel
    obtain ⟨dg, dc, rfl⟩ := ownsRow_succ hown
    have HO := Lib.hid hown
    have HVS := Lib.hid hvs
    have HE := Lib.hid hE
    have hdg : w1.heap.size ≤ dg := own_block hown rfl
    have hdl : dg < wr.heap.size := own_lt hown rfl
    have hwr := hE.size
    have hvl : vs.length = t + 1 := by have := hown.1; omega
    have HX := Lib.hid (show ∀ (i : Nat) (x : Value), vs[i]? = some x → wr.cell? ⟨dg, i, none⟩ = some x from by
      rcases HO.out.2 with ⟨h, _⟩ | ⟨g, cap, cu, hv, _, hc, h1, h2, h3, h4⟩
      · cases h
      · simp only [Value.slice.injEq, Option.some.injEq, Addr.mk.injEq] at hv
        obtain ⟨⟨rfl, _⟩, _⟩ := hv
        intro i x hx
        have hi := lt_len hx
        rw [← h4] at hx
        rw [List.getElem?_take_of_lt (by omega), Array.getElem?_toList] at hx
        simp [World.cell?, hc, hx])
    clear hown hvs hE HD0
    obtain ⟨x, hx⟩ := getElem?_len (show t < vs.length by omega)
    have HXM := Lib.hid (HVS.out t x hx)
    obtain ⟨xa, xc, rfl⟩ := HXM.out.mat.len
    have cx := HX.out t _ hx
    have HTR := Lib.hid (fun W (h : Ext wr W) => trace_c _ n _ W hn (HXM.out.mat.ext h) (HPB.out t (by omega)))
    have HTE := Lib.hid (show es (fun i => pwF n B t i i) n = trF n B t from rfl)
    rw [HTE.out] at HTR
    have hix : IntKind.i64.wrap (((t + 1 : Nat) : Int) - 1) = (t : Int) := by rw [IntWalk.i64_in _ (by omega)]; omega
    by_cases hlt : t < m
    · have hzn : zB (trF n B t) = false := by
        cases hz : zB (trF n B t) with
        | false => rfl
        | true => exact absurd (zB_iff.1 hz) (HMIN.out t ht1 hlt)
      have hzv : (val (trF n B t) != 0) = true := by rw [bne, zB_val, hzn]; rfl
      have HT := Lib.hid (fun (W : World) (h : Ext wr W) => mtimes_c (.slice (some xa) n xc) (.slice (some ua) n uc) n _ _ W hn1 hn (HXM.out.mat.ext h) (HBM.out.ext (Ext.trans (Ext.trans HE1.out HE.out) h)) (HPB.out t (by omega)) (HBB.out.mono (by unfold KB; omega)) (fun i hi j hj k hk => by
        have h1 := (bdF_pw HBB.out t) i hi k hk
        exact (bdE_ep h1 (HBB.out k hk j hj)).mono (by unfold KB; omega)))
      clear hzn
      go_wp2_with fail
      refine (HTR.out wr (Ext.refl _)).mono ?_
      rintro e w6 ⟨rfl, hE⟩
      have HE6 := Lib.hid hE
      have cx6 := Ext.cell hE cx
      clear hE cx
      go_wp2_with fail
      refine (HT.out w6 HE6.out).mono ?_
      rintro e w7 ⟨r7, rfl, hr7, hE⟩
      have HR7 := Lib.hid ((MatS.new (S := fun _ => True) hr7 (by omega) (fun _ _ _ => trivial)).congr (B := pwF n B (t + 1)) (eqF.refl n _))
      have HE7 := Lib.hid (Ext.trans HE6.out hE)
      have HO7 := Lib.hid (ownsRow_ext HO.out HE7.out)
      obtain ⟨r7a, r7c, rfl⟩ := (hr7.mat (by omega)).len
      clear hr7 hE cx6
      have HL8 := Lib.hid (HR7.out.ext hn1 (Ext.alloc (Ext.refl w7) (.cells #[.slice (some r7a) n r7c] 53)))
      have HV8 := Lib.hid (fun (i : Nat) (x : Value) (h : vs[i]? = some x) => (HVS.out i x h).ext hn1 (Ext.trans HE7.out (Ext.alloc (Ext.refl w7) (.cells #[.slice (some r7a) n r7c] 53))))
      have hob : ∀ j, Value.ownBlock (.slice (some ⟨dg, 0, none⟩) (t + 1) dc) = some j → w1.heap.size ≤ j := fun j hj => own_block HO.out hj
      have hw7 := HE7.out.size
      go_wp2_with (at_builtin; (refine wpList_append_own _ rfl _ _ 97 rfl w1.heap.size 53 i0 (.slice none 0 0) 1 24 Tryz.underlying97 HI.out HZ0.out HZ1.out HZ2.out rfl (by decide) _ _ _ rfl (ownsRow_ext HO7.out (Ext.alloc (Ext.refl w7) (.cells #[.slice (some r7a) n r7c] 53))) ⟨w7.heap.size, 0, none⟩ 1 1 [.slice (some r7a) n r7c] rfl rfl (fun j u h => cell_one_new w7 _ 53 j u h) (by simp [Value.oneCell']) (by unfold maxLen; omega) (by omega) (by simp; omega) ?_; intro v' w' hown' hgrow hnil; have HO10 := Lib.hid hown'; have HG10 := Lib.hid hgrow; clear hown' hgrow hnil))
      obtain ⟨cu, hcu⟩ : ∃ cu, (w7.alloc (.cells #[.slice (some r7a) n r7c] 53)).heap[dg]? = some (.cells cu 53 (0, 0)) := by
        rcases (ownsRow_ext HO7.out (Ext.alloc (Ext.refl w7) (.cells #[.slice (some r7a) n r7c] 53))).2 with ⟨h, _⟩ | ⟨g, cap, cu, hv, _, hc, _⟩
        · cases h
        · simp only [Value.slice.injEq, Option.some.injEq, Addr.mk.injEq] at hv
          obtain ⟨⟨rfl, _⟩, _⟩ := hv
          exact ⟨cu, hc⟩
      obtain ⟨vg, vc, rfl⟩ := ownsRow_succ HO10.out
      have hLn := HL8.out.grown hn1 hcu HG10.out
      refine ⟨⟨t + 1, _, by omega, by omega, HO10.out, fun i x h => ?_, Below.grown (Ext.alloc (Ext.trans HE.out HE7.out) (.cells #[.slice (some r7a) n r7c] 53)) HG10.out (by simp; omega) (fun j e => hob j e)⟩, by simp only [lenS]; omega⟩
      rcases Nat.lt_trichotomy i (t + 1) with hi | hi | hi
      · rw [List.getElem?_append_left (by omega)] at h
        exact (HV8.out i x h).grown hn1 hcu HG10.out
      · subst hi
        rw [List.getElem?_append_right (by omega), hvl, Nat.sub_self] at h
        injection h with h
        subst h
        exact hLn
      · rw [List.getElem?_append_right (by omega)] at h
        have := lt_len h
        simp at this
        omega
    · obtain rfl : t = m := by omega
      have htz : trF n B t = some 0 := by
        refine leE.antisymm ?_ ?_
        · exact HNP.out
        · rw [← HF.out.1]; exact es_le (f := fun i => pwF n B t i i) hfn
      rw [htz] at HTR
      clear htz
      go_wp2_with fail
      refine (HTR.out wr (Ext.refl _)).mono ?_
      rintro e w6 ⟨rfl, hE⟩
      have HE6 := Lib.hid hE
      have cx6 := Ext.cell hE cx
      clear hE cx
      go_wp2_with fail
      refine (loops_c _ n _ w6 hn1 hn (HXM.out.mat.ext HE6.out)).mono ?_
      rintro e w7 ⟨r3, rfl, ⟨R, hR1, rfl, hR2⟩, hE⟩
      have HE7 := Lib.hid (Ext.trans HE6.out hE)
      have HRR := Lib.hid hR2
      clear hE hR2 cx6
      go_wp2_with fail
      refine (index_b R n f _ w7 (by omega) HRR.out hfn (zB_iff.2 HF.out.1) (fun y hy => by
        cases hz : zB (pwF n B t y y) with
        | false => rfl
        | true => exact absurd (zB_iff.1 hz) (HF.out.2 y hy))).mono ?_
      rintro e w8 ⟨rfl, hE⟩
      have HE8 := Lib.hid (Ext.trans HE7.out hE)
      clear hE
      obtain ⟨ub, uo, c', e, _, _, hb3⟩ := HBM.out
      simp only [Value.slice.injEq, Option.some.injEq] at e
      obtain ⟨rfl, _, rfl⟩ := e
      have HB3 := Lib.hid hb3
      obtain ⟨j0, hj0, hk0, hk1, hk2⟩ := info_parts info3x23
      have HJ := Lib.hid hj0
      have HK0 := Lib.hid hk0
      have HK1 := Lib.hid hk1
      have HK2 := Lib.hid hk2
      clear hb3 hj0 hk0 hk1 hk2
      have HW8 := Lib.hid HE8.out.size
      have hw8 := HW8.out
      have HP9 := Lib.hid (show VRow (w8.alloc (.cells #[.int .i64 (f : Int)] 3)) _ _ _ from vrow_alloc w8 [.int .i64 (f : Int)] 3)
      have HE9 := Lib.hid (Ext.alloc (Ext.refl w8) (.cells #[.int .i64 (f : Int)] 3))
      go_wp2_with fail
      generalize w8.alloc (.cells #[.int .i64 (f : Int)] 3) = w9 at *
      obtain ⟨C, hC⟩ : ∃ C, C = w8.heap.size := ⟨_, rfl⟩
      rw [← hC] at HP9 ⊢
      have hCw : C ≤ w8.heap.size := by omega
      have hCw2 : w8.heap.size ≤ C := by omega
      have hdC : dg < C := by omega
      have hwC : w1.heap.size ≤ C := by omega
      clear hC
      go_loopw [6, 7, 8, 9] (fun cv av pv lv wq => ∃ (l a : Nat) (cs : List Nat) (ps : E), lv = .int .i64 (l : Int) ∧ av = .int .i64 (a : Int) ∧ pv = iv ps ∧ a < n ∧ cs.length + l = t ∧ wq.ownsRow C 3 1 cv cs.length (natsV cs) ∧ cs ++ cycK n B f l a ps = codeC n B f t ∧ ep ps (pwF n B (l + 1) f a) = some 0 ∧ Ext w8 wq) (fun _ _ _ lv _ => (intOf lv).toNat)
      case atStart =>
        refine ⟨t - 1, f, [f], some 0, (by congr 1; omega), rfl, rfl, hfn, by simp only [List.length_singleton]; omega, ?_, rfl, ?_, HE9.out⟩
        · exact ⟨rfl, .inr ⟨C, 1, #[.int .i64 (f : Int)], rfl, Nat.le_refl _, HP9.out, Nat.le_refl _, by unfold maxLen; omega, rfl, rfl⟩⟩
        · rw [zero_ep, show t - 1 + 1 = t by omega]; exact HF.out.1
      case round =>
        rename World => wq
        obtain ⟨l, a, cs, ps, rfl, rfl, rfl, han, hcl, hown, hcode, hz, hE⟩ := hrel
        obtain ⟨ca, cc, rfl⟩ := own_slice hown
        have HOC := Lib.hid hown
        have HCO := Lib.hid hcode
        have HZ := Lib.hid hz
        have HEq := Lib.hid hE
        have hwq := hE.size
        clear hown hcode hz hE
        by_cases hl0 : l = 0
        · subst hl0
          have hfin := HOC.out
          have hco := HCO.out
          rw [show cycK n B f 0 a ps = [] from rfl, List.append_nil] at hco
          rw [hco] at hfin
          rw [show (codeC n B f t).length = t from by rw [← hco]; omega] at hfin
          have HFIN := Lib.hid (own_mono hfin (show w.heap.size ≤ C by have := HE1.out.size; omega))
          have HEND := Lib.hid (Ext.trans HE1.out (Ext.trans HE.out (Ext.trans HE8.out HEq.out)))
          obtain rfl : cs.length = t := by omega
          clear hfin hco
          go_wp2_with fail
          go_ret
          exact ⟨_, rfl, HFIN.out, HEND.out⟩
        · obtain ⟨l', hl'⟩ : ∃ l', l = l' + 1 := ⟨l - 1, by omega⟩
          obtain ⟨g1, g2⟩ := go_ex HZ.out
          have g3 := (fst_le (goB n B f l a ps) n).2
          have HCK := Lib.hid (show cycK n B f l a ps = fstF (goB n B f l a ps) n :: cycK n B f l' (fstF (goB n B f l a ps) n) (ep ps (B (fstF (goB n B f l a ps) n) a)) from by rw [hl']; rfl)
          obtain ⟨x0, hx0⟩ : ∃ x0, x0 = fstF (goB n B f l a ps) n := ⟨_, rfl⟩
          rw [← hx0] at g1 g2 g3 HCK
          have HG2 := Lib.hid g2
          have HG3 := Lib.hid g3
          have HBP := Lib.hid (bd_of_zero HZ.out ((bdF_pw HBB.out (l + 1) f hfn a han).mono (show (12000 : Int) * ((l + 1 : Nat) : Int) ≤ 84000 by omega)))
          obtain ⟨x, hx⟩ := getElem?_len (show l < vs.length by omega)
          have HXL := Lib.hid (HVS.out _ x hx)
          obtain ⟨xa2, xc2, rfl⟩ := HXL.out.mat.len
          have HCX := Lib.hid (HX.out _ _ hx)
          have HER := Lib.hid (Ext.trans HE8.out HEq.out)
          have HLL := Lib.hid hl'
          have hlpos : (0 : Int) < l := by omega
          have hlnat : 0 < l := by omega
          have hlt2 : l < t + 1 := by omega
          clear hl'
          clear hx0 g2 g3 hx
          go_wp2_with fail
          clear hlpos
          go_loopw [6, 7, 8, 56] (fun cv av pv kv wt => ∃ k : Nat, cv = .slice ca cs.length cc ∧ av = .int .i64 (a : Int) ∧ pv = iv ps ∧ kv = .int .i64 (k : Int) ∧ k ≤ x0 ∧ Ext wq wt) (fun _ _ _ kv _ => n - (intOf kv).toNat)
          case atStart => exact ⟨0, rfl, rfl, rfl, rfl, Nat.zero_le _, Ext.refl _⟩
          case round =>
            rename World => wt
            obtain ⟨k, rfl, rfl, rfl, rfl, hk, hE⟩ := hrel
            have HEt := Lib.hid hE
            clear hE
            have hkn : k < n := by omega
            obtain ⟨u1, cu1, ⟨rb1, ro1, rc1, rfl, _, _, hr1⟩⟩ := HB3.out k hkn
            have HEW := Lib.hid (Ext.trans (Ext.trans HE1.out HE.out) (Ext.trans HER.out HEt.out))
            have d1 := Ext.cell HEW.out cu1
            have d2 := Ext.cell HEW.out (hr1 a han)
            obtain ⟨xb, xo, xc', e, _, _, hxm⟩ := HXL.out.mat
            simp only [Value.slice.injEq, Option.some.injEq] at e
            obtain ⟨rfl, _, rfl⟩ := e
            obtain ⟨u2, cu2, ⟨rb2, ro2, rc2, rfl, _, _, hr2⟩⟩ := hxm f hfn
            have HEV := Lib.hid (Ext.trans HER.out HEt.out)
            have d3 := Ext.cell HEV.out HCX.out
            have d4 := Ext.cell HEV.out cu2
            have d5 := Ext.cell HEV.out (hr2 k hkn)
            have e1 := cell_lt d1
            have e2 := cell_lt d2
            have e3 := cell_lt d3
            have e4 := cell_lt d4
            have e5 := cell_lt d5
            have HT1 := Lib.hid (fun W => times_c ps (B k a) W (HBP.out.mono (by unfold KB; omega)) ((HBB.out k hkn a han).mono (by unfold KB; omega)))
            have HT2 := Lib.hid (fun W => times_c (ep ps (B k a)) (pwF n B l f k) W ((bdE_ep HBP.out (HBB.out k hkn a han)).mono (by unfold KB; omega)) ((HPB.out l (by omega)) f hfn k hkn))
            have HZV := Lib.hid (zB_val (ep (ep ps (B k a)) (pwF n B l f k)))
            have HGO := Lib.hid (show goB n B f l a ps k = zB (ep (ep ps (B k a)) (pwF n B l f k)) from rfl)
            clear cu1 hr1 cu2 hr2 hxm
            go_wp2_with fail
            refine (HT1.out wt).mono ?_
            rintro e wt' ⟨rfl, rfl⟩
            go_wp2_with fail
            refine (HT2.out wt).mono ?_
            rintro e wt' ⟨rfl, rfl⟩
            cases hgo : goB n B f l a ps k with
            | false =>
              have hkx : k < x0 := by
                rcases Nat.lt_or_ge k x0 with h | h
                · exact h
                · obtain rfl : k = x0 := by omega
                  have := HG3.out.1 g1
                  rw [hgo] at this; cases this
              have hv : (val (ep (ep ps (B k a)) (pwF n B l f k)) == 0) = false := by rw [HZV.out, ← HGO.out]; exact hgo
              clear hgo
              go_wp2_with fail
              exact ⟨⟨k + 1, rfl, rfl, rfl, by simp, by omega, HEt.out⟩, by simp [intOf]; omega⟩
            | true =>
              have hkx : k = x0 := by
                rcases Nat.lt_or_ge k x0 with h | h
                · have := HG3.out.2 k h
                  rw [hgo] at this; cases this
                · omega
              have hv : (val (ep (ep ps (B k a)) (pwF n B l f k)) == 0) = true := by rw [HZV.out, ← HGO.out]; exact hgo
              subst hkx
              clear hgo d1 d2 d3 d4 d5
              have HO2 := Lib.hid (ownsRow_ext HOC.out (Ext.trans HEt.out (Ext.alloc (Ext.refl wt) (.cells #[.int .i64 (k : Int)] 3))))
              have hob : ∀ j, Value.ownBlock (.slice ca cs.length cc) = some j → C ≤ j := fun j hj => own_block HOC.out hj
              have hwt := HEt.out.size
              obtain ⟨z1, hz1⟩ : ∃ z, z = ep ps (B k a) := ⟨_, rfl⟩
              rw [← hz1] at HG2 HCK hv ⊢
              clear hz1
              go_wp2_with (at_builtin; (refine wpList_append_own _ rfl _ _ 23 rfl C 3 j0 (.int .i64 0) 1 8 Tryz.underlying23 HJ.out HK0.out HK1.out HK2.out rfl (by decide) _ _ _ rfl HO2.out ⟨wt.heap.size, 0, none⟩ 1 1 [.int .i64 (k : Int)] rfl rfl (fun j u h => cell_one_new wt _ 3 j u h) (by simp [Value.oneCell']) (by unfold maxLen; omega) (by omega) (by simp; omega) ?_; intro v' w' hown' hgrow hnil; have HO10 := Lib.hid hown'; have HG10 := Lib.hid hgrow; clear hown' hgrow hnil))
              refine ⟨⟨l', k, cs ++ [k], z1, ?_, rfl, rfl, hkn, ?_, ?_, ?_, ?_, Below.grown (Ext.alloc (Ext.trans HEq.out HEt.out) (.cells #[.int .i64 (k : Int)] 3)) HG10.out (by simp; omega) (fun j e => by have := hob j e; omega)⟩, ?_⟩
              · have := HLL.out; congr 1; omega
              · have := HLL.out; simp only [List.length_append, List.length_singleton]; omega
              · rw [List.length_append, List.length_singleton, show natsV (cs ++ [k]) = natsV cs ++ [.int .i64 (k : Int)] from by simp [natsV]]
                exact HO10.out
              · rw [← HCO.out, HCK.out]; simp
              · rw [← HLL.out]; exact HG2.out
              · have := HLL.out; simp [intOf]; omega
end Go.Proofs.YtbcngojiikdigaaGreat
