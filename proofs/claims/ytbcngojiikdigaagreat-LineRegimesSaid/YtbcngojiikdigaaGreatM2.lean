import Derived.Test.YtbcngojiikdigaaGreatM1
namespace Go.Proofs.YtbcngojiikdigaaGreat
/-- the greatest sum of a closed walk of m arcs -/
def trF (n : Nat) (A : MF) (m : Nat) : E := es (fun i => pwF n A m i i) n
/-- the best mean after m arcs, as sum and number; 0, 0: none -/
def spK (n : Nat) (A : MF) : Nat → Int × Int
  | 0 => (0, 0)
  | m + 1 => match trF n A (m + 1) with
    | none => spK n A m
    | some t => if (spK n A m).2 = 0 ∨ (spK n A m).1 * ((m : Int) + 1) < t * (spK n A m).2 then (t, (m : Int) + 1) else spK n A m
theorem spK_bd {K : Int} {n : Nat} {A : MF} (hA : bdF K n A) (hK : 0 ≤ K) : ∀ m : Nat, (-(K * m) ≤ (spK n A m).1 ∧ (spK n A m).1 ≤ K * m) ∧ 0 ≤ (spK n A m).2 ∧ (spK n A m).2 ≤ m := by
  intro m
  induction m with
  | zero => simp [spK]
  | succ m ih =>
    have e : K * ((m + 1 : Nat) : Int) = K * (m : Int) + K := by rw [Int.natCast_add, Int.mul_add]; simp
    simp only [spK]
    cases ht : trF n A (m + 1) with
    | none => simp only; omega
    | some t =>
      have hb : bdE (K * ((m + 1 : Nat) : Int)) (some t) := by
        rw [← ht]
        exact bdE_es fun k hk => bdF_pw hA (m + 1) k hk k hk
      have := hb t rfl
      simp only
      split
      · simp only; omega
      · omega
/-- the speed in lowest terms; none: there is no cycle -/
def spF (n : Nat) (A : MF) : Option (Int × Int) :=
  if (spK n A n).2 = 0 then none else some ((spK n A n).1.tdiv (Int.gcd (spK n A n).1 (spK n A n).2), (spK n A n).2.tdiv (Int.gcd (spK n A n).1 (spK n A n).2))
end Go.Proofs.YtbcngojiikdigaaGreat
