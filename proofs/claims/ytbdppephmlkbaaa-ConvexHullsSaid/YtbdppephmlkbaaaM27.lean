import Derived.Test.YtbdppephmlkbaaaM24
namespace Go.Proofs.Ytbdppephmlkbaaa
variable {ps : List Pt}
/-! What the reference counts in a row: the points between the greatest lower and the least upper bound of the edges. -/
def loZ (s : Int) (ps : List Pt) (y : Int) : Nat → Int
  | 0 => -1000
  | k + 1 => if (stepP ps k).2 < 0 then max (loZ s ps y k) (-(restZ s ps k y / -(stepP ps k).2)) else loZ s ps y k
def hiZ (s : Int) (ps : List Pt) (y : Int) : Nat → Int
  | 0 => 1000
  | k + 1 => if 0 < (stepP ps k).2 then min (hiZ s ps y k) (restZ s ps k y / (stepP ps k).2) else hiZ s ps y k
/-- does the row lie on the right side of the edges that lie in rows? -/
def flatB (s : Int) (ps : List Pt) (y : Int) : Nat → Bool
  | 0 => true
  | k + 1 => flatB s ps y k && decide ((stepP ps k).2 = 0 → 0 ≤ restZ s ps k y)
theorem row_iv {s y x : Int} (hx : -1000 ≤ x ∧ x ≤ 1000) : ∀ k, (∀ j, j < k → s ≤ sideK ps x y j) ↔ (flatB s ps y k = true ∧ loZ s ps y k ≤ x ∧ x ≤ hiZ s ps y k) := by
  intro k
  induction k with
  | zero => simp [flatB, loZ, hiZ]; omega
  | succ k ih =>
    have step : (∀ j, j < k + 1 → s ≤ sideK ps x y j) ↔ ((∀ j, j < k → s ≤ sideK ps x y j) ∧ s ≤ sideK ps x y k) :=
      ⟨fun h => ⟨fun j hj => h j (by omega), h k (by omega)⟩, fun h j hj => by
        by_cases e : j = k
        · rw [e]; exact h.2
        · exact h.1 j (by omega)⟩
    rw [step, ih]
    simp only [flatB, loZ, hiZ, Bool.and_eq_true, decide_eq_true_iff]
    rcases Int.lt_trichotomy (stepP ps k).2 0 with hd | hd | hd
    · rw [if_pos hd, if_neg (by omega), side_dn hd]
      constructor
      · rintro ⟨⟨h1, h2, h3⟩, h4⟩
        exact ⟨⟨h1, fun e => by omega⟩, by omega, h3⟩
      · rintro ⟨⟨h1, _⟩, h2, h3⟩
        exact ⟨⟨h1, by omega, h3⟩, by omega⟩
    · have hr := side_rest ps k x y s
      rw [hd, Int.zero_mul] at hr
      rw [if_neg (by omega), if_neg (by omega)]
      constructor
      · rintro ⟨⟨h1, h2, h3⟩, h4⟩
        exact ⟨⟨h1, fun _ => by omega⟩, h2, h3⟩
      · rintro ⟨⟨h1, h5⟩, h2, h3⟩
        exact ⟨⟨h1, h2, h3⟩, by have := h5 hd; omega⟩
    · rw [if_neg (by omega), if_pos hd, side_up hd]
      constructor
      · rintro ⟨⟨h1, h2, h3⟩, h4⟩
        exact ⟨⟨h1, fun e => by omega⟩, h2, by omega⟩
      · rintro ⟨⟨h1, _⟩, h2, h3⟩
        exact ⟨⟨h1, h2, by omega⟩, by omega⟩
theorem lo_ge (s : Int) (ps : List Pt) (y : Int) : ∀ k, -1000 ≤ loZ s ps y k := by
  intro k
  induction k with
  | zero => simp [loZ]
  | succ k ih => simp only [loZ]; split <;> omega
theorem hi_le' (s : Int) (ps : List Pt) (y : Int) : ∀ k, hiZ s ps y k ≤ 1000 := by
  intro k
  induction k with
  | zero => simp [hiZ]
  | succ k ih => simp only [hiZ]; split <;> omega
/-- the number of points of a row -/
def rowV (s : Int) (ps : List Pt) (y : Int) : Int := if flatB s ps y ps.length = true then max 0 (hiZ s ps y ps.length - loZ s ps y ps.length + 1) else 0
theorem rowN_eq (s : Int) (ps : List Pt) (y : Int) : rowN s ps y = rowV s ps y := by
  have hl := lo_ge s ps y ps.length
  have hh := hi_le' s ps y ps.length
  have key : ∀ i : Nat, i < 2001 → (inP s ps ((i : Int) - 1000) y ↔ (flatB s ps y ps.length = true ∧ loZ s ps y ps.length ≤ (i : Int) - 1000 ∧ (i : Int) - 1000 ≤ hiZ s ps y ps.length)) := fun i hi => row_iv (by omega) ps.length
  unfold rowN rowV
  by_cases hf : flatB s ps y ps.length = true
  · rw [if_pos hf]
    rw [sumTo_congr (g := fun i => if (fun x : Int => loZ s ps y ps.length ≤ x ∧ x ≤ hiZ s ps y ps.length) ((i : Int) - 1000) then 1 else 0) 2001 fun i hi => by
      have k := key i hi
      by_cases h : inP s ps ((i : Int) - 1000) y
      · rw [if_pos h, if_pos (k.1 h).2]
      · rw [if_neg h, if_neg (fun h2 => h (k.2 ⟨hf, h2⟩))]]
    by_cases hlh : loZ s ps y ps.length ≤ hiZ s ps y ps.length + 1
    · rw [count_iv (P := fun x : Int => loZ s ps y ps.length ≤ x ∧ x ≤ hiZ s ps y ps.length) (fun x => Iff.rfl) hl hh hlh]
      omega
    · rw [sumTo_congr (g := fun _ => 0) 2001 fun i _ => if_neg (fun h => by simp only at h; omega), sumTo_zero]
      omega
  · rw [if_neg hf]
    rw [sumTo_congr (g := fun _ => 0) 2001 fun i hi => if_neg (fun h => hf ((key i hi).1 h).1), sumTo_zero]
end Go.Proofs.Ytbdppephmlkbaaa
