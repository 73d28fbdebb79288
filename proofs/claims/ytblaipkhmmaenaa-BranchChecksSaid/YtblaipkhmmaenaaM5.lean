import Derived.Test.YtblaipkhmmaenaaE7
import Derived.Test.YtblaipkhmmaenaaM2
namespace Go.Proofs.Ytblaipkhmmaenaa
open Go.RowKit
theorem round_le {n d v : Int} (hd : 1 ≤ d) (h : n ≤ d * v) : roundZ n d ≤ v := by
  have e := Int.mul_tdiv_add_tmod n d
  have hlt := Int.tmod_lt_of_pos n (show 0 < d by omega)
  have hgt := Int.tmod_lt_of_pos (-n) (show 0 < d by omega)
  rw [Int.neg_tmod] at hgt
  unfold roundZ
  by_cases h0 : 0 < n.tmod d
  · rw [if_pos h0]
    have : d * n.tdiv d < d * v := by omega
    have := Int.lt_of_mul_lt_mul_left this (by omega)
    omega
  · rw [if_neg h0]
    have h1 : d * n.tdiv d < d * v + d := by omega
    have h2 : d * n.tdiv d < d * (v + 1) := by rw [Int.mul_add, Int.mul_one]; exact h1
    have := Int.lt_of_mul_lt_mul_left h2 (by omega)
    omega
def sumN (f : Nat → Int) : Nat → Int
  | 0 => 0
  | k + 1 => sumN f k + f k
theorem sumN_congr {f g : Nat → Int} : ∀ {n : Nat}, (∀ j, j < n → f j = g j) → sumN f n = sumN g n
  | 0, _ => rfl
  | n + 1, h => by simp only [sumN]; rw [sumN_congr (fun j hj => h j (by omega)), h n (by omega)]
theorem sumN_le {f g : Nat → Int} : ∀ {n : Nat}, (∀ j, j < n → f j ≤ g j) → sumN f n ≤ sumN g n
  | 0, _ => Int.le_refl _
  | n + 1, h => by
    simp only [sumN]
    have := sumN_le (f := f) (g := g) (n := n) (fun j hj => h j (by omega))
    have := h n (by omega)
    omega
theorem sumN_add (f g : Nat → Int) : ∀ n, sumN (fun j => f j + g j) n = sumN f n + sumN g n
  | 0 => rfl
  | n + 1 => by simp only [sumN, sumN_add f g n]; omega
theorem sumN_sub (f g : Nat → Int) : ∀ n, sumN (fun j => f j - g j) n = sumN f n - sumN g n
  | 0 => rfl
  | n + 1 => by simp only [sumN, sumN_sub f g n]; omega
theorem sumN_mul (c : Int) (f : Nat → Int) : ∀ n, sumN (fun j => c * f j) n = c * sumN f n
  | 0 => by simp [sumN]
  | n + 1 => by simp only [sumN, sumN_mul c f n, Int.mul_add]
theorem sumN_zero : ∀ n, sumN (fun _ => 0) n = 0
  | 0 => rfl
  | n + 1 => by simp [sumN, sumN_zero n]
theorem sum_dot {r x : List Int} (h : r.length = x.length) : dotZ r x = sumN (fun j => r.getD j 0 * x.getD j 0) r.length := by
  have key : ∀ k, k ≤ r.length → dotZ (r.take k) x = sumN (fun j => r.getD j 0 * x.getD j 0) k := by
    intro k
    induction k with
    | zero => intro _; simp [sumN, dotZ_nil]
    | succ k ih =>
      intro hk
      obtain ⟨a, ha⟩ := getElem?_len (show k < r.length by omega)
      obtain ⟨b, hb⟩ := getElem?_len (show k < x.length by omega)
      rw [dotZ_take_succ r x k a b ha hb, ih (by omega)]
      simp [sumN, List.getD, ha, hb]
  have := key r.length (Nat.le_refl _)
  rwa [List.take_length] at this
def rowsum : List Int → List (List Int) → List Int → Int
  | y :: ys, r :: rs, x => y * dotZ r x + rowsum ys rs x
  | _, _, _ => 0
theorem colsum (x : List Int) : ∀ (y : List Int) (A : List (List Int)), (∀ r ∈ A, r.length = x.length) → sumN (fun j => x.getD j 0 * dotZ y (colZ A j)) x.length = rowsum y A x
  | [], A, _ => by
    simp only [rowsum]
    rw [sumN_congr (g := fun _ => 0) (fun j _ => by simp [dotZ_nil]), sumN_zero]
  | y :: ys, [], _ => by
    simp only [rowsum]
    rw [sumN_congr (g := fun _ => 0) (fun j _ => by simp [colZ, dotZ]), sumN_zero]
  | y :: ys, r :: rs, h => by
    simp only [rowsum]
    rw [← colsum x ys rs (fun q hq => h q (by simp [hq])), sum_dot (h r (by simp)), h r (by simp), ← sumN_mul, ← sumN_add]
    refine sumN_congr (fun j _ => ?_)
    simp only [colZ, List.map_cons, dotZ, Int.mul_add]
    congr 1
    rw [Int.mul_left_comm, Int.mul_comm (x.getD j 0)]
theorem rowsum_ge (x : List Int) : ∀ (y B : List Int) (A : List (List Int)), B.length = A.length → (∀ z ∈ y, 0 ≤ z) → (A.zip B).all (okR x) = true → dotZ y B ≤ rowsum y A x
  | [], _, _, _, _, _ => by simp [rowsum, dotZ_nil]
  | y :: ys, [], [], _, _, _ => by simp [rowsum, dotZ]
  | y :: ys, b :: bs, r :: rs, hl, hy, hs => by
    simp only [List.zip_cons_cons, List.all_cons, Bool.and_eq_true, okR, decide_eq_true_eq] at hs
    have ih := rowsum_ge x ys bs rs (by simpa using hl) (fun z hz => hy z (by simp [hz])) hs.2
    have := Int.mul_le_mul_of_nonneg_left hs.1 (hy y (by simp))
    simp only [rowsum, dotZ]
    omega
  | _ :: _, [], _ :: _, hl, _, _ => by simp at hl
  | _ :: _, _ :: _, [], hl, _, _ => by simp at hl
theorem part_le {lo hi x R : Int} (h1 : lo ≤ x) (h2 : x ≤ hi) : min (lo * R) (hi * R) ≤ x * R := by
  by_cases hR : 0 ≤ R
  · have := Int.mul_le_mul_of_nonneg_right h1 hR
    omega
  · have := Int.mul_le_mul_of_nonpos_right h2 (show R ≤ 0 by omega)
    omega
def inBx (b : Bx) (x : List Int) : Prop := ∀ j, j < x.length → b.1.getD j 0 ≤ x.getD j 0 ∧ x.getD j 0 ≤ b.2.getD j 0
/-- the bound of a leaf is no more than what a vector of its box costs that meets the rows -/
theorem bound_le {p : Who} {y : List Int} {d : Int} {b : Bx} {costs x : List Int} (hA : ∀ r ∈ p.A, r.length = x.length) (hB : p.B.length = p.A.length) (hy : ∀ z ∈ y, 0 ≤ z) (hs : satB p x = true) (hc : costs.length = x.length) (hx : inBx b x) :
    boundZ p y d b.1 b.2 costs ≤ d * dotZ costs x := by
  have hk : ∀ k, boundK p y d b.1 b.2 costs k = dotZ y p.B + sumN (partZ p y d b.1 b.2 costs) k := by
    intro k
    induction k with
    | zero => simp [boundK, sumN]
    | succ k ih => simp only [boundK, sumN, ih]; omega
  have h1 : sumN (partZ p y d b.1 b.2 costs) x.length ≤ sumN (fun j => x.getD j 0 * restZ p y d costs j) x.length := sumN_le (fun j hj => part_le (hx j hj).1 (hx j hj).2)
  have h2 : sumN (fun j => x.getD j 0 * restZ p y d costs j) x.length = d * dotZ costs x - rowsum y p.A x := by
    rw [← colsum x y p.A hA, sum_dot hc, hc, ← sumN_mul, ← sumN_sub]
    refine sumN_congr (fun j _ => ?_)
    simp only [restZ, Int.mul_sub]
    congr 1
    rw [Int.mul_comm (x.getD j 0), Int.mul_comm (costs.getD j 0) d, Int.mul_assoc]
  have h3 := rowsum_ge x y p.B p.A hB hy hs
  unfold boundZ
  rw [hk, hc]
  omega
end Go.Proofs.Ytblaipkhmmaenaa
