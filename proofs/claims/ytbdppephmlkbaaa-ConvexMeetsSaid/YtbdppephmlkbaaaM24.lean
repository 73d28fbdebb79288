import Derived.Test.YtbdppephmlkbaaaM3
import Derived.Test.YtbdppephmlkbaaaM18
import Derived.Test.YtbdppephmlkbaaaM17
namespace Go.Proofs.Ytbdppephmlkbaaa
/-! sums of floors, and how many multiples there are -/
theorem div_is {x n q : Int} (hn : 0 < n) (h1 : n * q ≤ x) (h2 : x < n * q + n) : x / n = q := by
  have a : q ≤ x / n := (Int.le_ediv_iff_mul_le hn).2 (by rw [Int.mul_comm]; exact h1)
  have b : x / n < q + 1 := (Int.ediv_lt_iff_lt_mul hn).2 (by rw [Int.mul_comm, Int.mul_add]; omega)
  omega
theorem div_lo (x : Int) {n : Int} (hn : 0 < n) : n * (x / n) ≤ x := Int.mul_ediv_self_le (by omega)
theorem div_hi (x : Int) {n : Int} (hn : 0 < n) : x < n * (x / n) + n := Int.lt_mul_ediv_self_add hn
/-- a floor and that of the opposite number -/
theorem div_neg {x n : Int} (hn : 0 < n) : x / n + (-x) / n = (if n ∣ x then 1 else 0) - 1 := by
  by_cases hd : n ∣ x
  · rw [if_pos hd]
    obtain ⟨q, rfl⟩ := hd
    have e1 : n * q / n = q := Int.mul_ediv_cancel_left q (by omega)
    have e2 : -(n * q) / n = -q := by rw [← Int.mul_neg]; exact Int.mul_ediv_cancel_left _ (by omega)
    omega
  · rw [if_neg hd]
    have a := div_lo x hn
    have b := div_hi x hn
    have c : n * (x / n) ≠ x := fun e => hd ⟨_, e.symm⟩
    have e2 : (-x) / n = -(x / n) - 1 := by
      refine div_is hn ?_ ?_
      · rw [Int.mul_sub, Int.mul_neg]; omega
      · rw [Int.mul_sub, Int.mul_neg]; omega
    omega
theorem div_less {x n : Int} (hn : 0 < n) : (x - 1) / n = -((-x) / n) - 1 := by
  have a := div_lo (-x) hn
  have b := div_hi (-x) hn
  refine div_is hn ?_ ?_
  · rw [Int.mul_sub, Int.mul_neg]; omega
  · rw [Int.mul_sub, Int.mul_neg]; omega
theorem sumTo_zero (n : Nat) : sumTo (fun _ => 0) n = 0 := by
  induction n with
  | zero => rfl
  | succ n ih => simp only [sumTo, ih]; rfl
theorem sumTo_const (c : Int) (n : Nat) : sumTo (fun _ => c) n = n * c := by
  induction n with
  | zero => simp [sumTo]
  | succ n ih => simp only [sumTo, ih]; rw [Int.natCast_succ, Int.add_mul]; omega
theorem sumTo_sub {f g : Nat → Int} (n : Nat) : sumTo (fun k => f k - g k) n = sumTo f n - sumTo g n := by
  induction n with
  | zero => rfl
  | succ n ih => simp only [sumTo, ih]; omega
theorem sumTo_one (f : Nat → Int) : sumTo f 1 = f 0 := by simp [sumTo]
theorem sumTo_first (f : Nat → Int) (n : Nat) : sumTo f (n + 1) = f 0 + sumTo (fun k => f (k + 1)) n := by
  rw [Nat.add_comm, sumTo_split, sumTo_one]
  congr 1
  exact sumTo_congr _ fun k _ => by rw [Nat.add_comm]
theorem sumTo_back (f : Nat → Int) : ∀ n, sumTo (fun k => f (n - 1 - k)) n = sumTo f n := by
  intro n
  induction n with
  | zero => rfl
  | succ n ih =>
    rw [sumTo_first, show sumTo f (n + 1) = sumTo f n + f n from rfl, ← ih]
    have : sumTo (fun k => f (n + 1 - 1 - (k + 1))) n = sumTo (fun k => f (n - 1 - k)) n := sumTo_congr _ fun k _ => by congr 1; omega
    rw [this, show n + 1 - 1 - 0 = n by omega]
    omega
theorem sumTo_single {f : Nat → Int} {n k0 : Nat} (hk : k0 < n) (h : ∀ k, k < n → k ≠ k0 → f k = 0) : sumTo f n = f k0 := by
  have e : n = k0 + (1 + (n - k0 - 1)) := by omega
  rw [e, sumTo_split, sumTo_split, sumTo_one]
  have a : sumTo f k0 = 0 := by
    rw [sumTo_congr (g := fun _ => 0) _ fun k h' => h k (by omega) (by omega)]
    exact sumTo_zero _
  have b : sumTo (fun k => f (k0 + (1 + k))) (n - k0 - 1) = 0 := by
    rw [sumTo_congr (g := fun _ => 0) _ fun k h' => h (k0 + (1 + k)) (by omega) (by omega)]
    exact sumTo_zero _
  rw [a, b]
  simp
theorem sumTo_swap (f : Nat → Nat → Int) (n : Nat) : ∀ m, sumTo (fun i => sumTo (f i) n) m = sumTo (fun k => sumTo (fun i => f i k) m) n := by
  intro m
  induction m with
  | zero => exact (sumTo_zero n).symm
  | succ m ih =>
    simp only [sumTo]
    rw [ih, ← sumTo_add]
theorem sumTo_le {f g : Nat → Int} : ∀ n, (∀ k, k < n → f k ≤ g k) → sumTo f n ≤ sumTo g n := by
  intro n
  induction n with
  | zero => intro _; exact Int.le_refl _
  | succ n ih => intro h; simp only [sumTo]; have := ih fun k hk => h k (by omega); have := h n (by omega); omega
/-- a function that is zero but for some places in a row -/
theorem sumTo_part (f : Nat → Int) {a b n : Nat} (hab : a ≤ b) (hb : b ≤ n) : sumTo (fun i => if a ≤ i ∧ i < b then f i else 0) n = sumTo (fun j => f (a + j)) (b - a) := by
  have e : n = a + ((b - a) + (n - b)) := by omega
  rw [e, sumTo_split, sumTo_split]
  have z1 : sumTo (fun i => if a ≤ i ∧ i < b then f i else 0) a = 0 := by
    rw [sumTo_congr (g := fun _ => 0) _ fun k h' => if_neg (by omega)]
    exact sumTo_zero _
  have z2 : sumTo (fun k => (fun i => if a ≤ i ∧ i < b then f i else 0) (a + ((b - a) + k))) (n - b) = 0 := by
    rw [sumTo_congr (g := fun _ => 0) _ fun k h' => if_neg (by omega)]
    exact sumTo_zero _
  have z3 : sumTo (fun k => (fun i => if a ≤ i ∧ i < b then f i else 0) (a + k)) (b - a) = sumTo (fun j => f (a + j)) (b - a) := sumTo_congr _ fun k h' => if_pos (by omega)
  rw [z1, z2, z3]
  omega
theorem mult_count {d : Nat} (hd : 0 < d) : ∀ g : Nat, sumTo (fun j => if d ∣ j then 1 else 0) (g * d) = g := by
  intro g
  induction g with
  | zero => rw [Nat.zero_mul]; rfl
  | succ g ih =>
    rw [Nat.succ_mul, sumTo_split, ih]
    have : sumTo (fun k => if d ∣ g * d + k then 1 else 0) d = (if d ∣ g * d + 0 then 1 else 0) := sumTo_single (f := fun k => if d ∣ g * d + k then 1 else 0) hd fun k hk h0 => if_neg fun h => by
      have := (Nat.dvd_add_right (Nat.dvd_mul_left d g)).1 h
      have := Nat.le_of_dvd (by omega) this
      omega
    rw [this, if_pos (by rw [Nat.add_zero]; exact Nat.dvd_mul_left d g)]
    omega
/-- how many multiples of m up to n times it are multiples of n -/
theorem dvd_count (m : Int) {n : Nat} (hn : 0 < n) : sumTo (fun j => if (n : Int) ∣ (j : Int) * m then 1 else 0) n = (Int.gcd m n : Nat) := by
  have hg : 0 < Nat.gcd m.natAbs n := Nat.gcd_pos_of_pos_right _ hn
  obtain ⟨d, hd⟩ := Nat.gcd_dvd_right m.natAbs n
  obtain ⟨a, ha⟩ := Nat.gcd_dvd_left m.natAbs n
  have eg : Int.gcd m n = Nat.gcd m.natAbs n := rfl
  rw [eg]
  have hcop : Nat.gcd a d = 1 := by
    have := Nat.gcd_mul_left (Nat.gcd m.natAbs n) a d
    rw [← ha, ← hd] at this
    exact Nat.eq_of_mul_eq_mul_left hg (by rw [Nat.mul_one]; exact this.symm)
  generalize Nat.gcd m.natAbs n = g at *
  have hd0 : 0 < d := by
    rcases Nat.eq_zero_or_pos d with h | h
    · rw [h] at hd; omega
    · exact h
  have key : ∀ j : Nat, ((n : Int) ∣ (j : Int) * m) ↔ d ∣ j := fun j => by
    rw [← Int.natAbs_dvd_natAbs, Int.natAbs_mul, Int.natAbs_natCast, Int.natAbs_natCast, ha, hd]
    rw [show j * (g * a) = g * (j * a) by rw [Nat.mul_left_comm]]
    constructor
    · intro h
      have := Nat.dvd_of_mul_dvd_mul_left hg h
      exact Nat.Coprime.dvd_of_dvd_mul_right (by rw [Nat.Coprime, Nat.gcd_comm]; exact hcop) this
    · intro h
      exact Nat.mul_dvd_mul_left g (Nat.dvd_trans h (Nat.dvd_mul_right j a))
  rw [sumTo_congr (g := fun j => if d ∣ j then 1 else 0) n fun j _ => by
    by_cases h : d ∣ j
    · rw [if_pos h, if_pos ((key j).2 h)]
    · rw [if_neg h, if_neg fun k => h ((key j).1 k)]]
  rw [hd]
  exact mult_count hd0 g
/-- the sum of the floors of the multiples of a fraction -/
theorem floor_sum (m : Int) {n : Nat} (hn : 0 < n) : 2 * sumTo (fun j => ((j : Int) * m) / n) n = m * n - m - n + (Int.gcd m n : Nat) := by
  obtain ⟨p, rfl⟩ : ∃ p, n = p + 1 := ⟨n - 1, by omega⟩
  have h0 : sumTo (fun j => ((j : Int) * m) / ((p + 1 : Nat) : Int)) (p + 1) = sumTo (fun k => (((k + 1 : Nat) : Int) * m) / ((p + 1 : Nat) : Int)) p := by
    rw [sumTo_first]
    simp
  have hc := dvd_count m hn
  rw [sumTo_first] at hc
  simp only [Int.natCast_zero, Int.zero_mul] at hc
  rw [if_pos (Int.dvd_zero _)] at hc
  have hb := sumTo_back (fun k => (((k + 1 : Nat) : Int) * m) / ((p + 1 : Nat) : Int)) p
  have hp : sumTo (fun k => (((k + 1 : Nat) : Int) * m) / ((p + 1 : Nat) : Int) + (((p - 1 - k + 1 : Nat) : Int) * m) / ((p + 1 : Nat) : Int)) p =
      sumTo (fun k => (m - 1) + (if ((p + 1 : Nat) : Int) ∣ ((k + 1 : Nat) : Int) * m then 1 else 0)) p := sumTo_congr _ fun k hk => by
    have hn' : (0 : Int) < ((p + 1 : Nat) : Int) := by omega
    have e : ((p - 1 - k + 1 : Nat) : Int) * m = ((p + 1 : Nat) : Int) * m + -(((k + 1 : Nat) : Int) * m) := by
      rw [← Int.neg_mul, ← Int.add_mul]
      congr 1
      omega
    rw [e, Int.add_comm (((p + 1 : Nat) : Int) * m), Int.add_mul_ediv_left _ _ (by omega)]
    have := div_neg (x := ((k + 1 : Nat) : Int) * m) hn'
    omega
  rw [sumTo_add, hb, sumTo_add, sumTo_const] at hp
  rw [h0]
  have e : m * ((p + 1 : Nat) : Int) = m * p + m := by rw [Int.natCast_succ, Int.mul_add, Int.mul_one]
  have e2 : (p : Int) * (m - 1) = m * p - p := by rw [Int.mul_sub, Int.mul_one, Int.mul_comm]
  rw [e]
  rw [e2] at hp
  have e3 : ((p + 1 : Nat) : Int) = p + 1 := by omega
  omega
/-- and if each is a little less -/
theorem floor_less (m : Int) {n : Nat} (hn : 0 < n) : 2 * sumTo (fun j => ((j : Int) * m - 1) / n) n = m * n - m - n - (Int.gcd m n : Nat) := by
  have h := floor_sum (-m) hn
  have hn' : (0 : Int) < (n : Int) := by omega
  rw [sumTo_congr (g := fun j => -1 - ((j : Int) * -m) / n) n fun j _ => by rw [div_less hn', Int.mul_neg]; omega]
  rw [sumTo_sub, sumTo_const]
  rw [Int.neg_gcd, Int.neg_mul] at h
  omega
/-- both at once -/
def signS (s : Int) : Int := 1 - 2 * s
theorem floor_both (m : Int) {n : Nat} (hn : 0 < n) {s : Int} (hs : s = 0 ∨ s = 1) : 2 * sumTo (fun j => ((j : Int) * m - s) / n) n = m * n - m - n + signS s * (Int.gcd m n : Nat) := by
  rcases hs with rfl | rfl
  · have := floor_sum m hn
    simp only [Int.sub_zero]
    unfold signS
    omega
  · have := floor_less m hn
    unfold signS
    omega
end Go.Proofs.Ytbdppephmlkbaaa

namespace Go.Proofs.Ytbdppephmlkbaaa
/-! the rows of a polygon, edge by edge -/
theorem edge_up {dx dy xk yk s y0 : Int} {H : Nat} (hd : 0 < dy) (h0 : y0 ≤ yk) (h1 : yk + dy ≤ y0 + H) (hs : s = 0 ∨ s = 1) :
    2 * sumTo (fun i => if yk ≤ y0 + (i : Int) ∧ y0 + (i : Int) < yk + dy then (dx * (y0 + (i : Int) - yk) + dy * xk - s) / dy else 0) H = 2 * (dy * xk) + dx * dy - dx - dy + signS s * (Int.gcd dx dy : Nat) := by
  obtain ⟨n, rfl⟩ : ∃ n : Nat, dy = n := ⟨dy.toNat, by omega⟩
  obtain ⟨a, rfl⟩ : ∃ a : Nat, yk = y0 + a := ⟨(yk - y0).toNat, by omega⟩
  have hn : 0 < n := by omega
  rw [sumTo_congr (g := fun i => if a ≤ i ∧ i < a + n then (dx * (y0 + (i : Int) - (y0 + a)) + n * xk - s) / n else 0) H fun i _ => by
    by_cases h : a ≤ i ∧ i < a + n
    · rw [if_pos h, if_pos (by omega)]
    · rw [if_neg h, if_neg (by omega)]]
  rw [sumTo_part (fun i => (dx * (y0 + (i : Int) - (y0 + a)) + n * xk - s) / n) (by omega) (by omega), show a + n - a = n by omega]
  rw [sumTo_congr (g := fun j => xk + ((j : Int) * dx - s) / n) n fun j _ => by
    have e : dx * (y0 + ((a + j : Nat) : Int) - (y0 + a)) + n * xk - s = ((j : Int) * dx - s) + n * xk := by
      rw [show y0 + ((a + j : Nat) : Int) - (y0 + a) = j by omega, Int.mul_comm dx]; omega
    rw [e, Int.add_mul_ediv_left _ _ (by omega)]
    omega]
  rw [sumTo_add, sumTo_const]
  have := floor_both dx hn hs
  omega
theorem edge_down {dx dy xk yk s y0 : Int} {H : Nat} (hd : dy < 0) (h0 : y0 ≤ yk + dy) (h1 : yk ≤ y0 + H) (hs : s = 0 ∨ s = 1) :
    2 * sumTo (fun i => if yk + dy ≤ y0 + (i : Int) ∧ y0 + (i : Int) < yk then (dx * (y0 + (i : Int) - yk) + dy * xk - s) / -dy else 0) H = 2 * (dy * xk) + dx * dy - dx + dy + signS s * (Int.gcd dx dy : Nat) := by
  obtain ⟨n, e⟩ : ∃ n : Nat, -dy = n := ⟨(-dy).toNat, by omega⟩
  obtain rfl : dy = -n := by omega
  obtain ⟨a, e2⟩ : ∃ a : Nat, yk + -n = y0 + a := ⟨(yk + -n - y0).toNat, by omega⟩
  obtain rfl : yk = y0 + a + n := by omega
  have hn : 0 < n := by omega
  rw [sumTo_congr (g := fun i => if a ≤ i ∧ i < a + n then (dx * (y0 + (i : Int) - (y0 + a + n)) + -n * xk - s) / n else 0) H fun i _ => by
    by_cases h : a ≤ i ∧ i < a + n
    · rw [if_pos h, if_pos (by omega), Int.neg_neg]
    · rw [if_neg h, if_neg (by omega)]]
  rw [sumTo_part (fun i => (dx * (y0 + (i : Int) - (y0 + a + n)) + -n * xk - s) / n) (by omega) (by omega), show a + n - a = n by omega]
  rw [sumTo_congr (g := fun j => -(dx + xk) + ((j : Int) * dx - s) / n) n fun j _ => by
    have e : dx * (y0 + ((a + j : Nat) : Int) - (y0 + a + n)) + -n * xk - s = ((j : Int) * dx - s) + n * -(dx + xk) := by
      rw [show y0 + ((a + j : Nat) : Int) - (y0 + a + n) = (j : Int) - n by omega]; grind
    rw [e, Int.add_mul_ediv_left _ _ (by omega)]
    omega]
  rw [sumTo_add, sumTo_const]
  have h := floor_both dx hn hs
  rw [Int.gcd_neg]
  have e3 : 2 * ((n : Int) * -(dx + xk)) = -2 * (n * xk) - 2 * (dx * n) := by grind
  have e4 : -(n : Int) * xk = -(n * xk) := Int.neg_mul ..
  have e5 : dx * -(n : Int) = -(dx * n) := Int.mul_neg ..
  rw [e4, e5]
  omega
/-- where a chain passes a height -/
theorem chain_at (Y : Nat → Int) : ∀ u, (∀ k, k < u → Y k ≤ Y (k + 1)) → ∀ y, Y 0 ≤ y → y < Y u → ∃ k0, k0 < u ∧ (Y k0 ≤ y ∧ y < Y (k0 + 1)) ∧ ∀ k, k < u → k ≠ k0 → ¬ (Y k ≤ y ∧ y < Y (k + 1)) := by
  intro u
  induction u with
  | zero => intro _ y h1 h2; omega
  | succ u ih =>
    intro hm y h1 h2
    by_cases hc : y < Y u
    · obtain ⟨k0, hk, hy, ho⟩ := ih (fun k hk => hm k (by omega)) y h1 hc
      refine ⟨k0, by omega, hy, fun k hk hne => ?_⟩
      by_cases e : k = u
      · subst e; omega
      · exact ho k (by omega) hne
    · have mono : ∀ k, k ≤ u → Y k ≤ Y u := by
        intro k hk
        have : ∀ d, d ≤ u → Y (u - d) ≤ Y u := by
          intro d
          induction d with
          | zero => intro _; exact Int.le_refl _
          | succ d ihd =>
            intro hd
            have a := ihd (by omega)
            have b := hm (u - (d + 1)) (by omega)
            rw [show u - (d + 1) + 1 = u - d by omega] at b
            omega
        have := this (u - k) (by omega)
        rwa [show u - (u - k) = k by omega] at this
      refine ⟨u, by omega, ⟨by omega, h2⟩, fun k hk hne => ?_⟩
      have := mono (k + 1) (by omega)
      omega
theorem chain_dn (Y : Nat → Int) (u : Nat) (hm : ∀ k, k < u → Y (k + 1) ≤ Y k) (y : Int) (h1 : Y u ≤ y) (h2 : y < Y 0) : ∃ k0, k0 < u ∧ (Y (k0 + 1) ≤ y ∧ y < Y k0) ∧ ∀ k, k < u → k ≠ k0 → ¬ (Y (k + 1) ≤ y ∧ y < Y k) := by
  obtain ⟨k0, hk, hy, ho⟩ := chain_at (fun k => -Y k) u (fun k hk => by have := hm k hk; omega) (-y - 1) (by omega) (by omega)
  refine ⟨k0, hk, by omega, fun k hk hne h => ho k hk hne (by omega)⟩
/-- an edge's number in a row: how far to the right, or to the left, the row goes there -/
def restZ (s : Int) (ps : List Pt) (k : Nat) (y : Int) : Int := (stepP ps k).1 * (y - (fromP ps k).2) + (stepP ps k).2 * (fromP ps k).1 - s
def upC (ps : List Pt) (k : Nat) (y : Int) : Prop := (fromP ps k).2 ≤ y ∧ y < (fromP ps k).2 + (stepP ps k).2
def dnC (ps : List Pt) (k : Nat) (y : Int) : Prop := (fromP ps k).2 + (stepP ps k).2 ≤ y ∧ y < (fromP ps k).2
def upZ (s : Int) (ps : List Pt) (k : Nat) (y : Int) : Int := if (fromP ps k).2 ≤ y ∧ y < (fromP ps k).2 + (stepP ps k).2 then restZ s ps k y / (stepP ps k).2 else 0
def dnZ (s : Int) (ps : List Pt) (k : Nat) (y : Int) : Int := if (fromP ps k).2 + (stepP ps k).2 ≤ y ∧ y < (fromP ps k).2 then restZ s ps k y / -(stepP ps k).2 else 0
/-- twice what an edge gives in all rows -/
def tZ (s : Int) (ps : List Pt) (k : Nat) : Int := (2 * (fromP ps k).1 + (stepP ps k).1) * (stepP ps k).2 - (stepP ps k).1 - (if 0 ≤ (stepP ps k).2 then (stepP ps k).2 else -(stepP ps k).2) + signS s * gcdK ps k
theorem to_y (ps : List Pt) (k : Nat) : (toP ps k).2 = (fromP ps k).2 + (stepP ps k).2 := by unfold stepP; simp only; omega
theorem to_x (ps : List Pt) (k : Nat) : (toP ps k).1 = (fromP ps k).1 + (stepP ps k).1 := by unfold stepP; simp only; omega
theorem edge_rows {s : Int} (hs : s = 0 ∨ s = 1) (ps : List Pt) (k : Nat) {y0 : Int} {H : Nat} (h0 : y0 ≤ (fromP ps k).2) (h1 : (fromP ps k).2 ≤ y0 + H) (h2 : y0 ≤ (toP ps k).2) (h3 : (toP ps k).2 ≤ y0 + H) :
    2 * sumTo (fun i => upZ s ps k (y0 + (i : Int)) + dnZ s ps k (y0 + (i : Int))) H = if (stepP ps k).2 = 0 then 0 else tZ s ps k := by
  rw [to_y] at h2 h3
  have eg : gcdK ps k = (Int.gcd (stepP ps k).1 (stepP ps k).2 : Nat) := rfl
  rw [sumTo_add]
  unfold upZ dnZ restZ tZ
  rw [eg]
  generalize (stepP ps k).1 = dx at *
  generalize (stepP ps k).2 = dy at *
  generalize (fromP ps k).1 = xk at *
  generalize (fromP ps k).2 = yk at *
  rcases Int.lt_trichotomy dy 0 with h | h | h
  · rw [if_neg (show ¬ dy = 0 by omega), if_neg (show ¬ 0 ≤ dy by omega)]
    rw [sumTo_congr (f := fun i : Nat => if yk ≤ y0 + (i : Int) ∧ y0 + (i : Int) < yk + dy then (dx * (y0 + (i : Int) - yk) + dy * xk - s) / dy else 0) (g := fun _ => 0) H fun i _ => if_neg (by omega), sumTo_zero]
    have := edge_down (dx := dx) (xk := xk) h h2 h1 hs
    rw [Int.add_mul, Int.mul_assoc, Int.mul_comm xk]
    omega
  · subst h
    rw [if_pos rfl]
    rw [sumTo_congr (f := fun i : Nat => if yk ≤ y0 + (i : Int) ∧ y0 + (i : Int) < yk + 0 then (dx * (y0 + (i : Int) - yk) + 0 * xk - s) / 0 else 0) (g := fun _ => 0) H fun i _ => if_neg (by omega), sumTo_zero]
    rw [sumTo_congr (f := fun i : Nat => if yk + 0 ≤ y0 + (i : Int) ∧ y0 + (i : Int) < yk then (dx * (y0 + (i : Int) - yk) + 0 * xk - s) / -0 else 0) (g := fun _ => 0) H fun i _ => if_neg (by omega), sumTo_zero]
    rfl
  · rw [if_neg (show ¬ dy = 0 by omega), if_pos (show 0 ≤ dy by omega)]
    rw [sumTo_congr (f := fun i : Nat => if yk + dy ≤ y0 + (i : Int) ∧ y0 + (i : Int) < yk then (dx * (y0 + (i : Int) - yk) + dy * xk - s) / -dy else 0) (g := fun _ => 0) H fun i _ => if_neg (by omega), sumTo_zero]
    have := edge_up (dx := dx) (xk := xk) h h0 h3 hs
    rw [Int.add_mul, Int.mul_assoc, Int.mul_comm xk]
    omega
end Go.Proofs.Ytbdppephmlkbaaa

namespace Go.Proofs.Ytbdppephmlkbaaa
/-- how a polygon goes up to its highest vertex and down again -/
structure Tall (ps : List Pt) (u : Nat) : Prop where
  u1 : 1 ≤ u
  u2 : u < ps.length
  up : ∀ k, k < u → 0 < (stepP ps k).2 ∨ ((stepP ps k).2 = 0 ∧ 0 < (stepP ps k).1 ∧ k = 0)
  dn : ∀ k, u ≤ k → k < ps.length → (stepP ps k).2 < 0 ∨ ((stepP ps k).2 = 0 ∧ (stepP ps k).1 < 0 ∧ k = u)
  top : ∀ j, j < ps.length → (fromP ps j).2 ≤ (fromP ps u).2
  low : ∀ j, j < ps.length → (fromP ps 0).2 ≤ (fromP ps j).2
  high : (fromP ps 0).2 < (fromP ps u).2
theorem Around.tall {ps : List Pt} (h : Around ps) : ∃ u, Tall ps u := by
  obtain ⟨u, u1, u2, hs, ht⟩ := h.top
  have n := h.three
  have up : ∀ k, k < u → 0 < (stepP ps k).2 ∨ ((stepP ps k).2 = 0 ∧ 0 < (stepP ps k).1) := fun k hk => by
    have : sinksB (stepP ps k).1 (stepP ps k).2 = false := by
      cases e : sinksB (stepP ps k).1 (stepP ps k).2 with
      | false => rfl
      | true => have := (hs k (by omega)).1 e; omega
    exact up_of this (h.ne0 (by omega))
  have dn : ∀ k, u ≤ k → k < ps.length → (stepP ps k).2 < 0 ∨ ((stepP ps k).2 = 0 ∧ (stepP ps k).1 < 0) := fun k hk hn => down_of ((hs k hn).2 hk)
  have low : ∀ j, j < ps.length → (fromP ps 0).2 ≤ (fromP ps j).2 := fun j hj => by
    rcases Nat.eq_zero_or_pos j with rfl | h0
    · exact Int.le_refl _
    · have := h.lowest h0 hj
      unfold lowP at this
      omega
  have flat : ∀ k, 0 < k → k < ps.length → (stepP ps k).2 = 0 → 0 < -((stepP ps (k - 1)).2 * (stepP ps k).1) := fun k h0 hk e => by
    have := h.turn k hk
    rw [show prevI ps.length k = k - 1 by unfold prevI; rw [if_neg (by omega)]] at this
    unfold crossP crossZ at this
    rw [e] at this
    omega
  have up' : ∀ k, k < u → 0 < (stepP ps k).2 ∨ ((stepP ps k).2 = 0 ∧ 0 < (stepP ps k).1 ∧ k = 0) := fun k hk => by
    rcases up k hk with g | ⟨g1, g2⟩
    · exact .inl g
    · rcases Nat.eq_zero_or_pos k with h0 | h0
      · exact .inr ⟨g1, g2, h0⟩
      · have f := flat k h0 (by omega) g1
        have : 0 ≤ (stepP ps (k - 1)).2 := by rcases up (k - 1) (by omega) with g | g <;> omega
        have := Int.mul_nonneg this (Int.le_of_lt g2)
        omega
  have dn' : ∀ k, u ≤ k → k < ps.length → (stepP ps k).2 < 0 ∨ ((stepP ps k).2 = 0 ∧ (stepP ps k).1 < 0 ∧ k = u) := fun k hk hn => by
    rcases dn k hk hn with g | ⟨g1, g2⟩
    · exact .inl g
    · by_cases hu : k = u
      · exact .inr ⟨g1, g2, hu⟩
      · have f := flat k (by omega) (by omega) g1
        have : (stepP ps (k - 1)).2 ≤ 0 := by rcases dn (k - 1) (by omega) (by omega) with g | g <;> omega
        have := Int.mul_nonneg_of_nonpos_of_nonpos this (Int.le_of_lt g2)
        omega
  refine ⟨u, u1, u2, up', dn', fun j hj => ?_, low, ?_⟩
  · by_cases e : j = u
    · rw [e]; exact Int.le_refl _
    · have := ht j hj e
      unfold lowP at this
      omega
  · rcases Int.lt_or_eq_of_le (low u u2) with g | g
    · exact g
    · exfalso
      have a := h.nxt (i := 0) (by omega)
      have e1 := to_y ps 0
      rw [a] at e1
      have z : (stepP ps 0).2 = 0 := by
        have : (fromP ps (0 + 1)).2 = (fromP ps 0).2 := by
          have l := low (0 + 1) (by omega)
          by_cases e : 0 + 1 = u
          · rw [e]; exact g.symm
          · have := ht (0 + 1) (by omega) e
            unfold lowP at this
            omega
        omega
      by_cases hu1 : u = 1
      · subst hu1
        have f := h.turn 1 (by omega)
        rw [show prevI ps.length 1 = 0 from rfl] at f
        unfold crossP crossZ at f
        rw [z] at f
        have p : 0 < (stepP ps 0).1 := by rcases up 0 (by omega) with q | q <;> omega
        have q : (stepP ps 1).2 ≤ 0 := by rcases dn 1 (by omega) (by omega) with q | q <;> omega
        have := Int.mul_nonneg (Int.le_of_lt p) (show 0 ≤ -(stepP ps 1).2 by omega)
        rw [Int.mul_neg] at this
        omega
      · have b := h.nxt (i := 1) (by omega)
        have e2 := to_y ps 1
        rw [b] at e2
        have := up' 1 (by omega)
        have q : 0 < (stepP ps 1).2 := by rcases this with q | q <;> omega
        have : (fromP ps (1 + 1)).2 ≤ (fromP ps u).2 := by
          by_cases e : 1 + 1 = u
          · rw [e]; exact Int.le_refl _
          · have := ht (1 + 1) (by omega) e
            unfold lowP at this
            omega
        have e3 : (fromP ps (0 + 1)).2 = (fromP ps 1).2 := rfl
        omega
variable {ps : List Pt} {u : Nat}
/-- the two edges that a row meets -/
theorem Tall.row (h : Around ps) (t : Tall ps u) {y : Int} (h1 : (fromP ps 0).2 ≤ y) (h2 : y < (fromP ps u).2) (s : Int) :
    ∃ k m, k < u ∧ upC ps k y ∧ u ≤ m ∧ m < ps.length ∧ dnC ps m y ∧ sumTo (fun k => upZ s ps k y + dnZ s ps k y) ps.length = restZ s ps k y / (stepP ps k).2 + restZ s ps m y / -(stepP ps m).2 := by
  have n := h.three
  have u2 := t.u2
  have nx : ∀ k, k < u → (fromP ps (k + 1)).2 = (fromP ps k).2 + (stepP ps k).2 := fun k hk => by rw [← to_y, h.nxt (by omega)]
  have nd : ∀ k, u + k < ps.length → (fromP ps ((u + (k + 1)) % ps.length)).2 = (fromP ps (u + k)).2 + (stepP ps (u + k)).2 := fun k hk => by rw [← to_y, to_from]; rfl
  have md : ∀ k, u + k < ps.length → (u + k) % ps.length = u + k := fun k hk => Nat.mod_eq_of_lt hk
  obtain ⟨k, hk, hy, ho⟩ := chain_at (fun k => (fromP ps k).2) u (fun k hk => by rw [nx k hk]; rcases t.up k hk with g | g <;> omega) y h1 h2
  obtain ⟨m, hm, hz, hp⟩ := chain_dn (fun k => (fromP ps ((u + k) % ps.length)).2) (ps.length - u) (fun k hk => by rw [nd k (by omega), md k (by omega)]; rcases t.dn (u + k) (by omega) (by omega) with g | g <;> omega) y
    (by rw [show u + (ps.length - u) = ps.length by omega, Nat.mod_self]; exact h1) (by rw [Nat.add_zero, Nat.mod_eq_of_lt u2]; exact h2)

  rw [nx k hk] at hy
  rw [nd m (by omega), md m (by omega)] at hz
  refine ⟨k, u + m, hk, hy, by omega, by omega, hz, ?_⟩
  rw [sumTo_add]
  have a : sumTo (fun k => upZ s ps k y) ps.length = upZ s ps k y := sumTo_single (f := fun k => upZ s ps k y) (by omega) fun j hj hne => by
    refine if_neg fun hc => ?_
    by_cases g : j < u
    · exact ho j g hne (by rw [nx j g]; exact hc)
    · rcases t.dn j (by omega) hj with q | q <;> omega
  have b : sumTo (fun k => dnZ s ps k y) ps.length = dnZ s ps (u + m) y := sumTo_single (f := fun k => dnZ s ps k y) (by omega) fun j hj hne => by
    refine if_neg fun hc => ?_
    by_cases g : j < u
    · rcases t.up j g with q | q <;> omega
    · have := hp (j - u) (by omega) (by omega)
      rw [nd (j - u) (by omega), md (j - u) (by omega), show u + (j - u) = j by omega] at this
      exact this hc
  rw [a, b]
  unfold upZ dnZ
  rw [if_pos hy, if_pos hz]
/-- what lies to the left of two edges that face each other in a row lies to the left of all -/
theorem side_id (ps : List Pt) (k j : Nat) (x y : Int) : (stepP ps k).2 * sideK ps x y j = (stepP ps j).2 * sideK ps x y k + ((fromP ps k).2 + (stepP ps k).2 - y) * sideK ps (fromP ps k).1 (fromP ps k).2 j + (y - (fromP ps k).2) * sideK ps (toP ps k).1 (toP ps k).2 j := by
  rw [to_x, to_y]
  unfold sideK crossZ
  grind
theorem left_to (h : Around ps) {k j : Nat} (hj : j < ps.length) : 0 ≤ sideK ps (toP ps k).1 (toP ps k).2 j := by
  have n := h.three
  rw [to_from]
  exact h.left hj (Nat.mod_lt _ (by omega))
theorem mul_sign_pos {a b : Int} (ha : 0 < a) : (0 ≤ a * b ↔ 0 ≤ b) ∧ (0 < a * b ↔ 0 < b) := by
  refine ⟨⟨fun h => Int.nonneg_of_mul_nonneg_right h ha, fun h => Int.mul_nonneg (by omega) h⟩, ⟨fun h => ?_, fun h => Int.mul_pos ha h⟩⟩
  rcases Int.lt_or_le 0 b with g | g
  · exact g
  · have := Int.mul_nonneg (show 0 ≤ a by omega) (show 0 ≤ -b by omega)
    rw [Int.mul_neg] at this
    omega
theorem mul_sign_neg {a b : Int} (ha : a < 0) : (a * b ≤ 0 ↔ 0 ≤ b) ∧ (a * b < 0 ↔ 0 < b) := by
  have := mul_sign_pos (a := -a) (b := b) (by omega)
  rw [Int.neg_mul] at this
  omega
/-- a row of an edge that rises, ends included -/
def upD (ps : List Pt) (k : Nat) (y : Int) : Prop := 0 < (stepP ps k).2 ∧ (fromP ps k).2 ≤ y ∧ y ≤ (fromP ps k).2 + (stepP ps k).2
def dnD (ps : List Pt) (k : Nat) (y : Int) : Prop := (stepP ps k).2 < 0 ∧ (fromP ps k).2 + (stepP ps k).2 ≤ y ∧ y ≤ (fromP ps k).2
theorem mem_row (h : Around ps) {k m : Nat} {x y : Int} (hk : k < ps.length) (hm : m < ps.length) (a : upD ps k y) (b : dnD ps m y) (h1 : 0 ≤ sideK ps x y k) (h2 : 0 ≤ sideK ps x y m) : ∀ j, j < ps.length → 0 ≤ sideK ps x y j := fun j hj => by
  have l1 := h.left (k := j) hj hk
  have l2 := left_to h (k := k) hj
  have l3 := h.left (k := j) hj hm
  have l4 := left_to h (k := m) hj
  have i1 := side_id ps k j x y
  have i2 := side_id ps m j x y
  have p1 := Int.mul_nonneg (show 0 ≤ (fromP ps k).2 + (stepP ps k).2 - y by have := a.2.2; omega) l1
  have p2 := Int.mul_nonneg (show 0 ≤ y - (fromP ps k).2 by have := a.2.1; omega) l2
  have p3 := Int.mul_nonneg (show 0 ≤ -((fromP ps m).2 + (stepP ps m).2 - y) by have := b.2.1; omega) l3
  have p4 := Int.mul_nonneg (show 0 ≤ -(y - (fromP ps m).2) by have := b.2.2; omega) l4
  rw [Int.neg_mul] at p3 p4
  rcases Int.lt_or_le (stepP ps j).2 0 with g | g
  · have := Int.mul_nonneg (show 0 ≤ -(stepP ps j).2 by omega) h2
    rw [Int.neg_mul] at this
    exact (mul_sign_neg b.1).1.1 (by omega)
  · have := Int.mul_nonneg g h1
    exact (mul_sign_pos a.1).1.1 (by omega)
theorem mem_row1 (h : Around ps) (t : Tall ps u) {k m : Nat} {x y : Int} (hk : k < ps.length) (hm : m < ps.length) (a : upD ps k y) (b : dnD ps m y) (hy1 : (fromP ps 0).2 < y) (hy2 : y < (fromP ps u).2) (h1 : 0 < sideK ps x y k) (h2 : 0 < sideK ps x y m) : ∀ j, j < ps.length → 0 < sideK ps x y j := fun j hj => by
  have l1 := h.left (k := j) hj hk
  have l2 := left_to h (k := k) hj
  have l3 := h.left (k := j) hj hm
  have l4 := left_to h (k := m) hj
  have i1 := side_id ps k j x y
  have i2 := side_id ps m j x y
  have p1 := Int.mul_nonneg (show 0 ≤ (fromP ps k).2 + (stepP ps k).2 - y by have := a.2.2; omega) l1
  have p2 := Int.mul_nonneg (show 0 ≤ y - (fromP ps k).2 by have := a.2.1; omega) l2
  have p3 := Int.mul_nonneg (show 0 ≤ -((fromP ps m).2 + (stepP ps m).2 - y) by have := b.2.1; omega) l3
  have p4 := Int.mul_nonneg (show 0 ≤ -(y - (fromP ps m).2) by have := b.2.2; omega) l4
  rw [Int.neg_mul] at p3 p4
  rcases Int.lt_trichotomy (stepP ps j).2 0 with g | g | g
  · have := Int.mul_pos (show 0 < -(stepP ps j).2 by omega) h2
    rw [Int.neg_mul] at this
    exact (mul_sign_neg b.1).2.1 (by omega)
  · have e : sideK ps x y j = (stepP ps j).1 * (y - (fromP ps j).2) := by unfold sideK crossZ; rw [g]; omega
    rw [e]
    by_cases hju : j < u
    · rcases t.up j hju with q | ⟨_, q, rfl⟩
      · omega
      · exact Int.mul_pos q (by omega)
    · rcases t.dn j (by omega) hj with q | ⟨_, q, rfl⟩
      · omega
      · exact Int.mul_pos_of_neg_of_neg q (by omega)
  · have := Int.mul_pos g h1
    exact (mul_sign_pos a.1).2.1 (by omega)
theorem side_rest (ps : List Pt) (k : Nat) (x y s : Int) : sideK ps x y k - s = restZ s ps k y - (stepP ps k).2 * x := by
  unfold sideK crossZ restZ
  grind
theorem side_up {k : Nat} {x y s : Int} (hd : 0 < (stepP ps k).2) : s ≤ sideK ps x y k ↔ x ≤ restZ s ps k y / (stepP ps k).2 := by
  rw [Int.le_ediv_iff_mul_le hd]
  have := side_rest ps k x y s
  rw [Int.mul_comm x]
  omega
theorem side_dn {k : Nat} {x y s : Int} (hd : (stepP ps k).2 < 0) : s ≤ sideK ps x y k ↔ -(restZ s ps k y / -(stepP ps k).2) ≤ x := by
  have e : -(restZ s ps k y / -(stepP ps k).2) ≤ x ↔ -x ≤ restZ s ps k y / -(stepP ps k).2 := by omega
  rw [e, Int.le_ediv_iff_mul_le (by omega)]
  have := side_rest ps k x y s
  rw [Int.neg_mul_neg, Int.mul_comm x]
  omega
end Go.Proofs.Ytbdppephmlkbaaa

namespace Go.Proofs.Ytbdppephmlkbaaa
variable {ps : List Pt} {u : Nat}
/-- on all edges or to their left, by so much -/
def inP (s : Int) (ps : List Pt) (x y : Int) : Prop := ∀ k, k < ps.length → s ≤ sideK ps x y k
instance (s : Int) (ps : List Pt) (x y : Int) : Decidable (inP s ps x y) := by unfold inP; infer_instance
/-- how many points of a row are so -/
def rowN (s : Int) (ps : List Pt) (y : Int) : Int := sumTo (fun i => if inP s ps ((i : Int) - 1000) y then 1 else 0) 2001
def allN (s : Int) (ps : List Pt) : Int := sumTo (fun i => rowN s ps ((i : Int) - 1000)) 2001
theorem count_iv {P : Int → Prop} [DecidablePred P] {lo hi : Int} (h : ∀ x, P x ↔ lo ≤ x ∧ x ≤ hi) (h1 : -1000 ≤ lo) (h2 : hi ≤ 1000) (h3 : lo ≤ hi + 1) :
    sumTo (fun i => if P ((i : Int) - 1000) then 1 else 0) 2001 = hi - lo + 1 := by
  obtain ⟨a, ha⟩ : ∃ a : Nat, lo = a - 1000 := ⟨(lo + 1000).toNat, by omega⟩
  obtain ⟨b, hb⟩ : ∃ b : Nat, hi + 1 = b - 1000 := ⟨(hi + 1001).toNat, by omega⟩
  rw [sumTo_congr (g := fun i => if a ≤ i ∧ i < b then (fun _ => 1) i else 0) 2001 fun i _ => by
    by_cases g : a ≤ i ∧ i < b
    · rw [if_pos g, if_pos ((h _).2 (by omega))]
    · rw [if_neg g, if_neg fun k => g (by have := (h _).1 k; omega)]]
  rw [sumTo_part (fun _ => 1) (by omega) (by omega), sumTo_const]
  omega
theorem rowN_none {s y : Int} (h : ∀ x, ¬ inP s ps x y) : rowN s ps y = 0 := by
  unfold rowN
  rw [sumTo_congr (g := fun _ => 0) 2001 fun i _ => if_neg (h _)]
  exact sumTo_zero _
theorem inP_zero {s x y : Int} (hs : 0 ≤ s) (h : inP s ps x y) : inP 0 ps x y := fun k hk => by have := h k hk; omega
/-- no row below the lowest vertex or above the highest one -/
theorem Tall.low_row (h : Around ps) (t : Tall ps u) {x y : Int} (hi : inP 0 ps x y) : ¬ lowP (x, y) (fromP ps 0) := fun hl => by
  have n := h.three
  have s1 := hi 0 (by omega)
  have s2 := hi (ps.length - 1) (by omega)
  have pt : toP ps (ps.length - 1) = fromP ps 0 := h.last
  have e2 : sideK ps x y (ps.length - 1) = triP (fromP ps (ps.length - 1)) (toP ps (ps.length - 1)) (x, y) := (tri_side ps (x, y) _).symm
  rw [e2, tri_move, pt] at s2
  have tr := h.turn 0 (by omega)
  rw [show prevI ps.length 0 = ps.length - 1 from rfl] at tr
  have b0 : sinksB (stepP ps 0).1 (stepP ps 0).2 = false := up_sinks (t.up 0 (by have := t.u1; omega) |>.imp id fun q => ⟨q.1, q.2.1⟩)
  have a1 : sinksB (stepP ps (ps.length - 1)).1 (stepP ps (ps.length - 1)).2 = true := by
    rcases t.dn (ps.length - 1) (by have := t.u2; omega) (by omega) with q | q
    · simp [sinksB]; omega
    · simp [sinksB]; omega
  refine low_out (b := stepP ps 0) (a := stepP ps (ps.length - 1)) (v := (x - (fromP ps 0).1, y - (fromP ps 0).2)) (h.ne0 (by omega)) (h.ne0 (by omega)) (fun e => ?_) b0 a1 (down_sink hl) tr s1 ?_
  · have h1 := congrArg Prod.fst e
    have h2 := congrArg Prod.snd e
    simp only at h1 h2
    unfold lowP at hl
    simp only at hl
    omega
  · show 0 ≤ crossZ ((toP ps (ps.length - 1)).1 - (fromP ps (ps.length - 1)).1) ((toP ps (ps.length - 1)).2 - (fromP ps (ps.length - 1)).2) _ _
    rw [pt]
    exact s2
theorem Tall.high_row (h : Around ps) (t : Tall ps u) {x y : Int} (hi : inP 0 ps x y) : y ≤ (fromP ps u).2 := by
  rcases Int.lt_or_le (fromP ps u).2 y with g | g
  · exfalso
    have n := h.three
    have u1 := t.u1
    have u2 := t.u2
    have s1 := hi u u2
    have s2 := hi (u - 1) (by omega)
    have pt : toP ps (u - 1) = fromP ps u := by rw [h.nxt (by omega), show u - 1 + 1 = u by omega]
    have e2 : sideK ps x y (u - 1) = triP (fromP ps (u - 1)) (toP ps (u - 1)) (x, y) := (tri_side ps (x, y) _).symm
    rw [e2, tri_move, pt] at s2
    have tr := h.turn u u2
    rw [show prevI ps.length u = u - 1 by unfold prevI; rw [if_neg (by omega)]] at tr
    have z1 := h.ne0 (i := u) u2
    have z2 := h.ne0 (i := u - 1) (by omega)
    have a1 : sinksB (stepP ps (u - 1)).1 (stepP ps (u - 1)).2 = false := up_sinks (t.up (u - 1) (by omega) |>.imp id fun q => ⟨q.1, q.2.1⟩)
    have b0 : sinksB (stepP ps u).1 (stepP ps u).2 = true := by
      rcases t.dn u (Nat.le_refl _) u2 with q | q
      · simp [sinksB]; omega
      · simp [sinksB]; omega
    refine low_out (b := negP (stepP ps u)) (a := negP (stepP ps (u - 1))) (v := negP (x - (fromP ps u).1, y - (fromP ps u).2)) (neg_ne z1) (neg_ne z2) (neg_ne fun e => ?_) (by rw [sinks_neg z1, b0]; rfl) (by rw [sinks_neg z2, a1]; rfl) ?_ (by rw [crossP_neg]; exact tr) (by rw [crossP_neg]; exact s1) ?_
    · have h2 := congrArg Prod.snd e
      simp only at h2
      omega
    · unfold negP
      simp [sinksB]
      omega
    · rw [crossP_neg]
      show 0 ≤ crossZ ((toP ps (u - 1)).1 - (fromP ps (u - 1)).1) ((toP ps (u - 1)).2 - (fromP ps (u - 1)).2) _ _
      rw [pt]
      exact s2
  · exact g
/-- strictly inside there is no point in the lowest row or in the highest one -/
theorem Tall.ends_row (h : Around ps) (t : Tall ps u) {x y : Int} (hi : inP 1 ps x y) : (fromP ps 0).2 < y ∧ y < (fromP ps u).2 := by
  have n := h.three
  have u1 := t.u1
  have u2 := t.u2
  have l := t.low_row h (inP_zero (by decide) hi)
  have g := t.high_row h (inP_zero (by decide) hi)
  unfold lowP at l
  simp only at l
  constructor
  · rcases Int.lt_or_eq_of_le (show (fromP ps 0).2 ≤ y by omega) with e | e
    · exact e
    · exfalso
      have s1 := hi 0 (by omega)
      unfold sideK crossZ at s1
      rw [← e, Int.sub_self, Int.mul_zero] at s1
      have p : 0 ≤ (stepP ps 0).2 := by rcases t.up 0 (by omega) with q | q <;> omega
      have := Int.mul_nonneg p (show 0 ≤ x - (fromP ps 0).1 by omega)
      omega
  · rcases Int.lt_or_eq_of_le g with e | e
    · exact e
    · exfalso
      have s1 := hi u u2
      have s2 := hi (u - 1) (by omega)
      have pt : toP ps (u - 1) = fromP ps u := by rw [h.nxt (by omega), show u - 1 + 1 = u by omega]
      have e2 : sideK ps x y (u - 1) = triP (fromP ps (u - 1)) (toP ps (u - 1)) (x, y) := (tri_side ps (x, y) _).symm
      rw [e2, tri_move, pt] at s2
      simp only at s2
      unfold sideK crossZ at s1
      rw [e, Int.sub_self, Int.mul_zero] at s1 s2
      have p : 0 ≤ (fromP ps u).2 - (fromP ps (u - 1)).2 := by
        have := t.top (u - 1) (by omega)
        omega
      have q : (stepP ps u).2 ≤ 0 := by rcases t.dn u (Nat.le_refl _) u2 with q | q <;> omega
      rcases Int.lt_or_le (x - (fromP ps u).1) 0 with v | v
      · have := Int.mul_nonneg_of_nonpos_of_nonpos q (Int.le_of_lt v)
        omega
      · have := Int.mul_nonneg p v
        omega
/-- the numbers of a row's edges are within the limits -/
theorem up_near (hn : nearP ps) {k : Nat} (hk : k < ps.length) {y s : Int} (hs : 0 ≤ s) (a : upD ps k y) : restZ s ps k y / (stepP ps k).2 ≤ 1000 := by
  have b1 := hn _ (from_mem hk)
  have b2 := hn _ (show toP ps k ∈ ps from from_mem (Nat.mod_lt _ (by omega)))
  rw [to_x, to_y] at b2
  obtain ⟨d, h1, h2⟩ := a
  have : restZ s ps k y / (stepP ps k).2 < 1001 := by
    rw [Int.ediv_lt_iff_lt_mul d]
    unfold restZ
    have p1 := Int.mul_nonneg (show 0 ≤ 1000 - (fromP ps k).1 by omega) (show 0 ≤ (fromP ps k).2 + (stepP ps k).2 - y by omega)
    have p2 := Int.mul_nonneg (show 0 ≤ 1000 - ((fromP ps k).1 + (stepP ps k).1) by omega) (show 0 ≤ y - (fromP ps k).2 by omega)
    grind
  omega
theorem dn_near (hn : nearP ps) {k : Nat} (hk : k < ps.length) {y s : Int} (hs : 0 ≤ s) (a : dnD ps k y) : restZ s ps k y / -(stepP ps k).2 ≤ 1000 := by
  have b1 := hn _ (from_mem hk)
  have b2 := hn _ (show toP ps k ∈ ps from from_mem (Nat.mod_lt _ (by omega)))
  rw [to_x, to_y] at b2
  obtain ⟨d, h1, h2⟩ := a
  have : restZ s ps k y / -(stepP ps k).2 < 1001 := by
    rw [Int.ediv_lt_iff_lt_mul (by omega)]
    unfold restZ
    have p1 := Int.mul_nonneg (show 0 ≤ 1000 + (fromP ps k).1 by omega) (show 0 ≤ y - ((fromP ps k).2 + (stepP ps k).2) by omega)
    have p2 := Int.mul_nonneg (show 0 ≤ 1000 + ((fromP ps k).1 + (stepP ps k).1) by omega) (show 0 ≤ (fromP ps k).2 - y by omega)
    grind
  omega
/-- how far two edges that face each other are from each other in a row -/
theorem face_id (ps : List Pt) (k m : Nat) (y : Int) : (stepP ps k).2 * restZ 0 ps m y - (stepP ps m).2 * restZ 0 ps k y = ((fromP ps k).2 + (stepP ps k).2 - y) * sideK ps (fromP ps k).1 (fromP ps k).2 m + (y - (fromP ps k).2) * sideK ps (toP ps k).1 (toP ps k).2 m := by
  have i := side_id ps k m 0 y
  have a := side_rest ps k 0 y 0
  have b := side_rest ps m 0 y 0
  rw [Int.mul_zero, Int.sub_zero, Int.sub_zero] at a b
  rw [a, b] at i
  omega
theorem floors_meet {a b d n : Int} (hd : 0 < d) (hn : 0 < n) (h : 0 ≤ d * b + n * a) : -1 ≤ a / d + b / n := by
  have h1 := div_hi a hd
  have h2 := div_hi b hn
  have p1 : n * a ≤ n * (d * (a / d) + d - 1) := Int.mul_le_mul_of_nonneg_left (by omega) (by omega)
  have p2 : d * b ≤ d * (n * (b / n) + n - 1) := Int.mul_le_mul_of_nonneg_left (by omega) (by omega)
  have e : n * (d * (a / d) + d - 1) + d * (n * (b / n) + n - 1) = d * n * (a / d + b / n + 2) - n - d := by grind
  have q : 0 < d * n * (a / d + b / n + 2) := by omega
  have := (mul_sign_pos (b := a / d + b / n + 2) (Int.mul_pos hd hn)).2.1 q
  omega
theorem floors_meet1 {a b d n : Int} (hd : 0 < d) (hn : 0 < n) (h : 0 < d * b + n * a) : -1 ≤ (a - 1) / d + (b - 1) / n := by
  have h1 := div_hi (a - 1) hd
  have h2 := div_hi (b - 1) hn
  have p1 : n * a ≤ n * (d * ((a - 1) / d) + d) := Int.mul_le_mul_of_nonneg_left (by omega) (by omega)
  have p2 : d * b ≤ d * (n * ((b - 1) / n) + n) := Int.mul_le_mul_of_nonneg_left (by omega) (by omega)
  have e : n * (d * ((a - 1) / d) + d) + d * (n * ((b - 1) / n) + n) = d * n * ((a - 1) / d + (b - 1) / n + 2) := by grind
  have q : 0 < d * n * ((a - 1) / d + (b - 1) / n + 2) := by omega
  have := (mul_sign_pos (b := (a - 1) / d + (b - 1) / n + 2) (Int.mul_pos hd hn)).2.1 q
  omega
theorem rest_s (s : Int) (ps : List Pt) (k : Nat) (y : Int) : restZ s ps k y = restZ 0 ps k y - s := by unfold restZ; omega
/-- a row but the highest one -/
theorem Tall.row0 (h : Around ps) (hn : nearP ps) (t : Tall ps u) {y : Int} (h1 : (fromP ps 0).2 ≤ y) (h2 : y < (fromP ps u).2) :
    rowN 0 ps y = 1 + sumTo (fun k => upZ 0 ps k y + dnZ 0 ps k y) ps.length := by
  have u2 := t.u2
  obtain ⟨k, m, hk, ⟨a1, a2⟩, hm, hmn, ⟨b1, b2⟩, e⟩ := t.row h h1 h2 0
  have A : upD ps k y := ⟨by omega, a1, by omega⟩
  have B : dnD ps m y := ⟨by omega, b1, by omega⟩
  have f := face_id ps k m y
  have p1 := Int.mul_nonneg (show 0 ≤ (fromP ps k).2 + (stepP ps k).2 - y by omega) (h.left (k := m) hmn (show k < ps.length by omega))
  have p2 := Int.mul_nonneg (show 0 ≤ y - (fromP ps k).2 by omega) (left_to h (k := k) hmn)
  have g := floors_meet (a := restZ 0 ps k y) (b := restZ 0 ps m y) A.1 (show 0 < -(stepP ps m).2 by have := B.1; omega) (by rw [Int.neg_mul]; omega)
  have n1 := up_near hn (show k < ps.length by omega) (Int.le_refl 0) A
  have n2 := dn_near hn hmn (Int.le_refl 0) B
  rw [e]
  unfold rowN
  rw [count_iv (P := fun x => inP 0 ps x y) (lo := -(restZ 0 ps m y / -(stepP ps m).2)) (hi := restZ 0 ps k y / (stepP ps k).2) (fun x => ?_) (by omega) n1 (by omega)]
  · omega
  · constructor
    · intro i
      exact ⟨(side_dn B.1).1 (i m hmn), (side_up A.1).1 (i k (by omega))⟩
    · intro i j hj
      exact mem_row h (by omega) hmn A B ((side_up A.1).2 i.2) ((side_dn B.1).2 i.1) j hj
theorem Tall.row1 (h : Around ps) (hn : nearP ps) (t : Tall ps u) {y : Int} (h1 : (fromP ps 0).2 < y) (h2 : y < (fromP ps u).2) :
    rowN 1 ps y = 1 + sumTo (fun k => upZ 1 ps k y + dnZ 1 ps k y) ps.length := by
  have u2 := t.u2
  have n3 := h.three
  obtain ⟨k, m, hk, ⟨a1, a2⟩, hm, hmn, ⟨b1, b2⟩, e⟩ := t.row h (Int.le_of_lt h1) h2 1
  have A : upD ps k y := ⟨by omega, a1, by omega⟩
  have B : dnD ps m y := ⟨by omega, b1, by omega⟩
  have f := face_id ps k m y
  have l1 := h.left (k := m) hmn (show k < ps.length by omega)
  have l2 := left_to h (k := k) hmn
  have p1 := Int.mul_nonneg (show 0 ≤ (fromP ps k).2 + (stepP ps k).2 - y by omega) l1
  have p2 := Int.mul_nonneg (show 0 ≤ y - (fromP ps k).2 by omega) l2
  have pos : 0 < (stepP ps k).2 * restZ 0 ps m y - (stepP ps m).2 * restZ 0 ps k y := by
    rcases Int.lt_or_eq_of_le l1 with g | g
    · have := Int.mul_pos (show 0 < (fromP ps k).2 + (stepP ps k).2 - y by omega) g
      omega
    · have hk1 : k = (m + 1) % ps.length := by
        by_cases c : k = (m + 1) % ps.length
        · exact c
        · have := h.strict_left (k := m) (j := k) hmn (by omega) (by omega) c
          omega
      have hm1 : m + 1 = ps.length := by
        by_cases c : m + 1 < ps.length
        · rw [Nat.mod_eq_of_lt c] at hk1; omega
        · omega
      have hk0 : k = 0 := by rw [hk1, hm1, Nat.mod_self]
      have q : 0 < sideK ps (toP ps k).1 (toP ps k).2 m := by
        rw [h.nxt (by omega)]
        exact h.strict_left hmn (by omega) (by omega) (by rw [hm1, Nat.mod_self]; omega)
      have := Int.mul_pos (show 0 < y - (fromP ps k).2 by rw [hk0]; omega) q
      omega
  have g := floors_meet1 (a := restZ 0 ps k y) (b := restZ 0 ps m y) A.1 (show 0 < -(stepP ps m).2 by have := B.1; omega) (by rw [Int.neg_mul]; omega)
  rw [← rest_s, ← rest_s] at g
  have n1 := up_near hn (show k < ps.length by omega) (show (0 : Int) ≤ 1 by decide) A
  have n2 := dn_near hn hmn (show (0 : Int) ≤ 1 by decide) B
  rw [e]
  unfold rowN
  rw [count_iv (P := fun x => inP 1 ps x y) (lo := -(restZ 1 ps m y / -(stepP ps m).2)) (hi := restZ 1 ps k y / (stepP ps k).2) (fun x => ?_) (by omega) n1 (by omega)]
  · omega
  · constructor
    · intro i
      exact ⟨(side_dn B.1).1 (i m hmn), (side_up A.1).1 (i k (by omega))⟩
    · intro i j hj
      have c1 := (side_up (s := 1) A.1).2 i.2
      have c2 := (side_dn (s := 1) B.1).2 i.1
      exact mem_row1 h t (by omega) hmn A B h1 h2 (by omega) (by omega) j hj
end Go.Proofs.Ytbdppephmlkbaaa

namespace Go.Proofs.Ytbdppephmlkbaaa
variable {ps : List Pt} {u : Nat}
def flat0 (ps : List Pt) (k : Nat) : Int := if (stepP ps k).2 = 0 then (stepP ps k).1 else 0
/-- the highest row -/
theorem Tall.rowu (h : Around ps) (hn : nearP ps) (t : Tall ps u) : rowN 0 ps (fromP ps u).2 = 1 - flat0 ps u := by
  have n := h.three
  have u1 := t.u1
  have u2 := t.u2
  have nk : toP ps (u - 1) = fromP ps u := by rw [h.nxt (by omega), show u - 1 + 1 = u by omega]
  have ek := to_y ps (u - 1)
  have ekx := to_x ps (u - 1)
  rw [nk] at ek ekx
  have dk : 0 < (stepP ps (u - 1)).2 := by
    rcases t.up (u - 1) (by omega) with q | ⟨q, _, q3⟩
    · exact q
    · have := t.high
      rw [show u - 1 = 0 from q3] at ek q
      omega
  obtain ⟨m, hm, hmn, dm, ym, xm⟩ : ∃ m, u ≤ m ∧ m < ps.length ∧ (stepP ps m).2 < 0 ∧ (fromP ps m).2 = (fromP ps u).2 ∧ (fromP ps m).1 = (fromP ps u).1 + flat0 ps u := by
    rcases t.dn u (Nat.le_refl _) u2 with q | ⟨q, _, _⟩
    · exact ⟨u, Nat.le_refl _, u2, q, rfl, by unfold flat0; rw [if_neg (by omega)]; omega⟩
    · have e := to_y ps u
      have ex := to_x ps u
      rw [q] at e
      by_cases c : u + 1 < ps.length
      · rw [h.nxt c] at e ex
        refine ⟨u + 1, by omega, c, ?_, by omega, by unfold flat0; rw [if_pos q]; exact ex⟩
        rcases t.dn (u + 1) (by omega) c with q | ⟨_, _, q⟩
        · exact q
        · omega
      · rw [to_from, show u + 1 = ps.length by omega, Nat.mod_self] at e
        have := t.high
        omega
  have A : upD ps (u - 1) (fromP ps u).2 := ⟨dk, by omega, by omega⟩
  have B : dnD ps m (fromP ps u).2 := ⟨dm, by omega, by omega⟩
  have v1 : restZ 0 ps (u - 1) (fromP ps u).2 / (stepP ps (u - 1)).2 = (fromP ps u).1 := by
    have e : restZ 0 ps (u - 1) (fromP ps u).2 = (stepP ps (u - 1)).2 * (fromP ps u).1 := by
      unfold restZ
      rw [ekx, ek]
      grind
    rw [e]
    exact Int.mul_ediv_cancel_left _ (by omega)
  have v2 : restZ 0 ps m (fromP ps u).2 / -(stepP ps m).2 = -(fromP ps m).1 := by
    have e : restZ 0 ps m (fromP ps u).2 = -(stepP ps m).2 * -(fromP ps m).1 := by
      unfold restZ
      rw [← ym]
      grind
    rw [e]
    exact Int.mul_ediv_cancel_left _ (by omega)
  have b1 := hn _ (from_mem u2)
  have b2 := hn _ (from_mem hmn)
  have fl : flat0 ps u ≤ 0 := by
    unfold flat0
    rcases t.dn u (Nat.le_refl _) u2 with q | ⟨q, q2, _⟩
    · rw [if_neg (by omega)]; exact Int.le_refl _
    · rw [if_pos q]; omega
  unfold rowN
  rw [count_iv (P := fun x => inP 0 ps x (fromP ps u).2) (lo := (fromP ps m).1) (hi := (fromP ps u).1) (fun x => ?_) (by omega) (by omega) (by omega)]
  · omega
  · constructor
    · intro i
      have i1 := (side_dn B.1).1 (i m hmn)
      have i2 := (side_up A.1).1 (i (u - 1) (by omega))
      rw [v2] at i1
      rw [v1] at i2
      omega
    · intro i j hj
      exact mem_row h (by omega) hmn A B ((side_up A.1).2 (by rw [v1]; exact i.2)) ((side_dn B.1).2 (by rw [v2]; omega)) j hj
/-- what the edges say of the lowest row, strictly inside -/
theorem Tall.row_low (h : Around ps) (t : Tall ps u) : 1 + sumTo (fun k => upZ 1 ps k (fromP ps 0).2 + dnZ 1 ps k (fromP ps 0).2) ps.length = flat0 ps 0 - 1 := by
  have n := h.three
  have u2 := t.u2
  obtain ⟨k, m, hk, ⟨a1, a2⟩, hm, hmn, ⟨b1, b2⟩, e⟩ := t.row h (Int.le_refl _) t.high 1
  rw [e]
  have yk : (fromP ps k).2 = (fromP ps 0).2 := by have := t.low k (by omega); omega
  have hm1 : m + 1 = ps.length := by
    by_cases c : m + 1 < ps.length
    · exfalso
      have e1 := to_y ps m
      rw [h.nxt c] at e1
      have e2 := to_y ps (m + 1)
      have l := t.low (m + 1) c
      have q : (stepP ps (m + 1)).2 < 0 := by
        rcases t.dn (m + 1) (by omega) c with q | ⟨_, _, q⟩
        · exact q
        · omega
      have := t.low ((m + 1 + 1) % ps.length) (Nat.mod_lt _ (by omega))
      rw [← to_from] at this
      omega
    · omega
  have tm : toP ps m = fromP ps 0 := by rw [to_from, hm1, Nat.mod_self]
  have ey := to_y ps m
  have ex := to_x ps m
  rw [tm] at ey ex
  have xk : (fromP ps k).1 = (fromP ps 0).1 + flat0 ps 0 := by
    by_cases c : k = 0
    · subst c
      unfold flat0
      rw [if_neg (by omega)]
      omega
    · have p := to_y ps (k - 1)
      have px := to_x ps (k - 1)
      rw [h.nxt (show k - 1 + 1 < ps.length by omega), show k - 1 + 1 = k by omega] at p px
      have l := t.low (k - 1) (by omega)
      rcases t.up (k - 1) (by omega) with q | ⟨q, _, q3⟩
      · omega
      · unfold flat0
        rw [q3] at p px q
        rw [if_pos q]
        exact px
  have v1 : restZ 1 ps k (fromP ps 0).2 / (stepP ps k).2 = (fromP ps k).1 - 1 := by
    have e : restZ 1 ps k (fromP ps 0).2 = (stepP ps k).2 * (fromP ps k).1 - 1 := by
      unfold restZ
      rw [yk]
      grind
    rw [e]
    exact div_is (by omega) (by rw [Int.mul_sub]; omega) (by rw [Int.mul_sub]; omega)
  have v2 : restZ 1 ps m (fromP ps 0).2 / -(stepP ps m).2 = -(fromP ps 0).1 - 1 := by
    have e : restZ 1 ps m (fromP ps 0).2 = -(stepP ps m).2 * -(fromP ps 0).1 - 1 := by
      unfold restZ
      rw [ey, ex]
      grind
    rw [e]
    exact div_is (by omega) (by rw [Int.mul_sub]; omega) (by rw [Int.mul_sub]; omega)
  rw [v1, v2]
  omega
/-- sums around -/
theorem sum_turn (ps : List Pt) (f : Pt → Int) : sumTo (fun k => f (toP ps k) - f (fromP ps k)) ps.length = 0 := by
  rw [sumTo_sub]
  rcases Nat.eq_zero_or_pos ps.length with h | h
  · rw [h]; rfl
  · have := sumTo_turn (fun k => f (fromP ps k)) (n := ps.length) (s := 1) (by omega)
    have e : sumTo (fun k => f (toP ps k)) ps.length = sumTo (fun k => (fun k => f (fromP ps k)) ((k + 1) % ps.length)) ps.length := sumTo_congr _ fun k _ => by rw [to_from]
    rw [e, this]
    omega
theorem sum_height (h : Around ps) : ∀ k, k < ps.length → sumTo (fun k => (stepP ps k).2) k = (fromP ps k).2 - (fromP ps 0).2 := by
  intro k
  induction k with
  | zero => intro _; simp [sumTo]
  | succ k ih =>
    intro hk
    simp only [sumTo]
    rw [ih (by omega)]
    have := to_y ps k
    rw [h.nxt hk] at this
    omega
theorem Tall.sum_abs (h : Around ps) (t : Tall ps u) : sumTo (fun k => if 0 ≤ (stepP ps k).2 then (stepP ps k).2 else -(stepP ps k).2) ps.length = 2 * ((fromP ps u).2 - (fromP ps 0).2) := by
  have u2 := t.u2
  have e : ps.length = u + (ps.length - u) := by omega
  have s0 := (sum_steps ps).2
  have s1 := sum_height h u u2
  rw [e, sumTo_split] at s0
  rw [e, sumTo_split]
  rw [sumTo_congr (g := fun k => (stepP ps k).2) u fun k hk => if_pos (by rcases t.up k hk with q | q <;> omega)]
  rw [sumTo_congr (f := fun k => (fun k => if 0 ≤ (stepP ps k).2 then (stepP ps k).2 else -(stepP ps k).2) (u + k)) (g := fun k => -1 * (stepP ps (u + k)).2) (ps.length - u) fun k hk => by
    rcases t.dn (u + k) (by omega) (by omega) with q | ⟨q, _, _⟩
    · simp only; rw [if_neg (by omega)]; omega
    · simp only; rw [if_pos (by omega)]; omega]
  rw [sumTo_mul]
  omega
theorem sum_shoe (ps : List Pt) : sumTo (fun k => (2 * (fromP ps k).1 + (stepP ps k).1) * (stepP ps k).2) ps.length = areaZ ps := by
  have t := sum_turn ps (fun z => z.1 * z.2)
  have e : areaZ ps = sumTo (crossK ps) ps.length := areaK_sum ps ps.length
  rw [e, sumTo_congr (g := fun k => crossK ps k + ((fun z : Pt => z.1 * z.2) (toP ps k) - (fun z : Pt => z.1 * z.2) (fromP ps k))) ps.length fun k _ => by
    simp only
    rw [to_x, to_y]
    unfold crossK crossZ
    grind]
  rw [sumTo_add, t]
  omega
theorem Tall.sum_t (h : Around ps) (t : Tall ps u) (s : Int) : sumTo (tZ s ps) ps.length = areaZ ps - 2 * ((fromP ps u).2 - (fromP ps 0).2) + signS s * ringZ ps := by
  have a := sum_shoe ps
  have b := (sum_steps ps).1
  have c := t.sum_abs h
  have d : ringZ ps = sumTo (gcdK ps) ps.length := ringK_sum ps ps.length
  rw [← a, ← c, d, ← sumTo_mul, ← sumTo_sub, ← sumTo_add]
  have : sumTo (tZ s ps) ps.length + sumTo (fun k => (stepP ps k).1) ps.length = sumTo (fun k => (2 * (fromP ps k).1 + (stepP ps k).1) * (stepP ps k).2 - (if 0 ≤ (stepP ps k).2 then (stepP ps k).2 else -(stepP ps k).2) + signS s * gcdK ps k) ps.length := by
    rw [← sumTo_add]
    exact sumTo_congr _ fun k _ => by unfold tZ; omega
  omega
/-- but for the edges that lie in a row -/
theorem Tall.sum_g (h : Around ps) (t : Tall ps u) {s : Int} : sumTo (fun k => if (stepP ps k).2 = 0 then 0 else tZ s ps k) ps.length = sumTo (tZ s ps) ps.length - (if (stepP ps 0).2 = 0 then tZ s ps 0 else 0) - (if (stepP ps u).2 = 0 then tZ s ps u else 0) := by
  have n := h.three
  have u1 := t.u1
  have u2 := t.u2
  have key : ∀ k, k < ps.length → k ≠ 0 → k ≠ u → (stepP ps k).2 ≠ 0 := fun k hk h0 h1 => by
    by_cases c : k < u
    · rcases t.up k c with q | q <;> omega
    · rcases t.dn k (by omega) hk with q | q <;> omega
  rw [sumTo_congr (g := fun k => tZ s ps k - (if k = 0 then (if (stepP ps 0).2 = 0 then tZ s ps 0 else 0) else 0) - (if k = u then (if (stepP ps u).2 = 0 then tZ s ps u else 0) else 0)) ps.length fun k hk => by
    by_cases c0 : k = 0
    · subst c0
      rw [if_pos rfl, if_neg (show ¬ 0 = u by omega)]
      split <;> omega
    · by_cases c1 : k = u
      · subst c1
        rw [if_neg c0, if_pos rfl]
        split <;> omega
      · rw [if_neg c0, if_neg c1, if_neg (key k hk c0 c1)]
        omega]
  rw [sumTo_sub, sumTo_sub]
  have a := sumTo_single (f := fun k => if k = 0 then (if (stepP ps 0).2 = 0 then tZ s ps 0 else 0) else 0) (show 0 < ps.length by omega) fun k _ hne => if_neg hne
  have b := sumTo_single (f := fun k => if k = u then (if (stepP ps u).2 = 0 then tZ s ps u else 0) else 0) u2 fun k _ hne => if_neg hne
  rw [a, b, if_pos rfl, if_pos rfl]
theorem t_flat (s : Int) {k : Nat} (e : (stepP ps k).2 = 0) : tZ s ps k = -(stepP ps k).1 + signS s * ((stepP ps k).1.natAbs : Int) := by
  unfold tZ gcdK
  rw [e, Int.mul_zero, Int.gcd_zero_right]
  simp
/-- all rows but the highest one, by the edges -/
theorem Tall.rows (h : Around ps) (t : Tall ps u) {s : Int} (hs : s = 0 ∨ s = 1) {H : Nat} (hH : (fromP ps u).2 = (fromP ps 0).2 + H) :
    2 * sumTo (fun i => 1 + sumTo (fun k => upZ s ps k ((fromP ps 0).2 + (i : Int)) + dnZ s ps k ((fromP ps 0).2 + (i : Int))) ps.length) H = areaZ ps + signS s * ringZ ps + (if s = 0 then 2 * flat0 ps u else 2 * flat0 ps 0) := by
  have n := h.three
  rw [sumTo_add, sumTo_const, sumTo_swap (fun i k => upZ s ps k ((fromP ps 0).2 + (i : Int)) + dnZ s ps k ((fromP ps 0).2 + (i : Int))), Int.mul_add, ← sumTo_mul]
  rw [sumTo_congr (g := fun k => if (stepP ps k).2 = 0 then 0 else tZ s ps k) ps.length fun k hk => by
    have a := t.low k hk
    have b := t.top k hk
    have c := t.low ((k + 1) % ps.length) (Nat.mod_lt _ (by omega))
    have d := t.top ((k + 1) % ps.length) (Nat.mod_lt _ (by omega))
    rw [← to_from] at c d
    exact edge_rows hs ps k a (by omega) c (by omega)]
  rw [t.sum_g h, t.sum_t h]
  have c0 : (if (stepP ps 0).2 = 0 then tZ s ps 0 else 0) = (if s = 0 then 0 else -2 * flat0 ps 0) := by
    unfold flat0
    by_cases e : (stepP ps 0).2 = 0
    · rw [if_pos e, if_pos e, t_flat s e]
      have : 0 < (stepP ps 0).1 := by rcases t.up 0 (by have := t.u1; omega) with q | q <;> omega
      unfold signS
      rcases hs with rfl | rfl
      · simp; omega
      · simp; omega
    · rw [if_neg e, if_neg e]
      split <;> simp
  have cu : (if (stepP ps u).2 = 0 then tZ s ps u else 0) = (if s = 0 then -2 * flat0 ps u else 0) := by
    unfold flat0
    by_cases e : (stepP ps u).2 = 0
    · rw [if_pos e, if_pos e, t_flat s e]
      have : (stepP ps u).1 < 0 := by rcases t.dn u (Nat.le_refl _) t.u2 with q | q <;> omega
      unfold signS
      rcases hs with rfl | rfl
      · simp; omega
      · simp; omega
    · rw [if_neg e, if_neg e]
      split <;> simp
  rw [c0, cu]
  rcases hs with rfl | rfl
  · simp; omega
  · simp; omega
/-- Pick's theorem: the points that are counted row by row -/
theorem pick_all (h : Around ps) (hn : nearP ps) : 2 * allN 0 ps = areaZ ps + ringZ ps + 2 ∧ 2 * allN 1 ps = areaZ ps - ringZ ps + 2 := by
  obtain ⟨u, t⟩ := h.tall
  have u2 := t.u2
  have n := h.three
  have b0 := hn _ (from_mem (show 0 < ps.length by omega))
  have bu := hn _ (from_mem u2)
  have hi := t.high
  obtain ⟨H, hH⟩ : ∃ H : Nat, (fromP ps u).2 = (fromP ps 0).2 + H := ⟨((fromP ps u).2 - (fromP ps 0).2).toNat, by omega⟩
  obtain ⟨a, ha⟩ : ∃ a : Nat, (fromP ps 0).2 = a - 1000 := ⟨((fromP ps 0).2 + 1000).toNat, by omega⟩
  have e : 2001 = a + (H + (1 + (2001 - a - H - 1))) := by omega
  have lowz : ∀ s : Int, 0 ≤ s → sumTo (fun i => rowN s ps ((i : Int) - 1000)) a = 0 := fun s hs => by
    rw [sumTo_congr (g := fun _ => 0) a fun i hi' => rowN_none fun x hx => t.low_row h (inP_zero hs hx) (.inl (by simp only; omega))]
    exact sumTo_zero _
  have highz : ∀ s : Int, 0 ≤ s → sumTo (fun k => rowN s ps (((a + (H + (1 + k)) : Nat) : Int) - 1000)) (2001 - a - H - 1) = 0 := fun s hs => by
    rw [sumTo_congr (g := fun _ => 0) _ fun i hi' => rowN_none fun x hx => by have := t.high_row h (inP_zero hs hx); omega]
    exact sumTo_zero _
  have all : ∀ s : Int, 0 ≤ s → allN s ps = sumTo (fun i => rowN s ps ((fromP ps 0).2 + (i : Int))) H + rowN s ps (fromP ps u).2 := fun s hs => by
    unfold allN
    rw [e, sumTo_split, sumTo_split, sumTo_split, lowz s hs, highz s hs, sumTo_one]
    rw [sumTo_congr (f := fun k : Nat => rowN s ps (((a + k : Nat) : Int) - 1000)) (g := fun i => rowN s ps ((fromP ps 0).2 + (i : Int))) H fun i _ => by congr 1; omega]
    rw [show (((a + (H + 0) : Nat) : Int) - 1000) = (fromP ps u).2 by omega]
    omega
  have r0 := t.rows h (s := 0) (.inl rfl) hH
  have r1 := t.rows h (s := 1) (.inr rfl) hH
  constructor
  · rw [all 0 (Int.le_refl _), t.rowu h hn]
    rw [sumTo_congr (g := fun i => 1 + sumTo (fun k => upZ 0 ps k ((fromP ps 0).2 + (i : Int)) + dnZ 0 ps k ((fromP ps 0).2 + (i : Int))) ps.length) H fun i hi' => t.row0 h hn (by omega) (by omega)]
    rw [if_pos rfl] at r0
    unfold signS at r0
    omega
  · rw [all 1 (by decide), rowN_none fun x hx => by have := (t.ends_row h hx).2; omega]
    have hp : 0 < H := by omega
    obtain ⟨G, rfl⟩ : ∃ G, H = G + 1 := ⟨H - 1, by omega⟩
    rw [sumTo_first] at r1 ⊢
    rw [rowN_none fun x hx => by have := (t.ends_row h hx).1; simp at this]
    rw [sumTo_congr (g := fun i => 1 + sumTo (fun k => upZ 1 ps k ((fromP ps 0).2 + ((i + 1 : Nat) : Int)) + dnZ 1 ps k ((fromP ps 0).2 + ((i + 1 : Nat) : Int))) ps.length) G fun i hi' => t.row1 h hn (by omega) (by omega)]
    have l := t.row_low h
    simp only [Int.natCast_zero, Int.add_zero] at r1
    rw [l, if_neg (by decide)] at r1
    unfold signS at r1
    omega
end Go.Proofs.Ytbdppephmlkbaaa
