import Derived.Test.YtbdppephmlkbaaaM12
namespace Go.Proofs.Ytbdppephmlkbaaa
def gP (a : Pt) : Int := (Int.gcd a.1 a.2 : Nat)
theorem gP_pos {a : Pt} (h : a ≠ (0, 0)) : 1 ≤ gP a := by
  unfold gP
  have : 0 < Int.gcd a.1 a.2 := by
    rcases Nat.eq_zero_or_pos (Int.gcd a.1 a.2) with g | g
    · obtain ⟨h1, h2⟩ := Int.gcd_eq_zero_iff.1 g
      exact absurd (Prod.ext h1 h2) h
    · exact g
  omega
theorem gP_neg (a : Pt) : gP (negP a) = gP a := by unfold gP negP; simp
theorem gP_dvd (a : Pt) : gP a ∣ a.1 ∧ gP a ∣ a.2 := ⟨Int.gcd_dvd_left .., Int.gcd_dvd_right ..⟩
/-- the lattice lengths of two sides are no more than the triangle's area, twice -/
theorem gP_cross {a b : Pt} (h : 0 < crossP a b) : gP a * gP b ≤ crossP a b := by
  obtain ⟨⟨x1, h1⟩, ⟨x2, h2⟩⟩ := gP_dvd a
  obtain ⟨⟨y1, h3⟩, ⟨y2, h4⟩⟩ := gP_dvd b
  have e : crossP a b = gP a * gP b * (x1 * y2 - x2 * y1) := by
    unfold crossP crossZ
    rw [h1, h2, h3, h4]
    generalize gP a = p
    generalize gP b = q
    grind
  exact Int.le_of_dvd h ⟨_, e⟩
theorem three_sides {a b c D : Int} (ha : 1 ≤ a) (hb : 1 ≤ b) (hc : 1 ≤ c) (h1 : a * b ≤ D) (h2 : a * c ≤ D) (h3 : b * c ≤ D) : a + b + c - 2 ≤ D := by
  have key : ∀ x y z : Int, 1 ≤ x → 1 ≤ y → z ≤ x → z ≤ y → x + y + z - 2 ≤ x * y := fun x y z hx hy hzx hzy => by
    by_cases h : y = 1
    · subst h; omega
    · have := Int.mul_nonneg (show 0 ≤ x - 1 by omega) (show 0 ≤ y - 2 by omega)
      have e : (x - 1) * (y - 2) = x * y - 2 * x - y + 2 := by grind
      omega
  by_cases p : c ≤ a
  · by_cases q : c ≤ b
    · have := key a b c ha hb p q; omega
    · have := key a c b ha hc (by omega) (by omega); omega
  · by_cases q : a ≤ b
    · have := key b c a hb hc (by omega) (by omega); omega
    · have := key a c b ha hc (by omega) (by omega); omega
theorem two_sides {a b c D : Int} (ha : 1 ≤ a) (hb : 1 ≤ b) (hc : 1 ≤ c) (h : a * b ≤ D) : a + b - c ≤ D := by
  have := Int.mul_nonneg (show 0 ≤ a - 1 by omega) (show 0 ≤ b - 1 by omega)
  have e : (a - 1) * (b - 1) = a * b - a - b + 1 := by grind
  omega
namespace Around
variable {ps : List Pt}
theorem nxt (_ : Around ps) {i : Nat} (hi : i + 1 < ps.length) : toP ps i = fromP ps (i + 1) := by rw [to_from, Nat.mod_eq_of_lt hi]
theorem last (h : Around ps) : toP ps (ps.length - 1) = fromP ps 0 := by
  have := h.three
  rw [to_from, show ps.length - 1 + 1 = ps.length by omega, Nat.mod_self]
/-- the first vertex is the lowest -/
theorem lowest (h : Around ps) {j : Nat} (h0 : 0 < j) (hj : j < ps.length) : lowP (fromP ps 0) (fromP ps j) := by
  obtain ⟨u, u1, un, hu, _⟩ := h.top
  have up : ∀ i, i < u → lowP (fromP ps i) (toP ps i) := fun i hiu => h.rise (by omega) (by
    cases hs : sinksB (stepP ps i).1 (stepP ps i).2 with
    | false => rfl
    | true => have := (hu i (by omega)).1 hs; omega)
  have down : ∀ i, i < ps.length → u ≤ i → lowP (toP ps i) (fromP ps i) := fun i hi hiu => h.sink hi ((hu i hi).2 hiu)
  by_cases g : j ≤ u
  · have key : ∀ d, d < u → lowP (fromP ps 0) (fromP ps (d + 1)) := by
      intro d
      induction d with
      | zero =>
        intro _
        have := up 0 (by omega)
        rwa [h.nxt (by omega)] at this
      | succ d ih =>
        intro hd
        have := up (d + 1) (by omega)
        rw [h.nxt (by omega)] at this
        exact low_trans (ih (by omega)) this
    have := key (j - 1) (by omega)
    rwa [show j - 1 + 1 = j by omega] at this
  · have key : ∀ d, u ≤ ps.length - 1 - d → lowP (fromP ps 0) (fromP ps (ps.length - 1 - d)) := by
      intro d
      induction d with
      | zero =>
        intro _
        have := down (ps.length - 1) (by omega) (by omega)
        rwa [h.last] at this
      | succ d ih =>
        intro hd
        have := down (ps.length - 1 - (d + 1)) (by omega) hd
        rw [h.nxt (by omega), show ps.length - 1 - (d + 1) + 1 = ps.length - 1 - d by omega] at this
        exact low_trans (ih (by omega)) this
    have := key (ps.length - 1 - j) (by omega)
    rwa [show ps.length - 1 - (ps.length - 1 - j) = j by omega] at this
end Around
/-- a vertex seen from the first one -/
def rayP (ps : List Pt) (k : Nat) : Pt := ((fromP ps k).1 - (fromP ps 0).1, (fromP ps k).2 - (fromP ps 0).2)
def fanK (ps : List Pt) (k : Nat) : Int := sideK ps (fromP ps 0).1 (fromP ps 0).2 k
theorem fan_area (ps : List Pt) : sumTo (fanK ps) ps.length = areaZ ps := by
  have e1 : sumTo (fanK ps) ps.length = sumTo (fun k => crossK ps k + ((fromP ps 0).2 * (stepP ps k).1 + -(fromP ps 0).1 * (stepP ps k).2)) ps.length := by
    refine sumTo_congr _ fun k _ => ?_
    unfold fanK sideK crossK crossZ
    grind
  rw [e1, sumTo_add, sumTo_add, sumTo_mul, sumTo_mul, (sum_steps ps).1, (sum_steps ps).2]
  unfold areaZ
  rw [areaK_sum]
  omega
theorem fan_cross (ps : List Pt) {k : Nat} (hk : k + 1 < ps.length) : fanK ps k = crossP (rayP ps k) (rayP ps (k + 1)) := by
  have e : toP ps k = fromP ps (k + 1) := by rw [to_from, Nat.mod_eq_of_lt hk]
  unfold fanK sideK rayP crossP crossZ stepP
  rw [e]
  grind
theorem fan_step (ps : List Pt) {k : Nat} (hk : k + 1 < ps.length) : fanK ps k = crossP (rayP ps k) (stepP ps k) ∧ fanK ps k = crossP (rayP ps (k + 1)) (stepP ps k) := by
  have e : toP ps k = fromP ps (k + 1) := by rw [to_from, Nat.mod_eq_of_lt hk]
  unfold fanK sideK rayP crossP crossZ stepP
  rw [e]
  constructor <;> grind
theorem same_way {y z : Pt} (hy : 0 < y.2 ∨ (y.2 = 0 ∧ 0 < y.1)) (hz : 0 < z.2 ∨ (z.2 = 0 ∧ 0 < z.1)) (h : crossP y z = 0) :
    ∃ p q : Int, 0 < p ∧ 0 < q ∧ ∀ a : Pt, p * crossP a z = q * crossP a y := by
  unfold crossP crossZ at *
  by_cases h2 : y.2 = 0
  · have hz2 : z.2 = 0 := by
      rw [h2] at h
      have g : 0 < y.1 := by omega
      have : y.1 * z.2 = 0 := by omega
      rcases Int.mul_eq_zero.1 this with k | k
      · omega
      · exact k
    exact ⟨y.1, z.1, by omega, by omega, fun a => by rw [h2, hz2]; grind⟩
  · have hz2 : z.2 ≠ 0 := fun e => by
      rw [e] at h
      have g : 0 < y.2 := by omega
      have : y.2 * z.1 = 0 := by omega
      rcases Int.mul_eq_zero.1 this with k | k
      · omega
      · omega
    exact ⟨y.2, z.2, by omega, by omega, fun a => by grind⟩
namespace Around
variable {ps : List Pt}
/-- the triangles between the first vertex and the edges away from it have an area -/
theorem fan_pos (h : Around ps) {k : Nat} (h1 : 1 ≤ k) (hk : k + 1 < ps.length) : 0 < fanK ps k := by
  have h0 : 0 ≤ fanK ps k := h.left (by omega) (by omega)
  rcases Int.lt_or_eq_of_le h0 with g | g
  · exact g
  · exfalso
    have ly := h.lowest (j := k) (by omega) (by omega)
    have lz := h.lowest (j := k + 1) (by omega) hk
    have hy : 0 < (rayP ps k).2 ∨ ((rayP ps k).2 = 0 ∧ 0 < (rayP ps k).1) := by unfold lowP at ly; unfold rayP; simp only; omega
    have hz : 0 < (rayP ps (k + 1)).2 ∨ ((rayP ps (k + 1)).2 = 0 ∧ 0 < (rayP ps (k + 1)).1) := by unfold lowP at lz; unfold rayP; simp only; omega
    have c := fan_cross ps hk
    rw [← g] at c
    obtain ⟨p, q, hp, hq, e⟩ := same_way hy hz c.symm
    -- the edge before and the edge after
    have t1 := h.turn k (by omega)
    have t2 := h.turn (k + 1) hk
    rw [show prevI ps.length k = k - 1 by unfold prevI; rw [if_neg (by omega)]] at t1
    rw [show prevI ps.length (k + 1) = k by unfold prevI; rw [if_neg (by omega)]; omega] at t2
    have l1 : 0 ≤ fanK ps (k - 1) := h.left (by omega) (by omega)
    have l2 : 0 ≤ fanK ps (k + 1) := h.left hk (by omega)
    have f1 := (fan_step ps (k := k - 1) (by omega)).2
    rw [show k - 1 + 1 = k by omega] at f1
    have f2 : fanK ps (k + 1) = crossP (rayP ps (k + 1)) (stepP ps (k + 1)) := by unfold fanK sideK rayP crossP crossZ; grind
    have es : stepP ps k = ((rayP ps (k + 1)).1 - (rayP ps k).1, (rayP ps (k + 1)).2 - (rayP ps k).2) := by
      unfold stepP rayP
      rw [h.nxt hk]
      simp only [Prod.mk.injEq]
      omega
    have a1 := e (stepP ps (k - 1))
    have a2 := e (stepP ps (k + 1))
    rw [es] at t1 t2
    rw [f1] at l1
    rw [f2] at l2
    generalize rayP ps k = y at *
    generalize rayP ps (k + 1) = z at *
    generalize stepP ps (k - 1) = a at *
    generalize stepP ps (k + 1) = b at *
    have t1' : 0 < crossP a z - crossP a y := by unfold crossP crossZ at *; grind
    have t2' : 0 < crossP b y - crossP b z := by unfold crossP crossZ at *; grind
    have l1' : crossP a y ≤ 0 := by unfold crossP crossZ at *; grind
    have l2' : crossP b z ≤ 0 := by unfold crossP crossZ at *; grind
    generalize crossP a z = az at *
    generalize crossP a y = ay at *
    generalize crossP b z = bz at *
    generalize crossP b y = by' at *
    -- q < p from the edge before, p < q from the one after
    have hqp : q < p := by
      rcases Int.lt_or_le q p with k | k
      · exact k
      · have m1 : 0 ≤ (q - p) * -ay := Int.mul_nonneg (by omega) (by omega)
        have m2 : 0 < p * (az - ay) := Int.mul_pos hp t1'
        have i1 : p * (az - ay) = p * az - p * ay := by grind
        have i2 : (q - p) * -ay = p * ay - q * ay := by grind
        omega
    have hby : by' ≤ 0 := by
      rcases Int.lt_or_le 0 by' with k | k
      · have m1 : 0 < q * by' := Int.mul_pos hq k
        have m2 : 0 ≤ p * -bz := Int.mul_nonneg (by omega) (by omega)
        have i1 : p * -bz = -(p * bz) := by grind
        omega
      · exact k
    have m1 : 0 ≤ (p - q) * -by' := Int.mul_nonneg (by omega) (by omega)
    have m2 : 0 < p * (by' - bz) := Int.mul_pos hp t2'
    have i1 : p * (by' - bz) = p * by' - p * bz := by grind
    have i2 : (p - q) * -by' = q * by' - p * by' := by grind
    omega
theorem gcdK_g (ps : List Pt) (k : Nat) : gcdK ps k = gP (stepP ps k) := rfl
theorem ray_g (h : Around ps) {k : Nat} (h1 : 1 ≤ k) (hk : k < ps.length) : 1 ≤ gP (rayP ps k) := gP_pos fun e => by
  have := h.lowest (j := k) (by omega) hk
  have e1 := congrArg Prod.fst e
  have e2 := congrArg Prod.snd e
  unfold rayP at e1 e2
  unfold lowP at this
  simp only at e1 e2
  omega
theorem ring_fan (h : Around ps) : ∀ k, k + 2 < ps.length → ringK ps (k + 2) + gP (rayP ps (k + 2)) - 2 ≤ sumTo (fanK ps) (k + 2) := by
  intro k
  induction k with
  | zero =>
    intro hk
    have p := h.fan_pos (k := 1) (by omega) (by omega)
    have c1 := fan_cross ps (k := 1) (by omega)
    have c2 := fan_step ps (k := 1) (by omega)
    have z0 : fanK ps 0 = 0 := by unfold fanK sideK crossZ; grind
    have e0 : gcdK ps 0 = gP (rayP ps 1) := by
      rw [gcdK_g]
      unfold stepP rayP
      rw [h.nxt (by omega)]
    have q1 := gP_cross (a := rayP ps 1) (b := rayP ps 2) (by rw [← c1]; exact p)
    have q2 := gP_cross (a := rayP ps 1) (b := stepP ps 1) (by rw [← c2.1]; exact p)
    have q3 := gP_cross (a := rayP ps 2) (b := stepP ps 1) (by rw [← c2.2]; exact p)
    rw [← c1] at q1
    rw [← c2.1] at q2
    rw [← c2.2] at q3
    have r1 := h.ray_g (k := 1) (by omega) (by omega)
    have r2 := h.ray_g (k := 2) (by omega) (by omega)
    have r3 : 1 ≤ gP (stepP ps 1) := gP_pos (h.ne0 (by omega))
    have := three_sides r1 r2 r3 q1 q2 q3
    show ringK ps 2 + gP (rayP ps 2) - 2 ≤ sumTo (fanK ps) 2
    have er : ringK ps 2 = gcdK ps 0 + gcdK ps 1 := by simp only [ringK]; omega
    have es : sumTo (fanK ps) 2 = fanK ps 0 + fanK ps 1 := by simp only [sumTo]; omega
    rw [er, es, e0, gcdK_g, z0]
    have : gP (rayP ps (1 + 1)) = gP (rayP ps 2) := rfl
    omega
  | succ k ih =>
    intro hk
    have i := ih (by omega)
    have p := h.fan_pos (k := k + 2) (by omega) (by omega)
    have c2 := (fan_step ps (k := k + 2) (by omega)).2
    have q := gP_cross (a := rayP ps (k + 2 + 1)) (b := stepP ps (k + 2)) (by rw [← c2]; exact p)
    rw [← c2] at q
    have r1 := h.ray_g (k := k + 2) (by omega) (by omega)
    have r2 := h.ray_g (k := k + 2 + 1) (by omega) (by omega)
    have r3 : 1 ≤ gP (stepP ps (k + 2)) := gP_pos (h.ne0 (by omega))
    have := two_sides r2 r3 r1 q
    have er : ringK ps (k + 1 + 2) = ringK ps (k + 2) + gP (stepP ps (k + 2)) := rfl
    have es : sumTo (fanK ps) (k + 1 + 2) = sumTo (fanK ps) (k + 2) + fanK ps (k + 2) := rfl
    rw [er, es, show k + 1 + 2 = k + 2 + 1 by omega]
    omega
/-- no fewer than two more than the area, twice, lie on the boundary -/
theorem ring_area (h : Around ps) : ringZ ps - 2 ≤ areaZ ps := by
  have h3 := h.three
  have k := h.ring_fan (ps.length - 3) (by omega)
  rw [show ps.length - 3 + 2 = ps.length - 1 by omega] at k
  have l : 0 ≤ fanK ps (ps.length - 1) := h.left (by omega) (by omega)
  have er : ringZ ps = ringK ps (ps.length - 1) + gcdK ps (ps.length - 1) := by
    unfold ringZ
    conv => lhs; rw [show ps.length = ps.length - 1 + 1 by omega]
    rfl
  have es : areaZ ps = sumTo (fanK ps) (ps.length - 1) + fanK ps (ps.length - 1) := by
    rw [← fan_area]
    conv => lhs; rw [show ps.length = ps.length - 1 + 1 by omega]
    rfl
  have eg : gcdK ps (ps.length - 1) = gP (rayP ps (ps.length - 1)) := by
    rw [gcdK_g, ← gP_neg]
    congr 1
    unfold stepP rayP negP
    rw [h.last]
    simp only [Prod.mk.injEq]
    omega
  omega
theorem ring_len (h : Around ps) : (ps.length : Int) ≤ ringZ ps := by
  have key : ∀ k, k ≤ ps.length → (k : Int) ≤ ringK ps k := by
    intro k
    induction k with
    | zero => intro _; simp [ringK]
    | succ k ih =>
      intro hk
      have := ih (by omega)
      have g := gP_pos (h.ne0 (i := k) (by omega))
      simp only [ringK, gcdK_g]
      omega
  exact key _ (Nat.le_refl _)
end Around
/-- the parity of a lattice length -/
def qP (a : Pt) : Int := a.1 + a.2 + a.1 * a.2
theorem gP_par (a : Pt) : (gP a - qP a) % 2 = 0 := by
  have hd : ∀ c : Int, 2 ∣ c ↔ c % 2 = 0 := fun c => by omega
  have g : (2 ∣ gP a) ↔ (2 ∣ a.1 ∧ 2 ∣ a.2) := ⟨fun h => ⟨Int.dvd_trans h (gP_dvd a).1, Int.dvd_trans h (gP_dvd a).2⟩, fun h => Int.dvd_coe_gcd h.1 h.2⟩
  rw [hd, hd, hd] at g
  have e : (a.1 * a.2) % 2 = (a.1 % 2) * (a.2 % 2) % 2 := Int.mul_emod ..
  unfold qP
  have b1 : a.1 % 2 = 0 ∨ a.1 % 2 = 1 := by omega
  have b2 : a.2 % 2 = 0 ∨ a.2 % 2 = 1 := by omega
  rcases b1 with b1 | b1 <;> rcases b2 with b2 | b2 <;> rw [b1, b2] at e <;> simp [b1, b2] at g e <;> omega
theorem par_on (ps : List Pt) {k : Nat} : (qP (toP ps k) - qP (fromP ps k) - gcdK ps k - crossK ps k) % 2 = 0 := by
  have g := gP_par (stepP ps k)
  have e : qP (toP ps k) = qP (fromP ps k) + qP (stepP ps k) + crossK ps k + 2 * ((fromP ps k).2 * (stepP ps k).1) := by
    unfold qP crossK crossZ stepP
    grind
  have e2 : gcdK ps k = gP (stepP ps k) := rfl
  omega
/-- Pick's parity -/
theorem par_area {ps : List Pt} (h : Around ps) : (areaZ ps - ringZ ps) % 2 = 0 := by
  have h3 := h.three
  have key : ∀ k, k < ps.length → (qP (fromP ps k) - qP (fromP ps 0) - ringK ps k - areaK ps k) % 2 = 0 := by
    intro k
    induction k with
    | zero => intro _; simp [ringK, areaK]
    | succ k ih =>
      intro hk
      have i := ih (by omega)
      have p := par_on ps (k := k)
      rw [h.nxt hk] at p
      simp only [ringK, areaK]
      omega
  have k := key (ps.length - 1) (by omega)
  have p := par_on ps (k := ps.length - 1)
  rw [h.last] at p
  have er : ringZ ps = ringK ps (ps.length - 1) + gcdK ps (ps.length - 1) := by
    unfold ringZ
    conv => lhs; rw [show ps.length = ps.length - 1 + 1 by omega]
    rfl
  have es : areaZ ps = areaK ps (ps.length - 1) + crossK ps (ps.length - 1) := by
    unfold areaZ
    conv => lhs; rw [show ps.length = ps.length - 1 + 1 by omega]
    rfl
  omega
end Go.Proofs.Ytbdppephmlkbaaa
