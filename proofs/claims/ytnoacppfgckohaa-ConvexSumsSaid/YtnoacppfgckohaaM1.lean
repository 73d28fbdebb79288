import Derived.Test.YtnoacppfgckohaaV17
import Derived.Test.YtnoacppfgckohaaS1
namespace Go.Proofs.Ytnoacppfgckohaa
/-! sums over the edges, and turns of a list -/
def sumTo (f : Nat → Int) : Nat → Int
  | 0 => 0
  | k + 1 => sumTo f k + f k
theorem sumTo_congr {f g : Nat → Int} : ∀ n, (∀ k, k < n → f k = g k) → sumTo f n = sumTo g n := by
  intro n
  induction n with
  | zero => intro _; rfl
  | succ n ih => intro h; simp only [sumTo]; rw [ih (fun k hk => h k (by omega)), h n (by omega)]
theorem sumTo_add {f g : Nat → Int} : ∀ n, sumTo (fun k => f k + g k) n = sumTo f n + sumTo g n := by
  intro n
  induction n with
  | zero => rfl
  | succ n ih => simp only [sumTo, ih]; omega
theorem sumTo_split (f : Nat → Int) (a : Nat) : ∀ b, sumTo f (a + b) = sumTo f a + sumTo (fun k => f (a + k)) b := by
  intro b
  induction b with
  | zero => simp [sumTo]
  | succ b ih => rw [← Nat.add_assoc]; simp only [sumTo, ih]; omega
theorem sumTo_turn (f : Nat → Int) {n s : Nat} (hs : s ≤ n) : sumTo (fun k => f ((k + s) % n)) n = sumTo f n := by
  have e1 : n = (n - s) + s := by omega
  have h1 : sumTo (fun k => f ((k + s) % n)) n = sumTo (fun k => f ((k + s) % n)) (n - s) + sumTo (fun k => f (((n - s) + k + s) % n)) s := by
    have := sumTo_split (fun k => f ((k + s) % n)) (n - s) s
    rw [← e1] at this
    exact this
  have h2 : sumTo f n = sumTo f s + sumTo (fun k => f (s + k)) (n - s) := by
    have := sumTo_split f s (n - s)
    rw [show s + (n - s) = n by omega] at this
    exact this
  have h3 : sumTo (fun k => f ((k + s) % n)) (n - s) = sumTo (fun k => f (s + k)) (n - s) := sumTo_congr _ fun k hk => by
    rw [Nat.mod_eq_of_lt (by omega), Nat.add_comm]
  have h4 : sumTo (fun k => f (((n - s) + k + s) % n)) s = sumTo f s := sumTo_congr _ fun k hk => by
    rw [show n - s + k + s = k + n by omega, Nat.add_mod_right, Nat.mod_eq_of_lt (by omega)]
  rw [h1, h2, h3, h4]
  omega
theorem areaK_sum (ps : List Pt) : ∀ k, areaK ps k = sumTo (crossK ps) k := by
  intro k
  induction k with
  | zero => rfl
  | succ k ih => simp only [areaK, sumTo, ih]
theorem ringK_sum (ps : List Pt) : ∀ k, ringK ps k = sumTo (gcdK ps) k := by
  intro k
  induction k with
  | zero => rfl
  | succ k ih => simp only [ringK, sumTo, ih]
/-! moved -/
theorem from_map {ps : List Pt} (f : Pt → Pt) {k : Nat} (hk : k < ps.length) : fromP (ps.map f) k = f (fromP ps k) := by
  unfold fromP
  rw [List.getD_eq_getElem?_getD, List.getD_eq_getElem?_getD, List.getElem?_map, List.getElem?_eq_getElem hk]
  rfl
theorem to_from {ps : List Pt} {k : Nat} : toP ps k = fromP ps ((k + 1) % ps.length) := rfl
theorem step_moved {ps : List Pt} (v : Pt) {k : Nat} (hk : k < ps.length) : stepP (movedP ps v) k = stepP ps k := by
  unfold stepP movedP
  rw [to_from, to_from, List.length_map, from_map _ hk, from_map _ (Nat.mod_lt _ (by omega))]
  unfold addP
  simp only
  congr 1 <;> omega
theorem moved_length (ps : List Pt) (v : Pt) : (movedP ps v).length = ps.length := List.length_map _
theorem steps_moved (ps : List Pt) (v : Pt) : stepsOf (movedP ps v) = stepsOf ps := by
  unfold stepsOf
  rw [moved_length]
  apply List.map_congr_left
  intro k hk
  rw [List.mem_range] at hk
  exact step_moved v hk
theorem valid_moved {ps : List Pt} {v : Pt} (h : validB ps = true) (hf : (movedP ps v).any farP = false) : validB (movedP ps v) = true := by
  have h1 := valid_near h
  rw [validB_eq h1.2.1 h1.2.2 (by
    simp only [validB, Bool.and_eq_true, Bool.not_eq_true'] at h
    exact h.1.1.2)] at h
  rw [validB_eq (by rw [moved_length]; exact h1.2.1) (by rw [moved_length]; exact h1.2.2) hf, steps_moved]
  exact h
/-- the steps around come to nothing -/
theorem sum_steps (ps : List Pt) : sumTo (fun k => (stepP ps k).1) ps.length = 0 ∧ sumTo (fun k => (stepP ps k).2) ps.length = 0 := by
  have key : ∀ g : Pt → Int, sumTo (fun k => g (toP ps k)) ps.length = sumTo (fun k => g (fromP ps k)) ps.length := fun g => by
    by_cases h0 : ps.length = 0
    · rw [h0]; rfl
    · exact sumTo_turn (fun k => g (fromP ps k)) (s := 1) (by omega)
  have sub : ∀ (f g : Nat → Int) n, sumTo (fun k => f k - g k) n = sumTo f n - sumTo g n := by
    intro f g n
    induction n with
    | zero => rfl
    | succ n ih => simp only [sumTo, ih]; omega
  constructor
  · show sumTo (fun k => (toP ps k).1 - (fromP ps k).1) ps.length = 0
    rw [sub (fun k => (toP ps k).1) (fun k => (fromP ps k).1), key (fun p => p.1)]; omega
  · show sumTo (fun k => (toP ps k).2 - (fromP ps k).2) ps.length = 0
    rw [sub (fun k => (toP ps k).2) (fun k => (fromP ps k).2), key (fun p => p.2)]; omega
theorem sumTo_mul (c : Int) (f : Nat → Int) : ∀ n, sumTo (fun k => c * f k) n = c * sumTo f n := by
  intro n
  induction n with
  | zero => simp [sumTo]
  | succ n ih => simp only [sumTo, ih, Int.mul_add]
theorem area_moved (ps : List Pt) (v : Pt) : areaZ (movedP ps v) = areaZ ps := by
  unfold areaZ
  rw [moved_length, areaK_sum, areaK_sum]
  have e : sumTo (crossK (movedP ps v)) ps.length = sumTo (fun k => crossK ps k + (v.1 * (stepP ps k).2 + -v.2 * (stepP ps k).1)) ps.length := sumTo_congr _ fun k hk => by
    unfold crossK
    rw [step_moved v hk, show fromP (movedP ps v) k = addP v (fromP ps k) from from_map _ hk]
    unfold crossZ addP
    simp only [Int.add_mul, Int.neg_mul]
    omega
  rw [e, sumTo_add, sumTo_add (f := fun k => v.1 * (stepP ps k).2) (g := fun k => -v.2 * (stepP ps k).1), sumTo_mul, sumTo_mul, (sum_steps ps).1, (sum_steps ps).2]
  simp
theorem ring_moved (ps : List Pt) (v : Pt) : ringZ (movedP ps v) = ringZ ps := by
  unfold ringZ
  rw [moved_length, ringK_sum, ringK_sum]
  exact sumTo_congr _ fun k hk => by unfold gcdK; rw [step_moved v hk]
/-! who lies outside -/
theorem placeK_neg (ps : List Pt) (x y : Int) : ∀ k, (placeK ps x y k < 0 ↔ ∃ j, j < k ∧ sideK ps x y j < 0) := by
  intro k
  induction k with
  | zero => simp [placeK]
  | succ k ih =>
    simp only [placeK]
    have hs : sgnZ (sideK ps x y k) 0 < 0 ↔ sideK ps x y k < 0 := by unfold sgnZ; split; · simp_all
                                                                     · split <;> simp_all <;> omega
    constructor
    · intro h
      by_cases h1 : placeK ps x y k < 0
      · obtain ⟨j, hj, h2⟩ := ih.1 h1
        exact ⟨j, by omega, h2⟩
      · exact ⟨k, by omega, hs.1 (by omega)⟩
    · rintro ⟨j, hj, h2⟩
      by_cases hjk : j = k
      · subst hjk; have := hs.2 h2; omega
      · have := ih.2 ⟨j, by omega, h2⟩; omega
theorem outB_iff (qs : List Pt) (q : Pt) : outB qs q = true ↔ ∃ j, j < qs.length ∧ sideK qs q.1 q.2 j < 0 := by
  unfold outB placeZ
  rw [decide_eq_true_eq, placeK_neg]
theorem outB_moved (qs : List Pt) (v q : Pt) : outB (movedP qs v) (addP v q) = outB qs q := by
  rw [Bool.eq_iff_iff, outB_iff, outB_iff, moved_length]
  have e : ∀ j, j < qs.length → sideK (movedP qs v) (addP v q).1 (addP v q).2 j = sideK qs q.1 q.2 j := fun j hj => by
    unfold sideK
    rw [step_moved v hj, show fromP (movedP qs v) j = addP v (fromP qs j) from from_map _ hj]
    unfold addP
    simp only
    congr 1 <;> omega
  constructor
  · rintro ⟨j, hj, h⟩; exact ⟨j, hj, by rwa [e j hj] at h⟩
  · rintro ⟨j, hj, h⟩; exact ⟨j, hj, by rwa [e j hj]⟩
theorem inside_moved (ps qs : List Pt) (v : Pt) : (movedP ps v).any (outB (movedP qs v)) = ps.any (outB qs) := by
  unfold movedP
  rw [List.any_map]
  congr 1
  funext q
  exact outB_moved qs v q
/-! separation -/
theorem ext_spec {ps : List Pt} {d : Pt} (hn : 0 < ps.length) : ∀ k, (∀ j, j < k → dotP d (fromP ps j) ≤ (extK ps d k).1) ∧ ∃ j, j < ps.length ∧ (j < k ∨ j = 0) ∧ (k ≤ ps.length → (extK ps d k).1 = dotP d (fromP ps j)) := by
  intro k
  induction k with
  | zero => exact ⟨fun j hj => by omega, 0, hn, .inr rfl, fun _ => rfl⟩
  | succ k ih =>
    obtain ⟨h1, j, hj, hjk, h2⟩ := ih
    simp only [extK]
    split
    · rename_i hlt
      refine ⟨fun i hi => ?_, ?_⟩
      · by_cases hik : i = k
        · subst hik; exact Int.le_refl _
        · have := h1 i (by omega); simp only; omega
      · by_cases hk : k < ps.length
        · exact ⟨k, hk, .inl (by omega), fun _ => rfl⟩
        · exact ⟨j, hj, by omega, fun h => by omega⟩
    · rename_i hge
      refine ⟨fun i hi => ?_, j, hj, by omega, fun h => h2 (by omega)⟩
      by_cases hik : i = k
      · subst hik; omega
      · exact h1 i (by omega)
theorem sep_iff {ps qs : List Pt} (h1 : 0 < ps.length) (h2 : 0 < qs.length) (d : Pt) :
    (extK ps d ps.length).1 + (extK qs (negP d) qs.length).1 ≤ 0 ↔ ∀ i j, i < ps.length → j < qs.length → dotP d (fromP ps i) ≤ dotP d (fromP qs j) := by
  obtain ⟨a1, i0, hi0, _, ai⟩ := ext_spec (d := d) h1 ps.length
  obtain ⟨b1, j0, hj0, _, bj⟩ := ext_spec (d := negP d) h2 qs.length
  have hneg : ∀ q, dotP (negP d) q = -dotP d q := fun q => by unfold dotP dotV negP; simp only [Int.neg_mul]; omega
  constructor
  · intro h i j hi hj
    have e1 := a1 i hi
    have e2 := b1 j hj
    rw [hneg] at e2
    omega
  · intro h
    rw [ai (Nat.le_refl _), bj (Nat.le_refl _), hneg]
    have := h i0 j0 hi0 hj0
    omega
def sepBy (ps qs : List Pt) (d : Pt) : Prop := ∀ i j, i < ps.length → j < qs.length → dotP d (fromP ps i) ≤ dotP d (fromP qs j)
theorem overlap_iff {ps qs : List Pt} (h1 : 0 < ps.length) (h2 : 0 < qs.length) : overlapB ps qs = false ↔ (∃ k, k < ps.length ∧ sepBy ps qs (dirP ps k)) ∨ ∃ k, k < qs.length ∧ sepBy ps qs (dirQ qs k) := by
  have hs : ∀ k, sepAt ps qs k = true ↔ sepBy ps qs (dirA ps qs k) := fun k => by
    unfold sepAt
    rw [decide_eq_true_eq]
    exact sep_iff h1 h2 _
  have ho : overlapB ps qs = false ↔ ∃ k, k < ps.length + qs.length ∧ sepAt ps qs k = true := by
    unfold overlapB
    constructor
    · intro h
      cases hf : (List.range (ps.length + qs.length)).find? (sepAt ps qs) with
      | none => rw [hf] at h; cases h
      | some k =>
        have hp := List.find?_some hf
        have hm := List.mem_of_find?_eq_some hf
        rw [List.mem_range] at hm
        exact ⟨k, hm, hp⟩
    · rintro ⟨k, hk, hp⟩
      cases hf : (List.range (ps.length + qs.length)).find? (sepAt ps qs) with
      | some k => rfl
      | none =>
        rw [List.find?_eq_none] at hf
        exact absurd hp (hf k (List.mem_range.2 hk))
  rw [ho]
  constructor
  · rintro ⟨k, hk, h⟩
    rw [hs] at h
    unfold dirA at h
    split at h
    · exact .inl ⟨k, by assumption, h⟩
    · exact .inr ⟨k - ps.length, by omega, h⟩
  · rintro (⟨k, hk, h⟩ | ⟨k, hk, h⟩)
    · refine ⟨k, by omega, (hs k).2 ?_⟩
      unfold dirA
      rw [if_pos hk]; exact h
    · refine ⟨ps.length + k, by omega, (hs _).2 ?_⟩
      unfold dirA
      rw [if_neg (by omega), Nat.add_sub_cancel_left]; exact h
theorem sepBy_moved (ps qs : List Pt) (v d : Pt) : sepBy (movedP ps v) (movedP qs v) d ↔ sepBy ps qs d := by
  unfold sepBy
  rw [moved_length, moved_length]
  have e : ∀ (rs : List Pt) i, i < rs.length → dotP d (fromP (movedP rs v) i) = dotP d (fromP rs i) + dotP d v := fun rs i hi => by
    rw [show fromP (movedP rs v) i = addP v (fromP rs i) from from_map _ hi]
    unfold dotP dotV addP
    simp only [Int.mul_add]
    omega
  constructor
  · intro h i j hi hj
    have := h i j hi hj
    rw [e ps i hi, e qs j hj] at this
    omega
  · intro h i j hi hj
    rw [e ps i hi, e qs j hj]
    have := h i j hi hj
    omega
theorem overlap_moved {ps qs : List Pt} (v : Pt) (h1 : 0 < ps.length) (h2 : 0 < qs.length) : overlapB (movedP ps v) (movedP qs v) = overlapB ps qs := by
  have h : overlapB (movedP ps v) (movedP qs v) = false ↔ overlapB ps qs = false := by
    rw [overlap_iff (by rw [moved_length]; exact h1) (by rw [moved_length]; exact h2), overlap_iff h1 h2, moved_length, moved_length]
    have d1 : ∀ k, k < ps.length → dirP (movedP ps v) k = dirP ps k := fun k hk => by unfold dirP; rw [step_moved v hk]
    have d2 : ∀ k, k < qs.length → dirQ (movedP qs v) k = dirQ qs k := fun k hk => by unfold dirQ; rw [step_moved v hk]
    constructor
    · rintro (⟨k, hk, h⟩ | ⟨k, hk, h⟩)
      · exact .inl ⟨k, hk, (sepBy_moved ps qs v _).1 (by rwa [d1 k hk] at h)⟩
      · exact .inr ⟨k, hk, (sepBy_moved ps qs v _).1 (by rwa [d2 k hk] at h)⟩
    · rintro (⟨k, hk, h⟩ | ⟨k, hk, h⟩)
      · exact .inl ⟨k, hk, (sepBy_moved ps qs v _).2 (by rwa [d1 k hk])⟩
      · exact .inr ⟨k, hk, (sepBy_moved ps qs v _).2 (by rwa [d2 k hk])⟩
  cases ha : overlapB (movedP ps v) (movedP qs v) <;> cases hb : overlapB ps qs <;> simp_all
end Go.Proofs.Ytnoacppfgckohaa
