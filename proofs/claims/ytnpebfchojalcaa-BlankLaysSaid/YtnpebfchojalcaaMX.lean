import Derived.Test.YtnpebfchojalcaaN0
import Derived.Test.YtnpebfchojalcaaG1
import Derived.Test.YtnpebfchojalcaaB7
namespace Go.Proofs.Ytnpebfchojalcaa
/-! sums over the edges, and turns of a list -/
def sumTo (f : Nat → Int) : Nat → Int
  | 0 => 0
  | k + 1 => sumTo f k + f k
theorem sumTo_congr {f g : Nat → Int} : ∀ n, (∀ k, k < n → f k = g k) → sumTo f n = sumTo g n := by
  intro n
  induction n with
  | zero => intro _; rfl
  | succ n ih => intro h; simp only [sumTo]; rw [ih (fun k hk => h k (by omega)), h n (by omega)]
theorem sumTo_add {f g : Nat → Int} : ∀ n, sumTo (fun k => f k + g k) n = sumTo f n + sumTo g n := by
  intro n
  induction n with
  | zero => rfl
  | succ n ih => simp only [sumTo, ih]; omega
theorem sumTo_split (f : Nat → Int) (a : Nat) : ∀ b, sumTo f (a + b) = sumTo f a + sumTo (fun k => f (a + k)) b := by
  intro b
  induction b with
  | zero => simp [sumTo]
  | succ b ih => rw [← Nat.add_assoc]; simp only [sumTo, ih]; omega
theorem sumTo_turn (f : Nat → Int) {n s : Nat} (hs : s ≤ n) : sumTo (fun k => f ((k + s) % n)) n = sumTo f n := by
  have e1 : n = (n - s) + s := by omega
  have h1 : sumTo (fun k => f ((k + s) % n)) n = sumTo (fun k => f ((k + s) % n)) (n - s) + sumTo (fun k => f (((n - s) + k + s) % n)) s := by
    have := sumTo_split (fun k => f ((k + s) % n)) (n - s) s
    rw [← e1] at this
    exact this
  have h2 : sumTo f n = sumTo f s + sumTo (fun k => f (s + k)) (n - s) := by
    have := sumTo_split f s (n - s)
    rw [show s + (n - s) = n by omega] at this
    exact this
  have h3 : sumTo (fun k => f ((k + s) % n)) (n - s) = sumTo (fun k => f (s + k)) (n - s) := sumTo_congr _ fun k hk => by
    rw [Nat.mod_eq_of_lt (by omega), Nat.add_comm]
  have h4 : sumTo (fun k => f (((n - s) + k + s) % n)) s = sumTo f s := sumTo_congr _ fun k hk => by
    rw [show n - s + k + s = k + n by omega, Nat.add_mod_right, Nat.mod_eq_of_lt (by omega)]
  rw [h1, h2, h3, h4]
  omega
theorem areaK_sum (ps : List Pt) : ∀ k, areaK ps k = sumTo (crossK ps) k := by
  intro k
  induction k with
  | zero => rfl
  | succ k ih => simp only [areaK, sumTo, ih]
theorem ringK_sum (ps : List Pt) : ∀ k, ringK ps k = sumTo (gcdK ps) k := by
  intro k
  induction k with
  | zero => rfl
  | succ k ih => simp only [ringK, sumTo, ih]
/-! moved -/
theorem from_map {ps : List Pt} (f : Pt → Pt) {k : Nat} (hk : k < ps.length) : fromP (ps.map f) k = f (fromP ps k) := by
  unfold fromP
  rw [List.getD_eq_getElem?_getD, List.getD_eq_getElem?_getD, List.getElem?_map, List.getElem?_eq_getElem hk]
  rfl
theorem to_from {ps : List Pt} {k : Nat} : toP ps k = fromP ps ((k + 1) % ps.length) := rfl
theorem step_moved {ps : List Pt} (v : Pt) {k : Nat} (hk : k < ps.length) : stepP (movedP ps v) k = stepP ps k := by
  unfold stepP movedP
  rw [to_from, to_from, List.length_map, from_map _ hk, from_map _ (Nat.mod_lt _ (by omega))]
  unfold addP
  simp only
  congr 1 <;> omega
theorem moved_length (ps : List Pt) (v : Pt) : (movedP ps v).length = ps.length := List.length_map _
theorem steps_moved (ps : List Pt) (v : Pt) : stepsOf (movedP ps v) = stepsOf ps := by
  unfold stepsOf
  rw [moved_length]
  apply List.map_congr_left
  intro k hk
  rw [List.mem_range] at hk
  exact step_moved v hk
theorem valid_moved {ps : List Pt} {v : Pt} (h : validB ps = true) (hf : (movedP ps v).any farP = false) : validB (movedP ps v) = true := by
  have h1 := valid_near h
  rw [validB_eq h1.2.1 h1.2.2 (by
    simp only [validB, Bool.and_eq_true, Bool.not_eq_true'] at h
    exact h.1.1.2)] at h
  rw [validB_eq (by rw [moved_length]; exact h1.2.1) (by rw [moved_length]; exact h1.2.2) hf, steps_moved]
  exact h
/-- the steps around come to nothing -/
theorem sum_steps (ps : List Pt) : sumTo (fun k => (stepP ps k).1) ps.length = 0 ∧ sumTo (fun k => (stepP ps k).2) ps.length = 0 := by
  have key : ∀ g : Pt → Int, sumTo (fun k => g (toP ps k)) ps.length = sumTo (fun k => g (fromP ps k)) ps.length := fun g => by
    by_cases h0 : ps.length = 0
    · rw [h0]; rfl
    · exact sumTo_turn (fun k => g (fromP ps k)) (s := 1) (by omega)
  have sub : ∀ (f g : Nat → Int) n, sumTo (fun k => f k - g k) n = sumTo f n - sumTo g n := by
    intro f g n
    induction n with
    | zero => rfl
    | succ n ih => simp only [sumTo, ih]; omega
  constructor
  · show sumTo (fun k => (toP ps k).1 - (fromP ps k).1) ps.length = 0
    rw [sub (fun k => (toP ps k).1) (fun k => (fromP ps k).1), key (fun p => p.1)]; omega
  · show sumTo (fun k => (toP ps k).2 - (fromP ps k).2) ps.length = 0
    rw [sub (fun k => (toP ps k).2) (fun k => (fromP ps k).2), key (fun p => p.2)]; omega
theorem sumTo_mul (c : Int) (f : Nat → Int) : ∀ n, sumTo (fun k => c * f k) n = c * sumTo f n := by
  intro n
  induction n with
  | zero => simp [sumTo]
  | succ n ih => simp only [sumTo, ih, Int.mul_add]
/-! who lies outside -/
theorem placeK_neg (ps : List Pt) (x y : Int) : ∀ k, (placeK ps x y k < 0 ↔ ∃ j, j < k ∧ sideK ps x y j < 0) := by
  intro k
  induction k with
  | zero => simp [placeK]
  | succ k ih =>
    simp only [placeK]
    have hs : sgnZ (sideK ps x y k) 0 < 0 ↔ sideK ps x y k < 0 := by unfold sgnZ; split; · simp_all
                                                                     · split <;> simp_all <;> omega
    constructor
    · intro h
      by_cases h1 : placeK ps x y k < 0
      · obtain ⟨j, hj, h2⟩ := ih.1 h1
        exact ⟨j, by omega, h2⟩
      · exact ⟨k, by omega, hs.1 (by omega)⟩
    · rintro ⟨j, hj, h2⟩
      by_cases hjk : j = k
      · subst hjk; have := hs.2 h2; omega
      · have := ih.2 ⟨j, by omega, h2⟩; omega
/-! separation -/
theorem ext_spec {ps : List Pt} {d : Pt} (hn : 0 < ps.length) : ∀ k, (∀ j, j < k → dotP d (fromP ps j) ≤ (extK ps d k).1) ∧ ∃ j, j < ps.length ∧ (j < k ∨ j = 0) ∧ (k ≤ ps.length → (extK ps d k).1 = dotP d (fromP ps j)) := by
  intro k
  induction k with
  | zero => exact ⟨fun j hj => by omega, 0, hn, .inr rfl, fun _ => rfl⟩
  | succ k ih =>
    obtain ⟨h1, j, hj, hjk, h2⟩ := ih
    simp only [extK]
    split
    · rename_i hlt
      refine ⟨fun i hi => ?_, ?_⟩
      · by_cases hik : i = k
        · subst hik; exact Int.le_refl _
        · have := h1 i (by omega); simp only; omega
      · by_cases hk : k < ps.length
        · exact ⟨k, hk, .inl (by omega), fun _ => rfl⟩
        · exact ⟨j, hj, by omega, fun h => by omega⟩
    · rename_i hge
      refine ⟨fun i hi => ?_, j, hj, by omega, fun h => h2 (by omega)⟩
      by_cases hik : i = k
      · subst hik; omega
      · exact h1 i (by omega)
theorem sep_iff {ps qs : List Pt} (h1 : 0 < ps.length) (h2 : 0 < qs.length) (d : Pt) :
    (extK ps d ps.length).1 + (extK qs (negP d) qs.length).1 ≤ 0 ↔ ∀ i j, i < ps.length → j < qs.length → dotP d (fromP ps i) ≤ dotP d (fromP qs j) := by
  obtain ⟨a1, i0, hi0, _, ai⟩ := ext_spec (d := d) h1 ps.length
  obtain ⟨b1, j0, hj0, _, bj⟩ := ext_spec (d := negP d) h2 qs.length
  have hneg : ∀ q, dotP (negP d) q = -dotP d q := fun q => by unfold dotP dotV negP; simp only [Int.neg_mul]; omega
  constructor
  · intro h i j hi hj
    have e1 := a1 i hi
    have e2 := b1 j hj
    rw [hneg] at e2
    omega
  · intro h
    rw [ai (Nat.le_refl _), bj (Nat.le_refl _), hneg]
    have := h i0 j0 hi0 hj0
    omega
def sepBy (ps qs : List Pt) (d : Pt) : Prop := ∀ i j, i < ps.length → j < qs.length → dotP d (fromP ps i) ≤ dotP d (fromP qs j)
theorem overlap_iff {ps qs : List Pt} (h1 : 0 < ps.length) (h2 : 0 < qs.length) : overlapB ps qs = false ↔ (∃ k, k < ps.length ∧ sepBy ps qs (dirP ps k)) ∨ ∃ k, k < qs.length ∧ sepBy ps qs (dirQ qs k) := by
  have hs : ∀ k, sepAt ps qs k = true ↔ sepBy ps qs (dirA ps qs k) := fun k => by
    unfold sepAt
    rw [decide_eq_true_eq]
    exact sep_iff h1 h2 _
  have ho : overlapB ps qs = false ↔ ∃ k, k < ps.length + qs.length ∧ sepAt ps qs k = true := by
    unfold overlapB
    constructor
    · intro h
      cases hf : (List.range (ps.length + qs.length)).find? (sepAt ps qs) with
      | none => rw [hf] at h; cases h
      | some k =>
        have hp := List.find?_some hf
        have hm := List.mem_of_find?_eq_some hf
        rw [List.mem_range] at hm
        exact ⟨k, hm, hp⟩
    · rintro ⟨k, hk, hp⟩
      cases hf : (List.range (ps.length + qs.length)).find? (sepAt ps qs) with
      | some k => rfl
      | none =>
        rw [List.find?_eq_none] at hf
        exact absurd hp (hf k (List.mem_range.2 hk))
  rw [ho]
  constructor
  · rintro ⟨k, hk, h⟩
    rw [hs] at h
    unfold dirA at h
    split at h
    · exact .inl ⟨k, by assumption, h⟩
    · exact .inr ⟨k - ps.length, by omega, h⟩
  · rintro (⟨k, hk, h⟩ | ⟨k, hk, h⟩)
    · refine ⟨k, by omega, (hs k).2 ?_⟩
      unfold dirA
      rw [if_pos hk]; exact h
    · refine ⟨ps.length + k, by omega, (hs _).2 ?_⟩
      unfold dirA
      rw [if_neg (by omega), Nat.add_sub_cancel_left]; exact h
theorem sepBy_moved (ps qs : List Pt) (v d : Pt) : sepBy (movedP ps v) (movedP qs v) d ↔ sepBy ps qs d := by
  unfold sepBy
  rw [moved_length, moved_length]
  have e : ∀ (rs : List Pt) i, i < rs.length → dotP d (fromP (movedP rs v) i) = dotP d (fromP rs i) + dotP d v := fun rs i hi => by
    rw [show fromP (movedP rs v) i = addP v (fromP rs i) from from_map _ hi]
    unfold dotP dotV addP
    simp only [Int.mul_add]
    omega
  constructor
  · intro h i j hi hj
    have := h i j hi hj
    rw [e ps i hi, e qs j hj] at this
    omega
  · intro h i j hi hj
    rw [e ps i hi, e qs j hj]
    have := h i j hi hj
    omega
theorem overlap_moved {ps qs : List Pt} (v : Pt) (h1 : 0 < ps.length) (h2 : 0 < qs.length) : overlapB (movedP ps v) (movedP qs v) = overlapB ps qs := by
  have h : overlapB (movedP ps v) (movedP qs v) = false ↔ overlapB ps qs = false := by
    rw [overlap_iff (by rw [moved_length]; exact h1) (by rw [moved_length]; exact h2), overlap_iff h1 h2, moved_length, moved_length]
    have d1 : ∀ k, k < ps.length → dirP (movedP ps v) k = dirP ps k := fun k hk => by unfold dirP; rw [step_moved v hk]
    have d2 : ∀ k, k < qs.length → dirQ (movedP qs v) k = dirQ qs k := fun k hk => by unfold dirQ; rw [step_moved v hk]
    constructor
    · rintro (⟨k, hk, h⟩ | ⟨k, hk, h⟩)
      · exact .inl ⟨k, hk, (sepBy_moved ps qs v _).1 (by rwa [d1 k hk] at h)⟩
      · exact .inr ⟨k, hk, (sepBy_moved ps qs v _).1 (by rwa [d2 k hk] at h)⟩
    · rintro (⟨k, hk, h⟩ | ⟨k, hk, h⟩)
      · exact .inl ⟨k, hk, (sepBy_moved ps qs v _).2 (by rwa [d1 k hk])⟩
      · exact .inr ⟨k, hk, (sepBy_moved ps qs v _).2 (by rwa [d2 k hk])⟩
  cases ha : overlapB (movedP ps v) (movedP qs v) <;> cases hb : overlapB ps qs <;> simp_all
end Go.Proofs.Ytnpebfchojalcaa

namespace Go.Proofs.Ytnpebfchojalcaa
/-! a turned list -/
def rotP (fs : List Pt) (s : Nat) : List Pt := fs.drop s ++ fs.take s
theorem rot_length {fs : List Pt} {s : Nat} (hs : s ≤ fs.length) : (rotP fs s).length = fs.length := by
  unfold rotP
  rw [List.length_append, List.length_drop, List.length_take]
  omega
theorem rot_get {fs : List Pt} {s k : Nat} (hs : s < fs.length) (hk : k < fs.length) : (rotP fs s)[k]? = fs[(k + s) % fs.length]? := by
  unfold rotP
  by_cases h : k < fs.length - s
  · rw [List.getElem?_append_left (by rw [List.length_drop]; exact h), List.getElem?_drop, Nat.mod_eq_of_lt (by omega), Nat.add_comm]
  · rw [List.getElem?_append_right (by rw [List.length_drop]; omega), List.length_drop, List.getElem?_take]
    have e : (k + s) % fs.length = k - (fs.length - s) := by
      rw [show k + s = (k - (fs.length - s)) + fs.length by omega, Nat.add_mod_right, Nat.mod_eq_of_lt (by omega)]
    rw [e, if_pos (by omega)]
theorem from_rot {fs : List Pt} {s k : Nat} (hs : s < fs.length) (hk : k < fs.length) : fromP (rotP fs s) k = fromP fs ((k + s) % fs.length) := by
  unfold fromP
  rw [List.getD_eq_getElem?_getD, List.getD_eq_getElem?_getD, rot_get hs hk]
theorem to_rot {fs : List Pt} {s k : Nat} (hs : s < fs.length) (_ : k < fs.length) : toP (rotP fs s) k = toP fs ((k + s) % fs.length) := by
  rw [to_from, to_from, rot_length (by omega), from_rot hs (Nat.mod_lt _ (by omega))]
  congr 1
  rw [Nat.mod_add_mod, Nat.mod_add_mod]
  congr 1
  omega
theorem step_rot {fs : List Pt} {s k : Nat} (hs : s < fs.length) (hk : k < fs.length) : stepP (rotP fs s) k = stepP fs ((k + s) % fs.length) := by
  unfold stepP
  rw [from_rot hs hk, to_rot hs hk]
theorem neg_length (ps : List Pt) : (ps.map negP).length = ps.length := List.length_map _
theorem step_neg {ps : List Pt} {k : Nat} (hk : k < ps.length) : stepP (ps.map negP) k = negP (stepP ps k) := by
  unfold stepP
  rw [to_from, to_from, neg_length, from_map _ hk, from_map _ (Nat.mod_lt _ (by omega))]
  unfold negP
  simp only
  congr 1 <;> omega
/-- where the flipped polygon begins -/
def flipS (ps : List Pt) : Nat := idxK (minP (ps.map negP)) (ps.map negP)
theorem flip_rot (ps : List Pt) : flipP ps = rotP (ps.map negP) (flipS ps) := rfl
theorem flipS_lt {ps : List Pt} (h : 0 < ps.length) : flipS ps < ps.length := by
  have := (idxK_lt (minP_mem (qs := ps.map negP) (by rw [neg_length]; exact h))).1
  rwa [neg_length] at this
theorem flip_length {ps : List Pt} (h : 0 < ps.length) : (flipP ps).length = ps.length := by
  rw [flip_rot, rot_length (by rw [neg_length]; exact Nat.le_of_lt (flipS_lt h)), neg_length]
theorem from_flip {ps : List Pt} {k : Nat} (hk : k < ps.length) : fromP (flipP ps) k = negP (fromP ps ((k + flipS ps) % ps.length)) := by
  rw [flip_rot, from_rot (by rw [neg_length]; exact flipS_lt (by omega)) (by rw [neg_length]; exact hk), neg_length, from_map _ (Nat.mod_lt _ (by omega))]
theorem step_flip {ps : List Pt} {k : Nat} (hk : k < ps.length) : stepP (flipP ps) k = negP (stepP ps ((k + flipS ps) % ps.length)) := by
  rw [flip_rot, step_rot (by rw [neg_length]; exact flipS_lt (by omega)) (by rw [neg_length]; exact hk), neg_length, step_neg (Nat.mod_lt _ (by omega))]
/-- every index is turned to from one -/
theorem turn_back {n s j : Nat} (hs : s < n) (hj : j < n) : ∃ k, k < n ∧ (k + s) % n = j := by
  by_cases h : s ≤ j
  · exact ⟨j - s, by omega, by rw [Nat.sub_add_cancel h, Nat.mod_eq_of_lt hj]⟩
  · exact ⟨j + n - s, by omega, by rw [show j + n - s + s = j + n by omega, Nat.add_mod_right, Nat.mod_eq_of_lt hj]⟩
theorem any_rot (fs : List Pt) (s : Nat) (p : Pt → Bool) : (rotP fs s).any p = fs.any p := by
  unfold rotP
  rw [List.any_append, Bool.or_comm, ← List.any_append, List.take_append_drop]
/-! the steps of a polygon -/
theorem stepsOf_getD {ps : List Pt} {k : Nat} (hk : k < ps.length) : (stepsOf ps).getD k (0, 0) = stepP ps k := by
  unfold stepsOf
  rw [List.getD_eq_getElem?_getD, List.getElem?_map, List.getElem?_range hk]
  rfl
def prevI (n i : Nat) : Nat := if i = 0 then n - 1 else i - 1
theorem prevP_steps {ps : List Pt} {i : Nat} (hi : i < ps.length) : prevP (stepsOf ps) i = stepP ps (prevI ps.length i) := by
  unfold prevP prevI
  rw [stepsOf_length]
  split
  · exact stepsOf_getD (by omega)
  · exact stepsOf_getD (by omega)
theorem turn_iff (ps : List Pt) : turnB (stepsOf ps) = true ↔ ∀ i, i < ps.length → 0 < crossP (stepP ps (prevI ps.length i)) (stepP ps i) := by
  unfold turnB
  rw [List.all_eq_true, stepsOf_length]
  constructor
  · intro h i hi
    have := h i (List.mem_range.2 hi)
    rw [prevP_steps hi, stepsOf_getD hi] at this
    simpa using this
  · intro h i hi
    rw [List.mem_range] at hi
    rw [prevP_steps hi, stepsOf_getD hi]
    simpa using h i hi
theorem sorted_iff (ps : List Pt) : sortedB (stepsOf ps) = true ↔ ∀ i, i + 1 < ps.length → ¬ ltA (stepP ps (i + 1)) (stepP ps i) := by
  unfold sortedB
  rw [List.all_eq_true, stepsOf_length]
  constructor
  · intro h i hi
    have := h i (List.mem_range.2 (by omega))
    rw [stepsOf_getD hi, stepsOf_getD (by omega)] at this
    rw [← angP_neg]
    simp only [decide_eq_true_eq] at this
    omega
  · intro h i hi
    rw [List.mem_range] at hi
    rw [stepsOf_getD (by omega), stepsOf_getD (by omega)]
    have := h i (by omega)
    rw [← angP_neg] at this
    simp only [decide_eq_true_eq]
    omega
end Go.Proofs.Ytnpebfchojalcaa

namespace Go.Proofs.Ytnpebfchojalcaa
def lowP (a b : Pt) : Prop := a.2 < b.2 ∨ (a.2 = b.2 ∧ a.1 < b.1)
theorem low_iff (a b : Pt) : heightP a b < 0 ↔ lowP a b := by
  unfold heightP heightZ sgnZ lowP
  rcases Int.lt_trichotomy a.2 b.2 with h | h | h
  · simp [h]
  · rw [h]
    simp
    rcases Int.lt_trichotomy a.1 b.1 with g | g | g
    · simp [g]
    · rw [g]; simp
    · have : ¬ a.1 < b.1 := by omega
      simp [this, g]
  · have h1 : ¬ a.2 < b.2 := by omega
    have h2 : ¬ a.2 = b.2 := by omega
    simp [h1, h, h2]
theorem low_trans {a b c : Pt} (h1 : lowP a b) (h2 : lowP b c) : lowP a c := by unfold lowP at *; omega
theorem low_irrefl (a : Pt) : ¬ lowP a a := by unfold lowP; omega
theorem low_neg {a b : Pt} (h : lowP a b) : lowP (negP b) (negP a) := by unfold lowP negP at *; simp only; omega
theorem neg_neg' (a : Pt) : negP (negP a) = a := by unfold negP; simp
theorem sinks_neg {a : Pt} (h : a ≠ (0, 0)) : sinksB (negP a).1 (negP a).2 = !sinksB a.1 a.2 := by
  cases hs : sinksB a.1 a.2 with
  | true =>
    rcases down_of hs with h1 | ⟨h1, h2⟩
    · simp [sinksB, negP]; omega
    · simp [sinksB, negP]; omega
  | false =>
    rcases up_of hs h with h1 | ⟨h1, h2⟩
    · simp [sinksB, negP]; omega
    · simp [sinksB, negP]; omega
theorem crossP_neg (a b : Pt) : crossP (negP a) (negP b) = crossP a b := cross_neg a b
/-- what a polygon's steps are like -/
structure Around (ps : List Pt) : Prop where
  three : 3 ≤ ps.length
  turn : ∀ i, i < ps.length → 0 < crossP (stepP ps (prevI ps.length i)) (stepP ps i)
  sorted : ∀ i, i + 1 < ps.length → ¬ ltA (stepP ps (i + 1)) (stepP ps i)
theorem valid_around {ps : List Pt} (h : validB ps = true) : Around ps := by
  have h1 := valid_near h
  have hf : ps.any farP = false := by
    simp only [validB, Bool.and_eq_true, Bool.not_eq_true'] at h
    exact h.1.1.2
  rw [validB_eq h1.2.1 h1.2.2 hf, Bool.and_eq_true] at h
  exact ⟨h1.2.1, (turn_iff ps).1 h.1, (sorted_iff ps).1 h.2⟩
theorem around_valid {ps : List Pt} (h : Around ps) (h32 : ps.length ≤ 32) (hf : ps.any farP = false) : validB ps = true := by
  rw [validB_eq h.three h32 hf, (turn_iff ps).2 h.turn, (sorted_iff ps).2 h.sorted]
  rfl
namespace Around
variable {ps : List Pt}
theorem ne0 (h : Around ps) {i : Nat} (hi : i < ps.length) : stepP ps i ≠ (0, 0) := fun e => by
  have := h.turn i hi
  rw [e] at this
  unfold crossP crossZ at this
  simp at this
theorem down_on (h : Around ps) {i : Nat} (hi : i + 1 < ps.length) (hs : sinksB (stepP ps i).1 (stepP ps i).2 = true) : sinksB (stepP ps (i + 1)).1 (stepP ps (i + 1)).2 = true := by
  cases hc : sinksB (stepP ps (i + 1)).1 (stepP ps (i + 1)).2 with
  | true => rfl
  | false => exact absurd (.inl ⟨hc, hs⟩) (h.sorted i hi)
/-- first the steps that rise, then those that sink -/
theorem split (h : Around ps) : ∃ u, u ≤ ps.length ∧ ∀ i, i < ps.length → (sinksB (stepP ps i).1 (stepP ps i).2 = true ↔ u ≤ i) := by
  have key : ∀ m, m ≤ ps.length → ∃ u, u ≤ m ∧ ∀ i, i < m → (sinksB (stepP ps i).1 (stepP ps i).2 = true ↔ u ≤ i) := by
    intro m
    induction m with
    | zero => intro _; exact ⟨0, Nat.le_refl _, fun i hi => by omega⟩
    | succ m ih =>
      intro hm
      obtain ⟨u, hu, hh⟩ := ih (by omega)
      cases hs : sinksB (stepP ps m).1 (stepP ps m).2 with
      | true =>
        refine ⟨u, by omega, fun i hi => ?_⟩
        by_cases him : i = m
        · subst him; simp [hs, hu]
        · exact hh i (by omega)
      | false =>
        have hum : u = m := by
          by_cases hlt : u < m
          · have h1 := (hh (m - 1) (by omega)).2 (by omega)
            have h2 := h.down_on (i := m - 1) (by omega) h1
            rw [show m - 1 + 1 = m by omega, hs] at h2
            cases h2
          · omega
        refine ⟨m + 1, Nat.le_refl _, fun i hi => ?_⟩
        by_cases him : i = m
        · subst him; simp [hs]
        · rw [hh i (by omega)]; omega
  exact key _ (Nat.le_refl _)
theorem rise (h : Around ps) {i : Nat} (hi : i < ps.length) (hs : sinksB (stepP ps i).1 (stepP ps i).2 = false) : lowP (fromP ps i) (toP ps i) := by
  have := up_of hs (h.ne0 hi)
  unfold stepP at this
  unfold lowP
  simp only at this
  omega
theorem sink (_ : Around ps) {i : Nat} (_ : i < ps.length) (hs : sinksB (stepP ps i).1 (stepP ps i).2 = true) : lowP (toP ps i) (fromP ps i) := by
  have := down_of hs
  unfold stepP at this
  unfold lowP
  simp only at this
  omega
/-- the highest vertex -/
theorem top (h : Around ps) : ∃ u, 1 ≤ u ∧ u < ps.length ∧ (∀ i, i < ps.length → (sinksB (stepP ps i).1 (stepP ps i).2 = true ↔ u ≤ i)) ∧ ∀ j, j < ps.length → j ≠ u → lowP (fromP ps j) (fromP ps u) := by
  obtain ⟨u, hu, hh⟩ := h.split
  have h3 := h.three
  have up : ∀ i, i < ps.length → i < u → lowP (fromP ps i) (toP ps i) := fun i hi hiu => h.rise hi (by
    cases hs : sinksB (stepP ps i).1 (stepP ps i).2 with
    | false => rfl
    | true => have := (hh i hi).1 hs; omega)
  have down : ∀ i, i < ps.length → u ≤ i → lowP (toP ps i) (fromP ps i) := fun i hi hiu => h.sink hi ((hh i hi).2 hiu)
  have nxt : ∀ i, i + 1 < ps.length → toP ps i = fromP ps (i + 1) := fun i hi => by rw [to_from, Nat.mod_eq_of_lt hi]
  have last : toP ps (ps.length - 1) = fromP ps 0 := by rw [to_from, show ps.length - 1 + 1 = ps.length by omega, Nat.mod_self]
  have chainUp : ∀ d i, i + d < ps.length → i + d ≤ u → 0 < d → lowP (fromP ps i) (fromP ps (i + d)) := by
    intro d
    induction d with
    | zero => intro i _ _ h0; omega
    | succ d ih =>
      intro i h1 h2 _
      have e := up (i + d) (by omega) (by omega)
      rw [nxt (i + d) (by omega)] at e
      by_cases hd : d = 0
      · subst hd; exact e
      · exact low_trans (ih i (by omega) (by omega) (by omega)) e
  have chainDown : ∀ d i, i + d < ps.length → u ≤ i → 0 < d → lowP (fromP ps (i + d)) (fromP ps i) := by
    intro d
    induction d with
    | zero => intro i _ _ h0; omega
    | succ d ih =>
      intro i h1 h2 _
      have e := down (i + d) (by omega) (by omega)
      rw [nxt (i + d) (by omega)] at e
      by_cases hd : d = 0
      · subst hd; exact e
      · exact low_trans e (ih i (by omega) (by omega) (by omega))
  have u0 : 1 ≤ u := by
    by_cases h0 : u = 0
    · subst h0
      have e1 := chainDown (ps.length - 1) 0 (by omega) (Nat.le_refl _) (by omega)
      rw [Nat.zero_add] at e1
      have e2 := down (ps.length - 1) (by omega) (Nat.zero_le _)
      rw [last] at e2
      exact absurd (low_trans e2 e1) (low_irrefl _)
    · omega
  have un : u < ps.length := by
    by_cases h0 : u = ps.length
    · have e1 := chainUp (ps.length - 1) 0 (by omega) (by omega) (by omega)
      rw [Nat.zero_add] at e1
      have e2 := up (ps.length - 1) (by omega) (by omega)
      rw [last] at e2
      exact absurd (low_trans e1 e2) (low_irrefl _)
    · omega
  refine ⟨u, u0, un, hh, fun j hj hju => ?_⟩
  by_cases hlt : j < u
  · have := chainUp (u - j) j (by omega) (by omega) (by omega)
    rwa [show j + (u - j) = u by omega] at this
  · have := chainDown (j - u) u (by omega) (Nat.le_refl _) (by omega)
    rwa [show u + (j - u) = j by omega] at this
end Around
theorem minK_low {fs : List Pt} : ∀ k j, j ≤ k → ¬ lowP (fromP fs j) (minK fs k) := by
  intro k
  induction k with
  | zero => intro j hj; obtain rfl : j = 0 := by omega
            exact low_irrefl _
  | succ k ih =>
    intro j hj
    simp only [minK]
    split
    · rename_i hlt
      rw [low_iff] at hlt
      by_cases hjk : j = k + 1
      · subst hjk; exact low_irrefl _
      · exact fun hh => ih j (by omega) (low_trans hh hlt)
    · rename_i hge
      by_cases hjk : j = k + 1
      · subst hjk; rwa [low_iff] at hge
      · exact ih j (by omega)
theorem flipS_top {ps : List Pt} {u : Nat} (hu : u < ps.length) (h : ∀ j, j < ps.length → j ≠ u → lowP (fromP ps j) (fromP ps u)) : flipS ps = u := by
  have hn : 0 < (ps.map negP).length := by rw [neg_length]; omega
  obtain ⟨h1, h2⟩ := idxK_lt (minP_mem hn)
  rw [neg_length] at h1
  change flipS ps < _ at h1
  change (ps.map negP)[flipS ps]? = _ at h2
  have e : negP (fromP ps (flipS ps)) = minP (ps.map negP) := by
    rw [← from_map negP h1]
    exact fromP_of h2
  by_cases hs : flipS ps = u
  · exact hs
  · exfalso
    have h3 := low_neg (h _ h1 hs)
    have h4 := minK_low (fs := ps.map negP) ((ps.map negP).length - 1) u (by rw [neg_length]; omega)
    apply h4
    rw [from_map negP hu]
    show lowP _ (minP (ps.map negP))
    rw [← e]
    exact h3
theorem prev_mod {n i s : Nat} (hi : i < n) (hs : s < n) : (prevI n i + s) % n = prevI n ((i + s) % n) := by
  unfold prevI
  by_cases h0 : i = 0
  · subst h0
    rw [if_pos rfl, Nat.zero_add, Nat.mod_eq_of_lt hs]
    by_cases h1 : s = 0
    · subst h1; rw [if_pos rfl, Nat.add_zero, Nat.mod_eq_of_lt (by omega)]
    · rw [if_neg h1, show n - 1 + s = (s - 1) + n by omega, Nat.add_mod_right, Nat.mod_eq_of_lt (by omega)]
  · rw [if_neg h0]
    by_cases h1 : i + s < n
    · rw [Nat.mod_eq_of_lt h1, if_neg (by omega), Nat.mod_eq_of_lt (by omega)]; omega
    · by_cases h2 : i + s = n
      · rw [h2, Nat.mod_self, if_pos rfl, Nat.mod_eq_of_lt (by omega)]; omega
      · rw [show i + s = (i + s - n) + n by omega, Nat.add_mod_right, Nat.mod_eq_of_lt (show i + s - n < n by omega), if_neg (by omega), show i - 1 + s = (i + s - n - 1) + n by omega, Nat.add_mod_right, Nat.mod_eq_of_lt (by omega)]
theorem around_flip {ps : List Pt} (h : Around ps) : Around (flipP ps) := by
  obtain ⟨u, u1, un, hh, htop⟩ := h.top
  have hS := flipS_top un htop
  have hn0 : 0 < ps.length := by omega
  have hl := flip_length hn0
  have hstep : ∀ k, k < ps.length → stepP (flipP ps) k = negP (stepP ps ((k + u) % ps.length)) := fun k hk => by rw [step_flip hk, hS]
  have same : ∀ a b : Pt, a ≠ (0, 0) → b ≠ (0, 0) → sinksB a.1 a.2 = sinksB b.1 b.2 → ¬ ltA a b → ¬ ltA (negP a) (negP b) := by
    intro a b ha hb hs hn hlt
    rcases hlt with ⟨h1, h2⟩ | ⟨_, h2⟩
    · rw [sinks_neg ha] at h1
      rw [sinks_neg hb, ← hs] at h2
      cases hc : sinksB a.1 a.2 <;> rw [hc] at h1 h2 <;> cases h1 <;> cases h2
    · exact hn (.inr ⟨hs, by have := crossP_neg a b; unfold crossP at this; rw [← this]; exact h2⟩)
  refine ⟨by rw [hl]; exact h.three, fun i hi => ?_, fun i hi => ?_⟩
  · rw [hl] at hi ⊢
    have hp : prevI ps.length i < ps.length := by unfold prevI; split <;> omega
    rw [hstep i hi, hstep _ hp, crossP_neg, prev_mod hi un]
    exact h.turn _ (Nat.mod_lt _ hn0)
  · rw [hl] at hi
    rw [hstep i (by omega), hstep (i + 1) hi]
    by_cases h1 : i + u + 1 < ps.length
    · rw [Nat.mod_eq_of_lt (show i + u < ps.length by omega), Nat.mod_eq_of_lt (show i + 1 + u < ps.length by omega)]
      have e : i + 1 + u = i + u + 1 := by omega
      rw [e]
      refine same _ _ (h.ne0 h1) (h.ne0 (by omega)) ?_ (h.sorted (i + u) h1)
      rw [(hh (i + u) (by omega)).2 (by omega), (hh (i + u + 1) h1).2 (by omega)]
    · by_cases h2 : i + u + 1 = ps.length
      · rw [Nat.mod_eq_of_lt (show i + u < ps.length by omega), show i + 1 + u = ps.length by omega, Nat.mod_self]
        have s0 : sinksB (stepP ps 0).1 (stepP ps 0).2 = false := by
          cases hs : sinksB (stepP ps 0).1 (stepP ps 0).2 with
          | false => rfl
          | true => have := (hh 0 hn0).1 hs; omega
        have s1 := (hh (i + u) (by omega)).2 (by omega)
        rintro (⟨g1, _⟩ | ⟨g1, _⟩)
        · rw [sinks_neg (h.ne0 hn0), s0] at g1; cases g1
        · rw [sinks_neg (h.ne0 hn0), s0, sinks_neg (h.ne0 (by omega)), s1] at g1; cases g1
      · have e1 : (i + u) % ps.length = i + u - ps.length := by
          rw [show i + u = (i + u - ps.length) + ps.length by omega, Nat.add_mod_right, Nat.mod_eq_of_lt (by omega)]; omega
        have e2 : (i + 1 + u) % ps.length = i + u - ps.length + 1 := by
          rw [show i + 1 + u = (i + u - ps.length + 1) + ps.length by omega, Nat.add_mod_right, Nat.mod_eq_of_lt (by omega)]
        rw [e1, e2]
        have hup : ∀ j, j < u → sinksB (stepP ps j).1 (stepP ps j).2 = false := fun j hj => by
          cases hs : sinksB (stepP ps j).1 (stepP ps j).2 with
          | false => rfl
          | true => have := (hh j (by omega)).1 hs; omega
        refine same _ _ (h.ne0 (by omega)) (h.ne0 (by omega)) ?_ (h.sorted (i + u - ps.length) (by omega))
        rw [hup _ (by omega), hup _ (by omega)]
theorem far_flip {ps : List Pt} (h : nearP ps) : (flipP ps).any farP = false := by
  rw [flip_rot, any_rot, List.any_map, List.any_eq_false]
  intro q hq
  have h1 := h q hq
  have h2 : farB (-q.1) (-q.2) = false := by
    unfold farB
    rw [decide_eq_false (by omega), decide_eq_false (by omega), decide_eq_false (by omega), decide_eq_false (by omega)]
    rfl
  simp [Function.comp, farP, negP, h2]
theorem valid_flip {ps : List Pt} (h : validB ps = true) : validB (flipP ps) = true := by
  have h1 := valid_near h
  refine around_valid (around_flip (valid_around h)) ?_ (far_flip h1.1)
  rw [flip_length (by omega)]
  exact h1.2.2
end Go.Proofs.Ytnpebfchojalcaa

namespace Go.Proofs.Ytnpebfchojalcaa
open Go.RowKit
/-- the sum of a number over a list -/
def sumF (f : Pt → Int) : List Pt → Int
  | [] => 0
  | x :: l => f x + sumF f l
theorem sumF_append (f : Pt → Int) : ∀ a b, sumF f (a ++ b) = sumF f a + sumF f b := by
  intro a b
  induction a with
  | nil => simp [sumF]
  | cons x l ih => simp only [List.cons_append, sumF, ih]; omega
theorem sumF_perm {f : Pt → Int} {a b : List Pt} (h : a.Perm b) : sumF f a = sumF f b := by
  induction h with
  | nil => rfl
  | cons x _ ih => simp only [sumF, ih]
  | swap x y l => simp only [sumF]; omega
  | trans _ _ h1 h2 => rw [h1, h2]
theorem sumF_filter (f : Pt → Int) (p : Pt → Bool) : ∀ l, sumF f l = sumF f (l.filter p) + sumF f (l.filter fun x => !p x) := by
  intro l
  induction l with
  | nil => rfl
  | cons x l ih =>
    cases h : p x <;> simp only [List.filter_cons, h, sumF, ih, Bool.not_true, Bool.not_false, if_true, Bool.false_eq_true, if_false] <;> omega
theorem sumF_pos {f : Pt → Int} : ∀ {l : List Pt}, (∀ x ∈ l, 0 ≤ f x) → 0 ≤ sumF f l
  | [], _ => Int.le_refl _
  | x :: l, h => by
    have h1 := h x (by simp)
    have h2 := sumF_pos (l := l) fun y hy => h y (by simp [hy])
    simp only [sumF]; omega
theorem sumF_neg {f : Pt → Int} : ∀ {l : List Pt}, (∀ x ∈ l, f x ≤ 0) → sumF f l ≤ 0
  | [], _ => Int.le_refl _
  | x :: l, h => by
    have h1 := h x (by simp)
    have h2 := sumF_neg (l := l) fun y hy => h y (by simp [hy])
    simp only [sumF]; omega
def ltB (a b : Pt) : Bool := decide (angP a b < 0)
theorem ltB_iff (a b : Pt) : ltB a b = true ↔ ltA a b := by unfold ltB; rw [decide_eq_true_eq]; exact angP_neg a b
theorem neg_ne {r : Pt} (h : r ≠ (0, 0)) : negP r ≠ (0, 0) := fun e => h (by rw [← neg_neg' r, e]; rfl)
theorem cross_neg2 (x r : Pt) : crossP x (negP r) = -crossP x r := by
  unfold crossP crossZ negP; simp only [Int.mul_neg]; omega
section
variable {x r : Pt}
theorem up_low (hr : sinksB r.1 r.2 = false) (h : ltA x r) : 0 ≤ crossP x r := by
  rcases h with ⟨_, h⟩ | ⟨_, h⟩
  · rw [hr] at h; cases h
  · unfold crossP; omega
theorem up_far (hr0 : r ≠ (0, 0)) (hr : sinksB r.1 r.2 = false) (h : ¬ ltA x (negP r)) : 0 ≤ crossP x r ∧ ¬ ltA x r := by
  have hn := sinks_neg hr0
  rw [hr] at hn
  cases hs : sinksB x.1 x.2 with
  | false => exact absurd (.inl ⟨hs, hn⟩) h
  | true =>
    constructor
    · have h2 := cross_neg2 x r
      have : ¬ 0 < crossP x (negP r) := fun k => h (.inr ⟨by rw [hs, hn]; rfl, k⟩)
      omega
    · rintro (⟨k, _⟩ | ⟨k, _⟩)
      · rw [hs] at k; cases k
      · rw [hs, hr] at k; cases k
theorem up_mid (hr : sinksB r.1 r.2 = false) (h1 : ltA x (negP r)) (h2 : ¬ ltA x r) : crossP x r ≤ 0 := by
  cases hs : sinksB x.1 x.2 with
  | false =>
    have : ¬ 0 < crossP x r := fun k => h2 (.inr ⟨by rw [hs, hr], k⟩)
    omega
  | true =>
    rcases h1 with ⟨k, _⟩ | ⟨_, k⟩
    · rw [hs] at k; cases k
    · have := cross_neg2 x r
      unfold crossP at *; omega
theorem down_low (hr0 : r ≠ (0, 0)) (hr : sinksB r.1 r.2 = true) (h : ltA x (negP r)) : crossP x r ≤ 0 := by
  have hn := sinks_neg hr0
  rw [hr] at hn
  have h2 := cross_neg2 x r
  rcases h with ⟨_, k⟩ | ⟨_, k⟩
  · rw [hn] at k; cases k
  · unfold crossP at *; omega
theorem down_mid (hr0 : r ≠ (0, 0)) (hr : sinksB r.1 r.2 = true) (h : ltA x r) (h1 : ¬ ltA x (negP r)) : 0 ≤ crossP x r := by
  have hn := sinks_neg hr0
  rw [hr] at hn
  cases hs : sinksB x.1 x.2 with
  | false =>
    have h2 := cross_neg2 x r
    have : ¬ 0 < crossP x (negP r) := fun k => h1 (.inr ⟨by rw [hs, hn]; rfl, k⟩)
    omega
  | true =>
    rcases h with ⟨k, _⟩ | ⟨_, k⟩
    · rw [hs] at k; cases k
    · unfold crossP; omega
theorem down_far (hr : sinksB r.1 r.2 = true) (h : ¬ ltA x r) : crossP x r ≤ 0 := by
  cases hs : sinksB x.1 x.2 with
  | false => exact absurd (.inl ⟨hs, hr⟩) h
  | true =>
    have : ¬ 0 < crossP x r := fun k => h (.inr ⟨by rw [hs, hr], k⟩)
    omega
end
/-- no beginning of a closed walk that is sorted by angle goes further to the right of a direction than what comes before that direction -/
theorem supp {l : List Pt} {r : Pt} (h0 : ∀ x ∈ l, x ≠ (0, 0)) (hr : r ≠ (0, 0)) (hs : l.Pairwise fun a b => ¬ ltA b a) (hz : sumF (fun x => crossP x r) l = 0) (k : Nat) :
    sumF (fun x => crossP x r) (l.take k) ≤ sumF (fun x => crossP x r) (l.filter fun x => ltB x r) := by
  have hl := (List.take_append_drop k l).symm
  have hA : ∀ x ∈ l.take k, x ∈ l := fun x hx => List.mem_of_mem_take hx
  have hB : ∀ x ∈ l.drop k, x ∈ l := fun x hx => List.mem_of_mem_drop hx
  have hAB : ∀ x ∈ l.take k, ∀ y ∈ l.drop k, ¬ ltA y x := by
    rw [hl, List.pairwise_append] at hs
    exact hs.2.2
  have e0 : sumF (fun x => crossP x r) (l.take k) + sumF (fun x => crossP x r) (l.drop k) = 0 := by rw [← sumF_append, ← hl]; exact hz
  have e1 := sumF_filter (fun x => crossP x r) (fun x => ltB x r) (l.take k)
  have e2 : sumF (fun x => crossP x r) (l.filter fun x => ltB x r) = sumF (fun x => crossP x r) ((l.take k).filter fun x => ltB x r) + sumF (fun x => crossP x r) ((l.drop k).filter fun x => ltB x r) := by
    rw [← sumF_append, ← List.filter_append, ← hl]
  have e3 := sumF_filter (fun x => crossP x r) (fun x => ltB x r) l
  have up : ∀ x ∈ l.take k, ¬ ltA x (negP r) → ∀ y ∈ l.drop k, ¬ ltA y (negP r) := fun x hx h y hy =>
    ltA_ntrans (h0 y (hB y hy)) (h0 x (hA x hx)) (neg_ne hr) (hAB x hx y hy) h
  cases hd : sinksB r.1 r.2 with
  | false =>
    have p2 : 0 ≤ sumF (fun x => crossP x r) ((l.drop k).filter fun x => ltB x r) := sumF_pos fun x hx => up_low hd ((ltB_iff _ _).1 (List.mem_filter.1 hx).2)
    by_cases hE : ∃ x ∈ l.take k, ¬ ltA x (negP r)
    · obtain ⟨x, hx, hxn⟩ := hE
      have p1 : 0 ≤ sumF (fun x => crossP x r) (l.drop k) := sumF_pos fun y hy => (up_far hr hd (up x hx hxn y hy)).1
      have p3 : 0 ≤ sumF (fun x => crossP x r) (l.filter fun x => ltB x r) := sumF_pos fun x hx => up_low hd ((ltB_iff _ _).1 (List.mem_filter.1 hx).2)
      omega
    · have p1 : sumF (fun x => crossP x r) ((l.take k).filter fun x => !ltB x r) ≤ 0 := sumF_neg fun x hx => by
        obtain ⟨h1, h2⟩ := List.mem_filter.1 hx
        simp only [Bool.not_eq_true'] at h2
        refine up_mid hd (Classical.byContradiction fun h => hE ⟨x, h1, h⟩) fun h => ?_
        rw [(ltB_iff _ _).2 h] at h2; cases h2
      omega
  | true =>
    have far : ∀ l' : List Pt, sumF (fun x => crossP x r) (l'.filter fun x => !ltB x r) ≤ 0 := fun l' => sumF_neg fun x hx => by
      have h2 := (List.mem_filter.1 hx).2
      simp only [Bool.not_eq_true'] at h2
      refine down_far hd fun h => ?_
      rw [(ltB_iff _ _).2 h] at h2; cases h2
    by_cases hE : ∃ x ∈ l.take k, ¬ ltA x (negP r)
    · obtain ⟨x, hx, hxn⟩ := hE
      have p1 : 0 ≤ sumF (fun x => crossP x r) ((l.drop k).filter fun x => ltB x r) := sumF_pos fun y hy => by
        obtain ⟨h1, h2⟩ := List.mem_filter.1 hy
        exact down_mid hr hd ((ltB_iff _ _).1 h2) (up x hx hxn y h1)
      have := far (l.take k)
      omega
    · have p1 : sumF (fun x => crossP x r) (l.take k) ≤ 0 := sumF_neg fun x hx => down_low hr hd (Classical.byContradiction fun h => hE ⟨x, hx, h⟩)
      have := far l
      omega
/-- what comes before a direction is a beginning of the walk -/
theorem filter_take {r : Pt} (hr : r ≠ (0, 0)) : ∀ {l : List Pt}, (∀ x ∈ l, x ≠ (0, 0)) → l.Pairwise (fun a b => ¬ ltA b a) → ∃ k, k ≤ l.length ∧ l.filter (fun x => ltB x r) = l.take k
  | [], _, _ => ⟨0, Nat.le_refl _, rfl⟩
  | x :: l, h0, hs => by
    rw [List.pairwise_cons] at hs
    obtain ⟨k, hk, e⟩ := filter_take hr (l := l) (fun y hy => h0 y (by simp [hy])) hs.2
    cases h : ltB x r with
    | true => exact ⟨k + 1, by simpa using hk, by rw [List.filter_cons_of_pos (by simpa using h), e]; rfl⟩
    | false =>
      refine ⟨0, Nat.zero_le _, ?_⟩
      have hx : ¬ ltA x r := fun k => by rw [(ltB_iff _ _).2 k] at h; cases h
      rw [List.take_zero, List.filter_eq_nil_iff]
      intro y hy k
      rcases List.mem_cons.1 hy with rfl | hy
      · exact hx ((ltB_iff _ _).1 k)
      · exact ltA_ntrans (h0 y (by simp [hy])) (h0 x (by simp)) hr (hs.1 y hy) hx ((ltB_iff _ _).1 k)
end Go.Proofs.Ytnpebfchojalcaa

namespace Go.Proofs.Ytnpebfchojalcaa
open Go.RowKit
/-- the same direction -/
def SameD (a b : Pt) : Prop := ¬ ltA a b ∧ ¬ ltA b a
theorem angP_zero (a b : Pt) : angP a b = 0 ↔ SameD a b := by
  unfold SameD
  rw [← angP_neg, ← angP_neg]
  unfold angP angleZ
  have e : crossZ b.1 b.2 a.1 a.2 = -crossZ a.1 a.2 b.1 b.2 := by
    unfold crossZ; rw [Int.mul_comm b.1, Int.mul_comm b.2]; omega
  rw [e]
  generalize crossZ a.1 a.2 b.1 b.2 = c
  cases sinksB a.1 a.2 <;> cases sinksB b.1 b.2 <;> simp [sgnZ] <;> (try split) <;> (try split) <;> (try split) <;> (try split) <;> simp_all <;> omega
theorem SameD.symm {a b : Pt} (h : SameD a b) : SameD b a := ⟨h.2, h.1⟩
theorem SameD.refl (a : Pt) : SameD a a := ⟨ltA_irrefl a, ltA_irrefl a⟩
theorem SameD.trans {a b c : Pt} (ha : a ≠ (0, 0)) (hb : b ≠ (0, 0)) (hc : c ≠ (0, 0)) (h : SameD a b) (k : SameD b c) : SameD a c :=
  ⟨ltA_ntrans ha hb hc h.1 k.1, ltA_ntrans hc hb ha k.2 h.2⟩
theorem same_iff (a b : Pt) : SameD a b ↔ sinksB a.1 a.2 = sinksB b.1 b.2 ∧ crossP a b = 0 := by
  have e : crossZ b.1 b.2 a.1 a.2 = -crossZ a.1 a.2 b.1 b.2 := by
    unfold crossZ; rw [Int.mul_comm b.1, Int.mul_comm b.2]; omega
  unfold SameD ltA crossP
  rw [e]
  cases sinksB a.1 a.2 <;> cases sinksB b.1 b.2 <;> simp <;> omega
theorem lt_left {a b c : Pt} (ha : a ≠ (0, 0)) (hb : b ≠ (0, 0)) (hc : c ≠ (0, 0)) (h : ¬ ltA b a) (k : ltA b c) : ltA a c :=
  Classical.byContradiction fun n => ltA_ntrans hb ha hc h n k
theorem lt_right {a b c : Pt} (ha : a ≠ (0, 0)) (hb : b ≠ (0, 0)) (hc : c ≠ (0, 0)) (h : ltA a b) (k : ¬ ltA c b) : ltA a c :=
  Classical.byContradiction fun n => ltA_ntrans ha hc hb n k h
theorem same_lt {a b r : Pt} (ha : a ≠ (0, 0)) (hb : b ≠ (0, 0)) (hr : r ≠ (0, 0)) (h : SameD a b) : ltB a r = ltB b r := by
  rw [Bool.eq_iff_iff, ltB_iff, ltB_iff]
  exact ⟨fun k => lt_left hb ha hr h.1 k, fun k => lt_left ha hb hr h.2 k⟩
theorem same_add {a b : Pt} (ha : a ≠ (0, 0)) (hb : b ≠ (0, 0)) (h : SameD a b) : SameD a (addP b a) ∧ addP b a ≠ (0, 0) := by
  rw [same_iff] at h
  obtain ⟨h1, h2⟩ := h
  have hc : crossP a (addP b a) = 0 := by
    unfold crossP crossZ addP at *
    simp only [Int.mul_add]
    have := Int.mul_comm a.1 a.2
    omega
  cases hs : sinksB a.1 a.2 with
  | false =>
    have u1 := up_of hs ha
    have u2 := up_of (h1.symm.trans hs) hb
    refine ⟨(same_iff _ _).2 ⟨?_, hc⟩, fun e => ?_⟩
    · rw [hs]
      unfold sinksB
      symm
      rw [Bool.or_eq_false_iff, Bool.and_eq_false_iff]
      exact ⟨decide_eq_false (by simp only [addP]; omega), by
        by_cases h : (addP b a).2 = 0
        · exact .inr (decide_eq_false (by simp only [addP] at h ⊢; omega))
        · exact .inl (decide_eq_false h)⟩
    · simp [addP, Prod.ext_iff] at e; omega
  | true =>
    have u1 := down_of hs
    have u2 := down_of (h1.symm.trans hs)
    refine ⟨(same_iff _ _).2 ⟨?_, hc⟩, fun e => ?_⟩
    · rw [hs]
      unfold sinksB
      symm
      rw [Bool.or_eq_true, Bool.and_eq_true]
      by_cases h : (addP b a).2 < 0
      · exact .inl (decide_eq_true h)
      · exact .inr ⟨decide_eq_true (by simp only [addP] at h ⊢; omega), decide_eq_true (by simp only [addP] at h ⊢; omega)⟩
    · simp [addP, Prod.ext_iff] at e; omega
/-- neighbours of the same direction added up -/
def addHead (d : Pt) : List Pt → List Pt
  | [] => [d]
  | h :: t => addP h d :: t
def runs : List Pt → List Pt
  | [] => []
  | [d] => [d]
  | d :: e :: l => if angP d e = 0 then addHead d (runs (e :: l)) else d :: runs (e :: l)
/-- where each step of a walk begins -/
def starts (a : Pt) : List Pt → List Pt
  | [] => []
  | d :: l => a :: starts (addP d a) l
theorem runs_cons (d : Pt) : ∀ l : List Pt, (∀ x ∈ d :: l, x ≠ (0, 0)) → ∃ h t, runs (d :: l) = h :: t ∧ SameD d h ∧ h ≠ (0, 0) := by
  intro l
  induction l generalizing d with
  | nil => intro h0; exact ⟨d, [], rfl, SameD.refl d, h0 d (by simp)⟩
  | cons e l ih =>
    intro h0
    obtain ⟨h, t, e1, e2, e3⟩ := ih e fun x hx => h0 x (List.mem_cons_of_mem _ hx)
    have hd := h0 d (by simp)
    have he := h0 e (by simp)
    unfold runs
    split
    · rename_i hs
      have k := SameD.trans hd he e3 ((angP_zero _ _).1 hs) e2
      rw [e1]
      exact ⟨_, _, rfl, (same_add hd e3 k).1, (same_add hd e3 k).2⟩
    · exact ⟨_, _, rfl, SameD.refl d, hd⟩
theorem runs_sum {f : Pt → Int} (hf : ∀ a b, f (addP a b) = f a + f b) : ∀ l, sumF f (runs l) = sumF f l
  | [] => rfl
  | [d] => rfl
  | d :: e :: l => by
    have ih := runs_sum hf (e :: l)
    unfold runs
    split
    · show _ = f d + sumF f (e :: l)
      rw [← ih]
      cases runs (e :: l) with
      | nil => rfl
      | cons h t => simp only [addHead, sumF, hf]; omega
    · simp only [sumF] at ih ⊢; omega
theorem runs_filter {f : Pt → Int} (hf : ∀ a b, f (addP a b) = f a + f b) {r : Pt} (hr : r ≠ (0, 0)) : ∀ l, (∀ x ∈ l, x ≠ (0, 0)) → sumF f ((runs l).filter fun x => ltB x r) = sumF f (l.filter fun x => ltB x r)
  | [], _ => rfl
  | [d], _ => rfl
  | d :: e :: l, h0 => by
    have h1 : ∀ x ∈ e :: l, x ≠ (0, 0) := fun x hx => h0 x (List.mem_cons_of_mem _ hx)
    have ih := runs_filter hf hr (e :: l) h1
    obtain ⟨h, t, e1, e2, e3⟩ := runs_cons e l h1
    have hd := h0 d (by simp)
    have he := h0 e (by simp)
    unfold runs
    split
    · rename_i hs
      have k := SameD.trans hd he e3 ((angP_zero _ _).1 hs) e2
      have k2 := same_add hd e3 k
      have q1 : ltB (addP h d) r = ltB d r := (same_lt hd k2.2 hr k2.1).symm
      have q2 : ltB h r = ltB d r := (same_lt hd e3 hr k).symm
      rw [e1] at ih ⊢
      simp only [addHead]
      cases hb : ltB d r with
      | true =>
        rw [List.filter_cons_of_pos (by simpa using q1.trans hb), List.filter_cons_of_pos (l := e :: l) (by simpa using hb)]
        rw [List.filter_cons_of_pos (by simpa using q2.trans hb)] at ih
        simp only [sumF, hf] at ih ⊢
        omega
      | false =>
        rw [List.filter_cons_of_neg (by simp [q1, hb]), List.filter_cons_of_neg (l := e :: l) (by simp [hb])]
        rw [List.filter_cons_of_neg (by simp [q2, hb])] at ih
        exact ih
    · cases hb : ltB d r with
      | true =>
        rw [List.filter_cons_of_pos (by simpa using hb), List.filter_cons_of_pos (l := e :: l) (by simpa using hb)]
        simp only [sumF, ih]
      | false =>
        rw [List.filter_cons_of_neg (by simp [hb]), List.filter_cons_of_neg (l := e :: l) (by simp [hb])]
        exact ih
theorem runs_mem : ∀ l, (∀ x ∈ l, x ≠ (0, 0)) → ∀ x ∈ runs l, x ≠ (0, 0) ∧ ∃ d ∈ l, SameD d x
  | [], _, _, hx => by simp [runs] at hx
  | [d], h0, x, hx => by
    simp [runs] at hx
    subst hx
    exact ⟨h0 x (by simp), x, by simp, SameD.refl x⟩
  | d :: e :: l, h0, x, hx => by
    have h1 : ∀ x ∈ e :: l, x ≠ (0, 0) := fun x hx => h0 x (List.mem_cons_of_mem _ hx)
    have ih := runs_mem (e :: l) h1
    obtain ⟨h, t, e1, e2, e3⟩ := runs_cons e l h1
    have hd := h0 d (by simp)
    have he := h0 e (by simp)
    unfold runs at hx
    split at hx
    · rename_i hs
      have k := SameD.trans hd he e3 ((angP_zero _ _).1 hs) e2
      have k2 := same_add hd e3 k
      rw [e1] at hx ih
      rcases List.mem_cons.1 hx with rfl | hx
      · exact ⟨k2.2, d, by simp, k2.1⟩
      · obtain ⟨g0, y, hy, g⟩ := ih x (by simp [hx])
        exact ⟨g0, y, List.mem_cons_of_mem _ hy, g⟩
    · rcases List.mem_cons.1 hx with rfl | hx
      · exact ⟨hd, x, by simp, SameD.refl x⟩
      · obtain ⟨g0, y, hy, g⟩ := ih x hx
        exact ⟨g0, y, List.mem_cons_of_mem _ hy, g⟩
theorem mem_runs : ∀ l, (∀ x ∈ l, x ≠ (0, 0)) → ∀ d ∈ l, ∃ x ∈ runs l, SameD d x
  | [], _, _, hx => by simp at hx
  | [d], _, x, hx => by
    simp at hx
    subst hx
    exact ⟨x, by simp [runs], SameD.refl x⟩
  | d :: e :: l, h0, x, hx => by
    have h1 : ∀ x ∈ e :: l, x ≠ (0, 0) := fun x hx => h0 x (List.mem_cons_of_mem _ hx)
    have ih := mem_runs (e :: l) h1
    obtain ⟨h, t, e1, e2, e3⟩ := runs_cons e l h1
    have hd := h0 d (by simp)
    have he := h0 e (by simp)
    unfold runs
    split
    · rename_i hs
      have k := SameD.trans hd he e3 ((angP_zero _ _).1 hs) e2
      have k2 := same_add hd e3 k
      rw [e1] at ih ⊢
      rcases List.mem_cons.1 hx with rfl | hx2
      · exact ⟨_, List.mem_cons_self, k2.1⟩
      · obtain ⟨y, hy, g⟩ := ih x hx2
        rcases List.mem_cons.1 hy with rfl | hy
        · refine ⟨_, List.mem_cons_self, ?_⟩
          exact SameD.trans (h1 x hx2) e3 k2.2 g (SameD.trans e3 hd k2.2 k.symm k2.1)
        · exact ⟨y, List.mem_cons_of_mem _ hy, g⟩
    · rcases List.mem_cons.1 hx with rfl | hx
      · exact ⟨x, by simp, SameD.refl x⟩
      · obtain ⟨y, hy, g⟩ := ih x hx
        exact ⟨y, List.mem_cons_of_mem _ hy, g⟩
theorem runs_strict : ∀ l, (∀ x ∈ l, x ≠ (0, 0)) → l.Pairwise (fun a b => ¬ ltA b a) → (runs l).Pairwise ltA
  | [], _, _ => List.Pairwise.nil
  | [d], _, _ => by simp [runs]
  | d :: e :: l, h0, hs => by
    have h1 : ∀ x ∈ e :: l, x ≠ (0, 0) := fun x hx => h0 x (List.mem_cons_of_mem _ hx)
    rw [List.pairwise_cons] at hs
    have ih := runs_strict (e :: l) h1 hs.2
    obtain ⟨h, t, e1, e2, e3⟩ := runs_cons e l h1
    have hd := h0 d (by simp)
    have he := h0 e (by simp)
    unfold runs
    split
    · rename_i hz
      have k := SameD.trans hd he e3 ((angP_zero _ _).1 hz) e2
      have k2 := same_add hd e3 k
      have hm := runs_mem (e :: l) h1
      rw [e1] at ih hm ⊢
      rw [List.pairwise_cons] at ih
      refine List.pairwise_cons.2 ⟨fun x hx => ?_, ih.2⟩
      have q := SameD.trans e3 hd k2.2 k.symm k2.1
      exact lt_left k2.2 e3 (hm x (by simp [hx])).1 q.1 (ih.1 x hx)
    · rename_i hz
      refine List.pairwise_cons.2 ⟨fun x hx => ?_, ih⟩
      obtain ⟨x0, y, hy, hsm⟩ := runs_mem (e :: l) h1 x hx
      have de : ltA d e := Classical.byContradiction fun n => hz ((angP_zero _ _).2 ⟨n, hs.1 e (by simp)⟩)
      have dy : ltA d y := by
        rcases List.mem_cons.1 hy with rfl | hy2
        · exact de
        · rw [List.pairwise_cons] at hs
          exact lt_right hd he (h1 y hy) de (hs.2.1 y hy2)
      exact lt_right hd (h1 y hy) x0 dy hsm.2
/-- the walk of sum is the one along the runs -/
def walkL (a : Pt) : Option Pt → List Pt → List Pt
  | _, [] => []
  | none, d :: l => a :: walkL (addP d a) (some d) l
  | some p, d :: l => if angP p d ≠ 0 then a :: walkL (addP d a) (some d) l else walkL (addP d a) (some d) l
theorem starts_add (h p a : Pt) : addP (addP h p) a = addP h (addP p a) := by
  unfold addP; simp only [Prod.mk.injEq]; omega
theorem walkL_runs : ∀ (l : List Pt) (p a : Pt), walkL (addP p a) (some p) l = (starts a (runs (p :: l))).tail
  | [], p, a => rfl
  | e :: l, p, a => by
    have ih := walkL_runs l e (addP p a)
    unfold walkL runs
    rw [ih]
    have hne : ∃ h t, runs (e :: l) = h :: t := by
      cases l with
      | nil => exact ⟨e, [], rfl⟩
      | cons f l =>
        unfold runs
        split
        · cases runs (f :: l) with
          | nil => exact ⟨_, _, rfl⟩
          | cons h t => exact ⟨_, _, rfl⟩
        · exact ⟨_, _, rfl⟩
    obtain ⟨h, t, ht⟩ := hne
    by_cases hz : angP p e = 0
    · rw [if_neg (by simpa using hz), if_pos hz, ht]
      simp only [starts, addHead, List.tail_cons, starts_add]
    · rw [if_pos hz, if_neg hz, ht]
      simp only [starts, List.tail_cons]
theorem walkK_L (a : Pt) (ds : List Pt) : ∀ k, k ≤ ds.length → (walkK a ds k).1 ++ walkL (walkK a ds k).2 (if k = 0 then none else some (fromP ds (k - 1))) (ds.drop k) = walkL a none ds := by
  intro k
  induction k with
  | zero => intro _; simp [walkK]
  | succ k ih =>
    intro hk
    have h1 := ih (by omega)
    rw [← h1]
    have hd : ds.drop k = fromP ds k :: ds.drop (k + 1) := by
      rw [List.drop_eq_getElem_cons (by omega)]
      unfold fromP
      rw [List.getD_eq_getElem?_getD, List.getElem?_eq_getElem (by omega)]
      rfl
    rw [hd]
    simp only [walkK, Nat.add_sub_cancel]
    rw [if_neg (show ¬ k + 1 = 0 by omega)]
    by_cases h0 : k = 0
    · subst h0
      simp [walkL]
    · rw [if_neg h0]
      by_cases hz : angP (fromP ds (k - 1)) (fromP ds k) = 0
      · simp [walkL, h0, hz]
      · simp [walkL, h0, hz]
theorem walk_runs (a : Pt) (ds : List Pt) : (walkK a ds ds.length).1 = starts a (runs ds) := by
  have h := walkK_L a ds ds.length (Nat.le_refl _)
  rw [List.drop_length] at h
  have e : ∀ b o, walkL b o [] = [] := fun b o => by cases o <;> rfl
  rw [e, List.append_nil] at h
  rw [h]
  cases ds with
  | nil => rfl
  | cons d l =>
    simp only [walkL]
    rw [walkL_runs]
    cases l with
    | nil => rfl
    | cons f l =>
      unfold runs
      split
      · cases runs (f :: l) with
        | nil => rfl
        | cons h t => rfl
      · rfl
end Go.Proofs.Ytnpebfchojalcaa

namespace Go.Proofs.Ytnpebfchojalcaa
open Go.RowKit
def Lin (f : Pt → Int) : Prop := ∀ a b, f (addP a b) = f a + f b
theorem lin_fst : Lin fun x => x.1 := fun a b => by simp only [addP]; omega
theorem lin_snd : Lin fun x => x.2 := fun a b => by simp only [addP]; omega
theorem lin_left (u : Pt) : Lin fun x => crossP u x := fun a b => by simp only [crossP, crossZ, addP]; grind
theorem lin_right (u : Pt) : Lin fun x => crossP x u := fun a b => by simp only [crossP, crossZ, addP]; grind
theorem lin_lr {f : Pt → Int} (hf : Lin f) (ps : List Pt) (k : Nat) : f (toP ps k) = f (fromP ps k) + f (stepP ps k) := by
  have : toP ps k = addP (stepP ps k) (fromP ps k) := by
    unfold addP stepP; exact Prod.ext (by simp only; omega) (by simp only; omega)
  rw [this, hf]; omega
theorem take_steps (ps : List Pt) {k : Nat} (hk : k ≤ ps.length) : (stepsOf ps).take k = stepsTo ps k := by
  unfold stepsOf stepsTo
  rw [← List.map_take, List.take_range, Nat.min_eq_left hk]
theorem path_get {f : Pt → Int} (hf : Lin f) (ps : List Pt) : ∀ k, k < ps.length → f (fromP ps k) = f (fromP ps 0) + sumF f ((stepsOf ps).take k) := by
  intro k
  induction k with
  | zero => intro _; simp [sumF]
  | succ k ih =>
    intro hk
    have h1 := ih (by omega)
    rw [take_steps ps (by omega)] at h1 ⊢
    rw [stepsTo_succ, sumF_append]
    have h2 := lin_lr hf ps k
    have h3 : toP ps k = fromP ps (k + 1) := by unfold toP fromP; rw [Nat.mod_eq_of_lt hk]
    rw [h3] at h2
    simp only [sumF]
    omega
theorem path_sum {f : Pt → Int} (hf : Lin f) (ps : List Pt) : sumF f (stepsOf ps) = 0 := by
  by_cases h0 : ps.length = 0
  · have : stepsOf ps = [] := List.eq_nil_of_length_eq_zero (by rw [stepsOf_length, h0])
    rw [this]; rfl
  obtain ⟨m, hm⟩ : ∃ m, ps.length = m + 1 := ⟨ps.length - 1, by omega⟩
  have h1 := path_get hf ps m (by omega)
  have h2 := lin_lr hf ps m
  have h3 : toP ps m = fromP ps 0 := by unfold toP fromP; rw [← hm, Nat.mod_self]
  rw [take_steps ps (by omega)] at h1
  have h4 : stepsOf ps = stepsTo ps m ++ [stepP ps m] := by rw [← stepsTo_succ, ← hm]; rfl
  rw [h4, sumF_append]
  rw [h3] at h2
  simp only [sumF]
  omega
theorem starts_length : ∀ (a : Pt) (l : List Pt), (starts a l).length = l.length
  | _, [] => rfl
  | a, d :: l => by simp only [starts, List.length_cons, starts_length]
theorem starts_get {f : Pt → Int} (hf : Lin f) : ∀ (l : List Pt) (a : Pt) (k : Nat), k < l.length → f (fromP (starts a l) k) = f a + sumF f (l.take k)
  | [], _, _, h => by simp at h
  | d :: l, a, 0, _ => by show f a = f a + 0; omega
  | d :: l, a, k + 1, h => by
    have ih := starts_get hf l (addP d a) k (by simpa using h)
    show f (fromP (starts (addP d a) l) k) = _
    rw [ih, hf]
    simp only [List.take_succ_cons, sumF]
    omega
theorem pt_ext {a b : Pt} (h1 : a.1 = b.1) (h2 : a.2 = b.2) : a = b := Prod.ext h1 h2
theorem take_one {l : List Pt} {k : Nat} (h : k < l.length) : l.take (k + 1) = l.take k ++ [fromP l k] := by
  rw [List.take_add_one, List.getElem?_eq_getElem h]
  unfold fromP
  rw [List.getD_eq_getElem?_getD, List.getElem?_eq_getElem h]
  rfl
theorem starts_step {a : Pt} {l : List Pt} (h1 : sumF (fun x => x.1) l = 0) (h2 : sumF (fun x => x.2) l = 0) {k : Nat} (hk : k < l.length) : stepP (starts a l) k = fromP l k := by
  have key : ∀ f : Pt → Int, Lin f → sumF f l = 0 → f (toP (starts a l) k) - f (fromP (starts a l) k) = f (fromP l k) := by
    intro f hf hz
    have hto : toP (starts a l) k = fromP (starts a l) ((k + 1) % l.length) := by unfold toP fromP; rw [starts_length]
    rw [hto, starts_get hf l a _ (Nat.mod_lt _ (by omega)), starts_get hf l a _ hk]
    by_cases he : k + 1 = l.length
    · rw [he, Nat.mod_self, List.take_zero]
      have : l = l.take k ++ [fromP l k] := by rw [← take_one hk, he, List.take_length]
      rw [this, sumF_append] at hz
      simp only [sumF] at hz ⊢
      omega
    · rw [Nat.mod_eq_of_lt (by omega), take_one hk, sumF_append]
      simp only [sumF]
      omega
  exact pt_ext (key _ lin_fst h1) (key _ lin_snd h2)
theorem starts_steps {a : Pt} {l : List Pt} (h1 : sumF (fun x => x.1) l = 0) (h2 : sumF (fun x => x.2) l = 0) : stepsOf (starts a l) = l := by
  apply List.ext_getElem?
  intro i
  by_cases hi : i < l.length
  · have : (stepsOf (starts a l))[i]? = some (stepP (starts a l) i) := by
      unfold stepsOf
      rw [List.getElem?_map, List.getElem?_range (by rw [starts_length]; exact hi)]
      rfl
    rw [this, starts_step h1 h2 hi, List.getElem?_eq_getElem hi]
    unfold fromP
    rw [List.getD_eq_getElem?_getD, List.getElem?_eq_getElem hi]
    rfl
  · rw [List.getElem?_eq_none (by rw [stepsOf_length, starts_length]; omega), List.getElem?_eq_none (by omega)]
theorem sumF_zero {f : Pt → Int} : ∀ {l : List Pt}, (∀ x ∈ l, f x ≤ 0) → sumF f l = 0 → ∀ x ∈ l, f x = 0
  | [], _, _, x, hx => by simp at hx
  | y :: l, h, hz, x, hx => by
    have h1 := h y (by simp)
    have h2 := sumF_neg (l := l) fun z hz' => h z (by simp [hz'])
    simp only [sumF] at hz
    rcases List.mem_cons.1 hx with rfl | hx
    · omega
    · exact sumF_zero (fun z hz' => h z (by simp [hz'])) (by omega) x hx
theorem flat {u : Pt} (hu : u ≠ (0, 0)) {l : List Pt} (h : ∀ x ∈ l, crossP u x ≤ 0) (hz : sumF (fun x => crossP u x) l = 0) : ∀ x ∈ l, ∀ y ∈ l, crossP x y = 0 := by
  intro x hx y hy
  have hx0 := sumF_zero h hz x hx
  have hy0 := sumF_zero h hz y hy
  unfold crossP crossZ at *
  by_cases h2 : u.2 = 0
  · have h1 : u.1 ≠ 0 := fun e => hu (pt_ext e h2)
    have : u.1 * (x.1 * y.2 - x.2 * y.1) = 0 := by grind
    exact (Int.mul_eq_zero.1 this).resolve_left h1
  · have : u.2 * (x.1 * y.2 - x.2 * y.1) = 0 := by grind
    exact (Int.mul_eq_zero.1 this).resolve_left h2
theorem cross_anti (a b : Pt) : crossP b a = -crossP a b := by unfold crossP crossZ; grind
theorem cross_self (a : Pt) : crossP a a = 0 := by unfold crossP crossZ; grind
theorem lt_cross {a b : Pt} (h : ltA a b) (hs : sinksB a.1 a.2 = sinksB b.1 b.2) : 0 < crossP a b := by
  rcases h with ⟨h1, h2⟩ | ⟨_, h⟩
  · rw [h1, h2] at hs; cases hs
  · exact h
theorem lt_up {a b : Pt} (h : ltA a b) (hb : sinksB b.1 b.2 = false) : sinksB a.1 a.2 = false := by
  rcases h with ⟨_, h2⟩ | ⟨h1, _⟩
  · rw [h2] at hb; cases hb
  · rw [h1, hb]
theorem lt_down {a b : Pt} (h : ltA a b) (ha : sinksB a.1 a.2 = true) : sinksB b.1 b.2 = true := by
  rcases h with ⟨h1, _⟩ | ⟨h1, _⟩
  · rw [h1] at ha; cases ha
  · rw [← h1, ha]
theorem neg_up {a : Pt} (h : sinksB a.1 a.2 = true) : 0 < (negP a).2 ∨ ((negP a).2 = 0 ∧ 0 < (negP a).1) := down_up (down_of h)
theorem from_mem {l : List Pt} {k : Nat} (h : k < l.length) : fromP l k ∈ l := by
  unfold fromP
  rw [List.getD_eq_getElem?_getD, List.getElem?_eq_getElem h]
  exact List.getElem_mem _
theorem mem_from {l : List Pt} {x : Pt} (h : x ∈ l) : ∃ k, k < l.length ∧ fromP l k = x := by
  obtain ⟨k, hk, e⟩ := List.getElem_of_mem h
  refine ⟨k, hk, ?_⟩
  unfold fromP
  rw [List.getD_eq_getElem?_getD, List.getElem?_eq_getElem hk, ← e]
  rfl
theorem pair_lt {R : Pt → Pt → Prop} {l : List Pt} (h : l.Pairwise R) {i j : Nat} (hij : i < j) (hj : j < l.length) : R (fromP l i) (fromP l j) := by
  have := List.pairwise_iff_getElem.1 h i j (by omega) hj hij
  unfold fromP
  rw [List.getD_eq_getElem?_getD, List.getD_eq_getElem?_getD, List.getElem?_eq_getElem hj, List.getElem?_eq_getElem (show i < l.length by omega)]
  exact this
/-- strictly sorted directions that add up to nothing turn to the left everywhere, unless they lie on one line -/
theorem turns {l : List Pt} (h0 : ∀ x ∈ l, x ≠ (0, 0)) (hs : l.Pairwise ltA) (hz : ∀ f, Lin f → sumF f l = 0) (hc : ∃ x ∈ l, ∃ y ∈ l, crossP x y ≠ 0) :
    3 ≤ l.length ∧ ∀ i, i < l.length → 0 < crossP (fromP l (prevI l.length i)) (fromP l i) := by
  obtain ⟨x0, hx0, y0, hy0, hne⟩ := hc
  have no : ∀ u ∈ l, ¬ ∀ x ∈ l, crossP u x ≤ 0 := fun u hu h => hne (flat (h0 u hu) h (hz _ (lin_left u)) x0 hx0 y0 hy0)
  have hn : 0 < l.length := List.length_pos_of_mem hx0
  have ht : ∀ i, i < l.length → 0 < crossP (fromP l (prevI l.length i)) (fromP l i) := by
    intro i hi
    refine Classical.byContradiction fun hle => ?_
    by_cases hi0 : i = 0
    · subst hi0
      have e : prevI l.length 0 = l.length - 1 := rfl
      rw [e] at hle
      refine no (fromP l (l.length - 1)) (from_mem (by omega)) fun x hx => ?_
      obtain ⟨k, hk, rfl⟩ := mem_from hx
      by_cases hkl : k = l.length - 1
      · subst hkl; have := cross_self (fromP l (l.length - 1)); omega
      · have h1 := pair_lt hs (show k < l.length - 1 by omega) (by omega)
        by_cases hsk : sinksB (fromP l k).1 (fromP l k).2 = sinksB (fromP l (l.length - 1)).1 (fromP l (l.length - 1)).2
        · have := lt_cross h1 hsk
          have := cross_anti (fromP l k) (fromP l (l.length - 1))
          omega
        · rcases h1 with ⟨ku, kd⟩ | ⟨k1, _⟩
          · by_cases hk0 : k = 0
            · subst hk0; omega
            · have h2 := pair_lt hs (show 0 < k by omega) hk
              have h3 := lt_up h2 ku
              have h4 := lt_cross h2 (by rw [h3, ku])
              have q1 := cross_anti (fromP l k) (fromP l (l.length - 1))
              have q2 := cross_anti (fromP l 0) (fromP l (l.length - 1))
              have n1 := up_ntrans (a := fromP l k) (b := fromP l 0) (c := negP (fromP l (l.length - 1))) (up_of ku (h0 _ (from_mem hk))) (up_of h3 (h0 _ (from_mem hn))) (neg_up kd)
                (by have := cross_anti (fromP l 0) (fromP l k); unfold crossP at *; omega) (by have := cross_neg2 (fromP l 0) (fromP l (l.length - 1)); unfold crossP at *; omega)
              have := cross_neg2 (fromP l k) (fromP l (l.length - 1))
              unfold crossP at *
              omega
          · exact absurd k1 hsk
    · have e : prevI l.length i = i - 1 := by unfold prevI; rw [if_neg hi0]
      rw [e] at hle
      have h1 := pair_lt hs (show i - 1 < i by omega) hi
      have hud : sinksB (fromP l (i - 1)).1 (fromP l (i - 1)).2 = false ∧ sinksB (fromP l i).1 (fromP l i).2 = true := by
        rcases h1 with h1 | ⟨_, h1⟩
        · exact h1
        · unfold crossP at hle; omega
      refine no (fromP l (i - 1)) (from_mem (by omega)) fun x hx => ?_
      obtain ⟨k, hk, rfl⟩ := mem_from hx
      rcases Nat.lt_trichotomy k (i - 1) with hki | hki | hki
      · have h2 := pair_lt hs hki (by omega)
        have h3 := lt_up h2 hud.1
        have := lt_cross h2 (by rw [h3, hud.1])
        have := cross_anti (fromP l k) (fromP l (i - 1))
        omega
      · subst hki; have := cross_self (fromP l (i - 1)); omega
      · by_cases hki2 : k = i
        · subst hki2; omega
        · have h2 := pair_lt hs (show i < k by omega) hk
          have h3 := lt_down h2 hud.2
          have h4 := lt_cross h2 (by rw [h3, hud.2])
          have n1 := up_ntrans (a := negP (fromP l k)) (b := negP (fromP l i)) (c := fromP l (i - 1)) (neg_up h3) (neg_up hud.2) (up_of hud.1 (h0 _ (from_mem (by omega))))
            (by have := crossP_neg (fromP l k) (fromP l i); have := cross_anti (fromP l i) (fromP l k); unfold crossP at *; omega)
            (by have := cross_neg2 (fromP l (i - 1)) (fromP l i); have := cross_anti (fromP l (i - 1)) (negP (fromP l i)); unfold crossP at *; omega)
          have := cross_neg2 (fromP l (i - 1)) (fromP l k)
          have := cross_anti (fromP l (i - 1)) (negP (fromP l k))
          unfold crossP at *
          omega
  refine ⟨?_, ht⟩
  refine Classical.byContradiction fun h3 => ?_
  have a0 := ht 0 hn
  have a1 := ht (l.length - 1) (by omega)
  have e : prevI l.length 0 = l.length - 1 := rfl
  rw [e] at a0
  by_cases h1 : l.length = 1
  · rw [h1] at a0
    have := cross_self (fromP l 0)
    simp only [Nat.sub_self] at a0
    omega
  · have h2 : l.length = 2 := by omega
    rw [h2] at a0 a1
    have e1 : prevI 2 (2 - 1) = 0 := rfl
    rw [e1] at a1
    have := cross_anti (fromP l 0) (fromP l (2 - 1))
    omega
end Go.Proofs.Ytnpebfchojalcaa

namespace Go.Proofs.Ytnpebfchojalcaa
open Go.RowKit
/-- the maximum of the direction to the right of r over a polygon -/
def hiP (ps : List Pt) (r : Pt) : Int := crossP (fromP ps 0) r + sumF (fun x => crossP x r) ((stepsOf ps).filter fun x => ltB x r)
def rt (r : Pt) : Pt := (r.2, -r.1)
theorem dot_rt (r x : Pt) : dotP (rt r) x = crossP x r := by unfold dotP dotV rt crossP crossZ; grind
/-- what a sorted closed walk is like -/
structure Rolls (ps : List Pt) : Prop where
  some : 0 < ps.length
  ne0 : ∀ x ∈ stepsOf ps, x ≠ (0, 0)
  sorted : (stepsOf ps).Pairwise fun a b => ¬ ltA b a
theorem steps_mem {ps : List Pt} {x : Pt} (h : x ∈ stepsOf ps) : ∃ k, k < ps.length ∧ x = stepP ps k := by
  unfold stepsOf at h
  obtain ⟨k, hk, e⟩ := List.mem_map.1 h
  exact ⟨k, List.mem_range.1 hk, e.symm⟩
theorem mem_steps {ps : List Pt} {k : Nat} (h : k < ps.length) : stepP ps k ∈ stepsOf ps := List.mem_map.2 ⟨k, List.mem_range.2 h, rfl⟩
theorem Around.rolls {ps : List Pt} (h : Around ps) : Rolls ps := by
  have hne : ∀ x ∈ stepsOf ps, x ≠ (0, 0) := fun x hx => by
    obtain ⟨k, hk, rfl⟩ := steps_mem hx
    exact h.ne0 hk
  refine ⟨by have := h.three; omega, hne, ?_⟩
  have key : ∀ d i, i + d + 1 < ps.length → ¬ ltA (stepP ps (i + d + 1)) (stepP ps i) := by
    intro d
    induction d with
    | zero => intro i hi; exact h.sorted i hi
    | succ d ih =>
      intro i hi
      exact ltA_ntrans (h.ne0 hi) (h.ne0 (show i + d + 1 < ps.length by omega)) (h.ne0 (by omega)) (h.sorted _ hi) (ih i (by omega))
  rw [List.pairwise_iff_getElem]
  intro i j hi hj hij
  rw [stepsOf_length] at hi hj
  simp only [stepsOf, List.getElem_map, List.getElem_range]
  have := key (j - i - 1) i (by omega)
  rwa [show i + (j - i - 1) + 1 = j by omega] at this
section
variable {ps : List Pt} {r : Pt}
theorem hi_le (h : Rolls ps) (hr : r ≠ (0, 0)) {j : Nat} (hj : j < ps.length) : crossP (fromP ps j) r ≤ hiP ps r := by
  have h1 := path_get (lin_right r) ps j hj
  have h2 := supp h.ne0 hr h.sorted (path_sum (lin_right r) ps) j
  unfold hiP
  omega
theorem hi_at (h : Rolls ps) (hr : r ≠ (0, 0)) : ∃ j, j < ps.length ∧ crossP (fromP ps j) r = hiP ps r := by
  obtain ⟨k, hk, e⟩ := filter_take hr h.ne0 h.sorted
  rw [stepsOf_length] at hk
  unfold hiP
  rw [e]
  by_cases hkn : k = ps.length
  · refine ⟨0, h.some, ?_⟩
    have := path_sum (lin_right r) ps
    rw [hkn, ← stepsOf_length, List.take_length]
    omega
  · refine ⟨k, by omega, ?_⟩
    have := path_get (lin_right r) ps k (by omega)
    omega
end
theorem filter_at {l : List Pt} (hs : l.Pairwise ltA) {k : Nat} (hk : k < l.length) : l.filter (fun x => ltB x (fromP l k)) = l.take k := by
  have hl : l = l.take k ++ l.drop k := (List.take_append_drop k l).symm
  have e1 : (l.take k).filter (fun x => ltB x (fromP l k)) = l.take k := by
    rw [List.filter_eq_self]
    intro x hx
    obtain ⟨i, hi, rfl⟩ := List.getElem_of_mem hx
    rw [List.length_take] at hi
    rw [ltB_iff, List.getElem_take]
    have := pair_lt hs (show i < k by omega) hk
    unfold fromP at this ⊢
    rw [List.getD_eq_getElem?_getD, List.getElem?_eq_getElem (show i < l.length by omega)] at this
    exact this
  have e2 : (l.drop k).filter (fun x => ltB x (fromP l k)) = [] := by
    rw [List.filter_eq_nil_iff]
    intro x hx h
    rw [ltB_iff] at h
    obtain ⟨i, hi, rfl⟩ := List.getElem_of_mem hx
    rw [List.length_drop] at hi
    rw [List.getElem_drop] at h
    have e : l[k + i] = fromP l (k + i) := by
      unfold fromP
      rw [List.getD_eq_getElem?_getD, List.getElem?_eq_getElem (by omega)]
      rfl
    rw [e] at h
    by_cases h0 : i = 0
    · subst h0; exact ltA_irrefl _ h
    · have g := pair_lt hs (show k < k + i by omega) (by omega)
      have c1 := sinksB (fromP l k).1 (fromP l k).2
      rcases h with ⟨a1, a2⟩ | ⟨a1, a2⟩
      · have := lt_down g a2; rw [a1] at this; cases this
      · have := lt_cross g a1.symm
        have := cross_anti (fromP l k) (fromP l (k + i))
        unfold crossP at *
        omega
  conv => lhs; arg 2; rw [hl]
  rw [List.filter_append, e1, e2, List.append_nil]
/-- two sorted closed walks merged -/
structure Merged (ps qs ds : List Pt) : Prop where
  p : Rolls ps
  q : Rolls qs
  s : Sorted ps qs ds
namespace Merged
variable {ps qs ds : List Pt}
theorem ne0 (h : Merged ps qs ds) : ∀ x ∈ ds, x ≠ (0, 0) := fun x hx => by
  rcases List.mem_append.1 (h.s.1.mem_iff.1 hx) with hx | hx
  · exact h.p.ne0 x hx
  · exact h.q.ne0 x hx
theorem sum0 (h : Merged ps qs ds) {f : Pt → Int} (hf : Lin f) : sumF f (runs ds) = 0 := by
  rw [runs_sum hf, sumF_perm h.s.1, sumF_append, path_sum hf, path_sum hf]; rfl
theorem strict (h : Merged ps qs ds) : (runs ds).Pairwise ltA := runs_strict ds h.ne0 h.s.2
theorem rne0 (h : Merged ps qs ds) : ∀ x ∈ runs ds, x ≠ (0, 0) := fun x hx => (runs_mem ds h.ne0 x hx).1
theorem sum_eq (ps qs ds : List Pt) : sumP ps qs ds = starts (addP (fromP qs 0) (fromP ps 0)) (runs ds) := walk_runs _ _
theorem steps (h : Merged ps qs ds) : stepsOf (sumP ps qs ds) = runs ds := by
  rw [sum_eq]; exact starts_steps (h.sum0 lin_fst) (h.sum0 lin_snd)
theorem slen (ps qs ds : List Pt) : (sumP ps qs ds).length = (runs ds).length := by rw [sum_eq, starts_length]
theorem step (h : Merged ps qs ds) {k : Nat} (hk : k < (runs ds).length) : stepP (sumP ps qs ds) k = fromP (runs ds) k := by
  rw [sum_eq]; exact starts_step (h.sum0 lin_fst) (h.sum0 lin_snd) hk
/-- maxima over a sum are the sums of the maxima -/
theorem hi (h : Merged ps qs ds) {r : Pt} (hr : r ≠ (0, 0)) : hiP (sumP ps qs ds) r = hiP ps r + hiP qs r := by
  unfold hiP
  rw [h.steps, runs_filter (f := fun x => crossP x r) (lin_right r) hr ds h.ne0, sumF_perm (h.s.1.filter _), List.filter_append, sumF_append]
  have hn : 0 < (runs ds).length := by
    obtain ⟨d, l, e⟩ : ∃ d l, ds = d :: l := by
      cases hd : ds with
      | nil =>
        have := h.s.1.length_eq
        rw [hd, List.length_append, stepsOf_length] at this
        have h1 := h.p.some
        simp only [List.length_nil] at this
        omega
      | cons d l => exact ⟨d, l, rfl⟩
    obtain ⟨x, t, e2, _⟩ := runs_cons d l (by rw [← e]; exact h.ne0)
    rw [e, e2]; simp
  have e0 := starts_get (f := fun x => crossP x r) (lin_right r) (runs ds) (addP (fromP qs 0) (fromP ps 0)) 0 hn
  rw [← sum_eq, List.take_zero] at e0
  have e1 : crossP (addP (fromP qs 0) (fromP ps 0)) r = crossP (fromP qs 0) r + crossP (fromP ps 0) r := lin_right r _ _
  simp only [sumF] at e0
  omega
theorem at_edge (h : Merged ps qs ds) {k : Nat} (hk : k < (runs ds).length) : crossP (fromP (sumP ps qs ds) k) (fromP (runs ds) k) = hiP ps (fromP (runs ds) k) + hiP qs (fromP (runs ds) k) := by
  have hr := h.rne0 _ (from_mem hk)
  rw [← h.hi hr]
  have e := path_get (lin_right (fromP (runs ds) k)) (sumP ps qs ds) k (by rw [slen]; exact hk)
  unfold hiP
  rw [h.steps, filter_at h.strict hk]
  rw [h.steps] at e
  exact e
end Merged
theorem sum_around {ps qs ds : List Pt} (hp : Around ps) (hq : Around qs) (hs : Sorted ps qs ds) : Around (sumP ps qs ds) := by
  have h : Merged ps qs ds := ⟨hp.rolls, hq.rolls, hs⟩
  have hc : ∃ x ∈ runs ds, ∃ y ∈ runs ds, crossP x y ≠ 0 := by
    have hn := hp.three
    have m0 : stepP ps (prevI ps.length 1) ∈ ds := hs.1.mem_iff.2 (List.mem_append_left _ (mem_steps (by show 0 < ps.length; omega)))
    have m1 : stepP ps 1 ∈ ds := hs.1.mem_iff.2 (List.mem_append_left _ (mem_steps (by omega)))
    obtain ⟨x, hx, e1⟩ := mem_runs ds h.ne0 _ m0
    obtain ⟨y, hy, e2⟩ := mem_runs ds h.ne0 _ m1
    refine ⟨x, hx, y, hy, fun hz => ?_⟩
    have ht := hp.turn 1 (by omega)
    have z0 := h.ne0 _ m0
    have z1 := h.ne0 _ m1
    have zx := h.rne0 _ hx
    have zy := h.rne0 _ hy
    generalize stepP ps (prevI ps.length 1) = a at *
    generalize stepP ps 1 = b at *
    have c1 := ((same_iff _ _).1 e1).2
    have c2 := ((same_iff _ _).1 e2).2
    have hl : ∀ z ∈ [a, b], crossP x z = 0 := by
      have ya : crossP x a = 0 := by have := cross_anti a x; omega
      have yb : crossP y b = 0 := by have := cross_anti b y; omega
      intro z hz2
      simp at hz2
      rcases hz2 with rfl | rfl
      · exact ya
      · unfold crossP crossZ at *
        by_cases h2 : y.2 = 0
        · have h1 : y.1 ≠ 0 := fun e => zy (pt_ext e h2)
          have : y.1 * (x.1 * z.2 - x.2 * z.1) = 0 := by grind
          exact (Int.mul_eq_zero.1 this).resolve_left h1
        · have : y.2 * (x.1 * z.2 - x.2 * z.1) = 0 := by grind
          exact (Int.mul_eq_zero.1 this).resolve_left h2
    have ha := hl a (by simp)
    have hb := hl b (by simp)
    have : crossP a b = 0 := by
      unfold crossP crossZ at *
      by_cases h2 : x.2 = 0
      · have h1 : x.1 ≠ 0 := fun e => zx (pt_ext e h2)
        have : x.1 * (a.1 * b.2 - a.2 * b.1) = 0 := by grind
        exact (Int.mul_eq_zero.1 this).resolve_left h1
      · have : x.2 * (a.1 * b.2 - a.2 * b.1) = 0 := by grind
        exact (Int.mul_eq_zero.1 this).resolve_left h2
    omega
  obtain ⟨t3, tt⟩ := turns h.rne0 h.strict (fun f hf => h.sum0 hf) hc
  refine ⟨by rw [Merged.slen]; exact t3, fun i hi => ?_, fun i hi => ?_⟩
  · rw [Merged.slen] at hi ⊢
    rw [h.step hi, h.step (by unfold prevI; split <;> omega)]
    exact tt i hi
  · rw [Merged.slen] at hi
    rw [h.step hi, h.step (by omega)]
    have g := pair_lt h.strict (show i < i + 1 by omega) hi
    intro k
    rcases k with ⟨a1, a2⟩ | ⟨a1, a2⟩
    · have := lt_down g a2; rw [a1] at this; cases this
    · have := lt_cross g a1.symm
      have := cross_anti (fromP (runs ds) i) (fromP (runs ds) (i + 1))
      unfold crossP at *
      omega
end Go.Proofs.Ytnpebfchojalcaa

namespace Go.Proofs.Ytnpebfchojalcaa
open Go.RowKit
theorem up_scale {x y v : Pt} (hx : 0 < x.2 ∨ (x.2 = 0 ∧ 0 < x.1)) (hy : 0 < y.2 ∨ (y.2 = 0 ∧ 0 < y.1)) (hz : crossP x y = 0) (h : 0 ≤ crossP v x) : 0 ≤ crossP v y := by
  unfold crossP crossZ at *
  rcases hx with hx | ⟨hx, hx1⟩
  · have hy2 : 0 < y.2 := by
      rcases hy with hy | ⟨hy, hy1⟩
      · exact hy
      · rw [hy] at hz
        have := Int.mul_pos hx hy1
        grind
    have h1 : 0 ≤ (v.1 * x.2 - v.2 * x.1) * y.2 := Int.mul_nonneg h (by omega)
    have h2 : (v.1 * y.2 - v.2 * y.1) * x.2 = (v.1 * x.2 - v.2 * x.1) * y.2 := by grind
    rw [← h2] at h1
    refine Classical.byContradiction fun n => ?_
    have := Int.mul_neg_of_neg_of_pos (show v.1 * y.2 - v.2 * y.1 < 0 by omega) hx
    omega
  · have hy2 : y.2 = 0 := by
      rcases hy with hy | hy
      · rw [hx] at hz
        have := Int.mul_pos hx1 hy
        grind
      · exact hy.1
    have hy1 : 0 < y.1 := by omega
    rw [hx] at h
    rw [hy2]
    have h1 : v.2 * x.1 ≤ 0 := by grind
    have h2 : v.2 ≤ 0 := Classical.byContradiction fun n => by
      have := Int.mul_pos (show 0 < v.2 by omega) hx1
      omega
    have := Int.mul_nonpos_of_nonpos_of_nonneg h2 (show 0 ≤ y.1 by omega)
    grind
theorem same_scale {x y v : Pt} (hx : x ≠ (0, 0)) (hy : y ≠ (0, 0)) (h : SameD x y) (hv : 0 ≤ crossP v x) : 0 ≤ crossP v y := by
  obtain ⟨h1, h2⟩ := (same_iff _ _).1 h
  cases hs : sinksB x.1 x.2 with
  | false => exact up_scale (up_of hs hx) (up_of (h1.symm.trans hs) hy) h2 hv
  | true =>
    have := up_scale (v := negP v) (neg_up hs) (neg_up (h1.symm.trans hs)) (by rw [crossP_neg]; exact h2) (by rw [crossP_neg]; exact hv)
    rwa [crossP_neg] at this
theorem sep_scale {ps qs : List Pt} {x y : Pt} (hx : x ≠ (0, 0)) (hy : y ≠ (0, 0)) (h : SameD x y) (hs : sepBy ps qs (rt x)) : sepBy ps qs (rt y) := by
  intro i j hi hj
  have h1 := hs i j hi hj
  rw [dot_rt, dot_rt] at h1 ⊢
  have key : ∀ r, crossP ((fromP qs j).1 - (fromP ps i).1, (fromP qs j).2 - (fromP ps i).2) r = crossP (fromP qs j) r - crossP (fromP ps i) r := fun r => by
    unfold crossP crossZ; grind
  have := same_scale (v := ((fromP qs j).1 - (fromP ps i).1, (fromP qs j).2 - (fromP ps i).2)) hx hy h (by rw [key]; omega)
  rw [key] at this
  omega
theorem neg_left (a b : Pt) : crossP (negP a) b = -crossP a b := by unfold crossP crossZ negP; grind
/-- a direction separates two polygons just if the maxima over the one and over the other, flipped, come to no more than zero -/
theorem sep_hi {ps qs : List Pt} (hp : Rolls ps) (hq : Rolls (flipP qs)) (h0 : 0 < qs.length) {r : Pt} (hr : r ≠ (0, 0)) : sepBy ps qs (rt r) ↔ hiP ps r + hiP (flipP qs) r ≤ 0 := by
  constructor
  · intro h
    obtain ⟨i, hi, e1⟩ := hi_at hp hr
    obtain ⟨j, hj, e2⟩ := hi_at hq hr
    rw [flip_length h0] at hj
    rw [from_flip hj, neg_left] at e2
    have := h i _ hi (Nat.mod_lt (j + flipS qs) h0)
    rw [dot_rt, dot_rt] at this
    omega
  · intro h i j hi hj
    rw [dot_rt, dot_rt]
    have e1 := hi_le hp hr hi
    obtain ⟨k, hk, e⟩ := turn_back (flipS_lt h0) hj
    have e2 := hi_le hq hr (show k < (flipP qs).length by rw [flip_length h0]; exact hk)
    rw [from_flip hk, e, neg_left] at e2
    omega
theorem placeK_one (ps : List Pt) (x y : Int) : ∀ k, (placeK ps x y k = 1 ↔ ∀ j, j < k → 0 < sideK ps x y j) := by
  intro k
  induction k with
  | zero => exact ⟨fun _ j hj => by omega, fun _ => rfl⟩
  | succ k ih =>
    have hb := placeK_bd ps x y k
    have hs := sgnZ_bd (sideK ps x y k) 0
    have e : sgnZ (sideK ps x y k) 0 = 1 ↔ 0 < sideK ps x y k := by
      unfold sgnZ
      split <;> (try split) <;> omega
    have hm : placeK ps x y (k + 1) = 1 ↔ placeK ps x y k = 1 ∧ sgnZ (sideK ps x y k) 0 = 1 := by
      simp only [placeK]
      omega
    rw [hm, ih, e]
    constructor
    · rintro ⟨h1, h2⟩ j hj
      by_cases hjk : j = k
      · subst hjk; exact h2
      · exact h1 j (by omega)
    · intro h
      exact ⟨fun j hj => h j (by omega), h k (by omega)⟩
theorem dirP_rt (ps : List Pt) (k : Nat) : dirP ps k = rt (stepP ps k) := rfl
theorem dirQ_rt (qs : List Pt) (k : Nat) : dirQ qs k = rt (negP (stepP qs k)) := by
  unfold dirQ rt negP; simp
theorem overlap_true {ps qs : List Pt} (h1 : 0 < ps.length) (h2 : 0 < qs.length) : overlapB ps qs = true ↔ (∀ k, k < ps.length → ¬ sepBy ps qs (dirP ps k)) ∧ ∀ k, k < qs.length → ¬ sepBy ps qs (dirQ qs k) := by
  have h := overlap_iff (ps := ps) (qs := qs) h1 h2
  constructor
  · intro ht
    refine ⟨fun k hk hs => ?_, fun k hk hs => ?_⟩
    · rw [h.2 (.inl ⟨k, hk, hs⟩)] at ht; cases ht
    · rw [h.2 (.inr ⟨k, hk, hs⟩)] at ht; cases ht
  · rintro ⟨g1, g2⟩
    cases hc : overlapB ps qs with
    | true => rfl
    | false =>
      rcases h.1 hc with ⟨k, hk, hs⟩ | ⟨k, hk, hs⟩
      · exact absurd hs (g1 k hk)
      · exact absurd hs (g2 k hk)
/-- zero lies in the interior of the sum of one and the flip of the other just if they overlap -/
theorem place_sum {ps qs ds : List Pt} (hp : Around ps) (hq : Around qs) (hs : Sorted ps (flipP qs) ds) : placeZ (sumP ps (flipP qs) ds) 0 0 = 1 ↔ overlapB ps qs = true := by
  have hf := around_flip hq
  have h : Merged ps (flipP qs) ds := ⟨hp.rolls, hf.rolls, hs⟩
  have h0 : 0 < qs.length := by have := hq.three; omega
  have hside : ∀ k, k < (runs ds).length → (0 < sideK (sumP ps (flipP qs) ds) 0 0 k ↔ ¬ sepBy ps qs (rt (fromP (runs ds) k))) := by
    intro k hk
    have hr := h.rne0 _ (from_mem hk)
    rw [sep_hi hp.rolls hf.rolls h0 hr, ← h.at_edge hk]
    have : sideK (sumP ps (flipP qs) ds) 0 0 k = crossP (fromP (sumP ps (flipP qs) ds) k) (fromP (runs ds) k) := by
      unfold sideK
      rw [h.step hk]
      unfold crossP crossZ
      grind
    rw [this]
    omega
  unfold placeZ
  rw [placeK_one, Merged.slen, overlap_true hp.rolls.some h0]
  have hall : (∀ k, k < (runs ds).length → 0 < sideK (sumP ps (flipP qs) ds) 0 0 k) ↔ ∀ d ∈ ds, ¬ sepBy ps qs (rt d) := by
    constructor
    · intro g d hd hsep
      obtain ⟨x, hx, hsm⟩ := mem_runs ds h.ne0 d hd
      obtain ⟨k, hk, rfl⟩ := mem_from hx
      exact (hside k hk).1 (g k hk) (sep_scale (h.ne0 d hd) (h.rne0 _ hx) hsm hsep)
    · intro g k hk
      refine (hside k hk).2 fun hsep => ?_
      obtain ⟨hx0, d, hd, hsm⟩ := runs_mem ds h.ne0 _ (from_mem hk)
      exact g d hd (sep_scale hx0 (h.ne0 d hd) hsm.symm hsep)
  rw [hall]
  constructor
  · intro g
    refine ⟨fun k hk => ?_, fun k hk => ?_⟩
    · rw [dirP_rt]
      exact g _ (hs.1.mem_iff.2 (List.mem_append_left _ (mem_steps hk)))
    · rw [dirQ_rt]
      obtain ⟨j, hj, e⟩ := turn_back (flipS_lt h0) hk
      refine g _ (hs.1.mem_iff.2 (List.mem_append_right _ ?_))
      rw [← e, ← step_flip hj]
      exact mem_steps (by rw [flip_length h0]; exact hj)
  · rintro ⟨g1, g2⟩ d hd
    rcases List.mem_append.1 (hs.1.mem_iff.1 hd) with hd | hd
    · obtain ⟨k, hk, rfl⟩ := steps_mem hd
      rw [← dirP_rt]; exact g1 k hk
    · obtain ⟨k, hk, rfl⟩ := steps_mem hd
      rw [flip_length h0] at hk
      rw [step_flip hk, ← dirQ_rt]
      exact g2 _ (Nat.mod_lt _ h0)
theorem sepBy_swap (ps qs : List Pt) (d : Pt) : sepBy ps qs d ↔ sepBy qs ps (negP d) := by
  have hneg : ∀ q, dotP (negP d) q = -dotP d q := fun q => by unfold dotP dotV negP; simp only [Int.neg_mul]; omega
  constructor
  · intro h i j hi hj
    have := h j i hj hi
    rw [hneg, hneg]; omega
  · intro h i j hi hj
    have := h j i hj hi
    rw [hneg, hneg] at this; omega
theorem dir_neg (ps : List Pt) (k : Nat) : negP (dirP ps k) = dirQ ps k ∧ negP (dirQ ps k) = dirP ps k := by
  unfold negP dirP dirQ; simp
theorem overlap_swap {ps qs : List Pt} (h1 : 0 < ps.length) (h2 : 0 < qs.length) : overlapB qs ps = overlapB ps qs := by
  rw [Bool.eq_iff_iff, overlap_true h2 h1, overlap_true h1 h2]
  have a : ∀ k, sepBy qs ps (dirP qs k) ↔ sepBy ps qs (dirQ qs k) := fun k => by rw [sepBy_swap, (dir_neg qs k).1]
  have b : ∀ k, sepBy qs ps (dirQ ps k) ↔ sepBy ps qs (dirP ps k) := fun k => by rw [sepBy_swap, (dir_neg ps k).2]
  constructor
  · rintro ⟨g1, g2⟩
    exact ⟨fun k hk h => g2 k hk ((b k).2 h), fun k hk h => g1 k hk ((a k).2 h)⟩
  · rintro ⟨g1, g2⟩
    exact ⟨fun k hk h => g2 k hk ((a k).1 h), fun k hk h => g1 k hk ((b k).1 h)⟩
end Go.Proofs.Ytnpebfchojalcaa

namespace Go.Proofs.Ytnpebfchojalcaa
set_option maxRecDepth 100000
/-! The vectors near a grid, and which of all collisions are the grid's. -/
theorem colN_iff {D : Int} (hD : 1 ≤ D) : ∀ (f : Nat) (y z : Int), 12 - y ≤ f → (z ∈ colN D f y ↔ y ≤ z ∧ z < 12 ∧ D ∣ (z - y)) := by
  intro f
  induction f with
  | zero =>
    intro y z hf
    simp only [colN, List.not_mem_nil, false_iff]
    omega
  | succ f ih =>
    intro y z hf
    simp only [colN]
    split
    · rename_i hy
      rw [List.mem_cons, ih (y + D) z (by omega)]
      constructor
      · rintro (rfl | ⟨h1, h2, h3⟩)
        · exact ⟨Int.le_refl _, hy, by simp⟩
        · refine ⟨by omega, h2, ?_⟩
          have := Int.dvd_add h3 (Int.dvd_refl D)
          rwa [show z - (y + D) + D = z - y by omega] at this
      · rintro ⟨h1, h2, h3⟩
        by_cases h : z < y + D
        · left
          have e := Int.emod_eq_zero_of_dvd h3
          rw [Int.emod_eq_of_lt (by omega) (by omega)] at e
          omega
        · right
          refine ⟨by omega, h2, ?_⟩
          have := Int.dvd_sub h3 (Int.dvd_refl D)
          rwa [show z - y - D = z - (y + D) by omega] at this
    · simp only [List.not_mem_nil, false_iff]
      omega
theorem rowsN_iff {A B D : Int} (hA : 1 ≤ A) (hD : 1 ≤ D) : ∀ (f : Nat) (x : Int) (p : Pt), 12 - x ≤ f → (p ∈ rowsN A B D f x ↔ (x ≤ p.1 ∧ p.1 < 12 ∧ A ∣ (p.1 - x)) ∧ firstZ A B D p.1 ≤ p.2 ∧ p.2 < 12 ∧ D ∣ (p.2 - firstZ A B D p.1)) := by
  intro f
  induction f with
  | zero =>
    intro x p hf
    simp only [rowsN, List.not_mem_nil, false_iff]
    omega
  | succ f ih =>
    intro x p hf
    simp only [rowsN]
    split
    · rename_i hx
      have hc : ∀ z : Int, z ∈ colN D 23 (firstZ A B D x) ↔ firstZ A B D x ≤ z ∧ z < 12 ∧ D ∣ (z - firstZ A B D x) := fun z => colN_iff hD 23 _ z (by have := firstZ_bd (A := A) (B := B) (x := x) hD; omega)
      rw [List.mem_append, ih (x + A) p (by omega)]
      constructor
      · rintro (h | ⟨⟨h1, h2, h3⟩, h4⟩)
        · obtain ⟨z, hz, rfl⟩ := List.mem_map.1 h
          exact ⟨⟨Int.le_refl _, hx, by simp⟩, (hc z).1 hz⟩
        · refine ⟨⟨by omega, h2, ?_⟩, h4⟩
          have := Int.dvd_add h3 (Int.dvd_refl A)
          rwa [show p.1 - (x + A) + A = p.1 - x by omega] at this
      · rintro ⟨⟨h1, h2, h3⟩, h4⟩
        by_cases h : p.1 < x + A
        · left
          have e := Int.emod_eq_zero_of_dvd h3
          rw [Int.emod_eq_of_lt (by omega) (by omega)] at e
          have e1 : p.1 = x := by omega
          rw [e1] at h4
          exact List.mem_map.2 ⟨p.2, (hc p.2).2 h4, Prod.ext e1.symm rfl⟩
        · right
          refine ⟨⟨by omega, h2, ?_⟩, h4⟩
          have := Int.dvd_sub h3 (Int.dvd_refl A)
          rwa [show p.1 - x - A = p.1 - (x + A) by omega] at this
    · simp only [List.not_mem_nil, false_iff]
      omega
theorem first_iff {q l D y : Int} (hD : 1 ≤ D) : (l + (q - l) % D ≤ y ∧ D ∣ (y - (l + (q - l) % D))) ↔ l ≤ y ∧ D ∣ (y - q) := by
  have h0 := Int.emod_nonneg (q - l) (show D ≠ 0 by omega)
  have h1 := Int.emod_lt_of_pos (q - l) (show 0 < D by omega)
  have hd : D ∣ (q - l - (q - l) % D) := ⟨(q - l) / D, by have := Int.emod_add_mul_ediv (q - l) D; omega⟩
  generalize (q - l) % D = r at *
  constructor
  · rintro ⟨a, b⟩
    refine ⟨by omega, ?_⟩
    have := Int.dvd_sub b hd
    rwa [show y - (l + r) - (q - l - r) = y - q by omega] at this
  · rintro ⟨a, b⟩
    have c := Int.dvd_add b hd
    rw [show y - q + (q - l - r) = y - (l + r) by omega] at c
    refine ⟨?_, c⟩
    obtain ⟨k, hk⟩ := c
    rcases Int.lt_or_le k 0 with h | h
    · have := Int.mul_le_mul_of_nonneg_left (show k ≤ -1 by omega) (show 0 ≤ D by omega)
      omega
    · have := Int.mul_nonneg (show 0 ≤ D by omega) h
      omega
theorem nearL_iff {A B D : Int} (hg : gridOk A B D) {p : Pt} : p ∈ nearL A B D ↔ (0 ≤ p.1 ∧ p.1 < 12 ∧ leastZ p.1 ≤ p.2 ∧ p.2 < 12) ∧ A ∣ p.1 ∧ D ∣ (p.2 - p.1 / A * B) := by
  unfold gridOk at hg
  unfold nearL
  rw [rowsN_iff (by omega) (by omega) 12 0 p (by omega), Int.sub_zero]
  have h := first_iff (q := p.1 / A * B) (l := leastZ p.1) (y := p.2) (show 1 ≤ D by omega)
  unfold firstZ
  constructor
  · rintro ⟨⟨a, b, c⟩, d, e, f⟩
    have := h.1 ⟨d, f⟩
    exact ⟨⟨a, b, this.1, e⟩, c, this.2⟩
  · rintro ⟨⟨a, b, c, d⟩, e, f⟩
    have := h.2 ⟨c, f⟩
    exact ⟨⟨a, b, e⟩, this.1, d, this.2⟩
/-- is a vector one of a grid? -/
def inB (A B D : Int) (v : Pt) : Bool := decide (v.1.tmod A = 0) && decide ((v.2 - v.1.tdiv A * B).tmod D = 0)
def inZ (A B D : Int) (v : Pt) : Prop := A ∣ v.1 ∧ D ∣ (v.2 - v.1.tdiv A * B)
theorem inB_iff {A B D : Int} {v : Pt} : inB A B D v = true ↔ inZ A B D v := by
  unfold inB inZ
  rw [Bool.and_eq_true, decide_eq_true_eq, decide_eq_true_eq]
  exact ⟨fun h => ⟨Int.dvd_of_tmod_eq_zero h.1, Int.dvd_of_tmod_eq_zero h.2⟩, fun h => ⟨Int.tmod_eq_zero_of_dvd h.1, Int.tmod_eq_zero_of_dvd h.2⟩⟩
theorem inZ_neg {A B D : Int} {v : Pt} (h : inZ A B D v) : inZ A B D (negP v) := by
  unfold inZ negP at *
  dsimp only
  refine ⟨Int.dvd_neg.2 h.1, ?_⟩
  rw [Int.neg_tdiv, Int.neg_mul, show -v.2 - -(v.1.tdiv A * B) = -(v.2 - v.1.tdiv A * B) by omega]
  exact Int.dvd_neg.2 h.2
theorem in_near {A B D : Int} (hg : gridOk A B D) {p : Pt} (h0 : 0 ≤ p.1) : (p.1 < 12 ∧ leastZ p.1 ≤ p.2 ∧ p.2 < 12 ∧ inZ A B D p) ↔ p ∈ nearL A B D := by
  rw [nearL_iff hg]
  unfold inZ
  rw [Int.tdiv_eq_ediv_of_nonneg h0]
  constructor
  · rintro ⟨a, b, c, d⟩
    exact ⟨⟨h0, a, b, c⟩, d⟩
  · rintro ⟨⟨_, a, b, c⟩, d⟩
    exact ⟨a, b, c, d⟩
/-- do a blank and the one moved by a vector collide? -/
def hitB (ps : List Pt) (v : Pt) : Bool := decide (-12 < v.1 ∧ v.1 < 12 ∧ -12 < v.2 ∧ v.2 < 12) && overlapB ps (movedP ps v)
theorem hit_iff (ps : List Pt) (v : Pt) : hitB ps v = true ↔ (-12 < v.1 ∧ v.1 < 12 ∧ -12 < v.2 ∧ v.2 < 12) ∧ overlapB ps (movedP ps v) = true := by
  unfold hitB
  rw [Bool.and_eq_true, decide_eq_true_eq]
theorem moved_back (ps : List Pt) (v : Pt) : movedP (movedP ps (negP v)) v = ps := by
  unfold movedP
  rw [List.map_map]
  conv => rhs; rw [← List.map_id ps]
  refine List.map_congr_left fun q _ => ?_
  unfold addP negP
  dsimp only [Function.comp, id]
  refine Prod.ext ?_ ?_
  · dsimp only; omega
  · dsimp only; omega
theorem over_neg {ps : List Pt} (h : 0 < ps.length) (v : Pt) : overlapB ps (movedP ps (negP v)) = overlapB ps (movedP ps v) := by
  have hl : 0 < (movedP ps (negP v)).length := by rw [moved_length]; exact h
  rw [← overlap_moved v h hl, moved_back, overlap_swap h (by rw [moved_length]; exact h)]
theorem hit_neg {ps : List Pt} (h : 0 < ps.length) (v : Pt) : hitB ps (negP v) = hitB ps v := by
  rw [Bool.eq_iff_iff, hit_iff, hit_iff, over_neg h]
  unfold negP
  dsimp only
  constructor
  · rintro ⟨a, b⟩; exact ⟨by omega, b⟩
  · rintro ⟨a, b⟩; exact ⟨by omega, b⟩
/-- the collisions with these coordinates -/
def crossOk (ps : List Pt) (v : Pt) : Bool := decide (v ≠ (0, 0)) && hitB ps v
def crossR (ps : List Pt) (x : Int) : Nat → List Pt
  | 0 => []
  | j + 1 => crossR ps x j ++ if crossOk ps (x, (j : Int) - 12) = true then [(x, (j : Int) - 12)] else []
def crossN (ps : List Pt) : Nat → List Pt
  | 0 => []
  | i + 1 => crossN ps i ++ crossR ps ((i : Int) - 12) 25
def crossL (ps : List Pt) : List Pt := crossN ps 25
theorem crossR_mem {ps : List Pt} {x : Int} {v : Pt} : ∀ k : Nat, v ∈ crossR ps x k ↔ v.1 = x ∧ (-12 ≤ v.2 ∧ v.2 < (k : Int) - 12) ∧ crossOk ps v = true := by
  intro k
  induction k with
  | zero =>
    simp only [crossR, List.not_mem_nil, false_iff]
    omega
  | succ k ih =>
    rw [crossR, List.mem_append, ih]
    constructor
    · rintro (⟨a, b, c⟩ | h)
      · exact ⟨a, by omega, c⟩
      · split at h
        · rename_i hc
          obtain rfl := List.mem_singleton.1 h
          exact ⟨rfl, by dsimp only; omega, hc⟩
        · cases h
    · rintro ⟨a, b, c⟩
      by_cases h : v.2 = (k : Int) - 12
      · right
        have e : v = (x, (k : Int) - 12) := Prod.ext a h
        rw [← e, if_pos c]
        exact List.mem_singleton.2 rfl
      · left
        exact ⟨a, by omega, c⟩
theorem crossN_mem {ps : List Pt} {v : Pt} : ∀ k : Nat, v ∈ crossN ps k ↔ (-12 ≤ v.1 ∧ v.1 < (k : Int) - 12) ∧ (-12 ≤ v.2 ∧ v.2 < 13) ∧ crossOk ps v = true := by
  intro k
  induction k with
  | zero =>
    simp only [crossN, List.not_mem_nil, false_iff]
    omega
  | succ k ih =>
    rw [crossN, List.mem_append, ih, crossR_mem]
    constructor
    · rintro (⟨a, b, c⟩ | ⟨a, b, c⟩)
      · exact ⟨by omega, b, c⟩
      · exact ⟨by omega, by omega, c⟩
    · rintro ⟨a, b, c⟩
      by_cases h : v.1 = (k : Int) - 12
      · exact .inr ⟨h, by omega, c⟩
      · exact .inl ⟨by omega, b, c⟩
theorem cross_mem {ps : List Pt} {v : Pt} : v ∈ crossL ps ↔ v ≠ (0, 0) ∧ hitB ps v = true := by
  unfold crossL
  rw [crossN_mem]
  unfold crossOk
  rw [Bool.and_eq_true, decide_eq_true_eq, hit_iff]
  constructor
  · rintro ⟨a, b, c⟩; exact c
  · rintro ⟨a, b, c⟩; exact ⟨by omega, by omega, a, b, c⟩
def freeB (l : List Pt) (A B D : Int) : Bool := l.all fun v => !inB A B D v
theorem coll_hit {ps : List Pt} (hb : blankB ps = true) {v : Pt} (hv : 0 ≤ v.1 ∧ v.1 < 12 ∧ -11 ≤ v.2 ∧ v.2 < 12) : collB ps v = hitB ps v := by
  obtain ⟨h1, h2⟩ := blank_parts hb
  have hm : validB (movedP ps v) = true := valid_moved h1 (by
    rw [List.any_eq_false]
    intro q hq
    obtain ⟨r, hr, rfl⟩ := List.mem_map.1 hq
    have := h2 r hr
    intro hfar
    simp only [farP, farB, addP, Bool.or_eq_true] at hfar
    rcases hfar with ((hf | hf) | hf) | hf <;> (have := of_decide_eq_true hf; omega))
  unfold collB
  rw [hm, Bool.true_and, Bool.eq_iff_iff, hit_iff]
  constructor
  · intro h; exact ⟨by omega, h⟩
  · intro h; exact h.2
theorem free_avoid {ps : List Pt} {A B D : Int} (hb : blankB ps = true) (hg : gridOk A B D) : freeB (crossL ps) A B D = avoidB (collL ps 1 0 1) A B D := by
  have hn : 0 < ps.length := by have := (valid_near (blank_parts hb).1).2; omega
  rw [Bool.eq_iff_iff]
  unfold freeB avoidB
  rw [List.all_eq_true, List.all_eq_true]
  constructor
  · intro h p hp
    rw [decide_eq_true_eq]
    intro hm
    have hp' := nearL_mem hg hp
    have hc := (List.mem_filter.1 hm).2
    rw [coll_hit hb hp'] at hc
    have hz : p ≠ (0, 0) := fun e => by
      have := ((nearL_iff hg).1 hp).1
      rw [e] at this
      unfold leastZ at this
      simp at this
    have := h p (cross_mem.2 ⟨hz, hc⟩)
    have hi := ((in_near hg hp'.1).2 hp).2.2.2
    rw [inB_iff.2 hi] at this
    cases this
  · intro h v hv
    obtain ⟨hz, hh⟩ := cross_mem.1 hv
    rw [Bool.not_eq_true', Bool.eq_false_iff]
    intro hi
    have hi := inB_iff.1 hi
    have key : ∀ p : Pt, 0 ≤ p.1 → leastZ p.1 ≤ p.2 → hitB ps p = true → inZ A B D p → False := fun p h0 h1 h2 h3 => by
      have hb2 := ((hit_iff ps p).1 h2).1
      have hp := (in_near hg h0).1 ⟨hb2.2.1, h1, hb2.2.2.2, h3⟩
      have := h p hp
      rw [decide_eq_true_eq] at this
      exact this (List.mem_filter.2 ⟨near_one hg hp, by rw [coll_hit hb (nearL_mem hg hp)]; exact h2⟩)
    have hb3 := ((hit_iff ps v).1 hh).1
    by_cases hs : 0 ≤ v.1 ∧ leastZ v.1 ≤ v.2
    · exact key v hs.1 hs.2 hh hi
    · have hv0 : ¬ (v.1 = 0 ∧ v.2 = 0) := fun e => hz (Prod.ext e.1 e.2)
      refine key (negP v) ?_ ?_ (by rw [hit_neg hn]; exact hh) (inZ_neg hi)
      · unfold negP leastZ at *; dsimp only; split at hs <;> omega
      · unfold negP leastZ at *; dsimp only; split at hs <;> split <;> omega
end Go.Proofs.Ytnpebfchojalcaa

namespace Go.Proofs.Ytnpebfchojalcaa
open Go.RowKit
/-- the sum of a number over a list of anything -/
def sumG {α : Type} (f : α → Int) : List α → Int
  | [] => 0
  | x :: l => f x + sumG f l
section
variable {α β : Type}
end
/-- the area between a walk and zero -/
def wa (a : Pt) : List Pt → Int
  | [] => 0
  | d :: l => crossP a d + wa (addP d a) l
/-- the sum over all pairs, in their order -/
def pw : List Pt → Int
  | [] => 0
  | d :: l => sumG (fun x => crossP d x) l + pw l
/-- the cross product in the order of angles -/
def cP (e f : Pt) : Int := if ltB f e = true then crossP f e else crossP e f
/-- weighted steps, and the form that they make -/
def sc (x : Int × Pt) : Pt := (x.1 * x.2.1, x.1 * x.2.2)
def cW (x y : Int × Pt) : Int := x.1 * y.1 * cP x.2 y.2
def dbl (L M : List (Int × Pt)) : Int := sumG (fun x => sumG (fun y => cW x y) M) L
def SortW (L : List (Int × Pt)) : Prop := L.Pairwise fun a b => ¬ ltA b.2 a.2
end Go.Proofs.Ytnpebfchojalcaa

namespace Go.Proofs.Ytnpebfchojalcaa
open Go.RowKit
def UpP (e : Pt) : Prop := 0 < e.2 ∨ (e.2 = 0 ∧ 0 < e.1)
theorem up_sinks {e : Pt} (h : UpP e) : sinksB e.1 e.2 = false := by
  cases hs : sinksB e.1 e.2 with
  | false => rfl
  | true => have := down_of hs; unfold UpP at h; omega
/-- sorting by insertion -/
def insW (x : Int × Pt) : List (Int × Pt) → List (Int × Pt)
  | [] => [x]
  | y :: L => if ltB y.2 x.2 = true then y :: insW x L else x :: y :: L
def sortW : List (Int × Pt) → List (Int × Pt)
  | [] => []
  | x :: L => insW x (sortW L)
def vecS (L : List (Int × Pt)) : Pt := (sumG (fun x => x.1 * x.2.1) L, sumG (fun x => x.1 * x.2.2) L)
def negW (x : Int × Pt) : Int × Pt := (x.1, negP x.2)
end Go.Proofs.Ytnpebfchojalcaa

namespace Go.Proofs.Ytnpebfchojalcaa
open Go.RowKit
theorem Around.strict {ps : List Pt} (h : Around ps) : (stepsOf ps).Pairwise ltA := by
  have adj : ∀ i, i + 1 < ps.length → ltA (stepP ps i) (stepP ps (i + 1)) := fun i hi => by
    have h1 := h.sorted i hi
    have h2 := h.turn (i + 1) hi
    have e : prevI ps.length (i + 1) = i := by unfold prevI; rw [if_neg (by omega)]; omega
    rw [e] at h2
    cases s1 : sinksB (stepP ps i).1 (stepP ps i).2 with
    | false =>
      cases s2 : sinksB (stepP ps (i + 1)).1 (stepP ps (i + 1)).2 with
      | false => exact .inr ⟨by rw [s1, s2], h2⟩
      | true => exact .inl ⟨s1, s2⟩
    | true =>
      cases s2 : sinksB (stepP ps (i + 1)).1 (stepP ps (i + 1)).2 with
      | false => exact absurd (.inl ⟨s2, s1⟩) h1
      | true => exact .inr ⟨by rw [s1, s2], h2⟩
  have key : ∀ d i, i + d + 1 < ps.length → ltA (stepP ps i) (stepP ps (i + d + 1)) := by
    intro d
    induction d with
    | zero => intro i hi; exact adj i hi
    | succ d ih =>
      intro i hi
      exact ltA_trans (h.ne0 (show i < ps.length by omega)) (h.ne0 (show i + d + 1 < ps.length by omega)) (h.ne0 (by omega)) (ih i (by omega)) (adj _ hi)
  rw [List.pairwise_iff_getElem]
  intro i j hi hj hij
  rw [stepsOf_length] at hi hj
  simp only [stepsOf, List.getElem_map, List.getElem_range]
  have := key (j - i - 1) i (by omega)
  rwa [show i + (j - i - 1) + 1 = j by omega] at this
theorem from_steps {ps : List Pt} {k : Nat} (hk : k < ps.length) : fromP (stepsOf ps) k = stepP ps k := stepsOf_getD hk
/-- where an edge lies, its direction has its maximum -/
theorem Around.at_edge {ps : List Pt} (h : Around ps) {k : Nat} (hk : k < ps.length) : crossP (fromP ps k) (stepP ps k) = hiP ps (stepP ps k) := by
  have e := path_get (lin_right (stepP ps k)) ps k hk
  have f := filter_at h.strict (k := k) (by rw [stepsOf_length]; exact hk)
  rw [from_steps hk] at f
  unfold hiP
  rw [f]
  exact e
/-- all vertices lie to the left of all edges -/
theorem Around.left {ps : List Pt} (h : Around ps) {k j : Nat} (hk : k < ps.length) (hj : j < ps.length) : 0 ≤ sideK ps (fromP ps j).1 (fromP ps j).2 k := by
  have h1 := h.at_edge hk
  have h2 := hi_le h.rolls (h.ne0 hk) hj
  rw [← h1] at h2
  have : sideK ps (fromP ps j).1 (fromP ps j).2 k = crossP (fromP ps k) (stepP ps k) - crossP (fromP ps j) (stepP ps k) := by
    unfold sideK crossP crossZ; grind
  omega
theorem sumTo_pos {f : Nat → Int} : ∀ n, (∀ k, k < n → 0 ≤ f k) → 0 ≤ sumTo f n
  | 0, _ => Int.le_refl _
  | n + 1, h => by
    have h1 := sumTo_pos n fun k hk => h k (by omega)
    have h2 := h n (by omega)
    simp only [sumTo]
    omega
theorem Around.area {ps : List Pt} (h : Around ps) : 0 ≤ areaZ ps := by
  have e : sumTo (fun k => sideK ps (fromP ps 0).1 (fromP ps 0).2 k) ps.length = areaZ ps := by
    have e1 : sumTo (fun k => sideK ps (fromP ps 0).1 (fromP ps 0).2 k) ps.length = sumTo (fun k => crossK ps k + ((fromP ps 0).2 * (stepP ps k).1 + -(fromP ps 0).1 * (stepP ps k).2)) ps.length := by
      refine sumTo_congr _ fun k _ => ?_
      unfold sideK crossK crossZ
      grind
    rw [e1, sumTo_add, sumTo_add, sumTo_mul, sumTo_mul, (sum_steps ps).1, (sum_steps ps).2]
    unfold areaZ
    rw [areaK_sum]
    omega
  rw [← e]
  exact sumTo_pos _ fun k hk => h.left hk (by have := h.three; omega)
/-- a list with the same weight everywhere -/
def wgt (c : Int) (l : List Pt) : List (Int × Pt) := l.map fun x => (c, x)
def mixZ (ps qs : List Pt) : Int := dbl (wgt 1 (stepsOf ps)) (wgt 1 (stepsOf qs))
/-- the height of a polygon, from its steps that rise -/
def tall (ps : List Pt) : Int := sumG (fun x => x.2) ((stepsOf ps).filter fun x => !sinksB x.1 x.2)
end Go.Proofs.Ytnpebfchojalcaa

namespace Go.Proofs.Ytnpebfchojalcaa
open Go.RowKit
/-- the same direction, told -/
def sdB (a b : Pt) : Bool := !ltB a b && !ltB b a
theorem sdB_iff (a b : Pt) : sdB a b = true ↔ SameD a b := by
  unfold sdB SameD
  rw [Bool.and_eq_true, Bool.not_eq_true', Bool.not_eq_true', ← ltB_iff, ← ltB_iff, Bool.not_eq_true, Bool.not_eq_true]
theorem sd_cong {a b r : Pt} (ha : a ≠ (0, 0)) (hb : b ≠ (0, 0)) (hr : r ≠ (0, 0)) (h : SameD a b) : sdB a r = sdB b r := by
  rw [Bool.eq_iff_iff, sdB_iff, sdB_iff]
  exact ⟨fun k => SameD.trans hb ha hr h.symm k, fun k => SameD.trans ha hb hr h k⟩
theorem sd_cong_r {a b r : Pt} (ha : a ≠ (0, 0)) (hb : b ≠ (0, 0)) (hr : r ≠ (0, 0)) (h : SameD a b) : sdB r a = sdB r b := by
  rw [Bool.eq_iff_iff, sdB_iff, sdB_iff]
  exact ⟨fun k => SameD.trans hr ha hb k h, fun k => SameD.trans hr hb ha k h.symm⟩
theorem runs_class {f : Pt → Int} (hf : Lin f) {p : Pt → Bool} (hp : ∀ a b, a ≠ (0, 0) → b ≠ (0, 0) → SameD a b → p a = p b) : ∀ l, (∀ x ∈ l, x ≠ (0, 0)) → sumF f ((runs l).filter p) = sumF f (l.filter p)
  | [], _ => rfl
  | [d], _ => rfl
  | d :: e :: l, h0 => by
    have h1 : ∀ x ∈ e :: l, x ≠ (0, 0) := fun x hx => h0 x (List.mem_cons_of_mem _ hx)
    have ih := runs_class hf hp (e :: l) h1
    obtain ⟨h, t, e1, e2, e3⟩ := runs_cons e l h1
    have hd := h0 d (by simp)
    have he := h0 e (by simp)
    unfold runs
    split
    · rename_i hs
      have k := SameD.trans hd he e3 ((angP_zero _ _).1 hs) e2
      have k2 := same_add hd e3 k
      have q1 : p (addP h d) = p d := (hp _ _ hd k2.2 k2.1).symm
      have q2 : p h = p d := (hp _ _ hd e3 k).symm
      rw [e1] at ih ⊢
      simp only [addHead]
      cases hb : p d with
      | true =>
        rw [List.filter_cons_of_pos (by simpa using q1.trans hb), List.filter_cons_of_pos (l := e :: l) (by simpa using hb)]
        rw [List.filter_cons_of_pos (by simpa using q2.trans hb)] at ih
        have := hf h d
        simp only [sumF] at ih ⊢
        omega
      | false =>
        rw [List.filter_cons_of_neg (by simp [q1, hb]), List.filter_cons_of_neg (l := e :: l) (by simp [hb])]
        rw [List.filter_cons_of_neg (by simp [q2, hb])] at ih
        exact ih
    · cases hb : p d with
      | true =>
        rw [List.filter_cons_of_pos (by simpa using hb), List.filter_cons_of_pos (l := e :: l) (by simpa using hb)]
        simp only [sumF, ih]
      | false =>
        rw [List.filter_cons_of_neg (by simp [hb]), List.filter_cons_of_neg (l := e :: l) (by simp [hb])]
        exact ih
theorem lt_not_same {a b : Pt} (h : ltA a b) : ¬ SameD a b := fun k => k.1 h
theorem strict_one {f : Pt → Int} : ∀ {l : List Pt}, l.Pairwise ltA → ∀ x ∈ l, sumF f (l.filter fun y => sdB y x) = f x
  | [], _, x, hx => by simp at hx
  | z :: t, h, x, hx => by
    obtain ⟨h1, h2⟩ := List.pairwise_cons.1 h
    rcases List.mem_cons.1 hx with rfl | hx
    · have e : t.filter (fun y => sdB y x) = [] := by
        rw [List.filter_eq_nil_iff]
        intro y hy k
        exact lt_not_same (h1 y hy) ((sdB_iff _ _).1 k).symm
      rw [List.filter_cons_of_pos (by rw [sdB_iff]; exact SameD.refl x), e]
      simp [sumF]
    · rw [List.filter_cons_of_neg (p := fun y => sdB y x) (fun k => lt_not_same (h1 x hx) ((sdB_iff _ _).1 k))]
      exact strict_one h2 x hx
/-- the same steps, but for how each direction is parted -/
structure Eqv (l m : List Pt) : Prop where
  sum : ∀ f, Lin f → ∀ r, r ≠ (0, 0) → sumF f (l.filter fun y => sdB y r) = sumF f (m.filter fun y => sdB y r)
  to : ∀ d ∈ l, ∃ e ∈ m, SameD d e
  back : ∀ d ∈ m, ∃ e ∈ l, SameD d e
theorem Eqv.symm {l m : List Pt} (h : Eqv l m) : Eqv m l := ⟨fun f hf r hr => (h.sum f hf r hr).symm, h.back, h.to⟩
theorem Eqv.trans {l m n : List Pt} (h0 : ∀ x ∈ l, x ≠ (0, 0)) (h1 : ∀ x ∈ m, x ≠ (0, 0)) (h2 : ∀ x ∈ n, x ≠ (0, 0)) (h : Eqv l m) (k : Eqv m n) : Eqv l n :=
  ⟨fun f hf r hr => (h.sum f hf r hr).trans (k.sum f hf r hr), fun d hd => by
    obtain ⟨e, he, s⟩ := h.to d hd
    obtain ⟨g, hg, t⟩ := k.to e he
    exact ⟨g, hg, SameD.trans (h0 d hd) (h1 e he) (h2 g hg) s t⟩, fun d hd => by
    obtain ⟨e, he, s⟩ := k.back d hd
    obtain ⟨g, hg, t⟩ := h.back e he
    exact ⟨g, hg, SameD.trans (h2 d hd) (h1 e he) (h0 g hg) s t⟩⟩
theorem Eqv.runs {l : List Pt} (h0 : ∀ x ∈ l, x ≠ (0, 0)) : Eqv (runs l) l :=
  ⟨fun _ hf _ hr => runs_class hf (fun _ _ ha hb h => sd_cong ha hb hr h) l h0, fun x hx => by
    obtain ⟨_, d, hd, s⟩ := runs_mem l h0 x hx
    exact ⟨d, hd, s.symm⟩, fun d hd => mem_runs l h0 d hd⟩
theorem Eqv.append {l l' m m' : List Pt} (h : Eqv l l') (k : Eqv m m') : Eqv (l ++ m) (l' ++ m') :=
  ⟨fun f hf r hr => by rw [List.filter_append, List.filter_append, sumF_append, sumF_append, h.sum f hf r hr, k.sum f hf r hr], fun d hd => by
    rcases List.mem_append.1 hd with hd | hd
    · obtain ⟨e, he, s⟩ := h.to d hd; exact ⟨e, List.mem_append_left _ he, s⟩
    · obtain ⟨e, he, s⟩ := k.to d hd; exact ⟨e, List.mem_append_right _ he, s⟩, fun d hd => by
    rcases List.mem_append.1 hd with hd | hd
    · obtain ⟨e, he, s⟩ := h.back d hd; exact ⟨e, List.mem_append_left _ he, s⟩
    · obtain ⟨e, he, s⟩ := k.back d hd; exact ⟨e, List.mem_append_right _ he, s⟩⟩
theorem Eqv.mem {l m : List Pt} (hl : l.Pairwise ltA) (hm : m.Pairwise ltA) (h0 : ∀ x ∈ l, x ≠ (0, 0)) (h1 : ∀ x ∈ m, x ≠ (0, 0)) (h : Eqv l m) : ∀ x ∈ l, x ∈ m := by
  intro x hx
  obtain ⟨y, hy, s⟩ := h.to x hx
  have key : ∀ f, Lin f → f x = f y := fun f hf => by
    rw [← strict_one (f := f) hl x hx, ← strict_one (f := f) hm y hy, h.sum f hf x (h0 x hx)]
    congr 1
    refine List.filter_congr fun z hz => ?_
    exact sd_cong_r (h0 x hx) (h1 y hy) (h1 z hz) s
  rw [pt_ext (key _ lin_fst) (key _ lin_snd)]
  exact hy
theorem Sorted.swap {ps qs ds : List Pt} (h : Sorted ps qs ds) : Sorted qs ps ds := ⟨h.1.trans List.perm_append_comm, h.2⟩
theorem addP_comm (a b : Pt) : addP a b = addP b a := by unfold addP; simp only [Prod.mk.injEq]; omega
theorem runs_some {ps qs ds : List Pt} (h : Merged ps qs ds) : 0 < (runs ds).length := by
  obtain ⟨d, l, e⟩ : ∃ d l, ds = d :: l := by
    cases hd : ds with
    | nil =>
      have := h.s.1.length_eq
      rw [hd, List.length_append, stepsOf_length] at this
      have h1 := h.p.some
      simp only [List.length_nil] at this
      omega
    | cons d l => exact ⟨d, l, rfl⟩
  obtain ⟨x, t, e2, _⟩ := runs_cons d l (by rw [← e]; exact h.ne0)
  rw [e, e2]; simp
theorem sum_first {ps qs ds : List Pt} (h : Merged ps qs ds) : fromP (sumP ps qs ds) 0 = addP (fromP qs 0) (fromP ps 0) := by
  have hn := runs_some h
  rw [Merged.sum_eq]
  cases hr : runs ds with
  | nil => rw [hr] at hn; simp at hn
  | cons d l => rfl
/-- a beginning of a polygon's steps leads to one of its vertices -/
theorem take_vertex {ps : List Pt} (h : Rolls ps) {k : Nat} (hk : k ≤ ps.length) : ∃ i, i < ps.length ∧ ∀ f, Lin f → f (fromP ps 0) + sumF f ((stepsOf ps).take k) = f (fromP ps i) := by
  by_cases hkn : k = ps.length
  · refine ⟨0, h.some, fun f hf => ?_⟩
    rw [hkn, ← stepsOf_length, List.take_length, path_sum hf]
    omega
  · exact ⟨k, by omega, fun f hf => (path_get hf ps k (by omega)).symm⟩
/-- each vertex of a sum is the sum of two vertices -/
theorem sum_vertex {ps qs ds : List Pt} (h : Merged ps qs ds) {k : Nat} (hk : k < (runs ds).length) : ∃ i j, i < ps.length ∧ j < qs.length ∧ fromP (sumP ps qs ds) k = addP (fromP qs j) (fromP ps i) := by
  have hr := h.rne0 _ (from_mem hk)
  obtain ⟨a, ha, e1⟩ := filter_take hr h.p.ne0 h.p.sorted
  obtain ⟨b, hb, e2⟩ := filter_take hr h.q.ne0 h.q.sorted
  rw [stepsOf_length] at ha hb
  obtain ⟨i, hi, f1⟩ := take_vertex h.p ha
  obtain ⟨j, hj, f2⟩ := take_vertex h.q hb
  refine ⟨i, j, hi, hj, ?_⟩
  have key : ∀ f, Lin f → f (fromP (sumP ps qs ds) k) = f (fromP qs j) + f (fromP ps i) := fun f hf => by
    have g := path_get hf (sumP ps qs ds) k (by rw [Merged.slen]; exact hk)
    rw [h.steps, ← filter_at h.strict hk, runs_filter hf hr ds h.ne0, sumF_perm (h.s.1.filter _), List.filter_append, sumF_append, e1, e2, sum_first h, hf] at g
    have := f1 f hf
    have := f2 f hf
    omega
  refine pt_ext ?_ ?_
  · have := key _ lin_fst; unfold addP; simp only; omega
  · have := key _ lin_snd; unfold addP; simp only; omega
def boxP (B : Int) (ps : List Pt) : Prop := ∀ q ∈ ps, -B ≤ q.1 ∧ q.1 ≤ B ∧ -B ≤ q.2 ∧ q.2 ≤ B
theorem sum_box {ps qs ds : List Pt} (h : Merged ps qs ds) (hp : nearP ps) (hq : nearP qs) : boxP 2000 (sumP ps qs ds) := by
  intro x hx
  obtain ⟨k, hk, rfl⟩ := mem_from hx
  rw [Merged.slen] at hk
  obtain ⟨i, j, hi, hj, e⟩ := sum_vertex h hk
  rw [e]
  have a := hp _ (from_mem hi)
  have b := hq _ (from_mem hj)
  unfold addP
  simp only
  omega
theorem sum_len {ps qs ds : List Pt} (h : Sorted ps qs ds) : (sumP ps qs ds).length ≤ ps.length + qs.length := by
  have e := walk_len (addP (fromP qs 0) (fromP ps 0)) ds ds.length
  have l := h.1.length_eq
  rw [List.length_append, stepsOf_length, stepsOf_length] at l
  unfold sumP
  omega
end Go.Proofs.Ytnpebfchojalcaa

namespace Go.Proofs.Ytnpebfchojalcaa
theorem vs_all {ms vs : List Value} {w : World} (hl : vs.length = ms.length) (hg : ∀ (i : Nat) (u : Value), vs[i]? = some u → MPat (ms.map MP.eq) i u w) : vs = ms := by
  apply List.ext_getElem?
  intro i
  by_cases hi : i < vs.length
  · have e := List.getElem?_eq_getElem hi
    have h := hg i _ e
    unfold MPat at h
    rw [List.getD_eq_getElem?_getD, List.getElem?_map, List.getElem?_eq_getElem (show i < ms.length by omega)] at h
    rw [e, List.getElem?_eq_getElem (show i < ms.length by omega)]
    exact congrArg some h
  · rw [List.getElem?_eq_none (by omega), List.getElem?_eq_none (by omega)]
end Go.Proofs.Ytnpebfchojalcaa
