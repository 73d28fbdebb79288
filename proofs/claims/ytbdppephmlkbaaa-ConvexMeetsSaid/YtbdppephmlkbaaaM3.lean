import Derived.Test.YtbdppephmlkbaaaV17
import Derived.Test.YtbdppephmlkbaaaS1
namespace Go.Proofs.Ytbdppephmlkbaaa
/-! sums over the edges, and turns of a list -/
def sumTo (f : Nat → Int) : Nat → Int
  | 0 => 0
  | k + 1 => sumTo f k + f k
theorem sumTo_congr {f g : Nat → Int} : ∀ n, (∀ k, k < n → f k = g k) → sumTo f n = sumTo g n := by
  intro n
  induction n with
  | zero => intro _; rfl
  | succ n ih => intro h; simp only [sumTo]; rw [ih (fun k hk => h k (by omega)), h n (by omega)]
theorem sumTo_add {f g : Nat → Int} : ∀ n, sumTo (fun k => f k + g k) n = sumTo f n + sumTo g n := by
  intro n
  induction n with
  | zero => rfl
  | succ n ih => simp only [sumTo, ih]; omega
theorem sumTo_split (f : Nat → Int) (a : Nat) : ∀ b, sumTo f (a + b) = sumTo f a + sumTo (fun k => f (a + k)) b := by
  intro b
  induction b with
  | zero => simp [sumTo]
  | succ b ih => rw [← Nat.add_assoc]; simp only [sumTo, ih]; omega
theorem sumTo_turn (f : Nat → Int) {n s : Nat} (hs : s ≤ n) : sumTo (fun k => f ((k + s) % n)) n = sumTo f n := by
  have e1 : n = (n - s) + s := by omega
  have h1 : sumTo (fun k => f ((k + s) % n)) n = sumTo (fun k => f ((k + s) % n)) (n - s) + sumTo (fun k => f (((n - s) + k + s) % n)) s := by
    have := sumTo_split (fun k => f ((k + s) % n)) (n - s) s
    rw [← e1] at this
    exact this
  have h2 : sumTo f n = sumTo f s + sumTo (fun k => f (s + k)) (n - s) := by
    have := sumTo_split f s (n - s)
    rw [show s + (n - s) = n by omega] at this
    exact this
  have h3 : sumTo (fun k => f ((k + s) % n)) (n - s) = sumTo (fun k => f (s + k)) (n - s) := sumTo_congr _ fun k hk => by
    rw [Nat.mod_eq_of_lt (by omega), Nat.add_comm]
  have h4 : sumTo (fun k => f (((n - s) + k + s) % n)) s = sumTo f s := sumTo_congr _ fun k hk => by
    rw [show n - s + k + s = k + n by omega, Nat.add_mod_right, Nat.mod_eq_of_lt (by omega)]
  rw [h1, h2, h3, h4]
  omega
theorem areaK_sum (ps : List Pt) : ∀ k, areaK ps k = sumTo (crossK ps) k := by
  intro k
  induction k with
  | zero => rfl
  | succ k ih => simp only [areaK, sumTo, ih]
theorem ringK_sum (ps : List Pt) : ∀ k, ringK ps k = sumTo (gcdK ps) k := by
  intro k
  induction k with
  | zero => rfl
  | succ k ih => simp only [ringK, sumTo, ih]
/-! moved -/
theorem from_map {ps : List Pt} (f : Pt → Pt) {k : Nat} (hk : k < ps.length) : fromP (ps.map f) k = f (fromP ps k) := by
  unfold fromP
  rw [List.getD_eq_getElem?_getD, List.getD_eq_getElem?_getD, List.getElem?_map, List.getElem?_eq_getElem hk]
  rfl
theorem to_from {ps : List Pt} {k : Nat} : toP ps k = fromP ps ((k + 1) % ps.length) := rfl
theorem step_moved {ps : List Pt} (v : Pt) {k : Nat} (hk : k < ps.length) : stepP (movedP ps v) k = stepP ps k := by
  unfold stepP movedP
  rw [to_from, to_from, List.length_map, from_map _ hk, from_map _ (Nat.mod_lt _ (by omega))]
  unfold addP
  simp only
  congr 1 <;> omega
theorem moved_length (ps : List Pt) (v : Pt) : (movedP ps v).length = ps.length := List.length_map _
theorem steps_moved (ps : List Pt) (v : Pt) : stepsOf (movedP ps v) = stepsOf ps := by
  unfold stepsOf
  rw [moved_length]
  apply List.map_congr_left
  intro k hk
  rw [List.mem_range] at hk
  exact step_moved v hk
theorem valid_moved {ps : List Pt} {v : Pt} (h : validB ps = true) (hf : (movedP ps v).any farP = false) : validB (movedP ps v) = true := by
  have h1 := valid_near h
  rw [validB_eq h1.2.1 h1.2.2 (by
    simp only [validB, Bool.and_eq_true, Bool.not_eq_true'] at h
    exact h.1.1.2)] at h
  rw [validB_eq (by rw [moved_length]; exact h1.2.1) (by rw [moved_length]; exact h1.2.2) hf, steps_moved]
  exact h
/-- the steps around come to nothing -/
theorem sum_steps (ps : List Pt) : sumTo (fun k => (stepP ps k).1) ps.length = 0 ∧ sumTo (fun k => (stepP ps k).2) ps.length = 0 := by
  have key : ∀ g : Pt → Int, sumTo (fun k => g (toP ps k)) ps.length = sumTo (fun k => g (fromP ps k)) ps.length := fun g => by
    by_cases h0 : ps.length = 0
    · rw [h0]; rfl
    · exact sumTo_turn (fun k => g (fromP ps k)) (s := 1) (by omega)
  have sub : ∀ (f g : Nat → Int) n, sumTo (fun k => f k - g k) n = sumTo f n - sumTo g n := by
    intro f g n
    induction n with
    | zero => rfl
    | succ n ih => simp only [sumTo, ih]; omega
  constructor
  · show sumTo (fun k => (toP ps k).1 - (fromP ps k).1) ps.length = 0
    rw [sub (fun k => (toP ps k).1) (fun k => (fromP ps k).1), key (fun p => p.1)]; omega
  · show sumTo (fun k => (toP ps k).2 - (fromP ps k).2) ps.length = 0
    rw [sub (fun k => (toP ps k).2) (fun k => (fromP ps k).2), key (fun p => p.2)]; omega
theorem sumTo_mul (c : Int) (f : Nat → Int) : ∀ n, sumTo (fun k => c * f k) n = c * sumTo f n := by
  intro n
  induction n with
  | zero => simp [sumTo]
  | succ n ih => simp only [sumTo, ih, Int.mul_add]
theorem area_moved (ps : List Pt) (v : Pt) : areaZ (movedP ps v) = areaZ ps := by
  unfold areaZ
  rw [moved_length, areaK_sum, areaK_sum]
  have e : sumTo (crossK (movedP ps v)) ps.length = sumTo (fun k => crossK ps k + (v.1 * (stepP ps k).2 + -v.2 * (stepP ps k).1)) ps.length := sumTo_congr _ fun k hk => by
    unfold crossK
    rw [step_moved v hk, show fromP (movedP ps v) k = addP v (fromP ps k) from from_map _ hk]
    unfold crossZ addP
    simp only [Int.add_mul, Int.neg_mul]
    omega
  rw [e, sumTo_add, sumTo_add (f := fun k => v.1 * (stepP ps k).2) (g := fun k => -v.2 * (stepP ps k).1), sumTo_mul, sumTo_mul, (sum_steps ps).1, (sum_steps ps).2]
  simp
theorem ring_moved (ps : List Pt) (v : Pt) : ringZ (movedP ps v) = ringZ ps := by
  unfold ringZ
  rw [moved_length, ringK_sum, ringK_sum]
  exact sumTo_congr _ fun k hk => by unfold gcdK; rw [step_moved v hk]
/-! who lies outside -/
theorem placeK_neg (ps : List Pt) (x y : Int) : ∀ k, (placeK ps x y k < 0 ↔ ∃ j, j < k ∧ sideK ps x y j < 0) := by
  intro k
  induction k with
  | zero => simp [placeK]
  | succ k ih =>
    simp only [placeK]
    have hs : sgnZ (sideK ps x y k) 0 < 0 ↔ sideK ps x y k < 0 := by unfold sgnZ; split; · simp_all
                                                                     · split <;> simp_all <;> omega
    constructor
    · intro h
      by_cases h1 : placeK ps x y k < 0
      · obtain ⟨j, hj, h2⟩ := ih.1 h1
        exact ⟨j, by omega, h2⟩
      · exact ⟨k, by omega, hs.1 (by omega)⟩
    · rintro ⟨j, hj, h2⟩
      by_cases hjk : j = k
      · subst hjk; have := hs.2 h2; omega
      · have := ih.2 ⟨j, by omega, h2⟩; omega
theorem outB_iff (qs : List Pt) (q : Pt) : outB qs q = true ↔ ∃ j, j < qs.length ∧ sideK qs q.1 q.2 j < 0 := by
  unfold outB placeZ
  rw [decide_eq_true_eq, placeK_neg]
theorem outB_moved (qs : List Pt) (v q : Pt) : outB (movedP qs v) (addP v q) = outB qs q := by
  rw [Bool.eq_iff_iff, outB_iff, outB_iff, moved_length]
  have e : ∀ j, j < qs.length → sideK (movedP qs v) (addP v q).1 (addP v q).2 j = sideK qs q.1 q.2 j := fun j hj => by
    unfold sideK
    rw [step_moved v hj, show fromP (movedP qs v) j = addP v (fromP qs j) from from_map _ hj]
    unfold addP
    simp only
    congr 1 <;> omega
  constructor
  · rintro ⟨j, hj, h⟩; exact ⟨j, hj, by rwa [e j hj] at h⟩
  · rintro ⟨j, hj, h⟩; exact ⟨j, hj, by rwa [e j hj]⟩
theorem inside_moved (ps qs : List Pt) (v : Pt) : (movedP ps v).any (outB (movedP qs v)) = ps.any (outB qs) := by
  unfold movedP
  rw [List.any_map]
  congr 1
  funext q
  exact outB_moved qs v q
/-! separation -/
theorem ext_spec {ps : List Pt} {d : Pt} (hn : 0 < ps.length) : ∀ k, (∀ j, j < k → dotP d (fromP ps j) ≤ (extK ps d k).1) ∧ ∃ j, j < ps.length ∧ (j < k ∨ j = 0) ∧ (k ≤ ps.length → (extK ps d k).1 = dotP d (fromP ps j)) := by
  intro k
  induction k with
  | zero => exact ⟨fun j hj => by omega, 0, hn, .inr rfl, fun _ => rfl⟩
  | succ k ih =>
    obtain ⟨h1, j, hj, hjk, h2⟩ := ih
    simp only [extK]
    split
    · rename_i hlt
      refine ⟨fun i hi => ?_, ?_⟩
      · by_cases hik : i = k
        · subst hik; exact Int.le_refl _
        · have := h1 i (by omega); simp only; omega
      · by_cases hk : k < ps.length
        · exact ⟨k, hk, .inl (by omega), fun _ => rfl⟩
        · exact ⟨j, hj, by omega, fun h => by omega⟩
    · rename_i hge
      refine ⟨fun i hi => ?_, j, hj, by omega, fun h => h2 (by omega)⟩
      by_cases hik : i = k
      · subst hik; omega
      · exact h1 i (by omega)
theorem sep_iff {ps qs : List Pt} (h1 : 0 < ps.length) (h2 : 0 < qs.length) (d : Pt) :
    (extK ps d ps.length).1 + (extK qs (negP d) qs.length).1 ≤ 0 ↔ ∀ i j, i < ps.length → j < qs.length → dotP d (fromP ps i) ≤ dotP d (fromP qs j) := by
  obtain ⟨a1, i0, hi0, _, ai⟩ := ext_spec (d := d) h1 ps.length
  obtain ⟨b1, j0, hj0, _, bj⟩ := ext_spec (d := negP d) h2 qs.length
  have hneg : ∀ q, dotP (negP d) q = -dotP d q := fun q => by unfold dotP dotV negP; simp only [Int.neg_mul]; omega
  constructor
  · intro h i j hi hj
    have e1 := a1 i hi
    have e2 := b1 j hj
    rw [hneg] at e2
    omega
  · intro h
    rw [ai (Nat.le_refl _), bj (Nat.le_refl _), hneg]
    have := h i0 j0 hi0 hj0
    omega
def sepBy (ps qs : List Pt) (d : Pt) : Prop := ∀ i j, i < ps.length → j < qs.length → dotP d (fromP ps i) ≤ dotP d (fromP qs j)
theorem overlap_iff {ps qs : List Pt} (h1 : 0 < ps.length) (h2 : 0 < qs.length) : overlapB ps qs = false ↔ (∃ k, k < ps.length ∧ sepBy ps qs (dirP ps k)) ∨ ∃ k, k < qs.length ∧ sepBy ps qs (dirQ qs k) := by
  have hs : ∀ k, sepAt ps qs k = true ↔ sepBy ps qs (dirA ps qs k) := fun k => by
    unfold sepAt
    rw [decide_eq_true_eq]
    exact sep_iff h1 h2 _
  have ho : overlapB ps qs = false ↔ ∃ k, k < ps.length + qs.length ∧ sepAt ps qs k = true := by
    unfold overlapB
    constructor
    · intro h
      cases hf : (List.range (ps.length + qs.length)).find? (sepAt ps qs) with
      | none => rw [hf] at h; cases h
      | some k =>
        have hp := List.find?_some hf
        have hm := List.mem_of_find?_eq_some hf
        rw [List.mem_range] at hm
        exact ⟨k, hm, hp⟩
    · rintro ⟨k, hk, hp⟩
      cases hf : (List.range (ps.length + qs.length)).find? (sepAt ps qs) with
      | some k => rfl
      | none =>
        rw [List.find?_eq_none] at hf
        exact absurd hp (hf k (List.mem_range.2 hk))
  rw [ho]
  constructor
  · rintro ⟨k, hk, h⟩
    rw [hs] at h
    unfold dirA at h
    split at h
    · exact .inl ⟨k, by assumption, h⟩
    · exact .inr ⟨k - ps.length, by omega, h⟩
  · rintro (⟨k, hk, h⟩ | ⟨k, hk, h⟩)
    · refine ⟨k, by omega, (hs k).2 ?_⟩
      unfold dirA
      rw [if_pos hk]; exact h
    · refine ⟨ps.length + k, by omega, (hs _).2 ?_⟩
      unfold dirA
      rw [if_neg (by omega), Nat.add_sub_cancel_left]; exact h
theorem sepBy_moved (ps qs : List Pt) (v d : Pt) : sepBy (movedP ps v) (movedP qs v) d ↔ sepBy ps qs d := by
  unfold sepBy
  rw [moved_length, moved_length]
  have e : ∀ (rs : List Pt) i, i < rs.length → dotP d (fromP (movedP rs v) i) = dotP d (fromP rs i) + dotP d v := fun rs i hi => by
    rw [show fromP (movedP rs v) i = addP v (fromP rs i) from from_map _ hi]
    unfold dotP dotV addP
    simp only [Int.mul_add]
    omega
  constructor
  · intro h i j hi hj
    have := h i j hi hj
    rw [e ps i hi, e qs j hj] at this
    omega
  · intro h i j hi hj
    rw [e ps i hi, e qs j hj]
    have := h i j hi hj
    omega
theorem overlap_moved {ps qs : List Pt} (v : Pt) (h1 : 0 < ps.length) (h2 : 0 < qs.length) : overlapB (movedP ps v) (movedP qs v) = overlapB ps qs := by
  have h : overlapB (movedP ps v) (movedP qs v) = false ↔ overlapB ps qs = false := by
    rw [overlap_iff (by rw [moved_length]; exact h1) (by rw [moved_length]; exact h2), overlap_iff h1 h2, moved_length, moved_length]
    have d1 : ∀ k, k < ps.length → dirP (movedP ps v) k = dirP ps k := fun k hk => by unfold dirP; rw [step_moved v hk]
    have d2 : ∀ k, k < qs.length → dirQ (movedP qs v) k = dirQ qs k := fun k hk => by unfold dirQ; rw [step_moved v hk]
    constructor
    · rintro (⟨k, hk, h⟩ | ⟨k, hk, h⟩)
      · exact .inl ⟨k, hk, (sepBy_moved ps qs v _).1 (by rwa [d1 k hk] at h)⟩
      · exact .inr ⟨k, hk, (sepBy_moved ps qs v _).1 (by rwa [d2 k hk] at h)⟩
    · rintro (⟨k, hk, h⟩ | ⟨k, hk, h⟩)
      · exact .inl ⟨k, hk, (sepBy_moved ps qs v _).2 (by rwa [d1 k hk])⟩
      · exact .inr ⟨k, hk, (sepBy_moved ps qs v _).2 (by rwa [d2 k hk])⟩
  cases ha : overlapB (movedP ps v) (movedP qs v) <;> cases hb : overlapB ps qs <;> simp_all
end Go.Proofs.Ytbdppephmlkbaaa

namespace Go.Proofs.Ytbdppephmlkbaaa
/-! a turned list -/
def rotP (fs : List Pt) (s : Nat) : List Pt := fs.drop s ++ fs.take s
theorem rot_length {fs : List Pt} {s : Nat} (hs : s ≤ fs.length) : (rotP fs s).length = fs.length := by
  unfold rotP
  rw [List.length_append, List.length_drop, List.length_take]
  omega
theorem rot_get {fs : List Pt} {s k : Nat} (hs : s < fs.length) (hk : k < fs.length) : (rotP fs s)[k]? = fs[(k + s) % fs.length]? := by
  unfold rotP
  by_cases h : k < fs.length - s
  · rw [List.getElem?_append_left (by rw [List.length_drop]; exact h), List.getElem?_drop, Nat.mod_eq_of_lt (by omega), Nat.add_comm]
  · rw [List.getElem?_append_right (by rw [List.length_drop]; omega), List.length_drop, List.getElem?_take]
    have e : (k + s) % fs.length = k - (fs.length - s) := by
      rw [show k + s = (k - (fs.length - s)) + fs.length by omega, Nat.add_mod_right, Nat.mod_eq_of_lt (by omega)]
    rw [e, if_pos (by omega)]
theorem from_rot {fs : List Pt} {s k : Nat} (hs : s < fs.length) (hk : k < fs.length) : fromP (rotP fs s) k = fromP fs ((k + s) % fs.length) := by
  unfold fromP
  rw [List.getD_eq_getElem?_getD, List.getD_eq_getElem?_getD, rot_get hs hk]
theorem to_rot {fs : List Pt} {s k : Nat} (hs : s < fs.length) (_ : k < fs.length) : toP (rotP fs s) k = toP fs ((k + s) % fs.length) := by
  rw [to_from, to_from, rot_length (by omega), from_rot hs (Nat.mod_lt _ (by omega))]
  congr 1
  rw [Nat.mod_add_mod, Nat.mod_add_mod]
  congr 1
  omega
theorem step_rot {fs : List Pt} {s k : Nat} (hs : s < fs.length) (hk : k < fs.length) : stepP (rotP fs s) k = stepP fs ((k + s) % fs.length) := by
  unfold stepP
  rw [from_rot hs hk, to_rot hs hk]
theorem neg_length (ps : List Pt) : (ps.map negP).length = ps.length := List.length_map _
theorem step_neg {ps : List Pt} {k : Nat} (hk : k < ps.length) : stepP (ps.map negP) k = negP (stepP ps k) := by
  unfold stepP
  rw [to_from, to_from, neg_length, from_map _ hk, from_map _ (Nat.mod_lt _ (by omega))]
  unfold negP
  simp only
  congr 1 <;> omega
/-- where the flipped polygon begins -/
def flipS (ps : List Pt) : Nat := idxK (minP (ps.map negP)) (ps.map negP)
theorem flip_rot (ps : List Pt) : flipP ps = rotP (ps.map negP) (flipS ps) := rfl
theorem flipS_lt {ps : List Pt} (h : 0 < ps.length) : flipS ps < ps.length := by
  have := (idxK_lt (minP_mem (qs := ps.map negP) (by rw [neg_length]; exact h))).1
  rwa [neg_length] at this
theorem flip_length {ps : List Pt} (h : 0 < ps.length) : (flipP ps).length = ps.length := by
  rw [flip_rot, rot_length (by rw [neg_length]; exact Nat.le_of_lt (flipS_lt h)), neg_length]
theorem from_flip {ps : List Pt} {k : Nat} (hk : k < ps.length) : fromP (flipP ps) k = negP (fromP ps ((k + flipS ps) % ps.length)) := by
  rw [flip_rot, from_rot (by rw [neg_length]; exact flipS_lt (by omega)) (by rw [neg_length]; exact hk), neg_length, from_map _ (Nat.mod_lt _ (by omega))]
theorem step_flip {ps : List Pt} {k : Nat} (hk : k < ps.length) : stepP (flipP ps) k = negP (stepP ps ((k + flipS ps) % ps.length)) := by
  rw [flip_rot, step_rot (by rw [neg_length]; exact flipS_lt (by omega)) (by rw [neg_length]; exact hk), neg_length, step_neg (Nat.mod_lt _ (by omega))]
theorem area_flip {ps : List Pt} (h : 0 < ps.length) : areaZ (flipP ps) = areaZ ps := by
  unfold areaZ
  rw [flip_length h, areaK_sum, areaK_sum, ← sumTo_turn (crossK ps) (Nat.le_of_lt (flipS_lt h))]
  refine sumTo_congr _ fun k hk => ?_
  unfold crossK
  rw [from_flip hk, step_flip hk]
  exact cross_neg _ _
theorem ring_flip {ps : List Pt} (h : 0 < ps.length) : ringZ (flipP ps) = ringZ ps := by
  unfold ringZ
  rw [flip_length h, ringK_sum, ringK_sum, ← sumTo_turn (gcdK ps) (Nat.le_of_lt (flipS_lt h))]
  refine sumTo_congr _ fun k hk => ?_
  unfold gcdK
  rw [step_flip hk]
  unfold negP
  simp only [Int.gcd, Int.natAbs_neg]
/-- every index is turned to from one -/
theorem turn_back {n s j : Nat} (hs : s < n) (hj : j < n) : ∃ k, k < n ∧ (k + s) % n = j := by
  by_cases h : s ≤ j
  · exact ⟨j - s, by omega, by rw [Nat.sub_add_cancel h, Nat.mod_eq_of_lt hj]⟩
  · exact ⟨j + n - s, by omega, by rw [show j + n - s + s = j + n by omega, Nat.add_mod_right, Nat.mod_eq_of_lt hj]⟩
theorem side_flip {qs : List Pt} (x y : Int) {k : Nat} (hk : k < qs.length) : sideK (flipP qs) (-x) (-y) k = sideK qs x y ((k + flipS qs) % qs.length) := by
  unfold sideK
  rw [step_flip hk, from_flip hk]
  unfold negP
  simp only
  have e1 : -x - -(fromP qs ((k + flipS qs) % qs.length)).1 = -(x - (fromP qs ((k + flipS qs) % qs.length)).1) := by omega
  have e2 : -y - -(fromP qs ((k + flipS qs) % qs.length)).2 = -(y - (fromP qs ((k + flipS qs) % qs.length)).2) := by omega
  rw [e1, e2]
  exact cross_neg (stepP qs ((k + flipS qs) % qs.length)) (x - (fromP qs ((k + flipS qs) % qs.length)).1, y - (fromP qs ((k + flipS qs) % qs.length)).2)
theorem outB_flip {qs : List Pt} (h : 0 < qs.length) (q : Pt) : outB (flipP qs) (negP q) = outB qs q := by
  rw [Bool.eq_iff_iff, outB_iff, outB_iff, flip_length h]
  constructor
  · rintro ⟨j, hj, hh⟩
    refine ⟨_, Nat.mod_lt (j + flipS qs) h, ?_⟩
    rw [← side_flip q.1 q.2 hj]
    exact hh
  · rintro ⟨j, hj, hh⟩
    obtain ⟨k, hk, rfl⟩ := turn_back (flipS_lt h) hj
    refine ⟨k, hk, ?_⟩
    rw [← side_flip q.1 q.2 hk] at hh
    exact hh
theorem any_rot (fs : List Pt) (s : Nat) (p : Pt → Bool) : (rotP fs s).any p = fs.any p := by
  unfold rotP
  rw [List.any_append, Bool.or_comm, ← List.any_append, List.take_append_drop]
theorem inside_flip {ps qs : List Pt} (h : 0 < qs.length) : (flipP ps).any (outB (flipP qs)) = ps.any (outB qs) := by
  rw [flip_rot ps, any_rot, List.any_map]
  congr 1
  funext q
  exact outB_flip h q
theorem sepBy_flip {ps qs : List Pt} (h1 : 0 < ps.length) (h2 : 0 < qs.length) (d : Pt) : sepBy (flipP ps) (flipP qs) (negP d) ↔ sepBy ps qs d := by
  have e : ∀ (q : Pt), dotP (negP d) (negP q) = dotP d q := fun q => by unfold dotP dotV negP; simp only [Int.neg_mul_neg]
  unfold sepBy
  rw [flip_length h1, flip_length h2]
  constructor
  · intro h i j hi hj
    obtain ⟨i', hi', rfl⟩ := turn_back (flipS_lt h1) hi
    obtain ⟨j', hj', rfl⟩ := turn_back (flipS_lt h2) hj
    have := h i' j' hi' hj'
    rwa [from_flip hi', from_flip hj', e, e] at this
  · intro h i j hi hj
    rw [from_flip hi, from_flip hj, e, e]
    exact h _ _ (Nat.mod_lt _ h1) (Nat.mod_lt _ h2)
theorem overlap_flip {ps qs : List Pt} (h1 : 0 < ps.length) (h2 : 0 < qs.length) : overlapB (flipP ps) (flipP qs) = overlapB ps qs := by
  have h : overlapB (flipP ps) (flipP qs) = false ↔ overlapB ps qs = false := by
    rw [overlap_iff (by rw [flip_length h1]; exact h1) (by rw [flip_length h2]; exact h2), overlap_iff h1 h2, flip_length h1, flip_length h2]
    have d1 : ∀ k, k < ps.length → dirP (flipP ps) k = negP (dirP ps ((k + flipS ps) % ps.length)) := fun k hk => by unfold dirP; rw [step_flip hk]; rfl
    have d2 : ∀ k, k < qs.length → dirQ (flipP qs) k = negP (dirQ qs ((k + flipS qs) % qs.length)) := fun k hk => by unfold dirQ; rw [step_flip hk]; rfl
    constructor
    · rintro (⟨k, hk, h⟩ | ⟨k, hk, h⟩)
      · exact .inl ⟨_, Nat.mod_lt _ h1, (sepBy_flip h1 h2 _).1 (by rwa [d1 k hk] at h)⟩
      · exact .inr ⟨_, Nat.mod_lt _ h2, (sepBy_flip h1 h2 _).1 (by rwa [d2 k hk] at h)⟩
    · rintro (⟨k, hk, h⟩ | ⟨k, hk, h⟩)
      · obtain ⟨k', hk', rfl⟩ := turn_back (flipS_lt h1) hk
        exact .inl ⟨k', hk', by rw [d1 k' hk']; exact (sepBy_flip h1 h2 _).2 h⟩
      · obtain ⟨k', hk', rfl⟩ := turn_back (flipS_lt h2) hk
        exact .inr ⟨k', hk', by rw [d2 k' hk']; exact (sepBy_flip h1 h2 _).2 h⟩
  cases ha : overlapB (flipP ps) (flipP qs) <;> cases hb : overlapB ps qs <;> simp_all
/-! the steps of a polygon -/
theorem stepsOf_getD {ps : List Pt} {k : Nat} (hk : k < ps.length) : (stepsOf ps).getD k (0, 0) = stepP ps k := by
  unfold stepsOf
  rw [List.getD_eq_getElem?_getD, List.getElem?_map, List.getElem?_range hk]
  rfl
def prevI (n i : Nat) : Nat := if i = 0 then n - 1 else i - 1
theorem prevP_steps {ps : List Pt} {i : Nat} (hi : i < ps.length) : prevP (stepsOf ps) i = stepP ps (prevI ps.length i) := by
  unfold prevP prevI
  rw [stepsOf_length]
  split
  · exact stepsOf_getD (by omega)
  · exact stepsOf_getD (by omega)
theorem turn_iff (ps : List Pt) : turnB (stepsOf ps) = true ↔ ∀ i, i < ps.length → 0 < crossP (stepP ps (prevI ps.length i)) (stepP ps i) := by
  unfold turnB
  rw [List.all_eq_true, stepsOf_length]
  constructor
  · intro h i hi
    have := h i (List.mem_range.2 hi)
    rw [prevP_steps hi, stepsOf_getD hi] at this
    simpa using this
  · intro h i hi
    rw [List.mem_range] at hi
    rw [prevP_steps hi, stepsOf_getD hi]
    simpa using h i hi
theorem sorted_iff (ps : List Pt) : sortedB (stepsOf ps) = true ↔ ∀ i, i + 1 < ps.length → ¬ ltA (stepP ps (i + 1)) (stepP ps i) := by
  unfold sortedB
  rw [List.all_eq_true, stepsOf_length]
  constructor
  · intro h i hi
    have := h i (List.mem_range.2 (by omega))
    rw [stepsOf_getD hi, stepsOf_getD (by omega)] at this
    rw [← angP_neg]
    simp only [decide_eq_true_eq] at this
    omega
  · intro h i hi
    rw [List.mem_range] at hi
    rw [stepsOf_getD (by omega), stepsOf_getD (by omega)]
    have := h i (by omega)
    rw [← angP_neg] at this
    simp only [decide_eq_true_eq]
    omega
end Go.Proofs.Ytbdppephmlkbaaa

namespace Go.Proofs.Ytbdppephmlkbaaa
def lowP (a b : Pt) : Prop := a.2 < b.2 ∨ (a.2 = b.2 ∧ a.1 < b.1)
theorem low_iff (a b : Pt) : heightP a b < 0 ↔ lowP a b := by
  unfold heightP heightZ sgnZ lowP
  rcases Int.lt_trichotomy a.2 b.2 with h | h | h
  · simp [h]
  · rw [h]
    simp
    rcases Int.lt_trichotomy a.1 b.1 with g | g | g
    · simp [g]
    · rw [g]; simp
    · have : ¬ a.1 < b.1 := by omega
      simp [this, g]
  · have h1 : ¬ a.2 < b.2 := by omega
    have h2 : ¬ a.2 = b.2 := by omega
    simp [h1, h, h2]
theorem low_trans {a b c : Pt} (h1 : lowP a b) (h2 : lowP b c) : lowP a c := by unfold lowP at *; omega
theorem low_irrefl (a : Pt) : ¬ lowP a a := by unfold lowP; omega
theorem low_neg {a b : Pt} (h : lowP a b) : lowP (negP b) (negP a) := by unfold lowP negP at *; simp only; omega
theorem neg_neg' (a : Pt) : negP (negP a) = a := by unfold negP; simp
theorem neg_inj {a b : Pt} (h : negP a = negP b) : a = b := by rw [← neg_neg' a, h, neg_neg']
theorem sinks_neg {a : Pt} (h : a ≠ (0, 0)) : sinksB (negP a).1 (negP a).2 = !sinksB a.1 a.2 := by
  cases hs : sinksB a.1 a.2 with
  | true =>
    rcases down_of hs with h1 | ⟨h1, h2⟩
    · simp [sinksB, negP]; omega
    · simp [sinksB, negP]; omega
  | false =>
    rcases up_of hs h with h1 | ⟨h1, h2⟩
    · simp [sinksB, negP]; omega
    · simp [sinksB, negP]; omega
theorem crossP_neg (a b : Pt) : crossP (negP a) (negP b) = crossP a b := cross_neg a b
/-- what a polygon's steps are like -/
structure Around (ps : List Pt) : Prop where
  three : 3 ≤ ps.length
  turn : ∀ i, i < ps.length → 0 < crossP (stepP ps (prevI ps.length i)) (stepP ps i)
  sorted : ∀ i, i + 1 < ps.length → ¬ ltA (stepP ps (i + 1)) (stepP ps i)
theorem valid_around {ps : List Pt} (h : validB ps = true) : Around ps := by
  have h1 := valid_near h
  have hf : ps.any farP = false := by
    simp only [validB, Bool.and_eq_true, Bool.not_eq_true'] at h
    exact h.1.1.2
  rw [validB_eq h1.2.1 h1.2.2 hf, Bool.and_eq_true] at h
  exact ⟨h1.2.1, (turn_iff ps).1 h.1, (sorted_iff ps).1 h.2⟩
theorem around_valid {ps : List Pt} (h : Around ps) (h32 : ps.length ≤ 32) (hf : ps.any farP = false) : validB ps = true := by
  rw [validB_eq h.three h32 hf, (turn_iff ps).2 h.turn, (sorted_iff ps).2 h.sorted]
  rfl
namespace Around
variable {ps : List Pt}
theorem ne0 (h : Around ps) {i : Nat} (hi : i < ps.length) : stepP ps i ≠ (0, 0) := fun e => by
  have := h.turn i hi
  rw [e] at this
  unfold crossP crossZ at this
  simp at this
theorem down_on (h : Around ps) {i : Nat} (hi : i + 1 < ps.length) (hs : sinksB (stepP ps i).1 (stepP ps i).2 = true) : sinksB (stepP ps (i + 1)).1 (stepP ps (i + 1)).2 = true := by
  cases hc : sinksB (stepP ps (i + 1)).1 (stepP ps (i + 1)).2 with
  | true => rfl
  | false => exact absurd (.inl ⟨hc, hs⟩) (h.sorted i hi)
/-- first the steps that rise, then those that sink -/
theorem split (h : Around ps) : ∃ u, u ≤ ps.length ∧ ∀ i, i < ps.length → (sinksB (stepP ps i).1 (stepP ps i).2 = true ↔ u ≤ i) := by
  have key : ∀ m, m ≤ ps.length → ∃ u, u ≤ m ∧ ∀ i, i < m → (sinksB (stepP ps i).1 (stepP ps i).2 = true ↔ u ≤ i) := by
    intro m
    induction m with
    | zero => intro _; exact ⟨0, Nat.le_refl _, fun i hi => by omega⟩
    | succ m ih =>
      intro hm
      obtain ⟨u, hu, hh⟩ := ih (by omega)
      cases hs : sinksB (stepP ps m).1 (stepP ps m).2 with
      | true =>
        refine ⟨u, by omega, fun i hi => ?_⟩
        by_cases him : i = m
        · subst him; simp [hs, hu]
        · exact hh i (by omega)
      | false =>
        have hum : u = m := by
          by_cases hlt : u < m
          · have h1 := (hh (m - 1) (by omega)).2 (by omega)
            have h2 := h.down_on (i := m - 1) (by omega) h1
            rw [show m - 1 + 1 = m by omega, hs] at h2
            cases h2
          · omega
        refine ⟨m + 1, Nat.le_refl _, fun i hi => ?_⟩
        by_cases him : i = m
        · subst him; simp [hs]
        · rw [hh i (by omega)]; omega
  exact key _ (Nat.le_refl _)
theorem rise (h : Around ps) {i : Nat} (hi : i < ps.length) (hs : sinksB (stepP ps i).1 (stepP ps i).2 = false) : lowP (fromP ps i) (toP ps i) := by
  have := up_of hs (h.ne0 hi)
  unfold stepP at this
  unfold lowP
  simp only at this
  omega
theorem sink (_ : Around ps) {i : Nat} (_ : i < ps.length) (hs : sinksB (stepP ps i).1 (stepP ps i).2 = true) : lowP (toP ps i) (fromP ps i) := by
  have := down_of hs
  unfold stepP at this
  unfold lowP
  simp only at this
  omega
/-- the highest vertex -/
theorem top (h : Around ps) : ∃ u, 1 ≤ u ∧ u < ps.length ∧ (∀ i, i < ps.length → (sinksB (stepP ps i).1 (stepP ps i).2 = true ↔ u ≤ i)) ∧ ∀ j, j < ps.length → j ≠ u → lowP (fromP ps j) (fromP ps u) := by
  obtain ⟨u, hu, hh⟩ := h.split
  have h3 := h.three
  have up : ∀ i, i < ps.length → i < u → lowP (fromP ps i) (toP ps i) := fun i hi hiu => h.rise hi (by
    cases hs : sinksB (stepP ps i).1 (stepP ps i).2 with
    | false => rfl
    | true => have := (hh i hi).1 hs; omega)
  have down : ∀ i, i < ps.length → u ≤ i → lowP (toP ps i) (fromP ps i) := fun i hi hiu => h.sink hi ((hh i hi).2 hiu)
  have nxt : ∀ i, i + 1 < ps.length → toP ps i = fromP ps (i + 1) := fun i hi => by rw [to_from, Nat.mod_eq_of_lt hi]
  have last : toP ps (ps.length - 1) = fromP ps 0 := by rw [to_from, show ps.length - 1 + 1 = ps.length by omega, Nat.mod_self]
  have chainUp : ∀ d i, i + d < ps.length → i + d ≤ u → 0 < d → lowP (fromP ps i) (fromP ps (i + d)) := by
    intro d
    induction d with
    | zero => intro i _ _ h0; omega
    | succ d ih =>
      intro i h1 h2 _
      have e := up (i + d) (by omega) (by omega)
      rw [nxt (i + d) (by omega)] at e
      by_cases hd : d = 0
      · subst hd; exact e
      · exact low_trans (ih i (by omega) (by omega) (by omega)) e
  have chainDown : ∀ d i, i + d < ps.length → u ≤ i → 0 < d → lowP (fromP ps (i + d)) (fromP ps i) := by
    intro d
    induction d with
    | zero => intro i _ _ h0; omega
    | succ d ih =>
      intro i h1 h2 _
      have e := down (i + d) (by omega) (by omega)
      rw [nxt (i + d) (by omega)] at e
      by_cases hd : d = 0
      · subst hd; exact e
      · exact low_trans e (ih i (by omega) (by omega) (by omega))
  have u0 : 1 ≤ u := by
    by_cases h0 : u = 0
    · subst h0
      have e1 := chainDown (ps.length - 1) 0 (by omega) (Nat.le_refl _) (by omega)
      rw [Nat.zero_add] at e1
      have e2 := down (ps.length - 1) (by omega) (Nat.zero_le _)
      rw [last] at e2
      exact absurd (low_trans e2 e1) (low_irrefl _)
    · omega
  have un : u < ps.length := by
    by_cases h0 : u = ps.length
    · have e1 := chainUp (ps.length - 1) 0 (by omega) (by omega) (by omega)
      rw [Nat.zero_add] at e1
      have e2 := up (ps.length - 1) (by omega) (by omega)
      rw [last] at e2
      exact absurd (low_trans e1 e2) (low_irrefl _)
    · omega
  refine ⟨u, u0, un, hh, fun j hj hju => ?_⟩
  by_cases hlt : j < u
  · have := chainUp (u - j) j (by omega) (by omega) (by omega)
    rwa [show j + (u - j) = u by omega] at this
  · have := chainDown (j - u) u (by omega) (Nat.le_refl _) (by omega)
    rwa [show u + (j - u) = j by omega] at this
end Around
theorem minK_low {fs : List Pt} : ∀ k j, j ≤ k → ¬ lowP (fromP fs j) (minK fs k) := by
  intro k
  induction k with
  | zero => intro j hj; obtain rfl : j = 0 := by omega
            exact low_irrefl _
  | succ k ih =>
    intro j hj
    simp only [minK]
    split
    · rename_i hlt
      rw [low_iff] at hlt
      by_cases hjk : j = k + 1
      · subst hjk; exact low_irrefl _
      · exact fun hh => ih j (by omega) (low_trans hh hlt)
    · rename_i hge
      by_cases hjk : j = k + 1
      · subst hjk; rwa [low_iff] at hge
      · exact ih j (by omega)
theorem flipS_top {ps : List Pt} {u : Nat} (hu : u < ps.length) (h : ∀ j, j < ps.length → j ≠ u → lowP (fromP ps j) (fromP ps u)) : flipS ps = u := by
  have hn : 0 < (ps.map negP).length := by rw [neg_length]; omega
  obtain ⟨h1, h2⟩ := idxK_lt (minP_mem hn)
  rw [neg_length] at h1
  change flipS ps < _ at h1
  change (ps.map negP)[flipS ps]? = _ at h2
  have e : negP (fromP ps (flipS ps)) = minP (ps.map negP) := by
    rw [← from_map negP h1]
    exact fromP_of h2
  by_cases hs : flipS ps = u
  · exact hs
  · exfalso
    have h3 := low_neg (h _ h1 hs)
    have h4 := minK_low (fs := ps.map negP) ((ps.map negP).length - 1) u (by rw [neg_length]; omega)
    apply h4
    rw [from_map negP hu]
    show lowP _ (minP (ps.map negP))
    rw [← e]
    exact h3
theorem prev_mod {n i s : Nat} (hi : i < n) (hs : s < n) : (prevI n i + s) % n = prevI n ((i + s) % n) := by
  unfold prevI
  by_cases h0 : i = 0
  · subst h0
    rw [if_pos rfl, Nat.zero_add, Nat.mod_eq_of_lt hs]
    by_cases h1 : s = 0
    · subst h1; rw [if_pos rfl, Nat.add_zero, Nat.mod_eq_of_lt (by omega)]
    · rw [if_neg h1, show n - 1 + s = (s - 1) + n by omega, Nat.add_mod_right, Nat.mod_eq_of_lt (by omega)]
  · rw [if_neg h0]
    by_cases h1 : i + s < n
    · rw [Nat.mod_eq_of_lt h1, if_neg (by omega), Nat.mod_eq_of_lt (by omega)]; omega
    · by_cases h2 : i + s = n
      · rw [h2, Nat.mod_self, if_pos rfl, Nat.mod_eq_of_lt (by omega)]; omega
      · rw [show i + s = (i + s - n) + n by omega, Nat.add_mod_right, Nat.mod_eq_of_lt (show i + s - n < n by omega), if_neg (by omega), show i - 1 + s = (i + s - n - 1) + n by omega, Nat.add_mod_right, Nat.mod_eq_of_lt (by omega)]
theorem around_flip {ps : List Pt} (h : Around ps) : Around (flipP ps) := by
  obtain ⟨u, u1, un, hh, htop⟩ := h.top
  have hS := flipS_top un htop
  have hn0 : 0 < ps.length := by omega
  have hl := flip_length hn0
  have hstep : ∀ k, k < ps.length → stepP (flipP ps) k = negP (stepP ps ((k + u) % ps.length)) := fun k hk => by rw [step_flip hk, hS]
  have same : ∀ a b : Pt, a ≠ (0, 0) → b ≠ (0, 0) → sinksB a.1 a.2 = sinksB b.1 b.2 → ¬ ltA a b → ¬ ltA (negP a) (negP b) := by
    intro a b ha hb hs hn hlt
    rcases hlt with ⟨h1, h2⟩ | ⟨_, h2⟩
    · rw [sinks_neg ha] at h1
      rw [sinks_neg hb, ← hs] at h2
      cases hc : sinksB a.1 a.2 <;> rw [hc] at h1 h2 <;> cases h1 <;> cases h2
    · exact hn (.inr ⟨hs, by have := crossP_neg a b; unfold crossP at this; rw [← this]; exact h2⟩)
  refine ⟨by rw [hl]; exact h.three, fun i hi => ?_, fun i hi => ?_⟩
  · rw [hl] at hi ⊢
    have hp : prevI ps.length i < ps.length := by unfold prevI; split <;> omega
    rw [hstep i hi, hstep _ hp, crossP_neg, prev_mod hi un]
    exact h.turn _ (Nat.mod_lt _ hn0)
  · rw [hl] at hi
    rw [hstep i (by omega), hstep (i + 1) hi]
    by_cases h1 : i + u + 1 < ps.length
    · rw [Nat.mod_eq_of_lt (show i + u < ps.length by omega), Nat.mod_eq_of_lt (show i + 1 + u < ps.length by omega)]
      have e : i + 1 + u = i + u + 1 := by omega
      rw [e]
      refine same _ _ (h.ne0 h1) (h.ne0 (by omega)) ?_ (h.sorted (i + u) h1)
      rw [(hh (i + u) (by omega)).2 (by omega), (hh (i + u + 1) h1).2 (by omega)]
    · by_cases h2 : i + u + 1 = ps.length
      · rw [Nat.mod_eq_of_lt (show i + u < ps.length by omega), show i + 1 + u = ps.length by omega, Nat.mod_self]
        have s0 : sinksB (stepP ps 0).1 (stepP ps 0).2 = false := by
          cases hs : sinksB (stepP ps 0).1 (stepP ps 0).2 with
          | false => rfl
          | true => have := (hh 0 hn0).1 hs; omega
        have s1 := (hh (i + u) (by omega)).2 (by omega)
        rintro (⟨g1, _⟩ | ⟨g1, _⟩)
        · rw [sinks_neg (h.ne0 hn0), s0] at g1; cases g1
        · rw [sinks_neg (h.ne0 hn0), s0, sinks_neg (h.ne0 (by omega)), s1] at g1; cases g1
      · have e1 : (i + u) % ps.length = i + u - ps.length := by
          rw [show i + u = (i + u - ps.length) + ps.length by omega, Nat.add_mod_right, Nat.mod_eq_of_lt (by omega)]; omega
        have e2 : (i + 1 + u) % ps.length = i + u - ps.length + 1 := by
          rw [show i + 1 + u = (i + u - ps.length + 1) + ps.length by omega, Nat.add_mod_right, Nat.mod_eq_of_lt (by omega)]
        rw [e1, e2]
        have hup : ∀ j, j < u → sinksB (stepP ps j).1 (stepP ps j).2 = false := fun j hj => by
          cases hs : sinksB (stepP ps j).1 (stepP ps j).2 with
          | false => rfl
          | true => have := (hh j (by omega)).1 hs; omega
        refine same _ _ (h.ne0 (by omega)) (h.ne0 (by omega)) ?_ (h.sorted (i + u - ps.length) (by omega))
        rw [hup _ (by omega), hup _ (by omega)]
theorem far_flip {ps : List Pt} (h : nearP ps) : (flipP ps).any farP = false := by
  rw [flip_rot, any_rot, List.any_map, List.any_eq_false]
  intro q hq
  have h1 := h q hq
  have h2 : farB (-q.1) (-q.2) = false := by
    unfold farB
    rw [decide_eq_false (by omega), decide_eq_false (by omega), decide_eq_false (by omega), decide_eq_false (by omega)]
    rfl
  simp [Function.comp, farP, negP, h2]
theorem valid_flip {ps : List Pt} (h : validB ps = true) : validB (flipP ps) = true := by
  have h1 := valid_near h
  refine around_valid (around_flip (valid_around h)) ?_ (far_flip h1.1)
  rw [flip_length (by omega)]
  exact h1.2.2
end Go.Proofs.Ytbdppephmlkbaaa
