import Derived.Test.YtnoacppfgckohaaM1
namespace Go.Proofs.Ytnoacppfgckohaa
/-! a turned list -/
def rotP (fs : List Pt) (s : Nat) : List Pt := fs.drop s ++ fs.take s
theorem rot_length {fs : List Pt} {s : Nat} (hs : s ≤ fs.length) : (rotP fs s).length = fs.length := by
  unfold rotP
  rw [List.length_append, List.length_drop, List.length_take]
  omega
theorem rot_get {fs : List Pt} {s k : Nat} (hs : s < fs.length) (hk : k < fs.length) : (rotP fs s)[k]? = fs[(k + s) % fs.length]? := by
  unfold rotP
  by_cases h : k < fs.length - s
  · rw [List.getElem?_append_left (by rw [List.length_drop]; exact h), List.getElem?_drop, Nat.mod_eq_of_lt (by omega), Nat.add_comm]
  · rw [List.getElem?_append_right (by rw [List.length_drop]; omega), List.length_drop, List.getElem?_take]
    have e : (k + s) % fs.length = k - (fs.length - s) := by
      rw [show k + s = (k - (fs.length - s)) + fs.length by omega, Nat.add_mod_right, Nat.mod_eq_of_lt (by omega)]
    rw [e, if_pos (by omega)]
theorem from_rot {fs : List Pt} {s k : Nat} (hs : s < fs.length) (hk : k < fs.length) : fromP (rotP fs s) k = fromP fs ((k + s) % fs.length) := by
  unfold fromP
  rw [List.getD_eq_getElem?_getD, List.getD_eq_getElem?_getD, rot_get hs hk]
theorem to_rot {fs : List Pt} {s k : Nat} (hs : s < fs.length) (_ : k < fs.length) : toP (rotP fs s) k = toP fs ((k + s) % fs.length) := by
  rw [to_from, to_from, rot_length (by omega), from_rot hs (Nat.mod_lt _ (by omega))]
  congr 1
  rw [Nat.mod_add_mod, Nat.mod_add_mod]
  congr 1
  omega
theorem step_rot {fs : List Pt} {s k : Nat} (hs : s < fs.length) (hk : k < fs.length) : stepP (rotP fs s) k = stepP fs ((k + s) % fs.length) := by
  unfold stepP
  rw [from_rot hs hk, to_rot hs hk]
theorem neg_length (ps : List Pt) : (ps.map negP).length = ps.length := List.length_map _
theorem step_neg {ps : List Pt} {k : Nat} (hk : k < ps.length) : stepP (ps.map negP) k = negP (stepP ps k) := by
  unfold stepP
  rw [to_from, to_from, neg_length, from_map _ hk, from_map _ (Nat.mod_lt _ (by omega))]
  unfold negP
  simp only
  congr 1 <;> omega
/-- where the flipped polygon begins -/
def flipS (ps : List Pt) : Nat := idxK (minP (ps.map negP)) (ps.map negP)
theorem flip_rot (ps : List Pt) : flipP ps = rotP (ps.map negP) (flipS ps) := rfl
theorem flipS_lt {ps : List Pt} (h : 0 < ps.length) : flipS ps < ps.length := by
  have := (idxK_lt (minP_mem (qs := ps.map negP) (by rw [neg_length]; exact h))).1
  rwa [neg_length] at this
theorem flip_length {ps : List Pt} (h : 0 < ps.length) : (flipP ps).length = ps.length := by
  rw [flip_rot, rot_length (by rw [neg_length]; exact Nat.le_of_lt (flipS_lt h)), neg_length]
theorem from_flip {ps : List Pt} {k : Nat} (hk : k < ps.length) : fromP (flipP ps) k = negP (fromP ps ((k + flipS ps) % ps.length)) := by
  rw [flip_rot, from_rot (by rw [neg_length]; exact flipS_lt (by omega)) (by rw [neg_length]; exact hk), neg_length, from_map _ (Nat.mod_lt _ (by omega))]
theorem step_flip {ps : List Pt} {k : Nat} (hk : k < ps.length) : stepP (flipP ps) k = negP (stepP ps ((k + flipS ps) % ps.length)) := by
  rw [flip_rot, step_rot (by rw [neg_length]; exact flipS_lt (by omega)) (by rw [neg_length]; exact hk), neg_length, step_neg (Nat.mod_lt _ (by omega))]
theorem area_flip {ps : List Pt} (h : 0 < ps.length) : areaZ (flipP ps) = areaZ ps := by
  unfold areaZ
  rw [flip_length h, areaK_sum, areaK_sum, ← sumTo_turn (crossK ps) (Nat.le_of_lt (flipS_lt h))]
  refine sumTo_congr _ fun k hk => ?_
  unfold crossK
  rw [from_flip hk, step_flip hk]
  exact cross_neg _ _
theorem ring_flip {ps : List Pt} (h : 0 < ps.length) : ringZ (flipP ps) = ringZ ps := by
  unfold ringZ
  rw [flip_length h, ringK_sum, ringK_sum, ← sumTo_turn (gcdK ps) (Nat.le_of_lt (flipS_lt h))]
  refine sumTo_congr _ fun k hk => ?_
  unfold gcdK
  rw [step_flip hk]
  unfold negP
  simp only [Int.gcd, Int.natAbs_neg]
/-- every index is turned to from one -/
theorem turn_back {n s j : Nat} (hs : s < n) (hj : j < n) : ∃ k, k < n ∧ (k + s) % n = j := by
  by_cases h : s ≤ j
  · exact ⟨j - s, by omega, by rw [Nat.sub_add_cancel h, Nat.mod_eq_of_lt hj]⟩
  · exact ⟨j + n - s, by omega, by rw [show j + n - s + s = j + n by omega, Nat.add_mod_right, Nat.mod_eq_of_lt hj]⟩
theorem side_flip {qs : List Pt} (x y : Int) {k : Nat} (hk : k < qs.length) : sideK (flipP qs) (-x) (-y) k = sideK qs x y ((k + flipS qs) % qs.length) := by
  unfold sideK
  rw [step_flip hk, from_flip hk]
  unfold negP
  simp only
  have e1 : -x - -(fromP qs ((k + flipS qs) % qs.length)).1 = -(x - (fromP qs ((k + flipS qs) % qs.length)).1) := by omega
  have e2 : -y - -(fromP qs ((k + flipS qs) % qs.length)).2 = -(y - (fromP qs ((k + flipS qs) % qs.length)).2) := by omega
  rw [e1, e2]
  exact cross_neg (stepP qs ((k + flipS qs) % qs.length)) (x - (fromP qs ((k + flipS qs) % qs.length)).1, y - (fromP qs ((k + flipS qs) % qs.length)).2)
theorem outB_flip {qs : List Pt} (h : 0 < qs.length) (q : Pt) : outB (flipP qs) (negP q) = outB qs q := by
  rw [Bool.eq_iff_iff, outB_iff, outB_iff, flip_length h]
  constructor
  · rintro ⟨j, hj, hh⟩
    refine ⟨_, Nat.mod_lt (j + flipS qs) h, ?_⟩
    rw [← side_flip q.1 q.2 hj]
    exact hh
  · rintro ⟨j, hj, hh⟩
    obtain ⟨k, hk, rfl⟩ := turn_back (flipS_lt h) hj
    refine ⟨k, hk, ?_⟩
    rw [← side_flip q.1 q.2 hk] at hh
    exact hh
theorem any_rot (fs : List Pt) (s : Nat) (p : Pt → Bool) : (rotP fs s).any p = fs.any p := by
  unfold rotP
  rw [List.any_append, Bool.or_comm, ← List.any_append, List.take_append_drop]
theorem inside_flip {ps qs : List Pt} (h : 0 < qs.length) : (flipP ps).any (outB (flipP qs)) = ps.any (outB qs) := by
  rw [flip_rot ps, any_rot, List.any_map]
  congr 1
  funext q
  exact outB_flip h q
theorem sepBy_flip {ps qs : List Pt} (h1 : 0 < ps.length) (h2 : 0 < qs.length) (d : Pt) : sepBy (flipP ps) (flipP qs) (negP d) ↔ sepBy ps qs d := by
  have e : ∀ (q : Pt), dotP (negP d) (negP q) = dotP d q := fun q => by unfold dotP dotV negP; simp only [Int.neg_mul_neg]
  unfold sepBy
  rw [flip_length h1, flip_length h2]
  constructor
  · intro h i j hi hj
    obtain ⟨i', hi', rfl⟩ := turn_back (flipS_lt h1) hi
    obtain ⟨j', hj', rfl⟩ := turn_back (flipS_lt h2) hj
    have := h i' j' hi' hj'
    rwa [from_flip hi', from_flip hj', e, e] at this
  · intro h i j hi hj
    rw [from_flip hi, from_flip hj, e, e]
    exact h _ _ (Nat.mod_lt _ h1) (Nat.mod_lt _ h2)
theorem overlap_flip {ps qs : List Pt} (h1 : 0 < ps.length) (h2 : 0 < qs.length) : overlapB (flipP ps) (flipP qs) = overlapB ps qs := by
  have h : overlapB (flipP ps) (flipP qs) = false ↔ overlapB ps qs = false := by
    rw [overlap_iff (by rw [flip_length h1]; exact h1) (by rw [flip_length h2]; exact h2), overlap_iff h1 h2, flip_length h1, flip_length h2]
    have d1 : ∀ k, k < ps.length → dirP (flipP ps) k = negP (dirP ps ((k + flipS ps) % ps.length)) := fun k hk => by unfold dirP; rw [step_flip hk]; rfl
    have d2 : ∀ k, k < qs.length → dirQ (flipP qs) k = negP (dirQ qs ((k + flipS qs) % qs.length)) := fun k hk => by unfold dirQ; rw [step_flip hk]; rfl
    constructor
    · rintro (⟨k, hk, h⟩ | ⟨k, hk, h⟩)
      · exact .inl ⟨_, Nat.mod_lt _ h1, (sepBy_flip h1 h2 _).1 (by rwa [d1 k hk] at h)⟩
      · exact .inr ⟨_, Nat.mod_lt _ h2, (sepBy_flip h1 h2 _).1 (by rwa [d2 k hk] at h)⟩
    · rintro (⟨k, hk, h⟩ | ⟨k, hk, h⟩)
      · obtain ⟨k', hk', rfl⟩ := turn_back (flipS_lt h1) hk
        exact .inl ⟨k', hk', by rw [d1 k' hk']; exact (sepBy_flip h1 h2 _).2 h⟩
      · obtain ⟨k', hk', rfl⟩ := turn_back (flipS_lt h2) hk
        exact .inr ⟨k', hk', by rw [d2 k' hk']; exact (sepBy_flip h1 h2 _).2 h⟩
  cases ha : overlapB (flipP ps) (flipP qs) <;> cases hb : overlapB ps qs <;> simp_all
/-! the steps of a polygon -/
theorem stepsOf_getD {ps : List Pt} {k : Nat} (hk : k < ps.length) : (stepsOf ps).getD k (0, 0) = stepP ps k := by
  unfold stepsOf
  rw [List.getD_eq_getElem?_getD, List.getElem?_map, List.getElem?_range hk]
  rfl
def prevI (n i : Nat) : Nat := if i = 0 then n - 1 else i - 1
theorem prevP_steps {ps : List Pt} {i : Nat} (hi : i < ps.length) : prevP (stepsOf ps) i = stepP ps (prevI ps.length i) := by
  unfold prevP prevI
  rw [stepsOf_length]
  split
  · exact stepsOf_getD (by omega)
  · exact stepsOf_getD (by omega)
theorem turn_iff (ps : List Pt) : turnB (stepsOf ps) = true ↔ ∀ i, i < ps.length → 0 < crossP (stepP ps (prevI ps.length i)) (stepP ps i) := by
  unfold turnB
  rw [List.all_eq_true, stepsOf_length]
  constructor
  · intro h i hi
    have := h i (List.mem_range.2 hi)
    rw [prevP_steps hi, stepsOf_getD hi] at this
    simpa using this
  · intro h i hi
    rw [List.mem_range] at hi
    rw [prevP_steps hi, stepsOf_getD hi]
    simpa using h i hi
theorem sorted_iff (ps : List Pt) : sortedB (stepsOf ps) = true ↔ ∀ i, i + 1 < ps.length → ¬ ltA (stepP ps (i + 1)) (stepP ps i) := by
  unfold sortedB
  rw [List.all_eq_true, stepsOf_length]
  constructor
  · intro h i hi
    have := h i (List.mem_range.2 (by omega))
    rw [stepsOf_getD hi, stepsOf_getD (by omega)] at this
    rw [← angP_neg]
    simp only [decide_eq_true_eq] at this
    omega
  · intro h i hi
    rw [List.mem_range] at hi
    rw [stepsOf_getD (by omega), stepsOf_getD (by omega)]
    have := h i (by omega)
    rw [← angP_neg] at this
    simp only [decide_eq_true_eq]
    omega
end Go.Proofs.Ytnoacppfgckohaa
