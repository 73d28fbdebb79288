import Derived.Test.YtnoacppfgckohaaM7
namespace Go.Proofs.Ytnoacppfgckohaa
open Go.RowKit
theorem up_scale {x y v : Pt} (hx : 0 < x.2 ∨ (x.2 = 0 ∧ 0 < x.1)) (hy : 0 < y.2 ∨ (y.2 = 0 ∧ 0 < y.1)) (hz : crossP x y = 0) (h : 0 ≤ crossP v x) : 0 ≤ crossP v y := by
  unfold crossP crossZ at *
  rcases hx with hx | ⟨hx, hx1⟩
  · have hy2 : 0 < y.2 := by
      rcases hy with hy | ⟨hy, hy1⟩
      · exact hy
      · rw [hy] at hz
        have := Int.mul_pos hx hy1
        grind
    have h1 : 0 ≤ (v.1 * x.2 - v.2 * x.1) * y.2 := Int.mul_nonneg h (by omega)
    have h2 : (v.1 * y.2 - v.2 * y.1) * x.2 = (v.1 * x.2 - v.2 * x.1) * y.2 := by grind
    rw [← h2] at h1
    refine Classical.byContradiction fun n => ?_
    have := Int.mul_neg_of_neg_of_pos (show v.1 * y.2 - v.2 * y.1 < 0 by omega) hx
    omega
  · have hy2 : y.2 = 0 := by
      rcases hy with hy | hy
      · rw [hx] at hz
        have := Int.mul_pos hx1 hy
        grind
      · exact hy.1
    have hy1 : 0 < y.1 := by omega
    rw [hx] at h
    rw [hy2]
    have h1 : v.2 * x.1 ≤ 0 := by grind
    have h2 : v.2 ≤ 0 := Classical.byContradiction fun n => by
      have := Int.mul_pos (show 0 < v.2 by omega) hx1
      omega
    have := Int.mul_nonpos_of_nonpos_of_nonneg h2 (show 0 ≤ y.1 by omega)
    grind
theorem same_scale {x y v : Pt} (hx : x ≠ (0, 0)) (hy : y ≠ (0, 0)) (h : SameD x y) (hv : 0 ≤ crossP v x) : 0 ≤ crossP v y := by
  obtain ⟨h1, h2⟩ := (same_iff _ _).1 h
  cases hs : sinksB x.1 x.2 with
  | false => exact up_scale (up_of hs hx) (up_of (h1.symm.trans hs) hy) h2 hv
  | true =>
    have := up_scale (v := negP v) (neg_up hs) (neg_up (h1.symm.trans hs)) (by rw [crossP_neg]; exact h2) (by rw [crossP_neg]; exact hv)
    rwa [crossP_neg] at this
theorem sep_scale {ps qs : List Pt} {x y : Pt} (hx : x ≠ (0, 0)) (hy : y ≠ (0, 0)) (h : SameD x y) (hs : sepBy ps qs (rt x)) : sepBy ps qs (rt y) := by
  intro i j hi hj
  have h1 := hs i j hi hj
  rw [dot_rt, dot_rt] at h1 ⊢
  have key : ∀ r, crossP ((fromP qs j).1 - (fromP ps i).1, (fromP qs j).2 - (fromP ps i).2) r = crossP (fromP qs j) r - crossP (fromP ps i) r := fun r => by
    unfold crossP crossZ; grind
  have := same_scale (v := ((fromP qs j).1 - (fromP ps i).1, (fromP qs j).2 - (fromP ps i).2)) hx hy h (by rw [key]; omega)
  rw [key] at this
  omega
theorem neg_left (a b : Pt) : crossP (negP a) b = -crossP a b := by unfold crossP crossZ negP; grind
/-- a direction separates two polygons just if the maxima over the one and over the other, flipped, come to no more than zero -/
theorem sep_hi {ps qs : List Pt} (hp : Rolls ps) (hq : Rolls (flipP qs)) (h0 : 0 < qs.length) {r : Pt} (hr : r ≠ (0, 0)) : sepBy ps qs (rt r) ↔ hiP ps r + hiP (flipP qs) r ≤ 0 := by
  constructor
  · intro h
    obtain ⟨i, hi, e1⟩ := hi_at hp hr
    obtain ⟨j, hj, e2⟩ := hi_at hq hr
    rw [flip_length h0] at hj
    rw [from_flip hj, neg_left] at e2
    have := h i _ hi (Nat.mod_lt (j + flipS qs) h0)
    rw [dot_rt, dot_rt] at this
    omega
  · intro h i j hi hj
    rw [dot_rt, dot_rt]
    have e1 := hi_le hp hr hi
    obtain ⟨k, hk, e⟩ := turn_back (flipS_lt h0) hj
    have e2 := hi_le hq hr (show k < (flipP qs).length by rw [flip_length h0]; exact hk)
    rw [from_flip hk, e, neg_left] at e2
    omega
theorem placeK_one (ps : List Pt) (x y : Int) : ∀ k, (placeK ps x y k = 1 ↔ ∀ j, j < k → 0 < sideK ps x y j) := by
  intro k
  induction k with
  | zero => exact ⟨fun _ j hj => by omega, fun _ => rfl⟩
  | succ k ih =>
    have hb := placeK_bd ps x y k
    have hs := sgnZ_bd (sideK ps x y k) 0
    have e : sgnZ (sideK ps x y k) 0 = 1 ↔ 0 < sideK ps x y k := by
      unfold sgnZ
      split <;> (try split) <;> omega
    have hm : placeK ps x y (k + 1) = 1 ↔ placeK ps x y k = 1 ∧ sgnZ (sideK ps x y k) 0 = 1 := by
      simp only [placeK]
      omega
    rw [hm, ih, e]
    constructor
    · rintro ⟨h1, h2⟩ j hj
      by_cases hjk : j = k
      · subst hjk; exact h2
      · exact h1 j (by omega)
    · intro h
      exact ⟨fun j hj => h j (by omega), h k (by omega)⟩
theorem dirP_rt (ps : List Pt) (k : Nat) : dirP ps k = rt (stepP ps k) := rfl
theorem dirQ_rt (qs : List Pt) (k : Nat) : dirQ qs k = rt (negP (stepP qs k)) := by
  unfold dirQ rt negP; simp
theorem overlap_true {ps qs : List Pt} (h1 : 0 < ps.length) (h2 : 0 < qs.length) : overlapB ps qs = true ↔ (∀ k, k < ps.length → ¬ sepBy ps qs (dirP ps k)) ∧ ∀ k, k < qs.length → ¬ sepBy ps qs (dirQ qs k) := by
  have h := overlap_iff (ps := ps) (qs := qs) h1 h2
  constructor
  · intro ht
    refine ⟨fun k hk hs => ?_, fun k hk hs => ?_⟩
    · rw [h.2 (.inl ⟨k, hk, hs⟩)] at ht; cases ht
    · rw [h.2 (.inr ⟨k, hk, hs⟩)] at ht; cases ht
  · rintro ⟨g1, g2⟩
    cases hc : overlapB ps qs with
    | true => rfl
    | false =>
      rcases h.1 hc with ⟨k, hk, hs⟩ | ⟨k, hk, hs⟩
      · exact absurd hs (g1 k hk)
      · exact absurd hs (g2 k hk)
/-- zero lies in the interior of the sum of one and the flip of the other just if they overlap -/
theorem place_sum {ps qs ds : List Pt} (hp : Around ps) (hq : Around qs) (hs : Sorted ps (flipP qs) ds) : placeZ (sumP ps (flipP qs) ds) 0 0 = 1 ↔ overlapB ps qs = true := by
  have hf := around_flip hq
  have h : Merged ps (flipP qs) ds := ⟨hp.rolls, hf.rolls, hs⟩
  have h0 : 0 < qs.length := by have := hq.three; omega
  have hside : ∀ k, k < (runs ds).length → (0 < sideK (sumP ps (flipP qs) ds) 0 0 k ↔ ¬ sepBy ps qs (rt (fromP (runs ds) k))) := by
    intro k hk
    have hr := h.rne0 _ (from_mem hk)
    rw [sep_hi hp.rolls hf.rolls h0 hr, ← h.at_edge hk]
    have : sideK (sumP ps (flipP qs) ds) 0 0 k = crossP (fromP (sumP ps (flipP qs) ds) k) (fromP (runs ds) k) := by
      unfold sideK
      rw [h.step hk]
      unfold crossP crossZ
      grind
    rw [this]
    omega
  unfold placeZ
  rw [placeK_one, Merged.slen, overlap_true hp.rolls.some h0]
  have hall : (∀ k, k < (runs ds).length → 0 < sideK (sumP ps (flipP qs) ds) 0 0 k) ↔ ∀ d ∈ ds, ¬ sepBy ps qs (rt d) := by
    constructor
    · intro g d hd hsep
      obtain ⟨x, hx, hsm⟩ := mem_runs ds h.ne0 d hd
      obtain ⟨k, hk, rfl⟩ := mem_from hx
      exact (hside k hk).1 (g k hk) (sep_scale (h.ne0 d hd) (h.rne0 _ hx) hsm hsep)
    · intro g k hk
      refine (hside k hk).2 fun hsep => ?_
      obtain ⟨hx0, d, hd, hsm⟩ := runs_mem ds h.ne0 _ (from_mem hk)
      exact g d hd (sep_scale hx0 (h.ne0 d hd) hsm.symm hsep)
  rw [hall]
  constructor
  · intro g
    refine ⟨fun k hk => ?_, fun k hk => ?_⟩
    · rw [dirP_rt]
      exact g _ (hs.1.mem_iff.2 (List.mem_append_left _ (mem_steps hk)))
    · rw [dirQ_rt]
      obtain ⟨j, hj, e⟩ := turn_back (flipS_lt h0) hk
      refine g _ (hs.1.mem_iff.2 (List.mem_append_right _ ?_))
      rw [← e, ← step_flip hj]
      exact mem_steps (by rw [flip_length h0]; exact hj)
  · rintro ⟨g1, g2⟩ d hd
    rcases List.mem_append.1 (hs.1.mem_iff.1 hd) with hd | hd
    · obtain ⟨k, hk, rfl⟩ := steps_mem hd
      rw [← dirP_rt]; exact g1 k hk
    · obtain ⟨k, hk, rfl⟩ := steps_mem hd
      rw [flip_length h0] at hk
      rw [step_flip hk, ← dirQ_rt]
      exact g2 _ (Nat.mod_lt _ h0)
theorem sepBy_swap (ps qs : List Pt) (d : Pt) : sepBy ps qs d ↔ sepBy qs ps (negP d) := by
  have hneg : ∀ q, dotP (negP d) q = -dotP d q := fun q => by unfold dotP dotV negP; simp only [Int.neg_mul]; omega
  constructor
  · intro h i j hi hj
    have := h j i hj hi
    rw [hneg, hneg]; omega
  · intro h i j hi hj
    have := h j i hj hi
    rw [hneg, hneg] at this; omega
theorem dir_neg (ps : List Pt) (k : Nat) : negP (dirP ps k) = dirQ ps k ∧ negP (dirQ ps k) = dirP ps k := by
  unfold negP dirP dirQ; simp
theorem overlap_swap {ps qs : List Pt} (h1 : 0 < ps.length) (h2 : 0 < qs.length) : overlapB qs ps = overlapB ps qs := by
  rw [Bool.eq_iff_iff, overlap_true h2 h1, overlap_true h1 h2]
  have a : ∀ k, sepBy qs ps (dirP qs k) ↔ sepBy ps qs (dirQ qs k) := fun k => by rw [sepBy_swap, (dir_neg qs k).1]
  have b : ∀ k, sepBy qs ps (dirQ ps k) ↔ sepBy ps qs (dirP ps k) := fun k => by rw [sepBy_swap, (dir_neg ps k).2]
  constructor
  · rintro ⟨g1, g2⟩
    exact ⟨fun k hk h => g2 k hk ((b k).2 h), fun k hk h => g1 k hk ((a k).2 h)⟩
  · rintro ⟨g1, g2⟩
    exact ⟨fun k hk h => g2 k hk ((a k).1 h), fun k hk h => g1 k hk ((b k).1 h)⟩
end Go.Proofs.Ytnoacppfgckohaa
