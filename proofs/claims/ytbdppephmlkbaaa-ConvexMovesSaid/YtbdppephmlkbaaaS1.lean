import Derived.Test.YtbdppephmlkbaaaV6
namespace Go.Proofs.Ytbdppephmlkbaaa
/-- before: by the angle -/
def ltA (a b : Pt) : Prop := (sinksB a.1 a.2 = false ∧ sinksB b.1 b.2 = true) ∨ (sinksB a.1 a.2 = sinksB b.1 b.2 ∧ 0 < crossZ a.1 a.2 b.1 b.2)
theorem angP_neg (a b : Pt) : angP a b < 0 ↔ ltA a b := by
  unfold angP angleZ ltA sgnZ
  cases h1 : sinksB a.1 a.2 <;> cases h2 : sinksB b.1 b.2 <;> simp
  all_goals (split <;> (try split) <;> omega)
theorem up_of {a : Pt} (h : sinksB a.1 a.2 = false) (h0 : a ≠ (0, 0)) : 0 < a.2 ∨ (a.2 = 0 ∧ 0 < a.1) := by
  simp [sinksB] at h
  by_cases h2 : a.2 = 0
  · right
    refine ⟨h2, ?_⟩
    have h3 := h.2 h2
    have : a.1 ≠ 0 := fun e => h0 (Prod.ext e h2)
    omega
  · left; omega
theorem down_of {a : Pt} (h : sinksB a.1 a.2 = true) : a.2 < 0 ∨ (a.2 = 0 ∧ a.1 < 0) := by
  simpa [sinksB] using h
theorem cross_id (a b c : Pt) : b.2 * crossZ a.1 a.2 c.1 c.2 = a.2 * crossZ b.1 b.2 c.1 c.2 + c.2 * crossZ a.1 a.2 b.1 b.2 := by
  unfold crossZ
  simp only [Int.mul_sub]
  have e1 : b.2 * (a.1 * c.2) = c.2 * (a.1 * b.2) := by rw [Int.mul_comm b.2, Int.mul_assoc, Int.mul_comm c.2 b.2, ← Int.mul_assoc, Int.mul_comm]
  have e2 : b.2 * (a.2 * c.1) = a.2 * (b.2 * c.1) := Int.mul_left_comm _ _ _
  have e3 : a.2 * (b.1 * c.2) = c.2 * (a.2 * b.1) := by rw [← Int.mul_assoc, Int.mul_comm]
  omega
theorem cross_neg (a b : Pt) : crossZ (-a.1) (-a.2) (-b.1) (-b.2) = crossZ a.1 a.2 b.1 b.2 := by
  unfold crossZ
  rw [Int.neg_mul_neg, Int.neg_mul_neg]
theorem cross_x {a b : Pt} (h : b.2 = 0) : crossZ a.1 a.2 b.1 b.2 = -(a.2 * b.1) := by unfold crossZ; rw [h]; simp
theorem cross_y {a b : Pt} (h : a.2 = 0) : crossZ a.1 a.2 b.1 b.2 = a.1 * b.2 := by unfold crossZ; rw [h]; simp
/-- upper half: turning left twice is turning left -/
theorem up_trans {a b c : Pt} (ha : 0 < a.2 ∨ (a.2 = 0 ∧ 0 < a.1)) (hb : 0 < b.2 ∨ (b.2 = 0 ∧ 0 < b.1)) (hc : 0 < c.2 ∨ (c.2 = 0 ∧ 0 < c.1))
    (h1 : 0 < crossZ a.1 a.2 b.1 b.2) (h2 : 0 < crossZ b.1 b.2 c.1 c.2) : 0 < crossZ a.1 a.2 c.1 c.2 := by
  have hid := cross_id a b c
  rcases hb with hb | ⟨hb, hb1⟩
  · have hc0 : 0 < c.2 := by
      rcases hc with hc | ⟨hc, hc1⟩
      · exact hc
      · rw [cross_x hc] at h2
        have := Int.mul_pos hb hc1
        omega
    have ha0 : 0 ≤ a.2 := by omega
    have t1 : 0 ≤ a.2 * crossZ b.1 b.2 c.1 c.2 := Int.mul_nonneg ha0 (by omega)
    have t2 : 0 < c.2 * crossZ a.1 a.2 b.1 b.2 := Int.mul_pos hc0 h1
    exact Int.pos_of_mul_pos_right (a := b.2) (by omega) hb
  · rw [cross_x hb] at h1
    have := Int.mul_nonneg (show 0 ≤ a.2 by omega) (show 0 ≤ b.1 by omega)
    omega
theorem up_ntrans {a b c : Pt} (ha : 0 < a.2 ∨ (a.2 = 0 ∧ 0 < a.1)) (hb : 0 < b.2 ∨ (b.2 = 0 ∧ 0 < b.1)) (hc : 0 < c.2 ∨ (c.2 = 0 ∧ 0 < c.1))
    (h1 : crossZ a.1 a.2 b.1 b.2 ≤ 0) (h2 : crossZ b.1 b.2 c.1 c.2 ≤ 0) : crossZ a.1 a.2 c.1 c.2 ≤ 0 := by
  have hid := cross_id a b c
  rcases hb with hb | ⟨hb, hb1⟩
  · have t1 : a.2 * crossZ b.1 b.2 c.1 c.2 ≤ 0 := Int.mul_nonpos_of_nonneg_of_nonpos (by omega) h2
    have t2 : c.2 * crossZ a.1 a.2 b.1 b.2 ≤ 0 := Int.mul_nonpos_of_nonneg_of_nonpos (by omega) h1
    by_cases hp : crossZ a.1 a.2 c.1 c.2 ≤ 0
    · exact hp
    · have := Int.mul_pos hb (show 0 < crossZ a.1 a.2 c.1 c.2 by omega)
      omega
  · rw [cross_y hb] at h2
    have hc0 : c.2 = 0 := by
      rcases hc with hc | hc
      · have := Int.mul_pos hb1 hc; omega
      · exact hc.1
    rw [cross_x hc0]
    have := Int.mul_nonneg (show 0 ≤ a.2 by omega) (show 0 ≤ c.1 by omega)
    omega
def negU (a : Pt) : Pt := (-a.1, -a.2)
theorem down_up {a : Pt} (h : a.2 < 0 ∨ (a.2 = 0 ∧ a.1 < 0)) : 0 < (negU a).2 ∨ ((negU a).2 = 0 ∧ 0 < (negU a).1) := by unfold negU; simp only; omega
theorem ltA_irrefl (a : Pt) : ¬ ltA a a := by
  rintro (⟨h1, h2⟩ | ⟨_, h⟩)
  · rw [h1] at h2; cases h2
  · unfold crossZ at h; rw [Int.mul_comm a.2] at h; omega
theorem ltA_trans {a b c : Pt} (ha : a ≠ (0, 0)) (hb : b ≠ (0, 0)) (hc : c ≠ (0, 0)) (h1 : ltA a b) (h2 : ltA b c) : ltA a c := by
  rcases h1 with ⟨p1, p2⟩ | ⟨p1, p2⟩
  · rcases h2 with ⟨q1, q2⟩ | ⟨q1, q2⟩
    · rw [p2] at q1; cases q1
    · exact .inl ⟨p1, by rw [← q1, p2]⟩
  · rcases h2 with ⟨q1, q2⟩ | ⟨q1, q2⟩
    · exact .inl ⟨by rw [p1, q1], q2⟩
    · refine .inr ⟨p1.trans q1, ?_⟩
      cases hs : sinksB b.1 b.2 with
      | false => exact up_trans (up_of (p1.trans hs) ha) (up_of hs hb) (up_of (q1.symm.trans hs) hc) p2 q2
      | true =>
        have := up_trans (down_up (down_of (p1.trans hs))) (down_up (down_of hs)) (down_up (down_of (q1.symm.trans hs))) (by unfold negU; simp only; rw [cross_neg]; exact p2) (by unfold negU; simp only; rw [cross_neg]; exact q2)
        unfold negU at this
        simp only at this
        rwa [cross_neg] at this
theorem ltA_ntrans {a b c : Pt} (ha : a ≠ (0, 0)) (hb : b ≠ (0, 0)) (hc : c ≠ (0, 0)) (h1 : ¬ ltA a b) (h2 : ¬ ltA b c) : ¬ ltA a c := by
  unfold ltA at *
  have g1 : ¬ (sinksB a.1 a.2 = sinksB b.1 b.2 ∧ 0 < crossZ a.1 a.2 b.1 b.2) := fun h => h1 (.inr h)
  have g2 : ¬ (sinksB b.1 b.2 = sinksB c.1 c.2 ∧ 0 < crossZ b.1 b.2 c.1 c.2) := fun h => h2 (.inr h)
  have k1 : ¬ (sinksB a.1 a.2 = false ∧ sinksB b.1 b.2 = true) := fun h => h1 (.inl h)
  have k2 : ¬ (sinksB b.1 b.2 = false ∧ sinksB c.1 c.2 = true) := fun h => h2 (.inl h)
  cases sa : sinksB a.1 a.2 <;> cases sb : sinksB b.1 b.2 <;> cases sc : sinksB c.1 c.2 <;> simp [sa, sb, sc] at g1 g2 k1 k2 ⊢
  · exact up_ntrans (up_of sa ha) (up_of sb hb) (up_of sc hc) g1 g2
  · have := up_ntrans (down_up (down_of sa)) (down_up (down_of sb)) (down_up (down_of sc)) (by unfold negU; simp only; rw [cross_neg]; exact g1) (by unfold negU; simp only; rw [cross_neg]; exact g2)
    unfold negU at this
    simp only at this
    rwa [cross_neg] at this
end Go.Proofs.Ytbdppephmlkbaaa
