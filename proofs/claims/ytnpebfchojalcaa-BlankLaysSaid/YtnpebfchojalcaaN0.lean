import Derived.Test.YtnpebfchojalcaaV14
import Derived.Test.YtnpebfchojalcaaV10
namespace Go.Proofs.Ytnpebfchojalcaa
set_option maxRecDepth 100000
open Go.RowKit Go.Shelf
/-! Angles, lowest points, walks along sorted steps: pure. -/
def gcdK (ps : List Pt) (k : Nat) : Int := (Int.gcd (stepP ps k).1 (stepP ps k).2 : Nat)
def ringK (ps : List Pt) : Nat → Int
  | 0 => 0
  | k + 1 => ringK ps k + gcdK ps k
def ringZ (ps : List Pt) : Int := ringK ps ps.length
theorem gcdK_bd {ps : List Pt} (h : wideP ps) {k : Nat} (hk : k < ps.length) : 0 ≤ gcdK ps k ∧ gcdK ps k ≤ 100000 := by
  obtain ⟨_, _, _, _, h5, h6⟩ := step_fine h hk
  unfold gcdK
  unfold fine at h5 h6
  by_cases h0 : (stepP ps k).1 = 0
  · rw [h0, Int.gcd_zero_left]; omega
  · have := Nat.le_of_dvd (show 0 < (stepP ps k).1.natAbs by omega) (Nat.gcd_dvd_left (stepP ps k).1.natAbs (stepP ps k).2.natAbs)
    unfold Int.gcd
    omega
theorem ringK_bd {ps : List Pt} (h : wideP ps) : ∀ (k : Nat), k ≤ ps.length → 0 ≤ ringK ps k ∧ ringK ps k ≤ 100000 * (k : Int) := by
  intro k
  induction k with
  | zero => intro _; simp [ringK]
  | succ k ih =>
    intro hk
    have h1 := ih (by omega)
    have h2 := gcdK_bd h (show k < ps.length by omega)
    simp only [ringK]
    omega
def idxK (m : Pt) : List Pt → Nat
  | [] => 0
  | q :: r => if q = m then 0 else idxK m r + 1
theorem idxK_at {m : Pt} : ∀ {qs : List Pt} {k : Nat}, (∀ j q, j < k → qs[j]? = some q → q ≠ m) → qs[k]? = some m → idxK m qs = k := by
  intro qs
  induction qs with
  | nil => intro k _ h; simp at h
  | cons a r ih =>
    intro k h hk
    cases k with
    | zero => simp at hk; simp [idxK, hk]
    | succ k =>
      have h0 := h 0 a (by omega) rfl
      rw [idxK, if_neg h0, ih (k := k) (fun j q hj hq => h (j + 1) q (by omega) (by simpa using hq)) (by simpa using hk)]
theorem minK_mem {qs : List Pt} (hn : 0 < qs.length) : ∀ k, k < qs.length → minK qs k ∈ qs := by
  have hf : ∀ j, j < qs.length → fromP qs j ∈ qs := fun j hj => by unfold fromP; rw [List.getD_eq_getElem?_getD, List.getElem?_eq_getElem hj]; exact List.getElem_mem _
  intro k
  induction k with
  | zero => intro _; exact hf 0 hn
  | succ k ih =>
    intro hk
    simp only [minK]
    split
    · exact hf _ hk
    · exact ih (by omega)
theorem minP_mem {qs : List Pt} (hn : 0 < qs.length) : minP qs ∈ qs := minK_mem hn _ (by omega)
theorem idxK_lt {m : Pt} {qs : List Pt} (h : m ∈ qs) : idxK m qs < qs.length ∧ qs[idxK m qs]? = some m := by
  induction qs with
  | nil => cases h
  | cons a r ih =>
    unfold idxK
    by_cases ha : a = m
    · rw [if_pos ha]; exact ⟨by simp, by simp [ha]⟩
    · rw [if_neg ha]
      have hr : m ∈ r := by
        rcases List.mem_cons.1 h with h | h
        · exact absurd h.symm ha
        · exact h
      obtain ⟨h1, h2⟩ := ih hr
      exact ⟨by simp; omega, by simpa using h2⟩
def turnP (fs : List Pt) : List Pt := fs.drop (idxK (minP fs) fs) ++ fs.take (idxK (minP fs) fs)
def flipP (ps : List Pt) : List Pt := turnP (ps.map negP)
def flipR (ps : List Pt) (u : Value) : Ending := if validB ps = true then two u (.int .i64 0) else two (.slice none 0 0) (.int .i64 2)
theorem flip_size {ps : List Pt} (h : validB ps = true) : (flipP ps).length = ps.length := by
  have hn := (valid_near h).2
  have h0 : 0 < (ps.map negP).length := by rw [List.length_map]; omega
  have := (idxK_lt (minP_mem h0)).1
  unfold flipP turnP
  rw [List.length_append, List.length_drop, List.length_take]
  rw [List.length_map] at *
  omega
def wideZ (a : Int) : Prop := -1000000 ≤ a ∧ a ≤ 1000000
def okA (q : Pt) : Prop := fine q.1 ∧ fine q.2 ∧ q ≠ (0, 0)
def walkK (a : Pt) (ds : List Pt) : Nat → List Pt × Pt
  | 0 => ([], a)
  | k + 1 => (if k = 0 ∨ angP (fromP ds (k - 1)) (fromP ds k) ≠ 0 then (walkK a ds k).1 ++ [(walkK a ds k).2] else (walkK a ds k).1, addP (fromP ds k) (walkK a ds k).2)
theorem walk_bd {a : Pt} {ds : List Pt} {m : Int} (ha : -4000 ≤ a.1 ∧ a.1 ≤ 4000 ∧ -4000 ≤ a.2 ∧ a.2 ≤ 4000) (hm : ∀ q ∈ ds, -m ≤ q.1 ∧ q.1 ≤ m ∧ -m ≤ q.2 ∧ q.2 ≤ m) :
    ∀ k, k ≤ ds.length → -(4000 + m * k) ≤ (walkK a ds k).2.1 ∧ (walkK a ds k).2.1 ≤ 4000 + m * k ∧ -(4000 + m * k) ≤ (walkK a ds k).2.2 ∧ (walkK a ds k).2.2 ≤ 4000 + m * k := by
  intro k
  induction k with
  | zero => intro _; simp only [walkK]; omega
  | succ k ih =>
    intro hk
    have h1 := ih (by omega)
    have h2 := hm (fromP ds k) (by unfold fromP; rw [List.getD_eq_getElem?_getD, List.getElem?_eq_getElem (show k < ds.length by omega)]; exact List.getElem_mem _)
    simp only [walkK, addP]
    have e : m * ((k + 1 : Nat) : Int) = m * k + m := by rw [Int.natCast_add, Int.mul_add]; simp
    rw [e]
    omega
theorem walk_len (a : Pt) (ds : List Pt) : ∀ k, (walkK a ds k).1.length ≤ k := by
  intro k
  induction k with
  | zero => simp [walkK]
  | succ k ih =>
    simp only [walkK]
    split
    · rw [List.length_append]; show _ + 1 ≤ _; omega
    · omega
theorem steps_ok {ps : List Pt} (h : validB ps = true) : ∀ q ∈ stepsOf ps, (-2000 ≤ q.1 ∧ q.1 ≤ 2000 ∧ -2000 ≤ q.2 ∧ q.2 ≤ 2000) ∧ okA q := by
  have hn := valid_near h
  have hf : ps.any farP = false := by
    simp only [validB, Bool.and_eq_true, Bool.not_eq_true'] at h
    exact h.1.1.2
  rw [validB_eq hn.2.1 hn.2.2 hf, Bool.and_eq_true] at h
  intro q hq
  obtain ⟨i, hi⟩ := List.mem_iff_getElem?.1 hq
  have hil := lt_len hi
  have hgd := getD_of hi
  rw [stepsOf_length] at hil
  have hmem : ∀ j, j < ps.length → fromP ps j ∈ ps := fun j hj => by unfold fromP; rw [List.getD_eq_getElem?_getD, List.getElem?_eq_getElem hj]; exact List.getElem_mem _
  have h1 := hn.1 _ (hmem i hil)
  have h2 := hn.1 _ (hmem ((i + 1) % ps.length) (Nat.mod_lt _ (by omega)))
  have hq2 : q = stepP ps i := by
    unfold stepsOf at hi
    rw [List.getElem?_map, List.getElem?_range hil] at hi
    simpa using hi.symm
  have hbd : -2000 ≤ q.1 ∧ q.1 ≤ 2000 ∧ -2000 ≤ q.2 ∧ q.2 ≤ 2000 := by
    rw [hq2]
    unfold stepP
    show -2000 ≤ (fromP ps ((i + 1) % ps.length)).1 - (fromP ps i).1 ∧ (fromP ps ((i + 1) % ps.length)).1 - (fromP ps i).1 ≤ 2000 ∧ -2000 ≤ (fromP ps ((i + 1) % ps.length)).2 - (fromP ps i).2 ∧ (fromP ps ((i + 1) % ps.length)).2 - (fromP ps i).2 ≤ 2000
    omega
  refine ⟨hbd, by unfold fine; omega, by unfold fine; omega, fun e => ?_⟩
  have ht := h.1
  unfold turnB at ht
  rw [List.all_eq_true] at ht
  have := ht i (by rw [List.mem_range, stepsOf_length]; exact hil)
  rw [hgd, e] at this
  simp [crossP, crossZ] at this
/-- before: by the angle -/
def ltA (a b : Pt) : Prop := (sinksB a.1 a.2 = false ∧ sinksB b.1 b.2 = true) ∨ (sinksB a.1 a.2 = sinksB b.1 b.2 ∧ 0 < crossZ a.1 a.2 b.1 b.2)
theorem angP_neg (a b : Pt) : angP a b < 0 ↔ ltA a b := by
  unfold angP angleZ ltA sgnZ
  cases h1 : sinksB a.1 a.2 <;> cases h2 : sinksB b.1 b.2 <;> simp
  all_goals (split <;> (try split) <;> omega)
theorem up_of {a : Pt} (h : sinksB a.1 a.2 = false) (h0 : a ≠ (0, 0)) : 0 < a.2 ∨ (a.2 = 0 ∧ 0 < a.1) := by
  simp [sinksB] at h
  by_cases h2 : a.2 = 0
  · right
    refine ⟨h2, ?_⟩
    have h3 := h.2 h2
    have : a.1 ≠ 0 := fun e => h0 (Prod.ext e h2)
    omega
  · left; omega
theorem down_of {a : Pt} (h : sinksB a.1 a.2 = true) : a.2 < 0 ∨ (a.2 = 0 ∧ a.1 < 0) := by
  simpa [sinksB] using h
theorem cross_id (a b c : Pt) : b.2 * crossZ a.1 a.2 c.1 c.2 = a.2 * crossZ b.1 b.2 c.1 c.2 + c.2 * crossZ a.1 a.2 b.1 b.2 := by
  unfold crossZ
  simp only [Int.mul_sub]
  have e1 : b.2 * (a.1 * c.2) = c.2 * (a.1 * b.2) := by rw [Int.mul_comm b.2, Int.mul_assoc, Int.mul_comm c.2 b.2, ← Int.mul_assoc, Int.mul_comm]
  have e2 : b.2 * (a.2 * c.1) = a.2 * (b.2 * c.1) := Int.mul_left_comm _ _ _
  have e3 : a.2 * (b.1 * c.2) = c.2 * (a.2 * b.1) := by rw [← Int.mul_assoc, Int.mul_comm]
  omega
theorem cross_neg (a b : Pt) : crossZ (-a.1) (-a.2) (-b.1) (-b.2) = crossZ a.1 a.2 b.1 b.2 := by
  unfold crossZ
  rw [Int.neg_mul_neg, Int.neg_mul_neg]
theorem cross_x {a b : Pt} (h : b.2 = 0) : crossZ a.1 a.2 b.1 b.2 = -(a.2 * b.1) := by unfold crossZ; rw [h]; simp
theorem cross_y {a b : Pt} (h : a.2 = 0) : crossZ a.1 a.2 b.1 b.2 = a.1 * b.2 := by unfold crossZ; rw [h]; simp
/-- upper half: turning left twice is turning left -/
theorem up_trans {a b c : Pt} (ha : 0 < a.2 ∨ (a.2 = 0 ∧ 0 < a.1)) (hb : 0 < b.2 ∨ (b.2 = 0 ∧ 0 < b.1)) (hc : 0 < c.2 ∨ (c.2 = 0 ∧ 0 < c.1))
    (h1 : 0 < crossZ a.1 a.2 b.1 b.2) (h2 : 0 < crossZ b.1 b.2 c.1 c.2) : 0 < crossZ a.1 a.2 c.1 c.2 := by
  have hid := cross_id a b c
  rcases hb with hb | ⟨hb, hb1⟩
  · have hc0 : 0 < c.2 := by
      rcases hc with hc | ⟨hc, hc1⟩
      · exact hc
      · rw [cross_x hc] at h2
        have := Int.mul_pos hb hc1
        omega
    have ha0 : 0 ≤ a.2 := by omega
    have t1 : 0 ≤ a.2 * crossZ b.1 b.2 c.1 c.2 := Int.mul_nonneg ha0 (by omega)
    have t2 : 0 < c.2 * crossZ a.1 a.2 b.1 b.2 := Int.mul_pos hc0 h1
    exact Int.pos_of_mul_pos_right (a := b.2) (by omega) hb
  · rw [cross_x hb] at h1
    have := Int.mul_nonneg (show 0 ≤ a.2 by omega) (show 0 ≤ b.1 by omega)
    omega
theorem up_ntrans {a b c : Pt} (ha : 0 < a.2 ∨ (a.2 = 0 ∧ 0 < a.1)) (hb : 0 < b.2 ∨ (b.2 = 0 ∧ 0 < b.1)) (hc : 0 < c.2 ∨ (c.2 = 0 ∧ 0 < c.1))
    (h1 : crossZ a.1 a.2 b.1 b.2 ≤ 0) (h2 : crossZ b.1 b.2 c.1 c.2 ≤ 0) : crossZ a.1 a.2 c.1 c.2 ≤ 0 := by
  have hid := cross_id a b c
  rcases hb with hb | ⟨hb, hb1⟩
  · have t1 : a.2 * crossZ b.1 b.2 c.1 c.2 ≤ 0 := Int.mul_nonpos_of_nonneg_of_nonpos (by omega) h2
    have t2 : c.2 * crossZ a.1 a.2 b.1 b.2 ≤ 0 := Int.mul_nonpos_of_nonneg_of_nonpos (by omega) h1
    by_cases hp : crossZ a.1 a.2 c.1 c.2 ≤ 0
    · exact hp
    · have := Int.mul_pos hb (show 0 < crossZ a.1 a.2 c.1 c.2 by omega)
      omega
  · rw [cross_y hb] at h2
    have hc0 : c.2 = 0 := by
      rcases hc with hc | hc
      · have := Int.mul_pos hb1 hc; omega
      · exact hc.1
    rw [cross_x hc0]
    have := Int.mul_nonneg (show 0 ≤ a.2 by omega) (show 0 ≤ c.1 by omega)
    omega
def negU (a : Pt) : Pt := (-a.1, -a.2)
theorem down_up {a : Pt} (h : a.2 < 0 ∨ (a.2 = 0 ∧ a.1 < 0)) : 0 < (negU a).2 ∨ ((negU a).2 = 0 ∧ 0 < (negU a).1) := by unfold negU; simp only; omega
theorem ltA_irrefl (a : Pt) : ¬ ltA a a := by
  rintro (⟨h1, h2⟩ | ⟨_, h⟩)
  · rw [h1] at h2; cases h2
  · unfold crossZ at h; rw [Int.mul_comm a.2] at h; omega
theorem ltA_trans {a b c : Pt} (ha : a ≠ (0, 0)) (hb : b ≠ (0, 0)) (hc : c ≠ (0, 0)) (h1 : ltA a b) (h2 : ltA b c) : ltA a c := by
  rcases h1 with ⟨p1, p2⟩ | ⟨p1, p2⟩
  · rcases h2 with ⟨q1, q2⟩ | ⟨q1, q2⟩
    · rw [p2] at q1; cases q1
    · exact .inl ⟨p1, by rw [← q1, p2]⟩
  · rcases h2 with ⟨q1, q2⟩ | ⟨q1, q2⟩
    · exact .inl ⟨by rw [p1, q1], q2⟩
    · refine .inr ⟨p1.trans q1, ?_⟩
      cases hs : sinksB b.1 b.2 with
      | false => exact up_trans (up_of (p1.trans hs) ha) (up_of hs hb) (up_of (q1.symm.trans hs) hc) p2 q2
      | true =>
        have := up_trans (down_up (down_of (p1.trans hs))) (down_up (down_of hs)) (down_up (down_of (q1.symm.trans hs))) (by unfold negU; simp only; rw [cross_neg]; exact p2) (by unfold negU; simp only; rw [cross_neg]; exact q2)
        unfold negU at this
        simp only at this
        rwa [cross_neg] at this
theorem ltA_ntrans {a b c : Pt} (ha : a ≠ (0, 0)) (hb : b ≠ (0, 0)) (hc : c ≠ (0, 0)) (h1 : ¬ ltA a b) (h2 : ¬ ltA b c) : ¬ ltA a c := by
  unfold ltA at *
  have g1 : ¬ (sinksB a.1 a.2 = sinksB b.1 b.2 ∧ 0 < crossZ a.1 a.2 b.1 b.2) := fun h => h1 (.inr h)
  have g2 : ¬ (sinksB b.1 b.2 = sinksB c.1 c.2 ∧ 0 < crossZ b.1 b.2 c.1 c.2) := fun h => h2 (.inr h)
  have k1 : ¬ (sinksB a.1 a.2 = false ∧ sinksB b.1 b.2 = true) := fun h => h1 (.inl h)
  have k2 : ¬ (sinksB b.1 b.2 = false ∧ sinksB c.1 c.2 = true) := fun h => h2 (.inl h)
  cases sa : sinksB a.1 a.2 <;> cases sb : sinksB b.1 b.2 <;> cases sc : sinksB c.1 c.2 <;> simp [sa, sb, sc] at g1 g2 k1 k2 ⊢
  · exact up_ntrans (up_of sa ha) (up_of sb hb) (up_of sc hc) g1 g2
  · have := up_ntrans (down_up (down_of sa)) (down_up (down_of sb)) (down_up (down_of sc)) (by unfold negU; simp only; rw [cross_neg]; exact g1) (by unfold negU; simp only; rw [cross_neg]; exact g2)
    unfold negU at this
    simp only at this
    rwa [cross_neg] at this
def sumP (ps qs : List Pt) (ds : List Pt) : List Pt := (walkK (addP (fromP qs 0) (fromP ps 0)) ds ds.length).1
def Sorted (ps qs : List Pt) (ds : List Pt) : Prop := ds.Perm (stepsOf ps ++ stepsOf qs) ∧ ds.Pairwise (fun a b => ¬ ltA b a)
/-- sorted lists of the same members are one -/
theorem perm_sorted {R : Pt → Pt → Prop} : ∀ (l m : List Pt), l.Perm m → l.Pairwise R → m.Pairwise R → (∀ x ∈ l, ∀ y ∈ l, R x y → R y x → x = y) → l = m := by
  intro l
  induction l with
  | nil => intro m hp _ _ _; exact (List.Perm.nil_eq hp)
  | cons a l ih =>
    intro m hp hl hm ha
    cases m with
    | nil => exact absurd hp.length_eq (by simp)
    | cons b m =>
      have hab : a = b := by
        by_cases h : a = b
        · exact h
        · have h1 : a ∈ m := by
            rcases List.mem_cons.1 (hp.mem_iff.1 (List.mem_cons_self)) with h2 | h2
            · exact absurd h2 h
            · exact h2
          have h3 : b ∈ l := by
            rcases List.mem_cons.1 (hp.mem_iff.2 (List.mem_cons_self)) with h2 | h2
            · exact absurd h2.symm h
            · exact h2
          exact ha a List.mem_cons_self b (List.mem_cons_of_mem _ h3) ((List.pairwise_cons.1 hl).1 b h3) ((List.pairwise_cons.1 hm).1 a h1)
      subst hab
      rw [ih m ((List.perm_cons a).1 hp) (List.pairwise_cons.1 hl).2 (List.pairwise_cons.1 hm).2 (fun x hx y hy => ha x (List.mem_cons_of_mem _ hx) y (List.mem_cons_of_mem _ hy))]
instance (a b : Pt) : Decidable (ltA a b) := by unfold ltA; infer_instance
def placeR (ps : List Pt) (x y : Int) : Ending := if validB ps = true ∧ farB x y = false then two (.int .i64 (placeZ ps x y)) (.int .i64 0) else two (.int .i64 0) (.int .i64 2)
end Go.Proofs.Ytnpebfchojalcaa
