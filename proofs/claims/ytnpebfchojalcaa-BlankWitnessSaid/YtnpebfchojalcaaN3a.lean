import Derived.Test.YtnpebfchojalcaaMX
import Derived.Test.YtnpebfchojalcaaG1
import Derived.Test.YtnpebfchojalcaaB7
namespace Go.Proofs.Ytnpebfchojalcaa
set_option maxRecDepth 100000
/-! The vectors near a grid, and which of all collisions are the grid's. -/
theorem colN_iff {D : Int} (hD : 1 ≤ D) : ∀ (f : Nat) (y z : Int), 12 - y ≤ f → (z ∈ colN D f y ↔ y ≤ z ∧ z < 12 ∧ D ∣ (z - y)) := by
  intro f
  induction f with
  | zero =>
    intro y z hf
    simp only [colN, List.not_mem_nil, false_iff]
    omega
  | succ f ih =>
    intro y z hf
    simp only [colN]
    split
    · rename_i hy
      rw [List.mem_cons, ih (y + D) z (by omega)]
      constructor
      · rintro (rfl | ⟨h1, h2, h3⟩)
        · exact ⟨Int.le_refl _, hy, by simp⟩
        · refine ⟨by omega, h2, ?_⟩
          have := Int.dvd_add h3 (Int.dvd_refl D)
          rwa [show z - (y + D) + D = z - y by omega] at this
      · rintro ⟨h1, h2, h3⟩
        by_cases h : z < y + D
        · left
          have e := Int.emod_eq_zero_of_dvd h3
          rw [Int.emod_eq_of_lt (by omega) (by omega)] at e
          omega
        · right
          refine ⟨by omega, h2, ?_⟩
          have := Int.dvd_sub h3 (Int.dvd_refl D)
          rwa [show z - y - D = z - (y + D) by omega] at this
    · simp only [List.not_mem_nil, false_iff]
      omega
theorem rowsN_iff {A B D : Int} (hA : 1 ≤ A) (hD : 1 ≤ D) : ∀ (f : Nat) (x : Int) (p : Pt), 12 - x ≤ f → (p ∈ rowsN A B D f x ↔ (x ≤ p.1 ∧ p.1 < 12 ∧ A ∣ (p.1 - x)) ∧ firstZ A B D p.1 ≤ p.2 ∧ p.2 < 12 ∧ D ∣ (p.2 - firstZ A B D p.1)) := by
  intro f
  induction f with
  | zero =>
    intro x p hf
    simp only [rowsN, List.not_mem_nil, false_iff]
    omega
  | succ f ih =>
    intro x p hf
    simp only [rowsN]
    split
    · rename_i hx
      have hc : ∀ z : Int, z ∈ colN D 23 (firstZ A B D x) ↔ firstZ A B D x ≤ z ∧ z < 12 ∧ D ∣ (z - firstZ A B D x) := fun z => colN_iff hD 23 _ z (by have := firstZ_bd (A := A) (B := B) (x := x) hD; omega)
      rw [List.mem_append, ih (x + A) p (by omega)]
      constructor
      · rintro (h | ⟨⟨h1, h2, h3⟩, h4⟩)
        · obtain ⟨z, hz, rfl⟩ := List.mem_map.1 h
          exact ⟨⟨Int.le_refl _, hx, by simp⟩, (hc z).1 hz⟩
        · refine ⟨⟨by omega, h2, ?_⟩, h4⟩
          have := Int.dvd_add h3 (Int.dvd_refl A)
          rwa [show p.1 - (x + A) + A = p.1 - x by omega] at this
      · rintro ⟨⟨h1, h2, h3⟩, h4⟩
        by_cases h : p.1 < x + A
        · left
          have e := Int.emod_eq_zero_of_dvd h3
          rw [Int.emod_eq_of_lt (by omega) (by omega)] at e
          have e1 : p.1 = x := by omega
          rw [e1] at h4
          exact List.mem_map.2 ⟨p.2, (hc p.2).2 h4, Prod.ext e1.symm rfl⟩
        · right
          refine ⟨⟨by omega, h2, ?_⟩, h4⟩
          have := Int.dvd_sub h3 (Int.dvd_refl A)
          rwa [show p.1 - x - A = p.1 - (x + A) by omega] at this
    · simp only [List.not_mem_nil, false_iff]
      omega
theorem first_iff {q l D y : Int} (hD : 1 ≤ D) : (l + (q - l) % D ≤ y ∧ D ∣ (y - (l + (q - l) % D))) ↔ l ≤ y ∧ D ∣ (y - q) := by
  have h0 := Int.emod_nonneg (q - l) (show D ≠ 0 by omega)
  have h1 := Int.emod_lt_of_pos (q - l) (show 0 < D by omega)
  have hd : D ∣ (q - l - (q - l) % D) := ⟨(q - l) / D, by have := Int.emod_add_mul_ediv (q - l) D; omega⟩
  generalize (q - l) % D = r at *
  constructor
  · rintro ⟨a, b⟩
    refine ⟨by omega, ?_⟩
    have := Int.dvd_sub b hd
    rwa [show y - (l + r) - (q - l - r) = y - q by omega] at this
  · rintro ⟨a, b⟩
    have c := Int.dvd_add b hd
    rw [show y - q + (q - l - r) = y - (l + r) by omega] at c
    refine ⟨?_, c⟩
    obtain ⟨k, hk⟩ := c
    rcases Int.lt_or_le k 0 with h | h
    · have := Int.mul_le_mul_of_nonneg_left (show k ≤ -1 by omega) (show 0 ≤ D by omega)
      omega
    · have := Int.mul_nonneg (show 0 ≤ D by omega) h
      omega
theorem nearL_iff {A B D : Int} (hg : gridOk A B D) {p : Pt} : p ∈ nearL A B D ↔ (0 ≤ p.1 ∧ p.1 < 12 ∧ leastZ p.1 ≤ p.2 ∧ p.2 < 12) ∧ A ∣ p.1 ∧ D ∣ (p.2 - p.1 / A * B) := by
  unfold gridOk at hg
  unfold nearL
  rw [rowsN_iff (by omega) (by omega) 12 0 p (by omega), Int.sub_zero]
  have h := first_iff (q := p.1 / A * B) (l := leastZ p.1) (y := p.2) (show 1 ≤ D by omega)
  unfold firstZ
  constructor
  · rintro ⟨⟨a, b, c⟩, d, e, f⟩
    have := h.1 ⟨d, f⟩
    exact ⟨⟨a, b, this.1, e⟩, c, this.2⟩
  · rintro ⟨⟨a, b, c, d⟩, e, f⟩
    have := h.2 ⟨c, f⟩
    exact ⟨⟨a, b, e⟩, this.1, d, this.2⟩
/-- is a vector one of a grid? -/
def inB (A B D : Int) (v : Pt) : Bool := decide (v.1.tmod A = 0) && decide ((v.2 - v.1.tdiv A * B).tmod D = 0)
def inZ (A B D : Int) (v : Pt) : Prop := A ∣ v.1 ∧ D ∣ (v.2 - v.1.tdiv A * B)
theorem inB_iff {A B D : Int} {v : Pt} : inB A B D v = true ↔ inZ A B D v := by
  unfold inB inZ
  rw [Bool.and_eq_true, decide_eq_true_eq, decide_eq_true_eq]
  exact ⟨fun h => ⟨Int.dvd_of_tmod_eq_zero h.1, Int.dvd_of_tmod_eq_zero h.2⟩, fun h => ⟨Int.tmod_eq_zero_of_dvd h.1, Int.tmod_eq_zero_of_dvd h.2⟩⟩
theorem inZ_neg {A B D : Int} {v : Pt} (h : inZ A B D v) : inZ A B D (negP v) := by
  unfold inZ negP at *
  dsimp only
  refine ⟨Int.dvd_neg.2 h.1, ?_⟩
  rw [Int.neg_tdiv, Int.neg_mul, show -v.2 - -(v.1.tdiv A * B) = -(v.2 - v.1.tdiv A * B) by omega]
  exact Int.dvd_neg.2 h.2
theorem in_near {A B D : Int} (hg : gridOk A B D) {p : Pt} (h0 : 0 ≤ p.1) : (p.1 < 12 ∧ leastZ p.1 ≤ p.2 ∧ p.2 < 12 ∧ inZ A B D p) ↔ p ∈ nearL A B D := by
  rw [nearL_iff hg]
  unfold inZ
  rw [Int.tdiv_eq_ediv_of_nonneg h0]
  constructor
  · rintro ⟨a, b, c, d⟩
    exact ⟨⟨h0, a, b, c⟩, d⟩
  · rintro ⟨⟨_, a, b, c⟩, d⟩
    exact ⟨a, b, c, d⟩
/-- do a blank and the one moved by a vector collide? -/
def hitB (ps : List Pt) (v : Pt) : Bool := decide (-12 < v.1 ∧ v.1 < 12 ∧ -12 < v.2 ∧ v.2 < 12) && overlapB ps (movedP ps v)
theorem hit_iff (ps : List Pt) (v : Pt) : hitB ps v = true ↔ (-12 < v.1 ∧ v.1 < 12 ∧ -12 < v.2 ∧ v.2 < 12) ∧ overlapB ps (movedP ps v) = true := by
  unfold hitB
  rw [Bool.and_eq_true, decide_eq_true_eq]
theorem moved_back (ps : List Pt) (v : Pt) : movedP (movedP ps (negP v)) v = ps := by
  unfold movedP
  rw [List.map_map]
  conv => rhs; rw [← List.map_id ps]
  refine List.map_congr_left fun q _ => ?_
  unfold addP negP
  dsimp only [Function.comp, id]
  refine Prod.ext ?_ ?_
  · dsimp only; omega
  · dsimp only; omega
theorem over_neg {ps : List Pt} (h : 0 < ps.length) (v : Pt) : overlapB ps (movedP ps (negP v)) = overlapB ps (movedP ps v) := by
  have hl : 0 < (movedP ps (negP v)).length := by rw [moved_length]; exact h
  rw [← overlap_moved v h hl, moved_back, overlap_swap h (by rw [moved_length]; exact h)]
theorem hit_neg {ps : List Pt} (h : 0 < ps.length) (v : Pt) : hitB ps (negP v) = hitB ps v := by
  rw [Bool.eq_iff_iff, hit_iff, hit_iff, over_neg h]
  unfold negP
  dsimp only
  constructor
  · rintro ⟨a, b⟩; exact ⟨by omega, b⟩
  · rintro ⟨a, b⟩; exact ⟨by omega, b⟩
/-- the collisions with these coordinates -/
def crossOk (ps : List Pt) (v : Pt) : Bool := decide (v ≠ (0, 0)) && hitB ps v
def crossR (ps : List Pt) (x : Int) : Nat → List Pt
  | 0 => []
  | j + 1 => crossR ps x j ++ if crossOk ps (x, (j : Int) - 12) = true then [(x, (j : Int) - 12)] else []
def crossN (ps : List Pt) : Nat → List Pt
  | 0 => []
  | i + 1 => crossN ps i ++ crossR ps ((i : Int) - 12) 25
def crossL (ps : List Pt) : List Pt := crossN ps 25
theorem crossR_mem {ps : List Pt} {x : Int} {v : Pt} : ∀ k : Nat, v ∈ crossR ps x k ↔ v.1 = x ∧ (-12 ≤ v.2 ∧ v.2 < (k : Int) - 12) ∧ crossOk ps v = true := by
  intro k
  induction k with
  | zero =>
    simp only [crossR, List.not_mem_nil, false_iff]
    omega
  | succ k ih =>
    rw [crossR, List.mem_append, ih]
    constructor
    · rintro (⟨a, b, c⟩ | h)
      · exact ⟨a, by omega, c⟩
      · split at h
        · rename_i hc
          obtain rfl := List.mem_singleton.1 h
          exact ⟨rfl, by dsimp only; omega, hc⟩
        · cases h
    · rintro ⟨a, b, c⟩
      by_cases h : v.2 = (k : Int) - 12
      · right
        have e : v = (x, (k : Int) - 12) := Prod.ext a h
        rw [← e, if_pos c]
        exact List.mem_singleton.2 rfl
      · left
        exact ⟨a, by omega, c⟩
theorem crossN_mem {ps : List Pt} {v : Pt} : ∀ k : Nat, v ∈ crossN ps k ↔ (-12 ≤ v.1 ∧ v.1 < (k : Int) - 12) ∧ (-12 ≤ v.2 ∧ v.2 < 13) ∧ crossOk ps v = true := by
  intro k
  induction k with
  | zero =>
    simp only [crossN, List.not_mem_nil, false_iff]
    omega
  | succ k ih =>
    rw [crossN, List.mem_append, ih, crossR_mem]
    constructor
    · rintro (⟨a, b, c⟩ | ⟨a, b, c⟩)
      · exact ⟨by omega, b, c⟩
      · exact ⟨by omega, by omega, c⟩
    · rintro ⟨a, b, c⟩
      by_cases h : v.1 = (k : Int) - 12
      · exact .inr ⟨h, by omega, c⟩
      · exact .inl ⟨by omega, b, c⟩
theorem cross_mem {ps : List Pt} {v : Pt} : v ∈ crossL ps ↔ v ≠ (0, 0) ∧ hitB ps v = true := by
  unfold crossL
  rw [crossN_mem]
  unfold crossOk
  rw [Bool.and_eq_true, decide_eq_true_eq, hit_iff]
  constructor
  · rintro ⟨a, b, c⟩; exact c
  · rintro ⟨a, b, c⟩; exact ⟨by omega, by omega, a, b, c⟩
def freeB (l : List Pt) (A B D : Int) : Bool := l.all fun v => !inB A B D v
theorem coll_hit {ps : List Pt} (hb : blankB ps = true) {v : Pt} (hv : 0 ≤ v.1 ∧ v.1 < 12 ∧ -11 ≤ v.2 ∧ v.2 < 12) : collB ps v = hitB ps v := by
  obtain ⟨h1, h2⟩ := blank_parts hb
  have hm : validB (movedP ps v) = true := valid_moved h1 (by
    rw [List.any_eq_false]
    intro q hq
    obtain ⟨r, hr, rfl⟩ := List.mem_map.1 hq
    have := h2 r hr
    intro hfar
    simp only [farP, farB, addP, Bool.or_eq_true] at hfar
    rcases hfar with ((hf | hf) | hf) | hf <;> (have := of_decide_eq_true hf; omega))
  unfold collB
  rw [hm, Bool.true_and, Bool.eq_iff_iff, hit_iff]
  constructor
  · intro h; exact ⟨by omega, h⟩
  · intro h; exact h.2
theorem free_avoid {ps : List Pt} {A B D : Int} (hb : blankB ps = true) (hg : gridOk A B D) : freeB (crossL ps) A B D = avoidB (collL ps 1 0 1) A B D := by
  have hn : 0 < ps.length := by have := (valid_near (blank_parts hb).1).2; omega
  rw [Bool.eq_iff_iff]
  unfold freeB avoidB
  rw [List.all_eq_true, List.all_eq_true]
  constructor
  · intro h p hp
    rw [decide_eq_true_eq]
    intro hm
    have hp' := nearL_mem hg hp
    have hc := (List.mem_filter.1 hm).2
    rw [coll_hit hb hp'] at hc
    have hz : p ≠ (0, 0) := fun e => by
      have := ((nearL_iff hg).1 hp).1
      rw [e] at this
      unfold leastZ at this
      simp at this
    have := h p (cross_mem.2 ⟨hz, hc⟩)
    have hi := ((in_near hg hp'.1).2 hp).2.2.2
    rw [inB_iff.2 hi] at this
    cases this
  · intro h v hv
    obtain ⟨hz, hh⟩ := cross_mem.1 hv
    rw [Bool.not_eq_true', Bool.eq_false_iff]
    intro hi
    have hi := inB_iff.1 hi
    have key : ∀ p : Pt, 0 ≤ p.1 → leastZ p.1 ≤ p.2 → hitB ps p = true → inZ A B D p → False := fun p h0 h1 h2 h3 => by
      have hb2 := ((hit_iff ps p).1 h2).1
      have hp := (in_near hg h0).1 ⟨hb2.2.1, h1, hb2.2.2.2, h3⟩
      have := h p hp
      rw [decide_eq_true_eq] at this
      exact this (List.mem_filter.2 ⟨near_one hg hp, by rw [coll_hit hb (nearL_mem hg hp)]; exact h2⟩)
    have hb3 := ((hit_iff ps v).1 hh).1
    by_cases hs : 0 ≤ v.1 ∧ leastZ v.1 ≤ v.2
    · exact key v hs.1 hs.2 hh hi
    · have hv0 : ¬ (v.1 = 0 ∧ v.2 = 0) := fun e => hz (Prod.ext e.1 e.2)
      refine key (negP v) ?_ ?_ (by rw [hit_neg hn]; exact hh) (inZ_neg hi)
      · unfold negP leastZ at *; dsimp only; split at hs <;> omega
      · unfold negP leastZ at *; dsimp only; split at hs <;> split <;> omega
end Go.Proofs.Ytnpebfchojalcaa
