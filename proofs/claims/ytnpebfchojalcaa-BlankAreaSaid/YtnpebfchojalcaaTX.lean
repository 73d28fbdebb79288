import Derived.Test.YtnpebfchojalcaaN3a
import Derived.Test.YtnpebfchojalcaaMY
namespace Go.Proofs.Ytnpebfchojalcaa
set_option maxRecDepth 100000
/-! Two translations of a blank overlap just if one of them by their difference does. -/
/-- with zero strictly inside a polygon every direction has a positive maximum -/
theorem inside_dir {ps : List Pt} (h : Around ps) (h1 : placeZ ps 0 0 = 1) {r : Pt} (hr : r ≠ (0, 0)) : 0 < hiP ps r := by
  obtain ⟨i, hi, e⟩ := hi_at h.rolls hr
  have hs : ∀ j, j < ps.length → 0 < sideK ps 0 0 j := (placeK_one ps 0 0 ps.length).1 h1
  have hpi : prevI ps.length i < ps.length := by unfold prevI; split <;> omega
  have ht : (i + 1) % ps.length < ps.length := Nat.mod_lt _ (by omega)
  have m1 := hi_le h.rolls hr ht
  have m2 := hi_le h.rolls hr hpi
  have s1 := hs i hi
  have s2 := hs _ hpi
  have ep := h.turn i hi
  have k1 := tri_side ps (0, 0) i
  have k2 := tri_side ps (0, 0) (prevI ps.length i)
  rw [prev_to hi, tri_move] at k2
  dsimp only at k1 k2
  rw [← e] at m1 m2 ⊢
  rw [← k1] at s1
  rw [← k2] at s2
  have hr' : ¬ (r.1 = 0 ∧ r.2 = 0) := fun hh => hr (Prod.ext hh.1 hh.2)
  have t1 : toP ps i = fromP ps ((i + 1) % ps.length) := to_from
  rw [← t1] at m1
  unfold stepP at ep
  rw [prev_to hi] at ep
  generalize toP ps i = z at *
  generalize fromP ps (prevI ps.length i) = u at *
  generalize fromP ps i = v at *
  unfold triP at s1
  unfold crossP crossZ at *
  obtain ⟨z1, z2⟩ := z
  obtain ⟨u1, u2⟩ := u
  obtain ⟨v1, v2⟩ := v
  obtain ⟨r1, r2⟩ := r
  dsimp only at *
  clear hs h h1 hr e hi ht hpi k1 k2 t1
  obtain ⟨a1, ha1⟩ : ∃ x, x = v1 - u1 := ⟨_, rfl⟩
  obtain ⟨a2, ha2⟩ : ∃ x, x = v2 - u2 := ⟨_, rfl⟩
  obtain ⟨b1, hb1⟩ : ∃ x, x = z1 - v1 := ⟨_, rfl⟩
  obtain ⟨b2, hb2⟩ : ∃ x, x = z2 - v2 := ⟨_, rfl⟩
  have q1 : 0 < v1 * b2 - v2 * b1 := by rw [hb1, hb2]; grind
  have q2 : 0 < v1 * a2 - v2 * a1 := by rw [ha1, ha2]; grind
  have q3 : 0 < a1 * b2 - a2 * b1 := by rw [ha1, ha2, hb1, hb2]; exact ep
  have q4 : b1 * r2 - b2 * r1 ≤ 0 := by rw [hb1, hb2]; grind
  have q5 : 0 ≤ a1 * r2 - a2 * r1 := by rw [ha1, ha2]; grind
  refine Int.not_le.1 fun hle => hr' ?_
  have i1 : (v1 * r2 - v2 * r1) * (a1 * b2 - a2 * b1) = (v1 * b2 - v2 * b1) * (a1 * r2 - a2 * r1) + (v1 * a2 - v2 * a1) * (-(b1 * r2 - b2 * r1)) := by grind
  have p1 : 0 ≤ (v1 * b2 - v2 * b1) * (a1 * r2 - a2 * r1) := Int.mul_nonneg (by omega) q5
  have p2 : 0 ≤ (v1 * a2 - v2 * a1) * (-(b1 * r2 - b2 * r1)) := Int.mul_nonneg (by omega) (by omega)
  have p3 : (v1 * r2 - v2 * r1) * (a1 * b2 - a2 * b1) ≤ 0 := Int.mul_nonpos_of_nonpos_of_nonneg hle (by omega)
  have p4 : (v1 * b2 - v2 * b1) * (a1 * r2 - a2 * r1) = 0 := by omega
  have p5 : (v1 * a2 - v2 * a1) * (-(b1 * r2 - b2 * r1)) = 0 := by omega
  have z3 : a1 * r2 - a2 * r1 = 0 := (Int.mul_eq_zero.1 p4).resolve_left (by omega)
  have z4 : b1 * r2 - b2 * r1 = 0 := by have := (Int.mul_eq_zero.1 p5).resolve_left (by omega); omega
  have j1 : r1 * (a1 * b2 - a2 * b1) = (a1 * r2 - a2 * r1) * b1 - (b1 * r2 - b2 * r1) * a1 := by grind
  have j2 : r2 * (a1 * b2 - a2 * b1) = (a1 * r2 - a2 * r1) * b2 - (b1 * r2 - b2 * r1) * a2 := by grind
  rw [z3, z4] at j1 j2
  simp only [Int.zero_mul, Int.sub_zero] at j1 j2
  exact ⟨(Int.mul_eq_zero.1 j1).resolve_right (by omega), (Int.mul_eq_zero.1 j2).resolve_right (by omega)⟩
/-- any direction that separates shows that two polygons don't overlap -/
theorem sep_no {ps qs : List Pt} (hp : Around ps) (hq : Around qs) {r : Pt} (hr : r ≠ (0, 0)) (h : sepBy ps qs (rt r)) : overlapB ps qs = false := by
  have hf := around_flip hq
  obtain ⟨ds, hs⟩ := sorted_some hp hf
  cases ho : overlapB ps qs with
  | false => rfl
  | true =>
    have h1 := (place_sum hp hq hs).2 ho
    have h2 := inside_dir (sum_around hp hf hs) h1 hr
    have hm : Merged ps (flipP qs) ds := ⟨hp.rolls, hf.rolls, hs⟩
    rw [hm.hi hr] at h2
    have := (sep_hi hp.rolls hf.rolls hq.rolls.some hr).1 h
    omega
theorem third {n k : Nat} (h3 : 3 ≤ n) (hk : k < n) : ∃ j, j < n ∧ j ≠ k ∧ j ≠ (k + 1) % n := by
  by_cases h : k + 1 < n
  · rw [Nat.mod_eq_of_lt h]
    by_cases h0 : k = 0
    · exact ⟨2, by omega, by omega, by omega⟩
    · exact ⟨0, by omega, by omega, by omega⟩
  · have : k + 1 = n := by omega
    rw [this, Nat.mod_self]
    exact ⟨1, by omega, by omega, by omega⟩
theorem over_self {ps : List Pt} (h : Around ps) : overlapB ps ps = true := by
  have h0 := h.rolls.some
  rw [overlap_true h0 h0]
  have key : ∀ k, k < ps.length → ∃ j, j < ps.length ∧ crossP (fromP ps j) (stepP ps k) < crossP (fromP ps k) (stepP ps k) := fun k hk => by
    obtain ⟨j, hj, h1, h2⟩ := third h.three hk
    have := h.strict_left hk hj h1 h2
    rw [← tri_side ps (fromP ps j) k] at this
    refine ⟨j, hj, ?_⟩
    unfold triP at this
    unfold crossP crossZ stepP
    dsimp only
    grind
  refine ⟨fun k hk hs => ?_, fun k hk hs => ?_⟩
  · obtain ⟨j, hj, hlt⟩ := key k hk
    have := hs k j hk hj
    rw [dirP_rt, dot_rt, dot_rt] at this
    omega
  · obtain ⟨j, hj, hlt⟩ := key k hk
    have := hs j k hj hk
    rw [dirQ_rt, dot_rt, dot_rt] at this
    have hn : ∀ a b : Pt, crossP a (negP b) = -crossP a b := fun a b => by unfold crossP crossZ negP; grind
    rw [hn, hn] at this
    omega
theorem around_moved {ps : List Pt} (h : Around ps) (v : Pt) : Around (movedP ps v) := by
  have hl := moved_length ps v
  refine ⟨by rw [hl]; exact h.three, fun i hi => ?_, fun i hi => ?_⟩
  · rw [hl] at hi ⊢
    have hpi : prevI ps.length i < ps.length := by unfold prevI; split <;> omega
    rw [step_moved v hpi, step_moved v hi]
    exact h.turn i hi
  · rw [hl] at hi
    rw [step_moved v hi, step_moved v (show i < ps.length by omega)]
    exact h.sorted i hi
theorem moved_two (ps : List Pt) (a b : Pt) : movedP (movedP ps (b.1 - a.1, b.2 - a.2)) a = movedP ps b := by
  unfold movedP
  rw [List.map_map]
  refine List.map_congr_left fun q _ => ?_
  unfold addP
  dsimp only [Function.comp]
  refine Prod.ext ?_ ?_
  · dsimp only; omega
  · dsimp only; omega
theorem moved_zero (ps : List Pt) : movedP ps (0, 0) = ps := by
  unfold movedP
  conv => rhs; rw [← List.map_id ps]
  refine List.map_congr_left fun q _ => ?_
  unfold addP
  simp
theorem over_far {ps : List Pt} (hb : blankB ps = true) {d : Pt} (h : ¬ (-12 < d.1 ∧ d.1 < 12 ∧ -12 < d.2 ∧ d.2 < 12)) : overlapB ps (movedP ps d) = false := by
  obtain ⟨hv, hin⟩ := blank_parts hb
  have ha := valid_around hv
  have key : ∀ r : Pt, r ≠ (0, 0) → (∀ p q, p ∈ ps → q ∈ ps → crossP p r ≤ crossP (addP d q) r) → overlapB ps (movedP ps d) = false := fun r hr hk => by
    refine sep_no ha (around_moved ha d) hr fun i j hi hj => ?_
    rw [moved_length] at hj
    rw [dot_rt, dot_rt, show fromP (movedP ps d) j = addP d (fromP ps j) from from_map _ hj]
    exact hk _ _ (from_mem' hi) (from_mem' hj)
  have cc : ∀ p r : Pt, crossP p r = p.1 * r.2 - p.2 * r.1 := fun p r => rfl
  have hc : d.1 ≤ -12 ∨ 12 ≤ d.1 ∨ d.2 ≤ -12 ∨ 12 ≤ d.2 := by omega
  rcases hc with hc | hc | hc | hc
  · refine key (0, -1) (by decide) fun p q hp hq => ?_
    have := hin p hp
    have := hin q hq
    rw [cc, cc]
    unfold addP
    dsimp only
    omega
  · refine key (0, 1) (by decide) fun p q hp hq => ?_
    have := hin p hp
    have := hin q hq
    rw [cc, cc]
    unfold addP
    dsimp only
    omega
  · refine key (1, 0) (by decide) fun p q hp hq => ?_
    have := hin p hp
    have := hin q hq
    rw [cc, cc]
    unfold addP
    dsimp only
    omega
  · refine key (-1, 0) (by decide) fun p q hp hq => ?_
    have := hin p hp
    have := hin q hq
    rw [cc, cc]
    unfold addP
    dsimp only
    omega
/-- two translations of a blank -/
theorem over_pair {ps : List Pt} (hb : blankB ps = true) (a b : Pt) : overlapB (movedP ps a) (movedP ps b) = (hitB ps (b.1 - a.1, b.2 - a.2) || decide ((b.1 - a.1, b.2 - a.2) = ((0, 0) : Pt))) := by
  have ha := valid_around (blank_parts hb).1
  have h0 := ha.rolls.some
  rw [← moved_two ps a b, overlap_moved a h0 (by rw [moved_length]; exact h0)]
  generalize ((b.1 - a.1, b.2 - a.2) : Pt) = d
  by_cases hd : d = (0, 0)
  · subst hd
    rw [moved_zero, over_self ha]
    simp
  · rw [decide_eq_false hd, Bool.or_false]
    unfold hitB
    by_cases hin : -12 < d.1 ∧ d.1 < 12 ∧ -12 < d.2 ∧ d.2 < 12
    · rw [decide_eq_true hin, Bool.true_and]
    · rw [decide_eq_false hin, Bool.false_and]
      exact over_far hb hin
/-- what a blank's move answers -/
theorem move_any {ps : List Pt} (h : blankB ps = true) {v : Pt} (hv : -900 ≤ v.1 ∧ v.1 ≤ 900 ∧ -900 ≤ v.2 ∧ v.2 ≤ 900) : farB v.1 v.2 = false ∧ (∀ u, moveR ps v.1 v.2 u = two u (.int .i64 0)) ∧ validB (movedP ps v) = true := by
  obtain ⟨hva, hin⟩ := blank_parts h
  have hf : farB v.1 v.2 = false := by simp [farB]; omega
  have hmf : (movedP ps v).any farP = false := by
    rw [List.any_eq_false]
    intro q hz
    obtain ⟨r, hr, rfl⟩ := List.mem_map.1 hz
    have := hin r hr
    intro hfar
    simp only [farP, farB, addP, Bool.or_eq_true] at hfar
    rcases hfar with ((hf | hf) | hf) | hf <;> (have := of_decide_eq_true hf; omega)
  have hlen : ¬ 32 < (movedP ps v).length := by rw [moved_length]; have := (valid_near hva).2; omega
  refine ⟨hf, fun u => ?_, valid_moved hva hmf⟩
  unfold moveR
  rw [if_pos ⟨hva, hf⟩]
  unfold limR
  rw [show movedP ps (v.1, v.2) = movedP ps v from rfl, if_neg (by rw [hmf]; decide), if_neg hlen]
end Go.Proofs.Ytnpebfchojalcaa

namespace Go.Proofs.Ytnpebfchojalcaa
/-! Pick's theorem without a bound on the coordinates. -/
def nearR (R : Nat) (ps : List Pt) : Prop := ∀ q ∈ ps, -(R : Int) ≤ q.1 ∧ q.1 ≤ R ∧ -(R : Int) ≤ q.2 ∧ q.2 ≤ R
variable {ps : List Pt} {u : Nat} {R : Nat}
def rowR (R : Nat) (s : Int) (ps : List Pt) (y : Int) : Int := sumTo (fun i => if inP s ps ((i : Int) - R) y then 1 else 0) (2 * R + 1)
def allR (R : Nat) (s : Int) (ps : List Pt) : Int := sumTo (fun i => rowR R s ps ((i : Int) - R)) (2 * R + 1)
theorem count_ivR {R : Nat} {P : Int → Prop} [DecidablePred P] {lo hi : Int} (h : ∀ x, P x ↔ lo ≤ x ∧ x ≤ hi) (h1 : -(R : Int) ≤ lo) (h2 : hi ≤ R) (h3 : lo ≤ hi + 1) :
    sumTo (fun i => if P ((i : Int) - R) then 1 else 0) (2 * R + 1) = hi - lo + 1 := by
  obtain ⟨a, ha⟩ : ∃ a : Nat, lo = a - R := ⟨(lo + (R : Int)).toNat, by omega⟩
  obtain ⟨b, hb⟩ : ∃ b : Nat, hi + 1 = b - R := ⟨(hi + R + 1).toNat, by omega⟩
  rw [sumTo_congr (g := fun i => if a ≤ i ∧ i < b then (fun _ => 1) i else 0) (2 * R + 1) fun i _ => by
    by_cases g : a ≤ i ∧ i < b
    · rw [if_pos g, if_pos ((h _).2 (by omega))]
    · rw [if_neg g, if_neg fun k => g (by have := (h _).1 k; omega)]]
  rw [sumTo_part (fun _ => 1) (by omega) (by omega), sumTo_const]
  omega
theorem rowR_none {s y : Int} (h : ∀ x, ¬ inP s ps x y) : rowR R s ps y = 0 := by
  unfold rowR
  rw [sumTo_congr (g := fun _ => 0) (2 * R + 1) fun i _ => if_neg (h _)]
  exact sumTo_zero _
theorem up_nearR (hn : nearR R ps) {k : Nat} (hk : k < ps.length) {y s : Int} (hs : 0 ≤ s) (a : upD ps k y) : restZ s ps k y / (stepP ps k).2 ≤ R := by
  have b1 := hn _ (from_mem hk)
  have b2 := hn _ (show toP ps k ∈ ps from from_mem (Nat.mod_lt _ (by omega)))
  rw [to_x, to_y] at b2
  obtain ⟨d, h1, h2⟩ := a
  have : restZ s ps k y / (stepP ps k).2 < R + 1 := by
    rw [Int.ediv_lt_iff_lt_mul d]
    unfold restZ
    have p1 := Int.mul_nonneg (show 0 ≤ R - (fromP ps k).1 by omega) (show 0 ≤ (fromP ps k).2 + (stepP ps k).2 - y by omega)
    have p2 := Int.mul_nonneg (show 0 ≤ R - ((fromP ps k).1 + (stepP ps k).1) by omega) (show 0 ≤ y - (fromP ps k).2 by omega)
    grind
  omega
theorem dn_nearR (hn : nearR R ps) {k : Nat} (hk : k < ps.length) {y s : Int} (hs : 0 ≤ s) (a : dnD ps k y) : restZ s ps k y / -(stepP ps k).2 ≤ R := by
  have b1 := hn _ (from_mem hk)
  have b2 := hn _ (show toP ps k ∈ ps from from_mem (Nat.mod_lt _ (by omega)))
  rw [to_x, to_y] at b2
  obtain ⟨d, h1, h2⟩ := a
  have : restZ s ps k y / -(stepP ps k).2 < R + 1 := by
    rw [Int.ediv_lt_iff_lt_mul (by omega)]
    unfold restZ
    have p1 := Int.mul_nonneg (show 0 ≤ R + (fromP ps k).1 by omega) (show 0 ≤ y - ((fromP ps k).2 + (stepP ps k).2) by omega)
    have p2 := Int.mul_nonneg (show 0 ≤ R + ((fromP ps k).1 + (stepP ps k).1) by omega) (show 0 ≤ (fromP ps k).2 - y by omega)
    grind
  omega
theorem Tall.row0R (h : Around ps) (hn : nearR R ps) (t : Tall ps u) {y : Int} (h1 : (fromP ps 0).2 ≤ y) (h2 : y < (fromP ps u).2) :
    rowR R 0 ps y = 1 + sumTo (fun k => upZ 0 ps k y + dnZ 0 ps k y) ps.length := by
  have u2 := t.u2
  obtain ⟨k, m, hk, ⟨a1, a2⟩, hm, hmn, ⟨b1, b2⟩, e⟩ := t.row h h1 h2 0
  have A : upD ps k y := ⟨by omega, a1, by omega⟩
  have B : dnD ps m y := ⟨by omega, b1, by omega⟩
  have f := face_id ps k m y
  have p1 := Int.mul_nonneg (show 0 ≤ (fromP ps k).2 + (stepP ps k).2 - y by omega) (h.left (k := m) hmn (show k < ps.length by omega))
  have p2 := Int.mul_nonneg (show 0 ≤ y - (fromP ps k).2 by omega) (left_to h (k := k) hmn)
  have g := floors_meet (a := restZ 0 ps k y) (b := restZ 0 ps m y) A.1 (show 0 < -(stepP ps m).2 by have := B.1; omega) (by rw [Int.neg_mul]; omega)
  have n1 := up_nearR hn (show k < ps.length by omega) (Int.le_refl 0) A
  have n2 := dn_nearR hn hmn (Int.le_refl 0) B
  rw [e]
  unfold rowR
  rw [count_ivR (P := fun x => inP 0 ps x y) (lo := -(restZ 0 ps m y / -(stepP ps m).2)) (hi := restZ 0 ps k y / (stepP ps k).2) (fun x => ?_) (by omega) n1 (by omega)]
  · omega
  · constructor
    · intro i
      exact ⟨(side_dn B.1).1 (i m hmn), (side_up A.1).1 (i k (by omega))⟩
    · intro i j hj
      exact mem_row h (by omega) hmn A B ((side_up A.1).2 i.2) ((side_dn B.1).2 i.1) j hj
theorem Tall.row1R (h : Around ps) (hn : nearR R ps) (t : Tall ps u) {y : Int} (h1 : (fromP ps 0).2 < y) (h2 : y < (fromP ps u).2) :
    rowR R 1 ps y = 1 + sumTo (fun k => upZ 1 ps k y + dnZ 1 ps k y) ps.length := by
  have u2 := t.u2
  have n3 := h.three
  obtain ⟨k, m, hk, ⟨a1, a2⟩, hm, hmn, ⟨b1, b2⟩, e⟩ := t.row h (Int.le_of_lt h1) h2 1
  have A : upD ps k y := ⟨by omega, a1, by omega⟩
  have B : dnD ps m y := ⟨by omega, b1, by omega⟩
  have f := face_id ps k m y
  have l1 := h.left (k := m) hmn (show k < ps.length by omega)
  have l2 := left_to h (k := k) hmn
  have p1 := Int.mul_nonneg (show 0 ≤ (fromP ps k).2 + (stepP ps k).2 - y by omega) l1
  have p2 := Int.mul_nonneg (show 0 ≤ y - (fromP ps k).2 by omega) l2
  have pos : 0 < (stepP ps k).2 * restZ 0 ps m y - (stepP ps m).2 * restZ 0 ps k y := by
    rcases Int.lt_or_eq_of_le l1 with g | g
    · have := Int.mul_pos (show 0 < (fromP ps k).2 + (stepP ps k).2 - y by omega) g
      omega
    · have hk1 : k = (m + 1) % ps.length := by
        by_cases c : k = (m + 1) % ps.length
        · exact c
        · have := h.strict_left (k := m) (j := k) hmn (by omega) (by omega) c
          omega
      have hm1 : m + 1 = ps.length := by
        by_cases c : m + 1 < ps.length
        · rw [Nat.mod_eq_of_lt c] at hk1; omega
        · omega
      have hk0 : k = 0 := by rw [hk1, hm1, Nat.mod_self]
      have q : 0 < sideK ps (toP ps k).1 (toP ps k).2 m := by
        rw [h.nxt (by omega)]
        exact h.strict_left hmn (by omega) (by omega) (by rw [hm1, Nat.mod_self]; omega)
      have := Int.mul_pos (show 0 < y - (fromP ps k).2 by rw [hk0]; omega) q
      omega
  have g := floors_meet1 (a := restZ 0 ps k y) (b := restZ 0 ps m y) A.1 (show 0 < -(stepP ps m).2 by have := B.1; omega) (by rw [Int.neg_mul]; omega)
  rw [← rest_s, ← rest_s] at g
  have n1 := up_nearR hn (show k < ps.length by omega) (show (0 : Int) ≤ 1 by decide) A
  have n2 := dn_nearR hn hmn (show (0 : Int) ≤ 1 by decide) B
  rw [e]
  unfold rowR
  rw [count_ivR (P := fun x => inP 1 ps x y) (lo := -(restZ 1 ps m y / -(stepP ps m).2)) (hi := restZ 1 ps k y / (stepP ps k).2) (fun x => ?_) (by omega) n1 (by omega)]
  · omega
  · constructor
    · intro i
      exact ⟨(side_dn B.1).1 (i m hmn), (side_up A.1).1 (i k (by omega))⟩
    · intro i j hj
      have c1 := (side_up (s := 1) A.1).2 i.2
      have c2 := (side_dn (s := 1) B.1).2 i.1
      exact mem_row1 h t (by omega) hmn A B h1 h2 (by omega) (by omega) j hj
theorem Tall.rowuR (h : Around ps) (hn : nearR R ps) (t : Tall ps u) : rowR R 0 ps (fromP ps u).2 = 1 - flat0 ps u := by
  have n := h.three
  have u1 := t.u1
  have u2 := t.u2
  have nk : toP ps (u - 1) = fromP ps u := by rw [h.nxt (by omega), show u - 1 + 1 = u by omega]
  have ek := to_y ps (u - 1)
  have ekx := to_x ps (u - 1)
  rw [nk] at ek ekx
  have dk : 0 < (stepP ps (u - 1)).2 := by
    rcases t.up (u - 1) (by omega) with q | ⟨q, _, q3⟩
    · exact q
    · have := t.high
      rw [show u - 1 = 0 from q3] at ek q
      omega
  obtain ⟨m, hm, hmn, dm, ym, xm⟩ : ∃ m, u ≤ m ∧ m < ps.length ∧ (stepP ps m).2 < 0 ∧ (fromP ps m).2 = (fromP ps u).2 ∧ (fromP ps m).1 = (fromP ps u).1 + flat0 ps u := by
    rcases t.dn u (Nat.le_refl _) u2 with q | ⟨q, _, _⟩
    · exact ⟨u, Nat.le_refl _, u2, q, rfl, by unfold flat0; rw [if_neg (by omega)]; omega⟩
    · have e := to_y ps u
      have ex := to_x ps u
      rw [q] at e
      by_cases c : u + 1 < ps.length
      · rw [h.nxt c] at e ex
        refine ⟨u + 1, by omega, c, ?_, by omega, by unfold flat0; rw [if_pos q]; exact ex⟩
        rcases t.dn (u + 1) (by omega) c with q | ⟨_, _, q⟩
        · exact q
        · omega
      · rw [to_from, show u + 1 = ps.length by omega, Nat.mod_self] at e
        have := t.high
        omega
  have A : upD ps (u - 1) (fromP ps u).2 := ⟨dk, by omega, by omega⟩
  have B : dnD ps m (fromP ps u).2 := ⟨dm, by omega, by omega⟩
  have v1 : restZ 0 ps (u - 1) (fromP ps u).2 / (stepP ps (u - 1)).2 = (fromP ps u).1 := by
    have e : restZ 0 ps (u - 1) (fromP ps u).2 = (stepP ps (u - 1)).2 * (fromP ps u).1 := by
      unfold restZ
      rw [ekx, ek]
      grind
    rw [e]
    exact Int.mul_ediv_cancel_left _ (by omega)
  have v2 : restZ 0 ps m (fromP ps u).2 / -(stepP ps m).2 = -(fromP ps m).1 := by
    have e : restZ 0 ps m (fromP ps u).2 = -(stepP ps m).2 * -(fromP ps m).1 := by
      unfold restZ
      rw [← ym]
      grind
    rw [e]
    exact Int.mul_ediv_cancel_left _ (by omega)
  have b1 := hn _ (from_mem u2)
  have b2 := hn _ (from_mem hmn)
  have fl : flat0 ps u ≤ 0 := by
    unfold flat0
    rcases t.dn u (Nat.le_refl _) u2 with q | ⟨q, q2, _⟩
    · rw [if_neg (by omega)]; exact Int.le_refl _
    · rw [if_pos q]; omega
  unfold rowR
  rw [count_ivR (P := fun x => inP 0 ps x (fromP ps u).2) (lo := (fromP ps m).1) (hi := (fromP ps u).1) (fun x => ?_) (by omega) (by omega) (by omega)]
  · omega
  · constructor
    · intro i
      have i1 := (side_dn B.1).1 (i m hmn)
      have i2 := (side_up A.1).1 (i (u - 1) (by omega))
      rw [v2] at i1
      rw [v1] at i2
      omega
    · intro i j hj
      exact mem_row h (by omega) hmn A B ((side_up A.1).2 (by rw [v1]; exact i.2)) ((side_dn B.1).2 (by rw [v2]; omega)) j hj
theorem pick_allR (h : Around ps) (hn : nearR R ps) : 2 * allR R 0 ps = areaZ ps + ringZ ps + 2 ∧ 2 * allR R 1 ps = areaZ ps - ringZ ps + 2 := by
  obtain ⟨u, t⟩ := h.tall
  have u2 := t.u2
  have n := h.three
  have b0 := hn _ (from_mem (show 0 < ps.length by omega))
  have bu := hn _ (from_mem u2)
  have hi := t.high
  obtain ⟨H, hH⟩ : ∃ H : Nat, (fromP ps u).2 = (fromP ps 0).2 + H := ⟨((fromP ps u).2 - (fromP ps 0).2).toNat, by omega⟩
  obtain ⟨a, ha⟩ : ∃ a : Nat, (fromP ps 0).2 = a - R := ⟨((fromP ps 0).2 + R).toNat, by omega⟩
  have e : (2 * R + 1) = a + (H + (1 + (2 * R + 1 - a - H - 1))) := by omega
  have lowz : ∀ s : Int, 0 ≤ s → sumTo (fun i => rowR R s ps ((i : Int) - R)) a = 0 := fun s hs => by
    rw [sumTo_congr (g := fun _ => 0) a fun i hi' => rowR_none fun x hx => t.low_row h (inP_zero hs hx) (.inl (by simp only; omega))]
    exact sumTo_zero _
  have highz : ∀ s : Int, 0 ≤ s → sumTo (fun k => rowR R s ps (((a + (H + (1 + k)) : Nat) : Int) - R)) (2 * R + 1 - a - H - 1) = 0 := fun s hs => by
    rw [sumTo_congr (g := fun _ => 0) _ fun i hi' => rowR_none fun x hx => by have := t.high_row h (inP_zero hs hx); omega]
    exact sumTo_zero _
  have all : ∀ s : Int, 0 ≤ s → allR R s ps = sumTo (fun i => rowR R s ps ((fromP ps 0).2 + (i : Int))) H + rowR R s ps (fromP ps u).2 := fun s hs => by
    unfold allR
    rw [e, sumTo_split, sumTo_split, sumTo_split, lowz s hs, highz s hs, sumTo_one]
    rw [sumTo_congr (f := fun k : Nat => rowR R s ps (((a + k : Nat) : Int) - R)) (g := fun i => rowR R s ps ((fromP ps 0).2 + (i : Int))) H fun i _ => by congr 1; omega]
    rw [show (((a + (H + 0) : Nat) : Int) - R) = (fromP ps u).2 by omega]
    omega
  have r0 := t.rows h (s := 0) (.inl rfl) hH
  have r1 := t.rows h (s := 1) (.inr rfl) hH
  constructor
  · rw [all 0 (Int.le_refl _), t.rowuR h hn]
    rw [sumTo_congr (g := fun i => 1 + sumTo (fun k => upZ 0 ps k ((fromP ps 0).2 + (i : Int)) + dnZ 0 ps k ((fromP ps 0).2 + (i : Int))) ps.length) H fun i hi' => t.row0R h hn (by omega) (by omega)]
    rw [if_pos rfl] at r0
    unfold signS at r0
    omega
  · rw [all 1 (by decide), rowR_none fun x hx => by have := (t.ends_row h hx).2; omega]
    have hp : 0 < H := by omega
    obtain ⟨G, rfl⟩ : ∃ G, H = G + 1 := ⟨H - 1, by omega⟩
    rw [sumTo_first] at r1 ⊢
    rw [rowR_none fun x hx => by have := (t.ends_row h hx).1; simp at this]
    rw [sumTo_congr (g := fun i => 1 + sumTo (fun k => upZ 1 ps k ((fromP ps 0).2 + ((i + 1 : Nat) : Int)) + dnZ 1 ps k ((fromP ps 0).2 + ((i + 1 : Nat) : Int))) ps.length) G fun i hi' => t.row1R h hn (by omega) (by omega)]
    have l := t.row_low h
    simp only [Int.natCast_zero, Int.add_zero] at r1
    rw [l, if_neg (by decide)] at r1
    unfold signS at r1
    omega
end Go.Proofs.Ytnpebfchojalcaa

namespace Go.Proofs.Ytnpebfchojalcaa
set_option maxRecDepth 100000
/-! Polygons at a greater scale, and the points inside them. -/
def scP (k : Nat) (q : Pt) : Pt := ((k : Int) * q.1, (k : Int) * q.2)
def scaleP (k : Nat) (ps : List Pt) : List Pt := ps.map (scP k)
theorem scale_length (k : Nat) (ps : List Pt) : (scaleP k ps).length = ps.length := List.length_map _
theorem from_scale (k : Nat) {ps : List Pt} {i : Nat} (hi : i < ps.length) : fromP (scaleP k ps) i = scP k (fromP ps i) := from_map _ hi
theorem step_scale (k : Nat) {ps : List Pt} {i : Nat} (hi : i < ps.length) : stepP (scaleP k ps) i = scP k (stepP ps i) := by
  unfold stepP
  rw [to_from, to_from, scale_length, from_scale k hi, from_scale k (Nat.mod_lt _ (by omega))]
  unfold scP
  dsimp only
  rw [Int.mul_sub, Int.mul_sub]
theorem cross_scale (k : Nat) (a b : Pt) : crossP (scP k a) (scP k b) = (k : Int) * k * crossP a b := by
  unfold crossP crossZ scP
  dsimp only
  grind
theorem sinks_scale {k : Nat} (hk : 0 < k) (a : Pt) : sinksB (scP k a).1 (scP k a).2 = sinksB a.1 a.2 := by
  have hk' : (0 : Int) < k := by omega
  have h1 : (k : Int) * a.2 < 0 ↔ a.2 < 0 := by
    constructor
    · intro h
      exact Int.not_le.1 fun g => by have := Int.mul_nonneg (show (0 : Int) ≤ k by omega) g; omega
    · intro h
      exact Int.mul_neg_of_pos_of_neg hk' h
  have h2 : (k : Int) * a.1 < 0 ↔ a.1 < 0 := by
    constructor
    · intro h
      exact Int.not_le.1 fun g => by have := Int.mul_nonneg (show (0 : Int) ≤ k by omega) g; omega
    · intro h
      exact Int.mul_neg_of_pos_of_neg hk' h
  have h3 : (k : Int) * a.2 = 0 ↔ a.2 = 0 := by
    rw [Int.mul_eq_zero]
    exact ⟨fun h => h.resolve_left (by omega), .inr⟩
  unfold sinksB scP
  dsimp only
  rw [decide_eq_decide.2 h1, decide_eq_decide.2 h2, decide_eq_decide.2 h3]
theorem lt_scale {k : Nat} (hk : 0 < k) (a b : Pt) : ltA (scP k a) (scP k b) ↔ ltA a b := by
  unfold ltA
  rw [sinks_scale hk, sinks_scale hk]
  have := cross_scale k a b
  unfold crossP at this
  rw [this]
  have hp : (0 : Int) < (k : Int) * k := Int.mul_pos (by omega) (by omega)
  rw [(mul_sign_pos hp).2]
theorem around_scale {k : Nat} (hk : 0 < k) {ps : List Pt} (h : Around ps) : Around (scaleP k ps) := by
  have hl := scale_length k ps
  refine ⟨by rw [hl]; exact h.three, fun i hi => ?_, fun i hi => ?_⟩
  · rw [hl] at hi ⊢
    have hpi : prevI ps.length i < ps.length := by unfold prevI; split <;> omega
    rw [step_scale k hpi, step_scale k hi, cross_scale]
    exact Int.mul_pos (Int.mul_pos (by omega) (by omega)) (h.turn i hi)
  · rw [hl] at hi
    rw [step_scale k hi, step_scale k (show i < ps.length by omega), lt_scale hk]
    exact h.sorted i hi
theorem area_scale (k : Nat) (ps : List Pt) : areaZ (scaleP k ps) = (k : Int) * k * areaZ ps := by
  unfold areaZ
  rw [areaK_sum, areaK_sum, scale_length, ← sumTo_mul]
  refine sumTo_congr _ fun i hi => ?_
  unfold crossK
  rw [from_scale k hi, step_scale k hi]
  exact cross_scale k _ _
theorem gcd_scale (k : Nat) {ps : List Pt} {i : Nat} (hi : i < ps.length) : gcdK (scaleP k ps) i = (k : Int) * gcdK ps i := by
  unfold gcdK
  rw [step_scale k hi]
  unfold scP
  dsimp only
  rw [Int.gcd_mul_left]
  simp
theorem ring_scale (k : Nat) (ps : List Pt) : ringZ (scaleP k ps) = (k : Int) * ringZ ps := by
  unfold ringZ
  rw [ringK_sum, ringK_sum, scale_length, ← sumTo_mul]
  exact sumTo_congr _ fun i hi => gcd_scale k hi
theorem near_scale {k R : Nat} {ps : List Pt} (h : nearR R ps) : nearR (k * R) (scaleP k ps) := fun q hq => by
  obtain ⟨r, hr, rfl⟩ := List.mem_map.1 hq
  have := h r hr
  unfold scP
  dsimp only
  have c : ((k * R : Nat) : Int) = (k : Int) * R := by simp
  rw [c]
  have m1 := Int.mul_le_mul_of_nonneg_left (c := (k : Int)) this.1 (show (0 : Int) ≤ k by omega)
  have m2 := Int.mul_le_mul_of_nonneg_left (c := (k : Int)) this.2.1 (show (0 : Int) ≤ k by omega)
  have m3 := Int.mul_le_mul_of_nonneg_left (c := (k : Int)) this.2.2.1 (show (0 : Int) ≤ k by omega)
  have m4 := Int.mul_le_mul_of_nonneg_left (c := (k : Int)) this.2.2.2 (show (0 : Int) ≤ k by omega)
  rw [Int.mul_neg] at m1 m3
  exact ⟨m1, m2, m3, m4⟩
/-- a point strictly inside has a vertex beyond it in every direction -/
theorem int_dir {ps : List Pt} (h : Around ps) {z : Pt} (hz : inP 1 ps z.1 z.2) {r : Pt} (hr : r ≠ (0, 0)) : ∃ i, i < ps.length ∧ crossP z r < crossP (fromP ps i) r := by
  have hm := around_moved h (negP z)
  have hp : placeZ (movedP ps (negP z)) 0 0 = 1 := by
    unfold placeZ
    rw [placeK_one]
    intro j hj
    rw [moved_length] at hj
    have := hz j hj
    unfold sideK at this ⊢
    rw [step_moved _ hj, show fromP (movedP ps (negP z)) j = addP (negP z) (fromP ps j) from from_map _ hj]
    unfold addP negP
    dsimp only
    rw [show 0 - ((fromP ps j).1 + -z.1) = z.1 - (fromP ps j).1 by omega, show 0 - ((fromP ps j).2 + -z.2) = z.2 - (fromP ps j).2 by omega]
    omega
  have hd := inside_dir hm hp hr
  obtain ⟨i, hi, e⟩ := hi_at hm.rolls hr
  rw [moved_length] at hi
  refine ⟨i, hi, ?_⟩
  rw [← e, show fromP (movedP ps (negP z)) i = addP (negP z) (fromP ps i) from from_map _ hi] at hd
  have := lin_right r (negP z) (fromP ps i)
  dsimp only at this
  rw [this, neg_left] at hd
  omega
theorem neg_right (a b : Pt) : crossP a (negP b) = -crossP a b := by unfold crossP crossZ negP; grind
theorem sc_left (k : Nat) (a b : Pt) : crossP (scP k a) b = (k : Int) * crossP a b := by unfold crossP crossZ scP; grind
/-- two polygons that don't overlap are kept apart by a direction -/
theorem apart {ps qs : List Pt} (hp : Around ps) (hq : Around qs) (h : overlapB ps qs = false) : ∃ r, r ≠ ((0, 0) : Pt) ∧ sepBy ps qs (rt r) := by
  rcases (overlap_iff hp.rolls.some hq.rolls.some).1 h with ⟨k, hk, hs⟩ | ⟨k, hk, hs⟩
  · exact ⟨_, hp.ne0 hk, by rw [← dirP_rt]; exact hs⟩
  · exact ⟨_, neg_ne (hq.ne0 hk), by rw [← dirQ_rt]; exact hs⟩
theorem sep_moved {ps : List Pt} {v r : Pt} (h : sepBy ps (movedP ps v) (rt r)) {i j : Nat} (hi : i < ps.length) (hj : j < ps.length) : crossP (fromP ps i) r ≤ crossP (fromP ps j) r + crossP v r := by
  have := h i j hi (by rw [moved_length]; exact hj)
  rw [dot_rt, dot_rt, show fromP (movedP ps v) j = addP v (fromP ps j) from from_map _ hj] at this
  have e := lin_right r v (fromP ps j)
  dsimp only at e
  rw [e] at this
  omega
/-- a polygon and one moved that don't overlap have no inner point in common, at any scale -/
theorem no_common {ps : List Pt} (h : Around ps) {v : Pt} (hv : overlapB ps (movedP ps v) = false) {k : Nat} (hk : 0 < k) {z : Pt} (h1 : inP 1 (scaleP k ps) z.1 z.2) (h2 : inP 1 (scaleP k ps) (z.1 - k * v.1) (z.2 - k * v.2)) : False := by
  obtain ⟨r, hr, hs⟩ := apart h (around_moved h v) hv
  have ha := around_scale hk h
  obtain ⟨i, hi, e1⟩ := int_dir ha h1 hr
  obtain ⟨j, hj, e2⟩ := int_dir (z := (z.1 - k * v.1, z.2 - k * v.2)) ha h2 (neg_ne hr)
  rw [scale_length] at hi hj
  rw [from_scale k hi, sc_left] at e1
  rw [from_scale k hj, neg_right, neg_right, sc_left] at e2
  have hh := sep_moved hs hi hj
  have e3 : crossP (z.1 - k * v.1, z.2 - k * v.2) r = crossP z r - (k : Int) * crossP v r := by unfold crossP crossZ; dsimp only; grind
  rw [e3] at e2
  have := Int.mul_le_mul_of_nonneg_left (c := (k : Int)) hh (show (0 : Int) ≤ k by omega)
  rw [Int.mul_add] at this
  omega
/-- points inside the body of differences, at a scale, whose difference is twice a vector: blanks moved by it overlap -/
theorem no_half {ps ds : List Pt} (h : Around ps) (hs : Sorted ps (flipP ps) ds) {v : Pt} (hv : overlapB ps (movedP ps v) = false) {k : Nat} (hk : 0 < k) {z y : Pt}
    (h1 : inP 1 (scaleP k (sumP ps (flipP ps) ds)) z.1 z.2) (h2 : inP 1 (scaleP k (sumP ps (flipP ps) ds)) y.1 y.2) (e1 : z.1 - y.1 = 2 * (k * v.1)) (e2 : z.2 - y.2 = 2 * (k * v.2)) : False := by
  obtain ⟨r, hr, hsep⟩ := apart h (around_moved h v) hv
  have hf := around_flip h
  have hm : Merged ps (flipP ps) ds := ⟨h.rolls, hf.rolls, hs⟩
  have hA := sum_around h hf hs
  have ha := around_scale hk hA
  have hn := h.rolls.some
  have key : ∀ {z r : Pt}, r ≠ (0, 0) → inP 1 (scaleP k (sumP ps (flipP ps) ds)) z.1 z.2 → ∃ i j, i < ps.length ∧ j < ps.length ∧ crossP z r < (k : Int) * (crossP (fromP ps i) r - crossP (fromP ps j) r) := fun {z r} hr hz => by
    obtain ⟨m, hml, hlt⟩ := int_dir ha hz hr
    rw [scale_length] at hml
    rw [from_scale k hml, sc_left] at hlt
    obtain ⟨i, j, hi, hj, e⟩ := sum_vertex hm (k := m) (by rw [Merged.slen] at hml; exact hml)
    rw [flip_length hn] at hj
    refine ⟨i, (j + flipS ps) % ps.length, hi, Nat.mod_lt _ hn, ?_⟩
    have e' := lin_right r (fromP (flipP ps) j) (fromP ps i)
    dsimp only at e'
    rw [e, e', from_flip hj, neg_left] at hlt
    rw [show crossP (fromP ps i) r - crossP (fromP ps ((j + flipS ps) % ps.length)) r = -crossP (fromP ps ((j + flipS ps) % ps.length)) r + crossP (fromP ps i) r by omega]
    exact hlt
  obtain ⟨i, j, hi, hj, a1⟩ := key hr h1
  obtain ⟨i', j', hi', hj', a2⟩ := key (neg_ne hr) h2
  rw [neg_right, neg_right, neg_right] at a2
  have b1 := sep_moved hsep hi hj
  have b2 := sep_moved hsep hj' hi'
  have c1 := Int.mul_le_mul_of_nonneg_left (c := (k : Int)) (show crossP (fromP ps i) r - crossP (fromP ps j) r ≤ crossP v r by omega) (show (0 : Int) ≤ k by omega)
  have c2 := Int.mul_le_mul_of_nonneg_left (c := (k : Int)) (show -crossP (fromP ps i') r - -crossP (fromP ps j') r ≤ crossP v r by omega) (show (0 : Int) ≤ k by omega)
  have e3 : crossP z r - crossP y r = 2 * ((k : Int) * crossP v r) := by
    have : crossP z r - crossP y r = (z.1 - y.1) * r.2 - (z.2 - y.2) * r.1 := by unfold crossP crossZ; grind
    rw [this, e1, e2]
    unfold crossP crossZ
    grind
  omega
/-! lists and their lengths -/
theorem nodup_le {α : Type} [DecidableEq α] : ∀ (l m : List α), l.Nodup → (∀ x ∈ l, x ∈ m) → l.length ≤ m.length
  | [], m, _, _ => Nat.zero_le _
  | a :: l, m, hn, hs => by
    have ha := hs a List.mem_cons_self
    rw [List.nodup_cons] at hn
    have := nodup_le l (m.erase a) hn.2 fun x hx => (List.mem_erase_of_ne (fun e => hn.1 (by rw [← e]; exact hx))).2 (hs x (List.mem_cons_of_mem _ hx))
    rw [List.length_erase_of_mem ha] at this
    have := List.length_pos_of_mem ha
    simp only [List.length_cons]
    omega
theorem nodup_map {α β : Type} (f : α → β) : ∀ (l : List α), l.Nodup → (∀ x ∈ l, ∀ y ∈ l, f x = f y → x = y) → (l.map f).Nodup
  | [], _, _ => by simp
  | a :: l, hn, hf => by
    rw [List.nodup_cons] at hn
    rw [List.map_cons, List.nodup_cons]
    refine ⟨fun h => ?_, nodup_map f l hn.2 fun x hx y hy => hf x (List.mem_cons_of_mem _ hx) y (List.mem_cons_of_mem _ hy)⟩
    obtain ⟨x, hx, e⟩ := List.mem_map.1 h
    have := hf x (List.mem_cons_of_mem _ hx) a List.mem_cons_self e
    exact hn.1 (this ▸ hx)
/-- a rectangle of points, row by row -/
def rowL (x0 y : Int) (p : Pt → Bool) : Nat → List Pt
  | 0 => []
  | j + 1 => rowL x0 y p j ++ if p (x0 + j, y) = true then [(x0 + (j : Int), y)] else []
def boxL (x0 y0 : Int) (n : Nat) (p : Pt → Bool) : Nat → List Pt
  | 0 => []
  | i + 1 => boxL x0 y0 n p i ++ rowL x0 (y0 + i) p n
theorem rowL_mem {x0 y : Int} {p : Pt → Bool} {v : Pt} : ∀ n, v ∈ rowL x0 y p n ↔ v.2 = y ∧ (x0 ≤ v.1 ∧ v.1 < x0 + n) ∧ p v = true
  | 0 => by simp [rowL]; omega
  | j + 1 => by
    unfold rowL
    rw [List.mem_append, rowL_mem j]
    obtain ⟨v1, v2⟩ := v
    dsimp only
    constructor
    · rintro (⟨h1, h2, h3⟩ | h)
      · exact ⟨h1, by omega, h3⟩
      · split at h
        · rename_i hp
          rw [List.mem_singleton] at h
          injection h with h1 h2
          subst h1 h2
          exact ⟨rfl, by omega, hp⟩
        · cases h
    · rintro ⟨h1, h2, h3⟩
      by_cases h : v1 < x0 + j
      · exact .inl ⟨h1, by omega, h3⟩
      · have : v1 = x0 + j := by omega
        subst this h1
        rw [if_pos h3]
        exact .inr List.mem_cons_self
theorem rowL_nodup {x0 y : Int} {p : Pt → Bool} : ∀ n, (rowL x0 y p n).Nodup
  | 0 => by simp [rowL]
  | j + 1 => by
    unfold rowL
    rw [List.nodup_append]
    refine ⟨rowL_nodup j, by split <;> simp, fun a ha b hb e => ?_⟩
    have := (rowL_mem j).1 ha
    split at hb
    · rw [List.mem_singleton] at hb
      rw [e, hb] at this
      dsimp only at this
      omega
    · cases hb
theorem boxL_mem {x0 y0 : Int} {n : Nat} {p : Pt → Bool} {v : Pt} : ∀ m, v ∈ boxL x0 y0 n p m ↔ (y0 ≤ v.2 ∧ v.2 < y0 + m) ∧ (x0 ≤ v.1 ∧ v.1 < x0 + n) ∧ p v = true
  | 0 => by simp [boxL]; omega
  | i + 1 => by
    unfold boxL
    rw [List.mem_append, boxL_mem i, rowL_mem]
    constructor
    · rintro (⟨h1, h2⟩ | ⟨h1, h2⟩)
      · exact ⟨by omega, h2⟩
      · exact ⟨by omega, h2⟩
    · rintro ⟨h1, h2⟩
      by_cases h : v.2 < y0 + i
      · exact .inl ⟨by omega, h2⟩
      · exact .inr ⟨by omega, h2⟩
theorem boxL_nodup {x0 y0 : Int} {n : Nat} {p : Pt → Bool} : ∀ m, (boxL x0 y0 n p m).Nodup
  | 0 => by simp [boxL]
  | i + 1 => by
    unfold boxL
    rw [List.nodup_append]
    refine ⟨boxL_nodup i, rowL_nodup n, fun a ha b hb e => ?_⟩
    have h1 := (boxL_mem i).1 ha
    have h2 := (rowL_mem n).1 hb
    rw [e] at h1
    omega
theorem rowL_len {x0 y : Int} {p : Pt → Bool} : ∀ n, ((rowL x0 y p n).length : Int) = sumTo (fun i => if p (x0 + (i : Int), y) = true then 1 else 0) n
  | 0 => rfl
  | j + 1 => by
    unfold rowL
    rw [List.length_append, Int.natCast_add, rowL_len j]
    show _ = sumTo _ j + _
    congr 1
    split <;> rename_i hp
    · exact (if_pos hp).symm
    · exact (if_neg hp).symm
theorem boxL_len {x0 y0 : Int} {n : Nat} {p : Pt → Bool} : ∀ m, ((boxL x0 y0 n p m).length : Int) = sumTo (fun i => ((rowL x0 (y0 + i) p n).length : Int)) m
  | 0 => rfl
  | i + 1 => by
    unfold boxL
    rw [List.length_append, Int.natCast_add, boxL_len i]
    rfl
theorem boxL_all {x0 y0 : Int} {n m : Nat} : ((boxL x0 y0 n (fun _ => true) m).length : Int) = m * n := by
  rw [boxL_len, sumTo_congr (g := fun _ => (n : Int)) m fun i _ => by
    rw [rowL_len, sumTo_congr (g := fun _ => (1 : Int)) n fun j _ => by simp]
    rw [sumTo_const]
    omega]
  rw [sumTo_const]
/-- the points strictly inside -/
def intL (R : Nat) (ps : List Pt) : List Pt := boxL (-(R : Int)) (-(R : Int)) (2 * R + 1) (fun v => decide (inP 1 ps v.1 v.2)) (2 * R + 1)
theorem intL_len (R : Nat) (ps : List Pt) : ((intL R ps).length : Int) = allR R 1 ps := by
  unfold intL
  rw [boxL_len]
  unfold allR
  refine sumTo_congr _ fun i _ => ?_
  rw [rowL_len]
  unfold rowR
  refine sumTo_congr _ fun j _ => ?_
  rw [show -(R : Int) + (j : Int) = (j : Int) - R by omega, show -(R : Int) + (i : Int) = (i : Int) - R by omega]
  by_cases c : inP 1 ps ((j : Int) - R) ((i : Int) - R)
  · rw [if_pos c, decide_eq_true c, if_pos rfl]
  · rw [if_neg c, decide_eq_false c, if_neg (by decide)]
theorem intL_mem {R : Nat} {ps : List Pt} {v : Pt} (h : v ∈ intL R ps) : inP 1 ps v.1 v.2 := by
  have := ((boxL_mem _).1 h).2.2
  exact of_decide_eq_true this
theorem intL_pick {k R : Nat} (hk : 0 < k) {ps : List Pt} (h : Around ps) (hn : nearR R ps) : 2 * ((intL (k * R) (scaleP k ps)).length : Int) = (k : Int) * k * areaZ ps - k * ringZ ps + 2 := by
  rw [intL_len]
  have := (pick_allR (around_scale hk h) (near_scale (k := k) hn)).2
  rw [area_scale, ring_scale] at this
  exact this
end Go.Proofs.Ytnpebfchojalcaa

namespace Go.Proofs.Ytnpebfchojalcaa
set_option maxRecDepth 100000
/-! The area of a blank whose translations by a grid don't overlap (Minkowski). -/
/-- a grid's collisions, by their signs -/
theorem coll_is {ps : List Pt} {A B D : Int} (hb : blankB ps = true) (hg : gridOk A B D) {p : Pt} : p ∈ collL ps A B D ↔ (0 ≤ p.1 ∧ leastZ p.1 ≤ p.2) ∧ inZ A B D p ∧ hitB ps p = true := by
  unfold collL
  rw [List.mem_filter]
  constructor
  · rintro ⟨h1, h2⟩
    have h3 := nearL_mem hg h1
    have h4 := (in_near hg h3.1).2 h1
    rw [coll_hit hb h3] at h2
    exact ⟨⟨h3.1, h4.2.1⟩, h4.2.2.2, h2⟩
  · rintro ⟨⟨h1, h2⟩, h3, h4⟩
    have h5 := ((hit_iff ps p).1 h4).1
    have h6 := (in_near hg h1).1 ⟨h5.2.1, h2, h5.2.2.2, h3⟩
    exact ⟨h6, by rw [coll_hit hb (nearL_mem hg h6)]; exact h4⟩
/-- the class of a point by a grid -/
def clsZ (A B D : Int) (z : Pt) : Pt := (z.1 % A, (z.2 - z.1 / A * B) % D)
theorem cls_vec {A B D c : Int} (hA : 1 ≤ A) {z y : Pt} (e : clsZ (c * A) (c * B) (c * D) z = clsZ (c * A) (c * B) (c * D) y) :
    ∃ v : Pt, inZ A B D v ∧ z.1 - y.1 = c * v.1 ∧ z.2 - y.2 = c * v.2 := by
  unfold clsZ at e
  injection e with e1 e2
  obtain ⟨m, hm⟩ : ∃ m, m = z.1 / (c * A) - y.1 / (c * A) := ⟨_, rfl⟩
  obtain ⟨t, ht⟩ : ∃ t, t = (z.2 - z.1 / (c * A) * (c * B)) / (c * D) - (y.2 - y.1 / (c * A) * (c * B)) / (c * D) := ⟨_, rfl⟩
  have d1 := Int.mul_ediv_add_emod z.1 (c * A)
  have d2 := Int.mul_ediv_add_emod y.1 (c * A)
  have d3 := Int.mul_ediv_add_emod (z.2 - z.1 / (c * A) * (c * B)) (c * D)
  have d4 := Int.mul_ediv_add_emod (y.2 - y.1 / (c * A) * (c * B)) (c * D)
  rw [e1] at d1
  rw [e2] at d3
  refine ⟨(A * m, B * m + D * t), ⟨⟨m, rfl⟩, ?_⟩, ?_, ?_⟩
  · dsimp only
    rw [Int.mul_tdiv_cancel_left _ (by omega)]
    exact ⟨t, by grind⟩
  · dsimp only
    rw [hm]
    grind
  · dsimp only
    rw [hm, ht]
    grind
theorem cls_len {A B D : Int} (hA : 1 ≤ A) (hD : 1 ≤ D) {l : List Pt} (hn : l.Nodup) (hi : ∀ z ∈ l, ∀ y ∈ l, clsZ A B D z = clsZ A B D y → z = y) : (l.length : Int) ≤ A * D := by
  obtain ⟨a, ha⟩ : ∃ a : Nat, A = a := ⟨A.toNat, by omega⟩
  obtain ⟨d, hd⟩ : ∃ d : Nat, D = d := ⟨D.toNat, by omega⟩
  have h := nodup_le (l.map (clsZ A B D)) (boxL 0 0 a (fun _ => true) d) (nodup_map _ l hn hi) fun x hx => by
    obtain ⟨z, _, rfl⟩ := List.mem_map.1 hx
    rw [boxL_mem]
    unfold clsZ
    dsimp only
    have h1 := Int.emod_nonneg z.1 (show A ≠ 0 by omega)
    have h2 := Int.emod_lt_of_pos z.1 (show 0 < A by omega)
    have h3 := Int.emod_nonneg (z.2 - z.1 / A * B) (show D ≠ 0 by omega)
    have h4 := Int.emod_lt_of_pos (z.2 - z.1 / A * B) (show 0 < D by omega)
    exact ⟨⟨h3, by omega⟩, ⟨h1, by omega⟩, rfl⟩
  rw [List.length_map] at h
  have e := boxL_all (x0 := 0) (y0 := 0) (n := a) (m := d)
  rw [ha, hd, Int.mul_comm]
  omega
theorem adm_far {ps : List Pt} {A B D : Int} (hb : blankB ps = true) (hg : gridB A B D = true) (hc : collL ps A B D = []) {v : Pt} (hv : v ≠ (0, 0)) (hi : inZ A B D v) : overlapB ps (movedP ps v) = false := by
  have hn := (valid_around (blank_parts hb).1).rolls.some
  have pos : ∀ {v : Pt}, (0 ≤ v.1 ∧ leastZ v.1 ≤ v.2) → inZ A B D v → hitB ps v = true → False := fun {v} h1 h2 h3 => by
    have := (coll_is hb (gridB_ok hg)).2 ⟨h1, h2, h3⟩
    rw [hc] at this
    cases this
  cases ho : overlapB ps (movedP ps v) with
  | false => rfl
  | true =>
    by_cases hin : -12 < v.1 ∧ v.1 < 12 ∧ -12 < v.2 ∧ v.2 < 12
    · have hh : hitB ps v = true := (hit_iff _ _).2 ⟨hin, ho⟩
      have hv' : ¬ (v.1 = 0 ∧ v.2 = 0) := fun h => hv (Prod.ext h.1 h.2)
      by_cases hp : 0 ≤ v.1 ∧ leastZ v.1 ≤ v.2
      · exact (pos hp hi hh).elim
      · refine (pos (v := negP v) ?_ (inZ_neg hi) (by rw [hit_neg hn]; exact hh)).elim
        unfold leastZ negP at *
        dsimp only
        split at hp <;> split <;> omega
    · rw [over_far hb hin] at ho
      cases ho
theorem beat {a r m k : Int} (hr : 0 ≤ r) (hk : k = r + 1) (h : k * k * a - k * r + 2 ≤ k * k * m) : a ≤ m := by
  refine Int.not_lt.1 fun hl => ?_
  have h1 := Int.mul_le_mul_of_nonneg_left (c := k * k) (show m + 1 ≤ a by omega) (Int.mul_nonneg (by omega) (by omega))
  rw [Int.mul_add] at h1
  have h2 : k * k - k * r = k := by rw [← Int.mul_sub, hk]; rw [show r + 1 - r = 1 by omega]; omega
  omega
theorem area_grid {ps : List Pt} {A B D : Int} (hb : blankB ps = true) (hg : gridB A B D = true) (hc : collL ps A B D = []) : areaZ ps ≤ 2 * (A * D) := by
  obtain ⟨hv, hin⟩ := blank_parts hb
  have ha := valid_around hv
  have hgi := gridB_iff.1 hg
  have hr : 0 ≤ ringZ ps := by have := ha.ring_len; have := ha.three; omega
  obtain ⟨k, hk⟩ : ∃ k : Nat, (k : Int) = ringZ ps + 1 := ⟨(ringZ ps + 1).toNat, by omega⟩
  have hk0 : 0 < k := by omega
  have hnr : nearR 12 ps := fun q hq => by have := hin q hq; omega
  have hp := intL_pick hk0 ha hnr
  have hl := cls_len (A := k * A) (B := k * B) (D := k * D) (by have := Int.mul_pos (show (0 : Int) < k by omega) (show 0 < A by omega); omega) (by have := Int.mul_pos (show (0 : Int) < k by omega) (show 0 < D by omega); omega)
    (l := intL (k * 12) (scaleP k ps)) (boxL_nodup _) fun z hz y hy e => by
      obtain ⟨v, h1, h2, h3⟩ := cls_vec (by omega) e
      by_cases h0 : v = (0, 0)
      · rw [h0] at h2 h3
        exact Prod.ext (by dsimp only at h2; omega) (by dsimp only at h3; omega)
      · have hno := adm_far hb hg hc h0 h1
        refine (no_common ha hno hk0 (z := z) (intL_mem hz) ?_).elim
        rw [show z.1 - k * v.1 = y.1 by omega, show z.2 - k * v.2 = y.2 by omega]
        exact intL_mem hy
  refine beat hr hk ?_
  have e : (k : Int) * k * (2 * (A * D)) = 2 * (k * A * (k * D)) := by grind
  rw [e]
  omega
theorem area_diff {ps ds : List Pt} {A B D : Int} (hb : blankB ps = true) (hg : gridB A B D = true) (hc : collL ps A B D = []) (hs : Sorted ps (flipP ps) ds) : areaZ (sumP ps (flipP ps) ds) ≤ 8 * (A * D) := by
  obtain ⟨hv, hin⟩ := blank_parts hb
  have ha := valid_around hv
  have hf := around_flip ha
  have hA := sum_around ha hf hs
  have hm : Merged ps (flipP ps) ds := ⟨ha.rolls, hf.rolls, hs⟩
  have hgi := gridB_iff.1 hg
  have hr : 0 ≤ ringZ (sumP ps (flipP ps) ds) := by have := hA.ring_len; have := hA.three; omega
  obtain ⟨k, hk⟩ : ∃ k : Nat, (k : Int) = ringZ (sumP ps (flipP ps) ds) + 1 := ⟨(ringZ (sumP ps (flipP ps) ds) + 1).toNat, by omega⟩
  have hk0 : 0 < k := by omega
  have hnr : nearR 2000 (sumP ps (flipP ps) ds) := sum_box hm (valid_near hv).1 (valid_near (valid_flip hv)).1
  have hp := intL_pick hk0 hA hnr
  have hl := cls_len (A := 2 * k * A) (B := 2 * k * B) (D := 2 * k * D) (by have := Int.mul_pos (show (0 : Int) < 2 * k by omega) (show 0 < A by omega); omega) (by have := Int.mul_pos (show (0 : Int) < 2 * k by omega) (show 0 < D by omega); omega)
    (l := intL (k * 2000) (scaleP k (sumP ps (flipP ps) ds))) (boxL_nodup _) fun z hz y hy e => by
      obtain ⟨v, h1, h2, h3⟩ := cls_vec (by omega) e
      by_cases h0 : v = (0, 0)
      · rw [h0] at h2 h3
        exact Prod.ext (by dsimp only at h2; omega) (by dsimp only at h3; omega)
      · have hno := adm_far hb hg hc h0 h1
        exact (no_half ha hs hno hk0 (intL_mem hz) (intL_mem hy) (by rw [h2]; grind) (by rw [h3]; grind)).elim
  refine beat hr hk ?_
  have e : (k : Int) * k * (8 * (A * D)) = 2 * (2 * k * A * (2 * k * D)) := by grind
  rw [e]
  omega
end Go.Proofs.Ytnpebfchojalcaa
