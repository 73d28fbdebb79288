import Derived.Test.YtbdppephmlkbaaaM18
import Derived.Test.YtbdppephmlkbaaaM17
import Derived.Test.YtbdppephmlkbaaaM24
import Derived.Test.YtbdppephmlkbaaaM12
import Derived.Test.YtbdppephmlkbaaaM7
namespace Go.Proofs.Ytbdppephmlkbaaa
/-- a polygon as the chapter says it: the first vertex is the lowest one, and all vertices are to the left of all edges -/
structure RefP (ps : List Pt) : Prop where
  three : 3 ≤ ps.length
  low : ∀ i, 0 < i → i < ps.length → lowP (fromP ps 0) (fromP ps i)
  left : ∀ i k, i < ps.length → k < ps.length → k ≠ i → k ≠ (i + 1) % ps.length → 0 < sideK ps (fromP ps k).1 (fromP ps k).2 i
theorem Around.refP {ps : List Pt} (h : Around ps) : RefP ps := ⟨h.three, fun _ h0 hj => h.lowest h0 hj, fun _ _ hi hk h1 h2 => h.strict_left hi hk h1 h2⟩
theorem side_prev {ps : List Pt} {i : Nat} (hi : i < ps.length) : sideK ps (toP ps i).1 (toP ps i).2 (prevI ps.length i) = crossP (stepP ps (prevI ps.length i)) (stepP ps i) := by
  have e := prev_to hi
  unfold sideK crossP crossZ
  rw [show (stepP ps i) = ((toP ps i).1 - (fromP ps i).1, (toP ps i).2 - (fromP ps i).2) from rfl]
  rw [show (stepP ps (prevI ps.length i)) = ((fromP ps i).1 - (fromP ps (prevI ps.length i)).1, (fromP ps i).2 - (fromP ps (prevI ps.length i)).2) by unfold stepP; rw [e]]
  simp only
  grind
theorem RefP.around {ps : List Pt} (h : RefP ps) : Around ps := by
  have h3 := h.three
  have turn : ∀ i, i < ps.length → 0 < crossP (stepP ps (prevI ps.length i)) (stepP ps i) := fun i hi => by
    rw [← side_prev hi, to_from]
    have hm : (i + 1) % ps.length < ps.length := Nat.mod_lt _ (by omega)
    have hp : prevI ps.length i < ps.length := by unfold prevI; split <;> omega
    refine h.left _ _ hp hm ?_ ?_
    · unfold prevI
      by_cases e : i + 1 < ps.length
      · rw [Nat.mod_eq_of_lt e]; split <;> omega
      · rw [show i + 1 = ps.length by omega, Nat.mod_self]; split <;> omega
    · have : (prevI ps.length i + 1) % ps.length = i := by
        unfold prevI
        split
        · subst_vars
          rw [show ps.length - 1 + 1 = ps.length by omega, Nat.mod_self]
        · rw [show i - 1 + 1 = i by omega, Nat.mod_eq_of_lt hi]
      rw [this]
      by_cases e : i + 1 < ps.length
      · rw [Nat.mod_eq_of_lt e]; omega
      · rw [show i + 1 = ps.length by omega, Nat.mod_self]; omega
  have ne0 : ∀ i, i < ps.length → stepP ps i ≠ (0, 0) := fun i hi e => by
    have := turn i hi
    rw [e] at this
    simp [crossP, crossZ] at this
  refine ⟨h3, turn, fun i hi hlt => ?_⟩
  have ht := turn (i + 1) hi
  have hpi : prevI ps.length (i + 1) = i := by unfold prevI; rw [if_neg (by omega)]; omega
  rw [hpi] at ht
  rcases hlt with ⟨h1, h2⟩ | ⟨_, h2⟩
  · -- the step i sinks, the next one does not
    have hlow := h.low (i + 1) (by omega) hi
    obtain ⟨v, hv⟩ : ∃ v : Pt, v = ((fromP ps 0).1 - (fromP ps (i + 1)).1, (fromP ps 0).2 - (fromP ps (i + 1)).2) := ⟨_, rfl⟩
    have hv0 : v ≠ (0, 0) := fun e => by
      rw [hv] at e
      injection e with e1 e2
      unfold lowP at hlow
      omega
    have hvs : sinksB v.1 v.2 = true := by
      rw [hv]
      unfold sinksB lowP at *
      simp only [Bool.or_eq_true, Bool.and_eq_true, decide_eq_true_iff]
      omega
    have eto : toP ps i = fromP ps (i + 1) := by rw [to_from, Nat.mod_eq_of_lt hi]
    have hb : 0 ≤ crossP (stepP ps (i + 1)) v := by
      have e : crossP (stepP ps (i + 1)) v = sideK ps (fromP ps 0).1 (fromP ps 0).2 (i + 1) := by rw [hv]; rfl
      rw [e]
      by_cases hc : 0 = (i + 1 + 1) % ps.length
      · have e2 : toP ps (i + 1) = fromP ps 0 := by rw [to_from, ← hc]
        unfold sideK stepP crossZ
        rw [e2]
        simp only
        grind
      · exact Int.le_of_lt (h.left (i + 1) 0 hi (by omega) (by omega) hc)
    have ha : 0 ≤ crossP (stepP ps i) v := by
      have e : crossP (stepP ps i) v = sideK ps (fromP ps 0).1 (fromP ps 0).2 i := by
        rw [hv]
        unfold crossP sideK stepP crossZ
        rw [eto]
        simp only
        grind
      rw [e]
      by_cases hc : 0 = i
      · subst hc
        unfold sideK crossZ
        grind
      · exact Int.le_of_lt (h.left i 0 (by omega) (by omega) hc (by rw [Nat.mod_eq_of_lt hi]; omega))
    exact low_out (ne0 _ hi) (ne0 _ (by omega)) hv0 h1 h2 hvs ht hb ha
  · -- both are on one side, but the turn is to the left
    unfold crossP crossZ at ht
    unfold crossZ at h2
    have e1 : (stepP ps (i + 1)).1 * (stepP ps i).2 = (stepP ps i).2 * (stepP ps (i + 1)).1 := Int.mul_comm _ _
    have e2 : (stepP ps (i + 1)).2 * (stepP ps i).1 = (stepP ps i).1 * (stepP ps (i + 1)).2 := Int.mul_comm _ _
    omega
end Go.Proofs.Ytbdppephmlkbaaa

namespace Go.Proofs.Ytbdppephmlkbaaa
variable {ps : List Pt}
/-! What the reference counts in a row: the points between the greatest lower and the least upper bound of the edges. -/
def loZ (s : Int) (ps : List Pt) (y : Int) : Nat → Int
  | 0 => -1000
  | k + 1 => if (stepP ps k).2 < 0 then max (loZ s ps y k) (-(restZ s ps k y / -(stepP ps k).2)) else loZ s ps y k
def hiZ (s : Int) (ps : List Pt) (y : Int) : Nat → Int
  | 0 => 1000
  | k + 1 => if 0 < (stepP ps k).2 then min (hiZ s ps y k) (restZ s ps k y / (stepP ps k).2) else hiZ s ps y k
/-- does the row lie on the right side of the edges that lie in rows? -/
def flatB (s : Int) (ps : List Pt) (y : Int) : Nat → Bool
  | 0 => true
  | k + 1 => flatB s ps y k && decide ((stepP ps k).2 = 0 → 0 ≤ restZ s ps k y)
theorem row_iv {s y x : Int} (hx : -1000 ≤ x ∧ x ≤ 1000) : ∀ k, (∀ j, j < k → s ≤ sideK ps x y j) ↔ (flatB s ps y k = true ∧ loZ s ps y k ≤ x ∧ x ≤ hiZ s ps y k) := by
  intro k
  induction k with
  | zero => simp [flatB, loZ, hiZ]; omega
  | succ k ih =>
    have step : (∀ j, j < k + 1 → s ≤ sideK ps x y j) ↔ ((∀ j, j < k → s ≤ sideK ps x y j) ∧ s ≤ sideK ps x y k) :=
      ⟨fun h => ⟨fun j hj => h j (by omega), h k (by omega)⟩, fun h j hj => by
        by_cases e : j = k
        · rw [e]; exact h.2
        · exact h.1 j (by omega)⟩
    rw [step, ih]
    simp only [flatB, loZ, hiZ, Bool.and_eq_true, decide_eq_true_iff]
    rcases Int.lt_trichotomy (stepP ps k).2 0 with hd | hd | hd
    · rw [if_pos hd, if_neg (by omega), side_dn hd]
      constructor
      · rintro ⟨⟨h1, h2, h3⟩, h4⟩
        exact ⟨⟨h1, fun e => by omega⟩, by omega, h3⟩
      · rintro ⟨⟨h1, _⟩, h2, h3⟩
        exact ⟨⟨h1, by omega, h3⟩, by omega⟩
    · have hr := side_rest ps k x y s
      rw [hd, Int.zero_mul] at hr
      rw [if_neg (by omega), if_neg (by omega)]
      constructor
      · rintro ⟨⟨h1, h2, h3⟩, h4⟩
        exact ⟨⟨h1, fun _ => by omega⟩, h2, h3⟩
      · rintro ⟨⟨h1, h5⟩, h2, h3⟩
        exact ⟨⟨h1, h2, h3⟩, by have := h5 hd; omega⟩
    · rw [if_neg (by omega), if_pos hd, side_up hd]
      constructor
      · rintro ⟨⟨h1, h2, h3⟩, h4⟩
        exact ⟨⟨h1, fun e => by omega⟩, h2, by omega⟩
      · rintro ⟨⟨h1, _⟩, h2, h3⟩
        exact ⟨⟨h1, h2, by omega⟩, by omega⟩
theorem lo_ge (s : Int) (ps : List Pt) (y : Int) : ∀ k, -1000 ≤ loZ s ps y k := by
  intro k
  induction k with
  | zero => simp [loZ]
  | succ k ih => simp only [loZ]; split <;> omega
theorem hi_le' (s : Int) (ps : List Pt) (y : Int) : ∀ k, hiZ s ps y k ≤ 1000 := by
  intro k
  induction k with
  | zero => simp [hiZ]
  | succ k ih => simp only [hiZ]; split <;> omega
/-- the number of points of a row -/
def rowV (s : Int) (ps : List Pt) (y : Int) : Int := if flatB s ps y ps.length = true then max 0 (hiZ s ps y ps.length - loZ s ps y ps.length + 1) else 0
theorem rowN_eq (s : Int) (ps : List Pt) (y : Int) : rowN s ps y = rowV s ps y := by
  have hl := lo_ge s ps y ps.length
  have hh := hi_le' s ps y ps.length
  have key : ∀ i : Nat, i < 2001 → (inP s ps ((i : Int) - 1000) y ↔ (flatB s ps y ps.length = true ∧ loZ s ps y ps.length ≤ (i : Int) - 1000 ∧ (i : Int) - 1000 ≤ hiZ s ps y ps.length)) := fun i hi => row_iv (by omega) ps.length
  unfold rowN rowV
  by_cases hf : flatB s ps y ps.length = true
  · rw [if_pos hf]
    rw [sumTo_congr (g := fun i => if (fun x : Int => loZ s ps y ps.length ≤ x ∧ x ≤ hiZ s ps y ps.length) ((i : Int) - 1000) then 1 else 0) 2001 fun i hi => by
      have k := key i hi
      by_cases h : inP s ps ((i : Int) - 1000) y
      · rw [if_pos h, if_pos (k.1 h).2]
      · rw [if_neg h, if_neg (fun h2 => h (k.2 ⟨hf, h2⟩))]]
    by_cases hlh : loZ s ps y ps.length ≤ hiZ s ps y ps.length + 1
    · rw [count_iv (P := fun x : Int => loZ s ps y ps.length ≤ x ∧ x ≤ hiZ s ps y ps.length) (fun x => Iff.rfl) hl hh hlh]
      omega
    · rw [sumTo_congr (g := fun _ => 0) 2001 fun i _ => if_neg (fun h => by simp only at h; omega), sumTo_zero]
      omega
  · rw [if_neg hf]
    rw [sumTo_congr (g := fun _ => 0) 2001 fun i hi => if_neg (fun h => hf ((key i hi).1 h).1), sumTo_zero]
end Go.Proofs.Ytbdppephmlkbaaa

namespace Go.Proofs.Ytbdppephmlkbaaa
/-! The reference's sums, places, extremes and counts are the code's. -/
theorem fan_tri {ps : List Pt} {k : Nat} (hk : k + 1 < ps.length) : fanK ps k = triP (fromP ps 0) (fromP ps k) (fromP ps (k + 1)) := by
  have e : toP ps k = fromP ps (k + 1) := by rw [to_from, Nat.mod_eq_of_lt hk]
  unfold fanK sideK crossZ triP stepP
  rw [e]
  simp only
  grind
/-- the area of the fan's first triangles -/
def rA (ps : List Pt) : Nat → Int
  | 0 => 0
  | k + 1 => rA ps k + triP (fromP ps 0) (fromP ps (k + 1)) (fromP ps (k + 2))
theorem rA_sum {ps : List Pt} : ∀ k, k + 2 ≤ ps.length → rA ps k = sumTo (fun k => fanK ps (k + 1)) k := by
  intro k
  induction k with
  | zero => intro _; rfl
  | succ k ih =>
    intro hk
    simp only [rA, sumTo]
    rw [ih (by omega), fan_tri (by omega)]
theorem rA_area {ps : List Pt} (h3 : 3 ≤ ps.length) : rA ps (ps.length - 2) = areaZ ps := by
  obtain ⟨m, hm⟩ : ∃ m, ps.length = m + 3 := ⟨ps.length - 3, by omega⟩
  have h0 : fanK ps 0 = 0 := by unfold fanK sideK crossZ; grind
  have hl : fanK ps (m + 2) = 0 := by
    have e : toP ps (m + 2) = fromP ps 0 := by rw [to_from, hm, show m + 2 + 1 = m + 3 by omega, Nat.mod_self]
    unfold fanK sideK crossZ stepP
    rw [e]
    simp only
    grind
  rw [rA_sum _ (by omega), ← fan_area ps, hm, sumTo_first, h0, show m + 3 - 2 = m + 1 by omega]
  show _ = 0 + (sumTo (fun k => fanK ps (k + 1)) (m + 1) + fanK ps (m + 1 + 1))
  rw [show m + 1 + 1 = m + 2 by omega, hl]
  omega
theorem place_now {ps : List Pt} {x y : Int} {k : Nat} (h : ∀ j, j < k → 0 ≤ sideK ps x y j) : placeK ps x y k = if (∀ j, j < k → sideK ps x y j ≠ 0) then 1 else 0 := by
  induction k with
  | zero => simp [placeK]
  | succ k ih =>
    have hk := h k (by omega)
    have ihk := ih fun j hj => h j (by omega)
    by_cases hz : sideK ps x y k = 0
    · have hs : sgnZ (sideK ps x y k) 0 = 0 := by unfold sgnZ; rw [hz]; rfl
      have hr : ¬ ∀ j, j < k + 1 → sideK ps x y j ≠ 0 := fun h2 => h2 k (by omega) hz
      rw [if_neg hr]
      simp only [placeK, ihk, hs]
      split <;> omega
    · have hs : sgnZ (sideK ps x y k) 0 = 1 := by
        unfold sgnZ
        rw [if_neg (show ¬ sideK ps x y k < 0 by omega), if_pos (show 0 < sideK ps x y k by omega)]
      simp only [placeK, ihk, hs]
      by_cases ha : ∀ j, j < k → sideK ps x y j ≠ 0
      · have hr : ∀ j, j < k + 1 → sideK ps x y j ≠ 0 := fun j hj => by
          by_cases e : j = k
          · rw [e]; exact hz
          · exact ha j (by omega)
        rw [if_pos ha, if_pos hr]
        omega
      · have hr : ¬ ∀ j, j < k + 1 → sideK ps x y j ≠ 0 := fun h2 => ha fun j hj => h2 j (by omega)
        rw [if_neg ha, if_neg hr]
        omega
theorem place_out {ps : List Pt} {x y : Int} {k : Nat} (hk : k < ps.length) (h : sideK ps x y k < 0) : placeZ ps x y = -1 := by
  have h1 := (placeK_neg ps x y ps.length).2 ⟨k, hk, h⟩
  have h2 := placeK_bd ps x y ps.length
  unfold placeZ
  omega
theorem ext_one (ps : List Pt) (d : Pt) : extK ps d 1 = (dotP d (fromP ps 0), 0) := by
  show (if (extK ps d 0).1 < dotP d (fromP ps 0) then (dotP d (fromP ps 0), 0) else extK ps d 0) = _
  exact if_neg (fun h => Int.lt_irrefl _ h)
theorem ext_next (ps : List Pt) (d : Pt) (k : Nat) : extK ps d (k + 1) = if (extK ps d k).1 < dotP d (fromP ps k) then (dotP d (fromP ps k), k) else extK ps d k := rfl
/-- what the reference counts -/
def cntK (s : Int) (ps : List Pt) (k : Nat) : Int := sumTo (fun i => rowV s ps ((i : Int) - 1000)) k
theorem cnt_all (s : Int) (ps : List Pt) : cntK s ps 2001 = allN s ps := sumTo_congr 2001 fun i _ => (rowN_eq s ps _).symm
theorem cnt_pick {ps : List Pt} (h : Around ps) (hn : nearP ps) : cntK 1 ps 2001 = (areaZ ps - ringZ ps + 2).tdiv 2 ∧ cntK 0 ps 2001 - cntK 1 ps 2001 = ringZ ps := by
  obtain ⟨h1, h2⟩ := pick_all h hn
  rw [cnt_all, cnt_all]
  refine ⟨?_, by omega⟩
  rw [← h2, Int.mul_comm, Int.mul_tdiv_cancel _ (by decide)]
theorem rowV_bd (s : Int) (ps : List Pt) (y : Int) : 0 ≤ rowV s ps y ∧ rowV s ps y ≤ 2001 := by
  have := lo_ge s ps y ps.length
  have := hi_le' s ps y ps.length
  unfold rowV
  split <;> omega
theorem cntK_bd (s : Int) (ps : List Pt) : ∀ k : Nat, 0 ≤ cntK s ps k ∧ cntK s ps k ≤ 2001 * k := by
  intro k
  induction k with
  | zero => simp [cntK, sumTo]
  | succ k ih =>
    have := rowV_bd s ps ((k : Int) - 1000)
    have e : cntK s ps (k + 1) = cntK s ps k + rowV s ps ((k : Int) - 1000) := rfl
    rw [e, Int.natCast_add, Int.mul_add]
    omega
end Go.Proofs.Ytbdppephmlkbaaa

namespace Go.Proofs.Ytbdppephmlkbaaa
/-! Wrapping: the next point of the reference is the next vertex of the hull. -/
/-- the square of a distance -/
def farZ (a b : Pt) : Int := (a.1 - b.1) * (a.1 - b.1) + (a.2 - b.2) * (a.2 - b.2)
/-- one step of the search for the next point -/
def stepN (at_ n q : Pt) : Pt := if q = at_ then n else if n = at_ ∨ triP at_ n q < 0 ∨ (triP at_ n q = 0 ∧ farZ at_ n < farZ at_ q) then q else n
def nextK (l : List Pt) (at_ : Pt) : Nat → Pt
  | 0 => at_
  | i + 1 => stepN at_ (nextK l at_ i) (fromP l i)
theorem tri_swap3 (a b z : Pt) : triP a z b = -triP a b z := by unfold triP; grind
theorem from_in {l : List Pt} {i : Nat} (h : i < l.length) : fromP l i ∈ l := by
  unfold fromP
  rw [List.getD_eq_getElem?_getD, List.getElem?_eq_getElem h]
  exact List.getElem_mem h
theorem in_from {l : List Pt} {z : Pt} (h : z ∈ l) : ∃ i, i < l.length ∧ fromP l i = z := by
  obtain ⟨i, hi, e⟩ := List.getElem_of_mem h
  refine ⟨i, hi, ?_⟩
  unfold fromP
  rw [List.getD_eq_getElem?_getD, List.getElem?_eq_getElem hi]
  exact e
theorem next_mem {l : List Pt} {a : Pt} : ∀ i, i ≤ l.length → nextK l a i = a ∨ (nextK l a i ∈ l ∧ nextK l a i ≠ a) := by
  intro i
  induction i with
  | zero => intro _; exact .inl rfl
  | succ i ih =>
    intro hi
    have ih := ih (by omega)
    show stepN a (nextK l a i) (fromP l i) = a ∨ (stepN a (nextK l a i) (fromP l i) ∈ l ∧ stepN a (nextK l a i) (fromP l i) ≠ a)
    unfold stepN
    by_cases hq : fromP l i = a
    · rw [if_pos hq]; exact ih
    · rw [if_neg hq]
      split
      · exact .inr ⟨from_in (by omega), hq⟩
      · exact ih
/-- a point that has all others on its left, and those on its line nearer, is the next one -/
theorem next_is {l : List Pt} {a T : Pt} (hT : T ∈ l) (hne : T ≠ a) (h : ∀ z, z ∈ l → z ≠ a → 0 ≤ triP a T z ∧ (triP a T z = 0 → farZ a z ≤ farZ a T ∧ (farZ a z = farZ a T → z = T))) : nextK l a l.length = T := by
  obtain ⟨m, hm, e⟩ := in_from hT
  have key : ∀ j, m + 1 + j ≤ l.length → nextK l a (m + 1 + j) = T := by
    intro j
    induction j with
    | zero =>
      intro _
      show stepN a (nextK l a m) (fromP l m) = T
      unfold stepN
      rw [e, if_neg hne]
      split
      · rfl
      · rename_i hc
        rcases next_mem (l := l) (a := a) m (by omega) with h1 | ⟨h1, h2⟩
        · exact absurd (.inl h1) hc
        · obtain ⟨h3, h4⟩ := h _ h1 h2
          rw [tri_swap3] at hc
          have h5 : triP a T (nextK l a m) = 0 := by
            rcases Int.lt_or_eq_of_le h3 with h6 | h6
            · exact absurd (.inr (.inl (by omega))) hc
            · exact h6.symm
          obtain ⟨h6, h7⟩ := h4 h5
          have h8 : ¬ farZ a (nextK l a m) < farZ a T := fun h9 => hc (.inr (.inr ⟨by omega, h9⟩))
          exact h7 (by omega)
    | succ j ih =>
      intro hj
      show stepN a (nextK l a (m + 1 + j)) (fromP l (m + 1 + j)) = T
      rw [ih (by omega)]
      unfold stepN
      by_cases hq : fromP l (m + 1 + j) = a
      · rw [if_pos hq]
      · rw [if_neg hq, if_neg]
        rintro (h1 | h1 | ⟨h1, h2⟩)
        · exact hne h1
        · have := (h _ (from_in (by omega)) hq).1; omega
        · have := ((h _ (from_in (by omega)) hq).2 h1).1; omega
  have := key (l.length - (m + 1)) (by omega)
  rwa [show m + 1 + (l.length - (m + 1)) = l.length by omega] at this
/-- on a line, at between 0 and the whole -/
theorem on_line {d1 d2 e1 e2 D m : Int} (hD : D = d1 * d1 + d2 * d2) (hm : m = d1 * e1 + d2 * e2) (hc : d1 * e2 - d2 * e1 = 0) : D * e1 = m * d1 ∧ D * e2 = m * d2 ∧ D * (e1 * e1 + e2 * e2) = m * m := by
  refine ⟨by grind, by grind, by grind⟩
theorem sq_nonneg (x : Int) : 0 ≤ x * x := by
  rcases Int.le_total 0 x with h | h
  · exact Int.mul_nonneg h h
  · exact Int.mul_nonneg_of_nonpos_of_nonpos h h
theorem norm_pos {d1 d2 : Int} (h : ¬ (d1 = 0 ∧ d2 = 0)) : 0 < d1 * d1 + d2 * d2 := by
  have h1 := sq_nonneg d1
  have h2 := sq_nonneg d2
  rcases Int.lt_or_eq_of_le h1 with h3 | h3
  · omega
  · rcases Int.lt_or_eq_of_le h2 with h4 | h4
    · omega
    · exfalso
      refine h ⟨?_, ?_⟩
      · rcases Int.mul_eq_zero.1 h3.symm with h | h <;> exact h
      · rcases Int.mul_eq_zero.1 h4.symm with h | h <;> exact h
/-- a point of a hull's edge is no farther than its end -/
theorem edge_far {a T z : Pt} {p1 p2 q1 q2 : Int} (hne : T ≠ a) (hz : triP a T z = 0)
    (hp : 0 < p1 * (T.2 - a.2) - p2 * (T.1 - a.1)) (hpz : 0 ≤ p1 * (z.2 - a.2) - p2 * (z.1 - a.1))
    (hq : 0 < (T.1 - a.1) * q2 - (T.2 - a.2) * q1) (hqz : 0 ≤ q1 * (z.2 - T.2) - q2 * (z.1 - T.1)) : farZ a z ≤ farZ a T ∧ (farZ a z = farZ a T → z = T) := by
  obtain ⟨d1, hd1⟩ : ∃ d, d = T.1 - a.1 := ⟨_, rfl⟩
  obtain ⟨d2, hd2⟩ : ∃ d, d = T.2 - a.2 := ⟨_, rfl⟩
  obtain ⟨e1, he1⟩ : ∃ d, d = z.1 - a.1 := ⟨_, rfl⟩
  obtain ⟨e2, he2⟩ : ∃ d, d = z.2 - a.2 := ⟨_, rfl⟩
  have hfz : farZ a z = e1 * e1 + e2 * e2 := by unfold farZ; rw [he1, he2]; grind
  have hfT : farZ a T = d1 * d1 + d2 * d2 := by unfold farZ; rw [hd1, hd2]; grind
  have hc : d1 * e2 - d2 * e1 = 0 := by unfold triP at hz; rw [hd1, hd2, he1, he2]; exact hz
  have hq2 : 0 ≤ q1 * (e2 - d2) - q2 * (e1 - d1) := by rw [he1, he2, hd1, hd2]; grind
  rw [← hd1, ← hd2] at hp hq
  rw [← he1, ← he2] at hpz
  have hnd : ¬ (d1 = 0 ∧ d2 = 0) := fun h => hne (Prod.ext (by omega) (by omega))
  obtain ⟨D, hD⟩ : ∃ D, D = d1 * d1 + d2 * d2 := ⟨_, rfl⟩
  obtain ⟨m, hm⟩ : ∃ m, m = d1 * e1 + d2 * e2 := ⟨_, rfl⟩
  have hDp : 0 < D := by rw [hD]; exact norm_pos hnd
  obtain ⟨l1, l2, l3⟩ := on_line hD hm hc
  rw [hfz, hfT, ← hD]
  obtain ⟨E, hE⟩ : ∃ E, E = e1 * e1 + e2 * e2 := ⟨_, rfl⟩
  rw [← hE] at l3 ⊢
  have hm0 : 0 ≤ m := by
    have k : D * (p1 * e2 - p2 * e1) = m * (p1 * d2 - p2 * d1) := by grind
    have k1 : 0 ≤ m * (p1 * d2 - p2 * d1) := by rw [← k]; exact Int.mul_nonneg (by omega) hpz
    rcases Int.lt_or_le m 0 with h | h
    · have := Int.mul_neg_of_neg_of_pos h hp; omega
    · exact h
  have hmD : m ≤ D := by
    have k : D * (q1 * (e2 - d2) - q2 * (e1 - d1)) = (D - m) * (d1 * q2 - d2 * q1) := by grind
    have k1 : 0 ≤ (D - m) * (d1 * q2 - d2 * q1) := by rw [← k]; exact Int.mul_nonneg (by omega) hq2
    rcases Int.lt_or_le (D - m) 0 with h | h
    · have := Int.mul_neg_of_neg_of_pos h hq; omega
    · omega
  have h1 : D * E ≤ D * D := by
    rw [l3]
    exact Int.mul_le_mul hmD hmD hm0 (by omega)
  refine ⟨Int.le_of_mul_le_mul_left h1 hDp, fun e => ?_⟩
  rw [e] at l3
  have hmm : m = D := by
    rcases Int.lt_or_eq_of_le hmD with h | h
    · have h2 : m * m < D * D := by
        have h3 : m * m ≤ m * D := Int.mul_le_mul_of_nonneg_left hmD hm0
        have h4 : m * D < D * D := Int.mul_lt_mul_of_pos_right h hDp
        omega
      omega
    · exact h
  rw [hmm] at l1 l2
  have x1 := Int.eq_of_mul_eq_mul_left (by omega : D ≠ 0) l1
  have x2 := Int.eq_of_mul_eq_mul_left (by omega : D ≠ 0) l2
  exact Prod.ext (by omega) (by omega)
/-- the points of a line: none farther, and the lowest -/
structure FarI (l : List Pt) (a : Pt) (i : Nat) (n : Pt) : Prop where
  all : n = a → ∀ j, j < i → fromP l j = a
  most : n ≠ a → ∀ j, j < i → farZ a (fromP l j) ≤ farZ a n
theorem farZ_self (a : Pt) : farZ a a = 0 := by unfold farZ; simp
theorem farZ_nn (a z : Pt) : 0 ≤ farZ a z := by
  have h1 := sq_nonneg (a.1 - z.1)
  have h2 := sq_nonneg (a.2 - z.2)
  unfold farZ
  omega
/-- where all lie on a line, the next one is the farthest one -/
theorem next_far {l : List Pt} {a : Pt} (ha : a ∈ l) (hf : ∀ x y z, x ∈ l → y ∈ l → z ∈ l → triP x y z = 0) : ∀ i, i ≤ l.length → FarI l a i (nextK l a i) := by
  intro i
  induction i with
  | zero => intro _; exact ⟨fun _ j hj => by omega, fun h => absurd rfl h⟩
  | succ i ih =>
    intro hi
    have ih := ih (by omega)
    have hm := next_mem (l := l) (a := a) i (by omega)
    show FarI l a (i + 1) (stepN a (nextK l a i) (fromP l i))
    unfold stepN
    by_cases hq : fromP l i = a
    · rw [if_pos hq]
      refine ⟨fun h j hj => ?_, fun h j hj => ?_⟩
      · by_cases e : j = i
        · rw [e]; exact hq
        · exact ih.all h j (by omega)
      · by_cases e : j = i
        · rw [e, hq, farZ_self]; exact farZ_nn _ _
        · exact ih.most h j (by omega)
    · rw [if_neg hq]
      split
      · rename_i hc
        refine ⟨fun h => absurd h hq, fun _ j hj => ?_⟩
        by_cases e : j = i
        · rw [e]; exact Int.le_refl _
        · rcases hc with h | h | ⟨_, h⟩
          · rw [ih.all h j (by omega), farZ_self]; exact farZ_nn _ _
          · rcases hm with h1 | ⟨h1, _⟩
            · rw [ih.all h1 j (by omega), farZ_self]; exact farZ_nn _ _
            · rw [hf _ _ _ ha h1 (from_in (by omega))] at h; omega
          · rcases hm with h1 | ⟨_, h2⟩
            · rw [ih.all h1 j (by omega), farZ_self]; exact farZ_nn _ _
            · have := ih.most h2 j (by omega); omega
      · rename_i hc
        have h1 : nextK l a i ≠ a := fun h => hc (.inl h)
        refine ⟨fun h => absurd h h1, fun _ j hj => ?_⟩
        by_cases e : j = i
        · rw [e]
          rcases hm with h2 | ⟨h2, _⟩
          · exact absurd h2 h1
          · have h3 := hf _ _ _ ha h2 (from_in (l := l) (i := i) (by omega))
            rcases Int.lt_or_le (farZ a (nextK l a i)) (farZ a (fromP l i)) with h4 | h4
            · exact absurd (.inr (.inr ⟨h3, h4⟩)) hc
            · exact h4
        · exact ih.most h1 j (by omega)
theorem next_most {l : List Pt} {a : Pt} (ha : a ∈ l) (hf : ∀ x y z, x ∈ l → y ∈ l → z ∈ l → triP x y z = 0) : (nextK l a l.length = a ∧ ∀ z, z ∈ l → z = a) ∨ (nextK l a l.length ∈ l ∧ nextK l a l.length ≠ a ∧ ∀ z, z ∈ l → farZ a z ≤ farZ a (nextK l a l.length)) := by
  have h := next_far ha hf l.length (Nat.le_refl _)
  by_cases e : nextK l a l.length = a
  · refine .inl ⟨e, fun z hz => ?_⟩
    obtain ⟨j, hj, rfl⟩ := in_from hz
    exact h.all e j hj
  · refine .inr ⟨?_, e, fun z hz => ?_⟩
    · rcases next_mem (l := l) (a := a) l.length (Nat.le_refl _) with h1 | ⟨h1, _⟩
      · exact absurd h1 e
      · exact h1
    · obtain ⟨j, hj, rfl⟩ := in_from hz
      exact h.most e j hj
/-- seen from the farthest point, the lowest one is the farthest -/
theorem back_far {a F z : Pt} (hF : F ≠ a) (haF : leP a F) (haz : leP a z) (hz : triP a F z = 0) (hfz : farZ a z ≤ farZ a F) : farZ F z ≤ farZ F a ∧ (farZ F z = farZ F a → z = a) := by
  obtain ⟨d1, hd1⟩ : ∃ d, d = F.1 - a.1 := ⟨_, rfl⟩
  obtain ⟨d2, hd2⟩ : ∃ d, d = F.2 - a.2 := ⟨_, rfl⟩
  obtain ⟨e1, he1⟩ : ∃ d, d = z.1 - a.1 := ⟨_, rfl⟩
  obtain ⟨e2, he2⟩ : ∃ d, d = z.2 - a.2 := ⟨_, rfl⟩
  have hfz2 : farZ a z = e1 * e1 + e2 * e2 := by unfold farZ; rw [he1, he2]; grind
  have hfF : farZ a F = d1 * d1 + d2 * d2 := by unfold farZ; rw [hd1, hd2]; grind
  have hFz : farZ F z = (d1 - e1) * (d1 - e1) + (d2 - e2) * (d2 - e2) := by unfold farZ; rw [hd1, hd2, he1, he2]; grind
  have hFa : farZ F a = d1 * d1 + d2 * d2 := by unfold farZ; rw [hd1, hd2]
  have hc : d1 * e2 - d2 * e1 = 0 := by unfold triP at hz; rw [hd1, hd2, he1, he2]; exact hz
  have hnd : ¬ (d1 = 0 ∧ d2 = 0) := fun h => hF (Prod.ext (by omega) (by omega))
  obtain ⟨D, hD⟩ : ∃ D, D = d1 * d1 + d2 * d2 := ⟨_, rfl⟩
  obtain ⟨m, hm⟩ : ∃ m, m = d1 * e1 + d2 * e2 := ⟨_, rfl⟩
  have hDp : 0 < D := by rw [hD]; exact norm_pos hnd
  obtain ⟨l1, l2, l3⟩ := on_line hD hm hc
  obtain ⟨E, hE⟩ : ∃ E, E = e1 * e1 + e2 * e2 := ⟨_, rfl⟩
  rw [hfz2, hfF, ← hD, ← hE] at hfz
  rw [← hE] at l3
  have up1 : 0 < d2 ∨ (d2 = 0 ∧ 0 < d1) := by unfold leP lowP at haF; omega
  have up2 : 0 < e2 ∨ (e2 = 0 ∧ 0 ≤ e1) := by unfold leP lowP at haz; omega
  have hm0 : 0 ≤ m := by
    rcases Int.lt_or_le m 0 with h | h
    · exfalso
      have k1 := l1
      have k2 := l2
      rcases up1 with h1 | ⟨h1, h2⟩
      · have := Int.mul_neg_of_neg_of_pos h h1
        rcases up2 with h3 | ⟨h3, h4⟩
        · have := Int.mul_pos hDp h3; omega
        · rw [h3] at k2; simp at k2; omega
      · have h5 : e2 = 0 := by rcases Int.mul_eq_zero.1 (show D * e2 = 0 by rw [l2, h1]; simp) with h | h <;> omega
        have := Int.mul_neg_of_neg_of_pos h h2
        have := Int.mul_nonneg (show 0 ≤ D by omega) (show 0 ≤ e1 by omega)
        omega
    · exact h
  have hmD : m ≤ D := by
    rcases Int.lt_or_le D m with h | h
    · exfalso
      have h1 : D * E ≤ D * D := Int.mul_le_mul_of_nonneg_left hfz (by omega)
      have h2 : D * D < m * m := by
        have h3 : D * D < D * m := Int.mul_lt_mul_of_pos_left h hDp
        have h4 : D * m ≤ m * m := Int.mul_le_mul_of_nonneg_right (by omega) hm0
        omega
      omega
    · exact h
  have key : D * ((d1 - e1) * (d1 - e1) + (d2 - e2) * (d2 - e2)) = (D - m) * (D - m) := by grind
  obtain ⟨G, hG⟩ : ∃ G, G = (d1 - e1) * (d1 - e1) + (d2 - e2) * (d2 - e2) := ⟨_, rfl⟩
  rw [hFz, hFa, ← hD, ← hG]
  rw [← hG] at key
  have h1 : D * G ≤ D * D := by
    rw [key]
    exact Int.mul_le_mul (by omega) (by omega) (by omega) (by omega)
  refine ⟨Int.le_of_mul_le_mul_left h1 hDp, fun e => ?_⟩
  rw [e] at key
  have hmm : m = 0 := by
    rcases Int.lt_or_eq_of_le hm0 with h | h
    · exfalso
      have h2 : (D - m) * (D - m) < D * D := by
        have h3 : (D - m) * (D - m) ≤ (D - m) * D := Int.mul_le_mul_of_nonneg_left (by omega) (by omega)
        have h4 : (D - m) * D < D * D := Int.mul_lt_mul_of_pos_right (by omega) hDp
        omega
      omega
    · exact h.symm
  rw [hmm] at l1 l2
  have x1 : e1 = 0 := by rcases Int.mul_eq_zero.1 (show D * e1 = 0 by rw [l1]; simp) with h | h <;> omega
  have x2 : e2 = 0 := by rcases Int.mul_eq_zero.1 (show D * e2 = 0 by rw [l2]; simp) with h | h <;> omega
  exact Prod.ext (by omega) (by omega)
/-- and from there the next one is the lowest again -/
theorem next_back {l : List Pt} {a : Pt} (ha : a ∈ l) (hlow : ∀ z, z ∈ l → leP a z) (hf : ∀ x y z, x ∈ l → y ∈ l → z ∈ l → triP x y z = 0) (hne : nextK l a l.length ≠ a) : nextK l (nextK l a l.length) l.length = a := by
  rcases next_most ha hf with ⟨h, _⟩ | ⟨hF, hFa, hmost⟩
  · exact absurd h hne
  · obtain ⟨F, hFe⟩ : ∃ F, F = nextK l a l.length := ⟨_, rfl⟩
    rw [← hFe] at hF hFa hmost hne ⊢
    rcases next_most hF hf with ⟨_, h⟩ | ⟨hG, _, hG2⟩
    · exact absurd (h a ha).symm hne
    · have h1 := back_far hne (hlow F hF) (hlow _ hG) (hf _ _ _ ha hF hG) (hmost _ hG)
      exact h1.2 (Int.le_antisymm h1.1 (hG2 a ha))
end Go.Proofs.Ytbdppephmlkbaaa

namespace Go.Proofs.Ytbdppephmlkbaaa
theorem hull_lowest {hs : List Pt} (h : Around hs) {z : Pt} (hz : ∀ i, i < hs.length → 0 ≤ triP (fromP hs i) (toP hs i) z) : leP (fromP hs 0) z := by
  obtain ⟨u, t⟩ := h.tall
  exact t.low_row h (x := z.1) (y := z.2) fun k hk => by rw [← tri_side]; exact hz k hk
/-! Wrapping goes around the hull, or along the line and back. -/
theorem step_ne {hs : List Pt} (h : Around hs) {i : Nat} (hi : i < hs.length) : toP hs i ≠ fromP hs i := fun e => by
  refine h.ne0 hi ?_
  unfold stepP
  rw [e]
  simp
theorem hull_next {l hs : List Pt} (h : Around hs) (mem : ∀ i, i < hs.length → fromP hs i ∈ l) (sup : ∀ i, i < hs.length → ∀ z, z ∈ l → 0 ≤ triP (fromP hs i) (toP hs i) z) {i : Nat} (hi : i < hs.length) : nextK l (fromP hs i) l.length = toP hs i := by
  have h3 := h.three
  have hj : (i + 1) % hs.length < hs.length := Nat.mod_lt _ (by omega)
  have hT : toP hs i = fromP hs ((i + 1) % hs.length) := to_from
  have hpi : prevI hs.length i < hs.length := by unfold prevI; split <;> omega
  have hpj : prevI hs.length ((i + 1) % hs.length) = i := by
    unfold prevI
    by_cases e : i + 1 < hs.length
    · rw [Nat.mod_eq_of_lt e, if_neg (by omega)]; omega
    · rw [show i + 1 = hs.length by omega, Nat.mod_self, if_pos rfl]; omega
  refine next_is (by rw [hT]; exact mem _ hj) (step_ne h hi) fun z hz hne => ⟨sup i hi z hz, fun h0 => ?_⟩
  have t1 := h.turn i hi
  have t2 := h.turn _ hj
  rw [hpj] at t2
  have s1 := sup _ hpi z hz
  have s2 := sup _ hj z hz
  have ep : toP hs (prevI hs.length i) = fromP hs i := prev_to hi
  rw [ep] at s1
  have e1 : stepP hs i = ((toP hs i).1 - (fromP hs i).1, (toP hs i).2 - (fromP hs i).2) := rfl
  have e2 : stepP hs (prevI hs.length i) = ((fromP hs i).1 - (fromP hs (prevI hs.length i)).1, (fromP hs i).2 - (fromP hs (prevI hs.length i)).2) := by unfold stepP; rw [ep]
  refine edge_far (p1 := (stepP hs (prevI hs.length i)).1) (p2 := (stepP hs (prevI hs.length i)).2) (q1 := (stepP hs ((i + 1) % hs.length)).1) (q2 := (stepP hs ((i + 1) % hs.length)).2) (step_ne h hi) h0 ?_ ?_ ?_ ?_
  · unfold crossP crossZ at t1; rw [e1] at t1; exact t1
  · unfold triP at s1
    rw [e2]
    simp only
    grind
  · unfold crossP crossZ at t2; rw [e1] at t2; exact t2
  · have e3 : stepP hs ((i + 1) % hs.length) = ((toP hs ((i + 1) % hs.length)).1 - (toP hs i).1, (toP hs ((i + 1) % hs.length)).2 - (toP hs i).2) := by unfold stepP; rw [← hT]
    rw [← hT] at s2
    unfold triP at s2
    rw [e3]
    simp only
    grind
/-- the lowest of the first points -/
def lowK (l : List Pt) : Nat → Pt
  | 0 => fromP l 0
  | i + 1 => if (fromP l (i + 1)).2 < (lowK l i).2 ∨ ((fromP l (i + 1)).2 = (lowK l i).2 ∧ (fromP l (i + 1)).1 < (lowK l i).1) then fromP l (i + 1) else lowK l i
theorem low_least {l : List Pt} : ∀ i, i < l.length → lowK l i ∈ l ∧ ∀ j, j ≤ i → leP (lowK l i) (fromP l j) := by
  intro i
  induction i with
  | zero => intro h; exact ⟨from_in h, fun j hj => by rw [show j = 0 by omega]; exact leP_refl _⟩
  | succ i ih =>
    intro h
    obtain ⟨h1, h2⟩ := ih (by omega)
    simp only [lowK]
    split
    · rename_i hc
      refine ⟨from_in h, fun j hj => ?_⟩
      by_cases e : j = i + 1
      · rw [e]; exact leP_refl _
      · exact leP_trans (leP_of hc) (h2 j (by omega))
    · rename_i hc
      refine ⟨h1, fun j hj => ?_⟩
      by_cases e : j = i + 1
      · rw [e]; exact hc
      · exact h2 j (by omega)
theorem low_all {l : List Pt} (h : 1 ≤ l.length) : lowK l (l.length - 1) ∈ l ∧ ∀ z, z ∈ l → leP (lowK l (l.length - 1)) z := by
  obtain ⟨h1, h2⟩ := low_least (l := l) (l.length - 1) (by omega)
  refine ⟨h1, fun z hz => ?_⟩
  obtain ⟨j, hj, rfl⟩ := in_from hz
  exact h2 j (by omega)
/-- the points of the wrapping, one after another -/
def wrapK (l : List Pt) (a : Pt) : Nat → Pt
  | 0 => a
  | k + 1 => nextK l (wrapK l a k) l.length
/-- where the wrapping ends -/
structure WrapEnd (l : List Pt) (a : Pt) (K : Nat) : Prop where
  pos : 1 ≤ K
  max : K ≤ l.length + 1
  on : ∀ k, 1 ≤ k → k < K → wrapK l a k ≠ a ∧ wrapK l a k ≠ wrapK l a (k - 1)
  stop : K = l.length + 1 ∨ wrapK l a K = a ∨ wrapK l a K = wrapK l a (K - 1)
def wrapL (l : List Pt) (a : Pt) (K : Nat) : List Pt := (List.range K).map (wrapK l a)
theorem hull_inj {hs : List Pt} (h : Around hs) {i j : Nat} (hi : i < hs.length) (hj : j < hs.length) (e : fromP hs i = fromP hs j) : i = j := by
  by_cases hij : i = j
  · exact hij
  · exfalso
    by_cases h1 : j = (i + 1) % hs.length
    · refine step_ne h hi ?_
      rw [to_from, ← h1]; exact e.symm
    · have := h.strict_left hi hj (fun e => hij e.symm) h1
      rw [← e] at this
      unfold sideK crossZ at this
      simp at this
theorem sub_len {a b : List Pt} (hn : a.Nodup) (h : ∀ x, x ∈ a → x ∈ b) : a.length ≤ b.length := by
  induction a generalizing b with
  | nil => simp
  | cons x t ih =>
    rw [List.nodup_cons] at hn
    have hx : x ∈ b := h x (by simp)
    have h1 := ih (b := b.erase x) hn.2 (fun y hy => (List.mem_erase_of_ne (fun e => hn.1 (by rw [← e]; exact hy))).2 (h y (by simp [hy])))
    rw [List.length_erase_of_mem hx] at h1
    have : 1 ≤ b.length := List.length_pos_of_mem hx
    simp
    omega
theorem hull_size {l hs : List Pt} (h : Around hs) (mem : ∀ i, i < hs.length → fromP hs i ∈ l) : hs.length ≤ l.length := by
  refine sub_len ?_ fun x hx => ?_
  · show hs.Pairwise (fun x y => x ≠ y)
    rw [List.pairwise_iff_getElem]
    intro i j hi hj hij e
    have := hull_inj h hi hj (by unfold fromP; rw [List.getD_eq_getElem?_getD, List.getD_eq_getElem?_getD, List.getElem?_eq_getElem hi, List.getElem?_eq_getElem hj, e])
    omega
  · obtain ⟨i, hi, rfl⟩ := in_from hx
    exact mem i hi
theorem wrap_hull {l hs : List Pt} {a : Pt} {K : Nat} (h : Around hs) (mem : ∀ i, i < hs.length → fromP hs i ∈ l) (sup : ∀ i, i < hs.length → ∀ z, z ∈ l → 0 ≤ triP (fromP hs i) (toP hs i) z)
    (ha : a = fromP hs 0) (w : WrapEnd l a K) : wrapL l a K = hs := by
  have h3 := h.three
  have hsz := hull_size h mem
  have key : ∀ k, k < hs.length → wrapK l a k = fromP hs k := by
    intro k
    induction k with
    | zero => intro _; exact ha
    | succ k ih =>
      intro hk
      show nextK l (wrapK l a k) l.length = _
      rw [ih (by omega), hull_next h mem sup (by omega), to_from, Nat.mod_eq_of_lt hk]
  have last : wrapK l a hs.length = a := by
    obtain ⟨m, hm⟩ : ∃ m, hs.length = m + 1 := ⟨hs.length - 1, by omega⟩
    rw [hm]
    show nextK l (wrapK l a m) l.length = _
    rw [key m (by omega), hull_next h mem sup (by omega), to_from, ← hm, Nat.mod_self, ha]
  have hK : K = hs.length := by
    rcases Nat.lt_trichotomy K hs.length with hl | hl | hl
    · exfalso
      rcases w.stop with e | e | e
      · omega
      · rw [key K hl, ha] at e
        have := hull_inj h hl (by omega) e
        have := w.pos
        omega
      · have hp := w.pos
        rw [key K hl, key (K - 1) (by omega)] at e
        have := hull_inj h hl (by omega) e
        omega
    · exact hl
    · exact absurd last (w.on hs.length (by omega) hl).1
  refine List.ext_getElem? fun i => ?_
  unfold wrapL
  rw [List.getElem?_map, hK]
  by_cases hi : i < hs.length
  · rw [List.getElem?_range hi, List.getElem?_eq_getElem hi]
    show some (wrapK l a i) = _
    rw [key i hi]
    unfold fromP
    rw [List.getD_eq_getElem?_getD, List.getElem?_eq_getElem hi]; rfl
  · rw [List.getElem?_eq_none (by simp; omega), List.getElem?_eq_none (by omega)]; rfl
theorem wrap_flat {l : List Pt} {a : Pt} {K : Nat} (ha : a ∈ l) (hlow : ∀ z, z ∈ l → leP a z) (hf : ∀ x y z, x ∈ l → y ∈ l → z ∈ l → triP x y z = 0) (w : WrapEnd l a K) : K < 3 := by
  rcases Nat.lt_or_ge K 3 with h | h
  · exact h
  · exfalso
    have h1 := (w.on 1 (Nat.le_refl _) (by omega)).1
    have h2 := (w.on 2 (by omega) (by omega)).1
    have e1 : wrapK l a 1 = nextK l a l.length := rfl
    have e2 : wrapK l a 2 = nextK l (nextK l a l.length) l.length := rfl
    rw [e1] at h1
    rw [e2, next_back ha hlow hf h1] at h2
    exact h2 rfl
end Go.Proofs.Ytbdppephmlkbaaa

namespace Go.Proofs.Ytbdppephmlkbaaa
/-! What wrapping gives of flipped points, and of all sums of the points of two polygons. -/
theorem wrap_is {l hs : List Pt} {K : Nat} (h1 : 1 ≤ l.length) (A : Around hs) (mem : ∀ i, i < hs.length → fromP hs i ∈ l) (sup : ∀ i, i < hs.length → ∀ z, z ∈ l → 0 ≤ triP (fromP hs i) (toP hs i) z)
    (W : WrapEnd l (lowK l (l.length - 1)) K) : wrapL l (lowK l (l.length - 1)) K = hs ∧ K = hs.length := by
  have hlow := low_all h1
  have h3 := A.three
  have ha : lowK l (l.length - 1) = fromP hs 0 := leP_anti (hlow.2 _ (mem 0 (by omega))) (hull_lowest A fun i hi => sup i hi _ hlow.1)
  have e := wrap_hull A mem sup ha W
  exact ⟨e, by rw [← e, show (wrapL l (lowK l (l.length - 1)) K).length = K from by simp [wrapL]]⟩
theorem wrap_flip {ps : List Pt} {K : Nat} (h : Around ps) (W : WrapEnd (ps.map negP) (lowK (ps.map negP) ((ps.map negP).length - 1)) K) :
    wrapL (ps.map negP) (lowK (ps.map negP) ((ps.map negP).length - 1)) K = flipP ps ∧ K = ps.length := by
  have h3 := h.three
  have h0 : 0 < ps.length := by omega
  have hl := flip_length h0
  have A := around_flip h
  have e := wrap_is (l := ps.map negP) (hs := flipP ps) (by rw [neg_length]; omega) A (fun i hi => by
      rw [from_flip (by rw [← hl]; exact hi)]
      exact List.mem_map.2 ⟨_, from_mem (Nat.mod_lt _ h0), rfl⟩) (fun i hi z hz => by
      obtain ⟨q, hq, rfl⟩ := List.mem_map.1 hz
      obtain ⟨j, hj, rfl⟩ := mem_from hq
      obtain ⟨k, hk, hks⟩ := turn_back (flipS_lt h0) hj
      have := from_flip hk
      rw [hks] at this
      rw [← this, tri_side]
      exact A.left hi (by rw [hl]; exact hk)) W
  exact ⟨e.1, by rw [e.2, hl]⟩
/-- all sums with the first k points -/
def allK (ps qs : List Pt) : Nat → List Pt
  | 0 => []
  | k + 1 => allK ps qs k ++ movedP qs (fromP ps k)
theorem all_len (ps qs : List Pt) : ∀ k, (allK ps qs k).length = k * qs.length := by
  intro k
  induction k with
  | zero => simp [allK]
  | succ k ih => rw [allK, List.length_append, ih, moved_length, Nat.succ_mul]
theorem all_mem {ps qs : List Pt} {z : Pt} : ∀ k, z ∈ allK ps qs k ↔ ∃ i j, i < k ∧ j < qs.length ∧ z = addP (fromP ps i) (fromP qs j) := by
  intro k
  induction k with
  | zero => simp [allK]
  | succ k ih =>
    rw [allK, List.mem_append, ih]
    constructor
    · rintro (⟨i, j, hi, hj, e⟩ | h)
      · exact ⟨i, j, by omega, hj, e⟩
      · obtain ⟨q, hq, rfl⟩ := List.mem_map.1 h
        obtain ⟨j, hj, rfl⟩ := mem_from hq
        exact ⟨k, j, by omega, hj, rfl⟩
    · rintro ⟨i, j, hi, hj, e⟩
      by_cases hik : i = k
      · subst hik
        exact .inr (e ▸ List.mem_map.2 ⟨_, from_mem hj, rfl⟩)
      · exact .inl ⟨i, j, by omega, hj, e⟩
theorem side_less (ps : List Pt) (x y : Int) (k : Nat) : sideK ps x y k = crossP (fromP ps k) (stepP ps k) - crossP (x, y) (stepP ps k) := by
  unfold sideK crossP crossZ
  grind
theorem wrap_sum {ps qs ds : List Pt} {K : Nat} (hp : Around ps) (hq : Around qs) (hs : Sorted ps qs ds) (W : WrapEnd (allK ps qs ps.length) (lowK (allK ps qs ps.length) ((allK ps qs ps.length).length - 1)) K) :
    wrapL (allK ps qs ps.length) (lowK (allK ps qs ps.length) ((allK ps qs ps.length).length - 1)) K = sumP ps qs ds ∧ K = (sumP ps qs ds).length := by
  have p3 := hp.three
  have q3 := hq.three
  have M : Merged ps qs ds := ⟨hp.rolls, hq.rolls, hs⟩
  refine wrap_is ?_ (sum_around hp hq hs) (fun i hi => ?_) (fun i hi z hz => ?_) W
  · rw [all_len]
    exact Nat.mul_pos (by omega) (by omega)
  · rw [Merged.slen] at hi
    obtain ⟨a, b, ha, hb, e⟩ := sum_vertex M hi
    exact (all_mem _).2 ⟨a, b, ha, hb, by rw [e, addP_comm]⟩
  · rw [Merged.slen] at hi
    obtain ⟨a, b, ha, hb, rfl⟩ := (all_mem _).1 hz
    rw [tri_side, side_less, M.step hi, M.at_edge hi]
    have r0 := M.rne0 _ (from_mem hi)
    have e1 := hi_le M.p r0 ha
    have e2 := hi_le M.q r0 hb
    have e3 : crossP ((addP (fromP ps a) (fromP qs b)).1, (addP (fromP ps a) (fromP qs b)).2) (fromP (runs ds) i) = crossP (fromP qs b) (fromP (runs ds) i) + crossP (fromP ps a) (fromP (runs ds) i) := by
      unfold addP crossP crossZ
      grind
    rw [e3]
    omega
end Go.Proofs.Ytbdppephmlkbaaa

namespace Go.Proofs.Ytbdppephmlkbaaa
/-! Zero in the sums of a polygon and a flipped one. -/
def leA (a b : Pt) : Bool := decide (a = (0, 0)) || (!decide (b = (0, 0)) && !decide (ltA b a))
theorem leA_iff (a b : Pt) : leA a b = true ↔ a = (0, 0) ∨ (b ≠ (0, 0) ∧ ¬ ltA b a) := by
  unfold leA
  simp
theorem leA_total (a b : Pt) : (leA a b || leA b a) = true := by
  rw [Bool.or_eq_true, leA_iff, leA_iff]
  by_cases ha : a = (0, 0)
  · exact .inl (.inl ha)
  · by_cases hb : b = (0, 0)
    · exact .inr (.inl hb)
    · by_cases h : ltA b a
      · exact .inr (.inr ⟨ha, fun k => ltA_irrefl a (ltA_trans ha hb ha k h)⟩)
      · exact .inl (.inr ⟨hb, h⟩)
theorem leA_trans (a b c : Pt) (h : leA a b = true) (k : leA b c = true) : leA a c = true := by
  rw [leA_iff] at *
  rcases h with h | ⟨hb, h⟩
  · exact .inl h
  · rcases k with k | ⟨hc, k⟩
    · exact absurd k hb
    · by_cases ha : a = (0, 0)
      · exact .inl ha
      · exact .inr ⟨hc, ltA_ntrans hc hb ha k h⟩
theorem sorted_some {ps qs : List Pt} (hp : Around ps) (hq : Around qs) : ∃ ds, Sorted ps qs ds := by
  refine ⟨(stepsOf ps ++ stepsOf qs).mergeSort leA, List.mergeSort_perm _ _, ?_⟩
  have h0 : ∀ x ∈ stepsOf ps ++ stepsOf qs, x ≠ (0, 0) := fun x hx => by
    rcases List.mem_append.1 hx with h | h
    · exact hp.rolls.ne0 x h
    · exact hq.rolls.ne0 x h
  refine List.Pairwise.imp_of_mem ?_ (List.pairwise_mergeSort leA_trans leA_total _)
  intro a b ha hb h
  have ha' := h0 a ((List.mergeSort_perm _ _).mem_iff.1 ha)
  rcases (leA_iff a b).1 h with e | e
  · exact absurd e ha'
  · exact e.2
theorem wrap_gap {ps qs ds : List Pt} {K : Nat} (hp : Around ps) (hq : Around qs) (hs : Sorted ps (flipP qs) ds) (W : WrapEnd (allK ps (qs.map negP) ps.length) (lowK (allK ps (qs.map negP) ps.length) ((allK ps (qs.map negP) ps.length).length - 1)) K) :
    wrapL (allK ps (qs.map negP) ps.length) (lowK (allK ps (qs.map negP) ps.length) ((allK ps (qs.map negP) ps.length).length - 1)) K = sumP ps (flipP qs) ds ∧ K = (sumP ps (flipP qs) ds).length := by
  have p3 := hp.three
  have q3 := hq.three
  have hf := around_flip hq
  have q0 : 0 < qs.length := by omega
  have hl := flip_length q0
  have M : Merged ps (flipP qs) ds := ⟨hp.rolls, hf.rolls, hs⟩
  refine wrap_is ?_ (sum_around hp hf hs) (fun i hi => ?_) (fun i hi z hz => ?_) W
  · rw [all_len, neg_length]
    exact Nat.mul_pos (by omega) (by omega)
  · rw [Merged.slen] at hi
    obtain ⟨a, b, ha, hb, e⟩ := sum_vertex M hi
    rw [hl] at hb
    refine (all_mem _).2 ⟨a, (b + flipS qs) % qs.length, ha, by rw [neg_length]; exact Nat.mod_lt _ q0, ?_⟩
    rw [e, addP_comm, from_flip hb, from_map negP (Nat.mod_lt _ q0)]
  · rw [Merged.slen] at hi
    obtain ⟨a, b, ha, hb, rfl⟩ := (all_mem _).1 hz
    rw [neg_length] at hb
    obtain ⟨k, hk, hks⟩ := turn_back (flipS_lt q0) hb
    have ef : fromP (qs.map negP) b = fromP (flipP qs) k := by rw [from_flip hk, hks, from_map negP hb]
    rw [ef, tri_side, side_less, M.step hi, M.at_edge hi]
    have r0 := M.rne0 _ (from_mem hi)
    have e1 := hi_le M.p r0 ha
    have e2 := hi_le M.q r0 (by rw [hl]; exact hk)
    have e3 : crossP ((addP (fromP ps a) (fromP (flipP qs) k)).1, (addP (fromP ps a) (fromP (flipP qs) k)).2) (fromP (runs ds) i) = crossP (fromP (flipP qs) k) (fromP (runs ds) i) + crossP (fromP ps a) (fromP (runs ds) i) := by
      unfold addP crossP crossZ
      grind
    rw [e3]
    omega
end Go.Proofs.Ytbdppephmlkbaaa

namespace Go.Proofs.Ytbdppephmlkbaaa
open Go.RowKit
theorem up_scale {x y v : Pt} (hx : 0 < x.2 ∨ (x.2 = 0 ∧ 0 < x.1)) (hy : 0 < y.2 ∨ (y.2 = 0 ∧ 0 < y.1)) (hz : crossP x y = 0) (h : 0 ≤ crossP v x) : 0 ≤ crossP v y := by
  unfold crossP crossZ at *
  rcases hx with hx | ⟨hx, hx1⟩
  · have hy2 : 0 < y.2 := by
      rcases hy with hy | ⟨hy, hy1⟩
      · exact hy
      · rw [hy] at hz
        have := Int.mul_pos hx hy1
        grind
    have h1 : 0 ≤ (v.1 * x.2 - v.2 * x.1) * y.2 := Int.mul_nonneg h (by omega)
    have h2 : (v.1 * y.2 - v.2 * y.1) * x.2 = (v.1 * x.2 - v.2 * x.1) * y.2 := by grind
    rw [← h2] at h1
    refine Classical.byContradiction fun n => ?_
    have := Int.mul_neg_of_neg_of_pos (show v.1 * y.2 - v.2 * y.1 < 0 by omega) hx
    omega
  · have hy2 : y.2 = 0 := by
      rcases hy with hy | hy
      · rw [hx] at hz
        have := Int.mul_pos hx1 hy
        grind
      · exact hy.1
    have hy1 : 0 < y.1 := by omega
    rw [hx] at h
    rw [hy2]
    have h1 : v.2 * x.1 ≤ 0 := by grind
    have h2 : v.2 ≤ 0 := Classical.byContradiction fun n => by
      have := Int.mul_pos (show 0 < v.2 by omega) hx1
      omega
    have := Int.mul_nonpos_of_nonpos_of_nonneg h2 (show 0 ≤ y.1 by omega)
    grind
theorem same_scale {x y v : Pt} (hx : x ≠ (0, 0)) (hy : y ≠ (0, 0)) (h : SameD x y) (hv : 0 ≤ crossP v x) : 0 ≤ crossP v y := by
  obtain ⟨h1, h2⟩ := (same_iff _ _).1 h
  cases hs : sinksB x.1 x.2 with
  | false => exact up_scale (up_of hs hx) (up_of (h1.symm.trans hs) hy) h2 hv
  | true =>
    have := up_scale (v := negP v) (neg_up hs) (neg_up (h1.symm.trans hs)) (by rw [crossP_neg]; exact h2) (by rw [crossP_neg]; exact hv)
    rwa [crossP_neg] at this
theorem sep_scale {ps qs : List Pt} {x y : Pt} (hx : x ≠ (0, 0)) (hy : y ≠ (0, 0)) (h : SameD x y) (hs : sepBy ps qs (rt x)) : sepBy ps qs (rt y) := by
  intro i j hi hj
  have h1 := hs i j hi hj
  rw [dot_rt, dot_rt] at h1 ⊢
  have key : ∀ r, crossP ((fromP qs j).1 - (fromP ps i).1, (fromP qs j).2 - (fromP ps i).2) r = crossP (fromP qs j) r - crossP (fromP ps i) r := fun r => by
    unfold crossP crossZ; grind
  have := same_scale (v := ((fromP qs j).1 - (fromP ps i).1, (fromP qs j).2 - (fromP ps i).2)) hx hy h (by rw [key]; omega)
  rw [key] at this
  omega
theorem neg_left (a b : Pt) : crossP (negP a) b = -crossP a b := by unfold crossP crossZ negP; grind
/-- a direction separates two polygons just if the maxima over the one and over the other, flipped, come to no more than zero -/
theorem sep_hi {ps qs : List Pt} (hp : Rolls ps) (hq : Rolls (flipP qs)) (h0 : 0 < qs.length) {r : Pt} (hr : r ≠ (0, 0)) : sepBy ps qs (rt r) ↔ hiP ps r + hiP (flipP qs) r ≤ 0 := by
  constructor
  · intro h
    obtain ⟨i, hi, e1⟩ := hi_at hp hr
    obtain ⟨j, hj, e2⟩ := hi_at hq hr
    rw [flip_length h0] at hj
    rw [from_flip hj, neg_left] at e2
    have := h i _ hi (Nat.mod_lt (j + flipS qs) h0)
    rw [dot_rt, dot_rt] at this
    omega
  · intro h i j hi hj
    rw [dot_rt, dot_rt]
    have e1 := hi_le hp hr hi
    obtain ⟨k, hk, e⟩ := turn_back (flipS_lt h0) hj
    have e2 := hi_le hq hr (show k < (flipP qs).length by rw [flip_length h0]; exact hk)
    rw [from_flip hk, e, neg_left] at e2
    omega
theorem placeK_one (ps : List Pt) (x y : Int) : ∀ k, (placeK ps x y k = 1 ↔ ∀ j, j < k → 0 < sideK ps x y j) := by
  intro k
  induction k with
  | zero => exact ⟨fun _ j hj => by omega, fun _ => rfl⟩
  | succ k ih =>
    have hb := placeK_bd ps x y k
    have hs := sgnZ_bd (sideK ps x y k) 0
    have e : sgnZ (sideK ps x y k) 0 = 1 ↔ 0 < sideK ps x y k := by
      unfold sgnZ
      split <;> (try split) <;> omega
    have hm : placeK ps x y (k + 1) = 1 ↔ placeK ps x y k = 1 ∧ sgnZ (sideK ps x y k) 0 = 1 := by
      simp only [placeK]
      omega
    rw [hm, ih, e]
    constructor
    · rintro ⟨h1, h2⟩ j hj
      by_cases hjk : j = k
      · subst hjk; exact h2
      · exact h1 j (by omega)
    · intro h
      exact ⟨fun j hj => h j (by omega), h k (by omega)⟩
theorem dirP_rt (ps : List Pt) (k : Nat) : dirP ps k = rt (stepP ps k) := rfl
theorem dirQ_rt (qs : List Pt) (k : Nat) : dirQ qs k = rt (negP (stepP qs k)) := by
  unfold dirQ rt negP; simp
theorem overlap_true {ps qs : List Pt} (h1 : 0 < ps.length) (h2 : 0 < qs.length) : overlapB ps qs = true ↔ (∀ k, k < ps.length → ¬ sepBy ps qs (dirP ps k)) ∧ ∀ k, k < qs.length → ¬ sepBy ps qs (dirQ qs k) := by
  have h := overlap_iff (ps := ps) (qs := qs) h1 h2
  constructor
  · intro ht
    refine ⟨fun k hk hs => ?_, fun k hk hs => ?_⟩
    · rw [h.2 (.inl ⟨k, hk, hs⟩)] at ht; cases ht
    · rw [h.2 (.inr ⟨k, hk, hs⟩)] at ht; cases ht
  · rintro ⟨g1, g2⟩
    cases hc : overlapB ps qs with
    | true => rfl
    | false =>
      rcases h.1 hc with ⟨k, hk, hs⟩ | ⟨k, hk, hs⟩
      · exact absurd hs (g1 k hk)
      · exact absurd hs (g2 k hk)
/-- zero lies in the interior of the sum of one and the flip of the other just if they overlap -/
theorem place_sum {ps qs ds : List Pt} (hp : Around ps) (hq : Around qs) (hs : Sorted ps (flipP qs) ds) : placeZ (sumP ps (flipP qs) ds) 0 0 = 1 ↔ overlapB ps qs = true := by
  have hf := around_flip hq
  have h : Merged ps (flipP qs) ds := ⟨hp.rolls, hf.rolls, hs⟩
  have h0 : 0 < qs.length := by have := hq.three; omega
  have hside : ∀ k, k < (runs ds).length → (0 < sideK (sumP ps (flipP qs) ds) 0 0 k ↔ ¬ sepBy ps qs (rt (fromP (runs ds) k))) := by
    intro k hk
    have hr := h.rne0 _ (from_mem hk)
    rw [sep_hi hp.rolls hf.rolls h0 hr, ← h.at_edge hk]
    have : sideK (sumP ps (flipP qs) ds) 0 0 k = crossP (fromP (sumP ps (flipP qs) ds) k) (fromP (runs ds) k) := by
      unfold sideK
      rw [h.step hk]
      unfold crossP crossZ
      grind
    rw [this]
    omega
  unfold placeZ
  rw [placeK_one, Merged.slen, overlap_true hp.rolls.some h0]
  have hall : (∀ k, k < (runs ds).length → 0 < sideK (sumP ps (flipP qs) ds) 0 0 k) ↔ ∀ d ∈ ds, ¬ sepBy ps qs (rt d) := by
    constructor
    · intro g d hd hsep
      obtain ⟨x, hx, hsm⟩ := mem_runs ds h.ne0 d hd
      obtain ⟨k, hk, rfl⟩ := mem_from hx
      exact (hside k hk).1 (g k hk) (sep_scale (h.ne0 d hd) (h.rne0 _ hx) hsm hsep)
    · intro g k hk
      refine (hside k hk).2 fun hsep => ?_
      obtain ⟨hx0, d, hd, hsm⟩ := runs_mem ds h.ne0 _ (from_mem hk)
      exact g d hd (sep_scale hx0 (h.ne0 d hd) hsm.symm hsep)
  rw [hall]
  constructor
  · intro g
    refine ⟨fun k hk => ?_, fun k hk => ?_⟩
    · rw [dirP_rt]
      exact g _ (hs.1.mem_iff.2 (List.mem_append_left _ (mem_steps hk)))
    · rw [dirQ_rt]
      obtain ⟨j, hj, e⟩ := turn_back (flipS_lt h0) hk
      refine g _ (hs.1.mem_iff.2 (List.mem_append_right _ ?_))
      rw [← e, ← step_flip hj]
      exact mem_steps (by rw [flip_length h0]; exact hj)
  · rintro ⟨g1, g2⟩ d hd
    rcases List.mem_append.1 (hs.1.mem_iff.1 hd) with hd | hd
    · obtain ⟨k, hk, rfl⟩ := steps_mem hd
      rw [← dirP_rt]; exact g1 k hk
    · obtain ⟨k, hk, rfl⟩ := steps_mem hd
      rw [flip_length h0] at hk
      rw [step_flip hk, ← dirQ_rt]
      exact g2 _ (Nat.mod_lt _ h0)
theorem sepBy_swap (ps qs : List Pt) (d : Pt) : sepBy ps qs d ↔ sepBy qs ps (negP d) := by
  have hneg : ∀ q, dotP (negP d) q = -dotP d q := fun q => by unfold dotP dotV negP; simp only [Int.neg_mul]; omega
  constructor
  · intro h i j hi hj
    have := h j i hj hi
    rw [hneg, hneg]; omega
  · intro h i j hi hj
    have := h j i hj hi
    rw [hneg, hneg] at this; omega
theorem dir_neg (ps : List Pt) (k : Nat) : negP (dirP ps k) = dirQ ps k ∧ negP (dirQ ps k) = dirP ps k := by
  unfold negP dirP dirQ; simp
theorem overlap_swap {ps qs : List Pt} (h1 : 0 < ps.length) (h2 : 0 < qs.length) : overlapB qs ps = overlapB ps qs := by
  rw [Bool.eq_iff_iff, overlap_true h2 h1, overlap_true h1 h2]
  have a : ∀ k, sepBy qs ps (dirP qs k) ↔ sepBy ps qs (dirQ qs k) := fun k => by rw [sepBy_swap, (dir_neg qs k).1]
  have b : ∀ k, sepBy qs ps (dirQ ps k) ↔ sepBy ps qs (dirP ps k) := fun k => by rw [sepBy_swap, (dir_neg ps k).2]
  constructor
  · rintro ⟨g1, g2⟩
    exact ⟨fun k hk h => g2 k hk ((b k).2 h), fun k hk h => g1 k hk ((a k).2 h)⟩
  · rintro ⟨g1, g2⟩
    exact ⟨fun k hk h => g2 k hk ((a k).1 h), fun k hk h => g1 k hk ((b k).1 h)⟩
end Go.Proofs.Ytbdppephmlkbaaa
