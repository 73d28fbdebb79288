import Derived.Test.YtbdppephmlkbaaaM26
import Derived.Test.YtbdppephmlkbaaaM27
namespace Go.Proofs.Ytbdppephmlkbaaa
/-! The reference's sums, places, extremes and counts are the code's. -/
theorem fan_tri {ps : List Pt} {k : Nat} (hk : k + 1 < ps.length) : fanK ps k = triP (fromP ps 0) (fromP ps k) (fromP ps (k + 1)) := by
  have e : toP ps k = fromP ps (k + 1) := by rw [to_from, Nat.mod_eq_of_lt hk]
  unfold fanK sideK crossZ triP stepP
  rw [e]
  simp only
  grind
/-- the area of the fan's first triangles -/
def rA (ps : List Pt) : Nat → Int
  | 0 => 0
  | k + 1 => rA ps k + triP (fromP ps 0) (fromP ps (k + 1)) (fromP ps (k + 2))
theorem rA_sum {ps : List Pt} : ∀ k, k + 2 ≤ ps.length → rA ps k = sumTo (fun k => fanK ps (k + 1)) k := by
  intro k
  induction k with
  | zero => intro _; rfl
  | succ k ih =>
    intro hk
    simp only [rA, sumTo]
    rw [ih (by omega), fan_tri (by omega)]
theorem rA_area {ps : List Pt} (h3 : 3 ≤ ps.length) : rA ps (ps.length - 2) = areaZ ps := by
  obtain ⟨m, hm⟩ : ∃ m, ps.length = m + 3 := ⟨ps.length - 3, by omega⟩
  have h0 : fanK ps 0 = 0 := by unfold fanK sideK crossZ; grind
  have hl : fanK ps (m + 2) = 0 := by
    have e : toP ps (m + 2) = fromP ps 0 := by rw [to_from, hm, show m + 2 + 1 = m + 3 by omega, Nat.mod_self]
    unfold fanK sideK crossZ stepP
    rw [e]
    simp only
    grind
  rw [rA_sum _ (by omega), ← fan_area ps, hm, sumTo_first, h0, show m + 3 - 2 = m + 1 by omega]
  show _ = 0 + (sumTo (fun k => fanK ps (k + 1)) (m + 1) + fanK ps (m + 1 + 1))
  rw [show m + 1 + 1 = m + 2 by omega, hl]
  omega
theorem place_now {ps : List Pt} {x y : Int} {k : Nat} (h : ∀ j, j < k → 0 ≤ sideK ps x y j) : placeK ps x y k = if (∀ j, j < k → sideK ps x y j ≠ 0) then 1 else 0 := by
  induction k with
  | zero => simp [placeK]
  | succ k ih =>
    have hk := h k (by omega)
    have ihk := ih fun j hj => h j (by omega)
    by_cases hz : sideK ps x y k = 0
    · have hs : sgnZ (sideK ps x y k) 0 = 0 := by unfold sgnZ; rw [hz]; rfl
      have hr : ¬ ∀ j, j < k + 1 → sideK ps x y j ≠ 0 := fun h2 => h2 k (by omega) hz
      rw [if_neg hr]
      simp only [placeK, ihk, hs]
      split <;> omega
    · have hs : sgnZ (sideK ps x y k) 0 = 1 := by
        unfold sgnZ
        rw [if_neg (show ¬ sideK ps x y k < 0 by omega), if_pos (show 0 < sideK ps x y k by omega)]
      simp only [placeK, ihk, hs]
      by_cases ha : ∀ j, j < k → sideK ps x y j ≠ 0
      · have hr : ∀ j, j < k + 1 → sideK ps x y j ≠ 0 := fun j hj => by
          by_cases e : j = k
          · rw [e]; exact hz
          · exact ha j (by omega)
        rw [if_pos ha, if_pos hr]
        omega
      · have hr : ¬ ∀ j, j < k + 1 → sideK ps x y j ≠ 0 := fun h2 => ha fun j hj => h2 j (by omega)
        rw [if_neg ha, if_neg hr]
        omega
theorem place_out {ps : List Pt} {x y : Int} {k : Nat} (hk : k < ps.length) (h : sideK ps x y k < 0) : placeZ ps x y = -1 := by
  have h1 := (placeK_neg ps x y ps.length).2 ⟨k, hk, h⟩
  have h2 := placeK_bd ps x y ps.length
  unfold placeZ
  omega
theorem ext_one (ps : List Pt) (d : Pt) : extK ps d 1 = (dotP d (fromP ps 0), 0) := by
  show (if (extK ps d 0).1 < dotP d (fromP ps 0) then (dotP d (fromP ps 0), 0) else extK ps d 0) = _
  exact if_neg (fun h => Int.lt_irrefl _ h)
theorem ext_next (ps : List Pt) (d : Pt) (k : Nat) : extK ps d (k + 1) = if (extK ps d k).1 < dotP d (fromP ps k) then (dotP d (fromP ps k), k) else extK ps d k := rfl
/-- what the reference counts -/
def cntK (s : Int) (ps : List Pt) (k : Nat) : Int := sumTo (fun i => rowV s ps ((i : Int) - 1000)) k
theorem cnt_all (s : Int) (ps : List Pt) : cntK s ps 2001 = allN s ps := sumTo_congr 2001 fun i _ => (rowN_eq s ps _).symm
theorem cnt_pick {ps : List Pt} (h : Around ps) (hn : nearP ps) : cntK 1 ps 2001 = (areaZ ps - ringZ ps + 2).tdiv 2 ∧ cntK 0 ps 2001 - cntK 1 ps 2001 = ringZ ps := by
  obtain ⟨h1, h2⟩ := pick_all h hn
  rw [cnt_all, cnt_all]
  refine ⟨?_, by omega⟩
  rw [← h2, Int.mul_comm, Int.mul_tdiv_cancel _ (by decide)]
theorem rowV_bd (s : Int) (ps : List Pt) (y : Int) : 0 ≤ rowV s ps y ∧ rowV s ps y ≤ 2001 := by
  have := lo_ge s ps y ps.length
  have := hi_le' s ps y ps.length
  unfold rowV
  split <;> omega
theorem cntK_bd (s : Int) (ps : List Pt) : ∀ k : Nat, 0 ≤ cntK s ps k ∧ cntK s ps k ≤ 2001 * k := by
  intro k
  induction k with
  | zero => simp [cntK, sumTo]
  | succ k ih =>
    have := rowV_bd s ps ((k : Int) - 1000)
    have e : cntK s ps (k + 1) = cntK s ps k + rowV s ps ((k : Int) - 1000) := rfl
    rw [e, Int.natCast_add, Int.mul_add]
    omega
end Go.Proofs.Ytbdppephmlkbaaa
