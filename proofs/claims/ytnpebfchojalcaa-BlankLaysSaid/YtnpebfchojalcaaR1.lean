import Derived.Test.YtnpebfchojalcaaV7
namespace Go.Proofs.Ytnpebfchojalcaa
set_option maxRecDepth 100000
open Go.RowKit Go.Shelf
attribute [local go_sem] Oper.semAt_some
theorem list_of {α : Type} {vs ws : List α} (hl : vs.length = ws.length) (h : ∀ (i : Nat) (u : α), vs[i]? = some u → ws[i]? = some u) : vs = ws := by
  apply List.ext_getElem?
  intro i
  by_cases hi : i < vs.length
  · have e := List.getElem?_eq_getElem hi
    rw [e, h i _ e]
  · rw [List.getElem?_eq_none (by omega), List.getElem?_eq_none (by omega)]
/-! The reference's small functions: Good, Lower, Twice. -/
set_option maxHeartbeats 400000 in
theorem good_c (a b : Int) (w : World) :
    Calls Try.prog 108 #[vecV a b] w fun e w' => e = .returned (.bool (!farB a b)) ∧ Ext w w' := by
  by_cases h1 : a < -1000
  · have e : farB a b = true := by simp [farB, h1]
    have h1' : ¬ -1000 ≤ a := by omega
    rw [e]; clear e
    go_enter Try.func108, Try.ntmps108
    go_wp2
    all_goals go_ret
    all_goals exact ⟨rfl, by (repeat' (first | exact Below.refl _ _ | refine Below.drew ?_ | refine Below.alloc ?_ (by simp <;> omega) _ | refine Below.setCell ?_ (by simp <;> omega) _))⟩
  · have h1' : -1000 ≤ a := by omega
    by_cases h2 : 1000 < a
    · have e : farB a b = true := by simp [farB, h2]
      have h2' : ¬ a ≤ 1000 := by omega
      rw [e]; clear e h1
      go_enter Try.func108, Try.ntmps108
      go_wp2
      all_goals go_ret
      all_goals exact ⟨rfl, by (repeat' (first | exact Below.refl _ _ | refine Below.drew ?_ | refine Below.alloc ?_ (by simp <;> omega) _ | refine Below.setCell ?_ (by simp <;> omega) _))⟩
    · have h2' : a ≤ 1000 := by omega
      by_cases h3 : b < -1000
      · have e : farB a b = true := by simp [farB, h3]
        have h3' : ¬ -1000 ≤ b := by omega
        rw [e]; clear e h1 h2
        go_enter Try.func108, Try.ntmps108
        go_wp2
        all_goals go_ret
        all_goals exact ⟨rfl, by (repeat' (first | exact Below.refl _ _ | refine Below.drew ?_ | refine Below.alloc ?_ (by simp <;> omega) _ | refine Below.setCell ?_ (by simp <;> omega) _))⟩
      · have h3' : -1000 ≤ b := by omega
        by_cases h4 : 1000 < b
        · have e : farB a b = true := by simp [farB, h4]
          have h4' : ¬ b ≤ 1000 := by omega
          rw [e]; clear e h1 h2 h3
          go_enter Try.func108, Try.ntmps108
          go_wp2
          all_goals go_ret
          all_goals exact ⟨rfl, by (repeat' (first | exact Below.refl _ _ | refine Below.drew ?_ | refine Below.alloc ?_ (by simp <;> omega) _ | refine Below.setCell ?_ (by simp <;> omega) _))⟩
        · have e : farB a b = false := by simp [farB, h1, h2, h3, h4]
          have h4' : b ≤ 1000 := by omega
          rw [e]; clear e h1 h2 h3 h4
          go_enter Try.func108, Try.ntmps108
          go_wp2
          all_goals go_ret
          all_goals exact ⟨rfl, by (repeat' (first | exact Below.refl _ _ | refine Below.drew ?_ | refine Below.alloc ?_ (by simp <;> omega) _ | refine Below.setCell ?_ (by simp <;> omega) _))⟩
/-- is a lower than b, or left of it? -/
def lowB (a b c d : Int) : Bool := decide (b < d) || (decide (b = d) && decide (a < c))
set_option maxHeartbeats 400000 in
theorem lower_c (a b c d : Int) (w : World) :
    Calls Try.prog 117 #[vecV a b, vecV c d] w fun e w' => e = .returned (.bool (lowB a b c d)) ∧ Ext w w' := by
  rcases Int.lt_trichotomy b d with h | h | h
  · have e : lowB a b c d = true := by simp [lowB, h]
    rw [e]; clear e
    go_enter Try.func117, Try.ntmps117
    go_wp2
    all_goals go_ret
    all_goals exact ⟨rfl, by (repeat' (first | exact Below.refl _ _ | refine Below.drew ?_ | refine Below.alloc ?_ (by simp <;> omega) _ | refine Below.setCell ?_ (by simp <;> omega) _))⟩
  · subst h
    have hbb : (b == b) = true := by simp
    have hn : ¬ b < b := by omega
    by_cases h2 : a < c
    · have e : lowB a b c b = true := by simp [lowB, h2]
      rw [e]; clear e
      go_enter Try.func117, Try.ntmps117
      go_wp2
      all_goals go_ret
      all_goals exact ⟨rfl, by (repeat' (first | exact Below.refl _ _ | refine Below.drew ?_ | refine Below.alloc ?_ (by simp <;> omega) _ | refine Below.setCell ?_ (by simp <;> omega) _))⟩
    · have e : lowB a b c b = false := by simp [lowB, h2]
      rw [e]; clear e
      go_enter Try.func117, Try.ntmps117
      go_wp2
      all_goals go_ret
      all_goals exact ⟨rfl, by (repeat' (first | exact Below.refl _ _ | refine Below.drew ?_ | refine Below.alloc ?_ (by simp <;> omega) _ | refine Below.setCell ?_ (by simp <;> omega) _))⟩
  · have e : lowB a b c d = false := by simp [lowB]; omega
    have hn : ¬ b < d := by omega
    have hbb : (b == d) = false := beq_eq_false_iff_ne.2 (by omega)
    rw [e]; clear e
    go_enter Try.func117, Try.ntmps117
    go_wp2
    all_goals go_ret
    all_goals exact ⟨rfl, by (repeat' (first | exact Below.refl _ _ | refine Below.drew ?_ | refine Below.alloc ?_ (by simp <;> omega) _ | refine Below.setCell ?_ (by simp <;> omega) _))⟩
/-- twice the area of a triangle -/
def twiZ (a b c d x y : Int) : Int := (c - a) * (y - b) - (d - b) * (x - a)
theorem mul_20 {a b : Int} (ha : -20000 ≤ a ∧ a ≤ 20000) (hb : -20000 ≤ b ∧ b ≤ 20000) : -400000000 ≤ a * b ∧ a * b ≤ 400000000 := by
  have h1 := Int.natAbs_mul a b
  have h2 : a.natAbs * b.natAbs ≤ 20000 * 20000 := Nat.mul_le_mul (by omega) (by omega)
  generalize a * b = z at *
  generalize a.natAbs * b.natAbs = n at *
  omega
set_option maxHeartbeats 1000000 in
theorem twice_c (a b c d x y : Int) (w : World) (ha : -10000 ≤ a ∧ a ≤ 10000) (hb : -10000 ≤ b ∧ b ≤ 10000) (hc : -10000 ≤ c ∧ c ≤ 10000) (hd : -10000 ≤ d ∧ d ≤ 10000) (hx : -10000 ≤ x ∧ x ≤ 10000) (hy : -10000 ≤ y ∧ y ≤ 10000) :
    Calls Try.prog 118 #[vecV a b, vecV c d, vecV x y] w fun e w' => e = .returned (.int .i64 (twiZ a b c d x y)) ∧ Ext w w' := by
  have m1 := mul_20 (a := c - a) (b := y - b) (by omega) (by omega)
  have m2 := mul_20 (a := d - b) (b := x - a) (by omega) (by omega)
  have e1 : wrap64 (c - a) = c - a := by unfold wrap64; omega
  have e2 : wrap64 (y - b) = y - b := by unfold wrap64; omega
  have e3 : wrap64 (d - b) = d - b := by unfold wrap64; omega
  have e4 : wrap64 (x - a) = x - a := by unfold wrap64; omega
  have e5 : wrap64 ((c - a) * (y - b)) = (c - a) * (y - b) := by unfold wrap64; omega
  have e6 : wrap64 ((d - b) * (x - a)) = (d - b) * (x - a) := by unfold wrap64; omega
  have e7 : wrap64 ((c - a) * (y - b) - (d - b) * (x - a)) = (c - a) * (y - b) - (d - b) * (x - a) := by unfold wrap64; omega
  clear ha hb hc hd hx hy m1 m2
  go_enter Try.func118, Try.ntmps118
  go_wp2
  all_goals go_ret
  all_goals exact ⟨ret_int (by first | rfl | simp [twiZ, e1, e2, e3, e4, e5, e6, e7]), by (repeat' (first | exact Below.refl _ _ | refine Below.drew ?_ | refine Below.alloc ?_ (by simp <;> omega) _ | refine Below.setCell ?_ (by simp <;> omega) _))⟩
end Go.Proofs.Ytnpebfchojalcaa
