import Derived.Test.YtnpebfchojalcaaRows
import Derived.Test.YtnpebfchojalcaaChecked
import Derived.Test.YtnpebfchojalcaaBase
import Derived.Laws.ResultCell
namespace Go.Proofs.Ytnpebfchojalcaa
set_option maxRecDepth 100000
open Go.RowKit
theorem results_cell1 {fn : Func} {p : Tmp} {ty : TypeId} (h : fn.results = #[.cell p ty]) (tmps : Array Value) (P : Program) (w : World) :
    (results fn tmps).run P w = ((asAddr (tmps.getD p undef)).run P w).andThen fun a w₁ => (loadVar ty a).run P w₁ := by
  simp only [results, h]
  simp only [Array.mapM_eq_foldlM, List.foldlM_toArray']
  simp [Sem.run_bind, Result.andThen]
/-- A vector's value. -/
abbrev vecV (x y : Int) : Value := .agg #[.int .i64 x, .int .i64 y]
def crossZ (a b c d : Int) : Int := a * d - b * c
def sgnZ (a b : Int) : Int := if a < b then -1 else if b < a then 1 else 0
theorem isNaN_c (x : Int) (w : World) : Calls Try.prog 91 #[.int .i64 x] w fun e w' => e = .returned (.bool false) ∧ w = w' := by
  go_enter Try.func91, Try.ntmps91
  go_wp2
  all_goals go_ret
  all_goals refine ⟨?_, rfl⟩
  all_goals first | rfl | simp
set_option maxHeartbeats 400000 in
theorem compare_c (x y : Int) (w : World) : Calls Try.prog 50 #[.int .i64 x, .int .i64 y] w fun e w' => e = .returned (.int .i64 (sgnZ x y)) ∧ w = w' := by
  rcases Int.lt_trichotomy x y with h | h | h
  · have e : sgnZ x y = -1 := by unfold sgnZ; rw [if_pos h]
    rw [e]
    go_enter Try.func50, Try.ntmps50
    go_wp2_with (first | (go_at_call 91; refine (isNaN_c x _).mono ?_; rintro e w' ⟨rfl, rfl⟩) | (go_at_call 91; refine (isNaN_c y _).mono ?_; rintro e w' ⟨rfl, rfl⟩))
    all_goals go_ret
    all_goals exact ⟨rfl, rfl⟩
  · have e : sgnZ x y = 0 := by unfold sgnZ; rw [if_neg (by omega), if_neg (by omega)]
    rw [e]
    subst h
    go_enter Try.func50, Try.ntmps50
    go_wp2_with (go_at_call 91; refine (isNaN_c x _).mono ?_; rintro e w' ⟨rfl, rfl⟩)
    all_goals go_ret
    all_goals exact ⟨rfl, rfl⟩
  · have e : sgnZ x y = 1 := by unfold sgnZ; rw [if_neg (by omega), if_pos h]
    rw [e]
    have h2 : ¬ x < y := by omega
    go_enter Try.func50, Try.ntmps50
    go_wp2_with (first | (go_at_call 91; refine (isNaN_c x _).mono ?_; rintro e w' ⟨rfl, rfl⟩) | (go_at_call 91; refine (isNaN_c y _).mono ?_; rintro e w' ⟨rfl, rfl⟩))
    all_goals go_ret
    all_goals exact ⟨rfl, rfl⟩
def fine (a : Int) : Prop := -100000 ≤ a ∧ a ≤ 100000
set_option maxHeartbeats 400000 in
theorem plus_c (a b c d : Int) (w : World) (ha : fine a) (hb : fine b) (hc : fine c) (hd : fine d) :
    Calls Try.prog 80 #[vecV a b, vecV c d] w fun e w' => e = .returned (vecV (a + c) (b + d)) ∧ Ext w w' := by
  unfold fine at *
  go_enter Try.func80, Try.ntmps80
  go_wp2
  all_goals ((try simp only [Exit.inBlock, Exit.then]); refine bodyPost_ret (by rw [results_cell1 rfl]; go_simp; rfl) rfl ?_)
  all_goals exact ⟨rfl, by (repeat' (first | exact Below.refl _ _ | refine Below.drew ?_ | refine Below.alloc ?_ (by simp <;> omega) _ | refine Below.setCell ?_ (by simp <;> omega) _))⟩
set_option maxHeartbeats 400000 in
theorem minus_c (a b c d : Int) (w : World) (ha : fine a) (hb : fine b) (hc : fine c) (hd : fine d) :
    Calls Try.prog 125 #[vecV a b, vecV c d] w fun e w' => e = .returned (vecV (a - c) (b - d)) ∧ Ext w w' := by
  unfold fine at *
  go_enter Try.func125, Try.ntmps125
  go_wp2
  all_goals ((try simp only [Exit.inBlock, Exit.then]); refine bodyPost_ret (by rw [results_cell1 rfl]; go_simp; rfl) rfl ?_)
  all_goals exact ⟨rfl, by (repeat' (first | exact Below.refl _ _ | refine Below.drew ?_ | refine Below.alloc ?_ (by simp <;> omega) _ | refine Below.setCell ?_ (by simp <;> omega) _))⟩
set_option maxHeartbeats 400000 in
theorem opposite_c (a b : Int) (w : World) (ha : fine a) (hb : fine b) :
    Calls Try.prog 72 #[vecV a b] w fun e w' => e = .returned (vecV (-a) (-b)) ∧ Ext w w' := by
  unfold fine at *
  go_enter Try.func72, Try.ntmps72
  go_wp2
  all_goals ((try simp only [Exit.inBlock, Exit.then]); refine bodyPost_ret (by rw [results_cell1 rfl]; go_simp; rfl) rfl ?_)
  all_goals exact ⟨rfl, by (repeat' (first | exact Below.refl _ _ | refine Below.drew ?_ | refine Below.alloc ?_ (by simp <;> omega) _ | refine Below.setCell ?_ (by simp <;> omega) _))⟩
theorem mul_fine {a b : Int} (ha : fine a) (hb : fine b) : -10000000000 ≤ a * b ∧ a * b ≤ 10000000000 := by
  unfold fine at *
  constructor
  · have h1 : -(100000 * 100000) ≤ a * b := by
      have := Int.natAbs_mul a b
      have h2 : a.natAbs * b.natAbs ≤ 100000 * 100000 := Nat.mul_le_mul (by omega) (by omega)
      omega
    omega
  · have := Int.natAbs_mul a b
    have h2 : a.natAbs * b.natAbs ≤ 100000 * 100000 := Nat.mul_le_mul (by omega) (by omega)
    omega
set_option maxHeartbeats 400000 in
theorem cross_c (a b c d : Int) (w : World) (ha : fine a) (hb : fine b) (hc : fine c) (hd : fine d) :
    Calls Try.prog 100 #[vecV a b, vecV c d] w fun e w' => e = .returned (.int .i64 (crossZ a b c d)) ∧ Ext w w' := by
  have m1 := mul_fine ha hd
  have m2 := mul_fine hb hc
  have e1 : wrap64 (a * d) = a * d := by unfold wrap64; omega
  have e2 : wrap64 (b * c) = b * c := by unfold wrap64; omega
  have e3 : wrap64 (a * d - b * c) = a * d - b * c := by unfold wrap64; omega
  clear ha hb hc hd m1 m2
  go_enter Try.func100, Try.ntmps100
  go_wp2
  all_goals go_ret
  all_goals exact ⟨ret_int (by first | rfl | simp [crossZ, e3]), by (repeat' (first | exact Below.refl _ _ | refine Below.drew ?_ | refine Below.alloc ?_ (by simp <;> omega) _ | refine Below.setCell ?_ (by simp <;> omega) _))⟩
def dotV (a b c d : Int) : Int := a * c + b * d
set_option maxHeartbeats 400000 in
theorem dot_c (a b c d : Int) (w : World) (ha : fine a) (hb : fine b) (hc : fine c) (hd : fine d) :
    Calls Try.prog 130 #[vecV a b, vecV c d] w fun e w' => e = .returned (.int .i64 (dotV a b c d)) ∧ Ext w w' := by
  have m1 := mul_fine ha hc
  have m2 := mul_fine hb hd
  have e1 : wrap64 (a * c) = a * c := by unfold wrap64; omega
  have e2 : wrap64 (b * d) = b * d := by unfold wrap64; omega
  have e3 : wrap64 (a * c + b * d) = a * c + b * d := by unfold wrap64; omega
  clear ha hb hc hd m1 m2
  go_enter Try.func130, Try.ntmps130
  go_wp2
  all_goals go_ret
  all_goals exact ⟨ret_int (by first | rfl | simp [dotV, e3]), by (repeat' (first | exact Below.refl _ _ | refine Below.drew ?_ | refine Below.alloc ?_ (by simp <;> omega) _ | refine Below.setCell ?_ (by simp <;> omega) _))⟩
set_option maxHeartbeats 400000 in
theorem outward_c (a b c d : Int) (w : World) (hc : fine c) :
    Calls Try.prog 129 #[.agg #[.int .i64 a, .int .i64 b, .int .i64 c, .int .i64 d]] w fun e w' => e = .returned (vecV d (-c)) ∧ Ext w w' := by
  unfold fine at *
  go_enter Try.func129, Try.ntmps129
  go_wp2
  all_goals ((try simp only [Exit.inBlock, Exit.then]); refine bodyPost_ret (by rw [results_cell1 rfl]; go_simp; rfl) rfl ?_)
  all_goals exact ⟨rfl, by (repeat' (first | exact Below.refl _ _ | refine Below.drew ?_ | refine Below.alloc ?_ (by simp <;> omega) _ | refine Below.setCell ?_ (by simp <;> omega) _))⟩
def farB (a b : Int) : Bool := decide (a < -1000) || decide (1000 < a) || decide (b < -1000) || decide (1000 < b)
set_option maxHeartbeats 400000 in
theorem far_c (a b : Int) (w : World) :
    Calls Try.prog 79 #[vecV a b] w fun e w' => e = .returned (.bool (farB a b)) ∧ Ext w w' := by
  have hb : farB a b = (decide (a < -1000) || decide (1000 < a) || decide (b < -1000) || decide (1000 < b)) := rfl
  by_cases h1 : a < -1000
  · have e : farB a b = true := by simp [farB, h1]
    rw [e]; clear hb e
    go_enter Try.func79, Try.ntmps79
    go_wp2
    all_goals go_ret
    all_goals exact ⟨rfl, by (repeat' (first | exact Below.refl _ _ | refine Below.drew ?_ | refine Below.alloc ?_ (by simp <;> omega) _ | refine Below.setCell ?_ (by simp <;> omega) _))⟩
  · by_cases h2 : 1000 < a
    · have e : farB a b = true := by simp [farB, h2]
      rw [e]; clear hb e
      go_enter Try.func79, Try.ntmps79
      go_wp2
      all_goals go_ret
      all_goals exact ⟨rfl, by (repeat' (first | exact Below.refl _ _ | refine Below.drew ?_ | refine Below.alloc ?_ (by simp <;> omega) _ | refine Below.setCell ?_ (by simp <;> omega) _))⟩
    · by_cases h3 : b < -1000
      · have e : farB a b = true := by simp [farB, h3]
        rw [e]; clear hb e
        go_enter Try.func79, Try.ntmps79
        go_wp2
        all_goals go_ret
        all_goals exact ⟨rfl, by (repeat' (first | exact Below.refl _ _ | refine Below.drew ?_ | refine Below.alloc ?_ (by simp <;> omega) _ | refine Below.setCell ?_ (by simp <;> omega) _))⟩
      · by_cases h4 : 1000 < b
        · have e : farB a b = true := by simp [farB, h4]
          rw [e]; clear hb e
          go_enter Try.func79, Try.ntmps79
          go_wp2
          all_goals go_ret
          all_goals exact ⟨rfl, by (repeat' (first | exact Below.refl _ _ | refine Below.drew ?_ | refine Below.alloc ?_ (by simp <;> omega) _ | refine Below.setCell ?_ (by simp <;> omega) _))⟩
        · have e : farB a b = false := by simp [farB, h1, h2, h3, h4]
          rw [e]; clear hb e
          go_enter Try.func79, Try.ntmps79
          go_wp2
          all_goals go_ret
          all_goals exact ⟨rfl, by (repeat' (first | exact Below.refl _ _ | refine Below.drew ?_ | refine Below.alloc ?_ (by simp <;> omega) _ | refine Below.setCell ?_ (by simp <;> omega) _))⟩
end Go.Proofs.Ytnpebfchojalcaa
