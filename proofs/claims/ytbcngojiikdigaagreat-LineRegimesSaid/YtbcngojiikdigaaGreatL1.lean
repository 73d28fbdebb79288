import Derived.Test.YtbcngojiikdigaaGreatL0
import Derived.Test.YtbcngojiikdigaaGreatM1
namespace Go.Proofs.YtbcngojiikdigaaGreat
set_option maxRecDepth 100000
open Go.RowKit Go.Shelf
def KB : Int := 288230376151711744
abbrev iv (x : E) : Value := .int .i64 (val x)
theorem val_some_ne {K : Int} (hK : K < 1152921504606846976) {a : Int} (h : bdE K (some a)) : a ≠ -1152921504606846976 := by
  have := h a rfl
  omega
theorem times_n1 (b : Int) (w : World) : Calls Tryz.prog 96 #[.int .i64 (-1152921504606846976), .int .i64 b] w fun e w' => e = .returned (.int .i64 (-1152921504606846976)) ∧ w = w' := by
  go_enter Tryz.func96, Tryz.ntmps96
  go_wp2_with fail
  go_ret
  exact ⟨rfl, rfl⟩
theorem times_n2 (a : Int) (w : World) (hn : a ≠ -1152921504606846976) : Calls Tryz.prog 96 #[.int .i64 a, .int .i64 (-1152921504606846976)] w fun e w' => e = .returned (.int .i64 (-1152921504606846976)) ∧ w = w' := by
  have e1 : (a == -1152921504606846976) = false := by simp [hn]
  go_enter Tryz.func96, Tryz.ntmps96
  go_wp2_with fail
  go_ret
  exact ⟨rfl, rfl⟩
theorem times_n3 (a b : Int) (w : World) (hn : a ≠ -1152921504606846976) (hn2 : b ≠ -1152921504606846976) (ha : -288230376151711744 ≤ a ∧ a ≤ 288230376151711744) (hb : -288230376151711744 ≤ b ∧ b ≤ 288230376151711744) : Calls Tryz.prog 96 #[.int .i64 a, .int .i64 b] w fun e w' => e = .returned (.int .i64 (a + b)) ∧ w = w' := by
  have e1 : (a == -1152921504606846976) = false := by simp [hn]
  have e2 : (b == -1152921504606846976) = false := by simp [hn2]
  go_enter Tryz.func96, Tryz.ntmps96
  go_wp2_with fail
  go_ret
  exact ⟨rfl, rfl⟩
theorem times_c (x y : E) (w : World) (hx : bdE KB x) (hy : bdE KB y) : Calls Tryz.prog 96 #[iv x, iv y] w fun e w' => e = .returned (iv (ep x y)) ∧ w = w' := by
  cases x with
  | none => exact times_n1 _ w
  | some a =>
    cases y with
    | none => exact times_n2 a w (val_some_ne (by decide) hx)
    | some b => exact times_n3 a b w (val_some_ne (by decide) hx) (val_some_ne (by decide) hy) (hx a rfl) (hy b rfl)
theorem max_lt (a b : Int) (w : World) (hh : a < b) : Calls Tryz.prog 156 #[.int .i64 a, .int .i64 b] w fun e w' => e = .returned (.int .i64 b) ∧ w = w' := by
  go_enter Tryz.func156, Tryz.ntmps156
  go_wp2_with fail
  go_ret
  exact ⟨rfl, rfl⟩
theorem max_ge (a b : Int) (w : World) (hh : b < a) : Calls Tryz.prog 156 #[.int .i64 a, .int .i64 b] w fun e w' => e = .returned (.int .i64 a) ∧ w = w' := by
  go_enter Tryz.func156, Tryz.ntmps156
  go_wp2_with fail
  go_ret
  exact ⟨rfl, rfl⟩
theorem max_eq (a : Int) (w : World) : Calls Tryz.prog 156 #[.int .i64 a, .int .i64 a] w fun e w' => e = .returned (.int .i64 a) ∧ w = w' := by
  go_enter Tryz.func156, Tryz.ntmps156
  go_wp2_with fail
  go_ret
  exact ⟨rfl, rfl⟩
theorem plus_c (x y : E) (w : World) (hx : bdE KB x) (hy : bdE KB y) : Calls Tryz.prog 156 #[iv x, iv y] w fun e w' => e = .returned (iv (em x y)) ∧ w = w' := by
  have key : ∀ a b : Int, (if a < b then b else a) = val (em x y) → Calls Tryz.prog 156 #[.int .i64 a, .int .i64 b] w fun e w' => e = .returned (iv (em x y)) ∧ w = w' := by
    intro a b h
    unfold iv
    rw [← h]
    rcases Int.lt_trichotomy a b with hh | hh | hh
    · rw [if_pos hh]; exact max_lt a b w hh
    · subst hh; rw [if_neg (by omega)]; exact max_eq a w
    · rw [if_neg (by omega)]; exact max_ge a b w hh
  apply key
  cases x with
  | none =>
    cases y with
    | none => rfl
    | some b =>
      have := hy b rfl
      unfold KB at this
      show (if (-1152921504606846976 : Int) < b then b else -1152921504606846976) = b
      rw [if_pos (by omega)]
  | some a =>
    cases y with
    | none =>
      have := hx a rfl
      unfold KB at this
      show (if a < (-1152921504606846976 : Int) then -1152921504606846976 else a) = a
      rw [if_neg (by omega)]
    | some b => rfl
theorem zero_c (v : Value) (w : World) : Calls Tryz.prog 157 #[v] w fun e w' => e = .returned (iv none) ∧ w = w' := by
  go_enter Tryz.func157, Tryz.ntmps157
  go_wp2_with fail
  go_ret
  exact ⟨rfl, rfl⟩
theorem one_c (v : Value) (w : World) : Calls Tryz.prog 155 #[v] w fun e w' => e = .returned (iv (some 0)) ∧ w = w' := by
  go_enter Tryz.func155, Tryz.ntmps155
  go_wp2_with fail
  go_ret
  exact ⟨rfl, rfl⟩
end Go.Proofs.YtbcngojiikdigaaGreat
