import Derived.Test.YtblaipkhmmaenaaE7
import Derived.Test.YtblaipkhmmaenaaD2
import Derived.OwnWalk
namespace Go.Proofs.Ytblaipkhmmaenaa
open Go.RowKit
def leafC : Nat → Value
  | 0 => .int .i64 (-1)
  | 1 => .int .i64 0
  | 2 => .slice none 0 0
  | _ => .int .i64 1
def zeroC : Nat → Value
  | 2 => .slice none 0 0
  | _ => .int .i64 0
/-- the cells of n nodes, of which the first k are leaves -/
def nodesL (k n : Nat) : List Value := (List.range (n * 4)).map fun i => if i / 4 < k then leafC (i % 4) else zeroC (i % 4)
theorem nodesL_get {k n i : Nat} (h : i < n * 4) : (nodesL k n)[i]? = some (if i / 4 < k then leafC (i % 4) else zeroC (i % 4)) := by
  simp [nodesL, h]
theorem nodesL_zero (n : Nat) : (madeCells #[.int .i64 0, .int .i64 0, .slice none 0 0, .int .i64 0] (n * 4)).toList = nodesL 0 n := by
  apply List.ext_getElem?
  intro i
  by_cases h : i < n * 4
  · rw [nodesL_get h]
    simp only [madeCells, Nat.not_lt_zero, if_false]
    have hm : i % 4 < 4 := Nat.mod_lt _ (by omega)
    generalize hr : i % 4 = r at *
    match r, hm with
    | 0, _ => simp [h, hr, zeroC]
    | 1, _ => simp [h, hr, zeroC]
    | 2, _ => simp [h, hr, zeroC]
    | 3, _ => simp [h, hr, zeroC]
  · rw [List.getElem?_eq_none (by simp [madeCells]; omega), List.getElem?_eq_none (by simp [nodesL]; omega)]
theorem nodesL_step {k n : Nat} : ((((nodesL k n).set (k * 4) (.int .i64 (-1))).set (k * 4 + 1) (.int .i64 0)).set (k * 4 + 2) (.slice none 0 0)).set (k * 4 + 3) (.int .i64 1) = nodesL (k + 1) n := by
  apply List.ext_getElem?
  intro i
  by_cases hi : i < n * 4
  · rw [nodesL_get hi]
    simp only [List.getElem?_set, List.length_set, show (nodesL k n).length = n * 4 by simp [nodesL]]
    by_cases h3 : k * 4 + 3 = i
    · subst h3
      simp [show k * 4 + 3 < n * 4 by omega, show (k * 4 + 3) / 4 < k + 1 by omega, show (k * 4 + 3) % 4 = 3 by omega, leafC]
    · by_cases h2 : k * 4 + 2 = i
      · subst h2
        simp [show k * 4 + 2 < n * 4 by omega, show (k * 4 + 2) / 4 < k + 1 by omega, show (k * 4 + 2) % 4 = 2 by omega, leafC]
      · by_cases h1 : k * 4 + 1 = i
        · subst h1
          simp [show k * 4 + 1 < n * 4 by omega, show (k * 4 + 1) / 4 < k + 1 by omega, show (k * 4 + 1) % 4 = 1 by omega, leafC]
        · by_cases h0 : k * 4 = i
          · subst h0
            simp [show k * 4 < n * 4 by omega, show (k * 4) % 4 = 0 by omega, leafC]
          · rw [if_neg h3, if_neg h2, if_neg h1, if_neg h0, nodesL_get hi]
            have : (i / 4 < k) ↔ (i / 4 < k + 1) := by omega
            simp only [this]
  · rw [List.getElem?_eq_none (by simp [nodesL]; omega), List.getElem?_eq_none (by simp [nodesL]; omega)]
def limP : Who := ⟨[], [], [1], [7]⟩
theorem lim_who : whoB limP = true := by decide +kernel
def limS (at' : Int) : Nd := ⟨0, at', .slice none 0 0, [], 0⟩
def limL : Nd := ⟨-1, 0, .slice none 0 0, [], 1⟩
theorem lim_run {at' : Int} (h0 : 0 ≤ at') (h7 : at' < 7) {ns : List Nd} (e0 : ns[0]? = some (limS at')) (e1 : ns[1]? = some limL) (e2 : ns[2]? = some limL) : runM limP (goalsOf limP true 0) [boxM limP] ns 3 = some [] := by
  have hat : at' = 0 ∨ at' = 1 ∨ at' = 2 ∨ at' = 3 ∨ at' = 4 ∨ at' = 5 ∨ at' = 6 := by omega
  simp only [runM, e0, e1, e2]
  rcases hat with rfl | rfl | rfl | rfl | rfl | rfl | rfl <;> decide +kernel
theorem lim_four {at' : Int} (h0 : 0 ≤ at') (h7 : at' < 7) {ns : List Nd} (e0 : ns[0]? = some (limS at')) (e1 : ns[1]? = some limL) (e2 : ns[2]? = some limL) (hn : 4 ≤ ns.length) : accM limP (goalsOf limP true 0) ns = false := by
  have h3 := lim_run h0 h7 e0 e1 e2
  have h4 : runM limP (goalsOf limP true 0) [boxM limP] ns 4 = none := by
    rw [runM, h3]
    cases ns[3]? <;> rfl
  have := runM_none h4 hn
  simp [accM, this]
theorem lim_three {at' : Int} (h0 : 0 ≤ at') (h7 : at' < 7) : accM limP (goalsOf limP true 0) [limS at', limL, limL] = true := by
  simp only [accM, List.length_cons, List.length_nil, Nat.zero_add, Nat.reduceAdd, lim_run h0 h7 (ns := [limS at', limL, limL]) rfl rfl rfl, decide_true]
end Go.Proofs.Ytblaipkhmmaenaa
