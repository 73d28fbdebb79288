import Derived.Test.YtnpebfchojalcaaC4
namespace Go.Proofs.Ytnpebfchojalcaa
set_option maxRecDepth 100000
open Go.RowKit Go.Shelf
/-- the parts that a step makes of a rectangle -/
def splitV (W H : Nat) (k n : Int) : Value :=
  if k = 2 ∧ 1 ≤ n ∧ n < (W : Int) then .tuple #[rectV n H, rectV ((W : Int) - n) H, .bool true]
  else if k = 3 ∧ 1 ≤ n ∧ n < (H : Int) then .tuple #[rectV W n, rectV W ((H : Int) - n), .bool true]
  else .tuple #[rectV 0 0, rectV 0 0, .bool false]
def cutV (k n : Int) : Value := .agg #[.int .i64 k, .int .i64 n]
theorem results_cells_tmp {fn : Func} {p q r : Tmp} {ty ty2 : TypeId} (h : fn.results = #[.cell p ty, .cell q ty2, .tmp r]) (tmps : Array Value) (P : Program) (w : World) :
    (results fn tmps).run P w = ((asAddr (tmps.getD p undef)).run P w).andThen fun a w₁ => ((loadVar ty a).run P w₁).andThen fun v w₂ => ((asAddr (tmps.getD q undef)).run P w₂).andThen fun a2 w₃ => ((loadVar ty2 a2).run P w₃).andThen fun v2 w₄ => .ok (.tuple #[v, v2, tmps.getD r undef]) w₄ := by
  simp only [results, h]
  simp only [Array.mapM_eq_foldlM, List.foldlM_toArray']
  simp [Sem.run_bind, Result.andThen]
theorem ext4 (w : World) (a b c d : Obj) : Ext w ((((w.alloc a).alloc b).alloc c).alloc d) := Ext.alloc (Ext.alloc (Ext.alloc (Ext.alloc (Ext.refl w) a) b) c) d
set_option maxHeartbeats 2000000 in
theorem split_c (W H : Nat) (k n : Int) (w : World) (hW : W ≤ 100) (hH : H ≤ 100) : Calls Try.prog 97 #[rectV W H, cutV k n] w fun e w' => e = .returned (splitV W H k n) ∧ Ext w w' := by
  unfold rectV cutV
  by_cases h1 : k = 2 ∧ 1 ≤ n ∧ n < (W : Int)
  · have HS := Lib.hid (show splitV W H k n = .tuple #[rectV n H, rectV ((W : Int) - n) H, .bool true] by unfold splitV; rw [if_pos h1])
    generalize splitV W H k n = S at *
    obtain ⟨rfl, h2, h3⟩ := h1
    have hsub : IntKind.i64.wrap ((W : Int) - n) = (W : Int) - n := IntWalk.i64_in _ (by omega)
    go_enter Try.func97, Try.ntmps97
    go_wp2_with fail
    go_region
    go_wp2
    (try simp only [Exit.inBlock, Exit.then])
    refine bodyPost_ret (v := .tuple #[.agg #[.int .i64 n, .int .i64 (H : Int)], .agg #[.int .i64 ((W : Int) - n), .int .i64 (H : Int)], .bool true]) (by rw [results_cells_tmp rfl]; go_simp) rfl ?_
    exact ⟨by rw [HS.out]; rfl, by first | exact Ext.drew (ext4 _ _ _ _ _) | exact ext4 _ _ _ _ _⟩
  · by_cases h2 : k = 3 ∧ 1 ≤ n ∧ n < (H : Int)
    · have HS := Lib.hid (show splitV W H k n = .tuple #[rectV W n, rectV W ((H : Int) - n), .bool true] by unfold splitV; rw [if_neg h1, if_pos h2])
      generalize splitV W H k n = S at *
      obtain ⟨rfl, h2, h3⟩ := h2
      clear h1
      have hsub : IntKind.i64.wrap ((H : Int) - n) = (H : Int) - n := IntWalk.i64_in _ (by omega)
      go_enter Try.func97, Try.ntmps97
      go_wp2_with fail
      go_region
      go_wp2
      (try simp only [Exit.inBlock, Exit.then])
      refine bodyPost_ret (v := .tuple #[.agg #[.int .i64 (W : Int), .int .i64 n], .agg #[.int .i64 (W : Int), .int .i64 ((H : Int) - n)], .bool true]) (by rw [results_cells_tmp rfl]; go_simp) rfl ?_
      exact ⟨by rw [HS.out]; rfl, by first | exact Ext.drew (ext4 _ _ _ _ _) | exact ext4 _ _ _ _ _⟩
    · have HS := Lib.hid (show splitV W H k n = .tuple #[rectV 0 0, rectV 0 0, .bool false] by unfold splitV; rw [if_neg h1, if_neg h2])
      generalize splitV W H k n = S at *
      by_cases k2 : k = 2
      · subst k2
        have h1 : ¬ (1 ≤ n ∧ n < (W : Int)) := fun h => h1 ⟨rfl, h⟩
        clear h2
        by_cases n1 : 1 ≤ n
        · have h1 : ¬ n < (W : Int) := fun h => h1 ⟨n1, h⟩
          go_enter Try.func97, Try.ntmps97
          go_wp2_with fail
          go_wp2
          (try simp only [Exit.inBlock, Exit.then])
          refine bodyPost_ret (v := .tuple #[.agg #[.int .i64 0, .int .i64 0], .agg #[.int .i64 0, .int .i64 0], .bool false]) (by rw [results_cells_tmp rfl]; go_simp) rfl ?_
          exact ⟨by rw [HS.out]; rfl, by first | exact Ext.drew (ext4 _ _ _ _ _) | exact ext4 _ _ _ _ _⟩
        · clear h1
          go_enter Try.func97, Try.ntmps97
          go_wp2_with fail
          go_wp2
          (try simp only [Exit.inBlock, Exit.then])
          refine bodyPost_ret (v := .tuple #[.agg #[.int .i64 0, .int .i64 0], .agg #[.int .i64 0, .int .i64 0], .bool false]) (by rw [results_cells_tmp rfl]; go_simp) rfl ?_
          exact ⟨by rw [HS.out]; rfl, by first | exact Ext.drew (ext4 _ _ _ _ _) | exact ext4 _ _ _ _ _⟩
      · clear h1
        by_cases k3 : k = 3
        · subst k3
          have h2 : ¬ (1 ≤ n ∧ n < (H : Int)) := fun h => h2 ⟨rfl, h⟩
          by_cases n1 : 1 ≤ n
          · have h2 : ¬ n < (H : Int) := fun h => h2 ⟨n1, h⟩
            go_enter Try.func97, Try.ntmps97
            go_wp2_with fail
            go_wp2
            (try simp only [Exit.inBlock, Exit.then])
            refine bodyPost_ret (v := .tuple #[.agg #[.int .i64 0, .int .i64 0], .agg #[.int .i64 0, .int .i64 0], .bool false]) (by rw [results_cells_tmp rfl]; go_simp) rfl ?_
            exact ⟨by rw [HS.out]; rfl, by first | exact Ext.drew (ext4 _ _ _ _ _) | exact ext4 _ _ _ _ _⟩
          · clear h2
            go_enter Try.func97, Try.ntmps97
            go_wp2_with fail
            go_wp2
            (try simp only [Exit.inBlock, Exit.then])
            refine bodyPost_ret (v := .tuple #[.agg #[.int .i64 0, .int .i64 0], .agg #[.int .i64 0, .int .i64 0], .bool false]) (by rw [results_cells_tmp rfl]; go_simp) rfl ?_
            exact ⟨by rw [HS.out]; rfl, by first | exact Ext.drew (ext4 _ _ _ _ _) | exact ext4 _ _ _ _ _⟩
        · clear h2
          have e2 : (k == 2) = false := by simp [k2]
          have e3 : (k == 3) = false := by simp [k3]
          clear k2 k3
          go_enter Try.func97, Try.ntmps97
          go_wp2_with fail
          go_wp2
          (try simp only [Exit.inBlock, Exit.then])
          refine bodyPost_ret (v := .tuple #[.agg #[.int .i64 0, .int .i64 0], .agg #[.int .i64 0, .int .i64 0], .bool false]) (by rw [results_cells_tmp rfl]; go_simp) rfl ?_
          exact ⟨by rw [HS.out]; rfl, by first | exact Ext.drew (ext4 _ _ _ _ _) | exact ext4 _ _ _ _ _⟩
end Go.Proofs.Ytnpebfchojalcaa
