import Derived.Test.YtblaipkhmmaenaaC10
namespace Go.Proofs.Ytblaipkhmmaenaa
open Go.RowKit
def aliveP : Who := ⟨[[2, 1]], [3], [3, 2], [3, 3]⟩
theorem alive_best : bestK aliveP (sizeU aliveP.U) = some [1, 1] := by decide +kernel
theorem alive_who : whoB aliveP = true := by decide +kernel
theorem alive_good : goodB aliveP [3] 2 [0, 0, 0, 0, 0] (padU aliveP.U) (goalsOf aliveP true 5) = true := by decide +kernel
theorem alive_cost : dotZ aliveP.C [1, 1] = 5 := by decide +kernel
theorem ints_new {w : World} {g : Nat} {xs : List Int} {n : Nat} (h : IRow w g 3 xs) (hn : n = xs.length) (h9 : xs.length ≤ 9) : Ints w (.slice (some ⟨g, 0, none⟩) n n) xs := by
  subst hn
  exact IRow.ints h (Nat.le_refl _) (by omega)
theorem alive_at {w : World} {s : Nat} (h0 : IRow w s 3 [2, 1]) (h1 : VRow w (s + 1) 23 [.slice (some ⟨s, 0, none⟩) 2 2]) (h2 : IRow w (s + 2) 3 [3]) (h3 : IRow w (s + 3) 3 [3, 2]) (h4 : IRow w (s + 4) 3 [3, 3]) :
    WhoAt w (.slice (some ⟨s + 1, 0, none⟩) 1 1) (.slice (some ⟨s + 2, 0, none⟩) 1 1) (.slice (some ⟨s + 3, 0, none⟩) 2 2) (.slice (some ⟨s + 4, 0, none⟩) 2 2) aliveP := by
  refine ⟨⟨⟨_, 1, [.slice (some ⟨s, 0, none⟩) 2 2], rfl, Nat.le_refl _, by omega, VRow.row h1, rfl, fun k u x hu hx => ?_⟩, ints_new h2 rfl (by decide), ints_new h3 rfl (by decide)⟩, ints_new h4 rfl (by decide)⟩
  match k, hu, hx with
  | 0, hu, hx =>
    simp only [List.getElem?_cons_zero, Option.some.injEq] at hu
    simp only [aliveP, List.getElem?_cons_zero, Option.some.injEq] at hx
    subst hu hx
    exact ints_new h0 rfl (by decide)
theorem alive_world (w : World) : ∀ W, W = (((((((w.alloc (.cells #[.int .i64 2, .int .i64 1] 3)).alloc (.cells #[.slice (some ⟨w.heap.size, 0, none⟩) 2 2] 23)).alloc (.cells #[.int .i64 3] 3)).alloc (.cells #[.int .i64 3, .int .i64 2] 3)).alloc (.cells #[.int .i64 3, .int .i64 3] 3)).alloc
      (.cells #[.slice (some ⟨w.heap.size + 1, 0, none⟩) 1 1, .slice (some ⟨w.heap.size + 1 + 1, 0, none⟩) 1 1, .slice (some ⟨w.heap.size + 1 + 1 + 1, 0, none⟩) 2 2, .slice (some ⟨w.heap.size + 1 + 1 + 1 + 1, 0, none⟩) 2 2] 25))) →
    Ext w W ∧ WhoAt W (.slice (some ⟨w.heap.size + 1, 0, none⟩) 1 1) (.slice (some ⟨w.heap.size + 1 + 1, 0, none⟩) 1 1) (.slice (some ⟨w.heap.size + 1 + 1 + 1, 0, none⟩) 2 2) (.slice (some ⟨w.heap.size + 1 + 1 + 1 + 1, 0, none⟩) 2 2) aliveP ∧
    VRow W (w.heap.size + 1 + 1 + 1 + 1 + 1) 25 [.slice (some ⟨w.heap.size + 1, 0, none⟩) 1 1, .slice (some ⟨w.heap.size + 1 + 1, 0, none⟩) 1 1, .slice (some ⟨w.heap.size + 1 + 1 + 1, 0, none⟩) 2 2, .slice (some ⟨w.heap.size + 1 + 1 + 1 + 1, 0, none⟩) 2 2] := by
  intro W e
  have h0 := vrow_alloc w [.int .i64 2, .int .i64 1] 3
  have E0 := Ext.alloc (Ext.refl w) (.cells [.int .i64 2, .int .i64 1].toArray 3)
  have s0 : (w.alloc (.cells [.int .i64 2, .int .i64 1].toArray 3)).heap.size = w.heap.size + 1 := by simp
  generalize (w.alloc (.cells [.int .i64 2, .int .i64 1].toArray 3)) = w1 at *
  have h1 := vrow_alloc w1 [.slice (some ⟨w.heap.size, 0, none⟩) 2 2] 23
  have g0 := VRow.alloc h0 (.cells [.slice (some ⟨w.heap.size, 0, none⟩) 2 2].toArray 23)
  have E1 := Ext.alloc E0 (.cells [.slice (some ⟨w.heap.size, 0, none⟩) 2 2].toArray 23)
  have s1 : (w1.alloc (.cells [.slice (some ⟨w.heap.size, 0, none⟩) 2 2].toArray 23)).heap.size = w.heap.size + 1 + 1 := by simp [s0]
  rw [s0] at h1
  generalize (w1.alloc (.cells [.slice (some ⟨w.heap.size, 0, none⟩) 2 2].toArray 23)) = w2 at *
  have h2 := vrow_alloc w2 [.int .i64 3] 3
  have g1 := VRow.alloc h1 (.cells [.int .i64 3].toArray 3)
  have g0 := VRow.alloc g0 (.cells [.int .i64 3].toArray 3)
  have E2 := Ext.alloc E1 (.cells [.int .i64 3].toArray 3)
  have s2 : (w2.alloc (.cells [.int .i64 3].toArray 3)).heap.size = w.heap.size + 1 + 1 + 1 := by simp [s1]
  rw [s1] at h2
  generalize (w2.alloc (.cells [.int .i64 3].toArray 3)) = w3 at *
  have h3 := vrow_alloc w3 [.int .i64 3, .int .i64 2] 3
  have g2 := VRow.alloc h2 (.cells [.int .i64 3, .int .i64 2].toArray 3)
  have g1 := VRow.alloc g1 (.cells [.int .i64 3, .int .i64 2].toArray 3)
  have g0 := VRow.alloc g0 (.cells [.int .i64 3, .int .i64 2].toArray 3)
  have E3 := Ext.alloc E2 (.cells [.int .i64 3, .int .i64 2].toArray 3)
  have s3 : (w3.alloc (.cells [.int .i64 3, .int .i64 2].toArray 3)).heap.size = w.heap.size + 1 + 1 + 1 + 1 := by simp [s2]
  rw [s2] at h3
  generalize (w3.alloc (.cells [.int .i64 3, .int .i64 2].toArray 3)) = w4 at *
  have h4 := vrow_alloc w4 [.int .i64 3, .int .i64 3] 3
  have g3 := VRow.alloc h3 (.cells [.int .i64 3, .int .i64 3].toArray 3)
  have g2 := VRow.alloc g2 (.cells [.int .i64 3, .int .i64 3].toArray 3)
  have g1 := VRow.alloc g1 (.cells [.int .i64 3, .int .i64 3].toArray 3)
  have g0 := VRow.alloc g0 (.cells [.int .i64 3, .int .i64 3].toArray 3)
  have E4 := Ext.alloc E3 (.cells [.int .i64 3, .int .i64 3].toArray 3)
  have s4 : (w4.alloc (.cells [.int .i64 3, .int .i64 3].toArray 3)).heap.size = w.heap.size + 1 + 1 + 1 + 1 + 1 := by simp [s3]
  rw [s3] at h4
  generalize (w4.alloc (.cells [.int .i64 3, .int .i64 3].toArray 3)) = w5 at *
  have hW := alive_at g0 g1 g2 g3 h4
  have h5 := vrow_alloc w5 [.slice (some ⟨w.heap.size + 1, 0, none⟩) 1 1, .slice (some ⟨w.heap.size + 1 + 1, 0, none⟩) 1 1, .slice (some ⟨w.heap.size + 1 + 1 + 1, 0, none⟩) 2 2, .slice (some ⟨w.heap.size + 1 + 1 + 1 + 1, 0, none⟩) 2 2] 25
  rw [s4] at h5
  have E5 := Ext.alloc E4 (.cells [.slice (some ⟨w.heap.size + 1, 0, none⟩) 1 1, .slice (some ⟨w.heap.size + 1 + 1, 0, none⟩) 1 1, .slice (some ⟨w.heap.size + 1 + 1 + 1, 0, none⟩) 2 2, .slice (some ⟨w.heap.size + 1 + 1 + 1 + 1, 0, none⟩) 2 2].toArray 25)
  subst e
  exact ⟨E5, hW.ext (Ext.alloc (Ext.refl _) _), h5⟩
theorem leaf_at {w : World} {s : Nat} (h0 : IRow w s 3 [3]) (h1 : VRow w (s + 1) 40 [.int .i64 (-1), .int .i64 0, .slice (some ⟨s, 0, none⟩) 1 1, .int .i64 2]) :
    NodesAt w (.slice (some ⟨s + 1, 0, none⟩) 1 1) [⟨-1, 0, .slice (some ⟨s, 0, none⟩) 1 1, [3], 2⟩] := by
  refine ⟨_, 1, rfl, Nat.le_refl _, by omega, fun _ => ⟨s + 1, 0, rfl, fun k nd hk => ?_⟩⟩
  match k, hk with
  | 0, hk =>
    simp only [List.getElem?_cons_zero, Option.some.injEq] at hk
    subst hk
    exact ⟨VRow.cell h1 (k := 0) rfl, VRow.cell h1 (k := 1) rfl, VRow.cell h1 (k := 2) rfl, VRow.cell h1 (k := 3) rfl, ints_new h0 rfl (by show 1 ≤ 9; omega)⟩
set_option maxRecDepth 100000 in
set_option maxHeartbeats 2000000 in
theorem alive_c (w : World) : Calls Try.prog 10 #[] w fun e w' => e = .returned (.bool true) ∧ Ext w w' := by
  go_enter Try.func10, Try.ntmps10
  go_wp2_with fail
  obtain ⟨hE, hW, hV⟩ := alive_world w _ rfl
  have hS := solve_c _ _ _ _ _ _ hW
  generalize hgen : (((((((w.alloc (.cells #[.int .i64 2, .int .i64 1] 3)).alloc (.cells #[.slice (some ⟨w.heap.size, 0, none⟩) 2 2] 23)).alloc (.cells #[.int .i64 3] 3)).alloc (.cells #[.int .i64 3, .int .i64 2] 3)).alloc (.cells #[.int .i64 3, .int .i64 3] 3)).alloc
      (.cells #[.slice (some ⟨w.heap.size + 1, 0, none⟩) 1 1, .slice (some ⟨w.heap.size + 1 + 1, 0, none⟩) 1 1, .slice (some ⟨w.heap.size + 1 + 1 + 1, 0, none⟩) 2 2, .slice (some ⟨w.heap.size + 1 + 1 + 1 + 1, 0, none⟩) 2 2] 25))) = W at *
  clear hgen
  have HE := Lib.hid hE
  have HV := Lib.hid hV
  have HW := Lib.hid hW
  clear hE hV hW
  refine hS.mono ?_
  clear hS
  rintro e w1 ⟨hE1, h⟩
  rcases h with ⟨h, _⟩ | ⟨_, h, _⟩ | ⟨_, x, v, hx, rfl, hO⟩
  · rw [alive_who] at h; cases h
  · rw [alive_best] at h; cases h
  rw [alive_best] at hx
  cases hx
  rw [alive_cost]
  have HE1 := Lib.hid (HE.out.trans hE1)
  have HV1 := Lib.hid (VRow.ext HV.out hE1)
  have HW1 := Lib.hid (HW.out.ext hE1)
  have HX := Lib.hid hO.ints
  have q0 := VRow.cell HV1.out (k := 0) rfl
  have q1 := VRow.cell HV1.out (k := 1) rfl
  have q2 := VRow.cell HV1.out (k := 2) rfl
  have q3 := VRow.cell HV1.out (k := 3) rfl
  clear HE HV HW hE1 hO
  go_wp2_with fail
  clear q0 q1 q2 q3
  have a0 := vrow_alloc w1 [.int .i64 3] 3
  have a1 := vrow_alloc (w1.alloc (.cells [.int .i64 3].toArray 3)) [.int .i64 (-1), .int .i64 0, .slice (some ⟨w1.heap.size, 0, none⟩) 1 1, .int .i64 2] 40
  have a2 := VRow.alloc a0 (.cells [.int .i64 (-1), .int .i64 0, .slice (some ⟨w1.heap.size, 0, none⟩) 1 1, .int .i64 2].toArray 40)
  have aE := Ext.alloc (Ext.alloc (Ext.refl w1) (.cells [.int .i64 3].toArray 3)) (.cells [.int .i64 (-1), .int .i64 0, .slice (some ⟨w1.heap.size, 0, none⟩) 1 1, .int .i64 2].toArray 40)
  rw [World.size_alloc] at a1
  have hC := checkLeaf_c _ _ _ _ _ true 5 _ _ _ (HW1.out.ext aE) (leaf_at a2 a1) (by show (-1 : Int) < 0; omega)
  refine hC.mono ?_
  clear hC a0 a1 a2
  rintro e w2 ⟨rfl, hE2⟩
  rw [alive_good, alive_who]
  have HE2 := Lib.hid (HE1.out.trans (aE.trans hE2))
  have b0 := vrow_alloc w2 [.int .i64 1, .int .i64 1] 3
  have hSm := same_c _ _ _ _ _ ((HX.out.ext (aE.trans hE2)).ext (Ext.alloc (Ext.refl w2) (.cells [.int .i64 1, .int .i64 1].toArray 3))) (ints_new (xs := [1, 1]) b0 rfl (by decide))
  clear HE1 HV1 HW1 HX hE2 aE b0
  simp only [chkV, Bool.and_self, Nat.reduceLeDiff, decide_true, if_true]
  go_wp2_with fail
  refine hSm.mono ?_
  rintro e w3 ⟨rfl, n, rfl⟩
  go_wp2_with fail
  go_ret
  exact ⟨rfl, below_drewN (HE2.out.trans (Ext.alloc (Ext.refl _) _)) _⟩
end Go.Proofs.Ytblaipkhmmaenaa
