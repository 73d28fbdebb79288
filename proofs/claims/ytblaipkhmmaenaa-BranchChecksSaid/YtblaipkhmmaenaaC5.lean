import Derived.Test.YtblaipkhmmaenaaC3
namespace Go.Proofs.Ytblaipkhmmaenaa
open Go.RowKit
def goalsOf (p : Who) (f : Bool) (cost : Int) : List (List Int × Int) := (List.replicate p.C.length 0, 1) :: (if f = true then [(p.C, cost)] else [])
theorem goals1 {W : World} {z blk n : Nat} (hz : IRow W z 3 (List.replicate n 0)) (hb : VRow W blk 73 [.slice (some ⟨z, 0, none⟩) n n, .int .i64 1]) (hn : n ≤ 5) :
    GoalsAt W (.slice (some ⟨blk, 0, none⟩) 1 1) [(List.replicate n 0, 1)] := by
  refine ⟨blk, 1, rfl, by simp, by omega, fun k x hx => ?_⟩
  match k, hx with
  | 0, hx =>
    simp only [List.getElem?_cons_zero, Option.some.injEq] at hx
    subst hx
    exact ⟨_, VRow.cell hb (k := 0) rfl, VRow.cell hb (k := 1) rfl, IRow.ints' hz (by simp) (by simp) (by omega)⟩
  | k + 1, hx => simp at hx
theorem goals2 {W : World} {z blk n cap : Nat} {cv : Value} {C : List Int} {cost : Int} {zs : Array Value} (hz : IRow W z 3 (List.replicate n 0))
    (hb : W.heap[blk]? = some (.cells (#[.slice (some ⟨z, 0, none⟩) n n, .int .i64 1] ++ (#[cv, .int .i64 cost] ++ zs)) 73 (0, 0))) (hn : n ≤ 5) (h2 : 2 ≤ cap) (hc : cap ≤ 9223372036854775807) (hC : Ints W cv C) :
    GoalsAt W (.slice (some ⟨blk, 0, none⟩) 2 cap) [(List.replicate n 0, 1), (C, cost)] := by
  refine ⟨blk, cap, rfl, by simpa using h2, hc, fun k x hx => ?_⟩
  match k, hx with
  | 0, hx =>
    simp only [List.getElem?_cons_zero, Option.some.injEq] at hx
    subst hx
    refine ⟨.slice (some ⟨z, 0, none⟩) n n, ?_, ?_, IRow.ints' hz (by simp) (by simp) (by omega)⟩
    · simp [World.cell?, hb, Array.getElem?_append]
    · simp [World.cell?, hb, Array.getElem?_append]
  | 1, hx =>
    simp only [List.getElem?_cons_succ, List.getElem?_cons_zero, Option.some.injEq] at hx
    subst hx
    refine ⟨cv, ?_, ?_, hC⟩
    · simp [World.cell?, hb, Array.getElem?_append]
    · simp [World.cell?, hb, Array.getElem?_append]
  | k + 2, hx => simp at hx
theorem cut_two (t : Nat) : 2 ≤ (Question.appendCap 2 1 73).cut t ∧ (Question.appendCap 2 1 73).cut t ≤ 9223372036854775807 := by
  show 2 ≤ 2 + t % (2 ^ 63 - 2) ∧ 2 + t % (2 ^ 63 - 2) ≤ 9223372036854775807
  omega
set_option maxRecDepth 100000 in
set_option maxHeartbeats 2000000 in
theorem measuresOf_c (a b c u : Value) (p : Who) (f : Bool) (cost : Int) (w : World) (h : WhoAt w a b c u p) (h5 : p.C.length ≤ 5) :
    Calls Try.prog 26 #[.agg #[a, b, c, u], .bool f, .int .i64 cost] w fun e w' => ∃ g, e = .returned (.agg #[a, b, c, u, g]) ∧ GoalsAt w' g (goalsOf p f cost) ∧ Ext w w' := by
  have hv := h.1.2.2.at
  obtain ⟨ac, cc, rfl, hcc, hcm, _⟩ := hv
  obtain ⟨aa, ca, rfl, hac, ham, _⟩ := h.1.1.at
  obtain ⟨ab, cb, rfl, hbc, hbm, _⟩ := h.1.2.1.at
  obtain ⟨au, cu, rfl, huc, hum, _⟩ := h.2.at
  dsimp only at *
  have HH := Lib.hid h
  clear h
  have hmk := run_make_row' (P := Try.prog) 23 3 (.int .i64 0) 8 Try.underlying23 Try.info3 rfl .i64 .i64 p.C.length (by omega) (by omega)
  cases f
  · go_enter Try.func26, Try.ntmps26
    go_wp2
    have hz0 := irow_made ((w.alloc (.cells #[.slice aa p.A.length ca, .slice ab p.B.length cb, .slice ac p.C.length cc, .slice au p.U.length cu] 25)).alloc (.cells #[.slice aa p.A.length ca, .slice ab p.B.length cb, .slice ac p.C.length cc, .slice au p.U.length cu, .slice (some ⟨w.heap.size + 1 + 1 + 1, 0, none⟩) 1 1] 54)) p.C.length 3
    have hb0 := vrow_alloc (((w.alloc (.cells #[.slice aa p.A.length ca, .slice ab p.B.length cb, .slice ac p.C.length cc, .slice au p.U.length cu] 25)).alloc (.cells #[.slice aa p.A.length ca, .slice ab p.B.length cb, .slice ac p.C.length cc, .slice au p.U.length cu, .slice (some ⟨w.heap.size + 1 + 1 + 1, 0, none⟩) 1 1] 54)).alloc (.cells (madeCells #[.int .i64 0] p.C.length) 3)) [.slice (some ⟨w.heap.size + 1 + 1, 0, none⟩) p.C.length p.C.length, .int .i64 1] 73
    simp only [World.size_alloc] at hz0 hb0
    refine bodyPost_ret (v := .agg #[.slice aa p.A.length ca, .slice ab p.B.length cb, .slice ac p.C.length cc, .slice au p.U.length cu, .slice (some ⟨w.heap.size + 1 + 1 + 1, 0, none⟩) 1 1]) (by simp [results, Try.results26, go_sem]) rfl ⟨_, rfl, goals1 (VRow.alloc hz0 _) hb0 h5, (Ext.alloc (Ext.alloc (Ext.alloc (Ext.alloc (Ext.refl w) (.cells #[.slice aa p.A.length ca, .slice ab p.B.length cb, .slice ac p.C.length cc, .slice au p.U.length cu] 25)) (.cells #[.slice aa p.A.length ca, .slice ab p.B.length cb, .slice ac p.C.length cc, .slice au p.U.length cu, .slice (some ⟨w.heap.size + 1 + 1 + 1, 0, none⟩) 1 1] 54)) (.cells (madeCells #[.int .i64 0] p.C.length) 3)) (.cells #[.slice (some ⟨w.heap.size + 1 + 1, 0, none⟩) p.C.length p.C.length, .int .i64 1] 73))⟩
  · go_enter Try.func26, Try.ntmps26
    go_wp2
    obtain ⟨hc1, hc2⟩ := cut_two (w.tape w.drawn (Question.appendCap 2 1 73))
    generalize (Question.appendCap 2 1 73).cut (w.tape w.drawn (Question.appendCap 2 1 73)) = cap at *
    have hz0 := irow_made ((w.alloc (.cells #[.slice aa p.A.length ca, .slice ab p.B.length cb, .slice ac p.C.length cc, .slice au p.U.length cu] 25)).alloc (.cells #[.slice aa p.A.length ca, .slice ab p.B.length cb, .slice ac p.C.length cc, .slice au p.U.length cu, .slice (some ⟨w.heap.size + 1 + 1 + 1 + 1 + 1, 0, none⟩) 2 cap] 54)) p.C.length 3
    have hE : Ext w ((((((w.alloc (.cells #[.slice aa p.A.length ca, .slice ab p.B.length cb, .slice ac p.C.length cc, .slice au p.U.length cu] 25)).alloc (.cells #[.slice aa p.A.length ca, .slice ab p.B.length cb, .slice ac p.C.length cc, .slice au p.U.length cu, .slice (some ⟨w.heap.size + 1 + 1 + 1 + 1 + 1, 0, none⟩) 2 cap] 54)).alloc (.cells (madeCells #[.int .i64 0] p.C.length) 3)).alloc (.cells #[.slice (some ⟨w.heap.size + 1 + 1, 0, none⟩) p.C.length p.C.length, .int .i64 1] 73)).alloc (.cells #[.slice ac p.C.length cc, .int .i64 cost] 73)).alloc (.cells (#[.slice (some ⟨w.heap.size + 1 + 1, 0, none⟩) p.C.length p.C.length, .int .i64 1] ++ (#[.slice ac p.C.length cc, .int .i64 cost] ++ Builtin.zeroCells #[.slice none 0 0, .int .i64 0] (cap - 2))) 73)) := (Ext.alloc (Ext.alloc (Ext.alloc (Ext.alloc (Ext.alloc (Ext.alloc (Ext.refl w) (.cells #[.slice aa p.A.length ca, .slice ab p.B.length cb, .slice ac p.C.length cc, .slice au p.U.length cu] 25)) (.cells #[.slice aa p.A.length ca, .slice ab p.B.length cb, .slice ac p.C.length cc, .slice au p.U.length cu, .slice (some ⟨w.heap.size + 1 + 1 + 1 + 1 + 1, 0, none⟩) 2 cap] 54)) (.cells (madeCells #[.int .i64 0] p.C.length) 3)) (.cells #[.slice (some ⟨w.heap.size + 1 + 1, 0, none⟩) p.C.length p.C.length, .int .i64 1] 73)) (.cells #[.slice ac p.C.length cc, .int .i64 cost] 73)) (.cells (#[.slice (some ⟨w.heap.size + 1 + 1, 0, none⟩) p.C.length p.C.length, .int .i64 1] ++ (#[.slice ac p.C.length cc, .int .i64 cost] ++ Builtin.zeroCells #[.slice none 0 0, .int .i64 0] (cap - 2))) 73))
    have hb0 := World.alloc_heap_new (((((w.alloc (.cells #[.slice aa p.A.length ca, .slice ab p.B.length cb, .slice ac p.C.length cc, .slice au p.U.length cu] 25)).alloc (.cells #[.slice aa p.A.length ca, .slice ab p.B.length cb, .slice ac p.C.length cc, .slice au p.U.length cu, .slice (some ⟨w.heap.size + 1 + 1 + 1 + 1 + 1, 0, none⟩) 2 cap] 54)).alloc (.cells (madeCells #[.int .i64 0] p.C.length) 3)).alloc (.cells #[.slice (some ⟨w.heap.size + 1 + 1, 0, none⟩) p.C.length p.C.length, .int .i64 1] 73)).alloc (.cells #[.slice ac p.C.length cc, .int .i64 cost] 73)) (.cells (#[.slice (some ⟨w.heap.size + 1 + 1, 0, none⟩) p.C.length p.C.length, .int .i64 1] ++ (#[.slice ac p.C.length cc, .int .i64 cost] ++ Builtin.zeroCells #[.slice none 0 0, .int .i64 0] (cap - 2))) 73)
    simp only [World.size_alloc] at hz0 hb0
    refine bodyPost_ret (v := .agg #[.slice aa p.A.length ca, .slice ab p.B.length cb, .slice ac p.C.length cc, .slice au p.U.length cu, .slice (some ⟨w.heap.size + 1 + 1 + 1 + 1 + 1, 0, none⟩) 2 cap]) (by simp [results, Try.results26, go_sem]) rfl ⟨_, rfl, goals2 (VRow.alloc (VRow.alloc (VRow.alloc hz0 _) _) _) hb0 h5 hc1 hc2 (HH.out.1.2.2.ext (Below.drew hE)), Below.drew hE⟩
end Go.Proofs.Ytblaipkhmmaenaa
