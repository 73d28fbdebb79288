import Derived.Test.YtblaipkhmmaenaaC6
import Derived.Test.YtblaipkhmmaenaaC5
namespace Go.Proofs.Ytblaipkhmmaenaa
open Go.RowKit
/-- The goals lie in blocks that are neither boxes nor readers, or below n0: what changes only boxes and readers leaves them. -/
def GoalsS (n0 : Nat) (W : World) (g : Value) (gs : List (List Int × Int)) : Prop :=
  GoalsAt W g gs ∧ ∃ T : List Nat, (∀ b ∈ T, ∃ cs t, W.heap[b]? = some (.cells cs t (0, 0)) ∧ t ≠ 58 ∧ t ≠ 62) ∧ ∀ W', Held (fun k => k < n0 ∨ k ∈ T) W W' → GoalsAt W' g gs
theorem GoalsS.held {n0 : Nat} {W W' : World} {g : Value} {gs : List (List Int × Int)} (h : GoalsS n0 W g gs) (hh : Held (fun k => k < n0 ∨ ∃ cs t, W.heap[k]? = some (.cells cs t (0, 0)) ∧ t ≠ 58 ∧ t ≠ 62) W W') : GoalsS n0 W' g gs := by
  obtain ⟨h1, T, hT, hW⟩ := h
  have h2 : Held (fun k => k < n0 ∨ k ∈ T) W W' := hh.mono (fun k hk => hk.imp id (fun hm => hT k hm))
  refine ⟨hW _ h2, T, fun b hb => ?_, fun W2 h3 => hW _ (h2.trans h3)⟩
  obtain ⟨cs, t, hc, ht⟩ := hT b hb
  exact ⟨cs, t, (hh.block b (.inr ⟨cs, t, hc, ht⟩)).trans hc, ht⟩
theorem GoalsS.ext {n0 : Nat} {W W' : World} {g : Value} {gs : List (List Int × Int)} (h : GoalsS n0 W g gs) (hn : n0 ≤ W.heap.size) (he : Ext W W') : GoalsS n0 W' g gs :=
  h.held ((Held.of_below he).mono (fun k hk => by
    rcases hk with hk | ⟨cs, t, hc, _⟩
    · omega
    · exact (Array.getElem?_eq_some_iff.1 hc).1))
theorem vrow_typed {W : World} {b : Nat} {t : TypeId} {vs : List Value} (h : VRow W b t vs) : ∃ cs t', W.heap[b]? = some (.cells cs t' (0, 0)) ∧ t' = t := ⟨_, _, h, rfl⟩
theorem goalsS1 {W : World} (n0 : Nat) {z blk n : Nat} (hz : IRow W z 3 (List.replicate n 0)) (hb : VRow W blk 73 [.slice (some ⟨z, 0, none⟩) n n, .int .i64 1]) (hn : n ≤ 5) :
    GoalsS n0 W (.slice (some ⟨blk, 0, none⟩) 1 1) [(List.replicate n 0, 1)] := by
  refine ⟨goals1 hz hb hn, [z, blk], fun b hm => ?_, fun W' h => goals1 (VRow.of_block hz (h.block z (.inr (by simp)))) (VRow.of_block hb (h.block blk (.inr (by simp)))) hn⟩
  simp only [List.mem_cons, List.not_mem_nil, or_false] at hm
  rcases hm with rfl | rfl
  · exact ⟨_, _, hz, by decide, by decide⟩
  · exact ⟨_, _, hb, by decide, by decide⟩
theorem goalsS2 {w0 W : World} {z blk n cap : Nat} {cv : Value} {C : List Int} {cost : Int} {zs : Array Value} (hz : IRow W z 3 (List.replicate n 0))
    (hb : W.heap[blk]? = some (.cells (#[.slice (some ⟨z, 0, none⟩) n n, .int .i64 1] ++ (#[cv, .int .i64 cost] ++ zs)) 73 (0, 0))) (hn : n ≤ 5) (h2 : 2 ≤ cap) (hc : cap ≤ 9223372036854775807) (hC : Ints w0 cv C) (hE : Ext w0 W) :
    GoalsS w0.heap.size W (.slice (some ⟨blk, 0, none⟩) 2 cap) [(List.replicate n 0, 1), (C, cost)] := by
  refine ⟨goals2 hz hb hn h2 hc (hC.ext hE), [z, blk], fun b hm => ?_, fun W' h => goals2 (VRow.of_block hz (h.block z (.inr (by simp)))) ((h.block blk (.inr (by simp))).trans hb) hn h2 hc (hC.ext ?_)⟩
  · simp only [List.mem_cons, List.not_mem_nil, or_false] at hm
    rcases hm with rfl | rfl
    · exact ⟨_, _, hz, by decide, by decide⟩
    · exact ⟨_, _, hb, by decide, by decide⟩
  · exact ((Held.of_below hE).trans (h.mono (fun k hk => .inl hk))).below
set_option maxRecDepth 100000 in
set_option maxHeartbeats 2000000 in
theorem measuresOf_s (a b c u : Value) (p : Who) (f : Bool) (cost : Int) (w0 w : World) (h : WhoAt w a b c u p) (h5 : p.C.length ≤ 5) (hC0 : Ints w0 c p.C) (hE0 : Ext w0 w) :
    Calls Try.prog 26 #[.agg #[a, b, c, u], .bool f, .int .i64 cost] w fun e w' => ∃ g, e = .returned (.agg #[a, b, c, u, g]) ∧ GoalsS w0.heap.size w' g (goalsOf p f cost) ∧ Ext w w' := by
  have hv := h.1.2.2.at
  obtain ⟨ac, cc, rfl, hcc, hcm, _⟩ := hv
  obtain ⟨aa, ca, rfl, hac, ham, _⟩ := h.1.1.at
  obtain ⟨ab, cb, rfl, hbc, hbm, _⟩ := h.1.2.1.at
  obtain ⟨au, cu, rfl, huc, hum, _⟩ := h.2.at
  dsimp only at *
  have HH := Lib.hid h
  have HC0 := Lib.hid hC0
  have HE0 := Lib.hid hE0
  clear h hC0 hE0
  have hmk := run_make_row' (P := Try.prog) 23 3 (.int .i64 0) 8 Try.underlying23 Try.info3 rfl .i64 .i64 p.C.length (by omega) (by omega)
  cases f
  · go_enter Try.func26, Try.ntmps26
    go_wp2
    have hz0 := irow_made ((w.alloc (.cells #[.slice aa p.A.length ca, .slice ab p.B.length cb, .slice ac p.C.length cc, .slice au p.U.length cu] 25)).alloc (.cells #[.slice aa p.A.length ca, .slice ab p.B.length cb, .slice ac p.C.length cc, .slice au p.U.length cu, .slice (some ⟨w.heap.size + 1 + 1 + 1, 0, none⟩) 1 1] 54)) p.C.length 3
    have hb0 := vrow_alloc (((w.alloc (.cells #[.slice aa p.A.length ca, .slice ab p.B.length cb, .slice ac p.C.length cc, .slice au p.U.length cu] 25)).alloc (.cells #[.slice aa p.A.length ca, .slice ab p.B.length cb, .slice ac p.C.length cc, .slice au p.U.length cu, .slice (some ⟨w.heap.size + 1 + 1 + 1, 0, none⟩) 1 1] 54)).alloc (.cells (madeCells #[.int .i64 0] p.C.length) 3)) [.slice (some ⟨w.heap.size + 1 + 1, 0, none⟩) p.C.length p.C.length, .int .i64 1] 73
    simp only [World.size_alloc] at hz0 hb0
    refine bodyPost_ret (v := .agg #[.slice aa p.A.length ca, .slice ab p.B.length cb, .slice ac p.C.length cc, .slice au p.U.length cu, .slice (some ⟨w.heap.size + 1 + 1 + 1, 0, none⟩) 1 1]) (by simp [results, Try.results26, go_sem]) rfl ⟨_, rfl, goalsS1 w0.heap.size (VRow.alloc hz0 _) hb0 h5, (Ext.alloc (Ext.alloc (Ext.alloc (Ext.alloc (Ext.refl w) (.cells #[.slice aa p.A.length ca, .slice ab p.B.length cb, .slice ac p.C.length cc, .slice au p.U.length cu] 25)) (.cells #[.slice aa p.A.length ca, .slice ab p.B.length cb, .slice ac p.C.length cc, .slice au p.U.length cu, .slice (some ⟨w.heap.size + 1 + 1 + 1, 0, none⟩) 1 1] 54)) (.cells (madeCells #[.int .i64 0] p.C.length) 3)) (.cells #[.slice (some ⟨w.heap.size + 1 + 1, 0, none⟩) p.C.length p.C.length, .int .i64 1] 73))⟩
  · go_enter Try.func26, Try.ntmps26
    go_wp2
    obtain ⟨hc1, hc2⟩ := cut_two (w.tape w.drawn (Question.appendCap 2 1 73))
    generalize (Question.appendCap 2 1 73).cut (w.tape w.drawn (Question.appendCap 2 1 73)) = cap at *
    have hz0 := irow_made ((w.alloc (.cells #[.slice aa p.A.length ca, .slice ab p.B.length cb, .slice ac p.C.length cc, .slice au p.U.length cu] 25)).alloc (.cells #[.slice aa p.A.length ca, .slice ab p.B.length cb, .slice ac p.C.length cc, .slice au p.U.length cu, .slice (some ⟨w.heap.size + 1 + 1 + 1 + 1 + 1, 0, none⟩) 2 cap] 54)) p.C.length 3
    have hE : Ext w ((((((w.alloc (.cells #[.slice aa p.A.length ca, .slice ab p.B.length cb, .slice ac p.C.length cc, .slice au p.U.length cu] 25)).alloc (.cells #[.slice aa p.A.length ca, .slice ab p.B.length cb, .slice ac p.C.length cc, .slice au p.U.length cu, .slice (some ⟨w.heap.size + 1 + 1 + 1 + 1 + 1, 0, none⟩) 2 cap] 54)).alloc (.cells (madeCells #[.int .i64 0] p.C.length) 3)).alloc (.cells #[.slice (some ⟨w.heap.size + 1 + 1, 0, none⟩) p.C.length p.C.length, .int .i64 1] 73)).alloc (.cells #[.slice ac p.C.length cc, .int .i64 cost] 73)).alloc (.cells (#[.slice (some ⟨w.heap.size + 1 + 1, 0, none⟩) p.C.length p.C.length, .int .i64 1] ++ (#[.slice ac p.C.length cc, .int .i64 cost] ++ Builtin.zeroCells #[.slice none 0 0, .int .i64 0] (cap - 2))) 73)) := (Ext.alloc (Ext.alloc (Ext.alloc (Ext.alloc (Ext.alloc (Ext.alloc (Ext.refl w) (.cells #[.slice aa p.A.length ca, .slice ab p.B.length cb, .slice ac p.C.length cc, .slice au p.U.length cu] 25)) (.cells #[.slice aa p.A.length ca, .slice ab p.B.length cb, .slice ac p.C.length cc, .slice au p.U.length cu, .slice (some ⟨w.heap.size + 1 + 1 + 1 + 1 + 1, 0, none⟩) 2 cap] 54)) (.cells (madeCells #[.int .i64 0] p.C.length) 3)) (.cells #[.slice (some ⟨w.heap.size + 1 + 1, 0, none⟩) p.C.length p.C.length, .int .i64 1] 73)) (.cells #[.slice ac p.C.length cc, .int .i64 cost] 73)) (.cells (#[.slice (some ⟨w.heap.size + 1 + 1, 0, none⟩) p.C.length p.C.length, .int .i64 1] ++ (#[.slice ac p.C.length cc, .int .i64 cost] ++ Builtin.zeroCells #[.slice none 0 0, .int .i64 0] (cap - 2))) 73))
    have hb0 := World.alloc_heap_new (((((w.alloc (.cells #[.slice aa p.A.length ca, .slice ab p.B.length cb, .slice ac p.C.length cc, .slice au p.U.length cu] 25)).alloc (.cells #[.slice aa p.A.length ca, .slice ab p.B.length cb, .slice ac p.C.length cc, .slice au p.U.length cu, .slice (some ⟨w.heap.size + 1 + 1 + 1 + 1 + 1, 0, none⟩) 2 cap] 54)).alloc (.cells (madeCells #[.int .i64 0] p.C.length) 3)).alloc (.cells #[.slice (some ⟨w.heap.size + 1 + 1, 0, none⟩) p.C.length p.C.length, .int .i64 1] 73)).alloc (.cells #[.slice ac p.C.length cc, .int .i64 cost] 73)) (.cells (#[.slice (some ⟨w.heap.size + 1 + 1, 0, none⟩) p.C.length p.C.length, .int .i64 1] ++ (#[.slice ac p.C.length cc, .int .i64 cost] ++ Builtin.zeroCells #[.slice none 0 0, .int .i64 0] (cap - 2))) 73)
    simp only [World.size_alloc] at hz0 hb0
    refine bodyPost_ret (v := .agg #[.slice aa p.A.length ca, .slice ab p.B.length cb, .slice ac p.C.length cc, .slice au p.U.length cu, .slice (some ⟨w.heap.size + 1 + 1 + 1 + 1 + 1, 0, none⟩) 2 cap]) (by simp [results, Try.results26, go_sem]) rfl ⟨_, rfl, goalsS2 (VRow.alloc (VRow.alloc (VRow.alloc hz0 _) _) _) hb0 h5 hc1 hc2 HC0.out (HE0.out.trans (Below.drew hE)), Below.drew hE⟩
end Go.Proofs.Ytblaipkhmmaenaa
