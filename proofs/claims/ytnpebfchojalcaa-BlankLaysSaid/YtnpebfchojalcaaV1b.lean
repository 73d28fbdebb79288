import Derived.Test.YtnpebfchojalcaaV1
namespace Go.Proofs.Ytnpebfchojalcaa
open Go.RowKit
/-- An iterator whose rounds keep also all that has come since it was called. -/
def IterD (P : Program) (gf : FuncId) (lb : Array Value) (enc : Nat → Array Value) (N : Nat) (S : Nat → Prop) (w : World) : Prop :=
  ∀ (l : Nat) (J Jx : Nat → World → Prop) (W : World), Ext w W → Abides2 W.heap.size J → Abides2 W.heap.size Jx →
    (∀ k W1, J k W1 → k < N → YieldW P l (enc k) W1 fun e W' => (e = .returned (.bool true) ∧ J (k + 1) W' ∧ Held (fun j => S j ∨ (W.heap.size ≤ j ∧ j < W1.heap.size)) W1 W') ∨ (e = .returned (.bool false) ∧ Jx k W' ∧ Held (fun j => S j ∨ (W.heap.size ≤ j ∧ j < W1.heap.size)) W1 W')) →
    J 0 W → Calls P gf (#[.func (.yield l) #[] #[]] ++ lb) W fun e W' => (∃ v, e = .returned v) ∧ (J N W' ∨ ∃ k, k < N ∧ Jx k W')

theorem wpIn_range_d {P : Program} {n : Nat} {g : Operand} {ps : Array Tmp} {assign body : Code} {Q : Exit → Act → World → Prop} {a : Act} {w : World}
    {gf : Nat} {lb : Array Value} (hg : a.eval g = .func (.func gf) #[] lb) (eg : ∀ args w, (callFunc gf args).run P w = .ok (.enter gf args) w)
    (N : Nat) (S : Nat → Prop) (encs : Nat → Array Value) (hS : ∀ j, S j → j < w.heap.size) (hps : ∀ k, (encs k).size = ps.size) (hseq : IterD P gf lb encs N S w)
    (I Ix : Nat → World → Prop) (hI : Abides2 w.heap.size I) (hIx : Abides2 w.heap.size Ix) (h0 : I 0 w)
    (hround : ∀ (l k : Nat) (W : World) (K : Act → World → Prop), I k W → k < N → w.heap.size + 1 < W.heap.size →
      (∀ (a1 : Act) (W1 : World) , (∀ W2, Keeps w.heap.size W1 W2 → w.heap.size + 1 < W2.heap.size → body.wpIn (Fence.wide.inRound l) n P (postR (Held (fun j => S j ∨ (w.heap.size ≤ j ∧ j < W2.heap.size))) (I (k + 1)) (Ix k) W2) a1 W2) → Ext W W1 → K a1 W1) →
      assign.wpIn (Fence.wide.inRound l) n P (Exit.then K (fun _ _ _ => False)) { tmps := (ps.zip (encs k)).foldl (fun t (p, v) => t.setIfInBounds p v) a.tmps, defers := [] } W)
    (hdone : ∀ W, I N W → W.heap[w.heap.size]? = some (.deferred (some [])) → Q .normal { a with defers := { target := .collected w.heap.size, args := #[] } :: a.defers } W)
    (hstop : ∀ k W, k < N → Ix k W → W.heap[w.heap.size]? = some (.deferred (some [])) → Code.ret.wpIn Fence.wide n P Q { a with defers := { target := .collected w.heap.size, args := #[] } :: a.defers } W) :
    (Code.rangeFunc g ps assign body).wpIn Fence.wide n P Q a w := by
  refine wpIn_rangeFunc ?_
  intro fn hfn
  rw [show Fence.wide.round = none from rfl]
  obtain ⟨rec, hrec⟩ : ∃ rec : LoopState → Option Code → Loop, rec = fun st pe => { state := st, pending := pe, fn, tmps := a.tmps, params := ps, assign, body, defers := w.heap.size } := ⟨_, rfl⟩
  obtain ⟨W1, hW1⟩ : ∃ W1, (w.alloc (.deferred (some []))).alloc (.loop (rec .ready none)) = W1 := ⟨_, rfl⟩
  have hs1 : W1.heap.size = w.heap.size + 2 := by rw [← hW1]; simp
  have hL1 : W1.heap[w.heap.size + 1]? = some (.loop (rec .ready none)) := by
    rw [← hW1]; have := World.alloc_heap_new (w.alloc (.deferred (some []))) (.loop (rec .ready none)); rwa [World.size_alloc] at this
  have hK1 : W1.heap[w.heap.size]? = some (.deferred (some [])) := by
    rw [← hW1]; exact (Below.heap_alloc _ _ _ (by simp)).trans (World.alloc_heap_new w _)
  have hE1 : Ext w W1 := by rw [← hW1]; exact ((Below.refl _ w).alloc (Nat.le_refl _) _).alloc (by simp) _
  have hI1 : I 0 W1 := hI 0 _ _ h0 (Keeps.of_ext hE1)
  refine ⟨w.heap.size + 1, [{ target := .collected w.heap.size, args := #[] }], W1, { target := .fn (.func gf) lb, args := #[.func (.yield (w.heap.size + 1)) #[] #[]] }, W1, gf,
    #[.func (.yield (w.heap.size + 1)) #[] #[]] ++ lb, W1, ?_, ?_, ?_, ?_, fun h => (by cases h), callsIn_wide.2 ?_⟩
  · rw [← hW1, hrec]; exact run_enterLoop_outer _ _ _ _ _
  · simp only [resolve, hg]
    simp [go_sem]
  · intro f' hf'; trivial
  · simp [invoke, go_sem, eg]
  · have grow : ∀ {A B : World} {o : Obj} {j : Nat}, Keeps W1.heap.size A B → j < W1.heap.size → A.heap[j]? = some o → B.heap[j]? = some o := fun h hj e => (h.block _ ⟨(Array.getElem?_eq_some_iff.1 e).1, .inl hj⟩).trans e
    refine (hseq (w.heap.size + 1)
      (fun k W => I k W ∧ W.heap[w.heap.size + 1]? = some (.loop (rec .ready none)) ∧ W.heap[w.heap.size]? = some (.deferred (some [])))
      (fun k W => Ix k W ∧ W.heap[w.heap.size + 1]? = some (.loop (rec .done (some .ret))) ∧ W.heap[w.heap.size]? = some (.deferred (some [])))
      W1 hE1
      (fun k A B h hE => ⟨hI k A B h.1 (hE.mono (by omega)), grow hE (by omega) h.2.1, grow hE (by omega) h.2.2⟩)
      (fun k A B h hE => ⟨hIx k A B h.1 (hE.mono (by omega)), grow hE (by omega) h.2.1, grow hE (by omega) h.2.2⟩)
      ?_ ⟨hI1, hL1, hK1⟩).mono ?_
    · rintro k W ⟨hi, hl, hk⟩ hkN m
      have hlt : w.heap.size + 1 < W.heap.size := (Array.getElem?_eq_some_iff.1 hl).1
      have hy := run_yield (P := P) (args := encs k) hl (by rw [hrec]; exact hps k)
      rw [hrec] at hy
      refine ⟨fn, _, assign, body, hy, RoundIn.any rfl (n := n) (roundIn_of_wpIn hfn ?_)⟩
      refine hround _ k W _ hi hkN hlt (fun a1 W2 hbody hext => ?_)
      have hsz := hext.size
      have hl' : W2.heap[w.heap.size + 1]? = some (.loop (rec .ready none)) := (hext.block _ (by omega)).trans hl
      have hk' : W2.heap[w.heap.size]? = some (.deferred (some [])) := (hext.block _ (by omega)).trans hk
      have hlt2 : w.heap.size + 1 < W2.heap.size := (Array.getElem?_eq_some_iff.1 hl').1
      refine ⟨_, run_beginRound hl' (by rw [hrec]), ?_⟩
      have hl2 : (W2.putObj (w.heap.size + 1) (.loop { rec .ready none with state := .busy })).heap[w.heap.size + 1]? = some (.loop { rec .ready none with state := .busy }) := World.putObj_heap_same hlt2
      have hk2 : (W2.putObj (w.heap.size + 1) (.loop { rec .ready none with state := .busy })).heap[w.heap.size]? = some (.deferred (some [])) := (World.putObj_heap_other (by omega)).trans hk'
      have hp1 : Held (fun j => S j ∨ (W1.heap.size ≤ j ∧ j < W.heap.size)) W2 (W2.putObj (w.heap.size + 1) (.loop { rec .ready none with state := .busy })) := Held.put _ _ _ (fun j hj => by rcases hj with hj | hj; (have := hS j hj; omega); omega)
      refine wpIn_mono (hbody _ (Keeps.put _ hl' rfl (by omega)) (by simp; omega)) ?_
      have fin : ∀ (jump : Option Code) (W3 : World), Held (fun j => S j ∨ (w.heap.size ≤ j ∧ j < W2.heap.size)) (W2.putObj (w.heap.size + 1) (.loop { rec .ready none with state := .busy })) W3 →
          (Instr.endRound (w.heap.size + 1) jump).run P W3 = .ok (.bool jump.isNone) (W3.putObj (w.heap.size + 1) (.loop (rec (if jump.isNone then .ready else .done) jump))) ∧
          (W3.putObj (w.heap.size + 1) (.loop (rec (if jump.isNone then .ready else .done) jump))).heap[w.heap.size + 1]? = some (.loop (rec (if jump.isNone then .ready else .done) jump)) ∧
          (W3.putObj (w.heap.size + 1) (.loop (rec (if jump.isNone then .ready else .done) jump))).heap[w.heap.size]? = some (.deferred (some [])) ∧
          Held (fun j => S j ∨ (W1.heap.size ≤ j ∧ j < W.heap.size)) W (W3.putObj (w.heap.size + 1) (.loop (rec (if jump.isNone then .ready else .done) jump))) ∧
          Keeps w.heap.size W3 (W3.putObj (w.heap.size + 1) (.loop (rec (if jump.isNone then .ready else .done) jump))) := fun jump W3 hh => by
        have hl3 := (hh.block _ (.inr ⟨by omega, by omega⟩)).trans hl2
        have hk3 := (hh.block _ (.inr ⟨by omega, by omega⟩)).trans hk2
        have := run_endRound (P := P) jump hl3
        rw [hrec] at this ⊢
        exact ⟨this, World.putObj_heap_same (Array.getElem?_eq_some_iff.1 hl3).1, (World.putObj_heap_other (by omega)).trans hk3,
          (((Held.ext hext (fun j hj => by rcases hj with hj | hj; (have := hS j hj; omega); omega)).trans hp1).trans (hh.mono (fun j hj => hj.imp id (fun hj => ⟨by omega, by omega⟩)))).trans (Held.put _ _ _ (fun j hj => by rcases hj with hj | hj; (have := hS j hj; omega); omega)), Keeps.put _ hl3 rfl (by omega)⟩
      rintro e a3 W3 hp
      cases e with
      | normal =>
        obtain ⟨hh, hi3⟩ := hp
        obtain ⟨hr, hl4, hk4, hH, hKp⟩ := fin none W3 (hh.mono (fun j hj => hj.imp id (fun h => ⟨h.1, by simpa using h.2⟩)))
        exact ⟨_, _, hr, .inl ⟨rfl, ⟨hI _ _ _ hi3 hKp, hl4, hk4⟩, hH⟩⟩
      | ret =>
        obtain ⟨hh, hi3⟩ := hp
        obtain ⟨hr, hl4, hk4, hH, hKp⟩ := fin (some .ret) W3 (hh.mono (fun j hj => hj.imp id (fun h => ⟨h.1, by simpa using h.2⟩)))
        exact ⟨_, _, hr, .inr ⟨rfl, ⟨hIx _ _ _ hi3 hKp, hl4, hk4⟩, hH⟩⟩
      | exit id => exact hp.elim
      | goto t => exact hp.elim
      | panic ch => exact hp.elim
      | outgrown => exact hp.elim
    · rintro e W2 ⟨⟨v, rfl⟩, ⟨hi, hl, hk⟩ | ⟨k, hkN, hi, hl, hk⟩⟩
      · exact ⟨none, _, by have := run_endLoop (P := P) hl (by rw [hrec]; simp); rw [hrec] at this; exact this, hdone _ (hI _ _ _ hi (Keeps.put _ hl rfl (by omega))) ((World.putObj_heap_other (by omega)).trans hk)⟩
      · exact ⟨some .ret, _, by have := run_endLoop (P := P) hl (by rw [hrec]; simp); rw [hrec] at this; exact this, hstop k _ hkN (hIx _ _ _ hi (Keeps.put _ hl rfl (by omega))) ((World.putObj_heap_other (by omega)).trans hk)⟩
end Go.Proofs.Ytnpebfchojalcaa
