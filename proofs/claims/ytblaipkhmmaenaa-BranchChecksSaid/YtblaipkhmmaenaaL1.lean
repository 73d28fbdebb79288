import Derived.RangeFuncNested
import Derived.RangeFuncBound
import Derived.RangeFuncCalls
import Derived.RangeFuncLeaves
import Derived.Test.YtblaipkhmmaenaaB2
namespace Go.Proofs.Ytblaipkhmmaenaa
open Go.RowKit
/-- These blocks hold what they held. -/
structure Held (S : Nat → Prop) (W W' : World) : Prop where
  os : W'.os = W.os
  tape : W'.tape = W.tape
  output : W'.output = W.output
  size : W.heap.size ≤ W'.heap.size
  block : ∀ k, S k → W'.heap[k]? = W.heap[k]?
theorem Held.refl (S : Nat → Prop) (W : World) : Held S W W := ⟨rfl, rfl, rfl, Nat.le_refl _, fun _ _ => rfl⟩
theorem Held.trans {S : Nat → Prop} {a b c : World} (h : Held S a b) (k : Held S b c) : Held S a c :=
  ⟨k.os.trans h.os, k.tape.trans h.tape, k.output.trans h.output, Nat.le_trans h.size k.size, fun i hi => (k.block i hi).trans (h.block i hi)⟩
theorem Held.mono {S T : Nat → Prop} {a b : World} (h : Held S a b) (hs : ∀ k, T k → S k) : Held T a b := ⟨h.os, h.tape, h.output, h.size, fun k hk => h.block k (hs k hk)⟩
theorem Held.grown {S : Nat → Prop} {a b : World} {r : Nat} (h : a.grownBy b (some r)) (hs : ∀ k, S k → k < a.heap.size ∧ k ≠ r) : Held S a b :=
  ⟨h.os, h.tape, h.output, h.size, fun k hk => h.block k (hs k hk).1 (fun e => (hs k hk).2 (by injection e))⟩
theorem Held.below {B : Nat} {a b : World} (h : Held (fun k => k < B) a b) : Below B a b := ⟨h.os, h.tape, h.output, h.size, h.block⟩
theorem Held.of_below {B : Nat} {a b : World} (h : Below B a b) : Held (fun k => k < B) a b := ⟨h.os, h.tape, h.output, h.size, h.block⟩
theorem grown_put (W : World) (l : Nat) (o : Obj) : W.grownBy (W.putObj l o) (some l) :=
  ⟨rfl, rfl, rfl, by simp, fun k _ hk => World.putObj_heap_other (fun e => hk (by rw [e]))⟩

def postK (H : World → World → Prop) (I : World → Prop) (W : World) : Exit → Act → World → Prop
  | .normal, _, W' => H W W' ∧ I W'
  | _, _, _ => False

/-- **A range over an iterator that writes a block of its own between two rounds**, whose body never leaves. -/
theorem wpIn_range_k {P : Program} {n : Nat} {g : Operand} {ps : Array Tmp} {assign body : Code} {Q : Exit → Act → World → Prop} {a : Act} {w : World}
    (h1 : 1 ≤ n) {gf : Nat} {lb : Array Value} (hg : a.eval g = .func (.func gf) #[] lb) (eg : ∀ args w, (callFunc gf args).run P w = .ok (.enter gf args) w)
    (n0 bw N : Nat) (encs : Nat → Nat → Array Value) (hps : ∀ b k, (encs b k).size = ps.size) (yes : Nat → Prop) (R : Nat → Nat → World → Prop)
    (hR : ∀ b k A B r, R b k A → A.grownBy B (some r) → r ≠ b → R b k B) (hRlt : ∀ b k A, R b k A → b < A.heap.size) (hn0 : n0 ≤ w.heap.size) (hbw : bw < w.heap.size)
    (hseq : ∀ (l : Nat) (J : Nat → World → Prop) (W : World), Held (fun k => k < w.heap.size) w W → (∀ k A B, J k A → A.grownBy B (some W.heap.size) → J k B) →
      (∀ k W1, J k W1 → k < N → yes k → R W.heap.size k W1 → YieldAt Fence.wide (n - 1 - 1) P l (encs W.heap.size k) W1 fun e W' =>
        e = .returned (.bool true) ∧ J (k + 1) W' ∧ Held (fun j => j < n0 ∨ j = bw ∨ j = W.heap.size) W1 W') →
      (∀ k W1, J k W1 → k < N → ¬ yes k → J (k + 1) W1) → J 0 W →
      CallsIn Fence.wide (n - 1) P gf (#[.func (.yield l) #[] #[]] ++ lb) W fun e W' => (∃ v, e = .returned v) ∧ J N W')
    (I : Nat → World → Prop) (hI : ∀ k A B r, I k A → A.grownBy B (some r) → w.heap.size ≤ r → r ≤ w.heap.size + 2 → I k B) (h0 : I 0 w) (a₁ : Nat → Act)
    (hassign : ∀ (l k : Nat) (W : World) (K : Act → World → Prop), K (a₁ k) W →
      assign.wpIn (Fence.wide.inRound l) (n - 1 - 1) P (Exit.then K (fun _ _ _ => False)) { tmps := (ps.zip (encs (w.heap.size + 2) k)).foldl (fun t (p, v) => t.setIfInBounds p v) a.tmps, defers := [] } W)
    (hskip : ∀ k W, I k W → k < N → ¬ yes k → I (k + 1) W)
    (hbody : ∀ (l k : Nat) (W : World), I k W → k < N → yes k → R (w.heap.size + 2) k W → w.heap.size + 2 < W.heap.size →
      body.wpIn (Fence.wide.inRound l) (n - 1 - 1) P (postK (Held (fun j => j < n0 ∨ j = bw ∨ (w.heap.size ≤ j ∧ j ≤ w.heap.size + 2))) (I (k + 1)) W) (a₁ k) W)
    (hdone : ∀ W, I N W → W.heap[w.heap.size]? = some (.deferred (some [])) → Q .normal { a with defers := { target := .collected w.heap.size, args := #[] } :: a.defers } W) :
    (Code.rangeFunc g ps assign body).wpIn Fence.wide n P Q a w := by
  refine wpIn_rangeFunc ?_
  intro fn hfn
  rw [show Fence.wide.round = none from rfl]
  obtain ⟨rec, hrec⟩ : ∃ rec : LoopState → Option Code → Loop, rec = fun st pe => { state := st, pending := pe, fn, tmps := a.tmps, params := ps, assign, body, defers := w.heap.size } := ⟨_, rfl⟩
  obtain ⟨W1, hW1⟩ : ∃ W1, (w.alloc (.deferred (some []))).alloc (.loop (rec .ready none)) = W1 := ⟨_, rfl⟩
  have hs1 : W1.heap.size = w.heap.size + 2 := by rw [← hW1]; simp
  have hL1 : W1.heap[w.heap.size + 1]? = some (.loop (rec .ready none)) := by
    rw [← hW1]; have := World.alloc_heap_new (w.alloc (.deferred (some []))) (.loop (rec .ready none)); rwa [World.size_alloc] at this
  have hK1 : W1.heap[w.heap.size]? = some (.deferred (some [])) := by
    rw [← hW1]; exact (Below.heap_alloc _ _ _ (by simp)).trans (World.alloc_heap_new w _)
  have hI1 : I 0 W1 := by
    rw [← hW1]
    exact hI 0 _ _ w.heap.size (hI 0 _ _ w.heap.size h0 (World.grownBy_alloc _ _ _) (Nat.le_refl _) (by omega)) (World.grownBy_alloc _ _ _) (Nat.le_refl _) (by omega)
  have hb1 : Held (fun k => k < w.heap.size) w W1 := by
    rw [← hW1]; exact Held.of_below ((((Below.refl _ w).alloc (Nat.le_refl _) _).alloc (by simp) _))
  refine ⟨w.heap.size + 1, [{ target := .collected w.heap.size, args := #[] }], W1, { target := .fn (.func gf) lb, args := #[.func (.yield (w.heap.size + 1)) #[] #[]] }, W1, gf,
    #[.func (.yield (w.heap.size + 1)) #[] #[]] ++ lb, W1, ?_, ?_, ?_, ?_, fun _ => h1, ?_⟩
  · rw [← hW1, hrec]; exact run_enterLoop_outer _ _ _ _ _
  · simp only [resolve, hg]
    simp [go_sem]
  · intro f' hf'; trivial
  · simp [invoke, go_sem, eg]
  · refine (hseq (w.heap.size + 1)
      (fun k W => I k W ∧ W.heap[w.heap.size + 1]? = some (.loop (rec .ready none)) ∧ W.heap[w.heap.size]? = some (.deferred (some [])))
      W1 hb1 ?_ ?_ (fun k W hj hk hy => ⟨hskip k W hj.1 hk hy, hj.2⟩) ⟨hI1, hL1, hK1⟩).mono ?_
    · rintro k A B ⟨hi, hl, hk⟩ hgr
      rw [hs1] at hgr
      have e1 : B.heap[w.heap.size + 1]? = A.heap[w.heap.size + 1]? := hgr.block _ (Array.getElem?_eq_some_iff.1 hl).1 (by simp)
      have e2 : B.heap[w.heap.size]? = A.heap[w.heap.size]? := hgr.block _ (Array.getElem?_eq_some_iff.1 hk).1 (by simp)
      exact ⟨hI k A B _ hi hgr (by omega) (by omega), e1.trans hl, e2.trans hk⟩
    · rintro k W ⟨hi, hl, hk⟩ hkN hyes hRW
      rw [hs1] at hRW ⊢
      have hlt : w.heap.size + 1 < W.heap.size := (Array.getElem?_eq_some_iff.1 hl).1
      have hlt2 : w.heap.size + 2 < W.heap.size := hRlt _ _ _ hRW
      have hy := run_yield (P := P) (args := encs (w.heap.size + 2) k) hl (by rw [hrec]; exact hps _ k)
      rw [hrec] at hy
      refine ⟨fn, _, assign, body, hy, roundIn_of_wpIn hfn (hassign _ k W _ ⟨_, run_beginRound hl (by rw [hrec]), ?_⟩)⟩
      have hgr := grown_put W (w.heap.size + 1) (.loop { rec .ready none with state := .busy })
      have hsz2 : (W.putObj (w.heap.size + 1) (.loop { rec .ready none with state := .busy })).heap.size = W.heap.size := by simp
      have hl2 : (W.putObj (w.heap.size + 1) (.loop { rec .ready none with state := .busy })).heap[w.heap.size + 1]? = some (.loop { rec .ready none with state := .busy }) := World.putObj_heap_same hlt
      have hk2 : (W.putObj (w.heap.size + 1) (.loop { rec .ready none with state := .busy })).heap[w.heap.size]? = some (.deferred (some [])) := (World.putObj_heap_other (by omega)).trans hk
      refine wpIn_mono (hbody _ k _ (hI k _ _ _ hi hgr (by omega) (by omega)) hkN hyes (hR _ _ _ _ _ hRW hgr (by omega)) (by rw [hsz2]; exact hlt2)) ?_
      rintro e a3 W3 hp
      cases e with
      | normal =>
        obtain ⟨hh, hi3⟩ := hp
        have hl3 : W3.heap[w.heap.size + 1]? = some (.loop { rec .ready none with state := .busy }) := (hh.block _ (.inr (.inr ⟨by omega, by omega⟩))).trans hl2
        have hk3 : W3.heap[w.heap.size]? = some (.deferred (some [])) := (hh.block _ (.inr (.inr ⟨by omega, by omega⟩))).trans hk2
        have hlt3 : w.heap.size + 1 < W3.heap.size := (Array.getElem?_eq_some_iff.1 hl3).1
        have hr := run_endRound (P := P) none hl3
        rw [hrec] at hr
        refine ⟨_, _, hr, rfl, ⟨hI _ _ _ _ hi3 (grown_put _ _ _) (by omega) (by omega), ?_, (World.putObj_heap_other (by omega)).trans hk3⟩, ?_⟩
        · rw [World.putObj_heap_same hlt3, hrec]
          rfl
        · have hsize3 : W.heap.size ≤ W3.heap.size := by have := hh.size; rw [hsz2] at this; exact this
          have hA : Held (fun j => j < n0 ∨ j = bw ∨ j = w.heap.size + 2) W (W.putObj (w.heap.size + 1) (.loop { rec .ready none with state := .busy })) := Held.grown hgr (fun j hj => by omega)
          have hB := hh.mono (T := fun j => j < n0 ∨ j = bw ∨ j = w.heap.size + 2) (fun j hj => by omega)
          exact (hA.trans hB).trans (Held.grown (grown_put _ _ _) (fun j hj => by omega))
      | ret => exact hp.elim
      | exit id => exact hp.elim
      | goto t => exact hp.elim
      | panic ch => exact hp.elim
      | outgrown => exact hp.elim
    · rintro e W2 ⟨⟨v, rfl⟩, hi, hl, hk⟩
      exact ⟨none, _, by have := run_endLoop (P := P) hl (by rw [hrec]; simp); rw [hrec] at this; exact this, hdone _ (hI _ _ _ _ hi (grown_put _ _ _) (by omega) (by omega)) ((World.putObj_heap_other (by omega)).trans hk)⟩
end Go.Proofs.Ytblaipkhmmaenaa
