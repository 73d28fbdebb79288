import Derived.RangeFuncNested
import Derived.RangeFuncBound
import Derived.RangeFuncCalls
import Derived.RangeFuncLeaves
import Derived.Test.YtnpebfchojalcaaBase
namespace Go.Proofs.Ytnpebfchojalcaa
open Go.RowKit
/-- These blocks hold what they held. -/
structure Held (S : Nat → Prop) (W W' : World) : Prop where
  os : W'.os = W.os
  tape : W'.tape = W.tape
  output : W'.output = W.output
  size : W.heap.size ≤ W'.heap.size
  block : ∀ k, S k → W'.heap[k]? = W.heap[k]?
theorem Held.refl (S : Nat → Prop) (W : World) : Held S W W := ⟨rfl, rfl, rfl, Nat.le_refl _, fun _ _ => rfl⟩
theorem Held.trans {S : Nat → Prop} {a b c : World} (h : Held S a b) (k : Held S b c) : Held S a c :=
  ⟨k.os.trans h.os, k.tape.trans h.tape, k.output.trans h.output, Nat.le_trans h.size k.size, fun i hi => (k.block i hi).trans (h.block i hi)⟩
theorem Held.mono {S T : Nat → Prop} {a b : World} (h : Held S a b) (hs : ∀ k, T k → S k) : Held T a b := ⟨h.os, h.tape, h.output, h.size, fun k hk => h.block k (hs k hk)⟩
theorem Held.below {B : Nat} {a b : World} (h : Held (fun k => k < B) a b) : Below B a b := ⟨h.os, h.tape, h.output, h.size, h.block⟩
theorem Held.of_below {B : Nat} {a b : World} (h : Below B a b) : Held (fun k => k < B) a b := ⟨h.os, h.tape, h.output, h.size, h.block⟩
theorem Held.ext {S : Nat → Prop} {a b : World} (h : Ext a b) (hs : ∀ k, S k → k < a.heap.size) : Held S a b := ⟨h.os, h.tape, h.output, h.size, fun k hk => h.block k (hs k hk)⟩
theorem Held.put {S : Nat → Prop} (W : World) (l : Nat) (o : Obj) (hs : ∀ k, S k → k ≠ l) : Held S W (W.putObj l o) :=
  ⟨rfl, rfl, rfl, by simp, fun k hk => World.putObj_heap_other (hs k hk)⟩
theorem Held.set {S : Nat → Prop} (W : World) (a : Addr) (v : Value) (hs : ∀ k, S k → k ≠ a.block) : Held S W (W.setCell a v) :=
  ⟨rfl, rfl, rfl, by simp, fun k hk => Below.heap_setCell _ _ _ _ (hs k hk)⟩
/-- All that lay below B, and all cells, lie as they lay. -/
abbrev Keeps (B : Nat) (A A' : World) : Prop := Held (fun j => j < A.heap.size ∧ (j < B ∨ ∃ o, A.heap[j]? = some o ∧ o.isCells = true)) A A'
theorem Keeps.of_ext {B : Nat} {A A' : World} (h : Ext A A') : Keeps B A A' := ⟨h.os, h.tape, h.output, h.size, fun k hk => h.block k hk.1⟩
theorem Keeps.put {B l : Nat} {A : World} {o : Obj} (o' : Obj) (hl : A.heap[l]? = some o) (ho : o.isCells = false) (hB : B ≤ l) : Keeps B A (A.putObj l o') :=
  ⟨rfl, rfl, rfl, by simp, fun k hk => World.putObj_heap_other (fun e => by
    subst e
    rcases hk.2 with h | ⟨o2, h1, h2⟩
    · omega
    · rw [hl] at h1; injection h1 with h1; rw [h1, h2] at ho; cases ho)⟩
theorem Keeps.mono {B C : Nat} {A A' : World} (h : Keeps C A A') (hB : B ≤ C) : Keeps B A A' := Held.mono h (fun k hk => ⟨hk.1, hk.2.imp (fun e => by omega) id⟩)
theorem Keeps.trans {B : Nat} {a b c : World} (h : Keeps B a b) (k : Keeps B b c) : Keeps B a c :=
  ⟨k.os.trans h.os, k.tape.trans h.tape, k.output.trans h.output, Nat.le_trans h.size k.size, fun j hj =>
    (k.block j ⟨Nat.lt_of_lt_of_le hj.1 h.size, hj.2.imp id (fun ⟨o, h1, h2⟩ => ⟨o, (h.block j hj).trans h1, h2⟩)⟩).trans (h.block j hj)⟩
/-- A property of rounds that abides whatever keeps what lay below B and all cells. -/
def Abides2 (B : Nat) (I : Nat → World → Prop) : Prop := ∀ k A A', I k A → Keeps B A A' → I k A'
def postR (H : World → World → Prop) (I Ix : World → Prop) (W : World) : Exit → Act → World → Prop
  | .normal, _, W' => H W W' ∧ I W'
  | .ret, _, W' => H W W' ∧ Ix W'
  | _, _, _ => False
abbrev YieldW (P : Program) (l : Nat) (args : Array Value) (W : World) (R : Ending → World → Prop) : Prop := ∀ m, YieldAt Fence.wide m P l args W R
theorem RoundIn.any {P : Program} {F : Fence} (hd : F.depth = none) {n m l : Nat} {f : FuncId} {tmps : Array Value} {assign body : Code} {w : World} {R : Ending → World → Prop} (h : RoundIn F n P l f tmps assign body w R) : RoundIn F m P l f tmps assign body w R :=
  ⟨h.1, fun c cs _ => h.2 c cs (fun d hd' => by rw [hd] at hd'; cases hd')⟩
/-- An iterator: what it hands out in round k, at most N rounds. -/
def IterC (P : Program) (gf : FuncId) (lb : Array Value) (enc : Nat → Array Value) (N : Nat) (S : Nat → Prop) (w : World) : Prop :=
  ∀ (l : Nat) (J Jx : Nat → World → Prop) (W : World), Ext w W → Abides2 W.heap.size J → Abides2 W.heap.size Jx →
    (∀ k W1, J k W1 → k < N → YieldW P l (enc k) W1 fun e W' => (e = .returned (.bool true) ∧ J (k + 1) W' ∧ Held S W1 W') ∨ (e = .returned (.bool false) ∧ Jx k W')) →
    J 0 W → Calls P gf (#[.func (.yield l) #[] #[]] ++ lb) W fun e W' => (∃ v, e = .returned v) ∧ (J N W' ∨ ∃ k, k < N ∧ Jx k W')

theorem wpIn_range_c {P : Program} {n : Nat} {g : Operand} {ps : Array Tmp} {assign body : Code} {Q : Exit → Act → World → Prop} {a : Act} {w : World}
    {gf : Nat} {lb : Array Value} (hg : a.eval g = .func (.func gf) #[] lb) (eg : ∀ args w, (callFunc gf args).run P w = .ok (.enter gf args) w)
    (N : Nat) (S : Nat → Prop) (encs : Nat → Array Value) (hS : ∀ j, S j → j < w.heap.size) (hps : ∀ k, (encs k).size = ps.size) (hseq : IterC P gf lb encs N S w)
    (I Ix : Nat → World → Prop) (hI : Abides2 w.heap.size I) (hIx : Abides2 w.heap.size Ix) (h0 : I 0 w)
    (hround : ∀ (l k : Nat) (W : World) (K : Act → World → Prop), I k W → k < N → w.heap.size + 1 < W.heap.size →
      (∀ (a1 : Act) (W1 : World) , (∀ W2, Keeps w.heap.size W1 W2 → w.heap.size + 1 < W2.heap.size → body.wpIn (Fence.wide.inRound l) n P (postR (Held (fun j => S j ∨ j = w.heap.size ∨ j = w.heap.size + 1)) (I (k + 1)) (Ix k) W2) a1 W2) → Held (fun j => S j ∨ j = w.heap.size ∨ j = w.heap.size + 1) W W1 → K a1 W1) →
      assign.wpIn (Fence.wide.inRound l) n P (Exit.then K (fun _ _ _ => False)) { tmps := (ps.zip (encs k)).foldl (fun t (p, v) => t.setIfInBounds p v) a.tmps, defers := [] } W)
    (hdone : ∀ W, I N W → W.heap[w.heap.size]? = some (.deferred (some [])) → Q .normal { a with defers := { target := .collected w.heap.size, args := #[] } :: a.defers } W)
    (hstop : ∀ k W, k < N → Ix k W → W.heap[w.heap.size]? = some (.deferred (some [])) → Code.ret.wpIn Fence.wide n P Q { a with defers := { target := .collected w.heap.size, args := #[] } :: a.defers } W) :
    (Code.rangeFunc g ps assign body).wpIn Fence.wide n P Q a w := by
  refine wpIn_rangeFunc ?_
  intro fn hfn
  rw [show Fence.wide.round = none from rfl]
  obtain ⟨rec, hrec⟩ : ∃ rec : LoopState → Option Code → Loop, rec = fun st pe => { state := st, pending := pe, fn, tmps := a.tmps, params := ps, assign, body, defers := w.heap.size } := ⟨_, rfl⟩
  obtain ⟨W1, hW1⟩ : ∃ W1, (w.alloc (.deferred (some []))).alloc (.loop (rec .ready none)) = W1 := ⟨_, rfl⟩
  have hs1 : W1.heap.size = w.heap.size + 2 := by rw [← hW1]; simp
  have hL1 : W1.heap[w.heap.size + 1]? = some (.loop (rec .ready none)) := by
    rw [← hW1]; have := World.alloc_heap_new (w.alloc (.deferred (some []))) (.loop (rec .ready none)); rwa [World.size_alloc] at this
  have hK1 : W1.heap[w.heap.size]? = some (.deferred (some [])) := by
    rw [← hW1]; exact (Below.heap_alloc _ _ _ (by simp)).trans (World.alloc_heap_new w _)
  have hE1 : Ext w W1 := by rw [← hW1]; exact ((Below.refl _ w).alloc (Nat.le_refl _) _).alloc (by simp) _
  have hI1 : I 0 W1 := hI 0 _ _ h0 (Keeps.of_ext hE1)
  refine ⟨w.heap.size + 1, [{ target := .collected w.heap.size, args := #[] }], W1, { target := .fn (.func gf) lb, args := #[.func (.yield (w.heap.size + 1)) #[] #[]] }, W1, gf,
    #[.func (.yield (w.heap.size + 1)) #[] #[]] ++ lb, W1, ?_, ?_, ?_, ?_, fun h => (by cases h), callsIn_wide.2 ?_⟩
  · rw [← hW1, hrec]; exact run_enterLoop_outer _ _ _ _ _
  · simp only [resolve, hg]
    simp [go_sem]
  · intro f' hf'; trivial
  · simp [invoke, go_sem, eg]
  · have grow : ∀ {A B : World} {o : Obj} {j : Nat}, Keeps W1.heap.size A B → j < W1.heap.size → A.heap[j]? = some o → B.heap[j]? = some o := fun h hj e => (h.block _ ⟨(Array.getElem?_eq_some_iff.1 e).1, .inl hj⟩).trans e
    refine (hseq (w.heap.size + 1)
      (fun k W => I k W ∧ W.heap[w.heap.size + 1]? = some (.loop (rec .ready none)) ∧ W.heap[w.heap.size]? = some (.deferred (some [])))
      (fun k W => Ix k W ∧ W.heap[w.heap.size + 1]? = some (.loop (rec .done (some .ret))) ∧ W.heap[w.heap.size]? = some (.deferred (some [])))
      W1 hE1
      (fun k A B h hE => ⟨hI k A B h.1 (hE.mono (by omega)), grow hE (by omega) h.2.1, grow hE (by omega) h.2.2⟩)
      (fun k A B h hE => ⟨hIx k A B h.1 (hE.mono (by omega)), grow hE (by omega) h.2.1, grow hE (by omega) h.2.2⟩)
      ?_ ⟨hI1, hL1, hK1⟩).mono ?_
    · rintro k W ⟨hi, hl, hk⟩ hkN m
      have hlt : w.heap.size + 1 < W.heap.size := (Array.getElem?_eq_some_iff.1 hl).1
      have hy := run_yield (P := P) (args := encs k) hl (by rw [hrec]; exact hps k)
      rw [hrec] at hy
      refine ⟨fn, _, assign, body, hy, RoundIn.any rfl (n := n) (roundIn_of_wpIn hfn ?_)⟩
      refine hround _ k W _ hi hkN hlt (fun a1 W2 hbody hheld => ?_)
      have hl' : W2.heap[w.heap.size + 1]? = some (.loop (rec .ready none)) := (hheld.block _ (.inr (.inr rfl))).trans hl
      have hk' : W2.heap[w.heap.size]? = some (.deferred (some [])) := (hheld.block _ (.inr (.inl rfl))).trans hk
      have hlt2 : w.heap.size + 1 < W2.heap.size := (Array.getElem?_eq_some_iff.1 hl').1
      refine ⟨_, run_beginRound hl' (by rw [hrec]), ?_⟩
      have hl2 : (W2.putObj (w.heap.size + 1) (.loop { rec .ready none with state := .busy })).heap[w.heap.size + 1]? = some (.loop { rec .ready none with state := .busy }) := World.putObj_heap_same hlt2
      have hk2 : (W2.putObj (w.heap.size + 1) (.loop { rec .ready none with state := .busy })).heap[w.heap.size]? = some (.deferred (some [])) := (World.putObj_heap_other (by omega)).trans hk'
      have hp1 : Held S W2 (W2.putObj (w.heap.size + 1) (.loop { rec .ready none with state := .busy })) := Held.put _ _ _ (fun j hj => by have := hS j hj; omega)
      refine wpIn_mono (hbody _ (Keeps.put _ hl' rfl (by omega)) (by simp; omega)) ?_
      have fin : ∀ (jump : Option Code) (W3 : World), Held (fun j => S j ∨ j = w.heap.size ∨ j = w.heap.size + 1) (W2.putObj (w.heap.size + 1) (.loop { rec .ready none with state := .busy })) W3 →
          (Instr.endRound (w.heap.size + 1) jump).run P W3 = .ok (.bool jump.isNone) (W3.putObj (w.heap.size + 1) (.loop (rec (if jump.isNone then .ready else .done) jump))) ∧
          (W3.putObj (w.heap.size + 1) (.loop (rec (if jump.isNone then .ready else .done) jump))).heap[w.heap.size + 1]? = some (.loop (rec (if jump.isNone then .ready else .done) jump)) ∧
          (W3.putObj (w.heap.size + 1) (.loop (rec (if jump.isNone then .ready else .done) jump))).heap[w.heap.size]? = some (.deferred (some [])) ∧
          Held S W (W3.putObj (w.heap.size + 1) (.loop (rec (if jump.isNone then .ready else .done) jump))) ∧
          Keeps w.heap.size W3 (W3.putObj (w.heap.size + 1) (.loop (rec (if jump.isNone then .ready else .done) jump))) := fun jump W3 hh => by
        have hl3 := (hh.block _ (.inr (.inr rfl))).trans hl2
        have hk3 := (hh.block _ (.inr (.inl rfl))).trans hk2
        have := run_endRound (P := P) jump hl3
        rw [hrec] at this ⊢
        exact ⟨this, World.putObj_heap_same (Array.getElem?_eq_some_iff.1 hl3).1, (World.putObj_heap_other (by omega)).trans hk3,
          (((hheld.mono (fun j hj => .inl hj)).trans hp1).trans (hh.mono (fun j hj => .inl hj))).trans (Held.put _ _ _ (fun j hj => by have := hS j hj; omega)), Keeps.put _ hl3 rfl (by omega)⟩
      rintro e a3 W3 hp
      cases e with
      | normal =>
        obtain ⟨hh, hi3⟩ := hp
        obtain ⟨hr, hl4, hk4, hH, hKp⟩ := fin none W3 hh
        exact ⟨_, _, hr, .inl ⟨rfl, ⟨hI _ _ _ hi3 hKp, hl4, hk4⟩, hH⟩⟩
      | ret =>
        obtain ⟨hh, hi3⟩ := hp
        obtain ⟨hr, hl4, hk4, _, hKp⟩ := fin (some .ret) W3 hh
        exact ⟨_, _, hr, .inr ⟨rfl, hIx _ _ _ hi3 hKp, hl4, hk4⟩⟩
      | exit id => exact hp.elim
      | goto t => exact hp.elim
      | panic ch => exact hp.elim
      | outgrown => exact hp.elim
    · rintro e W2 ⟨⟨v, rfl⟩, ⟨hi, hl, hk⟩ | ⟨k, hkN, hi, hl, hk⟩⟩
      · exact ⟨none, _, by have := run_endLoop (P := P) hl (by rw [hrec]; simp); rw [hrec] at this; exact this, hdone _ (hI _ _ _ hi (Keeps.put _ hl rfl (by omega))) ((World.putObj_heap_other (by omega)).trans hk)⟩
      · exact ⟨some .ret, _, by have := run_endLoop (P := P) hl (by rw [hrec]; simp); rw [hrec] at this; exact this, hstop k _ hkN (hIx _ _ _ hi (Keeps.put _ hl rfl (by omega))) ((World.putObj_heap_other (by omega)).trans hk)⟩
end Go.Proofs.Ytnpebfchojalcaa
