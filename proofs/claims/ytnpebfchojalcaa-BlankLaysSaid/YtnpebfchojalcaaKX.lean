import Derived.Test.YtnpebfchojalcaaB5
import Derived.Maps.RangeWalk
import Derived.Sort.MapsRangeIn
import Derived.LoopNIn
import Derived.LoopIn
import Derived.TacticsInMore
import Derived.Test.YtnpebfchojalcaaMY
import Derived.Test.YtnpebfchojalcaaR1
import Derived.Test.YtnpebfchojalcaaG1
namespace Go.Proofs.Ytnpebfchojalcaa
set_option maxRecDepth 100000
open Go.RowKit Go.Maps
/-! A range over the keys of a map, in whatever order they come. -/
/-- An iterator that hands out vectors of a list, each at least once, in an order of its own; a round leaves maps and iterators alone. -/
def IterM (P : Program) (gf : FuncId) (lb : Array Value) (enc : Pt → Array Value) (ks : List Pt) (S : Nat → Prop) (w : World) : Prop :=
  ∀ (l : Nat) (J : List Pt → World → Prop) (W : World), Ext w W → (∀ pre A A', J pre A → Keeps W.heap.size A A' → J pre A') →
    (∀ pre x W1, J pre W1 → (pre ++ [x]).Nodup → (∀ y, y ∈ pre ++ [x] → y ∈ ks) → YieldW P l (enc x) W1 fun e W' => e = .returned (.bool true) ∧ J (pre ++ [x]) W' ∧ Held S W1 W' ∧ KeepsWalks W1 W') →
    J [] W → Calls P gf (#[.func (.yield l) #[] #[]] ++ lb) W fun e W' => (∃ v, e = .returned v) ∧ ∃ ys, ys.Nodup ∧ (∀ y, y ∈ ys ↔ y ∈ ks) ∧ J ys W'

theorem wpIn_range_m {P : Program} {n : Nat} {g : Operand} {ps : Array Tmp} {assign body : Code} {Q : Exit → Act → World → Prop} {a : Act} {w : World}
    {gf : Nat} {lb : Array Value} (hg : a.eval g = .func (.func gf) #[] lb) (eg : ∀ args w, (callFunc gf args).run P w = .ok (.enter gf args) w)
    (ks : List Pt) (S : Nat → Prop) (enc : Pt → Array Value) (hS : ∀ j, S j → j < w.heap.size) (hps : ∀ x, (enc x).size = ps.size) (hseq : IterM P gf lb enc ks S w)
    (I : List Pt → World → Prop) (hI : ∀ pre A A', I pre A → Keeps w.heap.size A A' → I pre A') (h0 : I [] w)
    (hround : ∀ (l : Nat) (pre : List Pt) (x : Pt) (W : World) (K : Act → World → Prop), I pre W → (pre ++ [x]).Nodup → (∀ y, y ∈ pre ++ [x] → y ∈ ks) → w.heap.size + 1 < W.heap.size →
      (∀ (a1 : Act) (W1 : World) , (∀ W2, Keeps w.heap.size W1 W2 → w.heap.size + 1 < W2.heap.size → body.wpIn (Fence.wide.inRound l) n P (postR (fun A B => Held (fun j => S j ∨ j = w.heap.size ∨ j = w.heap.size + 1) A B ∧ KeepsWalks A B) (I (pre ++ [x])) (fun _ => False) W2) a1 W2) → Held (fun j => S j ∨ j = w.heap.size ∨ j = w.heap.size + 1) W W1 → KeepsWalks W W1 → K a1 W1) →
      assign.wpIn (Fence.wide.inRound l) n P (Exit.then K (fun _ _ _ => False)) { tmps := (ps.zip (enc x)).foldl (fun t (p, v) => t.setIfInBounds p v) a.tmps, defers := [] } W)
    (hdone : ∀ W ys, ys.Nodup → (∀ y, y ∈ ys ↔ y ∈ ks) → I ys W → W.heap[w.heap.size]? = some (.deferred (some [])) → Q .normal { a with defers := { target := .collected w.heap.size, args := #[] } :: a.defers } W) :
    (Code.rangeFunc g ps assign body).wpIn Fence.wide n P Q a w := by
  refine wpIn_rangeFunc ?_
  intro fn hfn
  rw [show Fence.wide.round = none from rfl]
  obtain ⟨rec, hrec⟩ : ∃ rec : LoopState → Option Code → Loop, rec = fun st pe => { state := st, pending := pe, fn, tmps := a.tmps, params := ps, assign, body, defers := w.heap.size } := ⟨_, rfl⟩
  obtain ⟨W1, hW1⟩ : ∃ W1, (w.alloc (.deferred (some []))).alloc (.loop (rec .ready none)) = W1 := ⟨_, rfl⟩
  have hs1 : W1.heap.size = w.heap.size + 2 := by rw [← hW1]; simp
  have hL1 : W1.heap[w.heap.size + 1]? = some (.loop (rec .ready none)) := by
    rw [← hW1]; have := World.alloc_heap_new (w.alloc (.deferred (some []))) (.loop (rec .ready none)); rwa [World.size_alloc] at this
  have hK1 : W1.heap[w.heap.size]? = some (.deferred (some [])) := by
    rw [← hW1]; exact (Below.heap_alloc _ _ _ (by simp)).trans (World.alloc_heap_new w _)
  have hE1 : Ext w W1 := by rw [← hW1]; exact ((Below.refl _ w).alloc (Nat.le_refl _) _).alloc (by simp) _
  have hI1 : I [] W1 := hI [] _ _ h0 (Keeps.of_ext hE1)
  refine ⟨w.heap.size + 1, [{ target := .collected w.heap.size, args := #[] }], W1, { target := .fn (.func gf) lb, args := #[.func (.yield (w.heap.size + 1)) #[] #[]] }, W1, gf,
    #[.func (.yield (w.heap.size + 1)) #[] #[]] ++ lb, W1, ?_, ?_, ?_, ?_, fun h => (by cases h), callsIn_wide.2 ?_⟩
  · rw [← hW1, hrec]; exact run_enterLoop_outer _ _ _ _ _
  · simp only [resolve, hg]
    simp [go_sem]
  · intro f' hf'; trivial
  · simp [invoke, go_sem, eg]
  · have grow : ∀ {A B : World} {o : Obj} {j : Nat}, Keeps W1.heap.size A B → j < W1.heap.size → A.heap[j]? = some o → B.heap[j]? = some o := fun h hj e => (h.block _ ⟨(Array.getElem?_eq_some_iff.1 e).1, .inl hj⟩).trans e
    refine (hseq (w.heap.size + 1)
      (fun pre W => I pre W ∧ W.heap[w.heap.size + 1]? = some (.loop (rec .ready none)) ∧ W.heap[w.heap.size]? = some (.deferred (some [])))
      W1 hE1
      (fun pre A B h hE => ⟨hI pre A B h.1 (hE.mono (by omega)), grow hE (by omega) h.2.1, grow hE (by omega) h.2.2⟩)
      ?_ ⟨hI1, hL1, hK1⟩).mono ?_
    · rintro pre x W ⟨hi, hl, hk⟩ hnd hmem m
      have hlt : w.heap.size + 1 < W.heap.size := (Array.getElem?_eq_some_iff.1 hl).1
      have hy := run_yield (P := P) (args := enc x) hl (by rw [hrec]; exact hps x)
      rw [hrec] at hy
      refine ⟨fn, _, assign, body, hy, RoundIn.any rfl (n := n) (roundIn_of_wpIn hfn ?_)⟩
      refine hround _ pre x W _ hi hnd hmem hlt (fun a1 W2 hbody hheld hkw => ?_)
      have hl' : W2.heap[w.heap.size + 1]? = some (.loop (rec .ready none)) := (hheld.block _ (.inr (.inr rfl))).trans hl
      have hk' : W2.heap[w.heap.size]? = some (.deferred (some [])) := (hheld.block _ (.inr (.inl rfl))).trans hk
      have hlt2 : w.heap.size + 1 < W2.heap.size := (Array.getElem?_eq_some_iff.1 hl').1
      refine ⟨_, run_beginRound hl' (by rw [hrec]), ?_⟩
      have hl2 : (W2.putObj (w.heap.size + 1) (.loop { rec .ready none with state := .busy })).heap[w.heap.size + 1]? = some (.loop { rec .ready none with state := .busy }) := World.putObj_heap_same hlt2
      have hk2 : (W2.putObj (w.heap.size + 1) (.loop { rec .ready none with state := .busy })).heap[w.heap.size]? = some (.deferred (some [])) := (World.putObj_heap_other (by omega)).trans hk'
      have hkw2 : KeepsWalks W2 (W2.putObj (w.heap.size + 1) (.loop { rec .ready none with state := .busy })) := KeepsWalks.putObj _ hl' rfl
      have hp1 : Held S W2 (W2.putObj (w.heap.size + 1) (.loop { rec .ready none with state := .busy })) := Held.put _ _ _ (fun j hj => by have := hS j hj; omega)
      refine wpIn_mono (hbody _ (Keeps.put _ hl' rfl (by omega)) (by simp; omega)) ?_
      have fin : ∀ (jump : Option Code) (W3 : World), Held (fun j => S j ∨ j = w.heap.size ∨ j = w.heap.size + 1) (W2.putObj (w.heap.size + 1) (.loop { rec .ready none with state := .busy })) W3 → KeepsWalks (W2.putObj (w.heap.size + 1) (.loop { rec .ready none with state := .busy })) W3 →
          (Instr.endRound (w.heap.size + 1) jump).run P W3 = .ok (.bool jump.isNone) (W3.putObj (w.heap.size + 1) (.loop (rec (if jump.isNone then .ready else .done) jump))) ∧
          (W3.putObj (w.heap.size + 1) (.loop (rec (if jump.isNone then .ready else .done) jump))).heap[w.heap.size + 1]? = some (.loop (rec (if jump.isNone then .ready else .done) jump)) ∧
          (W3.putObj (w.heap.size + 1) (.loop (rec (if jump.isNone then .ready else .done) jump))).heap[w.heap.size]? = some (.deferred (some [])) ∧
          Held S W (W3.putObj (w.heap.size + 1) (.loop (rec (if jump.isNone then .ready else .done) jump))) ∧
          Keeps w.heap.size W3 (W3.putObj (w.heap.size + 1) (.loop (rec (if jump.isNone then .ready else .done) jump))) ∧ KeepsWalks W (W3.putObj (w.heap.size + 1) (.loop (rec (if jump.isNone then .ready else .done) jump))) := fun jump W3 hh hw3 => by
        have hl3 := (hh.block _ (.inr (.inr rfl))).trans hl2
        have hk3 := (hh.block _ (.inr (.inl rfl))).trans hk2
        have := run_endRound (P := P) jump hl3
        rw [hrec] at this ⊢
        exact ⟨this, World.putObj_heap_same (Array.getElem?_eq_some_iff.1 hl3).1, (World.putObj_heap_other (by omega)).trans hk3,
          (((hheld.mono (fun j hj => .inl hj)).trans hp1).trans (hh.mono (fun j hj => .inl hj))).trans (Held.put _ _ _ (fun j hj => by have := hS j hj; omega)), Keeps.put _ hl3 rfl (by omega), ((hkw.trans hkw2).trans hw3).trans (KeepsWalks.putObj _ hl3 rfl)⟩
      rintro e a3 W3 hp
      cases e with
      | normal =>
        obtain ⟨⟨hh, hw3⟩, hi3⟩ := hp
        obtain ⟨hr, hl4, hk4, hH, hKp, hKW⟩ := fin none W3 hh hw3
        exact ⟨_, _, hr, rfl, ⟨hI _ _ _ hi3 hKp, hl4, hk4⟩, hH, hKW⟩
      | ret => exact hp.2.elim
      | exit id => exact hp.elim
      | goto t => exact hp.elim
      | panic ch => exact hp.elim
      | outgrown => exact hp.elim
    · rintro e W2 ⟨⟨v, rfl⟩, ys, hnd, hmem, hi, hl, hk⟩
      exact ⟨none, _, by have := run_endLoop (P := P) hl (by rw [hrec]; simp); rw [hrec] at this; exact this, hdone _ ys hnd hmem (hI _ _ _ hi (Keeps.put _ hl rfl (by omega))) ((World.putObj_heap_other (by omega)).trans hk)⟩
/-- what is left of a map's keys when some have come -/
structure Coll (ks : List Pt) (left : Lit → Bool) (ys : List Pt) : Prop where
  nd : ys.Nodup
  sub : ∀ y, y ∈ ys → y ∈ ks
  some : ∀ kl, left kl = true → ∃ q, q ∈ ks ∧ q ∉ ys ∧ kl = keyL q
  all : ∀ q, q ∈ ks → q ∉ ys → left (keyL q) = true
theorem same_str {kl : Lit} {p : Pt} (h : (keyL p).sameKey kl = true) : kl = keyL p := by
  unfold keyL at *
  cases kl <;> simp_all [Lit.sameKey]
theorem coll_has (ks : List Pt) (kl : Lit) : has (setD ks) kl = true ↔ ∃ q, q ∈ ks ∧ (keyL q).sameKey kl = true := by
  unfold setD
  rw [has_setOf]
  · simp only [List.any_eq_true, List.mem_map]
    constructor
    · rintro ⟨_, ⟨q, hq, rfl⟩, h⟩
      exact ⟨q, hq, h⟩
    · rintro ⟨q, hq, h⟩
      exact ⟨_, ⟨q, hq, rfl⟩, h⟩
  · intro x hx
    rw [List.mem_map] at hx
    obtain ⟨q, _, rfl⟩ := hx
    exact keyL_lit q
theorem coll_start (ks : List Pt) : Coll ks (has (setD ks)) [] :=
  ⟨List.nodup_nil, fun y hy => (by cases hy), fun kl h => by
    obtain ⟨q, hq, h⟩ := (coll_has ks kl).1 h
    exact ⟨q, hq, List.not_mem_nil, same_str h⟩, fun q hq _ => (coll_has ks _).2 ⟨q, hq, (keyL_same q q).2 rfl⟩⟩
theorem coll_step {ks ys : List Pt} {left : Lit → Bool} (hk : ∀ q ∈ ks, nearPt q) (h : Coll ks left ys) {q : Pt} (hq : q ∈ ks) (hy : q ∉ ys) : Coll ks (fun z => left z && !z.sameKey (keyL q)) (ys ++ [q]) := by
  refine ⟨?_, ?_, ?_, ?_⟩
  · rw [List.nodup_append]
    refine ⟨h.nd, by simp, fun a ha b hb e => ?_⟩
    rw [List.mem_singleton] at hb
    subst hb e
    exact hy ha
  · intro y hm
    rcases List.mem_append.1 hm with hm | hm
    · exact h.sub y hm
    · rw [List.mem_singleton] at hm
      rw [hm]; exact hq
  · intro kl hl
    simp only [Bool.and_eq_true, Bool.not_eq_true'] at hl
    obtain ⟨p, hp, hpy, rfl⟩ := h.some kl hl.1
    refine ⟨p, hp, fun hm => ?_, rfl⟩
    rcases List.mem_append.1 hm with hm | hm
    · exact hpy hm
    · rw [List.mem_singleton] at hm
      subst hm
      rw [(keyL_same p p).2 rfl] at hl
      cases hl.2
  · intro p hp hm
    have h1 : p ∉ ys := fun e => hm (List.mem_append.2 (.inl e))
    have h2 : p ≠ q := fun e => hm (List.mem_append.2 (.inr (List.mem_singleton.2 e)))
    simp only [Bool.and_eq_true, Bool.not_eq_true']
    refine ⟨h.all p hp h1, ?_⟩
    rw [Bool.eq_false_iff]
    intro e
    exact h2 (keyL_inj (hk p hp) (hk q hq) ((keyL_same p q).1 e))
theorem coll_end {ks ys : List Pt} {left : Lit → Bool} (h : Coll ks left ys) (hl : ∀ kl, left kl = false) : ∀ y, y ∈ ys ↔ y ∈ ks := fun y =>
  ⟨h.sub y, fun hy => Decidable.byContradiction fun hn => by have := h.all y hy hn; rw [hl] at this; cases this⟩
theorem keeps_grown {B r : Nat} {A A' : World} (hg : A.grownBy A' (some r)) (hr : B ≤ r) (ho : ∃ o : Obj, A.heap[r]? = some o ∧ o.isWalk = true) : Keeps B A A' :=
  ⟨hg.os, hg.tape, hg.output, hg.size, fun j hj => hg.block j hj.1 (fun e => by
    injection e with e
    subst e
    rcases hj.2 with h | ⟨o, h1, h2⟩
    · omega
    · obtain ⟨o2, h3, h4⟩ := ho
      rw [h1] at h3
      injection h3 with h3
      subst h3
      rw [Obj.not_cells_of_walk h4] at h2
      cases h2)⟩
theorem keeps_none {B : Nat} {A A' : World} (hg : A.grownBy A' none) : Keeps B A A' := ⟨hg.os, hg.tape, hg.output, hg.size, fun j hj => hg.block j hj.1 (fun e => by cases e)⟩
theorem held_grown {S : Nat → Prop} {row : Option Nat} {A A' : World} (hg : A.grownBy A' row) (hS : ∀ j, S j → j < A.heap.size ∧ some j ≠ row) : Held S A A' :=
  ⟨hg.os, hg.tape, hg.output, hg.size, fun j hj => hg.block j (hS j hj).1 (hS j hj).2⟩
end Go.Proofs.Ytnpebfchojalcaa

namespace Go.Proofs.Ytnpebfchojalcaa
set_option maxRecDepth 100000
open Go.RowKit Go.Shelf Go.Maps
attribute [local go_sem] Oper.semAt_some
/-! A map's keys collected in a slice. -/
theorem walks_grown {A A' : World} {v : Value} {base n : Nat} {xs : List Value} (h : A.ownsRow base 31 2 v n xs) (hg : A.grownBy A' v.ownBlock) : KeepsWalks A A' :=
  KeepsWalks.of_grownBy hg fun j o hj ho => by
    rcases h.2 with ⟨rfl, _⟩ | ⟨g, cap, cur, rfl, _, hc, _⟩
    · cases hj
    · simp only [Value.ownBlock, Option.some.injEq] at hj
      subst hj
      rw [hc] at ho
      injection ho with ho
      subst ho
      rfl
end Go.Proofs.Ytnpebfchojalcaa

namespace Go.Proofs.Ytnpebfchojalcaa
set_option maxRecDepth 100000
open Go.RowKit Go.Shelf
attribute [local go_sem] Oper.semAt_some
/-! The order of witnesses. -/
theorem orZ_two (p q : Int) : orZ [p, q] = if p = 0 then q else p := by
  by_cases h : p = 0
  · rw [if_pos h, h]
    show (if (0 : Int) = 0 then (if q = 0 then (0 : Int) else q) else 0) = q
    by_cases hq : q = 0 <;> simp [hq]
  · rw [if_neg h]
    show (if p = 0 then _ else p) = p
    rw [if_neg h]
def sqZ (a b : Int) : Int := a * a + b * b
set_option maxHeartbeats 1000000 in
theorem lex_c (a b c d : Int) (w : World) :
    Calls Try.prog 52 #[vecV a b, vecV c d] w fun e w' => e = .returned (.int .i64 (heightZ b a d c)) ∧ Ext w w' := by
  have hm0 := VRow.alloc (vrow_alloc w [.int .i64 a, .int .i64 b] 31) (.cells #[.int .i64 c, .int .i64 d] 31)
  have hn0 := vrow_alloc (w.alloc (.cells #[.int .i64 a, .int .i64 b] 31)) [.int .i64 c, .int .i64 d] 31
  have hE := Ext.alloc (Ext.alloc (Ext.refl w) (.cells #[.int .i64 a, .int .i64 b] 31)) (.cells #[.int .i64 c, .int .i64 d] 31)
  have hs1 : (w.alloc (.cells #[.int .i64 a, .int .i64 b] 31)).heap.size = w.heap.size + 1 := by simp
  rw [hs1] at hn0
  change VRow ((w.alloc (.cells #[.int .i64 a, .int .i64 b] 31)).alloc (.cells #[.int .i64 c, .int .i64 d] 31)) _ _ _ at hm0 hn0
  have HM := Lib.hid hm0
  have HN := Lib.hid hn0
  have HE := Lib.hid hE
  clear hs1 hm0 hn0 hE
  go_enter Try.func52, Try.ntmps52
  go_wp2_with fail
  generalize (w.alloc (.cells #[.int .i64 a, .int .i64 b] 31)).alloc (.cells #[.int .i64 c, .int .i64 d] 31) = w1 at *
  generalize hs : w.heap.size = s at *
  refine wp_region_stable [⟨[], none⟩, ⟨[(0, 5)], none⟩, ⟨[], none⟩, ⟨[(2, 7)], none⟩, ⟨[(1, 6), (3, 8)], none⟩, ⟨[], none⟩, ⟨[(5, 10)], none⟩, ⟨[], none⟩, ⟨[(7, 12)], none⟩, ⟨[(6, 11), (8, 13)], none⟩, ⟨[(4, 9), (9, 14)], none⟩, ⟨[(10, 15)], none⟩, ⟨[(11, 16)], none⟩] (fun x y => Below x.heap.size x y) (MPat [MP.eq (.pointer (some ⟨s, 0, none⟩)), MP.eq (.int .i64 a), MP.eq (.pointer (some ⟨(s + 1), 0, none⟩)), MP.eq (.int .i64 c), MP.eq (.int .i64 (sgnZ a c)), MP.eq (.pointer (some ⟨s, 1, none⟩)), MP.eq (.int .i64 b), MP.eq (.pointer (some ⟨(s + 1), 1, none⟩)), MP.eq (.int .i64 d), MP.eq (.int .i64 (sgnZ b d)), MP.ints [sgnZ a c, sgnZ b d], MP.eq (.int .i64 (heightZ b a d c)), MP.eq (.int .i64 (heightZ b a d c))]) (by kernel_rfl) (fun _ _ _ h k => Ext.trans h k) (fun _ => Below.refl _ _) (fun x => (Below.refl x.heap.size x).drew) (MPat.mono _) (by kernel_rfl) ?obs ?rest
  case obs =>
    refine ⟨?_, ?_, ?_, ?_, ?_, ?_, ?_, ?_, ?_, ?_, ?_, ?_, ?_, trivial⟩
    · intro ev W hf _ _ hst hd
      have e2 : ev (.tmp 2) = .pointer (some ⟨s, 0, none⟩) := hf 2 (by kernel_rfl)
      exact st_value (v := .pointer (some ⟨s, 0, none⟩)) (by simp [execOp, go_sem, e2]) (Below.refl _ _) rfl
    · intro ev W hf _ _ hst hd
      obtain ⟨d5, _⟩ := hd
      have e5 : ev (.tmp 5) = .pointer (some ⟨s, 0, none⟩) := d5
      have kk := VRow.ext HM.out hst
      have k0 := VRow.cell kk (k := 0) rfl
      exact st_value (v := .int .i64 a) (by simp [execOp, go_sem, e5, k0]) (Below.refl _ _) rfl
    · intro ev W hf _ _ hst hd
      have e3 : ev (.tmp 3) = .pointer (some ⟨(s + 1), 0, none⟩) := hf 3 (by kernel_rfl)
      exact st_value (v := .pointer (some ⟨(s + 1), 0, none⟩)) (by simp [execOp, go_sem, e3]) (Below.refl _ _) rfl
    · intro ev W hf _ _ hst hd
      obtain ⟨d7, _⟩ := hd
      have e7 : ev (.tmp 7) = .pointer (some ⟨(s + 1), 0, none⟩) := d7
      have kk := VRow.ext HN.out hst
      have k0 := VRow.cell kk (k := 0) rfl
      exact st_value (v := .int .i64 c) (by simp [execOp, go_sem, e7, k0]) (Below.refl _ _) rfl
    · intro ev W hf _ hfn hst hd
      obtain ⟨d6, d8, _⟩ := hd
      have e6 : ev (.tmp 6) = .int .i64 a := d6
      have e8 : ev (.tmp 8) = .int .i64 c := d8
      refine st_call (f := 50) (args := #[.int .i64 a, .int .i64 c]) (by simp [execOp, go_sem, hfn, e6, e8]) (calls_same (compare_c a c W)) (fun _ _ => rfl)
    · intro ev W hf _ _ hst hd
      have e2 : ev (.tmp 2) = .pointer (some ⟨s, 0, none⟩) := hf 2 (by kernel_rfl)
      exact st_value (v := .pointer (some ⟨s, 1, none⟩)) (by simp [execOp, go_sem, e2]) (Below.refl _ _) rfl
    · intro ev W hf _ _ hst hd
      obtain ⟨d10, _⟩ := hd
      have e10 : ev (.tmp 10) = .pointer (some ⟨s, 1, none⟩) := d10
      have kk := VRow.ext HM.out hst
      have k1 := VRow.cell kk (k := 1) rfl
      exact st_value (v := .int .i64 b) (by simp [execOp, go_sem, e10, k1]) (Below.refl _ _) rfl
    · intro ev W hf _ _ hst hd
      have e3 : ev (.tmp 3) = .pointer (some ⟨(s + 1), 0, none⟩) := hf 3 (by kernel_rfl)
      exact st_value (v := .pointer (some ⟨(s + 1), 1, none⟩)) (by simp [execOp, go_sem, e3]) (Below.refl _ _) rfl
    · intro ev W hf _ _ hst hd
      obtain ⟨d12, _⟩ := hd
      have e12 : ev (.tmp 12) = .pointer (some ⟨(s + 1), 1, none⟩) := d12
      have kk := VRow.ext HN.out hst
      have k1 := VRow.cell kk (k := 1) rfl
      exact st_value (v := .int .i64 d) (by simp [execOp, go_sem, e12, k1]) (Below.refl _ _) rfl
    · intro ev W hf _ hfn hst hd
      obtain ⟨d11, d13, _⟩ := hd
      have e11 : ev (.tmp 11) = .int .i64 b := d11
      have e13 : ev (.tmp 13) = .int .i64 d := d13
      refine st_call (f := 50) (args := #[.int .i64 b, .int .i64 d]) (by simp [execOp, go_sem, hfn, e11, e13]) (calls_same (compare_c b d W)) (fun _ _ => rfl)
    · intro ev W hf _ hfn hst hd
      obtain ⟨d9, d14, _⟩ := hd
      have e9 : ev (.tmp 9) = .int .i64 (sgnZ a c) := d9
      have e14 : ev (.tmp 14) = .int .i64 (sgnZ b d) := d14
      refine st_new (v := .slice (some ⟨W.heap.size, 0, none⟩) 2 2) (o := .cells #[.int .i64 (sgnZ a c), .int .i64 (sgnZ b d)] 3) ?_ ?_
      · simp [execOp, go_sem, e9, e14]
      · exact IRow.ints' (xs := [sgnZ a c, sgnZ b d]) (vrow_alloc W [.int .i64 (sgnZ a c), .int .i64 (sgnZ b d)] 3) rfl (by simp) (by simp)
    · intro ev W hf _ hfn hst hd
      obtain ⟨d15, _⟩ := hd
      have d15 : Ints W (ev (.tmp 15)) [sgnZ a c, sgnZ b d] := d15
      refine st_call (f := 49) (args := #[ev (.tmp 15)]) (by simp [execOp, go_sem, hfn]) ?_ (fun _ _ => rfl)
      have h9 := calls_same (or_c _ _ W d15)
      rw [heightZ_or] at h9
      exact h9
    · intro ev W hf _ _ hst hd
      obtain ⟨d16, _⟩ := hd
      have e16 : ev (.tmp 16) = .int .i64 (heightZ b a d c) := d16
      exact st_value (v := .int .i64 (heightZ b a d c)) (by simp [execOp, go_sem, e16]) (Below.refl _ _) rfl
  case rest =>
    intro vs w3 hl hst hg
    have hx0 : ∀ u, vs[0]? = some u → u = .pointer (some ⟨s, 0, none⟩) := fun u hu => hg 0 u hu
    have hx1 : ∀ u, vs[1]? = some u → u = .int .i64 a := fun u hu => hg 1 u hu
    have hx2 : ∀ u, vs[2]? = some u → u = .pointer (some ⟨(s + 1), 0, none⟩) := fun u hu => hg 2 u hu
    have hx3 : ∀ u, vs[3]? = some u → u = .int .i64 c := fun u hu => hg 3 u hu
    have hx4 : ∀ u, vs[4]? = some u → u = .int .i64 (sgnZ a c) := fun u hu => hg 4 u hu
    have hx5 : ∀ u, vs[5]? = some u → u = .pointer (some ⟨s, 1, none⟩) := fun u hu => hg 5 u hu
    have hx6 : ∀ u, vs[6]? = some u → u = .int .i64 b := fun u hu => hg 6 u hu
    have hx7 : ∀ u, vs[7]? = some u → u = .pointer (some ⟨(s + 1), 1, none⟩) := fun u hu => hg 7 u hu
    have hx8 : ∀ u, vs[8]? = some u → u = .int .i64 d := fun u hu => hg 8 u hu
    have hx9 : ∀ u, vs[9]? = some u → u = .int .i64 (sgnZ b d) := fun u hu => hg 9 u hu
    have hx10 : ∀ u, vs[10]? = some u → MP.p (MP.ints [sgnZ a c, sgnZ b d]) u w3 := fun u hu => hg 10 u hu
    have hx11 : ∀ u, vs[11]? = some u → u = .int .i64 (heightZ b a d c) := fun u hu => hg 11 u hu
    have hx12 : ∀ u, vs[12]? = some u → u = .int .i64 (heightZ b a d c) := fun u hu => hg 12 u hu
    have HE3 := Lib.hid hst
    clear hg hst
    obtain ⟨x0, vs0, rfl, hl0⟩ := len_succ hl
    obtain ⟨x1, vs1, rfl, hl1⟩ := len_succ hl0
    obtain ⟨x2, vs2, rfl, hl2⟩ := len_succ hl1
    obtain ⟨x3, vs3, rfl, hl3⟩ := len_succ hl2
    obtain ⟨x4, vs4, rfl, hl4⟩ := len_succ hl3
    obtain ⟨x5, vs5, rfl, hl5⟩ := len_succ hl4
    obtain ⟨x6, vs6, rfl, hl6⟩ := len_succ hl5
    obtain ⟨x7, vs7, rfl, hl7⟩ := len_succ hl6
    obtain ⟨x8, vs8, rfl, hl8⟩ := len_succ hl7
    obtain ⟨x9, vs9, rfl, hl9⟩ := len_succ hl8
    obtain ⟨x10, vs10, rfl, hl10⟩ := len_succ hl9
    obtain ⟨x11, vs11, rfl, hl11⟩ := len_succ hl10
    obtain ⟨x12, vs12, rfl, hl12⟩ := len_succ hl11
    have hnil : vs12 = [] := List.length_eq_zero_iff.1 hl12
    subst hnil
    obtain rfl : x0 = .pointer (some ⟨s, 0, none⟩) := hx0 _ rfl
    obtain rfl : x1 = .int .i64 a := hx1 _ rfl
    obtain rfl : x2 = .pointer (some ⟨(s + 1), 0, none⟩) := hx2 _ rfl
    obtain rfl : x3 = .int .i64 c := hx3 _ rfl
    obtain rfl : x4 = .int .i64 (sgnZ a c) := hx4 _ rfl
    obtain rfl : x5 = .pointer (some ⟨s, 1, none⟩) := hx5 _ rfl
    obtain rfl : x6 = .int .i64 b := hx6 _ rfl
    obtain rfl : x7 = .pointer (some ⟨(s + 1), 1, none⟩) := hx7 _ rfl
    obtain rfl : x8 = .int .i64 d := hx8 _ rfl
    obtain rfl : x9 = .int .i64 (sgnZ b d) := hx9 _ rfl
    replace hx10 := hx10 _ rfl
    obtain rfl : x11 = .int .i64 (heightZ b a d c) := hx11 _ rfl
    obtain rfl : x12 = .int .i64 (heightZ b a d c) := hx12 _ rfl
    clear hx0 hx1 hx2 hx3 hx4 hx5 hx6 hx7 hx8 hx9 hx11 hx12
    simp only [putAll, Act.put, List.setIfInBounds_toArray, List.set_cons_zero, List.set_cons_succ]
    go_wp2_with fail
    go_ret
    exact ⟨rfl, Ext.trans HE.out HE3.out⟩
/-- the order of witnesses: the shorter first, of one length the lexicographically greater -/
def witZ (a b c d : Int) : Int := if sgnZ (sqZ a b) (sqZ c d) = 0 then heightZ d c b a else sgnZ (sqZ a b) (sqZ c d)
end Go.Proofs.Ytnpebfchojalcaa

namespace Go.Proofs.Ytnpebfchojalcaa
set_option maxRecDepth 100000
open Go.RowKit Go.Shelf
/-! The first of some vectors in the order of witnesses. -/
def witP (a b : Pt) : Int := witZ a.1 a.2 b.1 b.2
def minW (qs : List Pt) : Nat → Pt
  | 0 => fromP qs 0
  | k + 1 => if witP (fromP qs (k + 1)) (minW qs k) < 0 then fromP qs (k + 1) else minW qs k
def minWP (qs : List Pt) : Pt := minW qs (qs.length - 1)
end Go.Proofs.Ytnpebfchojalcaa

namespace Go.Proofs.Ytnpebfchojalcaa
set_option maxRecDepth 100000
open Go.RowKit Go.Shelf Go.Maps
attribute [local go_sem] Oper.semAt_some
/-! The first key of a map, and Witness. -/
theorem sgn_neg (a b : Int) : sgnZ a b < 0 ↔ a < b := by
  unfold sgnZ
  split
  · omega
  · split <;> omega
theorem sgn_zero (a b : Int) : sgnZ a b = 0 ↔ a = b := by
  unfold sgnZ
  split
  · omega
  · split <;> omega
/-- the first of some vectors -/
def FirstW (ks : List Pt) (q : Pt) : Prop := q ∈ ks ∧ ∀ p, p ∈ ks → ¬ witP p q < 0
theorem results_key {fn : Func} {p q : Tmp} {ty : TypeId} (h : fn.results = #[.cell p ty, .tmp q]) (tmps : Array Value) (P : Program) (w : World) :
    (results fn tmps).run P w = ((asAddr (tmps.getD p undef)).run P w).andThen fun a w₁ => ((loadVar ty a).run P w₁).andThen fun v w₂ => .ok (.tuple #[v, tmps.getD q undef]) w₂ := by
  simp only [results, h]
  simp only [Array.mapM_eq_foldlM, List.foldlM_toArray']
  simp [Sem.run_bind, Result.andThen]
theorem key_results {g : Nat} {W : World} {A B : Int} {e : Value} (h : VRow W g 31 [.int .i64 A, .int .i64 B]) (tmps : Array Value) (h4 : tmps.getD 4 undef = .pointer (some ⟨g, 0, none⟩)) (h5 : tmps.getD 5 undef = e) : (results Try.f47 tmps).run Try.prog W = .ok (.tuple #[vecV A B, e]) W := by
  have c0 := VRow.cell h (k := 0) rfl
  have c1 := VRow.cell h (k := 1) rfl
  rw [results_key rfl, h4, h5]
  go_simp
theorem vrow2_putW {W : World} {g : Nat} {a b : Value} (h : VRow W g 31 [a, b]) (x y : Value) : VRow ((W.setCell ⟨g, 0, none⟩ x).setCell ⟨g, 1, none⟩ y) g 31 [x, y] := VRow.set (VRow.set h 0 x) 1 y
theorem ext2_putW {w W : World} {g : Nat} (h : Ext w W) (hg : w.heap.size ≤ g) (x y : Value) : Ext w ((W.setCell ⟨g, 0, none⟩ x).setCell ⟨g, 1, none⟩ y) :=
  Below.setCell (p := ⟨g, 1, none⟩) (Below.setCell (p := ⟨g, 0, none⟩) h hg _) hg _
/-- what Witness answers -/
def WitS (ps : List Pt) (A B D : Int) (e : Ending) : Prop :=
  ((blankB ps = true ∧ gridB A B D = true) ∧ collL ps A B D = [] ∧ e = two (vecV 0 0) (.int .i64 10)) ∨
  ((blankB ps = true ∧ gridB A B D = true) ∧ ∃ q, FirstW (collL ps A B D) q ∧ e = two (vecV q.1 q.2) (.int .i64 0)) ∨
  (¬ (blankB ps = true ∧ gridB A B D = true) ∧ e = two (vecV 0 0) (.int .i64 2))
end Go.Proofs.Ytnpebfchojalcaa
