import Derived.Test.YtnpebfchojalcaaB5
import Derived.Maps.RangeWalk
import Derived.Sort.MapsRangeIn
import Derived.LoopNIn
import Derived.LoopIn
import Derived.TacticsInMore
import Derived.Test.YtnpebfchojalcaaMY
import Derived.Test.YtnpebfchojalcaaR1
import Derived.Test.YtnpebfchojalcaaG1
namespace Go.Proofs.Ytnpebfchojalcaa
set_option maxRecDepth 100000
open Go.RowKit Go.Maps
/-! A range over the keys of a map, in whatever order they come. -/
/-- An iterator that hands out vectors of a list, each at least once, in an order of its own; a round leaves maps and iterators alone. -/
def IterM (P : Program) (gf : FuncId) (lb : Array Value) (enc : Pt → Array Value) (ks : List Pt) (S : Nat → Prop) (w : World) : Prop :=
  ∀ (l : Nat) (J : List Pt → World → Prop) (W : World), Ext w W → (∀ pre A A', J pre A → Keeps W.heap.size A A' → J pre A') →
    (∀ pre x W1, J pre W1 → (pre ++ [x]).Nodup → (∀ y, y ∈ pre ++ [x] → y ∈ ks) → YieldW P l (enc x) W1 fun e W' => e = .returned (.bool true) ∧ J (pre ++ [x]) W' ∧ Held S W1 W' ∧ KeepsWalks W1 W') →
    J [] W → Calls P gf (#[.func (.yield l) #[] #[]] ++ lb) W fun e W' => (∃ v, e = .returned v) ∧ ∃ ys, ys.Nodup ∧ (∀ y, y ∈ ys ↔ y ∈ ks) ∧ J ys W'

theorem wpIn_range_m {P : Program} {n : Nat} {g : Operand} {ps : Array Tmp} {assign body : Code} {Q : Exit → Act → World → Prop} {a : Act} {w : World}
    {gf : Nat} {lb : Array Value} (hg : a.eval g = .func (.func gf) #[] lb) (eg : ∀ args w, (callFunc gf args).run P w = .ok (.enter gf args) w)
    (ks : List Pt) (S : Nat → Prop) (enc : Pt → Array Value) (hS : ∀ j, S j → j < w.heap.size) (hps : ∀ x, (enc x).size = ps.size) (hseq : IterM P gf lb enc ks S w)
    (I : List Pt → World → Prop) (hI : ∀ pre A A', I pre A → Keeps w.heap.size A A' → I pre A') (h0 : I [] w)
    (hround : ∀ (l : Nat) (pre : List Pt) (x : Pt) (W : World) (K : Act → World → Prop), I pre W → (pre ++ [x]).Nodup → (∀ y, y ∈ pre ++ [x] → y ∈ ks) → w.heap.size + 1 < W.heap.size →
      (∀ (a1 : Act) (W1 : World) , (∀ W2, Keeps w.heap.size W1 W2 → w.heap.size + 1 < W2.heap.size → body.wpIn (Fence.wide.inRound l) n P (postR (fun A B => Held (fun j => S j ∨ j = w.heap.size ∨ j = w.heap.size + 1) A B ∧ KeepsWalks A B) (I (pre ++ [x])) (fun _ => False) W2) a1 W2) → Held (fun j => S j ∨ j = w.heap.size ∨ j = w.heap.size + 1) W W1 → KeepsWalks W W1 → K a1 W1) →
      assign.wpIn (Fence.wide.inRound l) n P (Exit.then K (fun _ _ _ => False)) { tmps := (ps.zip (enc x)).foldl (fun t (p, v) => t.setIfInBounds p v) a.tmps, defers := [] } W)
    (hdone : ∀ W ys, ys.Nodup → (∀ y, y ∈ ys ↔ y ∈ ks) → I ys W → W.heap[w.heap.size]? = some (.deferred (some [])) → Q .normal { a with defers := { target := .collected w.heap.size, args := #[] } :: a.defers } W) :
    (Code.rangeFunc g ps assign body).wpIn Fence.wide n P Q a w := by
  refine wpIn_rangeFunc ?_
  intro fn hfn
  rw [show Fence.wide.round = none from rfl]
  obtain ⟨rec, hrec⟩ : ∃ rec : LoopState → Option Code → Loop, rec = fun st pe => { state := st, pending := pe, fn, tmps := a.tmps, params := ps, assign, body, defers := w.heap.size } := ⟨_, rfl⟩
  obtain ⟨W1, hW1⟩ : ∃ W1, (w.alloc (.deferred (some []))).alloc (.loop (rec .ready none)) = W1 := ⟨_, rfl⟩
  have hs1 : W1.heap.size = w.heap.size + 2 := by rw [← hW1]; simp
  have hL1 : W1.heap[w.heap.size + 1]? = some (.loop (rec .ready none)) := by
    rw [← hW1]; have := World.alloc_heap_new (w.alloc (.deferred (some []))) (.loop (rec .ready none)); rwa [World.size_alloc] at this
  have hK1 : W1.heap[w.heap.size]? = some (.deferred (some [])) := by
    rw [← hW1]; exact (Below.heap_alloc _ _ _ (by simp)).trans (World.alloc_heap_new w _)
  have hE1 : Ext w W1 := by rw [← hW1]; exact ((Below.refl _ w).alloc (Nat.le_refl _) _).alloc (by simp) _
  have hI1 : I [] W1 := hI [] _ _ h0 (Keeps.of_ext hE1)
  refine ⟨w.heap.size + 1, [{ target := .collected w.heap.size, args := #[] }], W1, { target := .fn (.func gf) lb, args := #[.func (.yield (w.heap.size + 1)) #[] #[]] }, W1, gf,
    #[.func (.yield (w.heap.size + 1)) #[] #[]] ++ lb, W1, ?_, ?_, ?_, ?_, fun h => (by cases h), callsIn_wide.2 ?_⟩
  · rw [← hW1, hrec]; exact run_enterLoop_outer _ _ _ _ _
  · simp only [resolve, hg]
    simp [go_sem]
  · intro f' hf'; trivial
  · simp [invoke, go_sem, eg]
  · have grow : ∀ {A B : World} {o : Obj} {j : Nat}, Keeps W1.heap.size A B → j < W1.heap.size → A.heap[j]? = some o → B.heap[j]? = some o := fun h hj e => (h.block _ ⟨(Array.getElem?_eq_some_iff.1 e).1, .inl hj⟩).trans e
    refine (hseq (w.heap.size + 1)
      (fun pre W => I pre W ∧ W.heap[w.heap.size + 1]? = some (.loop (rec .ready none)) ∧ W.heap[w.heap.size]? = some (.deferred (some [])))
      W1 hE1
      (fun pre A B h hE => ⟨hI pre A B h.1 (hE.mono (by omega)), grow hE (by omega) h.2.1, grow hE (by omega) h.2.2⟩)
      ?_ ⟨hI1, hL1, hK1⟩).mono ?_
    · rintro pre x W ⟨hi, hl, hk⟩ hnd hmem m
      have hlt : w.heap.size + 1 < W.heap.size := (Array.getElem?_eq_some_iff.1 hl).1
      have hy := run_yield (P := P) (args := enc x) hl (by rw [hrec]; exact hps x)
      rw [hrec] at hy
      refine ⟨fn, _, assign, body, hy, RoundIn.any rfl (n := n) (roundIn_of_wpIn hfn ?_)⟩
      refine hround _ pre x W _ hi hnd hmem hlt (fun a1 W2 hbody hheld hkw => ?_)
      have hl' : W2.heap[w.heap.size + 1]? = some (.loop (rec .ready none)) := (hheld.block _ (.inr (.inr rfl))).trans hl
      have hk' : W2.heap[w.heap.size]? = some (.deferred (some [])) := (hheld.block _ (.inr (.inl rfl))).trans hk
      have hlt2 : w.heap.size + 1 < W2.heap.size := (Array.getElem?_eq_some_iff.1 hl').1
      refine ⟨_, run_beginRound hl' (by rw [hrec]), ?_⟩
      have hl2 : (W2.putObj (w.heap.size + 1) (.loop { rec .ready none with state := .busy })).heap[w.heap.size + 1]? = some (.loop { rec .ready none with state := .busy }) := World.putObj_heap_same hlt2
      have hk2 : (W2.putObj (w.heap.size + 1) (.loop { rec .ready none with state := .busy })).heap[w.heap.size]? = some (.deferred (some [])) := (World.putObj_heap_other (by omega)).trans hk'
      have hkw2 : KeepsWalks W2 (W2.putObj (w.heap.size + 1) (.loop { rec .ready none with state := .busy })) := KeepsWalks.putObj _ hl' rfl
      have hp1 : Held S W2 (W2.putObj (w.heap.size + 1) (.loop { rec .ready none with state := .busy })) := Held.put _ _ _ (fun j hj => by have := hS j hj; omega)
      refine wpIn_mono (hbody _ (Keeps.put _ hl' rfl (by omega)) (by simp; omega)) ?_
      have fin : ∀ (jump : Option Code) (W3 : World), Held (fun j => S j ∨ j = w.heap.size ∨ j = w.heap.size + 1) (W2.putObj (w.heap.size + 1) (.loop { rec .ready none with state := .busy })) W3 → KeepsWalks (W2.putObj (w.heap.size + 1) (.loop { rec .ready none with state := .busy })) W3 →
          (Instr.endRound (w.heap.size + 1) jump).run P W3 = .ok (.bool jump.isNone) (W3.putObj (w.heap.size + 1) (.loop (rec (if jump.isNone then .ready else .done) jump))) ∧
          (W3.putObj (w.heap.size + 1) (.loop (rec (if jump.isNone then .ready else .done) jump))).heap[w.heap.size + 1]? = some (.loop (rec (if jump.isNone then .ready else .done) jump)) ∧
          (W3.putObj (w.heap.size + 1) (.loop (rec (if jump.isNone then .ready else .done) jump))).heap[w.heap.size]? = some (.deferred (some [])) ∧
          Held S W (W3.putObj (w.heap.size + 1) (.loop (rec (if jump.isNone then .ready else .done) jump))) ∧
          Keeps w.heap.size W3 (W3.putObj (w.heap.size + 1) (.loop (rec (if jump.isNone then .ready else .done) jump))) ∧ KeepsWalks W (W3.putObj (w.heap.size + 1) (.loop (rec (if jump.isNone then .ready else .done) jump))) := fun jump W3 hh hw3 => by
        have hl3 := (hh.block _ (.inr (.inr rfl))).trans hl2
        have hk3 := (hh.block _ (.inr (.inl rfl))).trans hk2
        have := run_endRound (P := P) jump hl3
        rw [hrec] at this ⊢
        exact ⟨this, World.putObj_heap_same (Array.getElem?_eq_some_iff.1 hl3).1, (World.putObj_heap_other (by omega)).trans hk3,
          (((hheld.mono (fun j hj => .inl hj)).trans hp1).trans (hh.mono (fun j hj => .inl hj))).trans (Held.put _ _ _ (fun j hj => by have := hS j hj; omega)), Keeps.put _ hl3 rfl (by omega), ((hkw.trans hkw2).trans hw3).trans (KeepsWalks.putObj _ hl3 rfl)⟩
      rintro e a3 W3 hp
      cases e with
      | normal =>
        obtain ⟨⟨hh, hw3⟩, hi3⟩ := hp
        obtain ⟨hr, hl4, hk4, hH, hKp, hKW⟩ := fin none W3 hh hw3
        exact ⟨_, _, hr, rfl, ⟨hI _ _ _ hi3 hKp, hl4, hk4⟩, hH, hKW⟩
      | ret => exact hp.2.elim
      | exit id => exact hp.elim
      | goto t => exact hp.elim
      | panic ch => exact hp.elim
      | outgrown => exact hp.elim
    · rintro e W2 ⟨⟨v, rfl⟩, ys, hnd, hmem, hi, hl, hk⟩
      exact ⟨none, _, by have := run_endLoop (P := P) hl (by rw [hrec]; simp); rw [hrec] at this; exact this, hdone _ ys hnd hmem (hI _ _ _ hi (Keeps.put _ hl rfl (by omega))) ((World.putObj_heap_other (by omega)).trans hk)⟩
/-- what is left of a map's keys when some have come -/
structure Coll (ks : List Pt) (left : Lit → Bool) (ys : List Pt) : Prop where
  nd : ys.Nodup
  sub : ∀ y, y ∈ ys → y ∈ ks
  some : ∀ kl, left kl = true → ∃ q, q ∈ ks ∧ q ∉ ys ∧ kl = keyL q
  all : ∀ q, q ∈ ks → q ∉ ys → left (keyL q) = true
theorem same_str {kl : Lit} {p : Pt} (h : (keyL p).sameKey kl = true) : kl = keyL p := by
  unfold keyL at *
  cases kl <;> simp_all [Lit.sameKey]
theorem coll_has (ks : List Pt) (kl : Lit) : has (setD ks) kl = true ↔ ∃ q, q ∈ ks ∧ (keyL q).sameKey kl = true := by
  unfold setD
  rw [has_setOf]
  · simp only [List.any_eq_true, List.mem_map]
    constructor
    · rintro ⟨_, ⟨q, hq, rfl⟩, h⟩
      exact ⟨q, hq, h⟩
    · rintro ⟨q, hq, h⟩
      exact ⟨_, ⟨q, hq, rfl⟩, h⟩
  · intro x hx
    rw [List.mem_map] at hx
    obtain ⟨q, _, rfl⟩ := hx
    exact keyL_lit q
theorem coll_start (ks : List Pt) : Coll ks (has (setD ks)) [] :=
  ⟨List.nodup_nil, fun y hy => (by cases hy), fun kl h => by
    obtain ⟨q, hq, h⟩ := (coll_has ks kl).1 h
    exact ⟨q, hq, List.not_mem_nil, same_str h⟩, fun q hq _ => (coll_has ks _).2 ⟨q, hq, (keyL_same q q).2 rfl⟩⟩
theorem coll_step {ks ys : List Pt} {left : Lit → Bool} (hk : ∀ q ∈ ks, nearPt q) (h : Coll ks left ys) {q : Pt} (hq : q ∈ ks) (hy : q ∉ ys) : Coll ks (fun z => left z && !z.sameKey (keyL q)) (ys ++ [q]) := by
  refine ⟨?_, ?_, ?_, ?_⟩
  · rw [List.nodup_append]
    refine ⟨h.nd, by simp, fun a ha b hb e => ?_⟩
    rw [List.mem_singleton] at hb
    subst hb e
    exact hy ha
  · intro y hm
    rcases List.mem_append.1 hm with hm | hm
    · exact h.sub y hm
    · rw [List.mem_singleton] at hm
      rw [hm]; exact hq
  · intro kl hl
    simp only [Bool.and_eq_true, Bool.not_eq_true'] at hl
    obtain ⟨p, hp, hpy, rfl⟩ := h.some kl hl.1
    refine ⟨p, hp, fun hm => ?_, rfl⟩
    rcases List.mem_append.1 hm with hm | hm
    · exact hpy hm
    · rw [List.mem_singleton] at hm
      subst hm
      rw [(keyL_same p p).2 rfl] at hl
      cases hl.2
  · intro p hp hm
    have h1 : p ∉ ys := fun e => hm (List.mem_append.2 (.inl e))
    have h2 : p ≠ q := fun e => hm (List.mem_append.2 (.inr (List.mem_singleton.2 e)))
    simp only [Bool.and_eq_true, Bool.not_eq_true']
    refine ⟨h.all p hp h1, ?_⟩
    rw [Bool.eq_false_iff]
    intro e
    exact h2 (keyL_inj (hk p hp) (hk q hq) ((keyL_same p q).1 e))
theorem coll_end {ks ys : List Pt} {left : Lit → Bool} (h : Coll ks left ys) (hl : ∀ kl, left kl = false) : ∀ y, y ∈ ys ↔ y ∈ ks := fun y =>
  ⟨h.sub y, fun hy => Decidable.byContradiction fun hn => by have := h.all y hy hn; rw [hl] at this; cases this⟩
theorem keeps_grown {B r : Nat} {A A' : World} (hg : A.grownBy A' (some r)) (hr : B ≤ r) (ho : ∃ o : Obj, A.heap[r]? = some o ∧ o.isWalk = true) : Keeps B A A' :=
  ⟨hg.os, hg.tape, hg.output, hg.size, fun j hj => hg.block j hj.1 (fun e => by
    injection e with e
    subst e
    rcases hj.2 with h | ⟨o, h1, h2⟩
    · omega
    · obtain ⟨o2, h3, h4⟩ := ho
      rw [h1] at h3
      injection h3 with h3
      subst h3
      rw [Obj.not_cells_of_walk h4] at h2
      cases h2)⟩
theorem keeps_none {B : Nat} {A A' : World} (hg : A.grownBy A' none) : Keeps B A A' := ⟨hg.os, hg.tape, hg.output, hg.size, fun j hj => hg.block j hj.1 (fun e => by cases e)⟩
theorem held_grown {S : Nat → Prop} {row : Option Nat} {A A' : World} (hg : A.grownBy A' row) (hS : ∀ j, S j → j < A.heap.size ∧ some j ≠ row) : Held S A A' :=
  ⟨hg.os, hg.tape, hg.output, hg.size, fun j hj => hg.block j (hS j hj).1 (hS j hj).2⟩
set_option maxHeartbeats 1000000 in
theorem keys_iter (Bm b : Nat) (ks : List Pt) (S : Nat → Prop) (w : World) (hK : ∀ W, Held S w W → W.cell? ⟨Bm, 0, none⟩ = some (.map (some b)) ∧ BMap W b ks) (hS : ∀ j, S j → j < w.heap.size) (hks : ∀ q ∈ ks, nearPt q) :
    IterM Try.prog 116 #[.pointer (some ⟨Bm, 0, none⟩)] (fun x => #[vecV x.1 x.2]) ks S w := by
  intro l J W hEW hJ hY h0
  have hH0 : Held S w W := Held.ext hEW hS
  obtain ⟨hm, hown0⟩ := hK W hH0
  have hown : W.ownsMap (H := Unit) Try.prog 31 (plainElem Try.prog 4) b ks.length (setD ks) := hown0
  have HJ := Lib.hid hJ
  have HY := Lib.hid hY
  have HKS := Lib.hid hks
  change Calls Try.prog 116 #[.func (.yield l) #[] #[], .pointer (some ⟨Bm, 0, none⟩)] W _
  clear hK hJ hY hEW hown0 hks
  go_enter Try.func116, Try.ntmps116
  refine (wpIn_wide (n := 9)).1 ?_
  gi_wp2_with (first
    | (gi_at_range; refine wpListIn_range_own _ rfl _ 71 rfl 31 4 vecKeyed Try.underlying71 (plainElem Try.prog 4) b ks.length (setD ks) rfl hown ?_; intro w0 hrg0 hg0 hs0)
    | gi_in)
  have HS := Lib.hid (show ∀ j, S j → j < W.heap.size from fun j hj => Nat.lt_of_lt_of_le (hS j hj) hH0.size)
  have HH0 := Lib.hid (Held.trans hH0 (held_grown hg0 fun j hj => ⟨HS.out j hj, fun e => by cases e⟩))
  have HJ0 := Lib.hid (HJ.out [] _ _ h0 (keeps_none hg0))
  obtain ⟨r, hr⟩ : ∃ r, r = W.heap.size := ⟨_, rfl⟩
  rw [← hr] at hrg0 HS HJ ⊢
  clear hH0 hg0 hs0 hr hown h0 hm hS
  (try go_frame)
  gi_loopw [3] (fun _ wr => ∃ (left : Lit → Bool) (cnt : Nat) (ys : List Pt), wr.ranges (H := Unit) Try.prog 31 (plainElem Try.prog 4) b r ks.length (setD ks) left cnt ∧ Coll ks left ys ∧ J ys wr ∧ Held S w wr) (fun _ wr => wr.rangeLeft b r)
  case atStart => exact ⟨_, _, [], hrg0, coll_start ks, HJ0.out, HH0.out⟩
  case round =>
    clear hrg0 HH0 HJ0
    obtain ⟨left, cnt, ys, hrg, hC, hJs, hHs⟩ := hrel
    have HC := Lib.hid hC
    have HJs := Lib.hid hJs
    have HHs := Lib.hid hHs
    clear hC hJs hHs
    gi_wp2_with (first
      | (gi_at_next; refine wpListIn_next_ranges _ rfl _ rfl 31 vecKeyed (plainElem Try.prog 4) (id : Value → Value) (id : Value → Value) (fun key kl h => ⟨key, rfl⟩) (fun v y h => ⟨v, rfl⟩) b r ks.length (setD ks) _ _ rfl hrg ?_ ?_)
      | gi_in)
    · intro hc0 hl0
      gi_wp2
      go_end0
      exact ⟨⟨_, rfl⟩, ys, HC.out.nd, coll_end HC.out hl0, HJs.out⟩
    · intro x c kl yd yp w2 cnt2 hkey hlk hv hat hrg2 hlt hg2 hs2 hen
      obtain ⟨q, hq, hqy, rfl⟩ := HC.out.some kl hlk
      obtain rfl : x = vecV q.1 q.2 := vecKeyed.inj hkey (key_vec q (HKS.out q hq))
      have hJ2 := HJ.out ys wr w2 HJs.out (keeps_grown hg2 (Nat.le_refl _) hrg.iter_walk)
      have hE := Ext.alloc (Ext.refl w2) (.cells #[.int .i64 q.1, .int .i64 q.2] 31)
      have hJ3 := HJ.out ys w2 _ hJ2 (Keeps.of_ext hE)
      have HC2 := Lib.hid (coll_step HKS.out HC.out hq hqy)
      have hwr := hrg.lt
      have HH2 := Lib.hid (Held.trans HHs.out (Held.trans (held_grown (S := S) hg2 fun j hj => ⟨by have := HS.out j hj; omega, fun e => by injection e with e; have := HS.out j hj; omega⟩) (Held.ext hE fun j hj => by have := HS.out j hj; have := hg2.size; omega)))
      have HRA := Lib.hid (World.ranges.alloc hrg2 (.cells #[.int .i64 q.1, .int .i64 q.2] 31))
      have HV := Lib.hid (show VRow (w2.alloc (.cells #[.int .i64 q.1, .int .i64 q.2] 31)) _ _ _ from vrow_alloc w2 [.int .i64 q.1, .int .i64 q.2] 31)
      have HLT := Lib.hid hlt
      have HLE := Lib.hid hrg.left_eq
      have m0 := VRow.cell HV.out (k := 0) rfl
      have m1 := VRow.cell HV.out (k := 1) rfl
      obtain ⟨fn, tmps, assign, body, hy, hR⟩ := HY.out ys q _ hJ3 HC2.out.nd HC2.out.sub 9
      unfold vecV at hy hen
      clear hJ2 hJ3 hE hs2 hg2 hkey hlk hv hat hrg2 hlt hrg hwr
      gi_wp2
      clear hy
      refine (RoundIn.any (m := 8) rfl hR).mono ?_
      rintro e W3 ⟨rfl, hJ3, hH3, hk3⟩
      have HR3 := Lib.hid (World.ranges.of_walks HRA.out hk3)
      gi_wp2
      exact ⟨⟨_, cnt2, ys ++ [q], HR3.out, HC2.out, hJ3, HH2.out.trans hH3⟩, by rw [HR3.out.left_eq, HLE.out]; exact HLT.out⟩
end Go.Proofs.Ytnpebfchojalcaa

namespace Go.Proofs.Ytnpebfchojalcaa
set_option maxRecDepth 100000
open Go.RowKit Go.Shelf Go.Maps
attribute [local go_sem] Oper.semAt_some
/-! A map's keys collected in a slice. -/
theorem keys_c (b : Nat) (w : World) :
    Calls Try.prog 90 #[.map (some b)] w fun e w' => e = .returned (.func (.func 116) #[] #[.pointer (some ⟨w.heap.size, 0, none⟩)]) ∧ w' = w.alloc (.cells #[.map (some b)] 71) := by
  go_enter Try.func90, Try.ntmps90
  go_wp2
  go_ret
  exact ⟨rfl, rfl⟩
theorem walks_grown {A A' : World} {v : Value} {base n : Nat} {xs : List Value} (h : A.ownsRow base 31 2 v n xs) (hg : A.grownBy A' v.ownBlock) : KeepsWalks A A' :=
  KeepsWalks.of_grownBy hg fun j o hj ho => by
    rcases h.2 with ⟨rfl, _⟩ | ⟨g, cap, cur, rfl, _, hc, _⟩
    · cases hj
    · simp only [Value.ownBlock, Option.some.injEq] at hj
      subst hj
      rw [hc] at ho
      injection ho with ho
      subst ho
      rfl
set_option maxHeartbeats 2000000 in
theorem appendSeq_c (Bm b : Nat) (ks : List Pt) (w : World) (hm : w.cell? ⟨Bm, 0, none⟩ = some (.map (some b))) (hown : BMap w b ks) (hks : ∀ q ∈ ks, nearPt q) (hkl : ks.length ≤ 1000) :
    Calls Try.prog 115 #[.slice none 0 0, .func (.func 116) #[] #[.pointer (some ⟨Bm, 0, none⟩)]] w fun e w' => ∃ r ys, e = .returned r ∧ ys.Nodup ∧ (∀ y, y ∈ ys ↔ y ∈ ks) ∧ Vecs w' r ys ∧ Ext w w' := by
  have HM := Lib.hid hm
  have HOW := Lib.hid hown
  have HKS := Lib.hid hks
  have hbl := cell_lt hm
  have hb2 := hown.lt
  clear hm hown hks
  refine calls_marks Try.func115 rfl ?_
  simp only [Try.ntmps115, List.size_toArray, List.length_cons, List.length_nil, Nat.reduceAdd, Nat.reduceSub, Array.replicate_succ, Array.replicate_zero, List.push_toArray, List.append_toArray, List.nil_append, List.cons_append]
  go_wp2_with fail
  have HR := Lib.hid (show VRow (w.alloc (.cells #[.slice none 0 0] 22)) _ _ _ from vrow_alloc w [.slice none 0 0] 22)
  have HE := Lib.hid (Ext.alloc (Ext.refl w) (.cells #[.slice none 0 0] 22))
  have hsz : (w.alloc (.cells #[.slice none 0 0] 22)).heap.size = w.heap.size + 1 := by simp
  obtain ⟨w2, hw2⟩ : ∃ w2, w2 = w.alloc (.cells #[.slice none 0 0] 22) := ⟨_, rfl⟩
  rw [← hw2] at HR HE hsz ⊢
  clear hw2
  refine (wpIn_wide (n := 9)).1 ?_
  refine wpIn_range_m (gf := 116) (lb := #[.pointer (some ⟨Bm, 0, none⟩)]) rfl (enters_of Try.func116 (by kernel_rfl) rfl) ks (fun j => j < w.heap.size) (fun x => #[vecV x.1 x.2]) (fun j hj => by omega) (fun _ => rfl)
    (keys_iter Bm b ks _ w2 (fun W hH => by
      have hx : Ext w W := ⟨hH.os.trans HE.out.os, hH.tape.trans HE.out.tape, hH.output.trans HE.out.output, Nat.le_trans HE.out.size hH.size, fun j hj => (hH.block j hj).trans (HE.out.block j hj)⟩
      exact ⟨Ext.cell hx HM.out, HOW.out.ext hx⟩) (fun j hj => by omega) HKS.out)
    (fun ys W => ∃ u, VRow W w.heap.size 22 [u] ∧ W.ownsRow (w.heap.size + 3) 31 2 u ys.length (cellsOf ys) ∧ Ext w W) ?_ ⟨_, HR.out, ⟨rfl, .inl ⟨rfl, rfl⟩⟩, HE.out⟩ ?round ?done
  · rintro pre A B ⟨u, h1, h2, h3⟩ hb
    exact ⟨u, Keeps.vrow hb h1, ownsRow_keeps h2 hb, Keeps.below hb h3 (by omega)⟩
  case round =>
    rintro l pre x W K ⟨u, h1, h3, h2⟩ hnd hmem hlt hK
    have hpl : pre.length ≤ ks.length := sub_len (List.nodup_append.1 hnd).1 fun y hy => hmem y (List.mem_append.2 (.inl hy))
    have HPL := Lib.hid hpl
    clear hpl hnd hmem
    simp only [vecV]
    gi_wp2_with fail
    refine hK _ _ (fun W2 hB hlt2 => ?_) (Held.ext (Ext.alloc (Ext.refl W) _) (fun j hj => by omega)) (KeepsWalks.alloc _ _)
    have hb1 := VRow.alloc h1 (.cells #[.int .i64 x.1, .int .i64 x.2] 31)
    have hb2 := vrow_alloc W [.int .i64 x.1, .int .i64 x.2] 31
    have hE1 := Ext.alloc h2 (.cells #[.int .i64 x.1, .int .i64 x.2] 31)
    have hO1 := ownsRow_keeps (ownsRow_ext h3 (Ext.alloc (Ext.refl W) (.cells #[.int .i64 x.1, .int .i64 x.2] 31))) hB
    have hM := Keeps.vrow hB hb1
    have hN := Keeps.vrow hB hb2
    have HE2 := Lib.hid (Keeps.below hB hE1 (by omega))
    clear hb1 hb2 hE1 hK hB h1 h2 h3
    have m0 := VRow.cell hM (k := 0) rfl
    have n2 := VRow.cell hN (k := 0) rfl
    have n3 := VRow.cell hN (k := 1) rfl
    have HM := Lib.hid hM
    have HO := Lib.hid hO1
    clear hM hN hO1
    obtain ⟨i0, hi, hz0, hz1, hz2⟩ := info_parts info31
    have HI := Lib.hid hi
    have HZ0 := Lib.hid hz0
    have HZ1 := Lib.hid hz1
    have HZ2 := Lib.hid hz2
    clear hi hz0 hz1 hz2
    have hpl := HPL.out
    have hob : ∀ j, u.ownBlock = some j → w.heap.size + 3 ≤ j := fun j hj => own_block HO.out hj
    have hsz2 : (W2.alloc (.cells #[.int .i64 x.1, .int .i64 x.2] 31)).heap.size = W2.heap.size + 1 := by simp
    gi_wp2_with (gi_at_builtin; refine wpListIn_append_own _ rfl _ _ 22 rfl (w.heap.size + 3) 31 i0 (.agg #[.int .i64 0, .int .i64 0]) 2 16 Try.underlying22 HI.out HZ0.out HZ1.out HZ2.out rfl (by decide) _ _ _ rfl (ownsRow_ext HO.out (Ext.alloc (Ext.refl W2) (.cells #[.int .i64 x.1, .int .i64 x.2] 31))) ⟨W2.heap.size, 0, none⟩ 1 1 [.int .i64 x.1, .int .i64 x.2] rfl rfl (fun j u h => cell_two_new W2 _ _ 31 j u h) (by simp [Value.oneCell']) (by unfold maxLen; omega) (by omega) (by simp; omega) ?_; intro v' w' hown' hgrow hnil; obtain ⟨g', cap', rfl⟩ := ownsRow_succ hown'; have HO' := Lib.hid hown'; have HG' := Lib.hid hgrow; have hm1 := VRow.grown (VRow.alloc HM.out (.cells #[.int .i64 x.1, .int .i64 x.2] 31)) hgrow (fun e => by have := hob _ e.symm; omega); have p0 := VRow.cell hm1 (k := 0) rfl; have f0 := VRow.frozen hm1 0 none; have HM1 := Lib.hid hm1; clear hown' hgrow hm1 hnil)
    have hg' := own_block HO'.out (j := g') rfl
    have e : cellsOf pre ++ [.int .i64 x.1, .int .i64 x.2] = cellsOf (pre ++ [x]) := by rw [cellsOf_append]; rfl
    have el : pre.length + 1 = (pre ++ [x]).length := by simp
    have hO2 : w'.ownsRow (w.heap.size + 3) 31 2 (.slice (some ⟨g', 0, none⟩) (pre.length + 1) cap') (pre ++ [x]).length (cellsOf (pre ++ [x])) := by
      rw [← e, ← el]
      exact HO'.out
    have hgs := grown_set w' w.heap.size 0 (.slice (some ⟨g', 0, none⟩) (pre.length + 1) cap')
    refine ⟨⟨((Held.ext (Ext.alloc (Ext.refl W2) (.cells #[.int .i64 x.1, .int .i64 x.2] 31)) (fun j hj => by omega)).trans (grown_held HG'.out (fun j hj => ⟨by omega, fun e => by have := hob _ e.symm; omega⟩))).trans (Held.set _ _ _ (fun j hj => by show j ≠ w.heap.size; omega)),
      ((KeepsWalks.alloc _ _).trans (walks_grown (ownsRow_ext HO.out (Ext.alloc (Ext.refl W2) (.cells #[.int .i64 x.1, .int .i64 x.2] 31))) HG'.out)).trans (KeepsWalks.setCell _ _ _)⟩, _, VRow.set HM1.out 0 _, hO2.kept hgs (.inr (by simp [Value.ownBlock]; omega)), ?_⟩
    have hx1 : Below w.heap.size w w' := Below.grown (Ext.alloc HE2.out (.cells #[.int .i64 x.1, .int .i64 x.2] 31)) HG'.out (by omega) (fun j e => by have := hob _ e; omega)
    exact Below.setCell (p := ⟨w.heap.size, 0, none⟩) hx1 (Nat.le_refl _) _
  case done =>
    rintro W ys hnd hmem ⟨u, h1, h3, h2⟩ hD
    have m0 := VRow.cell h1 (k := 0) rfl
    dsimp only
    go_wp2_with fail
    have hO := ownsRow_putObj h3 (.deferred none) hD rfl
    have hlen : ys.length ≤ ks.length := sub_len hnd fun y hy => (hmem y).1 hy
    refine ⟨by simp, .inl ⟨_, _, rfl, run_takeDeferred hD, _, results_tmp rfl _ _ _, u, ys, rfl, hnd, hmem, vecs_own (base := w.heap.size + 3) hO (by omega), ?_⟩⟩
    exact Below.trans h2 ⟨rfl, rfl, rfl, by simp, fun j hj => World.putObj_heap_other (by omega)⟩
set_option maxHeartbeats 1000000 in
theorem collect_c (Bm b : Nat) (ks : List Pt) (w : World) (hm : w.cell? ⟨Bm, 0, none⟩ = some (.map (some b))) (hown : BMap w b ks) (hks : ∀ q ∈ ks, nearPt q) (hkl : ks.length ≤ 1000) :
    Calls Try.prog 89 #[.func (.func 116) #[] #[.pointer (some ⟨Bm, 0, none⟩)]] w fun e w' => ∃ r ys, e = .returned r ∧ ys.Nodup ∧ (∀ y, y ∈ ys ↔ y ∈ ks) ∧ Vecs w' r ys ∧ Ext w w' := by
  have HC := Lib.hid (appendSeq_c Bm b ks w hm hown hks hkl)
  clear hm hown hks
  go_enter Try.func89, Try.ntmps89
  go_wp2_with fail
  refine HC.out.mono ?_
  rintro e w2 ⟨r, ys, rfl, hnd, hmem, hr, hE⟩
  have HH := Lib.hid (show ys.Nodup ∧ (∀ y, y ∈ ys ↔ y ∈ ks) ∧ Vecs w2 r ys ∧ Ext w w2 from ⟨hnd, hmem, hr, hE⟩)
  clear hnd hmem hr hE
  go_wp2_with fail
  go_ret
  exact ⟨r, ys, rfl, HH.out⟩
end Go.Proofs.Ytnpebfchojalcaa

namespace Go.Proofs.Ytnpebfchojalcaa
set_option maxRecDepth 100000
open Go.RowKit Go.Shelf
attribute [local go_sem] Oper.semAt_some
/-! The order of witnesses. -/
theorem orZ_two (p q : Int) : orZ [p, q] = if p = 0 then q else p := by
  by_cases h : p = 0
  · rw [if_pos h, h]
    show (if (0 : Int) = 0 then (if q = 0 then (0 : Int) else q) else 0) = q
    by_cases hq : q = 0 <;> simp [hq]
  · rw [if_neg h]
    show (if p = 0 then _ else p) = p
    rw [if_neg h]
def sqZ (a b : Int) : Int := a * a + b * b
set_option maxHeartbeats 1000000 in
theorem square_c (a b : Int) (w : World) (ha : -10000 ≤ a ∧ a ≤ 10000) (hb : -10000 ≤ b ∧ b ≤ 10000) :
    Calls Try.prog 51 #[vecV a b] w fun e w' => e = .returned (.int .i64 (sqZ a b)) ∧ Ext w w' := by
  have m1 := mul_20 (a := a) (b := a) (by omega) (by omega)
  have m2 := mul_20 (a := b) (b := b) (by omega) (by omega)
  have e3 : wrap64 (a * a) = a * a := by unfold wrap64; omega
  have e4 : wrap64 (b * b) = b * b := by unfold wrap64; omega
  have e5 : wrap64 (a * a + b * b) = a * a + b * b := by unfold wrap64; omega
  clear ha hb m1 m2
  go_enter Try.func51, Try.ntmps51
  go_wp2
  all_goals go_ret
  all_goals exact ⟨ret_int (by first | rfl | simp [sqZ, e3, e4, e5]), by (repeat' (first | exact Below.refl _ _ | refine Below.drew ?_ | refine Below.alloc ?_ (by simp <;> omega) _ | refine Below.setCell ?_ (by simp <;> omega) _))⟩
set_option maxHeartbeats 1000000 in
theorem lex_c (a b c d : Int) (w : World) :
    Calls Try.prog 52 #[vecV a b, vecV c d] w fun e w' => e = .returned (.int .i64 (heightZ b a d c)) ∧ Ext w w' := by
  have hm0 := VRow.alloc (vrow_alloc w [.int .i64 a, .int .i64 b] 31) (.cells #[.int .i64 c, .int .i64 d] 31)
  have hn0 := vrow_alloc (w.alloc (.cells #[.int .i64 a, .int .i64 b] 31)) [.int .i64 c, .int .i64 d] 31
  have hE := Ext.alloc (Ext.alloc (Ext.refl w) (.cells #[.int .i64 a, .int .i64 b] 31)) (.cells #[.int .i64 c, .int .i64 d] 31)
  have hs1 : (w.alloc (.cells #[.int .i64 a, .int .i64 b] 31)).heap.size = w.heap.size + 1 := by simp
  rw [hs1] at hn0
  change VRow ((w.alloc (.cells #[.int .i64 a, .int .i64 b] 31)).alloc (.cells #[.int .i64 c, .int .i64 d] 31)) _ _ _ at hm0 hn0
  have HM := Lib.hid hm0
  have HN := Lib.hid hn0
  have HE := Lib.hid hE
  clear hs1 hm0 hn0 hE
  go_enter Try.func52, Try.ntmps52
  go_wp2_with fail
  generalize (w.alloc (.cells #[.int .i64 a, .int .i64 b] 31)).alloc (.cells #[.int .i64 c, .int .i64 d] 31) = w1 at *
  generalize hs : w.heap.size = s at *
  refine wp_region_stable [⟨[], none⟩, ⟨[(0, 5)], none⟩, ⟨[], none⟩, ⟨[(2, 7)], none⟩, ⟨[(1, 6), (3, 8)], none⟩, ⟨[], none⟩, ⟨[(5, 10)], none⟩, ⟨[], none⟩, ⟨[(7, 12)], none⟩, ⟨[(6, 11), (8, 13)], none⟩, ⟨[(4, 9), (9, 14)], none⟩, ⟨[(10, 15)], none⟩, ⟨[(11, 16)], none⟩] (fun x y => Below x.heap.size x y) (MPat [MP.eq (.pointer (some ⟨s, 0, none⟩)), MP.eq (.int .i64 a), MP.eq (.pointer (some ⟨(s + 1), 0, none⟩)), MP.eq (.int .i64 c), MP.eq (.int .i64 (sgnZ a c)), MP.eq (.pointer (some ⟨s, 1, none⟩)), MP.eq (.int .i64 b), MP.eq (.pointer (some ⟨(s + 1), 1, none⟩)), MP.eq (.int .i64 d), MP.eq (.int .i64 (sgnZ b d)), MP.ints [sgnZ a c, sgnZ b d], MP.eq (.int .i64 (heightZ b a d c)), MP.eq (.int .i64 (heightZ b a d c))]) (by kernel_rfl) (fun _ _ _ h k => Ext.trans h k) (fun _ => Below.refl _ _) (fun x => (Below.refl x.heap.size x).drew) (MPat.mono _) (by kernel_rfl) ?obs ?rest
  case obs =>
    refine ⟨?_, ?_, ?_, ?_, ?_, ?_, ?_, ?_, ?_, ?_, ?_, ?_, ?_, trivial⟩
    · intro ev W hf _ _ hst hd
      have e2 : ev (.tmp 2) = .pointer (some ⟨s, 0, none⟩) := hf 2 (by kernel_rfl)
      refine st_value (v := .pointer (some ⟨s, 0, none⟩)) ?_ (Below.refl _ _) ?_
      · simp [execOp, go_sem, e2]
      · exact rfl
    · intro ev W hf _ _ hst hd
      obtain ⟨d5, _⟩ := hd
      have e5 : ev (.tmp 5) = .pointer (some ⟨s, 0, none⟩) := d5
      have kk := VRow.ext HM.out hst
      have k0 := VRow.cell kk (k := 0) rfl
      refine st_value (v := .int .i64 a) ?_ (Below.refl _ _) ?_
      · simp [execOp, go_sem, e5, k0]
      · exact rfl
    · intro ev W hf _ _ hst hd
      have e3 : ev (.tmp 3) = .pointer (some ⟨(s + 1), 0, none⟩) := hf 3 (by kernel_rfl)
      refine st_value (v := .pointer (some ⟨(s + 1), 0, none⟩)) ?_ (Below.refl _ _) ?_
      · simp [execOp, go_sem, e3]
      · exact rfl
    · intro ev W hf _ _ hst hd
      obtain ⟨d7, _⟩ := hd
      have e7 : ev (.tmp 7) = .pointer (some ⟨(s + 1), 0, none⟩) := d7
      have kk := VRow.ext HN.out hst
      have k0 := VRow.cell kk (k := 0) rfl
      refine st_value (v := .int .i64 c) ?_ (Below.refl _ _) ?_
      · simp [execOp, go_sem, e7, k0]
      · exact rfl
    · intro ev W hf _ hfn hst hd
      obtain ⟨d6, d8, _⟩ := hd
      have e6 : ev (.tmp 6) = .int .i64 a := d6
      have e8 : ev (.tmp 8) = .int .i64 c := d8
      refine st_call (f := 50) (args := #[.int .i64 a, .int .i64 c]) (by simp [execOp, go_sem, hfn, e6, e8]) (calls_same (compare_c a c W)) (fun _ _ => rfl)
    · intro ev W hf _ _ hst hd
      have e2 : ev (.tmp 2) = .pointer (some ⟨s, 0, none⟩) := hf 2 (by kernel_rfl)
      refine st_value (v := .pointer (some ⟨s, 1, none⟩)) ?_ (Below.refl _ _) ?_
      · simp [execOp, go_sem, e2]
      · exact rfl
    · intro ev W hf _ _ hst hd
      obtain ⟨d10, _⟩ := hd
      have e10 : ev (.tmp 10) = .pointer (some ⟨s, 1, none⟩) := d10
      have kk := VRow.ext HM.out hst
      have k1 := VRow.cell kk (k := 1) rfl
      refine st_value (v := .int .i64 b) ?_ (Below.refl _ _) ?_
      · simp [execOp, go_sem, e10, k1]
      · exact rfl
    · intro ev W hf _ _ hst hd
      have e3 : ev (.tmp 3) = .pointer (some ⟨(s + 1), 0, none⟩) := hf 3 (by kernel_rfl)
      refine st_value (v := .pointer (some ⟨(s + 1), 1, none⟩)) ?_ (Below.refl _ _) ?_
      · simp [execOp, go_sem, e3]
      · exact rfl
    · intro ev W hf _ _ hst hd
      obtain ⟨d12, _⟩ := hd
      have e12 : ev (.tmp 12) = .pointer (some ⟨(s + 1), 1, none⟩) := d12
      have kk := VRow.ext HN.out hst
      have k1 := VRow.cell kk (k := 1) rfl
      refine st_value (v := .int .i64 d) ?_ (Below.refl _ _) ?_
      · simp [execOp, go_sem, e12, k1]
      · exact rfl
    · intro ev W hf _ hfn hst hd
      obtain ⟨d11, d13, _⟩ := hd
      have e11 : ev (.tmp 11) = .int .i64 b := d11
      have e13 : ev (.tmp 13) = .int .i64 d := d13
      refine st_call (f := 50) (args := #[.int .i64 b, .int .i64 d]) (by simp [execOp, go_sem, hfn, e11, e13]) (calls_same (compare_c b d W)) (fun _ _ => rfl)
    · intro ev W hf _ hfn hst hd
      obtain ⟨d9, d14, _⟩ := hd
      have e9 : ev (.tmp 9) = .int .i64 (sgnZ a c) := d9
      have e14 : ev (.tmp 14) = .int .i64 (sgnZ b d) := d14
      refine st_new (v := .slice (some ⟨W.heap.size, 0, none⟩) 2 2) (o := .cells #[.int .i64 (sgnZ a c), .int .i64 (sgnZ b d)] 3) ?_ ?_
      · simp [execOp, go_sem, e9, e14]
      · exact IRow.ints' (xs := [sgnZ a c, sgnZ b d]) (vrow_alloc W [.int .i64 (sgnZ a c), .int .i64 (sgnZ b d)] 3) rfl (by simp) (by simp)
    · intro ev W hf _ hfn hst hd
      obtain ⟨d15, _⟩ := hd
      have d15 : Ints W (ev (.tmp 15)) [sgnZ a c, sgnZ b d] := d15
      refine st_call (f := 49) (args := #[ev (.tmp 15)]) (by simp [execOp, go_sem, hfn]) ?_ (fun _ _ => rfl)
      have h9 := calls_same (or_c _ _ W d15)
      rw [heightZ_or] at h9
      exact h9
    · intro ev W hf _ _ hst hd
      obtain ⟨d16, _⟩ := hd
      have e16 : ev (.tmp 16) = .int .i64 (heightZ b a d c) := d16
      refine st_value (v := .int .i64 (heightZ b a d c)) ?_ (Below.refl _ _) ?_
      · simp [execOp, go_sem, e16]
      · exact rfl
  case rest =>
    intro vs w3 hl hst hg
    have hx0 : ∀ u, vs[0]? = some u → u = .pointer (some ⟨s, 0, none⟩) := fun u hu => hg 0 u hu
    have hx1 : ∀ u, vs[1]? = some u → u = .int .i64 a := fun u hu => hg 1 u hu
    have hx2 : ∀ u, vs[2]? = some u → u = .pointer (some ⟨(s + 1), 0, none⟩) := fun u hu => hg 2 u hu
    have hx3 : ∀ u, vs[3]? = some u → u = .int .i64 c := fun u hu => hg 3 u hu
    have hx4 : ∀ u, vs[4]? = some u → u = .int .i64 (sgnZ a c) := fun u hu => hg 4 u hu
    have hx5 : ∀ u, vs[5]? = some u → u = .pointer (some ⟨s, 1, none⟩) := fun u hu => hg 5 u hu
    have hx6 : ∀ u, vs[6]? = some u → u = .int .i64 b := fun u hu => hg 6 u hu
    have hx7 : ∀ u, vs[7]? = some u → u = .pointer (some ⟨(s + 1), 1, none⟩) := fun u hu => hg 7 u hu
    have hx8 : ∀ u, vs[8]? = some u → u = .int .i64 d := fun u hu => hg 8 u hu
    have hx9 : ∀ u, vs[9]? = some u → u = .int .i64 (sgnZ b d) := fun u hu => hg 9 u hu
    have hx10 : ∀ u, vs[10]? = some u → MP.p (MP.ints [sgnZ a c, sgnZ b d]) u w3 := fun u hu => hg 10 u hu
    have hx11 : ∀ u, vs[11]? = some u → u = .int .i64 (heightZ b a d c) := fun u hu => hg 11 u hu
    have hx12 : ∀ u, vs[12]? = some u → u = .int .i64 (heightZ b a d c) := fun u hu => hg 12 u hu
    have HE3 := Lib.hid hst
    clear hg hst
    obtain ⟨x0, vs0, rfl, hl0⟩ := len_succ hl
    obtain ⟨x1, vs1, rfl, hl1⟩ := len_succ hl0
    obtain ⟨x2, vs2, rfl, hl2⟩ := len_succ hl1
    obtain ⟨x3, vs3, rfl, hl3⟩ := len_succ hl2
    obtain ⟨x4, vs4, rfl, hl4⟩ := len_succ hl3
    obtain ⟨x5, vs5, rfl, hl5⟩ := len_succ hl4
    obtain ⟨x6, vs6, rfl, hl6⟩ := len_succ hl5
    obtain ⟨x7, vs7, rfl, hl7⟩ := len_succ hl6
    obtain ⟨x8, vs8, rfl, hl8⟩ := len_succ hl7
    obtain ⟨x9, vs9, rfl, hl9⟩ := len_succ hl8
    obtain ⟨x10, vs10, rfl, hl10⟩ := len_succ hl9
    obtain ⟨x11, vs11, rfl, hl11⟩ := len_succ hl10
    obtain ⟨x12, vs12, rfl, hl12⟩ := len_succ hl11
    have hnil : vs12 = [] := List.length_eq_zero_iff.1 hl12
    subst hnil
    obtain rfl : x0 = .pointer (some ⟨s, 0, none⟩) := hx0 _ rfl
    obtain rfl : x1 = .int .i64 a := hx1 _ rfl
    obtain rfl : x2 = .pointer (some ⟨(s + 1), 0, none⟩) := hx2 _ rfl
    obtain rfl : x3 = .int .i64 c := hx3 _ rfl
    obtain rfl : x4 = .int .i64 (sgnZ a c) := hx4 _ rfl
    obtain rfl : x5 = .pointer (some ⟨s, 1, none⟩) := hx5 _ rfl
    obtain rfl : x6 = .int .i64 b := hx6 _ rfl
    obtain rfl : x7 = .pointer (some ⟨(s + 1), 1, none⟩) := hx7 _ rfl
    obtain rfl : x8 = .int .i64 d := hx8 _ rfl
    obtain rfl : x9 = .int .i64 (sgnZ b d) := hx9 _ rfl
    replace hx10 := hx10 _ rfl
    obtain rfl : x11 = .int .i64 (heightZ b a d c) := hx11 _ rfl
    obtain rfl : x12 = .int .i64 (heightZ b a d c) := hx12 _ rfl
    clear hx0 hx1 hx2 hx3 hx4 hx5 hx6 hx7 hx8 hx9 hx11 hx12
    simp only [putAll, Act.put, List.setIfInBounds_toArray, List.set_cons_zero, List.set_cons_succ]
    go_wp2_with fail
    go_ret
    exact ⟨rfl, Ext.trans HE.out HE3.out⟩
/-- the order of witnesses: the shorter first, of one length the lexicographically greater -/
def witZ (a b c d : Int) : Int := if sgnZ (sqZ a b) (sqZ c d) = 0 then heightZ d c b a else sgnZ (sqZ a b) (sqZ c d)
set_option maxHeartbeats 1000000 in
theorem wit_c (a b c d : Int) (w : World) (ha : -10000 ≤ a ∧ a ≤ 10000) (hb : -10000 ≤ b ∧ b ≤ 10000) (hc : -10000 ≤ c ∧ c ≤ 10000) (hd : -10000 ≤ d ∧ d ≤ 10000) :
    Calls Try.prog 48 #[vecV a b, vecV c d] w fun e w' => e = .returned (.int .i64 (witZ a b c d)) ∧ Ext w w' := by
  have HQ1 := Lib.hid (fun W => square_c a b W ha hb)
  have HQ2 := Lib.hid (fun W => square_c c d W hc hd)
  clear ha hb hc hd
  have hm0 := VRow.alloc (vrow_alloc w [.int .i64 a, .int .i64 b] 31) (.cells #[.int .i64 c, .int .i64 d] 31)
  have hn0 := vrow_alloc (w.alloc (.cells #[.int .i64 a, .int .i64 b] 31)) [.int .i64 c, .int .i64 d] 31
  have hE := Ext.alloc (Ext.alloc (Ext.refl w) (.cells #[.int .i64 a, .int .i64 b] 31)) (.cells #[.int .i64 c, .int .i64 d] 31)
  have hs1 : (w.alloc (.cells #[.int .i64 a, .int .i64 b] 31)).heap.size = w.heap.size + 1 := by simp
  rw [hs1] at hn0
  change VRow ((w.alloc (.cells #[.int .i64 a, .int .i64 b] 31)).alloc (.cells #[.int .i64 c, .int .i64 d] 31)) _ _ _ at hm0 hn0
  have HM := Lib.hid hm0
  have HN := Lib.hid hn0
  have HE := Lib.hid hE
  clear hs1 hm0 hn0 hE
  go_enter Try.func48, Try.ntmps48
  go_wp2_with fail
  generalize (w.alloc (.cells #[.int .i64 a, .int .i64 b] 31)).alloc (.cells #[.int .i64 c, .int .i64 d] 31) = w1 at *
  generalize hs : w.heap.size = s at *
  refine wp_region_stable [⟨[], none⟩, ⟨[(0, 5)], none⟩, ⟨[], none⟩, ⟨[(2, 7)], none⟩, ⟨[(1, 6), (3, 8)], none⟩, ⟨[], none⟩, ⟨[], none⟩, ⟨[(5, 10), (6, 11)], none⟩, ⟨[(4, 9), (7, 12)], none⟩, ⟨[(8, 13)], none⟩, ⟨[(9, 14)], none⟩] (fun x y => Below x.heap.size x y) (MPat [MP.eq (vecV a b), MP.eq (.int .i64 (sqZ a b)), MP.eq (vecV c d), MP.eq (.int .i64 (sqZ c d)), MP.eq (.int .i64 (sgnZ (sqZ a b) (sqZ c d))), MP.eq (vecV c d), MP.eq (vecV a b), MP.eq (.int .i64 (heightZ d c b a)), MP.ints [sgnZ (sqZ a b) (sqZ c d), heightZ d c b a], MP.eq (.int .i64 (witZ a b c d)), MP.eq (.int .i64 (witZ a b c d))]) (by kernel_rfl) (fun _ _ _ h k => Ext.trans h k) (fun _ => Below.refl _ _) (fun x => (Below.refl x.heap.size x).drew) (MPat.mono _) (by kernel_rfl) ?obs ?rest
  case obs =>
    refine ⟨?_, ?_, ?_, ?_, ?_, ?_, ?_, ?_, ?_, ?_, ?_, trivial⟩
    · intro ev W hf _ _ hst hd
      have e2 : ev (.tmp 2) = .pointer (some ⟨s, 0, none⟩) := hf 2 (by kernel_rfl)
      have kk := VRow.ext HM.out hst
      have k0 := VRow.cell kk (k := 0) rfl
      have k1 := VRow.cell kk (k := 1) rfl
      refine st_value (v := vecV a b) ?_ (Below.refl _ _) ?_
      · simp [execOp, go_sem, e2, k0, k1, vecV]
      · exact rfl
    · intro ev W hf _ hfn hst hd
      obtain ⟨d5, _⟩ := hd
      have e5 : ev (.tmp 5) = vecV a b := d5
      refine st_call (f := 51) (args := #[vecV a b]) (by simp [execOp, go_sem, hfn, e5]) (HQ1.out W) (fun _ _ => rfl)
    · intro ev W hf _ _ hst hd
      have e3 : ev (.tmp 3) = .pointer (some ⟨(s + 1), 0, none⟩) := hf 3 (by kernel_rfl)
      have kk := VRow.ext HN.out hst
      have k0 := VRow.cell kk (k := 0) rfl
      have k1 := VRow.cell kk (k := 1) rfl
      refine st_value (v := vecV c d) ?_ (Below.refl _ _) ?_
      · simp [execOp, go_sem, e3, k0, k1, vecV]
      · exact rfl
    · intro ev W hf _ hfn hst hd
      obtain ⟨d7, _⟩ := hd
      have e7 : ev (.tmp 7) = vecV c d := d7
      refine st_call (f := 51) (args := #[vecV c d]) (by simp [execOp, go_sem, hfn, e7]) (HQ2.out W) (fun _ _ => rfl)
    · intro ev W hf _ hfn hst hd
      obtain ⟨d6, d8, _⟩ := hd
      have e6 : ev (.tmp 6) = .int .i64 (sqZ a b) := d6
      have e8 : ev (.tmp 8) = .int .i64 (sqZ c d) := d8
      refine st_call (f := 50) (args := #[.int .i64 (sqZ a b), .int .i64 (sqZ c d)]) (by simp [execOp, go_sem, hfn, e6, e8]) (calls_same (compare_c (sqZ a b) (sqZ c d) W)) (fun _ _ => rfl)
    · intro ev W hf _ _ hst hd
      have e3 : ev (.tmp 3) = .pointer (some ⟨(s + 1), 0, none⟩) := hf 3 (by kernel_rfl)
      have kk := VRow.ext HN.out hst
      have k0 := VRow.cell kk (k := 0) rfl
      have k1 := VRow.cell kk (k := 1) rfl
      refine st_value (v := vecV c d) ?_ (Below.refl _ _) ?_
      · simp [execOp, go_sem, e3, k0, k1, vecV]
      · exact rfl
    · intro ev W hf _ _ hst hd
      have e2 : ev (.tmp 2) = .pointer (some ⟨s, 0, none⟩) := hf 2 (by kernel_rfl)
      have kk := VRow.ext HM.out hst
      have k0 := VRow.cell kk (k := 0) rfl
      have k1 := VRow.cell kk (k := 1) rfl
      refine st_value (v := vecV a b) ?_ (Below.refl _ _) ?_
      · simp [execOp, go_sem, e2, k0, k1, vecV]
      · exact rfl
    · intro ev W hf _ hfn hst hd
      obtain ⟨d10, d11, _⟩ := hd
      have e10 : ev (.tmp 10) = vecV c d := d10
      have e11 : ev (.tmp 11) = vecV a b := d11
      refine st_call (f := 52) (args := #[vecV c d, vecV a b]) (by simp [execOp, go_sem, hfn, e10, e11]) (lex_c c d a b W) (fun _ _ => rfl)
    · intro ev W hf _ hfn hst hd
      obtain ⟨d9, d12, _⟩ := hd
      have e9 : ev (.tmp 9) = .int .i64 (sgnZ (sqZ a b) (sqZ c d)) := d9
      have e12 : ev (.tmp 12) = .int .i64 (heightZ d c b a) := d12
      refine st_new (v := .slice (some ⟨W.heap.size, 0, none⟩) 2 2) (o := .cells #[.int .i64 (sgnZ (sqZ a b) (sqZ c d)), .int .i64 (heightZ d c b a)] 3) ?_ ?_
      · simp [execOp, go_sem, e9, e12]
      · exact IRow.ints' (xs := [sgnZ (sqZ a b) (sqZ c d), heightZ d c b a]) (vrow_alloc W [.int .i64 (sgnZ (sqZ a b) (sqZ c d)), .int .i64 (heightZ d c b a)] 3) rfl (by simp) (by simp)
    · intro ev W hf _ hfn hst hd
      obtain ⟨d13, _⟩ := hd
      have d13 : Ints W (ev (.tmp 13)) [sgnZ (sqZ a b) (sqZ c d), heightZ d c b a] := d13
      refine st_call (f := 49) (args := #[ev (.tmp 13)]) (by simp [execOp, go_sem, hfn]) ?_ (fun _ _ => rfl)
      have h9 := calls_same (or_c _ _ W d13)
      rw [orZ_two] at h9
      exact h9
    · intro ev W hf _ _ hst hd
      obtain ⟨d14, _⟩ := hd
      have e14 : ev (.tmp 14) = .int .i64 (witZ a b c d) := d14
      refine st_value (v := .int .i64 (witZ a b c d)) ?_ (Below.refl _ _) ?_
      · simp [execOp, go_sem, e14]
      · exact rfl
  case rest =>
    intro vs w3 hl hst hg
    have hx0 : ∀ u, vs[0]? = some u → u = vecV a b := fun u hu => hg 0 u hu
    have hx1 : ∀ u, vs[1]? = some u → u = .int .i64 (sqZ a b) := fun u hu => hg 1 u hu
    have hx2 : ∀ u, vs[2]? = some u → u = vecV c d := fun u hu => hg 2 u hu
    have hx3 : ∀ u, vs[3]? = some u → u = .int .i64 (sqZ c d) := fun u hu => hg 3 u hu
    have hx4 : ∀ u, vs[4]? = some u → u = .int .i64 (sgnZ (sqZ a b) (sqZ c d)) := fun u hu => hg 4 u hu
    have hx5 : ∀ u, vs[5]? = some u → u = vecV c d := fun u hu => hg 5 u hu
    have hx6 : ∀ u, vs[6]? = some u → u = vecV a b := fun u hu => hg 6 u hu
    have hx7 : ∀ u, vs[7]? = some u → u = .int .i64 (heightZ d c b a) := fun u hu => hg 7 u hu
    have hx8 : ∀ u, vs[8]? = some u → MP.p (MP.ints [sgnZ (sqZ a b) (sqZ c d), heightZ d c b a]) u w3 := fun u hu => hg 8 u hu
    have hx9 : ∀ u, vs[9]? = some u → u = .int .i64 (witZ a b c d) := fun u hu => hg 9 u hu
    have hx10 : ∀ u, vs[10]? = some u → u = .int .i64 (witZ a b c d) := fun u hu => hg 10 u hu
    have HE3 := Lib.hid hst
    clear hg hst
    obtain ⟨x0, vs0, rfl, hl0⟩ := len_succ hl
    obtain ⟨x1, vs1, rfl, hl1⟩ := len_succ hl0
    obtain ⟨x2, vs2, rfl, hl2⟩ := len_succ hl1
    obtain ⟨x3, vs3, rfl, hl3⟩ := len_succ hl2
    obtain ⟨x4, vs4, rfl, hl4⟩ := len_succ hl3
    obtain ⟨x5, vs5, rfl, hl5⟩ := len_succ hl4
    obtain ⟨x6, vs6, rfl, hl6⟩ := len_succ hl5
    obtain ⟨x7, vs7, rfl, hl7⟩ := len_succ hl6
    obtain ⟨x8, vs8, rfl, hl8⟩ := len_succ hl7
    obtain ⟨x9, vs9, rfl, hl9⟩ := len_succ hl8
    obtain ⟨x10, vs10, rfl, hl10⟩ := len_succ hl9
    have hnil : vs10 = [] := List.length_eq_zero_iff.1 hl10
    subst hnil
    obtain rfl : x0 = vecV a b := hx0 _ rfl
    obtain rfl : x1 = .int .i64 (sqZ a b) := hx1 _ rfl
    obtain rfl : x2 = vecV c d := hx2 _ rfl
    obtain rfl : x3 = .int .i64 (sqZ c d) := hx3 _ rfl
    obtain rfl : x4 = .int .i64 (sgnZ (sqZ a b) (sqZ c d)) := hx4 _ rfl
    obtain rfl : x5 = vecV c d := hx5 _ rfl
    obtain rfl : x6 = vecV a b := hx6 _ rfl
    obtain rfl : x7 = .int .i64 (heightZ d c b a) := hx7 _ rfl
    replace hx8 := hx8 _ rfl
    obtain rfl : x9 = .int .i64 (witZ a b c d) := hx9 _ rfl
    obtain rfl : x10 = .int .i64 (witZ a b c d) := hx10 _ rfl
    clear hx0 hx1 hx2 hx3 hx4 hx5 hx6 hx7 hx9 hx10
    simp only [putAll, Act.put, List.setIfInBounds_toArray, List.set_cons_zero, List.set_cons_succ]
    go_wp2_with fail
    go_ret
    exact ⟨rfl, Ext.trans HE.out HE3.out⟩
end Go.Proofs.Ytnpebfchojalcaa

namespace Go.Proofs.Ytnpebfchojalcaa
set_option maxRecDepth 100000
open Go.RowKit Go.Shelf
/-! The first of some vectors in the order of witnesses. -/
def witP (a b : Pt) : Int := witZ a.1 a.2 b.1 b.2
def minW (qs : List Pt) : Nat → Pt
  | 0 => fromP qs 0
  | k + 1 => if witP (fromP qs (k + 1)) (minW qs k) < 0 then fromP qs (k + 1) else minW qs k
def minWP (qs : List Pt) : Pt := minW qs (qs.length - 1)
theorem minW_mem {qs : List Pt} (hn : 0 < qs.length) : ∀ k, k < qs.length → minW qs k ∈ qs := by
  have hf : ∀ j, j < qs.length → fromP qs j ∈ qs := fun j hj => by unfold fromP; rw [List.getD_eq_getElem?_getD, List.getElem?_eq_getElem hj]; exact List.getElem_mem _
  intro k
  induction k with
  | zero => intro _; exact hf 0 hn
  | succ k ih =>
    intro hk
    simp only [minW]
    split
    · exact hf _ hk
    · exact ih (by omega)
set_option maxRecDepth 100000 in
set_option maxHeartbeats 1000000 in
theorem minW_c (v : Value) (qs : List Pt) (w : World) (hv : Vecs w v qs) (hn : 0 < qs.length) (hm : qs.length ≤ 1000000) (hbd : ∀ q ∈ qs, (-10000 ≤ q.1 ∧ q.1 ≤ 10000) ∧ (-10000 ≤ q.2 ∧ q.2 ≤ 10000)) :
    Calls Try.prog 74 #[v, .func (.func 48) #[] #[]] w fun e w' => e = .returned (vecV (minWP qs).1 (minWP qs).2) ∧ Ext w w' := by
  obtain ⟨a, cap, rfl, hl, hmx, hr⟩ := hv.at
  obtain ⟨p0, hp0⟩ := getElem?_len hn
  obtain ⟨b, o, rfl, c0, c1⟩ := hr 0 p0 hp0
  have hE0 := Ext.alloc (Ext.refl w) (.cells #[.int .i64 0, .int .i64 0] 31)
  have HR := Lib.hid (show ∀ (k : Nat) (p : Pt), qs[k]? = some p → w.cell? ⟨b, o + k * 2, none⟩ = some (.int .i64 p.1) ∧ w.cell? ⟨b, o + k * 2 + 1, none⟩ = some (.int .i64 p.2) from fun k p hk => by
    obtain ⟨b', o', e, h1, h2⟩ := hr k p hk
    obtain ⟨rfl, rfl⟩ : b = b' ∧ o = o' := by injection e with e; injection e with e1 e2; exact ⟨e1, e2⟩
    exact ⟨h1, h2⟩)
  have HF0 := Lib.hid (fromP_of hp0)
  have HBD := Lib.hid hbd
  have HWM := Lib.hid (minW_mem hn)
  clear hbd
  have d0 : (w.alloc (.cells #[.int .i64 0, .int .i64 0] 31)).cell? ⟨b, o, none⟩ = some (.int .i64 p0.1) := by have := Ext.cell hE0 c0; simpa using this
  have d1 : (w.alloc (.cells #[.int .i64 0, .int .i64 0] 31)).cell? ⟨b, o + 1, none⟩ = some (.int .i64 p0.2) := by have := Ext.cell hE0 c1; simpa using this
  have hblt := cell_lt c0
  clear hv hr c0 c1 hp0
  go_enter Try.func74, Try.ntmps74
  go_wp2_with fail
  clear d0 d1
  have hs1 : (w.alloc (.cells #[.int .i64 0, .int .i64 0] 31)).heap.size = w.heap.size + 1 := by simp
  have hra := VRow.alloc (vrow_alloc w [.int .i64 0, .int .i64 0] 31) (.cells #[.int .i64 p0.1, .int .i64 p0.2] 31)
  have hrb := vrow_alloc (w.alloc (.cells #[.int .i64 0, .int .i64 0] 31)) [.int .i64 p0.1, .int .i64 p0.2] 31
  rw [hs1] at hrb
  go_loopw [6] (fun i wr => ∃ k : Nat, k + 1 ≤ qs.length ∧ i = .int .i64 ((k + 1 : Nat) : Int) ∧ VRow wr (w.heap.size + 1) 31 [.int .i64 (minW qs k).1, .int .i64 (minW qs k).2] ∧ VRow wr w.heap.size 31 [.int .i64 0, .int .i64 0] ∧ Ext w wr) (fun i _ => qs.length - (intOf i).toNat)
  case atStart => exact ⟨0, by omega, rfl, by simp only [minW, HF0.out]; exact hrb, hra, Ext.alloc hE0 _⟩
  case round =>
    clear hra hrb
    obtain ⟨k, hk, rfl, hM, hA, hE⟩ := hrel
    have HM := Lib.hid hM
    have HA := Lib.hid hA
    have HE := Lib.hid hE
    clear hM hA hE hE0
    obtain ⟨j, hj⟩ : ∃ j, j = k + 1 := ⟨_, rfl⟩
    rw [← hj] at hk ⊢
    by_cases hlt : j < qs.length
    · obtain ⟨q, hq⟩ := getElem?_len hlt
      obtain ⟨hc0, hc1⟩ := HR.out j q hq
      have HC := Lib.hid (show wr.cell? _ = _ ∧ wr.cell? _ = _ from ⟨Ext.cell HE.out hc0, Ext.cell HE.out hc1⟩)
      have HS := Lib.hid (show minW qs j = if witP q (minW qs k) < 0 then q else minW qs k by rw [hj]; simp only [minW]; rw [← hj, fromP_of hq])
      have HQB := Lib.hid (HBD.out q (List.mem_of_getElem? hq))
      have HMB := Lib.hid (HBD.out _ (HWM.out k (by omega)))
      clear hq hc0 hc1
      obtain ⟨m, hmm⟩ : ∃ m, m = minW qs k := ⟨_, rfl⟩
      rw [← hmm] at HM HS HMB
      obtain ⟨z, hz⟩ : ∃ z, z = witP q m := ⟨_, rfl⟩
      rw [← hz] at HS
      have HZ := Lib.hid hz
      have HMM := Lib.hid hmm
      have Hj := Lib.hid hj
      clear hz hmm hj
      go_wp2_with fail
      by_cases hneg : z < 0
      · skip
        refine wp_region_stable [⟨[], none⟩, ⟨[], none⟩, ⟨[], none⟩, ⟨[(1, 21), (2, 22)], none⟩, ⟨[(3, 23)], none⟩, ⟨[], none⟩, ⟨[(0, 20), (4, 24), (5, 25)], none⟩, ⟨[(6, 26)], none⟩] (fun x y => Below x.heap.size x y) (MPat [MP.eq (.func (.func 48) #[] #[]), MP.eq (.slice (some ⟨b, o, none⟩) qs.length cap), MP.eq (.int .i64 j), MP.eq (.pointer (some ⟨b, o + j * 2, none⟩)), MP.eq (vecV q.1 q.2), MP.eq (vecV m.1 m.2), MP.eq (.int .i64 z), MP.eq (.bool true)]) (by kernel_rfl) (fun _ _ _ h k => Ext.trans h k) (fun _ => Below.refl _ _) (fun x => (Below.refl x.heap.size x).drew) (MPat.mono _) (by kernel_rfl) ?obs ?rest
        case obs =>
          refine ⟨?_, ?_, ?_, ?_, ?_, ?_, ?_, ?_, trivial⟩
          · intro ev W hf _ _ hst hd
            have e1 : ev (.tmp 1) = .func (.func 48) #[] #[] := hf 1 (by kernel_rfl)
            refine st_value (v := .func (.func 48) #[] #[]) ?_ (Below.refl _ _) ?_
            · simp [execOp, go_sem, e1]
            · exact rfl
          · intro ev W hf _ _ hst hd
            have e0 : ev (.tmp 0) = .slice (some ⟨b, o, none⟩) qs.length cap := hf 0 (by kernel_rfl)
            refine st_value (v := .slice (some ⟨b, o, none⟩) qs.length cap) ?_ (Below.refl _ _) ?_
            · simp [execOp, go_sem, e0]
            · exact rfl
          · intro ev W hf _ _ hst hd
            have e6 : ev (.tmp 6) = .int .i64 j := hf 6 (by kernel_rfl)
            refine st_value (v := .int .i64 j) ?_ (Below.refl _ _) ?_
            · simp [execOp, go_sem, e6]
            · exact rfl
          · intro ev W hf _ _ hst hd
            obtain ⟨d21, d22, _⟩ := hd
            have e21 : ev (.tmp 21) = .slice (some ⟨b, o, none⟩) qs.length cap := d21
            have e22 : ev (.tmp 22) = .int .i64 j := d22
            refine st_value (v := .pointer (some ⟨b, o + j * 2, none⟩)) ?_ (Below.refl _ _) ?_
            · simp [execOp, go_sem, e21, e22, hlt]
            · exact rfl
          · intro ev W hf _ _ hst hd
            obtain ⟨d23, _⟩ := hd
            have e23 : ev (.tmp 23) = .pointer (some ⟨b, o + j * 2, none⟩) := d23
            have k0 := Ext.cell hst HC.out.1
            have k1 := Ext.cell hst HC.out.2
            refine st_value (v := vecV q.1 q.2) ?_ (Below.refl _ _) ?_
            · simp [execOp, go_sem, e23, k0, k1]
            · exact rfl
          · intro ev W hf _ _ hst hd
            have e5 : ev (.tmp 5) = .pointer (some ⟨w.heap.size + 1, 0, none⟩) := hf 5 (by kernel_rfl)
            have kk := VRow.ext HM.out hst
            have k0 := VRow.cell kk (k := 0) rfl
            have k1 := VRow.cell kk (k := 1) rfl
            refine st_value (v := vecV m.1 m.2) ?_ (Below.refl _ _) ?_
            · simp [execOp, go_sem, e5, k0, k1]
            · exact rfl
          · intro ev W hf _ hfn hst hd
            obtain ⟨d20, d24, d25, _⟩ := hd
            have e20 : ev (.tmp 20) = .func (.func 48) #[] #[] := d20
            have e24 : ev (.tmp 24) = vecV q.1 q.2 := d24
            have e25 : ev (.tmp 25) = vecV m.1 m.2 := d25
            clear hfn
            refine st_call (f := 48) (args := #[vecV q.1 q.2, vecV m.1 m.2]) (by simp [execOp, go_sem, e20, e24, e25]) (by rw [HZ.out]; exact wit_c q.1 q.2 m.1 m.2 W HQB.out.1 HQB.out.2 HMB.out.1 HMB.out.2) (fun _ _ => rfl)
          · intro ev W hf hcst _ hst hd
            obtain ⟨d26, _⟩ := hd
            have e26 : ev (.tmp 26) = .int .i64 z := d26
            refine st_value (v := .bool true) ?_ (Below.refl _ _) ?_
            · simp [execOp, go_sem, e26, hcst, hneg]
            · exact rfl
        case rest =>
          intro vs w3 hl hst hg
          have hx0 : ∀ u, vs[0]? = some u → u = .func (.func 48) #[] #[] := fun u hu => hg 0 u hu
          have hx1 : ∀ u, vs[1]? = some u → u = .slice (some ⟨b, o, none⟩) qs.length cap := fun u hu => hg 1 u hu
          have hx2 : ∀ u, vs[2]? = some u → u = .int .i64 j := fun u hu => hg 2 u hu
          have hx3 : ∀ u, vs[3]? = some u → u = .pointer (some ⟨b, o + j * 2, none⟩) := fun u hu => hg 3 u hu
          have hx4 : ∀ u, vs[4]? = some u → u = vecV q.1 q.2 := fun u hu => hg 4 u hu
          have hx5 : ∀ u, vs[5]? = some u → u = vecV m.1 m.2 := fun u hu => hg 5 u hu
          have hx6 : ∀ u, vs[6]? = some u → u = .int .i64 z := fun u hu => hg 6 u hu
          have hx7 : ∀ u, vs[7]? = some u → u = .bool true := fun u hu => hg 7 u hu
          have HE3 := Lib.hid hst
          clear hg hst
          obtain ⟨x0, vs0, rfl, hl0⟩ := len_succ hl
          obtain ⟨x1, vs1, rfl, hl1⟩ := len_succ hl0
          obtain ⟨x2, vs2, rfl, hl2⟩ := len_succ hl1
          obtain ⟨x3, vs3, rfl, hl3⟩ := len_succ hl2
          obtain ⟨x4, vs4, rfl, hl4⟩ := len_succ hl3
          obtain ⟨x5, vs5, rfl, hl5⟩ := len_succ hl4
          obtain ⟨x6, vs6, rfl, hl6⟩ := len_succ hl5
          obtain ⟨x7, vs7, rfl, hl7⟩ := len_succ hl6
          have hnil : vs7 = [] := List.length_eq_zero_iff.1 hl7
          subst hnil
          obtain rfl : x0 = .func (.func 48) #[] #[] := hx0 _ rfl
          obtain rfl : x1 = .slice (some ⟨b, o, none⟩) qs.length cap := hx1 _ rfl
          obtain rfl : x2 = .int .i64 j := hx2 _ rfl
          obtain rfl : x3 = .pointer (some ⟨b, o + j * 2, none⟩) := hx3 _ rfl
          obtain rfl : x4 = vecV q.1 q.2 := hx4 _ rfl
          obtain rfl : x5 = vecV m.1 m.2 := hx5 _ rfl
          obtain rfl : x6 = .int .i64 z := hx6 _ rfl
          obtain rfl : x7 = .bool true := hx7 _ rfl
          clear hx0 hx1 hx2 hx3 hx4 hx5 hx6 hx7
          simp only [putAll, Act.put, List.setIfInBounds_toArray, List.set_cons_zero, List.set_cons_succ]
          have hm3 := VRow.ext HM.out HE3.out
          have c0 := Ext.cell HE3.out HC.out.1
          have c1 := Ext.cell HE3.out HC.out.2
          have m0 := VRow.cell hm3 (k := 0) rfl
          have m1 := VRow.cell hm3 (k := 1) rfl
          have f0 := VRow.frozen hm3 0 none
          have f1 := VRow.frozen hm3 1 none
          have HM3 := Lib.hid hm3
          clear hm3
          go_wp2
          have hj := Hj.out
          refine ⟨⟨k + 1, by omega, by congr 1; omega, ?_, VRow.setOther (VRow.setOther (VRow.ext HA.out HE3.out) (by simp) _) (by simp) _, ?_⟩, by simp [intOf]; omega⟩
          · have e := HS.out
            rw [if_pos hneg, hj] at e
            rw [e]
            exact VRow.set (VRow.set HM3.out 0 _) 1 _
          · exact Below.setCell (p := ⟨w.heap.size + 1, 1, none⟩) (Below.setCell (p := ⟨w.heap.size + 1, 0, none⟩) (Ext.trans HE.out HE3.out) (by show _ ≤ w.heap.size + 1; omega) _) (by show _ ≤ w.heap.size + 1; omega) _
      · skip
        refine wp_region_stable [⟨[], none⟩, ⟨[], none⟩, ⟨[], none⟩, ⟨[(1, 21), (2, 22)], none⟩, ⟨[(3, 23)], none⟩, ⟨[], none⟩, ⟨[(0, 20), (4, 24), (5, 25)], none⟩, ⟨[(6, 26)], none⟩] (fun x y => Below x.heap.size x y) (MPat [MP.eq (.func (.func 48) #[] #[]), MP.eq (.slice (some ⟨b, o, none⟩) qs.length cap), MP.eq (.int .i64 j), MP.eq (.pointer (some ⟨b, o + j * 2, none⟩)), MP.eq (vecV q.1 q.2), MP.eq (vecV m.1 m.2), MP.eq (.int .i64 z), MP.eq (.bool false)]) (by kernel_rfl) (fun _ _ _ h k => Ext.trans h k) (fun _ => Below.refl _ _) (fun x => (Below.refl x.heap.size x).drew) (MPat.mono _) (by kernel_rfl) ?obs ?rest
        case obs =>
          refine ⟨?_, ?_, ?_, ?_, ?_, ?_, ?_, ?_, trivial⟩
          · intro ev W hf _ _ hst hd
            have e1 : ev (.tmp 1) = .func (.func 48) #[] #[] := hf 1 (by kernel_rfl)
            refine st_value (v := .func (.func 48) #[] #[]) ?_ (Below.refl _ _) ?_
            · simp [execOp, go_sem, e1]
            · exact rfl
          · intro ev W hf _ _ hst hd
            have e0 : ev (.tmp 0) = .slice (some ⟨b, o, none⟩) qs.length cap := hf 0 (by kernel_rfl)
            refine st_value (v := .slice (some ⟨b, o, none⟩) qs.length cap) ?_ (Below.refl _ _) ?_
            · simp [execOp, go_sem, e0]
            · exact rfl
          · intro ev W hf _ _ hst hd
            have e6 : ev (.tmp 6) = .int .i64 j := hf 6 (by kernel_rfl)
            refine st_value (v := .int .i64 j) ?_ (Below.refl _ _) ?_
            · simp [execOp, go_sem, e6]
            · exact rfl
          · intro ev W hf _ _ hst hd
            obtain ⟨d21, d22, _⟩ := hd
            have e21 : ev (.tmp 21) = .slice (some ⟨b, o, none⟩) qs.length cap := d21
            have e22 : ev (.tmp 22) = .int .i64 j := d22
            refine st_value (v := .pointer (some ⟨b, o + j * 2, none⟩)) ?_ (Below.refl _ _) ?_
            · simp [execOp, go_sem, e21, e22, hlt]
            · exact rfl
          · intro ev W hf _ _ hst hd
            obtain ⟨d23, _⟩ := hd
            have e23 : ev (.tmp 23) = .pointer (some ⟨b, o + j * 2, none⟩) := d23
            have k0 := Ext.cell hst HC.out.1
            have k1 := Ext.cell hst HC.out.2
            refine st_value (v := vecV q.1 q.2) ?_ (Below.refl _ _) ?_
            · simp [execOp, go_sem, e23, k0, k1]
            · exact rfl
          · intro ev W hf _ _ hst hd
            have e5 : ev (.tmp 5) = .pointer (some ⟨w.heap.size + 1, 0, none⟩) := hf 5 (by kernel_rfl)
            have kk := VRow.ext HM.out hst
            have k0 := VRow.cell kk (k := 0) rfl
            have k1 := VRow.cell kk (k := 1) rfl
            refine st_value (v := vecV m.1 m.2) ?_ (Below.refl _ _) ?_
            · simp [execOp, go_sem, e5, k0, k1]
            · exact rfl
          · intro ev W hf _ hfn hst hd
            obtain ⟨d20, d24, d25, _⟩ := hd
            have e20 : ev (.tmp 20) = .func (.func 48) #[] #[] := d20
            have e24 : ev (.tmp 24) = vecV q.1 q.2 := d24
            have e25 : ev (.tmp 25) = vecV m.1 m.2 := d25
            clear hfn
            refine st_call (f := 48) (args := #[vecV q.1 q.2, vecV m.1 m.2]) (by simp [execOp, go_sem, e20, e24, e25]) (by rw [HZ.out]; exact wit_c q.1 q.2 m.1 m.2 W HQB.out.1 HQB.out.2 HMB.out.1 HMB.out.2) (fun _ _ => rfl)
          · intro ev W hf hcst _ hst hd
            obtain ⟨d26, _⟩ := hd
            have e26 : ev (.tmp 26) = .int .i64 z := d26
            refine st_value (v := .bool false) ?_ (Below.refl _ _) ?_
            · simp [execOp, go_sem, e26, hcst, hneg]
            · exact rfl
        case rest =>
          intro vs w3 hl hst hg
          have hx0 : ∀ u, vs[0]? = some u → u = .func (.func 48) #[] #[] := fun u hu => hg 0 u hu
          have hx1 : ∀ u, vs[1]? = some u → u = .slice (some ⟨b, o, none⟩) qs.length cap := fun u hu => hg 1 u hu
          have hx2 : ∀ u, vs[2]? = some u → u = .int .i64 j := fun u hu => hg 2 u hu
          have hx3 : ∀ u, vs[3]? = some u → u = .pointer (some ⟨b, o + j * 2, none⟩) := fun u hu => hg 3 u hu
          have hx4 : ∀ u, vs[4]? = some u → u = vecV q.1 q.2 := fun u hu => hg 4 u hu
          have hx5 : ∀ u, vs[5]? = some u → u = vecV m.1 m.2 := fun u hu => hg 5 u hu
          have hx6 : ∀ u, vs[6]? = some u → u = .int .i64 z := fun u hu => hg 6 u hu
          have hx7 : ∀ u, vs[7]? = some u → u = .bool false := fun u hu => hg 7 u hu
          have HE3 := Lib.hid hst
          clear hg hst
          obtain ⟨x0, vs0, rfl, hl0⟩ := len_succ hl
          obtain ⟨x1, vs1, rfl, hl1⟩ := len_succ hl0
          obtain ⟨x2, vs2, rfl, hl2⟩ := len_succ hl1
          obtain ⟨x3, vs3, rfl, hl3⟩ := len_succ hl2
          obtain ⟨x4, vs4, rfl, hl4⟩ := len_succ hl3
          obtain ⟨x5, vs5, rfl, hl5⟩ := len_succ hl4
          obtain ⟨x6, vs6, rfl, hl6⟩ := len_succ hl5
          obtain ⟨x7, vs7, rfl, hl7⟩ := len_succ hl6
          have hnil : vs7 = [] := List.length_eq_zero_iff.1 hl7
          subst hnil
          obtain rfl : x0 = .func (.func 48) #[] #[] := hx0 _ rfl
          obtain rfl : x1 = .slice (some ⟨b, o, none⟩) qs.length cap := hx1 _ rfl
          obtain rfl : x2 = .int .i64 j := hx2 _ rfl
          obtain rfl : x3 = .pointer (some ⟨b, o + j * 2, none⟩) := hx3 _ rfl
          obtain rfl : x4 = vecV q.1 q.2 := hx4 _ rfl
          obtain rfl : x5 = vecV m.1 m.2 := hx5 _ rfl
          obtain rfl : x6 = .int .i64 z := hx6 _ rfl
          obtain rfl : x7 = .bool false := hx7 _ rfl
          clear hx0 hx1 hx2 hx3 hx4 hx5 hx6 hx7
          simp only [putAll, Act.put, List.setIfInBounds_toArray, List.set_cons_zero, List.set_cons_succ]
          go_wp2
          have hj := Hj.out
          refine ⟨⟨k + 1, by omega, by congr 1; omega, ?_, VRow.ext HA.out HE3.out, Ext.trans HE.out HE3.out⟩, by simp [intOf]; omega⟩
          have e := HS.out
          rw [if_neg hneg, hj] at e
          rw [e]
          exact VRow.ext HM.out HE3.out
    · have hjn : j = qs.length := by omega
      have m0 := VRow.cell HM.out (k := 0) rfl
      have m1 := VRow.cell HM.out (k := 1) rfl
      have a0 := VRow.cell HA.out (k := 0) rfl
      have a1 := VRow.cell HA.out (k := 1) rfl
      have f0 := VRow.frozen HA.out 0 none
      have f1 := VRow.frozen HA.out 1 none
      have Hj := Lib.hid hj
      clear hj
      go_wp2_with fail
      have hA2 := VRow.set (VRow.set HA.out 0 (.int .i64 (minW qs k).1)) 1 (.int .i64 (minW qs k).2)
      have b0 := VRow.cell hA2 (k := 0) rfl
      have b1 := VRow.cell hA2 (k := 1) rfl
      have hE2 := Below.setCell (p := ⟨w.heap.size, 1, none⟩) (Below.setCell (p := ⟨w.heap.size, 0, none⟩) HE.out (Nat.le_refl _) (.int .i64 (minW qs k).1)) (Nat.le_refl _) (.int .i64 (minW qs k).2)
      generalize ((wr.setCell ⟨w.heap.size, 0, none⟩ (.int .i64 (minW qs k).1)).setCell ⟨w.heap.size, 1, none⟩ (.int .i64 (minW qs k).2)) = w9 at *
      (try simp only [Exit.inBlock, Exit.then])
      refine bodyPost_ret (by rw [results_cell1 rfl]; go_simp; rfl) rfl ?_
      have hkn : k = qs.length - 1 := by have := Hj.out; omega
      exact ⟨by unfold minWP; rw [← hkn], hE2⟩
end Go.Proofs.Ytnpebfchojalcaa

namespace Go.Proofs.Ytnpebfchojalcaa
set_option maxRecDepth 100000
open Go.RowKit Go.Shelf Go.Maps
attribute [local go_sem] Oper.semAt_some
/-! The first key of a map, and Witness. -/
theorem sgn_neg (a b : Int) : sgnZ a b < 0 ↔ a < b := by
  unfold sgnZ
  split
  · omega
  · split <;> omega
theorem sgn_zero (a b : Int) : sgnZ a b = 0 ↔ a = b := by
  unfold sgnZ
  split
  · omega
  · split <;> omega
theorem wit_lt (p q : Pt) : witP p q < 0 ↔ sqZ p.1 p.2 < sqZ q.1 q.2 ∨ (sqZ p.1 p.2 = sqZ q.1 q.2 ∧ (q.1 < p.1 ∨ (q.1 = p.1 ∧ q.2 < p.2))) := by
  unfold witP witZ heightZ
  generalize sqZ p.1 p.2 = s
  generalize sqZ q.1 q.2 = t
  by_cases hs : sgnZ s t = 0
  · have e := (sgn_zero s t).1 hs
    rw [if_pos hs]
    by_cases h1 : sgnZ q.1 p.1 = 0
    · have e1 := (sgn_zero _ _).1 h1
      rw [if_pos h1, sgn_neg]
      omega
    · have e1 : q.1 ≠ p.1 := fun e => h1 ((sgn_zero _ _).2 e)
      rw [if_neg h1, sgn_neg]
      omega
  · have e : s ≠ t := fun e => hs ((sgn_zero _ _).2 e)
    rw [if_neg hs, sgn_neg]
    omega
theorem minW_low {qs : List Pt} : ∀ k j, j ≤ k → ¬ witP (fromP qs j) (minW qs k) < 0 := by
  intro k
  induction k with
  | zero =>
    intro j hj
    obtain rfl : j = 0 := by omega
    rw [wit_lt]
    simp only [minW]
    omega
  | succ k ih =>
    intro j hj
    simp only [minW]
    split
    · rename_i hc
      by_cases h : j = k + 1
      · rw [h, wit_lt]; omega
      · have h1 := ih j (by omega)
        rw [wit_lt] at *
        generalize sqZ (fromP qs j).1 (fromP qs j).2 = a at *
        generalize sqZ (minW qs k).1 (minW qs k).2 = b at *
        generalize sqZ (fromP qs (k + 1)).1 (fromP qs (k + 1)).2 = c at *
        omega
    · rename_i hc
      by_cases h : j = k + 1
      · rw [h]; exact hc
      · exact ih j (by omega)
/-- the first of some vectors -/
def FirstW (ks : List Pt) (q : Pt) : Prop := q ∈ ks ∧ ∀ p, p ∈ ks → ¬ witP p q < 0
theorem firstW_of {ks ys : List Pt} (h : ∀ y, y ∈ ys ↔ y ∈ ks) (hn : 0 < ys.length) : FirstW ks (minWP ys) := by
  refine ⟨(h _).1 (minW_mem hn _ (by omega)), fun p hp => ?_⟩
  have hp := (h p).2 hp
  obtain ⟨j, hj, e⟩ := List.getElem_of_mem hp
  have e2 : fromP ys j = p := by unfold fromP; rw [List.getD_eq_getElem?_getD, List.getElem?_eq_getElem hj, e]; rfl
  rw [← e2]
  exact minW_low (ys.length - 1) j (by omega)
theorem results_key {fn : Func} {p q : Tmp} {ty : TypeId} (h : fn.results = #[.cell p ty, .tmp q]) (tmps : Array Value) (P : Program) (w : World) :
    (results fn tmps).run P w = ((asAddr (tmps.getD p undef)).run P w).andThen fun a w₁ => ((loadVar ty a).run P w₁).andThen fun v w₂ => .ok (.tuple #[v, tmps.getD q undef]) w₂ := by
  simp only [results, h]
  simp only [Array.mapM_eq_foldlM, List.foldlM_toArray']
  simp [Sem.run_bind, Result.andThen]
theorem key_results {g : Nat} {W : World} {A B : Int} {e : Value} (h : VRow W g 31 [.int .i64 A, .int .i64 B]) (tmps : Array Value) (h4 : tmps.getD 4 undef = .pointer (some ⟨g, 0, none⟩)) (h5 : tmps.getD 5 undef = e) : (results Try.f47 tmps).run Try.prog W = .ok (.tuple #[vecV A B, e]) W := by
  have c0 := VRow.cell h (k := 0) rfl
  have c1 := VRow.cell h (k := 1) rfl
  rw [results_key rfl, h4, h5]
  go_simp
theorem wit_results {g : Nat} {W : World} {A B : Int} {e : Value} (h : VRow W g 31 [.int .i64 A, .int .i64 B]) (tmps : Array Value) (h4 : tmps.getD 4 undef = .pointer (some ⟨g, 0, none⟩)) (h5 : tmps.getD 5 undef = e) : (results Try.f18 tmps).run Try.prog W = .ok (.tuple #[vecV A B, e]) W := by
  have c0 := VRow.cell h (k := 0) rfl
  have c1 := VRow.cell h (k := 1) rfl
  rw [results_key rfl, h4, h5]
  go_simp
theorem vrow2_putW {W : World} {g : Nat} {a b : Value} (h : VRow W g 31 [a, b]) (x y : Value) : VRow ((W.setCell ⟨g, 0, none⟩ x).setCell ⟨g, 1, none⟩ y) g 31 [x, y] := VRow.set (VRow.set h 0 x) 1 y
theorem ext2_putW {w W : World} {g : Nat} (h : Ext w W) (hg : w.heap.size ≤ g) (x y : Value) : Ext w ((W.setCell ⟨g, 0, none⟩ x).setCell ⟨g, 1, none⟩ y) :=
  Below.setCell (p := ⟨g, 1, none⟩) (Below.setCell (p := ⟨g, 0, none⟩) h hg _) hg _
set_option maxHeartbeats 4000000 in
theorem firstKey_c (b : Nat) (ks : List Pt) (w : World) (hB : BMap w b ks) (hks : ∀ q ∈ ks, (-10000 ≤ q.1 ∧ q.1 ≤ 10000) ∧ (-10000 ≤ q.2 ∧ q.2 ≤ 10000)) (hkl : ks.length ≤ 1000) :
    Calls Try.prog 47 #[.map (some b), .func (.func 48) #[] #[]] w fun e w' => ((ks = [] ∧ e = .returned (.tuple #[vecV 0 0, .bool false])) ∨ ∃ q, FirstW ks q ∧ e = .returned (.tuple #[vecV q.1 q.2, .bool true])) ∧ Ext w w' := by
  have HE0 := Lib.hid (Ext.alloc (Ext.refl w) (.cells #[.int .i64 0, .int .i64 0] 31))
  have HR0 := Lib.hid (show VRow (w.alloc (.cells #[.int .i64 0, .int .i64 0] 31)) _ _ _ from vrow_alloc w [.int .i64 0, .int .i64 0] 31)
  have HB0 := Lib.hid (hB.ext HE0.out)
  have hnp : ∀ q ∈ ks, nearPt q := fun q hq => by have := hks q hq; unfold nearPt; omega
  have HNP := Lib.hid hnp
  have HKS := Lib.hid hks
  have hsz := setD_size hnp
  clear hB hks hnp
  have hlen := (show ((w.alloc (.cells #[.int .i64 0, .int .i64 0] 31)).ownsMap (H := Unit) Try.prog 31 (plainElem Try.prog 4) b ks.length (setD ks)) from HB0.out)
  have HLEN := Lib.hid hlen
  clear hlen
  by_cases h0 : ks = []
  · have HZ := Lib.hid (hsz.2 h0)
    have H0 := Lib.hid h0
    clear hsz h0
    go_enter Try.func47, Try.ntmps47
    go_wp2_with (refine wpList_len_own _ rfl _ 71 rfl 31 4 Try.underlying71 (plainElem Try.prog 4) b ks.length (setD ks) rfl HLEN.out ?_; rw [HZ.out])
    (try simp only [Exit.inBlock, Exit.then])
    (try rw [Exit.noGoto_ret])
    refine bodyPost_ret (key_results HR0.out _ rfl rfl) rfl ?_
    exact ⟨.inl ⟨H0.out, rfl⟩, HE0.out⟩
  · have HZ := Lib.hid (fun e => h0 (hsz.1 e))
    have hpos : 0 < ks.length := by
      cases ks with
      | nil => exact absurd rfl h0
      | cons _ _ => simp
    clear hsz h0
    obtain ⟨sz, hszz⟩ : ∃ sz, sz = Maps.size (setD ks) := ⟨_, rfl⟩
    have hs0 : sz ≠ 0 := fun e => HZ.out (by rw [← hszz]; exact e)
    have hsb : ((sz : Int) == 0) = false := beq_eq_false_iff_ne.2 (by omega)
    go_enter Try.func47, Try.ntmps47
    go_wp2_with (refine wpList_len_own _ rfl _ 71 rfl 31 4 Try.underlying71 (plainElem Try.prog 4) b ks.length (setD ks) rfl HLEN.out ?_; rw [← hszz])
    obtain ⟨w1, hw1⟩ : ∃ w1, w1 = w.alloc (.cells #[.int .i64 0, .int .i64 0] 31) := ⟨_, rfl⟩
    obtain ⟨g, hg⟩ : ∃ g, g = w.heap.size := ⟨_, rfl⟩
    rw [← hw1] at HE0 HR0 HB0 ⊢
    rw [← hg] at HR0 ⊢
    have HG := Lib.hid (show w.heap.size ≤ g from Nat.le_of_eq hg.symm)
    clear HLEN hszz hs0 hsb hw1 hg
    refine (keys_c b w1).mono ?_
    rintro e w2 ⟨rfl, rfl⟩
    have hEk := Ext.alloc (Ext.refl w1) (.cells #[.map (some b)] 71)
    have HM2 := Lib.hid (show VRow (w1.alloc (.cells #[.map (some b)] 71)) w1.heap.size 71 [.map (some b)] from vrow_alloc w1 [.map (some b)] 71)
    have HB2 := Lib.hid (HB0.out.ext hEk)
    have HR2 := Lib.hid (VRow.ext HR0.out hEk)
    have HE2 := Lib.hid (Ext.trans HE0.out hEk)
    clear hEk HR0 HB0
    go_wp2_with fail
    refine (collect_c w1.heap.size b ks _ (VRow.cell HM2.out (k := 0) rfl) HB2.out HNP.out hkl).mono ?_
    rintro e w3 ⟨r, ys, rfl, hnd, hmem, hr, hE⟩
    have HMEM := Lib.hid hmem
    have HV3 := Lib.hid hr
    have HR3 := Lib.hid (VRow.ext HR2.out hE)
    have HE3 := Lib.hid (Ext.trans HE2.out hE)
    have HYL := Lib.hid (show 0 < ys.length ∧ ys.length ≤ 1000 from by
      constructor
      · obtain ⟨q, hq⟩ := List.exists_mem_of_length_pos hpos
        exact List.length_pos_of_mem ((hmem q).2 hq)
      · exact Nat.le_trans (sub_len hnd fun y hy => (hmem y).1 hy) hkl)
    have HYB := Lib.hid (fun (q : Pt) (hq : q ∈ ys) => HKS.out q ((hmem q).1 hq))
    clear hnd hmem hr hE HB2 HM2 HR2 HE2
    go_wp2_with fail
    refine (minW_c r ys w3 HV3.out HYL.out.1 (by have := HYL.out; omega) HYB.out).mono ?_
    rintro e w4 ⟨rfl, hE⟩
    have HF := Lib.hid (firstW_of HMEM.out HYL.out.1)
    have HR4 := Lib.hid (VRow.ext HR3.out hE)
    have HE4 := Lib.hid (Ext.trans HE3.out hE)
    clear hE
    generalize minWP ys = q at *
    have c0 := VRow.cell HR4.out (k := 0) rfl
    have c1 := VRow.cell HR4.out (k := 1) rfl
    have f0 := VRow.frozen HR4.out 0 none
    have f1 := VRow.frozen HR4.out 1 none
    go_wp2_with fail
    (try simp only [Exit.inBlock, Exit.then])
    (try rw [Exit.noGoto_ret])
    refine bodyPost_ret (key_results (vrow2_putW HR4.out _ _) _ rfl rfl) rfl ?_
    exact ⟨.inr ⟨q, HF.out, rfl⟩, ext2_putW HE4.out HG.out _ _⟩
/-- what Witness answers -/
def WitS (ps : List Pt) (A B D : Int) (e : Ending) : Prop :=
  ((blankB ps = true ∧ gridB A B D = true) ∧ collL ps A B D = [] ∧ e = two (vecV 0 0) (.int .i64 10)) ∨
  ((blankB ps = true ∧ gridB A B D = true) ∧ ∃ q, FirstW (collL ps A B D) q ∧ e = two (vecV q.1 q.2) (.int .i64 0)) ∨
  (¬ (blankB ps = true ∧ gridB A B D = true) ∧ e = two (vecV 0 0) (.int .i64 2))
set_option maxHeartbeats 4000000 in
theorem Witness_c (v : Value) (ps : List Pt) (A B D : Int) (w : World) (hv : Vecs w v ps) :
    Calls Try.prog 18 #[v, gridV A B D] w fun e w' => WitS ps A B D e ∧ Ext w w' := by
  obtain ⟨a, cap, rfl, hl, hm, _⟩ := hv.at
  have hE0 := Ext.alloc (Ext.alloc (Ext.refl w) (.cells #[.int .i64 A, .int .i64 B, .int .i64 D] 24)) (.cells #[.int .i64 0, .int .i64 0] 31)
  have HV := Lib.hid (hv.ext hE0)
  have HE0 := Lib.hid hE0
  have HB := Lib.hid (show VRow ((w.alloc (.cells #[.int .i64 A, .int .i64 B, .int .i64 D] 24)).alloc (.cells #[.int .i64 0, .int .i64 0] 31)) w.heap.size 24 [.int .i64 A, .int .i64 B, .int .i64 D] from (vrow_alloc w [.int .i64 A, .int .i64 B, .int .i64 D] 24).alloc _)
  have HR0 := Lib.hid (show VRow ((w.alloc (.cells #[.int .i64 A, .int .i64 B, .int .i64 D] 24)).alloc (.cells #[.int .i64 0, .int .i64 0] 31)) (w.heap.size + 1) 31 [.int .i64 0, .int .i64 0] from by
    have h := vrow_alloc (w.alloc (.cells #[.int .i64 A, .int .i64 B, .int .i64 D] 24)) [.int .i64 0, .int .i64 0] 31
    have e : (w.alloc (.cells #[.int .i64 A, .int .i64 B, .int .i64 D] 24)).heap.size = w.heap.size + 1 := by simp
    rw [e] at h
    exact h)
  clear hv hE0
  cases hf : blankB ps with
  | false =>
    have HS := Lib.hid (show WitS ps A B D (two (vecV 0 0) (.int .i64 2)) from .inr (.inr ⟨(fun h => by rw [hf] at h; cases h.1), rfl⟩))
    generalize WitS ps A B D = DS at *
    have Hf := Lib.hid hf
    clear hf
    unfold gridV
    go_enter Try.func18, Try.ntmps18
    go_wp2_with fail
    refine (isBlank_c _ ps _ HV.out).mono ?_
    rintro e w2 ⟨rfl, hE⟩
    rw [Hf.out]
    have hR := VRow.ext HR0.out hE
    have c0 := VRow.cell hR (k := 0) rfl
    have c1 := VRow.cell hR (k := 1) rfl
    have f0 := VRow.frozen hR 0 none
    have f1 := VRow.frozen hR 1 none
    go_wp2_with fail
    (try simp only [Exit.inBlock, Exit.then])
    (try rw [Exit.noGoto_ret])
    refine bodyPost_ret (wit_results (vrow2_putW hR _ _) _ rfl rfl) rfl ?_
    exact ⟨HS.out, ext2_putW (Ext.trans HE0.out hE) (Nat.le_succ _) _ _⟩
  | true =>
    cases hg : gridB A B D with
    | false =>
      have HS := Lib.hid (show WitS ps A B D (two (vecV 0 0) (.int .i64 2)) from .inr (.inr ⟨(fun h => by rw [hg] at h; cases h.2), rfl⟩))
      generalize WitS ps A B D = DS at *
      have Hf := Lib.hid hf
      have Hg := Lib.hid hg
      clear hf hg
      unfold gridV
      go_enter Try.func18, Try.ntmps18
      go_wp2_with fail
      refine (isBlank_c _ ps _ HV.out).mono ?_
      rintro e w2 ⟨rfl, hE⟩
      rw [Hf.out]
      have hb := VRow.ext HB.out hE
      have b0 := VRow.cell hb (k := 0) rfl
      have b1 := VRow.cell hb (k := 1) rfl
      have b2 := VRow.cell hb (k := 2) rfl
      go_wp2_with fail
      clear b0 b1 b2
      refine (show Calls Try.prog 42 #[gridV A B D] w2 _ from isGrid_c A B D w2).mono ?_
      rintro e w3 ⟨rfl, hE3⟩
      rw [Hg.out]
      have hR := VRow.ext HR0.out (Ext.trans hE hE3)
      have c0 := VRow.cell hR (k := 0) rfl
      have c1 := VRow.cell hR (k := 1) rfl
      have f0 := VRow.frozen hR 0 none
      have f1 := VRow.frozen hR 1 none
      go_wp2_with fail
      (try simp only [Exit.inBlock, Exit.then])
      (try rw [Exit.noGoto_ret])
      refine bodyPost_ret (wit_results (vrow2_putW hR _ _) _ rfl rfl) rfl ?_
      exact ⟨HS.out, ext2_putW (Ext.trans HE0.out (Ext.trans hE hE3)) (Nat.le_succ _) _ _⟩
    | true =>
      have HS1 := Lib.hid (fun (h : collL ps A B D = []) => (show WitS ps A B D (two (vecV 0 0) (.int .i64 10)) from .inl ⟨⟨hf, hg⟩, h, rfl⟩))
      have HS2 := Lib.hid (fun (q : Pt) (h : FirstW (collL ps A B D) q) => (show WitS ps A B D (two (vecV q.1 q.2) (.int .i64 0)) from .inr (.inl ⟨⟨hf, hg⟩, q, h, rfl⟩)))
      generalize WitS ps A B D = DS at *
      have Hf := Lib.hid hf
      have Hg := Lib.hid hg
      have HGO := Lib.hid (gridB_ok hg)
      clear hf hg
      unfold gridV
      go_enter Try.func18, Try.ntmps18
      go_wp2_with fail
      refine (isBlank_c _ ps _ HV.out).mono ?_
      rintro e w2 ⟨rfl, hE⟩
      rw [Hf.out]
      have hb := VRow.ext HB.out hE
      have b0 := VRow.cell hb (k := 0) rfl
      have b1 := VRow.cell hb (k := 1) rfl
      have b2 := VRow.cell hb (k := 2) rfl
      go_wp2_with fail
      clear b0 b1 b2
      refine (show Calls Try.prog 42 #[gridV A B D] w2 _ from isGrid_c A B D w2).mono ?_
      rintro e w3 ⟨rfl, hE3⟩
      rw [Hg.out]
      have hb3 := VRow.ext hb hE3
      have HV3 := Lib.hid (HV.out.ext (Ext.trans hE hE3))
      have HE3 := Lib.hid (Ext.trans HE0.out (Ext.trans hE hE3))
      have HR3 := Lib.hid (VRow.ext HR0.out (Ext.trans hE hE3))
      have b0 := VRow.cell hb3 (k := 0) rfl
      have b1 := VRow.cell hb3 (k := 1) rfl
      have b2 := VRow.cell hb3 (k := 2) rfl
      clear hE hE3 hb hb3
      go_wp2_with fail
      clear b0 b1 b2
      refine (show Calls Try.prog 43 #[.slice a ps.length cap, gridV A B D] w3 _ from collisions_c _ ps A B D w3 HV3.out Hf.out HGO.out).mono ?_
      rintro e w4 ⟨b, rfl, hB4, _, hE4⟩
      have HB4 := Lib.hid hB4
      have HE4 := Lib.hid (Ext.trans HE3.out hE4)
      have HR4 := Lib.hid (VRow.ext HR3.out hE4)
      have HKB := Lib.hid (fun (q : Pt) (hq : q ∈ collL ps A B D) => (show (-10000 ≤ q.1 ∧ q.1 ≤ 10000) ∧ (-10000 ≤ q.2 ∧ q.2 ≤ 10000) from by
        have := nearL_mem HGO.out (List.mem_filter.1 hq).1
        omega))
      have HKL := Lib.hid (show (collL ps A B D).length ≤ 1000 from Nat.le_trans (List.length_filter_le _ _) (Nat.le_trans (nearL_len A B D) (by decide)))
      clear hB4 hE4 HE3 HR3
      generalize collL ps A B D = ks at *
      go_wp2_with fail
      refine (firstKey_c b ks w4 HB4.out HKB.out HKL.out).mono ?_
      rintro e w5 ⟨hS, hE⟩
      have HR5 := Lib.hid (VRow.ext HR4.out hE)
      have HE5 := Lib.hid (Ext.trans HE4.out hE)
      rcases hS with ⟨h0, rfl⟩ | ⟨q, hq, rfl⟩
      · have HD := Lib.hid (HS1.out h0)
        clear h0 hE
        have hn := vrow_alloc w5 [.int .i64 0, .int .i64 0] 31
        have HE6 := Lib.hid (Ext.trans HE5.out (Ext.alloc (Ext.refl w5) (.cells #[.int .i64 0, .int .i64 0] 31)))
        have hR := VRow.alloc HR5.out (.cells #[.int .i64 0, .int .i64 0] 31)
        have HR6 := Lib.hid (show VRow (w5.alloc (.cells #[.int .i64 0, .int .i64 0] 31)) (w.heap.size + 1) 31 [.int .i64 0, .int .i64 0] from hR)
        have c0 := VRow.cell HR6.out (k := 0) rfl
        have c1 := VRow.cell HR6.out (k := 1) rfl
        have f0 := VRow.frozen HR6.out 0 none
        have f1 := VRow.frozen HR6.out 1 none
        clear hn hR
        go_wp2_with fail
        (try simp only [Exit.inBlock, Exit.then])
        (try rw [Exit.noGoto_ret])
        refine bodyPost_ret (wit_results (vrow2_putW HR6.out _ _) _ rfl rfl) rfl ?_
        exact ⟨HD.out, ext2_putW HE6.out (Nat.le_succ _) _ _⟩
      · have HD := Lib.hid (HS2.out q hq)
        clear hq hE
        have hn := vrow_alloc w5 [.int .i64 q.1, .int .i64 q.2] 31
        have HE6 := Lib.hid (Ext.trans HE5.out (Ext.alloc (Ext.refl w5) (.cells #[.int .i64 q.1, .int .i64 q.2] 31)))
        have hR := VRow.alloc HR5.out (.cells #[.int .i64 q.1, .int .i64 q.2] 31)
        have HR6 := Lib.hid (show VRow (w5.alloc (.cells #[.int .i64 q.1, .int .i64 q.2] 31)) (w.heap.size + 1) 31 [.int .i64 0, .int .i64 0] from hR)
        have HN6 := Lib.hid (show VRow (w5.alloc (.cells #[.int .i64 q.1, .int .i64 q.2] 31)) w5.heap.size 31 [.int .i64 q.1, .int .i64 q.2] from hn)
        have c0 := VRow.cell HR6.out (k := 0) rfl
        have c1 := VRow.cell HR6.out (k := 1) rfl
        have d0 := VRow.cell HN6.out (k := 0) rfl
        have d1 := VRow.cell HN6.out (k := 1) rfl
        have f0 := VRow.frozen HR6.out 0 none
        have f1 := VRow.frozen HR6.out 1 none
        clear hn hR
        go_wp2_with fail
        (try simp only [Exit.inBlock, Exit.then])
        (try rw [Exit.noGoto_ret])
        refine bodyPost_ret (wit_results (vrow2_putW HR6.out _ _) _ rfl rfl) rfl ?_
        exact ⟨HD.out, ext2_putW HE6.out (Nat.le_succ _) _ _⟩
end Go.Proofs.Ytnpebfchojalcaa
