import Derived.Test.YtnpebfchojalcaaV4
import Derived.Maps.AppendAt
import Derived.OwnWalkIn
namespace Go.Proofs.Ytnpebfchojalcaa
open Go.RowKit Go.Shelf
attribute [local go_sem] Oper.semAt_some
theorem info31 : (Try.prog.info? 31).map (fun i => (i.zero, i.size, i.bytes)) = some (some (.agg #[.int .i64 0, .int .i64 0]), 2, 16) := by kernel_rfl
def cellsOf : List Pt → List Value
  | [] => []
  | q :: r => .int .i64 q.1 :: .int .i64 q.2 :: cellsOf r
theorem cellsOf_length : ∀ qs : List Pt, (cellsOf qs).length = qs.length * 2 := by
  intro qs
  induction qs with
  | nil => rfl
  | cons q r ih => simp only [cellsOf, List.length_cons, ih]; omega
theorem cellsOf_append : ∀ (a b : List Pt), cellsOf (a ++ b) = cellsOf a ++ cellsOf b := by
  intro a b
  induction a with
  | nil => rfl
  | cons q r ih => simp only [List.cons_append, cellsOf, ih]
theorem cellsOf_at : ∀ (qs : List Pt) (k : Nat) (q : Pt), qs[k]? = some q → (cellsOf qs)[k * 2]? = some (.int .i64 q.1) ∧ (cellsOf qs)[k * 2 + 1]? = some (.int .i64 q.2) := by
  intro qs
  induction qs with
  | nil => intro k q h; simp at h
  | cons a r ih =>
    intro k q h
    cases k with
    | zero => simp at h; subst h; exact ⟨rfl, rfl⟩
    | succ k =>
      have := ih k q (by simpa using h)
      have e1 : (k + 1) * 2 = k * 2 + 1 + 1 := by omega
      rw [e1]
      simpa [cellsOf] using this
/-- a row of points of one's own -/
theorem vecs_own {W : World} {base : Nat} {v : Value} {qs : List Pt} (h : W.ownsRow base 31 2 v qs.length (cellsOf qs)) (hm : qs.length ≤ 1000000) : Vecs W v qs := by
  rcases h.2 with ⟨hv, hn⟩ | ⟨g, cap, cur, hv, hg, hc, hnc, hmx, hsz, htk⟩
  · have : qs = [] := List.length_eq_zero_iff.1 hn
    subst this
    exact ⟨none, 0, hv, Nat.le_refl _, by omega, .inl rfl⟩
  · by_cases hbig : cap ≤ 9223372036854775807
    · refine ⟨_, cap, hv, hnc, hbig, .inr ⟨g, 0, rfl, fun k q hk => ?_⟩⟩
      have hlt := lt_len hk
      obtain ⟨h1, h2⟩ := cellsOf_at qs k q hk
      rw [← htk] at h1 h2
      rw [List.getElem?_take_of_lt (by omega), Array.getElem?_toList] at h1 h2
      simp only [World.cell?, hc, Nat.zero_add]
      exact ⟨by simp [h1], by simp [h2]⟩
    · unfold maxLen at hmx; omega
def stepsOf (ps : List Pt) : List Pt := (List.range ps.length).map (stepP ps)
def stepsTo (ps : List Pt) (k : Nat) : List Pt := (List.range k).map (stepP ps)
theorem stepsTo_succ (ps : List Pt) (k : Nat) : stepsTo ps (k + 1) = stepsTo ps k ++ [stepP ps k] := by simp [stepsTo, List.range_succ]
theorem stepsTo_length (ps : List Pt) (k : Nat) : (stepsTo ps k).length = k := by simp [stepsTo]
theorem ownsRow_keeps {A B : World} {base s : Nat} {e : TypeId} {n sz : Nat} {v : Value} {xs : List Value} (h : A.ownsRow base e sz v n xs) (hb : Keeps s A B) : B.ownsRow base e sz v n xs := by
  refine ⟨h.1, ?_⟩
  rcases h.2 with h | ⟨g, cap, cur, hv, hg, hc, r⟩
  · exact .inl h
  · exact .inr ⟨g, cap, cur, hv, hg, (hb.block g ⟨(Array.getElem?_eq_some_iff.1 hc).1, .inr ⟨_, hc, rfl⟩⟩).trans hc, r⟩
theorem ownsRow_ext {A B : World} {base : Nat} {e : TypeId} {n sz : Nat} {v : Value} {xs : List Value} (h : A.ownsRow base e sz v n xs) (hb : Ext A B) : B.ownsRow base e sz v n xs := by
  refine ⟨h.1, ?_⟩
  rcases h.2 with h | ⟨g, cap, cur, hv, hg, hc, r⟩
  · exact .inl h
  · exact .inr ⟨g, cap, cur, hv, hg, (hb.block g (Array.getElem?_eq_some_iff.1 hc).1).trans hc, r⟩
theorem own_block {A : World} {base : Nat} {e : TypeId} {n sz j : Nat} {v : Value} {xs : List Value} (h : A.ownsRow base e sz v n xs) (hj : v.ownBlock = some j) : base ≤ j := by
  rcases h.2 with ⟨h, _⟩ | ⟨g, cap, cur, hv, hg, _⟩
  · subst h; cases hj
  · subst hv; simp [Value.ownBlock] at hj; omega
theorem grown_held {S : Nat → Prop} {A B : World} {row : Option Nat} (h : A.grownBy B row) (hs : ∀ k, S k → k < A.heap.size ∧ some k ≠ row) : Held S A B :=
  ⟨h.os, h.tape, h.output, h.size, fun k hk => h.block k (hs k hk).1 (hs k hk).2⟩
theorem cell_two_new (W : World) (x y : Value) (t : TypeId) (j : Nat) (u : Value) (h : [x, y][j]? = some u) : (W.alloc (.cells #[x, y] t)).cell? ((⟨W.heap.size, 0, none⟩ : Addr).add j) = some u := by
  have h0 := VRow.cell (vrow_alloc W [x, y] t) (k := 0) rfl
  have h1 := VRow.cell (vrow_alloc W [x, y] t) (k := 1) rfl
  match j, h with
  | 0, h => injection h with h; subst h; exact h0
  | 1, h => injection h with h; subst h; exact h1
set_option maxRecDepth 100000 in
set_option maxHeartbeats 2000000 in
theorem steps_c (v : Value) (ps : List Pt) (w : World) (hv : Vecs w v ps) (hw : wideP ps) (hn : ps.length ≤ 1000) :
    Calls Try.prog 99 #[v] w fun e w' => ∃ u, e = .returned u ∧ Vecs w' u (stepsOf ps) ∧ Ext w w' := by
  obtain ⟨a, cap, rfl, hl, hm, _⟩ := hv.at
  have HV := Lib.hid hv
  have HW := Lib.hid hw
  clear hv hw
  refine calls_marks Try.func99 rfl ?_
  simp only [Try.ntmps99, List.size_toArray, List.length_cons, List.length_nil, Nat.reduceAdd, Nat.reduceSub, Array.replicate_succ, Array.replicate_zero, List.push_toArray, List.append_toArray, List.nil_append, List.cons_append]
  go_wp2_with fail
  have hr0 := vrow_alloc w [.slice none 0 0] 22
  refine (edges_c a ps.length cap _).mono ?_
  rintro e w2 ⟨rfl, rfl⟩
  have hr1 := VRow.alloc hr0 (.cells #[.slice a ps.length cap] 22)
  have hb1 := vrow_alloc (w.alloc (.cells #[.slice none 0 0] 22)) [.slice a ps.length cap] 22
  change VRow ((w.alloc (.cells #[.slice none 0 0] 22)).alloc (.cells #[.slice a ps.length cap] 22)) _ _ _ at hr1 hb1
  have hE := Ext.alloc (Ext.alloc (Ext.refl w) (.cells #[.slice none 0 0] 22)) (.cells #[.slice a ps.length cap] 22)
  have hsz : ((w.alloc (.cells #[.slice none 0 0] 22)).alloc (.cells #[.slice a ps.length cap] 22)).heap.size = w.heap.size + 2 := by simp
  have hsb : (w.alloc (.cells #[.slice none 0 0] 22)).heap.size = w.heap.size + 1 := by simp
  rw [hsb] at hb1
  have HR := Lib.hid hr1
  have HB := Lib.hid hb1
  have HE := Lib.hid hE
  clear hr0 hr1 hb1 hE
  go_wp2_with fail
  clear hsb
  generalize (w.alloc (.cells #[.slice none 0 0] 22)).alloc (.cells #[.slice a ps.length cap] 22) = w2 at *
  refine (wpIn_wide (n := 9)).1 ?_
  refine wpIn_range_c (gf := 124) (lb := #[.pointer (some ⟨w.heap.size + 1, 0, none⟩)]) rfl (enters_of Try.func124 (by kernel_rfl) rfl) ps.length (fun j => j < w.heap.size ∨ j = w.heap.size + 1) (fun k => #[.agg (edgeA ps k)]) (fun j hj => by omega) (fun _ => rfl)
    (edges_iter (w.heap.size + 1) (.slice a ps.length cap) ps _ w2 (fun W hH => ⟨VRow.cell (Held.vrow hH (.inr rfl) HB.out) (k := 0) rfl, HV.out.below (fun j hj => (hH.block j (.inl hj)).trans (HE.out.block j hj))⟩) (fun j hj => by omega) HW.out (by omega))
    (fun k W => ∃ u, VRow W w.heap.size 22 [u] ∧ W.ownsRow (w.heap.size + 4) 31 2 u k (cellsOf (stepsTo ps k)) ∧ Ext w W) (fun _ _ => False) ?_ (fun _ _ _ h => h.elim) ⟨_, HR.out, ⟨rfl, .inl ⟨rfl, rfl⟩⟩, HE.out⟩ ?round ?done (fun _ _ _ h => h.elim)
  · rintro k A B ⟨u, h1, h2, h3⟩ hb
    exact ⟨u, Keeps.vrow hb h1, ownsRow_keeps h2 hb, Keeps.below hb h3 (by omega)⟩
  case round =>
    rintro l k W K ⟨u, h1, h3, h2⟩ hk hlt hK
    simp only [edgeA]
    gi_wp2_with fail
    refine hK _ _ (fun W2 hB hlt2 => ?_) (Held.ext (Ext.alloc (Ext.refl W) _) (fun j hj => by omega))
    have hb1 := VRow.alloc h1 (.cells (edgeA ps k) 133)
    have hb2 := edge_row (ps := ps) (k := k) W
    have hE1 := Ext.alloc h2 (.cells (edgeA ps k) 133)
    have hO1 := ownsRow_keeps (ownsRow_ext h3 (Ext.alloc (Ext.refl W) (.cells (edgeA ps k) 133))) hB
    have hM := Keeps.vrow hB hb1
    have hN := Keeps.vrow hB hb2
    have HE2 := Lib.hid (Keeps.below hB hE1 (by omega))
    clear hb1 hb2 hE1 hK hB h1 h2 h3
    have m0 := VRow.cell hM (k := 0) rfl
    have n2 := VRow.cell hN (k := 2) rfl
    have n3 := VRow.cell hN (k := 3) rfl
    have HM := Lib.hid hM
    have HO := Lib.hid hO1
    clear hM hN hO1
    obtain ⟨i0, hi, hz0, hz1, hz2⟩ := info_parts info31
    have HI := Lib.hid hi
    have HZ0 := Lib.hid hz0
    have HZ1 := Lib.hid hz1
    have HZ2 := Lib.hid hz2
    clear hi hz0 hz1 hz2
    have hob : ∀ j, u.ownBlock = some j → w.heap.size + 4 ≤ j := fun j hj => own_block HO.out hj
    have hsz2 : (W2.alloc (.cells #[.int .i64 (stepP ps k).1, .int .i64 (stepP ps k).2] 31)).heap.size = W2.heap.size + 1 := by simp
    gi_wp2_with (gi_at_builtin; refine wpListIn_append_own _ rfl _ _ 22 rfl (w.heap.size + 4) 31 i0 (.agg #[.int .i64 0, .int .i64 0]) 2 16 Try.underlying22 HI.out HZ0.out HZ1.out HZ2.out rfl (by decide) _ _ _ rfl (ownsRow_ext HO.out (Ext.alloc (Ext.refl W2) (.cells #[.int .i64 (stepP ps k).1, .int .i64 (stepP ps k).2] 31))) ⟨W2.heap.size, 0, none⟩ 1 1 [.int .i64 (stepP ps k).1, .int .i64 (stepP ps k).2] rfl rfl (fun j u h => cell_two_new W2 _ _ 31 j u h) (by simp [Value.oneCell']) (by unfold maxLen; omega) (by omega) (by simp; omega) ?_; intro v' w' hown' hgrow hnil; obtain ⟨g', cap', rfl⟩ := ownsRow_succ hown'; have HO' := Lib.hid hown'; have HG' := Lib.hid hgrow; have hm1 := VRow.grown (VRow.alloc HM.out (.cells #[.int .i64 (stepP ps k).1, .int .i64 (stepP ps k).2] 31)) hgrow (fun e => by have := hob _ e.symm; omega); have p0 := VRow.cell hm1 (k := 0) rfl; have f0 := VRow.frozen hm1 0 none; have HM1 := Lib.hid hm1; clear hown' hgrow hm1 hnil)
    have hg' := own_block HO'.out (j := g') rfl
    have e : cellsOf (stepsTo ps k) ++ [.int .i64 (stepP ps k).1, .int .i64 (stepP ps k).2] = cellsOf (stepsTo ps (k + 1)) := by rw [stepsTo_succ, cellsOf_append]; rfl
    have hO2 := HO'.out
    rw [e] at hO2
    have hgs := grown_set w' w.heap.size 0 (.slice (some ⟨g', 0, none⟩) (k + 1) cap')
    refine ⟨((Held.ext (Ext.alloc (Ext.refl W2) (.cells #[.int .i64 (stepP ps k).1, .int .i64 (stepP ps k).2] 31)) (fun j hj => by omega)).trans (grown_held HG'.out (fun j hj => ⟨by omega, fun e => by have := hob _ e.symm; omega⟩))).trans (Held.set _ _ _ (fun j hj => by show j ≠ w.heap.size; omega)), _, VRow.set HM1.out 0 _, hO2.kept hgs (.inr (by simp [Value.ownBlock]; omega)), ?_⟩
    have hx1 : Below w.heap.size w w' := Below.grown (Ext.alloc HE2.out (.cells #[.int .i64 (stepP ps k).1, .int .i64 (stepP ps k).2] 31)) HG'.out (by omega) (fun j e => by have := hob _ e; omega)
    exact Below.setCell (p := ⟨w.heap.size, 0, none⟩) hx1 (Nat.le_refl _) _
  case done =>
    rintro W ⟨u, h1, h3, h2⟩ hD
    have m0 := VRow.cell h1 (k := 0) rfl
    dsimp only
    go_wp2_with fail
    have hO := ownsRow_putObj h3 (.deferred none) hD rfl
    have hlen : (stepsOf ps).length = ps.length := stepsTo_length ps ps.length
    refine ⟨by simp, .inl ⟨_, _, rfl, run_takeDeferred hD, _, results_tmp rfl _ _ _, u, rfl, vecs_own (base := w.heap.size + 4) (by rw [hlen]; exact hO) (by omega), ?_⟩⟩
    exact Below.trans h2 ⟨rfl, rfl, rfl, by simp, fun j hj => World.putObj_heap_other (by omega)⟩
end Go.Proofs.Ytnpebfchojalcaa
