import Derived.Test.YtnpebfchojalcaaV2
import Derived.Shelf.Abstract
namespace Go.Proofs.Ytnpebfchojalcaa
open Go.RowKit Go.Shelf
attribute [local go_sem] Oper.semAt_some
theorem Held.vrow {S : Nat → Prop} {A B : World} {g : Nat} {t : TypeId} {vs : List Value} (h : Held S A B) (hg : S g) (hr : VRow A g t vs) : VRow B g t vs := VRow.of_block hr (h.block g hg)
theorem Keeps.vrow {s : Nat} {A B : World} {g : Nat} {t : TypeId} {vs : List Value} (h : Keeps s A B) (hr : VRow A g t vs) : VRow B g t vs := Held.vrow h ⟨VRow.lt hr, .inr ⟨_, hr, rfl⟩⟩ hr
theorem Keeps.below {s : Nat} {w A B : World} (h : Keeps s A B) (he : Ext w A) (hs : w.heap.size ≤ s) : Ext w B := Below.trans he ⟨h.os, h.tape, h.output, h.size, fun j hj => h.block j ⟨Nat.lt_of_lt_of_le hj he.size, .inl (by omega)⟩⟩
/-- what an edge's row says -/
theorem edge_row {ps : List Pt} {k : Nat} (W : World) : VRow (W.alloc (.cells (edgeA ps k) 133)) W.heap.size 133 [.int .i64 (fromP ps k).1, .int .i64 (fromP ps k).2, .int .i64 (stepP ps k).1, .int .i64 (stepP ps k).2] :=
  vrow_alloc W [.int .i64 (fromP ps k).1, .int .i64 (fromP ps k).2, .int .i64 (stepP ps k).1, .int .i64 (stepP ps k).2] 133
theorem Vecs.below {w W : World} {v : Value} {ps : List Pt} (h : Vecs w v ps) (hB : ∀ j, j < w.heap.size → W.heap[j]? = w.heap[j]?) : Vecs W v ps := by
  obtain ⟨a, cap, hv, hl, hm, hr⟩ := h
  refine ⟨a, cap, hv, hl, hm, ?_⟩
  rcases hr with hr | ⟨b, off, ha, hc⟩
  · exact .inl hr
  · refine .inr ⟨b, off, ha, fun k p hk => ?_⟩
    have h1 := (hc k p hk).1
    have h2 := (hc k p hk).2
    have e := hB b (cell_lt h1)
    exact ⟨by unfold World.cell? at *; rw [show (W.heap[b]?) = _ from e]; exact h1, by unfold World.cell? at *; rw [show (W.heap[b]?) = _ from e]; exact h2⟩
theorem body_end {w W2 W3 : World} {t : TypeId} {s2 : Nat} {o x : Value} (hE : Ext w W2) (hE3 : Ext W2 W3) (hM : VRow W2 w.heap.size t [o]) (h2 : w.heap.size + 1 < s2) (_ : s2 + 1 < W2.heap.size) :
    Held (fun j => (j < w.heap.size ∨ j = w.heap.size + 1) ∨ j = s2 ∨ j = s2 + 1) W2 (W3.setCell ⟨w.heap.size, 0, none⟩ x) ∧ VRow (W3.setCell ⟨w.heap.size, 0, none⟩ x) w.heap.size t [x] ∧ Ext w (W3.setCell ⟨w.heap.size, 0, none⟩ x) :=
  ⟨Held.trans (Held.ext hE3 (fun j hj => by omega)) (Held.set _ _ _ (fun j hj => by show j ≠ w.heap.size; omega)), VRow.set (VRow.ext hM hE3) 0 x, Below.setCell (p := ⟨w.heap.size, 0, none⟩) (Ext.trans hE hE3) (Nat.le_refl _) _⟩
theorem marks_end {fn : Func} {tmps : Array Value} {P : Program} {D : Nat} {v u : Value} {w W : World} (hD : W.heap[D]? = some (.deferred (some []))) (hE : Ext w W) (hd : w.heap.size ≤ D)
    (hr : ∀ W' : World, (results fn tmps).run P W' = .ok v W') (hv : v = u) : LeavesInM Fence.wide 9 P fn tmps (fun e w' => e = .returned u ∧ Ext w w') [{ target := .collected D, args := #[] }] .returning W := by
  subst hv
  refine ⟨by simp, .inl ⟨_, _, rfl, run_takeDeferred hD, ?_⟩⟩
  exact ⟨_, hr _, rfl, Below.trans hE ⟨rfl, rfl, rfl, by simp, fun j hj => World.putObj_heap_other (by omega)⟩⟩
def crossK (ps : List Pt) (k : Nat) : Int := crossZ (fromP ps k).1 (fromP ps k).2 (stepP ps k).1 (stepP ps k).2
def areaK (ps : List Pt) : Nat → Int
  | 0 => 0
  | k + 1 => areaK ps k + crossK ps k
def areaZ (ps : List Pt) : Int := areaK ps ps.length
theorem crossK_bd {ps : List Pt} (h : wideP ps) {k : Nat} (hk : k < ps.length) : -20000000000 ≤ crossK ps k ∧ crossK ps k ≤ 20000000000 := by
  obtain ⟨h1, h2, h3, h4, h5, h6⟩ := step_fine h hk
  have m1 := mul_fine h1 h6
  have m2 := mul_fine h2 h5
  unfold crossK crossZ
  omega
theorem areaK_bd {ps : List Pt} (h : wideP ps) : ∀ (k : Nat), k ≤ ps.length → -(20000000000 * (k : Int)) ≤ areaK ps k ∧ areaK ps k ≤ 20000000000 * (k : Int) := by
  intro k
  induction k with
  | zero => intro _; simp [areaK]
  | succ k ih =>
    intro hk
    have h1 := ih (by omega)
    have h2 := crossK_bd h (show k < ps.length by omega)
    simp only [areaK]
    omega
set_option maxRecDepth 100000 in
set_option maxHeartbeats 2000000 in
theorem area_c (v : Value) (ps : List Pt) (w : World) (hv : Vecs w v ps) (hw : wideP ps) (hn : ps.length ≤ 1000) :
    Calls Try.prog 71 #[v] w fun e w' => e = .returned (.int .i64 (areaZ ps)) ∧ Ext w w' := by
  obtain ⟨a, cap, rfl, hl, hm, _⟩ := hv.at
  have HV := Lib.hid hv
  have HW := Lib.hid hw
  clear hv hw
  refine calls_marks Try.func71 rfl ?_
  simp only [Try.ntmps71, List.size_toArray, List.length_cons, List.length_nil, Nat.reduceAdd, Nat.reduceSub, Array.replicate_succ, Array.replicate_zero, List.push_toArray, List.append_toArray, List.nil_append, List.cons_append]
  go_wp2_with fail
  have hr0 := vrow_alloc w [.int .i64 0] 3
  refine (edges_c a ps.length cap _).mono ?_
  rintro e w2 ⟨rfl, rfl⟩
  have hr1 := VRow.alloc hr0 (.cells #[.slice a ps.length cap] 22)
  have hb1 := vrow_alloc (w.alloc (.cells #[.int .i64 0] 3)) [.slice a ps.length cap] 22
  change VRow ((w.alloc (.cells #[.int .i64 0] 3)).alloc (.cells #[.slice a ps.length cap] 22)) _ _ _ at hr1 hb1
  have hE := Ext.alloc (Ext.alloc (Ext.refl w) (.cells #[.int .i64 0] 3)) (.cells #[.slice a ps.length cap] 22)
  have hsz : ((w.alloc (.cells #[.int .i64 0] 3)).alloc (.cells #[.slice a ps.length cap] 22)).heap.size = w.heap.size + 2 := by simp
  have hsb : (w.alloc (.cells #[.int .i64 0] 3)).heap.size = w.heap.size + 1 := by simp
  rw [hsb] at hb1
  have HR := Lib.hid hr1
  have HB := Lib.hid hb1
  have HE := Lib.hid hE
  clear hr0 hr1 hb1 hE
  go_wp2_with fail
  clear hsb
  generalize (w.alloc (.cells #[.int .i64 0] 3)).alloc (.cells #[.slice a ps.length cap] 22) = w2 at *
  refine (wpIn_wide (n := 9)).1 ?_
  refine wpIn_range_c (gf := 124) (lb := #[.pointer (some ⟨w.heap.size + 1, 0, none⟩)]) rfl (enters_of Try.func124 (by kernel_rfl) rfl) ps.length (fun j => j < w.heap.size ∨ j = w.heap.size + 1) (fun k => #[.agg (edgeA ps k)]) (fun j hj => by omega) (fun _ => rfl)
    (edges_iter (w.heap.size + 1) (.slice a ps.length cap) ps _ w2 (fun W hH => ⟨VRow.cell (Held.vrow hH (.inr rfl) HB.out) (k := 0) rfl, HV.out.below (fun j hj => (hH.block j (.inl hj)).trans (HE.out.block j hj))⟩) (fun j hj => by omega) HW.out (by omega))
    (fun k W => VRow W w.heap.size 3 [.int .i64 (areaK ps k)] ∧ Ext w W) (fun _ _ => False) ?_ (fun _ _ _ h => h.elim) ⟨HR.out, HE.out⟩ ?round ?done (fun _ _ _ h => h.elim)
  · rintro k A B ⟨h1, h2⟩ hb
    exact ⟨Keeps.vrow hb h1, Keeps.below hb h2 (by omega)⟩
  case round =>
    rintro l k W K ⟨h1, h2⟩ hk hlt hK
    simp only [edgeA]
    gi_wp2_with fail
    refine hK _ _ (fun W2 hB hlt2 => ?_) (Held.ext (Ext.alloc (Ext.refl W) _) (fun j hj => by omega))
    have hb1 := VRow.alloc h1 (.cells (edgeA ps k) 133)
    have hb2 := edge_row (ps := ps) (k := k) W
    have hE1 := Ext.alloc h2 (.cells (edgeA ps k) 133)
    have HM := Lib.hid (Keeps.vrow hB hb1)
    have HN := Lib.hid (Keeps.vrow hB hb2)
    have HE2 := Lib.hid (Keeps.below hB hE1 (by omega))
    have HF := Lib.hid (step_fine HW.out hk)
    have hA := areaK_bd HW.out k (by omega)
    have hC := crossK_bd HW.out hk
    have HAC := Lib.hid (show IntKind.i64.wrap (areaK ps k + crossK ps k) = areaK ps k + crossK ps k from IntWalk.i64_in _ (by omega))
    clear hb1 hb2 hE1 hK hB hA hC
    gi_wp2_with fail
    refine wpIn_region_stable_last (Open.inRound Open.wide l) [⟨[], none⟩, ⟨[], none⟩, ⟨[(1, 9)], none⟩, ⟨[], none⟩, ⟨[(3, 11)], none⟩, ⟨[(2, 10), (4, 12)], none⟩, ⟨[(0, 8), (5, 13)], none⟩] (fun x y => Below x.heap.size x y) (MPat [MP.eq (.int .i64 (areaK ps k)), MP.eq (.pointer (some ⟨W.heap.size, 0, none⟩)), MP.eq (vecV (fromP ps k).1 (fromP ps k).2), MP.eq (.pointer (some ⟨W.heap.size, 2, none⟩)), MP.eq (vecV (stepP ps k).1 (stepP ps k).2), MP.eq (.int .i64 (crossK ps k)), MP.eq (.int .i64 (areaK ps k + crossK ps k))]) rfl (by kernel_rfl) (fun _ _ _ h k => Ext.trans h k) (fun _ => Below.refl _ _) (fun x => (Below.refl x.heap.size x).drew) (MPat.mono _) (by kernel_rfl) (by kernel_rfl) (by kernel_rfl) (by kernel_rfl) ?obs ?rest
    case obs =>
      refine ⟨?_, ?_, ?_, ?_, ?_, ?_, ?_, trivial⟩
      · intro ev W5 hf _ _ hst hd
        have e3 : ev (.tmp 3) = .pointer (some ⟨w.heap.size, 0, none⟩) := hf 3 (by kernel_rfl)
        have kk := VRow.ext HM.out hst
        have k0 := VRow.cell kk (k := 0) rfl
        refine st_value (v := .int .i64 (areaK ps k)) ?_ (Below.refl _ _) ?_
        · simp [execOp, go_sem, e3, k0]
        · exact rfl
      · intro ev W5 hf _ _ hst hd
        have e4 : ev (.tmp 4) = .pointer (some ⟨W.heap.size, 0, none⟩) := hf 4 (by kernel_rfl)
        refine st_value (v := .pointer (some ⟨W.heap.size, 0, none⟩)) ?_ (Below.refl _ _) ?_
        · simp [execOp, go_sem, e4]
        · exact rfl
      · intro ev W5 hf _ _ hst hd
        obtain ⟨d9, _⟩ := hd
        have e9 : ev (.tmp 9) = .pointer (some ⟨W.heap.size, 0, none⟩) := d9
        have kk := VRow.ext HN.out hst
        have k0 := VRow.cell kk (k := 0) rfl
        have k1 := VRow.cell kk (k := 1) rfl
        refine st_value (v := vecV (fromP ps k).1 (fromP ps k).2) ?_ (Below.refl _ _) ?_
        · simp [execOp, go_sem, e9, k0, k1]
        · exact rfl
      · intro ev W5 hf _ _ hst hd
        have e4 : ev (.tmp 4) = .pointer (some ⟨W.heap.size, 0, none⟩) := hf 4 (by kernel_rfl)
        refine st_value (v := .pointer (some ⟨W.heap.size, 2, none⟩)) ?_ (Below.refl _ _) ?_
        · simp [execOp, go_sem, e4]
        · exact rfl
      · intro ev W5 hf _ _ hst hd
        obtain ⟨d11, _⟩ := hd
        have e11 : ev (.tmp 11) = .pointer (some ⟨W.heap.size, 2, none⟩) := d11
        have kk := VRow.ext HN.out hst
        have k2 := VRow.cell kk (k := 2) rfl
        have k3 := VRow.cell kk (k := 3) rfl
        refine st_value (v := vecV (stepP ps k).1 (stepP ps k).2) ?_ (Below.refl _ _) ?_
        · simp [execOp, go_sem, e11, k2, k3]
        · exact rfl
      · intro ev W5 hf _ hfn hst hd
        obtain ⟨d10, d12, _⟩ := hd
        have e10 : ev (.tmp 10) = vecV (fromP ps k).1 (fromP ps k).2 := d10
        have e12 : ev (.tmp 12) = vecV (stepP ps k).1 (stepP ps k).2 := d12
        refine st_call (f := 100) (args := #[vecV (fromP ps k).1 (fromP ps k).2, vecV (stepP ps k).1 (stepP ps k).2]) (by simp [execOp, go_sem, hfn, e10, e12]) (cross_c _ _ _ _ W5 HF.out.1 HF.out.2.1 HF.out.2.2.2.2.1 HF.out.2.2.2.2.2) (fun _ _ => rfl)
      · intro ev W5 hf _ _ hst hd
        obtain ⟨d8, d13, _⟩ := hd
        have e8 : ev (.tmp 8) = .int .i64 (areaK ps k) := d8
        have e13 : ev (.tmp 13) = .int .i64 (crossK ps k) := d13
        refine st_value (v := .int .i64 (areaK ps k + crossK ps k)) ?_ (Below.refl _ _) ?_
        · simp [execOp, go_sem, e8, e13, HAC.out]
        · exact rfl
    case rest =>
      intro vs w3 hl hst hg
      have hx0 : ∀ u, vs[0]? = some u → u = .int .i64 (areaK ps k) := fun u hu => hg 0 u hu
      have hx1 : ∀ u, vs[1]? = some u → u = .pointer (some ⟨W.heap.size, 0, none⟩) := fun u hu => hg 1 u hu
      have hx2 : ∀ u, vs[2]? = some u → u = vecV (fromP ps k).1 (fromP ps k).2 := fun u hu => hg 2 u hu
      have hx3 : ∀ u, vs[3]? = some u → u = .pointer (some ⟨W.heap.size, 2, none⟩) := fun u hu => hg 3 u hu
      have hx4 : ∀ u, vs[4]? = some u → u = vecV (stepP ps k).1 (stepP ps k).2 := fun u hu => hg 4 u hu
      have hx5 : ∀ u, vs[5]? = some u → u = .int .i64 (crossK ps k) := fun u hu => hg 5 u hu
      have hx6 : ∀ u, vs[6]? = some u → u = .int .i64 (areaK ps k + crossK ps k) := fun u hu => hg 6 u hu
      have HE3 := Lib.hid hst
      clear hg hst
      obtain ⟨x0, vs0, rfl, hl0⟩ := len_succ hl
      obtain ⟨x1, vs1, rfl, hl1⟩ := len_succ hl0
      obtain ⟨x2, vs2, rfl, hl2⟩ := len_succ hl1
      obtain ⟨x3, vs3, rfl, hl3⟩ := len_succ hl2
      obtain ⟨x4, vs4, rfl, hl4⟩ := len_succ hl3
      obtain ⟨x5, vs5, rfl, hl5⟩ := len_succ hl4
      obtain ⟨x6, vs6, rfl, hl6⟩ := len_succ hl5
      have hnil : vs6 = [] := List.length_eq_zero_iff.1 hl6
      subst hnil
      obtain rfl : x0 = .int .i64 (areaK ps k) := hx0 _ rfl
      obtain rfl : x1 = .pointer (some ⟨W.heap.size, 0, none⟩) := hx1 _ rfl
      obtain rfl : x2 = vecV (fromP ps k).1 (fromP ps k).2 := hx2 _ rfl
      obtain rfl : x3 = .pointer (some ⟨W.heap.size, 2, none⟩) := hx3 _ rfl
      obtain rfl : x4 = vecV (stepP ps k).1 (stepP ps k).2 := hx4 _ rfl
      obtain rfl : x5 = .int .i64 (crossK ps k) := hx5 _ rfl
      obtain rfl : x6 = .int .i64 (areaK ps k + crossK ps k) := hx6 _ rfl
      clear hx0 hx1 hx2 hx3 hx4 hx5 hx6
      simp only [putAll, Act.put, List.dropLast, List.setIfInBounds_toArray, List.set_cons_zero, List.set_cons_succ]
      have m0 := VRow.cell (VRow.ext HM.out HE3.out) (k := 0) rfl
      have f0 := VRow.frozen (VRow.ext HM.out HE3.out) 0 none
      gi_wp2_with fail
      exact body_end HE2.out HE3.out HM.out (by omega) (by omega)
  case done =>
    rintro W ⟨h1, h2⟩ hD
    have m0 := VRow.cell h1 (k := 0) rfl
    dsimp only
    go_wp2_with fail
    exact marks_end hD h2 (by omega) (fun _ => results_tmp rfl _ _ _) rfl
end Go.Proofs.Ytnpebfchojalcaa
