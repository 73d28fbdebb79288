import Derived.Test.YtnpebfchojalcaaV12
namespace Go.Proofs.Ytnpebfchojalcaa
open Go.RowKit Go.Shelf
attribute [local go_sem] Oper.semAt_some
theorem results_cells {fn : Func} {p q : Tmp} {ty ty2 : TypeId} (h : fn.results = #[.cell p ty, .cell q ty2]) (tmps : Array Value) (P : Program) (w : World) :
    (results fn tmps).run P w = ((asAddr (tmps.getD p undef)).run P w).andThen fun a w₁ => ((loadVar ty a).run P w₁).andThen fun v w₂ => ((asAddr (tmps.getD q undef)).run P w₂).andThen fun a2 w₃ => ((loadVar ty2 a2).run P w₃).andThen fun v2 w₄ => .ok (.tuple #[v, v2]) w₄ := by
  simp only [results, h]
  simp only [Array.mapM_eq_foldlM, List.foldlM_toArray']
  simp [Sem.run_bind, Result.andThen]
def mulP (d : Pt) : Pt := negP d
def sepAt (ps qs : List Pt) (k : Nat) : Bool := decide ((extK ps (dirA ps qs k) ps.length).1 + (extK qs (negP (dirA ps qs k)) qs.length).1 ≤ 0)
def sepR (ps qs : List Pt) : Ending :=
  if validB ps = true ∧ validB qs = true then
    match (List.range (ps.length + qs.length)).find? (sepAt ps qs) with
    | some k => two (vecV (dirA ps qs k).1 (dirA ps qs k).2) (.int .i64 0)
    | none => two (vecV 0 0) (.int .i64 10)
  else two (vecV 0 0) (.int .i64 2)
theorem find_none {N : Nat} {p : Nat → Bool} (h : ∀ j, j < N → p j = false) : (List.range N).find? p = none := by
  rw [List.find?_eq_none]
  intro j hj
  rw [List.mem_range] at hj
  rw [h j hj]
  simp
theorem find_at {N k : Nat} {p : Nat → Bool} (hk : k < N) (h : ∀ j, j < k → p j = false) (hp : p k = true) : (List.range N).find? p = some k := by
  rw [List.find?_range_eq_some]
  exact ⟨hp, by simpa using hk, fun j hj => by simp [h j hj]⟩
theorem dirA_fine {ps qs : List Pt} (h1 : wideP ps) (h2 : wideP qs) {k : Nat} (hk : k < ps.length + qs.length) : fine (dirA ps qs k).1 ∧ fine (dirA ps qs k).2 := by
  unfold dirA
  split
  · rename_i hlt
    have := (step_fine h1 hlt).2.2.2.2
    unfold dirP fine at *
    simp only
    omega
  · have := (step_fine h2 (show k - ps.length < qs.length by omega)).2.2.2.2
    unfold dirQ fine at *
    simp only
    omega
theorem ext_bd {ps : List Pt} (h : nearP ps) {d : Pt} (hd : fine d.1 ∧ fine d.2) (hn : 0 < ps.length) : ∀ k, k ≤ ps.length → -20000000000 ≤ (extK ps d k).1 ∧ (extK ps d k).1 ≤ 20000000000 := by
  have hp : ∀ j, j < ps.length → -20000000000 ≤ dotP d (fromP ps j) ∧ dotP d (fromP ps j) ≤ 20000000000 := fun j hj => by
    have h1 := h (fromP ps j) (by unfold fromP; rw [List.getD_eq_getElem?_getD, List.getElem?_eq_getElem hj]; exact List.getElem_mem _)
    have m1 := mul_fine hd.1 (show fine (fromP ps j).1 by unfold fine; omega)
    have m2 := mul_fine hd.2 (show fine (fromP ps j).2 by unfold fine; omega)
    unfold dotP dotV
    omega
  intro k
  induction k with
  | zero => intro _; exact hp 0 hn
  | succ k ih =>
    intro hk
    simp only [extK]
    split
    · exact hp k (by omega)
    · exact ih (by omega)
theorem fine_near {ps : List Pt} (h : nearP ps) : fineP ps := fun q hq => by have := h q hq; unfold fine; omega
theorem marks_cell {fn : Func} {tmps : Array Value} {P : Program} {D : Nat} {v : Value} {R : Ending → World → Prop} {W : World} (hD : W.heap[D]? = some (.deferred (some [])))
    (hr : (results fn tmps).run P (W.putObj D (.deferred none)) = .ok v (W.putObj D (.deferred none))) (hR : R (.returned v) (W.putObj D (.deferred none))) : LeavesInM Fence.wide 9 P fn tmps R [{ target := .collected D, args := #[] }] .returning W := by
  refine ⟨by simp, .inl ⟨_, _, rfl, run_takeDeferred hD, ?_⟩⟩
  exact ⟨_, hr, hR⟩
/-- the boxes of Separate -/
structure Sep (s0 : Nat) (W : World) (v1 v2 : Value) (x y e : Int) : Prop where
  r0 : VRow W s0 22 [v1]
  r1 : VRow W (s0 + 1) 22 [v2]
  r2 : VRow W (s0 + 2) 31 [.int .i64 x, .int .i64 y]
  r3 : VRow W (s0 + 3) 27 [.int .i64 e]
theorem Sep.ext {s0 : Nat} {W W' : World} {v1 v2 : Value} {x y e : Int} (h : Sep s0 W v1 v2 x y e) (he : Ext W W') : Sep s0 W' v1 v2 x y e := ⟨VRow.ext h.r0 he, VRow.ext h.r1 he, VRow.ext h.r2 he, VRow.ext h.r3 he⟩
theorem Sep.keeps {s0 s : Nat} {W W' : World} {v1 v2 : Value} {x y e : Int} (h : Sep s0 W v1 v2 x y e) (he : Keeps s W W') : Sep s0 W' v1 v2 x y e := ⟨Keeps.vrow he h.r0, Keeps.vrow he h.r1, Keeps.vrow he h.r2, Keeps.vrow he h.r3⟩
theorem Sep.put {s0 : Nat} {W : World} {v1 v2 : Value} {x y e : Int} (h : Sep s0 W v1 v2 x y e) (x' y' e' : Int) : Sep s0 (((W.setCell ⟨s0 + 2, 0, none⟩ (.int .i64 x')).setCell ⟨s0 + 2, 1, none⟩ (.int .i64 y')).setCell ⟨s0 + 3, 0, none⟩ (.int .i64 e')) v1 v2 x' y' e' :=
  ⟨VRow.setOther (VRow.setOther (VRow.setOther h.r0 (by simp) _) (by simp) _) (by simp) _, VRow.setOther (VRow.setOther (VRow.setOther h.r1 (by simp) _) (by simp) _) (by simp) _,
   VRow.setOther (VRow.set (VRow.set h.r2 0 _) 1 _) (by simp) _, VRow.set (VRow.setOther (VRow.setOther h.r3 (by simp) _) (by simp) _) 0 _⟩
theorem ext_put {w W : World} {s0 : Nat} (h : Ext w W) (hs : w.heap.size ≤ s0) (x' y' e' : Value) : Ext w (((W.setCell ⟨s0 + 2, 0, none⟩ x').setCell ⟨s0 + 2, 1, none⟩ y').setCell ⟨s0 + 3, 0, none⟩ e') :=
  Below.setCell (p := ⟨s0 + 3, 0, none⟩) (Below.setCell (p := ⟨s0 + 2, 1, none⟩) (Below.setCell (p := ⟨s0 + 2, 0, none⟩) h (by show _ ≤ s0 + 2; omega) _) (by show _ ≤ s0 + 2; omega) _) (by show _ ≤ s0 + 3; omega) _
theorem sep_new (w : World) (v1 v2 : Value) : Sep w.heap.size ((((w.alloc (.cells #[v1] 22)).alloc (.cells #[v2] 22)).alloc (.cells #[.int .i64 0, .int .i64 0] 31)).alloc (.cells #[.int .i64 0] 27)) v1 v2 0 0 0 := by
  have s1 : (w.alloc (.cells #[v1] 22)).heap.size = w.heap.size + 1 := by simp
  have s2 : ((w.alloc (.cells #[v1] 22)).alloc (.cells #[v2] 22)).heap.size = w.heap.size + 2 := by simp
  have s3 : (((w.alloc (.cells #[v1] 22)).alloc (.cells #[v2] 22)).alloc (.cells #[.int .i64 0, .int .i64 0] 31)).heap.size = w.heap.size + 3 := by simp
  refine ⟨(((vrow_alloc w [v1] 22).alloc _).alloc _).alloc _, ?_, ?_, ?_⟩
  · have h := ((vrow_alloc (w.alloc (.cells #[v1] 22)) [v2] 22).alloc (.cells #[.int .i64 0, .int .i64 0] 31)).alloc (.cells #[.int .i64 0] 27)
    rw [s1] at h; exact h
  · have h := (vrow_alloc ((w.alloc (.cells #[v1] 22)).alloc (.cells #[v2] 22)) [.int .i64 0, .int .i64 0] 31).alloc (.cells #[.int .i64 0] 27)
    rw [s2] at h; exact h
  · have h := vrow_alloc (((w.alloc (.cells #[v1] 22)).alloc (.cells #[v2] 22)).alloc (.cells #[.int .i64 0, .int .i64 0] 31)) [.int .i64 0] 27
    rw [s3] at h; exact h
theorem sep_results {s0 : Nat} {W : World} {v1 v2 : Value} {x y e : Int} (h : Sep s0 W v1 v2 x y e) (tmps : Array Value) (h4 : tmps.getD 4 undef = .pointer (some ⟨s0 + 2, 0, none⟩)) (h5 : tmps.getD 5 undef = .pointer (some ⟨s0 + 3, 0, none⟩)) :
    (results Try.f81 tmps).run Try.prog W = .ok (.tuple #[vecV x y, .int .i64 e]) W := by
  have c0 := VRow.cell h.r2 (k := 0) rfl
  have c1 := VRow.cell h.r2 (k := 1) rfl
  have c2 := VRow.cell h.r3 (k := 0) rfl
  rw [results_cells rfl, h4, h5]
  go_simp
set_option maxRecDepth 100000 in
set_option maxHeartbeats 4000000 in
theorem Separate_c (u v : Value) (ps qs : List Pt) (w : World) (hu : Vecs w u ps) (hv : Vecs w v qs) :
    Calls Try.prog 81 #[u, v] w fun e w' => e = sepR ps qs ∧ Ext w w' := by
  obtain ⟨a, cap, rfl, hl, hm, _⟩ := hu.at
  obtain ⟨a2, cap2, rfl, hl2, hm2, _⟩ := hv.at
  have hE0 := Ext.alloc (Ext.alloc (Ext.alloc (Ext.alloc (Ext.refl w) (.cells #[.slice a ps.length cap] 22)) (.cells #[.slice a2 qs.length cap2] 22)) (.cells #[.int .i64 0, .int .i64 0] 31)) (.cells #[.int .i64 0] 27)
  have HU := Lib.hid (hu.ext hE0)
  have HV := Lib.hid (hv.ext hE0)
  have HU0 := Lib.hid hu
  have HV0 := Lib.hid hv
  have HS := Lib.hid (sep_new w (.slice a ps.length cap) (.slice a2 qs.length cap2))
  have HE0 := Lib.hid hE0
  have hsz : ((((w.alloc (.cells #[.slice a ps.length cap] 22)).alloc (.cells #[.slice a2 qs.length cap2] 22)).alloc (.cells #[.int .i64 0, .int .i64 0] 31)).alloc (.cells #[.int .i64 0] 27)).heap.size = w.heap.size + 4 := by simp
  clear hu hv hE0
  refine calls_marks Try.func81 rfl ?_
  simp only [Try.ntmps81, List.size_toArray, List.length_cons, List.length_nil, Nat.reduceAdd, Nat.reduceSub, Array.replicate_succ, Array.replicate_zero, List.push_toArray, List.append_toArray, List.nil_append, List.cons_append]
  have q0 := VRow.cell HS.out.r0 (k := 0) rfl
  cases hf : validB ps with
  | false =>
    have HR := Lib.hid (show sepR ps qs = two (vecV 0 0) (.int .i64 2) by simp [sepR, hf])
    generalize sepR ps qs = R at *
    have Hf := Lib.hid hf
    clear hf
    go_wp2_with fail
    clear q0
    generalize (((w.alloc (.cells #[.slice a ps.length cap] 22)).alloc (.cells #[.slice a2 qs.length cap2] 22)).alloc (.cells #[.int .i64 0, .int .i64 0] 31)).alloc (.cells #[.int .i64 0] 27) = w1 at *
    refine (valid_c _ ps _ HU.out).mono ?_
    rintro e w2 ⟨rfl, hE⟩
    rw [Hf.out]
    have HS2 := Lib.hid (HS.out.ext hE)
    have HE2 := Lib.hid (Ext.trans HE0.out hE)
    clear hE
    have c0 := VRow.cell HS2.out.r2 (k := 0) rfl
    have c1 := VRow.cell HS2.out.r2 (k := 1) rfl
    have c2 := VRow.cell HS2.out.r3 (k := 0) rfl
    have f0 := VRow.frozen HS2.out.r2 0 none
    have f1 := VRow.frozen HS2.out.r2 1 none
    have f2 := VRow.frozen HS2.out.r3 0 none
    go_wp2_with fail
    exact ⟨_, sep_results (HS2.out.put 0 0 2) _ rfl rfl, HR.out.symm, ext_put HE2.out (Nat.le_refl _) _ _ _⟩
  | true =>
    cases hg : validB qs with
    | false =>
      have HR := Lib.hid (show sepR ps qs = two (vecV 0 0) (.int .i64 2) by simp [sepR, hg])
      generalize sepR ps qs = R at *
      have Hf := Lib.hid hf
      have Hg := Lib.hid hg
      clear hf hg
      go_wp2_with fail
      clear q0
      generalize (((w.alloc (.cells #[.slice a ps.length cap] 22)).alloc (.cells #[.slice a2 qs.length cap2] 22)).alloc (.cells #[.int .i64 0, .int .i64 0] 31)).alloc (.cells #[.int .i64 0] 27) = w1 at *
      refine (valid_c _ ps _ HU.out).mono ?_
      rintro e w2 ⟨rfl, hE⟩
      rw [Hf.out]
      have q1 := VRow.cell (HS.out.ext hE).r1 (k := 0) rfl
      have HE1 := Lib.hid hE
      clear hE
      go_wp2_with fail
      refine (valid_c _ qs _ (HV.out.ext HE1.out)).mono ?_
      rintro e w3 ⟨rfl, hE3⟩
      rw [Hg.out]
      clear q1
      have HS2 := Lib.hid (HS.out.ext (Ext.trans HE1.out hE3))
      have HE2 := Lib.hid (Ext.trans HE0.out (Ext.trans HE1.out hE3))
      clear hE3
      have c0 := VRow.cell HS2.out.r2 (k := 0) rfl
      have c1 := VRow.cell HS2.out.r2 (k := 1) rfl
      have c2 := VRow.cell HS2.out.r3 (k := 0) rfl
      have f0 := VRow.frozen HS2.out.r2 0 none
      have f1 := VRow.frozen HS2.out.r2 1 none
      have f2 := VRow.frozen HS2.out.r3 0 none
      go_wp2_with fail
      exact ⟨_, sep_results (HS2.out.put 0 0 2) _ rfl rfl, HR.out.symm, ext_put HE2.out (Nat.le_refl _) _ _ _⟩
    | true =>
      have HR := Lib.hid (show sepR ps qs = match (List.range (ps.length + qs.length)).find? (sepAt ps qs) with
        | some k => two (vecV (dirA ps qs k).1 (dirA ps qs k).2) (.int .i64 0)
        | none => two (vecV 0 0) (.int .i64 10) by simp [sepR, hf, hg])
      generalize sepR ps qs = R at *
      have Hf := Lib.hid hf
      have Hg := Lib.hid hg
      have HN1 := Lib.hid (valid_near hf)
      have HN2 := Lib.hid (valid_near hg)
      have hn1 := (valid_near hf).2
      have hn2 := (valid_near hg).2
      clear hf hg
      go_wp2_with fail
      clear q0
      generalize (((w.alloc (.cells #[.slice a ps.length cap] 22)).alloc (.cells #[.slice a2 qs.length cap2] 22)).alloc (.cells #[.int .i64 0, .int .i64 0] 31)).alloc (.cells #[.int .i64 0] 27) = w1 at *
      refine (valid_c _ ps _ HU.out).mono ?_
      rintro e w2 ⟨rfl, hE⟩
      rw [Hf.out]
      have q1 := VRow.cell (HS.out.ext hE).r1 (k := 0) rfl
      have HE1 := Lib.hid hE
      clear hE
      go_wp2_with fail
      refine (valid_c _ qs _ (HV.out.ext HE1.out)).mono ?_
      rintro e w3 ⟨rfl, hE3⟩
      rw [Hg.out]
      clear q1
      have HS2 := Lib.hid (HS.out.ext (Ext.trans HE1.out hE3))
      have HE2 := Lib.hid (Ext.trans HE0.out (Ext.trans HE1.out hE3))
      have HU2 := Lib.hid (HU.out.ext (Ext.trans HE1.out hE3))
      have HV2 := Lib.hid (HV.out.ext (Ext.trans HE1.out hE3))
      clear hE3 HE1 HU HV HS HE0
      have q0 := VRow.cell HS2.out.r0 (k := 0) rfl
      have q1 := VRow.cell HS2.out.r1 (k := 0) rfl
      go_wp2_with fail
      clear q0 q1
      refine (directions_c a ps.length cap a2 qs.length cap2 w3).mono ?_
      rintro e w4 ⟨rfl, rfl⟩
      have hb1 := VRow.alloc (vrow_alloc w3 [.slice a ps.length cap] 22) (.cells #[.slice a2 qs.length cap2] 22)
      have hb2 := vrow_alloc (w3.alloc (.cells #[.slice a ps.length cap] 22)) [.slice a2 qs.length cap2] 22
      have hE4 := Ext.alloc (Ext.alloc (Ext.refl w3) (.cells #[.slice a ps.length cap] 22)) (.cells #[.slice a2 qs.length cap2] 22)
      have hs4 : ((w3.alloc (.cells #[.slice a ps.length cap] 22)).alloc (.cells #[.slice a2 qs.length cap2] 22)).heap.size = w3.heap.size + 2 := by simp
      have hsb : (w3.alloc (.cells #[.slice a ps.length cap] 22)).heap.size = w3.heap.size + 1 := by simp
      rw [hsb] at hb2
      change VRow ((w3.alloc (.cells #[.slice a ps.length cap] 22)).alloc (.cells #[.slice a2 qs.length cap2] 22)) _ _ _ at hb1 hb2
      have HB1 := Lib.hid hb1
      have HB2 := Lib.hid hb2
      have HE4 := Lib.hid hE4
      have hsw := HE2.out.size
      have h3w := VRow.lt HS2.out.r3
      clear hb1 hb2 hE4 hsb
      go_wp2_with fail
      generalize (w3.alloc (.cells #[.slice a ps.length cap] 22)).alloc (.cells #[.slice a2 qs.length cap2] 22) = w4 at *
      have HU4 := Lib.hid (HU2.out.ext HE4.out)
      have HV4 := Lib.hid (HV2.out.ext HE4.out)
      have HEw4 := Lib.hid (Ext.trans HE2.out HE4.out)
      refine (wpIn_wide (n := 9)).1 ?_
      refine wpIn_range_d (gf := 128) (lb := #[.pointer (some ⟨w3.heap.size, 0, none⟩), .pointer (some ⟨w3.heap.size + 1, 0, none⟩)]) rfl (enters_of Try.func128 (by kernel_rfl) rfl) (ps.length + qs.length) (fun j => j < w4.heap.size ∧ ¬ (j = w.heap.size + 2 ∨ j = w.heap.size + 3)) (fun k => #[vecV (dirA ps qs k).1 (dirA ps qs k).2]) (fun j hj => hj.1) (fun _ => rfl)
        (directions_iter w3.heap.size (w3.heap.size + 1) (.slice a ps.length cap) (.slice a2 qs.length cap2) ps qs _ w4 (fun W hH => ?keep) (fun j hj => hj.1) (wide_near HN1.out.1) (wide_near HN2.out.1) (by omega) (by omega))
        (fun k W => (∀ j, j < k → sepAt ps qs j = false) ∧ Sep w.heap.size W (.slice a ps.length cap) (.slice a2 qs.length cap2) 0 0 0 ∧ Ext w4 W) (fun k W => (∀ j, j < k → sepAt ps qs j = false) ∧ sepAt ps qs k = true ∧ Sep w.heap.size W (.slice a ps.length cap) (.slice a2 qs.length cap2) (dirA ps qs k).1 (dirA ps qs k).2 0 ∧ Ext w W) ?_ ?_ ⟨fun j hj => by omega, HS2.out.ext HE4.out, Ext.refl _⟩ ?round ?done ?stop
      case keep =>
        refine ⟨VRow.cell (Held.vrow hH ⟨VRow.lt HB1.out, by omega⟩ HB1.out) (k := 0) rfl, HU0.out.below (fun j hj => (hH.block j ⟨by omega, by omega⟩).trans (HEw4.out.block j hj)), VRow.cell (Held.vrow hH ⟨VRow.lt HB2.out, by omega⟩ HB2.out) (k := 0) rfl, HV0.out.below (fun j hj => (hH.block j ⟨by omega, by omega⟩).trans (HEw4.out.block j hj))⟩
      · rintro k A B ⟨h1, h2, h3⟩ hb
        exact ⟨h1, h2.keeps hb, Keeps.below hb h3 (Nat.le_refl _)⟩
      · rintro k A B ⟨h1, h2, h3, h4⟩ hb
        exact ⟨h1, h2, h3.keeps hb, Keeps.below hb h4 (by omega)⟩
      case round =>
        rintro l k W K ⟨h1, h2, h3⟩ hk hlt hK
        gi_wp2_with fail
        refine hK _ _ (fun W2 hB hlt2 => ?_) (Ext.alloc (Ext.refl W) _)
        have hEa := Ext.alloc (Ext.refl W) (.cells #[.int .i64 (dirA ps qs k).1, .int .i64 (dirA ps qs k).2] 31)
        have HBD := Lib.hid (Keeps.vrow hB (vrow_alloc W [.int .i64 (dirA ps qs k).1, .int .i64 (dirA ps qs k).2] 31))
        have HS3 := Lib.hid ((h2.ext hEa).keeps hB)
        have HE5 := Lib.hid (Keeps.below hB (Ext.trans h3 hEa) (Nat.le_refl _))
        have H1 := Lib.hid h1
        have hdf := dirA_fine (wide_near HN1.out.1) (wide_near HN2.out.1) hk
        have hnf : fine (negP (dirA ps qs k)).1 ∧ fine (negP (dirA ps qs k)).2 := by unfold negP fine at *; simp only; omega
        have b1 := ext_bd HN1.out.1 hdf (by omega) ps.length (Nat.le_refl _)
        have b2 := ext_bd HN2.out.1 hnf (by omega) qs.length (Nat.le_refl _)
        have HSA := Lib.hid (show sepAt ps qs k = decide ((extK ps (dirA ps qs k) ps.length).1 + (extK qs (negP (dirA ps qs k)) qs.length).1 ≤ 0) from rfl)
        have HDF := Lib.hid hdf
        have HNF := Lib.hid hnf
        have q0 := VRow.cell HS3.out.r0 (k := 0) rfl
        have d0 := VRow.cell HBD.out (k := 0) rfl
        have d1 := VRow.cell HBD.out (k := 1) rfl
        clear h1 h2 h3 hB hEa hK hdf hnf
        generalize hDD : dirA ps qs k = D at *
        have HDD := Lib.hid hDD
        clear hDD
        gi_wp2_with fail
        clear q0 d0 d1
        refine ⟨trivial, ?_⟩
        refine (Open.calls (Open.inRound Open.wide l) (show Calls Try.prog 107 #[.slice a ps.length cap, vecV D.1 D.2] W2 _ from extreme_c _ ps D.1 D.2 W2 (HU4.out.ext HE5.out) (fine_near HN1.out.1) (by omega) HDF.out.1 HDF.out.2)).mono ?_
        rintro e W3 ⟨rfl, hE6⟩
        simp only [two]
        have HBD6 := Lib.hid (VRow.ext HBD.out hE6)
        have HS6 := Lib.hid (HS3.out.ext hE6)
        have HE6 := Lib.hid hE6
        clear hE6
        change -20000000000 ≤ (extK ps (D.1, D.2) ps.length).1 ∧ (extK ps (D.1, D.2) ps.length).1 ≤ 20000000000 at b1
        change -20000000000 ≤ (extK qs (-D.1, -D.2) qs.length).1 ∧ (extK qs (-D.1, -D.2) qs.length).1 ≤ 20000000000 at b2
        have HX2 := Lib.hid (show Calls Try.prog 107 #[.slice a2 qs.length cap2, vecV (-D.1) (-D.2)] = Calls Try.prog 107 #[.slice a2 qs.length cap2, vecV (-D.1) (-D.2)] from rfl)
        clear HX2
        generalize hm1 : (extK ps (D.1, D.2) ps.length).1 = m1 at *
        generalize (extK ps (D.1, D.2) ps.length).2 = i1 at *
        have HXQ := Lib.hid (fun (Wx : World) (hx : Ext W3 Wx) => extreme_c (.slice a2 qs.length cap2) qs (-D.1) (-D.2) Wx (HV4.out.ext (Ext.trans HE5.out (Ext.trans HE6.out hx))) (fine_near HN2.out.1) (by omega) HNF.out.1 HNF.out.2)
        generalize hm2 : (extK qs (-D.1, -D.2) qs.length).1 = m2 at *
        generalize (extK qs (-D.1, -D.2) qs.length).2 = i2 at *
        have HSB := Lib.hid (show sepAt ps qs k = decide (m1 + m2 ≤ 0) by rw [← hm2]; exact HSA.out)
        clear HSA hm1 hm2
        gi_wp2_with fail
        refine wpIn_region_stable (Open.inRound Open.wide l) [⟨[], none⟩, ⟨[], none⟩, ⟨[(1, 32)], none⟩, ⟨[(0, 31), (2, 33)], none⟩, ⟨[(3, 34)], none⟩, ⟨[(4, 30)], none⟩, ⟨[(4, 30)], none⟩, ⟨[(5, 35)], none⟩, ⟨[(6, 36)], none⟩] (fun x y => Below x.heap.size x y) (MPat [MP.eq (.slice a2 qs.length cap2), MP.eq (vecV D.1 D.2), MP.eq (vecV (-D.1) (-D.2)), MP.eq (.tuple #[.int .i64 m2, .int .i64 (i2 : Nat)]), MP.eq (.tuple #[.int .i64 m2, .int .i64 (i2 : Nat)]), MP.eq (.int .i64 m2), MP.eq (.int .i64 (i2 : Nat)), MP.eq (.int .i64 m2), MP.eq (.int .i64 (i2 : Nat))]) (by kernel_rfl) (fun _ _ _ h k => Ext.trans h k) (fun _ => Below.refl _ _) (fun x => (Below.refl x.heap.size x).drew) (MPat.mono _) (by kernel_rfl) (by kernel_rfl) ?obs ?rest
        case obs =>
          refine ⟨?_, ?_, ?_, ?_, ?_, ?_, ?_, ?_, ?_, trivial⟩
          · intro ev W5 hf _ _ hst hd
            have e3 : ev (.tmp 3) = .pointer (some ⟨w.heap.size + 1, 0, none⟩) := hf 3 (by kernel_rfl)
            have k0 := VRow.cell (VRow.ext HS6.out.r1 hst) (k := 0) rfl
            refine st_value (v := .slice a2 qs.length cap2) ?_ (Below.refl _ _) ?_
            · simp [execOp, go_sem, e3, k0]
            · exact rfl
          · intro ev W5 hf _ _ hst hd
            have e6 : ev (.tmp 6) = .pointer (some ⟨W.heap.size, 0, none⟩) := hf 6 (by kernel_rfl)
            have kk := VRow.ext HBD6.out hst
            have k0 := VRow.cell kk (k := 0) rfl
            have k1 := VRow.cell kk (k := 1) rfl
            refine st_value (v := vecV D.1 D.2) ?_ (Below.refl _ _) ?_
            · simp [execOp, go_sem, e6, k0, k1]
            · exact rfl
          · intro ev W5 hf _ hfn hst hd
            obtain ⟨d32, _⟩ := hd
            have e32 : ev (.tmp 32) = vecV D.1 D.2 := d32
            refine st_call (f := 72) (args := #[vecV D.1 D.2]) (by simp [execOp, go_sem, hfn, e32]) (opposite_c D.1 D.2 W5 HDF.out.1 HDF.out.2) (fun _ _ => rfl)
          · intro ev W5 hf _ hfn hst hd
            obtain ⟨d31, d33, _⟩ := hd
            have e31 : ev (.tmp 31) = .slice a2 qs.length cap2 := d31
            have e33 : ev (.tmp 33) = vecV (-D.1) (-D.2) := d33
            refine st_call (f := 107) (args := #[.slice a2 qs.length cap2, vecV (-D.1) (-D.2)]) (by simp [execOp, go_sem, hfn, e31, e33]) (HXQ.out W5 hst) (fun _ _ => rfl)
          · intro ev W5 hf _ _ hst hd
            obtain ⟨d34, _⟩ := hd
            have e34 : ev (.tmp 34) = .tuple #[.int .i64 m2, .int .i64 (i2 : Nat)] := d34
            refine st_value (v := .tuple #[.int .i64 m2, .int .i64 (i2 : Nat)]) ?_ (Below.refl _ _) ?_
            · simp [execOp, go_sem, e34]
            · exact rfl
          · intro ev W5 hf _ _ hst hd
            obtain ⟨d30, _⟩ := hd
            have e30 : ev (.tmp 30) = .tuple #[.int .i64 m2, .int .i64 (i2 : Nat)] := d30
            refine st_value (v := .int .i64 m2) ?_ (Below.refl _ _) ?_
            · simp [execOp, go_sem, e30]
            · exact rfl
          · intro ev W5 hf _ _ hst hd
            obtain ⟨d30, _⟩ := hd
            have e30 : ev (.tmp 30) = .tuple #[.int .i64 m2, .int .i64 (i2 : Nat)] := d30
            refine st_value (v := .int .i64 (i2 : Nat)) ?_ (Below.refl _ _) ?_
            · simp [execOp, go_sem, e30]
            · exact rfl
          · intro ev W5 hf _ _ hst hd
            obtain ⟨d35, _⟩ := hd
            have e35 : ev (.tmp 35) = .int .i64 m2 := d35
            refine st_value (v := .int .i64 m2) ?_ (Below.refl _ _) ?_
            · simp [execOp, go_sem, e35]
            · exact rfl
          · intro ev W5 hf _ _ hst hd
            obtain ⟨d36, _⟩ := hd
            have e36 : ev (.tmp 36) = .int .i64 (i2 : Nat) := d36
            refine st_value (v := .int .i64 (i2 : Nat)) ?_ (Below.refl _ _) ?_
            · simp [execOp, go_sem, e36]
            · exact rfl
        case rest =>
          intro vs w3_ hl hst hg
          have hx0 : ∀ u, vs[0]? = some u → u = .slice a2 qs.length cap2 := fun u hu => hg 0 u hu
          have hx1 : ∀ u, vs[1]? = some u → u = vecV D.1 D.2 := fun u hu => hg 1 u hu
          have hx2 : ∀ u, vs[2]? = some u → u = vecV (-D.1) (-D.2) := fun u hu => hg 2 u hu
          have hx3 : ∀ u, vs[3]? = some u → u = .tuple #[.int .i64 m2, .int .i64 (i2 : Nat)] := fun u hu => hg 3 u hu
          have hx4 : ∀ u, vs[4]? = some u → u = .tuple #[.int .i64 m2, .int .i64 (i2 : Nat)] := fun u hu => hg 4 u hu
          have hx5 : ∀ u, vs[5]? = some u → u = .int .i64 m2 := fun u hu => hg 5 u hu
          have hx6 : ∀ u, vs[6]? = some u → u = .int .i64 (i2 : Nat) := fun u hu => hg 6 u hu
          have hx7 : ∀ u, vs[7]? = some u → u = .int .i64 m2 := fun u hu => hg 7 u hu
          have hx8 : ∀ u, vs[8]? = some u → u = .int .i64 (i2 : Nat) := fun u hu => hg 8 u hu
          have HE3 := Lib.hid hst
          clear hg hst
          obtain ⟨x0, vs0, rfl, hl0⟩ := len_succ hl
          obtain ⟨x1, vs1, rfl, hl1⟩ := len_succ hl0
          obtain ⟨x2, vs2, rfl, hl2⟩ := len_succ hl1
          obtain ⟨x3, vs3, rfl, hl3⟩ := len_succ hl2
          obtain ⟨x4, vs4, rfl, hl4⟩ := len_succ hl3
          obtain ⟨x5, vs5, rfl, hl5⟩ := len_succ hl4
          obtain ⟨x6, vs6, rfl, hl6⟩ := len_succ hl5
          obtain ⟨x7, vs7, rfl, hl7⟩ := len_succ hl6
          obtain ⟨x8, vs8, rfl, hl8⟩ := len_succ hl7
          have hnil : vs8 = [] := List.length_eq_zero_iff.1 hl8
          subst hnil
          obtain rfl : x0 = .slice a2 qs.length cap2 := hx0 _ rfl
          obtain rfl : x1 = vecV D.1 D.2 := hx1 _ rfl
          obtain rfl : x2 = vecV (-D.1) (-D.2) := hx2 _ rfl
          obtain rfl : x3 = .tuple #[.int .i64 m2, .int .i64 (i2 : Nat)] := hx3 _ rfl
          obtain rfl : x4 = .tuple #[.int .i64 m2, .int .i64 (i2 : Nat)] := hx4 _ rfl
          obtain rfl : x5 = .int .i64 m2 := hx5 _ rfl
          obtain rfl : x6 = .int .i64 (i2 : Nat) := hx6 _ rfl
          obtain rfl : x7 = .int .i64 m2 := hx7 _ rfl
          obtain rfl : x8 = .int .i64 (i2 : Nat) := hx8 _ rfl
          clear hx0 hx1 hx2 hx3 hx4 hx5 hx6 hx7 hx8
          simp only [putAll, Act.put, List.setIfInBounds_toArray, List.set_cons_zero, List.set_cons_succ]
          have HWR := Lib.hid (show IntKind.i64.wrap (m1 + m2) = m1 + m2 from IntWalk.i64_in _ (by omega))
          have hsz3 := HE3.out.size
          have hsz6 := HE6.out.size
          have HS7 := Lib.hid (HS6.out.ext HE3.out)
          have HBD7 := Lib.hid (VRow.ext HBD6.out HE3.out)
          have HE7 := Lib.hid (Ext.trans HE6.out HE3.out)
          by_cases hc : m1 + m2 ≤ 0
          · have c0 := VRow.cell HS7.out.r2 (k := 0) rfl
            have c1 := VRow.cell HS7.out.r2 (k := 1) rfl
            have c2 := VRow.cell HS7.out.r3 (k := 0) rfl
            have f0 := VRow.frozen HS7.out.r2 0 none
            have f1 := VRow.frozen HS7.out.r2 1 none
            have f2 := VRow.frozen HS7.out.r3 0 none
            have d0 := VRow.cell HBD7.out (k := 0) rfl
            have d1 := VRow.cell HBD7.out (k := 1) rfl
            gi_wp2
            refine ⟨?_, H1.out, by rw [HSB.out]; exact decide_eq_true hc, HS7.out.put D.1 D.2 0, ext_put (Ext.trans HEw4.out (Ext.trans HE5.out HE7.out)) (Nat.le_refl _) _ _ _⟩
            exact (((Held.ext HE7.out (fun j hj => by have := HE5.out.size; omega)).trans (Held.set _ _ _ (fun j hj => by show j ≠ w.heap.size + 2; omega))).trans (Held.set _ _ _ (fun j hj => by show j ≠ w.heap.size + 2; omega))).trans (Held.set _ _ _ (fun j hj => by show j ≠ w.heap.size + 3; omega))
          · gi_wp2
            refine ⟨Held.ext HE7.out (fun j hj => by have := HE5.out.size; omega), fun j hj => ?_, HS7.out, Ext.trans HE5.out HE7.out⟩
            by_cases hjk : j = k
            · subst hjk; rw [HSB.out]; exact decide_eq_false (by omega)
            · exact H1.out j (by omega)
      case stop =>
        rintro k W hk ⟨h1, h2, h3, h4⟩ hD
        dsimp only
        gi_wp2_with fail
        have hfd : (List.range (ps.length + qs.length)).find? (sepAt ps qs) = some k := find_at hk h1 h2
        have hrr := HR.out
        rw [hfd] at hrr
        refine marks_cell hD (sep_results (h3.keeps (Keeps.put (B := 0) _ hD rfl (Nat.zero_le _))) _ rfl rfl) ⟨hrr.symm, Keeps.below (Keeps.put (B := w4.heap.size) _ hD rfl (Nat.le_refl _)) h4 (by omega)⟩
      case done =>
        rintro W ⟨h1, h2, h3⟩ hD
        have HSW := Lib.hid h2
        have c0 := VRow.cell HSW.out.r2 (k := 0) rfl
        have c1 := VRow.cell HSW.out.r2 (k := 1) rfl
        have c2 := VRow.cell HSW.out.r3 (k := 0) rfl
        have f0 := VRow.frozen HSW.out.r2 0 none
        have f1 := VRow.frozen HSW.out.r2 1 none
        have f2 := VRow.frozen HSW.out.r3 0 none
        have HD := Lib.hid hD
        have H1 := Lib.hid h1
        have H3 := Lib.hid h3
        clear h1 h2 h3 hD
        dsimp only
        go_wp2_with fail
        have hrr := HR.out
        rw [find_none H1.out] at hrr
        have hD2 : (((W.setCell ⟨w.heap.size + 2, 0, none⟩ (.int .i64 0)).setCell ⟨w.heap.size + 2, 1, none⟩ (.int .i64 0)).setCell ⟨w.heap.size + 3, 0, none⟩ (.int .i64 10)).heap[w4.heap.size]? = some (.deferred (some [])) :=
          (Below.heap_setCell _ _ _ _ (by show w4.heap.size ≠ w.heap.size + 3; omega)).trans ((Below.heap_setCell _ _ _ _ (by show w4.heap.size ≠ w.heap.size + 2; omega)).trans ((Below.heap_setCell _ _ _ _ (by show w4.heap.size ≠ w.heap.size + 2; omega)).trans HD.out))
        refine marks_cell hD2 (sep_results ((HSW.out.put 0 0 10).keeps (Keeps.put (B := 0) _ hD2 rfl (Nat.zero_le _))) _ rfl rfl) ⟨hrr.symm, Keeps.below (Keeps.put (B := w4.heap.size) _ hD2 rfl (Nat.le_refl _)) (ext_put (Ext.trans HEw4.out H3.out) (Nat.le_refl _) _ _ _) (by omega)⟩
end Go.Proofs.Ytnpebfchojalcaa
