import Derived.Test.YtnpebfchojalcaaV11
import Derived.Test.YtnpebfchojalcaaV1b
namespace Go.Proofs.Ytnpebfchojalcaa
open Go.RowKit Go.Shelf
attribute [local go_sem] Oper.semAt_some
def dirP (ps : List Pt) (k : Nat) : Pt := ((stepP ps k).2, -(stepP ps k).1)
def dirQ (qs : List Pt) (k : Nat) : Pt := (-(stepP qs k).2, (stepP qs k).1)
def dirA (ps qs : List Pt) (k : Nat) : Pt := if k < ps.length then dirP ps k else dirQ qs (k - ps.length)
theorem grow_at {A B : World} {o : Obj} {j : Nat} (e : A.heap[j]? = some o) (h : Ext A B) : B.heap[j]? = some o := (h.block _ (Array.getElem?_eq_some_iff.1 e).1).trans e
theorem directions_c (a1 : Option Addr) (l1 c1 : Nat) (a2 : Option Addr) (l2 c2 : Nat) (w : World) :
    Calls Try.prog 106 #[.slice a1 l1 c1, .slice a2 l2 c2] w fun e w' => e = .returned (.func (.func 128) #[] #[.pointer (some ⟨w.heap.size, 0, none⟩), .pointer (some ⟨w.heap.size + 1, 0, none⟩)]) ∧ w' = (w.alloc (.cells #[.slice a1 l1 c1] 22)).alloc (.cells #[.slice a2 l2 c2] 22) := by
  go_enter Try.func106, Try.ntmps106
  go_wp2
  go_ret
  exact ⟨rfl, rfl⟩
theorem marks_two {fn : Func} {tmps : Array Value} {P : Program} {D D2 : Nat} {v : Value} {R : Ending → World → Prop} {W : World} (hD : W.heap[D]? = some (.deferred (some []))) (hD2 : W.heap[D2]? = some (.deferred (some []))) (hne : D ≠ D2)
    (hr : ∀ W' : World, (results fn tmps).run P W' = .ok v W') (hR : R (.returned v) ((W.putObj D (.deferred none)).putObj D2 (.deferred none))) : LeavesInM Fence.wide 9 P fn tmps R [{ target := .collected D, args := #[] }, { target := .collected D2, args := #[] }] .returning W := by
  refine ⟨by simp, .inl ⟨_, _, rfl, run_takeDeferred hD, ?_⟩⟩
  refine ⟨by simp, .inl ⟨_, _, rfl, run_takeDeferred ((World.putObj_heap_other (Ne.symm hne)).trans hD2), ?_⟩⟩
  exact ⟨_, hr _, hR⟩
theorem marks_one {fn : Func} {tmps : Array Value} {P : Program} {D : Nat} {v : Value} {R : Ending → World → Prop} {W : World} (hD : W.heap[D]? = some (.deferred (some [])))
    (hr : ∀ W' : World, (results fn tmps).run P W' = .ok v W') (hR : R (.returned v) (W.putObj D (.deferred none))) : LeavesInM Fence.wide 9 P fn tmps R [{ target := .collected D, args := #[] }] .returning W := by
  refine ⟨by simp, .inl ⟨_, _, rfl, run_takeDeferred hD, ?_⟩⟩
  exact ⟨_, hr _, hR⟩
theorem Keeps.held {S : Nat → Prop} {s : Nat} {w A B : World} (h : Keeps s A B) (he : Held S w A) (hS : ∀ j, S j → j < w.heap.size) (hs : w.heap.size ≤ s) : Held S w B :=
  he.trans (Held.mono h (fun j hj => ⟨Nat.lt_of_lt_of_le (hS j hj) he.size, .inl (by have := hS j hj; omega)⟩))
set_option maxRecDepth 100000 in
set_option maxHeartbeats 4000000 in
theorem directions_iter (B1 B2 : Nat) (v1 v2 : Value) (ps qs : List Pt) (S : Nat → Prop) (w : World) (hK : ∀ W, Held S w W → W.cell? ⟨B1, 0, none⟩ = some v1 ∧ Vecs W v1 ps ∧ W.cell? ⟨B2, 0, none⟩ = some v2 ∧ Vecs W v2 qs) (hS : ∀ j, S j → j < w.heap.size) (hw1 : wideP ps) (hw2 : wideP qs) (hn1 : ps.length ≤ 1000) (hn2 : qs.length ≤ 1000) :
    IterD Try.prog 128 #[.pointer (some ⟨B1, 0, none⟩), .pointer (some ⟨B2, 0, none⟩)] (fun k => #[vecV (dirA ps qs k).1 (dirA ps qs k).2]) (ps.length + qs.length) S w := by
  intro l J Jx W hEW hJ hJx hY h0
  have hH0 : Held S w W := Held.ext hEW hS
  obtain ⟨ax, cx, rfl, hxc, hxm, _⟩ := (hK w (Held.refl _ _)).2.1.at
  obtain ⟨ay, cy, rfl, hyc, hym, _⟩ := (hK w (Held.refl _ _)).2.2.2.at
  have HK := Lib.hid hK
  have HY := Lib.hid hY
  have HW1 := Lib.hid hw1
  have HW2 := Lib.hid hw2
  have HEW := Lib.hid hEW
  have HH0 := Lib.hid hH0
  have hsw := hEW.size
  clear hK hY hw1 hw2 hEW hH0
  change Calls Try.prog 128 #[.func (.yield l) #[] #[], .pointer (some ⟨B1, 0, none⟩), .pointer (some ⟨B2, 0, none⟩)] W _
  refine calls_marks Try.func128 rfl ?_
  simp only [Try.ntmps128, List.size_toArray, List.length_cons, List.length_nil, Nat.reduceAdd, Nat.reduceSub, Array.replicate_succ, Array.replicate_zero, List.push_toArray, List.append_toArray, List.nil_append, List.cons_append]
  have hEb := Ext.alloc (Ext.refl W) (.cells #[.func (.yield l) #[] #[]] 112)
  have q0 := Ext.cell hEb (HK.out W HH0.out).1
  have q1 := cell_lt (HK.out W HH0.out).1
  go_wp2_with fail
  clear q0 q1
  refine (edges_c ax ps.length cx _).mono ?_
  rintro e w2 ⟨rfl, rfl⟩
  have hy1 := VRow.alloc (vrow_alloc W [.func (.yield l) #[] #[]] 112) (.cells #[.slice ax ps.length cx] 22)
  have hb1 := vrow_alloc (W.alloc (.cells #[.func (.yield l) #[] #[]] 112)) [.slice ax ps.length cx] 22
  have hE2 := Ext.alloc hEb (.cells #[.slice ax ps.length cx] 22)
  change VRow ((W.alloc (.cells #[.func (.yield l) #[] #[]] 112)).alloc (.cells #[.slice ax ps.length cx] 22)) _ _ _ at hy1 hb1
  have hsz : ((W.alloc (.cells #[.func (.yield l) #[] #[]] 112)).alloc (.cells #[.slice ax ps.length cx] 22)).heap.size = W.heap.size + 2 := by simp
  have hsb : (W.alloc (.cells #[.func (.yield l) #[] #[]] 112)).heap.size = W.heap.size + 1 := by simp
  rw [hsb] at hb1
  have HYR := Lib.hid hy1
  have HB := Lib.hid hb1
  have HE2 := Lib.hid hE2
  clear hy1 hb1 hE2 hEb
  go_wp2_with fail
  clear hsb
  generalize (W.alloc (.cells #[.func (.yield l) #[] #[]] 112)).alloc (.cells #[.slice ax ps.length cx] 22) = w2 at *
  have HJ2 := Lib.hid (hJ 0 _ _ h0 (Keeps.of_ext HE2.out))
  have HH2 := Lib.hid (HH0.out.trans (Held.ext HE2.out (fun j hj => Nat.lt_of_lt_of_le (hS j hj) hsw)))
  refine (wpIn_wide (n := 9)).1 ?_
  refine wpIn_range_c (gf := 124) (lb := #[.pointer (some ⟨W.heap.size + 1, 0, none⟩)]) rfl (enters_of Try.func124 (by kernel_rfl) rfl) ps.length (fun j => S j ∨ j = W.heap.size + 1) (fun k => #[.agg (edgeA ps k)]) (fun j hj => by rcases hj with hj | hj; (have := hS j hj; omega); omega) (fun _ => rfl)
    (edges_iter (W.heap.size + 1) (.slice ax ps.length cx) ps _ w2 (fun W' hH => ⟨VRow.cell (Held.vrow hH (.inr rfl) HB.out) (k := 0) rfl, (HK.out W' (HH2.out.trans (hH.mono (fun j hj => .inl hj)))).2.1⟩) (fun j hj => by rcases hj with hj | hj; (have := hS j hj; omega); omega) HW1.out (by omega))
    (fun k A => J k A ∧ VRow A W.heap.size 112 [.func (.yield l) #[] #[]] ∧ Held S w A) (fun k A => Jx k A) ?_ ?_ ⟨HJ2.out, HYR.out, HH2.out⟩ ?round ?done ?stop
  · rintro k A B ⟨h1, h2, h3⟩ hb
    exact ⟨hJ _ _ _ h1 (hb.mono (by omega)), Keeps.vrow hb h2, Keeps.held hb h3 hS (by omega)⟩
  · exact fun k A B h hb => hJx _ _ _ h (hb.mono (by omega))
  case round =>
    rintro l1 k A K ⟨h1, h2, h3⟩ hk hlt hKK
    simp only [edgeA]
    gi_wp2_with fail
    refine hKK _ _ (fun A2 hB hlt2 => ?_) (Held.ext (Ext.alloc (Ext.refl A) _) (fun j hj => by rcases hj with hj | hj; (rcases hj with hj | hj; (have := hS j hj; omega); omega); omega))
    have hEa := Ext.alloc (Ext.refl A) (.cells (edgeA ps k) 133)
    have hb1 := VRow.ext h2 hEa
    have hb2 := edge_row (ps := ps) (k := k) A
    have HYB := Lib.hid (Keeps.vrow hB hb1)
    have HN := Lib.hid (Keeps.vrow hB hb2)
    have hKp : Keeps W.heap.size A A2 := (Keeps.of_ext hEa).trans (hB.mono (by omega))
    have HJA := Lib.hid (hJ _ _ _ h1 hKp)
    have HHA := Lib.hid (Keeps.held hKp h3 hS (by omega))
    have HF := Lib.hid (step_fine HW1.out hk)
    have hsA2 : A.heap.size + 1 ≤ A2.heap.size := by have := hB.size; simp at this; omega
    clear hb1 hb2 hEa hKK hB h1 h2 h3 hKp
    gi_wp2_with fail
    refine wpIn_region_stable_last2 (Open.inRound Open.wide l1) [⟨[], none⟩, ⟨[], none⟩, ⟨[(1, 10)], none⟩] (fun x y => Below x.heap.size x y) (MPat [MP.eq (.func (.yield l) #[] #[]), MP.eq (.agg #[.int .i64 (fromP ps k).1, .int .i64 (fromP ps k).2, .int .i64 (stepP ps k).1, .int .i64 (stepP ps k).2]), MP.eq (vecV (stepP ps k).2 (-(stepP ps k).1))]) rfl (by kernel_rfl) (fun _ _ _ h k => Ext.trans h k) (fun _ => Below.refl _ _) (fun x => (Below.refl x.heap.size x).drew) (MPat.mono _) (by kernel_rfl) (by kernel_rfl) (by kernel_rfl) (by kernel_rfl) (by kernel_rfl) (by kernel_rfl) ?obs ?rest
    case obs =>
      refine ⟨?_, ?_, ?_, trivial⟩
      · intro ev W5 hf _ _ hst hd
        have e3 : ev (.tmp 3) = .pointer (some ⟨W.heap.size, 0, none⟩) := hf 3 (by kernel_rfl)
        have kk := VRow.ext HYB.out hst
        have k0 := VRow.cell kk (k := 0) rfl
        refine st_value (v := .func (.yield l) #[] #[]) ?_ (Below.refl _ _) ?_
        · simp [execOp, go_sem, e3, k0]
        · exact rfl
      · intro ev W5 hf _ _ hst hd
        have e4 : ev (.tmp 4) = .pointer (some ⟨A.heap.size, 0, none⟩) := hf 4 (by kernel_rfl)
        have kk := VRow.ext HN.out hst
        have k0 := VRow.cell kk (k := 0) rfl
        have k1 := VRow.cell kk (k := 1) rfl
        have k2 := VRow.cell kk (k := 2) rfl
        have k3 := VRow.cell kk (k := 3) rfl
        refine st_value (v := .agg #[.int .i64 (fromP ps k).1, .int .i64 (fromP ps k).2, .int .i64 (stepP ps k).1, .int .i64 (stepP ps k).2]) ?_ (Below.refl _ _) ?_
        · simp [execOp, go_sem, e4, k0, k1, k2, k3]
        · exact rfl
      · intro ev W5 hf _ hfn hst hd
        obtain ⟨d10, _⟩ := hd
        have e10 : ev (.tmp 10) = .agg #[.int .i64 (fromP ps k).1, .int .i64 (fromP ps k).2, .int .i64 (stepP ps k).1, .int .i64 (stepP ps k).2] := d10
        refine st_call (f := 129) (args := #[.agg #[.int .i64 (fromP ps k).1, .int .i64 (fromP ps k).2, .int .i64 (stepP ps k).1, .int .i64 (stepP ps k).2]]) (by simp [execOp, go_sem, hfn, e10]) (outward_c _ _ _ _ W5 HF.out.2.2.2.2.1) (fun _ _ => rfl)
    case rest =>
      intro vs w3 hl hst hg
      have hx0 : ∀ u, vs[0]? = some u → u = .func (.yield l) #[] #[] := fun u hu => hg 0 u hu
      have hx1 : ∀ u, vs[1]? = some u → u = .agg #[.int .i64 (fromP ps k).1, .int .i64 (fromP ps k).2, .int .i64 (stepP ps k).1, .int .i64 (stepP ps k).2] := fun u hu => hg 1 u hu
      have hx2 : ∀ u, vs[2]? = some u → u = vecV (stepP ps k).2 (-(stepP ps k).1) := fun u hu => hg 2 u hu
      have HE3 := Lib.hid hst
      clear hg hst
      obtain ⟨x0, vs0, rfl, hl0⟩ := len_succ hl
      obtain ⟨x1, vs1, rfl, hl1⟩ := len_succ hl0
      obtain ⟨x2, vs2, rfl, hl2⟩ := len_succ hl1
      have hnil : vs2 = [] := List.length_eq_zero_iff.1 hl2
      subst hnil
      obtain rfl : x0 = .func (.yield l) #[] #[] := hx0 _ rfl
      obtain rfl : x1 = .agg #[.int .i64 (fromP ps k).1, .int .i64 (fromP ps k).2, .int .i64 (stepP ps k).1, .int .i64 (stepP ps k).2] := hx1 _ rfl
      obtain rfl : x2 = vecV (stepP ps k).2 (-(stepP ps k).1) := hx2 _ rfl
      clear hx0 hx1 hx2
      simp only [putAll, Act.put, List.dropLast, List.setIfInBounds_toArray, List.set_cons_zero, List.set_cons_succ]
      have hJ5 := hJ _ _ _ HJA.out (Keeps.of_ext HE3.out)
      obtain ⟨fn, tmps, assign, body, hy, hR⟩ := HY.out k w3 hJ5 (by omega) 9
      have hdir : dirA ps qs k = dirP ps k := by unfold dirA; rw [if_pos hk]
      rw [hdir] at hy
      clear hdir
      have hyy : (Instr.yield l #[vecV (stepP ps k).2 (-(stepP ps k).1)]).run Try.prog w3 = .ok (.round l fn tmps assign body) w3 := hy
      clear hy hJ5
      gi_wp2_with fail
      clear hyy
      refine (show RoundIn (Fence.wide.inRound l1) 8 Try.prog l fn tmps assign body w3 _ from RoundIn.any (m := 8) rfl hR).mono ?_
      have hYB3 := VRow.ext HYB.out HE3.out
      have hs3 := HE3.out.size
      rintro e A6 (⟨rfl, hJ6, hH6⟩ | ⟨rfl, hJ6, hH6⟩)
      · gi_wp2
        refine ⟨(Held.ext HE3.out (fun j hj => by rcases hj with (hj | hj) | hj | hj; (have := hS j hj; omega); all_goals omega)).trans (hH6.mono (fun j hj => by rcases hj with (hj | hj) | hj | hj; (exact .inl hj); all_goals (right; omega))), hJ6, Held.vrow hH6 (.inr ⟨Nat.le_refl _, VRow.lt hYB3⟩) hYB3, ?_⟩
        exact (HHA.out.trans (Held.ext HE3.out (fun j hj => Nat.lt_of_lt_of_le (hS j hj) HHA.out.size))).trans (hH6.mono (fun j hj => .inl hj))
      · gi_wp2
        exact ⟨(Held.ext HE3.out (fun j hj => by rcases hj with (hj | hj) | hj | hj; (have := hS j hj; omega); all_goals omega)).trans (hH6.mono (fun j hj => by rcases hj with (hj | hj) | hj | hj; (exact .inl hj); all_goals (right; omega))), hJ6⟩
  case stop =>
    rintro k A hk h1 hD
    dsimp only
    gi_wp2_with fail
    exact marks_one hD (fun _ => results_none rfl _ _ _) ⟨⟨_, rfl⟩, .inr ⟨k, by omega, hJx _ _ _ h1 (Keeps.put _ hD rfl (by omega))⟩⟩
  case done =>
    rintro A ⟨h1, h2, h3⟩ hD
    have q0 := (HK.out A h3).2.2.1
    have HJA := Lib.hid h1
    have HYA := Lib.hid h2
    have HHA := Lib.hid h3
    have HDA := Lib.hid hD
    clear h1 h2 h3 hD
    dsimp only
    go_wp2_with fail
    clear q0
    refine (edges_c ay qs.length cy _).mono ?_
    rintro e w3 ⟨rfl, rfl⟩
    have hsA : W.heap.size + 2 ≤ A.heap.size := by have := (Array.getElem?_eq_some_iff.1 HDA.out).1; omega
    have hb1 := vrow_alloc A [.slice ay qs.length cy] 22
    have hE2 := Ext.alloc (Ext.refl A) (.cells #[.slice ay qs.length cy] 22)
    have hs3 : (A.alloc (.cells #[.slice ay qs.length cy] 22)).heap.size = A.heap.size + 1 := by simp
    change VRow (A.alloc (.cells #[.slice ay qs.length cy] 22)) _ _ _ at hb1
    have HB3 := Lib.hid hb1
    have HE3 := Lib.hid hE2
    have HH3 := Lib.hid (HHA.out.trans (Held.ext hE2 (fun j hj => by have := hS j hj; omega)))
    have HJ3 := Lib.hid (hJ _ _ _ HJA.out (Keeps.of_ext hE2))
    have HY3 := Lib.hid (VRow.ext HYA.out hE2)
    have HD3 := Lib.hid (grow_at HDA.out hE2)
    have hdd := (Array.getElem?_eq_some_iff.1 HDA.out).1
    clear hb1 hE2
    go_wp2_with fail
    generalize A.alloc (.cells #[.slice ay qs.length cy] 22) = w3 at *
    refine (wpIn_wide (n := 9)).1 ?_
    refine wpIn_range_c (gf := 124) (lb := #[.pointer (some ⟨A.heap.size, 0, none⟩)]) rfl (enters_of Try.func124 (by kernel_rfl) rfl) qs.length (fun j => S j ∨ j = A.heap.size) (fun k => #[.agg (edgeA qs k)]) (fun j hj => by rcases hj with hj | hj; (have := hS j hj; omega); omega) (fun _ => rfl)
      (edges_iter A.heap.size (.slice ay qs.length cy) qs _ w3 (fun W' hH => ⟨VRow.cell (Held.vrow hH (.inr rfl) HB3.out) (k := 0) rfl, (HK.out W' (HH3.out.trans (hH.mono (fun j hj => .inl hj)))).2.2.2⟩) (fun j hj => by rcases hj with hj | hj; (have := hS j hj; omega); omega) HW2.out (by omega))
      (fun k C => J (ps.length + k) C ∧ VRow C W.heap.size 112 [.func (.yield l) #[] #[]] ∧ Held S w C ∧ C.heap[W.heap.size + 2]? = some (.deferred (some []))) (fun k C => Jx (ps.length + k) C ∧ C.heap[W.heap.size + 2]? = some (.deferred (some []))) ?_ ?_ ⟨HJ3.out, HY3.out, HH3.out, by rw [← hsz]; exact HD3.out⟩ ?round2 ?done2 ?stop2
    · rintro k A' B' ⟨h1, h2, h3, h4⟩ hb
      exact ⟨hJ _ _ _ h1 (hb.mono (by omega)), Keeps.vrow hb h2, Keeps.held hb h3 hS (by omega), (hb.block _ ⟨(Array.getElem?_eq_some_iff.1 h4).1, .inl (by omega)⟩).trans h4⟩
    · exact fun k A' B' h hb => ⟨hJx _ _ _ h.1 (hb.mono (by omega)), (hb.block _ ⟨(Array.getElem?_eq_some_iff.1 h.2).1, .inl (by omega)⟩).trans h.2⟩
    case round2 =>
      rintro l1 k C K ⟨h1, h2, h3, h4⟩ hk hlt hKK
      simp only [edgeA]
      gi_wp2_with fail
      refine hKK _ _ (fun A2 hB hlt2 => ?_) (Held.ext (Ext.alloc (Ext.refl C) _) (fun j hj => by rcases hj with hj | hj; (rcases hj with hj | hj; (have := hS j hj; omega); omega); omega))
      have hEa := Ext.alloc (Ext.refl C) (.cells (edgeA qs k) 133)
      have hb1 := VRow.ext h2 hEa
      have hb2 := edge_row (ps := qs) (k := k) C
      have HYB := Lib.hid (Keeps.vrow hB hb1)
      have HN := Lib.hid (Keeps.vrow hB hb2)
      have hKp : Keeps W.heap.size C A2 := (Keeps.of_ext hEa).trans (hB.mono (by omega))
      have hKp4 : Keeps w3.heap.size C A2 := (Keeps.of_ext hEa).trans hB
      have HJA := Lib.hid (hJ _ _ _ h1 hKp)
      have HHA := Lib.hid (Keeps.held hKp h3 hS (by omega))
      have HF := Lib.hid (step_fine HW2.out hk)
      have hsA2 : C.heap.size + 1 ≤ A2.heap.size := by have := hB.size; simp at this; omega
      have HF2 := Lib.hid (show fine (-(stepP qs k).1) by have := HF.out.2.2.2.2.1; unfold fine at *; omega)
      have HD2 := Lib.hid ((hKp4.block _ ⟨(Array.getElem?_eq_some_iff.1 h4).1, .inl (by omega)⟩).trans h4)
      clear hKp4 h4 hb1 hb2 hEa hKK hB h1 h2 h3 hKp
      gi_wp2_with fail
      refine wpIn_region_stable_last2 (Open.inRound Open.wide l1) [⟨[], none⟩, ⟨[], none⟩, ⟨[(1, 18)], none⟩, ⟨[(2, 19)], none⟩] (fun x y => Below x.heap.size x y) (MPat [MP.eq (.func (.yield l) #[] #[]), MP.eq (.agg #[.int .i64 (fromP qs k).1, .int .i64 (fromP qs k).2, .int .i64 (stepP qs k).1, .int .i64 (stepP qs k).2]), MP.eq (vecV (stepP qs k).2 (-(stepP qs k).1)), MP.eq (vecV (-(stepP qs k).2) (stepP qs k).1)]) rfl (by kernel_rfl) (fun _ _ _ h k => Ext.trans h k) (fun _ => Below.refl _ _) (fun x => (Below.refl x.heap.size x).drew) (MPat.mono _) (by kernel_rfl) (by kernel_rfl) (by kernel_rfl) (by kernel_rfl) (by kernel_rfl) (by kernel_rfl) ?obs ?rest
      case obs =>
        refine ⟨?_, ?_, ?_, ?_, trivial⟩
        · intro ev W5 hf _ _ hst hd
          have e3 : ev (.tmp 3) = .pointer (some ⟨W.heap.size, 0, none⟩) := hf 3 (by kernel_rfl)
          have kk := VRow.ext HYB.out hst
          have k0 := VRow.cell kk (k := 0) rfl
          refine st_value (v := .func (.yield l) #[] #[]) ?_ (Below.refl _ _) ?_
          · simp [execOp, go_sem, e3, k0]
          · exact rfl
        · intro ev W5 hf _ _ hst hd
          have e5 : ev (.tmp 5) = .pointer (some ⟨C.heap.size, 0, none⟩) := hf 5 (by kernel_rfl)
          have kk := VRow.ext HN.out hst
          have k0 := VRow.cell kk (k := 0) rfl
          have k1 := VRow.cell kk (k := 1) rfl
          have k2 := VRow.cell kk (k := 2) rfl
          have k3 := VRow.cell kk (k := 3) rfl
          refine st_value (v := .agg #[.int .i64 (fromP qs k).1, .int .i64 (fromP qs k).2, .int .i64 (stepP qs k).1, .int .i64 (stepP qs k).2]) ?_ (Below.refl _ _) ?_
          · simp [execOp, go_sem, e5, k0, k1, k2, k3]
          · exact rfl
        · intro ev W5 hf _ hfn hst hd
          obtain ⟨d18, _⟩ := hd
          have e18 : ev (.tmp 18) = .agg #[.int .i64 (fromP qs k).1, .int .i64 (fromP qs k).2, .int .i64 (stepP qs k).1, .int .i64 (stepP qs k).2] := d18
          refine st_call (f := 129) (args := #[.agg #[.int .i64 (fromP qs k).1, .int .i64 (fromP qs k).2, .int .i64 (stepP qs k).1, .int .i64 (stepP qs k).2]]) (by simp [execOp, go_sem, hfn, e18]) (outward_c _ _ _ _ W5 HF.out.2.2.2.2.1) (fun _ _ => rfl)
        · intro ev W5 hf _ hfn hst hd
          obtain ⟨d19, _⟩ := hd
          have e19 : ev (.tmp 19) = vecV (stepP qs k).2 (-(stepP qs k).1) := d19
          refine st_call (f := 72) (args := #[vecV (stepP qs k).2 (-(stepP qs k).1)]) (by simp [execOp, go_sem, hfn, e19]) (by have h := opposite_c (stepP qs k).2 (-(stepP qs k).1) W5 HF.out.2.2.2.2.2 HF2.out; rw [Int.neg_neg] at h; exact h) (fun _ _ => rfl)
      case rest =>
        intro vs w3 hl hst hg
        have hx0 : ∀ u, vs[0]? = some u → u = .func (.yield l) #[] #[] := fun u hu => hg 0 u hu
        have hx1 : ∀ u, vs[1]? = some u → u = .agg #[.int .i64 (fromP qs k).1, .int .i64 (fromP qs k).2, .int .i64 (stepP qs k).1, .int .i64 (stepP qs k).2] := fun u hu => hg 1 u hu
        have hx2 : ∀ u, vs[2]? = some u → u = vecV (stepP qs k).2 (-(stepP qs k).1) := fun u hu => hg 2 u hu
        have hx3 : ∀ u, vs[3]? = some u → u = vecV (-(stepP qs k).2) (stepP qs k).1 := fun u hu => hg 3 u hu
        have HE3 := Lib.hid hst
        clear hg hst
        obtain ⟨x0, vs0, rfl, hl0⟩ := len_succ hl
        obtain ⟨x1, vs1, rfl, hl1⟩ := len_succ hl0
        obtain ⟨x2, vs2, rfl, hl2⟩ := len_succ hl1
        obtain ⟨x3, vs3, rfl, hl3⟩ := len_succ hl2
        have hnil : vs3 = [] := List.length_eq_zero_iff.1 hl3
        subst hnil
        obtain rfl : x0 = .func (.yield l) #[] #[] := hx0 _ rfl
        obtain rfl : x1 = .agg #[.int .i64 (fromP qs k).1, .int .i64 (fromP qs k).2, .int .i64 (stepP qs k).1, .int .i64 (stepP qs k).2] := hx1 _ rfl
        obtain rfl : x2 = vecV (stepP qs k).2 (-(stepP qs k).1) := hx2 _ rfl
        obtain rfl : x3 = vecV (-(stepP qs k).2) (stepP qs k).1 := hx3 _ rfl
        clear hx0 hx1 hx2 hx3
        simp only [putAll, Act.put, List.dropLast, List.setIfInBounds_toArray, List.set_cons_zero, List.set_cons_succ]
        have hJ5 := hJ _ _ _ HJA.out (Keeps.of_ext HE3.out)
        obtain ⟨fn, tmps, assign, body, hy, hR⟩ := HY.out (ps.length + k) w3 hJ5 (by omega) 9
        have hdir : dirA ps qs (ps.length + k) = dirQ qs k := by unfold dirA; rw [if_neg (by omega), Nat.add_sub_cancel_left]
        rw [hdir] at hy
        clear hdir
        have hyy : (Instr.yield l #[vecV (-(stepP qs k).2) (stepP qs k).1]).run Try.prog w3 = .ok (.round l fn tmps assign body) w3 := hy
        clear hy hJ5
        gi_wp2_with fail
        clear hyy
        refine (show RoundIn (Fence.wide.inRound l1) 8 Try.prog l fn tmps assign body w3 _ from RoundIn.any (m := 8) rfl hR).mono ?_
        have hD23 := grow_at HD2.out HE3.out
        have hYB3 := VRow.ext HYB.out HE3.out
        have hs3 := HE3.out.size
        rintro e A6 (⟨rfl, hJ6, hH6⟩ | ⟨rfl, hJ6, hH6⟩)
        · gi_wp2
          refine ⟨(Held.ext HE3.out (fun j hj => by rcases hj with (hj | hj) | hj | hj; (have := hS j hj; omega); all_goals omega)).trans (hH6.mono (fun j hj => by rcases hj with (hj | hj) | hj | hj; (exact .inl hj); all_goals (right; omega))), hJ6, Held.vrow hH6 (.inr ⟨Nat.le_refl _, VRow.lt hYB3⟩) hYB3, ?_, (hH6.block _ (.inr ⟨by omega, (Array.getElem?_eq_some_iff.1 hD23).1⟩)).trans hD23⟩
          exact (HHA.out.trans (Held.ext HE3.out (fun j hj => Nat.lt_of_lt_of_le (hS j hj) HHA.out.size))).trans (hH6.mono (fun j hj => .inl hj))
        · gi_wp2
          exact ⟨(Held.ext HE3.out (fun j hj => by rcases hj with (hj | hj) | hj | hj; (have := hS j hj; omega); all_goals omega)).trans (hH6.mono (fun j hj => by rcases hj with (hj | hj) | hj | hj; (exact .inl hj); all_goals (right; omega))), hJ6, (hH6.block _ (.inr ⟨by omega, (Array.getElem?_eq_some_iff.1 hD23).1⟩)).trans hD23⟩
    case stop2 =>
      rintro k C hk ⟨h1, h2⟩ hD
      dsimp only
      gi_wp2_with fail
      exact marks_two hD h2 (by omega) (fun _ => results_none rfl _ _ _) ⟨⟨_, rfl⟩, .inr ⟨ps.length + k, by omega, hJx _ _ _ h1 ((Keeps.put _ hD rfl (by omega)).trans (Keeps.put _ ((World.putObj_heap_other (by omega)).trans h2) rfl (by omega)))⟩⟩
    case done2 =>
      rintro C ⟨h1, h2, h3, h4⟩ hD
      dsimp only
      go_wp2_with fail
      exact marks_two hD h4 (by omega) (fun _ => results_none rfl _ _ _) ⟨⟨_, rfl⟩, .inl (hJ _ _ _ h1 ((Keeps.put _ hD rfl (by omega)).trans (Keeps.put _ ((World.putObj_heap_other (by omega)).trans h4) rfl (by omega))))⟩
end Go.Proofs.Ytnpebfchojalcaa
