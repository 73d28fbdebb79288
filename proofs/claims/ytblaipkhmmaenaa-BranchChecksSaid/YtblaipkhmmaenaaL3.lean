import Derived.Test.YtblaipkhmmaenaaL2
import Derived.Test.YtblaipkhmmaenaaB5
import Derived.Test.YtblaipkhmmaenaaB7
namespace Go.Proofs.Ytblaipkhmmaenaa
open Go.RowKit
attribute [local go_sem] Oper.semAt_some
theorem feasible_c (a b c u : Value) (w : World) :
    Calls Try.prog 22 #[.agg #[a, b, c, u]] w fun e w' => e = .returned (.func (.func 32) #[] #[.pointer (some ⟨w.heap.size, 0, none⟩)]) ∧ w' = w.alloc (.cells #[a, b, c, u] 25) := by
  go_enter Try.func22, Try.ntmps22
  go_wp2
  go_ret
  exact ⟨rfl, rfl⟩
/-- a slice of numbers of its own -/
def OwnAt (W : World) (lo : Nat) (x : List Int) (v : Value) : Prop :=
  ∃ g cap cur, v = .slice (some ⟨g, 0, none⟩) x.length cap ∧ lo ≤ g ∧ W.heap[g]? = some (.cells cur 3 (0, 0)) ∧ x.length ≤ cap ∧ cap ≤ maxLen ∧ cur.size = cap ∧ cur.toList.take x.length = x.map (.int .i64)
def BestAt (W : World) (lo : Nat) (v : Value) (z : Int) (p : Who) : Option (List Int) → Prop
  | none => v = .slice none 0 0
  | some x => OwnAt W lo x v ∧ z = dotZ p.C x
def SolveI (p : Who) (s0 lo n0 : Nat) (w : World) (k : Nat) (W : World) : Prop :=
  ∃ v z, VRow W s0 23 [v] ∧ VRow W (s0 + 1) 3 [.int .i64 z] ∧ Held (fun j => j < n0) w W ∧ BestAt W lo v z p (bestK p k)
theorem OwnAt.of_block {W W' : World} {lo : Nat} {x : List Int} {v : Value} (h : OwnAt W lo x v) (hb : ∀ g, lo ≤ g → g < W.heap.size → W'.heap[g]? = W.heap[g]?) : OwnAt W' lo x v := by
  obtain ⟨g, cap, cur, hv, hg, hc, r⟩ := h
  exact ⟨g, cap, cur, hv, hg, (hb g hg (Array.getElem?_eq_some_iff.1 hc).1).trans hc, r⟩
theorem own_at {W : World} {base lo n : Nat} {x : List Int} {v : Value} (h : W.ownsRow base 3 1 v n (x.map (.int .i64))) (hv : ¬ v = .slice none 0 0) (hn : x.length = n) (hl : lo ≤ base) : OwnAt W lo x v := by
  rcases h.2 with ⟨h, _⟩ | ⟨g, cap, cur, hv2, hg, hc, hnc, hm, hsz, htk⟩
  · exact absurd h hv
  · exact ⟨g, cap, cur, by rw [hn]; exact hv2, by omega, hc, by omega, hm, by omega, by rw [hn]; rw [Nat.mul_one] at htk; exact htk⟩
theorem OwnAt.ints {W : World} {lo : Nat} {x : List Int} {v : Value} (h : OwnAt W lo x v) : Ints W v x := by
  obtain ⟨g, cap, cur, hv, hg, hc, hl, hm, hsz, htk⟩ := h
  refine ⟨_, _, hv, hl, by unfold maxLen at hm; omega, .inr ⟨g, 0, rfl, ?_⟩⟩
  intro j y hj
  have h2 : cur.toList[j]? = some y := by
    have hj2 : j < x.length := by have := (List.getElem?_eq_some_iff.1 hj).1; simpa using this
    rw [← htk, List.getElem?_take_of_lt hj2] at hj
    exact hj
  rw [Array.getElem?_toList] at h2
  simp [World.cell?, hc, h2]
theorem solveI_kept {p : Who} {s lo n0 k r : Nat} {w A B : World} (h : SolveI p s lo n0 w k A) (hg : A.grownBy B (some r)) (h1 : s + 1 < r) (h2 : r < lo) (h3 : n0 ≤ w.heap.size) (h4 : n0 ≤ r) : SolveI p s lo n0 w k B := by
  obtain ⟨v, z, hv, hz, hh, hb⟩ := h
  refine ⟨v, z, hv.grown hg (by simp; omega), hz.grown hg (by simp; omega), hh.trans (Held.grown hg (fun j hj => ⟨by have := hh.size; omega, by omega⟩)), ?_⟩
  cases hk : bestK p k with
  | none => rw [hk] at hb; exact hb
  | some x => rw [hk] at hb; exact ⟨hb.1.of_block (fun g hg1 hg2 => hg.block g hg2 (by simp; omega)), hb.2⟩
def SolveOut (p : Who) (w : World) (e : Ending) (w' : World) : Prop :=
  Ext w w' ∧ ((whoB p = false ∧ e = .returned (.tuple #[.slice none 0 0, .int .i64 0, .int .i64 2])) ∨
    (whoB p = true ∧ bestK p (sizeU p.U) = none ∧ e = .returned (.tuple #[.slice none 0 0, .int .i64 0, .int .i64 10])) ∨
    (whoB p = true ∧ ∃ x v, bestK p (sizeU p.U) = some x ∧ e = .returned (.tuple #[v, .int .i64 (dotZ p.C x), .int .i64 0]) ∧ OwnAt w' w.heap.size x v))
theorem put_ext {w WR W : World} {D : Nat} (o : Obj) (h1 : Ext w WR) (h2 : Held (fun j => j < w.heap.size) WR W) (hD : w.heap.size ≤ D) : Ext w (W.putObj D o) :=
  ((Held.of_below h1).trans h2 |>.trans (Held.grown (grown_put W D o) (fun j hj => ⟨by have := h1.size; have := h2.size; omega, by omega⟩))).below
theorem held_set {S : Nat → Prop} (W : World) (g o : Nat) (x : Value) (h : ∀ j, S j → j ≠ g) : Held S W (W.setCell ⟨g, o, none⟩ x) :=
  ⟨rfl, rfl, rfl, by simp, fun j hj => Below.heap_setCell _ _ _ _ (h j hj)⟩
theorem solve_step {p : Who} {s n0 n k : Nat} {WR W W1 : World} {v old : Value} {oldz z : Value} (hh : Held (fun j => j < n0) WR W) (he : Ext W W1) (hown : W1.ownsRow W.heap.size 3 1 v n ((vecAt p.U k).map (.int .i64)))
    (hv : ¬ v = .slice none 0 0) (hn : (vecAt p.U k).length = n) (hs : s + 3 + 2 < W.heap.size) (hvr : VRow W s 23 [old]) (hzr : VRow W (s + 1) 3 [oldz]) (hn0 : n0 ≤ s) (hb : bestK p (k + 1) = some (vecAt p.U k)) (hz : z = .int .i64 (dotZ p.C (vecAt p.U k))) :
    Held (fun j => j < n0 ∨ j = s + 2 ∨ s + 3 ≤ j ∧ j ≤ s + 3 + 2) W ((W1.setCell ⟨s, 0, none⟩ v).setCell ⟨s + 1, 0, none⟩ z) ∧ SolveI p s (s + 6) n0 WR (k + 1) ((W1.setCell ⟨s, 0, none⟩ v).setCell ⟨s + 1, 0, none⟩ z) := by
  subst hz
  have h1 : Held (fun j => j < n0 ∨ j = s + 2 ∨ s + 3 ≤ j ∧ j ≤ s + 3 + 2) W ((W1.setCell ⟨s, 0, none⟩ v).setCell ⟨s + 1, 0, none⟩ (.int .i64 (dotZ p.C (vecAt p.U k)))) :=
    (((Held.of_below he).mono (fun j (hj : j < n0 ∨ j = s + 2 ∨ s + 3 ≤ j ∧ j ≤ s + 3 + 2) => by omega)).trans (held_set _ _ _ _ (fun j hj => by omega))).trans (held_set _ _ _ _ (fun j hj => by omega))
  refine ⟨h1, v, dotZ p.C (vecAt p.U k), ?_, ?_, hh.trans (h1.mono (fun j hj => .inl hj)), ?_⟩
  · exact VRow.setOther (VRow.set (VRow.ext hvr he) 0 v) (by simp) _
  · exact VRow.set (VRow.setOther (VRow.ext hzr he) (by simp) v) 0 _
  · rw [hb]
    refine ⟨?_, rfl⟩
    have h2 := own_at (lo := s + 6) hown hv hn (by omega)
    exact (h2.of_block (W' := W1.setCell ⟨s, 0, none⟩ v) (fun g hg _ => Below.heap_setCell _ _ _ _ (by show g ≠ s; omega))).of_block (fun g hg _ => Below.heap_setCell _ _ _ _ (by show g ≠ s + 1; omega))
set_option maxRecDepth 100000 in
set_option maxHeartbeats 2000000 in
theorem solve_c (a b c u : Value) (p : Who) (w : World) (h : WhoAt w a b c u p) :
    Calls Try.prog 11 #[.agg #[a, b, c, u]] w (SolveOut p w) := by
  obtain ⟨h0, h1, h2⟩ := who_box h
  refine (callsIn_wide (n := 5)).1 ?_
  have q0 := VRow.cell h0 (k := 0) rfl
  have q1 := VRow.cell h0 (k := 1) rfl
  have q2 := VRow.cell h0 (k := 2) rfl
  have q3 := VRow.cell h0 (k := 3) rfl
  have hs : w.heap.size < (w.alloc (.cells #[a, b, c, u] 25)).heap.size := by simp
  change (w.alloc (.cells #[a, b, c, u] 25)).cell? _ = _ at q0 q1 q2 q3
  have HH := Lib.hid h
  have HV := Lib.hid h0
  have HW := Lib.hid h1
  have HE := Lib.hid h2
  have HVC := Lib.hid (valid_c a b c u p _ h1)
  clear h h0 h1 h2
  refine callsIn_of_wp_marks Try.func11 rfl trivial ?_ rfl
  simp only [Try.ntmps11, List.size_toArray, List.length_cons, List.length_nil, Nat.reduceAdd, Nat.reduceSub, Array.replicate_succ, Array.replicate_zero, List.push_toArray, List.append_toArray, List.nil_append, List.cons_append]
  gi_wp2_with fail
  clear q0 q1 q2 q3
  refine ⟨trivial, (callsIn_wide.2 HVC.out).mono ?_⟩
  rintro e w1 ⟨rfl, hE1⟩
  have HE1 := Lib.hid hE1
  clear hE1
  generalize w.alloc (.cells #[a, b, c, u] 25) = w0 at *
  cases hv : whoB p
  · have Hv := Lib.hid hv
    clear hv
    gi_wp2
    refine ⟨.tuple #[.slice none 0 0, .int .i64 0, .int .i64 2], ?_, ?_⟩
    · simp [results, Try.f11, go_sem]
    · exact ⟨HE.out.trans HE1.out, .inl ⟨Hv.out, rfl⟩⟩
  · have Hv := Lib.hid hv
    clear hv
    have hbx := VRow.alloc (VRow.alloc (HV.out.ext HE1.out) (.cells #[.slice none 0 0] 23)) (.cells #[.int .i64 0] 3)
    have hb0 := vrow_alloc w1 [.slice none 0 0] 23
    have hb1 := VRow.alloc hb0 (.cells #[.int .i64 0] 3)
    have hl1 := vrow_alloc (w1.alloc (.cells #[.slice none 0 0] 23)) [.int .i64 0] 3
    rw [World.size_alloc] at hl1
    have HEx := Lib.hid (Ext.alloc (Ext.alloc (Ext.refl w1) (.cells #[.slice none 0 0] 23)) (.cells #[.int .i64 0] 3))
    change VRow ((w1.alloc (.cells #[.slice none 0 0] 23)).alloc (.cells #[.int .i64 0] 3)) _ _ _ at hl1 hb1
    have q0 := VRow.cell hbx (k := 0) rfl
    have q1 := VRow.cell hbx (k := 1) rfl
    have q2 := VRow.cell hbx (k := 2) rfl
    have q3 := VRow.cell hbx (k := 3) rfl
    have HBX := Lib.hid hbx
    have HB1 := Lib.hid hb1
    have HL1 := Lib.hid hl1
    have HFE := Lib.hid (feasible_c a b c u ((w1.alloc (.cells #[.slice none 0 0] 23)).alloc (.cells #[.int .i64 0] 3)))
    have hsz : ((w1.alloc (.cells #[.slice none 0 0] 23)).alloc (.cells #[.int .i64 0] 3)).heap.size = w1.heap.size + 2 := by simp
    clear hbx hb0 hb1 hl1
    gi_wp2_with fail
    clear q0 q1 q2 q3
    generalize (w1.alloc (.cells #[.slice none 0 0] 23)).alloc (.cells #[.int .i64 0] 3) = w2 at *
    refine ⟨trivial, (callsIn_wide.2 HFE.out).mono ?_⟩
    rintro e w3 ⟨rfl, rfl⟩
    have HB2 := Lib.hid (VRow.alloc HB1.out (.cells #[a, b, c, u] 25))
    have HL2 := Lib.hid (VRow.alloc HL1.out (.cells #[a, b, c, u] 25))
    have HBW := Lib.hid (vrow_alloc w2 [a, b, c, u] 25)
    have hsz2 : (w2.alloc (.cells #[a, b, c, u] 25)).heap.size = w1.heap.size + 3 := by simp [hsz]
    gi_wp2_with fail
    have HB3 := Lib.hid HB2.out
    have h5 := (whoP Hv.out)
    have HP5 := Lib.hid h5
    clear h5
    have hwx : Ext w (w2.alloc (.cells #[a, b, c, u] 25)) := Ext.alloc (((HE.out.trans HE1.out)).trans HEx.out) _
    have hws : w.heap.size ≤ w1.heap.size := Nat.le_trans (Nat.le_of_lt hs) HE1.out.size
    rw [hsz] at HBW
    have HWX := Lib.hid hwx
    clear hwx HFE HVC HBX HB1 HL1 HEx
    generalize (w2.alloc (.cells #[a, b, c, u] 25)) = WR at *
    generalize w1.heap.size = s at *
    clear hsz
    refine wpIn_range_k (by omega) (gf := 32) (lb := #[.pointer (some ⟨s + 2, 0, none⟩)]) rfl (enters_of Try.func32 (by kernel_rfl) rfl) w.heap.size (s + 2) (sizeU p.U) (encK p) (fun _ _ => rfl) (yesK p) (layK p)
      (fun b k A B r h hg hr => VRow.grown h hg (by simp; omega)) (fun b k A h => VRow.lt h) HWX.out.size (by omega)
      (fun l J W hW hJ hY hS h0 => iter_c 4 (by omega) l (s + 2) a b c u p w WR W HH.out Hv.out HWX.out HBW.out hW J hJ hY hS h0)
      (SolveI p s (s + 6) w.heap.size WR)
      (fun k A B r h hg h1 h2 => solveI_kept h hg (by omega) (by omega) HWX.out.size (by omega))
      ⟨_, _, HB2.out, HL2.out, Held.refl _ _, rfl⟩
      (fun k => { tmps := #[.agg #[a, b, c, u], .pointer (some ⟨w.heap.size, 0, none⟩), .slice none 0 0, .int .i64 0, .int .i64 0, .pointer (some ⟨s, 0, none⟩), .pointer (some ⟨s + 1, 0, none⟩),
        .slice (some ⟨s + 3 + 2, 0, none⟩) p.U.length p.U.length, .int .i64 (dotZ p.C (vecAt p.U k)), .agg #[a, b, c, u], .bool true, .bool false, .agg #[a, b, c, u], .func (.func 32) #[] #[.pointer (some ⟨s + 2, 0, none⟩)],
        .slice (some ⟨s + 3 + 2, 0, none⟩) p.U.length p.U.length, .int .i64 (dotZ p.C (vecAt p.U k)), undef, undef, undef, undef, undef, undef, undef, undef, undef, undef, undef, undef, undef, undef], defers := [] })
      ?assign ?skip ?body ?done
    case assign =>
      intro l k W K hK
      rw [hsz2]
      gi_wp2
      exact hK
    case skip =>
      rintro k W ⟨v, z, hv, hz, hh, hb⟩ hk hn
      refine ⟨v, z, hv, hz, hh, ?_⟩
      simp only [bestK]
      rw [if_neg hn]
      exact hb
    case body =>
      rintro l k W ⟨v, z, hv, hz, hh, hb⟩ hk hy hR hlt
      rw [hsz2] at hR hlt
      rw [hsz2]
      have qv := VRow.cell hv (k := 0) rfl
      have qz := VRow.cell hz (k := 0) rfl
      have Hhv := Lib.hid hv
      have Hhz := Lib.hid hz
      have Hhh := Lib.hid hh
      have HhR := Lib.hid hR
      clear hv hz hh hR
      cases hbk : bestK p k with
      | none =>
        rw [hbk] at hb
        subst hb
        have Hbk := Lib.hid hbk
        clear hbk
        have hnil := Go.Lib.run_eql_slice_nil (P := Try.prog) W 23 3 none 0 0 0 0 Try.underlying23
        have HCL := Lib.hid (clone_c (s + 3 + 2) p.U.length (vecAt p.U k) W HhR.out (vecAt_length _ _) (by have := HP5.out.1; have := HP5.out.2.1; omega))
        have HBB : RowKit.Hid (bestK p (k + 1) = some (vecAt p.U k)) := Lib.hid (by simp only [bestK]; rw [if_pos hy, Hbk.out])
        gi_wp2_with fail
        refine ⟨trivial, (CallsIn.inRound l (callsIn_wide.2 HCL.out)).mono ?_⟩
        rintro e W1 ⟨g2, cap2, rfl, hown, hE2⟩
        have qv := VRow.frozen (VRow.ext Hhv.out hE2) 0 none
        have qz := VRow.frozen (VRow.ext Hhz.out hE2) 0 none
        have qc := VRow.cell (VRow.ext Hhv.out hE2) (k := 0) rfl
        have qd := VRow.cell (VRow.ext Hhz.out hE2) (k := 0) rfl
        have HO := Lib.hid hown
        have HE2 := Lib.hid hE2
        clear hown hE2 hnil
        gi_wp2_with fail
        exact solve_step Hhh.out HE2.out HO.out (by simp) (vecAt_length _ _) hlt Hhv.out Hhz.out hws HBB.out rfl
      | some x =>
        rw [hbk] at hb
        obtain ⟨⟨g, cap, cur, rfl, hg⟩, rfl⟩ := hb
        have Hbk := Lib.hid hbk
        clear hbk
        have hnil := Go.Lib.run_eql_slice_nil (P := Try.prog) W 23 3 (some ⟨g, 0, none⟩) x.length cap 0 0 Try.underlying23
        have HCL := Lib.hid (clone_c (s + 3 + 2) p.U.length (vecAt p.U k) W HhR.out (vecAt_length _ _) (by have := HP5.out.1; have := HP5.out.2.1; omega))
        by_cases hlss : dotZ p.C (vecAt p.U k) < dotZ p.C x
        · have HBB : RowKit.Hid (bestK p (k + 1) = some (vecAt p.U k)) := Lib.hid (by simp only [bestK]; rw [if_pos hy, Hbk.out]; simp [hlss])
          gi_wp2_with fail
          refine ⟨trivial, (CallsIn.inRound l (callsIn_wide.2 HCL.out)).mono ?_⟩
          rintro e W1 ⟨g2, cap2, rfl, hown, hE2⟩
          have qv := VRow.frozen (VRow.ext Hhv.out hE2) 0 none
          have qz := VRow.frozen (VRow.ext Hhz.out hE2) 0 none
          have qc := VRow.cell (VRow.ext Hhv.out hE2) (k := 0) rfl
          have qd := VRow.cell (VRow.ext Hhz.out hE2) (k := 0) rfl
          have HO := Lib.hid hown
          have HE2 := Lib.hid hE2
          clear hown hE2 hnil
          gi_wp2_with fail
          exact solve_step Hhh.out HE2.out HO.out (by simp) (vecAt_length _ _) hlt Hhv.out Hhz.out hws HBB.out rfl
        · have HBB : RowKit.Hid (bestK p (k + 1) = some x) := Lib.hid (by simp only [bestK]; rw [if_pos hy, Hbk.out]; simp [hlss])
          have HG := Lib.hid hg
          clear hg
          gi_wp2_with fail
          exact ⟨Held.refl _ _, _, _, Hhv.out, Hhz.out, Hhh.out, by rw [HBB.out]; exact ⟨⟨g, cap, cur, rfl, HG.out⟩, rfl⟩⟩
    case done =>
      rintro W ⟨v, z, hv, hz, hh, hb⟩ hK
      have qv := VRow.cell hv (k := 0) rfl
      have qz := VRow.cell hz (k := 0) rfl
      cases hbk : bestK p (sizeU p.U) with
      | none =>
        rw [hbk] at hb
        subst hb
        have hnil := Go.Lib.run_eql_slice_nil (P := Try.prog) W 23 3 none 0 0 0 0 Try.underlying23
        have Hhv := Lib.hid hv
        have Hhz := Lib.hid hz
        have Hhh := Lib.hid hh
        have Hbk := Lib.hid hbk
        have HK := Lib.hid hK
        clear hv hz hh hbk hK
        gi_wp2
        refine ⟨by simp, .inl ⟨_, _, rfl, run_takeDeferred HK.out, ?_⟩⟩
        exact ⟨.tuple #[.slice none 0 0, .int .i64 0, .int .i64 10], by simp [results, Try.f11, go_sem], put_ext _ HWX.out Hhh.out HWX.out.size, .inr (.inl ⟨Hv.out, Hbk.out, rfl⟩)⟩
      | some x =>
        rw [hbk] at hb
        obtain ⟨hg, rfl⟩ := hb
        have HO := Lib.hid hg
        obtain ⟨g, cap, cur, rfl, hg⟩ := hg
        have hnil := Go.Lib.run_eql_slice_nil (P := Try.prog) W 23 3 (some ⟨g, 0, none⟩) x.length cap 0 0 Try.underlying23
        have Hhv := Lib.hid hv
        have Hhz := Lib.hid hz
        have Hhh := Lib.hid hh
        have Hbk := Lib.hid hbk
        have HK := Lib.hid hK
        clear hv hz hh hbk hK hg
        gi_wp2_with fail
        have hdr : Try.prog.follows .lateStores = true := by kernel_rfl
        gi_region_o
        gi_wp2
        have HK2 : RowKit.Hid (W.drew.heap[WR.heap.size]? = some (.deferred (some []))) := Lib.hid HK.out
        have HH2 : RowKit.Hid (Held (fun j => j < w.heap.size) WR W.drew) := Lib.hid ⟨Hhh.out.os, Hhh.out.tape, Hhh.out.output, Hhh.out.size, Hhh.out.block⟩
        refine ⟨by simp, .inl ⟨_, _, rfl, run_takeDeferred HK2.out, ?_⟩⟩
        refine ⟨.tuple #[.slice (some ⟨g, 0, none⟩) x.length cap, .int .i64 (dotZ p.C x), .int .i64 0], by simp [results, Try.f11, go_sem], put_ext _ HWX.out HH2.out HWX.out.size, .inr (.inr ⟨Hv.out, x, _, Hbk.out, rfl, ?_⟩)⟩
        have h8 : OwnAt W.drew (s + 6) x (.slice (some ⟨g, 0, none⟩) x.length cap) := HO.out.of_block (fun _ _ _ => rfl)
        obtain ⟨g9, cap9, cur9, e9, hg9, r9⟩ := h8.of_block (W' := W.drew.putObj WR.heap.size (.deferred none)) (fun g9 hg9 _ => World.putObj_heap_other (by omega))
        exact ⟨g9, cap9, cur9, e9, by omega, r9⟩
end Go.Proofs.Ytblaipkhmmaenaa
