import Derived.Test.YtblaipkhmmaenaaL3
namespace Go.Proofs.Ytblaipkhmmaenaa
open Go.RowKit
attribute [local go_sem] Oper.semAt_some
def CountI (p : Who) (co : Int) (s n0 : Nat) (w : World) (k : Nat) (W : World) : Prop :=
  VRow W s 3 [.int .i64 (countK p co k)] ∧ Held (fun j => j < n0) w W
theorem countI_kept {p : Who} {co : Int} {s n0 k r : Nat} {w A B : World} (h : CountI p co s n0 w k A) (hg : A.grownBy B (some r)) (h1 : s < r) (h3 : n0 ≤ w.heap.size) (h4 : n0 ≤ r) : CountI p co s n0 w k B :=
  ⟨h.1.grown hg (by simp; omega), h.2.trans (Held.grown hg (fun j hj => ⟨by have := h.2.size; omega, by omega⟩))⟩
theorem count_step {p : Who} {co : Int} {s n0 k : Nat} {WR W : World} {z : Int} (hh : Held (fun j => j < n0) WR W) (hvr : VRow W s 3 [.int .i64 (countK p co k)]) (hn0 : n0 ≤ s) (hz : z = (countK p co (k + 1) : Nat)) :
    Held (fun j => j < n0 ∨ j = s + 1 ∨ s + 2 ≤ j ∧ j ≤ s + 2 + 2) W (W.setCell ⟨s, 0, none⟩ (.int .i64 z)) ∧ CountI p co s n0 WR (k + 1) (W.setCell ⟨s, 0, none⟩ (.int .i64 z)) := by
  subst hz
  have h1 : Held (fun j => j < n0 ∨ j = s + 1 ∨ s + 2 ≤ j ∧ j ≤ s + 2 + 2) W (W.setCell ⟨s, 0, none⟩ (.int .i64 (countK p co (k + 1)))) := held_set _ _ _ _ (fun j hj => by omega)
  exact ⟨h1, VRow.set hvr 0 _, hh.trans (h1.mono (fun j hj => .inl hj))⟩
set_option maxRecDepth 100000 in
set_option maxHeartbeats 2000000 in
theorem count_c (a b c u : Value) (co : Int) (p : Who) (w : World) (h : WhoAt w a b c u p) :
    Calls Try.prog 14 #[.agg #[a, b, c, u], .int .i64 co] w fun e w' => Ext w w' ∧
      ((whoB p = false ∧ e = .returned (.tuple #[.int .i64 0, .int .i64 2])) ∨ (whoB p = true ∧ e = .returned (.tuple #[.int .i64 (countK p co (sizeU p.U)), .int .i64 0]))) := by
  obtain ⟨h0, h1, h2⟩ := who_box h
  refine (callsIn_wide (n := 5)).1 ?_
  have g0 := VRow.alloc h0 (.cells #[.int .i64 co] 3)
  have gc := vrow_alloc (w.alloc (.cells #[a, b, c, u] 25)) [.int .i64 co] 3
  have gW := h1.ext (Ext.alloc (Ext.refl _) (.cells #[.int .i64 co] 3))
  have gE := Ext.alloc h2 (.cells #[.int .i64 co] 3)
  have hs : ((w.alloc (.cells #[a, b, c, u] 25)).alloc (.cells #[.int .i64 co] 3)).heap.size = w.heap.size + 2 := by simp
  rw [World.size_alloc] at gc
  have q0 := VRow.cell g0 (k := 0) rfl
  have q1 := VRow.cell g0 (k := 1) rfl
  have q2 := VRow.cell g0 (k := 2) rfl
  have q3 := VRow.cell g0 (k := 3) rfl
  have HV := Lib.hid g0
  have HC := Lib.hid gc
  have HW := Lib.hid gW
  have HE := Lib.hid gE
  have HVC := Lib.hid (valid_c a b c u p _ gW)
  clear h h0 h1 h2 g0 gc gW gE
  refine callsIn_of_wp_marks Try.func14 rfl trivial ?_ rfl
  simp only [Try.ntmps14, List.size_toArray, List.length_cons, List.length_nil, Nat.reduceAdd, Nat.reduceSub, Array.replicate_succ, Array.replicate_zero, List.push_toArray, List.append_toArray, List.nil_append, List.cons_append]
  gi_wp2_with fail
  clear q0 q1 q2 q3
  refine ⟨trivial, (callsIn_wide.2 HVC.out).mono ?_⟩
  rintro e w1 ⟨rfl, hE1⟩
  have HE1 := Lib.hid hE1
  clear hE1
  change Hid (VRow ((w.alloc (.cells #[a, b, c, u] 25)).alloc (.cells #[.int .i64 co] 3)) _ _ _) at HC
  generalize (w.alloc (.cells #[a, b, c, u] 25)).alloc (.cells #[.int .i64 co] 3) = w0 at *
  cases hv : whoB p
  · have Hv := Lib.hid hv
    clear hv
    gi_wp2
    refine ⟨.tuple #[.int .i64 0, .int .i64 2], ?_, ?_⟩
    · simp [results, Try.f14, go_sem]
    · exact ⟨HE.out.trans HE1.out, .inl ⟨Hv.out, rfl⟩⟩
  · have Hv := Lib.hid hv
    clear hv
    have hbx := VRow.alloc (HV.out.ext HE1.out) (.cells #[.int .i64 0] 3)
    have hb0 := vrow_alloc w1 [.int .i64 0] 3
    have HEx := Lib.hid (Ext.alloc (Ext.refl w1) (.cells #[.int .i64 0] 3))
    change VRow (w1.alloc (.cells #[.int .i64 0] 3)) _ _ _ at hb0
    have q0 := VRow.cell hbx (k := 0) rfl
    have q1 := VRow.cell hbx (k := 1) rfl
    have q2 := VRow.cell hbx (k := 2) rfl
    have q3 := VRow.cell hbx (k := 3) rfl
    have HB0 := Lib.hid hb0
    have HFE := Lib.hid (feasible_c a b c u (w1.alloc (.cells #[.int .i64 0] 3)))
    have hsz : (w1.alloc (.cells #[.int .i64 0] 3)).heap.size = w1.heap.size + 1 := by simp
    clear hbx hb0
    gi_wp2_with fail
    clear q0 q1 q2 q3
    generalize (w1.alloc (.cells #[.int .i64 0] 3)) = w2 at *
    refine ⟨trivial, (callsIn_wide.2 HFE.out).mono ?_⟩
    rintro e w3 ⟨rfl, rfl⟩
    have HB2 := Lib.hid (VRow.alloc HB0.out (.cells #[a, b, c, u] 25))
    have HBW := Lib.hid (vrow_alloc w2 [a, b, c, u] 25)
    have hsz2 : (w2.alloc (.cells #[a, b, c, u] 25)).heap.size = w1.heap.size + 2 := by simp [hsz]
    gi_wp2_with fail
    have HP5 := Lib.hid (whoP Hv.out)
    have hwx : Ext w0 (w2.alloc (.cells #[a, b, c, u] 25)) := Ext.alloc (HE1.out.trans HEx.out) _
    have hws : w0.heap.size ≤ w1.heap.size := HE1.out.size
    rw [hsz] at HBW
    have HWX := Lib.hid hwx
    clear hwx HFE HVC HB0 HEx
    generalize (w2.alloc (.cells #[a, b, c, u] 25)) = WR at *
    generalize w1.heap.size = s at *
    clear hsz
    have hN : sizeU p.U ≤ 32768 := by
      refine Nat.le_trans (sizeU_le p.U (fun z hz => (HP5.out.2.2.1 z hz).2)) ?_
      exact Nat.pow_le_pow_right (n := 8) (by omega) (show p.U.length ≤ 5 by have := HP5.out.1; have := HP5.out.2.1; omega)
    have hcl := Lib.hid (countK_le p co)
    refine wpIn_range_k (by omega) (gf := 32) (lb := #[.pointer (some ⟨s + 1, 0, none⟩)]) rfl (enters_of Try.func32 (by kernel_rfl) rfl) w0.heap.size (s + 1) (sizeU p.U) (encK p) (fun _ _ => rfl) (yesK p) (layK p)
      (fun b k A B r h hg hr => VRow.grown h hg (by simp; omega)) (fun b k A h => VRow.lt h) HWX.out.size (by omega)
      (fun l J W hW hJ hY hS h0 => iter_c 4 (by omega) l (s + 1) a b c u p w0 WR W HW.out Hv.out HWX.out HBW.out hW J hJ hY hS h0)
      (CountI p co s w0.heap.size WR)
      (fun k A B r h hg h1 h2 => countI_kept h hg (by omega) HWX.out.size (by omega))
      ⟨HB2.out, Held.refl _ _⟩
      (fun k => { tmps := #[.agg #[a, b, c, u], .int .i64 co, .pointer (some ⟨w.heap.size, 0, none⟩), .pointer (some ⟨w.heap.size + 1, 0, none⟩), .int .i64 0, .int .i64 0, .pointer (some ⟨s, 0, none⟩), undef, .int .i64 (dotZ p.C (vecAt p.U k)),
        .agg #[a, b, c, u], .bool true, .bool false, .agg #[a, b, c, u], .func (.func 32) #[] #[.pointer (some ⟨s + 1, 0, none⟩)],
        .slice (some ⟨s + 2 + 2, 0, none⟩) p.U.length p.U.length, .int .i64 (dotZ p.C (vecAt p.U k)), undef, undef, undef, undef, undef, undef], defers := [] })
      ?assign ?skip ?body ?done
    case assign =>
      intro l k W K hK
      rw [hsz2]
      gi_wp2
      exact hK
    case skip =>
      rintro k W ⟨hv, hh⟩ hk hn
      refine ⟨?_, hh⟩
      have : countK p co (k + 1) = countK p co k := by simp only [countK]; rw [if_neg (fun h => hn h.1)]; rfl
      rw [this]
      exact hv
    case body =>
      rintro l k W ⟨hv, hh⟩ hk hy hR hlt
      rw [hsz2] at hR hlt
      rw [hsz2]
      have qv := VRow.cell hv (k := 0) rfl
      have qf := VRow.frozen hv 0 none
      have qc : W.cell? ⟨w.heap.size + 1, 0, none⟩ = some (.int .i64 co) := by
        have h1 := VRow.cell (VRow.ext HC.out HWX.out) (k := 0) rfl
        rw [World.cell?_of_block (w := WR) (hh.block (w.heap.size + 1) (by show w.heap.size + 1 < w0.heap.size; omega))]
        exact h1
      have hwr : IntKind.i64.wrap ((countK p co k : Int) + 1) = (countK p co k : Int) + 1 := by
        have := hcl.out k
        simp [IntKind.wrap, IntKind.signed, IntKind.bits]
        omega
      have Hhv := Lib.hid hv
      have Hhh := Lib.hid hh
      clear hv hh hR
      by_cases hco : dotZ p.C (vecAt p.U k) ≤ co
      · have HK1 : RowKit.Hid ((countK p co k : Int) + 1 = (countK p co (k + 1) : Nat)) := Lib.hid (by simp only [countK]; rw [if_pos ⟨hy, hco⟩]; rfl)
        gi_wp2_with fail
        exact count_step Hhh.out Hhv.out (by omega) (by first | exact HK1.out | (simp only [hwr]; exact HK1.out))
      · have HK1 : RowKit.Hid (countK p co (k + 1) = countK p co k) := Lib.hid (by simp only [countK]; rw [if_neg (fun h => hco h.2)]; rfl)
        gi_wp2_with fail
        exact ⟨Held.refl _ _, by rw [HK1.out]; exact Hhv.out, by first | exact Hhh.out | (have h9 := Hhh.out; rw [hs] at h9; exact h9)⟩
    case done =>
      rintro W ⟨hv, hh⟩ hK
      have qv := VRow.cell hv (k := 0) rfl
      have Hhv := Lib.hid hv
      have Hhh := Lib.hid hh
      have HK := Lib.hid hK
      clear hv hh hK
      gi_wp2
      refine ⟨by simp, .inl ⟨_, _, rfl, run_takeDeferred HK.out, ?_⟩⟩
      exact ⟨.tuple #[.int .i64 (countK p co (sizeU p.U)), .int .i64 0], by simp [results, Try.f14, go_sem], HE.out.trans (put_ext _ HWX.out Hhh.out HWX.out.size), .inr ⟨Hv.out, rfl⟩⟩
end Go.Proofs.Ytblaipkhmmaenaa
