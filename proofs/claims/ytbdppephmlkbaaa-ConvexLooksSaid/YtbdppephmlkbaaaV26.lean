import Derived.Test.YtbdppephmlkbaaaV22
namespace Go.Proofs.Ytbdppephmlkbaaa
set_option maxRecDepth 100000
open Go.RowKit Go.Shelf
attribute [local go_sem] Oper.semAt_some
/-- a direction that Extreme takes -/
def extOk (ps : List Pt) (x y : Int) : Prop := validB ps = true ∧ farB x y = false ∧ ¬ (x = 0 ∧ y = 0)
def ExtS (ps : List Pt) (x y m i er : Int) : Prop := (extOk ps x y ∧ er = 0 ∧ m = (extK ps (x, y) ps.length).1 ∧ i = ((extK ps (x, y) ps.length).2 : Nat)) ∨ (¬ extOk ps x y ∧ er = 2 ∧ m = 0 ∧ i = 0)
set_option maxRecDepth 100000 in
set_option maxHeartbeats 2000000 in
theorem Extreme_c (v : Value) (ps : List Pt) (x y : Int) (w : World) (hv : Vecs w v ps) :
    Calls Try.prog 20 #[v, vecV x y] w fun e w' => ∃ m i er : Int, e = .returned (.tuple #[.int .i64 m, .int .i64 i, .int .i64 er]) ∧ ExtS ps x y m i er ∧ Ext w w' := by
  obtain ⟨a, cap, rfl, hl, hm, hra⟩ := hv.at
  have hE0 := Ext.alloc (Ext.refl w) (.cells #[.int .i64 x, .int .i64 y] 32)
  have HV := Lib.hid (hv.ext hE0)
  have HE0 := Lib.hid hE0
  have HB := Lib.hid (show VRow (w.alloc (.cells #[.int .i64 x, .int .i64 y] 32)) _ _ _ from vrow_alloc w [.int .i64 x, .int .i64 y] 32)
  clear hv hE0 hra
  cases hf : validB ps with
  | false =>
    have HO := Lib.hid (show ¬ extOk ps x y from fun h => by rw [extOk, hf] at h; exact absurd h.1 (by decide))
    have Hf := Lib.hid hf
    clear hf
    go_enter Try.func20, Try.ntmps20
    go_wp2_with fail
    refine (valid_c _ ps _ HV.out).mono ?_
    rintro e w2 ⟨rfl, hE⟩
    rw [Hf.out]
    go_wp2_with fail
    (try simp only [Exit.inBlock, Exit.then])
    refine bodyPost_ret (results_tmp3 rfl _ _ _) rfl ?_
    exact ⟨_, _, _, rfl, .inr ⟨HO.out, rfl, rfl, rfl⟩, Ext.trans HE0.out hE⟩
  | true =>
    cases hg : farB x y with
    | true =>
      have HO := Lib.hid (show ¬ extOk ps x y from fun h => by rw [extOk, hg] at h; exact absurd h.2.1 (by decide))
      have Hf := Lib.hid hf
      have Hg := Lib.hid hg
      clear hf hg
      go_enter Try.func20, Try.ntmps20
      go_wp2_with fail
      refine (valid_c _ ps _ HV.out).mono ?_
      rintro e w2 ⟨rfl, hE⟩
      rw [Hf.out]
      have hb := VRow.ext HB.out hE
      have b0 := VRow.cell hb (k := 0) rfl
      have b1 := VRow.cell hb (k := 1) rfl
      go_wp2_with fail
      refine (show Calls Try.prog 39 #[vecV x y] _ _ from (far_c x y _).mono ?_)
      rintro e w3 ⟨rfl, hE3⟩
      rw [Hg.out]
      clear b0 b1
      go_wp2_with fail
      (try simp only [Exit.inBlock, Exit.then])
      refine bodyPost_ret (results_tmp3 rfl _ _ _) rfl ?_
      exact ⟨_, _, _, rfl, .inr ⟨HO.out, rfl, rfl, rfl⟩, Ext.trans HE0.out (Ext.trans hE hE3)⟩
    | false =>
      have Hf := Lib.hid hf
      have Hg := Lib.hid hg
      have hxy := far_in hg
      have hn : ps.length ≤ 32 := (valid_near hf).2.2
      by_cases hx : x = 0
      · subst hx
        by_cases hy : y = 0
        · subst hy
          have HO := Lib.hid (show ¬ extOk ps 0 0 from fun h => h.2.2 ⟨rfl, rfl⟩)
          clear hf hg
          have HX := Lib.hid (show (-10000 ≤ 0 ∧ 0 ≤ 10000) ∧ (-10000 ≤ 0 ∧ 0 ≤ 10000) by omega)
          clear hxy
          go_enter Try.func20, Try.ntmps20
          go_wp2_with fail
          refine (valid_c _ ps _ HV.out).mono ?_
          rintro e w2 ⟨rfl, hE⟩
          rw [Hf.out]
          have hb := VRow.ext HB.out hE
          have b0 := VRow.cell hb (k := 0) rfl
          have b1 := VRow.cell hb (k := 1) rfl
          go_wp2_with fail
          refine (show Calls Try.prog 39 #[vecV 0 0] _ _ from (far_c 0 0 _).mono ?_)
          rintro e w3 ⟨rfl, hE3⟩
          rw [Hg.out]
          have HE3 := Lib.hid (Ext.trans hE hE3)
          clear b0 b1 hb hE hE3
          have hb := VRow.ext HB.out HE3.out
          have b0 := VRow.cell hb (k := 0) rfl
          have b1 := VRow.cell hb (k := 1) rfl
          go_wp2
          (try simp only [Exit.inBlock, Exit.then])
          refine bodyPost_ret (results_tmp3 rfl _ _ _) rfl ?_
          exact ⟨_, _, _, rfl, .inr ⟨HO.out, rfl, rfl, rfl⟩, Ext.trans HE0.out HE3.out⟩
        · have HO := Lib.hid (show extOk ps 0 y from ⟨hf, hg, fun h => hy h.2⟩)
          have hz : (y == 0) = false := by simpa using hy
          clear hf hg
          have HX := Lib.hid (show (-10000 ≤ 0 ∧ 0 ≤ 10000) ∧ (-10000 ≤ y ∧ y ≤ 10000) by omega)
          clear hxy
          go_enter Try.func20, Try.ntmps20
          go_wp2_with fail
          refine (valid_c _ ps _ HV.out).mono ?_
          rintro e w2 ⟨rfl, hE⟩
          rw [Hf.out]
          have hb := VRow.ext HB.out hE
          have b0 := VRow.cell hb (k := 0) rfl
          have b1 := VRow.cell hb (k := 1) rfl
          go_wp2_with fail
          refine (show Calls Try.prog 39 #[vecV 0 y] _ _ from (far_c 0 y _).mono ?_)
          rintro e w3 ⟨rfl, hE3⟩
          rw [Hg.out]
          have HE3 := Lib.hid (Ext.trans hE hE3)
          clear b0 b1 hb hE hE3
          have hb := VRow.ext HB.out HE3.out
          have b0 := VRow.cell hb (k := 0) rfl
          have b1 := VRow.cell hb (k := 1) rfl
          go_wp2_with fail
          refine (show Calls Try.prog 55 #[.slice a ps.length cap, vecV 0 y] w3 _ from (extreme_c _ ps 0 y w3 (HV.out.ext HE3.out) (fine_near (valid_near Hf.out).1) (by have := (valid_near Hf.out).2.1; omega) (by have := HX.out; unfold fine; omega) (by have := HX.out; unfold fine; omega)).mono ?_)
          rintro e w4 ⟨rfl, hE4⟩
          clear b0 b1
          generalize hm : (extK ps (0, y) ps.length).1 = M at *
          generalize hi : (extK ps (0, y) ps.length).2 = I at *
          have HI := Lib.hid hi
          clear hi
          have HM := Lib.hid hm
          clear hm
          simp only [two]
          go_wp2
          (try simp only [Exit.inBlock, Exit.then])
          refine bodyPost_ret (results_tmp3 rfl _ _ _) rfl ?_
          exact ⟨_, _, _, rfl, .inl ⟨HO.out, rfl, HM.out.symm, by rw [HI.out]⟩, Ext.trans HE0.out (Ext.trans HE3.out hE4)⟩
      · have HO := Lib.hid (show extOk ps x y from ⟨hf, hg, fun h => hx h.1⟩)
        have hz : (x == 0) = false := by simpa using hx
        clear hf hg
        have HX := Lib.hid (show (-10000 ≤ x ∧ x ≤ 10000) ∧ (-10000 ≤ y ∧ y ≤ 10000) by omega)
        clear hxy
        go_enter Try.func20, Try.ntmps20
        go_wp2_with fail
        refine (valid_c _ ps _ HV.out).mono ?_
        rintro e w2 ⟨rfl, hE⟩
        rw [Hf.out]
        have hb := VRow.ext HB.out hE
        have b0 := VRow.cell hb (k := 0) rfl
        have b1 := VRow.cell hb (k := 1) rfl
        go_wp2_with fail
        refine (show Calls Try.prog 39 #[vecV x y] _ _ from (far_c x y _).mono ?_)
        rintro e w3 ⟨rfl, hE3⟩
        rw [Hg.out]
        have HE3 := Lib.hid (Ext.trans hE hE3)
        clear b0 b1 hb hE hE3
        have hb := VRow.ext HB.out HE3.out
        have b0 := VRow.cell hb (k := 0) rfl
        have b1 := VRow.cell hb (k := 1) rfl
        go_wp2_with fail
        refine (show Calls Try.prog 55 #[.slice a ps.length cap, vecV x y] w3 _ from (extreme_c _ ps x y w3 (HV.out.ext HE3.out) (fine_near (valid_near Hf.out).1) (by have := (valid_near Hf.out).2.1; omega) (by have := HX.out; unfold fine; omega) (by have := HX.out; unfold fine; omega)).mono ?_)
        rintro e w4 ⟨rfl, hE4⟩
        clear b0 b1
        generalize hm : (extK ps (x, y) ps.length).1 = M at *
        generalize hi : (extK ps (x, y) ps.length).2 = I at *
        have HI := Lib.hid hi
        clear hi
        have HM := Lib.hid hm
        clear hm
        simp only [two]
        go_wp2
        (try simp only [Exit.inBlock, Exit.then])
        refine bodyPost_ret (results_tmp3 rfl _ _ _) rfl ?_
        exact ⟨_, _, _, rfl, .inl ⟨HO.out, rfl, HM.out.symm, by rw [HI.out]⟩, Ext.trans HE0.out (Ext.trans HE3.out hE4)⟩
end Go.Proofs.Ytbdppephmlkbaaa
