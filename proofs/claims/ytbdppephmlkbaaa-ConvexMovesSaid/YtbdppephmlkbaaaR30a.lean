import Derived.Test.YtbdppephmlkbaaaRB
import Derived.Test.YtbdppephmlkbaaaRC
namespace Go.Proofs.Ytbdppephmlkbaaa
set_option maxRecDepth 100000
open Go.RowKit Go.Shelf
attribute [local go_sem] Oper.semAt_some
/-! The law ConvexMoves. -/
theorem mix_two (ps qs : List Pt) : ∃ m e : Int, mixR ps qs = two (.int .i64 m) (.int .i64 e) := by
  unfold mixR
  split
  · exact ⟨_, _, rfl⟩
  · exact ⟨_, _, rfl⟩
set_option maxHeartbeats 8000000 in
theorem moves_law (v u : Value) (ps qs : List Pt) (x y : Int) (w : World) (hv : Vecs w v ps ∧ NilO v) (hu : Vecs w u qs ∧ NilO u) :
    Calls Try.prog 5 #[v, u, vecV x y] w fun e w' => e = .returned (.bool true) ∧ Ext w w' := by
  have HV := Lib.hid hv.1
  have HNL := Lib.hid hv.2
  have HU := Lib.hid hu.1
  have HNU := Lib.hid hu.2
  obtain ⟨a1, c1, rfl, hl1, hm1, _⟩ := hv.1.at
  obtain ⟨a2, c2, rfl, hl2, hm2, _⟩ := hu.1.at
  clear hv hu
  have HE0 := Lib.hid (Ext.alloc (Ext.refl w) (.cells #[.int .i64 x, .int .i64 y] 32))
  have HB := Lib.hid (show VRow (w.alloc (.cells #[.int .i64 x, .int .i64 y] 32)) _ _ _ from vrow_alloc w [.int .i64 x, .int .i64 y] 32)
  go_enter Try.func5, Try.ntmps5
  go_wp2_with fail
  obtain ⟨g, hg⟩ : ∃ g, g = w.heap.size := ⟨_, rfl⟩
  rw [← hg] at HB ⊢
  obtain ⟨w1, hw1⟩ : ∃ w1, w1 = w.alloc (.cells #[.int .i64 x, .int .i64 y] 32) := ⟨_, rfl⟩
  rw [← hw1] at HB HE0 ⊢
  clear hg hw1
  refine (few_c _ _ _ w1 (by omega)).mono ?_
  rintro e w2 ⟨rfl, rfl⟩
  by_cases hf1 : ps.length ≤ 300
  · rw [decide_eq_true hf1]
    go_wp2_with fail
    refine (few_c _ _ _ w1 (by omega)).mono ?_
    rintro e w2 ⟨rfl, rfl⟩
    by_cases hf2 : qs.length ≤ 300
    · rw [decide_eq_true hf2]
      go_wp2_with fail
      refine (copyd_c _ ps w1 (HV.out.ext HE0.out) HNL.out hf1).mono ?_
      rintro e w2 ⟨ra, rfl, hr, hE⟩
      have HE2 := Lib.hid (Ext.trans HE0.out hE)
      have HB2 := Lib.hid (VRow.ext HB.out hE)
      have HA2 := Lib.hid hr
      clear hE hr HB
      go_wp2_with fail
      refine (copyd_c _ qs w2 (HU.out.ext HE2.out) HNU.out hf2).mono ?_
      rintro e w3 ⟨rb, rfl, hr, hE⟩
      have HE3 := Lib.hid (Ext.trans HE2.out hE)
      have HB3 := Lib.hid (VRow.ext HB2.out hE)
      have HA3 := Lib.hid (HA2.out.ext hE)
      have HC3 := Lib.hid hr
      have b0 := VRow.cell HB3.out (k := 0) rfl
      have b1 := VRow.cell HB3.out (k := 1) rfl
      clear hE hr HB2
      go_wp2_with fail
      clear b0 b1
      refine (show Calls Try.prog 24 #[_, vecV x y] w3 _ from (Move_o _ ps x y w3 HA3.out).mono ?_)
      rintro e w4 ⟨r4, rfl, hO, hE⟩
      have HX4 := Lib.hid hE
      have HO4 := Lib.hid hO
      have HB4 := Lib.hid (VRow.ext HB3.out hE)
      have b0 := VRow.cell HB4.out (k := 0) rfl
      have b1 := VRow.cell HB4.out (k := 1) rfl
      clear hE hO
      go_wp2_with fail
      clear b0 b1
      refine (show Calls Try.prog 25 #[_, vecV x y] w4 _ from (rMove_o _ ps x y w4 (HV.out.ext (Ext.trans HE3.out HX4.out))).mono ?_)
      rintro e w5 ⟨r5, rfl, hr, hE⟩
      have HX5 := Lib.hid (Ext.trans HX4.out hE)
      have HV5 := Lib.hid hr
      have HO5 := Lib.hid (ownsRow_ext HO4.out hE)
      have q1 : (moveE ps x y != moveE ps x y) = false := by simp
      have HML := Lib.hid (moveL_len ps x y)
      generalize moveE ps x y = em at *
      generalize moveL ps x y = lm at *
      have HN5 := Lib.hid (vecs_own HO5.out (by have := HML.out; omega))
      clear hE hr
      go_wp2_with fail
      refine (same_c _ _ lm lm w5 HN5.out HV5.out).mono ?_
      rintro e w6 ⟨rfl, hE⟩
      have HX6 := Lib.hid (Ext.trans HX5.out hE)
      have HO6 := Lib.hid (ownsRow_ext HO5.out hE)
      rw [decide_eq_true rfl]
      clear hE q1 HN5 HV5 HO4 HO5
      go_wp2_with fail
      refine (spoils_c r4 _ _ _ w6 HO6.out (by have := HML.out; omega)).mono ?_
      rintro e w7 ⟨⟨u7, rfl⟩, hH⟩
      have HX7 := Lib.hid (spoils_ext HO6.out (Nat.le_refl _) HX6.out hH)
      clear hH HO6
      go_wp2_with fail
      refine (Flip_o _ ps w7 (HA3.out.ext HX7.out)).mono ?_
      rintro e w8 ⟨r8, rfl, hO, hE⟩
      have HX8 := Lib.hid (Ext.trans HX7.out hE)
      have HO8 := Lib.hid hO
      clear hE hO
      go_wp2_with fail
      refine (rFlip_o _ ps w8 (HV.out.ext (Ext.trans HE3.out HX8.out))).mono ?_
      rintro e w9 ⟨r9, rfl, hr, hE⟩
      have HX9 := Lib.hid (Ext.trans HX8.out hE)
      have HV9 := Lib.hid hr
      have HO9 := Lib.hid (ownsRow_ext HO8.out hE)
      have q1 : (flipE ps != flipE ps) = false := by simp
      have HFL := Lib.hid (flipL_len ps)
      generalize flipE ps = ef at *
      generalize flipL ps = lf at *
      have HN9 := Lib.hid (vecs_own HO9.out (by have := HFL.out; omega))
      clear hE hr
      go_wp2_with fail
      refine (same_c _ _ lf lf w9 HN9.out HV9.out).mono ?_
      rintro e w10 ⟨rfl, hE⟩
      have HX10 := Lib.hid (Ext.trans HX9.out hE)
      have HO10 := Lib.hid (ownsRow_ext HO9.out hE)
      rw [decide_eq_true rfl]
      clear hE q1 HN9 HV9 HO8 HO9
      go_wp2_with fail
      refine (spoils_c r8 _ _ _ w10 HO10.out (by have := HFL.out; omega)).mono ?_
      rintro e w11 ⟨⟨u11, rfl⟩, hH⟩
      have HX11 := Lib.hid (spoils_ext HO10.out HX7.out.size HX10.out hH)
      clear hH HO10
      go_wp2_with fail
      refine (Sum_o _ _ ps qs w11 (HA3.out.ext HX11.out) (HC3.out.ext HX11.out)).mono ?_
      rintro e w12 ⟨r12, ds, rfl, hs, hO, hE⟩
      have HX12 := Lib.hid (Ext.trans HX11.out hE)
      have HO12 := Lib.hid hO
      have HS := Lib.hid hs
      clear hE hO hs
      go_wp2_with fail
      refine (rSum_o _ _ ps qs ds w12 (HV.out.ext (Ext.trans HE3.out HX12.out)) (HU.out.ext (Ext.trans HE3.out HX12.out)) HS.out).mono ?_
      rintro e w13 ⟨r13, rfl, hr, hE⟩
      have HX13 := Lib.hid (Ext.trans HX12.out hE)
      have HV13 := Lib.hid hr
      have HO13 := Lib.hid (ownsRow_ext HO12.out hE)
      have q1 : (sumE ps qs ds != sumE ps qs ds) = false := by simp
      have HSL := Lib.hid (sumL_len ps qs ds)
      generalize sumE ps qs ds = es at *
      generalize sumL ps qs ds = ls at *
      have HN13 := Lib.hid (vecs_own HO13.out (by have := HSL.out; omega))
      clear hE hr
      go_wp2_with fail
      refine (same_c _ _ ls ls w13 HN13.out HV13.out).mono ?_
      rintro e w14 ⟨rfl, hE⟩
      have HX14 := Lib.hid (Ext.trans HX13.out hE)
      have HO14 := Lib.hid (ownsRow_ext HO13.out hE)
      rw [decide_eq_true rfl]
      clear hE q1 HN13 HV13 HO12 HO13
      go_wp2_with fail
      refine (spoils_c r12 _ _ _ w14 HO14.out (by have := HSL.out; omega)).mono ?_
      rintro e w15 ⟨⟨u15, rfl⟩, hH⟩
      have HX15 := Lib.hid (spoils_ext HO14.out HX11.out.size HX14.out hH)
      clear hH HO14
      go_wp2_with fail
      refine (Mixed_c _ _ ps qs w15 (HA3.out.ext HX15.out) (HC3.out.ext HX15.out)).mono ?_
      rintro e w16 ⟨he, hE⟩
      have HX16 := Lib.hid (Ext.trans HX15.out hE)
      obtain ⟨mm, me, hmx⟩ := mix_two ps qs
      rw [hmx] at he
      subst he
      have HMX := Lib.hid hmx
      clear hE hmx
      unfold two
      go_wp2_with fail
      refine (rMixed_c _ _ ps qs ds w16 (HV.out.ext (Ext.trans HE3.out HX16.out)) (HU.out.ext (Ext.trans HE3.out HX16.out)) HS.out).mono ?_
      rintro e w17 ⟨he, hE⟩
      have HX17 := Lib.hid (Ext.trans HX16.out hE)
      rw [HMX.out] at he
      subst he
      have q1 : (mm == mm) = true := by simp
      have q2 : (me == me) = true := by simp
      clear hE
      unfold two
      go_wp2_with fail
      refine (same_c _ _ ps ps w17 (HA3.out.ext HX17.out) (HV.out.ext (Ext.trans HE3.out HX17.out))).mono ?_
      rintro e w18 ⟨rfl, hE⟩
      have HX18 := Lib.hid (Ext.trans HX17.out hE)
      rw [decide_eq_true rfl]
      clear hE q1 q2
      go_wp2_with fail
      refine (same_c _ _ qs qs w18 (HC3.out.ext HX18.out) (HU.out.ext (Ext.trans HE3.out HX18.out))).mono ?_
      rintro e w19 ⟨rfl, hE⟩
      have HX19 := Lib.hid (Ext.trans HX18.out hE)
      rw [decide_eq_true rfl]
      clear hE
      go_wp2_with fail
      refine (alive_c w19).mono ?_
      rintro e w20 ⟨rfl, hE⟩
      have HE20 := Lib.hid (Ext.trans HE3.out (Ext.trans HX19.out hE))
      clear hE
      go_wp2_with fail
      go_ret
      exact ⟨rfl, HE20.out⟩
    · rw [decide_eq_false hf2]
      go_wp2_with fail
      refine (alive_c _).mono ?_
      rintro e w9 ⟨rfl, hE⟩
      have HE9 := Lib.hid (Ext.trans HE0.out hE)
      clear hE
      go_wp2_with fail
      go_ret
      exact ⟨rfl, HE9.out⟩
  · rw [decide_eq_false hf1]
    go_wp2_with fail
    refine (alive_c _).mono ?_
    rintro e w9 ⟨rfl, hE⟩
    have HE9 := Lib.hid (Ext.trans HE0.out hE)
    clear hE
    go_wp2_with fail
    go_ret
    exact ⟨rfl, HE9.out⟩
end Go.Proofs.Ytbdppephmlkbaaa
