import Derived.Test.YtnoacppfgckohaaV26
import Derived.Test.YtnoacppfgckohaaV25
namespace Go.Proofs.Ytnoacppfgckohaa
open Go.RowKit Go.Shelf
attribute [local go_sem] Oper.semAt_some
theorem mix_top {ps qs ss : List Pt} {er : Int} (h : SumS ps qs er ss) (h1 : validB ps = true) (h2 : validB qs = true) : mixZ ps qs ≤ 1024000000 := by
  rcases h with ⟨_, _, ds, hs, _⟩ | ⟨h, _⟩
  · have m := mix_sum h1 h2 hs
    have b := mix_bd h1 h2
    have a := area_far m.1 m.2.1
    omega
  · exact absurd ⟨h1, h2⟩ h
theorem ext_all {ps qs ss : List Pt} (h : SumS ps qs 0 ss) {x y a b c e f g : Int} (h1 : ExtS ps x y a e) (h2 : ExtS qs x y b f) (h3 : ExtS ss x y c g) :
    (e = 0 ∧ f = 0 ∧ g = 0 ∧ c = a + b ∧ -40000000000 ≤ a + b ∧ a + b ≤ 40000000000) ∨ (e = 2 ∧ f = 2 ∧ g = 2) := by
  obtain ⟨v1, v2, v3, _⟩ := sumS_ok h
  rcases h1 with ⟨o1, rfl, rfl⟩ | ⟨o1, rfl, rfl⟩
  · have o := o1.2
    have d := far_in o.1
    have hd : fine x ∧ fine y := by unfold fine; omega
    have n1 := valid_near v1
    have n2 := valid_near v2
    have b1 := ext_bd n1.1 (d := (x, y)) hd (by omega) ps.length (Nat.le_refl _)
    have b2 := ext_bd n2.1 (d := (x, y)) hd (by omega) qs.length (Nat.le_refl _)
    rcases h2 with ⟨_, rfl, rfl⟩ | ⟨o2, _⟩
    · rcases h3 with ⟨_, rfl, rfl⟩ | ⟨o3, _⟩
      · have e := sumS_ext h (d := (x, y)) (fun e => o.2 ⟨congrArg Prod.fst e, congrArg Prod.snd e⟩)
        exact .inl ⟨rfl, rfl, rfl, e, by omega, by omega⟩
      · exact absurd ⟨v3, o⟩ o3
    · exact absurd ⟨v2, o⟩ o2
  · rcases h2 with ⟨o2, _⟩ | ⟨_, rfl, rfl⟩
    · exact absurd ⟨v1, o2.2⟩ o1
    · rcases h3 with ⟨o3, _⟩ | ⟨_, rfl, rfl⟩
      · exact absurd ⟨v1, o3.2⟩ o1
      · exact .inr ⟨rfl, rfl, rfl⟩
theorem area_two (ps : List Pt) : ∃ a b : Int, areaR ps = two (.int .i64 a) (.int .i64 b) := by
  unfold areaR
  split
  · exact ⟨_, _, rfl⟩
  · exact ⟨_, _, rfl⟩
set_option maxRecDepth 100000 in
set_option maxHeartbeats 4000000 in
theorem sums_law (u v t : Value) (ps qs rs : List Pt) (x y : Int) (w : World) (hu : Vecs w u ps) (hv : Vecs w v qs) (ht : Vecs w t rs) :
    Calls Try.prog 6 #[u, v, t, vecV x y] w fun e w' => e = .returned (.bool true) ∧ Ext w w' := by
  obtain ⟨a1, c1, rfl, hl1, hm1, _⟩ := hu.at
  obtain ⟨a2, c2, rfl, hl2, hm2, _⟩ := hv.at
  obtain ⟨a3, c3, rfl, hl3, hm3, _⟩ := ht.at
  have hE0 := Ext.alloc (Ext.refl w) (.cells #[.int .i64 x, .int .i64 y] 31)
  have HU := Lib.hid (hu.ext hE0)
  have HV := Lib.hid (hv.ext hE0)
  have HT := Lib.hid (ht.ext hE0)
  have HE0 := Lib.hid hE0
  have HB := Lib.hid (show VRow (w.alloc (.cells #[.int .i64 x, .int .i64 y] 31)) _ _ _ from vrow_alloc w [.int .i64 x, .int .i64 y] 31)
  have hsb : w.heap.size < (w.alloc (.cells #[.int .i64 x, .int .i64 y] 31)).heap.size := by simp
  clear hu hv ht hE0
  go_enter Try.func6, Try.ntmps6
  go_wp2_with fail
  generalize w.alloc (.cells #[.int .i64 x, .int .i64 y] 31) = w1 at *
  refine (few_c _ _ _ w1 (by omega)).mono ?_
  rintro e w2 ⟨rfl, rfl⟩
  by_cases hf1 : ps.length ≤ 300
  · rw [decide_eq_true hf1]
    go_wp2_with fail
    refine (few_c _ _ _ w1 (by omega)).mono ?_
    rintro e w2 ⟨rfl, rfl⟩
    by_cases hf2 : qs.length ≤ 300
    · rw [decide_eq_true hf2]
      go_wp2_with fail
      refine (few_c _ _ _ w1 (by omega)).mono ?_
      rintro e w2 ⟨rfl, rfl⟩
      by_cases hf3 : rs.length ≤ 300
      · rw [decide_eq_true hf3]
        go_wp2_with fail
        refine (Sum_all _ _ ps qs w1 HU.out HV.out).mono ?_
        rintro e w2 ⟨r1, er, ss, rfl, hS, hr, hE⟩
        obtain ⟨a4, c4, rfl, hl4, hm4, _⟩ := hr.at
        have HS := Lib.hid hS
        have HR := Lib.hid hr
        have HE2 := Lib.hid hE
        clear hS hr hE
        go_wp2_with fail
        refine (Sum_all _ _ qs ps w2 (HV.out.ext HE2.out) (HU.out.ext HE2.out)).mono ?_
        rintro e w3 ⟨r2, fr, ts, rfl, hS2, hr2, hE⟩
        obtain ⟨e1, e2⟩ := sumS_comm HS.out hS2
        subst e1 e2
        obtain ⟨a5, c5, rfl, hl5, hm5, _⟩ := hr2.at
        have HSS := Lib.hid (HR.out.ext hE)
        have HR2 := Lib.hid hr2
        have HE3 := Lib.hid (Ext.trans HE2.out hE)
        clear hS2 hr2 hE HR
        go_wp2_with fail
        refine (same_c _ _ ss ss w3 HSS.out HR2.out).mono ?_
        rintro e w4 ⟨rfl, hE⟩
        rw [decide_eq_true rfl]
        have HE34 := Lib.hid hE
        have HE4 := Lib.hid (Ext.trans HE3.out hE)
        clear hE
        go_wp2_with fail
        refine (Mixed_c _ _ ps qs w4 (HU.out.ext HE4.out) (HV.out.ext HE4.out)).mono ?_
        rintro e w5 ⟨rfl, hE⟩
        have HE45 := Lib.hid (Ext.trans HE34.out hE)
        have HE5 := Lib.hid (Ext.trans HE4.out hE)
        clear hE
        by_cases hb : validB ps = true ∧ validB qs = true
        · have RM := Lib.hid (show mixR ps qs = two (.int .i64 (mixZ ps qs)) (.int .i64 0) by unfold mixR; rw [if_pos hb])
          have RMQ := Lib.hid (show mixR qs ps = two (.int .i64 (mixZ ps qs)) (.int .i64 0) by rw [mixR_comm]; unfold mixR; rw [if_pos hb])
          have RA := Lib.hid (show areaR ps = two (.int .i64 (areaZ ps)) (.int .i64 0) by unfold areaR; rw [if_pos hb.1])
          have RB := Lib.hid (show areaR qs = two (.int .i64 (areaZ qs)) (.int .i64 0) by unfold areaR; rw [if_pos hb.2])
          have HBD := Lib.hid (And.intro (mix_bd hb.1 hb.2) (mix_top HS.out hb.1 hb.2))
          have HSA := Lib.hid (show er = 0 → areaR ss = two (.int .i64 (areaZ ps + areaZ qs + mixZ ps qs)) (.int .i64 0) from fun h0 => by
            have hs := HS.out
            rw [h0] at hs
            unfold areaR
            rw [if_pos (sumS_ok hs).2.2.1, sumS_area hs])
          clear hb
          rw [RM.out]
          simp only [two]
          generalize mixZ ps qs = M at *
          generalize hA : areaZ ps = A at *
          generalize hC : areaZ qs = C at *
          clear hA hC
          go_wp2_with fail
          refine (Mixed_c _ _ qs ps w5 (HV.out.ext HE5.out) (HU.out.ext HE5.out)).mono ?_
          rintro e w6 ⟨rfl, hE⟩
          rw [RMQ.out]
          simp only [two]
          have HE36 := Lib.hid (Ext.trans HE45.out hE)
          have HE6 := Lib.hid (Ext.trans HE5.out hE)
          clear hE
          go_wp2_with fail
          refine (Area_c _ ps w6 (HU.out.ext HE6.out)).mono ?_
          rintro e w7 ⟨rfl, hE⟩
          rw [RA.out]
          simp only [two]
          have HE37 := Lib.hid (Ext.trans HE36.out hE)
          have HE7 := Lib.hid (Ext.trans HE6.out hE)
          clear hE
          go_wp2_with fail
          refine (Area_c _ qs w7 (HV.out.ext HE7.out)).mono ?_
          rintro e w8 ⟨rfl, hE⟩
          rw [RB.out]
          simp only [two]
          have HE38 := Lib.hid (Ext.trans HE37.out hE)
          have HE8 := Lib.hid (Ext.trans HE7.out hE)
          clear hE HE34 HE45 HE36 HE37 HE2 HE3 HE4 HE5 HE6 HE7
          obtain ⟨⟨p1, p2, p3, p4, p5, p6⟩, p7⟩ := HBD.out
          have hmm := Int.mul_le_mul p7 p7 p5 (by omega)
          have hMM : wrap64 (M * M) = M * M := by have := sq_nn M; unfold wrap64; omega
          have h4A : wrap64 (4 * A) = 4 * A := by unfold wrap64; omega
          have h4C : wrap64 (4 * A * C) = 4 * A * C := by have := Int.mul_nonneg (show 0 ≤ 4 * A by omega) p3; unfold wrap64; omega
          have hlt : ¬ (M * M < 4 * A * C) := by omega
          have hM0 : ¬ (M < 0) := by omega
          have hAC : wrap64 (A + C) = A + C := by unfold wrap64; omega
          have hACM : wrap64 (A + C + M) = A + C + M := by unfold wrap64; omega
          clear hmm p1 p2 p3 p4 p5 p6 p7
          generalize hX : M * M = X at *
          generalize hY : 4 * A * C = Y at *
          by_cases k0 : er = 0
          · subst k0
            have RS := Lib.hid (HSA.out rfl)
            clear HSA
            go_wp2_with fail
            refine (Area_c _ ss w8 (HSS.out.ext HE38.out)).mono ?_
            rintro e w9 ⟨rfl, hE⟩
            rw [RS.out]
            simp only [two]
            have HSS := Lib.hid (HSS.out.ext (Ext.trans HE38.out hE))
            have HE9 := Lib.hid (Ext.trans HE8.out hE)
            clear hE HE38
            have b0 := VRow.cell (VRow.ext HB.out HE9.out) (k := 0) rfl
            have b1 := VRow.cell (VRow.ext HB.out HE9.out) (k := 1) rfl
            go_wp2_with fail
            clear b0 b1
            refine (Extreme_c _ ps x y w9 (HU.out.ext HE9.out)).mono ?_
            rintro e wy ⟨m1, i1, g1, rfl, hX, hE⟩
            have HX1 := Lib.hid hX
            have HE9Y := Lib.hid hE
            have HEW1 := Lib.hid (Ext.trans HE9.out hE)
            clear hX hE
            have b0 := VRow.cell (VRow.ext HB.out HEW1.out) (k := 0) rfl
            have b1 := VRow.cell (VRow.ext HB.out HEW1.out) (k := 1) rfl
            go_wp2_with fail
            clear b0 b1
            refine (Extreme_c _ qs x y wy (HV.out.ext HEW1.out)).mono ?_
            rintro e wz ⟨m2, i2, g2, rfl, hX, hE⟩
            have HX2 := Lib.hid hX
            have HE9Z := Lib.hid (Ext.trans HE9Y.out hE)
            have HEW2 := Lib.hid (Ext.trans HEW1.out hE)
            clear hX hE
            have HSS := Lib.hid (HSS.out.ext HE9Z.out)
            have b0 := VRow.cell (VRow.ext HB.out HEW2.out) (k := 0) rfl
            have b1 := VRow.cell (VRow.ext HB.out HEW2.out) (k := 1) rfl
            go_wp2_with fail
            clear b0 b1
            refine (Extreme_c _ ss x y wz HSS.out).mono ?_
            rintro e wx ⟨m3, i3, g3, rfl, hX, hE⟩
            have HX3 := Lib.hid hX
            have HSS := Lib.hid (HSS.out.ext hE)
            have HEX := Lib.hid (Ext.trans HEW2.out hE)
            clear hX hE
            have HALL := Lib.hid (ext_all HS.out HX1.out HX2.out HX3.out)
            clear HX1 HX2 HX3
            rcases HALL.out with ⟨rfl, rfl, rfl, rfl, q1, q2⟩ | ⟨rfl, rfl, rfl⟩
            · have hq : wrap64 (m1 + m2) = m1 + m2 := by unfold wrap64; omega
              clear q1 q2 HALL
              go_wp2_with fail
              refine (Sum_all _ _ qs rs wx (HV.out.ext HEX.out) (HT.out.ext HEX.out)).mono ?_
              rintro e wa ⟨r6, e6, us, rfl, hS6, hr6, hE⟩
              obtain ⟨a6, c6, rfl, hl6, hm6, _⟩ := hr6.at
              have HS6 := Lib.hid hS6
              have HR6 := Lib.hid hr6
              have HEXA := Lib.hid hE
              have HEA := Lib.hid (Ext.trans HEX.out hE)
              clear hS6 hr6 hE
              go_wp2_with fail
              refine (Sum_all _ _ ss rs wa (HSS.out.ext HEXA.out) (HT.out.ext HEA.out)).mono ?_
              rintro e wb ⟨r7, e7, vs, rfl, hS7, hr7, hE⟩
              obtain ⟨a7, c7, rfl, hl7, hm7, _⟩ := hr7.at
              have HS7 := Lib.hid hS7
              have HEAB := Lib.hid hE
              have HR7 := Lib.hid hr7
              have HEB := Lib.hid (Ext.trans HEA.out hE)
              clear hS7 hr7 hE
              go_wp2_with fail
              refine (Sum_all _ _ ps us wb (HU.out.ext HEB.out) (HR6.out.ext HEAB.out)).mono ?_
              rintro e wc ⟨r8, e8, ws, rfl, hS8, hr8, hE⟩
              obtain ⟨a8, c8, rfl, hl8, hm8, _⟩ := hr8.at
              have HS8 := Lib.hid hS8
              have HR8 := Lib.hid hr8
              have HEBC := Lib.hid hE
              have HEC := Lib.hid (Ext.trans HEB.out hE)
              clear hS8 hr8 hE
              by_cases k6 : e6 = 0
              · by_cases k7 : e7 = 0
                · by_cases k8 : e8 = 0
                  · subst k6 k7 k8
                    have HAS := Lib.hid (sumS_assoc HS.out HS6.out HS7.out HS8.out)
                    clear HS HS6 HS7 HS8
                    go_wp2_with fail
                    refine (same_c _ _ vs ws wc (HR7.out.ext HEBC.out) HR8.out).mono ?_
                    rintro e wd ⟨rfl, hE⟩
                    rw [decide_eq_true HAS.out]
                    have HED := Lib.hid (Ext.trans HEC.out hE)
                    clear hE
                    go_wp2_with fail
                    refine (alive_c wd).mono ?_
                    rintro e wi ⟨rfl, hE2⟩
                    go_wp2
                    all_goals go_ret
                    all_goals exact ⟨ret_bool (by simp), Ext.trans HE0.out (Ext.trans HED.out hE2)⟩
                  · subst k6 k7
                    go_wp2_with fail
                    refine (alive_c wc).mono ?_
                    rintro e wi ⟨rfl, hE2⟩
                    go_wp2
                    all_goals go_ret
                    all_goals exact ⟨ret_bool (by simp), Ext.trans HE0.out (Ext.trans HEC.out hE2)⟩
                · subst k6
                  go_wp2_with fail
                  refine (alive_c wc).mono ?_
                  rintro e wi ⟨rfl, hE2⟩
                  go_wp2
                  all_goals go_ret
                  all_goals exact ⟨ret_bool (by simp), Ext.trans HE0.out (Ext.trans HEC.out hE2)⟩
              · skip
                go_wp2_with fail
                refine (alive_c wc).mono ?_
                rintro e wi ⟨rfl, hE2⟩
                go_wp2
                all_goals go_ret
                all_goals exact ⟨ret_bool (by simp), Ext.trans HE0.out (Ext.trans HEC.out hE2)⟩
            · clear HALL
              go_wp2_with fail
              refine (Sum_all _ _ qs rs wx (HV.out.ext HEX.out) (HT.out.ext HEX.out)).mono ?_
              rintro e wa ⟨r6, e6, us, rfl, hS6, hr6, hE⟩
              obtain ⟨a6, c6, rfl, hl6, hm6, _⟩ := hr6.at
              have HS6 := Lib.hid hS6
              have HR6 := Lib.hid hr6
              have HEXA := Lib.hid hE
              have HEA := Lib.hid (Ext.trans HEX.out hE)
              clear hS6 hr6 hE
              go_wp2_with fail
              refine (Sum_all _ _ ss rs wa (HSS.out.ext HEXA.out) (HT.out.ext HEA.out)).mono ?_
              rintro e wb ⟨r7, e7, vs, rfl, hS7, hr7, hE⟩
              obtain ⟨a7, c7, rfl, hl7, hm7, _⟩ := hr7.at
              have HS7 := Lib.hid hS7
              have HEAB := Lib.hid hE
              have HR7 := Lib.hid hr7
              have HEB := Lib.hid (Ext.trans HEA.out hE)
              clear hS7 hr7 hE
              go_wp2_with fail
              refine (Sum_all _ _ ps us wb (HU.out.ext HEB.out) (HR6.out.ext HEAB.out)).mono ?_
              rintro e wc ⟨r8, e8, ws, rfl, hS8, hr8, hE⟩
              obtain ⟨a8, c8, rfl, hl8, hm8, _⟩ := hr8.at
              have HS8 := Lib.hid hS8
              have HR8 := Lib.hid hr8
              have HEBC := Lib.hid hE
              have HEC := Lib.hid (Ext.trans HEB.out hE)
              clear hS8 hr8 hE
              by_cases k6 : e6 = 0
              · by_cases k7 : e7 = 0
                · by_cases k8 : e8 = 0
                  · subst k6 k7 k8
                    have HAS := Lib.hid (sumS_assoc HS.out HS6.out HS7.out HS8.out)
                    clear HS HS6 HS7 HS8
                    go_wp2_with fail
                    refine (same_c _ _ vs ws wc (HR7.out.ext HEBC.out) HR8.out).mono ?_
                    rintro e wd ⟨rfl, hE⟩
                    rw [decide_eq_true HAS.out]
                    have HED := Lib.hid (Ext.trans HEC.out hE)
                    clear hE
                    go_wp2_with fail
                    refine (alive_c wd).mono ?_
                    rintro e wi ⟨rfl, hE2⟩
                    go_wp2
                    all_goals go_ret
                    all_goals exact ⟨ret_bool (by simp), Ext.trans HE0.out (Ext.trans HED.out hE2)⟩
                  · subst k6 k7
                    go_wp2_with fail
                    refine (alive_c wc).mono ?_
                    rintro e wi ⟨rfl, hE2⟩
                    go_wp2
                    all_goals go_ret
                    all_goals exact ⟨ret_bool (by simp), Ext.trans HE0.out (Ext.trans HEC.out hE2)⟩
                · subst k6
                  go_wp2_with fail
                  refine (alive_c wc).mono ?_
                  rintro e wi ⟨rfl, hE2⟩
                  go_wp2
                  all_goals go_ret
                  all_goals exact ⟨ret_bool (by simp), Ext.trans HE0.out (Ext.trans HEC.out hE2)⟩
              · skip
                go_wp2_with fail
                refine (alive_c wc).mono ?_
                rintro e wi ⟨rfl, hE2⟩
                go_wp2
                all_goals go_ret
                all_goals exact ⟨ret_bool (by simp), Ext.trans HE0.out (Ext.trans HEC.out hE2)⟩
          · clear HSA
            go_wp2_with fail
            refine (alive_c w8).mono ?_
            rintro e wi ⟨rfl, hE2⟩
            go_wp2
            all_goals go_ret
            all_goals exact ⟨ret_bool (by simp), Ext.trans HE0.out (Ext.trans HE8.out hE2)⟩
        · have RM := Lib.hid (show mixR ps qs = two (.int .i64 0) (.int .i64 2) by unfold mixR; rw [if_neg hb])
          have RMQ := Lib.hid (show mixR qs ps = two (.int .i64 0) (.int .i64 2) by rw [mixR_comm]; unfold mixR; rw [if_neg hb])
          have e2 : er = 2 := by
            rcases HS.out with ⟨h1, h2, _⟩ | ⟨_, h, _⟩
            · exact absurd ⟨h1, h2⟩ hb
            · exact h
          subst e2
          obtain ⟨ra, rb, hab⟩ := area_two ps
          obtain ⟨rc, rd, hcd⟩ := area_two qs
          have RA := Lib.hid hab
          have RB := Lib.hid hcd
          clear hb hab hcd
          rw [RM.out]
          simp only [two]
          go_wp2_with fail
          refine (Mixed_c _ _ qs ps w5 (HV.out.ext HE5.out) (HU.out.ext HE5.out)).mono ?_
          rintro e w6 ⟨rfl, hE⟩
          rw [RMQ.out]
          simp only [two]
          have HE6 := Lib.hid (Ext.trans HE5.out hE)
          clear hE
          go_wp2_with fail
          refine (Area_c _ ps w6 (HU.out.ext HE6.out)).mono ?_
          rintro e w7 ⟨rfl, hE⟩
          rw [RA.out]
          simp only [two]
          have HE7 := Lib.hid (Ext.trans HE6.out hE)
          clear hE
          go_wp2_with fail
          refine (Area_c _ qs w7 (HV.out.ext HE7.out)).mono ?_
          rintro e w8 ⟨rfl, hE⟩
          rw [RB.out]
          simp only [two]
          have HE8 := Lib.hid (Ext.trans HE7.out hE)
          clear hE HE2 HE3 HE4 HE5 HE6 HE7 HE34 HE45
          go_wp2_with fail
          refine (alive_c w8).mono ?_
          rintro e wi ⟨rfl, hE2⟩
          go_wp2
          all_goals go_ret
          all_goals exact ⟨ret_bool (by simp), Ext.trans HE0.out (Ext.trans HE8.out hE2)⟩
      · rw [decide_eq_false hf3]
        go_wp2_with fail
        refine (alive_c w1).mono ?_
        rintro e wi ⟨rfl, hE2⟩
        go_wp2
        all_goals go_ret
        all_goals exact ⟨ret_bool (by simp), Ext.trans HE0.out hE2⟩
    · rw [decide_eq_false hf2]
      go_wp2_with fail
      refine (alive_c w1).mono ?_
      rintro e wi ⟨rfl, hE2⟩
      go_wp2
      all_goals go_ret
      all_goals exact ⟨ret_bool (by simp), Ext.trans HE0.out hE2⟩
  · rw [decide_eq_false hf1]
    go_wp2_with fail
    refine (alive_c w1).mono ?_
    rintro e wi ⟨rfl, hE2⟩
    go_wp2
    all_goals go_ret
    all_goals exact ⟨ret_bool (by simp), Ext.trans HE0.out hE2⟩
end Go.Proofs.Ytnoacppfgckohaa
