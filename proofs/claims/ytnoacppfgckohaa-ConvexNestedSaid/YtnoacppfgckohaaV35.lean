import Derived.Test.YtnoacppfgckohaaM25
namespace Go.Proofs.Ytnoacppfgckohaa
open Go.RowKit Go.Shelf
attribute [local go_sem] Oper.semAt_some
set_option maxRecDepth 100000 in
set_option maxHeartbeats 4000000 in
theorem nested_law (u v t : Value) (ps qs rs : List Pt) (w : World) (hu : Vecs w u ps) (hv : Vecs w v qs) (ht : Vecs w t rs) :
    Calls Try.prog 8 #[u, v, t] w fun e w' => e = .returned (.bool true) ∧ Ext w w' := by
  obtain ⟨a1, c1, rfl, hl1, hm1, _⟩ := hu.at
  obtain ⟨a2, c2, rfl, hl2, hm2, _⟩ := hv.at
  obtain ⟨a3, c3, rfl, hl3, hm3, _⟩ := ht.at
  have HU := Lib.hid hu
  have HV := Lib.hid hv
  have HT := Lib.hid ht
  clear hu hv ht
  go_enter Try.func8, Try.ntmps8
  go_wp2_with fail
  refine (few_c _ _ _ w (by omega)).mono ?_
  rintro e w2 ⟨rfl, rfl⟩
  by_cases hf1 : ps.length ≤ 300
  · rw [decide_eq_true hf1]
    go_wp2_with fail
    refine (few_c _ _ _ w (by omega)).mono ?_
    rintro e w2 ⟨rfl, rfl⟩
    by_cases hf2 : qs.length ≤ 300
    · rw [decide_eq_true hf2]
      go_wp2_with fail
      refine (few_c _ _ _ w (by omega)).mono ?_
      rintro e w2 ⟨rfl, rfl⟩
      by_cases hf3 : rs.length ≤ 300
      · rw [decide_eq_true hf3]
        go_wp2_with fail
        refine (Inside_c _ _ ps qs w HU.out HV.out).mono ?_
        rintro e w2 ⟨rfl, hE⟩
        have HE2 := Lib.hid hE
        clear hE
        by_cases hb : validB ps = true ∧ validB qs = true
        · cases hin : ps.any (outB qs) with
          | true =>
            have HI := Lib.hid (show insideR ps qs = two (.bool false) (.int .i64 0) by unfold insideR; rw [if_pos hb, hin]; rfl)
            clear hin hb
            rw [HI.out]
            simp only [two]
            go_wp2_with fail
            refine (alive_c w2).mono ?_
            rintro e wi ⟨rfl, hE2⟩
            go_wp2
            go_ret
            exact ⟨ret_bool (by simp), Ext.trans HE2.out hE2⟩
          | false =>
            have HI := Lib.hid (show insideR ps qs = two (.bool true) (.int .i64 0) by unfold insideR; rw [if_pos hb, hin]; rfl)
            have HSUB := Lib.hid ((sub_iff ps qs).1 hin)
            have HA := Lib.hid (show areaR ps = two (.int .i64 (areaZ ps)) (.int .i64 0) by unfold areaR; rw [if_pos hb.1])
            have HC := Lib.hid (show areaR qs = two (.int .i64 (areaZ qs)) (.int .i64 0) by unfold areaR; rw [if_pos hb.2])
            have HP := Lib.hid (show pointsR ps = three (.int .i64 ((areaZ ps - ringZ ps + 2).tdiv 2)) (.int .i64 (ringZ ps)) (.int .i64 0) by unfold pointsR; rw [if_pos hb.1])
            have HQ := Lib.hid (show pointsR qs = three (.int .i64 ((areaZ qs - ringZ qs + 2).tdiv 2)) (.int .i64 (ringZ qs)) (.int .i64 0) by unfold pointsR; rw [if_pos hb.2])
            obtain ⟨A, B, N, M, R, T, e1, e2, e3, e4, e5, e6, k1, k2, k3, k4, k5, k6, k7, k8, k9, k10, k11⟩ := nest_num hb.1 hb.2 HSUB.out
            rw [e3, e4] at HP
            rw [e5, e6] at HQ
            rw [e1] at HA
            rw [e2] at HC
            clear e1 e2 e3 e4 e5 e6 hin hb
            have hq1 : wrap64 (N + R) = N + R := by unfold wrap64; omega
            have hq2 : wrap64 (M + T) = M + T := by unfold wrap64; omega
            have g1 : ¬ A > B := by omega
            have g2 : ¬ N > M := by omega
            have g3 : ¬ N + R > M + T := by omega
            rw [HI.out]
            simp only [two]
            go_wp2_with fail
            refine (Area_c _ ps w2 (HU.out.ext HE2.out)).mono ?_
            rintro e w3 ⟨rfl, hE⟩
            rw [HA.out]
            simp only [two]
            have HE3 := Lib.hid (Ext.trans HE2.out hE)
            clear hE
            go_wp2_with fail
            refine (Area_c _ qs w3 (HV.out.ext HE3.out)).mono ?_
            rintro e w4 ⟨rfl, hE⟩
            rw [HC.out]
            simp only [two]
            have HE4 := Lib.hid (Ext.trans HE3.out hE)
            clear hE
            go_wp2_with fail
            refine (Points_c _ ps w4 (HU.out.ext HE4.out)).mono ?_
            rintro e w5 ⟨rfl, hE⟩
            rw [HP.out]
            simp only [three]
            have HE5 := Lib.hid (Ext.trans HE4.out hE)
            clear hE
            go_wp2_with fail
            refine (Points_c _ qs w5 (HV.out.ext HE5.out)).mono ?_
            rintro e w6 ⟨rfl, hE⟩
            rw [HQ.out]
            simp only [three]
            have HE6 := Lib.hid (Ext.trans HE5.out hE)
            clear hE
            go_wp2_with fail
            refine (Sum_all _ _ ps rs w6 (HU.out.ext HE6.out) (HT.out.ext HE6.out)).mono ?_
            rintro e w7 ⟨r1, er, ss, rfl, hS, hr, hE⟩
            obtain ⟨a4, c4, rfl, hl4, hm4, _⟩ := hr.at
            have HS := Lib.hid hS
            have HR := Lib.hid hr
            have HE7 := Lib.hid (Ext.trans HE6.out hE)
            clear hS hr hE
            go_wp2_with fail
            refine (Sum_all _ _ qs rs w7 (HV.out.ext HE7.out) (HT.out.ext HE7.out)).mono ?_
            rintro e w8 ⟨r2, fr, ts, rfl, hS2, hr2, hE⟩
            obtain ⟨a5, c5, rfl, hl5, hm5, _⟩ := hr2.at
            have HS2 := Lib.hid hS2
            have HR2 := Lib.hid hr2
            have HR8 := Lib.hid (HR.out.ext hE)
            have HE8 := Lib.hid (Ext.trans HE7.out hE)
            clear hS2 hr2 hE HR
            by_cases z1 : er = 0
            · subst z1
              by_cases z2 : fr = 0
              · subst z2
                obtain ⟨v1, v2, v3⟩ := nest_sum HSUB.out HS.out HS2.out
                have HI2 := Lib.hid (show insideR ss ts = two (.bool true) (.int .i64 0) by unfold insideR; rw [if_pos ⟨v1, v2⟩, (sub_iff ss ts).2 v3]; rfl)
                clear v1 v2 v3
                go_wp2_with fail
                refine (Inside_c _ _ ss ts w8 HR8.out HR2.out).mono ?_
                rintro e w9 ⟨rfl, hE⟩
                rw [HI2.out]
                simp only [two]
                have HE9 := Lib.hid (Ext.trans HE8.out hE)
                clear hE
                go_wp2_with fail
                refine (alive_c w9).mono ?_
                rintro e wi ⟨rfl, hE2⟩
                go_wp2
                go_ret
                exact ⟨ret_bool (by simp), Ext.trans HE9.out hE2⟩
              · have hz : (fr == 0) = false := by simpa using z2
                go_wp2_with fail
                refine (alive_c w8).mono ?_
                rintro e wi ⟨rfl, hE2⟩
                go_wp2
                go_ret
                exact ⟨ret_bool (by simp), Ext.trans HE8.out hE2⟩
            · have hz : (er == 0) = false := by simpa using z1
              go_wp2_with fail
              refine (alive_c w8).mono ?_
              rintro e wi ⟨rfl, hE2⟩
              go_wp2
              go_ret
              exact ⟨ret_bool (by simp), Ext.trans HE8.out hE2⟩
        · have HI := Lib.hid (show insideR ps qs = two (.bool false) (.int .i64 2) by unfold insideR; rw [if_neg hb])
          clear hb
          rw [HI.out]
          simp only [two]
          go_wp2_with fail
          refine (alive_c w2).mono ?_
          rintro e wi ⟨rfl, hE2⟩
          go_wp2
          go_ret
          exact ⟨ret_bool (by simp), Ext.trans HE2.out hE2⟩
      · rw [decide_eq_false hf3]
        go_wp2_with fail
        refine (alive_c w).mono ?_
        rintro e wi ⟨rfl, hE2⟩
        go_wp2
        all_goals go_ret
        all_goals exact ⟨ret_bool (by simp), hE2⟩
    · rw [decide_eq_false hf2]
      go_wp2_with fail
      refine (alive_c w).mono ?_
      rintro e wi ⟨rfl, hE2⟩
      go_wp2
      all_goals go_ret
      all_goals exact ⟨ret_bool (by simp), hE2⟩
  · rw [decide_eq_false hf1]
    go_wp2_with fail
    refine (alive_c w).mono ?_
    rintro e wi ⟨rfl, hE2⟩
    go_wp2
    all_goals go_ret
    all_goals exact ⟨ret_bool (by simp), hE2⟩
end Go.Proofs.Ytnoacppfgckohaa
