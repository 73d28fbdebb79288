import Derived.Test.YtnoacppfgckohaaV32
import Derived.Test.YtnoacppfgckohaaM17
namespace Go.Proofs.Ytnoacppfgckohaa
open Go.RowKit Go.Shelf
attribute [local go_sem] Oper.semAt_some
/-- Pick's numbers -/
theorem pick_num {hs : List Pt} (h : validB hs = true) : ∃ N R : Int, (areaZ hs - ringZ hs + 2).tdiv 2 = N ∧ ringZ hs = R ∧ areaZ hs = 2 * N + R - 2 ∧ 0 ≤ N ∧ (hs.length : Int) ≤ R ∧ N ≤ 100000000 ∧ R ≤ 3200000 := by
  have ha := valid_around h
  have hn := valid_near h
  have a := area_near hn.1 hn.2.2
  have r1 := ha.ring_area
  have r2 := ha.ring_len
  have p := par_area ha
  have b := ringK_bd (valid_wide h) hs.length (Nat.le_refl _)
  have e : ringK hs hs.length = ringZ hs := rfl
  rw [e] at b
  have t : (areaZ hs - ringZ hs + 2).tdiv 2 = (areaZ hs - ringZ hs + 2) / 2 := Int.tdiv_eq_ediv_of_nonneg (by omega)
  refine ⟨(areaZ hs - ringZ hs + 2) / 2, ringZ hs, t, rfl, by omega, by omega, r2, by omega, by omega⟩
set_option maxRecDepth 100000 in
set_option maxHeartbeats 2000000 in
theorem pick_law (v : Value) (ps : List Pt) (w : World) (hv : Vecs w v ps) :
    Calls Try.prog 4 #[v] w fun e w' => e = .returned (.bool true) ∧ Ext w w' := by
  obtain ⟨a1, c1, rfl, hl1, hm1, _⟩ := hv.at
  have HV := Lib.hid hv
  clear hv
  go_enter Try.func4, Try.ntmps4
  go_wp2_with fail
  refine (few_c _ _ _ w (by omega)).mono ?_
  rintro e w2 ⟨rfl, rfl⟩
  by_cases hf1 : ps.length ≤ 300
  · rw [decide_eq_true hf1]
    go_wp2_with fail
    refine (Hull_c _ ps w HV.out).mono ?_
    rintro e w2 ⟨r, er, hs, rfl, hH, hr, hE⟩
    obtain ⟨a2, c2, rfl, hl2, hm2, _⟩ := hr.at
    have HH := Lib.hid hH
    have HR := Lib.hid hr
    have HE2 := Lib.hid hE
    clear hH hr hE
    by_cases k0 : er = 0
    · have hok := (hullS_ok HH.out k0).1
      subst k0
      have HA := Lib.hid (show areaR hs = two (.int .i64 (areaZ hs)) (.int .i64 0) by unfold areaR; rw [if_pos hok])
      have HP := Lib.hid (show pointsR hs = three (.int .i64 ((areaZ hs - ringZ hs + 2).tdiv 2)) (.int .i64 (ringZ hs)) (.int .i64 0) by unfold pointsR; rw [if_pos hok])
      obtain ⟨N, R, e1, e2, e3, e4, e5, e6, e7⟩ := pick_num hok
      rw [e1, e2] at HP
      rw [e3] at HA
      clear e1 e2 e3 hok HH
      have hq1 : wrap64 (2 * N) = 2 * N := by unfold wrap64; omega
      have hq2 : wrap64 (2 * N + R) = 2 * N + R := by unfold wrap64; omega
      have hq3 : wrap64 (2 * N + R - 2) = 2 * N + R - 2 := by unfold wrap64; omega
      go_wp2_with fail
      refine (Points_c _ hs w2 HR.out).mono ?_
      rintro e w3 ⟨rfl, hE⟩
      rw [HP.out]
      simp only [three]
      have HE3 := Lib.hid (Ext.trans HE2.out hE)
      have HR3 := Lib.hid (HR.out.ext hE)
      clear hE
      go_wp2_with fail
      refine (Area_c _ hs w3 HR3.out).mono ?_
      rintro e w4 ⟨rfl, hE⟩
      rw [HA.out]
      simp only [two]
      have HE4 := Lib.hid (Ext.trans HE3.out hE)
      clear hE
      go_wp2_with fail
      refine (alive_c w4).mono ?_
      rintro e wi ⟨rfl, hE2⟩
      go_wp2
      all_goals go_ret
      all_goals exact ⟨ret_bool (by simp), Ext.trans HE4.out hE2⟩
    · go_wp2_with fail
      refine (alive_c w2).mono ?_
      rintro e wi ⟨rfl, hE2⟩
      go_wp2
      all_goals go_ret
      all_goals exact ⟨ret_bool (by simp), Ext.trans HE2.out hE2⟩
  · rw [decide_eq_false hf1]
    go_wp2_with fail
    refine (alive_c w).mono ?_
    rintro e wi ⟨rfl, hE2⟩
    go_wp2
    all_goals go_ret
    all_goals exact ⟨ret_bool (by simp), hE2⟩
end Go.Proofs.Ytnoacppfgckohaa
