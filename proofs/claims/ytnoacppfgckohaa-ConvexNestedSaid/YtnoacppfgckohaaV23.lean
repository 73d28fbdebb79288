import Derived.Test.YtnoacppfgckohaaV22
import Derived.Test.YtnoacppfgckohaaM8
import Derived.BigQuiet
namespace Go.Proofs.Ytnoacppfgckohaa
open Go.RowKit Go.Shelf
attribute [local go_sem] Oper.semAt_some
theorem ext_drewN {w w1 : World} (h : Ext w w1) (n : Nat) : Ext w (w1.drewN n) := ⟨h.os, h.tape, h.output, h.size, h.block⟩
/-- what Overlap and Separate say of two polygons -/
theorem sep_ok {ps qs : List Pt} (h1 : validB ps = true) (h2 : validB qs = true) :
    (sepR ps qs = two (vecV 0 0) (.int .i64 10) ∧ overlapB ps qs = true) ∨ ∃ d : Pt, sepR ps qs = two (vecV d.1 d.2) (.int .i64 0) ∧ overlapB ps qs = false ∧ d ≠ (0, 0) ∧ fine d.1 ∧ fine d.2 ∧ sepBy ps qs d := by
  unfold sepR overlapB
  rw [if_pos ⟨h1, h2⟩]
  have n1 := (valid_near h1).2.1
  have n2 := (valid_near h2).2.1
  cases hf : (List.range (ps.length + qs.length)).find? (sepAt ps qs) with
  | none => exact .inl ⟨rfl, rfl⟩
  | some k =>
    have hp := List.find?_some hf
    have hm := List.mem_range.1 (List.mem_of_find?_eq_some hf)
    have hd := dirA_fine (valid_wide h1) (valid_wide h2) hm
    refine .inr ⟨dirA ps qs k, rfl, rfl, fun e => ?_, hd.1, hd.2, ?_⟩
    · unfold dirA at e
      split at e
      · rename_i hk
        refine (valid_around h1).ne0 hk (pt_ext ?_ ?_)
        · have := congrArg Prod.snd e; simp [dirP] at this ⊢; omega
        · have := congrArg Prod.fst e; simpa [dirP] using this
      · refine (valid_around h2).ne0 (show k - ps.length < qs.length by omega) (pt_ext ?_ ?_)
        · have := congrArg Prod.snd e; simpa [dirQ] using this
        · have := congrArg Prod.fst e; simp [dirQ] at this ⊢; omega
    · unfold sepAt at hp
      rw [decide_eq_true_eq] at hp
      exact (sep_iff (by omega) (by omega) _).1 hp
set_option maxRecDepth 100000 in
set_option maxHeartbeats 4000000 in
theorem separates_law (u v : Value) (ps qs : List Pt) (w : World) (hu : Vecs w u ps) (hv : Vecs w v qs) :
    Calls Try.prog 5 #[u, v] w fun e w' => e = .returned (.bool true) ∧ Ext w w' := by
  obtain ⟨a1, c1, rfl, hl1, hm1, _⟩ := hu.at
  obtain ⟨a2, c2, rfl, hl2, hm2, _⟩ := hv.at
  have HU := Lib.hid hu
  have HV := Lib.hid hv
  clear hu hv
  go_enter Try.func5, Try.ntmps5
  go_wp2_with fail
  refine (few_c _ _ _ w (by omega)).mono ?_
  rintro e w2 ⟨rfl, rfl⟩
  by_cases hf1 : ps.length ≤ 300
  · rw [decide_eq_true hf1]
    go_wp2_with fail
    refine (few_c _ _ _ w (by omega)).mono ?_
    rintro e w2 ⟨rfl, rfl⟩
    by_cases hf2 : qs.length ≤ 300
    · rw [decide_eq_true hf2]
      go_wp2_with fail
      refine (Overlap_c _ _ ps qs w HU.out HV.out).mono ?_
      rintro e w3 ⟨rfl, hE⟩
      have HE3 := Lib.hid hE
      clear hE
      by_cases hb : validB ps = true ∧ validB qs = true
      · have VP := Lib.hid hb.1
        have VQ := Lib.hid hb.2
        have RO := Lib.hid (show overlapR ps qs = two (.bool (overlapB ps qs)) (.int .i64 0) by unfold overlapR; rw [if_pos hb])
        have n1 := (valid_near hb.1).2.1
        have n2 := (valid_near hb.2).2.1
        have ROQ := Lib.hid (show overlapR qs ps = two (.bool (overlapB ps qs)) (.int .i64 0) by unfold overlapR; rw [if_pos hb.symm, overlap_swap (by omega) (by omega)])
        have RS := Lib.hid (sep_ok hb.1 hb.2)
        clear hb
        rw [RO.out]
        simp only [two]
        rcases RS.out with ⟨hs, ho⟩ | ⟨⟨x, y⟩, hs, ho, hd0, hdx, hdy, hsep⟩
        · have HS := Lib.hid hs
          have HOO := Lib.hid ho
          rw [ho] at ROQ RO ⊢
          clear RS hs ho
          go_wp2_with fail
          refine (Separate_c _ _ ps qs w3 (HU.out.ext HE3.out) (HV.out.ext HE3.out)).mono ?_
          rintro e w4 ⟨rfl, hE⟩
          rw [HS.out]
          simp only [two]
          have HEA := Lib.hid (Ext.alloc (Ext.trans HE3.out hE) (.cells #[.int .i64 0, .int .i64 0] 31))
          clear hE
          go_wp2_with fail
          refine (Overlap_c _ _ qs ps (w4.alloc (.cells #[.int .i64 0, .int .i64 0] 31)) (HV.out.ext HEA.out) (HU.out.ext HEA.out)).mono ?_
          rintro e wo ⟨rfl, hE⟩
          rw [ROQ.out]
          simp only [two]
          have HEO := Lib.hid (Ext.trans HEA.out hE)
          clear hE
          go_wp2_with fail
          refine (Flip_c _ qs wo (HV.out.ext HEO.out)).mono ?_
          rintro e wf ⟨uf, rfl, huf, hE⟩
          have hR : flipR qs uf = two uf (.int .i64 0) := by unfold flipR; rw [if_pos VQ.out]
          rw [hR]
          simp only [two]
          have HUF := Lib.hid (huf VQ.out)
          have HEF := Lib.hid (Ext.trans HEO.out hE)
          clear hR huf hE
          obtain ⟨af, cf, rfl, _, _, _⟩ := HUF.out.at
          go_wp2_with fail
          refine (Sum_c _ _ ps (flipP qs) wf (HU.out.ext HEF.out) HUF.out VP.out (valid_flip VQ.out)).mono ?_
          rintro e ws ⟨rs, ds, hso, rfl, hvs, hE⟩
          have HSO := Lib.hid hso
          have HVS := Lib.hid hvs
          have HES := Lib.hid (Ext.trans HEF.out hE)
          clear hso hvs hE
          cases hfar : (sumP ps (flipP qs) ds).any farP with
          | true =>
            have hR : limR rs (sumP ps (flipP qs) ds) = two (.slice none 0 0) (.int .i64 4) := by unfold limR; rw [if_pos hfar]
            rw [hR]
            simp only [two]
            clear hR hfar
            go_wp2_with fail
            refine (alive_c ws).mono ?_
            rintro e wi ⟨rfl, hE2⟩
            go_wp2
            go_ret
            exact ⟨ret_bool (by simp), Ext.trans HES.out hE2⟩
          | false =>
            by_cases h32 : 32 < (sumP ps (flipP qs) ds).length
            · have hR : limR rs (sumP ps (flipP qs) ds) = two (.slice none 0 0) (.int .i64 8) := by unfold limR; rw [if_neg (by rw [hfar]; decide), if_pos h32]
              rw [hR]
              simp only [two]
              clear hR hfar h32
              go_wp2_with fail
              refine (alive_c ws).mono ?_
              rintro e wi ⟨rfl, hE2⟩
              go_wp2
              go_ret
              exact ⟨ret_bool (by simp), Ext.trans HES.out hE2⟩
            · have hR : limR rs (sumP ps (flipP qs) ds) = two rs (.int .i64 0) := by unfold limR; rw [if_neg (by rw [hfar]; decide), if_neg h32]
              rw [hR]
              simp only [two]
              have hvs : validB (sumP ps (flipP qs) ds) = true := around_valid (sum_around (valid_around VP.out) (around_flip (valid_around VQ.out)) HSO.out) (by omega) hfar
              have HPR := Lib.hid (show placeR (sumP ps (flipP qs) ds) 0 0 = two (.int .i64 (placeZ (sumP ps (flipP qs) ds) 0 0)) (.int .i64 0) by unfold placeR; rw [if_pos ⟨hvs, by decide⟩])
              have HPS := Lib.hid (place_sum (valid_around VP.out) (valid_around VQ.out) HSO.out)
              clear hR hfar h32 hvs
              obtain ⟨a5, c5, rfl, _, _, _⟩ := HVS.out.at
              rw [HOO.out] at HPS
              generalize (sumP ps (flipP qs) ds) = ss at *
              go_wp2_with fail
              refine (show Calls Try.prog 13 #[.slice a5 ss.length c5, vecV 0 0] ws _ from (Place_c _ ss 0 0 ws HVS.out).mono ?_)
              rintro e wp ⟨rfl, hE⟩
              rw [HPR.out]
              simp only [two]
              have HEP := Lib.hid (Ext.trans HES.out hE)
              clear hE
              generalize placeZ ss 0 0 = Z at *
              by_cases hz : Z = 1
              · subst hz
                go_wp2_with fail
                refine (alive_c wp).mono ?_
                rintro e wi ⟨rfl, hE2⟩
                go_wp2
                go_ret
                exact ⟨ret_bool (by simp), Ext.trans HEP.out hE2⟩
              · exact absurd (HPS.out.2 trivial) hz
        · have HS := Lib.hid hs
          have HOO := Lib.hid ho
          rw [ho] at ROQ RO ⊢
          clear RS hs ho
          go_wp2_with fail
          refine (Separate_c _ _ ps qs w3 (HU.out.ext HE3.out) (HV.out.ext HE3.out)).mono ?_
          rintro e w4 ⟨rfl, hE⟩
          rw [HS.out]
          simp only [two]
          have HE4 := Lib.hid (Ext.trans HE3.out hE)
          clear hE
          have hb := vrow_alloc w4 [.int .i64 x, .int .i64 y] 31
          have HEA := Lib.hid (Ext.alloc HE4.out (.cells #[.int .i64 x, .int .i64 y] 31))
          have HSEP := Lib.hid hsep
          have HX := Lib.hid (show fine x from hdx)
          have HY := Lib.hid (show fine y from hdy)
          have HD0 := Lib.hid hd0
          clear hsep hdx hdy hd0
          have b0 := VRow.cell hb (k := 0) rfl
          have b1 := VRow.cell hb (k := 1) rfl
          by_cases hx0 : x = 0
          · subst hx0
            have hy0 : y ≠ 0 := fun e => HD0.out (by rw [e])
            go_wp2_with fail
            have HB5 := Lib.hid hb
            clear b0 b1 hb
            generalize w4.alloc (.cells #[.int .i64 0, .int .i64 y] 31) = w5 at *
            go_loopw [9] (fun i wr => ∃ k : Nat, k ≤ ps.length ∧ i = .int .i64 k ∧ Ext w5 wr) (fun i _ => ps.length - (intOf i).toNat)
            case atStart => exact ⟨0, Nat.zero_le _, rfl, Ext.refl _⟩
            case round =>
              obtain ⟨k, hk, rfl, hE⟩ := hrel
              have HE6 := Lib.hid hE
              clear hE
              by_cases hlt : k < ps.length
              · go_wp2_with fail
                go_loopw [10] (fun j wr2 => ∃ m : Nat, m ≤ qs.length ∧ j = .int .i64 m ∧ Ext w5 wr2) (fun j _ => qs.length - (intOf j).toNat)
                case atStart => exact ⟨0, Nat.zero_le _, rfl, HE6.out⟩
                case round =>
                  obtain ⟨m, hm, rfl, hE⟩ := hrel
                  have HE7 := Lib.hid hE
                  clear hE
                  by_cases hlt2 : m < qs.length
                  · have hs := HSEP.out k m hlt hlt2
                    obtain ⟨pk, hpk⟩ := getElem?_len hlt
                    obtain ⟨qm, hqm⟩ := getElem?_len hlt2
                    rw [fromP_of hpk, fromP_of hqm] at hs
                    have f1 := fine_near (valid_near VP.out).1 pk (List.mem_of_getElem? hpk)
                    have f2 := fine_near (valid_near VQ.out).1 qm (List.mem_of_getElem? hqm)
                    obtain ⟨p1, p2⟩ := pk
                    obtain ⟨q1, q2⟩ := qm
                    have m1 := mul_fine HY.out f1.1
                    have m2 := mul_fine HY.out f1.2
                    have m3 := mul_fine HY.out f2.1
                    have m4 := mul_fine HY.out f2.2
                    simp only at m1 m2 m3 m4
                    simp only [dotP, dotV, Int.zero_mul, Int.zero_add] at hs
                    have e2 : wrap64 (y * p2) = y * p2 := by unfold wrap64; omega
                    have e4 : wrap64 (y * q2) = y * q2 := by unfold wrap64; omega
                    have e7 : ¬ (y * q2 < y * p2) := by omega
                    clear m1 m2 m3 m4 hs f1 f2
                    have hV := (HU.out.ext (Ext.trans HEA.out HE7.out)).at
                    obtain ⟨a', cap', e, _, _, hra⟩ := hV
                    obtain ⟨rfl, rfl⟩ : a1 = a' ∧ c1 = cap' := by injection e with e1 e2 e3; exact ⟨e1, e3⟩
                    obtain ⟨b3, o3, rfl, c3, c4⟩ := hra k _ hpk
                    have hV := (HV.out.ext (Ext.trans HEA.out HE7.out)).at
                    obtain ⟨a', cap', e', _, _, hrb⟩ := hV
                    obtain ⟨rfl, rfl⟩ : a2 = a' ∧ c2 = cap' := by injection e' with e1 e2 e3; exact ⟨e1, e3⟩
                    obtain ⟨b4, o4, rfl, c5, c6⟩ := hrb m _ hqm
                    have hb := VRow.ext HB5.out HE7.out
                    have b0 := VRow.cell hb (k := 0) rfl
                    have b1 := VRow.cell hb (k := 1) rfl
                    clear hpk hqm hra hrb hb e e'
                    go_wp2_with fail
                    go_quiet (fail)
                    go_wp2
                    refine ⟨⟨m + 1, by omega, by simp, ext_drewN HE7.out _⟩, by simp [intOf]; omega⟩
                  · go_wp2
                    refine ⟨⟨k + 1, by omega, by simp, HE7.out⟩, by simp [intOf]; omega⟩
              · have HE8 := Lib.hid (Ext.trans HEA.out HE6.out)
                go_wp2_with fail
                refine (Overlap_c _ _ qs ps wr (HV.out.ext HE8.out) (HU.out.ext HE8.out)).mono ?_
                rintro e wo ⟨rfl, hE⟩
                rw [ROQ.out]
                simp only [two]
                have HEO := Lib.hid (Ext.trans HE8.out hE)
                clear hE
                go_wp2_with fail
                refine (Flip_c _ qs wo (HV.out.ext HEO.out)).mono ?_
                rintro e wf ⟨uf, rfl, huf, hE⟩
                have hR : flipR qs uf = two uf (.int .i64 0) := by unfold flipR; rw [if_pos VQ.out]
                rw [hR]
                simp only [two]
                have HUF := Lib.hid (huf VQ.out)
                have HEF := Lib.hid (Ext.trans HEO.out hE)
                clear hR huf hE
                obtain ⟨af, cf, rfl, _, _, _⟩ := HUF.out.at
                go_wp2_with fail
                refine (Sum_c _ _ ps (flipP qs) wf (HU.out.ext HEF.out) HUF.out VP.out (valid_flip VQ.out)).mono ?_
                rintro e ws ⟨rs, ds, hso, rfl, hvs, hE⟩
                have HSO := Lib.hid hso
                have HVS := Lib.hid hvs
                have HES := Lib.hid (Ext.trans HEF.out hE)
                clear hso hvs hE
                cases hfar : (sumP ps (flipP qs) ds).any farP with
                | true =>
                  have hR : limR rs (sumP ps (flipP qs) ds) = two (.slice none 0 0) (.int .i64 4) := by unfold limR; rw [if_pos hfar]
                  rw [hR]
                  simp only [two]
                  clear hR hfar
                  go_wp2_with fail
                  refine (alive_c ws).mono ?_
                  rintro e wi ⟨rfl, hE2⟩
                  go_wp2
                  go_ret
                  exact ⟨ret_bool (by simp), Ext.trans HES.out hE2⟩
                | false =>
                  by_cases h32 : 32 < (sumP ps (flipP qs) ds).length
                  · have hR : limR rs (sumP ps (flipP qs) ds) = two (.slice none 0 0) (.int .i64 8) := by unfold limR; rw [if_neg (by rw [hfar]; decide), if_pos h32]
                    rw [hR]
                    simp only [two]
                    clear hR hfar h32
                    go_wp2_with fail
                    refine (alive_c ws).mono ?_
                    rintro e wi ⟨rfl, hE2⟩
                    go_wp2
                    go_ret
                    exact ⟨ret_bool (by simp), Ext.trans HES.out hE2⟩
                  · have hR : limR rs (sumP ps (flipP qs) ds) = two rs (.int .i64 0) := by unfold limR; rw [if_neg (by rw [hfar]; decide), if_neg h32]
                    rw [hR]
                    simp only [two]
                    have hvs : validB (sumP ps (flipP qs) ds) = true := around_valid (sum_around (valid_around VP.out) (around_flip (valid_around VQ.out)) HSO.out) (by omega) hfar
                    have HPR := Lib.hid (show placeR (sumP ps (flipP qs) ds) 0 0 = two (.int .i64 (placeZ (sumP ps (flipP qs) ds) 0 0)) (.int .i64 0) by unfold placeR; rw [if_pos ⟨hvs, by decide⟩])
                    have HPS := Lib.hid (place_sum (valid_around VP.out) (valid_around VQ.out) HSO.out)
                    clear hR hfar h32 hvs
                    obtain ⟨a5, c5, rfl, _, _, _⟩ := HVS.out.at
                    rw [HOO.out] at HPS
                    generalize (sumP ps (flipP qs) ds) = ss at *
                    go_wp2_with fail
                    refine (show Calls Try.prog 13 #[.slice a5 ss.length c5, vecV 0 0] ws _ from (Place_c _ ss 0 0 ws HVS.out).mono ?_)
                    rintro e wp ⟨rfl, hE⟩
                    rw [HPR.out]
                    simp only [two]
                    have HEP := Lib.hid (Ext.trans HES.out hE)
                    clear hE
                    generalize placeZ ss 0 0 = Z at *
                    by_cases hz : Z = 1
                    · exact absurd (HPS.out.1 hz) (by simp)
                    · have hzb : (Z == 1) = false := by simpa using hz
                      have hzd : decide (Z = 1) = false := by simpa using hz
                      go_wp2_with fail
                      refine (alive_c wp).mono ?_
                      rintro e wi ⟨rfl, hE2⟩
                      go_wp2
                      go_ret
                      exact ⟨ret_bool (by simp), Ext.trans HEP.out hE2⟩
          · go_wp2_with fail
            have HB5 := Lib.hid hb
            clear b0 b1 hb
            generalize w4.alloc (.cells #[.int .i64 x, .int .i64 y] 31) = w5 at *
            go_loopw [9] (fun i wr => ∃ k : Nat, k ≤ ps.length ∧ i = .int .i64 k ∧ Ext w5 wr) (fun i _ => ps.length - (intOf i).toNat)
            case atStart => exact ⟨0, Nat.zero_le _, rfl, Ext.refl _⟩
            case round =>
              obtain ⟨k, hk, rfl, hE⟩ := hrel
              have HE6 := Lib.hid hE
              clear hE
              by_cases hlt : k < ps.length
              · go_wp2_with fail
                go_loopw [10] (fun j wr2 => ∃ m : Nat, m ≤ qs.length ∧ j = .int .i64 m ∧ Ext w5 wr2) (fun j _ => qs.length - (intOf j).toNat)
                case atStart => exact ⟨0, Nat.zero_le _, rfl, HE6.out⟩
                case round =>
                  obtain ⟨m, hm, rfl, hE⟩ := hrel
                  have HE7 := Lib.hid hE
                  clear hE
                  by_cases hlt2 : m < qs.length
                  · have hs := HSEP.out k m hlt hlt2
                    obtain ⟨pk, hpk⟩ := getElem?_len hlt
                    obtain ⟨qm, hqm⟩ := getElem?_len hlt2
                    rw [fromP_of hpk, fromP_of hqm] at hs
                    have f1 := fine_near (valid_near VP.out).1 pk (List.mem_of_getElem? hpk)
                    have f2 := fine_near (valid_near VQ.out).1 qm (List.mem_of_getElem? hqm)
                    obtain ⟨p1, p2⟩ := pk
                    obtain ⟨q1, q2⟩ := qm
                    have m1 := mul_fine HX.out f1.1
                    have m2 := mul_fine HY.out f1.2
                    have m3 := mul_fine HX.out f2.1
                    have m4 := mul_fine HY.out f2.2
                    simp only at m1 m2 m3 m4
                    simp only [dotP, dotV] at hs
                    have e1 : wrap64 (x * p1) = x * p1 := by unfold wrap64; omega
                    have e2 : wrap64 (y * p2) = y * p2 := by unfold wrap64; omega
                    have e3 : wrap64 (x * q1) = x * q1 := by unfold wrap64; omega
                    have e4 : wrap64 (y * q2) = y * q2 := by unfold wrap64; omega
                    have e5 : wrap64 (x * p1 + y * p2) = x * p1 + y * p2 := by unfold wrap64; omega
                    have e6 : wrap64 (x * q1 + y * q2) = x * q1 + y * q2 := by unfold wrap64; omega
                    have e7 : ¬ (x * q1 + y * q2 < x * p1 + y * p2) := by omega
                    clear m1 m2 m3 m4 hs f1 f2
                    have hV := (HU.out.ext (Ext.trans HEA.out HE7.out)).at
                    obtain ⟨a', cap', e, _, _, hra⟩ := hV
                    obtain ⟨rfl, rfl⟩ : a1 = a' ∧ c1 = cap' := by injection e with e1 e2 e3; exact ⟨e1, e3⟩
                    obtain ⟨b3, o3, rfl, c3, c4⟩ := hra k _ hpk
                    have hV := (HV.out.ext (Ext.trans HEA.out HE7.out)).at
                    obtain ⟨a', cap', e', _, _, hrb⟩ := hV
                    obtain ⟨rfl, rfl⟩ : a2 = a' ∧ c2 = cap' := by injection e' with e1 e2 e3; exact ⟨e1, e3⟩
                    obtain ⟨b4, o4, rfl, c5, c6⟩ := hrb m _ hqm
                    have hb := VRow.ext HB5.out HE7.out
                    have b0 := VRow.cell hb (k := 0) rfl
                    have b1 := VRow.cell hb (k := 1) rfl
                    clear hpk hqm hra hrb hb e e'
                    go_wp2_with fail
                    go_quiet (fail)
                    go_wp2
                    refine ⟨⟨m + 1, by omega, by simp, ext_drewN HE7.out _⟩, by simp [intOf]; omega⟩
                  · go_wp2
                    refine ⟨⟨k + 1, by omega, by simp, HE7.out⟩, by simp [intOf]; omega⟩
              · have HE8 := Lib.hid (Ext.trans HEA.out HE6.out)
                go_wp2_with fail
                refine (Overlap_c _ _ qs ps wr (HV.out.ext HE8.out) (HU.out.ext HE8.out)).mono ?_
                rintro e wo ⟨rfl, hE⟩
                rw [ROQ.out]
                simp only [two]
                have HEO := Lib.hid (Ext.trans HE8.out hE)
                clear hE
                go_wp2_with fail
                refine (Flip_c _ qs wo (HV.out.ext HEO.out)).mono ?_
                rintro e wf ⟨uf, rfl, huf, hE⟩
                have hR : flipR qs uf = two uf (.int .i64 0) := by unfold flipR; rw [if_pos VQ.out]
                rw [hR]
                simp only [two]
                have HUF := Lib.hid (huf VQ.out)
                have HEF := Lib.hid (Ext.trans HEO.out hE)
                clear hR huf hE
                obtain ⟨af, cf, rfl, _, _, _⟩ := HUF.out.at
                go_wp2_with fail
                refine (Sum_c _ _ ps (flipP qs) wf (HU.out.ext HEF.out) HUF.out VP.out (valid_flip VQ.out)).mono ?_
                rintro e ws ⟨rs, ds, hso, rfl, hvs, hE⟩
                have HSO := Lib.hid hso
                have HVS := Lib.hid hvs
                have HES := Lib.hid (Ext.trans HEF.out hE)
                clear hso hvs hE
                cases hfar : (sumP ps (flipP qs) ds).any farP with
                | true =>
                  have hR : limR rs (sumP ps (flipP qs) ds) = two (.slice none 0 0) (.int .i64 4) := by unfold limR; rw [if_pos hfar]
                  rw [hR]
                  simp only [two]
                  clear hR hfar
                  go_wp2_with fail
                  refine (alive_c ws).mono ?_
                  rintro e wi ⟨rfl, hE2⟩
                  go_wp2
                  go_ret
                  exact ⟨ret_bool (by simp), Ext.trans HES.out hE2⟩
                | false =>
                  by_cases h32 : 32 < (sumP ps (flipP qs) ds).length
                  · have hR : limR rs (sumP ps (flipP qs) ds) = two (.slice none 0 0) (.int .i64 8) := by unfold limR; rw [if_neg (by rw [hfar]; decide), if_pos h32]
                    rw [hR]
                    simp only [two]
                    clear hR hfar h32
                    go_wp2_with fail
                    refine (alive_c ws).mono ?_
                    rintro e wi ⟨rfl, hE2⟩
                    go_wp2
                    go_ret
                    exact ⟨ret_bool (by simp), Ext.trans HES.out hE2⟩
                  · have hR : limR rs (sumP ps (flipP qs) ds) = two rs (.int .i64 0) := by unfold limR; rw [if_neg (by rw [hfar]; decide), if_neg h32]
                    rw [hR]
                    simp only [two]
                    have hvs : validB (sumP ps (flipP qs) ds) = true := around_valid (sum_around (valid_around VP.out) (around_flip (valid_around VQ.out)) HSO.out) (by omega) hfar
                    have HPR := Lib.hid (show placeR (sumP ps (flipP qs) ds) 0 0 = two (.int .i64 (placeZ (sumP ps (flipP qs) ds) 0 0)) (.int .i64 0) by unfold placeR; rw [if_pos ⟨hvs, by decide⟩])
                    have HPS := Lib.hid (place_sum (valid_around VP.out) (valid_around VQ.out) HSO.out)
                    clear hR hfar h32 hvs
                    obtain ⟨a5, c5, rfl, _, _, _⟩ := HVS.out.at
                    rw [HOO.out] at HPS
                    generalize (sumP ps (flipP qs) ds) = ss at *
                    go_wp2_with fail
                    refine (show Calls Try.prog 13 #[.slice a5 ss.length c5, vecV 0 0] ws _ from (Place_c _ ss 0 0 ws HVS.out).mono ?_)
                    rintro e wp ⟨rfl, hE⟩
                    rw [HPR.out]
                    simp only [two]
                    have HEP := Lib.hid (Ext.trans HES.out hE)
                    clear hE
                    generalize placeZ ss 0 0 = Z at *
                    by_cases hz : Z = 1
                    · exact absurd (HPS.out.1 hz) (by simp)
                    · have hzb : (Z == 1) = false := by simpa using hz
                      have hzd : decide (Z = 1) = false := by simpa using hz
                      go_wp2_with fail
                      refine (alive_c wp).mono ?_
                      rintro e wi ⟨rfl, hE2⟩
                      go_wp2
                      go_ret
                      exact ⟨ret_bool (by simp), Ext.trans HEP.out hE2⟩
      · have RO := Lib.hid (show overlapR ps qs = two (.bool false) (.int .i64 2) by unfold overlapR; rw [if_neg hb])
        have RS := Lib.hid (show sepR ps qs = two (vecV 0 0) (.int .i64 2) by unfold sepR; rw [if_neg hb])
        clear hb
        rw [RO.out]
        simp only [two]
        go_wp2_with fail
        refine (Separate_c _ _ ps qs w3 (HU.out.ext HE3.out) (HV.out.ext HE3.out)).mono ?_
        rintro e w4 ⟨rfl, hE⟩
        rw [RS.out]
        simp only [two]
        have HE4 := Lib.hid (Ext.trans HE3.out hE)
        clear hE
        go_wp2_with fail
        refine (alive_c _).mono ?_
        rintro e w5 ⟨rfl, hE⟩
        go_wp2
        go_ret
        exact ⟨ret_bool (by simp), Ext.trans (Ext.alloc HE4.out _) hE⟩
    · rw [decide_eq_false hf2]
      go_wp2_with fail
      refine (alive_c w).mono ?_
      rintro e w2 ⟨rfl, hE⟩
      go_wp2
      go_ret
      exact ⟨rfl, hE⟩
  · rw [decide_eq_false hf1]
    go_wp2_with fail
    refine (alive_c w).mono ?_
    rintro e w2 ⟨rfl, hE⟩
    go_wp2
    go_ret
    exact ⟨rfl, hE⟩
end Go.Proofs.Ytnoacppfgckohaa
