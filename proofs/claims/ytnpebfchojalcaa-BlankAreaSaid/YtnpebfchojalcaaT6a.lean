import Derived.Test.YtnpebfchojalcaaTX
import Derived.Test.YtnpebfchojalcaaSX
import Derived.Test.YtnpebfchojalcaaG2
namespace Go.Proofs.Ytnpebfchojalcaa
set_option maxRecDepth 100000
open Go.RowKit Go.Shelf
/-! The law of areas. -/
/-- what the sum of a blank and its flip answers -/
theorem diff_lim {ps ds : List Pt} (hb : blankB ps = true) (hs : Sorted ps (flipP ps) ds) (r : Value) :
    (limR r (sumP ps (flipP ps) ds) = two (.slice none 0 0) (.int .i64 8)) ∨ (limR r (sumP ps (flipP ps) ds) = two r (.int .i64 0) ∧ validB (sumP ps (flipP ps) ds) = true) := by
  obtain ⟨hv, hin⟩ := blank_parts hb
  have ha := valid_around hv
  have hf := around_flip ha
  have hn := ha.rolls.some
  have hm : Merged ps (flipP ps) ds := ⟨ha.rolls, hf.rolls, hs⟩
  have hA := sum_around ha hf hs
  have far : (sumP ps (flipP ps) ds).any farP = false := by
    rw [List.any_eq_false]
    intro q hq hfar
    obtain ⟨k, hk, rfl⟩ := List.mem_iff_getElem.1 hq
    obtain ⟨i, j, hi, hj, e⟩ := sum_vertex hm (k := k) (by rw [Merged.slen] at hk; exact hk)
    rw [flip_length hn] at hj
    rw [from_flip hj] at e
    have e2 : fromP (sumP ps (flipP ps) ds) k = (sumP ps (flipP ps) ds)[k] := by unfold fromP; simp [hk]
    rw [← e2, e] at hfar
    have b1 := hin _ (from_mem hi)
    have b2 := hin _ (from_mem (Nat.mod_lt (j + flipS ps) hn))
    simp only [farP, farB, addP, negP, Bool.or_eq_true] at hfar
    rcases hfar with ((hf | hf) | hf) | hf <;> (have := of_decide_eq_true hf; omega)
  unfold limR
  rw [if_neg (by rw [far]; decide)]
  by_cases h32 : 32 < (sumP ps (flipP ps) ds).length
  · rw [if_pos h32]; exact .inl rfl
  · rw [if_neg h32]
    exact .inr ⟨rfl, around_valid hA (by omega) far⟩
set_option maxHeartbeats 8000000 in
theorem area_law (v : Value) (ps : List Pt) (A B D : Int) (w : World) (hv : Vecs w v ps) :
    Calls Try.prog 8 #[v, gridV A B D] w fun e w' => e = .returned (.bool true) ∧ Ext w w' := by
  obtain ⟨a, cap, rfl, hl, hm, _⟩ := hv.at
  have hE0 := Ext.alloc (Ext.refl w) (.cells #[.int .i64 A, .int .i64 B, .int .i64 D] 24)
  have HV0 := Lib.hid (hv.ext hE0)
  have HE0 := Lib.hid hE0
  have HG0 := Lib.hid (show VRow (w.alloc (.cells #[.int .i64 A, .int .i64 B, .int .i64 D] 24)) _ _ _ from vrow_alloc w [.int .i64 A, .int .i64 B, .int .i64 D] 24)
  clear hv hE0
  by_cases h60 : ps.length ≤ 60
  · have Hd := Lib.hid (decide_eq_true h60)
    unfold gridV
    go_enter Try.func8, Try.ntmps8
    go_wp2_with fail
    refine (few_c a ps.length cap _ (by omega)).mono ?_
    rintro e w1 ⟨rfl, rfl⟩
    rw [Hd.out]
    obtain ⟨g, hg⟩ : ∃ g, g = w.heap.size := ⟨_, rfl⟩
    rw [← hg] at HG0 ⊢
    have c0 := VRow.cell HG0.out (k := 0) rfl
    have c1 := VRow.cell HG0.out (k := 1) rfl
    have c2 := VRow.cell HG0.out (k := 2) rfl
    generalize w.alloc (.cells #[.int .i64 A, .int .i64 B, .int .i64 D] 24) = w1 at *
    clear hg h60
    go_wp2_with fail
    clear c0 c1 c2
    refine (show Calls Try.prog 16 #[.slice a ps.length cap, gridV A B D] w1 _ from Admissible_c _ ps A B D w1 HV0.out).mono ?_
    rintro e w2 ⟨rfl, hE⟩
    have HV2 := Lib.hid (HV0.out.ext hE)
    have HG2 := Lib.hid (VRow.ext HG0.out hE)
    have HE2 := Lib.hid (Ext.trans HE0.out hE)
    clear HV0 HG0 HE0 hE
    by_cases hbg : blankB ps = true ∧ gridB A B D = true
    · by_cases hc : collL ps A B D = []
      · rw [show admR ps A B D = two (.bool true) (.int .i64 0) by unfold admR; rw [if_pos hbg, decide_eq_true hc]]
        have HBB := Lib.hid hbg.1
        have HV := Lib.hid (blank_parts hbg.1).1
        have HGB := Lib.hid (gridB_iff.1 hbg.2)
        have HAR := Lib.hid (area_grid hbg.1 hbg.2 hc)
        have HAD := Lib.hid (fun ds hs => area_diff (ds := ds) hbg.1 hbg.2 hc hs)
        have HX1 := Lib.hid (show areaR ps = two (.int .i64 (areaZ ps)) (.int .i64 0) from by unfold areaR; rw [if_pos HV.out])
        have HX2 := Lib.hid (fun u => show flipR ps u = two u (.int .i64 0) from by unfold flipR; rw [if_pos HV.out])
        have hgb := HGB.out
        have hm1 : 0 ≤ A * D ∧ A * D ≤ 160000 := ⟨Int.mul_nonneg (by omega) (by omega), by
          have := Int.mul_le_mul hgb.2.1 hgb.2.2.2.1 (by omega) (by omega)
          omega⟩
        have HM := Lib.hid hm1
        have HW1 := Lib.hid (IntWalk.i64_in (2 * A) (by omega))
        have HW2 := Lib.hid (IntWalk.i64_in (2 * A * D) (by rw [Int.mul_assoc]; omega))
        have HW3 := Lib.hid (IntWalk.i64_in (8 * A) (by omega))
        have HW4 := Lib.hid (IntWalk.i64_in (8 * A * D) (by rw [Int.mul_assoc]; omega))
        clear hbg hc hgb hm1
        unfold two
        go_wp2_with fail
        refine (Area_c _ ps _ HV2.out).mono ?_
        rintro e w3 ⟨rfl, hE⟩
        rw [HX1.out]
        have HV3 := Lib.hid (HV2.out.ext hE)
        have HG3 := Lib.hid (VRow.ext HG2.out hE)
        have HE3 := Lib.hid (Ext.trans HE2.out hE)
        clear hE
        unfold two
        go_wp2_with fail
        refine (Flip_c _ ps _ HV3.out).mono ?_
        rintro e w4 ⟨u, rfl, hu, hE⟩
        rw [HX2.out]
        have HU := Lib.hid (show Vecs w4 u (flipP ps) from hu HV.out)
        have HV4 := Lib.hid (HV3.out.ext hE)
        have HG4 := Lib.hid (VRow.ext HG3.out hE)
        have HE4 := Lib.hid (Ext.trans HE3.out hE)
        clear hu hE
        unfold two
        go_wp2_with fail
        refine (Sum_c _ u ps (flipP ps) _ HV4.out HU.out HV.out (valid_flip HV.out)).mono ?_
        rintro e w5 ⟨r, ds, hs, rfl, hr, hE⟩
        have HAD2 := Lib.hid (HAD.out ds hs)
        have HR := Lib.hid (show Vecs w5 r (sumP ps (flipP ps) ds) from hr)
        have HG5 := Lib.hid (VRow.ext HG4.out hE)
        have HE5 := Lib.hid (Ext.trans HE4.out hE)
        rcases diff_lim HBB.out hs r with h8 | ⟨h8, hv8⟩
        · rw [h8]
          clear hs hr hE h8
          unfold two
          go_wp2_with fail
          refine (Area_c (.slice none 0 0) [] w5 ⟨none, 0, rfl, Nat.le_refl _, by omega, .inl rfl⟩).mono ?_
          rintro e w6 ⟨rfl, hE⟩
          rw [show areaR [] = two (.int .i64 0) (.int .i64 2) from by unfold areaR; rw [if_neg (by decide)]]
          have HG6 := Lib.hid (VRow.ext HG5.out hE)
          have HE6 := Lib.hid (Ext.trans HE5.out hE)
          clear hE
          have c0 := VRow.cell HG6.out (k := 0) rfl
          have c2 := VRow.cell HG6.out (k := 2) rfl
          have k1 := HW1.out
          have k2 := HW2.out
          have k3 : ¬ 2 * A * D < areaZ ps := by rw [Int.mul_assoc]; have := HAR.out; omega
          unfold two
          go_wp2_with fail
          clear c0 c2 k1 k2 k3
          refine (alive_c _).mono ?_
          rintro e w9 ⟨rfl, hE9⟩
          go_wp2_with fail
          go_ret
          exact ⟨rfl, Ext.trans HE6.out hE9⟩
        · rw [h8]
          have HX3 := Lib.hid (show areaR (sumP ps (flipP ps) ds) = two (.int .i64 (areaZ (sumP ps (flipP ps) ds))) (.int .i64 0) from by unfold areaR; rw [if_pos hv8])
          clear hs hr hE h8 hv8
          unfold two
          go_wp2_with fail
          refine (Area_c r _ w5 HR.out).mono ?_
          rintro e w6 ⟨rfl, hE⟩
          rw [HX3.out]
          have HG6 := Lib.hid (VRow.ext HG5.out hE)
          have HE6 := Lib.hid (Ext.trans HE5.out hE)
          clear hE
          have c0 := VRow.cell HG6.out (k := 0) rfl
          have c2 := VRow.cell HG6.out (k := 2) rfl
          have k1 := HW1.out
          have k2 := HW2.out
          have k3 : ¬ 2 * A * D < areaZ ps := by rw [Int.mul_assoc]; have := HAR.out; omega
          have k4 := HW3.out
          have k5 := HW4.out
          have k6 : areaZ (sumP ps (flipP ps) ds) ≤ 8 * A * D := by rw [Int.mul_assoc]; have := HAD2.out; omega
          generalize areaZ (sumP ps (flipP ps) ds) = b9 at *
          unfold two
          go_wp2_with fail
          clear c0 c2 k1 k2 k3 k4 k5 k6
          refine (alive_c _).mono ?_
          rintro e w9 ⟨rfl, hE9⟩
          go_wp2_with fail
          go_ret
          exact ⟨rfl, Ext.trans HE6.out hE9⟩
      · rw [show admR ps A B D = two (.bool false) (.int .i64 0) by unfold admR; rw [if_pos hbg, decide_eq_false hc]]
        clear hbg hc
        unfold two
        go_wp2_with fail
        refine (alive_c _).mono ?_
        rintro e w9 ⟨rfl, hE9⟩
        go_wp2_with fail
        go_ret
        exact ⟨rfl, Ext.trans HE2.out hE9⟩
    · rw [show admR ps A B D = two (.bool false) (.int .i64 2) by unfold admR; rw [if_neg hbg]]
      clear hbg
      unfold two
      go_wp2_with fail
      refine (alive_c _).mono ?_
      rintro e w9 ⟨rfl, hE9⟩
      go_wp2_with fail
      go_ret
      exact ⟨rfl, Ext.trans HE2.out hE9⟩
  · have Hd := Lib.hid (decide_eq_false h60)
    unfold gridV
    go_enter Try.func8, Try.ntmps8
    go_wp2_with fail
    refine (few_c a ps.length cap _ (by omega)).mono ?_
    rintro e w1 ⟨rfl, rfl⟩
    rw [Hd.out]
    go_wp2_with fail
    refine (alive_c _).mono ?_
    rintro e w9 ⟨rfl, hE9⟩
    go_wp2_with fail
    go_ret
    exact ⟨rfl, Ext.trans HE0.out hE9⟩
end Go.Proofs.Ytnpebfchojalcaa
