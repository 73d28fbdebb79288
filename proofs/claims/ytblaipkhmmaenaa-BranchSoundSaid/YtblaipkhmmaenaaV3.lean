import Derived.Test.YtblaipkhmmaenaaG3
import Derived.Test.YtblaipkhmmaenaaD2
namespace Go.Proofs.Ytblaipkhmmaenaa
open Go.RowKit
theorem nil_ints (w : World) : Ints w (.slice none 0 0) [] := ⟨none, 0, rfl, Nat.le_refl _, by omega, .inl rfl⟩
theorem best_feas {p : Who} (hv : whoB p = true) {x : List Int} (h : bestK p (sizeU p.U) = some x) : feasB p x = true := by
  obtain ⟨i, hi, rfl, hs, _⟩ := bestK_some p _ _ h
  exact feas_of (inBox_vecAt p.U i (fun z hz => ((whoP hv).2.2.1 z hz).1) hi) hs
set_option maxRecDepth 100000 in
set_option maxHeartbeats 4000000 in
theorem solves_c (a b c u : Value) (co : Int) (p : Who) (w : World) (h : WhoAt w a b c u p) :
    Calls Try.prog 3 #[.agg #[a, b, c, u], .int .i64 co] w fun e w' => e = .returned (.bool true) ∧ Ext w w' := by
  obtain ⟨h0, h1, h2⟩ := who_box h
  have q0 := VRow.cell h0 (k := 0) rfl
  have q1 := VRow.cell h0 (k := 1) rfl
  have q2 := VRow.cell h0 (k := 2) rfl
  have q3 := VRow.cell h0 (k := 3) rfl
  change (w.alloc (.cells #[a, b, c, u] 25)).cell? _ = _ at q0 q1 q2 q3
  have HV := Lib.hid h0
  have HW := Lib.hid h1
  have HE := Lib.hid h2
  clear h h0 h1 h2
  go_enter Try.func3, Try.ntmps3
  go_wp2_with fail
  clear q0 q1 q2 q3
  generalize w.alloc (.cells #[a, b, c, u] 25) = w1 at *
  refine (light_c a b c u p _ HW.out).mono ?_
  rintro e w2 ⟨rfl, hE2⟩
  have HV2 := Lib.hid (VRow.ext HV.out hE2)
  have HW2 := Lib.hid (HW.out.ext hE2)
  have HE2 := Lib.hid (HE.out.trans hE2)
  clear HV HW HE hE2
  cases hl : lightB p
  · clear hl
    go_wp2_with fail
    refine (alive_c _).mono ?_
    rintro e w3 ⟨rfl, hE3⟩
    have HE3 := Lib.hid (HE2.out.trans hE3)
    clear hE3
    go_wp2_with fail
    go_ret
    exact ⟨rfl, HE3.out⟩
  clear hl
  have q0 := VRow.cell HV2.out (k := 0) rfl
  have q1 := VRow.cell HV2.out (k := 1) rfl
  have q2 := VRow.cell HV2.out (k := 2) rfl
  have q3 := VRow.cell HV2.out (k := 3) rfl
  go_wp2_with fail
  clear q0 q1 q2 q3
  refine (solve_c a b c u p _ HW2.out).mono ?_
  rintro e w3 ⟨hE3, hS⟩
  have HV3 := Lib.hid (VRow.ext HV2.out hE3)
  have HW3 := Lib.hid (HW2.out.ext hE3)
  have HE3 := Lib.hid (HE2.out.trans hE3)
  clear HV2 HW2 HE2 hE3
  rcases hS with ⟨hw, rfl⟩ | ⟨hw, hb, rfl⟩ | ⟨hw, x, vx, hb, rfl, hO⟩
  · have Hw := Lib.hid hw
    clear hw
    have q0 := VRow.cell HV3.out (k := 0) rfl
    have q1 := VRow.cell HV3.out (k := 1) rfl
    have q2 := VRow.cell HV3.out (k := 2) rfl
    have q3 := VRow.cell HV3.out (k := 3) rfl
    go_wp2_with fail
    clear q0 q1 q2 q3
    refine (ssolve_c a b c u p _ HW3.out).mono ?_
    rintro e w4 ⟨hE4, hT⟩
    have HV4 := Lib.hid (VRow.ext HV3.out hE4)
    have HW4 := Lib.hid (HW3.out.ext hE4)
    have HE4 := Lib.hid (HE3.out.trans hE4)
    rcases hT with ⟨_, rfl⟩ | ⟨h, _⟩ | ⟨h, _⟩
    rotate_left
    · rw [Hw.out] at h; cases h
    · rw [Hw.out] at h; cases h
    have hSm := same_c _ _ _ _ w4 (nil_ints w4) (nil_ints w4)
    have HSm := Lib.hid hSm
    clear hSm HV3 HW3 HE3 hE4
    go_wp2_with fail
    refine HSm.out.mono ?_
    rintro e w5 ⟨rfl, n5, rfl⟩
    simp only [decide_true]
    have HV5 := Lib.hid (VRow.ext HV4.out (below_drewN (Ext.refl w4) n5))
    have HW5 := Lib.hid (HW4.out.ext (below_drewN (Ext.refl w4) n5))
    have HE5 := Lib.hid (HE4.out.trans (below_drewN (Ext.refl w4) n5))
    clear HV4 HW4 HE4 HSm
    generalize w4.drewN n5 = w6 at *
    have q0 := VRow.cell HV5.out (k := 0) rfl
    have q1 := VRow.cell HV5.out (k := 1) rfl
    have q2 := VRow.cell HV5.out (k := 2) rfl
    have q3 := VRow.cell HV5.out (k := 3) rfl
    go_wp2_with fail
    clear q0 q1 q2 q3
    refine (count_c a b c u co p _ HW5.out).mono ?_
    rintro e w7 ⟨hE7, hN⟩
    rcases hN with ⟨_, rfl⟩ | ⟨h, _⟩
    rotate_left
    · rw [Hw.out] at h; cases h
    have HV7 := Lib.hid (VRow.ext HV5.out hE7)
    have HW7 := Lib.hid (HW5.out.ext hE7)
    have HE7 := Lib.hid (HE5.out.trans hE7)
    clear HV5 HW5 HE5 hE7
    have q0 := VRow.cell HV7.out (k := 0) rfl
    have q1 := VRow.cell HV7.out (k := 1) rfl
    have q2 := VRow.cell HV7.out (k := 2) rfl
    have q3 := VRow.cell HV7.out (k := 3) rfl
    go_wp2_with fail
    clear q0 q1 q2 q3
    refine (scount_c a b c u co p _ HW7.out).mono ?_
    rintro e w8 ⟨hE8, hN⟩
    rcases hN with ⟨_, rfl⟩ | ⟨h, _⟩
    rotate_left
    · rw [Hw.out] at h; cases h
    have HE8 := Lib.hid (HE7.out.trans hE8)
    clear HV7 HW7 HE7 hE8
    go_wp2_with fail
    refine (alive_c _).mono ?_
    rintro e w99 ⟨rfl, hE99⟩
    have HE99 := Lib.hid (HE8.out.trans hE99)
    clear hE99
    go_wp2_with fail
    go_ret
    exact ⟨rfl, HE99.out⟩
  · have Hw := Lib.hid hw
    have Hb := Lib.hid hb
    clear hw hb
    have q0 := VRow.cell HV3.out (k := 0) rfl
    have q1 := VRow.cell HV3.out (k := 1) rfl
    have q2 := VRow.cell HV3.out (k := 2) rfl
    have q3 := VRow.cell HV3.out (k := 3) rfl
    go_wp2_with fail
    clear q0 q1 q2 q3
    refine (ssolve_c a b c u p _ HW3.out).mono ?_
    rintro e w4 ⟨hE4, hT⟩
    have HV4 := Lib.hid (VRow.ext HV3.out hE4)
    have HW4 := Lib.hid (HW3.out.ext hE4)
    have HE4 := Lib.hid (HE3.out.trans hE4)
    rcases hT with ⟨h, _⟩ | ⟨_, _, rfl⟩ | ⟨_, _, _, h, _⟩
    · rw [Hw.out] at h; cases h
    rotate_left
    · rw [Hb.out] at h; cases h
    have hSm := same_c _ _ _ _ w4 (nil_ints w4) (nil_ints w4)
    have HSm := Lib.hid hSm
    clear hSm HV3 HW3 HE3 hE4
    go_wp2_with fail
    refine HSm.out.mono ?_
    rintro e w5 ⟨rfl, n5, rfl⟩
    simp only [decide_true]
    have HV5 := Lib.hid (VRow.ext HV4.out (below_drewN (Ext.refl w4) n5))
    have HW5 := Lib.hid (HW4.out.ext (below_drewN (Ext.refl w4) n5))
    have HE5 := Lib.hid (HE4.out.trans (below_drewN (Ext.refl w4) n5))
    clear HV4 HW4 HE4 HSm
    generalize w4.drewN n5 = w6 at *
    have q0 := VRow.cell HV5.out (k := 0) rfl
    have q1 := VRow.cell HV5.out (k := 1) rfl
    have q2 := VRow.cell HV5.out (k := 2) rfl
    have q3 := VRow.cell HV5.out (k := 3) rfl
    go_wp2_with fail
    clear q0 q1 q2 q3
    refine (count_c a b c u co p _ HW5.out).mono ?_
    rintro e w7 ⟨hE7, hN⟩
    rcases hN with ⟨h, _⟩ | ⟨_, rfl⟩
    · rw [Hw.out] at h; cases h
    have HV7 := Lib.hid (VRow.ext HV5.out hE7)
    have HW7 := Lib.hid (HW5.out.ext hE7)
    have HE7 := Lib.hid (HE5.out.trans hE7)
    clear HV5 HW5 HE5 hE7
    have q0 := VRow.cell HV7.out (k := 0) rfl
    have q1 := VRow.cell HV7.out (k := 1) rfl
    have q2 := VRow.cell HV7.out (k := 2) rfl
    have q3 := VRow.cell HV7.out (k := 3) rfl
    go_wp2_with fail
    clear q0 q1 q2 q3
    refine (scount_c a b c u co p _ HW7.out).mono ?_
    rintro e w8 ⟨hE8, hN⟩
    rcases hN with ⟨h, _⟩ | ⟨_, rfl⟩
    · rw [Hw.out] at h; cases h
    have HE8 := Lib.hid (HE7.out.trans hE8)
    clear HV7 HW7 HE7 hE8
    go_wp2_with fail
    refine (alive_c _).mono ?_
    rintro e w99 ⟨rfl, hE99⟩
    have HE99 := Lib.hid (HE8.out.trans hE99)
    clear hE99
    go_wp2_with fail
    go_ret
    exact ⟨rfl, HE99.out⟩
  · have Hw := Lib.hid hw
    have Hb := Lib.hid hb
    have HX3 := Lib.hid hO.ints
    clear hw hb hO
    have q0 := VRow.cell HV3.out (k := 0) rfl
    have q1 := VRow.cell HV3.out (k := 1) rfl
    have q2 := VRow.cell HV3.out (k := 2) rfl
    have q3 := VRow.cell HV3.out (k := 3) rfl
    go_wp2_with fail
    clear q0 q1 q2 q3
    refine (ssolve_c a b c u p _ HW3.out).mono ?_
    rintro e w4 ⟨hE4, hT⟩
    have HV4 := Lib.hid (VRow.ext HV3.out hE4)
    have HW4 := Lib.hid (HW3.out.ext hE4)
    have HE4 := Lib.hid (HE3.out.trans hE4)
    rcases hT with ⟨h, _⟩ | ⟨_, h, _⟩ | ⟨_, x', vy, hx', rfl, hY⟩
    · rw [Hw.out] at h; cases h
    · rw [Hb.out] at h; cases h
    rw [Hb.out] at hx'
    cases hx'
    have hSm := same_c _ _ _ _ w4 ((HX3.out.ext hE4)) (hY)
    have HSm := Lib.hid hSm
    clear hSm HV3 HW3 HE3 hE4
    go_wp2_with fail
    refine HSm.out.mono ?_
    rintro e w5 ⟨rfl, n5, rfl⟩
    simp only [decide_true]
    have HV5 := Lib.hid (VRow.ext HV4.out (below_drewN (Ext.refl w4) n5))
    have HW5 := Lib.hid (HW4.out.ext (below_drewN (Ext.refl w4) n5))
    have HE5 := Lib.hid (HE4.out.trans (below_drewN (Ext.refl w4) n5))
    clear HV4 HW4 HE4 HSm
    generalize w4.drewN n5 = w6 at *
    have q0 := VRow.cell HV5.out (k := 0) rfl
    have q1 := VRow.cell HV5.out (k := 1) rfl
    have q2 := VRow.cell HV5.out (k := 2) rfl
    have q3 := VRow.cell HV5.out (k := 3) rfl
    go_wp2_with fail
    clear q0 q1 q2 q3
    refine (count_c a b c u co p _ HW5.out).mono ?_
    rintro e w7 ⟨hE7, hN⟩
    rcases hN with ⟨h, _⟩ | ⟨_, rfl⟩
    · rw [Hw.out] at h; cases h
    have HV7 := Lib.hid (VRow.ext HV5.out hE7)
    have HW7 := Lib.hid (HW5.out.ext hE7)
    have HE7 := Lib.hid (HE5.out.trans hE7)
    clear HV5 HW5 HE5 hE7
    have q0 := VRow.cell HV7.out (k := 0) rfl
    have q1 := VRow.cell HV7.out (k := 1) rfl
    have q2 := VRow.cell HV7.out (k := 2) rfl
    have q3 := VRow.cell HV7.out (k := 3) rfl
    go_wp2_with fail
    clear q0 q1 q2 q3
    refine (scount_c a b c u co p _ HW7.out).mono ?_
    rintro e w8 ⟨hE8, hN⟩
    rcases hN with ⟨h, _⟩ | ⟨_, rfl⟩
    · rw [Hw.out] at h; cases h
    have HE8 := Lib.hid (HE7.out.trans hE8)
    clear HV7 HW7 HE7 hE8
    go_wp2_with fail
    refine (alive_c _).mono ?_
    rintro e w99 ⟨rfl, hE99⟩
    have HE99 := Lib.hid (HE8.out.trans hE99)
    clear hE99
    go_wp2_with fail
    go_ret
    exact ⟨rfl, HE99.out⟩
end Go.Proofs.Ytblaipkhmmaenaa
