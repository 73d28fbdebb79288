import Derived.Test.YtblaipkhmmaenaaV3
import Derived.Test.YtblaipkhmmaenaaM6
namespace Go.Proofs.Ytblaipkhmmaenaa
open Go.RowKit
set_option maxRecDepth 100000 in
set_option maxHeartbeats 4000000 in
theorem sound_c (a b c u v : Value) (ns : List Nd) (f : Bool) (co : Int) (p : Who) (w : World) (h : WhoAt w a b c u p) (hN : NodesAt w v ns) :
    Calls Try.prog 6 #[.agg #[a, b, c, u], v, .bool f, .int .i64 co] w fun e w' => e = .returned (.bool true) ∧ Ext w w' := by
  obtain ⟨h0, h1, h2⟩ := who_box h
  have q0 := VRow.cell h0 (k := 0) rfl
  have q1 := VRow.cell h0 (k := 1) rfl
  have q2 := VRow.cell h0 (k := 2) rfl
  have q3 := VRow.cell h0 (k := 3) rfl
  change (w.alloc (.cells #[a, b, c, u] 25)).cell? _ = _ at q0 q1 q2 q3
  have HV := Lib.hid h0
  have HW := Lib.hid h1
  have HE := Lib.hid h2
  have HN := Lib.hid (hN.ext h2)
  clear h h0 h1 h2 hN
  go_enter Try.func6, Try.ntmps6
  go_wp2_with fail
  clear q0 q1 q2 q3
  generalize w.alloc (.cells #[a, b, c, u] 25) = w1 at *
  refine (light_c a b c u p _ HW.out).mono ?_
  rintro e w2 ⟨rfl, hE2⟩
  have HV2 := Lib.hid (VRow.ext HV.out hE2)
  have HW2 := Lib.hid (HW.out.ext hE2)
  have HE2 := Lib.hid (HE.out.trans hE2)
  have HN2 := Lib.hid (HN.out.ext hE2)
  clear HV HW HE HN hE2
  cases hl : lightB p
  · clear hl
    go_wp2_with fail
    refine (alive_c _).mono ?_
    rintro e w3 ⟨rfl, hE3⟩
    have HE3 := Lib.hid (HE2.out.trans hE3)
    clear hE3
    go_wp2_with fail
    go_ret
    exact ⟨rfl, HE3.out⟩
  clear hl
  go_wp2_with fail
  refine (short_c v ns _ HN2.out).mono ?_
  rintro e w3 ⟨rfl, rfl⟩
  cases hsh : shortB ns
  · clear hsh
    go_wp2_with fail
    refine (alive_c _).mono ?_
    rintro e w99 ⟨rfl, hE99⟩
    have HE99 := Lib.hid (HE2.out.trans hE99)
    clear hE99
    go_wp2_with fail
    go_ret
    exact ⟨rfl, HE99.out⟩
  have hns : ns.length ≤ 300 := by
    simp only [shortB, Bool.and_eq_true, decide_eq_true_eq] at hsh
    exact hsh.1
  clear hsh
  have q0 := VRow.cell HV2.out (k := 0) rfl
  have q1 := VRow.cell HV2.out (k := 1) rfl
  have q2 := VRow.cell HV2.out (k := 2) rfl
  have q3 := VRow.cell HV2.out (k := 3) rfl
  go_wp2_with fail
  clear q0 q1 q2 q3
  refine (checkAny_c a b c u v f co ns p _ HW2.out HN2.out).mono ?_
  rintro e w4 ⟨rfl, hE4⟩
  have HV4 := Lib.hid (VRow.ext HV2.out hE4)
  have HW4 := Lib.hid (HW2.out.ext hE4)
  have HE4 := Lib.hid (HE2.out.trans hE4)
  clear HV2 HW2 HE2 HN2 hE4
  have hck : chkV (whoB p) ns.length (accM p (goalsOf p f co) ns) = .returned (.tuple #[.bool (whoB p && accM p (goalsOf p f co) ns), .int .i64 (if whoB p = true then 0 else 2)]) := by
    simp [chkV, show ns.length ≤ 65535 by omega]
  rw [hck]
  clear hck
  cases hw : whoB p
  · clear hw
    go_wp2_with fail
    refine (alive_c _).mono ?_
    rintro e w99 ⟨rfl, hE99⟩
    have HE99 := Lib.hid (HE4.out.trans hE99)
    clear hE99
    go_wp2_with fail
    go_ret
    exact ⟨rfl, HE99.out⟩
  have Hw := Lib.hid hw
  clear hw
  cases hacc : accM p (goalsOf p f co) ns
  · clear hacc
    go_wp2_with fail
    refine (alive_c _).mono ?_
    rintro e w99 ⟨rfl, hE99⟩
    have HE99 := Lib.hid (HE4.out.trans hE99)
    clear hE99
    go_wp2_with fail
    go_ret
    exact ⟨rfl, HE99.out⟩
  have Hacc := Lib.hid hacc
  clear hacc
  have q0 := VRow.cell HV4.out (k := 0) rfl
  have q1 := VRow.cell HV4.out (k := 1) rfl
  have q2 := VRow.cell HV4.out (k := 2) rfl
  have q3 := VRow.cell HV4.out (k := 3) rfl
  go_wp2_with fail
  clear q0 q1 q2 q3
  refine (ssolve_c a b c u p _ HW4.out).mono ?_
  rintro e w5 ⟨hE5, hS⟩
  have HE5 := Lib.hid (HE4.out.trans hE5)
  clear HV4 HW4 HE4 hE5
  rcases hS with ⟨h, _⟩ | ⟨_, hb, rfl⟩ | ⟨_, x, vx, hb, rfl, _⟩
  · rw [Hw.out] at h; cases h
  · clear hb
    go_wp2_with fail
    refine (alive_c _).mono ?_
    rintro e w99 ⟨rfl, hE99⟩
    have HE99 := Lib.hid (HE5.out.trans hE99)
    clear hE99
    go_wp2_with fail
    go_ret
    exact ⟨rfl, HE99.out⟩
  · obtain ⟨rfl, hle⟩ := acc_sound Hw.out Hacc.out (best_feas Hw.out hb)
    clear hb Hacc
    generalize dotZ p.C x = D at *
    go_wp2_with fail
    refine (alive_c _).mono ?_
    rintro e w99 ⟨rfl, hE99⟩
    have HE99 := Lib.hid (HE5.out.trans hE99)
    clear hE99
    go_wp2_with fail
    go_ret
    exact ⟨rfl, HE99.out⟩
end Go.Proofs.Ytblaipkhmmaenaa
