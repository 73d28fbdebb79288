import Derived.Test.YtnpebfchojalcaaG1
namespace Go.Proofs.Ytnpebfchojalcaa
set_option maxRecDepth 100000
open Go.RowKit Go.Shelf Go.Maps
theorem few_c (a : Option Addr) (len cap : Nat) (w : World) (h : len ≤ 9223372036854775807) : Calls Try.prog 14 #[.slice a len cap] w fun e w' => e = .returned (.bool (decide (len ≤ 60))) ∧ w = w' := by
  by_cases h3 : len ≤ 60
  · rw [decide_eq_true h3]
    go_enter Try.func14, Try.ntmps14
    go_wp2
    all_goals go_ret
    all_goals exact ⟨ret_bool (by simp; omega), rfl⟩
  · rw [decide_eq_false h3]
    go_enter Try.func14, Try.ntmps14
    go_wp2
    all_goals go_ret
    all_goals exact ⟨ret_bool (by simp; omega), rfl⟩
theorem first_grid {ks : List Pt} {A B D : Int} (h : FirstG ks A B D) : gridB A B D = true := by
  obtain ⟨⟨a, b, c, d⟩, _⟩ := h
  have := mul_le_of a (show 1 ≤ D by omega) d
  rw [gridB_iff]
  omega
set_option maxHeartbeats 4000000 in
theorem first_law (v : Value) (ps : List Pt) (A' B' D' : Int) (w : World) (hv : Vecs w v ps) :
    Calls Try.prog 10 #[v, .agg #[.int .i64 A', .int .i64 B', .int .i64 D']] w fun e w' => e = .returned (.bool true) ∧ Ext w w' := by
  obtain ⟨a, cap, rfl, hl, hm, _⟩ := hv.at
  have hE0 := Ext.alloc (Ext.refl w) (.cells #[.int .i64 A', .int .i64 B', .int .i64 D'] 24)
  have HV := Lib.hid (hv.ext hE0)
  have HE0 := Lib.hid hE0
  have HB := Lib.hid (show VRow (w.alloc (.cells #[.int .i64 A', .int .i64 B', .int .i64 D'] 24)) _ _ _ from vrow_alloc w [.int .i64 A', .int .i64 B', .int .i64 D'] 24)
  clear hv hE0
  by_cases h60 : ps.length ≤ 60
  · have Hd := Lib.hid (decide_eq_true h60)
    go_enter Try.func10, Try.ntmps10
    go_wp2_with fail
    refine (few_c a ps.length cap _ (by omega)).mono ?_
    rintro e w1 ⟨rfl, rfl⟩
    rw [Hd.out]
    generalize hs0 : w.heap.size = s0 at *
    go_wp2_with fail
    refine (Densest_c _ ps _ HV.out).mono ?_
    rintro e w2 ⟨hS, hE2⟩
    have HB2 := Lib.hid (VRow.ext HB.out hE2)
    have HV2 := Lib.hid (HV.out.ext hE2)
    have HE2 := Lib.hid (Ext.trans HE0.out hE2)
    clear hE2 HB HV HE0
    rcases hS with ⟨hb, A, B, D, rfl, hf⟩ | ⟨hb, rfl⟩
    · have HBB := Lib.hid hb
      have HF := Lib.hid hf
      have hgd := first_grid hf
      have HGD := Lib.hid hgd
      clear hb hf
      simp only [two, gridV]
      have hEd := Ext.alloc (Ext.refl w2) (.cells #[.int .i64 A, .int .i64 B, .int .i64 D] 24)
      have HD := Lib.hid (show VRow (w2.alloc (.cells #[.int .i64 A, .int .i64 B, .int .i64 D] 24)) _ _ _ from vrow_alloc w2 [.int .i64 A, .int .i64 B, .int .i64 D] 24)
      have HB3 := Lib.hid (VRow.ext HB2.out hEd)
      have HV3 := Lib.hid (HV2.out.ext hEd)
      have HE3 := Lib.hid (Ext.trans HE2.out hEd)
      clear hEd HB2 HV2 HE2
      have hlt2 : s0 < w2.heap.size + 1 := by have := VRow.lt HB3.out; simpa using this
      go_wp2_with fail
      generalize w2.heap.size = g0 at *
      generalize w2.alloc (.cells #[.int .i64 A, .int .i64 B, .int .i64 D] 24) = w3 at *
      have HAD := Lib.hid (show admR ps A B D = two (.bool true) (.int .i64 0) by
        unfold admR
        rw [if_pos ⟨HBB.out, HGD.out⟩, decide_eq_true ((avoid_iff (gridB_ok HGD.out)).1 HF.out.2.1)])
      refine (show Calls Try.prog 16 #[.slice a ps.length cap, gridV A B D] w3 _ from Admissible_c _ ps A B D w3 HV3.out).mono ?_
      rintro e w4 ⟨rfl, hE4⟩
      rw [HAD.out]
      have HD4 := Lib.hid (VRow.ext HD.out hE4)
      have HB4 := Lib.hid (VRow.ext HB3.out hE4)
      have HV4 := Lib.hid (HV3.out.ext hE4)
      have HE4 := Lib.hid (Ext.trans HE3.out hE4)
      clear hE4 HD HB3 HV3 HE3 HAD
      simp only [two]
      have q0 := VRow.cell HB4.out (k := 0) rfl
      have q1 := VRow.cell HB4.out (k := 1) rfl
      have q2 := VRow.cell HB4.out (k := 2) rfl
      go_wp2_with fail
      clear q0 q1 q2
      refine (show Calls Try.prog 16 #[.slice a ps.length cap, gridV A' B' D'] w4 _ from Admissible_c _ ps A' B' D' w4 HV4.out).mono ?_
      rintro e w5 ⟨rfl, hE5⟩
      have HD5 := Lib.hid (VRow.ext HD4.out hE5)
      have HB5 := Lib.hid (VRow.ext HB4.out hE5)
      have HE5 := Lib.hid (Ext.trans HE4.out hE5)
      clear hE5 HD4 HB4 HV4 HE4
      cases hg : gridB A' B' D' with
      | false =>
        rw [show admR ps A' B' D' = two (.bool false) (.int .i64 2) by simp [admR, hg]]
        clear hg
        simp only [two]
        go_wp2_with fail
        refine (alive_c w5).mono ?_
        rintro e w6 ⟨rfl, hE6⟩
        go_wp2_with fail
        go_ret
        exact ⟨rfl, Ext.trans HE5.out hE6⟩
      | true =>
        rw [show admR ps A' B' D' = two (.bool (decide (collL ps A' B' D' = []))) (.int .i64 0) by simp [admR, hg, HBB.out]]
        by_cases hc : collL ps A' B' D' = []
        · rw [decide_eq_true hc]
          have hav := (avoid_iff (gridB_ok hg)).2 hc
          have hgi := gridB_iff.1 hg
          have hgd2 := gridB_iff.1 hgd
          have hnb : ¬ befG A' B' D' A B D := fun hb => by
            have := HF.out.2.2 A' B' D' hgi.1 hgi.2.2.2.2.1 hgi.2.2.2.2.2 hb
            rw [hav] at this; cases this
          unfold befG at hnb
          have hp1 := HF.out.1.2.2.2
          have hp2 := Int.mul_le_mul hgi.2.1 hgi.2.2.2.1 (by omega) (by omega)
          have hp3 := Int.mul_pos (show 0 < A by omega) (show 0 < D by omega)
          have hp4 := Int.mul_pos (show 0 < A' by omega) (show 0 < D' by omega)
          obtain ⟨m1, hm1⟩ : ∃ m1, A * D = m1 := ⟨_, rfl⟩
          obtain ⟨m2, hm2⟩ : ∃ m2, A' * D' = m2 := ⟨_, rfl⟩
          rw [hm1] at hnb hp1 hp3
          rw [hm2] at hnb hp2 hp4
          have hwm1 : IntKind.i64.wrap m1 = m1 := IntWalk.i64_in _ (by omega)
          have hwm2 : IntKind.i64.wrap m2 = m2 := IntWalk.i64_in _ (by omega)
          clear hc hav hg hgd
          simp only [two]
          have d0 := VRow.cell HD5.out (k := 0) rfl
          have d1 := VRow.cell HD5.out (k := 1) rfl
          have d2 := VRow.cell HD5.out (k := 2) rfl
          have q0 := VRow.cell HB5.out (k := 0) rfl
          have q1 := VRow.cell HB5.out (k := 1) rfl
          have q2 := VRow.cell HB5.out (k := 2) rfl
          by_cases e1 : m1 = m2
          · have hb1 : (m1 != m2) = false := by simp [e1]
            by_cases e2 : A = A'
            · have hb2 : (A != A') = false := by simp [e2]
              have e3 : B ≤ B' := by omega
              clear hnb e1 e2
              go_wp2_with fail
              refine (alive_c w5).mono ?_
              rintro e w6 ⟨rfl, hE6⟩
              go_wp2_with fail
              go_ret
              exact ⟨rfl, Ext.trans HE5.out hE6⟩
            · have hb2 : (A != A') = true := by simp [e2]
              have e3 : A < A' := by omega
              clear hnb e1 e2
              go_wp2_with fail
              refine (alive_c w5).mono ?_
              rintro e w6 ⟨rfl, hE6⟩
              go_wp2_with fail
              go_ret
              exact ⟨rfl, Ext.trans HE5.out hE6⟩
          · have hb1 : (m1 != m2) = true := by simp [e1]
            have e3 : m1 < m2 := by omega
            clear hnb e1
            go_wp2_with fail
            refine (alive_c w5).mono ?_
            rintro e w6 ⟨rfl, hE6⟩
            go_wp2_with fail
            go_ret
            exact ⟨rfl, Ext.trans HE5.out hE6⟩
        · rw [decide_eq_false hc]
          clear hc hg
          simp only [two]
          go_wp2_with fail
          refine (alive_c w5).mono ?_
          rintro e w6 ⟨rfl, hE6⟩
          go_wp2_with fail
          go_ret
          exact ⟨rfl, Ext.trans HE5.out hE6⟩
    · simp only [two, gridV]
      have HE3 := Lib.hid (Ext.trans HE2.out (Ext.alloc (Ext.refl w2) (.cells #[.int .i64 0, .int .i64 0, .int .i64 0] 24)))
      go_wp2_with fail
      generalize w2.alloc (.cells #[.int .i64 0, .int .i64 0, .int .i64 0] 24) = w3 at *
      refine (alive_c w3).mono ?_
      rintro e w6 ⟨rfl, hE6⟩
      go_wp2_with fail
      go_ret
      exact ⟨rfl, Ext.trans HE3.out hE6⟩
  · have Hd := Lib.hid (decide_eq_false h60)
    go_enter Try.func10, Try.ntmps10
    go_wp2_with fail
    refine (few_c a ps.length cap _ (by omega)).mono ?_
    rintro e w1 ⟨rfl, rfl⟩
    rw [Hd.out]
    go_wp2_with fail
    refine (alive_c _).mono ?_
    rintro e w6 ⟨rfl, hE6⟩
    go_wp2_with fail
    go_ret
    exact ⟨rfl, Ext.trans HE0.out hE6⟩
end Go.Proofs.Ytnpebfchojalcaa
