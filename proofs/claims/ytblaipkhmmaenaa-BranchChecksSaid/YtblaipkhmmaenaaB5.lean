import Derived.Test.YtblaipkhmmaenaaB2
namespace Go.Proofs.Ytblaipkhmmaenaa
open Go.RowKit
theorem upB_def (x : Int) : upB x = (decide (0 ≤ x) && decide (x ≤ 7)) := rfl
theorem origin_proper (n : Nat) : properB ⟨List.replicate n 0, 1⟩ n = true := by
  simp [properB, withinB]
set_option maxHeartbeats 2000000 in
set_option maxRecDepth 100000 in
theorem valid_c (a b c u : Value) (p : Who) (w : World) (h : WhoAt w a b c u p) :
    Calls Try.prog 21 #[.agg #[a, b, c, u]] w fun e w' => e = .returned (.bool (whoB p)) ∧ Ext w w' := by
  obtain ⟨h0, h1, h2⟩ := who_box h
  obtain ⟨ax, cx, rfl, hxc, hxm, _⟩ := h.1.1.at
  obtain ⟨ay, cy, rfl, hyc, hym, _⟩ := h.1.2.1.at
  obtain ⟨az, cz, rfl, hzc, hzm, _⟩ := h.1.2.2.at
  obtain ⟨au, cu, rfl, huc, hum, _⟩ := h.2.at
  dsimp only at *
  have q0 := VRow.cell h0 (k := 0) rfl
  have q1 := VRow.cell h0 (k := 1) rfl
  have q2 := VRow.cell h0 (k := 2) rfl
  have q3 := VRow.cell h0 (k := 3) rfl
  have hs : w.heap.size < (w.alloc (.cells #[.slice ax p.A.length cx, .slice ay p.B.length cy, .slice az p.C.length cz, .slice au p.U.length cu] 25)).heap.size := by simp
  change (w.alloc (.cells #[.slice ax p.A.length cx, .slice ay p.B.length cy, .slice az p.C.length cz, .slice au p.U.length cu] 25)).cell? _ = _ at q0 q1 q2 q3
  have HV := Lib.hid h0
  have HW := Lib.hid h1
  have HE := Lib.hid h2
  clear h h0 h1 h2
  by_cases h5 : p.C.length ≤ 5
  · by_cases hn : p.U.length = p.C.length
    · have hne : ((p.U.length : Int) != (p.C.length : Int)) = false := by rw [hn]; simp
      have Hn := Lib.hid hn
      clear hn
      go_enter Try.func21, Try.ntmps21
      go_wp2
      clear hne
      generalize w.alloc (.cells #[.slice ax p.A.length cx, .slice ay p.B.length cy, .slice az p.C.length cz, .slice au p.U.length cu] 25) = w1 at *
      go_loop [24] (fun i => ∃ k : Nat, k ≤ p.U.length ∧ i = .int .i64 k ∧ (p.U.take k).all upB = true) (fun i => p.U.length - (intOf i).toNat)
      case atStart => exact ⟨0, Nat.zero_le _, rfl, rfl⟩
      case round =>
        obtain ⟨k, hk, rfl, hall⟩ := hrel
        by_cases hlt : k < p.U.length
        · obtain ⟨y, hy⟩ := getElem?_len hlt
          obtain ⟨_, _, e2, _, _, hr2⟩ := HW.out.2.at
          simp only [Value.slice.injEq] at e2
          obtain ⟨rfl, _, rfl⟩ := e2
          obtain ⟨b2, o2, rfl, hc2⟩ := hr2 k y hy
          have Hall := Lib.hid hall
          have Hy := Lib.hid hy
          clear hr2 hall hy
          have hi2 : (k : Int) < (p.U.length : Int) := by omega
          by_cases h0 : 0 ≤ y
          · have h0' : ¬ y < 0 := by omega
            by_cases h7 : y ≤ 7
            · have h7' : ¬ 7 < y := by omega
              go_wp2
              refine ⟨⟨k + 1, by omega, by go_num, all_take_succ Hy.out Hall.out (by simp [upB, h0, h7])⟩, by simp [intOf]; omega⟩
            · have h7' : 7 < y := by omega
              go_wp2
              go_ret
              refine ⟨ret_bool ?_, HE.out⟩
              have := all_false (p := upB) Hy.out (by simp [upB, h7])
              simp only [whoB, this, Bool.and_false, Bool.false_and]
          · have h0' : y < 0 := by omega
            go_wp2
            go_ret
            refine ⟨ret_bool ?_, HE.out⟩
            have := all_false (p := upB) Hy.out (by simp [upB]; omega)
            simp only [whoB, this, Bool.and_false, Bool.false_and]
        · have Hd := Lib.hid (all_done (p := upB) (by omega) hall)
          clear hall
          have hmk := run_make_row' (P := Try.prog) 23 3 (.int .i64 0) 8 Try.underlying23 Try.info3 rfl .i64 .i64 p.C.length (by omega) (by omega)
          have hmv := Lib.hid (irow_made w1 p.C.length 3)
          go_wp2_with fail
          have HM := Lib.hid (VRow.alloc hmv.out (.cells #[Value.slice (some { block := w1.heap.size, off := 0 }) p.C.length p.C.length, Value.int IntKind.i64 1] 68))
          have HEM := Lib.hid (Ext.alloc (Ext.alloc (Ext.refl w1) (.cells (madeCells #[.int .i64 0] p.C.length) 3)) (.cells #[Value.slice (some { block := w1.heap.size, off := 0 }) p.C.length p.C.length, Value.int IntKind.i64 1] 68))
          refine (value_c _ _ _ _ p.prg ⟨List.replicate p.C.length 0, 1⟩ _ (prgAt_ext HW.out.1 HEM.out) (IRow.ints' HM.out (by simp) (by simp) (by omega))).mono ?_
          have hpr := origin_proper p.C.length
          have Hpr := Lib.hid hpr
          clear hpr hmk
          rintro e w2 (⟨hv, g9, t9, rfl, _, hE2⟩ | ⟨hv, rfl, hE2⟩)
          · have HEE := Lib.hid ((HE.out.trans HEM.out).trans hE2)
            have hv2 := Lib.hid hv
            clear hv hE2
            go_wp2
            go_ret
            refine ⟨ret_bool ?_, HEE.out.alloc _⟩
            have h9 := hv2.out
            rw [Hpr.out, Bool.and_true] at h9
            simp [whoB, h5, Hn.out, Hd.out, h9]
          · have HEE := Lib.hid ((HE.out.trans HEM.out).trans hE2)
            have hv2 := Lib.hid hv
            clear hv hE2
            go_wp2
            go_ret
            refine ⟨ret_bool ?_, HEE.out.alloc _⟩
            have h9 := hv2.out
            rw [Hpr.out, Bool.and_true] at h9
            simp [whoB, h9]
    · have hne : ((p.U.length : Int) != (p.C.length : Int)) = true := by simp; omega
      have Hn := Lib.hid hn
      clear hn
      go_enter Try.func21, Try.ntmps21
      go_wp2
      go_ret
      refine ⟨ret_bool ?_, HE.out⟩
      simp [whoB, Hn.out]
  · go_enter Try.func21, Try.ntmps21
    go_wp2
    go_ret
    refine ⟨ret_bool ?_, HE.out⟩
    simp [whoB, h5]
end Go.Proofs.Ytblaipkhmmaenaa
