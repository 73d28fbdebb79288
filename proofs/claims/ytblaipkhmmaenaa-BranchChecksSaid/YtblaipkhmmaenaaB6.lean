import Derived.Test.YtblaipkhmmaenaaB2
namespace Go.Proofs.Ytblaipkhmmaenaa
open Go.RowKit
set_option maxRecDepth 100000 in
set_option maxHeartbeats 2000000 in
theorem svalid_c (a b c u : Value) (p : Who) (w : World) (h : WhoAt w a b c u p) :
    Calls Try.prog 19 #[.agg #[a, b, c, u]] w fun e w' => e = .returned (.bool (whoB p)) ∧ Ext w w' := by
  obtain ⟨h0, h1, h2⟩ := who_box h
  obtain ⟨ax, cx, rfl, hxc, hxm, _⟩ := h.1.1.at
  obtain ⟨ay, cy, rfl, hyc, hym, _⟩ := h.1.2.1.at
  obtain ⟨az, cz, rfl, hzc, hzm, _⟩ := h.1.2.2.at
  obtain ⟨au, cu, rfl, huc, hum, _⟩ := h.2.at
  dsimp only at *
  have HE0 := Ext.alloc h2 (.cells #[.slice ax p.A.length cx, .slice ay p.B.length cy, .slice az p.C.length cz] 65)
  have HW0 := h.ext HE0
  have HV0 := VRow.alloc h0 (.cells #[.slice ax p.A.length cx, .slice ay p.B.length cy, .slice az p.C.length cz] 65)
  have HE := Lib.hid HE0
  have HW := Lib.hid HW0
  have HV := Lib.hid HV0
  clear h h0 h1 h2 HE0 HW0 HV0
  go_enter Try.func19, Try.ntmps19
  go_wp2_with fail
  generalize (w.alloc (.cells #[.slice ax p.A.length cx, .slice ay p.B.length cy, .slice az p.C.length cz, .slice au p.U.length cu] 25)).alloc (.cells #[.slice ax p.A.length cx, .slice ay p.B.length cy, .slice az p.C.length cz] 65) = w1 at *
  refine (rvalid_c _ _ _ p.prg _ HW.out.1).mono ?_
  rintro e w2 ⟨rfl, hE2⟩
  have q2 := VRow.cell (VRow.ext HV.out hE2) (k := 2) rfl
  have q3 := VRow.cell (VRow.ext HV.out hE2) (k := 3) rfl
  have HW2 := Lib.hid (HW.out.ext hE2)
  have HE2 := Lib.hid (HE.out.trans hE2)
  clear hE2 HV HW HE
  cases hv : programB p.prg
  · have Hv := Lib.hid hv
    clear hv
    go_wp2
    go_ret
    exact ⟨ret_bool (by simp [whoB, Hv.out]), HE2.out⟩
  · have Hv := Lib.hid hv
    clear hv
    by_cases h5 : p.C.length ≤ 5
    · by_cases hn : p.U.length = p.C.length
      · have hne : ((p.U.length : Int) != (p.C.length : Int)) = false := by rw [hn]; simp
        have Hn := Lib.hid hn
        clear hn
        go_wp2
        clear hne
        go_loop [4] (fun i => ∃ k : Nat, k ≤ p.U.length ∧ i = .int .i64 k ∧ (p.U.take k).all upB = true) (fun i => p.U.length - (intOf i).toNat)
        case atStart => exact ⟨0, Nat.zero_le _, rfl, rfl⟩
        case round =>
          obtain ⟨k, hk, rfl, hall⟩ := hrel
          by_cases hlt : k < p.U.length
          · obtain ⟨y, hy⟩ := getElem?_len hlt
            obtain ⟨_, _, e2, _, _, hr2⟩ := HW2.out.2.at
            simp only [Value.slice.injEq] at e2
            obtain ⟨rfl, _, rfl⟩ := e2
            obtain ⟨b2, o2, rfl, hc2⟩ := hr2 k y hy
            have Hall := Lib.hid hall
            have Hy := Lib.hid hy
            clear hr2 hall hy
            have hi2 : (k : Int) < (p.U.length : Int) := by omega
            by_cases h0 : 0 ≤ y
            · have h0' : ¬ y < 0 := by omega
              by_cases h7 : y ≤ 7
              · have h7' : ¬ 7 < y := by omega
                go_wp2
                refine ⟨⟨k + 1, by omega, by go_num, all_take_succ Hy.out Hall.out (by simp [upB, h0, h7])⟩, by simp [intOf]; omega⟩
              · have h7' : 7 < y := by omega
                go_wp2
                go_ret
                refine ⟨ret_bool ?_, HE2.out⟩
                have := all_false (p := upB) Hy.out (by simp [upB, h7])
                simp only [whoB, this, Bool.and_false, Bool.false_and]
            · have h0' : y < 0 := by omega
              go_wp2
              go_ret
              refine ⟨ret_bool ?_, HE2.out⟩
              have := all_false (p := upB) Hy.out (by simp [upB]; omega)
              simp only [whoB, this, Bool.and_false, Bool.false_and]
          · have Hd := Lib.hid (all_done (p := upB) (by omega) hall)
            clear hall
            go_wp2
            go_ret
            refine ⟨ret_bool ?_, HE2.out⟩
            simp [whoB, h5, Hn.out, Hd.out, Hv.out]
      · have hne : ((p.U.length : Int) != (p.C.length : Int)) = true := by simp; omega
        have Hn := Lib.hid hn
        clear hn
        go_wp2
        go_ret
        refine ⟨ret_bool ?_, HE2.out⟩
        simp [whoB, Hn.out]
    · go_wp2
      go_ret
      refine ⟨ret_bool ?_, HE2.out⟩
      simp [whoB, h5]
end Go.Proofs.Ytblaipkhmmaenaa
