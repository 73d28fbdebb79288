import Derived.Test.YtblaipkhmmaenaaM2
import Derived.Test.YtblaipkhmmaenaaD2
import Derived.Test.YtblaipkhmmaenaaB6
namespace Go.Proofs.Ytblaipkhmmaenaa
open Go.RowKit
set_option maxRecDepth 100000 in
set_option maxHeartbeats 2000000 in
theorem vector_c (a b c u v : Value) (p : Who) (y : List Int) (w : World) (h : WhoAt w a b c u p) (hy : Ints w v y) :
    Calls Try.prog 7 #[.agg #[a, b, c, u], v] w fun e w' => e = .returned (.bool true) ∧ Ext w w' := by
  obtain ⟨h0, h1, h2⟩ := who_box h
  have HY := Lib.hid (hy.ext h2)
  obtain ⟨av, cv, rfl, hyc, hym, _⟩ := hy.at
  have q0 := VRow.cell h0 (k := 0) rfl
  have q1 := VRow.cell h0 (k := 1) rfl
  have q2 := VRow.cell h0 (k := 2) rfl
  have q3 := VRow.cell h0 (k := 3) rfl
  change (w.alloc (.cells #[a, b, c, u] 25)).cell? _ = _ at q0 q1 q2 q3
  have HV := Lib.hid h0
  have HW := Lib.hid h1
  have HE := Lib.hid h2
  clear h h0 h1 h2 hy
  go_enter Try.func7, Try.ntmps7
  go_wp2_with fail
  clear q0 q1 q2 q3
  generalize w.alloc (.cells #[a, b, c, u] 25) = w1 at *
  refine (light_c a b c u p _ HW.out).mono ?_
  rintro e w2 ⟨rfl, hE2⟩
  have HV2 := Lib.hid (VRow.ext HV.out hE2)
  have HW2 := Lib.hid (HW.out.ext hE2)
  have HY2 := Lib.hid (HY.out.ext hE2)
  have HE2 := Lib.hid (HE.out.trans hE2)
  clear HV HW HY HE hE2
  cases hl : lightB p
  · clear hl
    go_wp2_with fail
    refine (alive_c _).mono ?_
    rintro e w3 ⟨rfl, hE3⟩
    have HE3 := Lib.hid (HE2.out.trans hE3)
    clear hE3
    go_wp2_with fail
    go_ret
    exact ⟨rfl, HE3.out⟩
  · clear hl
    by_cases hn : y.length ≤ 20
    · have hn2 : ¬ (20 : Int) < (y.length : Int) := by omega
      have q0 := VRow.cell HV2.out (k := 0) rfl
      have q1 := VRow.cell HV2.out (k := 1) rfl
      have q2 := VRow.cell HV2.out (k := 2) rfl
      have q3 := VRow.cell HV2.out (k := 3) rfl
      go_wp2_with fail
      clear q0 q1 q2 q3
      refine (svalid_c a b c u p _ HW2.out).mono ?_
      rintro e w3 ⟨rfl, hE3⟩
      have HV3 := Lib.hid (VRow.ext HV2.out hE3)
      have HW3 := Lib.hid (HW2.out.ext hE3)
      have HY3 := Lib.hid (HY2.out.ext hE3)
      have HE3 := Lib.hid (HE2.out.trans hE3)
      clear HV2 HW2 HY2 HE2 hE3
      cases hw : whoB p
      · clear hw
        go_wp2_with fail
        refine (alive_c _).mono ?_
        rintro e w4 ⟨rfl, hE4⟩
        have HE4 := Lib.hid (HE3.out.trans hE4)
        clear hE4
        go_wp2_with fail
        go_ret
        exact ⟨rfl, HE4.out⟩
      · have Hw := Lib.hid hw
        clear hw
        have q0 := VRow.cell HV3.out (k := 0) rfl
        have q1 := VRow.cell HV3.out (k := 1) rfl
        have q2 := VRow.cell HV3.out (k := 2) rfl
        have q3 := VRow.cell HV3.out (k := 3) rfl
        go_wp2_with fail
        clear q0 q1 q2 q3
        refine (feas2_c a b c u _ p Hw.out y _ HW3.out HY3.out).mono ?_
        rintro e w4 ⟨rfl, hE4⟩
        have HV4 := Lib.hid (VRow.ext HV3.out hE4)
        have HW4 := Lib.hid (HW3.out.ext hE4)
        have HY4 := Lib.hid (HY3.out.ext hE4)
        have HE4 := Lib.hid (HE3.out.trans hE4)
        clear HV3 HW3 HY3 HE3 hE4
        cases hf : feasB p y
        · clear hf
          go_wp2_with fail
          refine (alive_c _).mono ?_
          rintro e w5 ⟨rfl, hE5⟩
          have HE5 := Lib.hid (HE4.out.trans hE5)
          clear hE5
          go_wp2_with fail
          go_ret
          exact ⟨rfl, HE5.out⟩
        · have Hf := Lib.hid hf
          clear hf
          have q0 := VRow.cell HV4.out (k := 0) rfl
          have q1 := VRow.cell HV4.out (k := 1) rfl
          have q2 := VRow.cell HV4.out (k := 2) rfl
          have q3 := VRow.cell HV4.out (k := 3) rfl
          go_wp2_with fail
          clear q0 q1 q2 q3
          refine (solve_c a b c u p _ HW4.out).mono ?_
          rintro e w5 ⟨hE5, hS⟩
          obtain ⟨x, hbest, hfx, hle, hlex⟩ := best_facts Hw.out Hf.out
          rcases hS with ⟨h, _⟩ | ⟨_, h, _⟩ | ⟨_, x', vx, hx', rfl, hO⟩
          · rw [Hw.out] at h; cases h
          · rw [hbest] at h; cases h
          rw [hbest] at hx'
          cases hx'
          have HV5 := Lib.hid (VRow.ext HV4.out hE5)
          have HW5 := Lib.hid (HW4.out.ext hE5)
          have HY5 := Lib.hid (HY4.out.ext hE5)
          have HE5 := Lib.hid (HE4.out.trans hE5)
          have HX5 := Lib.hid hO.ints
          have Hfx := Lib.hid hfx
          have Hle := Lib.hid hle
          have Hlex := Lib.hid hlex
          clear HV4 HW4 HY4 HE4 hE5 hO hbest hfx hle hlex
          have q0 := VRow.cell HV5.out (k := 0) rfl
          have q1 := VRow.cell HV5.out (k := 1) rfl
          have q2 := VRow.cell HV5.out (k := 2) rfl
          have q3 := VRow.cell HV5.out (k := 3) rfl
          go_wp2_with fail
          clear q0 q1 q2 q3
          refine (feas2_c a b c u _ p Hw.out x _ HW5.out HX5.out).mono ?_
          rintro e w6 ⟨rfl, hE6⟩
          rw [Hfx.out]
          have HV6 := Lib.hid (VRow.ext HV5.out hE6)
          have HC6 := Lib.hid (HW5.out.ext hE6).1.2.2
          have HY6 := Lib.hid (HY5.out.ext hE6)
          have HX6 := Lib.hid (HX5.out.ext hE6)
          have HE6 := Lib.hid (HE5.out.trans hE6)
          clear HV5 HW5 HY5 HE5 hE6 HX5
          go_wp2_with fail
          have q2 := VRow.cell HV6.out (k := 2) rfl
          obtain ⟨ac, cc, rfl, _, hcm, hrc⟩ := HC6.out.at
          obtain ⟨ax, cx, rfl, _, hxm, hrx⟩ := HX6.out.at
          obtain ⟨_, _, e1, _, _, hry⟩ := HY6.out.at
          simp only [Value.slice.injEq] at e1
          obtain ⟨rfl, _, rfl⟩ := e1
          obtain ⟨hby, _, hyl⟩ := feas_in Hf.out
          obtain ⟨hbx, _, hxl⟩ := feas_in Hfx.out
          have hCl : p.C.length = y.length := by have := (whoP Hw.out).2.1; omega
          have hXl : x.length = y.length := by omega
          have Hy0 := Lib.hid (wrap_small (cost_small Hw.out (inBox_bd _ _ (whoP Hw.out).2.2.1 hby)))
          have Hx0 := Lib.hid (wrap_small (cost_small Hw.out (inBox_bd _ _ (whoP Hw.out).2.2.1 hbx)))
          have Hrc := Lib.hid hrc
          have Hrx := Lib.hid hrx
          have Hry := Lib.hid hry
          clear hrc hrx hry hby hbx HV6 HC6 HX6 HY6 Hw Hf Hfx hyl hxl
          go_loopw [8, 9, 10] (fun d o i wr => ∃ k : Nat, k ≤ y.length ∧ i = .int .i64 k ∧ d = .int .i64 (wrap64 (dotZ (p.C.take k) y)) ∧ o = .int .i64 (wrap64 (dotZ (p.C.take k) x)) ∧ ∃ n, wr = w6.drewN n) (fun _ _ i _ => y.length - (intOf i).toNat)
          case atStart => exact ⟨0, Nat.zero_le _, rfl, by simp [dotZ_nil, wrap64], by simp [dotZ_nil, wrap64], 0, rfl⟩
          case round =>
            obtain ⟨k, hk, rfl, rfl, rfl, n, rfl⟩ := hrel
            by_cases hlt : k < y.length
            · obtain ⟨x1, hx1⟩ := getElem?_len (show k < x.length by omega)
              obtain ⟨y1, hy1⟩ := getElem?_len hlt
              obtain ⟨c1, hc1⟩ := getElem?_len (show k < p.C.length by omega)
              obtain ⟨b1, o1, rfl, g1⟩ := Hrx.out k x1 hx1
              obtain ⟨b2, o2, rfl, g2⟩ := Hry.out k y1 hy1
              obtain ⟨b3, o3, rfl, g3⟩ := Hrc.out k c1 hc1
              have Hs1 := Lib.hid (dotZ_take_succ p.C y k c1 y1 hc1 hy1)
              have Hs2 := Lib.hid (dotZ_take_succ p.C x k c1 x1 hc1 hx1)
              clear hx1 hy1 hc1
              have hi1 : (k : Int) < (y.length : Int) := by omega
              have hi2 : (k : Int) < (x.length : Int) := by omega
              have hi3 : (k : Int) < (p.C.length : Int) := by omega
              go_wp2_with fail
              go_quiet (fail)
              go_wp2_with fail
              go_quiet (fail)
              go_wp2_with fail
              refine ⟨⟨k + 1, by omega, by go_num, ?_, ?_, _, (by first | rfl | exact World.drewN_drewN _ _ _ | (simp only [World.drewN_drewN]; rfl))⟩, by simp [intOf]; omega⟩
              · rw [Hs1.out, wrap64_add, wrap64_add']
              · rw [Hs2.out, wrap64_add, wrap64_add']
            · clear q2
              have hke : k = y.length := by omega
              subst hke
              rw [List.take_of_length_le (by omega), Hy0.out, Hx0.out]
              have hne : (dotZ p.C x != dotZ p.C x) = false := by simp
              have hnlt : ¬ dotZ p.C y < dotZ p.C x := by have := Hle.out; omega
              go_wp2_with fail
              clear hne hnlt Hy0 Hx0 Hle Hrc
              by_cases hdc : dotZ p.C y = dotZ p.C x
              · have hee : (dotZ p.C y == dotZ p.C x) = true := by simpa using hdc
                have Hlx := Lib.hid (Hlex.out hdc.symm)
                clear hdc Hlex
                generalize dotZ p.C y = D at *
                generalize dotZ p.C x = E at *
                go_loopw [11] (fun i wr => ∃ k : Nat, k ≤ y.length ∧ i = .int .i64 k ∧ x.take k = y.take k ∧ ∃ n, wr = w6.drewN n) (fun i _ => y.length - (intOf i).toNat)
                case atStart => exact ⟨0, Nat.zero_le _, rfl, rfl, n, rfl⟩
                case round =>
                  obtain ⟨k, hk, rfl, ht, n2, rfl⟩ := hrel
                  by_cases hlt : k < y.length
                  · obtain ⟨x1, hx1⟩ := getElem?_len (show k < x.length by omega)
                    obtain ⟨y1, hy1⟩ := getElem?_len hlt
                    obtain ⟨b1, o1, rfl, g1⟩ := Hrx.out k x1 hx1
                    obtain ⟨b2, o2, rfl, g2⟩ := Hry.out k y1 hy1
                    have hi1 : (k : Int) < (y.length : Int) := by omega
                    have hi2 : (k : Int) < (x.length : Int) := by omega
                    by_cases hxy : x1 = y1
                    · subst hxy
                      have hneq : (x1 != x1) = false := by simp
                      have Ht := Lib.hid (show x.take (k + 1) = y.take (k + 1) by rw [take_succ_get hx1, take_succ_get hy1, ht])
                      clear ht hx1 hy1
                      go_wp2_with fail
                      go_quiet (fail)
                      go_wp2_with fail
                      exact ⟨⟨k + 1, by omega, by go_num, Ht.out, _, (by first | rfl | exact World.drewN_drewN _ _ _)⟩, by simp [intOf]; omega⟩
                    · have hneq : (x1 != y1) = true := by simpa using hxy
                      have hless : x1 < y1 := Hlx.out k x1 y1 ht hx1 hy1 hxy
                      clear ht hx1 hy1 hxy
                      go_wp2_with fail
                      go_quiet (fail)
                      go_wp2_with fail
                      go_region_with (go_at_call 10; refine (alive_c _).mono ?_; rintro e w9 ⟨rfl, hE9⟩)
                      all_goals (have HE9 := Lib.hid ((show Ext w (w6.drewN _) from below_drewN HE6.out _).trans hE9); clear hE9; go_wp2_with fail; go_ret; exact ⟨rfl, HE9.out⟩)
                  · go_wp2_with fail
                    refine (alive_c _).mono ?_
                    rintro e w7 ⟨rfl, hE7⟩
                    have HE7 := Lib.hid ((show Ext w (w6.drewN n2) from below_drewN HE6.out n2).trans hE7)
                    clear hE7
                    go_wp2_with fail
                    go_ret
                    exact ⟨rfl, HE7.out⟩
              · have hee : (dotZ p.C y == dotZ p.C x) = false := by simpa using hdc
                clear hdc Hlex
                generalize dotZ p.C y = D at *
                generalize dotZ p.C x = E at *
                go_loopw [11] (fun i wr => i = .int .i64 0 ∧ ∃ n, wr = w6.drewN n) (fun i _ => y.length - (intOf i).toNat)
                case atStart => exact ⟨rfl, n, rfl⟩
                case round =>
                  obtain ⟨rfl, n2, rfl⟩ := hrel
                  by_cases hlt : (0 : Int) < (y.length : Int)
                  · go_wp2_with fail
                    refine (alive_c _).mono ?_
                    rintro e w7 ⟨rfl, hE7⟩
                    have HE7 := Lib.hid ((show Ext w (w6.drewN n2) from below_drewN HE6.out n2).trans hE7)
                    clear hE7
                    go_wp2_with fail
                    go_ret
                    exact ⟨rfl, HE7.out⟩
                  · go_wp2_with fail
                    refine (alive_c _).mono ?_
                    rintro e w7 ⟨rfl, hE7⟩
                    have HE7 := Lib.hid ((show Ext w (w6.drewN n2) from below_drewN HE6.out n2).trans hE7)
                    clear hE7
                    go_wp2_with fail
                    go_ret
                    exact ⟨rfl, HE7.out⟩
    · have hn2 : (20 : Int) < (y.length : Int) := by omega
      go_wp2_with fail
      refine (alive_c _).mono ?_
      rintro e w3 ⟨rfl, hE3⟩
      have HE3 := Lib.hid (HE2.out.trans hE3)
      clear hE3
      go_wp2_with fail
      go_ret
      exact ⟨rfl, HE3.out⟩
end Go.Proofs.Ytblaipkhmmaenaa
