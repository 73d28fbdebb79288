import Derived.Test.YtnpebfchojalcaaS2
import Derived.Test.YtnpebfchojalcaaF1
import Derived.Test.YtnpebfchojalcaaL4
namespace Go.Proofs.Ytnpebfchojalcaa
set_option maxRecDepth 100000
open Go.RowKit Go.Shelf
theorem ext_drewN {w w1 : World} (h : Ext w w1) (n : Nat) : Ext w (w1.drewN n) := ⟨h.os, h.tape, h.output, h.size, h.block⟩
theorem zeros_dot : ∀ (n : Nat) (ys : List Int), dotZ (zeros n) ys = 0 := by
  intro n
  induction n with
  | zero => intro ys; rfl
  | succ n ih =>
    intro ys
    cases ys with
    | nil => rfl
    | cons y ys =>
      show 0 * y + dotZ (zeros n) ys = 0
      rw [ih]; simp
set_option maxHeartbeats 8000000 in
theorem rWorth_c (x y : Int) (u : Value) (ts : List It) (pv : Value) (plan : List Ct) (w : World) (hu : Items w u ts) (hp : Vecs w pv plan) :
    Calls Try.prog 26 #[.int .i64 x, .int .i64 y, u, pv] w fun e w' => WorthS ts plan x y e w' ∧ Ext w w' := by
  obtain ⟨a, cap, rfl, hl, hm, hir⟩ := hu.at
  obtain ⟨a2, cap2, rfl, hl2, hm2, _⟩ := hp.at
  have HU := Lib.hid hu
  have HP := Lib.hid hp
  have HR := Lib.hid hir
  clear hu hp hir
  by_cases ho : ordZ x y ts = 0
  · obtain ⟨⟨hx1, hx2, hy1, hy2⟩, hn10, hok⟩ := ord_ok ho
    have HO := Lib.hid ho
    have HOK := Lib.hid hok
    by_cases hlen : 20001 < plan.length
    · have HS := Lib.hid (fun (w' : World) => (show WorthS ts plan x y (four (.int .i64 0) (.slice none 0 0) (.bool false) (.int .i64 3)) w' from .inr (.inl ⟨ho, hlen, rfl⟩)))
      generalize WorthS ts plan x y = WS at *
      clear ho hok
      go_enter Try.func26, Try.ntmps26
      go_wp2_with fail
      refine (rorder_c x y _ ts w HU.out).mono ?_
      rintro e w1 ⟨rfl, hE1⟩
      rw [HO.out]
      have HE1 := Lib.hid hE1
      clear hE1
      go_wp2_with fail
      (try simp only [Exit.inBlock, Exit.then])
      refine bodyPost_ret (results_tmp4 (t := 8) (u := 9) (v := 10) (x := 11) rfl _ _ _) rfl ?_
      exact ⟨HS.out _, HE1.out⟩
    · obtain ⟨W, rfl⟩ : ∃ W : Nat, x = (W : Int) := ⟨x.toNat, by omega⟩
      obtain ⟨H, rfl⟩ : ∃ H : Nat, y = (H : Int) := ⟨y.toNat, by omega⟩
      have HW := Lib.hid (show wreadZ ts (W : Int) (H : Int) plan = readN ts plan.length W H (plan.drop 0, 0, zeros ts.length) by unfold wreadZ; rw [Int.toNat_natCast, Int.toNat_natCast]; rfl)
      have HSn := Lib.hid (fun (w' : World) (h : ∀ v cs, wreadZ ts (W : Int) (H : Int) plan ≠ some ([], v, cs)) => (show WorthS ts plan (W : Int) (H : Int) (four (.int .i64 0) (.slice none 0 0) (.bool false) (.int .i64 0)) w' from .inr (.inr (.inl ⟨ho, by omega, h, rfl⟩))))
      have HSs := Lib.hid (fun (w' : World) (v : Int) (cs : List Int) (cv : Value) (h : wreadZ ts (W : Int) (H : Int) plan = some ([], v, cs)) (hi : Ints w' cv cs) => (show WorthS ts plan (W : Int) (H : Int) (four (.int .i64 v) cv (.bool true) (.int .i64 0)) w' from .inr (.inr (.inr ⟨ho, by omega, v, cs, cv, h, rfl, hi⟩))))
      generalize WorthS ts plan (W : Int) (H : Int) = WS at *
      generalize wreadZ ts (W : Int) (H : Int) plan = WR at *
      clear ho hok
      have hmk := run_make_ints ts.length (by omega)
      have HMK := Lib.hid hmk
      clear hmk
      go_enter Try.func26, Try.ntmps26
      go_wp2_with fail
      refine (rorder_c (W : Int) (H : Int) _ ts w HU.out).mono ?_
      rintro e w1 ⟨rfl, hE1⟩
      rw [HO.out]
      have HE1 := Lib.hid hE1
      have HU1 := Lib.hid (HU.out.ext hE1)
      have HP1 := Lib.hid (HP.out.ext hE1)
      have hmk := HMK.out w1
      have hc := vrow_rep w1 (.int .i64 0) ts.length 3
      have HC := Lib.hid hc
      have HE3 := Lib.hid (Ext.alloc (Ext.refl w1) (.cells (Array.replicate ts.length (.int .i64 0)) 3))
      clear hE1 hc
      go_wp2_with fail
      clear hmk
      generalize w1.alloc (.cells (Array.replicate ts.length (.int .i64 0)) 3) = w3 at *
      have hzl : (zeros ts.length).length = ts.length := by simp [zeros]
      have HRS := Lib.hid (show IRow w3 w1.heap.size 3 (zeros ts.length) from by have h := HC.out; unfold IRow zeros; rw [List.map_replicate]; exact h)
      have hrc := rread_c ts _ w1 HU1.out HOK.out plan _ HP1.out w1.heap.size (Nat.le_refl _) plan.length W H 0 0 (zeros ts.length) w3 (by omega) (by omega) (Nat.zero_le _) (by omega) HE3.out HRS.out hzl (fun q hq => by unfold zeros at hq; rw [List.mem_replicate] at hq; rw [List.drop_zero]; omega)
      refine (show Calls Try.prog 63 #[.int .i64 (W : Int), .int .i64 (H : Int), _, _, .int .i64 0, _] w3 _ from hrc).mono ?_
      rintro e w5 ⟨z, rfl, hF5, hP5⟩
      have HE5 := Lib.hid (Below.trans HE1.out (Below.trans (HE3.out.mono HE1.out.size) (hF5.below (B := w.heap.size) (by have := HE1.out.size; omega) HE1.out.size (by have := HE1.out.size; have := HE3.out.size; omega))))
      clear hF5 hrc
      rw [← HW.out] at hP5
      cases hrn : WR with
      | none =>
        rw [hrn] at hP5
        obtain rfl : z = -1 := hP5
        have hzn : ((-1 : Int) != (plan.length : Int)) = true := by rw [bne_iff_ne]; omega
        go_wp2_with fail
        (try simp only [Exit.inBlock, Exit.then])
        refine bodyPost_ret (results_tmp4 (t := 8) (u := 9) (v := 10) (x := 11) rfl _ _ _) rfl ?_
        exact ⟨HSn.out _ (fun v cs h => by rw [hrn] at h; cases h), HE5.out⟩
      | some s1 =>
        rw [hrn] at hP5
        obtain ⟨n, rfl, hn5, hd5, hr5⟩ := hP5
        obtain ⟨l1, v1, cs1⟩ := s1
        simp only at hd5 hr5
        have HRN := Lib.hid hrn
        have HR5 := Lib.hid hr5
        have HD5 := Lib.hid hd5
        clear hrn hr5 hd5
        by_cases h0 : n = plan.length
        · subst h0
          have hl0 : l1 = [] := by rw [HD5.out, List.drop_length]
          subst hl0
          have hq := readN_ok HOK.out plan.length W H (plan.drop 0, 0, zeros ts.length) ([], v1, cs1) (by rw [← HW.out]; exact HRN.out)
          have hs := readN_sum HOK.out plan.length W H (plan.drop 0, 0, zeros ts.length) ([], v1, cs1) (by rw [← HW.out]; exact HRN.out) hzl
          have HCL := Lib.hid (show cs1.length = ts.length from hq.2.2.2.1.trans hzl)
          have HCB := Lib.hid (show ∀ x ∈ cs1, 0 ≤ x ∧ x ≤ 20001 from fun x hx => by
            have := hq.2.2.2.2 20001 (fun q hq => by unfold zeros at hq; rw [List.mem_replicate] at hq; show 0 ≤ q ∧ q + ((plan.drop 0).length : Int) ≤ 20001; rw [List.drop_zero]; omega) (by omega) x hx
            simp only [List.length_nil] at this
            omega)
          have HV := Lib.hid (show dotZ cs1 (valsZ ts) = v1 by have := hs.1; simp only [zeros_dot] at this; omega)
          clear hq hs
          go_wp2_with fail
          go_loopw [15, 16] (fun s i wr => ∃ k : Nat, i = .int .i64 k ∧ k ≤ ts.length ∧ s = .int .i64 (dotZ (cs1.take k) (valsZ ts)) ∧ (0 ≤ dotZ (cs1.take k) (valsZ ts) ∧ dotZ (cs1.take k) (valsZ ts) ≤ 30000000000 * (k : Int)) ∧ Ext w5 wr) (fun _ i _ => ts.length - (intOf i).toNat)
          case atStart => exact ⟨0, rfl, Nat.zero_le _, rfl, ⟨Int.le_refl _, by show (0 : Int) ≤ _; omega⟩, Ext.refl _⟩
          case round =>
            obtain ⟨k, rfl, hk, rfl, hb1, hE⟩ := hrel
            have HEr := Lib.hid hE
            clear hE
            by_cases hlt : k < ts.length
            · obtain ⟨t, ht⟩ := getElem?_len hlt
              obtain ⟨b, o, rfl, hc0, hc1, hc2⟩ := HR.out k t ht
              obtain ⟨c, hcc⟩ := getElem?_len (show k < cs1.length by rw [HCL.out]; exact hlt)
              have hcv := Ext.cell HEr.out (IRow.at HR5.out hcc)
              have c2 := Ext.cell (Ext.trans HE5.out HEr.out) hc2
              have hcbd := HCB.out c (List.mem_of_getElem? hcc)
              have hti : 1 ≤ t.2.2 ∧ t.2.2 ≤ 1048576 := by
                have h := HOK.out
                rw [List.all_eq_true] at h
                have := h t (List.mem_of_getElem? ht)
                simp only [itemB, Bool.and_eq_true, decide_eq_true_eq] at this
                omega
              have e1 := dotZ_take_succ cs1 (valsZ ts) k c t.2.2 hcc (by simp [valsZ, ht])
              have m1 := Int.mul_le_mul (show c ≤ 20001 by omega) hti.2 (by omega) (by omega)
              have m1' := Int.mul_nonneg hcbd.1 (show 0 ≤ t.2.2 by omega)
              have HE1' := Lib.hid e1
              clear e1 hcc hc0 hc1 hc2 ht hti
              generalize dotZ (cs1.take k) (valsZ ts) = S at *
              obtain ⟨q, hq⟩ : ∃ q, c * t.2.2 = q := ⟨_, rfl⟩
              rw [hq] at m1 m1'
              have hwq : IntKind.i64.wrap q = q := IntWalk.i64_in _ (by omega)
              have hws : IntKind.i64.wrap (S + q) = S + q := IntWalk.i64_in _ (by omega)
              have HQ := Lib.hid (show dotZ (cs1.take (k + 1)) (valsZ ts) = S + q by rw [HE1'.out, hq])
              have hqq : IntKind.i64.wrap (c * t.2.2) = q := by rw [hq, hwq]
              clear HE1'
              go_wp2_with fail
              go_quiet (fail)
              go_wp2
              all_goals exact ⟨⟨k + 1, by simp, by omega, by rw [HQ.out], by rw [HQ.out]; omega, ext_drewN HEr.out _⟩, by simp [intOf]; omega⟩
            · obtain rfl : k = ts.length := by omega
              have hT1 : dotZ (cs1.take ts.length) (valsZ ts) = v1 := by rw [← HCL.out, List.take_length]; exact HV.out
              rw [hT1]
              clear hT1
              go_wp2_with fail
              (try simp only [Exit.inBlock, Exit.then])
              refine bodyPost_ret (results_tmp4 (t := 8) (u := 9) (v := 10) (x := 11) rfl _ _ _) rfl ?_
              exact ⟨HSs.out _ v1 cs1 _ HRN.out ((IRow.ints' HR5.out HCL.out.symm (by rw [HCL.out]; exact Nat.le_refl _) (by omega)).ext HEr.out), Ext.trans HE5.out HEr.out⟩
        · have hzn : ((n : Int) != (plan.length : Int)) = true := by rw [bne_iff_ne]; omega
          go_wp2_with fail
          (try simp only [Exit.inBlock, Exit.then])
          refine bodyPost_ret (results_tmp4 (t := 8) (u := 9) (v := 10) (x := 11) rfl _ _ _) rfl ?_
          exact ⟨HSn.out _ (fun v cs h => by rw [HRN.out] at h; injection h with h; injection h with h1 h2; have h3 := HD5.out; rw [h1] at h3; have := congrArg List.length h3; simp at this; omega), HE5.out⟩
  · have HS := Lib.hid (fun (w' : World) => (show WorthS ts plan x y (four (.int .i64 0) (.slice none 0 0) (.bool false) (.int .i64 (ordZ x y ts))) w' from .inl ⟨ho, rfl⟩))
    have hz : (ordZ x y ts != 0) = true := by simp [ho]
    have hz2 : (ordZ x y ts == 0) = false := by simp [ho]
    generalize WorthS ts plan x y = WS at *
    have HC := Lib.hid (rorder_c x y _ ts w HU.out)
    generalize ordZ x y ts = z at *
    go_enter Try.func26, Try.ntmps26
    go_wp2_with fail
    refine HC.out.mono ?_
    rintro e w1 ⟨rfl, hE1⟩
    have HE1 := Lib.hid hE1
    clear hE1
    go_wp2_with fail
    (try simp only [Exit.inBlock, Exit.then])
    refine bodyPost_ret (results_tmp4 (t := 8) (u := 9) (v := 10) (x := 11) rfl _ _ _) rfl ?_
    exact ⟨HS.out _, HE1.out⟩
end Go.Proofs.Ytnpebfchojalcaa
