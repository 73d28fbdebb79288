import Derived.Test.YtnpebfchojalcaaL3
namespace Go.Proofs.Ytnpebfchojalcaa
set_option maxRecDepth 100000
open Go.RowKit Go.Shelf
theorem info3 : (Try.prog.info? 3).map (fun i => (i.zero, i.size, i.bytes)) = some (some (.int .i64 0), 1, 8) := by kernel_rfl
theorem run_make_ints (n : Nat) (hn : n ≤ 1000) (w : World) :
    (Instr.makeSlice 43 (.int .i64 (n : Int)) (.int .i64 (n : Int))).run Try.prog w = .ok (.slice (some ⟨w.heap.size, 0, none⟩) n n) (w.alloc (.cells (Array.replicate n (.int .i64 0)) 3)) := by
  obtain ⟨i, hi, hz, hs, hb⟩ := info_parts info3
  have hr := run_make (P := Try.prog) w 43 3 i (.int .i64 0) Try.underlying43 hi hz .i64 .i64 n n (by omega) (Int.le_refl _) (by rw [hb]; omega) (by omega)
  simp only [Int.toNat_natCast, hs] at hr
  have e : (Value.int .i64 0).cells = #[Value.int .i64 0] := rfl
  rw [e, made_one, Nat.mul_one] at hr
  exact hr
theorem results_tmp4 {fn : Func} {t u v x : Tmp} (h : fn.results = #[.tmp t, .tmp u, .tmp v, .tmp x]) (tmps : Array Value) (P : Program) (w : World) :
    (results fn tmps).run P w = .ok (.tuple #[tmps.getD t undef, tmps.getD u undef, tmps.getD v undef, tmps.getD x undef]) w := by
  simp only [results, h]
  simp only [Array.mapM_eq_foldlM, List.foldlM_toArray']
  simp [Sem.run_bind, Result.andThen]
def four (a b c d : Value) : Ending := .returned (.tuple #[a, b, c, d])
def zeros (n : Nat) : List Int := List.replicate n 0
/-- what Worth makes of a plan that it reads -/
def wreadZ (ts : List It) (x y : Int) (plan : List Ct) : Option RdS := readN ts plan.length x.toNat y.toNat (plan, 0, zeros ts.length)
def WorthS (ts : List It) (plan : List Ct) (x y : Int) (e : Ending) (w' : World) : Prop :=
  (ordZ x y ts ≠ 0 ∧ e = four (.int .i64 0) (.slice none 0 0) (.bool false) (.int .i64 (ordZ x y ts))) ∨
  (ordZ x y ts = 0 ∧ 20001 < plan.length ∧ e = four (.int .i64 0) (.slice none 0 0) (.bool false) (.int .i64 3)) ∨
  (ordZ x y ts = 0 ∧ plan.length ≤ 20001 ∧ (∀ v cs, wreadZ ts x y plan ≠ some ([], v, cs)) ∧ e = four (.int .i64 0) (.slice none 0 0) (.bool false) (.int .i64 0)) ∨
  (ordZ x y ts = 0 ∧ plan.length ≤ 20001 ∧ ∃ v cs cv, wreadZ ts x y plan = some ([], v, cs) ∧ e = four (.int .i64 v) cv (.bool true) (.int .i64 0) ∧ Ints w' cv cs)
set_option maxHeartbeats 4000000 in
theorem Worth_c (x y : Int) (u : Value) (ts : List It) (pv : Value) (plan : List Ct) (w : World) (hu : Items w u ts) (hp : Vecs w pv plan) :
    Calls Try.prog 25 #[.int .i64 x, .int .i64 y, u, pv] w fun e w' => WorthS ts plan x y e w' ∧ Ext w w' := by
  obtain ⟨a, cap, rfl, hl, hm, _⟩ := hu.at
  obtain ⟨a2, cap2, rfl, hl2, hm2, _⟩ := hp.at
  have HU := Lib.hid hu
  have HP := Lib.hid hp
  clear hu hp
  by_cases ho : ordZ x y ts = 0
  · obtain ⟨⟨hx1, hx2, hy1, hy2⟩, hn10, hok⟩ := ord_ok ho
    have HO := Lib.hid ho
    have HOK := Lib.hid hok
    by_cases hlen : 20001 < plan.length
    · have HS := Lib.hid (fun (w' : World) => (show WorthS ts plan x y (four (.int .i64 0) (.slice none 0 0) (.bool false) (.int .i64 3)) w' from .inr (.inl ⟨ho, hlen, rfl⟩)))
      generalize WorthS ts plan x y = WS at *
      clear ho hok
      go_enter Try.func25, Try.ntmps25
      go_wp2_with fail
      refine (order_c x y _ ts w HU.out).mono ?_
      rintro e w1 ⟨rfl, hE1⟩
      rw [HO.out]
      have HE1 := Lib.hid hE1
      clear hE1
      go_wp2_with fail
      (try simp only [Exit.inBlock, Exit.then])
      refine bodyPost_ret (results_tmp4 (t := 8) (u := 9) (v := 10) (x := 11) rfl _ _ _) rfl ?_
      exact ⟨HS.out _, HE1.out⟩
    · obtain ⟨W, rfl⟩ : ∃ W : Nat, x = (W : Int) := ⟨x.toNat, by omega⟩
      obtain ⟨H, rfl⟩ : ∃ H : Nat, y = (H : Int) := ⟨y.toNat, by omega⟩
      have HW := Lib.hid (show wreadZ ts (W : Int) (H : Int) plan = readN ts plan.length W H (plan, 0, zeros ts.length) by unfold wreadZ; rw [Int.toNat_natCast, Int.toNat_natCast])
      have HSn := Lib.hid (fun (w' : World) (h : ∀ v cs, wreadZ ts (W : Int) (H : Int) plan ≠ some ([], v, cs)) => (show WorthS ts plan (W : Int) (H : Int) (four (.int .i64 0) (.slice none 0 0) (.bool false) (.int .i64 0)) w' from .inr (.inr (.inl ⟨ho, by omega, h, rfl⟩))))
      have HSs := Lib.hid (fun (w' : World) (v : Int) (cs : List Int) (cv : Value) (h : wreadZ ts (W : Int) (H : Int) plan = some ([], v, cs)) (hi : Ints w' cv cs) => (show WorthS ts plan (W : Int) (H : Int) (four (.int .i64 v) cv (.bool true) (.int .i64 0)) w' from .inr (.inr (.inr ⟨ho, by omega, v, cs, cv, h, rfl, hi⟩))))
      generalize WorthS ts plan (W : Int) (H : Int) = WS at *
      generalize wreadZ ts (W : Int) (H : Int) plan = WR at *
      clear ho hok
      have hmk := run_make_ints ts.length (by omega)
      have HMK := Lib.hid hmk
      clear hmk
      go_enter Try.func25, Try.ntmps25
      go_wp2_with fail
      refine (order_c (W : Int) (H : Int) _ ts w HU.out).mono ?_
      rintro e w1 ⟨rfl, hE1⟩
      rw [HO.out]
      have HE1 := Lib.hid hE1
      have HU1 := Lib.hid (HU.out.ext hE1)
      have HP1 := Lib.hid (HP.out.ext hE1)
      have hmk := HMK.out w1
      have hs1 : (w1.alloc (.cells (Array.replicate ts.length (.int .i64 0)) 3)).heap.size = w1.heap.size + 1 := by simp
      have hr := vrow_alloc (w1.alloc (.cells (Array.replicate ts.length (.int .i64 0)) 3)) [.slice a ts.length cap, .slice a2 plan.length cap2, .int .i64 0, .slice (some ⟨w1.heap.size, 0, none⟩) ts.length ts.length] 89
      rw [hs1] at hr
      have HR := Lib.hid (show VRow ((w1.alloc (.cells (Array.replicate ts.length (.int .i64 0)) 3)).alloc (.cells #[.slice a ts.length cap, .slice a2 plan.length cap2, .int .i64 0, .slice (some ⟨w1.heap.size, 0, none⟩) ts.length ts.length] 89)) _ _ _ from hr)
      have hc := (vrow_rep w1 (.int .i64 0) ts.length 3).alloc (.cells #[.slice a ts.length cap, .slice a2 plan.length cap2, .int .i64 0, .slice (some ⟨w1.heap.size, 0, none⟩) ts.length ts.length] 89)
      have HC := Lib.hid (show VRow ((w1.alloc (.cells (Array.replicate ts.length (.int .i64 0)) 3)).alloc (.cells #[.slice a ts.length cap, .slice a2 plan.length cap2, .int .i64 0, .slice (some ⟨w1.heap.size, 0, none⟩) ts.length ts.length] 89)) _ _ _ from hc)
      have HE3 := Lib.hid (Ext.alloc (Ext.alloc (Ext.refl w1) (.cells (Array.replicate ts.length (.int .i64 0)) 3)) (.cells #[.slice a ts.length cap, .slice a2 plan.length cap2, .int .i64 0, .slice (some ⟨w1.heap.size, 0, none⟩) ts.length ts.length] 89))
      clear hE1 hr hc
      go_wp2_with fail
      clear hmk hs1
      generalize (w1.alloc (.cells (Array.replicate ts.length (.int .i64 0)) 3)).alloc (.cells #[.slice a ts.length cap, .slice a2 plan.length cap2, .int .i64 0, .slice (some ⟨w1.heap.size, 0, none⟩) ts.length ts.length] 89) = w3 at *
      have hzl : (zeros ts.length).length = ts.length := by simp [zeros]
      have HRS := Lib.hid (show RSt w3 (w1.heap.size + 1) w1.heap.size (.slice a ts.length cap) (.slice a2 plan.length cap2) 0 (zeros ts.length) from ⟨by rw [hzl]; exact HR.out, by have h := HC.out; unfold IRow zeros; rw [List.map_replicate]; exact h⟩)
      refine (show Calls Try.prog 62 #[.pointer (some ⟨w1.heap.size + 1, 0, none⟩), rectV (W : Int) (H : Int)] w3 _ from read_c ts _ w1 HU1.out HOK.out (w1.heap.size + 1) w1.heap.size (by omega) (Nat.le_refl _) (by omega) plan.length W H plan 0 (zeros ts.length) _ w3 (by omega) (by omega) (Nat.le_refl _) HE3.out HRS.out HP1.out hzl (by omega) (fun q hq => by unfold zeros at hq; rw [List.mem_replicate] at hq; omega)).mono ?_
      rintro e w5 ⟨b, rfl, hF5, hP5⟩
      have HE5 := Lib.hid (Below.trans HE1.out (Below.trans (HE3.out.mono HE1.out.size) (hF5.below (B := w.heap.size) (by have := HE1.out.size; omega) HE1.out.size (by have := HE1.out.size; have := HE3.out.size; omega))))
      clear hF5
      rw [← HW.out] at hP5
      cases hrn : WR with
      | none =>
        rw [hrn] at hP5
        obtain rfl : b = false := hP5
        go_wp2_with fail
        (try simp only [Exit.inBlock, Exit.then])
        refine bodyPost_ret (results_tmp4 (t := 8) (u := 9) (v := 10) (x := 11) rfl _ _ _) rfl ?_
        exact ⟨HSn.out _ (fun v cs h => by rw [hrn] at h; cases h), HE5.out⟩
      | some s1 =>
        rw [hrn] at hP5
        obtain ⟨rfl, rv5, hv5, hr5⟩ := hP5
        obtain ⟨l1, v1, cs1⟩ := s1
        simp only at hv5 hr5
        obtain ⟨a5, c5, rfl, hl5, hm5, _⟩ := hv5.at
        have HRN := Lib.hid hrn
        have HR5 := Lib.hid hr5
        have k1 := VRow.cell hr5.rg (k := 1) rfl
        have k2 := VRow.cell hr5.rg (k := 2) rfl
        have k3 := VRow.cell hr5.rg (k := 3) rfl
        have hgl := VRow.lt hr5.rg
        clear hrn hv5 hr5
        by_cases h0 : 0 < l1.length
        · have h0i : (0 : Int) < (l1.length : Int) := by omega
          go_wp2_with fail
          (try simp only [Exit.inBlock, Exit.then])
          refine bodyPost_ret (results_tmp4 (t := 8) (u := 9) (v := 10) (x := 11) rfl _ _ _) rfl ?_
          exact ⟨HSn.out _ (fun v cs h => by rw [HRN.out] at h; injection h with h; injection h with h1 h2; rw [h1] at h0; simp at h0), HE5.out⟩
        · obtain rfl : l1 = [] := List.length_eq_zero_iff.1 (by omega)
          simp only [List.length_nil] at k1 h0
          go_wp2_with fail
          go_region
          go_wp2
          (try simp only [Exit.inBlock, Exit.then])
          refine bodyPost_ret (results_tmp4 (t := 8) (u := 9) (v := 10) (x := 11) rfl _ _ _) rfl ?_
          have hlen1 : cs1.length = ts.length := by
            have h := HW.out
            rw [HRN.out] at h
            exact (readN_ok HOK.out _ _ _ _ _ h.symm).2.2.2.1.trans hzl
          exact ⟨HSs.out _ v1 cs1 _ HRN.out (IRow.ints (VRow.drew HR5.out.rc) (Nat.le_refl _) (by omega)), Ext.drew HE5.out⟩
  · have HS := Lib.hid (fun (w' : World) => (show WorthS ts plan x y (four (.int .i64 0) (.slice none 0 0) (.bool false) (.int .i64 (ordZ x y ts))) w' from .inl ⟨ho, rfl⟩))
    generalize WorthS ts plan x y = WS at *
    have HC := Lib.hid (order_c x y _ ts w HU.out)
    generalize ordZ x y ts = z at *
    go_enter Try.func25, Try.ntmps25
    go_wp2_with fail
    refine HC.out.mono ?_
    rintro e w1 ⟨rfl, hE1⟩
    have HE1 := Lib.hid hE1
    clear hE1
    go_wp2_with fail
    (try simp only [Exit.inBlock, Exit.then])
    refine bodyPost_ret (results_tmp4 (t := 8) (u := 9) (v := 10) (x := 11) rfl _ _ _) rfl ?_
    exact ⟨HS.out _, HE1.out⟩
end Go.Proofs.Ytnpebfchojalcaa
