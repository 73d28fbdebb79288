import Derived.Test.YtblaipkhmmaenaaG2
import Derived.Test.YtblaipkhmmaenaaL4
import Derived.Test.YtblaipkhmmaenaaC7
namespace Go.Proofs.Ytblaipkhmmaenaa
open Go.RowKit
def shortB (ns : List Nd) : Bool := decide (ns.length ≤ 300) && ns.all fun nd => decide (nd.y.length ≤ 20)
set_option maxHeartbeats 1000000 in
theorem short_c (v : Value) (ns : List Nd) (w : World) (h : NodesAt w v ns) : Calls Try.prog 16 #[v] w fun e w' => e = .returned (.bool (shortB ns)) ∧ w = w' := by
  obtain ⟨a, cap, rfl, hl, hc, hk⟩ := h
  have HK := Lib.hid hk
  clear hk
  go_enter Try.func16, Try.ntmps16
  go_wp2
  go_loop [3] (fun i => ∃ k : Nat, k ≤ ns.length ∧ k ≤ 300 ∧ i = .int .i64 k ∧ (ns.take k).all (fun nd => decide (nd.y.length ≤ 20)) = true) (fun i => ns.length - (intOf i).toNat)
  case atStart => exact ⟨0, Nat.zero_le _, Nat.zero_le _, rfl, rfl⟩
  case round =>
    obtain ⟨k, hk, hk3, rfl, hall⟩ := hrel
    by_cases hlt : k < ns.length
    · by_cases h300 : k < 300
      · obtain ⟨b, o, rfl, hk2⟩ := HK.out (by omega)
        obtain ⟨nd, hnd⟩ := getElem?_len hlt
        obtain ⟨_, _, c2, _, hy⟩ := hk2 k nd hnd
        obtain ⟨ay, cy, ey, hyc, hym, _⟩ := hy.at
        rw [ey] at c2
        have h3 : ¬ (300 : Int) ≤ (k : Int) := by omega
        have hi : (k : Int) < (ns.length : Int) := by omega
        have HN := Lib.hid hnd
        have HA := Lib.hid hall
        clear hk2 hnd hall hy ey
        by_cases h20 : nd.y.length ≤ 20
        · have h20' : ¬ (20 : Int) < (nd.y.length : Int) := by omega
          have H20 := Lib.hid h20
          go_wp2
          exact ⟨⟨k + 1, by omega, by omega, by go_num, all_take_succ HN.out HA.out (decide_eq_true H20.out)⟩, by simp [intOf]; omega⟩
        · have h20' : (20 : Int) < (nd.y.length : Int) := by omega
          have H20 := Lib.hid h20
          go_wp2
          go_ret
          refine ⟨ret_bool ?_, rfl⟩
          have := all_false (p := fun nd : Nd => decide (nd.y.length ≤ 20)) HN.out (decide_eq_false (by have := H20.out; omega))
          simp only [shortB, this, Bool.and_false]
      · have h3 : (300 : Int) ≤ (k : Int) := by omega
        have hi : (k : Int) < (ns.length : Int) := by omega
        clear hall
        go_wp2
        go_ret
        refine ⟨ret_bool ?_, rfl⟩
        have : ¬ ns.length ≤ 300 := by omega
        simp [shortB, this]
    · have hke : k = ns.length := by omega
      have HA := Lib.hid hall
      clear hall
      go_wp2
      go_ret
      refine ⟨ret_bool ?_, rfl⟩
      have h1 := all_done (by omega) HA.out
      have h2 : ns.length ≤ 300 := by omega
      simp only [shortB, h1, h2, decide_true, Bool.true_and]
theorem count_yes {p : Who} {co : Int} {k : Nat} (hs : satB p (vecAt p.U k) = true) (hd : dotZ p.C (vecAt p.U k) ≤ co) : countK p co (k + 1) = countK p co k + 1 := by
  simp only [countK]; rw [if_pos ⟨hs, hd⟩]
theorem count_no {p : Who} {co : Int} {k : Nat} (h : ¬ (satB p (vecAt p.U k) = true ∧ dotZ p.C (vecAt p.U k) ≤ co)) : countK p co (k + 1) = countK p co k := by
  simp only [countK]; rw [if_neg h]; rfl
set_option maxRecDepth 100000 in
set_option maxHeartbeats 4000000 in
theorem scount_c (a b c u : Value) (co : Int) (p : Who) (w : World) (h : WhoAt w a b c u p) :
    Calls Try.prog 15 #[.agg #[a, b, c, u], .int .i64 co] w fun e w' => Ext w w' ∧
      ((whoB p = false ∧ e = .returned (.tuple #[.int .i64 0, .int .i64 2])) ∨ (whoB p = true ∧ e = .returned (.tuple #[.int .i64 (countK p co (sizeU p.U)), .int .i64 0]))) := by
  obtain ⟨h0, h1, h2⟩ := who_box h
  have q0 := VRow.cell h0 (k := 0) rfl
  have q1 := VRow.cell h0 (k := 1) rfl
  have q2 := VRow.cell h0 (k := 2) rfl
  have q3 := VRow.cell h0 (k := 3) rfl
  change (w.alloc (.cells #[a, b, c, u] 25)).cell? _ = _ at q0 q1 q2 q3
  have HV := Lib.hid h0
  have HW := Lib.hid h1
  have HE := Lib.hid h2
  clear h h0 h1 h2
  go_enter Try.func15, Try.ntmps15
  go_wp2_with fail
  clear q0 q1 q2 q3
  generalize w.alloc (.cells #[a, b, c, u] 25) = w1 at *
  generalize hs : w.heap.size = s at *
  refine (svalid_c a b c u p _ HW.out).mono ?_
  rintro e w2 ⟨rfl, hE2⟩
  have HV2 := Lib.hid (VRow.ext HV.out hE2)
  have HW2 := Lib.hid (HW.out.ext hE2)
  have HE2 := Lib.hid (HE.out.trans hE2)
  clear HV HW HE hE2
  cases hw : whoB p
  · have Hw := Lib.hid hw
    clear hw
    go_wp2_with fail
    exact bodyPost_ret (v := .tuple #[.int .i64 0, .int .i64 2]) (by simp [results, Try.results15, go_sem]) rfl ⟨HE2.out, .inl ⟨Hw.out, rfl⟩⟩
  · have Hw := Lib.hid hw
    clear hw
    have hN : sizeU p.U ≤ 32768 := by
      refine Nat.le_trans (sizeU_le p.U (fun z hz => ((whoP Hw.out).2.2.1 z hz).2)) ?_
      exact Nat.pow_le_pow_right (n := 8) (by omega) (show p.U.length ≤ 5 by have := whoP Hw.out; omega)
    go_wp2_with fail
    go_loopw [6, 7] (fun nv i wr => ∃ k : Nat, k ≤ sizeU p.U ∧ i = .int .i64 k ∧ nv = .int .i64 (countK p co k) ∧ Ext w2 wr) (fun _ i _ => sizeU p.U - (intOf i).toNat)
    case atStart => exact ⟨0, Nat.zero_le _, rfl, rfl, Ext.refl _⟩
    case round =>
      obtain ⟨k, hk, rfl, rfl, hE⟩ := hrel
      have HEE := Lib.hid hE
      have HV3 := Lib.hid (VRow.ext HV2.out hE)
      have HW3 := Lib.hid (HW2.out.ext hE)
      clear hE
      have q0 := VRow.cell HV3.out (k := 0) rfl
      have q1 := VRow.cell HV3.out (k := 1) rfl
      have q2 := VRow.cell HV3.out (k := 2) rfl
      have q3 := VRow.cell HV3.out (k := 3) rfl
      go_wp2_with fail
      clear q0 q1 q2 q3
      refine (svector_c a b c u p k wr HW3.out Hw.out (by omega)).mono ?_
      rintro e w4 ⟨g, rfl, hrow, hg, hE4⟩
      have HR4 := Lib.hid hrow
      have HE4 := Lib.hid hE4
      have HV4 := Lib.hid (VRow.ext HV3.out hE4)
      have HW4 := Lib.hid (HW3.out.ext hE4)
      clear hrow hE4 HV3 HW3
      by_cases hlt : k < sizeU p.U
      · have hdiv : decide (k / sizeU p.U = 0) = true := decide_eq_true (Nat.div_eq_of_lt hlt)
        rw [Nat.mod_eq_of_lt hlt] at HR4
        rw [hdiv]
        clear hdiv
        obtain ⟨hbox, hfs⟩ := feas_vec Hw.out hlt
        have HX4 := Lib.hid (IRow.ints' HR4.out (n := p.U.length) (cap := p.U.length) (vecAt_length _ _).symm (by rw [vecAt_length]; exact Nat.le_refl _) (by have := whoP Hw.out; omega))
        have HL : RowKit.Hid (p.C.length ≤ (vecAt p.U k).length) := Lib.hid (by rw [vecAt_length]; have := whoP Hw.out; omega)
        have HD1 := Lib.hid (wrap_small (cost_small Hw.out (inBox_bd _ _ (whoP Hw.out).2.2.1 hbox)))
        have HFS := Lib.hid hfs
        have hcl := countK_le p co k
        have hwc : IntKind.i64.wrap ((countK p co k : Int) + 1) = (countK p co k : Int) + 1 := IntWalk.i64_in _ (by omega)
        clear hfs hbox
        have q0 := VRow.cell HV4.out (k := 0) rfl
        have q1 := VRow.cell HV4.out (k := 1) rfl
        have q2 := VRow.cell HV4.out (k := 2) rfl
        have q3 := VRow.cell HV4.out (k := 3) rfl
        go_wp2_with fail
        clear q0 q1 q2 q3
        refine (feas2_c a b c u _ p Hw.out (vecAt p.U k) w4 HW4.out HX4.out).mono ?_
        rintro e w5 ⟨rfl, hE5⟩
        have HE5 := Lib.hid ((HEE.out.trans HE4.out).trans hE5)
        have HV5 := Lib.hid (VRow.ext HV4.out hE5)
        have HC5 := Lib.hid (HW4.out.ext hE5).1.2.2
        have HX5 := Lib.hid (HX4.out.ext hE5)
        clear hE5 HV4 HW4 HX4
        rw [HFS.out]
        cases hsat : satB p (vecAt p.U k)
        · have HCN := Lib.hid (count_no (p := p) (co := co) (k := k) (fun h => by rw [hsat] at h; simp at h))
          clear hsat
          go_wp2_with fail
          exact ⟨⟨k + 1, by omega, by go_num, by rw [HCN.out], HE5.out⟩, by simp [intOf]; omega⟩
        · have q2 := VRow.cell HV5.out (k := 2) rfl
          have Hsat := Lib.hid hsat
          clear hsat
          go_wp2_with fail
          refine (sdot_c _ _ p.C (vecAt p.U k) w5 HC5.out HX5.out HL.out).mono ?_
          rintro e w6 ⟨rfl, n9, rfl⟩
          rw [HD1.out]
          by_cases hco : dotZ p.C (vecAt p.U k) ≤ co
          · have HCY := Lib.hid (count_yes Hsat.out hco)
            go_wp2_with fail
            exact ⟨⟨k + 1, by omega, by go_num, by rw [HCY.out]; go_num, below_drewN HE5.out n9⟩, by simp [intOf]; omega⟩
          · have HCN := Lib.hid (count_no (p := p) (co := co) (k := k) (fun h => hco h.2))
            go_wp2_with fail
            exact ⟨⟨k + 1, by omega, by go_num, by rw [HCN.out], below_drewN HE5.out n9⟩, by simp [intOf]; omega⟩
      · have hke : k = sizeU p.U := by omega
        subst hke
        have hdiv : decide (sizeU p.U / sizeU p.U = 0) = false := decide_eq_false (by rw [Nat.div_self (sizeU_pos _)]; omega)
        rw [hdiv]
        clear hdiv
        go_wp2_with fail
        exact bodyPost_ret (v := .tuple #[.int .i64 (countK p co (sizeU p.U)), .int .i64 0]) (by simp [results, Try.results15, go_sem]) rfl ⟨(HE2.out.trans HEE.out).trans HE4.out, .inr ⟨Hw.out, rfl⟩⟩
end Go.Proofs.Ytblaipkhmmaenaa
