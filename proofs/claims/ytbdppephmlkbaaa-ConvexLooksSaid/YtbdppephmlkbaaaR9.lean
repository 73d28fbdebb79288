import Derived.Test.YtbdppephmlkbaaaR8
import Derived.Test.YtbdppephmlkbaaaV9
namespace Go.Proofs.Ytbdppephmlkbaaa
set_option maxRecDepth 100000
open Go.RowKit Go.Shelf
attribute [local go_sem] Oper.semAt_some
/-! The reference's Points. -/
theorem rowR_V (s : Int) (ps : List Pt) (y : Int) : max 0 ((rowR s ps y).2 - (rowR s ps y).1 + 1) = rowV s ps y := by
  unfold rowR rowV
  split
  · rfl
  · rfl
theorem rowR_bd {ps : List Pt} (hn : nearP ps) {s y : Int} (hs : 0 ≤ s ∧ s ≤ 1) (hy : -1000 ≤ y ∧ y ≤ 1000) : (-1000000000 ≤ (rowR s ps y).1 ∧ (rowR s ps y).1 ≤ 1000000000) ∧ (-1000000000 ≤ (rowR s ps y).2 ∧ (rowR s ps y).2 ≤ 1000000000) := by
  have h1 := lo_ge s ps y ps.length
  have h2 := hi_le' s ps y ps.length
  have h3 := row_bd hn hs hy ps.length (Nat.le_refl _)
  unfold rowR
  split
  · simp only; omega
  · simp only; omega
set_option maxHeartbeats 8000000 in
theorem rPoints_c (v : Value) (ps : List Pt) (w : World) (hv : Vecs w v ps) :
    Calls Try.prog 23 #[v] w fun e w' => e = pointsR ps ∧ Ext w w' := by
  obtain ⟨a, cap, rfl, hl, hm, _⟩ := hv.at
  have HV := Lib.hid hv
  clear hv
  cases hf : validB ps with
  | false =>
    have HR := Lib.hid (show pointsR ps = three (.int .i64 0) (.int .i64 0) (.int .i64 2) by simp [pointsR, hf])
    generalize pointsR ps = R at *
    have Hf := Lib.hid hf
    clear hf
    go_enter Try.func23, Try.ntmps23
    go_wp2_with fail
    refine (rvalid_c _ ps _ HV.out).mono ?_
    rintro e w2 ⟨rfl, hE⟩
    rw [Hf.out]
    have HE := Lib.hid hE
    clear hE
    go_wp2_with fail
    (try simp only [Exit.inBlock, Exit.then])
    refine bodyPost_ret (results_tmp3 rfl _ _ _) rfl ?_
    exact ⟨HR.out.symm, HE.out⟩
  | true =>
    have hpk := cnt_pick (valid_around hf) (valid_near hf).1
    have HR := Lib.hid (show pointsR ps = three (.int .i64 (cntK 1 ps 2001)) (.int .i64 (cntK 0 ps 2001 - cntK 1 ps 2001)) (.int .i64 0) from by rw [hpk.2, hpk.1]; simp [pointsR, hf])
    generalize pointsR ps = R at *
    have Hf := Lib.hid hf
    clear hf hpk
    have HB1 := Lib.hid (fun k => cntK_bd 1 ps k)
    have HB0 := Lib.hid (fun k => cntK_bd 0 ps k)
    have HS1 := Lib.hid (fun k : Nat => (show cntK 1 ps (k + 1) = cntK 1 ps k + rowV 1 ps ((k : Int) - 1000) from rfl))
    have HS0 := Lib.hid (fun k : Nat => (show cntK 0 ps (k + 1) = cntK 0 ps k + rowV 0 ps ((k : Int) - 1000) from rfl))
    go_enter Try.func23, Try.ntmps23
    go_wp2_with fail
    refine (rvalid_c _ ps _ HV.out).mono ?_
    rintro e w2 ⟨rfl, hE⟩
    rw [Hf.out]
    have HE := Lib.hid hE
    clear hE
    go_wp2_with fail
    go_loopw [7, 5, 6] (fun yv iv av wr => ∃ k : Nat, yv = .int .i64 ((k : Int) - 1000) ∧ k ≤ 2001 ∧ iv = .int .i64 (cntK 1 ps k) ∧ av = .int .i64 (cntK 0 ps k) ∧ Ext w2 wr) (fun yv _ _ _ => 3000 - (intOf yv + 1000).toNat)
    case atStart => exact ⟨0, by simp, by omega, rfl, rfl, Ext.refl _⟩
    case round =>
      rename World => wr
      obtain ⟨k, rfl, hk, rfl, rfl, hE⟩ := hrel
      have HEr := Lib.hid (Ext.trans HE.out hE)
      have HEw := Lib.hid hE
      clear hE
      by_cases hkl : k < 2001
      · have hyb : -1000 ≤ (k : Int) - 1000 ∧ (k : Int) - 1000 ≤ 1000 := by omega
        have HI1 := Lib.hid (fun W (h : Ext w W) => inRow_c _ ps ((k : Int) - 1000) 1 W (HV.out.ext h) (valid_near Hf.out).1 (valid_near Hf.out).2.1 (valid_near Hf.out).2.2 hyb (by omega))
        have HI0 := Lib.hid (fun W (h : Ext w W) => inRow_c _ ps ((k : Int) - 1000) 0 W (HV.out.ext h) (valid_near Hf.out).1 (valid_near Hf.out).2.1 (valid_near Hf.out).2.2 hyb (by omega))
        have rb1 := rowR_bd (s := 1) (valid_near Hf.out).1 (by omega) hyb
        have rb0 := rowR_bd (s := 0) (valid_near Hf.out).1 (by omega) hyb
        have HV1 := Lib.hid (rowR_V 1 ps ((k : Int) - 1000))
        have HV0 := Lib.hid (rowR_V 0 ps ((k : Int) - 1000))
        have hb1 := HB1.out k
        have hb0 := HB0.out k
        have hs1 := HS1.out k
        have hs0 := HS0.out k
        rw [← HV1.out] at hs1
        rw [← HV0.out] at hs0
        obtain ⟨y, hy⟩ : ∃ y, y = (k : Int) - 1000 := ⟨_, rfl⟩
        rw [← hy] at HI1 HI0 rb1 rb0 hs1 hs0 hyb ⊢
        have HY := Lib.hid hy
        clear hy HV1 HV0
        generalize (rowR 1 ps y).1 = l1 at *
        generalize (rowR 1 ps y).2 = h1 at *
        generalize (rowR 0 ps y).1 = l0 at *
        generalize (rowR 0 ps y).2 = h0 at *
        have HN1 := Lib.hid hs1
        have HN0 := Lib.hid hs0
        clear hs1 hs0
        have HK := Lib.hid hk
        have HKL := Lib.hid hkl
        clear hk hkl
        have hkb : (k : Int) ≤ 2001 := by have := HK.out; omega
        generalize cntK 1 ps k = c1 at *
        generalize cntK 0 ps k = c0 at *
        go_wp2_with fail
        refine (HI1.out _ HEr.out).mono ?_
        rintro e w3 ⟨rfl, hE⟩
        have HE3 := Lib.hid (Ext.trans HEw.out hE)
        have HE3r := Lib.hid (Ext.trans HEr.out hE)
        clear hE
        unfold two
        go_wp2_with fail
        refine (HI0.out _ HE3r.out).mono ?_
        rintro e w4 ⟨rfl, hE⟩
        have HE4 := Lib.hid (Ext.trans HE3.out hE)
        clear hE
        unfold two
        go_wp2_with fail
        refine ⟨⟨k + 1, by rw [HY.out]; simp; omega, by have := HKL.out; omega, by rw [HN1.out], by rw [HN0.out], HE4.out⟩, by have := HKL.out; have := HY.out; simp [intOf]; omega⟩
      · have hk1 : k = 2001 := by omega
        have HR2 := Lib.hid (show R = three (.int .i64 (cntK 1 ps k)) (.int .i64 (cntK 0 ps k - cntK 1 ps k)) (.int .i64 0) from by rw [hk1]; exact HR.out)
        have hb1 := HB1.out k
        have hb0 := HB0.out k
        have hkb2 : (k : Int) ≤ 2001 := by omega
        have hkz : ¬ (k : Int) - 1000 ≤ 1000 := by omega
        clear hk1 hk hkl
        generalize cntK 1 ps k = c1 at *
        generalize cntK 0 ps k = c0 at *
        go_wp2_with fail
        (try simp only [Exit.inBlock, Exit.then])
        refine bodyPost_ret (results_tmp3 rfl _ _ _) rfl ?_
        exact ⟨HR2.out.symm, HEr.out⟩
end Go.Proofs.Ytbdppephmlkbaaa
