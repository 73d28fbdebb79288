import Derived.Test.YtnpebfchojalcaaB7
import Derived.WalkMore
namespace Go.Proofs.Ytnpebfchojalcaa
open Go.RowKit Go.Shelf Go.Maps
theorem vrow3_put {W : World} {g : Nat} {t : TypeId} {x y z : Value} (h : VRow W g t [x, y, z]) (x' y' z' : Value) : VRow (((W.setCell ⟨g, 0, none⟩ x').setCell ⟨g, 1, none⟩ y').setCell ⟨g, 2, none⟩ z') g t [x', y', z'] := VRow.set (VRow.set (VRow.set h 0 x') 1 y') 2 z'
theorem ext3_put {w W : World} {g : Nat} (h : Ext w W) (hs : w.heap.size ≤ g) (x' y' z' : Value) : Ext w (((W.setCell ⟨g, 0, none⟩ x').setCell ⟨g, 1, none⟩ y').setCell ⟨g, 2, none⟩ z') :=
  Below.setCell (p := ⟨g, 2, none⟩) (Below.setCell (p := ⟨g, 1, none⟩) (Below.setCell (p := ⟨g, 0, none⟩) h hs _) hs _) hs _
theorem bmap3_put {W : World} {b g : Nat} {ks : List Pt} (h : BMap W b ks) (hne : b ≠ g) (x' y' z' : Value) : BMap (((W.setCell ⟨g, 0, none⟩ x').setCell ⟨g, 1, none⟩ y').setCell ⟨g, 2, none⟩ z') b ks :=
  ((h.setOther _ _ hne).setOther _ _ hne).setOther _ _ hne
set_option maxRecDepth 100000 in
set_option maxHeartbeats 2000000 in
theorem Densest_c (v : Value) (ps : List Pt) (w : World) (hv : Vecs w v ps) :
    Calls Try.prog 21 #[v] w fun e w' => DensS ps e ∧ Ext w w' := by
  obtain ⟨a, cap, rfl, hl, hm, _⟩ := hv.at
  have hE0 := Ext.alloc (Ext.refl w) (.cells #[.int .i64 0, .int .i64 0, .int .i64 0] 24)
  have HV := Lib.hid (hv.ext hE0)
  have HE0 := Lib.hid hE0
  have HR0 := Lib.hid (show VRow (w.alloc (.cells #[.int .i64 0, .int .i64 0, .int .i64 0] 24)) _ _ _ from vrow_alloc w [.int .i64 0, .int .i64 0, .int .i64 0] 24)
  clear hv hE0
  cases hf : blankB ps with
  | false =>
    have HS := Lib.hid (show DensS ps (two (gridV 0 0 0) (.int .i64 2)) from .inr ⟨hf, rfl⟩)
    have Hf := Lib.hid hf
    clear hf
    generalize DensS ps = DS at *
    go_enter Try.func21, Try.ntmps21
    go_wp2_with fail
    go_step3
    go_wp2_with fail
    refine (isBlank_c _ ps _ HV.out).mono ?_
    rintro e w2 ⟨rfl, hE⟩
    rw [Hf.out]
    have hR := VRow.ext HR0.out hE
    have c0 := VRow.cell hR (k := 0) rfl
    have c1 := VRow.cell hR (k := 1) rfl
    have c2 := VRow.cell hR (k := 2) rfl
    have f0 := VRow.frozen hR 0 none
    have f1 := VRow.frozen hR 1 none
    have f2 := VRow.frozen hR 2 none
    go_wp2_with fail
    (try simp only [Exit.inBlock, Exit.then])
    (try rw [Exit.noGoto_ret])
    refine bodyPost_ret (dens_results (vrow3_put hR _ _ _) _ rfl rfl) rfl ?_
    exact ⟨HS.out, ext3_put (Ext.trans HE0.out hE) (Nat.le_refl _) _ _ _⟩
  | true =>
    have HS := Lib.hid (fun A B D (h : FirstG (collL ps 1 0 1) A B D) => (show DensS ps (two (gridV A B D) (.int .i64 0)) from .inl ⟨hf, A, B, D, rfl, h⟩))
    have Hf := Lib.hid hf
    clear hf
    generalize DensS ps = DS at *
    go_enter Try.func21, Try.ntmps21
    go_wp2_with fail
    go_step3
    go_wp2_with fail
    refine (isBlank_c _ ps _ HV.out).mono ?_
    rintro e w2 ⟨rfl, hE⟩
    rw [Hf.out]
    have HRA := Lib.hid (VRow.ext HR0.out hE)
    have HEA := Lib.hid (Ext.trans HE0.out hE)
    have HVA := Lib.hid (HV.out.ext hE)
    clear hE HE0 HR0 HV
    go_wp2_with fail
    have hE := Ext.alloc (Ext.refl w2) (.cells #[.int .i64 0, .int .i64 0, .int .i64 0] 24)
    have HRB := Lib.hid (show VRow (w2.alloc (.cells #[.int .i64 0, .int .i64 0, .int .i64 0] 24)) _ _ _ from vrow_alloc w2 [.int .i64 0, .int .i64 0, .int .i64 0] 24)
    have HRA' := Lib.hid (VRow.ext HRA.out hE)
    have HEB := Lib.hid (Ext.trans HEA.out hE)
    have HVB := Lib.hid (HVA.out.ext hE)
    have hlt2 := VRow.lt HRA.out
    clear hE HRA HVA
    refine (show Calls Try.prog 43 #[.slice a ps.length cap, gridV 1 0 1] _ _ from collisions_c _ ps 1 0 1 _ HVB.out Hf.out (by unfold gridOk; omega)).mono ?_
    rintro e w4 ⟨b, rfl, hB4, hb4, hE4⟩
    have HM := Lib.hid hB4
    have HR1 := Lib.hid (VRow.ext HRA'.out hE4)
    have HR2 := Lib.hid (VRow.ext HRB.out hE4)
    have HE4 := Lib.hid (Ext.trans HEB.out hE4)
    have hb4' : w2.heap.size + 1 ≤ b := by simpa using hb4
    have HKS := Lib.hid (show ∀ q ∈ collL ps 1 0 1, nearPt q from fun q hq => near_pt (nearL_mem (A := 1) (B := 0) (D := 1) (by unfold gridOk; omega) (List.mem_filter.1 hq).1))
    clear hB4 hb4 hE4 HRA' HRB HEB HVB
    generalize collL ps 1 0 1 = ks at *
    generalize hg0 : w2.heap.size = g0 at *
    have hwg : w.heap.size < g0 := hlt2
    clear hg0 hlt2 HEA
    go_wp2_with fail
    go_step3
    go_wp2_with fail
    go_loopw [6] (fun i wr => ∃ n : Nat, i = .int .i64 n ∧ 1 ≤ n ∧ n ≤ 144 ∧ NoneI ks n ∧ VRow wr w.heap.size 24 [.int .i64 0, .int .i64 0, .int .i64 0] ∧ (∃ x y z : Value, VRow wr g0 24 [x, y, z]) ∧ BMap wr b ks ∧ Ext w wr) (fun i _ => 145 - (intOf i).toNat)
    case atStart => exact ⟨1, rfl, by omega, by omega, noneI_one ks, HR1.out, ⟨_, _, _, HR2.out⟩, HM.out, HE4.out⟩
    case round =>
      obtain ⟨n, rfl, hn1, hn2, hNI, hR1, ⟨x, y, z, hR2⟩, hBM, hE⟩ := hrel
      have HNI := Lib.hid hNI
      have H1 := Lib.hid hR1
      have H2 := Lib.hid (show ∃ x y z : Value, VRow wr g0 24 [x, y, z] from ⟨x, y, z, hR2⟩)
      have H3 := Lib.hid hBM
      have H4 := Lib.hid hE
      clear hNI hR1 hR2 hBM hE HM HR1 HR2 HE4
      go_wp2_with fail
      go_loopw [7] (fun i wr => ∃ m : Nat, i = .int .i64 m ∧ 1 ≤ m ∧ m ≤ n + 1 ∧ NoneA ks n m ∧ VRow wr w.heap.size 24 [.int .i64 0, .int .i64 0, .int .i64 0] ∧ (∃ x y z : Value, VRow wr g0 24 [x, y, z]) ∧ BMap wr b ks ∧ Ext w wr) (fun i _ => n + 1 - (intOf i).toNat)
      case atStart => exact ⟨1, rfl, by omega, by omega, noneA_one ks n, H1.out, H2.out, H3.out, H4.out⟩
      case round =>
        obtain ⟨m, rfl, hm1, hm2, hNA, hR1, hR2, hBM, hE⟩ := hrel
        have HNA := Lib.hid hNA
        have I1 := Lib.hid hR1
        have I2 := Lib.hid hR2
        have I3 := Lib.hid hBM
        have I4 := Lib.hid hE
        clear hNA hR1 hR2 hBM hE H1 H2 H3 H4
        by_cases hle : m ≤ n
        · by_cases hd : n % m = 0
          · have hdz : ((n : Int) % (m : Int) != 0) = false := by have : (n : Int) % (m : Int) = 0 := by omega
                                                                  simp [this]
            obtain ⟨q, hq⟩ : ∃ q : Nat, q = n / m := ⟨_, rfl⟩
            have hqz : (n : Int) / (m : Int) = (q : Int) := by rw [hq]; omega
            have hql : q ≤ n := by rw [hq]; exact Nat.div_le_self _ _
            have hql2 : m * q = n := by rw [hq]; have := Nat.div_add_mod n m; omega
            have HQ := Lib.hid hq
            have HQ2 := Lib.hid hql2
            have Hd := Lib.hid hd
            clear hq hql2 hd
            go_wp2_with fail
            go_loopw [30] (fun i wr => ∃ k : Nat, i = .int .i64 k ∧ k ≤ q ∧ NoneB ks n m k ∧ VRow wr w.heap.size 24 [.int .i64 0, .int .i64 0, .int .i64 0] ∧ (∃ x y z : Value, VRow wr g0 24 [x, y, z]) ∧ BMap wr b ks ∧ Ext w wr) (fun i _ => q - (intOf i).toNat)
            case atStart => exact ⟨0, rfl, Nat.zero_le _, fun B' h1 h2 => by omega, I1.out, I2.out, I3.out, I4.out⟩
            case round =>
              obtain ⟨k, rfl, hk, hNB, hR1, ⟨x, y, z, hR2⟩, hBM, hE⟩ := hrel
              have HNB := Lib.hid hNB
              have J1 := Lib.hid hR1
              have J2 := Lib.hid hR2
              have J3 := Lib.hid hBM
              have J4 := Lib.hid hE
              clear hNB hR1 hR2 hBM hE I1 I2 I3 I4
              by_cases hlt : k < q
              · have hbne : b ≠ g0 := by omega
                have c0 := VRow.cell J2.out (k := 0) rfl
                have c1 := VRow.cell J2.out (k := 1) rfl
                have c2 := VRow.cell J2.out (k := 2) rfl
                have f0 := VRow.frozen J2.out 0 none
                have f1 := VRow.frozen J2.out 1 none
                have f2 := VRow.frozen J2.out 2 none
                go_wp2_with fail
                clear c0 c1 c2 f0 f1 f2
                have hG := vrow3_put J2.out (.int .i64 (m : Int)) (.int .i64 (k : Int)) (.int .i64 (q : Int))
                have hA := VRow.setOther (VRow.setOther (VRow.setOther J1.out (a := ⟨g0, 0, none⟩) (by show w.heap.size ≠ g0; omega) (.int .i64 (m : Int))) (a := ⟨g0, 1, none⟩) (by show w.heap.size ≠ g0; omega) (.int .i64 (k : Int))) (a := ⟨g0, 2, none⟩) (by show w.heap.size ≠ g0; omega) (.int .i64 (q : Int))
                have hB := bmap3_put J3.out hbne (.int .i64 (m : Int)) (.int .i64 (k : Int)) (.int .i64 (q : Int))
                have hX := ext3_put J4.out (show w.heap.size ≤ g0 by omega) (.int .i64 (m : Int)) (.int .i64 (k : Int)) (.int .i64 (q : Int))
                have K1 := Lib.hid hA
                have K2 := Lib.hid hG
                have K3 := Lib.hid hB
                have K4 := Lib.hid hX
                clear hG hA hB hX J1 J2 J3 J4
                generalize ((wr.setCell ⟨g0, 0, none⟩ (.int .i64 (m : Int))).setCell ⟨g0, 1, none⟩ (.int .i64 (k : Int))).setCell ⟨g0, 2, none⟩ (.int .i64 (q : Int)) = w5 at *
                have hgo : gridOk (m : Int) (k : Int) (q : Int) := by unfold gridOk; omega
                refine (show Calls Try.prog 54 #[gridV (m : Int) (k : Int) (q : Int), .map (some b)] w5 _ from avoids_c (m : Int) (k : Int) (q : Int) b ks w5 hgo HKS.out K3.out).mono ?_
                rintro e w6 ⟨rfl, hE6⟩
                have L1 := Lib.hid (VRow.ext K1.out hE6)
                have L2 := Lib.hid (VRow.ext K2.out hE6)
                have L3 := Lib.hid (BMap.ext K3.out hE6)
                have L4 := Lib.hid (Ext.trans K4.out hE6)
                clear hE6 K1 K2 K3 K4 hgo
                cases hav : avoidB ks (m : Int) (k : Int) (q : Int) with
                | false =>
                  have HAV := Lib.hid hav
                  clear hav
                  go_wp2_with fail
                  exact ⟨⟨k + 1, by simp, by omega, noneB_next HNB.out (by rw [← HQ.out]; exact HAV.out), L1.out, ⟨_, _, _, L2.out⟩, L3.out, L4.out⟩, by simp [intOf]; omega⟩
                | true =>
                  have HAV := Lib.hid hav
                  clear hav
                  have c0 := VRow.cell L2.out (k := 0) rfl
                  have c1 := VRow.cell L2.out (k := 1) rfl
                  have c2 := VRow.cell L2.out (k := 2) rfl
                  have d0 := VRow.cell L1.out (k := 0) rfl
                  have d1 := VRow.cell L1.out (k := 1) rfl
                  have d2 := VRow.cell L1.out (k := 2) rfl
                  have f0 := VRow.frozen L1.out 0 none
                  have f1 := VRow.frozen L1.out 1 none
                  have f2 := VRow.frozen L1.out 2 none
                  go_wp2_with fail
                  (try simp only [Exit.inBlock, Exit.then])
                  (try rw [Exit.noGoto_ret])
                  have HF := first_of (ks := ks) hn2 hm1 Hd.out (by rw [← HQ.out]; exact hlt) HNI.out HNA.out HNB.out (by rw [← HQ.out]; exact HAV.out)
                  rw [← HQ.out] at HF
                  refine bodyPost_ret (dens_results (vrow3_put L1.out _ _ _) _ rfl rfl) rfl ?_
                  exact ⟨HS.out _ _ _ HF, ext3_put L4.out (Nat.le_refl _) _ _ _⟩
              · obtain rfl : k = q := by omega
                go_wp2_with fail
                exact ⟨⟨m + 1, by simp, by omega, by omega, noneA_next HNA.out hm1 Hd.out (by rw [← HQ.out]; exact HNB.out), J1.out, ⟨_, _, _, J2.out⟩, J3.out, J4.out⟩, by simp [intOf]; omega⟩
          · have Hd := Lib.hid hd
            have hdz : ((n : Int) % (m : Int) != 0) = true := by have : (n : Int) % (m : Int) ≠ 0 := by omega
                                                                 simp [this]
            clear hd
            go_wp2_with fail
            exact ⟨⟨m + 1, by simp, by omega, by omega, noneA_skip HNA.out Hd.out, I1.out, I2.out, I3.out, I4.out⟩, by simp [intOf]; omega⟩
        · obtain rfl : m = n + 1 := by omega
          have hNI2 := noneI_next HNI.out HNA.out
          have hlt := noneI_lt hNI2
          have HN2 := Lib.hid hNI2
          clear hNI2
          go_wp2_with fail
          exact ⟨⟨n + 1, by simp, by omega, by omega, HN2.out, I1.out, I2.out, I3.out, I4.out⟩, by simp [intOf]; omega⟩
end Go.Proofs.Ytnpebfchojalcaa
