import Derived.Test.YtbcngojiikdigaaMY
namespace Go.Proofs.Ytbcngojiikdigaa
set_option maxRecDepth 100000
open Go.RowKit Go.Shelf
set_option maxHeartbeats 32000000 in
theorem duality_lo (ua : Value) (A : List (List Int)) (mo : Int) (tu : Int) (w : World) (hA : Rows2 w ua A) (htu : 0 ≤ tu ∧ tu ≤ 255) (hfa : few20 A = true) (hm : matB A = true) {p q : Int} (hs : spF A.length (entF A) = some (p, q)) (hmo : ¬ -500 ≤ mo) : Calls Try.prog 3 #[ua, .int .i64 mo, .int .u8 tu] w fun e w' => e = .returned (.bool true) ∧ Ext w w' := by
  obtain ⟨tn, rfl⟩ : ∃ tn : Nat, tu = tn := ⟨tu.toNat, by omega⟩
  have HA := Lib.hid hA
  have HFA := Lib.hid (few_c ua A w hA)
  obtain ⟨aa, ca, rfl, _, _, _⟩ := hA.at
  clear hA
  have HLA := Lib.hid (few20_ok hfa).2
  rw [hfa] at HFA
  clear hfa
  go_enter Try.func3, Try.ntmps3
  go_wp2_with fail
  refine HFA.out.mono ?_
  rintro e w1 ⟨rfl, hE⟩
  have HE1 := Lib.hid hE
  clear hE
  have HSP := Lib.hid (fun W (h : Ext w W) => Speed_c _ A W (Rows2.ext HA.out h) HLA.out)
  have HPO := Lib.hid (fun W (h : Ext w W) => Potential_c _ A W (Rows2.ext HA.out h) HLA.out)
  have HCY := Lib.hid (fun W (h : Ext w W) => Cycle_c _ A W (Rows2.ext HA.out h) HLA.out)
  have HOA := Lib.hid (matB_ok hm)
  have hn := HOA.out.1
  have hb := spF_bd HOA.out.2.2 hn.2 hs
  have HP3 := Lib.hid (fun base e w' (h : PotS base A e w') => (pot_two h).2.2 p q hm hs)
  have HC3 := Lib.hid (fun base e w' (h : CycS base A e w') => (cyc_two h).2.2 p q hm hs)
  have HPK := Lib.hid (pot_ok hn.1 hn.2 HOA.out.2.2 hs)
  have HSF := Lib.hid hs
  rw [speedZ_some hm hs] at HSP
  clear hm hs
  unfold two at *
  go_wp2_with fail
  refine (HSP.out _ HE1.out).mono ?_
  rintro e w3 ⟨rfl, hE⟩
  have HE3 := Lib.hid (Ext.alloc (Ext.trans HE1.out hE) (.cells #[.int .i64 p, .int .i64 q] 26))
  have HS3 := Lib.hid (show VRow (w3.alloc (.cells #[.int .i64 p, .int .i64 q] 26)) _ _ _ from vrow_alloc w3 [.int .i64 p, .int .i64 q] 26)
  clear hE
  go_wp2_with fail
  generalize w3.alloc (.cells #[.int .i64 p, .int .i64 q] 26) = w4 at *
  obtain ⟨S, hS⟩ : ∃ S, S = w3.heap.size := ⟨_, rfl⟩
  rw [← hS] at HS3
  rw [← hS]
  clear hS
  refine (HPO.out _ HE3.out).mono ?_
  rintro e w5 ⟨hP, hE⟩
  obtain ⟨pv, rfl, hpv⟩ := HP3.out _ _ _ hP
  have HE5 := Lib.hid (Ext.trans HE3.out hE)
  have HS5 := Lib.hid (VRow.ext HS3.out hE)
  have HPV := Lib.hid (hpv.vec (by omega))
  clear hE hP hpv
  go_wp2_with fail
  refine (HCY.out _ HE5.out).mono ?_
  rintro e w6 ⟨hC, hE⟩
  obtain ⟨m, f, cv, hle, rfl, hcv⟩ := HC3.out _ _ _ hC
  have HE6 := Lib.hid (Ext.trans HE5.out hE)
  have HS6 := Lib.hid (VRow.ext HS5.out hE)
  have HPV := Lib.hid (HPV.out.ext hE)
  have hf := cyc_facts hle
  obtain ⟨cb, co, cc, rfl, hcc⟩ := nats_row hcv hf.1 hle.1
  have HCC := Lib.hid hcc
  have hm1 := hle.1
  have hmn := hle.2.1
  have HCF := Lib.hid hf.2
  obtain ⟨pb, po, pc, rfl, _, _, hpc⟩ := HPV.out
  obtain ⟨V, hV⟩ : ∃ V : Nat → Int, V = fun i => val (potF A.length (lvF p q (entF A)) i) := ⟨_, rfl⟩
  have HPC := Lib.hid (show ∀ i, i < A.length → w6.cell? ⟨pb, po + i, none⟩ = some (.int .i64 (V i)) from fun i hi => by rw [hV]; exact hpc i hi)
  rw [← hV] at HPK
  have c0 := VRow.cell HS6.out (k := 0) rfl
  have c1 := VRow.cell HS6.out (k := 1) rfl
  have kS := cell_lt c0
  have hqn : ¬ q < 1 := by omega
  have hnn : ((A.length : Int) != (A.length : Int)) = false := by simp
  have hm0 : ((m : Int) == 0) = false := beq_eq_false_iff_ne.2 (by omega)
  have hmn2 : ¬ (A.length : Int) < (m : Int) := by omega
  have hmn3 : ¬ A.length < m := by omega
  clear hE hC hle hf hcv hcc hpc hV
  go_wp2_with fail
  obtain ⟨ab, ao, ac, eA, hmm1, hmm2, hMA⟩ := rows_mat (Rows2.ext HA.out HE6.out) HOA.out.2.1 hn.1
  injection eA with eA1 _ eA2
  subst eA1
  subst eA2
  have HMA := Lib.hid hMA
  have HBA := Lib.hid HOA.out.2.2
  have HC0 := Lib.hid c0
  have HC1 := Lib.hid c1
  generalize hg : gC (codeC A.length (lvF p q (entF A)) f m) = g at *
  obtain ⟨g1, g2, sT, g3, g4⟩ := HCF.out
  have HG1 := Lib.hid g1
  have HG2 := Lib.hid g2
  have HG3 := Lib.hid g3
  have HG4 := Lib.hid g4
  clear hg hMA g1 g2 g3 g4 HCF c0 c1 kS hqn hnn hm0 hmn2 hmn3
  generalize hAF : entF A = AF at *
  have HAF := Lib.hid hAF
  generalize hN : A.length = n at *
  have HNN := Lib.hid hN
  clear hAF hN
  go_loopw [14, 15] (fun sv iv' wr => ∃ (i : Nat) (s : Int), iv' = .int .i64 (i : Int) ∧ sv = .int .i64 s ∧ i ≤ m ∧ preL AF g i = some s ∧ Ext w6 wr) (fun _ iv' _ => m - (intOf iv').toNat)
  case atStart => exact ⟨0, 0, rfl, rfl, Nat.zero_le _, rfl, Ext.refl _⟩
  case round =>
    rename World => wr
    obtain ⟨i, s, rfl, rfl, hi, hs, hE⟩ := hrel
    have HEr := Lib.hid hE
    have HSS := Lib.hid hs
    clear hE hs
    have hsb := (preL_bd HBA.out HG1.out i) s HSS.out
    by_cases hil : i < m
    · obtain ⟨s', y, e1, e2, e3⟩ := preL_arc HG3.out hil
      rw [HSS.out] at e1
      injection e1 with e1
      subst e1
      obtain ⟨j1, hj1, hjm, hcj⟩ : ∃ j1 : Nat, (i + 1) % m = j1 ∧ j1 < m ∧ w6.cell? ⟨cb, co + j1, none⟩ = some (.int .i64 (g (i + 1) : Int)) := by
        by_cases h : i + 1 < m
        · exact ⟨i + 1, Nat.mod_eq_of_lt h, h, HCC.out (i + 1) h⟩
        · have h2 : i + 1 = m := by omega
          refine ⟨0, by rw [h2, Nat.mod_self], by omega, ?_⟩
          rw [h2, HG2.out]
          exact HCC.out 0 (by omega)
      have hr2 : ((i : Int) + 1) % (m : Int) = (j1 : Int) := by rw [← hj1, Int.natCast_emod]; rfl
      have hr1 : Int.tmod ((i : Int) + 1) (m : Int) = (j1 : Int) := by rw [Int.tmod_eq_emod_of_nonneg (by omega)]; exact hr2
      have hx := HG1.out i
      have hy := HG1.out (i + 1)
      have hyb := HBA.out _ hy _ hx y e2
      obtain ⟨u1, cu1, ⟨rb1, ro1, rc1, rfl, _, _, hrow1⟩⟩ := HMA.out (g (i + 1)) hy
      have d1 := Ext.cell HEr.out (HCC.out i hil)
      have d2 := Ext.cell HEr.out hcj
      have d3 := Ext.cell HEr.out cu1
      have d4 := Ext.cell HEr.out (hrow1 (g i) hx)
      rw [e2] at d4
      rw [show iv (some y) = .int .i64 y from rfl] at d4
      have k1 := cell_lt d1
      have k3 := cell_lt d3
      have k4 := cell_lt d4
      have HE3' := Lib.hid e3
      have hyn : (y == -1152921504606846976) = false := beq_eq_false_iff_ne.2 (by omega)
      have hms : (m : Int) ≠ 0 := by omega
      obtain ⟨x0, hx0⟩ : ∃ x, x = g i := ⟨_, rfl⟩
      obtain ⟨y0, hy0⟩ : ∃ x, x = g (i + 1) := ⟨_, rfl⟩
      rw [← hx0] at hx d1 d4
      rw [← hy0] at hy d2 d3
      clear hx0 hy0 hj1 e2 e3 hcj cu1 hrow1
      go_wp2_with fail
      go_quiet (fail)
      go_wp2_with fail
      exact ⟨⟨i + 1, s + y, by simp, rfl, by omega, HE3'.out, ext_drewN HEr.out _⟩, by simp [intOf]; omega⟩
    · obtain rfl : i = m := by omega
      obtain rfl : s = sT := by have h := HSS.out; rw [HG3.out] at h; injection h with h; exact h.symm
      have c0 := Ext.cell HEr.out HC0.out
      have c1 := Ext.cell HEr.out HC1.out
      have kS := cell_lt c0
      have hsq := mul_bd3 (s := s) (q := q) (by omega) hb.2
      obtain ⟨zq, hzq⟩ : ∃ z, z = s * q := ⟨_, rfl⟩
      rw [← hzq] at hsq
      have hw1 : IntKind.i64.wrap (s * q) = zq := by rw [← hzq]; exact IntWalk.i64_in _ (by omega)
      have hw2 : IntKind.i64.wrap (p * (i : Int)) = zq := by rw [← HG4.out, ← hzq]; exact IntWalk.i64_in _ (by omega)
      have hzz : (zq != zq) = false := by simp
      clear hzq
      go_wp2_with fail
      have HK8 := Lib.hid (Ext.trans HE6.out HEr.out)
      have HPV8 := Lib.hid (fun x (hx : x < n) => Ext.cell HEr.out (HPC.out x hx))
      have HC08 := Lib.hid c0
      have HC18 := Lib.hid c1
      clear c0 c1 kS hw1 hw2 hzz hsq
      obtain ⟨k0, hk0, hk1, hk2, hk3⟩ := info_parts info3x23
      have HK := Lib.hid hk0
      have HK0 := Lib.hid hk1
      have HK1 := Lib.hid hk2
      have HK2 := Lib.hid hk3
      obtain ⟨r0, hr0, hr1, hr2, hr3⟩ := info_parts info22
      have HI := Lib.hid hr0
      have HZ0 := Lib.hid hr1
      have HZ1 := Lib.hid hr2
      have HZ2 := Lib.hid hr3
      clear hk0 hk1 hk2 hk3 hr0 hr1 hr2 hr3
      go_loopw [18, 19, 20, 22] (fun zv uv ov' iv' wq => ∃ (i2 : Nat) (zb : Bool), iv' = .int .i64 (i2 : Int) ∧ zv = .bool zb ∧ i2 ≤ n ∧ (zb = true ∨ ∀ x, x < i2 → V x ≠ 0) ∧ Two wr.heap.size wq uv ov' n i2 (fun i j => AF j i) (rotF n tn (0 : Int) AF) ∧ Ext wr wq) (fun _ _ _ iv' _ => n - (intOf iv').toNat)
      case atStart => exact ⟨0, false, rfl, rfl, Nat.zero_le _, .inr (fun x h => by omega), ⟨⟨[], ⟨rfl, .inl ⟨rfl, rfl⟩⟩, fun i u h => by simp at h⟩, ⟨[], ⟨rfl, .inl ⟨rfl, rfl⟩⟩, fun i u h => by simp at h⟩, fun g hg => by cases hg⟩, Ext.refl _⟩
      case round =>
        rename World => wq
        obtain ⟨i2, zb, rfl, rfl, hi2, hzb, hT, hE⟩ := hrel
        obtain ⟨hT1, hT2, hT3⟩ := hT
        obtain ⟨la, lc, rfl⟩ := hT1.slice
        obtain ⟨ta, tc, rfl⟩ := hT2.slice
        have HT1 := Lib.hid hT1
        have HT2 := Lib.hid hT2
        have HT3 := Lib.hid hT3
        have HZB := Lib.hid hzb
        have HEq := Lib.hid hE
        have hwq := hE.size
        clear hT1 hT2 hT3 hzb hE
        by_cases hin : i2 < n
        · have e0 := Ext.cell HEq.out (HPV8.out i2 hin)
          have ke := cell_lt e0
          go_upto_region 31 with fail
          go_cut [18] from 163 to 260 (fun z wc => ∃ nb : Bool, z = .bool nb ∧ (nb = true ∨ ∀ x, x < i2 + 1 → V x ≠ 0) ∧ wq = wc)
          case first =>
            cases zb with
            | true =>
              go_wp2_with fail
              go_meet
              case rel => exact ⟨true, rfl, .inl rfl, rfl⟩
            | false =>
              by_cases hV0 : V i2 = 0
              · have hvb : (V i2 == 0) = true := by simp [hV0]
                go_wp2_with fail
                go_meet
                case rel => exact ⟨true, rfl, .inl rfl, rfl⟩
              · have hvb : (V i2 == 0) = false := beq_eq_false_iff_ne.2 hV0
                have HNX := Lib.hid (show ∀ x, x < i2 + 1 → V x ≠ 0 from fun x hx => by
                  by_cases e : x = i2
                  · rw [e]; exact hV0
                  · rcases HZB.out with h | h
                    · cases h
                    · exact h x (by omega))
                go_wp2_with fail
                go_meet
                case rel => exact ⟨false, rfl, .inr HNX.out, rfl⟩
          case rest =>
            obtain ⟨nb, rfl, hnb, rfl⟩ := hcut
            have HNB := Lib.hid hnb
            clear hnb
            go_wp2_with fail
            have HE0 := Lib.hid e0
            clear e0 ke
            go_loopw [23, 24, 25] (fun rv ov' jv wt => ∃ j : Nat, jv = .int .i64 (j : Int) ∧ j ≤ n ∧ TwoR wq.heap.size wt rv ov' j (fun j => AF j i2) (rotF n tn (0 : Int) AF i2) ∧ Ext wq wt) (fun _ _ jv _ => n - (intOf jv).toNat)
            case atStart => exact ⟨0, rfl, Nat.zero_le _, ⟨⟨rfl, .inl ⟨rfl, rfl⟩⟩, ⟨rfl, .inl ⟨rfl, rfl⟩⟩, fun g hg => by cases hg⟩, Ext.refl _⟩
            case round =>
              rename World => wt
              obtain ⟨j, rfl, hj, hR, hE⟩ := hrel
              obtain ⟨hR1, hR2, hR3⟩ := hR
              obtain ⟨ra, rc, rfl⟩ := own_slice hR1
              obtain ⟨oa, oc, rfl⟩ := own_slice hR2
              have HR1 := Lib.hid hR1
              have HR2 := Lib.hid hR2
              have HR3 := Lib.hid hR3
              have HEt := Lib.hid hE
              have hwt := hE.size
              clear hR1 hR2 hR3 hE
              by_cases hjn : j < n
              · have HEA := Lib.hid (Ext.trans HEr.out (Ext.trans HEq.out HEt.out))
                have HEB := Lib.hid (Ext.trans HEq.out HEt.out)
                obtain ⟨u1, cu1, ⟨rb1, ro1, rc1, rfl, _, _, hrow1⟩⟩ := HMA.out i2 hin
                obtain ⟨u2, cu2, ⟨rb2, ro2, rc2, rfl, _, _, hrow2⟩⟩ := HMA.out j hjn
                have d1 := Ext.cell HEA.out cu1
                have d2 := Ext.cell HEA.out (hrow1 j hjn)
                have d3 := Ext.cell HEA.out cu2
                have d4 := Ext.cell HEA.out (hrow2 i2 hin)
                have c0 := Ext.cell HEB.out HC08.out
                have c1 := Ext.cell HEB.out HC18.out
                have e1 := Ext.cell HEt.out HE0.out
                have e2 := Ext.cell HEB.out (HPV8.out j hjn)
                have n1 := cell_lt d1
                have n2 := cell_lt d2
                have n3 := cell_lt d3
                have n4 := cell_lt d4
                have n5 := cell_lt c0
                have n6 := cell_lt e1
                have hv1 := HPK.out.1 i2 hin
                have hv2 := HPK.out.1 j hjn
                have hvn : ¬ V i2 < 0 := by omega
                clear cu1 cu2 hrow1 hrow2
                have HD3 := Lib.hid d3
                have HD4 := Lib.hid d4
                clear d3 d4 n3 n4
                go_upto_region 36 with fail
                go_cut [220] from 176 to 252 (fun z wc => z = .bool false ∧ Ext wt wc)
                case first =>
                  have HD1 := Lib.hid d1
                  have HC0q := Lib.hid c0
                  have HC1q := Lib.hid c1
                  have HU1 := Lib.hid e1
                  have HU2 := Lib.hid e2
                  have HVN := Lib.hid hvn
                  cases hAij : AF i2 j with
                  | none =>
                    rw [hAij] at d2
                    have HD2 := Lib.hid (show wt.cell? ⟨rb1, ro1 + j, none⟩ = some (.int .i64 (-1152921504606846976)) from d2)
                    clear hAij d1 d2 c0 c1 e1 e2 hvn
                    refine wp_region_stable [⟨[], none⟩, ⟨[], none⟩, ⟨[(0, 181), (1, 182)], none⟩, ⟨[(2, 183)], none⟩, ⟨[], none⟩, ⟨[(3, 184), (4, 185)], none⟩, ⟨[(5, 186)], none⟩, ⟨[(6, 187)], none⟩, ⟨[(7, 188)], none⟩, ⟨[(8, 189)], some (189, true)⟩, ⟨[(9, 190), (8, 189)], some (189, true)⟩, ⟨[(8, 189)], some (189, true)⟩, ⟨[(8, 189)], some (189, true)⟩, ⟨[(11, 192), (12, 193), (8, 189)], some (189, true)⟩, ⟨[(13, 194), (8, 189)], some (189, true)⟩, ⟨[(8, 189)], some (189, true)⟩, ⟨[(14, 195), (15, 196), (8, 189)], some (189, true)⟩, ⟨[(16, 197), (8, 189)], some (189, true)⟩, ⟨[(10, 191), (17, 198), (8, 189)], some (189, true)⟩, ⟨[(8, 189)], some (189, true)⟩, ⟨[(19, 200), (8, 189)], some (189, true)⟩, ⟨[(18, 199), (20, 201), (8, 189)], some (189, true)⟩, ⟨[(8, 189)], some (189, true)⟩, ⟨[(8, 189)], some (189, true)⟩, ⟨[(22, 203), (23, 204), (8, 189)], some (189, true)⟩, ⟨[(24, 205), (8, 189)], some (189, true)⟩, ⟨[(21, 202), (25, 206), (8, 189)], some (189, true)⟩, ⟨[(8, 189)], some (189, true)⟩, ⟨[(8, 189)], some (189, true)⟩, ⟨[(27, 208), (28, 209), (8, 189)], some (189, true)⟩, ⟨[(29, 210), (8, 189)], some (189, true)⟩, ⟨[(26, 207), (30, 211), (8, 189)], some (189, true)⟩, ⟨[(8, 189), (31, 212)], none⟩, ⟨[(32, 213)], none⟩, ⟨[(33, 214)], some (214, false)⟩, ⟨[(33, 214)], some (214, false)⟩, ⟨[(34, 215), (35, 216), (33, 214)], some (214, false)⟩, ⟨[(36, 217), (33, 214)], some (214, false)⟩, ⟨[(37, 218), (33, 214)], some (214, false)⟩, ⟨[(33, 214), (38, 219)], none⟩] (fun x y => Below x.heap.size x y) (MPat [MP.eq (.slice (some ⟨ab, ao, none⟩) n ca), MP.eq (.int .i64 (i2 : Int)), MP.eq (.pointer (some ⟨ab, ao + i2, none⟩)), MP.eq (.slice (some ⟨rb1, ro1, none⟩) n rc1), MP.eq (.int .i64 (j : Int)), MP.eq (.pointer (some ⟨rb1, ro1 + j, none⟩)), MP.eq (.int .i64 (-1152921504606846976)), MP.eq (.bool false), MP.eq (.bool false), MP.eq (undef), MP.eq (undef), MP.eq (undef), MP.eq (undef), MP.eq (undef), MP.eq (undef), MP.eq (undef), MP.eq (undef), MP.eq (undef), MP.eq (undef), MP.eq (undef), MP.eq (undef), MP.eq (undef), MP.eq (undef), MP.eq (undef), MP.eq (undef), MP.eq (undef), MP.eq (undef), MP.eq (undef), MP.eq (undef), MP.eq (undef), MP.eq (undef), MP.eq (undef), MP.eq (.bool false), MP.eq (.bool false), MP.eq (.slice (some ⟨pb, po, none⟩) n pc), MP.eq (.int .i64 (i2 : Int)), MP.eq (.pointer (some ⟨pb, po + i2, none⟩)), MP.eq (.int .i64 (V i2)), MP.eq (.bool false), MP.eq (.bool false)]) (by kernel_rfl) (fun _ _ _ h k => Ext.trans h k) (fun _ => Below.refl _ _) (fun x => (Below.refl x.heap.size x).drew) (MPat.mono _) (by kernel_rfl) ?obsN ?restN
                    case obsN =>
                      refine ⟨?_, ?_, ?_, ?_, ?_, ?_, ?_, ?_, ?_, ?_, ?_, ?_, ?_, ?_, ?_, ?_, ?_, ?_, ?_, ?_, ?_, ?_, ?_, ?_, ?_, ?_, ?_, ?_, ?_, ?_, ?_, ?_, ?_, ?_, ?_, ?_, ?_, ?_, ?_, ?_, trivial⟩
                      · intro ev W hf _ _ hst hd
                        have e0 : ev (.tmp 0) = .slice (some ⟨ab, ao, none⟩) n ca := hf 0 (by kernel_rfl)
                        refine st_value (v := .slice (some ⟨ab, ao, none⟩) n ca) ?_ (Below.refl _ _) ?_
                        · simp [execOp, go_sem, e0]
                        · exact rfl
                      · intro ev W hf _ _ hst hd
                        have e22 : ev (.tmp 22) = .int .i64 (i2 : Int) := hf 22 (by kernel_rfl)
                        refine st_value (v := .int .i64 (i2 : Int)) ?_ (Below.refl _ _) ?_
                        · simp [execOp, go_sem, e22]
                        · exact rfl
                      · intro ev W hf _ _ hst hd
                        obtain ⟨d181, d182, _⟩ := hd
                        have e181 : ev (.tmp 181) = .slice (some ⟨ab, ao, none⟩) n ca := d181
                        have e182 : ev (.tmp 182) = .int .i64 (i2 : Int) := d182
                        refine st_value (v := .pointer (some ⟨ab, ao + i2, none⟩)) ?_ (Below.refl _ _) ?_
                        · simp [execOp, go_sem, e181, e182, hin]
                        · exact rfl
                      · intro ev W hf _ _ hst hd
                        obtain ⟨d183, _⟩ := hd
                        have e183 : ev (.tmp 183) = .pointer (some ⟨ab, ao + i2, none⟩) := d183
                        have q0 := Ext.cell hst HD1.out
                        refine st_value (v := .slice (some ⟨rb1, ro1, none⟩) n rc1) ?_ (Below.refl _ _) ?_
                        · simp [execOp, go_sem, e183, q0]
                        · exact rfl
                      · intro ev W hf _ _ hst hd
                        have e25 : ev (.tmp 25) = .int .i64 (j : Int) := hf 25 (by kernel_rfl)
                        refine st_value (v := .int .i64 (j : Int)) ?_ (Below.refl _ _) ?_
                        · simp [execOp, go_sem, e25]
                        · exact rfl
                      · intro ev W hf _ _ hst hd
                        obtain ⟨d184, d185, _⟩ := hd
                        have e184 : ev (.tmp 184) = .slice (some ⟨rb1, ro1, none⟩) n rc1 := d184
                        have e185 : ev (.tmp 185) = .int .i64 (j : Int) := d185
                        refine st_value (v := .pointer (some ⟨rb1, ro1 + j, none⟩)) ?_ (Below.refl _ _) ?_
                        · simp [execOp, go_sem, e184, e185, hjn]
                        · exact rfl
                      · intro ev W hf _ _ hst hd
                        obtain ⟨d186, _⟩ := hd
                        have e186 : ev (.tmp 186) = .pointer (some ⟨rb1, ro1 + j, none⟩) := d186
                        have q0 := Ext.cell hst HD2.out
                        refine st_value (v := .int .i64 (-1152921504606846976)) ?_ (Below.refl _ _) ?_
                        · simp [execOp, go_sem, e186, q0]
                        · exact rfl
                      · intro ev W hf hcst _ hst hd
                        obtain ⟨d187, _⟩ := hd
                        have e187 : ev (.tmp 187) = .int .i64 (-1152921504606846976) := d187
                        refine st_value (v := .bool false) ?_ (Below.refl _ _) ?_
                        · simp [execOp, go_sem, e187, hcst]
                        · exact rfl
                      · intro ev W hf _ _ hst hd
                        obtain ⟨d188, _⟩ := hd
                        have e188 : ev (.tmp 188) = .bool false := d188
                        refine st_value (v := .bool false) ?_ (Below.refl _ _) ?_
                        · simp [execOp, go_sem, e188]
                        · exact rfl
                      · intro ev W hf _ _ hst hd
                        obtain ⟨d189, _⟩ := hd
                        have e189 : ev (.tmp 189) = .bool false := d189
                        refine ⟨fun hh => ?_, fun _ => rfl⟩
                        rw [e189] at hh
                        simp at hh
                      · intro ev W hf _ _ hst hd
                        obtain ⟨d190, d189, _⟩ := hd
                        have e189 : ev (.tmp 189) = .bool false := d189
                        refine ⟨fun hh => ?_, fun _ => rfl⟩
                        rw [e189] at hh
                        simp at hh
                      · intro ev W hf _ _ hst hd
                        obtain ⟨d189, _⟩ := hd
                        have e189 : ev (.tmp 189) = .bool false := d189
                        refine ⟨fun hh => ?_, fun _ => rfl⟩
                        rw [e189] at hh
                        simp at hh
                      · intro ev W hf _ _ hst hd
                        obtain ⟨d189, _⟩ := hd
                        have e189 : ev (.tmp 189) = .bool false := d189
                        refine ⟨fun hh => ?_, fun _ => rfl⟩
                        rw [e189] at hh
                        simp at hh
                      · intro ev W hf _ _ hst hd
                        obtain ⟨d192, d193, d189, _⟩ := hd
                        have e189 : ev (.tmp 189) = .bool false := d189
                        refine ⟨fun hh => ?_, fun _ => rfl⟩
                        rw [e189] at hh
                        simp at hh
                      · intro ev W hf _ _ hst hd
                        obtain ⟨d194, d189, _⟩ := hd
                        have e189 : ev (.tmp 189) = .bool false := d189
                        refine ⟨fun hh => ?_, fun _ => rfl⟩
                        rw [e189] at hh
                        simp at hh
                      · intro ev W hf _ _ hst hd
                        obtain ⟨d189, _⟩ := hd
                        have e189 : ev (.tmp 189) = .bool false := d189
                        refine ⟨fun hh => ?_, fun _ => rfl⟩
                        rw [e189] at hh
                        simp at hh
                      · intro ev W hf _ _ hst hd
                        obtain ⟨d195, d196, d189, _⟩ := hd
                        have e189 : ev (.tmp 189) = .bool false := d189
                        refine ⟨fun hh => ?_, fun _ => rfl⟩
                        rw [e189] at hh
                        simp at hh
                      · intro ev W hf _ _ hst hd
                        obtain ⟨d197, d189, _⟩ := hd
                        have e189 : ev (.tmp 189) = .bool false := d189
                        refine ⟨fun hh => ?_, fun _ => rfl⟩
                        rw [e189] at hh
                        simp at hh
                      · intro ev W hf _ _ hst hd
                        obtain ⟨d191, d198, d189, _⟩ := hd
                        have e189 : ev (.tmp 189) = .bool false := d189
                        refine ⟨fun hh => ?_, fun _ => rfl⟩
                        rw [e189] at hh
                        simp at hh
                      · intro ev W hf _ _ hst hd
                        obtain ⟨d189, _⟩ := hd
                        have e189 : ev (.tmp 189) = .bool false := d189
                        refine ⟨fun hh => ?_, fun _ => rfl⟩
                        rw [e189] at hh
                        simp at hh
                      · intro ev W hf _ _ hst hd
                        obtain ⟨d200, d189, _⟩ := hd
                        have e189 : ev (.tmp 189) = .bool false := d189
                        refine ⟨fun hh => ?_, fun _ => rfl⟩
                        rw [e189] at hh
                        simp at hh
                      · intro ev W hf _ _ hst hd
                        obtain ⟨d199, d201, d189, _⟩ := hd
                        have e189 : ev (.tmp 189) = .bool false := d189
                        refine ⟨fun hh => ?_, fun _ => rfl⟩
                        rw [e189] at hh
                        simp at hh
                      · intro ev W hf _ _ hst hd
                        obtain ⟨d189, _⟩ := hd
                        have e189 : ev (.tmp 189) = .bool false := d189
                        refine ⟨fun hh => ?_, fun _ => rfl⟩
                        rw [e189] at hh
                        simp at hh
                      · intro ev W hf _ _ hst hd
                        obtain ⟨d189, _⟩ := hd
                        have e189 : ev (.tmp 189) = .bool false := d189
                        refine ⟨fun hh => ?_, fun _ => rfl⟩
                        rw [e189] at hh
                        simp at hh
                      · intro ev W hf _ _ hst hd
                        obtain ⟨d203, d204, d189, _⟩ := hd
                        have e189 : ev (.tmp 189) = .bool false := d189
                        refine ⟨fun hh => ?_, fun _ => rfl⟩
                        rw [e189] at hh
                        simp at hh
                      · intro ev W hf _ _ hst hd
                        obtain ⟨d205, d189, _⟩ := hd
                        have e189 : ev (.tmp 189) = .bool false := d189
                        refine ⟨fun hh => ?_, fun _ => rfl⟩
                        rw [e189] at hh
                        simp at hh
                      · intro ev W hf _ _ hst hd
                        obtain ⟨d202, d206, d189, _⟩ := hd
                        have e189 : ev (.tmp 189) = .bool false := d189
                        refine ⟨fun hh => ?_, fun _ => rfl⟩
                        rw [e189] at hh
                        simp at hh
                      · intro ev W hf _ _ hst hd
                        obtain ⟨d189, _⟩ := hd
                        have e189 : ev (.tmp 189) = .bool false := d189
                        refine ⟨fun hh => ?_, fun _ => rfl⟩
                        rw [e189] at hh
                        simp at hh
                      · intro ev W hf _ _ hst hd
                        obtain ⟨d189, _⟩ := hd
                        have e189 : ev (.tmp 189) = .bool false := d189
                        refine ⟨fun hh => ?_, fun _ => rfl⟩
                        rw [e189] at hh
                        simp at hh
                      · intro ev W hf _ _ hst hd
                        obtain ⟨d208, d209, d189, _⟩ := hd
                        have e189 : ev (.tmp 189) = .bool false := d189
                        refine ⟨fun hh => ?_, fun _ => rfl⟩
                        rw [e189] at hh
                        simp at hh
                      · intro ev W hf _ _ hst hd
                        obtain ⟨d210, d189, _⟩ := hd
                        have e189 : ev (.tmp 189) = .bool false := d189
                        refine ⟨fun hh => ?_, fun _ => rfl⟩
                        rw [e189] at hh
                        simp at hh
                      · intro ev W hf _ _ hst hd
                        obtain ⟨d207, d211, d189, _⟩ := hd
                        have e189 : ev (.tmp 189) = .bool false := d189
                        refine ⟨fun hh => ?_, fun _ => rfl⟩
                        rw [e189] at hh
                        simp at hh
                      · intro ev W hf hcst _ hst hd
                        obtain ⟨d189, d212, _⟩ := hd
                        have e189 : ev (.tmp 189) = .bool false := d189
                        have e212 : ev (.tmp 212) = undef := d212
                        refine st_value (v := .bool false) ?_ (Below.refl _ _) ?_
                        · simp [execOp, go_sem, e189, e212, hcst]
                        · exact rfl
                      · intro ev W hf _ _ hst hd
                        obtain ⟨d213, _⟩ := hd
                        have e213 : ev (.tmp 213) = .bool false := d213
                        refine st_value (v := .bool false) ?_ (Below.refl _ _) ?_
                        · simp [execOp, go_sem, e213]
                        · exact rfl
                      · intro ev W hf _ _ hst hd
                        obtain ⟨d214, _⟩ := hd
                        have e9 : ev (.tmp 9) = .slice (some ⟨pb, po, none⟩) n pc := hf 9 (by kernel_rfl)
                        have e214 : ev (.tmp 214) = .bool false := d214
                        refine ⟨fun _ => ?_, fun hne => absurd e214 hne⟩
                        refine st_value (v := .slice (some ⟨pb, po, none⟩) n pc) ?_ (Below.refl _ _) ?_
                        · simp [execOp, go_sem, e9]
                        · exact rfl
                      · intro ev W hf _ _ hst hd
                        obtain ⟨d214, _⟩ := hd
                        have e22 : ev (.tmp 22) = .int .i64 (i2 : Int) := hf 22 (by kernel_rfl)
                        have e214 : ev (.tmp 214) = .bool false := d214
                        refine ⟨fun _ => ?_, fun hne => absurd e214 hne⟩
                        refine st_value (v := .int .i64 (i2 : Int)) ?_ (Below.refl _ _) ?_
                        · simp [execOp, go_sem, e22]
                        · exact rfl
                      · intro ev W hf _ _ hst hd
                        obtain ⟨d215, d216, d214, _⟩ := hd
                        have e215 : ev (.tmp 215) = .slice (some ⟨pb, po, none⟩) n pc := d215
                        have e216 : ev (.tmp 216) = .int .i64 (i2 : Int) := d216
                        have e214 : ev (.tmp 214) = .bool false := d214
                        refine ⟨fun _ => ?_, fun hne => absurd e214 hne⟩
                        refine st_value (v := .pointer (some ⟨pb, po + i2, none⟩)) ?_ (Below.refl _ _) ?_
                        · simp [execOp, go_sem, e215, e216, hin]
                        · exact rfl
                      · intro ev W hf _ _ hst hd
                        obtain ⟨d217, d214, _⟩ := hd
                        have e217 : ev (.tmp 217) = .pointer (some ⟨pb, po + i2, none⟩) := d217
                        have e214 : ev (.tmp 214) = .bool false := d214
                        refine ⟨fun _ => ?_, fun hne => absurd e214 hne⟩
                        have q0 := Ext.cell hst HU1.out
                        refine st_value (v := .int .i64 (V i2)) ?_ (Below.refl _ _) ?_
                        · simp [execOp, go_sem, e217, q0]
                        · exact rfl
                      · intro ev W hf hcst _ hst hd
                        obtain ⟨d218, d214, _⟩ := hd
                        have e218 : ev (.tmp 218) = .int .i64 (V i2) := d218
                        have e214 : ev (.tmp 214) = .bool false := d214
                        refine ⟨fun _ => ?_, fun hne => absurd e214 hne⟩
                        refine st_value (v := .bool false) ?_ (Below.refl _ _) ?_
                        · simp [execOp, go_sem, e218, hcst, HVN.out]
                        · exact rfl
                      · intro ev W hf hcst _ hst hd
                        obtain ⟨d214, d219, _⟩ := hd
                        have e214 : ev (.tmp 214) = .bool false := d214
                        have e219 : ev (.tmp 219) = .bool false := d219
                        refine st_value (v := .bool false) ?_ (Below.refl _ _) ?_
                        · simp [execOp, go_sem, e214, e219, hcst]
                        · exact rfl
                    case restN =>
                      intro vs w3 hl hst hg
                      have HE3 := Lib.hid hst
                      have hus : vs = [.slice (some ⟨ab, ao, none⟩) n ca, .int .i64 (i2 : Int), .pointer (some ⟨ab, ao + i2, none⟩), .slice (some ⟨rb1, ro1, none⟩) n rc1, .int .i64 (j : Int), .pointer (some ⟨rb1, ro1 + j, none⟩), .int .i64 (-1152921504606846976), .bool false, .bool false, undef, undef, undef, undef, undef, undef, undef, undef, undef, undef, undef, undef, undef, undef, undef, undef, undef, undef, undef, undef, undef, undef, undef, .bool false, .bool false, .slice (some ⟨pb, po, none⟩) n pc, .int .i64 (i2 : Int), .pointer (some ⟨pb, po + i2, none⟩), .int .i64 (V i2), .bool false, .bool false] := list_of hl (fun i u hu => by
                        match i, hu with
                        | 0, hu => exact (congrArg some (hg 0 u hu)).symm
                        | 1, hu => exact (congrArg some (hg 1 u hu)).symm
                        | 2, hu => exact (congrArg some (hg 2 u hu)).symm
                        | 3, hu => exact (congrArg some (hg 3 u hu)).symm
                        | 4, hu => exact (congrArg some (hg 4 u hu)).symm
                        | 5, hu => exact (congrArg some (hg 5 u hu)).symm
                        | 6, hu => exact (congrArg some (hg 6 u hu)).symm
                        | 7, hu => exact (congrArg some (hg 7 u hu)).symm
                        | 8, hu => exact (congrArg some (hg 8 u hu)).symm
                        | 9, hu => exact (congrArg some (hg 9 u hu)).symm
                        | 10, hu => exact (congrArg some (hg 10 u hu)).symm
                        | 11, hu => exact (congrArg some (hg 11 u hu)).symm
                        | 12, hu => exact (congrArg some (hg 12 u hu)).symm
                        | 13, hu => exact (congrArg some (hg 13 u hu)).symm
                        | 14, hu => exact (congrArg some (hg 14 u hu)).symm
                        | 15, hu => exact (congrArg some (hg 15 u hu)).symm
                        | 16, hu => exact (congrArg some (hg 16 u hu)).symm
                        | 17, hu => exact (congrArg some (hg 17 u hu)).symm
                        | 18, hu => exact (congrArg some (hg 18 u hu)).symm
                        | 19, hu => exact (congrArg some (hg 19 u hu)).symm
                        | 20, hu => exact (congrArg some (hg 20 u hu)).symm
                        | 21, hu => exact (congrArg some (hg 21 u hu)).symm
                        | 22, hu => exact (congrArg some (hg 22 u hu)).symm
                        | 23, hu => exact (congrArg some (hg 23 u hu)).symm
                        | 24, hu => exact (congrArg some (hg 24 u hu)).symm
                        | 25, hu => exact (congrArg some (hg 25 u hu)).symm
                        | 26, hu => exact (congrArg some (hg 26 u hu)).symm
                        | 27, hu => exact (congrArg some (hg 27 u hu)).symm
                        | 28, hu => exact (congrArg some (hg 28 u hu)).symm
                        | 29, hu => exact (congrArg some (hg 29 u hu)).symm
                        | 30, hu => exact (congrArg some (hg 30 u hu)).symm
                        | 31, hu => exact (congrArg some (hg 31 u hu)).symm
                        | 32, hu => exact (congrArg some (hg 32 u hu)).symm
                        | 33, hu => exact (congrArg some (hg 33 u hu)).symm
                        | 34, hu => exact (congrArg some (hg 34 u hu)).symm
                        | 35, hu => exact (congrArg some (hg 35 u hu)).symm
                        | 36, hu => exact (congrArg some (hg 36 u hu)).symm
                        | 37, hu => exact (congrArg some (hg 37 u hu)).symm
                        | 38, hu => exact (congrArg some (hg 38 u hu)).symm
                        | 39, hu => exact (congrArg some (hg 39 u hu)).symm
                        | n + 40, hu => exact absurd (lt_len hu) (by rw [hl]; simp))
                      clear hg hst hl
                      subst hus
                      simp only [putAll, Act.put, List.dropLast, List.setIfInBounds_toArray, List.set_cons_zero, List.set_cons_succ]
                      go_wp2_with fail
                      go_meet
                      case rel => exact ⟨rfl, HE3.out⟩
                  | some a =>
                    have hab := HBA.out i2 hin j hjn a hAij
                    have hle := HPK.out.2.2 i2 j hin hjn a hAij
                    rw [hAij] at d2
                    have HD2 := Lib.hid (show wt.cell? ⟨rb1, ro1 + j, none⟩ = some (.int .i64 a) from d2)
                    have hqa := mul_bd3 (s := a) (q := q) (by omega) hb.2
                    rw [Int.mul_comm a q] at hqa
                    obtain ⟨qa, hqe⟩ : ∃ z, z = q * a := ⟨_, rfl⟩
                    rw [← hqe] at hqa hle
                    have HW1 := Lib.hid (show IntKind.i64.wrap (q * a) = qa from by rw [← hqe]; exact IntWalk.i64_in _ (by omega))
                    have HW2 := Lib.hid (show IntKind.i64.wrap (qa - p) = qa - p from IntWalk.i64_in _ (by omega))
                    have HW3 := Lib.hid (show IntKind.i64.wrap (qa - p + V j) = qa - p + V j from IntWalk.i64_in _ (by omega))
                    have HAN := Lib.hid (show (a != -1152921504606846976) = true from bne_iff_ne.2 (by omega))
                    have HLT := Lib.hid (show ¬ V i2 < qa - p + V j from by omega)
                    clear hAij hqe hle d1 d2 c0 c1 e1 e2 hvn
                    refine wp_region_stable [⟨[], none⟩, ⟨[], none⟩, ⟨[(0, 181), (1, 182)], none⟩, ⟨[(2, 183)], none⟩, ⟨[], none⟩, ⟨[(3, 184), (4, 185)], none⟩, ⟨[(5, 186)], none⟩, ⟨[(6, 187)], none⟩, ⟨[(7, 188)], none⟩, ⟨[(8, 189)], some (189, true)⟩, ⟨[(9, 190), (8, 189)], some (189, true)⟩, ⟨[(8, 189)], some (189, true)⟩, ⟨[(8, 189)], some (189, true)⟩, ⟨[(11, 192), (12, 193), (8, 189)], some (189, true)⟩, ⟨[(13, 194), (8, 189)], some (189, true)⟩, ⟨[(8, 189)], some (189, true)⟩, ⟨[(14, 195), (15, 196), (8, 189)], some (189, true)⟩, ⟨[(16, 197), (8, 189)], some (189, true)⟩, ⟨[(10, 191), (17, 198), (8, 189)], some (189, true)⟩, ⟨[(8, 189)], some (189, true)⟩, ⟨[(19, 200), (8, 189)], some (189, true)⟩, ⟨[(18, 199), (20, 201), (8, 189)], some (189, true)⟩, ⟨[(8, 189)], some (189, true)⟩, ⟨[(8, 189)], some (189, true)⟩, ⟨[(22, 203), (23, 204), (8, 189)], some (189, true)⟩, ⟨[(24, 205), (8, 189)], some (189, true)⟩, ⟨[(21, 202), (25, 206), (8, 189)], some (189, true)⟩, ⟨[(8, 189)], some (189, true)⟩, ⟨[(8, 189)], some (189, true)⟩, ⟨[(27, 208), (28, 209), (8, 189)], some (189, true)⟩, ⟨[(29, 210), (8, 189)], some (189, true)⟩, ⟨[(26, 207), (30, 211), (8, 189)], some (189, true)⟩, ⟨[(8, 189), (31, 212)], none⟩, ⟨[(32, 213)], none⟩, ⟨[(33, 214)], some (214, false)⟩, ⟨[(33, 214)], some (214, false)⟩, ⟨[(34, 215), (35, 216), (33, 214)], some (214, false)⟩, ⟨[(36, 217), (33, 214)], some (214, false)⟩, ⟨[(37, 218), (33, 214)], some (214, false)⟩, ⟨[(33, 214), (38, 219)], none⟩] (fun x y => Below x.heap.size x y) (MPat [MP.eq (.slice (some ⟨ab, ao, none⟩) n ca), MP.eq (.int .i64 (i2 : Int)), MP.eq (.pointer (some ⟨ab, ao + i2, none⟩)), MP.eq (.slice (some ⟨rb1, ro1, none⟩) n rc1), MP.eq (.int .i64 (j : Int)), MP.eq (.pointer (some ⟨rb1, ro1 + j, none⟩)), MP.eq (.int .i64 a), MP.eq (.bool true), MP.eq (.bool true), MP.eq (.pointer (some ⟨S, 1, none⟩)), MP.eq (.int .i64 q), MP.eq (.slice (some ⟨ab, ao, none⟩) n ca), MP.eq (.int .i64 (i2 : Int)), MP.eq (.pointer (some ⟨ab, ao + i2, none⟩)), MP.eq (.slice (some ⟨rb1, ro1, none⟩) n rc1), MP.eq (.int .i64 (j : Int)), MP.eq (.pointer (some ⟨rb1, ro1 + j, none⟩)), MP.eq (.int .i64 a), MP.eq (.int .i64 qa), MP.eq (.pointer (some ⟨S, 0, none⟩)), MP.eq (.int .i64 p), MP.eq (.int .i64 (qa - p)), MP.eq (.slice (some ⟨pb, po, none⟩) n pc), MP.eq (.int .i64 (j : Int)), MP.eq (.pointer (some ⟨pb, po + j, none⟩)), MP.eq (.int .i64 (V j)), MP.eq (.int .i64 (qa - p + V j)), MP.eq (.slice (some ⟨pb, po, none⟩) n pc), MP.eq (.int .i64 (i2 : Int)), MP.eq (.pointer (some ⟨pb, po + i2, none⟩)), MP.eq (.int .i64 (V i2)), MP.eq (.bool false), MP.eq (.bool false), MP.eq (.bool false), MP.eq (.slice (some ⟨pb, po, none⟩) n pc), MP.eq (.int .i64 (i2 : Int)), MP.eq (.pointer (some ⟨pb, po + i2, none⟩)), MP.eq (.int .i64 (V i2)), MP.eq (.bool false), MP.eq (.bool false)]) (by kernel_rfl) (fun _ _ _ h k => Ext.trans h k) (fun _ => Below.refl _ _) (fun x => (Below.refl x.heap.size x).drew) (MPat.mono _) (by kernel_rfl) ?obsS ?restS
                    case obsS =>
                      refine ⟨?_, ?_, ?_, ?_, ?_, ?_, ?_, ?_, ?_, ?_, ?_, ?_, ?_, ?_, ?_, ?_, ?_, ?_, ?_, ?_, ?_, ?_, ?_, ?_, ?_, ?_, ?_, ?_, ?_, ?_, ?_, ?_, ?_, ?_, ?_, ?_, ?_, ?_, ?_, ?_, trivial⟩
                      · intro ev W hf _ _ hst hd
                        have e0 : ev (.tmp 0) = .slice (some ⟨ab, ao, none⟩) n ca := hf 0 (by kernel_rfl)
                        refine st_value (v := .slice (some ⟨ab, ao, none⟩) n ca) ?_ (Below.refl _ _) ?_
                        · simp [execOp, go_sem, e0]
                        · exact rfl
                      · intro ev W hf _ _ hst hd
                        have e22 : ev (.tmp 22) = .int .i64 (i2 : Int) := hf 22 (by kernel_rfl)
                        refine st_value (v := .int .i64 (i2 : Int)) ?_ (Below.refl _ _) ?_
                        · simp [execOp, go_sem, e22]
                        · exact rfl
                      · intro ev W hf _ _ hst hd
                        obtain ⟨d181, d182, _⟩ := hd
                        have e181 : ev (.tmp 181) = .slice (some ⟨ab, ao, none⟩) n ca := d181
                        have e182 : ev (.tmp 182) = .int .i64 (i2 : Int) := d182
                        refine st_value (v := .pointer (some ⟨ab, ao + i2, none⟩)) ?_ (Below.refl _ _) ?_
                        · simp [execOp, go_sem, e181, e182, hin]
                        · exact rfl
                      · intro ev W hf _ _ hst hd
                        obtain ⟨d183, _⟩ := hd
                        have e183 : ev (.tmp 183) = .pointer (some ⟨ab, ao + i2, none⟩) := d183
                        have q0 := Ext.cell hst HD1.out
                        refine st_value (v := .slice (some ⟨rb1, ro1, none⟩) n rc1) ?_ (Below.refl _ _) ?_
                        · simp [execOp, go_sem, e183, q0]
                        · exact rfl
                      · intro ev W hf _ _ hst hd
                        have e25 : ev (.tmp 25) = .int .i64 (j : Int) := hf 25 (by kernel_rfl)
                        refine st_value (v := .int .i64 (j : Int)) ?_ (Below.refl _ _) ?_
                        · simp [execOp, go_sem, e25]
                        · exact rfl
                      · intro ev W hf _ _ hst hd
                        obtain ⟨d184, d185, _⟩ := hd
                        have e184 : ev (.tmp 184) = .slice (some ⟨rb1, ro1, none⟩) n rc1 := d184
                        have e185 : ev (.tmp 185) = .int .i64 (j : Int) := d185
                        refine st_value (v := .pointer (some ⟨rb1, ro1 + j, none⟩)) ?_ (Below.refl _ _) ?_
                        · simp [execOp, go_sem, e184, e185, hjn]
                        · exact rfl
                      · intro ev W hf _ _ hst hd
                        obtain ⟨d186, _⟩ := hd
                        have e186 : ev (.tmp 186) = .pointer (some ⟨rb1, ro1 + j, none⟩) := d186
                        have q0 := Ext.cell hst HD2.out
                        refine st_value (v := .int .i64 a) ?_ (Below.refl _ _) ?_
                        · simp [execOp, go_sem, e186, q0]
                        · exact rfl
                      · intro ev W hf hcst _ hst hd
                        obtain ⟨d187, _⟩ := hd
                        have e187 : ev (.tmp 187) = .int .i64 a := d187
                        refine st_value (v := .bool true) ?_ (Below.refl _ _) ?_
                        · simp [execOp, go_sem, e187, hcst, HAN.out]
                        · exact rfl
                      · intro ev W hf _ _ hst hd
                        obtain ⟨d188, _⟩ := hd
                        have e188 : ev (.tmp 188) = .bool true := d188
                        refine st_value (v := .bool true) ?_ (Below.refl _ _) ?_
                        · simp [execOp, go_sem, e188]
                        · exact rfl
                      · intro ev W hf _ _ hst hd
                        obtain ⟨d189, _⟩ := hd
                        have e7 : ev (.tmp 7) = .pointer (some ⟨S, 0, none⟩) := hf 7 (by kernel_rfl)
                        have e189 : ev (.tmp 189) = .bool true := d189
                        refine ⟨fun _ => ?_, fun hne => absurd e189 hne⟩
                        refine st_value (v := .pointer (some ⟨S, 1, none⟩)) ?_ (Below.refl _ _) ?_
                        · simp [execOp, go_sem, e7]
                        · exact rfl
                      · intro ev W hf _ _ hst hd
                        obtain ⟨d190, d189, _⟩ := hd
                        have e190 : ev (.tmp 190) = .pointer (some ⟨S, 1, none⟩) := d190
                        have e189 : ev (.tmp 189) = .bool true := d189
                        refine ⟨fun _ => ?_, fun hne => absurd e189 hne⟩
                        have q0 := Ext.cell hst HC1q.out
                        refine st_value (v := .int .i64 q) ?_ (Below.refl _ _) ?_
                        · simp [execOp, go_sem, e190, q0]
                        · exact rfl
                      · intro ev W hf _ _ hst hd
                        obtain ⟨d189, _⟩ := hd
                        have e0 : ev (.tmp 0) = .slice (some ⟨ab, ao, none⟩) n ca := hf 0 (by kernel_rfl)
                        have e189 : ev (.tmp 189) = .bool true := d189
                        refine ⟨fun _ => ?_, fun hne => absurd e189 hne⟩
                        refine st_value (v := .slice (some ⟨ab, ao, none⟩) n ca) ?_ (Below.refl _ _) ?_
                        · simp [execOp, go_sem, e0]
                        · exact rfl
                      · intro ev W hf _ _ hst hd
                        obtain ⟨d189, _⟩ := hd
                        have e22 : ev (.tmp 22) = .int .i64 (i2 : Int) := hf 22 (by kernel_rfl)
                        have e189 : ev (.tmp 189) = .bool true := d189
                        refine ⟨fun _ => ?_, fun hne => absurd e189 hne⟩
                        refine st_value (v := .int .i64 (i2 : Int)) ?_ (Below.refl _ _) ?_
                        · simp [execOp, go_sem, e22]
                        · exact rfl
                      · intro ev W hf _ _ hst hd
                        obtain ⟨d192, d193, d189, _⟩ := hd
                        have e192 : ev (.tmp 192) = .slice (some ⟨ab, ao, none⟩) n ca := d192
                        have e193 : ev (.tmp 193) = .int .i64 (i2 : Int) := d193
                        have e189 : ev (.tmp 189) = .bool true := d189
                        refine ⟨fun _ => ?_, fun hne => absurd e189 hne⟩
                        refine st_value (v := .pointer (some ⟨ab, ao + i2, none⟩)) ?_ (Below.refl _ _) ?_
                        · simp [execOp, go_sem, e192, e193, hin]
                        · exact rfl
                      · intro ev W hf _ _ hst hd
                        obtain ⟨d194, d189, _⟩ := hd
                        have e194 : ev (.tmp 194) = .pointer (some ⟨ab, ao + i2, none⟩) := d194
                        have e189 : ev (.tmp 189) = .bool true := d189
                        refine ⟨fun _ => ?_, fun hne => absurd e189 hne⟩
                        have q0 := Ext.cell hst HD1.out
                        refine st_value (v := .slice (some ⟨rb1, ro1, none⟩) n rc1) ?_ (Below.refl _ _) ?_
                        · simp [execOp, go_sem, e194, q0]
                        · exact rfl
                      · intro ev W hf _ _ hst hd
                        obtain ⟨d189, _⟩ := hd
                        have e25 : ev (.tmp 25) = .int .i64 (j : Int) := hf 25 (by kernel_rfl)
                        have e189 : ev (.tmp 189) = .bool true := d189
                        refine ⟨fun _ => ?_, fun hne => absurd e189 hne⟩
                        refine st_value (v := .int .i64 (j : Int)) ?_ (Below.refl _ _) ?_
                        · simp [execOp, go_sem, e25]
                        · exact rfl
                      · intro ev W hf _ _ hst hd
                        obtain ⟨d195, d196, d189, _⟩ := hd
                        have e195 : ev (.tmp 195) = .slice (some ⟨rb1, ro1, none⟩) n rc1 := d195
                        have e196 : ev (.tmp 196) = .int .i64 (j : Int) := d196
                        have e189 : ev (.tmp 189) = .bool true := d189
                        refine ⟨fun _ => ?_, fun hne => absurd e189 hne⟩
                        refine st_value (v := .pointer (some ⟨rb1, ro1 + j, none⟩)) ?_ (Below.refl _ _) ?_
                        · simp [execOp, go_sem, e195, e196, hjn]
                        · exact rfl
                      · intro ev W hf _ _ hst hd
                        obtain ⟨d197, d189, _⟩ := hd
                        have e197 : ev (.tmp 197) = .pointer (some ⟨rb1, ro1 + j, none⟩) := d197
                        have e189 : ev (.tmp 189) = .bool true := d189
                        refine ⟨fun _ => ?_, fun hne => absurd e189 hne⟩
                        have q0 := Ext.cell hst HD2.out
                        refine st_value (v := .int .i64 a) ?_ (Below.refl _ _) ?_
                        · simp [execOp, go_sem, e197, q0]
                        · exact rfl
                      · intro ev W hf _ _ hst hd
                        obtain ⟨d191, d198, d189, _⟩ := hd
                        have e191 : ev (.tmp 191) = .int .i64 q := d191
                        have e198 : ev (.tmp 198) = .int .i64 a := d198
                        have e189 : ev (.tmp 189) = .bool true := d189
                        refine ⟨fun _ => ?_, fun hne => absurd e189 hne⟩
                        refine st_value (v := .int .i64 qa) ?_ (Below.refl _ _) ?_
                        · simp [execOp, go_sem, e191, e198, HW1.out]
                        · exact rfl
                      · intro ev W hf _ _ hst hd
                        obtain ⟨d189, _⟩ := hd
                        have e7 : ev (.tmp 7) = .pointer (some ⟨S, 0, none⟩) := hf 7 (by kernel_rfl)
                        have e189 : ev (.tmp 189) = .bool true := d189
                        refine ⟨fun _ => ?_, fun hne => absurd e189 hne⟩
                        refine st_value (v := .pointer (some ⟨S, 0, none⟩)) ?_ (Below.refl _ _) ?_
                        · simp [execOp, go_sem, e7]
                        · exact rfl
                      · intro ev W hf _ _ hst hd
                        obtain ⟨d200, d189, _⟩ := hd
                        have e200 : ev (.tmp 200) = .pointer (some ⟨S, 0, none⟩) := d200
                        have e189 : ev (.tmp 189) = .bool true := d189
                        refine ⟨fun _ => ?_, fun hne => absurd e189 hne⟩
                        have q0 := Ext.cell hst HC0q.out
                        refine st_value (v := .int .i64 p) ?_ (Below.refl _ _) ?_
                        · simp [execOp, go_sem, e200, q0]
                        · exact rfl
                      · intro ev W hf _ _ hst hd
                        obtain ⟨d199, d201, d189, _⟩ := hd
                        have e199 : ev (.tmp 199) = .int .i64 qa := d199
                        have e201 : ev (.tmp 201) = .int .i64 p := d201
                        have e189 : ev (.tmp 189) = .bool true := d189
                        refine ⟨fun _ => ?_, fun hne => absurd e189 hne⟩
                        refine st_value (v := .int .i64 (qa - p)) ?_ (Below.refl _ _) ?_
                        · simp [execOp, go_sem, e199, e201, HW2.out]
                        · exact rfl
                      · intro ev W hf _ _ hst hd
                        obtain ⟨d189, _⟩ := hd
                        have e9 : ev (.tmp 9) = .slice (some ⟨pb, po, none⟩) n pc := hf 9 (by kernel_rfl)
                        have e189 : ev (.tmp 189) = .bool true := d189
                        refine ⟨fun _ => ?_, fun hne => absurd e189 hne⟩
                        refine st_value (v := .slice (some ⟨pb, po, none⟩) n pc) ?_ (Below.refl _ _) ?_
                        · simp [execOp, go_sem, e9]
                        · exact rfl
                      · intro ev W hf _ _ hst hd
                        obtain ⟨d189, _⟩ := hd
                        have e25 : ev (.tmp 25) = .int .i64 (j : Int) := hf 25 (by kernel_rfl)
                        have e189 : ev (.tmp 189) = .bool true := d189
                        refine ⟨fun _ => ?_, fun hne => absurd e189 hne⟩
                        refine st_value (v := .int .i64 (j : Int)) ?_ (Below.refl _ _) ?_
                        · simp [execOp, go_sem, e25]
                        · exact rfl
                      · intro ev W hf _ _ hst hd
                        obtain ⟨d203, d204, d189, _⟩ := hd
                        have e203 : ev (.tmp 203) = .slice (some ⟨pb, po, none⟩) n pc := d203
                        have e204 : ev (.tmp 204) = .int .i64 (j : Int) := d204
                        have e189 : ev (.tmp 189) = .bool true := d189
                        refine ⟨fun _ => ?_, fun hne => absurd e189 hne⟩
                        refine st_value (v := .pointer (some ⟨pb, po + j, none⟩)) ?_ (Below.refl _ _) ?_
                        · simp [execOp, go_sem, e203, e204, hjn]
                        · exact rfl
                      · intro ev W hf _ _ hst hd
                        obtain ⟨d205, d189, _⟩ := hd
                        have e205 : ev (.tmp 205) = .pointer (some ⟨pb, po + j, none⟩) := d205
                        have e189 : ev (.tmp 189) = .bool true := d189
                        refine ⟨fun _ => ?_, fun hne => absurd e189 hne⟩
                        have q0 := Ext.cell hst HU2.out
                        refine st_value (v := .int .i64 (V j)) ?_ (Below.refl _ _) ?_
                        · simp [execOp, go_sem, e205, q0]
                        · exact rfl
                      · intro ev W hf _ _ hst hd
                        obtain ⟨d202, d206, d189, _⟩ := hd
                        have e202 : ev (.tmp 202) = .int .i64 (qa - p) := d202
                        have e206 : ev (.tmp 206) = .int .i64 (V j) := d206
                        have e189 : ev (.tmp 189) = .bool true := d189
                        refine ⟨fun _ => ?_, fun hne => absurd e189 hne⟩
                        refine st_value (v := .int .i64 (qa - p + V j)) ?_ (Below.refl _ _) ?_
                        · simp [execOp, go_sem, e202, e206, HW3.out]
                        · exact rfl
                      · intro ev W hf _ _ hst hd
                        obtain ⟨d189, _⟩ := hd
                        have e9 : ev (.tmp 9) = .slice (some ⟨pb, po, none⟩) n pc := hf 9 (by kernel_rfl)
                        have e189 : ev (.tmp 189) = .bool true := d189
                        refine ⟨fun _ => ?_, fun hne => absurd e189 hne⟩
                        refine st_value (v := .slice (some ⟨pb, po, none⟩) n pc) ?_ (Below.refl _ _) ?_
                        · simp [execOp, go_sem, e9]
                        · exact rfl
                      · intro ev W hf _ _ hst hd
                        obtain ⟨d189, _⟩ := hd
                        have e22 : ev (.tmp 22) = .int .i64 (i2 : Int) := hf 22 (by kernel_rfl)
                        have e189 : ev (.tmp 189) = .bool true := d189
                        refine ⟨fun _ => ?_, fun hne => absurd e189 hne⟩
                        refine st_value (v := .int .i64 (i2 : Int)) ?_ (Below.refl _ _) ?_
                        · simp [execOp, go_sem, e22]
                        · exact rfl
                      · intro ev W hf _ _ hst hd
                        obtain ⟨d208, d209, d189, _⟩ := hd
                        have e208 : ev (.tmp 208) = .slice (some ⟨pb, po, none⟩) n pc := d208
                        have e209 : ev (.tmp 209) = .int .i64 (i2 : Int) := d209
                        have e189 : ev (.tmp 189) = .bool true := d189
                        refine ⟨fun _ => ?_, fun hne => absurd e189 hne⟩
                        refine st_value (v := .pointer (some ⟨pb, po + i2, none⟩)) ?_ (Below.refl _ _) ?_
                        · simp [execOp, go_sem, e208, e209, hin]
                        · exact rfl
                      · intro ev W hf _ _ hst hd
                        obtain ⟨d210, d189, _⟩ := hd
                        have e210 : ev (.tmp 210) = .pointer (some ⟨pb, po + i2, none⟩) := d210
                        have e189 : ev (.tmp 189) = .bool true := d189
                        refine ⟨fun _ => ?_, fun hne => absurd e189 hne⟩
                        have q0 := Ext.cell hst HU1.out
                        refine st_value (v := .int .i64 (V i2)) ?_ (Below.refl _ _) ?_
                        · simp [execOp, go_sem, e210, q0]
                        · exact rfl
                      · intro ev W hf _ _ hst hd
                        obtain ⟨d207, d211, d189, _⟩ := hd
                        have e207 : ev (.tmp 207) = .int .i64 (qa - p + V j) := d207
                        have e211 : ev (.tmp 211) = .int .i64 (V i2) := d211
                        have e189 : ev (.tmp 189) = .bool true := d189
                        refine ⟨fun _ => ?_, fun hne => absurd e189 hne⟩
                        refine st_value (v := .bool false) ?_ (Below.refl _ _) ?_
                        · simp [execOp, go_sem, e207, e211, HLT.out]
                        · exact rfl
                      · intro ev W hf hcst _ hst hd
                        obtain ⟨d189, d212, _⟩ := hd
                        have e189 : ev (.tmp 189) = .bool true := d189
                        have e212 : ev (.tmp 212) = .bool false := d212
                        refine st_value (v := .bool false) ?_ (Below.refl _ _) ?_
                        · simp [execOp, go_sem, e189, e212, hcst]
                        · exact rfl
                      · intro ev W hf _ _ hst hd
                        obtain ⟨d213, _⟩ := hd
                        have e213 : ev (.tmp 213) = .bool false := d213
                        refine st_value (v := .bool false) ?_ (Below.refl _ _) ?_
                        · simp [execOp, go_sem, e213]
                        · exact rfl
                      · intro ev W hf _ _ hst hd
                        obtain ⟨d214, _⟩ := hd
                        have e9 : ev (.tmp 9) = .slice (some ⟨pb, po, none⟩) n pc := hf 9 (by kernel_rfl)
                        have e214 : ev (.tmp 214) = .bool false := d214
                        refine ⟨fun _ => ?_, fun hne => absurd e214 hne⟩
                        refine st_value (v := .slice (some ⟨pb, po, none⟩) n pc) ?_ (Below.refl _ _) ?_
                        · simp [execOp, go_sem, e9]
                        · exact rfl
                      · intro ev W hf _ _ hst hd
                        obtain ⟨d214, _⟩ := hd
                        have e22 : ev (.tmp 22) = .int .i64 (i2 : Int) := hf 22 (by kernel_rfl)
                        have e214 : ev (.tmp 214) = .bool false := d214
                        refine ⟨fun _ => ?_, fun hne => absurd e214 hne⟩
                        refine st_value (v := .int .i64 (i2 : Int)) ?_ (Below.refl _ _) ?_
                        · simp [execOp, go_sem, e22]
                        · exact rfl
                      · intro ev W hf _ _ hst hd
                        obtain ⟨d215, d216, d214, _⟩ := hd
                        have e215 : ev (.tmp 215) = .slice (some ⟨pb, po, none⟩) n pc := d215
                        have e216 : ev (.tmp 216) = .int .i64 (i2 : Int) := d216
                        have e214 : ev (.tmp 214) = .bool false := d214
                        refine ⟨fun _ => ?_, fun hne => absurd e214 hne⟩
                        refine st_value (v := .pointer (some ⟨pb, po + i2, none⟩)) ?_ (Below.refl _ _) ?_
                        · simp [execOp, go_sem, e215, e216, hin]
                        · exact rfl
                      · intro ev W hf _ _ hst hd
                        obtain ⟨d217, d214, _⟩ := hd
                        have e217 : ev (.tmp 217) = .pointer (some ⟨pb, po + i2, none⟩) := d217
                        have e214 : ev (.tmp 214) = .bool false := d214
                        refine ⟨fun _ => ?_, fun hne => absurd e214 hne⟩
                        have q0 := Ext.cell hst HU1.out
                        refine st_value (v := .int .i64 (V i2)) ?_ (Below.refl _ _) ?_
                        · simp [execOp, go_sem, e217, q0]
                        · exact rfl
                      · intro ev W hf hcst _ hst hd
                        obtain ⟨d218, d214, _⟩ := hd
                        have e218 : ev (.tmp 218) = .int .i64 (V i2) := d218
                        have e214 : ev (.tmp 214) = .bool false := d214
                        refine ⟨fun _ => ?_, fun hne => absurd e214 hne⟩
                        refine st_value (v := .bool false) ?_ (Below.refl _ _) ?_
                        · simp [execOp, go_sem, e218, hcst, HVN.out]
                        · exact rfl
                      · intro ev W hf hcst _ hst hd
                        obtain ⟨d214, d219, _⟩ := hd
                        have e214 : ev (.tmp 214) = .bool false := d214
                        have e219 : ev (.tmp 219) = .bool false := d219
                        refine st_value (v := .bool false) ?_ (Below.refl _ _) ?_
                        · simp [execOp, go_sem, e214, e219, hcst]
                        · exact rfl
                    case restS =>
                      intro vs w3 hl hst hg
                      have HE3 := Lib.hid hst
                      have hus : vs = [.slice (some ⟨ab, ao, none⟩) n ca, .int .i64 (i2 : Int), .pointer (some ⟨ab, ao + i2, none⟩), .slice (some ⟨rb1, ro1, none⟩) n rc1, .int .i64 (j : Int), .pointer (some ⟨rb1, ro1 + j, none⟩), .int .i64 a, .bool true, .bool true, .pointer (some ⟨S, 1, none⟩), .int .i64 q, .slice (some ⟨ab, ao, none⟩) n ca, .int .i64 (i2 : Int), .pointer (some ⟨ab, ao + i2, none⟩), .slice (some ⟨rb1, ro1, none⟩) n rc1, .int .i64 (j : Int), .pointer (some ⟨rb1, ro1 + j, none⟩), .int .i64 a, .int .i64 qa, .pointer (some ⟨S, 0, none⟩), .int .i64 p, .int .i64 (qa - p), .slice (some ⟨pb, po, none⟩) n pc, .int .i64 (j : Int), .pointer (some ⟨pb, po + j, none⟩), .int .i64 (V j), .int .i64 (qa - p + V j), .slice (some ⟨pb, po, none⟩) n pc, .int .i64 (i2 : Int), .pointer (some ⟨pb, po + i2, none⟩), .int .i64 (V i2), .bool false, .bool false, .bool false, .slice (some ⟨pb, po, none⟩) n pc, .int .i64 (i2 : Int), .pointer (some ⟨pb, po + i2, none⟩), .int .i64 (V i2), .bool false, .bool false] := list_of hl (fun i u hu => by
                        match i, hu with
                        | 0, hu => exact (congrArg some (hg 0 u hu)).symm
                        | 1, hu => exact (congrArg some (hg 1 u hu)).symm
                        | 2, hu => exact (congrArg some (hg 2 u hu)).symm
                        | 3, hu => exact (congrArg some (hg 3 u hu)).symm
                        | 4, hu => exact (congrArg some (hg 4 u hu)).symm
                        | 5, hu => exact (congrArg some (hg 5 u hu)).symm
                        | 6, hu => exact (congrArg some (hg 6 u hu)).symm
                        | 7, hu => exact (congrArg some (hg 7 u hu)).symm
                        | 8, hu => exact (congrArg some (hg 8 u hu)).symm
                        | 9, hu => exact (congrArg some (hg 9 u hu)).symm
                        | 10, hu => exact (congrArg some (hg 10 u hu)).symm
                        | 11, hu => exact (congrArg some (hg 11 u hu)).symm
                        | 12, hu => exact (congrArg some (hg 12 u hu)).symm
                        | 13, hu => exact (congrArg some (hg 13 u hu)).symm
                        | 14, hu => exact (congrArg some (hg 14 u hu)).symm
                        | 15, hu => exact (congrArg some (hg 15 u hu)).symm
                        | 16, hu => exact (congrArg some (hg 16 u hu)).symm
                        | 17, hu => exact (congrArg some (hg 17 u hu)).symm
                        | 18, hu => exact (congrArg some (hg 18 u hu)).symm
                        | 19, hu => exact (congrArg some (hg 19 u hu)).symm
                        | 20, hu => exact (congrArg some (hg 20 u hu)).symm
                        | 21, hu => exact (congrArg some (hg 21 u hu)).symm
                        | 22, hu => exact (congrArg some (hg 22 u hu)).symm
                        | 23, hu => exact (congrArg some (hg 23 u hu)).symm
                        | 24, hu => exact (congrArg some (hg 24 u hu)).symm
                        | 25, hu => exact (congrArg some (hg 25 u hu)).symm
                        | 26, hu => exact (congrArg some (hg 26 u hu)).symm
                        | 27, hu => exact (congrArg some (hg 27 u hu)).symm
                        | 28, hu => exact (congrArg some (hg 28 u hu)).symm
                        | 29, hu => exact (congrArg some (hg 29 u hu)).symm
                        | 30, hu => exact (congrArg some (hg 30 u hu)).symm
                        | 31, hu => exact (congrArg some (hg 31 u hu)).symm
                        | 32, hu => exact (congrArg some (hg 32 u hu)).symm
                        | 33, hu => exact (congrArg some (hg 33 u hu)).symm
                        | 34, hu => exact (congrArg some (hg 34 u hu)).symm
                        | 35, hu => exact (congrArg some (hg 35 u hu)).symm
                        | 36, hu => exact (congrArg some (hg 36 u hu)).symm
                        | 37, hu => exact (congrArg some (hg 37 u hu)).symm
                        | 38, hu => exact (congrArg some (hg 38 u hu)).symm
                        | 39, hu => exact (congrArg some (hg 39 u hu)).symm
                        | n + 40, hu => exact absurd (lt_len hu) (by rw [hl]; simp))
                      clear hg hst hl
                      subst hus
                      simp only [putAll, Act.put, List.dropLast, List.setIfInBounds_toArray, List.set_cons_zero, List.set_cons_succ]
                      go_wp2_with fail
                      go_meet
                      case rel => exact ⟨rfl, HE3.out⟩
                case rest =>
                  obtain ⟨rfl, hEc⟩ := hcut
                  have HEc := Lib.hid hEc
                  clear hEc d1 d2 c0 c1 e1 e2 n1 n2 n5 n6 hv1 hv2 hvn
                  have d3 := Ext.cell HEc.out HD3.out
                  have d4 := Ext.cell HEc.out HD4.out
                  have n3 := cell_lt d3
                  have n4 := cell_lt d4
                  obtain ⟨zt, hzt⟩ : ∃ zt, zt = val (AF j i2) := ⟨_, rfl⟩
                  rw [show iv (AF j i2) = .int .i64 zt from by rw [hzt]] at d4
                  have HZT := Lib.hid hzt
                  clear hzt
                  have HRX := Lib.hid (ownsRow_ext HR1.out (Ext.trans HEc.out (Ext.alloc (Ext.refl wc) (.cells #[.int .i64 zt] 3))))
                  have HOX := Lib.hid (ownsRow_ext HR2.out (Ext.trans HEc.out (Ext.alloc (Ext.refl wc) (.cells #[.int .i64 zt] 3))))
                  have hwc := HEc.out.size
                  go_wp2_with (at_builtin; (refine wpList_append_own_at _ rfl _ _ 30 rfl wq.heap.size 3 k0 (.int .i64 0) 1 8 Try.underlying30 HK.out HK0.out HK1.out HK2.out rfl (by decide) _ _ _ rfl HRX.out ⟨wc.heap.size, 0, none⟩ 1 1 [.int .i64 zt] rfl rfl (fun j u h => cell_one_new wc _ 3 j u h) (by simp [Value.oneCell']) (by unfold maxLen; omega) (by omega) (by simp; omega) ?_; intro v5 wy hown5 hgrow5 hnil5 hat5; have HRY := Lib.hid hown5; have HG5 := Lib.hid hgrow5; have HA5 := Lib.hid hat5; clear hown5 hgrow5 hnil5 hat5))
                  obtain ⟨a5, c5, rfl⟩ := own_slice HRY.out
                  have HOY := Lib.hid (own_keep2 HOX.out (fun g hg e => HR3.out g hg e) HG5.out)
                  have HAPY := Lib.hid (apart_grow (u' := .slice a5 (j + 1) c5) HR3.out (fun g hg => own_lt HOX.out hg) HA5.out)
                  have HEY := Lib.hid (show Ext wq wy from Below.trans (Ext.trans HEt.out (Ext.trans HEc.out (Ext.alloc (Ext.refl wc) (.cells #[.int .i64 zt] 3)))) (own_below HRX.out HG5.out (by simp; omega)))
                  have HEV := Lib.hid (Ext.trans HEr.out (Ext.trans HEq.out HEY.out))
                  obtain ⟨si, hsi0⟩ : ∃ si, si = (i2 + tn) % n := ⟨_, rfl⟩
                  obtain ⟨sj, hsj0⟩ : ∃ sj, sj = (j + tn) % n := ⟨_, rfl⟩
                  have hsi : si < n := by rw [hsi0]; exact Nat.mod_lt _ (by omega)
                  have hsj : sj < n := by rw [hsj0]; exact Nat.mod_lt _ (by omega)
                  have HW5 := Lib.hid (show IntKind.i64.wrap ((i2 : Int) + (tn : Int)) = (i2 : Int) + (tn : Int) from IntWalk.i64_in _ (by omega))
                  have HW13 := Lib.hid (show IntKind.i64.wrap ((j : Int) + (tn : Int)) = (j : Int) + (tn : Int) from IntWalk.i64_in _ (by omega))
                  have HR7 := Lib.hid (show Int.tmod ((i2 : Int) + (tn : Int)) (n : Int) = (si : Int) from by rw [hsi0, ← tmod_nat (by omega)]; rfl)
                  have HR15 := Lib.hid (show Int.tmod ((j : Int) + (tn : Int)) (n : Int) = (sj : Int) from by rw [hsj0, ← tmod_nat (by omega)]; rfl)
                  have HN0 := Lib.hid (show ¬ n = 0 from by omega)
                  have HWS := Lib.hid (show IntKind.i64.wrap (si : Int) = (si : Int) from IntWalk.i64_in _ (by omega))
                  have HWS2 := Lib.hid (show IntKind.i64.wrap (sj : Int) = (sj : Int) from IntWalk.i64_in _ (by omega))
                  have HWT := Lib.hid (show IntKind.i64.wrap (tn : Int) = (tn : Int) from IntWalk.i64_in _ (by omega))
                  obtain ⟨u3, cu3, ⟨rb3, ro3, rc3, rfl, _, _, hrow3⟩⟩ := HMA.out si hsi
                  have HQ1 := Lib.hid (Ext.cell HEV.out cu3)
                  have HQ2 := Lib.hid (Ext.cell HEV.out (hrow3 sj hsj))
                  have HZS := Lib.hid (show ep (AF si sj) (some (0 : Int)) = rotF n tn (0 : Int) AF i2 j from by rw [hsi0, hsj0]; rfl)
                  have HPL := Lib.hid (fun W => (show Calls Try.prog 12 #[iv (AF si sj), .int .i64 (0 : Int)] W _ from lplus_c (AF si sj) (some (0 : Int)) W ((HBA.out si hsi sj hsj).mono (by unfold KB; omega)) (fun y hy => by injection hy with hy; subst hy; unfold KB; omega)))
                  generalize AF si sj = zs at *
                  clear hsi0 hsj0 cu3 hrow3 d3 d4 n3 n4 hwc
                  refine (wpIn_wide (n := 9)).1 ?_
                  refine wpIn_region_stable_last2 Open.wide [⟨[], none⟩, ⟨[], none⟩, ⟨[], none⟩, ⟨[], none⟩, ⟨[(3, 234)], none⟩, ⟨[(2, 233), (4, 235)], none⟩, ⟨[], none⟩, ⟨[(5, 236), (6, 237)], none⟩, ⟨[(1, 232), (7, 238)], none⟩, ⟨[(8, 239)], none⟩, ⟨[], none⟩, ⟨[], none⟩, ⟨[(11, 242)], none⟩, ⟨[(10, 241), (12, 243)], none⟩, ⟨[], none⟩, ⟨[(13, 244), (14, 245)], none⟩, ⟨[(9, 240), (15, 246)], none⟩, ⟨[(16, 247)], none⟩, ⟨[], none⟩, ⟨[(17, 248), (18, 249)], none⟩, ⟨[(19, 250)], none⟩] (fun x y => Below x.heap.size x y) (MPat [MP.eq (.slice oa j oc), MP.eq (.slice (some ⟨ab, ao, none⟩) n ca), MP.eq (.int .i64 (i2 : Int)), MP.eq (.int .u8 (tn : Int)), MP.eq (.int .i64 (tn : Int)), MP.eq (.int .i64 ((i2 : Int) + (tn : Int))), MP.eq (.int .i64 (n : Int)), MP.eq (.int .i64 (si : Int)), MP.eq (.pointer (some ⟨ab, ao + si, none⟩)), MP.eq (.slice (some ⟨rb3, ro3, none⟩) n rc3), MP.eq (.int .i64 (j : Int)), MP.eq (.int .u8 (tn : Int)), MP.eq (.int .i64 (tn : Int)), MP.eq (.int .i64 ((j : Int) + (tn : Int))), MP.eq (.int .i64 (n : Int)), MP.eq (.int .i64 (sj : Int)), MP.eq (.pointer (some ⟨rb3, ro3 + sj, none⟩)), MP.eq (iv zs), MP.eq (.int .i64 (0 : Int)), MP.eq (iv (ep zs (some (0 : Int)))), MP.one wy.heap.size (iv (ep zs (some (0 : Int))))]) rfl (by kernel_rfl) (fun _ _ _ h k => Ext.trans h k) (fun _ => Below.refl _ _) (fun x => (Below.refl x.heap.size x).drew) (MPat.mono _) (by kernel_rfl) (by kernel_rfl) (by kernel_rfl) (by kernel_rfl) (by kernel_rfl) (by kernel_rfl) ?obsF ?restF
                  case obsF =>
                    refine ⟨?_, ?_, ?_, ?_, ?_, ?_, ?_, ?_, ?_, ?_, ?_, ?_, ?_, ?_, ?_, ?_, ?_, ?_, ?_, ?_, ?_, trivial⟩
                    · intro ev W hf _ _ hst hd
                      have e24 : ev (.tmp 24) = .slice oa j oc := hf 24 (by kernel_rfl)
                      refine st_value (v := .slice oa j oc) ?_ (Below.refl _ _) ?_
                      · simp [execOp, go_sem, e24]
                      · exact rfl
                    · intro ev W hf _ _ hst hd
                      have e0 : ev (.tmp 0) = .slice (some ⟨ab, ao, none⟩) n ca := hf 0 (by kernel_rfl)
                      refine st_value (v := .slice (some ⟨ab, ao, none⟩) n ca) ?_ (Below.refl _ _) ?_
                      · simp [execOp, go_sem, e0]
                      · exact rfl
                    · intro ev W hf _ _ hst hd
                      have e22 : ev (.tmp 22) = .int .i64 (i2 : Int) := hf 22 (by kernel_rfl)
                      refine st_value (v := .int .i64 (i2 : Int)) ?_ (Below.refl _ _) ?_
                      · simp [execOp, go_sem, e22]
                      · exact rfl
                    · intro ev W hf _ _ hst hd
                      have e2 : ev (.tmp 2) = .int .u8 (tn : Int) := hf 2 (by kernel_rfl)
                      refine st_value (v := .int .u8 (tn : Int)) ?_ (Below.refl _ _) ?_
                      · simp [execOp, go_sem, e2]
                      · exact rfl
                    · intro ev W hf _ _ hst hd
                      obtain ⟨d234, _⟩ := hd
                      have e234 : ev (.tmp 234) = .int .u8 (tn : Int) := d234
                      refine st_value (v := .int .i64 (tn : Int)) ?_ (Below.refl _ _) ?_
                      · simp [execOp, go_sem, e234, HWT.out]
                      · exact rfl
                    · intro ev W hf _ _ hst hd
                      obtain ⟨d233, d235, _⟩ := hd
                      have e233 : ev (.tmp 233) = .int .i64 (i2 : Int) := d233
                      have e235 : ev (.tmp 235) = .int .i64 (tn : Int) := d235
                      refine st_value (v := .int .i64 ((i2 : Int) + (tn : Int))) ?_ (Below.refl _ _) ?_
                      · simp [execOp, go_sem, e233, e235, HW5.out]
                      · exact rfl
                    · intro ev W hf _ _ hst hd
                      have e13 : ev (.tmp 13) = .int .i64 (n : Int) := hf 13 (by kernel_rfl)
                      refine st_value (v := .int .i64 (n : Int)) ?_ (Below.refl _ _) ?_
                      · simp [execOp, go_sem, e13]
                      · exact rfl
                    · intro ev W hf _ _ hst hd
                      obtain ⟨d236, d237, _⟩ := hd
                      have e236 : ev (.tmp 236) = .int .i64 ((i2 : Int) + (tn : Int)) := d236
                      have e237 : ev (.tmp 237) = .int .i64 (n : Int) := d237
                      refine st_value (v := .int .i64 (si : Int)) ?_ (Below.refl _ _) ?_
                      · simp [execOp, go_sem, e236, e237, HR7.out, HN0.out, HWS.out]
                      · exact rfl
                    · intro ev W hf _ _ hst hd
                      obtain ⟨d232, d238, _⟩ := hd
                      have e232 : ev (.tmp 232) = .slice (some ⟨ab, ao, none⟩) n ca := d232
                      have e238 : ev (.tmp 238) = .int .i64 (si : Int) := d238
                      refine st_value (v := .pointer (some ⟨ab, ao + si, none⟩)) ?_ (Below.refl _ _) ?_
                      · simp [execOp, go_sem, e232, e238, hsi]
                      · exact rfl
                    · intro ev W hf _ _ hst hd
                      obtain ⟨d239, _⟩ := hd
                      have e239 : ev (.tmp 239) = .pointer (some ⟨ab, ao + si, none⟩) := d239
                      have q0 := Ext.cell hst HQ1.out
                      refine st_value (v := .slice (some ⟨rb3, ro3, none⟩) n rc3) ?_ (Below.refl _ _) ?_
                      · simp [execOp, go_sem, e239, q0]
                      · exact rfl
                    · intro ev W hf _ _ hst hd
                      have e25 : ev (.tmp 25) = .int .i64 (j : Int) := hf 25 (by kernel_rfl)
                      refine st_value (v := .int .i64 (j : Int)) ?_ (Below.refl _ _) ?_
                      · simp [execOp, go_sem, e25]
                      · exact rfl
                    · intro ev W hf _ _ hst hd
                      have e2 : ev (.tmp 2) = .int .u8 (tn : Int) := hf 2 (by kernel_rfl)
                      refine st_value (v := .int .u8 (tn : Int)) ?_ (Below.refl _ _) ?_
                      · simp [execOp, go_sem, e2]
                      · exact rfl
                    · intro ev W hf _ _ hst hd
                      obtain ⟨d242, _⟩ := hd
                      have e242 : ev (.tmp 242) = .int .u8 (tn : Int) := d242
                      refine st_value (v := .int .i64 (tn : Int)) ?_ (Below.refl _ _) ?_
                      · simp [execOp, go_sem, e242, HWT.out]
                      · exact rfl
                    · intro ev W hf _ _ hst hd
                      obtain ⟨d241, d243, _⟩ := hd
                      have e241 : ev (.tmp 241) = .int .i64 (j : Int) := d241
                      have e243 : ev (.tmp 243) = .int .i64 (tn : Int) := d243
                      refine st_value (v := .int .i64 ((j : Int) + (tn : Int))) ?_ (Below.refl _ _) ?_
                      · simp [execOp, go_sem, e241, e243, HW13.out]
                      · exact rfl
                    · intro ev W hf _ _ hst hd
                      have e13 : ev (.tmp 13) = .int .i64 (n : Int) := hf 13 (by kernel_rfl)
                      refine st_value (v := .int .i64 (n : Int)) ?_ (Below.refl _ _) ?_
                      · simp [execOp, go_sem, e13]
                      · exact rfl
                    · intro ev W hf _ _ hst hd
                      obtain ⟨d244, d245, _⟩ := hd
                      have e244 : ev (.tmp 244) = .int .i64 ((j : Int) + (tn : Int)) := d244
                      have e245 : ev (.tmp 245) = .int .i64 (n : Int) := d245
                      refine st_value (v := .int .i64 (sj : Int)) ?_ (Below.refl _ _) ?_
                      · simp [execOp, go_sem, e244, e245, HR15.out, HN0.out, HWS2.out]
                      · exact rfl
                    · intro ev W hf _ _ hst hd
                      obtain ⟨d240, d246, _⟩ := hd
                      have e240 : ev (.tmp 240) = .slice (some ⟨rb3, ro3, none⟩) n rc3 := d240
                      have e246 : ev (.tmp 246) = .int .i64 (sj : Int) := d246
                      refine st_value (v := .pointer (some ⟨rb3, ro3 + sj, none⟩)) ?_ (Below.refl _ _) ?_
                      · simp [execOp, go_sem, e240, e246, hsj]
                      · exact rfl
                    · intro ev W hf _ _ hst hd
                      obtain ⟨d247, _⟩ := hd
                      have e247 : ev (.tmp 247) = .pointer (some ⟨rb3, ro3 + sj, none⟩) := d247
                      have q0 := Ext.cell hst HQ2.out
                      refine st_value (v := iv zs) ?_ (Below.refl _ _) ?_
                      · simp [execOp, go_sem, e247, q0]
                      · exact rfl
                    · intro ev W hf _ _ hst hd
                      have e21 : ev (.tmp 21) = .int .i64 (0 : Int) := hf 21 (by kernel_rfl)
                      refine st_value (v := .int .i64 (0 : Int)) ?_ (Below.refl _ _) ?_
                      · simp [execOp, go_sem, e21]
                      · exact rfl
                    · intro ev W hf _ hfn hst hd
                      obtain ⟨d248, d249, _⟩ := hd
                      have e248 : ev (.tmp 248) = iv zs := d248
                      have e249 : ev (.tmp 249) = .int .i64 (0 : Int) := d249
                      refine st_call (f := 12) (args := #[iv zs, .int .i64 (0 : Int)]) (by simp [execOp, go_sem, hfn, e248, e249]) (HPL.out W) (fun _ _ => rfl)
                    · intro ev W hf _ hfn hst hd
                      obtain ⟨d250, _⟩ := hd
                      have e250 : ev (.tmp 250) = iv (ep zs (some (0 : Int))) := d250
                      refine st_new (v := .slice (some ⟨W.heap.size, 0, none⟩) 1 1) (o := .cells #[iv (ep zs (some (0 : Int)))] 3) ?_ ?_
                      · simp [execOp, go_sem, e250]
                      · exact ⟨W.heap.size, rfl, vrow_alloc W [iv (ep zs (some (0 : Int)))] 3, hst.size⟩
                  case restF =>
                    intro vs wz hl hst hg
                    obtain ⟨r2, et, ht, hts⟩ : ∃ r, vs[20]? = some (.slice (some ⟨r, 0, none⟩) 1 1) ∧ VRow wz r 3 [iv (ep zs (some (0 : Int)))] ∧ wy.heap.size ≤ r := by
                      have hu : vs[20]? = some (vs[20]'(by rw [hl]; decide)) := List.getElem?_eq_getElem _
                      obtain ⟨r, he, h1, h2⟩ := hg 20 _ hu
                      exact ⟨r, by rw [hu, he], h1, h2⟩
                    have HST := Lib.hid hst
                    have HNEW := Lib.hid ht
                    have hvs : vs = [.slice oa j oc, .slice (some ⟨ab, ao, none⟩) n ca, .int .i64 (i2 : Int), .int .u8 (tn : Int), .int .i64 (tn : Int), .int .i64 ((i2 : Int) + (tn : Int)), .int .i64 (n : Int), .int .i64 (si : Int), .pointer (some ⟨ab, ao + si, none⟩), .slice (some ⟨rb3, ro3, none⟩) n rc3, .int .i64 (j : Int), .int .u8 (tn : Int), .int .i64 (tn : Int), .int .i64 ((j : Int) + (tn : Int)), .int .i64 (n : Int), .int .i64 (sj : Int), .pointer (some ⟨rb3, ro3 + sj, none⟩), iv zs, .int .i64 (0 : Int), iv (ep zs (some (0 : Int))), .slice (some ⟨r2, 0, none⟩) 1 1] := list_of hl (fun i u hu => by
                      match i, hu with
                      | 0, hu => exact (congrArg some (hg 0 u hu)).symm
                      | 1, hu => exact (congrArg some (hg 1 u hu)).symm
                      | 2, hu => exact (congrArg some (hg 2 u hu)).symm
                      | 3, hu => exact (congrArg some (hg 3 u hu)).symm
                      | 4, hu => exact (congrArg some (hg 4 u hu)).symm
                      | 5, hu => exact (congrArg some (hg 5 u hu)).symm
                      | 6, hu => exact (congrArg some (hg 6 u hu)).symm
                      | 7, hu => exact (congrArg some (hg 7 u hu)).symm
                      | 8, hu => exact (congrArg some (hg 8 u hu)).symm
                      | 9, hu => exact (congrArg some (hg 9 u hu)).symm
                      | 10, hu => exact (congrArg some (hg 10 u hu)).symm
                      | 11, hu => exact (congrArg some (hg 11 u hu)).symm
                      | 12, hu => exact (congrArg some (hg 12 u hu)).symm
                      | 13, hu => exact (congrArg some (hg 13 u hu)).symm
                      | 14, hu => exact (congrArg some (hg 14 u hu)).symm
                      | 15, hu => exact (congrArg some (hg 15 u hu)).symm
                      | 16, hu => exact (congrArg some (hg 16 u hu)).symm
                      | 17, hu => exact (congrArg some (hg 17 u hu)).symm
                      | 18, hu => exact (congrArg some (hg 18 u hu)).symm
                      | 19, hu => exact (congrArg some (hg 19 u hu)).symm
                      | 20, hu => exact et.symm.trans hu
                      | n + 21, hu => exact absurd (lt_len hu) (by rw [hl]; simp))
                    clear hg hst ht et hl
                    subst hvs
                    simp only [putAll, Act.put, List.dropLast, List.setIfInBounds_toArray, List.set_cons_zero, List.set_cons_succ]
                    have HR5 := Lib.hid (ownsRow_ext HRY.out HST.out)
                    have HO5 := Lib.hid (ownsRow_ext HOY.out HST.out)
                    have hs5 := HST.out.size
                    have hwy := HEY.out.size
                    refine operIn_append_own _ _ _ 30 rfl wq.heap.size 3 k0 (.int .i64 0) 1 8 Try.underlying30 HK.out HK0.out HK1.out HK2.out rfl (by decide) _ _ _ rfl HO5.out ⟨r2, 0, none⟩ 1 1 [iv (ep zs (some (0 : Int)))] rfl rfl (one_cell HNEW.out) (by simp [Value.oneCell']) (by unfold maxLen; omega) (by omega) (by omega) ?_
                    intro v6 w6' hown6 hgrow6 hat6
                    obtain ⟨a6, c6, rfl⟩ := own_slice hown6
                    have HO6 := Lib.hid hown6
                    have HG6 := Lib.hid hgrow6
                    have HA6 := Lib.hid hat6
                    clear hown6 hgrow6 hat6
                    have HR6 := Lib.hid (own_keep2 HR5.out (fun g hg e => HAPY.out g e hg) HG6.out)
                    have HAP6 := Lib.hid (Apart.symm (apart_grow (u' := .slice a6 (j + 1) c6) HAPY.out.symm (fun g hg => own_lt HR5.out hg) HA6.out))
                    have HE6' := Lib.hid (Below.trans (Ext.trans HEY.out HST.out) (own_below HO5.out HG6.out (by omega)))
                    gi_wp2
                    go_wp2_with fail
                    refine ⟨⟨j + 1, by simp, by omega, ⟨?_, ?_, HAP6.out⟩, HE6'.out⟩, by simp [intOf]; omega⟩
                    · unfold RowOwn; rw [listV_succ, List.map_append]; have h := HR6.out; rw [HZT.out] at h; exact h
                    · unfold RowOwn; rw [listV_succ, List.map_append, ← HZS.out]; exact HO6.out
              · obtain rfl : n = j := by omega
                obtain ⟨vs1, h11, h12⟩ := HT1.out
                obtain ⟨vs2, h21, h22⟩ := HT2.out
                have hR1 := HR1.out
                have hR2 := HR2.out
                unfold RowOwn at hR1 hR2
                have HEW := Lib.hid (Ext.trans HEt.out (Ext.alloc (Ext.refl wt) (.cells #[.slice ra n rc] 30)))
                have HWW := Lib.hid (Ext.alloc (Ext.refl wt) (.cells #[.slice ra n rc] 30))
                have HL1 := Lib.hid (ownsRow_ext h11 HEW.out)
                have HV1 := Lib.hid (fun (x : Nat) (u : Value) (h : vs1[x]? = some u) => ownsRow_ext (h12 x u h) HEW.out)
                have HT2W := Lib.hid (HT2.out.ext HEW.out)
                have HRW := Lib.hid (own_mono (ownsRow_ext hR1 HWW.out) hwq)
                have HOW := Lib.hid (own_mono (ownsRow_ext hR2 HWW.out) hwq)
                clear h11 h12 h21 h22 hR1 hR2
                go_upto_region 41 with (at_builtin; (refine wpList_append_own_at _ rfl _ _ 22 rfl wr.heap.size 30 r0 (.slice none 0 0) 1 24 Try.underlying22 HI.out HZ0.out HZ1.out HZ2.out rfl (by decide) _ _ _ rfl HL1.out ⟨wt.heap.size, 0, none⟩ 1 1 [.slice ra n rc] rfl rfl (fun j u h => cell_one_new wt _ 30 j u h) (by simp [Value.oneCell']) (by unfold maxLen; omega) (by omega) (by simp; omega) ?_; intro v7 w7 hown7 hgrow7 hnil7 hat7; have HO7 := Lib.hid hown7; have HG7 := Lib.hid hgrow7; have HA7 := Lib.hid hat7; clear hown7 hgrow7 hnil7 hat7))
                obtain ⟨a7, c7, rfl⟩ := own_slice HO7.out
                have HP7 := Lib.hid (show OutTo wr.heap.size w7 (.slice a7 (i2 + 1) c7) n (i2 + 1) (fun i j => AF j i) from OutTo.push (k := i2) HL1.out HV1.out HRW.out HO7.out HG7.out)
                have HK7 := Lib.hid (OutTo.keep2 HT2W.out (own_type HL1.out) (fun g hg => HT3.out g hg) HG7.out)
                have HW7 := Lib.hid (own_keep HOW.out (own_type HL1.out) HG7.out)
                have HAP7 := Lib.hid (apart_grow (u' := .slice a7 (i2 + 1) c7) HT3.out (fun g hg => HT2W.out.lt hg) HA7.out)
                have HE7 := Lib.hid (show Ext wr w7 from Below.trans (Ext.trans HEq.out HEW.out) (own_below HL1.out HG7.out (by simp; omega)))
                have HWW8 := Lib.hid (Ext.alloc (Ext.refl w7) (.cells #[.slice oa n oc] 30))
                obtain ⟨vs3, h31, h32⟩ := HK7.out
                have HL2 := Lib.hid (ownsRow_ext h31 HWW8.out)
                have HV2 := Lib.hid (fun (x : Nat) (u : Value) (h : vs3[x]? = some u) => ownsRow_ext (h32 x u h) HWW8.out)
                have HP7W := Lib.hid (HP7.out.ext HWW8.out)
                have HOW8 := Lib.hid (ownsRow_ext HW7.out HWW8.out)
                have hw7 := HE7.out.size
                clear h31 h32
                go_wp2_with (at_builtin; (refine wpList_append_own_at _ rfl _ _ 22 rfl wr.heap.size 30 r0 (.slice none 0 0) 1 24 Try.underlying22 HI.out HZ0.out HZ1.out HZ2.out rfl (by decide) _ _ _ rfl HL2.out ⟨w7.heap.size, 0, none⟩ 1 1 [.slice oa n oc] rfl rfl (fun j u h => cell_one_new w7 _ 30 j u h) (by simp [Value.oneCell']) (by unfold maxLen; omega) (by omega) (by simp; omega) ?_; intro v8 w8 hown8 hgrow8 hnil8 hat8; have HO8 := Lib.hid hown8; have HG8 := Lib.hid hgrow8; have HA8 := Lib.hid hat8; clear hown8 hgrow8 hnil8 hat8))
                obtain ⟨a8, c8, rfl⟩ := own_slice HO8.out
                have HP8 := Lib.hid (show OutTo wr.heap.size w8 (.slice a8 (i2 + 1) c8) n (i2 + 1) (rotF n tn (0 : Int) AF) from OutTo.push (k := i2) HL2.out HV2.out HOW8.out HO8.out HG8.out)
                have HK8' := Lib.hid (OutTo.keep2 HP7W.out (own_type HL2.out) (fun g hg => HAP7.out.symm g hg) HG8.out)
                have HAP8 := Lib.hid (Apart.symm (apart_grow (u' := .slice a8 (i2 + 1) c8) HAP7.out.symm (fun g hg => HP7W.out.lt hg) HA8.out))
                have HE8 := Lib.hid (show Ext wr w8 from Below.trans (Ext.trans HE7.out HWW8.out) (own_below HL2.out HG8.out (by simp; omega)))
                refine ⟨⟨i2 + 1, nb, by simp, rfl, by omega, HNB.out, ⟨HK8'.out, HP8.out, HAP8.out⟩, HE8.out⟩, by simp [intOf]; omega⟩
        · obtain rfl : n = i2 := by omega
          obtain rfl : zb = true := by
            rcases HZB.out with h | h
            · exact h
            · obtain ⟨x, hx, h0⟩ := HPK.out.2.1
              exact absurd h0 (h x hx)
          have HMT := Lib.hid (HT1.out.rows (by omega))
          have HMR := Lib.hid (HT2.out.rows (by omega))
          have hbT : bdF 1000 n (fun i j => AF j i) := fun i hi j hj => HBA.out j hj i hi
          have hbR := rot_bd (t := tn) (s := (0 : Int)) hn.1 HBA.out (by omega)
          have HSPT := Lib.hid (fun W (h : Ext wq W) => Speed_c _ (listM n (fun i j => AF j i)) W (Rows2.ext HMT.out h) (list_short hn.2))
          rw [sp_list (mat_within hn.1 hn.2 (with_list hbT)) (hbT.mono (by unfold KB; omega)) (by rw [spF_T]; exact HSF.out)] at HSPT
          have HSPR := Lib.hid (fun W (h : Ext wq W) => Speed_c _ (listM n (rotF n tn (0 : Int) AF)) W (Rows2.ext HMR.out h) (list_short hn.2))
          have HSR := Lib.hid (fun (hm : matB (listM n (rotF n tn (0 : Int) AF)) = true) => sp_list hm (hbR.mono (by unfold KB; omega)) (spF_rot hn.1 tn (0 : Int) HSF.out))
          have HWI := Lib.hid (fun W (h : Ext wq W) => within_c _ (listM n (rotF n tn (0 : Int) AF)) W (Rows2.ext HMR.out h) (list_short hn.2) (by rw [listM_len]; omega))
          have HS8 := Lib.hid (VRow.ext HS6.out (Ext.trans HEr.out HEq.out))
          have HEz := Lib.hid (Ext.trans HK8.out HEq.out)
          unfold two at *
          go_wp2_with fail
          refine (HSPT.out wq (Ext.refl _)).mono ?_
          rintro e wa ⟨rfl, hE⟩
          have HEa := Lib.hid (Ext.alloc hE (.cells #[.int .i64 p, .int .i64 q] 26))
          have HTa := Lib.hid (show VRow (wa.alloc (.cells #[.int .i64 p, .int .i64 q] 26)) _ _ _ from vrow_alloc wa [.int .i64 p, .int .i64 q] 26)
          clear hE
          go_wp2_with fail
          generalize wa.alloc (.cells #[.int .i64 p, .int .i64 q] 26) = wb at *
          obtain ⟨S2, hS2⟩ : ∃ S2, S2 = wa.heap.size := ⟨_, rfl⟩
          rw [← hS2] at HTa ⊢
          clear hS2
          cases hmR : matB (listM n (rotF n tn (0 : Int) AF)) with
          | false =>
            have hwf : withB (listM n (rotF n tn (0 : Int) AF)) = false := by
              cases hw : withB (listM n (rotF n tn (0 : Int) AF)) with
              | false => rfl
              | true => rw [mat_within hn.1 hn.2 hw] at hmR; cases hmR
            rw [speedZ_false hmR] at HSPR
            rw [hwf] at HWI
            clear hmR hwf
            refine (HSPR.out wb HEa.out).mono ?_
            rintro e wd ⟨rfl, hE⟩
            have HEd := Lib.hid (Ext.trans HEa.out (Ext.alloc hE (.cells #[.int .i64 0, .int .i64 0] 26)))
            have hTd := VRow.ext HTa.out (Ext.alloc hE (.cells #[.int .i64 0, .int .i64 0] 26))
            have hSd := VRow.ext HS8.out HEd.out
            have t0 := VRow.cell hTd (k := 0) rfl
            have t1 := VRow.cell hTd (k := 1) rfl
            have c0 := VRow.cell hSd (k := 0) rfl
            have c1 := VRow.cell hSd (k := 1) rfl
            have x1 := cell_lt t0
            have x2 := cell_lt c0
            clear hE hTd hSd
            go_wp2_with fail
            generalize wd.alloc (.cells #[.int .i64 0, .int .i64 0] 26) = we at *
            refine (HWI.out we HEd.out).mono ?_
            rintro e wf ⟨rfl, hE⟩
            have HEf := Lib.hid (Ext.trans HEd.out hE)
            clear hE t0 t1 c0 c1 x1 x2
            go_wp2_with fail
            refine (alive_c wf).mono ?_
            rintro e wz ⟨rfl, hE⟩
            have HEg := Lib.hid (Ext.trans HEz.out (Ext.trans HEf.out hE))
            clear hE
            go_wp2_with fail
            go_ret
            exact ⟨rfl, HEg.out⟩
          | true =>
            have hsr := HSR.out hmR
            rw [Int.zero_mul, Int.add_zero] at hsr
            rw [hsr] at HSPR
            clear hmR hsr
            refine (HSPR.out wb HEa.out).mono ?_
            rintro e wd ⟨rfl, hE⟩
            have HEd := Lib.hid (Ext.trans HEa.out (Ext.alloc hE (.cells #[.int .i64 p, .int .i64 q] 26)))
            have hTd := VRow.ext HTa.out (Ext.alloc hE (.cells #[.int .i64 p, .int .i64 q] 26))
            have hSd := VRow.ext HS8.out HEd.out
            have hVd := (show VRow (wd.alloc (.cells #[.int .i64 p, .int .i64 q] 26)) _ _ _ from vrow_alloc wd [.int .i64 p, .int .i64 q] 26)
            have t0 := VRow.cell hTd (k := 0) rfl
            have t1 := VRow.cell hTd (k := 1) rfl
            have c0 := VRow.cell hSd (k := 0) rfl
            have c1 := VRow.cell hSd (k := 1) rfl
            have v0 := VRow.cell hVd (k := 0) rfl
            have v1 := VRow.cell hVd (k := 1) rfl
            have x1 := cell_lt t0
            have x2 := cell_lt c0
            have hqq : (q == q) = true := by simp
            have hpp : (p == p) = true := by simp
            clear hE hTd hSd hVd
            go_wp2_with fail
            generalize hwe : wd.alloc (.cells #[.int .i64 p, .int .i64 q] 26) = we at *
            have HEe := Lib.hid HEd.out
            clear t0 t1 c0 c1 v0 v1 hwe
            refine (alive_c we).mono ?_
            rintro e wz ⟨rfl, hE⟩
            have HEg := Lib.hid (Ext.trans HEz.out (Ext.trans HEe.out hE))
            clear hE
            go_wp2_with fail
            go_ret
            exact ⟨rfl, HEg.out⟩
end Go.Proofs.Ytbcngojiikdigaa
