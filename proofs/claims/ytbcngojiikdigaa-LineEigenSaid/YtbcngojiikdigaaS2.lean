import Derived.Test.YtbcngojiikdigaaM5
set_option maxRecDepth 100000
namespace Go.Proofs.Ytbcngojiikdigaa
open Go.RowKit Go.Shelf
theorem law_bd {n : Nat} {M : MF} {q : Int} {V : Nat → Int} (bA : bdF 1000 n M) (hq : 1 ≤ q ∧ q ≤ 6) (h0 : ∀ i, i < n → 0 ≤ V i) (h1 : ∀ i, i < n → V i ≤ 144000) {i : Nat} (hi : i < n) {j : Nat} (hj : j ≤ n) : bdE KB (es (fun t => ep (lvE 0 q (M i t)) (some (V t))) j) := bdE_es fun t ht => by
  intro y hy
  cases hz : M i t with
  | none => rw [hz] at hy; cases hy
  | some z =>
    rw [hz] at hy
    have h5 := qz_bd hq (bA i hi t (by omega) z hz)
    have h2 := h0 t (by omega)
    have h3 := h1 t (by omega)
    have h4 : q * z - 0 + V t = y := by injection hy
    unfold KB
    omega
set_option maxHeartbeats 16000000 in
theorem eigen_c (ua ux : Value) (A : List (List Int)) (x : List Int) (k : Int) (w : World) (hA : Rows2 w ua A) (hX : Ints w ux x) (hk : 0 ≤ k ∧ k ≤ 65535) :
    Calls Try.prog 5 #[ua, ux, .int .u16 k] w fun e w' => e = .returned (.bool true) ∧ Ext w w' := by
  have HA := Lib.hid hA
  have HX := Lib.hid hX
  have HFA := Lib.hid (few_c ua A w hA)
  obtain ⟨aa, ca, rfl, ha1, ha2, ha3⟩ := hA.at
  obtain ⟨ax, cx, rfl, hxc, hxm, hxr⟩ := hX.at
  clear hA hX ha1 ha2 ha3 hxr
  cases hfa : few20 A with
  | false =>
    rw [hfa] at HFA
    clear hfa
    go_enter Try.func5, Try.ntmps5
    go_wp2_with fail
    refine HFA.out.mono ?_
    rintro e w1 ⟨rfl, hE⟩
    have HE := Lib.hid hE
    clear hE
    go_wp2_with fail
    refine (alive_c w1).mono ?_
    rintro e wz ⟨rfl, hE⟩
    have HEz := Lib.hid (Ext.trans HE.out hE)
    clear hE
    go_wp2_with fail
    go_ret
    exact ⟨rfl, HEz.out⟩
  | true =>
    have HLA := Lib.hid (few20_ok hfa).2
    have hlA := (few20_ok hfa).1
    rw [hfa] at HFA
    clear hfa
    by_cases hlx : 20 < x.length
    · have hlz : (20 : Int) < (x.length : Int) := by omega
      go_enter Try.func5, Try.ntmps5
      go_wp2_with fail
      refine HFA.out.mono ?_
      rintro e w1 ⟨rfl, hE⟩
      have HE := Lib.hid hE
      clear hE
      go_wp2_with fail
      refine (alive_c w1).mono ?_
      rintro e wz ⟨rfl, hE⟩
      have HEz := Lib.hid (Ext.trans HE.out hE)
      clear hE
      go_wp2_with fail
      go_ret
      exact ⟨rfl, HEz.out⟩
    have hlz : ¬ (20 : Int) < (x.length : Int) := by omega
    obtain ⟨m, hm0⟩ : ∃ m : Nat, k % 1000 = (m : Int) := ⟨(k % 1000).toNat, by omega⟩
    have hm9 : m ≤ 999 := by omega
    go_enter Try.func5, Try.ntmps5
    go_wp2_with fail
    refine HFA.out.mono ?_
    rintro e w1 ⟨rfl, hE⟩
    have HE1 := Lib.hid hE
    clear hE
    go_wp2_with fail
    refine (Eigen_c _ A w1 (Rows2.ext HA.out HE1.out) HLA.out (fun p q hm hs hc => eig_ok (matB_ok hm).1.1 hs hc)).mono ?_
    rintro e w2 ⟨hS, hE⟩
    have HE2 := Lib.hid (Ext.trans HE1.out hE)
    clear hE
    have HSP := Lib.hid (fun W (h : Ext w W) => Speed_c _ A W (Rows2.ext HA.out h) HLA.out)
    rcases hS with ⟨hm, rfl⟩ | ⟨hm, hs, rfl⟩ | ⟨hm, p, q, hs, hc, rfl⟩ | ⟨hm, p, q, f, rest, R, hs, hc, hcr, hR0, rfl, hR⟩
    · rw [show speedZ A = (0, 0, 2) from by unfold speedZ; rw [hm]; rfl] at HSP
      clear hm
      unfold two at *
      go_wp2_with fail
      refine (HSP.out _ HE2.out).mono ?_
      rintro e w3 ⟨rfl, hE⟩
      have HE3 := Lib.hid (Ext.alloc (Ext.trans HE2.out hE) (.cells #[.int .i64 0, .int .i64 0] 26))
      clear hE
      go_wp2_with fail
      generalize w3.alloc (.cells #[.int .i64 0, .int .i64 0] 26) = w4 at *
      refine (alive_c w4).mono ?_
      rintro e wz ⟨rfl, hE⟩
      have HEz := Lib.hid (Ext.trans HE3.out hE)
      clear hE
      go_wp2_with fail
      go_ret
      exact ⟨rfl, HEz.out⟩
    · rw [show speedZ A = (0, 0, 10) from by unfold speedZ; rw [hm, hs]; rfl] at HSP
      clear hm hs
      unfold two at *
      go_wp2_with fail
      refine (HSP.out _ HE2.out).mono ?_
      rintro e w3 ⟨rfl, hE⟩
      have HE3 := Lib.hid (Ext.alloc (Ext.trans HE2.out hE) (.cells #[.int .i64 0, .int .i64 0] 26))
      clear hE
      go_wp2_with fail
      generalize w3.alloc (.cells #[.int .i64 0, .int .i64 0] 26) = w4 at *
      refine (alive_c w4).mono ?_
      rintro e wz ⟨rfl, hE⟩
      have HEz := Lib.hid (Ext.trans HE3.out hE)
      clear hE
      go_wp2_with fail
      go_ret
      exact ⟨rfl, HEz.out⟩
    · rw [show speedZ A = (p, q, 0) from by unfold speedZ; rw [hm, hs]; rfl] at HSP
      clear hm hs hc
      unfold two at *
      go_wp2_with fail
      refine (HSP.out _ HE2.out).mono ?_
      rintro e w3 ⟨rfl, hE⟩
      have HE3 := Lib.hid (Ext.alloc (Ext.trans HE2.out hE) (.cells #[.int .i64 p, .int .i64 q] 26))
      clear hE
      go_wp2_with fail
      generalize w3.alloc (.cells #[.int .i64 p, .int .i64 q] 26) = w4 at *
      refine (alive_c w4).mono ?_
      rintro e wz ⟨rfl, hE⟩
      have HEz := Lib.hid (Ext.trans HE3.out hE)
      clear hE
      go_wp2_with fail
      go_ret
      exact ⟨rfl, HEz.out⟩
    · have HM := Lib.hid hm
      have HOA := Lib.hid (matB_ok hm)
      have hn := HOA.out.1
      rw [show speedZ A = (p, q, 0) from by unfold speedZ; rw [hm, hs]; rfl] at HSP
      obtain ⟨hp, hq⟩ := spF_bd HOA.out.2.2 hn.2 hs
      obtain ⟨f', rest', hf1, hf2, hf3⟩ := crit_ex hn.1 hs
      have hff : f = f' := by rw [hcr] at hf1; injection hf1
      subst hff
      have HLW := Lib.hid (eig_law hn.1 hs hc hcr)
      have HMN := Lib.hid (eigV_min hn.1 (lvF p q (entF A)) f)
      have HBD := Lib.hid (eigV_bd hn.1 hn.2 (lvF_bd HOA.out.2.2 hp hq) hf2 (fun i hi => conn_some hc hi hf2))
      have HRUN := Lib.hid (fun lo hi hx => run_law (x := x) hn.1 HOA.out.2.2 hs hc hcr lo hi hx m hm9)
      have HV := Lib.hid (fun i (hi : i < A.length) => (show w2.cell? ⟨R, i, none⟩ = some (.int .i64 (eigV A.length (lvF p q (entF A)) f i)) from IRow.at hR (eigL_at _ f hi)))
      generalize eigV A.length (lvF p q (entF A)) f = V at *
      clear hm hs hc hcr hf1 hf2 hf3 hR hR0
      unfold two at *
      go_wp2_with fail
      refine (HSP.out _ HE2.out).mono ?_
      rintro e w3 ⟨rfl, hE⟩
      have HE3 := Lib.hid (Ext.alloc (Ext.trans HE2.out hE) (.cells #[.int .i64 p, .int .i64 q] 26))
      have HE23 := Lib.hid (Ext.alloc hE (.cells #[.int .i64 p, .int .i64 q] 26))
      have HPR := Lib.hid (show VRow (w3.alloc (.cells #[.int .i64 p, .int .i64 q] 26)) _ _ _ from vrow_alloc w3 [.int .i64 p, .int .i64 q] 26)
      have c1 := VRow.cell HPR.out (k := 1) rfl
      have HV4 := Lib.hid (fun i hi => Ext.cell HE23.out (HV.out i hi))
      have v0 := HV4.out 0 (by omega)
      have hV0 := HMN.out.1 0 (by omega)
      have hq1 : ¬ q < 1 := by omega
      have hnn : ((A.length : Int) != (A.length : Int)) = false := by simp
      have hn0 : (0 : Int) < (A.length : Int) := by omega
      clear hE
      go_wp2_with fail
      go_quiet (fail)
      generalize hw4 : w3.alloc (.cells #[.int .i64 p, .int .i64 q] 26) = w4 at *
      generalize w3.heap.size = D at *
      clear hw4
      go_wp2_with fail
      obtain ⟨ab, ao, ac, eA, hmm1, hmm2, hMA⟩ := rows_mat (Rows2.ext HA.out HE3.out) HOA.out.2.1 hn.1
      injection eA with eA1 _ eA2
      subst eA1
      subst eA2
      have HMA := Lib.hid hMA
      clear hMA v0 c1 hmm1 hmm2
      go_loopw [14, 12, 13] (fun kv lv mv wr => ∃ (i : Nat) (lo hi : Int), kv = .int .i64 (i : Int) ∧ lv = .int .i64 lo ∧ mv = .int .i64 hi ∧ i ≤ A.length ∧ 0 ≤ lo ∧ (∀ j, j < i → lo ≤ V j) ∧ Ext w4 wr) (fun kv _ _ _ => A.length - (intOf kv).toNat)
      case atStart => exact ⟨0, _, _, rfl, rfl, rfl, Nat.zero_le _, hV0, fun j h => by omega, ext_drewN (Ext.refl _) _⟩
      case round =>
        rename World => wr
        obtain ⟨i, lo, hi, rfl, rfl, rfl, hil, hlo, hlv, hE⟩ := hrel
        have HEr := Lib.hid hE
        have HLV := Lib.hid hlv
        clear hE hlv
        by_cases hlt : i < A.length
        · obtain ⟨u1, g1, hu1⟩ := HMA.out i hlt
          obtain ⟨rb, ro, rc, rfl, hmm1, hmm2, hu1⟩ := hu1
          have HU1 := Lib.hid hu1
          have HG1 := Lib.hid g1
          clear hu1 g1 hmm1 hmm2
          go_wp2_with fail
          go_loopw [16, 15] (fun jv bv wq => ∃ j : Nat, jv = .int .i64 (j : Int) ∧ j ≤ A.length ∧ bv = iv (es (fun t => ep (lvE 0 q (entF A i t)) (some (V t))) j) ∧ Ext w4 wq) (fun jv _ _ => A.length - (intOf jv).toNat)
          case atStart => exact ⟨0, rfl, Nat.zero_le _, rfl, HEr.out⟩
          case round =>
            rename World => wq
            obtain ⟨j, rfl, hj, rfl, hE⟩ := hrel
            have HEq := Lib.hid hE
            clear hE
            by_cases hjl : j < A.length
            · have HES := Lib.hid (show es (fun t => ep (lvE 0 q (entF A i t)) (some (V t))) (j + 1) = em (es (fun t => ep (lvE 0 q (entF A i t)) (some (V t))) j) (ep (lvE 0 q (entF A i j)) (some (V j))) from rfl)
              have HB0 := Lib.hid (law_bd HOA.out.2.2 hq HMN.out.1 HBD.out hlt (by omega : j ≤ A.length))
              generalize es (fun t => ep (lvE 0 q (entF A i t)) (some (V t))) j = e0 at *
              have g1 := Ext.cell HEq.out HG1.out
              have g2 := Ext.cell HEq.out (HU1.out j hjl)
              have v1 := Ext.cell HEq.out (HV4.out j hjl)
              have d1 := VRow.cell (VRow.ext HPR.out HEq.out) (k := 1) rfl
              cases hz : entF A i j with
              | none =>
                rw [hz] at g2 HES
                have HES := Lib.hid (show _ = e0 from HES.out.trans (em_none e0))
                clear hz
                replace g2 : wq.cell? ⟨rb, ro + j, none⟩ = some (.int .i64 (-1152921504606846976)) := g2
                go_wp2_with fail
                exact ⟨⟨j + 1, by simp, by omega, by rw [HES.out], HEq.out⟩, by simp [intOf]; omega⟩
              | some z =>
                have hzb := HOA.out.2.2 i hlt j hjl z hz
                have hqz := qz_bd hq hzb
                have hv1 := HMN.out.1 j hjl
                have hv2 := HBD.out j hjl
                rw [hz] at g2 HES
                clear hz
                replace g2 : wq.cell? ⟨rb, ro + j, none⟩ = some (.int .i64 z) := g2
                have hzn : (z != (-1152921504606846976 : Int)) = true := by rw [bne_iff_ne]; omega
                have HES := Lib.hid (show es (fun t => ep (lvE 0 q (entF A i t)) (some (V t))) (j + 1) = em e0 (some (q * z + V j)) from by rw [HES.out]; show em e0 (some (q * z - 0 + V j)) = _; rw [Int.sub_zero])
                have HMX := Lib.hid (show val (em e0 (some (q * z + V j))) = if val e0 < q * z + V j then q * z + V j else val e0 from val_em_max HB0.out (fun y hy => by injection hy with hy; subst hy; unfold KB; omega))
                obtain ⟨e1, he1⟩ : ∃ e, e = es (fun t => ep (lvE 0 q (entF A i t)) (some (V t))) (j + 1) := ⟨_, rfl⟩
                rw [← he1] at HES
                have HQ1 := Lib.hid he1
                clear he1
                obtain ⟨qz, hqze⟩ : ∃ y, y = q * z := ⟨_, rfl⟩
                rw [← hqze] at HES HMX hqz
                obtain ⟨vj, hvj⟩ : ∃ y, y = V j := ⟨_, rfl⟩
                rw [← hvj] at HES HMX hv1 hv2 v1
                have hw1 : IntKind.i64.wrap (q * z) = qz := by rw [← hqze]; exact IntWalk.i64_in _ (by omega)
                have hw1b : IntKind.i64.wrap (qz + vj) = qz + vj := IntWalk.i64_in _ (by omega)
                have HG1' := Lib.hid g1
                have HG2' := Lib.hid g2
                have HV1' := Lib.hid v1
                have HD1' := Lib.hid d1
                go_wp2_with fail
                refine wp_region_stable_last [⟨[], none⟩, ⟨[], none⟩, ⟨[(1, 92)], none⟩, ⟨[], none⟩, ⟨[], none⟩, ⟨[(3, 94), (4, 95)], none⟩, ⟨[(5, 96)], none⟩, ⟨[], none⟩, ⟨[(6, 97), (7, 98)], none⟩, ⟨[(8, 99)], none⟩, ⟨[(2, 93), (9, 100)], none⟩, ⟨[], none⟩, ⟨[], none⟩, ⟨[(11, 102), (12, 103)], none⟩, ⟨[(13, 104)], none⟩, ⟨[(10, 101), (14, 105)], none⟩, ⟨[(0, 91), (15, 106)], none⟩] (fun x y => Below x.heap.size x y) (MPat [MP.eq (iv e0), MP.eq (.pointer (some ⟨D, 1, none⟩)), MP.eq (.int .i64 q), MP.eq (.slice (some ⟨ab, ao, none⟩) A.length ca), MP.eq (.int .i64 (i : Int)), MP.eq (.pointer (some ⟨ab, ao + i, none⟩)), MP.eq (.slice (some ⟨rb, ro, none⟩) A.length rc), MP.eq (.int .i64 (j : Int)), MP.eq (.pointer (some ⟨rb, ro + j, none⟩)), MP.eq (.int .i64 z), MP.eq (.int .i64 qz), MP.eq (.slice (some ⟨R, 0, none⟩) A.length A.length), MP.eq (.int .i64 (j : Int)), MP.eq (.pointer (some ⟨R, j, none⟩)), MP.eq (.int .i64 vj), MP.eq (.int .i64 (qz + vj)), MP.eq (iv e1)]) rfl (by kernel_rfl) (fun _ _ _ h k => Ext.trans h k) (fun _ => Below.refl _ _) (fun x => (Below.refl x.heap.size x).drew) (MPat.mono _) (by kernel_rfl) (by kernel_rfl) (by kernel_rfl) ?obs ?rest
                case obs =>
                  refine ⟨?_, ?_, ?_, ?_, ?_, ?_, ?_, ?_, ?_, ?_, ?_, ?_, ?_, ?_, ?_, ?_, ?_, trivial⟩
                  · intro ev W hf _ _ hst hd
                    have e15 : ev (.tmp 15) = iv e0 := hf 15 (by kernel_rfl)
                    refine st_value (v := iv e0) ?_ (Below.refl _ _) ?_
                    · simp [execOp, go_sem, e15]
                    · exact rfl
                  · intro ev W hf _ _ hst hd
                    have e9 : ev (.tmp 9) = .pointer (some ⟨D, 0, none⟩) := hf 9 (by kernel_rfl)
                    refine st_value (v := .pointer (some ⟨D, 1, none⟩)) ?_ (Below.refl _ _) ?_
                    · simp [execOp, go_sem, e9]
                    · exact rfl
                  · intro ev W hf _ _ hst hd
                    obtain ⟨d92, _⟩ := hd
                    have e92 : ev (.tmp 92) = .pointer (some ⟨D, 1, none⟩) := d92
                    have q0 := Ext.cell hst HD1'.out
                    refine st_value (v := .int .i64 q) ?_ (Below.refl _ _) ?_
                    · simp [execOp, go_sem, e92, q0]
                    · exact rfl
                  · intro ev W hf _ _ hst hd
                    have e0 : ev (.tmp 0) = .slice (some ⟨ab, ao, none⟩) A.length ca := hf 0 (by kernel_rfl)
                    refine st_value (v := .slice (some ⟨ab, ao, none⟩) A.length ca) ?_ (Below.refl _ _) ?_
                    · simp [execOp, go_sem, e0]
                    · exact rfl
                  · intro ev W hf _ _ hst hd
                    have e14 : ev (.tmp 14) = .int .i64 (i : Int) := hf 14 (by kernel_rfl)
                    refine st_value (v := .int .i64 (i : Int)) ?_ (Below.refl _ _) ?_
                    · simp [execOp, go_sem, e14]
                    · exact rfl
                  · intro ev W hf _ _ hst hd
                    obtain ⟨d94, d95, _⟩ := hd
                    have e94 : ev (.tmp 94) = .slice (some ⟨ab, ao, none⟩) A.length ca := d94
                    have e95 : ev (.tmp 95) = .int .i64 (i : Int) := d95
                    refine st_value (v := .pointer (some ⟨ab, ao + i, none⟩)) ?_ (Below.refl _ _) ?_
                    · simp [execOp, go_sem, e94, e95, hlt]
                    · exact rfl
                  · intro ev W hf _ _ hst hd
                    obtain ⟨d96, _⟩ := hd
                    have e96 : ev (.tmp 96) = .pointer (some ⟨ab, ao + i, none⟩) := d96
                    have q0 := Ext.cell hst HG1'.out
                    refine st_value (v := .slice (some ⟨rb, ro, none⟩) A.length rc) ?_ (Below.refl _ _) ?_
                    · simp [execOp, go_sem, e96, q0]
                    · exact rfl
                  · intro ev W hf _ _ hst hd
                    have e16 : ev (.tmp 16) = .int .i64 (j : Int) := hf 16 (by kernel_rfl)
                    refine st_value (v := .int .i64 (j : Int)) ?_ (Below.refl _ _) ?_
                    · simp [execOp, go_sem, e16]
                    · exact rfl
                  · intro ev W hf _ _ hst hd
                    obtain ⟨d97, d98, _⟩ := hd
                    have e97 : ev (.tmp 97) = .slice (some ⟨rb, ro, none⟩) A.length rc := d97
                    have e98 : ev (.tmp 98) = .int .i64 (j : Int) := d98
                    refine st_value (v := .pointer (some ⟨rb, ro + j, none⟩)) ?_ (Below.refl _ _) ?_
                    · simp [execOp, go_sem, e97, e98, hjl]
                    · exact rfl
                  · intro ev W hf _ _ hst hd
                    obtain ⟨d99, _⟩ := hd
                    have e99 : ev (.tmp 99) = .pointer (some ⟨rb, ro + j, none⟩) := d99
                    have q0 := Ext.cell hst HG2'.out
                    refine st_value (v := .int .i64 z) ?_ (Below.refl _ _) ?_
                    · simp [execOp, go_sem, e99, q0]
                    · exact rfl
                  · intro ev W hf _ _ hst hd
                    obtain ⟨d93, d100, _⟩ := hd
                    have e93 : ev (.tmp 93) = .int .i64 q := d93
                    have e100 : ev (.tmp 100) = .int .i64 z := d100
                    refine st_value (v := .int .i64 qz) ?_ (Below.refl _ _) ?_
                    · simp [execOp, go_sem, e93, e100, hw1]
                    · exact rfl
                  · intro ev W hf _ _ hst hd
                    have e7 : ev (.tmp 7) = .slice (some ⟨R, 0, none⟩) A.length A.length := hf 7 (by kernel_rfl)
                    refine st_value (v := .slice (some ⟨R, 0, none⟩) A.length A.length) ?_ (Below.refl _ _) ?_
                    · simp [execOp, go_sem, e7]
                    · exact rfl
                  · intro ev W hf _ _ hst hd
                    have e16 : ev (.tmp 16) = .int .i64 (j : Int) := hf 16 (by kernel_rfl)
                    refine st_value (v := .int .i64 (j : Int)) ?_ (Below.refl _ _) ?_
                    · simp [execOp, go_sem, e16]
                    · exact rfl
                  · intro ev W hf _ _ hst hd
                    obtain ⟨d102, d103, _⟩ := hd
                    have e102 : ev (.tmp 102) = .slice (some ⟨R, 0, none⟩) A.length A.length := d102
                    have e103 : ev (.tmp 103) = .int .i64 (j : Int) := d103
                    refine st_value (v := .pointer (some ⟨R, j, none⟩)) ?_ (Below.refl _ _) ?_
                    · simp [execOp, go_sem, e102, e103, hjl]
                    · exact rfl
                  · intro ev W hf _ _ hst hd
                    obtain ⟨d104, _⟩ := hd
                    have e104 : ev (.tmp 104) = .pointer (some ⟨R, j, none⟩) := d104
                    have q0 := Ext.cell hst HV1'.out
                    refine st_value (v := .int .i64 vj) ?_ (Below.refl _ _) ?_
                    · simp [execOp, go_sem, e104, q0]
                    · exact rfl
                  · intro ev W hf _ _ hst hd
                    obtain ⟨d101, d105, _⟩ := hd
                    have e101 : ev (.tmp 101) = .int .i64 qz := d101
                    have e105 : ev (.tmp 105) = .int .i64 vj := d105
                    refine st_value (v := .int .i64 (qz + vj)) ?_ (Below.refl _ _) ?_
                    · simp [execOp, go_sem, e101, e105, hw1b]
                    · exact rfl
                  · intro ev W hf _ _ hst hd
                    obtain ⟨d91, d106, _⟩ := hd
                    have e91 : ev (.tmp 91) = iv e0 := d91
                    have e106 : ev (.tmp 106) = .int .i64 (qz + vj) := d106
                    refine st_value (v := iv e1) ?_ (Below.refl _ _) ?_
                    · rw [HES.out]; simp [go_sem, e91, e106, HMX.out]
                    · exact rfl
                case rest =>
                  intro vs w3x hl hst hg
                  have HE3x := Lib.hid hst
                  have hus : vs = [iv e0, .pointer (some ⟨D, 1, none⟩), .int .i64 q, .slice (some ⟨ab, ao, none⟩) A.length ca, .int .i64 (i : Int), .pointer (some ⟨ab, ao + i, none⟩), .slice (some ⟨rb, ro, none⟩) A.length rc, .int .i64 (j : Int), .pointer (some ⟨rb, ro + j, none⟩), .int .i64 z, .int .i64 qz, .slice (some ⟨R, 0, none⟩) A.length A.length, .int .i64 (j : Int), .pointer (some ⟨R, j, none⟩), .int .i64 vj, .int .i64 (qz + vj), iv e1] := list_of hl (fun i u hu => by
                    match i, hu with
                    | 0, hu => exact (congrArg some (hg 0 u hu)).symm
                    | 1, hu => exact (congrArg some (hg 1 u hu)).symm
                    | 2, hu => exact (congrArg some (hg 2 u hu)).symm
                    | 3, hu => exact (congrArg some (hg 3 u hu)).symm
                    | 4, hu => exact (congrArg some (hg 4 u hu)).symm
                    | 5, hu => exact (congrArg some (hg 5 u hu)).symm
                    | 6, hu => exact (congrArg some (hg 6 u hu)).symm
                    | 7, hu => exact (congrArg some (hg 7 u hu)).symm
                    | 8, hu => exact (congrArg some (hg 8 u hu)).symm
                    | 9, hu => exact (congrArg some (hg 9 u hu)).symm
                    | 10, hu => exact (congrArg some (hg 10 u hu)).symm
                    | 11, hu => exact (congrArg some (hg 11 u hu)).symm
                    | 12, hu => exact (congrArg some (hg 12 u hu)).symm
                    | 13, hu => exact (congrArg some (hg 13 u hu)).symm
                    | 14, hu => exact (congrArg some (hg 14 u hu)).symm
                    | 15, hu => exact (congrArg some (hg 15 u hu)).symm
                    | 16, hu => exact (congrArg some (hg 16 u hu)).symm
                    | n + 17, hu => exact absurd (lt_len hu) (by rw [hl]; simp))
                  clear hg hst hl
                  subst hus
                  simp only [putAll, Act.put, List.dropLast, List.setIfInBounds_toArray, List.set_cons_zero, List.set_cons_succ]
                  go_wp2_with fail
                  exact ⟨⟨j + 1, by simp, by omega, by rw [HQ1.out], Ext.trans HEq.out HE3x.out⟩, by simp [intOf]; omega⟩
            · obtain rfl : j = A.length := by omega
              have hLW := HLW.out i hlt
              rw [hLW]
              have hv1 := HMN.out.1 i hlt
              have hv2 := HBD.out i hlt
              have v1 := Ext.cell HEq.out (HV4.out i hlt)
              have d0 := VRow.cell (VRow.ext HPR.out HEq.out) (k := 0) rfl
              clear hLW
              rw [show iv (some (p + V i)) = Value.int .i64 (p + V i) from rfl]
              have hw2 : IntKind.i64.wrap (p + V i) = p + V i := IntWalk.i64_in _ (by omega)
              have hbb : (p + V i != p + V i) = false := by simp
              go_wp2_with fail
              go_quiet (fail)
              clear hw2 hbb d0
              rcases Int.lt_trichotomy (V i) lo with h1 | h1 | h1 <;> rcases Int.lt_trichotomy hi (V i) with h2 | h2 | h2
              all_goals go_wp2_with fail
              all_goals go_quiet (fail)
              all_goals go_wp2_with fail
              all_goals
                refine ⟨⟨i + 1, _, _, by simp, rfl, rfl, by omega, by omega, fun j hj => ?_, ext_drewN HEq.out _⟩, by simp [intOf]; omega⟩
                by_cases e : j = i
                · subst e
                  omega
                · have := HLV.out j (by omega)
                  omega
        · obtain rfl : i = A.length := by omega
          obtain ⟨j0, hj0, hjz⟩ := HMN.out.2
          have hl0 : lo = 0 := by have := HLV.out j0 hj0; omega
          subst hl0
          have hlo0 : ((0 : Int) != 0) = false := by simp
          clear HLV hlo
          by_cases hxl : x.length = A.length
          · have hxl2 : ((x.length : Int) != (A.length : Int)) = false := by rw [hxl]; simp
            obtain ⟨xb, xo, xc, eX, hXC⟩ := ints_getD HX.out (by omega)
            injection eX with eX1 _ eX2
            subst eX1
            subst eX2
            have HXC := Lib.hid hXC
            have HX2 := Lib.hid (show Ints w (.slice (some ⟨xb, xo, none⟩) A.length cx) x from by have h := HX.out; rw [hxl] at h; exact h)
            have HEw := Lib.hid (Ext.trans HE3.out HEr.out)
            clear hXC
            go_wp2_with fail
            go_loopw [19, 17, 18] (fun kv lv mv wq => ∃ (i : Nat) (lo hi : Int), kv = .int .i64 (i : Int) ∧ lv = .int .i64 lo ∧ mv = .int .i64 hi ∧ i ≤ A.length ∧ (∀ j, j < i → lo ≤ q * x.getD j 0 - V j ∧ q * x.getD j 0 - V j ≤ hi ∧ -1000000 ≤ x.getD j 0 ∧ x.getD j 0 ≤ 1000000) ∧ Ext wr wq) (fun kv _ _ _ => A.length - (intOf kv).toNat)
            case atStart => exact ⟨0, _, _, rfl, rfl, rfl, Nat.zero_le _, fun j h => by omega, Ext.refl _⟩
            case round =>
              rename World => wq
              obtain ⟨i, lo, hi2, rfl, rfl, rfl, hil, hst, hE⟩ := hrel
              have HST := Lib.hid hst
              have HEq := Lib.hid (Ext.trans HEr.out hE)
              have HEwq := Lib.hid (Ext.trans HEw.out hE)
              have HErq := Lib.hid hE
              clear hE hst
              by_cases hlt : i < A.length
              · have gx := Ext.cell HEwq.out (HXC.out i (by omega))
                have hlx2 : (i : Int) < (x.length : Int) := by omega
                obtain ⟨X, hX⟩ : ∃ X, X = x.getD i 0 := ⟨_, rfl⟩
                rw [← hX] at gx
                have HXX := Lib.hid hX
                clear hX
                have v1 := Ext.cell HEq.out (HV4.out i hlt)
                have d1 := VRow.cell (VRow.ext HPR.out HEq.out) (k := 1) rfl
                by_cases hx1 : X < -1000000
                · go_wp2_with fail
                  refine (alive_c wq).mono ?_
                  rintro e wz ⟨rfl, hE⟩
                  have HEz := Lib.hid (Ext.trans HEwq.out hE)
                  clear hE
                  go_wp2_with fail
                  go_ret
                  exact ⟨rfl, HEz.out⟩
                by_cases hx2 : 1000000 < X
                · go_wp2_with fail
                  refine (alive_c wq).mono ?_
                  rintro e wz ⟨rfl, hE⟩
                  have HEz := Lib.hid (Ext.trans HEwq.out hE)
                  clear hE
                  go_wp2_with fail
                  go_ret
                  exact ⟨rfl, HEz.out⟩
                have hqz := qz_bd hq (K := 1000000) (z := X) (by omega)
                have hv1 := HMN.out.1 i hlt
                have hv2 := HBD.out i hlt
                have hw3 : IntKind.i64.wrap (q * X) = q * X := IntWalk.i64_in _ (by omega)
                have hw4 : IntKind.i64.wrap (q * X - V i) = q * X - V i := IntWalk.i64_in _ (by omega)
                have HXB := Lib.hid (show -1000000 ≤ X ∧ X ≤ 1000000 from by omega)
                go_wp2_with fail
                go_quiet (fail)
                clear hw3 hw4
                obtain ⟨d, hd⟩ : ∃ d, d = q * X - V i := ⟨_, rfl⟩
                rw [← hd]
                have HDD := Lib.hid hd
                clear hd hx1 hx2 hqz hv1 hv2 gx v1 d1
                have hdd : ¬ d < d := by omega
                by_cases hi0 : i = 0
                · subst hi0
                  have hz0 : ((0 : Int) == 0) = true := by simp
                  go_wp2_with fail
                  refine ⟨⟨0 + 1, d, d, by simp, rfl, rfl, by omega, fun j hj => ?_, ext_drewN HErq.out _⟩, by simp [intOf]; omega⟩
                  obtain rfl : j = 0 := by omega
                  have h5 := HDD.out
                  have h6 := HXB.out
                  rw [HXX.out] at h5 h6
                  exact ⟨by omega, by omega, h6⟩
                · have hz0 : ((i : Int) == 0) = false := by rw [beq_eq_false_iff_ne]; omega
                  have hz1 : (i : Int) ≠ 0 := by omega
                  rcases Int.lt_trichotomy d lo with h1 | h1 | h1 <;> rcases Int.lt_trichotomy hi2 d with h2 | h2 | h2
                  all_goals (first | subst h1 | skip)
                  all_goals (first | subst h2 | skip)
                  all_goals go_wp2_with fail
                  all_goals
                    refine ⟨⟨i + 1, _, _, by simp, rfl, rfl, by omega, fun j hj => ?_, ext_drewN HErq.out _⟩, by simp [intOf]; omega⟩
                    by_cases e : j = i
                    · subst e
                      have h5 := HDD.out
                      have h6 := HXB.out
                      rw [HXX.out] at h5 h6
                      exact ⟨by omega, by omega, h6⟩
                    · have := HST.out j (by omega)
                      omega
              · obtain rfl : i = A.length := by omega
                have HRN := Lib.hid (HRUN.out lo hi2 HST.out)
                have HXS := Lib.hid (fun j hj => (HST.out j hj).2.2)
                clear HST HRUN
                go_wp2_with fail
                refine (Run_c _ _ A x (m : Int) wq (Rows2.ext HA.out HEwq.out) HLA.out (HX2.out.ext HEwq.out) (by omega) (by omega)).mono ?_
                rintro e w5 ⟨hS, hE⟩
                have HE5 := Lib.hid (Ext.trans HEq.out hE)
                have HEw5 := Lib.hid (Ext.trans HEwq.out hE)
                clear hE
                rcases hS with ⟨h1, _⟩ | ⟨_, _, _, h1, _⟩ | ⟨_, _, _, _, r, rfl, hr⟩
                · exfalso
                  rw [HM.out, vecB_small hxl HXS.out, show countB (m : Int) = true by unfold countB; rw [Bool.and_eq_true, decide_eq_true_eq, decide_eq_true_eq]; omega] at h1
                  cases h1
                · exfalso
                  rw [Int.toNat_natCast, run_small HOA.out.2.2 HXS.out hm9] at h1
                  cases h1
                · rw [Int.toNat_natCast] at hr
                  obtain ⟨yb, yo, yc, rfl, hYC⟩ := ints_getD hr (by rw [runL_len]; omega)
                  rw [runL_len] at hYC ⊢
                  have HYC := Lib.hid hYC
                  clear hYC hr
                  generalize runL A x m = Y at *
                  unfold two at *
                  go_wp2_with fail
                  go_loopw [23] (fun kv wt => ∃ i : Nat, kv = .int .i64 (i : Int) ∧ i ≤ A.length ∧ Ext w5 wt) (fun kv _ => A.length - (intOf kv).toNat)
                  case atStart => exact ⟨0, rfl, Nat.zero_le _, Ext.refl _⟩
                  case round =>
                    rename World => wt
                    obtain ⟨i, rfl, hil, hE⟩ := hrel
                    have HEt := Lib.hid hE
                    clear hE
                    by_cases hlt : i < A.length
                    · obtain ⟨hr1, hr2, hr3, hr4⟩ := HRN.out i hlt
                      have gy := Ext.cell HEt.out (HYC.out i hlt)
                      have v1 := Ext.cell (Ext.trans HE5.out HEt.out) (HV4.out i hlt)
                      have hPx := VRow.ext HPR.out (Ext.trans HE5.out HEt.out)
                      have d0 := VRow.cell hPx (k := 0) rfl
                      have d1 := VRow.cell hPx (k := 1) rfl
                      have hqz := qz_bd hq (K := 2000000) (z := Y.getD i 0) (by omega)
                      have hmp := mul_bd2 (m := (m : Int)) (by omega) hp
                      have hv1 := HMN.out.1 i hlt
                      have hv2 := HBD.out i hlt
                      generalize Y.getD i 0 = y at *
                      have hw5 : IntKind.i64.wrap (q * y) = q * y := IntWalk.i64_in _ (by omega)
                      have hw6 : IntKind.i64.wrap ((m : Int) * p) = (m : Int) * p := IntWalk.i64_in _ (by omega)
                      have hw7 : IntKind.i64.wrap (q * y - (m : Int) * p) = q * y - (m : Int) * p := IntWalk.i64_in _ (by omega)
                      have hw8 : IntKind.i64.wrap (q * y - (m : Int) * p - V i) = q * y - (m : Int) * p - V i := IntWalk.i64_in _ (by omega)
                      clear hPx
                      go_wp2_with fail
                      go_quiet (fail)
                      have hr1' : ¬ (q * y - (m : Int) * p - V i) < lo := by omega
                      have hr2' : ¬ hi2 < (q * y - (m : Int) * p - V i) := by omega
                      generalize q * y - (m : Int) * p - V i = d at *
                      clear hr1 hr2 hqz hmp gy v1 d0 d1 hv1 hv2
                      go_wp2_with fail
                      exact ⟨⟨i + 1, by simp, by omega, ext_drewN HEt.out _⟩, by simp [intOf]; omega⟩
                    · obtain rfl : i = A.length := by omega
                      have HE6 := Lib.hid (Ext.trans HEw5.out HEt.out)
                      clear HRN
                      go_wp2_with fail
                      refine (alive_c wt).mono ?_
                      rintro e wz ⟨rfl, hE⟩
                      have HEz := Lib.hid (Ext.trans HE6.out hE)
                      clear hE
                      go_wp2_with fail
                      go_ret
                      exact ⟨rfl, HEz.out⟩
          · have hxl2 : ((x.length : Int) != (A.length : Int)) = true := by rw [bne_iff_ne]; omega
            have HE4 := Lib.hid (Ext.trans HE3.out HEr.out)
            go_wp2_with fail
            refine (alive_c wr).mono ?_
            rintro e wz ⟨rfl, hE⟩
            have HEz := Lib.hid (Ext.trans HE4.out hE)
            clear hE
            go_wp2_with fail
            go_ret
            exact ⟨rfl, HEz.out⟩
end Go.Proofs.Ytbcngojiikdigaa
