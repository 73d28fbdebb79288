import Derived.Test.YtbcngojiikdigaaMX
namespace Go.Proofs.Ytbcngojiikdigaa
set_option maxRecDepth 100000
open Go.RowKit Go.Shelf
theorem countB_nat {m : Nat} (h : m ≤ 1048576) : countB (m : Int) = true := by
  simp only [countB, Bool.and_eq_true, decide_eq_true_eq]; omega
theorem tdiv_bd {a q K : Int} (h : -K ≤ a ∧ a ≤ K) : -K ≤ a.tdiv q ∧ a.tdiv q ≤ K := by
  have h1 : (a.tdiv q).natAbs ≤ a.natAbs := by rw [Int.natAbs_tdiv]; exact Nat.div_le_self _ _
  omega
theorem xp_bd {x p : Int} (hx : 0 ≤ x ∧ x ≤ 100) (hp : -6000 ≤ p ∧ p ≤ 6000) : -600000 ≤ x * p ∧ x * p ≤ 600000 := by
  have h1 := Int.mul_le_mul_of_nonneg_left hp.1 hx.1
  have h2 := Int.mul_le_mul_of_nonneg_left hp.2 hx.1
  omega
/-- are all entries of the power m + x those of the power m with z added? -/
def RepAll (n : Nat) (A : MF) (m x : Nat) (z : Int) : Prop := ∀ i, i < n → ∀ j, j < n → pwF n A (m + x) i j = ep (pwF n A m i j) (some z)
/-- what repeats gives, of a statement that is true or not -/
def RepS (P : Prop) (e : Ending) : Prop := ∃ b : Bool, e = .returned (.bool b) ∧ (b = true ↔ P)
set_option maxHeartbeats 16000000 in
theorem repeats_c (ua : Value) (A : List (List Int)) (m x : Nat) (p q : Int) (w : World) (hA : Rows2 w ua A) (hlx : ∀ r ∈ A, r.length ≤ 1000000) (hm : matB A = true) (hs : spF A.length (entF A) = some (p, q)) (hmx : m + x ≤ 100000) (hx : x ≤ 100) :
    Calls Try.prog 22 #[ua, .int .i64 (m : Int), .int .i64 (x : Int), .agg #[.int .i64 p, .int .i64 q]] w fun e w' => RepS (((x : Int) * p).tmod q = 0 ∧ RepAll A.length (entF A) m x (((x : Int) * p).tdiv q)) e ∧ Ext w w' := by
  have HA := Lib.hid hA
  have HOA := Lib.hid (matB_ok hm)
  have hn := HOA.out.1
  have hb := spF_bd HOA.out.2.2 hn.2 hs
  have HPW := Lib.hid (fun (k : Nat) (hk : k ≤ 100000) W (h : Ext w W) => (Power_c ua A (k : Int) W (Rows2.ext HA.out h) hlx).mono (R' := fun e w' => ∃ r, e = two r (.int .i64 0) ∧ MatAt w' r A.length (pwF A.length (entF A) k) ∧ Ext W w') (fun e w' hh => by
    rcases hh.1 with ⟨h, _⟩ | ⟨_, _, r, h1, h2⟩
    · rw [hm, countB_nat (by omega)] at h; cases h
    · rw [Int.toNat_natCast] at h2; exact ⟨r, h1, h2.mat (by omega), hh.2⟩))
  have HBD := Lib.hid (fun k (hk : k ≤ 100000) => (bdF_pw HOA.out.2.2 k).mono (show (1000 : Int) * (k : Nat) ≤ 100000000 by omega))
  obtain ⟨a1, cA, rfl, hl1, hm1, _⟩ := hA.at
  obtain ⟨n, hnn⟩ : ∃ n, n = A.length := ⟨_, rfl⟩
  rw [← hnn] at HPW HBD hn hl1 ⊢
  generalize entF A = AF at *
  obtain ⟨xp, hxp⟩ : ∃ xp, xp = (x : Int) * p := ⟨_, rfl⟩
  have hxb := xp_bd (x := (x : Int)) (by omega) hb.1
  rw [← hxp] at hxb ⊢
  have hw : IntKind.i64.wrap ((x : Int) * p) = xp := by rw [← hxp]; exact IntWalk.i64_in _ (by omega)
  have HW := Lib.hid hw
  have hq0 : q ≠ 0 := by omega
  have hqb : (q == 0) = false := beq_eq_false_iff_ne.2 hq0
  have HQ0 := Lib.hid hqb
  have htb := tdiv_bd (q := q) hxb
  obtain ⟨tm, htm⟩ : ∃ tm, xp.tmod q = tm := ⟨_, rfl⟩
  obtain ⟨td, htd⟩ : ∃ td, xp.tdiv q = td := ⟨_, rfl⟩
  have HTD := Lib.hid htd
  rw [htd] at htb
  rw [htm, htd]
  obtain ⟨PP, hPP⟩ : ∃ PP : Prop, PP = (tm = 0 ∧ RepAll n AF m x td) := ⟨_, rfl⟩
  rw [← hPP]
  have HRF := Lib.hid (fun (h : ¬ (tm = 0 ∧ RepAll n AF m x td)) => (show RepS PP (.returned (.bool false)) from ⟨false, rfl, (fun h => by cases h), (fun k => absurd (hPP ▸ k) h)⟩))
  have HRT := Lib.hid (fun (h : tm = 0 ∧ RepAll n AF m x td) => (show RepS PP (.returned (.bool true)) from ⟨true, rfl, (fun _ => hPP.symm ▸ h), (fun _ => rfl)⟩))
  have HNN := Lib.hid hnn
  clear hA hlx hm hs hnn hxp hPP
  have hmw : IntKind.i64.wrap ((m : Int) + (x : Int)) = ((m + x : Nat) : Int) := by rw [IntWalk.i64_in _ (by omega)]; omega
  have HP0 := Lib.hid (vrow_alloc w [.int .i64 p, .int .i64 q] 26)
  have HE0 := Lib.hid (Ext.alloc (Ext.refl w) (.cells #[.int .i64 p, .int .i64 q] 26))
  change Hid (VRow (w.alloc (.cells #[.int .i64 p, .int .i64 q] 26)) _ _ _) at HP0
  go_enter Try.func22, Try.ntmps22
  go_wp2_with fail
  generalize w.alloc (.cells #[.int .i64 p, .int .i64 q] 26) = w1 at *
  obtain ⟨S, hS⟩ : ∃ S, S = w.heap.size := ⟨_, rfl⟩
  rw [← hS] at HP0
  rw [← hS]
  clear hS
  refine (HPW.out m (by omega) w1 HE0.out).mono ?_
  rintro e w2 ⟨r2, rfl, hr2, hE⟩
  have HE2 := Lib.hid (Ext.trans HE0.out hE)
  have HP2 := Lib.hid (VRow.ext HP0.out hE)
  have HR2 := Lib.hid hr2
  clear hE hr2
  unfold two
  go_wp2_with fail
  refine (HPW.out (m + x) (by omega) w2 HE2.out).mono ?_
  rintro e w3 ⟨r3, rfl, hr3, hE⟩
  have HE3 := Lib.hid (Ext.trans HE2.out hE)
  have HP3 := Lib.hid (VRow.ext HP2.out hE)
  have HR2 := Lib.hid (HR2.out.ext hE)
  have HR3 := Lib.hid hr3
  clear hE hr3
  unfold two
  go_wp2_with fail
  refine (square_c r2 (listM n (pwF n AF m)) n w3 (mat_rows HR2.out) (by omega) (list_short (by omega)) (by rw [listM_len]; omega)).mono ?_
  rintro e w4 ⟨rfl, hE⟩
  have HE4 := Lib.hid (Ext.trans HE3.out hE)
  have HP4 := Lib.hid (VRow.ext HP3.out hE)
  have HR2 := Lib.hid (HR2.out.ext hE)
  have HR3 := Lib.hid (HR3.out.ext hE)
  clear hE
  rw [sqB_list]
  go_wp2_with fail
  refine (square_c r3 (listM n (pwF n AF (m + x))) n w4 (mat_rows HR3.out) (by omega) (list_short (by omega)) (by rw [listM_len]; omega)).mono ?_
  rintro e w5 ⟨rfl, hE⟩
  have HE5 := Lib.hid (Ext.trans HE4.out hE)
  have HP5 := Lib.hid (VRow.ext HP4.out hE)
  have HR2 := Lib.hid (HR2.out.ext hE)
  have HR3 := Lib.hid (HR3.out.ext hE)
  clear hE
  rw [sqB_list]
  have c0 := VRow.cell HP5.out (k := 0) rfl
  have c1 := VRow.cell HP5.out (k := 1) rfl
  have kS := cell_lt c0
  by_cases hz : tm = 0
  · subst hz
    obtain ⟨pb, po, pc, rfl, hp1, hp2, hp3⟩ := HR2.out
    obtain ⟨qb, qo, qc, rfl, hq1, hq2, hq3⟩ := HR3.out
    have HP3' := Lib.hid hp3
    have HQ3 := Lib.hid hq3
    have HWT := Lib.hid (show IntKind.i64.wrap td = td from IntWalk.i64_in _ (by omega))
    have HQN := Lib.hid (show ¬ q = 0 from hq0)
    have HC5' := Lib.hid c0
    have HC6' := Lib.hid c1
    clear hp3 hq3
    go_wp2_with fail
    clear c0 c1
    go_loopw [13] (fun iv' wr => ∃ i : Nat, iv' = .int .i64 (i : Int) ∧ i ≤ n ∧ (∀ i', i' < i → ∀ j, j < n → pwF n AF (m + x) i' j = ep (pwF n AF m i' j) (some td)) ∧ Ext w5 wr) (fun iv' _ => n - (intOf iv').toNat)
    case atStart => exact ⟨0, rfl, Nat.zero_le _, (fun i' h => by omega), Ext.refl _⟩
    case round =>
      rename World => wr
      obtain ⟨i, rfl, hi, hQ, hE⟩ := hrel
      have HEr := Lib.hid hE
      have HQI := Lib.hid hQ
      clear hE hQ
      by_cases hil : i < n
      · go_wp2_with fail
        go_loopw [14] (fun jv wq => ∃ j : Nat, jv = .int .i64 (j : Int) ∧ j ≤ n ∧ (∀ j', j' < j → pwF n AF (m + x) i j' = ep (pwF n AF m i j') (some td)) ∧ Ext w5 wq) (fun jv _ => n - (intOf jv).toNat)
        case atStart => exact ⟨0, rfl, Nat.zero_le _, (fun j' h => by omega), HEr.out⟩
        case round =>
          rename World => wq
          obtain ⟨j, rfl, hj, hQ, hE⟩ := hrel
          have HEq := Lib.hid hE
          have HQJ := Lib.hid hQ
          clear hE hQ
          by_cases hjl : j < n
          · obtain ⟨u1, c1, hu1⟩ := HQ3.out i hil
            obtain ⟨u2, c2, hu2⟩ := HP3'.out i hil
            obtain ⟨b1, o1, d1, rfl, _, _, h1⟩ := hu1
            obtain ⟨b2, o2, d2, rfl, _, _, h2⟩ := hu2
            have HC1 := Lib.hid (Ext.cell HEq.out c1)
            have HC2 := Lib.hid (Ext.cell HEq.out (h1 j hjl))
            have HC3 := Lib.hid (Ext.cell HEq.out c2)
            have HC4 := Lib.hid (Ext.cell HEq.out (h2 j hjl))
            have HC5 := Lib.hid (Ext.cell HEq.out HC5'.out)
            have HC6 := Lib.hid (Ext.cell HEq.out HC6'.out)
            clear c1 c2 h1 h2
            have hb1 := (HBD.out (m + x) hmx) i hil j hjl
            have hb2 := (HBD.out m (by omega)) i hil j hjl
            have hb3 : bdE 600000 (some td) := fun y hy => by injection hy with hy; omega
            have HPL := Lib.hid (fun W => (show Calls Try.prog 12 #[iv (pwF n AF m i j), .int .i64 td] W _ from lplus_c (pwF n AF m i j) (some td) W (hb2.mono (by unfold KB; omega)) (hb3.mono (by unfold KB; omega))))
            obtain ⟨bne, hbne⟩ : ∃ b, b = decide (¬ pwF n AF (m + x) i j = ep (pwF n AF m i j) (some td)) := ⟨_, rfl⟩
            have HNE := Lib.hid (show (val (pwF n AF (m + x) i j) != val (ep (pwF n AF m i j) (some td))) = bne from by
              rw [hbne]
              by_cases e : pwF n AF (m + x) i j = ep (pwF n AF m i j) (some td)
              · rw [decide_eq_false (fun h => h e), e]; simp
              · rw [decide_eq_true e]
                exact bne_iff_ne.2 fun h => e (val_inj (K := KB) (by decide) (hb1.mono (by unfold KB; omega)) ((bdE_ep hb2 hb3).mono (by unfold KB; omega)) h))
            have HB := Lib.hid hbne
            clear hbne hb1 hb2 hb3
            generalize hqe : pwF n AF (m + x) i j = qij at *
            generalize hpe : pwF n AF m i j = pij at *
            have HQE := Lib.hid hqe
            have HPE := Lib.hid hpe
            clear hqe hpe
            go_wp2_with fail
            refine wp_region_stable [⟨[], none⟩, ⟨[], none⟩, ⟨[(0, 71), (1, 72)], none⟩, ⟨[(2, 73)], none⟩, ⟨[], none⟩, ⟨[(3, 74), (4, 75)], none⟩, ⟨[(5, 76)], none⟩, ⟨[], none⟩, ⟨[], none⟩, ⟨[(7, 78), (8, 79)], none⟩, ⟨[(9, 80)], none⟩, ⟨[], none⟩, ⟨[(10, 81), (11, 82)], none⟩, ⟨[(12, 83)], none⟩, ⟨[], none⟩, ⟨[], none⟩, ⟨[(15, 86)], none⟩, ⟨[(14, 85), (16, 87)], none⟩, ⟨[], none⟩, ⟨[(18, 89)], none⟩, ⟨[(17, 88), (19, 90)], none⟩, ⟨[(13, 84), (20, 91)], none⟩, ⟨[(6, 77), (21, 92)], none⟩] (fun x y => Below x.heap.size x y) (MPat [MP.eq (.slice (some ⟨qb, qo, none⟩) n qc), MP.eq (.int .i64 (i : Int)), MP.eq (.pointer (some ⟨qb, qo + i, none⟩)), MP.eq (.slice (some ⟨b1, o1, none⟩) n d1), MP.eq (.int .i64 (j : Int)), MP.eq (.pointer (some ⟨b1, o1 + j, none⟩)), MP.eq (iv qij), MP.eq (.slice (some ⟨pb, po, none⟩) n pc), MP.eq (.int .i64 (i : Int)), MP.eq (.pointer (some ⟨pb, po + i, none⟩)), MP.eq (.slice (some ⟨b2, o2, none⟩) n d2), MP.eq (.int .i64 (j : Int)), MP.eq (.pointer (some ⟨b2, o2 + j, none⟩)), MP.eq (iv pij), MP.eq (.int .i64 (x : Int)), MP.eq (.pointer (some ⟨S, 0, none⟩)), MP.eq (.int .i64 p), MP.eq (.int .i64 xp), MP.eq (.pointer (some ⟨S, 1, none⟩)), MP.eq (.int .i64 q), MP.eq (.int .i64 td), MP.eq (iv (ep pij (some td))), MP.eq (.bool bne)]) (by kernel_rfl) (fun _ _ _ h k => Ext.trans h k) (fun _ => Below.refl _ _) (fun x => (Below.refl x.heap.size x).drew) (MPat.mono _) (by kernel_rfl) ?obs ?rest
            case obs =>
              refine ⟨?_, ?_, ?_, ?_, ?_, ?_, ?_, ?_, ?_, ?_, ?_, ?_, ?_, ?_, ?_, ?_, ?_, ?_, ?_, ?_, ?_, ?_, ?_, trivial⟩
              · intro ev W hf _ _ hst hd
                have e11 : ev (.tmp 11) = .slice (some ⟨qb, qo, none⟩) n qc := hf 11 (by kernel_rfl)
                refine st_value (v := .slice (some ⟨qb, qo, none⟩) n qc) ?_ (Below.refl _ _) ?_
                · simp [execOp, go_sem, e11]
                · exact rfl
              · intro ev W hf _ _ hst hd
                have e13 : ev (.tmp 13) = .int .i64 (i : Int) := hf 13 (by kernel_rfl)
                refine st_value (v := .int .i64 (i : Int)) ?_ (Below.refl _ _) ?_
                · simp [execOp, go_sem, e13]
                · exact rfl
              · intro ev W hf _ _ hst hd
                obtain ⟨d71, d72, _⟩ := hd
                have e71 : ev (.tmp 71) = .slice (some ⟨qb, qo, none⟩) n qc := d71
                have e72 : ev (.tmp 72) = .int .i64 (i : Int) := d72
                refine st_value (v := .pointer (some ⟨qb, qo + i, none⟩)) ?_ (Below.refl _ _) ?_
                · simp [execOp, go_sem, e71, e72, hil]
                · exact rfl
              · intro ev W hf _ _ hst hd
                obtain ⟨d73, _⟩ := hd
                have e73 : ev (.tmp 73) = .pointer (some ⟨qb, qo + i, none⟩) := d73
                have q0 := Ext.cell hst HC1.out
                refine st_value (v := .slice (some ⟨b1, o1, none⟩) n d1) ?_ (Below.refl _ _) ?_
                · simp [execOp, go_sem, e73, q0]
                · exact rfl
              · intro ev W hf _ _ hst hd
                have e14 : ev (.tmp 14) = .int .i64 (j : Int) := hf 14 (by kernel_rfl)
                refine st_value (v := .int .i64 (j : Int)) ?_ (Below.refl _ _) ?_
                · simp [execOp, go_sem, e14]
                · exact rfl
              · intro ev W hf _ _ hst hd
                obtain ⟨d74, d75, _⟩ := hd
                have e74 : ev (.tmp 74) = .slice (some ⟨b1, o1, none⟩) n d1 := d74
                have e75 : ev (.tmp 75) = .int .i64 (j : Int) := d75
                refine st_value (v := .pointer (some ⟨b1, o1 + j, none⟩)) ?_ (Below.refl _ _) ?_
                · simp [execOp, go_sem, e74, e75, hjl]
                · exact rfl
              · intro ev W hf _ _ hst hd
                obtain ⟨d76, _⟩ := hd
                have e76 : ev (.tmp 76) = .pointer (some ⟨b1, o1 + j, none⟩) := d76
                have q0 := Ext.cell hst HC2.out
                refine st_value (v := iv qij) ?_ (Below.refl _ _) ?_
                · simp [execOp, go_sem, e76, q0]
                · exact rfl
              · intro ev W hf _ _ hst hd
                have e9 : ev (.tmp 9) = .slice (some ⟨pb, po, none⟩) n pc := hf 9 (by kernel_rfl)
                refine st_value (v := .slice (some ⟨pb, po, none⟩) n pc) ?_ (Below.refl _ _) ?_
                · simp [execOp, go_sem, e9]
                · exact rfl
              · intro ev W hf _ _ hst hd
                have e13 : ev (.tmp 13) = .int .i64 (i : Int) := hf 13 (by kernel_rfl)
                refine st_value (v := .int .i64 (i : Int)) ?_ (Below.refl _ _) ?_
                · simp [execOp, go_sem, e13]
                · exact rfl
              · intro ev W hf _ _ hst hd
                obtain ⟨d78, d79, _⟩ := hd
                have e78 : ev (.tmp 78) = .slice (some ⟨pb, po, none⟩) n pc := d78
                have e79 : ev (.tmp 79) = .int .i64 (i : Int) := d79
                refine st_value (v := .pointer (some ⟨pb, po + i, none⟩)) ?_ (Below.refl _ _) ?_
                · simp [execOp, go_sem, e78, e79, hil]
                · exact rfl
              · intro ev W hf _ _ hst hd
                obtain ⟨d80, _⟩ := hd
                have e80 : ev (.tmp 80) = .pointer (some ⟨pb, po + i, none⟩) := d80
                have q0 := Ext.cell hst HC3.out
                refine st_value (v := .slice (some ⟨b2, o2, none⟩) n d2) ?_ (Below.refl _ _) ?_
                · simp [execOp, go_sem, e80, q0]
                · exact rfl
              · intro ev W hf _ _ hst hd
                have e14 : ev (.tmp 14) = .int .i64 (j : Int) := hf 14 (by kernel_rfl)
                refine st_value (v := .int .i64 (j : Int)) ?_ (Below.refl _ _) ?_
                · simp [execOp, go_sem, e14]
                · exact rfl
              · intro ev W hf _ _ hst hd
                obtain ⟨d81, d82, _⟩ := hd
                have e81 : ev (.tmp 81) = .slice (some ⟨b2, o2, none⟩) n d2 := d81
                have e82 : ev (.tmp 82) = .int .i64 (j : Int) := d82
                refine st_value (v := .pointer (some ⟨b2, o2 + j, none⟩)) ?_ (Below.refl _ _) ?_
                · simp [execOp, go_sem, e81, e82, hjl]
                · exact rfl
              · intro ev W hf _ _ hst hd
                obtain ⟨d83, _⟩ := hd
                have e83 : ev (.tmp 83) = .pointer (some ⟨b2, o2 + j, none⟩) := d83
                have q0 := Ext.cell hst HC4.out
                refine st_value (v := iv pij) ?_ (Below.refl _ _) ?_
                · simp [execOp, go_sem, e83, q0]
                · exact rfl
              · intro ev W hf _ _ hst hd
                have e2 : ev (.tmp 2) = .int .i64 (x : Int) := hf 2 (by kernel_rfl)
                refine st_value (v := .int .i64 (x : Int)) ?_ (Below.refl _ _) ?_
                · simp [execOp, go_sem, e2]
                · exact rfl
              · intro ev W hf _ _ hst hd
                have e7 : ev (.tmp 7) = .pointer (some ⟨S, 0, none⟩) := hf 7 (by kernel_rfl)
                refine st_value (v := .pointer (some ⟨S, 0, none⟩)) ?_ (Below.refl _ _) ?_
                · simp [execOp, go_sem, e7]
                · exact rfl
              · intro ev W hf _ _ hst hd
                obtain ⟨d86, _⟩ := hd
                have e86 : ev (.tmp 86) = .pointer (some ⟨S, 0, none⟩) := d86
                have q0 := Ext.cell hst HC5.out
                refine st_value (v := .int .i64 p) ?_ (Below.refl _ _) ?_
                · simp [execOp, go_sem, e86, q0]
                · exact rfl
              · intro ev W hf _ _ hst hd
                obtain ⟨d85, d87, _⟩ := hd
                have e85 : ev (.tmp 85) = .int .i64 (x : Int) := d85
                have e87 : ev (.tmp 87) = .int .i64 p := d87
                refine st_value (v := .int .i64 xp) ?_ (Below.refl _ _) ?_
                · simp [execOp, go_sem, e85, e87, HW.out]
                · exact rfl
              · intro ev W hf _ _ hst hd
                have e7 : ev (.tmp 7) = .pointer (some ⟨S, 0, none⟩) := hf 7 (by kernel_rfl)
                refine st_value (v := .pointer (some ⟨S, 1, none⟩)) ?_ (Below.refl _ _) ?_
                · simp [execOp, go_sem, e7]
                · exact rfl
              · intro ev W hf _ _ hst hd
                obtain ⟨d89, _⟩ := hd
                have e89 : ev (.tmp 89) = .pointer (some ⟨S, 1, none⟩) := d89
                have q0 := Ext.cell hst HC6.out
                refine st_value (v := .int .i64 q) ?_ (Below.refl _ _) ?_
                · simp [execOp, go_sem, e89, q0]
                · exact rfl
              · intro ev W hf _ _ hst hd
                obtain ⟨d88, d90, _⟩ := hd
                have e88 : ev (.tmp 88) = .int .i64 xp := d88
                have e90 : ev (.tmp 90) = .int .i64 q := d90
                refine st_value (v := .int .i64 td) ?_ (Below.refl _ _) ?_
                · simp [execOp, go_sem, e88, e90, HTD.out, HQN.out, HWT.out]
                · exact rfl
              · intro ev W hf _ hfn hst hd
                obtain ⟨d84, d91, _⟩ := hd
                have e84 : ev (.tmp 84) = iv pij := d84
                have e91 : ev (.tmp 91) = .int .i64 td := d91
                refine st_call (f := 12) (args := #[iv pij, .int .i64 td]) (by simp [execOp, go_sem, hfn, e84, e91]) (HPL.out W) (fun _ _ => rfl)
              · intro ev W hf _ _ hst hd
                obtain ⟨d77, d92, _⟩ := hd
                have e77 : ev (.tmp 77) = iv qij := d77
                have e92 : ev (.tmp 92) = iv (ep pij (some td)) := d92
                refine st_value (v := .bool bne) ?_ (Below.refl _ _) ?_
                · simp [execOp, go_sem, e77, e92, HNE.out]
                · exact rfl
            case rest =>
              intro vs w3 hl hst hg
              have HE3 := Lib.hid hst
              have hus : vs = [.slice (some ⟨qb, qo, none⟩) n qc, .int .i64 (i : Int), .pointer (some ⟨qb, qo + i, none⟩), .slice (some ⟨b1, o1, none⟩) n d1, .int .i64 (j : Int), .pointer (some ⟨b1, o1 + j, none⟩), iv qij, .slice (some ⟨pb, po, none⟩) n pc, .int .i64 (i : Int), .pointer (some ⟨pb, po + i, none⟩), .slice (some ⟨b2, o2, none⟩) n d2, .int .i64 (j : Int), .pointer (some ⟨b2, o2 + j, none⟩), iv pij, .int .i64 (x : Int), .pointer (some ⟨S, 0, none⟩), .int .i64 p, .int .i64 xp, .pointer (some ⟨S, 1, none⟩), .int .i64 q, .int .i64 td, iv (ep pij (some td)), .bool bne] := list_of hl (fun i u hu => by
                match i, hu with
                | 0, hu => exact (congrArg some (hg 0 u hu)).symm
                | 1, hu => exact (congrArg some (hg 1 u hu)).symm
                | 2, hu => exact (congrArg some (hg 2 u hu)).symm
                | 3, hu => exact (congrArg some (hg 3 u hu)).symm
                | 4, hu => exact (congrArg some (hg 4 u hu)).symm
                | 5, hu => exact (congrArg some (hg 5 u hu)).symm
                | 6, hu => exact (congrArg some (hg 6 u hu)).symm
                | 7, hu => exact (congrArg some (hg 7 u hu)).symm
                | 8, hu => exact (congrArg some (hg 8 u hu)).symm
                | 9, hu => exact (congrArg some (hg 9 u hu)).symm
                | 10, hu => exact (congrArg some (hg 10 u hu)).symm
                | 11, hu => exact (congrArg some (hg 11 u hu)).symm
                | 12, hu => exact (congrArg some (hg 12 u hu)).symm
                | 13, hu => exact (congrArg some (hg 13 u hu)).symm
                | 14, hu => exact (congrArg some (hg 14 u hu)).symm
                | 15, hu => exact (congrArg some (hg 15 u hu)).symm
                | 16, hu => exact (congrArg some (hg 16 u hu)).symm
                | 17, hu => exact (congrArg some (hg 17 u hu)).symm
                | 18, hu => exact (congrArg some (hg 18 u hu)).symm
                | 19, hu => exact (congrArg some (hg 19 u hu)).symm
                | 20, hu => exact (congrArg some (hg 20 u hu)).symm
                | 21, hu => exact (congrArg some (hg 21 u hu)).symm
                | 22, hu => exact (congrArg some (hg 22 u hu)).symm
                | n + 23, hu => exact absurd (lt_len hu) (by rw [hl]; simp))
              clear hg hst hl
              subst hus
              simp only [putAll, Act.put, List.dropLast, List.setIfInBounds_toArray, List.set_cons_zero, List.set_cons_succ]
              cases bne with
              | true =>
                go_wp2_with fail
                go_ret
                exact ⟨HRF.out fun h => absurd (h.2 i hil j hjl) (by rw [HQE.out, HPE.out]; exact of_decide_eq_true HB.out.symm), Ext.trans HE5.out (Ext.trans HEq.out HE3.out)⟩
              | false =>
                go_wp2_with fail
                refine ⟨⟨j + 1, by simp, by omega, fun j' hj' => ?_, Ext.trans HEq.out HE3.out⟩, by simp [intOf]; omega⟩
                by_cases e : j' = j
                · rw [e, HQE.out, HPE.out]; exact Decidable.of_not_not (of_decide_eq_false HB.out.symm)
                · exact HQJ.out j' (by omega)
          · obtain rfl : j = n := by omega
            go_wp2_with fail
            refine ⟨⟨i + 1, by simp, by omega, fun i' hi' => ?_, HEq.out⟩, by simp [intOf]; omega⟩
            by_cases e : i' = i
            · rw [e]; exact HQJ.out
            · exact HQI.out i' (by omega)
      · obtain rfl : i = n := by omega
        go_wp2_with fail
        go_ret
        exact ⟨HRT.out ⟨by trivial, HQI.out⟩, Ext.trans HE5.out HEr.out⟩
  · have hzb : (tm != 0) = true := bne_iff_ne.2 hz
    go_wp2_with fail
    go_ret
    exact ⟨HRF.out fun h => hz h.1, HE5.out⟩
end Go.Proofs.Ytbcngojiikdigaa
namespace Go.Proofs.Ytbcngojiikdigaa
set_option maxRecDepth 100000
open Go.RowKit Go.Shelf
theorem conn_lv (n : Nat) (p q : Int) (A : MF) : connB n (lvF p q A) = connB n A := by
  have h : arcF (lvF p q A) = arcF A := by
    funext i j
    show arcE (lvE p q (A i j)) = arcE (A i j)
    cases A i j <;> rfl
  unfold connB
  rw [h]
/-- the powers m and m + x, held against the level matrix -/
theorem rep_eq {n : Nat} {A : MF} {p q : Int} (hq : 0 < q) {m x : Nat} (h : ((x : Int) * p).tmod q = 0) : RepAll n A m x (((x : Int) * p).tdiv q) ↔ eqF n (pwF n (lvF p q A) (m + x)) (pwF n (lvF p q A) m) := by
  have hz : q * ((x : Int) * p).tdiv q = p * x := by rw [Int.mul_tdiv_cancel_of_tmod_eq_zero h, Int.mul_comm]
  exact rep_iff hq hz
theorem speedZ_some {A : List (List Int)} {p q : Int} (hm : matB A = true) (hs : spF A.length (entF A) = some (p, q)) : speedZ A = (p, q, 0) := by unfold speedZ; rw [hm, hs]; rfl
theorem speedZ_none {A : List (List Int)} (hm : matB A = true) (hs : spF A.length (entF A) = none) : speedZ A = (0, 0, 10) := by unfold speedZ; rw [hm, hs]; rfl
theorem speedZ_false {A : List (List Int)} (hm : matB A = false) : speedZ A = (0, 0, 2) := by unfold speedZ; rw [hm]; rfl
theorem con_true {A : List (List Int)} {e : Ending} (hm : matB A = true) (h : ConS A e) : e = two (.bool (connB A.length (entF A))) (.int .i64 0) := by
  rcases h with ⟨h1, _⟩ | ⟨_, h⟩
  · rw [hm] at h1; cases h1
  · exact h
theorem con_false {A : List (List Int)} {e : Ending} (hm : matB A = false) (h : ConS A e) : e = two (.bool false) (.int .i64 2) := by
  rcases h with ⟨_, h⟩ | ⟨h1, _⟩
  · exact h
  · rw [hm] at h1; cases h1
set_option maxHeartbeats 16000000 in
theorem repeats_law (ua : Value) (A : List (List Int)) (k : Int) (w : World) (hA : Rows2 w ua A) (hk : 0 ≤ k ∧ k ≤ 255) : Calls Try.prog 6 #[ua, .int .u8 k] w fun e w' => e = .returned (.bool true) ∧ Ext w w' := by
  obtain ⟨kn, rfl⟩ : ∃ kn : Nat, k = kn := ⟨k.toNat, by omega⟩
  have HA := Lib.hid hA
  have HFA := Lib.hid (few_c ua A w hA)
  obtain ⟨aa, ca, rfl, _, _, _⟩ := hA.at
  clear hA
  cases hfa : few20 A with
  | false =>
    rw [hfa] at HFA
    clear hfa
    go_enter Try.func6, Try.ntmps6
    go_wp2_with fail
    refine HFA.out.mono ?_
    rintro e w1 ⟨rfl, hE⟩
    have HE := Lib.hid hE
    clear hE
    go_wp2_with fail
    refine (alive_c w1).mono ?_
    rintro e wz ⟨rfl, hE⟩
    have HEz := Lib.hid (Ext.trans HE.out hE)
    clear hE
    go_wp2_with fail
    go_ret
    exact ⟨rfl, HEz.out⟩
  | true =>
    have HLA := Lib.hid (few20_ok hfa).2
    rw [hfa] at HFA
    clear hfa
    go_enter Try.func6, Try.ntmps6
    go_wp2_with fail
    refine HFA.out.mono ?_
    rintro e w1 ⟨rfl, hE⟩
    have HE1 := Lib.hid hE
    clear hE
    go_wp2_with fail
    refine (RegZ_c _ A w1 (Rows2.ext HA.out HE1.out) HLA.out).mono ?_
    rintro e w2 ⟨hS, hE⟩
    have HE2 := Lib.hid (Ext.trans HE1.out hE)
    clear hE
    have HSP := Lib.hid (fun W (h : Ext w W) => Speed_c _ A W (Rows2.ext HA.out h) HLA.out)
    have HCN := Lib.hid (fun W (h : Ext w W) => Connected_c _ A W (Rows2.ext HA.out h) HLA.out)
    rcases hS with ⟨hm, rfl⟩ | ⟨hm, hs, rfl⟩ | ⟨hm, p, q, hs, hc, rfl⟩ | ⟨hm, p, q, hs, hc, rfl⟩
    · have HCF := Lib.hid (fun e (h : ConS A e) => con_false hm h)
      rw [speedZ_false hm] at HSP
      clear hm
      unfold three two at *
      go_wp2_with fail
      refine (HSP.out _ HE2.out).mono ?_
      rintro e w3 ⟨rfl, hE⟩
      have HE3 := Lib.hid (Ext.alloc (Ext.trans HE2.out hE) (.cells #[.int .i64 0, .int .i64 0] 26))
      clear hE
      go_wp2_with fail
      generalize w3.alloc (.cells #[.int .i64 0, .int .i64 0] 26) = w4 at *
      refine (HCN.out _ HE3.out).mono ?_
      rintro e w5 ⟨hC, hE⟩
      rw [HCF.out _ hC]
      have HE5 := Lib.hid (Ext.trans HE3.out hE)
      clear hE hC
      go_wp2_with fail
      refine (alive_c w5).mono ?_
      rintro e wz ⟨rfl, hE⟩
      have HEz := Lib.hid (Ext.trans HE5.out hE)
      clear hE
      go_wp2_with fail
      go_ret
      exact ⟨rfl, HEz.out⟩
    · have HCF := Lib.hid (fun e (h : ConS A e) => con_true hm h)
      rw [speedZ_none hm hs] at HSP
      clear hm hs
      generalize connB A.length (entF A) = cb at *
      unfold three two at *
      go_wp2_with fail
      refine (HSP.out _ HE2.out).mono ?_
      rintro e w3 ⟨rfl, hE⟩
      have HE3 := Lib.hid (Ext.alloc (Ext.trans HE2.out hE) (.cells #[.int .i64 0, .int .i64 0] 26))
      clear hE
      go_wp2_with fail
      generalize w3.alloc (.cells #[.int .i64 0, .int .i64 0] 26) = w4 at *
      refine (HCN.out _ HE3.out).mono ?_
      rintro e w5 ⟨hC, hE⟩
      rw [HCF.out _ hC]
      have HE5 := Lib.hid (Ext.trans HE3.out hE)
      clear hE hC
      go_wp2_with fail
      refine (alive_c w5).mono ?_
      rintro e wz ⟨rfl, hE⟩
      have HEz := Lib.hid (Ext.trans HE5.out hE)
      clear hE
      go_wp2_with fail
      go_ret
      exact ⟨rfl, HEz.out⟩
    · rw [conn_lv] at hc
      have HCF := Lib.hid (fun e (h : ConS A e) => con_true hm h)
      rw [speedZ_some hm hs] at HSP
      rw [hc] at HCF
      clear hm hs hc
      unfold three two at *
      go_wp2_with fail
      refine (HSP.out _ HE2.out).mono ?_
      rintro e w3 ⟨rfl, hE⟩
      have HE3 := Lib.hid (Ext.alloc (Ext.trans HE2.out hE) (.cells #[.int .i64 p, .int .i64 q] 26))
      clear hE
      go_wp2_with fail
      generalize w3.alloc (.cells #[.int .i64 p, .int .i64 q] 26) = w4 at *
      refine (HCN.out _ HE3.out).mono ?_
      rintro e w5 ⟨hC, hE⟩
      rw [HCF.out _ hC]
      have HE5 := Lib.hid (Ext.trans HE3.out hE)
      clear hE hC
      go_wp2_with fail
      refine (alive_c w5).mono ?_
      rintro e wz ⟨rfl, hE⟩
      have HEz := Lib.hid (Ext.trans HE5.out hE)
      clear hE
      go_wp2_with fail
      go_ret
      exact ⟨rfl, HEz.out⟩
    · have hn := (matB_ok hm).1
      have hb := spF_bd (matB_ok hm).2.2 hn.2 hs
      have hreg := lv_regular hn.1 hn.2 (matB_ok hm).2.2 hs hc
      have hpb := per_bd hreg
      have hdv := Int.tmod_eq_zero_of_dvd (per_dvd hs hreg)
      have hlaw := rep_law hreg
      rw [conn_lv] at hc
      have HCF := Lib.hid (fun e (h : ConS A e) => con_true hm h)
      rw [speedZ_some hm hs] at HSP
      rw [hc] at HCF
      have HREP := Lib.hid (fun (m x : Nat) W (h : Ext w W) (h1 : m + x ≤ 100000) (h2 : x ≤ 100) => repeats_c _ A m x p q W (Rows2.ext HA.out h) HLA.out hm hs h1 h2)
      have HEQ := Lib.hid (fun (m x : Nat) (h : ((x : Int) * p).tmod q = 0) => rep_eq (n := A.length) (A := entF A) (p := p) (show 0 < q by omega) (m := m) (x := x) h)
      generalize lvF p q (entF A) = B at *
      obtain ⟨c, hcc⟩ : ∃ c, c = periodF A.length B := ⟨_, rfl⟩
      obtain ⟨kk, hkk⟩ : ∃ kk, kk = regK A.length B := ⟨_, rfl⟩
      rw [← hcc] at hpb hdv hlaw ⊢
      rw [← hkk] at hlaw ⊢
      obtain ⟨l1, l2, l3⟩ := hlaw
      have HT := Lib.hid (fun (j : Nat) W (h : Ext w W) (h1 : kk + j + c ≤ 100000) => (show Calls Try.prog 22 #[.slice aa A.length ca, .int .i64 ((kk : Int) + (j : Int)), .int .i64 (c : Int), .agg #[.int .i64 p, .int .i64 q]] W _ from by rw [← Int.natCast_add]; exact HREP.out (kk + j) c W h h1 (by omega)).mono (R' := fun e w' => e = .returned (.bool true) ∧ Ext W w') (fun e w' hh => by
        obtain ⟨⟨b, rfl, hb⟩, hE⟩ := hh
        have : b = true := hb.2 ⟨hdv, (HEQ.out (kk + j) c hdv).2 (l1 j)⟩
        rw [this]
        exact ⟨rfl, hE⟩))
      have HT0 := Lib.hid (fun W (h : Ext w W) (h1 : kk + c ≤ 100000) => (HREP.out kk c W h h1 (by omega)).mono (R' := fun e w' => e = .returned (.bool true) ∧ Ext W w') (fun e w' hh => by
        obtain ⟨⟨b, rfl, hb⟩, hE⟩ := hh
        have : b = true := hb.2 ⟨hdv, (HEQ.out kk c hdv).2 (l1 0)⟩
        rw [this]
        exact ⟨rfl, hE⟩))
      have HFa := Lib.hid (fun (m : Nat) W (h : Ext w W) (h1 : m + c ≤ 100000) (hmk : m < kk) => (HREP.out m c W h h1 (by omega)).mono (R' := fun e w' => e = .returned (.bool false) ∧ Ext W w') (fun e w' hh => by
        obtain ⟨⟨b, rfl, hb⟩, hE⟩ := hh
        have : b = false := by
          cases b with
          | false => rfl
          | true => obtain ⟨h1, h2⟩ := hb.1 rfl; exact absurd ((HEQ.out m c h1).1 h2) (l2 m hmk)
        rw [this]
        exact ⟨rfl, hE⟩))
      have HFb := Lib.hid (fun (x : Nat) W (h : Ext w W) (h1 : kk + x ≤ 100000) (hx1 : 1 ≤ x) (hxc : x < c) => (HREP.out kk x W h h1 (by omega)).mono (R' := fun e w' => e = .returned (.bool false) ∧ Ext W w') (fun e w' hh => by
        obtain ⟨⟨b, rfl, hb⟩, hE⟩ := hh
        have : b = false := by
          cases b with
          | false => rfl
          | true => obtain ⟨h1, h2⟩ := hb.1 rfl; exact absurd ((HEQ.out kk x h1).1 h2) (l3 x kk hx1 hxc)
        rw [this]
        exact ⟨rfl, hE⟩))
      have hcp := xp_bd (x := (c : Int)) (p := p) (by omega) hb.1
      obtain ⟨cp, hcpe⟩ : ∃ cp, cp = (c : Int) * p := ⟨_, rfl⟩
      rw [← hcpe] at hcp hdv
      have hwc : IntKind.i64.wrap ((c : Int) * p) = cp := by rw [← hcpe]; exact IntWalk.i64_in _ (by omega)
      have hq0 : q ≠ 0 := by omega
      have hqb : (q == 0) = false := beq_eq_false_iff_ne.2 hq0
      clear hm hs hc hreg l1 l2 l3 HREP HEQ hn hcc hkk hcpe
      unfold three two at *
      go_wp2_with fail
      refine (HSP.out _ HE2.out).mono ?_
      rintro e w3 ⟨rfl, hE⟩
      have HE3 := Lib.hid (Ext.alloc (Ext.trans HE2.out hE) (.cells #[.int .i64 p, .int .i64 q] 26))
      have HP3 := Lib.hid (show VRow (w3.alloc (.cells #[.int .i64 p, .int .i64 q] 26)) _ _ _ from vrow_alloc w3 [.int .i64 p, .int .i64 q] 26)
      clear hE
      go_wp2_with fail
      generalize w3.alloc (.cells #[.int .i64 p, .int .i64 q] 26) = w4 at *
      obtain ⟨S, hS⟩ : ∃ S, S = w3.heap.size := ⟨_, rfl⟩
      rw [← hS] at HP3
      rw [← hS]
      clear hS
      refine (HCN.out _ HE3.out).mono ?_
      rintro e w5 ⟨hC, hE⟩
      rw [HCF.out _ hC]
      have HE5 := Lib.hid (Ext.trans HE3.out hE)
      have HP5 := Lib.hid (VRow.ext HP3.out hE)
      have c0 := VRow.cell HP5.out (k := 0) rfl
      have c1 := VRow.cell HP5.out (k := 1) rfl
      clear hE hC
      by_cases hbig : 20000 < kk
      · go_wp2_with fail
        refine (alive_c w5).mono ?_
        rintro e wz ⟨rfl, hE⟩
        have HEz := Lib.hid (Ext.trans HE5.out hE)
        clear hE
        go_wp2_with fail
        go_ret
        exact ⟨rfl, HEz.out⟩
      · go_wp2_with fail
        refine (HT.out kn w5 HE5.out (by omega)).mono ?_
        rintro e w6 ⟨rfl, hE⟩
        have HE6 := Lib.hid (Ext.trans HE5.out hE)
        have HP6 := Lib.hid (VRow.ext HP5.out hE)
        clear hE c0 c1
        have c0 := VRow.cell HP6.out (k := 0) rfl
        have c1 := VRow.cell HP6.out (k := 1) rfl
        go_wp2_with fail
        refine (HT0.out w6 HE6.out (by omega)).mono ?_
        rintro e w7 ⟨rfl, hE⟩
        have HE7 := Lib.hid (Ext.trans HE6.out hE)
        have HP7 := Lib.hid (VRow.ext HP6.out hE)
        clear hE c0 c1
        have c0 := VRow.cell HP7.out (k := 0) rfl
        have c1 := VRow.cell HP7.out (k := 1) rfl
        have HREST := Lib.hid HFb.out
        by_cases hk0 : kk = 0
        · have hkn : ¬ (0 : Int) < kk := by omega
          clear hk0
          go_wp2_with fail
          clear c0 c1
          go_loopw [12] (fun xv wr => ∃ x : Nat, xv = .int .i64 (x : Int) ∧ 1 ≤ x ∧ x ≤ c ∧ Ext w7 wr) (fun xv _ => c - (intOf xv).toNat)
          case atStart => exact ⟨1, rfl, Nat.le_refl _, by omega, Ext.refl _⟩
          case round =>
            rename World => wr
            obtain ⟨x, rfl, hx1, hx2, hE⟩ := hrel
            have HEr := Lib.hid (Ext.trans HE7.out hE)
            have HEq := Lib.hid hE
            have HPr := Lib.hid (VRow.ext HP7.out hE)
            clear hE
            have c0 := VRow.cell HPr.out (k := 0) rfl
            have c1 := VRow.cell HPr.out (k := 1) rfl
            by_cases hxc : x < c
            · go_wp2_with fail
              refine (HREST.out x wr HEr.out (by omega) hx1 hxc).mono ?_
              rintro e wy ⟨rfl, hE⟩
              have HEy := Lib.hid (Ext.trans HEq.out hE)
              clear hE c0 c1
              go_wp2_with fail
              exact ⟨⟨x + 1, by simp, by omega, by omega, HEy.out⟩, by simp [intOf]; omega⟩
            · obtain rfl : x = c := by omega
              go_wp2_with fail
              refine (alive_c wr).mono ?_
              rintro e wz ⟨rfl, hE⟩
              have HEz := Lib.hid (Ext.trans HEr.out hE)
              clear hE
              go_wp2_with fail
              go_ret
              exact ⟨rfl, HEz.out⟩
        · obtain ⟨k1, hk1⟩ : ∃ k1, kk = k1 + 1 := ⟨kk - 1, by omega⟩
          have hk1w : IntKind.i64.wrap ((kk : Int) - 1) = (k1 : Int) := by rw [IntWalk.i64_in _ (by omega)]; omega
          have hkpos : (0 : Int) < kk := by omega
          have HFK := Lib.hid (fun W (h : Ext w W) => HFa.out k1 W h (by omega) (by omega))
          have HK1 := Lib.hid hk1
          clear hk1
          go_wp2_with fail
          refine (HFK.out w7 HE7.out).mono ?_
          rintro e w8 ⟨rfl, hE⟩
          have HE8 := Lib.hid (Ext.trans HE7.out hE)
          have HP8 := Lib.hid (VRow.ext HP7.out hE)
          clear hE c0 c1
          have c0 := VRow.cell HP8.out (k := 0) rfl
          have c1 := VRow.cell HP8.out (k := 1) rfl
          go_wp2_with fail
          clear c0 c1
          go_loopw [12] (fun xv wr => ∃ x : Nat, xv = .int .i64 (x : Int) ∧ 1 ≤ x ∧ x ≤ c ∧ Ext w8 wr) (fun xv _ => c - (intOf xv).toNat)
          case atStart => exact ⟨1, rfl, Nat.le_refl _, by omega, Ext.refl _⟩
          case round =>
            rename World => wr
            obtain ⟨x, rfl, hx1, hx2, hE⟩ := hrel
            have HEr := Lib.hid (Ext.trans HE8.out hE)
            have HEq := Lib.hid hE
            have HPr := Lib.hid (VRow.ext HP8.out hE)
            clear hE
            have c0 := VRow.cell HPr.out (k := 0) rfl
            have c1 := VRow.cell HPr.out (k := 1) rfl
            by_cases hxc : x < c
            · go_wp2_with fail
              refine (HREST.out x wr HEr.out (by omega) hx1 hxc).mono ?_
              rintro e wy ⟨rfl, hE⟩
              have HEy := Lib.hid (Ext.trans HEq.out hE)
              clear hE c0 c1
              go_wp2_with fail
              exact ⟨⟨x + 1, by simp, by omega, by omega, HEy.out⟩, by simp [intOf]; omega⟩
            · obtain rfl : x = c := by omega
              go_wp2_with fail
              refine (alive_c wr).mono ?_
              rintro e wz ⟨rfl, hE⟩
              have HEz := Lib.hid (Ext.trans HEr.out hE)
              clear hE
              go_wp2_with fail
              go_ret
              exact ⟨rfl, HEz.out⟩
end Go.Proofs.Ytbcngojiikdigaa
