import Derived.Test.YtbdppephmlkbaaaR3a
import Derived.Test.YtbdppephmlkbaaaV22
namespace Go.Proofs.Ytbdppephmlkbaaa
set_option maxRecDepth 100000
open Go.RowKit Go.Shelf
attribute [local go_sem] Oper.semAt_some
/-! The reference's place. -/
theorem twi_side (ps : List Pt) (z : Pt) (k : Nat) : twiZ (fromP ps k).1 (fromP ps k).2 (toP ps k).1 (toP ps k).2 z.1 z.2 = sideK ps z.1 z.2 k := tri_side ps z k
set_option maxHeartbeats 4000000 in
theorem rplace_l (v : Value) (ps : List Pt) (x y : Int) (w : World) (hv : Vecs w v ps) (hn : nearL ps) (h3 : 3 ≤ ps.length) (h32 : ps.length ≤ 64) (hxy : -10000 ≤ x ∧ x ≤ 10000 ∧ -10000 ≤ y ∧ y ≤ 10000) :
    Calls Try.prog 54 #[v, vecV x y] w fun e w' => e = .returned (.int .i64 (placeZ ps x y)) ∧ Ext w w' := by
  obtain ⟨b, o, cap, rfl, hl, hm, hc⟩ := vecs_cells hv (by omega)
  have HC := Lib.hid hc
  have HNR := Lib.hid (fun (k : Nat) (hk : k < ps.length) => from_nearL hn hk)
  have HE1 := Lib.hid (Ext.alloc (Ext.refl w) (.cells #[.int .i64 x, .int .i64 y] 32))
  have HV1 := Lib.hid (show VRow (w.alloc (.cells #[.int .i64 x, .int .i64 y] 32)) _ _ _ from vrow_alloc w [.int .i64 x, .int .i64 y] 32)
  obtain ⟨n, hnn⟩ : ∃ n, n = ps.length := ⟨_, rfl⟩
  have hn3 : 3 ≤ n ∧ n ≤ 64 := by omega
  have HFIN := Lib.hid (show placeK ps x y n = placeZ ps x y from by rw [hnn]; rfl)
  rw [← hnn] at HC HNR hl ⊢
  have HN := Lib.hid hnn
  clear hv hc hn h3 h32 hnn
  go_enter Try.func54, Try.ntmps54
  go_wp2_with fail
  obtain ⟨g, hg⟩ : ∃ g, g = w.heap.size := ⟨_, rfl⟩
  rw [← hg] at HV1 ⊢
  obtain ⟨w1, hw1⟩ : ∃ w1, w1 = w.alloc (.cells #[.int .i64 x, .int .i64 y] 32) := ⟨_, rfl⟩
  rw [← hw1] at HV1 HE1 ⊢
  clear hg hw1
  go_loopw [6, 5] (fun iv sv wr => ∃ i : Nat, iv = .int .i64 (i : Int) ∧ i ≤ n ∧ sv = .int .i64 (placeK ps x y i) ∧ (∀ q, q < i → 0 ≤ sideK ps x y q) ∧ Ext w1 wr) (fun iv _ _ => n - (intOf iv).toNat)
  case atStart => exact ⟨0, rfl, Nat.zero_le _, rfl, fun q hq => by omega, Ext.refl _⟩
  case round =>
    rename World => wr
    obtain ⟨i, rfl, hi, rfl, hall, hE⟩ := hrel
    have HALL := Lib.hid hall
    have HE := Lib.hid (Ext.trans HE1.out hE)
    have HEw := Lib.hid hE
    have HV := Lib.hid (VRow.ext HV1.out hE)
    clear hall hE
    by_cases hil : i < n
    · obtain ⟨j, hj⟩ : ∃ j, j = (i + 1) % n := ⟨_, rfl⟩
      have hjn : j < n := by rw [hj]; exact Nat.mod_lt _ (by omega)
      have hjm : ((i : Int) + 1) % (n : Int) = (j : Int) := by rw [hj, Int.natCast_emod, Int.natCast_add]; rfl
      have hjt : ((i : Int) + 1).tmod (n : Int) = (j : Int) := by rw [Int.tmod_eq_emod_of_nonneg (by omega)]; exact hjm
      have hjw : IntKind.i64.wrap (j : Int) = (j : Int) := IntWalk.i64_in _ (by omega)
      have hnz : ¬ n = 0 := by omega
      obtain ⟨c1, c2⟩ := HC.out i hil
      obtain ⟨c3, c4⟩ := HC.out j hjn
      have b0 := HNR.out i hil
      have b1 := HNR.out j hjn
      have HTS := Lib.hid (show twiZ (fromP ps i).1 (fromP ps i).2 (fromP ps j).1 (fromP ps j).2 x y = sideK ps x y i from by
        have h := twi_side ps (x, y) i
        rw [to_from, show (i + 1) % ps.length = j by rw [← HN.out, hj]] at h
        exact h)
      have HPS := Lib.hid (show placeK ps x y (i + 1) = min (placeK ps x y i) (sgnZ (sideK ps x y i) 0) from rfl)
      have HPK := Lib.hid (show 0 ≤ placeK ps x y i ∧ placeK ps x y i ≤ 1 from by
        have h := placeK_bd ps x y i
        refine ⟨?_, h.2⟩
        rcases Int.lt_or_le (placeK ps x y i) 0 with hneg | hpos
        · obtain ⟨q, hq, h2⟩ := (placeK_neg ps x y i).1 hneg
          have := HALL.out q hq
          omega
        · exact hpos)
      obtain ⟨T, hT⟩ : ∃ T, T = sideK ps x y i := ⟨_, rfl⟩
      rw [← hT] at HTS
      have HT := Lib.hid hT
      have HTW := Lib.hid (fun W => twice_c (fromP ps i).1 (fromP ps i).2 (fromP ps j).1 (fromP ps j).2 x y W (by omega) (by omega) (by omega) (by omega) (by omega) (by omega))
      rw [HTS.out] at HTW
      clear hT b0 b1 HTS hj
      generalize (fromP ps i).1 = x0 at *
      generalize (fromP ps i).2 = y0 at *
      generalize (fromP ps j).1 = x1 at *
      generalize (fromP ps j).2 = y1 at *
      have C1 := Lib.hid (Ext.cell HE.out c1)
      have C2 := Lib.hid (Ext.cell HE.out c2)
      have C3 := Lib.hid (Ext.cell HE.out c3)
      have C4 := Lib.hid (Ext.cell HE.out c4)
      have hilz : (i : Int) < (n : Int) := by omega
      have hi1 : IntKind.i64.wrap ((i : Int) + 1) = (i : Int) + 1 := IntWalk.i64_in _ (by omega)
      clear c1 c2 c3 c4
      go_wp2_with fail
      refine wp_region_stable_last [⟨[], none⟩, ⟨[], none⟩, ⟨[(0, 14), (1, 15)], none⟩, ⟨[(2, 16)], none⟩, ⟨[], none⟩, ⟨[], none⟩, ⟨[(5, 19)], none⟩, ⟨[], none⟩, ⟨[(7, 21)], none⟩, ⟨[(6, 20), (8, 22)], none⟩, ⟨[(4, 18), (9, 23)], none⟩, ⟨[(10, 24)], none⟩, ⟨[], none⟩, ⟨[(3, 17), (11, 25), (12, 26)], none⟩] (fun x y => Below x.heap.size x y) (MPat [MP.eq (.slice (some ⟨b, o, none⟩) n cap), MP.eq (.int .i64 (i : Int)), MP.eq (.pointer (some ⟨b, o + i * 2, none⟩)), MP.eq (vecV x0 y0), MP.eq (.slice (some ⟨b, o, none⟩) n cap), MP.eq (.int .i64 (i : Int)), MP.eq (.int .i64 ((i : Int) + 1)), MP.eq (.slice (some ⟨b, o, none⟩) n cap), MP.eq (.int .i64 (n : Int)), MP.eq (.int .i64 (j : Int)), MP.eq (.pointer (some ⟨b, o + j * 2, none⟩)), MP.eq (vecV x1 y1), MP.eq (vecV x y), MP.eq (.int .i64 T)]) rfl (by kernel_rfl) (fun _ _ _ h k => Ext.trans h k) (fun _ => Below.refl _ _) (fun x => (Below.refl x.heap.size x).drew) (MPat.mono _) (by kernel_rfl) (by kernel_rfl) (by kernel_rfl) ?obs ?rest
      case obs =>
        refine ⟨?_, ?_, ?_, ?_, ?_, ?_, ?_, ?_, ?_, ?_, ?_, ?_, ?_, ?_, trivial⟩
        · intro ev W hf _ _ hst hd
          have e0 : ev (.tmp 0) = .slice (some ⟨b, o, none⟩) n cap := hf 0 (by kernel_rfl)
          refine st_value (v := .slice (some ⟨b, o, none⟩) n cap) ?_ (Below.refl _ _) ?_
          · simp [execOp, go_sem, e0]
          · exact rfl
        · intro ev W hf _ _ hst hd
          have e6 : ev (.tmp 6) = .int .i64 (i : Int) := hf 6 (by kernel_rfl)
          refine st_value (v := .int .i64 (i : Int)) ?_ (Below.refl _ _) ?_
          · simp [execOp, go_sem, e6]
          · exact rfl
        · intro ev W hf _ _ hst hd
          obtain ⟨d14, d15, _⟩ := hd
          have e14 : ev (.tmp 14) = .slice (some ⟨b, o, none⟩) n cap := d14
          have e15 : ev (.tmp 15) = .int .i64 (i : Int) := d15
          refine st_value (v := .pointer (some ⟨b, o + i * 2, none⟩)) ?_ (Below.refl _ _) ?_
          · simp [execOp, go_sem, e14, e15, hil]
          · exact rfl
        · intro ev W hf _ _ hst hd
          obtain ⟨d16, _⟩ := hd
          have e16 : ev (.tmp 16) = .pointer (some ⟨b, o + i * 2, none⟩) := d16
          have q0 := Ext.cell hst C1.out
          have q1 := Ext.cell hst C2.out
          refine st_value (v := vecV x0 y0) ?_ (Below.refl _ _) ?_
          · simp [execOp, go_sem, e16, q0, q1, vecV]
          · exact rfl
        · intro ev W hf _ _ hst hd
          have e0 : ev (.tmp 0) = .slice (some ⟨b, o, none⟩) n cap := hf 0 (by kernel_rfl)
          refine st_value (v := .slice (some ⟨b, o, none⟩) n cap) ?_ (Below.refl _ _) ?_
          · simp [execOp, go_sem, e0]
          · exact rfl
        · intro ev W hf _ _ hst hd
          have e6 : ev (.tmp 6) = .int .i64 (i : Int) := hf 6 (by kernel_rfl)
          refine st_value (v := .int .i64 (i : Int)) ?_ (Below.refl _ _) ?_
          · simp [execOp, go_sem, e6]
          · exact rfl
        · intro ev W hf hcst _ hst hd
          obtain ⟨d19, _⟩ := hd
          have e19 : ev (.tmp 19) = .int .i64 (i : Int) := d19
          refine st_value (v := .int .i64 ((i : Int) + 1)) ?_ (Below.refl _ _) ?_
          · simp [execOp, go_sem, e19, hcst, hi1]
          · exact rfl
        · intro ev W hf _ _ hst hd
          have e0 : ev (.tmp 0) = .slice (some ⟨b, o, none⟩) n cap := hf 0 (by kernel_rfl)
          refine st_value (v := .slice (some ⟨b, o, none⟩) n cap) ?_ (Below.refl _ _) ?_
          · simp [execOp, go_sem, e0]
          · exact rfl
        · intro ev W hf _ _ hst hd
          obtain ⟨d21, _⟩ := hd
          have e21 : ev (.tmp 21) = .slice (some ⟨b, o, none⟩) n cap := d21
          refine st_value (v := .int .i64 (n : Int)) ?_ (Below.refl _ _) ?_
          · simp [execOp, go_sem, e21]
          · exact rfl
        · intro ev W hf _ _ hst hd
          obtain ⟨d20, d22, _⟩ := hd
          have e20 : ev (.tmp 20) = .int .i64 ((i : Int) + 1) := d20
          have e22 : ev (.tmp 22) = .int .i64 (n : Int) := d22
          refine st_value (v := .int .i64 (j : Int)) ?_ (Below.refl _ _) ?_
          · simp [execOp, go_sem, e20, e22, hnz, hjm, hjt, hjw]
          · exact rfl
        · intro ev W hf _ _ hst hd
          obtain ⟨d18, d23, _⟩ := hd
          have e18 : ev (.tmp 18) = .slice (some ⟨b, o, none⟩) n cap := d18
          have e23 : ev (.tmp 23) = .int .i64 (j : Int) := d23
          refine st_value (v := .pointer (some ⟨b, o + j * 2, none⟩)) ?_ (Below.refl _ _) ?_
          · simp [execOp, go_sem, e18, e23, hjn]
          · exact rfl
        · intro ev W hf _ _ hst hd
          obtain ⟨d24, _⟩ := hd
          have e24 : ev (.tmp 24) = .pointer (some ⟨b, o + j * 2, none⟩) := d24
          have q0 := Ext.cell hst C3.out
          have q1 := Ext.cell hst C4.out
          refine st_value (v := vecV x1 y1) ?_ (Below.refl _ _) ?_
          · simp [execOp, go_sem, e24, q0, q1, vecV]
          · exact rfl
        · intro ev W hf _ _ hst hd
          have e3 : ev (.tmp 3) = .pointer (some ⟨g, 0, none⟩) := hf 3 (by kernel_rfl)
          have q0 := VRow.cell (VRow.ext HV.out hst) (k := 0) rfl
          have q1 := VRow.cell (VRow.ext HV.out hst) (k := 1) rfl
          refine st_value (v := vecV x y) ?_ (Below.refl _ _) ?_
          · simp [execOp, go_sem, e3, q0, q1, vecV]
          · exact rfl
        · intro ev W hf _ hfn hst hd
          obtain ⟨d17, d25, d26, _⟩ := hd
          have e17 : ev (.tmp 17) = vecV x0 y0 := d17
          have e25 : ev (.tmp 25) = vecV x1 y1 := d25
          have e26 : ev (.tmp 26) = vecV x y := d26
          refine st_call (f := 50) (args := #[vecV x0 y0, vecV x1 y1, vecV x y]) (by simp [execOp, go_sem, hfn, e17, e25, e26]) (HTW.out W) (fun _ _ => rfl)
      case rest =>
        intro vs w3 hl hst hg
        have HE3 := Lib.hid hst
        have hvs : vs = [.slice (some ⟨b, o, none⟩) n cap, .int .i64 (i : Int), .pointer (some ⟨b, o + i * 2, none⟩), vecV x0 y0, .slice (some ⟨b, o, none⟩) n cap, .int .i64 (i : Int), .int .i64 ((i : Int) + 1), .slice (some ⟨b, o, none⟩) n cap, .int .i64 (n : Int), .int .i64 (j : Int), .pointer (some ⟨b, o + j * 2, none⟩), vecV x1 y1, vecV x y, .int .i64 T] := list_of hl (fun i u hu => by
          match i, hu with
          | 0, hu => exact (congrArg some (hg 0 u hu)).symm
          | 1, hu => exact (congrArg some (hg 1 u hu)).symm
          | 2, hu => exact (congrArg some (hg 2 u hu)).symm
          | 3, hu => exact (congrArg some (hg 3 u hu)).symm
          | 4, hu => exact (congrArg some (hg 4 u hu)).symm
          | 5, hu => exact (congrArg some (hg 5 u hu)).symm
          | 6, hu => exact (congrArg some (hg 6 u hu)).symm
          | 7, hu => exact (congrArg some (hg 7 u hu)).symm
          | 8, hu => exact (congrArg some (hg 8 u hu)).symm
          | 9, hu => exact (congrArg some (hg 9 u hu)).symm
          | 10, hu => exact (congrArg some (hg 10 u hu)).symm
          | 11, hu => exact (congrArg some (hg 11 u hu)).symm
          | 12, hu => exact (congrArg some (hg 12 u hu)).symm
          | 13, hu => exact (congrArg some (hg 13 u hu)).symm
          | n + 14, hu => exact absurd (lt_len hu) (by rw [hl]; simp))
        clear hg hst hl
        subst hvs
        simp only [putAll, Act.put, List.dropLast, List.setIfInBounds_toArray, List.set_cons_zero, List.set_cons_succ]
        rcases Int.lt_trichotomy T 0 with hT | hT | hT
        · have HF := Lib.hid (show placeZ ps x y = -1 from place_out (k := i) (by have := HN.out; omega) (by rw [← HT.out]; exact hT))
          go_wp2_with fail
          go_ret
          exact ⟨ret_int HF.out.symm, Ext.trans HE.out HE3.out⟩
        · subst hT
          have HS := Lib.hid (show placeK ps x y (i + 1) = 0 from by
            have h1 := HPS.out
            rw [← HT.out] at h1
            rw [h1, show sgnZ 0 0 = 0 from rfl]
            have h2 := HPK.out
            omega)
          have HA := Lib.hid (show ∀ q, q < i + 1 → 0 ≤ sideK ps x y q from fun q hq => by
            by_cases e : q = i
            · rw [e, ← HT.out]; exact Int.le_refl _
            · exact HALL.out q (by omega))
          have h00 : (0 == (0 : Int)) = true := rfl
          go_wp2_with fail
          exact ⟨⟨i + 1, by simp, by omega, by rw [HS.out], HA.out, Ext.trans HEw.out HE3.out⟩, by simp [intOf]; omega⟩
        · have HS := Lib.hid (show placeK ps x y (i + 1) = placeK ps x y i from by
            have h1 := HPS.out
            rw [← HT.out] at h1
            rw [h1]
            have h3 : sgnZ T 0 = 1 := by unfold sgnZ; rw [if_neg (by omega), if_pos (by omega)]
            rw [h3]
            have h2 := HPK.out
            omega)
          have HA := Lib.hid (show ∀ q, q < i + 1 → 0 ≤ sideK ps x y q from fun q hq => by
            by_cases e : q = i
            · rw [e, ← HT.out]; omega
            · exact HALL.out q (by omega))
          have hT0 : (T == 0) = false := beq_eq_false_iff_ne.2 (by omega)
          have hTn : ¬ T < 0 := by omega
          go_wp2_with fail
          exact ⟨⟨i + 1, by simp, by omega, by rw [HS.out], HA.out, Ext.trans HEw.out HE3.out⟩, by simp [intOf]; omega⟩
    · have hilz : ¬ (i : Int) < (n : Int) := by omega
      have hin : i = n := by omega
      have HIN := Lib.hid hin
      clear hin
      go_wp2_with fail
      go_ret
      exact ⟨ret_int (by rw [HIN.out, HFIN.out]), HE.out⟩
theorem rplace_c (v : Value) (ps : List Pt) (x y : Int) (w : World) (hv : Vecs w v ps) (hn : nearP ps) (h3 : 3 ≤ ps.length) (h32 : ps.length ≤ 32) (hxy : -10000 ≤ x ∧ x ≤ 10000 ∧ -10000 ≤ y ∧ y ≤ 10000) :
    Calls Try.prog 54 #[v, vecV x y] w fun e w' => e = .returned (.int .i64 (placeZ ps x y)) ∧ Ext w w' := rplace_l v ps x y w hv (near_L hn) h3 (by omega) hxy
end Go.Proofs.Ytbdppephmlkbaaa
