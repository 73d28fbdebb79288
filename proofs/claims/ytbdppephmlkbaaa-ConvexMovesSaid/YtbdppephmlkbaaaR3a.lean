import Derived.Test.YtbdppephmlkbaaaR19
import Derived.Test.YtbdppephmlkbaaaMA
namespace Go.Proofs.Ytbdppephmlkbaaa
set_option maxRecDepth 100000
open Go.RowKit Go.Shelf
attribute [local go_sem] Oper.semAt_some
/-! The reference's area. -/
theorem twi_tri (a b z : Pt) : twiZ a.1 a.2 b.1 b.2 z.1 z.2 = triP a b z := rfl
theorem from_near {ps : List Pt} (h : nearP ps) {k : Nat} (hk : k < ps.length) : -1000 ≤ (fromP ps k).1 ∧ (fromP ps k).1 ≤ 1000 ∧ -1000 ≤ (fromP ps k).2 ∧ (fromP ps k).2 ≤ 1000 := h _ (from_mem hk)
theorem tri_bd {a b z : Pt} (ha : -1000 ≤ a.1 ∧ a.1 ≤ 1000 ∧ -1000 ≤ a.2 ∧ a.2 ≤ 1000) (hb : -1000 ≤ b.1 ∧ b.1 ≤ 1000 ∧ -1000 ≤ b.2 ∧ b.2 ≤ 1000) (hz : -1000 ≤ z.1 ∧ z.1 ≤ 1000 ∧ -1000 ≤ z.2 ∧ z.2 ≤ 1000) : -800000000 ≤ triP a b z ∧ triP a b z ≤ 800000000 := by
  have m1 := mul_20 (a := b.1 - a.1) (b := z.2 - a.2) (by omega) (by omega)
  have m2 := mul_20 (a := b.2 - a.2) (b := z.1 - a.1) (by omega) (by omega)
  unfold triP
  omega
theorem rA_bd {ps : List Pt} (h : nearP ps) : ∀ k : Nat, k + 2 ≤ ps.length → -800000000 * (k : Int) ≤ rA ps k ∧ rA ps k ≤ 800000000 * (k : Int) := by
  intro k
  induction k with
  | zero => intro _; simp [rA]
  | succ k ih =>
    intro hk
    have h1 := ih (by omega)
    have h2 := tri_bd (from_near h (show 0 < ps.length by omega)) (from_near h (show k + 1 < ps.length by omega)) (from_near h (show k + 2 < ps.length by omega))
    simp only [rA]
    rw [Int.natCast_add, Int.mul_add, Int.mul_add]
    omega
theorem tri_bd4 {a b z : Pt} (ha : -4000 ≤ a.1 ∧ a.1 ≤ 4000 ∧ -4000 ≤ a.2 ∧ a.2 ≤ 4000) (hb : -4000 ≤ b.1 ∧ b.1 ≤ 4000 ∧ -4000 ≤ b.2 ∧ b.2 ≤ 4000) (hz : -4000 ≤ z.1 ∧ z.1 ≤ 4000 ∧ -4000 ≤ z.2 ∧ z.2 ≤ 4000) : -800000000 ≤ triP a b z ∧ triP a b z ≤ 800000000 := by
  have m1 := mul_20 (a := b.1 - a.1) (b := z.2 - a.2) (by omega) (by omega)
  have m2 := mul_20 (a := b.2 - a.2) (b := z.1 - a.1) (by omega) (by omega)
  unfold triP
  omega
theorem rA_bd4 {ps : List Pt} (h : nearL ps) : ∀ k : Nat, k + 2 ≤ ps.length → -800000000 * (k : Int) ≤ rA ps k ∧ rA ps k ≤ 800000000 * (k : Int) := by
  intro k
  induction k with
  | zero => intro _; simp [rA]
  | succ k ih =>
    intro hk
    have h1 := ih (by omega)
    have h2 := tri_bd4 (from_nearL h (show 0 < ps.length by omega)) (from_nearL h (show k + 1 < ps.length by omega)) (from_nearL h (show k + 2 < ps.length by omega))
    simp only [rA]
    rw [Int.natCast_add, Int.mul_add, Int.mul_add]
    omega
set_option maxHeartbeats 4000000 in
theorem rarea_l (v : Value) (ps : List Pt) (w : World) (hv : Vecs w v ps) (hn : nearL ps) (h3 : 3 ≤ ps.length) (h32 : ps.length ≤ 64) :
    Calls Try.prog 52 #[v] w fun e w' => e = .returned (.int .i64 (areaZ ps)) ∧ Ext w w' := by
  obtain ⟨b, o, cap, rfl, hl, hm, hc⟩ := vecs_cells hv (by omega)
  have HC := Lib.hid hc
  have HAR := Lib.hid (rA_area h3)
  have HNR := Lib.hid (fun (k : Nat) (hk : k < ps.length) => from_nearL hn hk)
  have HBD := Lib.hid (rA_bd4 hn)
  have HST := Lib.hid (fun k => (show rA ps (k + 1) = rA ps k + triP (fromP ps 0) (fromP ps (k + 1)) (fromP ps (k + 2)) from rfl))
  rw [← HAR.out]
  clear hv hc hn HAR
  generalize ps.length = n at *
  go_enter Try.func52, Try.ntmps52
  go_wp2_with fail
  go_loopw [4, 3] (fun iv sv wr => ∃ k : Nat, iv = .int .i64 ((k : Int) + 1) ∧ k + 2 ≤ n ∧ sv = .int .i64 (rA ps k) ∧ Ext w wr) (fun iv _ _ => n - (intOf iv).toNat)
  case atStart => exact ⟨0, rfl, by omega, rfl, Ext.refl _⟩
  case round =>
    rename World => wr
    obtain ⟨k, rfl, hk, rfl, hE⟩ := hrel
    have HE := Lib.hid hE
    clear hE
    by_cases hlt : k + 2 < n
    · obtain ⟨c1, c2⟩ := HC.out 0 (by omega)
      obtain ⟨c3, c4⟩ := HC.out (k + 1) (by omega)
      obtain ⟨c5, c6⟩ := HC.out (k + 2) hlt
      rw [Nat.zero_mul, Nat.add_zero] at c1 c2
      have b0 := HNR.out 0 (by omega)
      have b1 := HNR.out (k + 1) (by omega)
      have b2 := HNR.out (k + 2) hlt
      have hs := HBD.out k hk
      have hz := HBD.out (k + 1) (by omega)
      obtain ⟨S, hS⟩ : ∃ S, S = rA ps k := ⟨_, rfl⟩
      obtain ⟨Z, hZ⟩ : ∃ Z, Z = rA ps (k + 1) := ⟨_, rfl⟩
      obtain ⟨T, hT⟩ : ∃ T, T = triP (fromP ps 0) (fromP ps (k + 1)) (fromP ps (k + 2)) := ⟨_, rfl⟩
      have hst := HST.out k
      rw [← hS, ← hZ, ← hT] at hst
      rw [← hS] at hs ⊢
      rw [← hZ] at hz
      have HZ := Lib.hid hZ
      have HTW := Lib.hid (fun W => twice_c (fromP ps 0).1 (fromP ps 0).2 (fromP ps (k + 1)).1 (fromP ps (k + 1)).2 (fromP ps (k + 2)).1 (fromP ps (k + 2)).2 W (by omega) (by omega) (by omega) (by omega) (by omega) (by omega))
      rw [twi_tri, ← hT] at HTW
      clear hS hZ hT b0 b1 b2
      generalize (fromP ps 0).1 = x0 at *
      generalize (fromP ps 0).2 = y0 at *
      generalize (fromP ps (k + 1)).1 = x1 at *
      generalize (fromP ps (k + 1)).2 = y1 at *
      generalize (fromP ps (k + 2)).1 = x2 at *
      generalize (fromP ps (k + 2)).2 = y2 at *
      have C1 := Lib.hid (Ext.cell HE.out c1)
      have C2 := Lib.hid (Ext.cell HE.out c2)
      have C3 := Lib.hid (Ext.cell HE.out c3)
      have C4 := Lib.hid (Ext.cell HE.out c4)
      have C5 := Lib.hid (Ext.cell HE.out c5)
      have C6 := Lib.hid (Ext.cell HE.out c6)
      have hn0 : 0 < n := by omega
      have hk1a : (k : Int) + 1 < (n : Int) := by omega
      have hk1b : ¬ (k : Int) + 1 < 0 := by omega
      have hk2a : (k : Int) + 2 < (n : Int) := by omega
      have hk2b : ¬ (k : Int) + 2 < 0 := by omega
      have hw2 : IntKind.i64.wrap ((k : Int) + 1 + 1) = (k : Int) + 2 := by rw [show (k : Int) + 1 + 1 = (k : Int) + 2 by omega]; exact IntWalk.i64_in _ (by omega)
      have hwz : IntKind.i64.wrap (S + T) = Z := by rw [← hst]; exact IntWalk.i64_in _ (by omega)
      clear c1 c2 c3 c4 c5 c6 hs hz hst
      go_wp2_with fail
      refine wp_region_stable_last [⟨[], none⟩, ⟨[], none⟩, ⟨[(1, 13)], none⟩, ⟨[(2, 14)], none⟩, ⟨[], none⟩, ⟨[], none⟩, ⟨[(4, 16), (5, 17)], none⟩, ⟨[(6, 18)], none⟩, ⟨[], none⟩, ⟨[], none⟩, ⟨[(9, 21)], none⟩, ⟨[(8, 20), (10, 22)], none⟩, ⟨[(11, 23)], none⟩, ⟨[(3, 15), (7, 19), (12, 24)], none⟩, ⟨[(0, 12), (13, 25)], none⟩] (fun x y => Below x.heap.size x y) (MPat [MP.eq (.int .i64 S), MP.eq (.slice (some ⟨b, o, none⟩) n cap), MP.eq (.pointer (some ⟨b, o, none⟩)), MP.eq (vecV x0 y0), MP.eq (.slice (some ⟨b, o, none⟩) n cap), MP.eq (.int .i64 ((k : Int) + 1)), MP.eq (.pointer (some ⟨b, o + (k + 1) * 2, none⟩)), MP.eq (vecV x1 y1), MP.eq (.slice (some ⟨b, o, none⟩) n cap), MP.eq (.int .i64 ((k : Int) + 1)), MP.eq (.int .i64 ((k : Int) + 2)), MP.eq (.pointer (some ⟨b, o + (k + 2) * 2, none⟩)), MP.eq (vecV x2 y2), MP.eq (.int .i64 T), MP.eq (.int .i64 Z)]) rfl (by kernel_rfl) (fun _ _ _ h k => Ext.trans h k) (fun _ => Below.refl _ _) (fun x => (Below.refl x.heap.size x).drew) (MPat.mono _) (by kernel_rfl) (by kernel_rfl) (by kernel_rfl) ?obs ?rest
      case obs =>
        refine ⟨?_, ?_, ?_, ?_, ?_, ?_, ?_, ?_, ?_, ?_, ?_, ?_, ?_, ?_, ?_, trivial⟩
        · intro ev W hf _ _ hst hd
          have e3 : ev (.tmp 3) = .int .i64 S := hf 3 (by kernel_rfl)
          refine st_value (v := .int .i64 S) ?_ (Below.refl _ _) ?_
          · simp [execOp, go_sem, e3]
          · exact rfl
        · intro ev W hf _ _ hst hd
          have e0 : ev (.tmp 0) = .slice (some ⟨b, o, none⟩) n cap := hf 0 (by kernel_rfl)
          refine st_value (v := .slice (some ⟨b, o, none⟩) n cap) ?_ (Below.refl _ _) ?_
          · simp [execOp, go_sem, e0]
          · exact rfl
        · intro ev W hf hcst _ hst hd
          obtain ⟨d13, _⟩ := hd
          have e13 : ev (.tmp 13) = .slice (some ⟨b, o, none⟩) n cap := d13
          refine st_value (v := .pointer (some ⟨b, o, none⟩)) ?_ (Below.refl _ _) ?_
          · simp [execOp, go_sem, e13, hcst, hn0]
          · exact rfl
        · intro ev W hf _ _ hst hd
          obtain ⟨d14, _⟩ := hd
          have e14 : ev (.tmp 14) = .pointer (some ⟨b, o, none⟩) := d14
          have q0 := Ext.cell hst C1.out
          have q1 := Ext.cell hst C2.out
          refine st_value (v := vecV x0 y0) ?_ (Below.refl _ _) ?_
          · simp [execOp, go_sem, e14, q0, q1, vecV]
          · exact rfl
        · intro ev W hf _ _ hst hd
          have e0 : ev (.tmp 0) = .slice (some ⟨b, o, none⟩) n cap := hf 0 (by kernel_rfl)
          refine st_value (v := .slice (some ⟨b, o, none⟩) n cap) ?_ (Below.refl _ _) ?_
          · simp [execOp, go_sem, e0]
          · exact rfl
        · intro ev W hf _ _ hst hd
          have e4 : ev (.tmp 4) = .int .i64 ((k : Int) + 1) := hf 4 (by kernel_rfl)
          refine st_value (v := .int .i64 ((k : Int) + 1)) ?_ (Below.refl _ _) ?_
          · simp [execOp, go_sem, e4]
          · exact rfl
        · intro ev W hf _ _ hst hd
          obtain ⟨d16, d17, _⟩ := hd
          have e16 : ev (.tmp 16) = .slice (some ⟨b, o, none⟩) n cap := d16
          have e17 : ev (.tmp 17) = .int .i64 ((k : Int) + 1) := d17
          refine st_value (v := .pointer (some ⟨b, o + (k + 1) * 2, none⟩)) ?_ (Below.refl _ _) ?_
          · simp [execOp, go_sem, e16, e17, hk1a, hk1b]
          · exact rfl
        · intro ev W hf _ _ hst hd
          obtain ⟨d18, _⟩ := hd
          have e18 : ev (.tmp 18) = .pointer (some ⟨b, o + (k + 1) * 2, none⟩) := d18
          have q0 := Ext.cell hst C3.out
          have q1 := Ext.cell hst C4.out
          refine st_value (v := vecV x1 y1) ?_ (Below.refl _ _) ?_
          · simp [execOp, go_sem, e18, q0, q1, vecV]
          · exact rfl
        · intro ev W hf _ _ hst hd
          have e0 : ev (.tmp 0) = .slice (some ⟨b, o, none⟩) n cap := hf 0 (by kernel_rfl)
          refine st_value (v := .slice (some ⟨b, o, none⟩) n cap) ?_ (Below.refl _ _) ?_
          · simp [execOp, go_sem, e0]
          · exact rfl
        · intro ev W hf _ _ hst hd
          have e4 : ev (.tmp 4) = .int .i64 ((k : Int) + 1) := hf 4 (by kernel_rfl)
          refine st_value (v := .int .i64 ((k : Int) + 1)) ?_ (Below.refl _ _) ?_
          · simp [execOp, go_sem, e4]
          · exact rfl
        · intro ev W hf hcst _ hst hd
          obtain ⟨d21, _⟩ := hd
          have e21 : ev (.tmp 21) = .int .i64 ((k : Int) + 1) := d21
          refine st_value (v := .int .i64 ((k : Int) + 2)) ?_ (Below.refl _ _) ?_
          · simp [execOp, go_sem, e21, hcst, hw2]
          · exact rfl
        · intro ev W hf _ _ hst hd
          obtain ⟨d20, d22, _⟩ := hd
          have e20 : ev (.tmp 20) = .slice (some ⟨b, o, none⟩) n cap := d20
          have e22 : ev (.tmp 22) = .int .i64 ((k : Int) + 2) := d22
          refine st_value (v := .pointer (some ⟨b, o + (k + 2) * 2, none⟩)) ?_ (Below.refl _ _) ?_
          · simp [execOp, go_sem, e20, e22, hk2a, hk2b]
          · exact rfl
        · intro ev W hf _ _ hst hd
          obtain ⟨d23, _⟩ := hd
          have e23 : ev (.tmp 23) = .pointer (some ⟨b, o + (k + 2) * 2, none⟩) := d23
          have q0 := Ext.cell hst C5.out
          have q1 := Ext.cell hst C6.out
          refine st_value (v := vecV x2 y2) ?_ (Below.refl _ _) ?_
          · simp [execOp, go_sem, e23, q0, q1, vecV]
          · exact rfl
        · intro ev W hf _ hfn hst hd
          obtain ⟨d15, d19, d24, _⟩ := hd
          have e15 : ev (.tmp 15) = vecV x0 y0 := d15
          have e19 : ev (.tmp 19) = vecV x1 y1 := d19
          have e24 : ev (.tmp 24) = vecV x2 y2 := d24
          refine st_call (f := 50) (args := #[vecV x0 y0, vecV x1 y1, vecV x2 y2]) (by simp [execOp, go_sem, hfn, e15, e19, e24]) (HTW.out W) (fun _ _ => rfl)
        · intro ev W hf _ _ hst hd
          obtain ⟨d12, d25, _⟩ := hd
          have e12 : ev (.tmp 12) = .int .i64 S := d12
          have e25 : ev (.tmp 25) = .int .i64 T := d25
          refine st_value (v := .int .i64 Z) ?_ (Below.refl _ _) ?_
          · simp [execOp, go_sem, e12, e25, hwz]
          · exact rfl
      case rest =>
        intro vs w3 hl hst hg
        have HE3 := Lib.hid hst
        have hvs : vs = [.int .i64 S, .slice (some ⟨b, o, none⟩) n cap, .pointer (some ⟨b, o, none⟩), vecV x0 y0, .slice (some ⟨b, o, none⟩) n cap, .int .i64 ((k : Int) + 1), .pointer (some ⟨b, o + (k + 1) * 2, none⟩), vecV x1 y1, .slice (some ⟨b, o, none⟩) n cap, .int .i64 ((k : Int) + 1), .int .i64 ((k : Int) + 2), .pointer (some ⟨b, o + (k + 2) * 2, none⟩), vecV x2 y2, .int .i64 T, .int .i64 Z] := list_of hl (fun i u hu => by
          match i, hu with
          | 0, hu => exact (congrArg some (hg 0 u hu)).symm
          | 1, hu => exact (congrArg some (hg 1 u hu)).symm
          | 2, hu => exact (congrArg some (hg 2 u hu)).symm
          | 3, hu => exact (congrArg some (hg 3 u hu)).symm
          | 4, hu => exact (congrArg some (hg 4 u hu)).symm
          | 5, hu => exact (congrArg some (hg 5 u hu)).symm
          | 6, hu => exact (congrArg some (hg 6 u hu)).symm
          | 7, hu => exact (congrArg some (hg 7 u hu)).symm
          | 8, hu => exact (congrArg some (hg 8 u hu)).symm
          | 9, hu => exact (congrArg some (hg 9 u hu)).symm
          | 10, hu => exact (congrArg some (hg 10 u hu)).symm
          | 11, hu => exact (congrArg some (hg 11 u hu)).symm
          | 12, hu => exact (congrArg some (hg 12 u hu)).symm
          | 13, hu => exact (congrArg some (hg 13 u hu)).symm
          | 14, hu => exact (congrArg some (hg 14 u hu)).symm
          | n + 15, hu => exact absurd (lt_len hu) (by rw [hl]; simp))
        clear hg hst hl
        subst hvs
        simp only [putAll, Act.put, List.dropLast, List.setIfInBounds_toArray, List.set_cons_zero, List.set_cons_succ]
        go_wp2_with fail
        exact ⟨⟨k + 1, by simp; omega, by omega, by rw [HZ.out], Ext.trans HE.out HE3.out⟩, by simp [intOf]; omega⟩
    · have hkz : ¬ (k : Int) + 1 + 1 < (n : Int) := by omega
      have hkn : k = n - 2 := by omega
      have HKN := Lib.hid hkn
      clear hkn
      go_wp2_with fail
      go_ret
      exact ⟨ret_int (by rw [HKN.out]), HE.out⟩
theorem rarea_c (v : Value) (ps : List Pt) (w : World) (hv : Vecs w v ps) (hn : nearP ps) (h3 : 3 ≤ ps.length) (h32 : ps.length ≤ 32) :
    Calls Try.prog 52 #[v] w fun e w' => e = .returned (.int .i64 (areaZ ps)) ∧ Ext w w' := rarea_l v ps w hv (near_L hn) h3 (by omega)
end Go.Proofs.Ytbdppephmlkbaaa
