import Derived.Test.YtnpebfchojalcaaNZ
import Derived.Test.YtnpebfchojalcaaKX
import Derived.Test.YtnpebfchojalcaaG2
import Derived.Laws.AppendOwnNone
import Derived.Test.YtnpebfchojalcaaO1
namespace Go.Proofs.Ytnpebfchojalcaa
set_option maxRecDepth 100000
open Go.RowKit Go.Shelf
attribute [local go_sem] Oper.semAt_some
/-! The reference's Good, asks, nearer and Admissible. -/
theorem rgood_c (A B D : Int) (w : World) : Calls Try.prog 88 #[gridV A B D] w fun e w' => e = .returned (.bool (gridB A B D)) ∧ Ext w w' := by
  have hE := Lib.hid (Ext.alloc (Ext.refl w) (.cells #[.int .i64 A, .int .i64 B, .int .i64 D] 24))
  unfold gridV
  by_cases h1 : 1 ≤ A
  · by_cases h2 : A ≤ 400
    · by_cases h3 : 1 ≤ D
      · by_cases h4 : D ≤ 400
        · by_cases h5 : 0 ≤ B
          · by_cases h6 : B < D
            · rw [show gridB A B D = true from gridB_iff.2 ⟨h1, h2, h3, h4, h5, h6⟩]
              go_enter Try.func88, Try.ntmps88
              go_wp2
              go_ret
              exact ⟨rfl, hE.out⟩
            · rw [gridB_false (fun h => h6 h.2.2.2.2.2)]
              go_enter Try.func88, Try.ntmps88
              go_wp2
              go_ret
              exact ⟨rfl, hE.out⟩
          · rw [gridB_false (fun h => h5 h.2.2.2.2.1)]
            go_enter Try.func88, Try.ntmps88
            go_wp2
            go_ret
            exact ⟨rfl, hE.out⟩
        · rw [gridB_false (fun h => h4 h.2.2.2.1)]
          go_enter Try.func88, Try.ntmps88
          go_wp2
          go_ret
          exact ⟨rfl, hE.out⟩
      · rw [gridB_false (fun h => h3 h.2.2.1)]
        go_enter Try.func88, Try.ntmps88
        go_wp2
        go_ret
        exact ⟨rfl, hE.out⟩
    · rw [gridB_false (fun h => h2 h.2.1)]
      go_enter Try.func88, Try.ntmps88
      go_wp2
      go_ret
      exact ⟨rfl, hE.out⟩
  · rw [gridB_false (fun h => h1 h.1)]
    go_enter Try.func88, Try.ntmps88
    go_wp2
    go_ret
    exact ⟨rfl, hE.out⟩
def asksZ (ps : List Pt) (A B D : Int) : Int := if blankB ps = true ∧ gridB A B D = true then 0 else 2
set_option maxHeartbeats 1000000 in
theorem asks_c (v : Value) (ps : List Pt) (A B D : Int) (w : World) (hv : Vecs w v ps) :
    Calls Try.prog 44 #[v, gridV A B D] w fun e w' => e = .returned (.int .i64 (asksZ ps A B D)) ∧ Ext w w' := by
  obtain ⟨a, cap, rfl, hl, hm, _⟩ := hv.at
  have hE0 := Ext.alloc (Ext.refl w) (.cells #[.int .i64 A, .int .i64 B, .int .i64 D] 24)
  have HV := Lib.hid (hv.ext hE0)
  have HE0 := Lib.hid hE0
  have HB := Lib.hid (show VRow (w.alloc (.cells #[.int .i64 A, .int .i64 B, .int .i64 D] 24)) _ _ _ from vrow_alloc w [.int .i64 A, .int .i64 B, .int .i64 D] 24)
  clear hv hE0
  cases hf : blankB ps with
  | false =>
    have HR := Lib.hid (show asksZ ps A B D = 2 by simp [asksZ, hf])
    generalize asksZ ps A B D = R at *
    have Hf := Lib.hid hf
    clear hf
    unfold gridV
    go_enter Try.func44, Try.ntmps44
    go_wp2_with fail
    refine (rBlank_c _ ps _ HV.out).mono ?_
    rintro e w2 ⟨rfl, hE⟩
    rw [Hf.out]
    go_wp2_with fail
    go_ret
    exact ⟨ret_int HR.out.symm, Ext.trans HE0.out hE⟩
  | true =>
    have HR := Lib.hid (show asksZ ps A B D = if gridB A B D = true then 0 else 2 by simp [asksZ, hf])
    generalize asksZ ps A B D = R at *
    have Hf := Lib.hid hf
    clear hf
    unfold gridV
    go_enter Try.func44, Try.ntmps44
    go_wp2_with fail
    refine (rBlank_c _ ps _ HV.out).mono ?_
    rintro e w2 ⟨rfl, hE⟩
    rw [Hf.out]
    have hb := VRow.ext HB.out hE
    have b0 := VRow.cell hb (k := 0) rfl
    have b1 := VRow.cell hb (k := 1) rfl
    have b2 := VRow.cell hb (k := 2) rfl
    go_wp2_with fail
    clear b0 b1 b2
    refine (show Calls Try.prog 88 #[gridV A B D] w2 _ from rgood_c A B D w2).mono ?_
    rintro e w3 ⟨rfl, hE3⟩
    cases hg : gridB A B D with
    | false =>
      rw [hg] at HR
      go_wp2_with fail
      go_ret
      exact ⟨ret_int (by rw [HR.out]; rfl), Ext.trans HE0.out (Ext.trans hE hE3)⟩
    | true =>
      rw [hg] at HR
      go_wp2_with fail
      go_ret
      exact ⟨ret_int (by rw [HR.out]; rfl), Ext.trans HE0.out (Ext.trans hE hE3)⟩
set_option maxHeartbeats 2000000 in
theorem nearer_c (a b c d : Int) (w : World) (ha : -10000 ≤ a ∧ a ≤ 10000) (hb : -10000 ≤ b ∧ b ≤ 10000) (hc : -10000 ≤ c ∧ c ≤ 10000) (hd : -10000 ≤ d ∧ d ≤ 10000) :
    Calls Try.prog 53 #[vecV a b, vecV c d] w fun e w' => e = .returned (.bool (decide (witP (a, b) (c, d) < 0))) ∧ Ext w w' := by
  have m1 := mul_20 (a := a) (b := a) (by omega) (by omega)
  have m2 := mul_20 (a := b) (b := b) (by omega) (by omega)
  have m3 := mul_20 (a := c) (b := c) (by omega) (by omega)
  have m4 := mul_20 (a := d) (b := d) (by omega) (by omega)
  have hw := wit_lt (a, b) (c, d)
  unfold sqZ at hw
  dsimp only at hw
  obtain ⟨p1, hp1⟩ : ∃ z, z = a * a := ⟨_, rfl⟩
  obtain ⟨p2, hp2⟩ : ∃ z, z = b * b := ⟨_, rfl⟩
  obtain ⟨p3, hp3⟩ : ∃ z, z = c * c := ⟨_, rfl⟩
  obtain ⟨p4, hp4⟩ : ∃ z, z = d * d := ⟨_, rfl⟩
  obtain ⟨S, hS⟩ : ∃ z, z = p1 + p2 := ⟨_, rfl⟩
  obtain ⟨T, hT⟩ : ∃ z, z = p3 + p4 := ⟨_, rfl⟩
  rw [← hp1, ← hp2, ← hp3, ← hp4, ← hS, ← hT] at hw
  rw [← hp1] at m1
  rw [← hp2] at m2
  rw [← hp3] at m3
  rw [← hp4] at m4
  have H1 := Lib.hid (show IntKind.i64.wrap (a * a) = p1 by rw [← hp1]; exact IntWalk.i64_in _ (by omega))
  have H2 := Lib.hid (show IntKind.i64.wrap (b * b) = p2 by rw [← hp2]; exact IntWalk.i64_in _ (by omega))
  have H3 := Lib.hid (show IntKind.i64.wrap (c * c) = p3 by rw [← hp3]; exact IntWalk.i64_in _ (by omega))
  have H4 := Lib.hid (show IntKind.i64.wrap (d * d) = p4 by rw [← hp4]; exact IntWalk.i64_in _ (by omega))
  have H5 := Lib.hid (show IntKind.i64.wrap (p1 + p2) = S by rw [← hS]; exact IntWalk.i64_in _ (by omega))
  have H6 := Lib.hid (show IntKind.i64.wrap (p3 + p4) = T by rw [← hT]; exact IntWalk.i64_in _ (by omega))
  have HW := Lib.hid hw
  clear hp1 hp2 hp3 hp4 hS hT hw m1 m2 m3 m4 ha hb hc hd
  have hm0 := VRow.alloc (vrow_alloc w [.int .i64 a, .int .i64 b] 31) (.cells #[.int .i64 c, .int .i64 d] 31)
  have hn0 := vrow_alloc (w.alloc (.cells #[.int .i64 a, .int .i64 b] 31)) [.int .i64 c, .int .i64 d] 31
  have hE := Ext.alloc (Ext.alloc (Ext.refl w) (.cells #[.int .i64 a, .int .i64 b] 31)) (.cells #[.int .i64 c, .int .i64 d] 31)
  have hs1 : (w.alloc (.cells #[.int .i64 a, .int .i64 b] 31)).heap.size = w.heap.size + 1 := by simp
  rw [hs1] at hn0
  change VRow ((w.alloc (.cells #[.int .i64 a, .int .i64 b] 31)).alloc (.cells #[.int .i64 c, .int .i64 d] 31)) _ _ _ at hm0 hn0
  have HM := Lib.hid hm0
  have HN := Lib.hid hn0
  have HE := Lib.hid hE
  clear hs1 hm0 hn0 hE
  generalize witP (a, b) (c, d) = wz at *
  go_enter Try.func53, Try.ntmps53
  go_wp2_with fail
  generalize (w.alloc (.cells #[.int .i64 a, .int .i64 b] 31)).alloc (.cells #[.int .i64 c, .int .i64 d] 31) = w1 at *
  generalize hs : w.heap.size = s at *
  refine wp_region_stable [⟨[], none⟩, ⟨[(0, 7)], none⟩, ⟨[], none⟩, ⟨[(2, 9)], none⟩, ⟨[(1, 8), (3, 10)], none⟩, ⟨[], none⟩, ⟨[(5, 12)], none⟩, ⟨[], none⟩, ⟨[(7, 14)], none⟩, ⟨[(6, 13), (8, 15)], none⟩, ⟨[(4, 11), (9, 16)], none⟩, ⟨[], none⟩, ⟨[(11, 18)], none⟩, ⟨[], none⟩, ⟨[(13, 20)], none⟩, ⟨[(12, 19), (14, 21)], none⟩, ⟨[], none⟩, ⟨[(16, 23)], none⟩, ⟨[], none⟩, ⟨[(18, 25)], none⟩, ⟨[(17, 24), (19, 26)], none⟩, ⟨[(15, 22), (20, 27)], none⟩, ⟨[(10, 17)], none⟩, ⟨[(21, 28)], none⟩] (fun x y => Below x.heap.size x y) (MPat [MP.eq (.pointer (some ⟨s, 0, none⟩)), MP.eq (.int .i64 a), MP.eq (.pointer (some ⟨s, 0, none⟩)), MP.eq (.int .i64 a), MP.eq (.int .i64 p1), MP.eq (.pointer (some ⟨s, 1, none⟩)), MP.eq (.int .i64 b), MP.eq (.pointer (some ⟨s, 1, none⟩)), MP.eq (.int .i64 b), MP.eq (.int .i64 p2), MP.eq (.int .i64 S), MP.eq (.pointer (some ⟨(s + 1), 0, none⟩)), MP.eq (.int .i64 c), MP.eq (.pointer (some ⟨(s + 1), 0, none⟩)), MP.eq (.int .i64 c), MP.eq (.int .i64 p3), MP.eq (.pointer (some ⟨(s + 1), 1, none⟩)), MP.eq (.int .i64 d), MP.eq (.pointer (some ⟨(s + 1), 1, none⟩)), MP.eq (.int .i64 d), MP.eq (.int .i64 p4), MP.eq (.int .i64 T), MP.eq (.int .i64 S), MP.eq (.int .i64 T)]) (by kernel_rfl) (fun _ _ _ h k => Ext.trans h k) (fun _ => Below.refl _ _) (fun x => (Below.refl x.heap.size x).drew) (MPat.mono _) (by kernel_rfl) ?obs ?rest
  case obs =>
    refine ⟨?_, ?_, ?_, ?_, ?_, ?_, ?_, ?_, ?_, ?_, ?_, ?_, ?_, ?_, ?_, ?_, ?_, ?_, ?_, ?_, ?_, ?_, ?_, ?_, trivial⟩
    · intro ev W hf _ _ hst hd
      have e2 : ev (.tmp 2) = .pointer (some ⟨s, 0, none⟩) := hf 2 (by kernel_rfl)
      refine st_value (v := .pointer (some ⟨s, 0, none⟩)) ?_ (Below.refl _ _) ?_
      · simp [execOp, go_sem, e2]
      · exact rfl
    · intro ev W hf _ _ hst hd
      obtain ⟨d7, _⟩ := hd
      have e7 : ev (.tmp 7) = .pointer (some ⟨s, 0, none⟩) := d7
      have kk := VRow.ext HM.out hst
      have k0 := VRow.cell kk (k := 0) rfl
      refine st_value (v := .int .i64 a) ?_ (Below.refl _ _) ?_
      · simp [execOp, go_sem, e7, k0]
      · exact rfl
    · intro ev W hf _ _ hst hd
      have e2 : ev (.tmp 2) = .pointer (some ⟨s, 0, none⟩) := hf 2 (by kernel_rfl)
      refine st_value (v := .pointer (some ⟨s, 0, none⟩)) ?_ (Below.refl _ _) ?_
      · simp [execOp, go_sem, e2]
      · exact rfl
    · intro ev W hf _ _ hst hd
      obtain ⟨d9, _⟩ := hd
      have e9 : ev (.tmp 9) = .pointer (some ⟨s, 0, none⟩) := d9
      have kk := VRow.ext HM.out hst
      have k0 := VRow.cell kk (k := 0) rfl
      refine st_value (v := .int .i64 a) ?_ (Below.refl _ _) ?_
      · simp [execOp, go_sem, e9, k0]
      · exact rfl
    · intro ev W hf _ _ hst hd
      obtain ⟨d8, d10, _⟩ := hd
      have e8 : ev (.tmp 8) = .int .i64 a := d8
      have e10 : ev (.tmp 10) = .int .i64 a := d10
      refine st_value (v := .int .i64 p1) ?_ (Below.refl _ _) ?_
      · simp [execOp, go_sem, e8, e10, H1.out]
      · exact rfl
    · intro ev W hf _ _ hst hd
      have e2 : ev (.tmp 2) = .pointer (some ⟨s, 0, none⟩) := hf 2 (by kernel_rfl)
      refine st_value (v := .pointer (some ⟨s, 1, none⟩)) ?_ (Below.refl _ _) ?_
      · simp [execOp, go_sem, e2]
      · exact rfl
    · intro ev W hf _ _ hst hd
      obtain ⟨d12, _⟩ := hd
      have e12 : ev (.tmp 12) = .pointer (some ⟨s, 1, none⟩) := d12
      have kk := VRow.ext HM.out hst
      have k1 := VRow.cell kk (k := 1) rfl
      refine st_value (v := .int .i64 b) ?_ (Below.refl _ _) ?_
      · simp [execOp, go_sem, e12, k1]
      · exact rfl
    · intro ev W hf _ _ hst hd
      have e2 : ev (.tmp 2) = .pointer (some ⟨s, 0, none⟩) := hf 2 (by kernel_rfl)
      refine st_value (v := .pointer (some ⟨s, 1, none⟩)) ?_ (Below.refl _ _) ?_
      · simp [execOp, go_sem, e2]
      · exact rfl
    · intro ev W hf _ _ hst hd
      obtain ⟨d14, _⟩ := hd
      have e14 : ev (.tmp 14) = .pointer (some ⟨s, 1, none⟩) := d14
      have kk := VRow.ext HM.out hst
      have k1 := VRow.cell kk (k := 1) rfl
      refine st_value (v := .int .i64 b) ?_ (Below.refl _ _) ?_
      · simp [execOp, go_sem, e14, k1]
      · exact rfl
    · intro ev W hf _ _ hst hd
      obtain ⟨d13, d15, _⟩ := hd
      have e13 : ev (.tmp 13) = .int .i64 b := d13
      have e15 : ev (.tmp 15) = .int .i64 b := d15
      refine st_value (v := .int .i64 p2) ?_ (Below.refl _ _) ?_
      · simp [execOp, go_sem, e13, e15, H2.out]
      · exact rfl
    · intro ev W hf _ _ hst hd
      obtain ⟨d11, d16, _⟩ := hd
      have e11 : ev (.tmp 11) = .int .i64 p1 := d11
      have e16 : ev (.tmp 16) = .int .i64 p2 := d16
      refine st_value (v := .int .i64 S) ?_ (Below.refl _ _) ?_
      · simp [execOp, go_sem, e11, e16, H5.out]
      · exact rfl
    · intro ev W hf _ _ hst hd
      have e3 : ev (.tmp 3) = .pointer (some ⟨(s + 1), 0, none⟩) := hf 3 (by kernel_rfl)
      refine st_value (v := .pointer (some ⟨(s + 1), 0, none⟩)) ?_ (Below.refl _ _) ?_
      · simp [execOp, go_sem, e3]
      · exact rfl
    · intro ev W hf _ _ hst hd
      obtain ⟨d18, _⟩ := hd
      have e18 : ev (.tmp 18) = .pointer (some ⟨(s + 1), 0, none⟩) := d18
      have kk := VRow.ext HN.out hst
      have k0 := VRow.cell kk (k := 0) rfl
      refine st_value (v := .int .i64 c) ?_ (Below.refl _ _) ?_
      · simp [execOp, go_sem, e18, k0]
      · exact rfl
    · intro ev W hf _ _ hst hd
      have e3 : ev (.tmp 3) = .pointer (some ⟨(s + 1), 0, none⟩) := hf 3 (by kernel_rfl)
      refine st_value (v := .pointer (some ⟨(s + 1), 0, none⟩)) ?_ (Below.refl _ _) ?_
      · simp [execOp, go_sem, e3]
      · exact rfl
    · intro ev W hf _ _ hst hd
      obtain ⟨d20, _⟩ := hd
      have e20 : ev (.tmp 20) = .pointer (some ⟨(s + 1), 0, none⟩) := d20
      have kk := VRow.ext HN.out hst
      have k0 := VRow.cell kk (k := 0) rfl
      refine st_value (v := .int .i64 c) ?_ (Below.refl _ _) ?_
      · simp [execOp, go_sem, e20, k0]
      · exact rfl
    · intro ev W hf _ _ hst hd
      obtain ⟨d19, d21, _⟩ := hd
      have e19 : ev (.tmp 19) = .int .i64 c := d19
      have e21 : ev (.tmp 21) = .int .i64 c := d21
      refine st_value (v := .int .i64 p3) ?_ (Below.refl _ _) ?_
      · simp [execOp, go_sem, e19, e21, H3.out]
      · exact rfl
    · intro ev W hf _ _ hst hd
      have e3 : ev (.tmp 3) = .pointer (some ⟨(s + 1), 0, none⟩) := hf 3 (by kernel_rfl)
      refine st_value (v := .pointer (some ⟨(s + 1), 1, none⟩)) ?_ (Below.refl _ _) ?_
      · simp [execOp, go_sem, e3]
      · exact rfl
    · intro ev W hf _ _ hst hd
      obtain ⟨d23, _⟩ := hd
      have e23 : ev (.tmp 23) = .pointer (some ⟨(s + 1), 1, none⟩) := d23
      have kk := VRow.ext HN.out hst
      have k1 := VRow.cell kk (k := 1) rfl
      refine st_value (v := .int .i64 d) ?_ (Below.refl _ _) ?_
      · simp [execOp, go_sem, e23, k1]
      · exact rfl
    · intro ev W hf _ _ hst hd
      have e3 : ev (.tmp 3) = .pointer (some ⟨(s + 1), 0, none⟩) := hf 3 (by kernel_rfl)
      refine st_value (v := .pointer (some ⟨(s + 1), 1, none⟩)) ?_ (Below.refl _ _) ?_
      · simp [execOp, go_sem, e3]
      · exact rfl
    · intro ev W hf _ _ hst hd
      obtain ⟨d25, _⟩ := hd
      have e25 : ev (.tmp 25) = .pointer (some ⟨(s + 1), 1, none⟩) := d25
      have kk := VRow.ext HN.out hst
      have k1 := VRow.cell kk (k := 1) rfl
      refine st_value (v := .int .i64 d) ?_ (Below.refl _ _) ?_
      · simp [execOp, go_sem, e25, k1]
      · exact rfl
    · intro ev W hf _ _ hst hd
      obtain ⟨d24, d26, _⟩ := hd
      have e24 : ev (.tmp 24) = .int .i64 d := d24
      have e26 : ev (.tmp 26) = .int .i64 d := d26
      refine st_value (v := .int .i64 p4) ?_ (Below.refl _ _) ?_
      · simp [execOp, go_sem, e24, e26, H4.out]
      · exact rfl
    · intro ev W hf _ _ hst hd
      obtain ⟨d22, d27, _⟩ := hd
      have e22 : ev (.tmp 22) = .int .i64 p3 := d22
      have e27 : ev (.tmp 27) = .int .i64 p4 := d27
      refine st_value (v := .int .i64 T) ?_ (Below.refl _ _) ?_
      · simp [execOp, go_sem, e22, e27, H6.out]
      · exact rfl
    · intro ev W hf _ _ hst hd
      obtain ⟨d17, _⟩ := hd
      have e17 : ev (.tmp 17) = .int .i64 S := d17
      refine st_value (v := .int .i64 S) ?_ (Below.refl _ _) ?_
      · simp [execOp, go_sem, e17]
      · exact rfl
    · intro ev W hf _ _ hst hd
      obtain ⟨d28, _⟩ := hd
      have e28 : ev (.tmp 28) = .int .i64 T := d28
      refine st_value (v := .int .i64 T) ?_ (Below.refl _ _) ?_
      · simp [execOp, go_sem, e28]
      · exact rfl
  case rest =>
    intro vs w3 hl hst hg
    have HE3 := Lib.hid hst
    have HM3 := Lib.hid (VRow.ext HM.out hst)
    have HN3 := Lib.hid (VRow.ext HN.out hst)
    have hvs : vs = [.pointer (some ⟨s, 0, none⟩), .int .i64 a, .pointer (some ⟨s, 0, none⟩), .int .i64 a, .int .i64 p1, .pointer (some ⟨s, 1, none⟩), .int .i64 b, .pointer (some ⟨s, 1, none⟩), .int .i64 b, .int .i64 p2, .int .i64 S, .pointer (some ⟨(s + 1), 0, none⟩), .int .i64 c, .pointer (some ⟨(s + 1), 0, none⟩), .int .i64 c, .int .i64 p3, .pointer (some ⟨(s + 1), 1, none⟩), .int .i64 d, .pointer (some ⟨(s + 1), 1, none⟩), .int .i64 d, .int .i64 p4, .int .i64 T, .int .i64 S, .int .i64 T] := list_of hl (fun i u hu => by
      match i, hu with
      | 0, hu => exact (congrArg some (hg 0 u hu)).symm
      | 1, hu => exact (congrArg some (hg 1 u hu)).symm
      | 2, hu => exact (congrArg some (hg 2 u hu)).symm
      | 3, hu => exact (congrArg some (hg 3 u hu)).symm
      | 4, hu => exact (congrArg some (hg 4 u hu)).symm
      | 5, hu => exact (congrArg some (hg 5 u hu)).symm
      | 6, hu => exact (congrArg some (hg 6 u hu)).symm
      | 7, hu => exact (congrArg some (hg 7 u hu)).symm
      | 8, hu => exact (congrArg some (hg 8 u hu)).symm
      | 9, hu => exact (congrArg some (hg 9 u hu)).symm
      | 10, hu => exact (congrArg some (hg 10 u hu)).symm
      | 11, hu => exact (congrArg some (hg 11 u hu)).symm
      | 12, hu => exact (congrArg some (hg 12 u hu)).symm
      | 13, hu => exact (congrArg some (hg 13 u hu)).symm
      | 14, hu => exact (congrArg some (hg 14 u hu)).symm
      | 15, hu => exact (congrArg some (hg 15 u hu)).symm
      | 16, hu => exact (congrArg some (hg 16 u hu)).symm
      | 17, hu => exact (congrArg some (hg 17 u hu)).symm
      | 18, hu => exact (congrArg some (hg 18 u hu)).symm
      | 19, hu => exact (congrArg some (hg 19 u hu)).symm
      | 20, hu => exact (congrArg some (hg 20 u hu)).symm
      | 21, hu => exact (congrArg some (hg 21 u hu)).symm
      | 22, hu => exact (congrArg some (hg 22 u hu)).symm
      | 23, hu => exact (congrArg some (hg 23 u hu)).symm
      | n + 24, hu => exact absurd (lt_len hu) (by rw [hl]; simp))
    clear hg hst hl
    subst hvs
    simp only [putAll, Act.put, List.setIfInBounds_toArray, List.set_cons_zero, List.set_cons_succ]
    have c0 := VRow.cell HM3.out (k := 0) rfl
    have c1 := VRow.cell HM3.out (k := 1) rfl
    have d0 := VRow.cell HN3.out (k := 0) rfl
    have d1 := VRow.cell HN3.out (k := 1) rfl
    rcases Int.lt_trichotomy S T with h | h | h
    · have hne : (S != T) = true := by simp; omega
      have HD := Lib.hid (show decide (wz < 0) = true from decide_eq_true (HW.out.2 (.inl h)))
      go_wp2_with fail
      go_ret
      exact ⟨ret_bool (by rw [HD.out]), Ext.trans HE.out HE3.out⟩
    · have hne : (S != T) = false := by simp; omega
      by_cases h1 : c < a
      · have HD := Lib.hid (show decide (wz < 0) = true from decide_eq_true (HW.out.2 (.inr ⟨h, .inl h1⟩)))
        clear h
        go_wp2_with fail
        go_ret
        exact ⟨ret_bool (by rw [HD.out]), Ext.trans HE.out HE3.out⟩
      · by_cases h2 : a = c
        · by_cases h3 : d < b
          · have HD := Lib.hid (show decide (wz < 0) = true from decide_eq_true (HW.out.2 (.inr ⟨h, .inr ⟨h2.symm, h3⟩⟩)))
            have h2b : (a == c) = true := by simp [h2]
            clear h
            go_wp2_with fail
            go_ret
            exact ⟨ret_bool (by rw [HD.out]), Ext.trans HE.out HE3.out⟩
          · have HD := Lib.hid (show decide (wz < 0) = false from decide_eq_false (fun e => by have := HW.out.1 e; omega))
            have h2b : (a == c) = true := by simp [h2]
            clear h
            go_wp2_with fail
            go_ret
            exact ⟨ret_bool (by rw [HD.out]), Ext.trans HE.out HE3.out⟩
        · have HD := Lib.hid (show decide (wz < 0) = false from decide_eq_false (fun e => by have := HW.out.1 e; omega))
          have h2b : (a == c) = false := by simp [h2]
          clear h
          go_wp2_with fail
          go_ret
          exact ⟨ret_bool (by rw [HD.out]), Ext.trans HE.out HE3.out⟩
    · have hne : (S != T) = true := by simp; omega
      have hlt : ¬ S < T := by omega
      have HD := Lib.hid (show decide (wz < 0) = false from decide_eq_false (fun e => by have := HW.out.1 e; omega))
      go_wp2_with fail
      go_ret
      exact ⟨ret_bool (by rw [HD.out]), Ext.trans HE.out HE3.out⟩
end Go.Proofs.Ytnpebfchojalcaa

namespace Go.Proofs.Ytnpebfchojalcaa
set_option maxRecDepth 100000
open Go.RowKit Go.Shelf
attribute [local go_sem] Oper.semAt_some
/-! The reference's Admissible; which collision is the first. -/
theorem cross_bd {ps : List Pt} : ∀ q ∈ crossL ps, -1000 ≤ q.1 ∧ q.1 ≤ 1000 ∧ -1000 ≤ q.2 ∧ q.2 ≤ 1000 := fun q hq => by
  have := ((hit_iff ps q).1 (cross_mem.1 hq).2).1
  omega
theorem cross_len (ps : List Pt) : (crossL ps).length ≤ 1000 := by
  have := crossN_len ps 25
  unfold crossL
  omega
theorem free_coll {ps : List Pt} {A B D : Int} (hb : blankB ps = true) (hg : gridB A B D = true) : freeB (crossL ps) A B D = decide (collL ps A B D = []) := by
  rw [free_avoid hb (gridB_ok hg), Bool.eq_iff_iff, decide_eq_true_eq]
  exact avoid_iff (gridB_ok hg)
set_option maxHeartbeats 2000000 in
theorem rAdmissible_c (v : Value) (ps : List Pt) (A B D : Int) (w : World) (hv : Vecs w v ps) :
    Calls Try.prog 17 #[v, gridV A B D] w fun e w' => e = admR ps A B D ∧ Ext w w' := by
  obtain ⟨a, cap, rfl, hl, hm, _⟩ := hv.at
  have hE0 := Ext.alloc (Ext.refl w) (.cells #[.int .i64 A, .int .i64 B, .int .i64 D] 24)
  have HV := Lib.hid (hv.ext hE0)
  have HE0 := Lib.hid hE0
  have HB := Lib.hid (show VRow (w.alloc (.cells #[.int .i64 A, .int .i64 B, .int .i64 D] 24)) _ _ _ from vrow_alloc w [.int .i64 A, .int .i64 B, .int .i64 D] 24)
  have b0 := VRow.cell HB.out (k := 0) rfl
  have b1 := VRow.cell HB.out (k := 1) rfl
  have b2 := VRow.cell HB.out (k := 2) rfl
  clear hv hE0
  by_cases hok : blankB ps = true ∧ gridB A B D = true
  · have HA := Lib.hid (show asksZ ps A B D = 0 from by unfold asksZ; rw [if_pos hok])
    have HR := Lib.hid (show admR ps A B D = two (.bool (freeB (crossL ps) A B D)) (.int .i64 0) from by unfold admR; rw [if_pos hok, free_coll hok.1 hok.2])
    have Hf := Lib.hid hok.1
    have HGO := Lib.hid (gridB_ok hok.2)
    generalize admR ps A B D = R at *
    clear hok
    unfold gridV
    go_enter Try.func17, Try.ntmps17
    go_wp2_with fail
    refine (show Calls Try.prog 44 #[.slice a ps.length cap, gridV A B D] _ _ from (asks_c _ ps A B D _ HV.out).mono ?_)
    rintro e w2 ⟨rfl, hE⟩
    rw [HA.out]
    have HB2 := Lib.hid (VRow.ext HB.out hE)
    have HV2 := Lib.hid (HV.out.ext hE)
    have HE2 := Lib.hid (Ext.trans HE0.out hE)
    clear hE b0 b1 b2
    obtain ⟨g, hgg⟩ : ∃ g, g = w.heap.size := ⟨_, rfl⟩
    rw [← hgg] at HB2 ⊢
    clear hgg
    go_wp2_with fail
    refine wp_region_stable [⟨[], none⟩, ⟨[(0, 13)], none⟩, ⟨[], none⟩, ⟨[(1, 14), (2, 15)], none⟩, ⟨[(3, 16)], none⟩, ⟨[], none⟩] (fun x y => Below x.heap.size x y) (MPat [MP.eq (.slice a ps.length cap), MP.vecs (crossL ps), MP.eq (gridV A B D), MP.eq (.bool (freeB (crossL ps) A B D)), MP.eq (.bool (freeB (crossL ps) A B D)), MP.eq (.int .i64 0)]) (by kernel_rfl) (fun _ _ _ h k => Ext.trans h k) (fun _ => Below.refl _ _) (fun x => (Below.refl x.heap.size x).drew) (MPat.mono _) (by kernel_rfl) ?obs ?rest
    case obs =>
      refine ⟨?_, ?_, ?_, ?_, ?_, ?_, trivial⟩
      · intro ev W5 hf _ _ hst hd
        have e0 : ev (.tmp 0) = .slice a ps.length cap := hf 0 (by kernel_rfl)
        refine st_value (v := .slice a ps.length cap) ?_ (Below.refl _ _) ?_
        · simp [execOp, go_sem, e0]
        · exact rfl
      · intro ev W5 hf _ hfn hst hd
        obtain ⟨d13, _⟩ := hd
        have e13 : ev (.tmp 13) = .slice a ps.length cap := d13
        refine st_enter (f := 46) (args := #[.slice a ps.length cap]) (by simp [execOp, go_sem, hfn, e13]) ?_
        refine (crossing_c _ ps W5 (HV2.out.ext hst) Hf.out).mono ?_
        rintro e w5 ⟨r, rfl, hr, hE⟩
        exact ⟨r, rfl, hE, hr⟩
      · intro ev W5 hf _ _ hst hd
        have e3 : ev (.tmp 3) = .pointer (some ⟨g, 0, none⟩) := hf 3 (by kernel_rfl)
        have kk := VRow.ext HB2.out hst
        have q0 := VRow.cell kk (k := 0) rfl
        have q1 := VRow.cell kk (k := 1) rfl
        have q2 := VRow.cell kk (k := 2) rfl
        refine st_value (v := gridV A B D) ?_ (Below.refl _ _) ?_
        · simp [execOp, go_sem, e3, q0, q1, q2, gridV]
        · exact rfl
      · intro ev W5 hf _ hfn hst hd
        obtain ⟨d14, d15, _⟩ := hd
        have e15 : ev (.tmp 15) = gridV A B D := d15
        have d14 : Vecs W5 (ev (.tmp 14)) (crossL ps) := d14
        refine st_call (f := 45) (args := #[ev (.tmp 14), gridV A B D]) (by simp [execOp, go_sem, hfn, e15]) (free_c _ (crossL ps) A B D W5 d14 cross_bd (cross_len ps) HGO.out) (fun _ _ => rfl)
      · intro ev W5 hf _ _ hst hd
        obtain ⟨d16, _⟩ := hd
        have e16 : ev (.tmp 16) = .bool (freeB (crossL ps) A B D) := d16
        refine st_value (v := .bool (freeB (crossL ps) A B D)) ?_ (Below.refl _ _) ?_
        · simp [execOp, go_sem, e16]
        · exact rfl
      · intro ev W5 hf hcst _ hst hd
        refine st_value (v := .int .i64 0) ?_ (Below.refl _ _) ?_
        · simp [execOp, go_sem, hcst]
        · exact rfl
    case rest =>
      intro vs w3 hl hst hg
      have hx0 : ∀ u, vs[0]? = some u → u = .slice a ps.length cap := fun u hu => hg 0 u hu
      have hx1 : ∀ u, vs[1]? = some u → MP.p (MP.vecs (crossL ps)) u w3 := fun u hu => hg 1 u hu
      have hx2 : ∀ u, vs[2]? = some u → u = gridV A B D := fun u hu => hg 2 u hu
      have hx3 : ∀ u, vs[3]? = some u → u = .bool (freeB (crossL ps) A B D) := fun u hu => hg 3 u hu
      have hx4 : ∀ u, vs[4]? = some u → u = .bool (freeB (crossL ps) A B D) := fun u hu => hg 4 u hu
      have hx5 : ∀ u, vs[5]? = some u → u = .int .i64 0 := fun u hu => hg 5 u hu
      have HE3 := Lib.hid hst
      clear hg hst
      obtain ⟨x0, vs0, rfl, hl0⟩ := len_succ hl
      obtain ⟨x1, vs1, rfl, hl1⟩ := len_succ hl0
      obtain ⟨x2, vs2, rfl, hl2⟩ := len_succ hl1
      obtain ⟨x3, vs3, rfl, hl3⟩ := len_succ hl2
      obtain ⟨x4, vs4, rfl, hl4⟩ := len_succ hl3
      obtain ⟨x5, vs5, rfl, hl5⟩ := len_succ hl4
      have hnil : vs5 = [] := List.length_eq_zero_iff.1 hl5
      subst hnil
      obtain rfl : x0 = .slice a ps.length cap := hx0 _ rfl
      replace hx1 := hx1 _ rfl
      obtain rfl : x2 = gridV A B D := hx2 _ rfl
      obtain rfl : x3 = .bool (freeB (crossL ps) A B D) := hx3 _ rfl
      obtain rfl : x4 = .bool (freeB (crossL ps) A B D) := hx4 _ rfl
      obtain rfl : x5 = .int .i64 0 := hx5 _ rfl
      clear hx0 hx2 hx3 hx4 hx5
      simp only [putAll, Act.put, List.setIfInBounds_toArray, List.set_cons_zero, List.set_cons_succ]
      go_wp2_with fail
      go_ret2
      exact ⟨HR.out.symm, Ext.trans HE2.out HE3.out⟩
  · have HA := Lib.hid (show asksZ ps A B D = 2 from by unfold asksZ; rw [if_neg hok])
    have HR := Lib.hid (show admR ps A B D = two (.bool false) (.int .i64 2) from by unfold admR; rw [if_neg hok])
    generalize admR ps A B D = R at *
    clear hok
    unfold gridV
    go_enter Try.func17, Try.ntmps17
    go_wp2_with fail
    refine (show Calls Try.prog 44 #[.slice a ps.length cap, gridV A B D] _ _ from (asks_c _ ps A B D _ HV.out).mono ?_)
    rintro e w2 ⟨rfl, hE⟩
    rw [HA.out]
    have HE2 := Lib.hid (Ext.trans HE0.out hE)
    clear hE b0 b1 b2
    go_wp2_with fail
    go_ret2
    exact ⟨HR.out.symm, HE2.out⟩
theorem wit_trans {p q r : Pt} (h : witP p q < 0) (k : ¬ witP r q < 0) : ¬ witP r p < 0 := by
  rw [wit_lt] at *
  generalize sqZ p.1 p.2 = a at *
  generalize sqZ q.1 q.2 = b at *
  generalize sqZ r.1 r.2 = c at *
  omega
/-- a grid's collisions, by their signs -/
theorem coll_mem {ps : List Pt} {A B D : Int} (hb : blankB ps = true) (hg : gridOk A B D) {p : Pt} : p ∈ collL ps A B D ↔ (0 ≤ p.1 ∧ leastZ p.1 ≤ p.2) ∧ inZ A B D p ∧ hitB ps p = true := by
  unfold collL
  rw [List.mem_filter]
  constructor
  · rintro ⟨h1, h2⟩
    have h3 := nearL_mem hg h1
    have h4 := (in_near hg h3.1).2 h1
    rw [coll_hit hb h3] at h2
    exact ⟨⟨h3.1, h4.2.1⟩, h4.2.2.2, h2⟩
  · rintro ⟨⟨h1, h2⟩, h3, h4⟩
    have h5 := ((hit_iff ps p).1 h4).1
    have h6 := (in_near hg h1).1 ⟨h5.2.1, h2, h5.2.2.2, h3⟩
    exact ⟨h6, by rw [coll_hit hb (nearL_mem hg h6)]; exact h4⟩
/-- the best of the first vectors of a list that are a grid's -/
def BestI (cs : List Pt) (A B D : Int) (k : Nat) (q : Pt) : Prop :=
  (q = (0, 0) ∧ ∀ j, j < k → inB A B D (fromP cs j) = false) ∨ (q ∈ cs ∧ q ≠ (0, 0) ∧ inB A B D q = true ∧ ∀ j, j < k → inB A B D (fromP cs j) = true → ¬ witP (fromP cs j) q < 0)
theorem best_zero (cs : List Pt) (A B D : Int) : BestI cs A B D 0 (0, 0) := .inl ⟨rfl, fun j hj => by omega⟩
theorem best_skip {cs : List Pt} {A B D : Int} {k : Nat} {q : Pt} (h : BestI cs A B D k q) (hi : inB A B D (fromP cs k) = false) : BestI cs A B D (k + 1) q := by
  rcases h with ⟨e, h⟩ | ⟨e, f, g, h⟩
  · exact .inl ⟨e, fun j hj => by
      by_cases ej : j = k
      · rw [ej]; exact hi
      · exact h j (by omega)⟩
  · exact .inr ⟨e, f, g, fun j hj hin => by
      by_cases ej : j = k
      · rw [ej, hi] at hin; cases hin
      · exact h j (by omega) hin⟩
theorem best_far {cs : List Pt} {A B D : Int} {k : Nat} {q : Pt} (h : BestI cs A B D k q) (hq : q ≠ (0, 0)) (hn : ¬ witP (fromP cs k) q < 0) : BestI cs A B D (k + 1) q := by
  rcases h with ⟨e, h⟩ | ⟨e, f, g, h⟩
  · exact absurd e hq
  · exact .inr ⟨e, f, g, fun j hj hin => by
      by_cases ej : j = k
      · rw [ej]; exact hn
      · exact h j (by omega) hin⟩
theorem wit_self (q : Pt) : ¬ witP q q < 0 := by rw [wit_lt]; omega
theorem best_take {cs : List Pt} {A B D : Int} {k : Nat} {q : Pt} (h : BestI cs A B D k q) (hk : k < cs.length) (h0 : fromP cs k ≠ (0, 0)) (hi : inB A B D (fromP cs k) = true) (hn : q = (0, 0) ∨ witP (fromP cs k) q < 0) : BestI cs A B D (k + 1) (fromP cs k) := by
  refine .inr ⟨from_mem hk, h0, hi, fun j hj hin => ?_⟩
  by_cases ej : j = k
  · rw [ej]; exact wit_self _
  · rcases h with ⟨e, h⟩ | ⟨e, f, g, h⟩
    · rw [h j (by omega)] at hin; cases hin
    · have h1 := h j (by omega) hin
      rcases hn with hn | hn
      · exact absurd hn f
      · exact wit_trans hn h1
theorem best_none {ps : List Pt} {A B D : Int} (hb : blankB ps = true) (hg : gridB A B D = true) (h : BestI (crossL ps) A B D (crossL ps).length (0, 0)) : collL ps A B D = [] := by
  have hf := free_coll (ps := ps) hb hg
  have : freeB (crossL ps) A B D = true := by
    unfold freeB
    rw [List.all_eq_true]
    intro z hz
    obtain ⟨j, hj, rfl⟩ := mem_from hz
    rcases h with ⟨_, h⟩ | ⟨_, h0, _⟩
    · rw [h j hj]; rfl
    · exact absurd rfl h0
  rw [this] at hf
  exact of_decide_eq_true hf.symm
theorem best_some {ps : List Pt} {A B D : Int} {q : Pt} (hb : blankB ps = true) (hg : gridB A B D = true) (hq : q ≠ (0, 0)) (h : BestI (crossL ps) A B D (crossL ps).length q) : FirstW (collL ps A B D) q := by
  have hgo := gridB_ok hg
  have hn : 0 < ps.length := by have := (valid_near (blank_parts hb).1).2; omega
  rcases h with ⟨e, _⟩ | ⟨h1, _, h2, h3⟩
  · exact absurd e hq
  · have key : ∀ p, p ∈ crossL ps → inZ A B D p → ¬ witP p q < 0 := fun p hp hz => by
      obtain ⟨j, hj, rfl⟩ := mem_from hp
      exact h3 j hj (inB_iff.2 hz)
    have hz := inB_iff.1 h2
    obtain ⟨_, hh⟩ := cross_mem.1 h1
    have hng := key (negP q) (cross_mem.2 ⟨fun e => hq (by unfold negP at e; have e1 := congrArg Prod.fst e; have e2 := congrArg Prod.snd e; dsimp only at e1 e2; exact Prod.ext (by show q.1 = 0; omega) (by show q.2 = 0; omega)), by rw [hit_neg hn]; exact hh⟩) (inZ_neg hz)
    have hs : sqZ (negP q).1 (negP q).2 = sqZ q.1 q.2 := by unfold negP sqZ; dsimp only; rw [Int.neg_mul_neg, Int.neg_mul_neg]
    rw [wit_lt, hs] at hng
    have hq0 : ¬ (q.1 = 0 ∧ q.2 = 0) := fun e => hq (Prod.ext e.1 e.2)
    have hbd := ((hit_iff ps q).1 hh).1
    refine ⟨(coll_mem hb hgo).2 ⟨?_, hz, hh⟩, fun p hp => ?_⟩
    · unfold negP leastZ at *
      dsimp only at hng
      split <;> omega
    · obtain ⟨_, hz2, hh2⟩ := (coll_mem hb hgo).1 hp
      refine key p (cross_mem.2 ⟨fun e => ?_, hh2⟩) hz2
      have h4 := ((coll_mem hb hgo).1 hp).1
      rw [e] at h4
      unfold leastZ at h4
      simp at h4
end Go.Proofs.Ytnpebfchojalcaa

namespace Go.Proofs.Ytnpebfchojalcaa
set_option maxRecDepth 100000
open Go.RowKit Go.Shelf
attribute [local go_sem] Oper.semAt_some
/-! The reference's Witness. -/
theorem rwit_results {g : Nat} {W : World} {A B : Int} {e : Value} (h : VRow W g 31 [.int .i64 A, .int .i64 B]) (tmps : Array Value) (h4 : tmps.getD 4 undef = .pointer (some ⟨g, 0, none⟩)) (h5 : tmps.getD 5 undef = e) : (results Try.f19 tmps).run Try.prog W = .ok (.tuple #[vecV A B, e]) W := by
  have c0 := VRow.cell h (k := 0) rfl
  have c1 := VRow.cell h (k := 1) rfl
  rw [results_key rfl, h4, h5]
  go_simp
/-- a list's cells in a block -/
def LAt (W : World) (b o : Nat) (cs : List Pt) : Prop := ∀ k, k < cs.length → W.cell? ⟨b, o + k * 2, none⟩ = some (.int .i64 (fromP cs k).1) ∧ W.cell? ⟨b, o + k * 2 + 1, none⟩ = some (.int .i64 (fromP cs k).2)
theorem LAt.ext {W W' : World} {b o : Nat} {cs : List Pt} (h : LAt W b o cs) (hE : Ext W W') : LAt W' b o cs := fun k hk => ⟨Ext.cell hE (h k hk).1, Ext.cell hE (h k hk).2⟩
theorem LAt.other {W : World} {b o : Nat} {cs : List Pt} (h : LAt W b o cs) {m i : Nat} (hm : m ≠ b) (v : Value) : LAt (W.setCell ⟨m, i, none⟩ v) b o cs := fun k hk =>
  have ne : ∀ o, (⟨m, i, none⟩ : Addr) ≠ ⟨b, o, none⟩ := fun o e => by injection e with e1 e2; exact hm e1
  ⟨(World.cell?_setCell_other (h := ne _) ..).trans (h k hk).1, (World.cell?_setCell_other (h := ne _) ..).trans (h k hk).2⟩
theorem own_lat {W : World} {base : Nat} {v : Value} {cs : List Pt} (h : W.ownsRow base 31 2 v cs.length (cellsOf cs)) (hm : cs.length ≤ 1000000) (h1 : 1 ≤ cs.length) : ∃ b o cap, v = .slice (some ⟨b, o, none⟩) cs.length cap ∧ cs.length ≤ cap ∧ cap ≤ 9223372036854775807 ∧ base ≤ b ∧ LAt W b o cs := by
  obtain ⟨b, o, cap, hv, hl, hx, hc⟩ := vecs_cells (vecs_own h hm) h1
  rcases h.2 with ⟨_, hn⟩ | ⟨g, cap', cur, hv', hg, _⟩
  · omega
  · rw [hv] at hv'
    injection hv' with e1
    injection e1 with e1
    injection e1 with e1
    exact ⟨b, o, cap, hv, hl, hx, by omega, hc⟩
set_option maxHeartbeats 16000000 in
theorem rWitness_c (v : Value) (ps : List Pt) (A B D : Int) (w : World) (hv : Vecs w v ps) :
    Calls Try.prog 19 #[v, gridV A B D] w fun e w' => WitS ps A B D e ∧ Ext w w' := by
  obtain ⟨a, cap, rfl, hl, hm, _⟩ := hv.at
  have hE0 := Ext.alloc (Ext.alloc (Ext.refl w) (.cells #[.int .i64 A, .int .i64 B, .int .i64 D] 24)) (.cells #[.int .i64 0, .int .i64 0] 31)
  have HV := Lib.hid (hv.ext hE0)
  have HE0 := Lib.hid hE0
  have HB := Lib.hid (show VRow ((w.alloc (.cells #[.int .i64 A, .int .i64 B, .int .i64 D] 24)).alloc (.cells #[.int .i64 0, .int .i64 0] 31)) w.heap.size 24 [.int .i64 A, .int .i64 B, .int .i64 D] from (vrow_alloc w [.int .i64 A, .int .i64 B, .int .i64 D] 24).alloc _)
  have HR0 := Lib.hid (show VRow ((w.alloc (.cells #[.int .i64 A, .int .i64 B, .int .i64 D] 24)).alloc (.cells #[.int .i64 0, .int .i64 0] 31)) (w.heap.size + 1) 31 [.int .i64 0, .int .i64 0] from by
    have h := vrow_alloc (w.alloc (.cells #[.int .i64 A, .int .i64 B, .int .i64 D] 24)) [.int .i64 0, .int .i64 0] 31
    have e : (w.alloc (.cells #[.int .i64 A, .int .i64 B, .int .i64 D] 24)).heap.size = w.heap.size + 1 := by simp
    rw [e] at h
    exact h)
  have b0 := VRow.cell HB.out (k := 0) rfl
  have b1 := VRow.cell HB.out (k := 1) rfl
  have b2 := VRow.cell HB.out (k := 2) rfl
  clear hv hE0
  by_cases hok : blankB ps = true ∧ gridB A B D = true
  · have HA := Lib.hid (show asksZ ps A B D = 0 from by unfold asksZ; rw [if_pos hok])
    have HS1 := Lib.hid (fun (h : BestI (crossL ps) A B D (crossL ps).length (0, 0)) => (show WitS ps A B D (two (vecV 0 0) (.int .i64 10)) from .inl ⟨hok, best_none hok.1 hok.2 h, rfl⟩))
    have HS2 := Lib.hid (fun (q : Pt) (hq : q ≠ (0, 0)) (h : BestI (crossL ps) A B D (crossL ps).length q) => (show WitS ps A B D (two (vecV q.1 q.2) (.int .i64 0)) from .inr (.inl ⟨hok, q, best_some hok.1 hok.2 hq h, rfl⟩)))
    generalize WitS ps A B D = DS at *
    have Hf := Lib.hid hok.1
    have HGO := Lib.hid (gridB_ok hok.2)
    have HCB := Lib.hid (cross_bd (ps := ps))
    have HCL := Lib.hid (cross_len ps)
    have HC0 := Lib.hid (fun (q : Pt) (hq : q ∈ crossL ps) => (cross_mem.1 hq).1)
    clear hok
    unfold gridV
    go_enter Try.func19, Try.ntmps19
    go_wp2_with fail
    clear b0 b1 b2
    refine (show Calls Try.prog 44 #[.slice a ps.length cap, gridV A B D] _ _ from (asks_c _ ps A B D _ HV.out).mono ?_)
    rintro e w2 ⟨rfl, hE⟩
    rw [HA.out]
    have HB2 := Lib.hid (VRow.ext HB.out hE)
    have HV2 := Lib.hid (HV.out.ext hE)
    have HR2 := Lib.hid (VRow.ext HR0.out hE)
    have HE2 := Lib.hid (Ext.trans HE0.out hE)
    clear hE HB HV HR0 HE0
    have HB3 := Lib.hid (VRow.alloc HB2.out (.cells #[.int .i64 0, .int .i64 0] 31))
    have HR3 := Lib.hid (VRow.alloc HR2.out (.cells #[.int .i64 0, .int .i64 0] 31))
    have HM3 := Lib.hid (show VRow (w2.alloc (.cells #[.int .i64 0, .int .i64 0] 31)) _ _ _ from vrow_alloc w2 [.int .i64 0, .int .i64 0] 31)
    have HE3 := Lib.hid (Ext.trans HE2.out (Ext.alloc (Ext.refl w2) (.cells #[.int .i64 0, .int .i64 0] 31)))
    have HV3 := Lib.hid (HV2.out.ext (Ext.alloc (Ext.refl w2) (.cells #[.int .i64 0, .int .i64 0] 31)))
    have HSZ := Lib.hid (show (w2.alloc (.cells #[.int .i64 0, .int .i64 0] 31)).heap.size = w2.heap.size + 1 from by simp)
    have hrl := HR2.out.lt
    go_wp2_with fail
    refine (crossing_o _ ps _ HV3.out Hf.out).mono ?_
    rintro e w5 ⟨r, rfl, hr, hE⟩
    rw [HSZ.out] at hr
    have HB5 := Lib.hid (VRow.ext HB3.out hE)
    have HR5 := Lib.hid (VRow.ext HR3.out hE)
    have HM5 := Lib.hid (VRow.ext HM3.out hE)
    have HE5 := Lib.hid (Ext.trans HE3.out hE)
    have HL5 := Lib.hid hr
    clear hE hr HB2 HV2 HR2 HE2 HB3 HR3 HM3 HE3 HV3 HSZ
    generalize crossL ps = cs at *
    obtain ⟨g, hgg⟩ : ∃ g, g = w.heap.size := ⟨_, rfl⟩
    obtain ⟨m, hmm⟩ : ∃ m, m = w2.heap.size := ⟨_, rfl⟩
    rw [← hgg] at HB5 HR5 hrl ⊢
    rw [← hmm] at HM5 HL5 hrl ⊢
    have hgw : w.heap.size ≤ g := by omega
    clear hgg hmm
    cases hcs : cs with
    | nil =>
      subst hcs
      obtain ⟨a1, c1, rfl⟩ := row_slice HL5.out
      have HD := Lib.hid (HS1.out (best_zero _ A B D))
      go_wp2_with fail
      go_loopw [9] (fun iv wr => iv = .int .i64 0 ∧ Ext w5 wr) (fun _ _ => 0)
      case atStart => exact ⟨rfl, Ext.refl _⟩
      case round =>
        rename World => wr
        obtain ⟨rfl, hE⟩ := hrel
        have HMr := Lib.hid (VRow.ext HM5.out hE)
        have HRr := Lib.hid (VRow.ext HR5.out hE)
        have HEr := Lib.hid (Ext.trans HE5.out hE)
        clear hE
        have m0 := VRow.cell HMr.out (k := 0) rfl
        have m1 := VRow.cell HMr.out (k := 1) rfl
        have r0 := VRow.cell HRr.out (k := 0) rfl
        have r1 := VRow.cell HRr.out (k := 1) rfl
        have f0 := VRow.frozen HRr.out 0 none
        have f1 := VRow.frozen HRr.out 1 none
        go_wp2_with fail
        (try simp only [Exit.inBlock, Exit.then])
        (try rw [Exit.noGoto_ret])
        refine bodyPost_ret (rwit_results (vrow2_putW HRr.out _ _) _ rfl rfl) rfl ?_
        exact ⟨HD.out, ext2_putW HEr.out (by omega) _ _⟩
    | cons p0 cs0 =>
      have h1 : 1 ≤ cs.length := by rw [hcs]; simp
      clear hcs
      obtain ⟨b, o, cp, rfl, hln, hcap, hbb, hLA⟩ := own_lat HL5.out (by have := HCL.out; omega) h1
      have HLA := Lib.hid hLA
      have hmb : m ≠ b := by omega
      clear hLA HL5 hbb h1
      have HFIN := Lib.hid (fun (q : Pt) (k : Nat) (hk : k = cs.length) (h : BestI cs A B D k q) => (show BestI cs A B D cs.length q from by rw [← hk]; exact h))
      have HQB := Lib.hid (fun (k : Nat) (hk : k < cs.length) => HCB.out _ (from_mem hk))
      have HQ0 := Lib.hid (fun (k : Nat) (hk : k < cs.length) => HC0.out _ (from_mem hk))
      have HCBq := Lib.hid HCB.out
      obtain ⟨n, hn⟩ : ∃ n, n = cs.length := ⟨_, rfl⟩
      have HN := Lib.hid hn
      rw [← hn] at HCL hln HQB HQ0 ⊢
      clear hn
      go_wp2_with fail
      go_loopw [9] (fun iv wr => ∃ (k : Nat) (q : Pt), iv = .int .i64 (k : Int) ∧ k ≤ n ∧ BestI cs A B D k q ∧ VRow wr m 31 [.int .i64 q.1, .int .i64 q.2] ∧ VRow wr g 24 [.int .i64 A, .int .i64 B, .int .i64 D] ∧ VRow wr (g + 1) 31 [.int .i64 0, .int .i64 0] ∧ LAt wr b o cs ∧ Ext w wr) (fun iv _ => n - (intOf iv).toNat)
      case atStart => exact ⟨0, (0, 0), rfl, Nat.zero_le _, best_zero cs A B D, HM5.out, HB5.out, HR5.out, HLA.out, HE5.out⟩
      case round =>
        rename World => wr
        obtain ⟨k, ⟨mx, my⟩, rfl, hk, hBI, hM, hB, hR, hLA, hE⟩ := hrel
        have HBI := Lib.hid hBI
        have HM := Lib.hid (show VRow wr m 31 [.int .i64 mx, .int .i64 my] from hM)
        have HB := Lib.hid hB
        have HR := Lib.hid hR
        have HLr := Lib.hid hLA
        have HE := Lib.hid hE
        clear hBI hM hB hR hLA hE HM5 HB5 HR5 HLA HE5
        by_cases hlt : k < n
        · obtain ⟨cc1, cc2⟩ := HLr.out k (by rw [← HN.out]; exact hlt)
          have HC := Lib.hid (show _ ∧ _ from And.intro cc1 cc2)
          have HIB := Lib.hid (show inB A B D ((fromP cs k).1, (fromP cs k).2) = inB A B D (fromP cs k) from rfl)
          have HQE := Lib.hid (show fromP cs k = ((fromP cs k).1, (fromP cs k).2) from rfl)
          have HQk := Lib.hid (HQB.out k hlt)
          have HQn := Lib.hid (HQ0.out k hlt)
          have HMQ := Lib.hid (show ((mx, my) : Pt) = (0, 0) ∨ (mx, my) ∈ cs from by
            rcases HBI.out with ⟨e, _⟩ | ⟨e, _⟩
            · exact .inl e
            · exact .inr e)
          have HBS := Lib.hid (best_skip HBI.out)
          have HBF := Lib.hid (best_far HBI.out)
          have HBT := Lib.hid (best_take HBI.out (by rw [← HN.out]; exact hlt))
          obtain ⟨x, hx⟩ : ∃ z, z = (fromP cs k).1 := ⟨_, rfl⟩
          obtain ⟨y, hy⟩ : ∃ z, z = (fromP cs k).2 := ⟨_, rfl⟩
          rw [← hx, ← hy] at HIB HQE HC HQk
          rw [HQE.out] at HQn HIB HBS HBF HBT
          clear hx hy cc1 cc2
          go_wp2_with fail
          cases hin : inB A B D (x, y) with
          | false =>
            have HIN := Lib.hid hin
            clear hin
            refine wp_region_stable [⟨[], none⟩, ⟨[], none⟩, ⟨[], none⟩, ⟨[(1, 27), (2, 28)], none⟩, ⟨[(3, 29)], none⟩, ⟨[(0, 26), (4, 30)], none⟩, ⟨[(5, 31)], none⟩, ⟨[(6, 32)], some (32, true)⟩, ⟨[(6, 32)], some (32, true)⟩, ⟨[(7, 33), (8, 34), (6, 32)], some (32, true)⟩, ⟨[(9, 35), (6, 32)], some (32, true)⟩, ⟨[(10, 36)], some (36, false)⟩, ⟨[(10, 36)], some (36, false)⟩, ⟨[(11, 37), (12, 38), (10, 36)], some (36, false)⟩, ⟨[(13, 39), (10, 36)], some (36, false)⟩, ⟨[(10, 36)], some (36, false)⟩, ⟨[(14, 40), (15, 41), (10, 36)], some (36, false)⟩, ⟨[(10, 36), (16, 42), (6, 32)], some (32, true)⟩, ⟨[(6, 32), (17, 43)], none⟩] (fun x y => Below x.heap.size x y) (MPat [MP.eq (gridV A B D), MP.eq (.slice (some ⟨b, o, none⟩) n cp), MP.eq (.int .i64 k), MP.eq (.pointer (some ⟨b, o + k * 2, none⟩)), MP.eq (vecV x y), MP.eq (.bool false), MP.eq (.bool false), MP.eq (undef), MP.eq (undef), MP.eq (undef), MP.eq (undef), MP.eq (undef), MP.eq (undef), MP.eq (undef), MP.eq (undef), MP.eq (undef), MP.eq (undef), MP.eq (undef), MP.eq (.bool false)]) (by kernel_rfl) (fun _ _ _ h k => Ext.trans h k) (fun _ => Below.refl _ _) (fun x => (Below.refl x.heap.size x).drew) (MPat.mono _) (by kernel_rfl) ?obs ?rest
            case obs =>
              refine ⟨?_, ?_, ?_, ?_, ?_, ?_, ?_, ?_, ?_, ?_, ?_, ?_, ?_, ?_, ?_, ?_, ?_, ?_, ?_, trivial⟩
              · intro ev W hf _ _ hst hd
                have e3 : ev (.tmp 3) = .pointer (some ⟨g, 0, none⟩) := hf 3 (by kernel_rfl)
                have kk := VRow.ext HB.out hst
                have q0 := VRow.cell kk (k := 0) rfl
                have q1 := VRow.cell kk (k := 1) rfl
                have q2 := VRow.cell kk (k := 2) rfl
                refine st_value (v := gridV A B D) ?_ (Below.refl _ _) ?_
                · simp [execOp, go_sem, e3, q0, q1, q2, gridV]
                · exact rfl
              · intro ev W hf _ _ hst hd
                have e8 : ev (.tmp 8) = .slice (some ⟨b, o, none⟩) n cp := hf 8 (by kernel_rfl)
                refine st_value (v := .slice (some ⟨b, o, none⟩) n cp) ?_ (Below.refl _ _) ?_
                · simp [execOp, go_sem, e8]
                · exact rfl
              · intro ev W hf _ _ hst hd
                have e9 : ev (.tmp 9) = .int .i64 k := hf 9 (by kernel_rfl)
                refine st_value (v := .int .i64 k) ?_ (Below.refl _ _) ?_
                · simp [execOp, go_sem, e9]
                · exact rfl
              · intro ev W hf _ _ hst hd
                obtain ⟨d27, d28, _⟩ := hd
                have e27 : ev (.tmp 27) = .slice (some ⟨b, o, none⟩) n cp := d27
                have e28 : ev (.tmp 28) = .int .i64 k := d28
                refine st_value (v := .pointer (some ⟨b, o + k * 2, none⟩)) ?_ (Below.refl _ _) ?_
                · simp [execOp, go_sem, e27, e28, hlt]
                · exact rfl
              · intro ev W hf _ _ hst hd
                obtain ⟨d29, _⟩ := hd
                have e29 : ev (.tmp 29) = .pointer (some ⟨b, o + k * 2, none⟩) := d29
                have k0 := Ext.cell hst HC.out.1
                have k1 := Ext.cell hst HC.out.2
                refine st_value (v := vecV x y) ?_ (Below.refl _ _) ?_
                · simp [execOp, go_sem, e29, k0, k1]
                · exact rfl
              · intro ev W hf _ hfn hst hd
                obtain ⟨d26, d30, _⟩ := hd
                have e26 : ev (.tmp 26) = gridV A B D := d26
                have e30 : ev (.tmp 30) = vecV x y := d30
                have hxq := HQk.out
                refine st_call (f := 37) (args := #[gridV A B D, vecV x y]) (by simp [execOp, go_sem, hfn, e26, e30]) (by have hh := in_c A B D x y W HGO.out (by omega) (by omega); rw [HIN.out] at hh; exact hh) (fun _ _ => rfl)
              · intro ev W hf _ _ hst hd
                obtain ⟨d31, _⟩ := hd
                have e31 : ev (.tmp 31) = .bool false := d31
                refine st_value (v := .bool false) ?_ (Below.refl _ _) ?_
                · simp [execOp, go_sem, e31]
                · exact rfl
              · intro ev W hf _ _ hst hd
                obtain ⟨d32, _⟩ := hd
                have e32 : ev (.tmp 32) = .bool false := d32
                refine ⟨fun hh => ?_, fun _ => rfl⟩
                rw [e32] at hh
                simp at hh
              · intro ev W hf _ _ hst hd
                obtain ⟨d32, _⟩ := hd
                have e32 : ev (.tmp 32) = .bool false := d32
                refine ⟨fun hh => ?_, fun _ => rfl⟩
                rw [e32] at hh
                simp at hh
              · intro ev W hf _ _ hst hd
                obtain ⟨d33, d34, d32, _⟩ := hd
                have e32 : ev (.tmp 32) = .bool false := d32
                refine ⟨fun hh => ?_, fun _ => rfl⟩
                rw [e32] at hh
                simp at hh
              · intro ev W hf _ _ hst hd
                obtain ⟨d35, d32, _⟩ := hd
                have e32 : ev (.tmp 32) = .bool false := d32
                refine ⟨fun hh => ?_, fun _ => rfl⟩
                rw [e32] at hh
                simp at hh
              · intro ev W hf _ _ hst hd
                obtain ⟨d36, _⟩ := hd
                have e36 : ev (.tmp 36) = undef := d36
                refine ⟨fun hh => ?_, fun _ => rfl⟩
                rw [e36] at hh
                cases hh
              · intro ev W hf _ _ hst hd
                obtain ⟨d36, _⟩ := hd
                have e36 : ev (.tmp 36) = undef := d36
                refine ⟨fun hh => ?_, fun _ => rfl⟩
                rw [e36] at hh
                cases hh
              · intro ev W hf _ _ hst hd
                obtain ⟨d37, d38, d36, _⟩ := hd
                have e36 : ev (.tmp 36) = undef := d36
                refine ⟨fun hh => ?_, fun _ => rfl⟩
                rw [e36] at hh
                cases hh
              · intro ev W hf _ _ hst hd
                obtain ⟨d39, d36, _⟩ := hd
                have e36 : ev (.tmp 36) = undef := d36
                refine ⟨fun hh => ?_, fun _ => rfl⟩
                rw [e36] at hh
                cases hh
              · intro ev W hf _ _ hst hd
                obtain ⟨d36, _⟩ := hd
                have e36 : ev (.tmp 36) = undef := d36
                refine ⟨fun hh => ?_, fun _ => rfl⟩
                rw [e36] at hh
                cases hh
              · intro ev W hf _ _ hst hd
                obtain ⟨d40, d41, d36, _⟩ := hd
                have e36 : ev (.tmp 36) = undef := d36
                refine ⟨fun hh => ?_, fun _ => rfl⟩
                rw [e36] at hh
                cases hh
              · intro ev W hf _ _ hst hd
                obtain ⟨d36, d42, d32, _⟩ := hd
                have e32 : ev (.tmp 32) = .bool false := d32
                refine ⟨fun hh => ?_, fun _ => rfl⟩
                rw [e32] at hh
                simp at hh
              · intro ev W hf hcst _ hst hd
                obtain ⟨d32, d43, _⟩ := hd
                have e32 : ev (.tmp 32) = .bool false := d32
                have e43 : ev (.tmp 43) = undef := d43
                refine st_value (v := .bool false) ?_ (Below.refl _ _) ?_
                · simp [execOp, go_sem, e32, e43, hcst]
                · exact rfl
            case rest =>
              intro vs w3 hl hst hg
              have hx0 : ∀ u, vs[0]? = some u → u = gridV A B D := fun u hu => hg 0 u hu
              have hx1 : ∀ u, vs[1]? = some u → u = .slice (some ⟨b, o, none⟩) n cp := fun u hu => hg 1 u hu
              have hx2 : ∀ u, vs[2]? = some u → u = .int .i64 k := fun u hu => hg 2 u hu
              have hx3 : ∀ u, vs[3]? = some u → u = .pointer (some ⟨b, o + k * 2, none⟩) := fun u hu => hg 3 u hu
              have hx4 : ∀ u, vs[4]? = some u → u = vecV x y := fun u hu => hg 4 u hu
              have hx5 : ∀ u, vs[5]? = some u → u = .bool false := fun u hu => hg 5 u hu
              have hx6 : ∀ u, vs[6]? = some u → u = .bool false := fun u hu => hg 6 u hu
              have hx7 : ∀ u, vs[7]? = some u → u = undef := fun u hu => hg 7 u hu
              have hx8 : ∀ u, vs[8]? = some u → u = undef := fun u hu => hg 8 u hu
              have hx9 : ∀ u, vs[9]? = some u → u = undef := fun u hu => hg 9 u hu
              have hx10 : ∀ u, vs[10]? = some u → u = undef := fun u hu => hg 10 u hu
              have hx11 : ∀ u, vs[11]? = some u → u = undef := fun u hu => hg 11 u hu
              have hx12 : ∀ u, vs[12]? = some u → u = undef := fun u hu => hg 12 u hu
              have hx13 : ∀ u, vs[13]? = some u → u = undef := fun u hu => hg 13 u hu
              have hx14 : ∀ u, vs[14]? = some u → u = undef := fun u hu => hg 14 u hu
              have hx15 : ∀ u, vs[15]? = some u → u = undef := fun u hu => hg 15 u hu
              have hx16 : ∀ u, vs[16]? = some u → u = undef := fun u hu => hg 16 u hu
              have hx17 : ∀ u, vs[17]? = some u → u = undef := fun u hu => hg 17 u hu
              have hx18 : ∀ u, vs[18]? = some u → u = .bool false := fun u hu => hg 18 u hu
              have HE3 := Lib.hid hst
              clear hg hst
              obtain ⟨x0, vs0, rfl, hl0⟩ := len_succ hl
              obtain ⟨x1, vs1, rfl, hl1⟩ := len_succ hl0
              obtain ⟨x2, vs2, rfl, hl2⟩ := len_succ hl1
              obtain ⟨x3, vs3, rfl, hl3⟩ := len_succ hl2
              obtain ⟨x4, vs4, rfl, hl4⟩ := len_succ hl3
              obtain ⟨x5, vs5, rfl, hl5⟩ := len_succ hl4
              obtain ⟨x6, vs6, rfl, hl6⟩ := len_succ hl5
              obtain ⟨x7, vs7, rfl, hl7⟩ := len_succ hl6
              obtain ⟨x8, vs8, rfl, hl8⟩ := len_succ hl7
              obtain ⟨x9, vs9, rfl, hl9⟩ := len_succ hl8
              obtain ⟨x10, vs10, rfl, hl10⟩ := len_succ hl9
              obtain ⟨x11, vs11, rfl, hl11⟩ := len_succ hl10
              obtain ⟨x12, vs12, rfl, hl12⟩ := len_succ hl11
              obtain ⟨x13, vs13, rfl, hl13⟩ := len_succ hl12
              obtain ⟨x14, vs14, rfl, hl14⟩ := len_succ hl13
              obtain ⟨x15, vs15, rfl, hl15⟩ := len_succ hl14
              obtain ⟨x16, vs16, rfl, hl16⟩ := len_succ hl15
              obtain ⟨x17, vs17, rfl, hl17⟩ := len_succ hl16
              obtain ⟨x18, vs18, rfl, hl18⟩ := len_succ hl17
              have hnil : vs18 = [] := List.length_eq_zero_iff.1 hl18
              subst hnil
              obtain rfl : x0 = gridV A B D := hx0 _ rfl
              obtain rfl : x1 = .slice (some ⟨b, o, none⟩) n cp := hx1 _ rfl
              obtain rfl : x2 = .int .i64 k := hx2 _ rfl
              obtain rfl : x3 = .pointer (some ⟨b, o + k * 2, none⟩) := hx3 _ rfl
              obtain rfl : x4 = vecV x y := hx4 _ rfl
              obtain rfl : x5 = .bool false := hx5 _ rfl
              obtain rfl : x6 = .bool false := hx6 _ rfl
              obtain rfl : x7 = undef := hx7 _ rfl
              obtain rfl : x8 = undef := hx8 _ rfl
              obtain rfl : x9 = undef := hx9 _ rfl
              obtain rfl : x10 = undef := hx10 _ rfl
              obtain rfl : x11 = undef := hx11 _ rfl
              obtain rfl : x12 = undef := hx12 _ rfl
              obtain rfl : x13 = undef := hx13 _ rfl
              obtain rfl : x14 = undef := hx14 _ rfl
              obtain rfl : x15 = undef := hx15 _ rfl
              obtain rfl : x16 = undef := hx16 _ rfl
              obtain rfl : x17 = undef := hx17 _ rfl
              obtain rfl : x18 = .bool false := hx18 _ rfl
              clear hx0 hx1 hx2 hx3 hx4 hx5 hx6 hx7 hx8 hx9 hx10 hx11 hx12 hx13 hx14 hx15 hx16 hx17 hx18
              simp only [putAll, Act.put, List.setIfInBounds_toArray, List.set_cons_zero, List.set_cons_succ]
              go_wp2_with fail
              exact ⟨⟨k + 1, (mx, my), by simp, by omega, HBS.out HIN.out, VRow.ext HM.out HE3.out, VRow.ext HB.out HE3.out, VRow.ext HR.out HE3.out, LAt.ext HLr.out HE3.out, Ext.trans HE.out HE3.out⟩, by simp [intOf]; omega⟩
          | true =>
            have HIN := Lib.hid hin
            clear hin
            by_cases h0 : mx = 0 ∧ my = 0
            · obtain ⟨rfl, rfl⟩ := h0
              refine wp_region_stable [⟨[], none⟩, ⟨[], none⟩, ⟨[], none⟩, ⟨[(1, 27), (2, 28)], none⟩, ⟨[(3, 29)], none⟩, ⟨[(0, 26), (4, 30)], none⟩, ⟨[(5, 31)], none⟩, ⟨[(6, 32)], some (32, true)⟩, ⟨[(6, 32)], some (32, true)⟩, ⟨[(7, 33), (8, 34), (6, 32)], some (32, true)⟩, ⟨[(9, 35), (6, 32)], some (32, true)⟩, ⟨[(10, 36)], some (36, false)⟩, ⟨[(10, 36)], some (36, false)⟩, ⟨[(11, 37), (12, 38), (10, 36)], some (36, false)⟩, ⟨[(13, 39), (10, 36)], some (36, false)⟩, ⟨[(10, 36)], some (36, false)⟩, ⟨[(14, 40), (15, 41), (10, 36)], some (36, false)⟩, ⟨[(10, 36), (16, 42), (6, 32)], some (32, true)⟩, ⟨[(6, 32), (17, 43)], none⟩] (fun x y => Below x.heap.size x y) (MPat [MP.eq (gridV A B D), MP.eq (.slice (some ⟨b, o, none⟩) n cp), MP.eq (.int .i64 k), MP.eq (.pointer (some ⟨b, o + k * 2, none⟩)), MP.eq (vecV x y), MP.eq (.bool true), MP.eq (.bool true), MP.eq (vecV 0 0), MP.eq (vecV 0 0), MP.eq (.bool true), MP.eq (.bool true), MP.eq (undef), MP.eq (undef), MP.eq (undef), MP.eq (undef), MP.eq (undef), MP.eq (undef), MP.eq (.bool true), MP.eq (.bool true)]) (by kernel_rfl) (fun _ _ _ h k => Ext.trans h k) (fun _ => Below.refl _ _) (fun x => (Below.refl x.heap.size x).drew) (MPat.mono _) (by kernel_rfl) ?obs ?rest
              case obs =>
                refine ⟨?_, ?_, ?_, ?_, ?_, ?_, ?_, ?_, ?_, ?_, ?_, ?_, ?_, ?_, ?_, ?_, ?_, ?_, ?_, trivial⟩
                · intro ev W hf _ _ hst hd
                  have e3 : ev (.tmp 3) = .pointer (some ⟨g, 0, none⟩) := hf 3 (by kernel_rfl)
                  have kk := VRow.ext HB.out hst
                  have q0 := VRow.cell kk (k := 0) rfl
                  have q1 := VRow.cell kk (k := 1) rfl
                  have q2 := VRow.cell kk (k := 2) rfl
                  refine st_value (v := gridV A B D) ?_ (Below.refl _ _) ?_
                  · simp [execOp, go_sem, e3, q0, q1, q2, gridV]
                  · exact rfl
                · intro ev W hf _ _ hst hd
                  have e8 : ev (.tmp 8) = .slice (some ⟨b, o, none⟩) n cp := hf 8 (by kernel_rfl)
                  refine st_value (v := .slice (some ⟨b, o, none⟩) n cp) ?_ (Below.refl _ _) ?_
                  · simp [execOp, go_sem, e8]
                  · exact rfl
                · intro ev W hf _ _ hst hd
                  have e9 : ev (.tmp 9) = .int .i64 k := hf 9 (by kernel_rfl)
                  refine st_value (v := .int .i64 k) ?_ (Below.refl _ _) ?_
                  · simp [execOp, go_sem, e9]
                  · exact rfl
                · intro ev W hf _ _ hst hd
                  obtain ⟨d27, d28, _⟩ := hd
                  have e27 : ev (.tmp 27) = .slice (some ⟨b, o, none⟩) n cp := d27
                  have e28 : ev (.tmp 28) = .int .i64 k := d28
                  refine st_value (v := .pointer (some ⟨b, o + k * 2, none⟩)) ?_ (Below.refl _ _) ?_
                  · simp [execOp, go_sem, e27, e28, hlt]
                  · exact rfl
                · intro ev W hf _ _ hst hd
                  obtain ⟨d29, _⟩ := hd
                  have e29 : ev (.tmp 29) = .pointer (some ⟨b, o + k * 2, none⟩) := d29
                  have k0 := Ext.cell hst HC.out.1
                  have k1 := Ext.cell hst HC.out.2
                  refine st_value (v := vecV x y) ?_ (Below.refl _ _) ?_
                  · simp [execOp, go_sem, e29, k0, k1]
                  · exact rfl
                · intro ev W hf _ hfn hst hd
                  obtain ⟨d26, d30, _⟩ := hd
                  have e26 : ev (.tmp 26) = gridV A B D := d26
                  have e30 : ev (.tmp 30) = vecV x y := d30
                  have hxq := HQk.out
                  refine st_call (f := 37) (args := #[gridV A B D, vecV x y]) (by simp [execOp, go_sem, hfn, e26, e30]) (by have hh := in_c A B D x y W HGO.out (by omega) (by omega); rw [HIN.out] at hh; exact hh) (fun _ _ => rfl)
                · intro ev W hf _ _ hst hd
                  obtain ⟨d31, _⟩ := hd
                  have e31 : ev (.tmp 31) = .bool true := d31
                  refine st_value (v := .bool true) ?_ (Below.refl _ _) ?_
                  · simp [execOp, go_sem, e31]
                  · exact rfl
                · intro ev W hf _ _ hst hd
                  obtain ⟨d32, _⟩ := hd
                  have e7 : ev (.tmp 7) = .pointer (some ⟨m, 0, none⟩) := hf 7 (by kernel_rfl)
                  have e32 : ev (.tmp 32) = .bool true := d32
                  refine ⟨fun _ => ?_, fun hne => absurd e32 hne⟩
                  have kk := VRow.ext HM.out hst
                  have q0 := VRow.cell kk (k := 0) rfl
                  have q1 := VRow.cell kk (k := 1) rfl
                  refine st_value (v := vecV 0 0) ?_ (Below.refl _ _) ?_
                  · simp [execOp, go_sem, e7, q0, q1]
                  · exact rfl
                · intro ev W hf _ _ hst hd
                  obtain ⟨d32, _⟩ := hd
                  have e32 : ev (.tmp 32) = .bool true := d32
                  refine ⟨fun _ => ?_, fun hne => absurd e32 hne⟩
                  refine st_value (v := vecV 0 0) ?_ (Below.refl _ _) ?_
                  · simp [execOp, go_sem]
                  · exact rfl
                · intro ev W hf _ _ hst hd
                  obtain ⟨d33, d34, d32, _⟩ := hd
                  have e33 : ev (.tmp 33) = vecV 0 0 := d33
                  have e34 : ev (.tmp 34) = vecV 0 0 := d34
                  have e32 : ev (.tmp 32) = .bool true := d32
                  refine ⟨fun _ => ?_, fun hne => absurd e32 hne⟩
                  refine st_value (v := .bool true) ?_ (Below.refl _ _) ?_
                  · simp [execOp, go_sem, e33, e34]
                  · exact rfl
                · intro ev W hf _ _ hst hd
                  obtain ⟨d35, d32, _⟩ := hd
                  have e35 : ev (.tmp 35) = .bool true := d35
                  have e32 : ev (.tmp 32) = .bool true := d32
                  refine ⟨fun _ => ?_, fun hne => absurd e32 hne⟩
                  refine st_value (v := .bool true) ?_ (Below.refl _ _) ?_
                  · simp [execOp, go_sem, e35]
                  · exact rfl
                · intro ev W hf _ _ hst hd
                  obtain ⟨d36, _⟩ := hd
                  have e36 : ev (.tmp 36) = .bool true := d36
                  refine ⟨fun hh => ?_, fun _ => rfl⟩
                  rw [e36] at hh
                  simp at hh
                · intro ev W hf _ _ hst hd
                  obtain ⟨d36, _⟩ := hd
                  have e36 : ev (.tmp 36) = .bool true := d36
                  refine ⟨fun hh => ?_, fun _ => rfl⟩
                  rw [e36] at hh
                  simp at hh
                · intro ev W hf _ _ hst hd
                  obtain ⟨d37, d38, d36, _⟩ := hd
                  have e36 : ev (.tmp 36) = .bool true := d36
                  refine ⟨fun hh => ?_, fun _ => rfl⟩
                  rw [e36] at hh
                  simp at hh
                · intro ev W hf _ _ hst hd
                  obtain ⟨d39, d36, _⟩ := hd
                  have e36 : ev (.tmp 36) = .bool true := d36
                  refine ⟨fun hh => ?_, fun _ => rfl⟩
                  rw [e36] at hh
                  simp at hh
                · intro ev W hf _ _ hst hd
                  obtain ⟨d36, _⟩ := hd
                  have e36 : ev (.tmp 36) = .bool true := d36
                  refine ⟨fun hh => ?_, fun _ => rfl⟩
                  rw [e36] at hh
                  simp at hh
                · intro ev W hf _ _ hst hd
                  obtain ⟨d40, d41, d36, _⟩ := hd
                  have e36 : ev (.tmp 36) = .bool true := d36
                  refine ⟨fun hh => ?_, fun _ => rfl⟩
                  rw [e36] at hh
                  simp at hh
                · intro ev W hf hcst _ hst hd
                  obtain ⟨d36, d42, d32, _⟩ := hd
                  have e36 : ev (.tmp 36) = .bool true := d36
                  have e42 : ev (.tmp 42) = undef := d42
                  have e32 : ev (.tmp 32) = .bool true := d32
                  refine ⟨fun _ => ?_, fun hne => absurd e32 hne⟩
                  refine st_value (v := .bool true) ?_ (Below.refl _ _) ?_
                  · simp [execOp, go_sem, e36, e42, hcst]
                  · exact rfl
                · intro ev W hf hcst _ hst hd
                  obtain ⟨d32, d43, _⟩ := hd
                  have e32 : ev (.tmp 32) = .bool true := d32
                  have e43 : ev (.tmp 43) = .bool true := d43
                  refine st_value (v := .bool true) ?_ (Below.refl _ _) ?_
                  · simp [execOp, go_sem, e32, e43, hcst]
                  · exact rfl
              case rest =>
                intro vs w3 hl hst hg
                have hx0 : ∀ u, vs[0]? = some u → u = gridV A B D := fun u hu => hg 0 u hu
                have hx1 : ∀ u, vs[1]? = some u → u = .slice (some ⟨b, o, none⟩) n cp := fun u hu => hg 1 u hu
                have hx2 : ∀ u, vs[2]? = some u → u = .int .i64 k := fun u hu => hg 2 u hu
                have hx3 : ∀ u, vs[3]? = some u → u = .pointer (some ⟨b, o + k * 2, none⟩) := fun u hu => hg 3 u hu
                have hx4 : ∀ u, vs[4]? = some u → u = vecV x y := fun u hu => hg 4 u hu
                have hx5 : ∀ u, vs[5]? = some u → u = .bool true := fun u hu => hg 5 u hu
                have hx6 : ∀ u, vs[6]? = some u → u = .bool true := fun u hu => hg 6 u hu
                have hx7 : ∀ u, vs[7]? = some u → u = vecV 0 0 := fun u hu => hg 7 u hu
                have hx8 : ∀ u, vs[8]? = some u → u = vecV 0 0 := fun u hu => hg 8 u hu
                have hx9 : ∀ u, vs[9]? = some u → u = .bool true := fun u hu => hg 9 u hu
                have hx10 : ∀ u, vs[10]? = some u → u = .bool true := fun u hu => hg 10 u hu
                have hx11 : ∀ u, vs[11]? = some u → u = undef := fun u hu => hg 11 u hu
                have hx12 : ∀ u, vs[12]? = some u → u = undef := fun u hu => hg 12 u hu
                have hx13 : ∀ u, vs[13]? = some u → u = undef := fun u hu => hg 13 u hu
                have hx14 : ∀ u, vs[14]? = some u → u = undef := fun u hu => hg 14 u hu
                have hx15 : ∀ u, vs[15]? = some u → u = undef := fun u hu => hg 15 u hu
                have hx16 : ∀ u, vs[16]? = some u → u = undef := fun u hu => hg 16 u hu
                have hx17 : ∀ u, vs[17]? = some u → u = .bool true := fun u hu => hg 17 u hu
                have hx18 : ∀ u, vs[18]? = some u → u = .bool true := fun u hu => hg 18 u hu
                have HE3 := Lib.hid hst
                clear hg hst
                obtain ⟨x0, vs0, rfl, hl0⟩ := len_succ hl
                obtain ⟨x1, vs1, rfl, hl1⟩ := len_succ hl0
                obtain ⟨x2, vs2, rfl, hl2⟩ := len_succ hl1
                obtain ⟨x3, vs3, rfl, hl3⟩ := len_succ hl2
                obtain ⟨x4, vs4, rfl, hl4⟩ := len_succ hl3
                obtain ⟨x5, vs5, rfl, hl5⟩ := len_succ hl4
                obtain ⟨x6, vs6, rfl, hl6⟩ := len_succ hl5
                obtain ⟨x7, vs7, rfl, hl7⟩ := len_succ hl6
                obtain ⟨x8, vs8, rfl, hl8⟩ := len_succ hl7
                obtain ⟨x9, vs9, rfl, hl9⟩ := len_succ hl8
                obtain ⟨x10, vs10, rfl, hl10⟩ := len_succ hl9
                obtain ⟨x11, vs11, rfl, hl11⟩ := len_succ hl10
                obtain ⟨x12, vs12, rfl, hl12⟩ := len_succ hl11
                obtain ⟨x13, vs13, rfl, hl13⟩ := len_succ hl12
                obtain ⟨x14, vs14, rfl, hl14⟩ := len_succ hl13
                obtain ⟨x15, vs15, rfl, hl15⟩ := len_succ hl14
                obtain ⟨x16, vs16, rfl, hl16⟩ := len_succ hl15
                obtain ⟨x17, vs17, rfl, hl17⟩ := len_succ hl16
                obtain ⟨x18, vs18, rfl, hl18⟩ := len_succ hl17
                have hnil : vs18 = [] := List.length_eq_zero_iff.1 hl18
                subst hnil
                obtain rfl : x0 = gridV A B D := hx0 _ rfl
                obtain rfl : x1 = .slice (some ⟨b, o, none⟩) n cp := hx1 _ rfl
                obtain rfl : x2 = .int .i64 k := hx2 _ rfl
                obtain rfl : x3 = .pointer (some ⟨b, o + k * 2, none⟩) := hx3 _ rfl
                obtain rfl : x4 = vecV x y := hx4 _ rfl
                obtain rfl : x5 = .bool true := hx5 _ rfl
                obtain rfl : x6 = .bool true := hx6 _ rfl
                obtain rfl : x7 = vecV 0 0 := hx7 _ rfl
                obtain rfl : x8 = vecV 0 0 := hx8 _ rfl
                obtain rfl : x9 = .bool true := hx9 _ rfl
                obtain rfl : x10 = .bool true := hx10 _ rfl
                obtain rfl : x11 = undef := hx11 _ rfl
                obtain rfl : x12 = undef := hx12 _ rfl
                obtain rfl : x13 = undef := hx13 _ rfl
                obtain rfl : x14 = undef := hx14 _ rfl
                obtain rfl : x15 = undef := hx15 _ rfl
                obtain rfl : x16 = undef := hx16 _ rfl
                obtain rfl : x17 = .bool true := hx17 _ rfl
                obtain rfl : x18 = .bool true := hx18 _ rfl
                clear hx0 hx1 hx2 hx3 hx4 hx5 hx6 hx7 hx8 hx9 hx10 hx11 hx12 hx13 hx14 hx15 hx16 hx17 hx18
                simp only [putAll, Act.put, List.setIfInBounds_toArray, List.set_cons_zero, List.set_cons_succ]
                have hm3 := VRow.ext HM.out HE3.out
                have hl3 := LAt.ext HLr.out HE3.out
                have hb3 := VRow.ext HB.out HE3.out
                have hr3 := VRow.ext HR.out HE3.out
                have HM9 := Lib.hid hm3
                have HL9 := Lib.hid hl3
                have HB9 := Lib.hid hb3
                have HR9 := Lib.hid hr3
                have c0 := Ext.cell HE3.out HC.out.1
                have c1 := Ext.cell HE3.out HC.out.2
                have m0 := VRow.cell hm3 (k := 0) rfl
                have m1 := VRow.cell hm3 (k := 1) rfl
                have f0 := VRow.frozen hm3 0 none
                have f1 := VRow.frozen hm3 1 none
                clear hm3 hl3 hb3 hr3
                go_wp2_with fail
                refine ⟨⟨k + 1, (x, y), by simp, by omega, HBT.out (HQn.out) HIN.out (.inl rfl), VRow.set (VRow.set HM9.out 0 _) 1 _, VRow.setOther (VRow.setOther HB9.out (by show g ≠ m; omega) _) (by show g ≠ m; omega) _, VRow.setOther (VRow.setOther HR9.out (by show g + 1 ≠ m; omega) _) (by show g + 1 ≠ m; omega) _, LAt.other (LAt.other HL9.out hmb _) hmb _, ?_⟩, by simp [intOf]; omega⟩
                exact Below.setCell (p := ⟨m, 1, none⟩) (Below.setCell (p := ⟨m, 0, none⟩) (Ext.trans HE.out HE3.out) (by show _ ≤ m; omega) _) (by show _ ≤ m; omega) _
            · have HNZ := Lib.hid (show ¬ mx = 0 ∨ (mx = 0 ∧ ¬ my = 0) from by omega)
              have HNQ := Lib.hid (show ((mx, my) : Pt) ≠ (0, 0) from fun e => h0 ⟨congrArg Prod.fst e, congrArg Prod.snd e⟩)
              have HMB := Lib.hid (show -1000 ≤ mx ∧ mx ≤ 1000 ∧ -1000 ≤ my ∧ my ≤ 1000 from by
                rcases HMQ.out with e | e
                · exact absurd e HNQ.out
                · exact HCBq.out _ e)
              clear h0
              have hxq := HQk.out
              have hmq := HMB.out
              have HNE := Lib.hid (fun (W : World) => nearer_c x y mx my W (by omega) (by omega) (by omega) (by omega))
              by_cases hneg : witP (x, y) (mx, my) < 0
              · have HNG := Lib.hid hneg
                have HDE := Lib.hid (decide_eq_true hneg)
                clear hneg
                rw [HDE.out] at HNE
                refine wp_region_stable [⟨[], none⟩, ⟨[], none⟩, ⟨[], none⟩, ⟨[(1, 27), (2, 28)], none⟩, ⟨[(3, 29)], none⟩, ⟨[(0, 26), (4, 30)], none⟩, ⟨[(5, 31)], none⟩, ⟨[(6, 32)], some (32, true)⟩, ⟨[(6, 32)], some (32, true)⟩, ⟨[(7, 33), (8, 34), (6, 32)], some (32, true)⟩, ⟨[(9, 35), (6, 32)], some (32, true)⟩, ⟨[(10, 36)], some (36, false)⟩, ⟨[(10, 36)], some (36, false)⟩, ⟨[(11, 37), (12, 38), (10, 36)], some (36, false)⟩, ⟨[(13, 39), (10, 36)], some (36, false)⟩, ⟨[(10, 36)], some (36, false)⟩, ⟨[(14, 40), (15, 41), (10, 36)], some (36, false)⟩, ⟨[(10, 36), (16, 42), (6, 32)], some (32, true)⟩, ⟨[(6, 32), (17, 43)], none⟩] (fun x y => Below x.heap.size x y) (MPat [MP.eq (gridV A B D), MP.eq (.slice (some ⟨b, o, none⟩) n cp), MP.eq (.int .i64 k), MP.eq (.pointer (some ⟨b, o + k * 2, none⟩)), MP.eq (vecV x y), MP.eq (.bool true), MP.eq (.bool true), MP.eq (vecV mx my), MP.eq (vecV 0 0), MP.eq (.bool false), MP.eq (.bool false), MP.eq (.slice (some ⟨b, o, none⟩) n cp), MP.eq (.int .i64 k), MP.eq (.pointer (some ⟨b, o + k * 2, none⟩)), MP.eq (vecV x y), MP.eq (vecV mx my), MP.eq (.bool true), MP.eq (.bool true), MP.eq (.bool true)]) (by kernel_rfl) (fun _ _ _ h k => Ext.trans h k) (fun _ => Below.refl _ _) (fun x => (Below.refl x.heap.size x).drew) (MPat.mono _) (by kernel_rfl) ?obs ?rest
                case obs =>
                  refine ⟨?_, ?_, ?_, ?_, ?_, ?_, ?_, ?_, ?_, ?_, ?_, ?_, ?_, ?_, ?_, ?_, ?_, ?_, ?_, trivial⟩
                  · intro ev W hf _ _ hst hd
                    have e3 : ev (.tmp 3) = .pointer (some ⟨g, 0, none⟩) := hf 3 (by kernel_rfl)
                    have kk := VRow.ext HB.out hst
                    have q0 := VRow.cell kk (k := 0) rfl
                    have q1 := VRow.cell kk (k := 1) rfl
                    have q2 := VRow.cell kk (k := 2) rfl
                    refine st_value (v := gridV A B D) ?_ (Below.refl _ _) ?_
                    · simp [execOp, go_sem, e3, q0, q1, q2, gridV]
                    · exact rfl
                  · intro ev W hf _ _ hst hd
                    have e8 : ev (.tmp 8) = .slice (some ⟨b, o, none⟩) n cp := hf 8 (by kernel_rfl)
                    refine st_value (v := .slice (some ⟨b, o, none⟩) n cp) ?_ (Below.refl _ _) ?_
                    · simp [execOp, go_sem, e8]
                    · exact rfl
                  · intro ev W hf _ _ hst hd
                    have e9 : ev (.tmp 9) = .int .i64 k := hf 9 (by kernel_rfl)
                    refine st_value (v := .int .i64 k) ?_ (Below.refl _ _) ?_
                    · simp [execOp, go_sem, e9]
                    · exact rfl
                  · intro ev W hf _ _ hst hd
                    obtain ⟨d27, d28, _⟩ := hd
                    have e27 : ev (.tmp 27) = .slice (some ⟨b, o, none⟩) n cp := d27
                    have e28 : ev (.tmp 28) = .int .i64 k := d28
                    refine st_value (v := .pointer (some ⟨b, o + k * 2, none⟩)) ?_ (Below.refl _ _) ?_
                    · simp [execOp, go_sem, e27, e28, hlt]
                    · exact rfl
                  · intro ev W hf _ _ hst hd
                    obtain ⟨d29, _⟩ := hd
                    have e29 : ev (.tmp 29) = .pointer (some ⟨b, o + k * 2, none⟩) := d29
                    have k0 := Ext.cell hst HC.out.1
                    have k1 := Ext.cell hst HC.out.2
                    refine st_value (v := vecV x y) ?_ (Below.refl _ _) ?_
                    · simp [execOp, go_sem, e29, k0, k1]
                    · exact rfl
                  · intro ev W hf _ hfn hst hd
                    obtain ⟨d26, d30, _⟩ := hd
                    have e26 : ev (.tmp 26) = gridV A B D := d26
                    have e30 : ev (.tmp 30) = vecV x y := d30
                    have hxq := HQk.out
                    refine st_call (f := 37) (args := #[gridV A B D, vecV x y]) (by simp [execOp, go_sem, hfn, e26, e30]) (by have hh := in_c A B D x y W HGO.out (by omega) (by omega); rw [HIN.out] at hh; exact hh) (fun _ _ => rfl)
                  · intro ev W hf _ _ hst hd
                    obtain ⟨d31, _⟩ := hd
                    have e31 : ev (.tmp 31) = .bool true := d31
                    refine st_value (v := .bool true) ?_ (Below.refl _ _) ?_
                    · simp [execOp, go_sem, e31]
                    · exact rfl
                  · intro ev W hf _ _ hst hd
                    obtain ⟨d32, _⟩ := hd
                    have e7 : ev (.tmp 7) = .pointer (some ⟨m, 0, none⟩) := hf 7 (by kernel_rfl)
                    have e32 : ev (.tmp 32) = .bool true := d32
                    refine ⟨fun _ => ?_, fun hne => absurd e32 hne⟩
                    have kk := VRow.ext HM.out hst
                    have q0 := VRow.cell kk (k := 0) rfl
                    have q1 := VRow.cell kk (k := 1) rfl
                    refine st_value (v := vecV mx my) ?_ (Below.refl _ _) ?_
                    · simp [execOp, go_sem, e7, q0, q1]
                    · exact rfl
                  · intro ev W hf _ _ hst hd
                    obtain ⟨d32, _⟩ := hd
                    have e32 : ev (.tmp 32) = .bool true := d32
                    refine ⟨fun _ => ?_, fun hne => absurd e32 hne⟩
                    refine st_value (v := vecV 0 0) ?_ (Below.refl _ _) ?_
                    · simp [execOp, go_sem]
                    · exact rfl
                  · intro ev W hf _ _ hst hd
                    obtain ⟨d33, d34, d32, _⟩ := hd
                    have e33 : ev (.tmp 33) = vecV mx my := d33
                    have e34 : ev (.tmp 34) = vecV 0 0 := d34
                    have e32 : ev (.tmp 32) = .bool true := d32
                    refine ⟨fun _ => ?_, fun hne => absurd e32 hne⟩
                    refine st_value (v := .bool false) ?_ (Below.refl _ _) ?_
                    · rcases HNZ.out with h | ⟨h, h2⟩ <;> simp [execOp, go_sem, e33, e34, h, *]
                    · exact rfl
                  · intro ev W hf _ _ hst hd
                    obtain ⟨d35, d32, _⟩ := hd
                    have e35 : ev (.tmp 35) = .bool false := d35
                    have e32 : ev (.tmp 32) = .bool true := d32
                    refine ⟨fun _ => ?_, fun hne => absurd e32 hne⟩
                    refine st_value (v := .bool false) ?_ (Below.refl _ _) ?_
                    · simp [execOp, go_sem, e35]
                    · exact rfl
                  · intro ev W hf _ _ hst hd
                    obtain ⟨d36, _⟩ := hd
                    have e8 : ev (.tmp 8) = .slice (some ⟨b, o, none⟩) n cp := hf 8 (by kernel_rfl)
                    have e36 : ev (.tmp 36) = .bool false := d36
                    refine ⟨fun _ => ?_, fun hne => absurd e36 hne⟩
                    refine st_value (v := .slice (some ⟨b, o, none⟩) n cp) ?_ (Below.refl _ _) ?_
                    · simp [execOp, go_sem, e8]
                    · exact rfl
                  · intro ev W hf _ _ hst hd
                    obtain ⟨d36, _⟩ := hd
                    have e9 : ev (.tmp 9) = .int .i64 k := hf 9 (by kernel_rfl)
                    have e36 : ev (.tmp 36) = .bool false := d36
                    refine ⟨fun _ => ?_, fun hne => absurd e36 hne⟩
                    refine st_value (v := .int .i64 k) ?_ (Below.refl _ _) ?_
                    · simp [execOp, go_sem, e9]
                    · exact rfl
                  · intro ev W hf _ _ hst hd
                    obtain ⟨d37, d38, d36, _⟩ := hd
                    have e37 : ev (.tmp 37) = .slice (some ⟨b, o, none⟩) n cp := d37
                    have e38 : ev (.tmp 38) = .int .i64 k := d38
                    have e36 : ev (.tmp 36) = .bool false := d36
                    refine ⟨fun _ => ?_, fun hne => absurd e36 hne⟩
                    refine st_value (v := .pointer (some ⟨b, o + k * 2, none⟩)) ?_ (Below.refl _ _) ?_
                    · simp [execOp, go_sem, e37, e38, hlt]
                    · exact rfl
                  · intro ev W hf _ _ hst hd
                    obtain ⟨d39, d36, _⟩ := hd
                    have e39 : ev (.tmp 39) = .pointer (some ⟨b, o + k * 2, none⟩) := d39
                    have e36 : ev (.tmp 36) = .bool false := d36
                    refine ⟨fun _ => ?_, fun hne => absurd e36 hne⟩
                    have k0 := Ext.cell hst HC.out.1
                    have k1 := Ext.cell hst HC.out.2
                    refine st_value (v := vecV x y) ?_ (Below.refl _ _) ?_
                    · simp [execOp, go_sem, e39, k0, k1]
                    · exact rfl
                  · intro ev W hf _ _ hst hd
                    obtain ⟨d36, _⟩ := hd
                    have e7 : ev (.tmp 7) = .pointer (some ⟨m, 0, none⟩) := hf 7 (by kernel_rfl)
                    have e36 : ev (.tmp 36) = .bool false := d36
                    refine ⟨fun _ => ?_, fun hne => absurd e36 hne⟩
                    have kk := VRow.ext HM.out hst
                    have q0 := VRow.cell kk (k := 0) rfl
                    have q1 := VRow.cell kk (k := 1) rfl
                    refine st_value (v := vecV mx my) ?_ (Below.refl _ _) ?_
                    · simp [execOp, go_sem, e7, q0, q1]
                    · exact rfl
                  · intro ev W hf _ hfn hst hd
                    obtain ⟨d40, d41, d36, _⟩ := hd
                    have e40 : ev (.tmp 40) = vecV x y := d40
                    have e41 : ev (.tmp 41) = vecV mx my := d41
                    have e36 : ev (.tmp 36) = .bool false := d36
                    refine ⟨fun _ => ?_, fun hne => absurd e36 hne⟩
                    refine st_call (f := 53) (args := #[vecV x y, vecV mx my]) (by simp [execOp, go_sem, hfn, e40, e41]) (HNE.out W) (fun _ _ => rfl)
                  · intro ev W hf hcst _ hst hd
                    obtain ⟨d36, d42, d32, _⟩ := hd
                    have e36 : ev (.tmp 36) = .bool false := d36
                    have e42 : ev (.tmp 42) = .bool true := d42
                    have e32 : ev (.tmp 32) = .bool true := d32
                    refine ⟨fun _ => ?_, fun hne => absurd e32 hne⟩
                    refine st_value (v := .bool true) ?_ (Below.refl _ _) ?_
                    · simp [execOp, go_sem, e36, e42, hcst]
                    · exact rfl
                  · intro ev W hf hcst _ hst hd
                    obtain ⟨d32, d43, _⟩ := hd
                    have e32 : ev (.tmp 32) = .bool true := d32
                    have e43 : ev (.tmp 43) = .bool true := d43
                    refine st_value (v := .bool true) ?_ (Below.refl _ _) ?_
                    · simp [execOp, go_sem, e32, e43, hcst]
                    · exact rfl
                case rest =>
                  intro vs w3 hl hst hg
                  have hx0 : ∀ u, vs[0]? = some u → u = gridV A B D := fun u hu => hg 0 u hu
                  have hx1 : ∀ u, vs[1]? = some u → u = .slice (some ⟨b, o, none⟩) n cp := fun u hu => hg 1 u hu
                  have hx2 : ∀ u, vs[2]? = some u → u = .int .i64 k := fun u hu => hg 2 u hu
                  have hx3 : ∀ u, vs[3]? = some u → u = .pointer (some ⟨b, o + k * 2, none⟩) := fun u hu => hg 3 u hu
                  have hx4 : ∀ u, vs[4]? = some u → u = vecV x y := fun u hu => hg 4 u hu
                  have hx5 : ∀ u, vs[5]? = some u → u = .bool true := fun u hu => hg 5 u hu
                  have hx6 : ∀ u, vs[6]? = some u → u = .bool true := fun u hu => hg 6 u hu
                  have hx7 : ∀ u, vs[7]? = some u → u = vecV mx my := fun u hu => hg 7 u hu
                  have hx8 : ∀ u, vs[8]? = some u → u = vecV 0 0 := fun u hu => hg 8 u hu
                  have hx9 : ∀ u, vs[9]? = some u → u = .bool false := fun u hu => hg 9 u hu
                  have hx10 : ∀ u, vs[10]? = some u → u = .bool false := fun u hu => hg 10 u hu
                  have hx11 : ∀ u, vs[11]? = some u → u = .slice (some ⟨b, o, none⟩) n cp := fun u hu => hg 11 u hu
                  have hx12 : ∀ u, vs[12]? = some u → u = .int .i64 k := fun u hu => hg 12 u hu
                  have hx13 : ∀ u, vs[13]? = some u → u = .pointer (some ⟨b, o + k * 2, none⟩) := fun u hu => hg 13 u hu
                  have hx14 : ∀ u, vs[14]? = some u → u = vecV x y := fun u hu => hg 14 u hu
                  have hx15 : ∀ u, vs[15]? = some u → u = vecV mx my := fun u hu => hg 15 u hu
                  have hx16 : ∀ u, vs[16]? = some u → u = .bool true := fun u hu => hg 16 u hu
                  have hx17 : ∀ u, vs[17]? = some u → u = .bool true := fun u hu => hg 17 u hu
                  have hx18 : ∀ u, vs[18]? = some u → u = .bool true := fun u hu => hg 18 u hu
                  have HE3 := Lib.hid hst
                  clear hg hst
                  obtain ⟨x0, vs0, rfl, hl0⟩ := len_succ hl
                  obtain ⟨x1, vs1, rfl, hl1⟩ := len_succ hl0
                  obtain ⟨x2, vs2, rfl, hl2⟩ := len_succ hl1
                  obtain ⟨x3, vs3, rfl, hl3⟩ := len_succ hl2
                  obtain ⟨x4, vs4, rfl, hl4⟩ := len_succ hl3
                  obtain ⟨x5, vs5, rfl, hl5⟩ := len_succ hl4
                  obtain ⟨x6, vs6, rfl, hl6⟩ := len_succ hl5
                  obtain ⟨x7, vs7, rfl, hl7⟩ := len_succ hl6
                  obtain ⟨x8, vs8, rfl, hl8⟩ := len_succ hl7
                  obtain ⟨x9, vs9, rfl, hl9⟩ := len_succ hl8
                  obtain ⟨x10, vs10, rfl, hl10⟩ := len_succ hl9
                  obtain ⟨x11, vs11, rfl, hl11⟩ := len_succ hl10
                  obtain ⟨x12, vs12, rfl, hl12⟩ := len_succ hl11
                  obtain ⟨x13, vs13, rfl, hl13⟩ := len_succ hl12
                  obtain ⟨x14, vs14, rfl, hl14⟩ := len_succ hl13
                  obtain ⟨x15, vs15, rfl, hl15⟩ := len_succ hl14
                  obtain ⟨x16, vs16, rfl, hl16⟩ := len_succ hl15
                  obtain ⟨x17, vs17, rfl, hl17⟩ := len_succ hl16
                  obtain ⟨x18, vs18, rfl, hl18⟩ := len_succ hl17
                  have hnil : vs18 = [] := List.length_eq_zero_iff.1 hl18
                  subst hnil
                  obtain rfl : x0 = gridV A B D := hx0 _ rfl
                  obtain rfl : x1 = .slice (some ⟨b, o, none⟩) n cp := hx1 _ rfl
                  obtain rfl : x2 = .int .i64 k := hx2 _ rfl
                  obtain rfl : x3 = .pointer (some ⟨b, o + k * 2, none⟩) := hx3 _ rfl
                  obtain rfl : x4 = vecV x y := hx4 _ rfl
                  obtain rfl : x5 = .bool true := hx5 _ rfl
                  obtain rfl : x6 = .bool true := hx6 _ rfl
                  obtain rfl : x7 = vecV mx my := hx7 _ rfl
                  obtain rfl : x8 = vecV 0 0 := hx8 _ rfl
                  obtain rfl : x9 = .bool false := hx9 _ rfl
                  obtain rfl : x10 = .bool false := hx10 _ rfl
                  obtain rfl : x11 = .slice (some ⟨b, o, none⟩) n cp := hx11 _ rfl
                  obtain rfl : x12 = .int .i64 k := hx12 _ rfl
                  obtain rfl : x13 = .pointer (some ⟨b, o + k * 2, none⟩) := hx13 _ rfl
                  obtain rfl : x14 = vecV x y := hx14 _ rfl
                  obtain rfl : x15 = vecV mx my := hx15 _ rfl
                  obtain rfl : x16 = .bool true := hx16 _ rfl
                  obtain rfl : x17 = .bool true := hx17 _ rfl
                  obtain rfl : x18 = .bool true := hx18 _ rfl
                  clear hx0 hx1 hx2 hx3 hx4 hx5 hx6 hx7 hx8 hx9 hx10 hx11 hx12 hx13 hx14 hx15 hx16 hx17 hx18
                  simp only [putAll, Act.put, List.setIfInBounds_toArray, List.set_cons_zero, List.set_cons_succ]
                  have hm3 := VRow.ext HM.out HE3.out
                  have hl3 := LAt.ext HLr.out HE3.out
                  have hb3 := VRow.ext HB.out HE3.out
                  have hr3 := VRow.ext HR.out HE3.out
                  have HM9 := Lib.hid hm3
                  have HL9 := Lib.hid hl3
                  have HB9 := Lib.hid hb3
                  have HR9 := Lib.hid hr3
                  have c0 := Ext.cell HE3.out HC.out.1
                  have c1 := Ext.cell HE3.out HC.out.2
                  have m0 := VRow.cell hm3 (k := 0) rfl
                  have m1 := VRow.cell hm3 (k := 1) rfl
                  have f0 := VRow.frozen hm3 0 none
                  have f1 := VRow.frozen hm3 1 none
                  clear hm3 hl3 hb3 hr3
                  go_wp2_with fail
                  refine ⟨⟨k + 1, (x, y), by simp, by omega, HBT.out (HQn.out) HIN.out (.inr HNG.out), VRow.set (VRow.set HM9.out 0 _) 1 _, VRow.setOther (VRow.setOther HB9.out (by show g ≠ m; omega) _) (by show g ≠ m; omega) _, VRow.setOther (VRow.setOther HR9.out (by show g + 1 ≠ m; omega) _) (by show g + 1 ≠ m; omega) _, LAt.other (LAt.other HL9.out hmb _) hmb _, ?_⟩, by simp [intOf]; omega⟩
                  exact Below.setCell (p := ⟨m, 1, none⟩) (Below.setCell (p := ⟨m, 0, none⟩) (Ext.trans HE.out HE3.out) (by show _ ≤ m; omega) _) (by show _ ≤ m; omega) _
              · have HNG := Lib.hid hneg
                have HDE := Lib.hid (decide_eq_false hneg)
                clear hneg
                rw [HDE.out] at HNE
                refine wp_region_stable [⟨[], none⟩, ⟨[], none⟩, ⟨[], none⟩, ⟨[(1, 27), (2, 28)], none⟩, ⟨[(3, 29)], none⟩, ⟨[(0, 26), (4, 30)], none⟩, ⟨[(5, 31)], none⟩, ⟨[(6, 32)], some (32, true)⟩, ⟨[(6, 32)], some (32, true)⟩, ⟨[(7, 33), (8, 34), (6, 32)], some (32, true)⟩, ⟨[(9, 35), (6, 32)], some (32, true)⟩, ⟨[(10, 36)], some (36, false)⟩, ⟨[(10, 36)], some (36, false)⟩, ⟨[(11, 37), (12, 38), (10, 36)], some (36, false)⟩, ⟨[(13, 39), (10, 36)], some (36, false)⟩, ⟨[(10, 36)], some (36, false)⟩, ⟨[(14, 40), (15, 41), (10, 36)], some (36, false)⟩, ⟨[(10, 36), (16, 42), (6, 32)], some (32, true)⟩, ⟨[(6, 32), (17, 43)], none⟩] (fun x y => Below x.heap.size x y) (MPat [MP.eq (gridV A B D), MP.eq (.slice (some ⟨b, o, none⟩) n cp), MP.eq (.int .i64 k), MP.eq (.pointer (some ⟨b, o + k * 2, none⟩)), MP.eq (vecV x y), MP.eq (.bool true), MP.eq (.bool true), MP.eq (vecV mx my), MP.eq (vecV 0 0), MP.eq (.bool false), MP.eq (.bool false), MP.eq (.slice (some ⟨b, o, none⟩) n cp), MP.eq (.int .i64 k), MP.eq (.pointer (some ⟨b, o + k * 2, none⟩)), MP.eq (vecV x y), MP.eq (vecV mx my), MP.eq (.bool false), MP.eq (.bool false), MP.eq (.bool false)]) (by kernel_rfl) (fun _ _ _ h k => Ext.trans h k) (fun _ => Below.refl _ _) (fun x => (Below.refl x.heap.size x).drew) (MPat.mono _) (by kernel_rfl) ?obs ?rest
                case obs =>
                  refine ⟨?_, ?_, ?_, ?_, ?_, ?_, ?_, ?_, ?_, ?_, ?_, ?_, ?_, ?_, ?_, ?_, ?_, ?_, ?_, trivial⟩
                  · intro ev W hf _ _ hst hd
                    have e3 : ev (.tmp 3) = .pointer (some ⟨g, 0, none⟩) := hf 3 (by kernel_rfl)
                    have kk := VRow.ext HB.out hst
                    have q0 := VRow.cell kk (k := 0) rfl
                    have q1 := VRow.cell kk (k := 1) rfl
                    have q2 := VRow.cell kk (k := 2) rfl
                    refine st_value (v := gridV A B D) ?_ (Below.refl _ _) ?_
                    · simp [execOp, go_sem, e3, q0, q1, q2, gridV]
                    · exact rfl
                  · intro ev W hf _ _ hst hd
                    have e8 : ev (.tmp 8) = .slice (some ⟨b, o, none⟩) n cp := hf 8 (by kernel_rfl)
                    refine st_value (v := .slice (some ⟨b, o, none⟩) n cp) ?_ (Below.refl _ _) ?_
                    · simp [execOp, go_sem, e8]
                    · exact rfl
                  · intro ev W hf _ _ hst hd
                    have e9 : ev (.tmp 9) = .int .i64 k := hf 9 (by kernel_rfl)
                    refine st_value (v := .int .i64 k) ?_ (Below.refl _ _) ?_
                    · simp [execOp, go_sem, e9]
                    · exact rfl
                  · intro ev W hf _ _ hst hd
                    obtain ⟨d27, d28, _⟩ := hd
                    have e27 : ev (.tmp 27) = .slice (some ⟨b, o, none⟩) n cp := d27
                    have e28 : ev (.tmp 28) = .int .i64 k := d28
                    refine st_value (v := .pointer (some ⟨b, o + k * 2, none⟩)) ?_ (Below.refl _ _) ?_
                    · simp [execOp, go_sem, e27, e28, hlt]
                    · exact rfl
                  · intro ev W hf _ _ hst hd
                    obtain ⟨d29, _⟩ := hd
                    have e29 : ev (.tmp 29) = .pointer (some ⟨b, o + k * 2, none⟩) := d29
                    have k0 := Ext.cell hst HC.out.1
                    have k1 := Ext.cell hst HC.out.2
                    refine st_value (v := vecV x y) ?_ (Below.refl _ _) ?_
                    · simp [execOp, go_sem, e29, k0, k1]
                    · exact rfl
                  · intro ev W hf _ hfn hst hd
                    obtain ⟨d26, d30, _⟩ := hd
                    have e26 : ev (.tmp 26) = gridV A B D := d26
                    have e30 : ev (.tmp 30) = vecV x y := d30
                    have hxq := HQk.out
                    refine st_call (f := 37) (args := #[gridV A B D, vecV x y]) (by simp [execOp, go_sem, hfn, e26, e30]) (by have hh := in_c A B D x y W HGO.out (by omega) (by omega); rw [HIN.out] at hh; exact hh) (fun _ _ => rfl)
                  · intro ev W hf _ _ hst hd
                    obtain ⟨d31, _⟩ := hd
                    have e31 : ev (.tmp 31) = .bool true := d31
                    refine st_value (v := .bool true) ?_ (Below.refl _ _) ?_
                    · simp [execOp, go_sem, e31]
                    · exact rfl
                  · intro ev W hf _ _ hst hd
                    obtain ⟨d32, _⟩ := hd
                    have e7 : ev (.tmp 7) = .pointer (some ⟨m, 0, none⟩) := hf 7 (by kernel_rfl)
                    have e32 : ev (.tmp 32) = .bool true := d32
                    refine ⟨fun _ => ?_, fun hne => absurd e32 hne⟩
                    have kk := VRow.ext HM.out hst
                    have q0 := VRow.cell kk (k := 0) rfl
                    have q1 := VRow.cell kk (k := 1) rfl
                    refine st_value (v := vecV mx my) ?_ (Below.refl _ _) ?_
                    · simp [execOp, go_sem, e7, q0, q1]
                    · exact rfl
                  · intro ev W hf _ _ hst hd
                    obtain ⟨d32, _⟩ := hd
                    have e32 : ev (.tmp 32) = .bool true := d32
                    refine ⟨fun _ => ?_, fun hne => absurd e32 hne⟩
                    refine st_value (v := vecV 0 0) ?_ (Below.refl _ _) ?_
                    · simp [execOp, go_sem]
                    · exact rfl
                  · intro ev W hf _ _ hst hd
                    obtain ⟨d33, d34, d32, _⟩ := hd
                    have e33 : ev (.tmp 33) = vecV mx my := d33
                    have e34 : ev (.tmp 34) = vecV 0 0 := d34
                    have e32 : ev (.tmp 32) = .bool true := d32
                    refine ⟨fun _ => ?_, fun hne => absurd e32 hne⟩
                    refine st_value (v := .bool false) ?_ (Below.refl _ _) ?_
                    · rcases HNZ.out with h | ⟨h, h2⟩ <;> simp [execOp, go_sem, e33, e34, h, *]
                    · exact rfl
                  · intro ev W hf _ _ hst hd
                    obtain ⟨d35, d32, _⟩ := hd
                    have e35 : ev (.tmp 35) = .bool false := d35
                    have e32 : ev (.tmp 32) = .bool true := d32
                    refine ⟨fun _ => ?_, fun hne => absurd e32 hne⟩
                    refine st_value (v := .bool false) ?_ (Below.refl _ _) ?_
                    · simp [execOp, go_sem, e35]
                    · exact rfl
                  · intro ev W hf _ _ hst hd
                    obtain ⟨d36, _⟩ := hd
                    have e8 : ev (.tmp 8) = .slice (some ⟨b, o, none⟩) n cp := hf 8 (by kernel_rfl)
                    have e36 : ev (.tmp 36) = .bool false := d36
                    refine ⟨fun _ => ?_, fun hne => absurd e36 hne⟩
                    refine st_value (v := .slice (some ⟨b, o, none⟩) n cp) ?_ (Below.refl _ _) ?_
                    · simp [execOp, go_sem, e8]
                    · exact rfl
                  · intro ev W hf _ _ hst hd
                    obtain ⟨d36, _⟩ := hd
                    have e9 : ev (.tmp 9) = .int .i64 k := hf 9 (by kernel_rfl)
                    have e36 : ev (.tmp 36) = .bool false := d36
                    refine ⟨fun _ => ?_, fun hne => absurd e36 hne⟩
                    refine st_value (v := .int .i64 k) ?_ (Below.refl _ _) ?_
                    · simp [execOp, go_sem, e9]
                    · exact rfl
                  · intro ev W hf _ _ hst hd
                    obtain ⟨d37, d38, d36, _⟩ := hd
                    have e37 : ev (.tmp 37) = .slice (some ⟨b, o, none⟩) n cp := d37
                    have e38 : ev (.tmp 38) = .int .i64 k := d38
                    have e36 : ev (.tmp 36) = .bool false := d36
                    refine ⟨fun _ => ?_, fun hne => absurd e36 hne⟩
                    refine st_value (v := .pointer (some ⟨b, o + k * 2, none⟩)) ?_ (Below.refl _ _) ?_
                    · simp [execOp, go_sem, e37, e38, hlt]
                    · exact rfl
                  · intro ev W hf _ _ hst hd
                    obtain ⟨d39, d36, _⟩ := hd
                    have e39 : ev (.tmp 39) = .pointer (some ⟨b, o + k * 2, none⟩) := d39
                    have e36 : ev (.tmp 36) = .bool false := d36
                    refine ⟨fun _ => ?_, fun hne => absurd e36 hne⟩
                    have k0 := Ext.cell hst HC.out.1
                    have k1 := Ext.cell hst HC.out.2
                    refine st_value (v := vecV x y) ?_ (Below.refl _ _) ?_
                    · simp [execOp, go_sem, e39, k0, k1]
                    · exact rfl
                  · intro ev W hf _ _ hst hd
                    obtain ⟨d36, _⟩ := hd
                    have e7 : ev (.tmp 7) = .pointer (some ⟨m, 0, none⟩) := hf 7 (by kernel_rfl)
                    have e36 : ev (.tmp 36) = .bool false := d36
                    refine ⟨fun _ => ?_, fun hne => absurd e36 hne⟩
                    have kk := VRow.ext HM.out hst
                    have q0 := VRow.cell kk (k := 0) rfl
                    have q1 := VRow.cell kk (k := 1) rfl
                    refine st_value (v := vecV mx my) ?_ (Below.refl _ _) ?_
                    · simp [execOp, go_sem, e7, q0, q1]
                    · exact rfl
                  · intro ev W hf _ hfn hst hd
                    obtain ⟨d40, d41, d36, _⟩ := hd
                    have e40 : ev (.tmp 40) = vecV x y := d40
                    have e41 : ev (.tmp 41) = vecV mx my := d41
                    have e36 : ev (.tmp 36) = .bool false := d36
                    refine ⟨fun _ => ?_, fun hne => absurd e36 hne⟩
                    refine st_call (f := 53) (args := #[vecV x y, vecV mx my]) (by simp [execOp, go_sem, hfn, e40, e41]) (HNE.out W) (fun _ _ => rfl)
                  · intro ev W hf hcst _ hst hd
                    obtain ⟨d36, d42, d32, _⟩ := hd
                    have e36 : ev (.tmp 36) = .bool false := d36
                    have e42 : ev (.tmp 42) = .bool false := d42
                    have e32 : ev (.tmp 32) = .bool true := d32
                    refine ⟨fun _ => ?_, fun hne => absurd e32 hne⟩
                    refine st_value (v := .bool false) ?_ (Below.refl _ _) ?_
                    · simp [execOp, go_sem, e36, e42, hcst]
                    · exact rfl
                  · intro ev W hf hcst _ hst hd
                    obtain ⟨d32, d43, _⟩ := hd
                    have e32 : ev (.tmp 32) = .bool true := d32
                    have e43 : ev (.tmp 43) = .bool false := d43
                    refine st_value (v := .bool false) ?_ (Below.refl _ _) ?_
                    · simp [execOp, go_sem, e32, e43, hcst]
                    · exact rfl
                case rest =>
                  intro vs w3 hl hst hg
                  have hx0 : ∀ u, vs[0]? = some u → u = gridV A B D := fun u hu => hg 0 u hu
                  have hx1 : ∀ u, vs[1]? = some u → u = .slice (some ⟨b, o, none⟩) n cp := fun u hu => hg 1 u hu
                  have hx2 : ∀ u, vs[2]? = some u → u = .int .i64 k := fun u hu => hg 2 u hu
                  have hx3 : ∀ u, vs[3]? = some u → u = .pointer (some ⟨b, o + k * 2, none⟩) := fun u hu => hg 3 u hu
                  have hx4 : ∀ u, vs[4]? = some u → u = vecV x y := fun u hu => hg 4 u hu
                  have hx5 : ∀ u, vs[5]? = some u → u = .bool true := fun u hu => hg 5 u hu
                  have hx6 : ∀ u, vs[6]? = some u → u = .bool true := fun u hu => hg 6 u hu
                  have hx7 : ∀ u, vs[7]? = some u → u = vecV mx my := fun u hu => hg 7 u hu
                  have hx8 : ∀ u, vs[8]? = some u → u = vecV 0 0 := fun u hu => hg 8 u hu
                  have hx9 : ∀ u, vs[9]? = some u → u = .bool false := fun u hu => hg 9 u hu
                  have hx10 : ∀ u, vs[10]? = some u → u = .bool false := fun u hu => hg 10 u hu
                  have hx11 : ∀ u, vs[11]? = some u → u = .slice (some ⟨b, o, none⟩) n cp := fun u hu => hg 11 u hu
                  have hx12 : ∀ u, vs[12]? = some u → u = .int .i64 k := fun u hu => hg 12 u hu
                  have hx13 : ∀ u, vs[13]? = some u → u = .pointer (some ⟨b, o + k * 2, none⟩) := fun u hu => hg 13 u hu
                  have hx14 : ∀ u, vs[14]? = some u → u = vecV x y := fun u hu => hg 14 u hu
                  have hx15 : ∀ u, vs[15]? = some u → u = vecV mx my := fun u hu => hg 15 u hu
                  have hx16 : ∀ u, vs[16]? = some u → u = .bool false := fun u hu => hg 16 u hu
                  have hx17 : ∀ u, vs[17]? = some u → u = .bool false := fun u hu => hg 17 u hu
                  have hx18 : ∀ u, vs[18]? = some u → u = .bool false := fun u hu => hg 18 u hu
                  have HE3 := Lib.hid hst
                  clear hg hst
                  obtain ⟨x0, vs0, rfl, hl0⟩ := len_succ hl
                  obtain ⟨x1, vs1, rfl, hl1⟩ := len_succ hl0
                  obtain ⟨x2, vs2, rfl, hl2⟩ := len_succ hl1
                  obtain ⟨x3, vs3, rfl, hl3⟩ := len_succ hl2
                  obtain ⟨x4, vs4, rfl, hl4⟩ := len_succ hl3
                  obtain ⟨x5, vs5, rfl, hl5⟩ := len_succ hl4
                  obtain ⟨x6, vs6, rfl, hl6⟩ := len_succ hl5
                  obtain ⟨x7, vs7, rfl, hl7⟩ := len_succ hl6
                  obtain ⟨x8, vs8, rfl, hl8⟩ := len_succ hl7
                  obtain ⟨x9, vs9, rfl, hl9⟩ := len_succ hl8
                  obtain ⟨x10, vs10, rfl, hl10⟩ := len_succ hl9
                  obtain ⟨x11, vs11, rfl, hl11⟩ := len_succ hl10
                  obtain ⟨x12, vs12, rfl, hl12⟩ := len_succ hl11
                  obtain ⟨x13, vs13, rfl, hl13⟩ := len_succ hl12
                  obtain ⟨x14, vs14, rfl, hl14⟩ := len_succ hl13
                  obtain ⟨x15, vs15, rfl, hl15⟩ := len_succ hl14
                  obtain ⟨x16, vs16, rfl, hl16⟩ := len_succ hl15
                  obtain ⟨x17, vs17, rfl, hl17⟩ := len_succ hl16
                  obtain ⟨x18, vs18, rfl, hl18⟩ := len_succ hl17
                  have hnil : vs18 = [] := List.length_eq_zero_iff.1 hl18
                  subst hnil
                  obtain rfl : x0 = gridV A B D := hx0 _ rfl
                  obtain rfl : x1 = .slice (some ⟨b, o, none⟩) n cp := hx1 _ rfl
                  obtain rfl : x2 = .int .i64 k := hx2 _ rfl
                  obtain rfl : x3 = .pointer (some ⟨b, o + k * 2, none⟩) := hx3 _ rfl
                  obtain rfl : x4 = vecV x y := hx4 _ rfl
                  obtain rfl : x5 = .bool true := hx5 _ rfl
                  obtain rfl : x6 = .bool true := hx6 _ rfl
                  obtain rfl : x7 = vecV mx my := hx7 _ rfl
                  obtain rfl : x8 = vecV 0 0 := hx8 _ rfl
                  obtain rfl : x9 = .bool false := hx9 _ rfl
                  obtain rfl : x10 = .bool false := hx10 _ rfl
                  obtain rfl : x11 = .slice (some ⟨b, o, none⟩) n cp := hx11 _ rfl
                  obtain rfl : x12 = .int .i64 k := hx12 _ rfl
                  obtain rfl : x13 = .pointer (some ⟨b, o + k * 2, none⟩) := hx13 _ rfl
                  obtain rfl : x14 = vecV x y := hx14 _ rfl
                  obtain rfl : x15 = vecV mx my := hx15 _ rfl
                  obtain rfl : x16 = .bool false := hx16 _ rfl
                  obtain rfl : x17 = .bool false := hx17 _ rfl
                  obtain rfl : x18 = .bool false := hx18 _ rfl
                  clear hx0 hx1 hx2 hx3 hx4 hx5 hx6 hx7 hx8 hx9 hx10 hx11 hx12 hx13 hx14 hx15 hx16 hx17 hx18
                  simp only [putAll, Act.put, List.setIfInBounds_toArray, List.set_cons_zero, List.set_cons_succ]
                  go_wp2_with fail
                  exact ⟨⟨k + 1, (mx, my), by simp, by omega, HBF.out HNQ.out (by have := HNG.out; omega), VRow.ext HM.out HE3.out, VRow.ext HB.out HE3.out, VRow.ext HR.out HE3.out, LAt.ext HLr.out HE3.out, Ext.trans HE.out HE3.out⟩, by simp [intOf]; omega⟩
        · obtain rfl : k = n := by omega
          have m0 := VRow.cell HM.out (k := 0) rfl
          have m1 := VRow.cell HM.out (k := 1) rfl
          have r0 := VRow.cell HR.out (k := 0) rfl
          have r1 := VRow.cell HR.out (k := 1) rfl
          have f0 := VRow.frozen HR.out 0 none
          have f1 := VRow.frozen HR.out 1 none
          have HBE := Lib.hid (HFIN.out _ _ HN.out HBI.out)
          by_cases h0 : mx = 0 ∧ my = 0
          · obtain ⟨rfl, rfl⟩ := h0
            have HD := Lib.hid (HS1.out HBE.out)
            go_wp2_with fail
            (try simp only [Exit.inBlock, Exit.then])
            (try rw [Exit.noGoto_ret])
            refine bodyPost_ret (rwit_results (vrow2_putW HR.out _ _) _ rfl rfl) rfl ?_
            exact ⟨HD.out, ext2_putW HE.out (by omega) _ _⟩
          · have HD := Lib.hid (HS2.out (mx, my) (fun e => h0 ⟨congrArg Prod.fst e, congrArg Prod.snd e⟩) HBE.out)
            have hnq := fun W => (show Sem.run Try.prog (binOp .eql 31 (.agg #[.int .i64 mx, .int .i64 my]) (.agg #[.int .i64 0, .int .i64 0])) W = .ok (.bool false) W from by
              by_cases hx0 : mx = 0
              · have hy0 : ¬ my = 0 := fun e => h0 ⟨hx0, e⟩
                rw [hx0]; simp [go_sem, hy0]
              · simp [go_sem, hx0])
            clear h0
            go_wp2_with fail
            (try simp only [Exit.inBlock, Exit.then])
            (try rw [Exit.noGoto_ret])
            refine bodyPost_ret (rwit_results (vrow2_putW HR.out _ _) _ rfl rfl) rfl ?_
            exact ⟨HD.out, ext2_putW HE.out (by omega) _ _⟩
  · have HA := Lib.hid (show asksZ ps A B D = 2 from by unfold asksZ; rw [if_neg hok])
    have HS := Lib.hid (show WitS ps A B D (two (vecV 0 0) (.int .i64 2)) from .inr (.inr ⟨hok, rfl⟩))
    generalize WitS ps A B D = DS at *
    clear hok
    unfold gridV
    go_enter Try.func19, Try.ntmps19
    go_wp2_with fail
    clear b0 b1 b2
    refine (show Calls Try.prog 44 #[.slice a ps.length cap, gridV A B D] _ _ from (asks_c _ ps A B D _ HV.out).mono ?_)
    rintro e w2 ⟨rfl, hE⟩
    rw [HA.out]
    have HE2 := Lib.hid (Ext.trans HE0.out hE)
    have HR2 := Lib.hid (VRow.ext HR0.out hE)
    clear hE
    have f0 := VRow.frozen HR2.out 0 none
    have f1 := VRow.frozen HR2.out 1 none
    have r0 := VRow.cell HR2.out (k := 0) rfl
    have r1 := VRow.cell HR2.out (k := 1) rfl
    go_wp2_with fail
    (try simp only [Exit.inBlock, Exit.then])
    (try rw [Exit.noGoto_ret])
    refine bodyPost_ret (rwit_results (vrow2_putW HR2.out _ _) _ rfl rfl) rfl ?_
    exact ⟨HS.out, ext2_putW HE2.out (Nat.le_succ _) _ _⟩
end Go.Proofs.Ytnpebfchojalcaa

namespace Go.Proofs.Ytnpebfchojalcaa
set_option maxRecDepth 100000
open Go.RowKit Go.Shelf
attribute [local go_sem] Oper.semAt_some
/-! The law of grids: Admissible and Witness against the reference, on a copy. -/
theorem addn_addr (b o j : Nat) : (⟨b, o, none⟩ : Addr).add j = ⟨b, o + j, none⟩ := by
  unfold Addr.add
  cases j with
  | zero => rfl
  | succ j => simp
theorem ptsn_cells {w : World} {b o : Nat} {qs : List Pt} (h : PtsAt w b o qs) (j : Nat) (u : Value) (hj : (cellsOf qs)[j]? = some u) : w.cell? ((⟨b, o, none⟩ : Addr).add j) = some u := by
  obtain ⟨k, q, hk, hh⟩ := cellsOf_get qs j u hj
  obtain ⟨h1, h2⟩ := h k q hk
  rw [addn_addr]
  rcases hh with ⟨rfl, rfl⟩ | ⟨rfl, rfl⟩
  · exact h1
  · exact h2
/-- a slice without memory is the nil slice -/
def NilO (v : Value) : Prop := ∀ n cap : Nat, v = .slice none n cap → n = 0 ∧ cap = 0
theorem firstW_one {ks : List Pt} {p q : Pt} (hp : FirstW ks p) (hq : FirstW ks q) : p = q := by
  have h1 := hp.2 q hq.1
  have h2 := hq.2 p hp.1
  rw [wit_lt] at h1 h2
  exact Prod.ext (by omega) (by omega)
theorem wit_both {ps : List Pt} {A B D : Int} {e f : Ending} (he : WitS ps A B D e) (hf : WitS ps A B D f) : ∃ x y er : Int, e = two (vecV x y) (.int .i64 er) ∧ f = e := by
  rcases he with ⟨h1, h2, rfl⟩ | ⟨h1, q, h2, rfl⟩ | ⟨h1, rfl⟩ <;> rcases hf with ⟨k1, k2, rfl⟩ | ⟨k1, q', k2, rfl⟩ | ⟨k1, rfl⟩
  · exact ⟨_, _, _, rfl, rfl⟩
  · have := k2.1; rw [h2] at this; cases this
  · exact absurd h1 k1
  · have := h2.1; rw [k2] at this; cases this
  · rw [firstW_one k2 h2]; exact ⟨_, _, _, rfl, rfl⟩
  · exact absurd h1 k1
  · exact absurd k1 h1
  · exact absurd k1 h1
  · exact ⟨_, _, _, rfl, rfl⟩
theorem adm_is (ps : List Pt) (A B D : Int) : ∃ (b : Bool) (er : Int), admR ps A B D = two (.bool b) (.int .i64 er) := by
  unfold admR
  split
  · exact ⟨_, _, rfl⟩
  · exact ⟨_, _, rfl⟩
set_option maxHeartbeats 2000000 in
theorem same_c (u v : Value) (ps : List Pt) (w : World) (hu : Vecs w u ps) (hv : Vecs w v ps) :
    Calls Try.prog 20 #[u, v] w fun e w' => e = .returned (.bool true) ∧ Ext w w' := by
  by_cases h0 : ps = []
  · subst h0
    obtain ⟨a, cap, rfl, hl, hm, _⟩ := hu.at
    obtain ⟨a', cap', rfl, hl', hm', _⟩ := hv.at
    clear hu hv
    go_enter Try.func20, Try.ntmps20
    go_wp2_with fail
    go_loopw [5] (fun iv wr => iv = .int .i64 0 ∧ Ext w wr) (fun _ _ => 0)
    case atStart => exact ⟨rfl, Ext.refl _⟩
    case round =>
      rename World => wr
      obtain ⟨rfl, hE⟩ := hrel
      go_wp2_with fail
      go_ret
      exact ⟨rfl, hE⟩
  · have h1 : 1 ≤ ps.length := by
      cases ps with
      | nil => exact absurd rfl h0
      | cons _ _ => simp
    obtain ⟨b, o, cap, rfl, hl, hm, hc⟩ := vecs_cells hu h1
    obtain ⟨b', o', cap', rfl, hl', hm', hc'⟩ := vecs_cells hv h1
    have HC := Lib.hid hc
    have HC' := Lib.hid hc'
    obtain ⟨n, hn⟩ : ∃ n, n = ps.length := ⟨_, rfl⟩
    rw [← hn] at HC HC' hl hl' ⊢
    clear hu hv hc hc' h0 h1 hn
    go_enter Try.func20, Try.ntmps20
    go_wp2_with fail
    go_loopw [5] (fun iv wr => ∃ k : Nat, iv = .int .i64 (k : Int) ∧ k ≤ n ∧ Ext w wr) (fun iv _ => n - (intOf iv).toNat)
    case atStart => exact ⟨0, rfl, Nat.zero_le _, Ext.refl _⟩
    case round =>
      rename World => wr
      obtain ⟨k, rfl, hk, hE⟩ := hrel
      have HE := Lib.hid hE
      clear hE
      by_cases hlt : k < n
      · obtain ⟨c1, c2⟩ := HC.out k hlt
        obtain ⟨d1, d2⟩ := HC'.out k hlt
        have HCC := Lib.hid (show _ ∧ _ from And.intro (Ext.cell HE.out c1) (Ext.cell HE.out c2))
        have HDD := Lib.hid (show _ ∧ _ from And.intro (Ext.cell HE.out d1) (Ext.cell HE.out d2))
        clear c1 c2 d1 d2
        obtain ⟨x, hx⟩ : ∃ x, x = (fromP ps k).1 := ⟨_, rfl⟩
        obtain ⟨y, hy⟩ : ∃ y, y = (fromP ps k).2 := ⟨_, rfl⟩
        rw [← hx, ← hy] at HCC HDD
        clear hx hy
        go_wp2_with fail
        refine wp_region_stable [⟨[], none⟩, ⟨[], none⟩, ⟨[(0, 17), (1, 18)], none⟩, ⟨[(2, 19)], none⟩, ⟨[], none⟩, ⟨[], none⟩, ⟨[(4, 21), (5, 22)], none⟩, ⟨[(6, 23)], none⟩, ⟨[(3, 20), (7, 24)], none⟩] (fun x y => Below x.heap.size x y) (MPat [MP.eq (.slice (some ⟨b, o, none⟩) n cap), MP.eq (.int .i64 k), MP.eq (.pointer (some ⟨b, o + k * 2, none⟩)), MP.eq (vecV x y), MP.eq (.slice (some ⟨b', o', none⟩) n cap'), MP.eq (.int .i64 k), MP.eq (.pointer (some ⟨b', o' + k * 2, none⟩)), MP.eq (vecV x y), MP.eq (.bool false)]) (by kernel_rfl) (fun _ _ _ h k => Ext.trans h k) (fun _ => Below.refl _ _) (fun x => (Below.refl x.heap.size x).drew) (MPat.mono _) (by kernel_rfl) ?obs ?rest
        case obs =>
          refine ⟨?_, ?_, ?_, ?_, ?_, ?_, ?_, ?_, ?_, trivial⟩
          · intro ev W hf _ _ hst hd
            have e0 : ev (.tmp 0) = .slice (some ⟨b, o, none⟩) n cap := hf 0 (by kernel_rfl)
            refine st_value (v := .slice (some ⟨b, o, none⟩) n cap) ?_ (Below.refl _ _) ?_
            · simp [execOp, go_sem, e0]
            · exact rfl
          · intro ev W hf _ _ hst hd
            have e5 : ev (.tmp 5) = .int .i64 k := hf 5 (by kernel_rfl)
            refine st_value (v := .int .i64 k) ?_ (Below.refl _ _) ?_
            · simp [execOp, go_sem, e5]
            · exact rfl
          · intro ev W hf _ _ hst hd
            obtain ⟨d17, d18, _⟩ := hd
            have e17 : ev (.tmp 17) = .slice (some ⟨b, o, none⟩) n cap := d17
            have e18 : ev (.tmp 18) = .int .i64 k := d18
            refine st_value (v := .pointer (some ⟨b, o + k * 2, none⟩)) ?_ (Below.refl _ _) ?_
            · simp [execOp, go_sem, e17, e18, hlt]
            · exact rfl
          · intro ev W hf _ _ hst hd
            obtain ⟨d19, _⟩ := hd
            have e19 : ev (.tmp 19) = .pointer (some ⟨b, o + k * 2, none⟩) := d19
            have k0 := Ext.cell hst HCC.out.1
            have k1 := Ext.cell hst HCC.out.2
            refine st_value (v := vecV x y) ?_ (Below.refl _ _) ?_
            · simp [execOp, go_sem, e19, k0, k1]
            · exact rfl
          · intro ev W hf _ _ hst hd
            have e1 : ev (.tmp 1) = .slice (some ⟨b', o', none⟩) n cap' := hf 1 (by kernel_rfl)
            refine st_value (v := .slice (some ⟨b', o', none⟩) n cap') ?_ (Below.refl _ _) ?_
            · simp [execOp, go_sem, e1]
            · exact rfl
          · intro ev W hf _ _ hst hd
            have e5 : ev (.tmp 5) = .int .i64 k := hf 5 (by kernel_rfl)
            refine st_value (v := .int .i64 k) ?_ (Below.refl _ _) ?_
            · simp [execOp, go_sem, e5]
            · exact rfl
          · intro ev W hf _ _ hst hd
            obtain ⟨d21, d22, _⟩ := hd
            have e21 : ev (.tmp 21) = .slice (some ⟨b', o', none⟩) n cap' := d21
            have e22 : ev (.tmp 22) = .int .i64 k := d22
            refine st_value (v := .pointer (some ⟨b', o' + k * 2, none⟩)) ?_ (Below.refl _ _) ?_
            · simp [execOp, go_sem, e21, e22, hlt]
            · exact rfl
          · intro ev W hf _ _ hst hd
            obtain ⟨d23, _⟩ := hd
            have e23 : ev (.tmp 23) = .pointer (some ⟨b', o' + k * 2, none⟩) := d23
            have k0 := Ext.cell hst HDD.out.1
            have k1 := Ext.cell hst HDD.out.2
            refine st_value (v := vecV x y) ?_ (Below.refl _ _) ?_
            · simp [execOp, go_sem, e23, k0, k1]
            · exact rfl
          · intro ev W hf _ _ hst hd
            obtain ⟨d20, d24, _⟩ := hd
            have e20 : ev (.tmp 20) = vecV x y := d20
            have e24 : ev (.tmp 24) = vecV x y := d24
            refine st_value (v := .bool false) ?_ (Below.refl _ _) ?_
            · simp [execOp, go_sem, e20, e24]
            · exact rfl
        case rest =>
          intro vs w3 hl hst hg
          have hx0 : ∀ u, vs[0]? = some u → u = .slice (some ⟨b, o, none⟩) n cap := fun u hu => hg 0 u hu
          have hx1 : ∀ u, vs[1]? = some u → u = .int .i64 k := fun u hu => hg 1 u hu
          have hx2 : ∀ u, vs[2]? = some u → u = .pointer (some ⟨b, o + k * 2, none⟩) := fun u hu => hg 2 u hu
          have hx3 : ∀ u, vs[3]? = some u → u = vecV x y := fun u hu => hg 3 u hu
          have hx4 : ∀ u, vs[4]? = some u → u = .slice (some ⟨b', o', none⟩) n cap' := fun u hu => hg 4 u hu
          have hx5 : ∀ u, vs[5]? = some u → u = .int .i64 k := fun u hu => hg 5 u hu
          have hx6 : ∀ u, vs[6]? = some u → u = .pointer (some ⟨b', o' + k * 2, none⟩) := fun u hu => hg 6 u hu
          have hx7 : ∀ u, vs[7]? = some u → u = vecV x y := fun u hu => hg 7 u hu
          have hx8 : ∀ u, vs[8]? = some u → u = .bool false := fun u hu => hg 8 u hu
          have HE3 := Lib.hid hst
          clear hg hst
          obtain ⟨x0, vs0, rfl, hl0⟩ := len_succ hl
          obtain ⟨x1, vs1, rfl, hl1⟩ := len_succ hl0
          obtain ⟨x2, vs2, rfl, hl2⟩ := len_succ hl1
          obtain ⟨x3, vs3, rfl, hl3⟩ := len_succ hl2
          obtain ⟨x4, vs4, rfl, hl4⟩ := len_succ hl3
          obtain ⟨x5, vs5, rfl, hl5⟩ := len_succ hl4
          obtain ⟨x6, vs6, rfl, hl6⟩ := len_succ hl5
          obtain ⟨x7, vs7, rfl, hl7⟩ := len_succ hl6
          obtain ⟨x8, vs8, rfl, hl8⟩ := len_succ hl7
          have hnil : vs8 = [] := List.length_eq_zero_iff.1 hl8
          subst hnil
          obtain rfl : x0 = .slice (some ⟨b, o, none⟩) n cap := hx0 _ rfl
          obtain rfl : x1 = .int .i64 k := hx1 _ rfl
          obtain rfl : x2 = .pointer (some ⟨b, o + k * 2, none⟩) := hx2 _ rfl
          obtain rfl : x3 = vecV x y := hx3 _ rfl
          obtain rfl : x4 = .slice (some ⟨b', o', none⟩) n cap' := hx4 _ rfl
          obtain rfl : x5 = .int .i64 k := hx5 _ rfl
          obtain rfl : x6 = .pointer (some ⟨b', o' + k * 2, none⟩) := hx6 _ rfl
          obtain rfl : x7 = vecV x y := hx7 _ rfl
          obtain rfl : x8 = .bool false := hx8 _ rfl
          clear hx0 hx1 hx2 hx3 hx4 hx5 hx6 hx7 hx8
          simp only [putAll, Act.put, List.setIfInBounds_toArray, List.set_cons_zero, List.set_cons_succ]
          go_wp2_with fail
          exact ⟨⟨k + 1, by simp, by omega, Ext.trans HE.out HE3.out⟩, by simp [intOf]; omega⟩
      · obtain rfl : k = n := by omega
        go_wp2_with fail
        go_ret
        exact ⟨rfl, HE.out⟩
set_option maxHeartbeats 16000000 in
theorem grids_law (v : Value) (ps : List Pt) (A B D : Int) (w : World) (hv : Vecs w v ps) (hnl : NilO v) :
    Calls Try.prog 3 #[v, gridV A B D] w fun e w' => e = .returned (.bool true) ∧ Ext w w' := by
  have HV0 := Lib.hid hv
  obtain ⟨a, cap, rfl, hl, hm, hr⟩ := hv
  have hE0 := Ext.alloc (Ext.refl w) (.cells #[.int .i64 A, .int .i64 B, .int .i64 D] 24)
  have HE0 := Lib.hid hE0
  have HB0 := Lib.hid (show VRow (w.alloc (.cells #[.int .i64 A, .int .i64 B, .int .i64 D] 24)) _ _ _ from vrow_alloc w [.int .i64 A, .int .i64 B, .int .i64 D] 24)
  have HV := Lib.hid (HV0.out.ext hE0)
  have HRR := Lib.hid hr
  have HNL := Lib.hid hnl
  clear hE0 hr hnl HV0
  by_cases h60 : ps.length ≤ 60
  · have Hd := Lib.hid (decide_eq_true h60)
    unfold gridV
    go_enter Try.func3, Try.ntmps3
    go_wp2_with fail
    refine (few_c a ps.length cap _ (by omega)).mono ?_
    rintro e w1 ⟨rfl, rfl⟩
    rw [Hd.out]
    obtain ⟨g, hg⟩ : ∃ g, g = w.heap.size := ⟨_, rfl⟩
    obtain ⟨w1, hw1⟩ : ∃ w1, w1 = w.alloc (.cells #[.int .i64 A, .int .i64 B, .int .i64 D] 24) := ⟨_, rfl⟩
    rw [← hg] at HB0 ⊢
    rw [← hw1] at HB0 HE0 HV ⊢
    have HW1 := Lib.hid hw1
    clear hg hw1
    obtain ⟨i0, hi0, hz0, hz1, hz2⟩ := info_parts info31
    have HI := Lib.hid hi0
    have HZ0 := Lib.hid hz0
    have HZ1 := Lib.hid hz1
    have HZ2 := Lib.hid hz2
    have hEa := Ext.alloc (Ext.refl w1) (.cells #[] 31)
    have HEa := Lib.hid hEa
    have HOA := Lib.hid (World.ownsRow_made (base := w1.heap.size) (e := 31) (size := 2) w1 #[] 0 (Nat.le_refl _) (by unfold maxLen; omega) rfl)
    clear hi0 hz0 hz1 hz2
    cases a with
    | none =>
      obtain ⟨h0, h1⟩ := HNL.out _ _ rfl
      have hps : ps = [] := List.length_eq_zero_iff.1 h0
      subst hps
      subst h1
      clear hl hm h0 HRR HNL hEa
      have HBo := Lib.hid (VRow.alloc HB0.out (.cells #[] 31))
      have b0 := VRow.cell HBo.out (k := 0) rfl
      have b1 := VRow.cell HBo.out (k := 1) rfl
      have b2 := VRow.cell HBo.out (k := 2) rfl
      go_wp2_with (at_builtin; (refine wpList_append_own_none rfl _ _ 22 rfl w1.heap.size 31 i0 2 Try.underlying22 HI.out _ _ _ rfl HOA.out rfl ?_))
      clear b0 b1 b2
      have HO := Lib.hid (show Vecs (w1.alloc (.cells #[] 31)) (.slice (some ⟨w1.heap.size, 0, none⟩) 0 0) [] from ⟨_, 0, rfl, Nat.le_refl _, by omega, .inl rfl⟩)
      have HEo := Lib.hid HEa.out
      generalize w1.alloc (.cells #[] 31) = wo at *
      clear HEa HOA
      have HVo := Lib.hid (HV.out.ext HEo.out)
      have HE1 := Lib.hid (Ext.trans HE0.out HEo.out)
      clear HB0 HV HE0 HEo
      obtain ⟨ba, er, had⟩ := adm_is ([] : List Pt) A B D
      have HAD := Lib.hid had
      clear had
      refine (show Calls Try.prog 16 #[.slice (some ⟨w1.heap.size, 0, none⟩) 0 0, gridV A B D] wo _ from Admissible_c _ ([] : List Pt) A B D wo HO.out).mono ?_
      rintro e w2 ⟨rfl, hE⟩
      rw [HAD.out]
      have HB2 := Lib.hid (VRow.ext HBo.out hE)
      have HV2 := Lib.hid (HVo.out.ext hE)
      have HO2 := Lib.hid (HO.out.ext hE)
      have HE2 := Lib.hid (Ext.trans HE1.out hE)
      clear hE HBo HVo HO HE1
      unfold two
      have b0 := VRow.cell HB2.out (k := 0) rfl
      have b1 := VRow.cell HB2.out (k := 1) rfl
      have b2 := VRow.cell HB2.out (k := 2) rfl
      go_wp2_with fail
      clear b0 b1 b2
      refine (show Calls Try.prog 17 #[.slice none 0 0, gridV A B D] w2 _ from rAdmissible_c _ ([] : List Pt) A B D w2 HV2.out).mono ?_
      rintro e w3 ⟨rfl, hE⟩
      rw [HAD.out]
      have HB3 := Lib.hid (VRow.ext HB2.out hE)
      have HV3 := Lib.hid (HV2.out.ext hE)
      have HO3 := Lib.hid (HO2.out.ext hE)
      have HE3 := Lib.hid (Ext.trans HE2.out hE)
      clear hE HB2 HV2 HO2 HE2 HAD
      unfold two
      have b0 := VRow.cell HB3.out (k := 0) rfl
      have b1 := VRow.cell HB3.out (k := 1) rfl
      have b2 := VRow.cell HB3.out (k := 2) rfl
      have qb : (ba != ba) = false := by simp
      have qe : (er != er) = false := by simp
      go_wp2_with fail
      clear b0 b1 b2 qb qe
      refine (show Calls Try.prog 18 #[.slice (some ⟨w1.heap.size, 0, none⟩) 0 0, gridV A B D] w3 _ from Witness_c _ ([] : List Pt) A B D w3 HO3.out).mono ?_
      rintro e w4 ⟨hS, hE⟩
      have HS := Lib.hid hS
      obtain ⟨x, y, ew, he, _⟩ := wit_both hS hS
      subst he
      have HB4 := Lib.hid (VRow.ext HB3.out hE)
      have HV4 := Lib.hid (HV3.out.ext hE)
      have HO4 := Lib.hid (HO3.out.ext hE)
      have HE4 := Lib.hid (Ext.trans HE3.out hE)
      clear hE hS HB3 HV3 HO3 HE3
      have hEb := Ext.alloc (Ext.refl w4) (.cells #[.int .i64 x, .int .i64 y] 31)
      have HP5 := Lib.hid (show VRow (w4.alloc (.cells #[.int .i64 x, .int .i64 y] 31)) _ _ _ from vrow_alloc w4 [.int .i64 x, .int .i64 y] 31)
      have HB5 := Lib.hid (VRow.ext HB4.out hEb)
      have HV5 := Lib.hid (HV4.out.ext hEb)
      have HO5 := Lib.hid (HO4.out.ext hEb)
      have HE5 := Lib.hid (Ext.trans HE4.out hEb)
      clear hEb HB4 HV4 HO4 HE4
      have b0 := VRow.cell HB5.out (k := 0) rfl
      have b1 := VRow.cell HB5.out (k := 1) rfl
      have b2 := VRow.cell HB5.out (k := 2) rfl
      unfold two
      go_wp2_with fail
      clear b0 b1 b2
      generalize hw5 : w4.alloc (.cells #[.int .i64 x, .int .i64 y] 31) = w5 at *
      clear hw5
      refine (show Calls Try.prog 19 #[.slice none 0 0, gridV A B D] w5 _ from rWitness_c _ ([] : List Pt) A B D w5 HV5.out).mono ?_
      rintro e w6 ⟨hS, hE⟩
      obtain ⟨x', y', er', h1, h2⟩ := wit_both HS.out hS
      unfold two at h1
      injection h1 with h1
      injection h1 with h1
      simp only [Array.mk.injEq, List.cons.injEq, Value.agg.injEq, Value.int.injEq, true_and, and_true] at h1
      obtain ⟨⟨rfl, rfl⟩, rfl⟩ := h1
      subst h2
      have HP6 := Lib.hid (VRow.ext HP5.out hE)
      have HV6 := Lib.hid (HV5.out.ext hE)
      have HO6 := Lib.hid (HO5.out.ext hE)
      have HE6 := Lib.hid (Ext.trans HE5.out hE)
      clear hE hS HB5 HV5 HO5 HE5 HP5 HS
      have hEb := Ext.alloc (Ext.refl w6) (.cells #[.int .i64 x, .int .i64 y] 31)
      have HQ7 := Lib.hid (show VRow (w6.alloc (.cells #[.int .i64 x, .int .i64 y] 31)) _ _ _ from vrow_alloc w6 [.int .i64 x, .int .i64 y] 31)
      have HP7 := Lib.hid (VRow.alloc HP6.out (.cells #[.int .i64 x, .int .i64 y] 31))
      have HV7 := Lib.hid (HV6.out.ext hEb)
      have HO7 := Lib.hid (HO6.out.ext hEb)
      have HE7 := Lib.hid (Ext.trans HE6.out hEb)
      clear hEb HP6 HV6 HO6 HE6
      have c0 := VRow.cell HP7.out (k := 0) rfl
      have c1 := VRow.cell HP7.out (k := 1) rfl
      have d0 := VRow.cell HQ7.out (k := 0) rfl
      have d1 := VRow.cell HQ7.out (k := 1) rfl
      have qe : (ew == ew) = true := by simp
      have hgq := fun W => veq_t x y W
      unfold two
      go_wp2_with fail
      clear c0 c1 d0 d1 qe hgq
      refine (show Calls Try.prog 20 #[.slice (some ⟨w1.heap.size, 0, none⟩) 0 0, .slice none 0 0] _ _ from same_c _ _ ([] : List Pt) _ HO7.out HV7.out).mono ?_
      rintro e w8 ⟨rfl, hE⟩
      have HE8 := Lib.hid (Ext.trans HE7.out hE)
      clear hE
      go_wp2_with fail
      refine (alive_c _).mono ?_
      rintro e w9 ⟨rfl, hE⟩
      have HE9 := Lib.hid (Ext.trans HE8.out hE)
      clear hE
      go_wp2_with fail
      go_ret
      exact ⟨rfl, HE9.out⟩
    | some ad =>
      have HCL := Lib.hid (show ∀ (j : Nat) (u : Value), (cellsOf ps)[j]? = some u → (w1.alloc (.cells #[] 31)).cell? (ad.add j) = some u from fun j u hj => by
        rcases HRR.out with hr | ⟨b, off, ha, hc⟩
        · subst hr; simp [cellsOf] at hj
        · injection ha with ha
          subst ha
          exact ptsn_cells (PtsAt.ext (PtsAt.ext hc (by rw [HW1.out]; exact Ext.alloc (Ext.refl w) _)) hEa) j u hj)
      have hob : ∀ x, Value.ownBlock (.slice (some ⟨w1.heap.size, 0, none⟩) 0 0) = some x → w1.heap.size ≤ x := fun x e => Nat.le_of_eq (Option.some.inj e)
      clear hEa HRR HNL
      go_wp2_with (at_builtin; refine wpList_append_own _ rfl _ _ 22 rfl w1.heap.size 31 i0 (.agg #[.int .i64 0, .int .i64 0]) 2 16 Try.underlying22 HI.out HZ0.out HZ1.out HZ2.out rfl (by decide) _ _ _ rfl HOA.out ad ps.length cap (cellsOf ps) rfl (cellsOf_length ps) HCL.out cellsOf_one (by unfold maxLen; omega) (by omega) (by simp) ?_; intro vo wo hown' hgrow hnil; have HO4 := Lib.hid hown'; have HG4 := Lib.hid hgrow; clear hown' hgrow hnil; have HEo := Lib.hid (Below.grown HEa.out HG4.out (by simp) (fun x e => hob x e)); have HO := Lib.hid (show Vecs wo vo ps from (by have h := HO4.out; rw [Nat.zero_add, List.nil_append] at h; exact vecs_own h (by omega))); obtain ⟨ao, co, rfl, _, _, _⟩ := HO.out.at; have HBo := Lib.hid (VRow.ext HB0.out HEo.out); have b0 := VRow.cell HBo.out (k := 0) rfl; have b1 := VRow.cell HBo.out (k := 1) rfl; have b2 := VRow.cell HBo.out (k := 2) rfl)
      clear b0 b1 b2
      clear HEa HOA HO4 HG4 HCL hob
      have HVo := Lib.hid (HV.out.ext HEo.out)
      have HE1 := Lib.hid (Ext.trans HE0.out HEo.out)
      clear HB0 HV HE0 HEo
      obtain ⟨ba, er, had⟩ := adm_is ps A B D
      have HAD := Lib.hid had
      clear had
      refine (show Calls Try.prog 16 #[.slice ao ps.length co, gridV A B D] wo _ from Admissible_c _ ps A B D wo HO.out).mono ?_
      rintro e w2 ⟨rfl, hE⟩
      rw [HAD.out]
      have HB2 := Lib.hid (VRow.ext HBo.out hE)
      have HV2 := Lib.hid (HVo.out.ext hE)
      have HO2 := Lib.hid (HO.out.ext hE)
      have HE2 := Lib.hid (Ext.trans HE1.out hE)
      clear hE HBo HVo HO HE1
      unfold two
      have b0 := VRow.cell HB2.out (k := 0) rfl
      have b1 := VRow.cell HB2.out (k := 1) rfl
      have b2 := VRow.cell HB2.out (k := 2) rfl
      go_wp2_with fail
      clear b0 b1 b2
      refine (show Calls Try.prog 17 #[.slice (some ad) ps.length cap, gridV A B D] w2 _ from rAdmissible_c _ ps A B D w2 HV2.out).mono ?_
      rintro e w3 ⟨rfl, hE⟩
      rw [HAD.out]
      have HB3 := Lib.hid (VRow.ext HB2.out hE)
      have HV3 := Lib.hid (HV2.out.ext hE)
      have HO3 := Lib.hid (HO2.out.ext hE)
      have HE3 := Lib.hid (Ext.trans HE2.out hE)
      clear hE HB2 HV2 HO2 HE2 HAD
      unfold two
      have b0 := VRow.cell HB3.out (k := 0) rfl
      have b1 := VRow.cell HB3.out (k := 1) rfl
      have b2 := VRow.cell HB3.out (k := 2) rfl
      have qb : (ba != ba) = false := by simp
      have qe : (er != er) = false := by simp
      go_wp2_with fail
      clear b0 b1 b2 qb qe
      refine (show Calls Try.prog 18 #[.slice ao ps.length co, gridV A B D] w3 _ from Witness_c _ ps A B D w3 HO3.out).mono ?_
      rintro e w4 ⟨hS, hE⟩
      have HS := Lib.hid hS
      obtain ⟨x, y, ew, he, _⟩ := wit_both hS hS
      subst he
      have HB4 := Lib.hid (VRow.ext HB3.out hE)
      have HV4 := Lib.hid (HV3.out.ext hE)
      have HO4 := Lib.hid (HO3.out.ext hE)
      have HE4 := Lib.hid (Ext.trans HE3.out hE)
      clear hE hS HB3 HV3 HO3 HE3
      have hEb := Ext.alloc (Ext.refl w4) (.cells #[.int .i64 x, .int .i64 y] 31)
      have HP5 := Lib.hid (show VRow (w4.alloc (.cells #[.int .i64 x, .int .i64 y] 31)) _ _ _ from vrow_alloc w4 [.int .i64 x, .int .i64 y] 31)
      have HB5 := Lib.hid (VRow.ext HB4.out hEb)
      have HV5 := Lib.hid (HV4.out.ext hEb)
      have HO5 := Lib.hid (HO4.out.ext hEb)
      have HE5 := Lib.hid (Ext.trans HE4.out hEb)
      clear hEb HB4 HV4 HO4 HE4
      have b0 := VRow.cell HB5.out (k := 0) rfl
      have b1 := VRow.cell HB5.out (k := 1) rfl
      have b2 := VRow.cell HB5.out (k := 2) rfl
      unfold two
      go_wp2_with fail
      clear b0 b1 b2
      generalize hw5 : w4.alloc (.cells #[.int .i64 x, .int .i64 y] 31) = w5 at *
      clear hw5
      refine (show Calls Try.prog 19 #[.slice (some ad) ps.length cap, gridV A B D] w5 _ from rWitness_c _ ps A B D w5 HV5.out).mono ?_
      rintro e w6 ⟨hS, hE⟩
      obtain ⟨x', y', er', h1, h2⟩ := wit_both HS.out hS
      unfold two at h1
      injection h1 with h1
      injection h1 with h1
      simp only [Array.mk.injEq, List.cons.injEq, Value.agg.injEq, Value.int.injEq, true_and, and_true] at h1
      obtain ⟨⟨rfl, rfl⟩, rfl⟩ := h1
      subst h2
      have HP6 := Lib.hid (VRow.ext HP5.out hE)
      have HV6 := Lib.hid (HV5.out.ext hE)
      have HO6 := Lib.hid (HO5.out.ext hE)
      have HE6 := Lib.hid (Ext.trans HE5.out hE)
      clear hE hS HB5 HV5 HO5 HE5 HP5 HS
      have hEb := Ext.alloc (Ext.refl w6) (.cells #[.int .i64 x, .int .i64 y] 31)
      have HQ7 := Lib.hid (show VRow (w6.alloc (.cells #[.int .i64 x, .int .i64 y] 31)) _ _ _ from vrow_alloc w6 [.int .i64 x, .int .i64 y] 31)
      have HP7 := Lib.hid (VRow.alloc HP6.out (.cells #[.int .i64 x, .int .i64 y] 31))
      have HV7 := Lib.hid (HV6.out.ext hEb)
      have HO7 := Lib.hid (HO6.out.ext hEb)
      have HE7 := Lib.hid (Ext.trans HE6.out hEb)
      clear hEb HP6 HV6 HO6 HE6
      have c0 := VRow.cell HP7.out (k := 0) rfl
      have c1 := VRow.cell HP7.out (k := 1) rfl
      have d0 := VRow.cell HQ7.out (k := 0) rfl
      have d1 := VRow.cell HQ7.out (k := 1) rfl
      have qe : (ew == ew) = true := by simp
      have hgq := fun W => veq_t x y W
      unfold two
      go_wp2_with fail
      clear c0 c1 d0 d1 qe hgq
      refine (show Calls Try.prog 20 #[.slice ao ps.length co, .slice (some ad) ps.length cap] _ _ from same_c _ _ ps _ HO7.out HV7.out).mono ?_
      rintro e w8 ⟨rfl, hE⟩
      have HE8 := Lib.hid (Ext.trans HE7.out hE)
      clear hE
      go_wp2_with fail
      refine (alive_c _).mono ?_
      rintro e w9 ⟨rfl, hE⟩
      have HE9 := Lib.hid (Ext.trans HE8.out hE)
      clear hE
      go_wp2_with fail
      go_ret
      exact ⟨rfl, HE9.out⟩
  · have Hd := Lib.hid (decide_eq_false h60)
    unfold gridV
    go_enter Try.func3, Try.ntmps3
    go_wp2_with fail
    refine (few_c a ps.length cap _ (by omega)).mono ?_
    rintro e w1 ⟨rfl, rfl⟩
    rw [Hd.out]
    go_wp2_with fail
    refine (alive_c _).mono ?_
    rintro e w6 ⟨rfl, hE⟩
    go_wp2_with fail
    go_ret
    exact ⟨rfl, Ext.trans HE0.out hE⟩
end Go.Proofs.Ytnpebfchojalcaa

namespace Go.Proofs.Ytnpebfchojalcaa
set_option maxRecDepth 100000
open Go.ChangeShapes Go.WideShapes Go.ChangeAt Go.RowKit
section
variable {H : Type} {enc : TypeId × Value → H} {w : World} {base b2 : Nat} {spare : Nat → Bool} {held : Bool}
theorem vecs_trodH {v : Value} {d : DataW H} {ps : List MemPlace} (hok : Value.okWide Try.prog w .any b2 22 v) (h : DataW.Trod enc Try.prog w base spare held 22 v d ps) : ∃ xs, Vecs w v xs ∧ NilO v := by
  obtain ⟨fuel, h⟩ := h
  have hv : ∀ a len cap, v.cells.toList = [.slice a len cap] → v = .slice a len cap := by
    intro a len cap e
    cases v <;> simp [Value.cells] at e
    case slice => obtain ⟨rfl, rfl, rfl⟩ := e; rfl
    all_goals simp [Value.okWide, Cell.okWide, Cell.ok, Try.underlying22] at hok
  rcases Go.Deep.open_slice_pairs Try.underlying22 Try.underlying31 cells31 rfl rfl cells3 cells3 h with ⟨hc, _⟩ | ⟨a, len, cap, m, n, V0, V1, D0, D1, P0, P1, hc, _, hl, hm, hmm, _, hx⟩
  · have e0 := hv _ _ _ hc
    exact ⟨[], ⟨none, 0, e0, Nat.le_refl _, by omega, .inl rfl⟩, fun n cap e => by rw [e0] at e; injection e with _ e1 e2; exact ⟨e1.symm, e2.symm⟩⟩
  · have hlen : len ≤ m := by rw [hmm]; split <;> omega
    unfold maxLen at hm
    have := hv _ _ _ hc
    subst this
    obtain ⟨f, hf⟩ := Go.Deep.choose_lt (n := m) (p := fun i (x : Pt) => V0 i = .int .i64 x.1 ∧ V1 i = .int .i64 x.2) (fun i hi => by
      obtain ⟨_, _, t0, t1⟩ := hx i hi
      obtain ⟨x, e0, _, _⟩ := DataW.trod_int Try.underlying3 t0
      obtain ⟨y, e1, _, _⟩ := DataW.trod_int Try.underlying3 t1
      simp only [List.cons.injEq, and_true] at e0 e1
      exact ⟨(x, y), e0, e1⟩)
    refine ⟨(List.range len).map f, ⟨some a, cap, by simp, by simpa using hl, by omega, ?_⟩, fun n cap e => by cases e⟩
    by_cases h0 : len = 0
    · subst h0; exact .inl rfl
    · have e := plain_of_cell (show w.cell? (a.add 0) = some (V0 0) by simpa using (hx 0 (by omega)).1)
      refine .inr ⟨a.block, a.off, by rw [← e], fun k p hk => ?_⟩
      have hi : k < len := by
        have := (List.getElem?_eq_some_iff.1 hk).1
        simpa using this
      simp [hi] at hk
      subst hk
      obtain ⟨c0, c1, _, _⟩ := hx k (by omega)
      rw [e, Go.WideShapes.add_plain] at c0 c1
      obtain ⟨g0, g1⟩ := hf k (by omega)
      rw [← g0, ← g1]
      exact ⟨c0, by simpa [Nat.add_assoc] using c1⟩
end
end Go.Proofs.Ytnpebfchojalcaa
