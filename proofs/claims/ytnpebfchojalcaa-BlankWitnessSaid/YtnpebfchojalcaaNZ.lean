import Derived.Test.YtnpebfchojalcaaN3a
import Derived.Test.YtnpebfchojalcaaRY
namespace Go.Proofs.Ytnpebfchojalcaa
set_option maxRecDepth 100000
open Go.RowKit Go.Shelf
attribute [local go_sem] Oper.semAt_some
/-! The reference's In, Collide and free. -/
theorem tdiv_bd {x A : Int} (hA : 1 ≤ A) (hx : -1000 ≤ x ∧ x ≤ 1000) : -1000 ≤ x.tdiv A ∧ x.tdiv A ≤ 1000 := by
  by_cases h : 0 ≤ x
  · rw [Int.tdiv_eq_ediv_of_nonneg h]
    have h1 := Int.ediv_nonneg h (show 0 ≤ A by omega)
    have h2 := Int.ediv_le_self A h
    omega
  · have e : x.tdiv A = -((-x).tdiv A) := by rw [Int.neg_tdiv, Int.neg_neg]
    rw [e, Int.tdiv_eq_ediv_of_nonneg (by omega)]
    have h1 := Int.ediv_nonneg (show 0 ≤ -x by omega) (show 0 ≤ A by omega)
    have h2 := Int.ediv_le_self (b := A) (show 0 ≤ -x by omega)
    omega
theorem tmod_bd {x A : Int} (hA : 1 ≤ A) : -A < x.tmod A ∧ x.tmod A < A := by
  have h1 := Int.neg_tmod x A
  have h2 := Int.tmod_lt_of_pos (-x) (show 0 < A by omega)
  have h3 := Int.tmod_lt_of_pos x (show 0 < A by omega)
  omega
set_option maxHeartbeats 2000000 in
theorem in_c (A B D x y : Int) (w : World) (hg : gridOk A B D) (hx : -1000 ≤ x ∧ x ≤ 1000) (hy : -1000 ≤ y ∧ y ≤ 1000) :
    Calls Try.prog 37 #[gridV A B D, vecV x y] w fun e w' => e = .returned (.bool (inB A B D (x, y))) ∧ Ext w w' := by
  have hg2 := hg
  unfold gridOk at hg2
  have hA0 : ¬ A = 0 := by omega
  have hD0 : ¬ D = 0 := by omega
  have t1 := tmod_bd (x := x) (A := A) (by omega)
  have q1 := tdiv_bd (x := x) (A := A) (by omega) hx
  have HINB := Lib.hid (show inB A B D (x, y) = (decide (x.tmod A = 0) && decide ((y - x.tdiv A * B).tmod D = 0)) from rfl)
  generalize inB A B D (x, y) = ib at *
  obtain ⟨q, hq⟩ : ∃ q, q = x.tdiv A := ⟨_, rfl⟩
  rw [← hq] at q1 HINB
  have m1 : -100000000 ≤ q * B ∧ q * B ≤ 100000000 := by
    have h1 := Int.mul_le_mul_of_nonneg_right q1.2 (show 0 ≤ B by omega)
    have h2 := Int.mul_le_mul_of_nonneg_right q1.1 (show 0 ≤ B by omega)
    omega
  obtain ⟨p, hp⟩ : ∃ p, p = q * B := ⟨_, rfl⟩
  rw [← hp] at m1 HINB
  have t2 := tmod_bd (x := y - p) (A := D) (by omega)
  have hw1 : IntKind.i64.wrap (x.tmod A) = x.tmod A := IntWalk.i64_in _ (by omega)
  have hw2 : IntKind.i64.wrap (x.tdiv A) = q := by rw [← hq]; exact IntWalk.i64_in _ (by omega)
  have hw3 : IntKind.i64.wrap (q * B) = p := by rw [← hp]; exact IntWalk.i64_in _ (by omega)
  have hw4 : IntKind.i64.wrap (y - p) = y - p := IntWalk.i64_in _ (by omega)
  have hw5 : IntKind.i64.wrap ((y - p).tmod D) = (y - p).tmod D := IntWalk.i64_in _ (by omega)
  have HE := Lib.hid (show Ext w ((w.alloc (.cells #[.int .i64 A, .int .i64 B, .int .i64 D] 24)).alloc (.cells #[.int .i64 x, .int .i64 y] 31)) from Ext.alloc (Ext.alloc (Ext.refl w) _) _)
  clear hp hq
  obtain ⟨r1, hr1⟩ : ∃ r, r = x.tmod A := ⟨_, rfl⟩
  obtain ⟨r2, hr2⟩ : ∃ r, r = (y - p).tmod D := ⟨_, rfl⟩
  have hw6 : x.tmod A = r1 := hr1.symm
  have hw7 : (y - p).tmod D = r2 := hr2.symm
  rw [← hr1] at HINB
  rw [← hr2] at HINB
  have HG := Lib.hid (show VRow ((w.alloc (.cells #[.int .i64 A, .int .i64 B, .int .i64 D] 24)).alloc (.cells #[.int .i64 x, .int .i64 y] 31)) w.heap.size 24 [.int .i64 A, .int .i64 B, .int .i64 D] from (vrow_alloc w [.int .i64 A, .int .i64 B, .int .i64 D] 24).alloc _)
  have HX := Lib.hid (show VRow ((w.alloc (.cells #[.int .i64 A, .int .i64 B, .int .i64 D] 24)).alloc (.cells #[.int .i64 x, .int .i64 y] 31)) (w.heap.size + 1) 31 [.int .i64 x, .int .i64 y] from by
    have h := vrow_alloc (w.alloc (.cells #[.int .i64 A, .int .i64 B, .int .i64 D] 24)) [.int .i64 x, .int .i64 y] 31
    have e : (w.alloc (.cells #[.int .i64 A, .int .i64 B, .int .i64 D] 24)).heap.size = w.heap.size + 1 := by simp
    rw [e] at h
    exact h)
  clear hw1 hw5 hr1 hr2 hg hg2 hx hy t1 t2 q1 m1
  unfold gridV
  go_enter Try.func37, Try.ntmps37
  go_wp2_with fail
  obtain ⟨g, hgg⟩ : ∃ g, g = w.heap.size := ⟨_, rfl⟩
  obtain ⟨w2, hw⟩ : ∃ w2, w2 = (w.alloc (.cells #[.int .i64 A, .int .i64 B, .int .i64 D] 24)).alloc (.cells #[.int .i64 x, .int .i64 y] 31) := ⟨_, rfl⟩
  rw [← hgg] at HG HX ⊢
  rw [← hw] at HG HX HE ⊢
  clear hgg hw
  by_cases h1 : r1 = 0
  · refine wp_region_stable [⟨[], none⟩, ⟨[(0, 5)], none⟩, ⟨[], none⟩, ⟨[(2, 7)], none⟩, ⟨[(1, 6), (3, 8)], none⟩, ⟨[(4, 9)], none⟩, ⟨[(5, 10)], none⟩, ⟨[(6, 11)], some (11, true)⟩, ⟨[(7, 12), (6, 11)], some (11, true)⟩, ⟨[(6, 11)], some (11, true)⟩, ⟨[(9, 14), (6, 11)], some (11, true)⟩, ⟨[(6, 11)], some (11, true)⟩, ⟨[(11, 16), (6, 11)], some (11, true)⟩, ⟨[(10, 15), (12, 17), (6, 11)], some (11, true)⟩, ⟨[(6, 11)], some (11, true)⟩, ⟨[(14, 19), (6, 11)], some (11, true)⟩, ⟨[(13, 18), (15, 20), (6, 11)], some (11, true)⟩, ⟨[(8, 13), (16, 21), (6, 11)], some (11, true)⟩, ⟨[(6, 11)], some (11, true)⟩, ⟨[(18, 23), (6, 11)], some (11, true)⟩, ⟨[(17, 22), (19, 24), (6, 11)], some (11, true)⟩, ⟨[(20, 25), (6, 11)], some (11, true)⟩, ⟨[(6, 11), (21, 26)], none⟩, ⟨[(22, 27)], none⟩] (fun x y => Below x.heap.size x y) (MPat [MP.eq (.pointer (some ⟨(g + 1), 0, none⟩)), MP.eq (.int .i64 x), MP.eq (.pointer (some ⟨g, 0, none⟩)), MP.eq (.int .i64 A), MP.eq (.int .i64 r1), MP.eq (.bool true), MP.eq (.bool true), MP.eq (.pointer (some ⟨(g + 1), 1, none⟩)), MP.eq (.int .i64 y), MP.eq (.pointer (some ⟨(g + 1), 0, none⟩)), MP.eq (.int .i64 x), MP.eq (.pointer (some ⟨g, 0, none⟩)), MP.eq (.int .i64 A), MP.eq (.int .i64 q), MP.eq (.pointer (some ⟨g, 1, none⟩)), MP.eq (.int .i64 B), MP.eq (.int .i64 p), MP.eq (.int .i64 (y - p)), MP.eq (.pointer (some ⟨g, 2, none⟩)), MP.eq (.int .i64 D), MP.eq (.int .i64 r2), MP.eq (.bool (r2 == 0)), MP.eq (.bool (r2 == 0)), MP.eq (.bool (r2 == 0))]) (by kernel_rfl) (fun _ _ _ h k => Ext.trans h k) (fun _ => Below.refl _ _) (fun x => (Below.refl x.heap.size x).drew) (MPat.mono _) (by kernel_rfl) ?obs ?rest
    case obs =>
      refine ⟨?_, ?_, ?_, ?_, ?_, ?_, ?_, ?_, ?_, ?_, ?_, ?_, ?_, ?_, ?_, ?_, ?_, ?_, ?_, ?_, ?_, ?_, ?_, ?_, trivial⟩
      · intro ev W5 hf _ _ hst hd
        have e3 : ev (.tmp 3) = .pointer (some ⟨(g + 1), 0, none⟩) := hf 3 (by kernel_rfl)
        refine st_value (v := .pointer (some ⟨(g + 1), 0, none⟩)) ?_ (Below.refl _ _) ?_
        · simp [execOp, go_sem, e3]
        · exact rfl
      · intro ev W5 hf _ _ hst hd
        obtain ⟨d5, _⟩ := hd
        have e5 : ev (.tmp 5) = .pointer (some ⟨(g + 1), 0, none⟩) := d5
        have q0 := VRow.cell (VRow.ext HX.out hst) (k := 0) rfl
        refine st_value (v := .int .i64 x) ?_ (Below.refl _ _) ?_
        · simp [execOp, go_sem, e5, q0]
        · exact rfl
      · intro ev W5 hf _ _ hst hd
        have e2 : ev (.tmp 2) = .pointer (some ⟨g, 0, none⟩) := hf 2 (by kernel_rfl)
        refine st_value (v := .pointer (some ⟨g, 0, none⟩)) ?_ (Below.refl _ _) ?_
        · simp [execOp, go_sem, e2]
        · exact rfl
      · intro ev W5 hf _ _ hst hd
        obtain ⟨d7, _⟩ := hd
        have e7 : ev (.tmp 7) = .pointer (some ⟨g, 0, none⟩) := d7
        have q0 := VRow.cell (VRow.ext HG.out hst) (k := 0) rfl
        refine st_value (v := .int .i64 A) ?_ (Below.refl _ _) ?_
        · simp [execOp, go_sem, e7, q0]
        · exact rfl
      · intro ev W5 hf _ _ hst hd
        obtain ⟨d6, d8, _⟩ := hd
        have e6 : ev (.tmp 6) = .int .i64 x := d6
        have e8 : ev (.tmp 8) = .int .i64 A := d8
        refine st_value (v := .int .i64 r1) ?_ (Below.refl _ _) ?_
        · simp [execOp, go_sem, e6, e8, hA0, hw6]
        · exact rfl
      · intro ev W5 hf hcst _ hst hd
        obtain ⟨d9, _⟩ := hd
        have e9 : ev (.tmp 9) = .int .i64 r1 := d9
        refine st_value (v := .bool true) ?_ (Below.refl _ _) ?_
        · simp [execOp, go_sem, e9, hcst, h1]
        · exact rfl
      · intro ev W5 hf _ _ hst hd
        obtain ⟨d10, _⟩ := hd
        have e10 : ev (.tmp 10) = .bool true := d10
        refine st_value (v := .bool true) ?_ (Below.refl _ _) ?_
        · simp [execOp, go_sem, e10]
        · exact rfl
      · intro ev W5 hf _ _ hst hd
        obtain ⟨d11, _⟩ := hd
        have e3 : ev (.tmp 3) = .pointer (some ⟨(g + 1), 0, none⟩) := hf 3 (by kernel_rfl)
        have e11 : ev (.tmp 11) = .bool true := d11
        refine ⟨fun _ => ?_, fun hne => absurd e11 hne⟩
        refine st_value (v := .pointer (some ⟨(g + 1), 1, none⟩)) ?_ (Below.refl _ _) ?_
        · simp [execOp, go_sem, e3]
        · exact rfl
      · intro ev W5 hf _ _ hst hd
        obtain ⟨d12, d11, _⟩ := hd
        have e12 : ev (.tmp 12) = .pointer (some ⟨(g + 1), 1, none⟩) := d12
        have e11 : ev (.tmp 11) = .bool true := d11
        refine ⟨fun _ => ?_, fun hne => absurd e11 hne⟩
        have q0 := VRow.cell (VRow.ext HX.out hst) (k := 1) rfl
        refine st_value (v := .int .i64 y) ?_ (Below.refl _ _) ?_
        · simp [execOp, go_sem, e12, q0]
        · exact rfl
      · intro ev W5 hf _ _ hst hd
        obtain ⟨d11, _⟩ := hd
        have e3 : ev (.tmp 3) = .pointer (some ⟨(g + 1), 0, none⟩) := hf 3 (by kernel_rfl)
        have e11 : ev (.tmp 11) = .bool true := d11
        refine ⟨fun _ => ?_, fun hne => absurd e11 hne⟩
        refine st_value (v := .pointer (some ⟨(g + 1), 0, none⟩)) ?_ (Below.refl _ _) ?_
        · simp [execOp, go_sem, e3]
        · exact rfl
      · intro ev W5 hf _ _ hst hd
        obtain ⟨d14, d11, _⟩ := hd
        have e14 : ev (.tmp 14) = .pointer (some ⟨(g + 1), 0, none⟩) := d14
        have e11 : ev (.tmp 11) = .bool true := d11
        refine ⟨fun _ => ?_, fun hne => absurd e11 hne⟩
        have q0 := VRow.cell (VRow.ext HX.out hst) (k := 0) rfl
        refine st_value (v := .int .i64 x) ?_ (Below.refl _ _) ?_
        · simp [execOp, go_sem, e14, q0]
        · exact rfl
      · intro ev W5 hf _ _ hst hd
        obtain ⟨d11, _⟩ := hd
        have e2 : ev (.tmp 2) = .pointer (some ⟨g, 0, none⟩) := hf 2 (by kernel_rfl)
        have e11 : ev (.tmp 11) = .bool true := d11
        refine ⟨fun _ => ?_, fun hne => absurd e11 hne⟩
        refine st_value (v := .pointer (some ⟨g, 0, none⟩)) ?_ (Below.refl _ _) ?_
        · simp [execOp, go_sem, e2]
        · exact rfl
      · intro ev W5 hf _ _ hst hd
        obtain ⟨d16, d11, _⟩ := hd
        have e16 : ev (.tmp 16) = .pointer (some ⟨g, 0, none⟩) := d16
        have e11 : ev (.tmp 11) = .bool true := d11
        refine ⟨fun _ => ?_, fun hne => absurd e11 hne⟩
        have q0 := VRow.cell (VRow.ext HG.out hst) (k := 0) rfl
        refine st_value (v := .int .i64 A) ?_ (Below.refl _ _) ?_
        · simp [execOp, go_sem, e16, q0]
        · exact rfl
      · intro ev W5 hf _ _ hst hd
        obtain ⟨d15, d17, d11, _⟩ := hd
        have e15 : ev (.tmp 15) = .int .i64 x := d15
        have e17 : ev (.tmp 17) = .int .i64 A := d17
        have e11 : ev (.tmp 11) = .bool true := d11
        refine ⟨fun _ => ?_, fun hne => absurd e11 hne⟩
        refine st_value (v := .int .i64 q) ?_ (Below.refl _ _) ?_
        · simp [execOp, go_sem, e15, e17, hA0, hw2]
        · exact rfl
      · intro ev W5 hf _ _ hst hd
        obtain ⟨d11, _⟩ := hd
        have e2 : ev (.tmp 2) = .pointer (some ⟨g, 0, none⟩) := hf 2 (by kernel_rfl)
        have e11 : ev (.tmp 11) = .bool true := d11
        refine ⟨fun _ => ?_, fun hne => absurd e11 hne⟩
        refine st_value (v := .pointer (some ⟨g, 1, none⟩)) ?_ (Below.refl _ _) ?_
        · simp [execOp, go_sem, e2]
        · exact rfl
      · intro ev W5 hf _ _ hst hd
        obtain ⟨d19, d11, _⟩ := hd
        have e19 : ev (.tmp 19) = .pointer (some ⟨g, 1, none⟩) := d19
        have e11 : ev (.tmp 11) = .bool true := d11
        refine ⟨fun _ => ?_, fun hne => absurd e11 hne⟩
        have q0 := VRow.cell (VRow.ext HG.out hst) (k := 1) rfl
        refine st_value (v := .int .i64 B) ?_ (Below.refl _ _) ?_
        · simp [execOp, go_sem, e19, q0]
        · exact rfl
      · intro ev W5 hf _ _ hst hd
        obtain ⟨d18, d20, d11, _⟩ := hd
        have e18 : ev (.tmp 18) = .int .i64 q := d18
        have e20 : ev (.tmp 20) = .int .i64 B := d20
        have e11 : ev (.tmp 11) = .bool true := d11
        refine ⟨fun _ => ?_, fun hne => absurd e11 hne⟩
        refine st_value (v := .int .i64 p) ?_ (Below.refl _ _) ?_
        · simp [execOp, go_sem, e18, e20, hw3]
        · exact rfl
      · intro ev W5 hf _ _ hst hd
        obtain ⟨d13, d21, d11, _⟩ := hd
        have e13 : ev (.tmp 13) = .int .i64 y := d13
        have e21 : ev (.tmp 21) = .int .i64 p := d21
        have e11 : ev (.tmp 11) = .bool true := d11
        refine ⟨fun _ => ?_, fun hne => absurd e11 hne⟩
        refine st_value (v := .int .i64 (y - p)) ?_ (Below.refl _ _) ?_
        · simp [execOp, go_sem, e13, e21, hw4]
        · exact rfl
      · intro ev W5 hf _ _ hst hd
        obtain ⟨d11, _⟩ := hd
        have e2 : ev (.tmp 2) = .pointer (some ⟨g, 0, none⟩) := hf 2 (by kernel_rfl)
        have e11 : ev (.tmp 11) = .bool true := d11
        refine ⟨fun _ => ?_, fun hne => absurd e11 hne⟩
        refine st_value (v := .pointer (some ⟨g, 2, none⟩)) ?_ (Below.refl _ _) ?_
        · simp [execOp, go_sem, e2]
        · exact rfl
      · intro ev W5 hf _ _ hst hd
        obtain ⟨d23, d11, _⟩ := hd
        have e23 : ev (.tmp 23) = .pointer (some ⟨g, 2, none⟩) := d23
        have e11 : ev (.tmp 11) = .bool true := d11
        refine ⟨fun _ => ?_, fun hne => absurd e11 hne⟩
        have q0 := VRow.cell (VRow.ext HG.out hst) (k := 2) rfl
        refine st_value (v := .int .i64 D) ?_ (Below.refl _ _) ?_
        · simp [execOp, go_sem, e23, q0]
        · exact rfl
      · intro ev W5 hf _ _ hst hd
        obtain ⟨d22, d24, d11, _⟩ := hd
        have e22 : ev (.tmp 22) = .int .i64 (y - p) := d22
        have e24 : ev (.tmp 24) = .int .i64 D := d24
        have e11 : ev (.tmp 11) = .bool true := d11
        refine ⟨fun _ => ?_, fun hne => absurd e11 hne⟩
        refine st_value (v := .int .i64 r2) ?_ (Below.refl _ _) ?_
        · simp [execOp, go_sem, e22, e24, hD0, hw7]
        · exact rfl
      · intro ev W5 hf hcst _ hst hd
        obtain ⟨d25, d11, _⟩ := hd
        have e25 : ev (.tmp 25) = .int .i64 r2 := d25
        have e11 : ev (.tmp 11) = .bool true := d11
        refine ⟨fun _ => ?_, fun hne => absurd e11 hne⟩
        refine st_value (v := .bool (r2 == 0)) ?_ (Below.refl _ _) ?_
        · simp [execOp, go_sem, e25, hcst]
        · exact rfl
      · intro ev W5 hf hcst _ hst hd
        obtain ⟨d11, d26, _⟩ := hd
        have e11 : ev (.tmp 11) = .bool true := d11
        have e26 : ev (.tmp 26) = .bool (r2 == 0) := d26
        refine st_value (v := .bool (r2 == 0)) ?_ (Below.refl _ _) ?_
        · simp [execOp, go_sem, e11, e26, hcst]
        · exact rfl
      · intro ev W5 hf _ _ hst hd
        obtain ⟨d27, _⟩ := hd
        have e27 : ev (.tmp 27) = .bool (r2 == 0) := d27
        refine st_value (v := .bool (r2 == 0)) ?_ (Below.refl _ _) ?_
        · simp [execOp, go_sem, e27]
        · exact rfl
    case rest =>
      intro vs w3 hl hst hg
      have HE3 := Lib.hid hst
      have hvs : vs = [.pointer (some ⟨(g + 1), 0, none⟩), .int .i64 x, .pointer (some ⟨g, 0, none⟩), .int .i64 A, .int .i64 r1, .bool true, .bool true, .pointer (some ⟨(g + 1), 1, none⟩), .int .i64 y, .pointer (some ⟨(g + 1), 0, none⟩), .int .i64 x, .pointer (some ⟨g, 0, none⟩), .int .i64 A, .int .i64 q, .pointer (some ⟨g, 1, none⟩), .int .i64 B, .int .i64 p, .int .i64 (y - p), .pointer (some ⟨g, 2, none⟩), .int .i64 D, .int .i64 r2, .bool (r2 == 0), .bool (r2 == 0), .bool (r2 == 0)] := list_of hl (fun i u hu => by
        match i, hu with
        | 0, hu => exact (congrArg some (hg 0 u hu)).symm
        | 1, hu => exact (congrArg some (hg 1 u hu)).symm
        | 2, hu => exact (congrArg some (hg 2 u hu)).symm
        | 3, hu => exact (congrArg some (hg 3 u hu)).symm
        | 4, hu => exact (congrArg some (hg 4 u hu)).symm
        | 5, hu => exact (congrArg some (hg 5 u hu)).symm
        | 6, hu => exact (congrArg some (hg 6 u hu)).symm
        | 7, hu => exact (congrArg some (hg 7 u hu)).symm
        | 8, hu => exact (congrArg some (hg 8 u hu)).symm
        | 9, hu => exact (congrArg some (hg 9 u hu)).symm
        | 10, hu => exact (congrArg some (hg 10 u hu)).symm
        | 11, hu => exact (congrArg some (hg 11 u hu)).symm
        | 12, hu => exact (congrArg some (hg 12 u hu)).symm
        | 13, hu => exact (congrArg some (hg 13 u hu)).symm
        | 14, hu => exact (congrArg some (hg 14 u hu)).symm
        | 15, hu => exact (congrArg some (hg 15 u hu)).symm
        | 16, hu => exact (congrArg some (hg 16 u hu)).symm
        | 17, hu => exact (congrArg some (hg 17 u hu)).symm
        | 18, hu => exact (congrArg some (hg 18 u hu)).symm
        | 19, hu => exact (congrArg some (hg 19 u hu)).symm
        | 20, hu => exact (congrArg some (hg 20 u hu)).symm
        | 21, hu => exact (congrArg some (hg 21 u hu)).symm
        | 22, hu => exact (congrArg some (hg 22 u hu)).symm
        | 23, hu => exact (congrArg some (hg 23 u hu)).symm
        | n + 24, hu => exact absurd (lt_len hu) (by rw [hl]; simp))
      clear hg hst hl
      subst hvs
      simp only [putAll, Act.put, List.dropLast, List.setIfInBounds_toArray, List.set_cons_zero, List.set_cons_succ]
      go_wp2_with fail
      go_ret
      exact ⟨ret_bool (by rw [HINB.out, h1]; rfl), Ext.trans HE.out HE3.out⟩
  · refine wp_region_stable [⟨[], none⟩, ⟨[(0, 5)], none⟩, ⟨[], none⟩, ⟨[(2, 7)], none⟩, ⟨[(1, 6), (3, 8)], none⟩, ⟨[(4, 9)], none⟩, ⟨[(5, 10)], none⟩, ⟨[(6, 11)], some (11, true)⟩, ⟨[(7, 12), (6, 11)], some (11, true)⟩, ⟨[(6, 11)], some (11, true)⟩, ⟨[(9, 14), (6, 11)], some (11, true)⟩, ⟨[(6, 11)], some (11, true)⟩, ⟨[(11, 16), (6, 11)], some (11, true)⟩, ⟨[(10, 15), (12, 17), (6, 11)], some (11, true)⟩, ⟨[(6, 11)], some (11, true)⟩, ⟨[(14, 19), (6, 11)], some (11, true)⟩, ⟨[(13, 18), (15, 20), (6, 11)], some (11, true)⟩, ⟨[(8, 13), (16, 21), (6, 11)], some (11, true)⟩, ⟨[(6, 11)], some (11, true)⟩, ⟨[(18, 23), (6, 11)], some (11, true)⟩, ⟨[(17, 22), (19, 24), (6, 11)], some (11, true)⟩, ⟨[(20, 25), (6, 11)], some (11, true)⟩, ⟨[(6, 11), (21, 26)], none⟩, ⟨[(22, 27)], none⟩] (fun x y => Below x.heap.size x y) (MPat [MP.eq (.pointer (some ⟨(g + 1), 0, none⟩)), MP.eq (.int .i64 x), MP.eq (.pointer (some ⟨g, 0, none⟩)), MP.eq (.int .i64 A), MP.eq (.int .i64 r1), MP.eq (.bool false), MP.eq (.bool false), MP.eq (undef), MP.eq (undef), MP.eq (undef), MP.eq (undef), MP.eq (undef), MP.eq (undef), MP.eq (undef), MP.eq (undef), MP.eq (undef), MP.eq (undef), MP.eq (undef), MP.eq (undef), MP.eq (undef), MP.eq (undef), MP.eq (undef), MP.eq (.bool false), MP.eq (.bool false)]) (by kernel_rfl) (fun _ _ _ h k => Ext.trans h k) (fun _ => Below.refl _ _) (fun x => (Below.refl x.heap.size x).drew) (MPat.mono _) (by kernel_rfl) ?obs ?rest
    case obs =>
      refine ⟨?_, ?_, ?_, ?_, ?_, ?_, ?_, ?_, ?_, ?_, ?_, ?_, ?_, ?_, ?_, ?_, ?_, ?_, ?_, ?_, ?_, ?_, ?_, ?_, trivial⟩
      · intro ev W5 hf _ _ hst hd
        have e3 : ev (.tmp 3) = .pointer (some ⟨(g + 1), 0, none⟩) := hf 3 (by kernel_rfl)
        refine st_value (v := .pointer (some ⟨(g + 1), 0, none⟩)) ?_ (Below.refl _ _) ?_
        · simp [execOp, go_sem, e3]
        · exact rfl
      · intro ev W5 hf _ _ hst hd
        obtain ⟨d5, _⟩ := hd
        have e5 : ev (.tmp 5) = .pointer (some ⟨(g + 1), 0, none⟩) := d5
        have q0 := VRow.cell (VRow.ext HX.out hst) (k := 0) rfl
        refine st_value (v := .int .i64 x) ?_ (Below.refl _ _) ?_
        · simp [execOp, go_sem, e5, q0]
        · exact rfl
      · intro ev W5 hf _ _ hst hd
        have e2 : ev (.tmp 2) = .pointer (some ⟨g, 0, none⟩) := hf 2 (by kernel_rfl)
        refine st_value (v := .pointer (some ⟨g, 0, none⟩)) ?_ (Below.refl _ _) ?_
        · simp [execOp, go_sem, e2]
        · exact rfl
      · intro ev W5 hf _ _ hst hd
        obtain ⟨d7, _⟩ := hd
        have e7 : ev (.tmp 7) = .pointer (some ⟨g, 0, none⟩) := d7
        have q0 := VRow.cell (VRow.ext HG.out hst) (k := 0) rfl
        refine st_value (v := .int .i64 A) ?_ (Below.refl _ _) ?_
        · simp [execOp, go_sem, e7, q0]
        · exact rfl
      · intro ev W5 hf _ _ hst hd
        obtain ⟨d6, d8, _⟩ := hd
        have e6 : ev (.tmp 6) = .int .i64 x := d6
        have e8 : ev (.tmp 8) = .int .i64 A := d8
        refine st_value (v := .int .i64 r1) ?_ (Below.refl _ _) ?_
        · simp [execOp, go_sem, e6, e8, hA0, hw6]
        · exact rfl
      · intro ev W5 hf hcst _ hst hd
        obtain ⟨d9, _⟩ := hd
        have e9 : ev (.tmp 9) = .int .i64 r1 := d9
        refine st_value (v := .bool false) ?_ (Below.refl _ _) ?_
        · simp [execOp, go_sem, e9, hcst, h1]
        · exact rfl
      · intro ev W5 hf _ _ hst hd
        obtain ⟨d10, _⟩ := hd
        have e10 : ev (.tmp 10) = .bool false := d10
        refine st_value (v := .bool false) ?_ (Below.refl _ _) ?_
        · simp [execOp, go_sem, e10]
        · exact rfl
      · intro ev W5 hf _ _ hst hd
        obtain ⟨d11, _⟩ := hd
        have e11 : ev (.tmp 11) = .bool false := d11
        refine ⟨fun hh => ?_, fun _ => rfl⟩
        rw [e11] at hh
        simp at hh
      · intro ev W5 hf _ _ hst hd
        obtain ⟨d12, d11, _⟩ := hd
        have e11 : ev (.tmp 11) = .bool false := d11
        refine ⟨fun hh => ?_, fun _ => rfl⟩
        rw [e11] at hh
        simp at hh
      · intro ev W5 hf _ _ hst hd
        obtain ⟨d11, _⟩ := hd
        have e11 : ev (.tmp 11) = .bool false := d11
        refine ⟨fun hh => ?_, fun _ => rfl⟩
        rw [e11] at hh
        simp at hh
      · intro ev W5 hf _ _ hst hd
        obtain ⟨d14, d11, _⟩ := hd
        have e11 : ev (.tmp 11) = .bool false := d11
        refine ⟨fun hh => ?_, fun _ => rfl⟩
        rw [e11] at hh
        simp at hh
      · intro ev W5 hf _ _ hst hd
        obtain ⟨d11, _⟩ := hd
        have e11 : ev (.tmp 11) = .bool false := d11
        refine ⟨fun hh => ?_, fun _ => rfl⟩
        rw [e11] at hh
        simp at hh
      · intro ev W5 hf _ _ hst hd
        obtain ⟨d16, d11, _⟩ := hd
        have e11 : ev (.tmp 11) = .bool false := d11
        refine ⟨fun hh => ?_, fun _ => rfl⟩
        rw [e11] at hh
        simp at hh
      · intro ev W5 hf _ _ hst hd
        obtain ⟨d15, d17, d11, _⟩ := hd
        have e11 : ev (.tmp 11) = .bool false := d11
        refine ⟨fun hh => ?_, fun _ => rfl⟩
        rw [e11] at hh
        simp at hh
      · intro ev W5 hf _ _ hst hd
        obtain ⟨d11, _⟩ := hd
        have e11 : ev (.tmp 11) = .bool false := d11
        refine ⟨fun hh => ?_, fun _ => rfl⟩
        rw [e11] at hh
        simp at hh
      · intro ev W5 hf _ _ hst hd
        obtain ⟨d19, d11, _⟩ := hd
        have e11 : ev (.tmp 11) = .bool false := d11
        refine ⟨fun hh => ?_, fun _ => rfl⟩
        rw [e11] at hh
        simp at hh
      · intro ev W5 hf _ _ hst hd
        obtain ⟨d18, d20, d11, _⟩ := hd
        have e11 : ev (.tmp 11) = .bool false := d11
        refine ⟨fun hh => ?_, fun _ => rfl⟩
        rw [e11] at hh
        simp at hh
      · intro ev W5 hf _ _ hst hd
        obtain ⟨d13, d21, d11, _⟩ := hd
        have e11 : ev (.tmp 11) = .bool false := d11
        refine ⟨fun hh => ?_, fun _ => rfl⟩
        rw [e11] at hh
        simp at hh
      · intro ev W5 hf _ _ hst hd
        obtain ⟨d11, _⟩ := hd
        have e11 : ev (.tmp 11) = .bool false := d11
        refine ⟨fun hh => ?_, fun _ => rfl⟩
        rw [e11] at hh
        simp at hh
      · intro ev W5 hf _ _ hst hd
        obtain ⟨d23, d11, _⟩ := hd
        have e11 : ev (.tmp 11) = .bool false := d11
        refine ⟨fun hh => ?_, fun _ => rfl⟩
        rw [e11] at hh
        simp at hh
      · intro ev W5 hf _ _ hst hd
        obtain ⟨d22, d24, d11, _⟩ := hd
        have e11 : ev (.tmp 11) = .bool false := d11
        refine ⟨fun hh => ?_, fun _ => rfl⟩
        rw [e11] at hh
        simp at hh
      · intro ev W5 hf _ _ hst hd
        obtain ⟨d25, d11, _⟩ := hd
        have e11 : ev (.tmp 11) = .bool false := d11
        refine ⟨fun hh => ?_, fun _ => rfl⟩
        rw [e11] at hh
        simp at hh
      · intro ev W5 hf hcst _ hst hd
        obtain ⟨d11, d26, _⟩ := hd
        have e11 : ev (.tmp 11) = .bool false := d11
        have e26 : ev (.tmp 26) = undef := d26
        refine st_value (v := .bool false) ?_ (Below.refl _ _) ?_
        · simp [execOp, go_sem, e11, e26, hcst]
        · exact rfl
      · intro ev W5 hf _ _ hst hd
        obtain ⟨d27, _⟩ := hd
        have e27 : ev (.tmp 27) = .bool false := d27
        refine st_value (v := .bool false) ?_ (Below.refl _ _) ?_
        · simp [execOp, go_sem, e27]
        · exact rfl
    case rest =>
      intro vs w3 hl hst hg
      have HE3 := Lib.hid hst
      have hvs : vs = [.pointer (some ⟨(g + 1), 0, none⟩), .int .i64 x, .pointer (some ⟨g, 0, none⟩), .int .i64 A, .int .i64 r1, .bool false, .bool false, undef, undef, undef, undef, undef, undef, undef, undef, undef, undef, undef, undef, undef, undef, undef, .bool false, .bool false] := list_of hl (fun i u hu => by
        match i, hu with
        | 0, hu => exact (congrArg some (hg 0 u hu)).symm
        | 1, hu => exact (congrArg some (hg 1 u hu)).symm
        | 2, hu => exact (congrArg some (hg 2 u hu)).symm
        | 3, hu => exact (congrArg some (hg 3 u hu)).symm
        | 4, hu => exact (congrArg some (hg 4 u hu)).symm
        | 5, hu => exact (congrArg some (hg 5 u hu)).symm
        | 6, hu => exact (congrArg some (hg 6 u hu)).symm
        | 7, hu => exact (congrArg some (hg 7 u hu)).symm
        | 8, hu => exact (congrArg some (hg 8 u hu)).symm
        | 9, hu => exact (congrArg some (hg 9 u hu)).symm
        | 10, hu => exact (congrArg some (hg 10 u hu)).symm
        | 11, hu => exact (congrArg some (hg 11 u hu)).symm
        | 12, hu => exact (congrArg some (hg 12 u hu)).symm
        | 13, hu => exact (congrArg some (hg 13 u hu)).symm
        | 14, hu => exact (congrArg some (hg 14 u hu)).symm
        | 15, hu => exact (congrArg some (hg 15 u hu)).symm
        | 16, hu => exact (congrArg some (hg 16 u hu)).symm
        | 17, hu => exact (congrArg some (hg 17 u hu)).symm
        | 18, hu => exact (congrArg some (hg 18 u hu)).symm
        | 19, hu => exact (congrArg some (hg 19 u hu)).symm
        | 20, hu => exact (congrArg some (hg 20 u hu)).symm
        | 21, hu => exact (congrArg some (hg 21 u hu)).symm
        | 22, hu => exact (congrArg some (hg 22 u hu)).symm
        | 23, hu => exact (congrArg some (hg 23 u hu)).symm
        | n + 24, hu => exact absurd (lt_len hu) (by rw [hl]; simp))
      clear hg hst hl
      subst hvs
      simp only [putAll, Act.put, List.dropLast, List.setIfInBounds_toArray, List.set_cons_zero, List.set_cons_succ]
      go_wp2_with fail
      go_ret
      exact ⟨ret_bool (by rw [HINB.out, decide_eq_false h1]; rfl), Ext.trans HE.out HE3.out⟩
end Go.Proofs.Ytnpebfchojalcaa

namespace Go.Proofs.Ytnpebfchojalcaa
set_option maxRecDepth 100000
open Go.RowKit Go.Shelf
attribute [local go_sem] Oper.semAt_some
/-! The reference's crossing and Blank. -/
end Go.Proofs.Ytnpebfchojalcaa
