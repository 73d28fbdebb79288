import Derived.Test.YtnpebfchojalcaaMX
import Derived.Test.YtnpebfchojalcaaRY
namespace Go.Proofs.Ytnpebfchojalcaa
set_option maxRecDepth 100000
open Go.RowKit Go.Shelf
attribute [local go_sem] Oper.semAt_some
/-! The reference's In, Collide and free. -/
theorem tdiv_bd {x A : Int} (hA : 1 ≤ A) (hx : -1000 ≤ x ∧ x ≤ 1000) : -1000 ≤ x.tdiv A ∧ x.tdiv A ≤ 1000 := by
  by_cases h : 0 ≤ x
  · rw [Int.tdiv_eq_ediv_of_nonneg h]
    have h1 := Int.ediv_nonneg h (show 0 ≤ A by omega)
    have h2 := Int.ediv_le_self A h
    omega
  · have e : x.tdiv A = -((-x).tdiv A) := by rw [Int.neg_tdiv, Int.neg_neg]
    rw [e, Int.tdiv_eq_ediv_of_nonneg (by omega)]
    have h1 := Int.ediv_nonneg (show 0 ≤ -x by omega) (show 0 ≤ A by omega)
    have h2 := Int.ediv_le_self (b := A) (show 0 ≤ -x by omega)
    omega
theorem tmod_bd {x A : Int} (hA : 1 ≤ A) : -A < x.tmod A ∧ x.tmod A < A := by
  have h1 := Int.neg_tmod x A
  have h2 := Int.tmod_lt_of_pos (-x) (show 0 < A by omega)
  have h3 := Int.tmod_lt_of_pos x (show 0 < A by omega)
  omega
set_option maxHeartbeats 2000000 in
theorem in_c (A B D x y : Int) (w : World) (hg : gridOk A B D) (hx : -1000 ≤ x ∧ x ≤ 1000) (hy : -1000 ≤ y ∧ y ≤ 1000) :
    Calls Try.prog 37 #[gridV A B D, vecV x y] w fun e w' => e = .returned (.bool (inB A B D (x, y))) ∧ Ext w w' := by
  have hg2 := hg
  unfold gridOk at hg2
  have hA0 : ¬ A = 0 := by omega
  have hD0 : ¬ D = 0 := by omega
  have t1 := tmod_bd (x := x) (A := A) (by omega)
  have q1 := tdiv_bd (x := x) (A := A) (by omega) hx
  have HINB := Lib.hid (show inB A B D (x, y) = (decide (x.tmod A = 0) && decide ((y - x.tdiv A * B).tmod D = 0)) from rfl)
  generalize inB A B D (x, y) = ib at *
  obtain ⟨q, hq⟩ : ∃ q, q = x.tdiv A := ⟨_, rfl⟩
  rw [← hq] at q1 HINB
  have m1 : -100000000 ≤ q * B ∧ q * B ≤ 100000000 := by
    have h1 := Int.mul_le_mul_of_nonneg_right q1.2 (show 0 ≤ B by omega)
    have h2 := Int.mul_le_mul_of_nonneg_right q1.1 (show 0 ≤ B by omega)
    omega
  obtain ⟨p, hp⟩ : ∃ p, p = q * B := ⟨_, rfl⟩
  rw [← hp] at m1 HINB
  have t2 := tmod_bd (x := y - p) (A := D) (by omega)
  have hw1 : IntKind.i64.wrap (x.tmod A) = x.tmod A := IntWalk.i64_in _ (by omega)
  have hw2 : IntKind.i64.wrap (x.tdiv A) = q := by rw [← hq]; exact IntWalk.i64_in _ (by omega)
  have hw3 : IntKind.i64.wrap (q * B) = p := by rw [← hp]; exact IntWalk.i64_in _ (by omega)
  have hw4 : IntKind.i64.wrap (y - p) = y - p := IntWalk.i64_in _ (by omega)
  have hw5 : IntKind.i64.wrap ((y - p).tmod D) = (y - p).tmod D := IntWalk.i64_in _ (by omega)
  have HE := Lib.hid (show Ext w ((w.alloc (.cells #[.int .i64 A, .int .i64 B, .int .i64 D] 24)).alloc (.cells #[.int .i64 x, .int .i64 y] 31)) from Ext.alloc (Ext.alloc (Ext.refl w) _) _)
  clear hp hq
  obtain ⟨r1, hr1⟩ : ∃ r, r = x.tmod A := ⟨_, rfl⟩
  obtain ⟨r2, hr2⟩ : ∃ r, r = (y - p).tmod D := ⟨_, rfl⟩
  have hw6 : x.tmod A = r1 := hr1.symm
  have hw7 : (y - p).tmod D = r2 := hr2.symm
  rw [← hr1] at HINB
  rw [← hr2] at HINB
  have HG := Lib.hid (show VRow ((w.alloc (.cells #[.int .i64 A, .int .i64 B, .int .i64 D] 24)).alloc (.cells #[.int .i64 x, .int .i64 y] 31)) w.heap.size 24 [.int .i64 A, .int .i64 B, .int .i64 D] from (vrow_alloc w [.int .i64 A, .int .i64 B, .int .i64 D] 24).alloc _)
  have HX := Lib.hid (show VRow ((w.alloc (.cells #[.int .i64 A, .int .i64 B, .int .i64 D] 24)).alloc (.cells #[.int .i64 x, .int .i64 y] 31)) (w.heap.size + 1) 31 [.int .i64 x, .int .i64 y] from by
    have h := vrow_alloc (w.alloc (.cells #[.int .i64 A, .int .i64 B, .int .i64 D] 24)) [.int .i64 x, .int .i64 y] 31
    have e : (w.alloc (.cells #[.int .i64 A, .int .i64 B, .int .i64 D] 24)).heap.size = w.heap.size + 1 := by simp
    rw [e] at h
    exact h)
  clear hw1 hw5 hr1 hr2 hg hg2 hx hy t1 t2 q1 m1
  unfold gridV
  go_enter Try.func37, Try.ntmps37
  go_wp2_with fail
  obtain ⟨g, hgg⟩ : ∃ g, g = w.heap.size := ⟨_, rfl⟩
  obtain ⟨w2, hw⟩ : ∃ w2, w2 = (w.alloc (.cells #[.int .i64 A, .int .i64 B, .int .i64 D] 24)).alloc (.cells #[.int .i64 x, .int .i64 y] 31) := ⟨_, rfl⟩
  rw [← hgg] at HG HX ⊢
  rw [← hw] at HG HX HE ⊢
  clear hgg hw
  by_cases h1 : r1 = 0
  · refine wp_region_stable [⟨[], none⟩, ⟨[(0, 5)], none⟩, ⟨[], none⟩, ⟨[(2, 7)], none⟩, ⟨[(1, 6), (3, 8)], none⟩, ⟨[(4, 9)], none⟩, ⟨[(5, 10)], none⟩, ⟨[(6, 11)], some (11, true)⟩, ⟨[(7, 12), (6, 11)], some (11, true)⟩, ⟨[(6, 11)], some (11, true)⟩, ⟨[(9, 14), (6, 11)], some (11, true)⟩, ⟨[(6, 11)], some (11, true)⟩, ⟨[(11, 16), (6, 11)], some (11, true)⟩, ⟨[(10, 15), (12, 17), (6, 11)], some (11, true)⟩, ⟨[(6, 11)], some (11, true)⟩, ⟨[(14, 19), (6, 11)], some (11, true)⟩, ⟨[(13, 18), (15, 20), (6, 11)], some (11, true)⟩, ⟨[(8, 13), (16, 21), (6, 11)], some (11, true)⟩, ⟨[(6, 11)], some (11, true)⟩, ⟨[(18, 23), (6, 11)], some (11, true)⟩, ⟨[(17, 22), (19, 24), (6, 11)], some (11, true)⟩, ⟨[(20, 25), (6, 11)], some (11, true)⟩, ⟨[(6, 11), (21, 26)], none⟩, ⟨[(22, 27)], none⟩] (fun x y => Below x.heap.size x y) (MPat [MP.eq (.pointer (some ⟨(g + 1), 0, none⟩)), MP.eq (.int .i64 x), MP.eq (.pointer (some ⟨g, 0, none⟩)), MP.eq (.int .i64 A), MP.eq (.int .i64 r1), MP.eq (.bool true), MP.eq (.bool true), MP.eq (.pointer (some ⟨(g + 1), 1, none⟩)), MP.eq (.int .i64 y), MP.eq (.pointer (some ⟨(g + 1), 0, none⟩)), MP.eq (.int .i64 x), MP.eq (.pointer (some ⟨g, 0, none⟩)), MP.eq (.int .i64 A), MP.eq (.int .i64 q), MP.eq (.pointer (some ⟨g, 1, none⟩)), MP.eq (.int .i64 B), MP.eq (.int .i64 p), MP.eq (.int .i64 (y - p)), MP.eq (.pointer (some ⟨g, 2, none⟩)), MP.eq (.int .i64 D), MP.eq (.int .i64 r2), MP.eq (.bool (r2 == 0)), MP.eq (.bool (r2 == 0)), MP.eq (.bool (r2 == 0))]) (by kernel_rfl) (fun _ _ _ h k => Ext.trans h k) (fun _ => Below.refl _ _) (fun x => (Below.refl x.heap.size x).drew) (MPat.mono _) (by kernel_rfl) ?obs ?rest
    case obs =>
      refine ⟨?_, ?_, ?_, ?_, ?_, ?_, ?_, ?_, ?_, ?_, ?_, ?_, ?_, ?_, ?_, ?_, ?_, ?_, ?_, ?_, ?_, ?_, ?_, ?_, trivial⟩
      · intro ev W5 hf _ _ hst hd
        have e3 : ev (.tmp 3) = .pointer (some ⟨(g + 1), 0, none⟩) := hf 3 (by kernel_rfl)
        exact st_value (v := .pointer (some ⟨(g + 1), 0, none⟩)) (by simp [execOp, go_sem, e3]) (Below.refl _ _) rfl
      · rintro ev W5 hf _ _ hst ⟨d5, _⟩
        have e5 : ev (.tmp 5) = .pointer (some ⟨(g + 1), 0, none⟩) := d5
        have q0 := VRow.cell (VRow.ext HX.out hst) (k := 0) rfl
        exact st_value (v := .int .i64 x) (by simp [execOp, go_sem, e5, q0]) (Below.refl _ _) rfl
      · intro ev W5 hf _ _ hst hd
        have e2 : ev (.tmp 2) = .pointer (some ⟨g, 0, none⟩) := hf 2 (by kernel_rfl)
        exact st_value (v := .pointer (some ⟨g, 0, none⟩)) (by simp [execOp, go_sem, e2]) (Below.refl _ _) rfl
      · rintro ev W5 hf _ _ hst ⟨d7, _⟩
        have e7 : ev (.tmp 7) = .pointer (some ⟨g, 0, none⟩) := d7
        have q0 := VRow.cell (VRow.ext HG.out hst) (k := 0) rfl
        exact st_value (v := .int .i64 A) (by simp [execOp, go_sem, e7, q0]) (Below.refl _ _) rfl
      · rintro ev W5 hf _ _ hst ⟨d6, d8, _⟩
        have e6 : ev (.tmp 6) = .int .i64 x := d6
        have e8 : ev (.tmp 8) = .int .i64 A := d8
        exact st_value (v := .int .i64 r1) (by simp [execOp, go_sem, e6, e8, hA0, hw6]) (Below.refl _ _) rfl
      · rintro ev W5 hf hcst _ hst ⟨d9, _⟩
        have e9 : ev (.tmp 9) = .int .i64 r1 := d9
        exact st_value (v := .bool true) (by simp [execOp, go_sem, e9, hcst, h1]) (Below.refl _ _) rfl
      · rintro ev W5 hf _ _ hst ⟨d10, _⟩
        have e10 : ev (.tmp 10) = .bool true := d10
        exact st_value (v := .bool true) (by simp [execOp, go_sem, e10]) (Below.refl _ _) rfl
      · rintro ev W5 hf _ _ hst ⟨d11, _⟩
        have e3 : ev (.tmp 3) = .pointer (some ⟨(g + 1), 0, none⟩) := hf 3 (by kernel_rfl)
        have e11 : ev (.tmp 11) = .bool true := d11
        refine ⟨fun _ => ?_, fun hne => absurd e11 hne⟩
        exact st_value (v := .pointer (some ⟨(g + 1), 1, none⟩)) (by simp [execOp, go_sem, e3]) (Below.refl _ _) rfl
      · rintro ev W5 hf _ _ hst ⟨d12, d11, _⟩
        have e12 : ev (.tmp 12) = .pointer (some ⟨(g + 1), 1, none⟩) := d12
        have e11 : ev (.tmp 11) = .bool true := d11
        refine ⟨fun _ => ?_, fun hne => absurd e11 hne⟩
        have q0 := VRow.cell (VRow.ext HX.out hst) (k := 1) rfl
        exact st_value (v := .int .i64 y) (by simp [execOp, go_sem, e12, q0]) (Below.refl _ _) rfl
      · rintro ev W5 hf _ _ hst ⟨d11, _⟩
        have e3 : ev (.tmp 3) = .pointer (some ⟨(g + 1), 0, none⟩) := hf 3 (by kernel_rfl)
        have e11 : ev (.tmp 11) = .bool true := d11
        refine ⟨fun _ => ?_, fun hne => absurd e11 hne⟩
        exact st_value (v := .pointer (some ⟨(g + 1), 0, none⟩)) (by simp [execOp, go_sem, e3]) (Below.refl _ _) rfl
      · rintro ev W5 hf _ _ hst ⟨d14, d11, _⟩
        have e14 : ev (.tmp 14) = .pointer (some ⟨(g + 1), 0, none⟩) := d14
        have e11 : ev (.tmp 11) = .bool true := d11
        refine ⟨fun _ => ?_, fun hne => absurd e11 hne⟩
        have q0 := VRow.cell (VRow.ext HX.out hst) (k := 0) rfl
        exact st_value (v := .int .i64 x) (by simp [execOp, go_sem, e14, q0]) (Below.refl _ _) rfl
      · rintro ev W5 hf _ _ hst ⟨d11, _⟩
        have e2 : ev (.tmp 2) = .pointer (some ⟨g, 0, none⟩) := hf 2 (by kernel_rfl)
        have e11 : ev (.tmp 11) = .bool true := d11
        refine ⟨fun _ => ?_, fun hne => absurd e11 hne⟩
        exact st_value (v := .pointer (some ⟨g, 0, none⟩)) (by simp [execOp, go_sem, e2]) (Below.refl _ _) rfl
      · rintro ev W5 hf _ _ hst ⟨d16, d11, _⟩
        have e16 : ev (.tmp 16) = .pointer (some ⟨g, 0, none⟩) := d16
        have e11 : ev (.tmp 11) = .bool true := d11
        refine ⟨fun _ => ?_, fun hne => absurd e11 hne⟩
        have q0 := VRow.cell (VRow.ext HG.out hst) (k := 0) rfl
        exact st_value (v := .int .i64 A) (by simp [execOp, go_sem, e16, q0]) (Below.refl _ _) rfl
      · rintro ev W5 hf _ _ hst ⟨d15, d17, d11, _⟩
        have e15 : ev (.tmp 15) = .int .i64 x := d15
        have e17 : ev (.tmp 17) = .int .i64 A := d17
        have e11 : ev (.tmp 11) = .bool true := d11
        refine ⟨fun _ => ?_, fun hne => absurd e11 hne⟩
        exact st_value (v := .int .i64 q) (by simp [execOp, go_sem, e15, e17, hA0, hw2]) (Below.refl _ _) rfl
      · rintro ev W5 hf _ _ hst ⟨d11, _⟩
        have e2 : ev (.tmp 2) = .pointer (some ⟨g, 0, none⟩) := hf 2 (by kernel_rfl)
        have e11 : ev (.tmp 11) = .bool true := d11
        refine ⟨fun _ => ?_, fun hne => absurd e11 hne⟩
        exact st_value (v := .pointer (some ⟨g, 1, none⟩)) (by simp [execOp, go_sem, e2]) (Below.refl _ _) rfl
      · rintro ev W5 hf _ _ hst ⟨d19, d11, _⟩
        have e19 : ev (.tmp 19) = .pointer (some ⟨g, 1, none⟩) := d19
        have e11 : ev (.tmp 11) = .bool true := d11
        refine ⟨fun _ => ?_, fun hne => absurd e11 hne⟩
        have q0 := VRow.cell (VRow.ext HG.out hst) (k := 1) rfl
        exact st_value (v := .int .i64 B) (by simp [execOp, go_sem, e19, q0]) (Below.refl _ _) rfl
      · rintro ev W5 hf _ _ hst ⟨d18, d20, d11, _⟩
        have e18 : ev (.tmp 18) = .int .i64 q := d18
        have e20 : ev (.tmp 20) = .int .i64 B := d20
        have e11 : ev (.tmp 11) = .bool true := d11
        refine ⟨fun _ => ?_, fun hne => absurd e11 hne⟩
        exact st_value (v := .int .i64 p) (by simp [execOp, go_sem, e18, e20, hw3]) (Below.refl _ _) rfl
      · rintro ev W5 hf _ _ hst ⟨d13, d21, d11, _⟩
        have e13 : ev (.tmp 13) = .int .i64 y := d13
        have e21 : ev (.tmp 21) = .int .i64 p := d21
        have e11 : ev (.tmp 11) = .bool true := d11
        refine ⟨fun _ => ?_, fun hne => absurd e11 hne⟩
        exact st_value (v := .int .i64 (y - p)) (by simp [execOp, go_sem, e13, e21, hw4]) (Below.refl _ _) rfl
      · rintro ev W5 hf _ _ hst ⟨d11, _⟩
        have e2 : ev (.tmp 2) = .pointer (some ⟨g, 0, none⟩) := hf 2 (by kernel_rfl)
        have e11 : ev (.tmp 11) = .bool true := d11
        refine ⟨fun _ => ?_, fun hne => absurd e11 hne⟩
        exact st_value (v := .pointer (some ⟨g, 2, none⟩)) (by simp [execOp, go_sem, e2]) (Below.refl _ _) rfl
      · rintro ev W5 hf _ _ hst ⟨d23, d11, _⟩
        have e23 : ev (.tmp 23) = .pointer (some ⟨g, 2, none⟩) := d23
        have e11 : ev (.tmp 11) = .bool true := d11
        refine ⟨fun _ => ?_, fun hne => absurd e11 hne⟩
        have q0 := VRow.cell (VRow.ext HG.out hst) (k := 2) rfl
        exact st_value (v := .int .i64 D) (by simp [execOp, go_sem, e23, q0]) (Below.refl _ _) rfl
      · rintro ev W5 hf _ _ hst ⟨d22, d24, d11, _⟩
        have e22 : ev (.tmp 22) = .int .i64 (y - p) := d22
        have e24 : ev (.tmp 24) = .int .i64 D := d24
        have e11 : ev (.tmp 11) = .bool true := d11
        refine ⟨fun _ => ?_, fun hne => absurd e11 hne⟩
        exact st_value (v := .int .i64 r2) (by simp [execOp, go_sem, e22, e24, hD0, hw7]) (Below.refl _ _) rfl
      · rintro ev W5 hf hcst _ hst ⟨d25, d11, _⟩
        have e25 : ev (.tmp 25) = .int .i64 r2 := d25
        have e11 : ev (.tmp 11) = .bool true := d11
        refine ⟨fun _ => ?_, fun hne => absurd e11 hne⟩
        exact st_value (v := .bool (r2 == 0)) (by simp [execOp, go_sem, e25, hcst]) (Below.refl _ _) rfl
      · rintro ev W5 hf hcst _ hst ⟨d11, d26, _⟩
        have e11 : ev (.tmp 11) = .bool true := d11
        have e26 : ev (.tmp 26) = .bool (r2 == 0) := d26
        exact st_value (v := .bool (r2 == 0)) (by simp [execOp, go_sem, e11, e26, hcst]) (Below.refl _ _) rfl
      · rintro ev W5 hf _ _ hst ⟨d27, _⟩
        have e27 : ev (.tmp 27) = .bool (r2 == 0) := d27
        exact st_value (v := .bool (r2 == 0)) (by simp [execOp, go_sem, e27]) (Below.refl _ _) rfl
    case rest =>
      intro vs w3 hl hst hg
      have HE3 := Lib.hid hst
      have hvs : vs = [.pointer (some ⟨(g + 1), 0, none⟩), .int .i64 x, .pointer (some ⟨g, 0, none⟩), .int .i64 A, .int .i64 r1, .bool true, .bool true, .pointer (some ⟨(g + 1), 1, none⟩), .int .i64 y, .pointer (some ⟨(g + 1), 0, none⟩), .int .i64 x, .pointer (some ⟨g, 0, none⟩), .int .i64 A, .int .i64 q, .pointer (some ⟨g, 1, none⟩), .int .i64 B, .int .i64 p, .int .i64 (y - p), .pointer (some ⟨g, 2, none⟩), .int .i64 D, .int .i64 r2, .bool (r2 == 0), .bool (r2 == 0), .bool (r2 == 0)] := vs_all hl hg
      clear hg hst hl
      subst hvs
      simp only [putAll, Act.put, List.dropLast, List.setIfInBounds_toArray, List.set_cons_zero, List.set_cons_succ]
      go_wp2_with fail
      go_ret
      exact ⟨ret_bool (by rw [HINB.out, h1]; rfl), Ext.trans HE.out HE3.out⟩
  · refine wp_region_stable [⟨[], none⟩, ⟨[(0, 5)], none⟩, ⟨[], none⟩, ⟨[(2, 7)], none⟩, ⟨[(1, 6), (3, 8)], none⟩, ⟨[(4, 9)], none⟩, ⟨[(5, 10)], none⟩, ⟨[(6, 11)], some (11, true)⟩, ⟨[(7, 12), (6, 11)], some (11, true)⟩, ⟨[(6, 11)], some (11, true)⟩, ⟨[(9, 14), (6, 11)], some (11, true)⟩, ⟨[(6, 11)], some (11, true)⟩, ⟨[(11, 16), (6, 11)], some (11, true)⟩, ⟨[(10, 15), (12, 17), (6, 11)], some (11, true)⟩, ⟨[(6, 11)], some (11, true)⟩, ⟨[(14, 19), (6, 11)], some (11, true)⟩, ⟨[(13, 18), (15, 20), (6, 11)], some (11, true)⟩, ⟨[(8, 13), (16, 21), (6, 11)], some (11, true)⟩, ⟨[(6, 11)], some (11, true)⟩, ⟨[(18, 23), (6, 11)], some (11, true)⟩, ⟨[(17, 22), (19, 24), (6, 11)], some (11, true)⟩, ⟨[(20, 25), (6, 11)], some (11, true)⟩, ⟨[(6, 11), (21, 26)], none⟩, ⟨[(22, 27)], none⟩] (fun x y => Below x.heap.size x y) (MPat [MP.eq (.pointer (some ⟨(g + 1), 0, none⟩)), MP.eq (.int .i64 x), MP.eq (.pointer (some ⟨g, 0, none⟩)), MP.eq (.int .i64 A), MP.eq (.int .i64 r1), MP.eq (.bool false), MP.eq (.bool false), MP.eq (undef), MP.eq (undef), MP.eq (undef), MP.eq (undef), MP.eq (undef), MP.eq (undef), MP.eq (undef), MP.eq (undef), MP.eq (undef), MP.eq (undef), MP.eq (undef), MP.eq (undef), MP.eq (undef), MP.eq (undef), MP.eq (undef), MP.eq (.bool false), MP.eq (.bool false)]) (by kernel_rfl) (fun _ _ _ h k => Ext.trans h k) (fun _ => Below.refl _ _) (fun x => (Below.refl x.heap.size x).drew) (MPat.mono _) (by kernel_rfl) ?obs ?rest
    case obs =>
      refine ⟨?_, ?_, ?_, ?_, ?_, ?_, ?_, ?_, ?_, ?_, ?_, ?_, ?_, ?_, ?_, ?_, ?_, ?_, ?_, ?_, ?_, ?_, ?_, ?_, trivial⟩
      · intro ev W5 hf _ _ hst hd
        have e3 : ev (.tmp 3) = .pointer (some ⟨(g + 1), 0, none⟩) := hf 3 (by kernel_rfl)
        exact st_value (v := .pointer (some ⟨(g + 1), 0, none⟩)) (by simp [execOp, go_sem, e3]) (Below.refl _ _) rfl
      · rintro ev W5 hf _ _ hst ⟨d5, _⟩
        have e5 : ev (.tmp 5) = .pointer (some ⟨(g + 1), 0, none⟩) := d5
        have q0 := VRow.cell (VRow.ext HX.out hst) (k := 0) rfl
        exact st_value (v := .int .i64 x) (by simp [execOp, go_sem, e5, q0]) (Below.refl _ _) rfl
      · intro ev W5 hf _ _ hst hd
        have e2 : ev (.tmp 2) = .pointer (some ⟨g, 0, none⟩) := hf 2 (by kernel_rfl)
        exact st_value (v := .pointer (some ⟨g, 0, none⟩)) (by simp [execOp, go_sem, e2]) (Below.refl _ _) rfl
      · rintro ev W5 hf _ _ hst ⟨d7, _⟩
        have e7 : ev (.tmp 7) = .pointer (some ⟨g, 0, none⟩) := d7
        have q0 := VRow.cell (VRow.ext HG.out hst) (k := 0) rfl
        exact st_value (v := .int .i64 A) (by simp [execOp, go_sem, e7, q0]) (Below.refl _ _) rfl
      · rintro ev W5 hf _ _ hst ⟨d6, d8, _⟩
        have e6 : ev (.tmp 6) = .int .i64 x := d6
        have e8 : ev (.tmp 8) = .int .i64 A := d8
        exact st_value (v := .int .i64 r1) (by simp [execOp, go_sem, e6, e8, hA0, hw6]) (Below.refl _ _) rfl
      · rintro ev W5 hf hcst _ hst ⟨d9, _⟩
        have e9 : ev (.tmp 9) = .int .i64 r1 := d9
        exact st_value (v := .bool false) (by simp [execOp, go_sem, e9, hcst, h1]) (Below.refl _ _) rfl
      · rintro ev W5 hf _ _ hst ⟨d10, _⟩
        have e10 : ev (.tmp 10) = .bool false := d10
        exact st_value (v := .bool false) (by simp [execOp, go_sem, e10]) (Below.refl _ _) rfl
      · rintro ev W5 hf _ _ hst ⟨d11, _⟩
        have e11 : ev (.tmp 11) = .bool false := d11
        exact ⟨fun hh => by simp [e11] at hh, fun _ => rfl⟩
      · rintro ev W5 hf _ _ hst ⟨d12, d11, _⟩
        have e11 : ev (.tmp 11) = .bool false := d11
        exact ⟨fun hh => by simp [e11] at hh, fun _ => rfl⟩
      · rintro ev W5 hf _ _ hst ⟨d11, _⟩
        have e11 : ev (.tmp 11) = .bool false := d11
        exact ⟨fun hh => by simp [e11] at hh, fun _ => rfl⟩
      · rintro ev W5 hf _ _ hst ⟨d14, d11, _⟩
        have e11 : ev (.tmp 11) = .bool false := d11
        exact ⟨fun hh => by simp [e11] at hh, fun _ => rfl⟩
      · rintro ev W5 hf _ _ hst ⟨d11, _⟩
        have e11 : ev (.tmp 11) = .bool false := d11
        exact ⟨fun hh => by simp [e11] at hh, fun _ => rfl⟩
      · rintro ev W5 hf _ _ hst ⟨d16, d11, _⟩
        have e11 : ev (.tmp 11) = .bool false := d11
        exact ⟨fun hh => by simp [e11] at hh, fun _ => rfl⟩
      · rintro ev W5 hf _ _ hst ⟨d15, d17, d11, _⟩
        have e11 : ev (.tmp 11) = .bool false := d11
        exact ⟨fun hh => by simp [e11] at hh, fun _ => rfl⟩
      · rintro ev W5 hf _ _ hst ⟨d11, _⟩
        have e11 : ev (.tmp 11) = .bool false := d11
        exact ⟨fun hh => by simp [e11] at hh, fun _ => rfl⟩
      · rintro ev W5 hf _ _ hst ⟨d19, d11, _⟩
        have e11 : ev (.tmp 11) = .bool false := d11
        exact ⟨fun hh => by simp [e11] at hh, fun _ => rfl⟩
      · rintro ev W5 hf _ _ hst ⟨d18, d20, d11, _⟩
        have e11 : ev (.tmp 11) = .bool false := d11
        exact ⟨fun hh => by simp [e11] at hh, fun _ => rfl⟩
      · rintro ev W5 hf _ _ hst ⟨d13, d21, d11, _⟩
        have e11 : ev (.tmp 11) = .bool false := d11
        exact ⟨fun hh => by simp [e11] at hh, fun _ => rfl⟩
      · rintro ev W5 hf _ _ hst ⟨d11, _⟩
        have e11 : ev (.tmp 11) = .bool false := d11
        exact ⟨fun hh => by simp [e11] at hh, fun _ => rfl⟩
      · rintro ev W5 hf _ _ hst ⟨d23, d11, _⟩
        have e11 : ev (.tmp 11) = .bool false := d11
        exact ⟨fun hh => by simp [e11] at hh, fun _ => rfl⟩
      · rintro ev W5 hf _ _ hst ⟨d22, d24, d11, _⟩
        have e11 : ev (.tmp 11) = .bool false := d11
        exact ⟨fun hh => by simp [e11] at hh, fun _ => rfl⟩
      · rintro ev W5 hf _ _ hst ⟨d25, d11, _⟩
        have e11 : ev (.tmp 11) = .bool false := d11
        exact ⟨fun hh => by simp [e11] at hh, fun _ => rfl⟩
      · rintro ev W5 hf hcst _ hst ⟨d11, d26, _⟩
        have e11 : ev (.tmp 11) = .bool false := d11
        have e26 : ev (.tmp 26) = undef := d26
        exact st_value (v := .bool false) (by simp [execOp, go_sem, e11, e26, hcst]) (Below.refl _ _) rfl
      · rintro ev W5 hf _ _ hst ⟨d27, _⟩
        have e27 : ev (.tmp 27) = .bool false := d27
        exact st_value (v := .bool false) (by simp [execOp, go_sem, e27]) (Below.refl _ _) rfl
    case rest =>
      intro vs w3 hl hst hg
      have HE3 := Lib.hid hst
      have hvs : vs = [.pointer (some ⟨(g + 1), 0, none⟩), .int .i64 x, .pointer (some ⟨g, 0, none⟩), .int .i64 A, .int .i64 r1, .bool false, .bool false, undef, undef, undef, undef, undef, undef, undef, undef, undef, undef, undef, undef, undef, undef, undef, .bool false, .bool false] := vs_all hl hg
      clear hg hst hl
      subst hvs
      simp only [putAll, Act.put, List.dropLast, List.setIfInBounds_toArray, List.set_cons_zero, List.set_cons_succ]
      go_wp2_with fail
      go_ret
      exact ⟨ret_bool (by rw [HINB.out, decide_eq_false h1]; rfl), Ext.trans HE.out HE3.out⟩
set_option maxHeartbeats 2000000 in
theorem collide_c (u : Value) (ps : List Pt) (x y : Int) (w : World) (hu : Vecs w u ps) (hb : blankB ps = true) (hx : -1000 ≤ x ∧ x ≤ 1000) (hy : -1000 ≤ y ∧ y ≤ 1000) :
    Calls Try.prog 38 #[u, vecV x y] w fun e w' => e = .returned (.bool (hitB ps (x, y))) ∧ Ext w w' := by
  obtain ⟨a, cap, rfl, hl, hm, _⟩ := hu.at
  have HE1 := Lib.hid (Ext.alloc (Ext.refl w) (.cells #[.int .i64 x, .int .i64 y] 31))
  have HU := Lib.hid (hu.ext HE1.out)
  have HV := Lib.hid (show VRow (w.alloc (.cells #[.int .i64 x, .int .i64 y] 31)) _ _ _ from vrow_alloc w [.int .i64 x, .int .i64 y] 31)
  have b0 := VRow.cell HV.out (k := 0) rfl
  have b1 := VRow.cell HV.out (k := 1) rfl
  by_cases hin : -12 < x ∧ x < 12 ∧ -12 < y ∧ y < 12
  · have HBB := Lib.hid hb
    have HFB := Lib.hid (show farB x y = false from by simp [farB]; omega)
    obtain ⟨hv, hq⟩ := blank_parts hb
    have hmf : (movedP ps (x, y)).any farP = false := by
      rw [List.any_eq_false]
      intro q hz
      obtain ⟨r, hr, rfl⟩ := List.mem_map.1 hz
      have := hq r hr
      intro hfar
      simp only [farP, farB, addP, Bool.or_eq_true] at hfar
      rcases hfar with ((hf | hf) | hf) | hf <;> (have := of_decide_eq_true hf; omega)
    have hmv := valid_moved hv hmf
    have hlen : ¬ 32 < (movedP ps (x, y)).length := by rw [moved_length]; have := (valid_near hv).2; omega
    have HME := Lib.hid (show moveE ps x y = 0 ∧ moveL ps x y = movedP ps (x, y) from by
      have hc : validB ps = true ∧ farB x y = false := ⟨hv, HFB.out⟩
      have hm0 : ¬ (movedP ps (x, y)).any farP = true := by rw [hmf]; decide
      exact ⟨by unfold moveE limE; rw [if_pos hc, if_neg hm0, if_neg hlen], by unfold moveL limL; rw [if_pos hc, if_neg hm0, if_neg hlen]⟩)
    have HOV := Lib.hid (show overlapR ps (movedP ps (x, y)) = two (.bool (overlapB ps (movedP ps (x, y)))) (.int .i64 0) from by unfold overlapR; rw [if_pos ⟨hv, hmv⟩])
    have HHB := Lib.hid (show hitB ps (x, y) = overlapB ps (movedP ps (x, y)) from by unfold hitB; rw [decide_eq_true hin, Bool.true_and])
    have k1 : ¬ x ≤ -12 := by omega
    have k2 : ¬ 12 ≤ x := by omega
    have k3 : ¬ y ≤ -12 := by omega
    have k4 : ¬ 12 ≤ y := by omega
    clear hu hb hv hq hmf hmv hlen hin
    go_enter Try.func38, Try.ntmps38
    go_wp2_with fail
    refine (show Calls Try.prog 82 #[_, vecV x y] _ _ from (rMove_o _ ps x y _ HU.out).mono ?_)
    rintro e w3 ⟨r, rfl, hr, hE⟩
    rw [HME.out.2] at hr
    rw [HME.out.1]
    have HR := Lib.hid hr
    have HU3 := Lib.hid (HU.out.ext hE)
    have HE3 := Lib.hid (Ext.trans HE1.out hE)
    clear b0 b1 hr hE k1 k2 k3 k4
    go_wp2_with fail
    refine (rOverlap_c _ _ ps (movedP ps (x, y)) w3 HU3.out HR.out).mono ?_
    rintro e w4 ⟨he, hE⟩
    rw [HOV.out] at he
    subst he
    have HE4 := Lib.hid (Ext.trans HE3.out hE)
    clear hE
    unfold two
    go_wp2_with fail
    go_ret
    exact ⟨ret_bool HHB.out.symm, HE4.out⟩
  · have HHB := Lib.hid (show hitB ps (x, y) = false from by unfold hitB; rw [decide_eq_false hin, Bool.false_and])
    clear hu
    by_cases k1 : x ≤ -12
    · go_enter Try.func38, Try.ntmps38
      go_wp2_with fail
      go_ret
      exact ⟨ret_bool HHB.out.symm, HE1.out⟩
    · by_cases k2 : 12 ≤ x
      · go_enter Try.func38, Try.ntmps38
        go_wp2_with fail
        go_ret
        exact ⟨ret_bool HHB.out.symm, HE1.out⟩
      · by_cases k3 : y ≤ -12
        · go_enter Try.func38, Try.ntmps38
          go_wp2_with fail
          go_ret
          exact ⟨ret_bool HHB.out.symm, HE1.out⟩
        · have k4 : 12 ≤ y := by omega
          go_enter Try.func38, Try.ntmps38
          go_wp2_with fail
          go_ret
          exact ⟨ret_bool HHB.out.symm, HE1.out⟩
set_option maxHeartbeats 2000000 in
theorem free_c (v : Value) (ls : List Pt) (A B D : Int) (w : World) (hv : Vecs w v ls) (hb : ∀ q ∈ ls, -1000 ≤ q.1 ∧ q.1 ≤ 1000 ∧ -1000 ≤ q.2 ∧ q.2 ≤ 1000) (hl9 : ls.length ≤ 1000) (hg : gridOk A B D) :
    Calls Try.prog 45 #[v, gridV A B D] w fun e w' => e = .returned (.bool (freeB ls A B D)) ∧ Ext w w' := by
  have HE1 := Lib.hid (Ext.alloc (Ext.refl w) (.cells #[.int .i64 A, .int .i64 B, .int .i64 D] 24))
  have HG := Lib.hid (show VRow (w.alloc (.cells #[.int .i64 A, .int .i64 B, .int .i64 D] 24)) _ _ _ from vrow_alloc w [.int .i64 A, .int .i64 B, .int .i64 D] 24)
  have HBAD := Lib.hid (fun (k : Nat) (hk : k < ls.length) (h : inB A B D (fromP ls k) = true) => (show freeB ls A B D = false from by
    unfold freeB
    rw [List.all_eq_false]
    exact ⟨_, from_mem hk, by rw [h]; decide⟩))
  have HGOOD := Lib.hid (fun (h : ∀ k, k < ls.length → inB A B D (fromP ls k) = false) => (show freeB ls A B D = true from by
    unfold freeB
    rw [List.all_eq_true]
    intro z hz
    obtain ⟨j, hj, rfl⟩ := mem_from hz
    rw [h j hj]
    rfl))
  generalize freeB ls A B D = fb at *
  by_cases h0 : ls = []
  · subst h0
    obtain ⟨a, cap, rfl, hl, hm, _⟩ := hv.at
    have HF := Lib.hid (HGOOD.out (fun k hk => by simp at hk))
    clear hv hb
    unfold gridV
    go_enter Try.func45, Try.ntmps45
    go_wp2_with fail
    go_loopw [5] (fun iv wr => iv = .int .i64 0 ∧ Ext w wr) (fun _ _ => 0)
    case atStart => exact ⟨rfl, HE1.out⟩
    case round =>
      rename World => wr
      obtain ⟨rfl, hE⟩ := hrel
      have HE := Lib.hid hE
      clear hE
      go_wp2_with fail
      go_ret
      exact ⟨ret_bool HF.out.symm, HE.out⟩
  · have h1 : 1 ≤ ls.length := by
      cases ls with
      | nil => exact absurd rfl h0
      | cons _ _ => simp
    obtain ⟨b, o, cap, rfl, hl, hm, hc⟩ := vecs_cells hv h1
    have HC := Lib.hid hc
    have HBD := Lib.hid (fun (k : Nat) (hk : k < ls.length) => hb _ (from_mem hk))
    have HGO := Lib.hid hg
    obtain ⟨n, hnn⟩ : ∃ n, n = ls.length := ⟨_, rfl⟩
    rw [← hnn] at HC HBD HBAD HGOOD hl hl9 ⊢
    clear hv hb hc hnn h1 h0 hg
    unfold gridV
    go_enter Try.func45, Try.ntmps45
    go_wp2_with fail
    obtain ⟨g, hgg⟩ : ∃ g, g = w.heap.size := ⟨_, rfl⟩
    obtain ⟨w1, hw1⟩ : ∃ w1, w1 = w.alloc (.cells #[.int .i64 A, .int .i64 B, .int .i64 D] 24) := ⟨_, rfl⟩
    rw [← hgg] at HG ⊢
    rw [← hw1] at HG HE1 ⊢
    clear hgg hw1
    go_loopw [5] (fun iv wr => ∃ k : Nat, iv = .int .i64 (k : Int) ∧ k ≤ n ∧ (∀ j, j < k → inB A B D (fromP ls j) = false) ∧ Ext w1 wr) (fun iv _ => n - (intOf iv).toNat)
    case atStart => exact ⟨0, rfl, Nat.zero_le _, fun j hj => by omega, Ext.refl _⟩
    case round =>
      rename World => wr
      obtain ⟨k, rfl, hk, hall, hE⟩ := hrel
      have HALL := Lib.hid hall
      have HEw := Lib.hid hE
      have HEr := Lib.hid (Ext.trans HE1.out hE)
      have HGr := Lib.hid (VRow.ext HG.out hE)
      clear hall hE
      by_cases hlt : k < n
      · obtain ⟨c1, c2⟩ := HC.out k hlt
        have C1 := Lib.hid (Ext.cell HEr.out c1)
        have C2 := Lib.hid (Ext.cell HEr.out c2)
        have hbd := HBD.out k hlt
        have HIN := Lib.hid (fun (W : World) => in_c A B D (fromP ls k).1 (fromP ls k).2 W HGO.out (by omega) (by omega))
        have HIB0 := Lib.hid (show inB A B D ((fromP ls k).1, (fromP ls k).2) = inB A B D (fromP ls k) from rfl)
        obtain ⟨px, hpx⟩ : ∃ z, z = (fromP ls k).1 := ⟨_, rfl⟩
        obtain ⟨py, hpy⟩ : ∃ z, z = (fromP ls k).2 := ⟨_, rfl⟩
        rw [← hpx, ← hpy] at HIN HIB0
        rw [← hpx] at C1
        rw [← hpy] at C2
        obtain ⟨ib, hib⟩ : ∃ z, z = inB A B D (px, py) := ⟨_, rfl⟩
        rw [← hib] at HIN HIB0
        have HIB := Lib.hid (show ib = inB A B D (fromP ls k) from HIB0.out)
        clear hpx hpy hib HIB0 hbd c1 c2
        go_wp2_with fail
        refine wp_region_stable [⟨[], none⟩, ⟨[], none⟩, ⟨[], none⟩, ⟨[(1, 13), (2, 14)], none⟩, ⟨[(3, 15)], none⟩, ⟨[(0, 12), (4, 16)], none⟩] (fun x y => Below x.heap.size x y) (MPat [MP.eq (gridV A B D), MP.eq (.slice (some ⟨b, o, none⟩) n cap), MP.eq (.int .i64 (k : Int)), MP.eq (.pointer (some ⟨b, o + k * 2, none⟩)), MP.eq (vecV px py), MP.eq (.bool ib)]) (by kernel_rfl) (fun _ _ _ h k => Ext.trans h k) (fun _ => Below.refl _ _) (fun x => (Below.refl x.heap.size x).drew) (MPat.mono _) (by kernel_rfl) ?obs ?rest
        case obs =>
          refine ⟨?_, ?_, ?_, ?_, ?_, ?_, trivial⟩
          · intro ev W5 hf _ _ hst hd
            have e3 : ev (.tmp 3) = .pointer (some ⟨g, 0, none⟩) := hf 3 (by kernel_rfl)
            have kk := VRow.ext HGr.out hst
            have q0 := VRow.cell kk (k := 0) rfl
            have q1 := VRow.cell kk (k := 1) rfl
            have q2 := VRow.cell kk (k := 2) rfl
            exact st_value (v := gridV A B D) (by simp [execOp, go_sem, e3, q0, q1, q2, gridV]) (Below.refl _ _) rfl
          · intro ev W5 hf _ _ hst hd
            have e0 : ev (.tmp 0) = .slice (some ⟨b, o, none⟩) n cap := hf 0 (by kernel_rfl)
            exact st_value (v := .slice (some ⟨b, o, none⟩) n cap) (by simp [execOp, go_sem, e0]) (Below.refl _ _) rfl
          · intro ev W5 hf _ _ hst hd
            have e5 : ev (.tmp 5) = .int .i64 (k : Int) := hf 5 (by kernel_rfl)
            exact st_value (v := .int .i64 (k : Int)) (by simp [execOp, go_sem, e5]) (Below.refl _ _) rfl
          · rintro ev W5 hf _ _ hst ⟨d13, d14, _⟩
            have e13 : ev (.tmp 13) = .slice (some ⟨b, o, none⟩) n cap := d13
            have e14 : ev (.tmp 14) = .int .i64 (k : Int) := d14
            exact st_value (v := .pointer (some ⟨b, o + k * 2, none⟩)) (by simp [execOp, go_sem, e13, e14, hlt]) (Below.refl _ _) rfl
          · rintro ev W5 hf _ _ hst ⟨d15, _⟩
            have e15 : ev (.tmp 15) = .pointer (some ⟨b, o + k * 2, none⟩) := d15
            have q0 := Ext.cell hst C1.out
            have q1 := Ext.cell hst C2.out
            exact st_value (v := vecV px py) (by simp [execOp, go_sem, e15, q0, q1, vecV]) (Below.refl _ _) rfl
          · rintro ev W5 hf _ hfn hst ⟨d12, d16, _⟩
            have e12 : ev (.tmp 12) = gridV A B D := d12
            have e16 : ev (.tmp 16) = vecV px py := d16
            refine st_call (f := 37) (args := #[gridV A B D, vecV px py]) (by simp [execOp, go_sem, hfn, e12, e16]) (HIN.out W5) (fun _ _ => rfl)
        case rest =>
          intro vs w3 hl hst hg
          have HE3 := Lib.hid hst
          have hvs : vs = [gridV A B D, .slice (some ⟨b, o, none⟩) n cap, .int .i64 (k : Int), .pointer (some ⟨b, o + k * 2, none⟩), vecV px py, .bool ib] := vs_all hl hg
          clear hg hst hl
          subst hvs
          simp only [putAll, Act.put, List.dropLast, List.setIfInBounds_toArray, List.set_cons_zero, List.set_cons_succ]
          cases ib with
          | true =>
            have HF := Lib.hid (HBAD.out k hlt HIB.out.symm)
            go_wp2_with fail
            go_ret
            exact ⟨ret_bool HF.out.symm, Ext.trans HEr.out HE3.out⟩
          | false =>
            have HT := Lib.hid (show ∀ j, j < k + 1 → inB A B D (fromP ls j) = false from fun j hj => by
              by_cases e : j = k
              · rw [e]; exact HIB.out.symm
              · exact HALL.out j (by omega))
            go_wp2_with fail
            exact ⟨⟨k + 1, by simp, by omega, HT.out, Ext.trans HEw.out HE3.out⟩, by simp [intOf]; omega⟩
      · obtain rfl : k = n := by omega
        have HF := Lib.hid (HGOOD.out HALL.out)
        go_wp2_with fail
        go_ret
        exact ⟨ret_bool HF.out.symm, HEr.out⟩
end Go.Proofs.Ytnpebfchojalcaa

namespace Go.Proofs.Ytnpebfchojalcaa
set_option maxRecDepth 100000
open Go.RowKit Go.Shelf
attribute [local go_sem] Oper.semAt_some
/-! The reference's crossing and Blank. -/
theorem crossR_len (ps : List Pt) (x : Int) : ∀ k : Nat, (crossR ps x k).length ≤ k := by
  intro k
  induction k with
  | zero => simp [crossR]
  | succ k ih =>
    rw [crossR, List.length_append]
    split <;> simp <;> omega
theorem crossN_len (ps : List Pt) : ∀ k : Nat, (crossN ps k).length ≤ 25 * k := by
  intro k
  induction k with
  | zero => simp [crossN]
  | succ k ih =>
    have := crossR_len ps ((k : Int) - 12) 25
    rw [crossN, List.length_append]
    omega
set_option maxHeartbeats 4000000 in
theorem crossing_o (u : Value) (ps : List Pt) (w : World) (hu : Vecs w u ps) (hb : blankB ps = true) :
    Calls Try.prog 46 #[u] w fun e w' => ∃ r, e = .returned r ∧ w'.ownsRow w.heap.size 31 2 r (crossL ps).length (cellsOf (crossL ps)) ∧ Ext w w' := by
  obtain ⟨a, cap, rfl, hl, hm, _⟩ := hu.at
  have HU := Lib.hid hu
  have HBB := Lib.hid hb
  have HKL := Lib.hid (crossN_len ps)
  have HRL := Lib.hid (fun x => crossR_len ps x)
  have HKS := Lib.hid (fun i => (show crossN ps (i + 1) = crossN ps i ++ crossR ps ((i : Int) - 12) 25 from rfl))
  have HRS := Lib.hid (fun x j => (show crossR ps x (j + 1) = crossR ps x j ++ if crossOk ps (x, (j : Int) - 12) = true then [(x, (j : Int) - 12)] else [] from rfl))
  have HCO := Lib.hid (fun v => (show crossOk ps v = (decide (v ≠ (0, 0)) && hitB ps v) from rfl))
  have HFIN := Lib.hid (show crossL ps = crossN ps 25 from rfl)
  obtain ⟨i0, hi0, hz0, hz1, hz2⟩ := info_parts info31
  have HI := Lib.hid hi0
  have HZ0 := Lib.hid hz0
  have HZ1 := Lib.hid hz1
  have HZ2 := Lib.hid hz2
  generalize crossL ps = CL at *
  clear hu hb hi0 hz0 hz1 hz2
  go_enter Try.func46, Try.ntmps46
  go_wp2_with fail
  go_loopw [3, 4] (fun ov xv wr => ∃ i : Nat, xv = .int .i64 ((i : Int) - 12) ∧ i ≤ 25 ∧ wr.ownsRow w.heap.size 31 2 ov (crossN ps i).length (cellsOf (crossN ps i)) ∧ Ext w wr) (fun _ xv _ => 13 - intOf xv |>.toNat)
  case atStart => exact ⟨0, by simp, by omega, ⟨rfl, .inl ⟨rfl, rfl⟩⟩, Ext.refl _⟩
  case round =>
    rename World => wr
    obtain ⟨i, rfl, hi, hR, hE⟩ := hrel
    obtain ⟨a1, c1, rfl⟩ := row_slice hR
    have HR := Lib.hid hR
    have HE := Lib.hid hE
    clear hR hE
    by_cases hlt : i < 25
    · have hix : (i : Int) - 12 ≤ 12 := by omega
      have HI0 := Lib.hid (show wr.ownsRow w.heap.size 31 2 (.slice a1 (crossN ps i).length c1) (crossN ps i ++ crossR ps ((i : Int) - 12) 0).length (cellsOf (crossN ps i ++ crossR ps ((i : Int) - 12) 0)) from by
        show wr.ownsRow w.heap.size 31 2 _ (crossN ps i ++ []).length (cellsOf (crossN ps i ++ []))
        rw [List.append_nil]
        exact HR.out)
      go_wp2_with fail
      go_loopw [3, 5] (fun ov yv wq => ∃ j : Nat, yv = .int .i64 ((j : Int) - 12) ∧ j ≤ 25 ∧ wq.ownsRow w.heap.size 31 2 ov (crossN ps i ++ crossR ps ((i : Int) - 12) j).length (cellsOf (crossN ps i ++ crossR ps ((i : Int) - 12) j)) ∧ Ext w wq) (fun _ yv _ => 13 - intOf yv |>.toNat)
      case atStart => exact ⟨0, by simp, by omega, HI0.out, HE.out⟩
      case round =>
        rename World => wq
        obtain ⟨j, rfl, hj, hR, hE⟩ := hrel
        obtain ⟨a2, c2, rfl⟩ := row_slice hR
        have HQ := Lib.hid hR
        have HEq := Lib.hid hE
        clear hR hE
        by_cases hjt : j < 25
        · have hjy : (j : Int) - 12 ≤ 12 := by omega
          obtain ⟨x, hx⟩ : ∃ x, x = (i : Int) - 12 := ⟨_, rfl⟩
          obtain ⟨y, hy⟩ : ∃ y, y = (j : Int) - 12 := ⟨_, rfl⟩
          rw [← hx] at HQ ⊢
          rw [← hy]
          have hxb : -12 ≤ x ∧ x ≤ 12 := by omega
          have hyb : -12 ≤ y ∧ y ≤ 12 := by omega
          have HX := Lib.hid hx
          have HY := Lib.hid hy
          have HRX := Lib.hid (HRS.out x j)
          rw [← hy] at HRX
          have HCX := Lib.hid (HCO.out (x, y))
          have HLN := Lib.hid (show (crossN ps i ++ crossR ps x j).length ≤ 1000 from by
            have h1 := HKL.out i
            have h2 := HRL.out x j
            rw [List.length_append]
            omega)
          obtain ⟨L, hL⟩ : ∃ L, L = crossN ps i ++ crossR ps x j := ⟨_, rfl⟩
          rw [← hL] at HQ HLN ⊢
          have HLL := Lib.hid hL
          clear hx hy hL
          have HV := Lib.hid (show VRow (wq.alloc (.cells #[.int .i64 x, .int .i64 y] 31)) _ _ _ from vrow_alloc wq [.int .i64 x, .int .i64 y] 31)
          have HEa := Lib.hid (Ext.trans HEq.out (Ext.alloc (Ext.refl wq) (.cells #[.int .i64 x, .int .i64 y] 31)))
          have HQa := Lib.hid (ownsRow_ext HQ.out (Ext.alloc (Ext.refl wq) (.cells #[.int .i64 x, .int .i64 y] 31)))
          have hln := HLN.out
          have HIX := Lib.hid (show IntKind.i64.wrap (y + 1) = ((j + 1 : Nat) : Int) - 12 from by rw [HY.out, IntWalk.i64_in _ (by omega)]; omega)
          by_cases hz : x = 0 ∧ y = 0
          · have HNX := Lib.hid (show crossN ps i ++ crossR ps x (j + 1) = L from by
              rw [HRX.out, HCX.out, decide_eq_false (fun h => h (Prod.ext hz.1 hz.2)), Bool.false_and, if_neg (by decide), List.append_nil, ← HLL.out])
            have hnq := fun W => (show Sem.run Try.prog (binOp .neq 31 (.agg #[.int .i64 x, .int .i64 y]) (.agg #[.int .i64 0, .int .i64 0])) W = .ok (.bool false) W from by rw [hz.1, hz.2]; simp [go_sem])
            clear hz
            have m0 := VRow.cell HV.out (k := 0) rfl
            have m1 := VRow.cell HV.out (k := 1) rfl
            go_wp2_with fail
            exact ⟨⟨j + 1, by (try simp) <;> (have := HY.out; omega), by omega, by rw [HNX.out]; exact HQa.out, HEa.out⟩, by (try simp [intOf]) <;> omega⟩
          · have hne : (x, y) ≠ ((0, 0) : Pt) := fun e => hz ⟨congrArg Prod.fst e, congrArg Prod.snd e⟩
            have hnq := fun W => (show Sem.run Try.prog (binOp .neq 31 (.agg #[.int .i64 x, .int .i64 y]) (.agg #[.int .i64 0, .int .i64 0])) W = .ok (.bool true) W from by
              by_cases hx0 : x = 0
              · have hy0 : ¬ y = 0 := fun e => hz ⟨hx0, e⟩
                rw [hx0]; simp [go_sem, hy0]
              · simp [go_sem, hx0])
            have HNE := Lib.hid hne
            clear hz hne
            have m0 := VRow.cell HV.out (k := 0) rfl
            have m1 := VRow.cell HV.out (k := 1) rfl
            go_wp2_with fail
            refine (show Calls Try.prog 38 #[_, vecV x y] _ _ from (collide_c _ ps x y _ (HU.out.ext HEa.out) HBB.out (by omega) (by omega)).mono ?_)
            rintro e w5 ⟨rfl, hE⟩
            have HV5 := Lib.hid (VRow.ext HV.out hE)
            have HE5 := Lib.hid (Ext.trans HEa.out hE)
            have HQ5 := Lib.hid (ownsRow_ext HQa.out hE)
            clear m0 m1 hE hnq
            cases hh : hitB ps (x, y) with
            | false =>
              have HNX := Lib.hid (show crossN ps i ++ crossR ps x (j + 1) = L from by
                rw [HRX.out, HCX.out, hh, Bool.and_false, if_neg (by decide), List.append_nil, ← HLL.out])
              clear hh
              go_wp2_with fail
              exact ⟨⟨j + 1, by (try simp) <;> (have := HY.out; omega), by omega, by rw [HNX.out]; exact HQ5.out, HE5.out⟩, by (try simp [intOf]) <;> omega⟩
            | true =>
              have HNX := Lib.hid (show crossN ps i ++ crossR ps x (j + 1) = L ++ [(x, y)] from by
                rw [HRX.out, HCX.out, hh, Bool.and_true, if_pos (decide_eq_true HNE.out), ← List.append_assoc, ← HLL.out])
              clear hh
              have m0 := VRow.cell HV5.out (k := 0) rfl
              have m1 := VRow.cell HV5.out (k := 1) rfl
              have HO := Lib.hid (ownsRow_ext HQ5.out (Ext.alloc (Ext.refl w5) (.cells #[.int .i64 x, .int .i64 y] 31)))
              have HE6 := Lib.hid (Ext.trans HE5.out (Ext.alloc (Ext.refl w5) (.cells #[.int .i64 x, .int .i64 y] 31)))
              have hs6 := HE6.out.size
              go_wp2_with (at_builtin; (refine wpList_append_own _ rfl _ _ 22 rfl w.heap.size 31 i0 (.agg #[.int .i64 0, .int .i64 0]) 2 16 Try.underlying22 HI.out HZ0.out HZ1.out HZ2.out rfl (by decide) _ _ _ rfl HO.out ⟨w5.heap.size, 0, none⟩ 1 1 [.int .i64 x, .int .i64 y] rfl rfl (fun j u h => cell_two_new w5 _ _ 31 j u h) (by simp [Value.oneCell']) (by unfold maxLen; omega) (by omega) (by omega) ?_; intro v' w' hown' hgrow hnil; have HO9 := Lib.hid hown'; have HG9 := Lib.hid hgrow; clear hown' hgrow hnil))
              obtain ⟨a4, c4, e4⟩ := row_slice HO9.out
              subst e4
              have HCE := Lib.hid (show cellsOf L ++ [.int .i64 x, .int .i64 y] = cellsOf (L ++ [(x, y)]) from by rw [cellsOf_append]; rfl)
              have HE9 := Lib.hid (Below.trans HE6.out ((row_below HO.out HG9.out (by omega)).mono (by omega)))
              refine ⟨⟨j + 1, by (try simp) <;> (have := HY.out; omega), by omega, ?_, HE9.out⟩, by (try simp [intOf]) <;> omega⟩
              rw [HNX.out, List.length_append, ← HCE.out]
              exact HO9.out
        · obtain rfl : j = 25 := by omega
          go_wp2_with fail
          exact ⟨⟨i + 1, by simp; omega, by omega, by rw [HKS.out]; exact HQ.out, HEq.out⟩, by simp [intOf]; omega⟩
    · obtain rfl : i = 25 := by omega
      go_wp2_with fail
      go_ret
      exact ⟨_, rfl, by rw [HFIN.out]; exact HR.out, HE.out⟩
theorem crossing_c (u : Value) (ps : List Pt) (w : World) (hu : Vecs w u ps) (hb : blankB ps = true) :
    Calls Try.prog 46 #[u] w fun e w' => ∃ r, e = .returned r ∧ Vecs w' r (crossL ps) ∧ Ext w w' := by
  refine (crossing_o u ps w hu hb).mono ?_
  rintro e w' ⟨r, h1, h2, h3⟩
  have hk := crossN_len ps 25
  exact ⟨r, h1, vecs_own h2 (by unfold crossL; omega), h3⟩
set_option maxHeartbeats 2000000 in
theorem rBlank_c (v : Value) (ps : List Pt) (w : World) (hv : Vecs w v ps) :
    Calls Try.prog 55 #[v] w fun e w' => e = .returned (.bool (blankB ps)) ∧ Ext w w' := by
  have HV := Lib.hid hv
  have HBAD := Lib.hid (fun (k : Nat) (hk : k < ps.length) (h : inBlank (fromP ps k) = false) => (show blankB ps = false from by
    unfold blankB
    rw [Bool.and_eq_false_iff]
    refine .inr (List.all_eq_false.2 ⟨_, from_mem hk, by rw [h]; decide⟩)))
  have HGOOD := Lib.hid (fun (h : ∀ k, k < ps.length → inBlank (fromP ps k) = true) => (show blankB ps = validB ps from by
    unfold blankB
    rw [List.all_eq_true.2 (fun z hz => by obtain ⟨j, hj, rfl⟩ := mem_from hz; exact h j hj), Bool.and_true]))
  generalize blankB ps = bb at *
  by_cases h0 : ps = []
  · subst h0
    obtain ⟨a, cap, rfl, hl, hm, _⟩ := hv.at
    have HF := Lib.hid (HGOOD.out (fun k hk => by simp at hk))
    clear hv
    go_enter Try.func55, Try.ntmps55
    go_wp2_with fail
    go_loopw [3] (fun iv wr => iv = .int .i64 0 ∧ Ext w wr) (fun _ _ => 0)
    case atStart => exact ⟨rfl, Ext.refl _⟩
    case round =>
      rename World => wr
      obtain ⟨rfl, hE⟩ := hrel
      have HE := Lib.hid hE
      clear hE
      go_wp2_with fail
      refine (rvalid_c _ [] wr (HV.out.ext HE.out)).mono ?_
      rintro e w2 ⟨rfl, hE⟩
      have HE2 := Lib.hid (Ext.trans HE.out hE)
      clear hE
      generalize validB [] = vb at *
      go_wp2_with fail
      go_ret
      exact ⟨ret_bool HF.out.symm, HE2.out⟩
  · have h1 : 1 ≤ ps.length := by
      cases ps with
      | nil => exact absurd rfl h0
      | cons _ _ => simp
    obtain ⟨b, o, cap, rfl, hl, hm, hc⟩ := vecs_cells hv h1
    have HC := Lib.hid hc
    have HIN := Lib.hid (fun (k : Nat) => (show inBlank (fromP ps k) = (decide (0 ≤ (fromP ps k).1) && decide ((fromP ps k).1 ≤ 12) && decide (0 ≤ (fromP ps k).2) && decide ((fromP ps k).2 ≤ 12)) from rfl))
    obtain ⟨n, hnn⟩ : ∃ n, n = ps.length := ⟨_, rfl⟩
    rw [← hnn] at HC HBAD HGOOD HV hl ⊢
    clear hv hc hnn h1 h0
    go_enter Try.func55, Try.ntmps55
    go_wp2_with fail
    go_loopw [3] (fun iv wr => ∃ k : Nat, iv = .int .i64 (k : Int) ∧ k ≤ n ∧ (∀ j, j < k → inBlank (fromP ps j) = true) ∧ Ext w wr) (fun iv _ => n - (intOf iv).toNat)
    case atStart => exact ⟨0, rfl, Nat.zero_le _, fun j hj => by omega, Ext.refl _⟩
    case round =>
      rename World => wr
      obtain ⟨k, rfl, hk, hall, hE⟩ := hrel
      have HALL := Lib.hid hall
      have HE := Lib.hid hE
      clear hall hE
      by_cases hlt : k < n
      · obtain ⟨c1, c2⟩ := HC.out k hlt
        have c1 := Ext.cell HE.out c1
        have c2 := Ext.cell HE.out c2
        have HIK := Lib.hid (HIN.out k)
        have hkz : (k : Int) < (n : Int) := by omega
        obtain ⟨px, hpx⟩ : ∃ z, z = (fromP ps k).1 := ⟨_, rfl⟩
        obtain ⟨py, hpy⟩ : ∃ z, z = (fromP ps k).2 := ⟨_, rfl⟩
        rw [← hpx] at c1
        rw [← hpy] at c2
        rw [← hpx, ← hpy] at HIK
        clear hpx hpy
        by_cases hin : 0 ≤ px ∧ px ≤ 12 ∧ 0 ≤ py ∧ py ≤ 12
        · have HT := Lib.hid (show ∀ j, j < k + 1 → inBlank (fromP ps j) = true from fun j hj => by
            by_cases e : j = k
            · rw [e, HIK.out, decide_eq_true hin.1, decide_eq_true hin.2.1, decide_eq_true hin.2.2.1, decide_eq_true hin.2.2.2]; rfl
            · exact HALL.out j (by omega))
          have k1 : ¬ px < 0 := by omega
          have k2 : ¬ 12 < px := by omega
          have k3 : ¬ py < 0 := by omega
          have k4 : ¬ 12 < py := by omega
          clear hin
          go_wp2_with fail
          exact ⟨⟨k + 1, by simp, by omega, HT.out, HE.out⟩, by simp [intOf]; omega⟩
        · have HF := Lib.hid (HBAD.out k hlt (by
            rw [HIK.out, Bool.eq_false_iff]
            intro h
            simp only [Bool.and_eq_true, decide_eq_true_eq] at h
            exact hin ⟨h.1.1.1, h.1.1.2, h.1.2, h.2⟩))
          by_cases k1 : px < 0
          · go_wp2_with fail
            go_ret
            exact ⟨ret_bool HF.out.symm, HE.out⟩
          · by_cases k2 : 12 < px
            · go_wp2_with fail
              go_ret
              exact ⟨ret_bool HF.out.symm, HE.out⟩
            · by_cases k3 : py < 0
              · go_wp2_with fail
                go_ret
                exact ⟨ret_bool HF.out.symm, HE.out⟩
              · have k4 : 12 < py := by omega
                go_wp2_with fail
                go_ret
                exact ⟨ret_bool HF.out.symm, HE.out⟩
      · obtain rfl : k = n := by omega
        have HF := Lib.hid (HGOOD.out HALL.out)
        go_wp2_with fail
        refine (rvalid_c _ ps wr (HV.out.ext HE.out)).mono ?_
        rintro e w2 ⟨rfl, hE⟩
        have HE2 := Lib.hid (Ext.trans HE.out hE)
        clear hE
        generalize validB ps = vb at *
        go_wp2_with fail
        go_ret
        exact ⟨ret_bool HF.out.symm, HE2.out⟩
end Go.Proofs.Ytnpebfchojalcaa
