import Derived.Test.YtbdppephmlkbaaaR2
import Derived.Test.YtbdppephmlkbaaaR4
import Derived.Test.YtbdppephmlkbaaaV26
import Derived.Laws.StructEq
namespace Go.Proofs.Ytbdppephmlkbaaa
set_option maxRecDepth 100000
open Go.RowKit Go.Shelf
attribute [local go_sem] Oper.semAt_some
/-! The reference's Extreme. -/
theorem vec_eql (x y : Int) (h : ¬ (x = 0 ∧ y = 0)) (w : World) : Sem.run Try.prog (binOp .eql 32 (.agg #[.int .i64 x, .int .i64 y]) (.agg #[.int .i64 0, .int .i64 0])) w = .ok (.bool false) w := by
  by_cases hx : x = 0
  · subst hx
    have hy : (y == 0) = false := beq_eq_false_iff_ne.2 (fun e => h ⟨rfl, e⟩)
    simp [go_sem, hy]
  · have hx : (x == 0) = false := beq_eq_false_iff_ne.2 hx
    simp [go_sem, hx]
set_option maxRecDepth 100000 in
set_option maxHeartbeats 8000000 in
theorem rExtreme_c (v : Value) (ps : List Pt) (x y : Int) (w : World) (hv : Vecs w v ps) :
    Calls Try.prog 21 #[v, vecV x y] w fun e w' => ∃ m i er : Int, e = .returned (.tuple #[.int .i64 m, .int .i64 i, .int .i64 er]) ∧ ExtS ps x y m i er ∧ Ext w w' := by
  obtain ⟨a, cap, rfl, hl, hm, hra⟩ := hv.at
  have hE0 := Ext.alloc (Ext.refl w) (.cells #[.int .i64 x, .int .i64 y] 32)
  have HV := Lib.hid (hv.ext hE0)
  have HE0 := Lib.hid hE0
  have HB := Lib.hid (show VRow (w.alloc (.cells #[.int .i64 x, .int .i64 y] 32)) _ _ _ from vrow_alloc w [.int .i64 x, .int .i64 y] 32)
  clear hv hE0 hra
  cases hf : validB ps with
  | false =>
    have HO := Lib.hid (show ¬ extOk ps x y from fun h => by rw [extOk, hf] at h; exact absurd h.1 (by decide))
    have Hf := Lib.hid hf
    clear hf
    go_enter Try.func21, Try.ntmps21
    go_wp2_with fail
    refine (rvalid_c _ ps _ HV.out).mono ?_
    rintro e w2 ⟨rfl, hE⟩
    rw [Hf.out]
    go_wp2_with fail
    (try simp only [Exit.inBlock, Exit.then])
    refine bodyPost_ret (results_tmp3 rfl _ _ _) rfl ?_
    exact ⟨_, _, _, rfl, .inr ⟨HO.out, rfl, rfl, rfl⟩, Ext.trans HE0.out hE⟩
  | true =>
    cases hg : farB x y with
    | true =>
      have HO := Lib.hid (show ¬ extOk ps x y from fun h => by rw [extOk, hg] at h; exact absurd h.2.1 (by decide))
      have Hf := Lib.hid hf
      have Hg := Lib.hid hg
      clear hf hg
      go_enter Try.func21, Try.ntmps21
      go_wp2_with fail
      refine (rvalid_c _ ps _ HV.out).mono ?_
      rintro e w2 ⟨rfl, hE⟩
      rw [Hf.out]
      have hb := VRow.ext HB.out hE
      have b0 := VRow.cell hb (k := 0) rfl
      have b1 := VRow.cell hb (k := 1) rfl
      go_wp2_with fail
      refine (show Calls Try.prog 42 #[vecV x y] _ _ from (good_c x y _).mono ?_)
      rintro e w3 ⟨rfl, hE3⟩
      rw [Hg.out]
      clear b0 b1
      go_wp2_with fail
      (try simp only [Exit.inBlock, Exit.then])
      refine bodyPost_ret (results_tmp3 rfl _ _ _) rfl ?_
      exact ⟨_, _, _, rfl, .inr ⟨HO.out, rfl, rfl, rfl⟩, Ext.trans HE0.out (Ext.trans hE hE3)⟩
    | false =>
      have Hf := Lib.hid hf
      have Hg := Lib.hid hg
      have hxy := far_in hg
      have hn : ps.length ≤ 32 := (valid_near hf).2.2
      by_cases hz0 : x = 0 ∧ y = 0
      · obtain ⟨rfl, rfl⟩ := hz0
        have HO := Lib.hid (show ¬ extOk ps 0 0 from fun h => h.2.2 ⟨rfl, rfl⟩)
        clear hf hg
        have HX := Lib.hid (show (-10000 ≤ 0 ∧ 0 ≤ 10000) ∧ (-10000 ≤ 0 ∧ 0 ≤ 10000) by omega)
        clear hxy
        go_enter Try.func21, Try.ntmps21
        go_wp2_with fail
        refine (rvalid_c _ ps _ HV.out).mono ?_
        rintro e w2 ⟨rfl, hE⟩
        rw [Hf.out]
        have hb := VRow.ext HB.out hE
        have b0 := VRow.cell hb (k := 0) rfl
        have b1 := VRow.cell hb (k := 1) rfl
        go_wp2_with fail
        refine (show Calls Try.prog 42 #[vecV 0 0] _ _ from (good_c 0 0 _).mono ?_)
        rintro e w3 ⟨rfl, hE3⟩
        rw [Hg.out]
        have HE3 := Lib.hid (Ext.trans hE hE3)
        clear b0 b1 hb hE hE3
        have hb := VRow.ext HB.out HE3.out
        have b0 := VRow.cell hb (k := 0) rfl
        have b1 := VRow.cell hb (k := 1) rfl
        go_wp2
        (try simp only [Exit.inBlock, Exit.then])
        refine bodyPost_ret (results_tmp3 rfl _ _ _) rfl ?_
        exact ⟨_, _, _, rfl, .inr ⟨HO.out, rfl, rfl, rfl⟩, Ext.trans HE0.out HE3.out⟩
      · have HO := Lib.hid (show extOk ps x y from ⟨hf, hg, hz0⟩)
        have heql := fun W => vec_eql x y hz0 W
        clear hf hg hz0
        have HX := Lib.hid (show (-1000 ≤ x ∧ x ≤ 1000) ∧ (-1000 ≤ y ∧ y ≤ 1000) by omega)
        clear hxy
        go_enter Try.func21, Try.ntmps21
        go_wp2_with fail
        refine (rvalid_c _ ps _ HV.out).mono ?_
        rintro e w2 ⟨rfl, hE⟩
        rw [Hf.out]
        have hb := VRow.ext HB.out hE
        have b0 := VRow.cell hb (k := 0) rfl
        have b1 := VRow.cell hb (k := 1) rfl
        go_wp2_with fail
        refine (show Calls Try.prog 42 #[vecV x y] _ _ from (good_c x y _).mono ?_)
        rintro e w3 ⟨rfl, hE3⟩
        rw [Hg.out]
        have HE3 := Lib.hid (Ext.trans hE hE3)
        clear b0 b1 hb hE hE3
        have hb := VRow.ext HB.out HE3.out
        have b0 := VRow.cell hb (k := 0) rfl
        have b1 := VRow.cell hb (k := 1) rfl
        obtain ⟨b, o, cap2, hsl, _, _, hc⟩ := vecs_cells (HV.out.ext HE3.out) (by have := (valid_near Hf.out).2.1; omega)
        simp only [Value.slice.injEq, true_and] at hsl
        obtain ⟨rfl, rfl⟩ := hsl
        have HC := Lib.hid hc
        have HNR := Lib.hid (fun (k : Nat) (hk : k < ps.length) => from_near (valid_near Hf.out).1 hk)
        have HV3 := Lib.hid hb
        have hdb := HX.out
        have hn1 : 1 ≤ ps.length := by have := (valid_near Hf.out).2.1; omega
        have hEX := Lib.hid (fun M J (h1 : M = (extK ps (x, y) ps.length).1) (h2 : J = (extK ps (x, y) ps.length).2) => (show ExtS ps x y M (J : Nat) 0 from .inl ⟨HO.out, rfl, h1, by rw [h2]⟩))
        clear hc hb
        obtain ⟨n, hnn⟩ : ∃ n, n = ps.length := ⟨_, rfl⟩
        have hn32 : n ≤ 32 := by omega
        rw [← hnn] at HC HNR hEX hn1 hl ⊢
        clear hnn hn
        go_wp2_with fail
        clear b0 b1 heql
        go_loopw [9, 7, 8] (fun iv bv av wr => ∃ k : Nat, iv = .int .i64 (k : Int) ∧ k ≤ n ∧ ((k = 0 ∧ bv = .int .i64 0 ∧ av = .int .i64 (-1)) ∨ (1 ≤ k ∧ bv = .int .i64 (extK ps (x, y) k).1 ∧ av = .int .i64 ((extK ps (x, y) k).2 : Nat))) ∧ Ext w3 wr) (fun iv _ _ _ => n - (intOf iv).toNat)
        case atStart => exact ⟨0, rfl, Nat.zero_le _, .inl ⟨rfl, rfl, rfl⟩, Ext.refl _⟩
        case round =>
          rename World => wr
          obtain ⟨k, rfl, hk, hba, hE⟩ := hrel
          have HE := Lib.hid hE
          have HV := Lib.hid (VRow.ext HV3.out hE)
          clear hE
          by_cases hkl : k < n
          · obtain ⟨c1, c2⟩ := HC.out k hkl
            have hpb := HNR.out k hkl
            have HONE := Lib.hid (ext_one ps (x, y))
            have HNX := Lib.hid (ext_next ps (x, y) k)
            have m1 := mul_20 (a := x) (b := (fromP ps k).1) (by omega) (by omega)
            have m2 := mul_20 (a := y) (b := (fromP ps k).2) (by omega) (by omega)
            have HD := Lib.hid (show dotP (x, y) (fromP ps k) = x * (fromP ps k).1 + y * (fromP ps k).2 from rfl)
            obtain ⟨X, hX⟩ : ∃ X, X = x * (fromP ps k).1 := ⟨_, rfl⟩
            obtain ⟨Y, hY⟩ : ∃ Y, Y = y * (fromP ps k).2 := ⟨_, rfl⟩
            obtain ⟨D, hD⟩ : ∃ D, D = X + Y := ⟨_, rfl⟩
            rw [← hX] at m1 HD
            rw [← hY] at m2 HD
            rw [← hD] at HD
            rw [HD.out] at HNX
            have HD0 := Lib.hid (show k = 0 → dotP (x, y) (fromP ps 0) = D from fun e => by rw [← e]; exact HD.out)
            have hws : IntKind.i64.wrap (X + Y) = D := by rw [← hD]; exact IntWalk.i64_in _ (by omega)
            have hwx : IntKind.i64.wrap (x * (fromP ps k).1) = X := by rw [← hX]; exact IntWalk.i64_in _ (by omega)
            have hwy : IntKind.i64.wrap (y * (fromP ps k).2) = Y := by rw [← hY]; exact IntWalk.i64_in _ (by omega)
            clear hX hY hD m1 m2 hpb HD
            generalize (fromP ps k).1 = px at *
            generalize (fromP ps k).2 = py at *
            have C1 := Lib.hid (Ext.cell HE.out c1)
            have C2 := Lib.hid (Ext.cell HE.out c2)
            clear c1 c2
            have hkz : (k : Int) < (n : Int) := by omega
            rcases hba with ⟨hk0, rfl, rfl⟩ | ⟨hk1, rfl, rfl⟩
            · have HK0 := Lib.hid hk0
              clear hk0
              go_wp2_with fail
              refine wp_region_stable_last [⟨[], none⟩, ⟨[(0, 30)], none⟩, ⟨[], none⟩, ⟨[], none⟩, ⟨[(2, 32), (3, 33)], none⟩, ⟨[(4, 34)], none⟩, ⟨[(5, 35)], none⟩, ⟨[(1, 31), (6, 36)], none⟩, ⟨[], none⟩, ⟨[(8, 38)], none⟩, ⟨[], none⟩, ⟨[], none⟩, ⟨[(10, 40), (11, 41)], none⟩, ⟨[(12, 42)], none⟩, ⟨[(13, 43)], none⟩, ⟨[(9, 39), (14, 44)], none⟩, ⟨[(7, 37), (15, 45)], none⟩] (fun x y => Below x.heap.size x y) (MPat [MP.eq (.pointer (some ⟨w.heap.size, 0, none⟩)), MP.eq (.int .i64 x), MP.eq (.slice (some ⟨b, o, none⟩) n cap), MP.eq (.int .i64 (k : Int)), MP.eq (.pointer (some ⟨b, o + k * 2, none⟩)), MP.eq (.pointer (some ⟨b, o + k * 2, none⟩)), MP.eq (.int .i64 px), MP.eq (.int .i64 X), MP.eq (.pointer (some ⟨w.heap.size, 1, none⟩)), MP.eq (.int .i64 y), MP.eq (.slice (some ⟨b, o, none⟩) n cap), MP.eq (.int .i64 (k : Int)), MP.eq (.pointer (some ⟨b, o + k * 2, none⟩)), MP.eq (.pointer (some ⟨b, o + k * 2 + 1, none⟩)), MP.eq (.int .i64 py), MP.eq (.int .i64 Y), MP.eq (.int .i64 D)]) rfl (by kernel_rfl) (fun _ _ _ h k => Ext.trans h k) (fun _ => Below.refl _ _) (fun x => (Below.refl x.heap.size x).drew) (MPat.mono _) (by kernel_rfl) (by kernel_rfl) (by kernel_rfl) ?obs ?rest
              case obs =>
                refine ⟨?_, ?_, ?_, ?_, ?_, ?_, ?_, ?_, ?_, ?_, ?_, ?_, ?_, ?_, ?_, ?_, ?_, trivial⟩
                · intro ev W hf _ _ hst hd
                  have e3 : ev (.tmp 3) = .pointer (some ⟨w.heap.size, 0, none⟩) := hf 3 (by kernel_rfl)
                  refine st_value (v := .pointer (some ⟨w.heap.size, 0, none⟩)) ?_ (Below.refl _ _) ?_
                  · simp [execOp, go_sem, e3]
                  · exact rfl
                · intro ev W hf _ _ hst hd
                  obtain ⟨d30, _⟩ := hd
                  have e30 : ev (.tmp 30) = .pointer (some ⟨w.heap.size, 0, none⟩) := d30
                  have q0 := VRow.cell (VRow.ext HV.out hst) (k := 0) rfl
                  refine st_value (v := .int .i64 x) ?_ (Below.refl _ _) ?_
                  · simp [execOp, go_sem, e30, q0]
                  · exact rfl
                · intro ev W hf _ _ hst hd
                  have e0 : ev (.tmp 0) = .slice (some ⟨b, o, none⟩) n cap := hf 0 (by kernel_rfl)
                  refine st_value (v := .slice (some ⟨b, o, none⟩) n cap) ?_ (Below.refl _ _) ?_
                  · simp [execOp, go_sem, e0]
                  · exact rfl
                · intro ev W hf _ _ hst hd
                  have e9 : ev (.tmp 9) = .int .i64 (k : Int) := hf 9 (by kernel_rfl)
                  refine st_value (v := .int .i64 (k : Int)) ?_ (Below.refl _ _) ?_
                  · simp [execOp, go_sem, e9]
                  · exact rfl
                · intro ev W hf _ _ hst hd
                  obtain ⟨d32, d33, _⟩ := hd
                  have e32 : ev (.tmp 32) = .slice (some ⟨b, o, none⟩) n cap := d32
                  have e33 : ev (.tmp 33) = .int .i64 (k : Int) := d33
                  refine st_value (v := .pointer (some ⟨b, o + k * 2, none⟩)) ?_ (Below.refl _ _) ?_
                  · simp [execOp, go_sem, e32, e33, hkl]
                  · exact rfl
                · intro ev W hf _ _ hst hd
                  obtain ⟨d34, _⟩ := hd
                  have e34 : ev (.tmp 34) = .pointer (some ⟨b, o + k * 2, none⟩) := d34
                  refine st_value (v := .pointer (some ⟨b, o + k * 2, none⟩)) ?_ (Below.refl _ _) ?_
                  · simp [execOp, go_sem, e34]
                  · exact rfl
                · intro ev W hf _ _ hst hd
                  obtain ⟨d35, _⟩ := hd
                  have e35 : ev (.tmp 35) = .pointer (some ⟨b, o + k * 2, none⟩) := d35
                  have q0 := Ext.cell hst C1.out
                  refine st_value (v := .int .i64 px) ?_ (Below.refl _ _) ?_
                  · simp [execOp, go_sem, e35, q0]
                  · exact rfl
                · intro ev W hf _ _ hst hd
                  obtain ⟨d31, d36, _⟩ := hd
                  have e31 : ev (.tmp 31) = .int .i64 x := d31
                  have e36 : ev (.tmp 36) = .int .i64 px := d36
                  refine st_value (v := .int .i64 X) ?_ (Below.refl _ _) ?_
                  · simp [execOp, go_sem, e31, e36, hwx]
                  · exact rfl
                · intro ev W hf _ _ hst hd
                  have e3 : ev (.tmp 3) = .pointer (some ⟨w.heap.size, 0, none⟩) := hf 3 (by kernel_rfl)
                  refine st_value (v := .pointer (some ⟨w.heap.size, 1, none⟩)) ?_ (Below.refl _ _) ?_
                  · simp [execOp, go_sem, e3]
                  · exact rfl
                · intro ev W hf _ _ hst hd
                  obtain ⟨d38, _⟩ := hd
                  have e38 : ev (.tmp 38) = .pointer (some ⟨w.heap.size, 1, none⟩) := d38
                  have q0 := VRow.cell (VRow.ext HV.out hst) (k := 1) rfl
                  refine st_value (v := .int .i64 y) ?_ (Below.refl _ _) ?_
                  · simp [execOp, go_sem, e38, q0]
                  · exact rfl
                · intro ev W hf _ _ hst hd
                  have e0 : ev (.tmp 0) = .slice (some ⟨b, o, none⟩) n cap := hf 0 (by kernel_rfl)
                  refine st_value (v := .slice (some ⟨b, o, none⟩) n cap) ?_ (Below.refl _ _) ?_
                  · simp [execOp, go_sem, e0]
                  · exact rfl
                · intro ev W hf _ _ hst hd
                  have e9 : ev (.tmp 9) = .int .i64 (k : Int) := hf 9 (by kernel_rfl)
                  refine st_value (v := .int .i64 (k : Int)) ?_ (Below.refl _ _) ?_
                  · simp [execOp, go_sem, e9]
                  · exact rfl
                · intro ev W hf _ _ hst hd
                  obtain ⟨d40, d41, _⟩ := hd
                  have e40 : ev (.tmp 40) = .slice (some ⟨b, o, none⟩) n cap := d40
                  have e41 : ev (.tmp 41) = .int .i64 (k : Int) := d41
                  refine st_value (v := .pointer (some ⟨b, o + k * 2, none⟩)) ?_ (Below.refl _ _) ?_
                  · simp [execOp, go_sem, e40, e41, hkl]
                  · exact rfl
                · intro ev W hf _ _ hst hd
                  obtain ⟨d42, _⟩ := hd
                  have e42 : ev (.tmp 42) = .pointer (some ⟨b, o + k * 2, none⟩) := d42
                  refine st_value (v := .pointer (some ⟨b, o + k * 2 + 1, none⟩)) ?_ (Below.refl _ _) ?_
                  · simp [execOp, go_sem, e42]
                  · exact rfl
                · intro ev W hf _ _ hst hd
                  obtain ⟨d43, _⟩ := hd
                  have e43 : ev (.tmp 43) = .pointer (some ⟨b, o + k * 2 + 1, none⟩) := d43
                  have q0 := Ext.cell hst C2.out
                  refine st_value (v := .int .i64 py) ?_ (Below.refl _ _) ?_
                  · simp [execOp, go_sem, e43, q0]
                  · exact rfl
                · intro ev W hf _ _ hst hd
                  obtain ⟨d39, d44, _⟩ := hd
                  have e39 : ev (.tmp 39) = .int .i64 y := d39
                  have e44 : ev (.tmp 44) = .int .i64 py := d44
                  refine st_value (v := .int .i64 Y) ?_ (Below.refl _ _) ?_
                  · simp [execOp, go_sem, e39, e44, hwy]
                  · exact rfl
                · intro ev W hf _ _ hst hd
                  obtain ⟨d37, d45, _⟩ := hd
                  have e37 : ev (.tmp 37) = .int .i64 X := d37
                  have e45 : ev (.tmp 45) = .int .i64 Y := d45
                  refine st_value (v := .int .i64 D) ?_ (Below.refl _ _) ?_
                  · simp [execOp, go_sem, e37, e45, hws]
                  · exact rfl
              case rest =>
                intro vs w3 hl hst hg
                have HE3' := Lib.hid hst
                have hvs : vs = [.pointer (some ⟨w.heap.size, 0, none⟩), .int .i64 x, .slice (some ⟨b, o, none⟩) n cap, .int .i64 (k : Int), .pointer (some ⟨b, o + k * 2, none⟩), .pointer (some ⟨b, o + k * 2, none⟩), .int .i64 px, .int .i64 X, .pointer (some ⟨w.heap.size, 1, none⟩), .int .i64 y, .slice (some ⟨b, o, none⟩) n cap, .int .i64 (k : Int), .pointer (some ⟨b, o + k * 2, none⟩), .pointer (some ⟨b, o + k * 2 + 1, none⟩), .int .i64 py, .int .i64 Y, .int .i64 D] := list_of hl (fun i u hu => by
                  match i, hu with
                  | 0, hu => exact (congrArg some (hg 0 u hu)).symm
                  | 1, hu => exact (congrArg some (hg 1 u hu)).symm
                  | 2, hu => exact (congrArg some (hg 2 u hu)).symm
                  | 3, hu => exact (congrArg some (hg 3 u hu)).symm
                  | 4, hu => exact (congrArg some (hg 4 u hu)).symm
                  | 5, hu => exact (congrArg some (hg 5 u hu)).symm
                  | 6, hu => exact (congrArg some (hg 6 u hu)).symm
                  | 7, hu => exact (congrArg some (hg 7 u hu)).symm
                  | 8, hu => exact (congrArg some (hg 8 u hu)).symm
                  | 9, hu => exact (congrArg some (hg 9 u hu)).symm
                  | 10, hu => exact (congrArg some (hg 10 u hu)).symm
                  | 11, hu => exact (congrArg some (hg 11 u hu)).symm
                  | 12, hu => exact (congrArg some (hg 12 u hu)).symm
                  | 13, hu => exact (congrArg some (hg 13 u hu)).symm
                  | 14, hu => exact (congrArg some (hg 14 u hu)).symm
                  | 15, hu => exact (congrArg some (hg 15 u hu)).symm
                  | 16, hu => exact (congrArg some (hg 16 u hu)).symm
                  | n + 17, hu => exact absurd (lt_len hu) (by rw [hl]; simp))
                clear hg hst hl
                subst hvs
                simp only [putAll, Act.put, List.dropLast, List.setIfInBounds_toArray, List.set_cons_zero, List.set_cons_succ]
                go_wp2_with fail
                exact ⟨⟨k + 1, by simp, by omega, .inr ⟨by omega, by rw [HK0.out, HONE.out, HD0.out HK0.out], by rw [HK0.out, HONE.out]⟩, Ext.trans HE.out HE3'.out⟩, by simp [intOf]; omega⟩
            · obtain ⟨M, hM⟩ : ∃ M, M = (extK ps (x, y) k).1 := ⟨_, rfl⟩
              obtain ⟨J, hJ⟩ : ∃ J, J = (extK ps (x, y) k).2 := ⟨_, rfl⟩
              rw [← hM, ← hJ]
              rw [← hM] at HNX
              have HM := Lib.hid hM
              have HJ := Lib.hid hJ
              clear hM hJ
              have hJ0 : ¬ (J : Int) < 0 := by omega
              by_cases hMD : M < D
              · have HN1 := Lib.hid (show extK ps (x, y) (k + 1) = (D, k) from by rw [HNX.out, if_pos hMD])
                go_wp2_with fail
                refine wp_region_stable_last [⟨[], none⟩, ⟨[(0, 30)], none⟩, ⟨[], none⟩, ⟨[], none⟩, ⟨[(2, 32), (3, 33)], none⟩, ⟨[(4, 34)], none⟩, ⟨[(5, 35)], none⟩, ⟨[(1, 31), (6, 36)], none⟩, ⟨[], none⟩, ⟨[(8, 38)], none⟩, ⟨[], none⟩, ⟨[], none⟩, ⟨[(10, 40), (11, 41)], none⟩, ⟨[(12, 42)], none⟩, ⟨[(13, 43)], none⟩, ⟨[(9, 39), (14, 44)], none⟩, ⟨[(7, 37), (15, 45)], none⟩] (fun x y => Below x.heap.size x y) (MPat [MP.eq (.pointer (some ⟨w.heap.size, 0, none⟩)), MP.eq (.int .i64 x), MP.eq (.slice (some ⟨b, o, none⟩) n cap), MP.eq (.int .i64 (k : Int)), MP.eq (.pointer (some ⟨b, o + k * 2, none⟩)), MP.eq (.pointer (some ⟨b, o + k * 2, none⟩)), MP.eq (.int .i64 px), MP.eq (.int .i64 X), MP.eq (.pointer (some ⟨w.heap.size, 1, none⟩)), MP.eq (.int .i64 y), MP.eq (.slice (some ⟨b, o, none⟩) n cap), MP.eq (.int .i64 (k : Int)), MP.eq (.pointer (some ⟨b, o + k * 2, none⟩)), MP.eq (.pointer (some ⟨b, o + k * 2 + 1, none⟩)), MP.eq (.int .i64 py), MP.eq (.int .i64 Y), MP.eq (.int .i64 D)]) rfl (by kernel_rfl) (fun _ _ _ h k => Ext.trans h k) (fun _ => Below.refl _ _) (fun x => (Below.refl x.heap.size x).drew) (MPat.mono _) (by kernel_rfl) (by kernel_rfl) (by kernel_rfl) ?obs ?rest
                case obs =>
                  refine ⟨?_, ?_, ?_, ?_, ?_, ?_, ?_, ?_, ?_, ?_, ?_, ?_, ?_, ?_, ?_, ?_, ?_, trivial⟩
                  · intro ev W hf _ _ hst hd
                    have e3 : ev (.tmp 3) = .pointer (some ⟨w.heap.size, 0, none⟩) := hf 3 (by kernel_rfl)
                    refine st_value (v := .pointer (some ⟨w.heap.size, 0, none⟩)) ?_ (Below.refl _ _) ?_
                    · simp [execOp, go_sem, e3]
                    · exact rfl
                  · intro ev W hf _ _ hst hd
                    obtain ⟨d30, _⟩ := hd
                    have e30 : ev (.tmp 30) = .pointer (some ⟨w.heap.size, 0, none⟩) := d30
                    have q0 := VRow.cell (VRow.ext HV.out hst) (k := 0) rfl
                    refine st_value (v := .int .i64 x) ?_ (Below.refl _ _) ?_
                    · simp [execOp, go_sem, e30, q0]
                    · exact rfl
                  · intro ev W hf _ _ hst hd
                    have e0 : ev (.tmp 0) = .slice (some ⟨b, o, none⟩) n cap := hf 0 (by kernel_rfl)
                    refine st_value (v := .slice (some ⟨b, o, none⟩) n cap) ?_ (Below.refl _ _) ?_
                    · simp [execOp, go_sem, e0]
                    · exact rfl
                  · intro ev W hf _ _ hst hd
                    have e9 : ev (.tmp 9) = .int .i64 (k : Int) := hf 9 (by kernel_rfl)
                    refine st_value (v := .int .i64 (k : Int)) ?_ (Below.refl _ _) ?_
                    · simp [execOp, go_sem, e9]
                    · exact rfl
                  · intro ev W hf _ _ hst hd
                    obtain ⟨d32, d33, _⟩ := hd
                    have e32 : ev (.tmp 32) = .slice (some ⟨b, o, none⟩) n cap := d32
                    have e33 : ev (.tmp 33) = .int .i64 (k : Int) := d33
                    refine st_value (v := .pointer (some ⟨b, o + k * 2, none⟩)) ?_ (Below.refl _ _) ?_
                    · simp [execOp, go_sem, e32, e33, hkl]
                    · exact rfl
                  · intro ev W hf _ _ hst hd
                    obtain ⟨d34, _⟩ := hd
                    have e34 : ev (.tmp 34) = .pointer (some ⟨b, o + k * 2, none⟩) := d34
                    refine st_value (v := .pointer (some ⟨b, o + k * 2, none⟩)) ?_ (Below.refl _ _) ?_
                    · simp [execOp, go_sem, e34]
                    · exact rfl
                  · intro ev W hf _ _ hst hd
                    obtain ⟨d35, _⟩ := hd
                    have e35 : ev (.tmp 35) = .pointer (some ⟨b, o + k * 2, none⟩) := d35
                    have q0 := Ext.cell hst C1.out
                    refine st_value (v := .int .i64 px) ?_ (Below.refl _ _) ?_
                    · simp [execOp, go_sem, e35, q0]
                    · exact rfl
                  · intro ev W hf _ _ hst hd
                    obtain ⟨d31, d36, _⟩ := hd
                    have e31 : ev (.tmp 31) = .int .i64 x := d31
                    have e36 : ev (.tmp 36) = .int .i64 px := d36
                    refine st_value (v := .int .i64 X) ?_ (Below.refl _ _) ?_
                    · simp [execOp, go_sem, e31, e36, hwx]
                    · exact rfl
                  · intro ev W hf _ _ hst hd
                    have e3 : ev (.tmp 3) = .pointer (some ⟨w.heap.size, 0, none⟩) := hf 3 (by kernel_rfl)
                    refine st_value (v := .pointer (some ⟨w.heap.size, 1, none⟩)) ?_ (Below.refl _ _) ?_
                    · simp [execOp, go_sem, e3]
                    · exact rfl
                  · intro ev W hf _ _ hst hd
                    obtain ⟨d38, _⟩ := hd
                    have e38 : ev (.tmp 38) = .pointer (some ⟨w.heap.size, 1, none⟩) := d38
                    have q0 := VRow.cell (VRow.ext HV.out hst) (k := 1) rfl
                    refine st_value (v := .int .i64 y) ?_ (Below.refl _ _) ?_
                    · simp [execOp, go_sem, e38, q0]
                    · exact rfl
                  · intro ev W hf _ _ hst hd
                    have e0 : ev (.tmp 0) = .slice (some ⟨b, o, none⟩) n cap := hf 0 (by kernel_rfl)
                    refine st_value (v := .slice (some ⟨b, o, none⟩) n cap) ?_ (Below.refl _ _) ?_
                    · simp [execOp, go_sem, e0]
                    · exact rfl
                  · intro ev W hf _ _ hst hd
                    have e9 : ev (.tmp 9) = .int .i64 (k : Int) := hf 9 (by kernel_rfl)
                    refine st_value (v := .int .i64 (k : Int)) ?_ (Below.refl _ _) ?_
                    · simp [execOp, go_sem, e9]
                    · exact rfl
                  · intro ev W hf _ _ hst hd
                    obtain ⟨d40, d41, _⟩ := hd
                    have e40 : ev (.tmp 40) = .slice (some ⟨b, o, none⟩) n cap := d40
                    have e41 : ev (.tmp 41) = .int .i64 (k : Int) := d41
                    refine st_value (v := .pointer (some ⟨b, o + k * 2, none⟩)) ?_ (Below.refl _ _) ?_
                    · simp [execOp, go_sem, e40, e41, hkl]
                    · exact rfl
                  · intro ev W hf _ _ hst hd
                    obtain ⟨d42, _⟩ := hd
                    have e42 : ev (.tmp 42) = .pointer (some ⟨b, o + k * 2, none⟩) := d42
                    refine st_value (v := .pointer (some ⟨b, o + k * 2 + 1, none⟩)) ?_ (Below.refl _ _) ?_
                    · simp [execOp, go_sem, e42]
                    · exact rfl
                  · intro ev W hf _ _ hst hd
                    obtain ⟨d43, _⟩ := hd
                    have e43 : ev (.tmp 43) = .pointer (some ⟨b, o + k * 2 + 1, none⟩) := d43
                    have q0 := Ext.cell hst C2.out
                    refine st_value (v := .int .i64 py) ?_ (Below.refl _ _) ?_
                    · simp [execOp, go_sem, e43, q0]
                    · exact rfl
                  · intro ev W hf _ _ hst hd
                    obtain ⟨d39, d44, _⟩ := hd
                    have e39 : ev (.tmp 39) = .int .i64 y := d39
                    have e44 : ev (.tmp 44) = .int .i64 py := d44
                    refine st_value (v := .int .i64 Y) ?_ (Below.refl _ _) ?_
                    · simp [execOp, go_sem, e39, e44, hwy]
                    · exact rfl
                  · intro ev W hf _ _ hst hd
                    obtain ⟨d37, d45, _⟩ := hd
                    have e37 : ev (.tmp 37) = .int .i64 X := d37
                    have e45 : ev (.tmp 45) = .int .i64 Y := d45
                    refine st_value (v := .int .i64 D) ?_ (Below.refl _ _) ?_
                    · simp [execOp, go_sem, e37, e45, hws]
                    · exact rfl
                case rest =>
                  intro vs w3 hl hst hg
                  have HE3' := Lib.hid hst
                  have hvs : vs = [.pointer (some ⟨w.heap.size, 0, none⟩), .int .i64 x, .slice (some ⟨b, o, none⟩) n cap, .int .i64 (k : Int), .pointer (some ⟨b, o + k * 2, none⟩), .pointer (some ⟨b, o + k * 2, none⟩), .int .i64 px, .int .i64 X, .pointer (some ⟨w.heap.size, 1, none⟩), .int .i64 y, .slice (some ⟨b, o, none⟩) n cap, .int .i64 (k : Int), .pointer (some ⟨b, o + k * 2, none⟩), .pointer (some ⟨b, o + k * 2 + 1, none⟩), .int .i64 py, .int .i64 Y, .int .i64 D] := list_of hl (fun i u hu => by
                    match i, hu with
                    | 0, hu => exact (congrArg some (hg 0 u hu)).symm
                    | 1, hu => exact (congrArg some (hg 1 u hu)).symm
                    | 2, hu => exact (congrArg some (hg 2 u hu)).symm
                    | 3, hu => exact (congrArg some (hg 3 u hu)).symm
                    | 4, hu => exact (congrArg some (hg 4 u hu)).symm
                    | 5, hu => exact (congrArg some (hg 5 u hu)).symm
                    | 6, hu => exact (congrArg some (hg 6 u hu)).symm
                    | 7, hu => exact (congrArg some (hg 7 u hu)).symm
                    | 8, hu => exact (congrArg some (hg 8 u hu)).symm
                    | 9, hu => exact (congrArg some (hg 9 u hu)).symm
                    | 10, hu => exact (congrArg some (hg 10 u hu)).symm
                    | 11, hu => exact (congrArg some (hg 11 u hu)).symm
                    | 12, hu => exact (congrArg some (hg 12 u hu)).symm
                    | 13, hu => exact (congrArg some (hg 13 u hu)).symm
                    | 14, hu => exact (congrArg some (hg 14 u hu)).symm
                    | 15, hu => exact (congrArg some (hg 15 u hu)).symm
                    | 16, hu => exact (congrArg some (hg 16 u hu)).symm
                    | n + 17, hu => exact absurd (lt_len hu) (by rw [hl]; simp))
                  clear hg hst hl
                  subst hvs
                  simp only [putAll, Act.put, List.dropLast, List.setIfInBounds_toArray, List.set_cons_zero, List.set_cons_succ]
                  go_wp2_with fail
                  exact ⟨⟨k + 1, by simp, by omega, .inr ⟨by omega, by rw [HN1.out], by rw [HN1.out]⟩, Ext.trans HE.out HE3'.out⟩, by simp [intOf]; omega⟩
              · have HN1 := Lib.hid (show extK ps (x, y) (k + 1) = extK ps (x, y) k from by rw [HNX.out, if_neg hMD])
                go_wp2_with fail
                refine wp_region_stable_last [⟨[], none⟩, ⟨[(0, 30)], none⟩, ⟨[], none⟩, ⟨[], none⟩, ⟨[(2, 32), (3, 33)], none⟩, ⟨[(4, 34)], none⟩, ⟨[(5, 35)], none⟩, ⟨[(1, 31), (6, 36)], none⟩, ⟨[], none⟩, ⟨[(8, 38)], none⟩, ⟨[], none⟩, ⟨[], none⟩, ⟨[(10, 40), (11, 41)], none⟩, ⟨[(12, 42)], none⟩, ⟨[(13, 43)], none⟩, ⟨[(9, 39), (14, 44)], none⟩, ⟨[(7, 37), (15, 45)], none⟩] (fun x y => Below x.heap.size x y) (MPat [MP.eq (.pointer (some ⟨w.heap.size, 0, none⟩)), MP.eq (.int .i64 x), MP.eq (.slice (some ⟨b, o, none⟩) n cap), MP.eq (.int .i64 (k : Int)), MP.eq (.pointer (some ⟨b, o + k * 2, none⟩)), MP.eq (.pointer (some ⟨b, o + k * 2, none⟩)), MP.eq (.int .i64 px), MP.eq (.int .i64 X), MP.eq (.pointer (some ⟨w.heap.size, 1, none⟩)), MP.eq (.int .i64 y), MP.eq (.slice (some ⟨b, o, none⟩) n cap), MP.eq (.int .i64 (k : Int)), MP.eq (.pointer (some ⟨b, o + k * 2, none⟩)), MP.eq (.pointer (some ⟨b, o + k * 2 + 1, none⟩)), MP.eq (.int .i64 py), MP.eq (.int .i64 Y), MP.eq (.int .i64 D)]) rfl (by kernel_rfl) (fun _ _ _ h k => Ext.trans h k) (fun _ => Below.refl _ _) (fun x => (Below.refl x.heap.size x).drew) (MPat.mono _) (by kernel_rfl) (by kernel_rfl) (by kernel_rfl) ?obs ?rest
                case obs =>
                  refine ⟨?_, ?_, ?_, ?_, ?_, ?_, ?_, ?_, ?_, ?_, ?_, ?_, ?_, ?_, ?_, ?_, ?_, trivial⟩
                  · intro ev W hf _ _ hst hd
                    have e3 : ev (.tmp 3) = .pointer (some ⟨w.heap.size, 0, none⟩) := hf 3 (by kernel_rfl)
                    refine st_value (v := .pointer (some ⟨w.heap.size, 0, none⟩)) ?_ (Below.refl _ _) ?_
                    · simp [execOp, go_sem, e3]
                    · exact rfl
                  · intro ev W hf _ _ hst hd
                    obtain ⟨d30, _⟩ := hd
                    have e30 : ev (.tmp 30) = .pointer (some ⟨w.heap.size, 0, none⟩) := d30
                    have q0 := VRow.cell (VRow.ext HV.out hst) (k := 0) rfl
                    refine st_value (v := .int .i64 x) ?_ (Below.refl _ _) ?_
                    · simp [execOp, go_sem, e30, q0]
                    · exact rfl
                  · intro ev W hf _ _ hst hd
                    have e0 : ev (.tmp 0) = .slice (some ⟨b, o, none⟩) n cap := hf 0 (by kernel_rfl)
                    refine st_value (v := .slice (some ⟨b, o, none⟩) n cap) ?_ (Below.refl _ _) ?_
                    · simp [execOp, go_sem, e0]
                    · exact rfl
                  · intro ev W hf _ _ hst hd
                    have e9 : ev (.tmp 9) = .int .i64 (k : Int) := hf 9 (by kernel_rfl)
                    refine st_value (v := .int .i64 (k : Int)) ?_ (Below.refl _ _) ?_
                    · simp [execOp, go_sem, e9]
                    · exact rfl
                  · intro ev W hf _ _ hst hd
                    obtain ⟨d32, d33, _⟩ := hd
                    have e32 : ev (.tmp 32) = .slice (some ⟨b, o, none⟩) n cap := d32
                    have e33 : ev (.tmp 33) = .int .i64 (k : Int) := d33
                    refine st_value (v := .pointer (some ⟨b, o + k * 2, none⟩)) ?_ (Below.refl _ _) ?_
                    · simp [execOp, go_sem, e32, e33, hkl]
                    · exact rfl
                  · intro ev W hf _ _ hst hd
                    obtain ⟨d34, _⟩ := hd
                    have e34 : ev (.tmp 34) = .pointer (some ⟨b, o + k * 2, none⟩) := d34
                    refine st_value (v := .pointer (some ⟨b, o + k * 2, none⟩)) ?_ (Below.refl _ _) ?_
                    · simp [execOp, go_sem, e34]
                    · exact rfl
                  · intro ev W hf _ _ hst hd
                    obtain ⟨d35, _⟩ := hd
                    have e35 : ev (.tmp 35) = .pointer (some ⟨b, o + k * 2, none⟩) := d35
                    have q0 := Ext.cell hst C1.out
                    refine st_value (v := .int .i64 px) ?_ (Below.refl _ _) ?_
                    · simp [execOp, go_sem, e35, q0]
                    · exact rfl
                  · intro ev W hf _ _ hst hd
                    obtain ⟨d31, d36, _⟩ := hd
                    have e31 : ev (.tmp 31) = .int .i64 x := d31
                    have e36 : ev (.tmp 36) = .int .i64 px := d36
                    refine st_value (v := .int .i64 X) ?_ (Below.refl _ _) ?_
                    · simp [execOp, go_sem, e31, e36, hwx]
                    · exact rfl
                  · intro ev W hf _ _ hst hd
                    have e3 : ev (.tmp 3) = .pointer (some ⟨w.heap.size, 0, none⟩) := hf 3 (by kernel_rfl)
                    refine st_value (v := .pointer (some ⟨w.heap.size, 1, none⟩)) ?_ (Below.refl _ _) ?_
                    · simp [execOp, go_sem, e3]
                    · exact rfl
                  · intro ev W hf _ _ hst hd
                    obtain ⟨d38, _⟩ := hd
                    have e38 : ev (.tmp 38) = .pointer (some ⟨w.heap.size, 1, none⟩) := d38
                    have q0 := VRow.cell (VRow.ext HV.out hst) (k := 1) rfl
                    refine st_value (v := .int .i64 y) ?_ (Below.refl _ _) ?_
                    · simp [execOp, go_sem, e38, q0]
                    · exact rfl
                  · intro ev W hf _ _ hst hd
                    have e0 : ev (.tmp 0) = .slice (some ⟨b, o, none⟩) n cap := hf 0 (by kernel_rfl)
                    refine st_value (v := .slice (some ⟨b, o, none⟩) n cap) ?_ (Below.refl _ _) ?_
                    · simp [execOp, go_sem, e0]
                    · exact rfl
                  · intro ev W hf _ _ hst hd
                    have e9 : ev (.tmp 9) = .int .i64 (k : Int) := hf 9 (by kernel_rfl)
                    refine st_value (v := .int .i64 (k : Int)) ?_ (Below.refl _ _) ?_
                    · simp [execOp, go_sem, e9]
                    · exact rfl
                  · intro ev W hf _ _ hst hd
                    obtain ⟨d40, d41, _⟩ := hd
                    have e40 : ev (.tmp 40) = .slice (some ⟨b, o, none⟩) n cap := d40
                    have e41 : ev (.tmp 41) = .int .i64 (k : Int) := d41
                    refine st_value (v := .pointer (some ⟨b, o + k * 2, none⟩)) ?_ (Below.refl _ _) ?_
                    · simp [execOp, go_sem, e40, e41, hkl]
                    · exact rfl
                  · intro ev W hf _ _ hst hd
                    obtain ⟨d42, _⟩ := hd
                    have e42 : ev (.tmp 42) = .pointer (some ⟨b, o + k * 2, none⟩) := d42
                    refine st_value (v := .pointer (some ⟨b, o + k * 2 + 1, none⟩)) ?_ (Below.refl _ _) ?_
                    · simp [execOp, go_sem, e42]
                    · exact rfl
                  · intro ev W hf _ _ hst hd
                    obtain ⟨d43, _⟩ := hd
                    have e43 : ev (.tmp 43) = .pointer (some ⟨b, o + k * 2 + 1, none⟩) := d43
                    have q0 := Ext.cell hst C2.out
                    refine st_value (v := .int .i64 py) ?_ (Below.refl _ _) ?_
                    · simp [execOp, go_sem, e43, q0]
                    · exact rfl
                  · intro ev W hf _ _ hst hd
                    obtain ⟨d39, d44, _⟩ := hd
                    have e39 : ev (.tmp 39) = .int .i64 y := d39
                    have e44 : ev (.tmp 44) = .int .i64 py := d44
                    refine st_value (v := .int .i64 Y) ?_ (Below.refl _ _) ?_
                    · simp [execOp, go_sem, e39, e44, hwy]
                    · exact rfl
                  · intro ev W hf _ _ hst hd
                    obtain ⟨d37, d45, _⟩ := hd
                    have e37 : ev (.tmp 37) = .int .i64 X := d37
                    have e45 : ev (.tmp 45) = .int .i64 Y := d45
                    refine st_value (v := .int .i64 D) ?_ (Below.refl _ _) ?_
                    · simp [execOp, go_sem, e37, e45, hws]
                    · exact rfl
                case rest =>
                  intro vs w3 hl hst hg
                  have HE3' := Lib.hid hst
                  have hvs : vs = [.pointer (some ⟨w.heap.size, 0, none⟩), .int .i64 x, .slice (some ⟨b, o, none⟩) n cap, .int .i64 (k : Int), .pointer (some ⟨b, o + k * 2, none⟩), .pointer (some ⟨b, o + k * 2, none⟩), .int .i64 px, .int .i64 X, .pointer (some ⟨w.heap.size, 1, none⟩), .int .i64 y, .slice (some ⟨b, o, none⟩) n cap, .int .i64 (k : Int), .pointer (some ⟨b, o + k * 2, none⟩), .pointer (some ⟨b, o + k * 2 + 1, none⟩), .int .i64 py, .int .i64 Y, .int .i64 D] := list_of hl (fun i u hu => by
                    match i, hu with
                    | 0, hu => exact (congrArg some (hg 0 u hu)).symm
                    | 1, hu => exact (congrArg some (hg 1 u hu)).symm
                    | 2, hu => exact (congrArg some (hg 2 u hu)).symm
                    | 3, hu => exact (congrArg some (hg 3 u hu)).symm
                    | 4, hu => exact (congrArg some (hg 4 u hu)).symm
                    | 5, hu => exact (congrArg some (hg 5 u hu)).symm
                    | 6, hu => exact (congrArg some (hg 6 u hu)).symm
                    | 7, hu => exact (congrArg some (hg 7 u hu)).symm
                    | 8, hu => exact (congrArg some (hg 8 u hu)).symm
                    | 9, hu => exact (congrArg some (hg 9 u hu)).symm
                    | 10, hu => exact (congrArg some (hg 10 u hu)).symm
                    | 11, hu => exact (congrArg some (hg 11 u hu)).symm
                    | 12, hu => exact (congrArg some (hg 12 u hu)).symm
                    | 13, hu => exact (congrArg some (hg 13 u hu)).symm
                    | 14, hu => exact (congrArg some (hg 14 u hu)).symm
                    | 15, hu => exact (congrArg some (hg 15 u hu)).symm
                    | 16, hu => exact (congrArg some (hg 16 u hu)).symm
                    | n + 17, hu => exact absurd (lt_len hu) (by rw [hl]; simp))
                  clear hg hst hl
                  subst hvs
                  simp only [putAll, Act.put, List.dropLast, List.setIfInBounds_toArray, List.set_cons_zero, List.set_cons_succ]
                  go_wp2_with fail
                  exact ⟨⟨k + 1, by simp, by omega, .inr ⟨by omega, by rw [HN1.out, HM.out], by rw [HN1.out, HJ.out]⟩, Ext.trans HE.out HE3'.out⟩, by simp [intOf]; omega⟩
          · have hkz : ¬ (k : Int) < (n : Int) := by omega
            have hkn : k = n := by omega
            rcases hba with ⟨hk0, rfl, rfl⟩ | ⟨hk1, rfl, rfl⟩
            · exfalso; omega
            · have HFIN := Lib.hid (show ExtS ps x y (extK ps (x, y) k).1 ((extK ps (x, y) k).2 : Nat) 0 from hEX.out _ _ (by rw [hkn]) (by rw [hkn]))
              generalize (extK ps (x, y) k).1 = M at *
              generalize (extK ps (x, y) k).2 = J at *
              clear hkn
              go_wp2_with fail
              (try simp only [Exit.inBlock, Exit.then])
              refine bodyPost_ret (results_tmp3 rfl _ _ _) rfl ?_
              exact ⟨_, _, _, rfl, HFIN.out, Ext.trans HE0.out (Ext.trans HE3.out HE.out)⟩
end Go.Proofs.Ytbdppephmlkbaaa
