import Derived.Test.YtbcngojiikdigaaGreatL2
namespace Go.Proofs.YtbcngojiikdigaaGreat
set_option maxRecDepth 100000
open Go.RowKit Go.Shelf
/-- A slice of n numbers. -/
def VecAt (w : World) (v : Value) (n : Nat) (x : Nat → E) : Prop :=
  ∃ b o cap, v = .slice (some ⟨b, o, none⟩) n cap ∧ n ≤ cap ∧ cap ≤ 9223372036854775807 ∧ ∀ i, i < n → w.cell? ⟨b, o + i, none⟩ = some (iv (x i))
/-- A slice of n rows of n numbers. -/
def MatAt (w : World) (v : Value) (n : Nat) (M : MF) : Prop :=
  ∃ b o cap, v = .slice (some ⟨b, o, none⟩) n cap ∧ n ≤ cap ∧ cap ≤ 9223372036854775807 ∧ ∀ i, i < n → ∃ u, w.cell? ⟨b, o + i, none⟩ = some u ∧ VecAt w u n (M i)
theorem VecAt.ext {w w' : World} {v : Value} {n : Nat} {x : Nat → E} (h : VecAt w v n x) (he : Ext w w') : VecAt w' v n x := by
  obtain ⟨b, o, cap, h1, h2, h3, h4⟩ := h
  exact ⟨b, o, cap, h1, h2, h3, fun i hi => Ext.cell he (h4 i hi)⟩
theorem MatAt.ext {w w' : World} {v : Value} {n : Nat} {M : MF} (h : MatAt w v n M) (he : Ext w w') : MatAt w' v n M := by
  obtain ⟨b, o, cap, h1, h2, h3, h4⟩ := h
  refine ⟨b, o, cap, h1, h2, h3, fun i hi => ?_⟩
  obtain ⟨u, h5, h6⟩ := h4 i hi
  exact ⟨u, Ext.cell he h5, h6.ext he⟩
theorem VecAt.congr {w : World} {v : Value} {n : Nat} {x y : Nat → E} (h : VecAt w v n x) (e : ∀ i, i < n → x i = y i) : VecAt w v n y := by
  obtain ⟨b, o, cap, h1, h2, h3, h4⟩ := h
  exact ⟨b, o, cap, h1, h2, h3, fun i hi => by rw [← e i hi]; exact h4 i hi⟩
theorem MatAt.congr {w : World} {v : Value} {n : Nat} {A B : MF} (h : MatAt w v n A) (e : eqF n A B) : MatAt w v n B := by
  obtain ⟨b, o, cap, h1, h2, h3, h4⟩ := h
  refine ⟨b, o, cap, h1, h2, h3, fun i hi => ?_⟩
  obtain ⟨u, h5, h6⟩ := h4 i hi
  exact ⟨u, h5, h6.congr (e i hi)⟩
set_option maxHeartbeats 1000000 in
theorem times1_c (P1 P2 P3 n k j : Nat) (rv mv : Value) (x : Nat → E) (B : MF) (w : World) (hk : k < n) (hj : j < n) (hr : VecAt w rv n x) (hm : MatAt w mv n B)
    (h1 : w.cell? ⟨P1, 0, none⟩ = some rv) (h2 : w.cell? ⟨P2, 0, none⟩ = some mv) (h3 : w.cell? ⟨P3, 0, none⟩ = some (.int .i64 (j : Int))) (hx : bdE KB (x k)) (hB : bdE KB (B k j)) :
    Calls Tryz.prog 83 #[.int .i64 (k : Int), .pointer (some ⟨P1, 0, none⟩), .pointer (some ⟨P2, 0, none⟩), .pointer (some ⟨P3, 0, none⟩)] w fun e w' => e = .returned (iv (ep (x k) (B k j))) ∧ Ext w w' := by
  obtain ⟨rb, ro, rc, rfl, hr1, hr2, hr3⟩ := hr
  obtain ⟨mb, mo, mc, rfl, hm1, hm2, hm3⟩ := hm
  obtain ⟨u, c2, ⟨sb, so, sc, rfl, hs1, hs2, hs3⟩⟩ := hm3 k hk
  have HC1 := Lib.hid (hr3 k hk)
  have HC2 := Lib.hid c2
  have HC3 := Lib.hid (hs3 j hj)
  have HP1 := Lib.hid h1
  have HP2 := Lib.hid h2
  have HP3 := Lib.hid h3
  have HM := Lib.hid (fun W => times_c (x k) (B k j) W hx hB)
  have HT := Lib.hid m_times
  clear hr3 hm3 c2 hs3 h1 h2 h3 hx hB
  generalize ep (x k) (B k j) = z at *
  generalize x k = xk at *
  generalize B k j = bkj at *
  go_enter Tryz.func83, Tryz.ntmps83
  go_wp2_with fail
  refine wp_region_stable_last [⟨[], none⟩, ⟨[], none⟩, ⟨[(0, 6), (1, 7)], none⟩, ⟨[(2, 8)], none⟩, ⟨[(3, 9)], none⟩, ⟨[], none⟩, ⟨[], none⟩, ⟨[(5, 11), (6, 12)], none⟩, ⟨[(7, 13)], none⟩, ⟨[], none⟩, ⟨[(8, 14), (9, 15)], none⟩, ⟨[(10, 16)], none⟩, ⟨[(4, 10), (11, 17)], none⟩] (fun x y => Below x.heap.size x y) (MPat [MP.eq (.slice (some ⟨rb, ro, none⟩) n rc), MP.eq (.int .i64 (k : Int)), MP.eq (.pointer (some ⟨rb, ro + k, none⟩)), MP.eq (iv xk), MP.eq (.iface 56 (iv xk)), MP.eq (.slice (some ⟨mb, mo, none⟩) n mc), MP.eq (.int .i64 (k : Int)), MP.eq (.pointer (some ⟨mb, mo + k, none⟩)), MP.eq (.slice (some ⟨sb, so, none⟩) n sc), MP.eq (.int .i64 (j : Int)), MP.eq (.pointer (some ⟨sb, so + j, none⟩)), MP.eq (iv bkj), MP.eq (iv z)]) rfl (by kernel_rfl) (fun _ _ _ h k => Ext.trans h k) (fun _ => Below.refl _ _) (fun x => (Below.refl x.heap.size x).drew) (MPat.mono _) (by kernel_rfl) (by kernel_rfl) (by kernel_rfl) ?obs ?rest
  case obs =>
    refine ⟨?_, ?_, ?_, ?_, ?_, ?_, ?_, ?_, ?_, ?_, ?_, ?_, ?_, trivial⟩
    · intro ev W hf _ _ hst hd
      have e1 : ev (.tmp 1) = .pointer (some ⟨P1, 0, none⟩) := hf 1 (by kernel_rfl)
      have q0 := Ext.cell hst HP1.out
      refine st_value (v := .slice (some ⟨rb, ro, none⟩) n rc) ?_ (Below.refl _ _) ?_
      · simp [execOp, go_sem, e1, q0]
      · exact rfl
    · intro ev W hf _ _ hst hd
      have e0 : ev (.tmp 0) = .int .i64 (k : Int) := hf 0 (by kernel_rfl)
      refine st_value (v := .int .i64 (k : Int)) ?_ (Below.refl _ _) ?_
      · simp [execOp, go_sem, e0]
      · exact rfl
    · intro ev W hf _ _ hst hd
      obtain ⟨d6, d7, _⟩ := hd
      have e6 : ev (.tmp 6) = .slice (some ⟨rb, ro, none⟩) n rc := d6
      have e7 : ev (.tmp 7) = .int .i64 (k : Int) := d7
      refine st_value (v := .pointer (some ⟨rb, ro + k, none⟩)) ?_ (Below.refl _ _) ?_
      · simp [execOp, go_sem, e6, e7, hk]
      · exact rfl
    · intro ev W hf _ _ hst hd
      obtain ⟨d8, _⟩ := hd
      have e8 : ev (.tmp 8) = .pointer (some ⟨rb, ro + k, none⟩) := d8
      have q0 := Ext.cell hst HC1.out
      refine st_value (v := iv xk) ?_ (Below.refl _ _) ?_
      · simp [execOp, go_sem, e8, q0]
      · exact rfl
    · intro ev W hf _ _ hst hd
      obtain ⟨d9, _⟩ := hd
      have e9 : ev (.tmp 9) = iv xk := d9
      refine st_value (v := .iface 56 (iv xk)) ?_ (Below.refl _ _) ?_
      · simp [execOp, go_sem, e9]
      · exact rfl
    · intro ev W hf _ _ hst hd
      have e2 : ev (.tmp 2) = .pointer (some ⟨P2, 0, none⟩) := hf 2 (by kernel_rfl)
      have q0 := Ext.cell hst HP2.out
      refine st_value (v := .slice (some ⟨mb, mo, none⟩) n mc) ?_ (Below.refl _ _) ?_
      · simp [execOp, go_sem, e2, q0]
      · exact rfl
    · intro ev W hf _ _ hst hd
      have e0 : ev (.tmp 0) = .int .i64 (k : Int) := hf 0 (by kernel_rfl)
      refine st_value (v := .int .i64 (k : Int)) ?_ (Below.refl _ _) ?_
      · simp [execOp, go_sem, e0]
      · exact rfl
    · intro ev W hf _ _ hst hd
      obtain ⟨d11, d12, _⟩ := hd
      have e11 : ev (.tmp 11) = .slice (some ⟨mb, mo, none⟩) n mc := d11
      have e12 : ev (.tmp 12) = .int .i64 (k : Int) := d12
      refine st_value (v := .pointer (some ⟨mb, mo + k, none⟩)) ?_ (Below.refl _ _) ?_
      · simp [execOp, go_sem, e11, e12, hk]
      · exact rfl
    · intro ev W hf _ _ hst hd
      obtain ⟨d13, _⟩ := hd
      have e13 : ev (.tmp 13) = .pointer (some ⟨mb, mo + k, none⟩) := d13
      have q0 := Ext.cell hst HC2.out
      refine st_value (v := .slice (some ⟨sb, so, none⟩) n sc) ?_ (Below.refl _ _) ?_
      · simp [execOp, go_sem, e13, q0]
      · exact rfl
    · intro ev W hf _ _ hst hd
      have e3 : ev (.tmp 3) = .pointer (some ⟨P3, 0, none⟩) := hf 3 (by kernel_rfl)
      have q0 := Ext.cell hst HP3.out
      refine st_value (v := .int .i64 (j : Int)) ?_ (Below.refl _ _) ?_
      · simp [execOp, go_sem, e3, q0]
      · exact rfl
    · intro ev W hf _ _ hst hd
      obtain ⟨d14, d15, _⟩ := hd
      have e14 : ev (.tmp 14) = .slice (some ⟨sb, so, none⟩) n sc := d14
      have e15 : ev (.tmp 15) = .int .i64 (j : Int) := d15
      refine st_value (v := .pointer (some ⟨sb, so + j, none⟩)) ?_ (Below.refl _ _) ?_
      · simp [execOp, go_sem, e14, e15, hj]
      · exact rfl
    · intro ev W hf _ _ hst hd
      obtain ⟨d16, _⟩ := hd
      have e16 : ev (.tmp 16) = .pointer (some ⟨sb, so + j, none⟩) := d16
      have q0 := Ext.cell hst HC3.out
      refine st_value (v := iv bkj) ?_ (Below.refl _ _) ?_
      · simp [execOp, go_sem, e16, q0]
      · exact rfl
    · intro ev W hf _ hfn hst hd
      obtain ⟨d10, d17, _⟩ := hd
      have e10 : ev (.tmp 10) = .iface 56 (iv xk) := d10
      have e17 : ev (.tmp 17) = iv bkj := d17
      clear hfn
      refine st_call (f := 96) (args := #[iv xk, iv bkj]) (by simp [execOp, go_sem, e10, e17, HT.out]) ((HM.out _).mono fun _ _ he => ⟨he.1, by rw [← he.2]; exact Ext.refl _⟩) (fun _ _ => rfl)
  case rest =>
    intro vs w3 hl hst hg
    have HE3 := Lib.hid hst
    have hvs : vs = [.slice (some ⟨rb, ro, none⟩) n rc, .int .i64 (k : Int), .pointer (some ⟨rb, ro + k, none⟩), iv xk, .iface 56 (iv xk), .slice (some ⟨mb, mo, none⟩) n mc, .int .i64 (k : Int), .pointer (some ⟨mb, mo + k, none⟩), .slice (some ⟨sb, so, none⟩) n sc, .int .i64 (j : Int), .pointer (some ⟨sb, so + j, none⟩), iv bkj, iv z] := list_of hl (fun i u hu => by
      match i, hu with
      | 0, hu => exact (congrArg some (hg 0 u hu)).symm
      | 1, hu => exact (congrArg some (hg 1 u hu)).symm
      | 2, hu => exact (congrArg some (hg 2 u hu)).symm
      | 3, hu => exact (congrArg some (hg 3 u hu)).symm
      | 4, hu => exact (congrArg some (hg 4 u hu)).symm
      | 5, hu => exact (congrArg some (hg 5 u hu)).symm
      | 6, hu => exact (congrArg some (hg 6 u hu)).symm
      | 7, hu => exact (congrArg some (hg 7 u hu)).symm
      | 8, hu => exact (congrArg some (hg 8 u hu)).symm
      | 9, hu => exact (congrArg some (hg 9 u hu)).symm
      | 10, hu => exact (congrArg some (hg 10 u hu)).symm
      | 11, hu => exact (congrArg some (hg 11 u hu)).symm
      | 12, hu => exact (congrArg some (hg 12 u hu)).symm
      | n + 13, hu => exact absurd (lt_len hu) (by rw [hl]; simp))
    clear hg hst hl
    subst hvs
    simp only [putAll, Act.put, List.dropLast, List.setIfInBounds_toArray, List.set_cons_zero, List.set_cons_succ]
    go_wp2_with fail
    go_ret
    exact ⟨rfl, HE3.out⟩
set_option maxHeartbeats 1000000 in
theorem of1_c (P1 P2 n j : Nat) (rv xv : Value) (a x : Nat → E) (w : World) (hj : j < n) (hr : VecAt w rv n a) (hm : VecAt w xv n x)
    (h1 : w.cell? ⟨P1, 0, none⟩ = some rv) (h2 : w.cell? ⟨P2, 0, none⟩ = some xv) (ha : bdE KB (a j)) (hx : bdE KB (x j)) :
    Calls Tryz.prog 86 #[.int .i64 (j : Int), .pointer (some ⟨P1, 0, none⟩), .pointer (some ⟨P2, 0, none⟩)] w fun e w' => e = .returned (iv (ep (a j) (x j))) ∧ Ext w w' := by
  obtain ⟨rb, ro, rc, rfl, hr1, hr2, hr3⟩ := hr
  obtain ⟨sb, so, sc, rfl, hs1, hs2, hs3⟩ := hm
  have HC1 := Lib.hid (hr3 j hj)
  have HC3 := Lib.hid (hs3 j hj)
  have HP1 := Lib.hid h1
  have HP2 := Lib.hid h2
  have HM := Lib.hid (fun W => times_c (a j) (x j) W ha hx)
  have HT := Lib.hid m_times
  clear hr3 hs3 h1 h2 ha hx
  generalize ep (a j) (x j) = z at *
  generalize a j = xk at *
  generalize x j = bkj at *
  go_enter Tryz.func86, Tryz.ntmps86
  go_wp2_with fail
  refine wp_region_stable_last [⟨[], none⟩, ⟨[], none⟩, ⟨[(0, 5), (1, 6)], none⟩, ⟨[(2, 7)], none⟩, ⟨[(3, 8)], none⟩, ⟨[], none⟩, ⟨[], none⟩, ⟨[(5, 10), (6, 11)], none⟩, ⟨[(7, 12)], none⟩, ⟨[(4, 9), (8, 13)], none⟩] (fun x y => Below x.heap.size x y) (MPat [MP.eq (.slice (some ⟨rb, ro, none⟩) n rc), MP.eq (.int .i64 (j : Int)), MP.eq (.pointer (some ⟨rb, ro + j, none⟩)), MP.eq (iv xk), MP.eq (.iface 56 (iv xk)), MP.eq (.slice (some ⟨sb, so, none⟩) n sc), MP.eq (.int .i64 (j : Int)), MP.eq (.pointer (some ⟨sb, so + j, none⟩)), MP.eq (iv bkj), MP.eq (iv z)]) rfl (by kernel_rfl) (fun _ _ _ h k => Ext.trans h k) (fun _ => Below.refl _ _) (fun x => (Below.refl x.heap.size x).drew) (MPat.mono _) (by kernel_rfl) (by kernel_rfl) (by kernel_rfl) ?obs ?rest
  case obs =>
    refine ⟨?_, ?_, ?_, ?_, ?_, ?_, ?_, ?_, ?_, ?_, trivial⟩
    · intro ev W hf _ _ hst hd
      have e1 : ev (.tmp 1) = .pointer (some ⟨P1, 0, none⟩) := hf 1 (by kernel_rfl)
      have q0 := Ext.cell hst HP1.out
      refine st_value (v := .slice (some ⟨rb, ro, none⟩) n rc) ?_ (Below.refl _ _) ?_
      · simp [execOp, go_sem, e1, q0]
      · exact rfl
    · intro ev W hf _ _ hst hd
      have e0 : ev (.tmp 0) = .int .i64 (j : Int) := hf 0 (by kernel_rfl)
      refine st_value (v := .int .i64 (j : Int)) ?_ (Below.refl _ _) ?_
      · simp [execOp, go_sem, e0]
      · exact rfl
    · intro ev W hf _ _ hst hd
      obtain ⟨d5, d6, _⟩ := hd
      have e5 : ev (.tmp 5) = .slice (some ⟨rb, ro, none⟩) n rc := d5
      have e6 : ev (.tmp 6) = .int .i64 (j : Int) := d6
      refine st_value (v := .pointer (some ⟨rb, ro + j, none⟩)) ?_ (Below.refl _ _) ?_
      · simp [execOp, go_sem, e5, e6, hj]
      · exact rfl
    · intro ev W hf _ _ hst hd
      obtain ⟨d7, _⟩ := hd
      have e7 : ev (.tmp 7) = .pointer (some ⟨rb, ro + j, none⟩) := d7
      have q0 := Ext.cell hst HC1.out
      refine st_value (v := iv xk) ?_ (Below.refl _ _) ?_
      · simp [execOp, go_sem, e7, q0]
      · exact rfl
    · intro ev W hf _ _ hst hd
      obtain ⟨d8, _⟩ := hd
      have e8 : ev (.tmp 8) = iv xk := d8
      refine st_value (v := .iface 56 (iv xk)) ?_ (Below.refl _ _) ?_
      · simp [execOp, go_sem, e8]
      · exact rfl
    · intro ev W hf _ _ hst hd
      have e2 : ev (.tmp 2) = .pointer (some ⟨P2, 0, none⟩) := hf 2 (by kernel_rfl)
      have q0 := Ext.cell hst HP2.out
      refine st_value (v := .slice (some ⟨sb, so, none⟩) n sc) ?_ (Below.refl _ _) ?_
      · simp [execOp, go_sem, e2, q0]
      · exact rfl
    · intro ev W hf _ _ hst hd
      have e0 : ev (.tmp 0) = .int .i64 (j : Int) := hf 0 (by kernel_rfl)
      refine st_value (v := .int .i64 (j : Int)) ?_ (Below.refl _ _) ?_
      · simp [execOp, go_sem, e0]
      · exact rfl
    · intro ev W hf _ _ hst hd
      obtain ⟨d10, d11, _⟩ := hd
      have e10 : ev (.tmp 10) = .slice (some ⟨sb, so, none⟩) n sc := d10
      have e11 : ev (.tmp 11) = .int .i64 (j : Int) := d11
      refine st_value (v := .pointer (some ⟨sb, so + j, none⟩)) ?_ (Below.refl _ _) ?_
      · simp [execOp, go_sem, e10, e11, hj]
      · exact rfl
    · intro ev W hf _ _ hst hd
      obtain ⟨d12, _⟩ := hd
      have e12 : ev (.tmp 12) = .pointer (some ⟨sb, so + j, none⟩) := d12
      have q0 := Ext.cell hst HC3.out
      refine st_value (v := iv bkj) ?_ (Below.refl _ _) ?_
      · simp [execOp, go_sem, e12, q0]
      · exact rfl
    · intro ev W hf _ hfn hst hd
      obtain ⟨d9, d13, _⟩ := hd
      have e9 : ev (.tmp 9) = .iface 56 (iv xk) := d9
      have e13 : ev (.tmp 13) = iv bkj := d13
      clear hfn
      refine st_call (f := 96) (args := #[iv xk, iv bkj]) (by simp [execOp, go_sem, e9, e13, HT.out]) ((HM.out _).mono fun _ _ he => ⟨he.1, by rw [← he.2]; exact Ext.refl _⟩) (fun _ _ => rfl)
  case rest =>
    intro vs w3 hl hst hg
    have HE3 := Lib.hid hst
    have hvs : vs = [.slice (some ⟨rb, ro, none⟩) n rc, .int .i64 (j : Int), .pointer (some ⟨rb, ro + j, none⟩), iv xk, .iface 56 (iv xk), .slice (some ⟨sb, so, none⟩) n sc, .int .i64 (j : Int), .pointer (some ⟨sb, so + j, none⟩), iv bkj, iv z] := list_of hl (fun i u hu => by
      match i, hu with
      | 0, hu => exact (congrArg some (hg 0 u hu)).symm
      | 1, hu => exact (congrArg some (hg 1 u hu)).symm
      | 2, hu => exact (congrArg some (hg 2 u hu)).symm
      | 3, hu => exact (congrArg some (hg 3 u hu)).symm
      | 4, hu => exact (congrArg some (hg 4 u hu)).symm
      | 5, hu => exact (congrArg some (hg 5 u hu)).symm
      | 6, hu => exact (congrArg some (hg 6 u hu)).symm
      | 7, hu => exact (congrArg some (hg 7 u hu)).symm
      | 8, hu => exact (congrArg some (hg 8 u hu)).symm
      | 9, hu => exact (congrArg some (hg 9 u hu)).symm
      | n + 10, hu => exact absurd (lt_len hu) (by rw [hl]; simp))
    clear hg hst hl
    subst hvs
    simp only [putAll, Act.put, List.dropLast, List.setIfInBounds_toArray, List.set_cons_zero, List.set_cons_succ]
    go_wp2_with fail
    go_ret
    exact ⟨rfl, HE3.out⟩
set_option maxHeartbeats 1000000 in
theorem trace1_c (P1 n j : Nat) (mv : Value) (B : MF) (w : World) (hj : j < n) (hm : MatAt w mv n B) (h1 : w.cell? ⟨P1, 0, none⟩ = some mv) :
    Calls Tryz.prog 115 #[.int .i64 (j : Int), .pointer (some ⟨P1, 0, none⟩)] w fun e w' => e = .returned (iv (B j j)) ∧ Ext w w' := by
  obtain ⟨mb, mo, mc, rfl, hm1, hm2, hm3⟩ := hm
  obtain ⟨u, c2, ⟨sb, so, sc, rfl, hs1, hs2, hs3⟩⟩ := hm3 j hj
  have c3 := hs3 j hj
  generalize B j j = z at *
  clear hm3 hs3
  go_enter Tryz.func115, Tryz.ntmps115
  go_wp2_with fail
  go_ret
  exact ⟨rfl, Ext.refl _⟩
end Go.Proofs.YtbcngojiikdigaaGreat
