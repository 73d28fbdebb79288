import Derived.Test.YtbcngojiikdigaaGreatL22
namespace Go.Proofs.YtbcngojiikdigaaGreat
set_option maxRecDepth 100000
open Go.RowKit Go.Shelf
/-- a way's value: there is one, or none -/
def wB : E → Bool
  | none => false
  | some _ => true
abbrev bv (x : E) : Value := .bool (wB x)
theorem wtimes_c (x y : E) (w : World) : Calls Tryz.prog 163 #[bv x, bv y] w fun e w' => e = .returned (bv (ep x y)) ∧ w = w' := by
  cases x <;> cases y
  all_goals simp only [bv, wB, ep]
  all_goals go_enter Tryz.func163, Tryz.ntmps163
  all_goals go_wp2_with fail
  all_goals go_ret
  all_goals exact ⟨rfl, rfl⟩
theorem wplus_c (x y : E) (w : World) : Calls Tryz.prog 162 #[bv x, bv y] w fun e w' => e = .returned (bv (em x y)) ∧ w = w' := by
  cases x <;> cases y
  all_goals simp only [bv, wB, em]
  all_goals go_enter Tryz.func162, Tryz.ntmps162
  all_goals go_wp2_with fail
  all_goals go_ret
  all_goals exact ⟨rfl, rfl⟩
theorem wzero_c (v : Value) (w : World) : Calls Tryz.prog 164 #[v] w fun e w' => e = .returned (bv none) ∧ w = w' := by
  go_enter Tryz.func164, Tryz.ntmps164
  go_wp2_with fail
  go_ret
  exact ⟨rfl, rfl⟩
theorem wone_c (v : Value) (w : World) : Calls Tryz.prog 161 #[v] w fun e w' => e = .returned (bv (some 0)) ∧ w = w' := by
  go_enter Tryz.func161, Tryz.ntmps161
  go_wp2_with fail
  go_ret
  exact ⟨rfl, rfl⟩
theorem wm_zero (v : Value) (w : World) : Sem.run Tryz.prog (method 266 104 v "tinplate/line.zero") w = .ok (164, v) w := by kernel_rfl
theorem wm_plus (v : Value) (w : World) : Sem.run Tryz.prog (method 266 104 v "tinplate/line.plus") w = .ok (162, v) w := by kernel_rfl
theorem wm_times (v : Value) (w : World) : Sem.run Tryz.prog (method 266 104 v "tinplate/line.times") w = .ok (163, v) w := by kernel_rfl
theorem wm_one (v : Value) (w : World) : Sem.run Tryz.prog (method 266 104 v "tinplate/line.one") w = .ok (161, v) w := by kernel_rfl
set_option maxHeartbeats 1000000 in
theorem wsumT_c (p0 p1 p2 : Value) (n : Nat) (f : Nat → E) (w : World) (hn : n ≤ 6) (hb : ∀ k, k < n → bdE KB (f k))
    (hf : ∀ k, k < n → ∀ W, Ext w W → Calls Tryz.prog 139 #[.int .i64 (k : Int), p0, p1, p2] W fun e w' => e = .returned (bv (f k)) ∧ Ext W w') :
    Calls Tryz.prog 138 #[.int .i64 (n : Int), .func (.func 139) #[] #[p0, p1, p2]] w fun e w' => e = .returned (bv (es f n)) ∧ Ext w w' := by
  have HB := Lib.hid hb
  have HF := Lib.hid hf
  clear hb hf
  have hz := wm_zero
  have hp := wm_plus
  go_enter Tryz.func138, Tryz.ntmps138
  go_wp2_with fail
  refine (wzero_c _ w).mono ?_
  rintro e w' ⟨rfl, rfl⟩
  go_wp2_with fail
  go_loopw [5, 11] (fun t k wr => ∃ q : Nat, k = .int .i64 q ∧ q ≤ n ∧ t = bv (es f q) ∧ Ext w wr) (fun _ k _ => n - (intOf k).toNat)
  case atStart => exact ⟨0, rfl, Nat.zero_le _, rfl, Ext.refl _⟩
  case round =>
    obtain ⟨q, rfl, hq, rfl, hE⟩ := hrel
    have HE := Lib.hid hE
    clear hE
    have hb1 : bdE KB (es f q) := bdE_es fun k hk => HB.out k (by omega)
    by_cases hlt : q < n
    · have HC := Lib.hid (HF.out q hlt wr HE.out)
      have hb2 := HB.out q hlt
      have HES := Lib.hid (show es f (q + 1) = em (es f q) (f q) from rfl)
      generalize f q = fq at *
      generalize es f q = tq at *
      go_wp2_with fail
      refine HC.out.mono ?_
      rintro e w2 ⟨rfl, hE⟩
      have HE2 := Lib.hid (Ext.trans HE.out hE)
      clear hE
      go_wp2_with fail
      refine (wplus_c tq fq w2).mono ?_
      rintro e w3 ⟨rfl, rfl⟩
      go_wp2_with fail
      exact ⟨⟨q + 1, by simp, by omega, by rw [HES.out], HE2.out⟩, by simp [intOf]; omega⟩
    · obtain rfl : q = n := by omega
      go_wp2_with fail
      go_ret
      exact ⟨rfl, HE.out⟩
/-- A slice of n numbers. -/
def WVecAt (w : World) (v : Value) (n : Nat) (x : Nat → E) : Prop :=
  ∃ b o cap, v = .slice (some ⟨b, o, none⟩) n cap ∧ n ≤ cap ∧ cap ≤ 9223372036854775807 ∧ ∀ i, i < n → w.cell? ⟨b, o + i, none⟩ = some (bv (x i))
/-- A slice of n rows of n numbers. -/
def WMatAt (w : World) (v : Value) (n : Nat) (M : MF) : Prop :=
  ∃ b o cap, v = .slice (some ⟨b, o, none⟩) n cap ∧ n ≤ cap ∧ cap ≤ 9223372036854775807 ∧ ∀ i, i < n → ∃ u, w.cell? ⟨b, o + i, none⟩ = some u ∧ WVecAt w u n (M i)
theorem WVecAt.ext {w w' : World} {v : Value} {n : Nat} {x : Nat → E} (h : WVecAt w v n x) (he : Ext w w') : WVecAt w' v n x := by
  obtain ⟨b, o, cap, h1, h2, h3, h4⟩ := h
  exact ⟨b, o, cap, h1, h2, h3, fun i hi => Ext.cell he (h4 i hi)⟩
theorem WMatAt.ext {w w' : World} {v : Value} {n : Nat} {M : MF} (h : WMatAt w v n M) (he : Ext w w') : WMatAt w' v n M := by
  obtain ⟨b, o, cap, h1, h2, h3, h4⟩ := h
  refine ⟨b, o, cap, h1, h2, h3, fun i hi => ?_⟩
  obtain ⟨u, h5, h6⟩ := h4 i hi
  exact ⟨u, Ext.cell he h5, h6.ext he⟩
theorem WVecAt.congr {w : World} {v : Value} {n : Nat} {x y : Nat → E} (h : WVecAt w v n x) (e : ∀ i, i < n → x i = y i) : WVecAt w v n y := by
  obtain ⟨b, o, cap, h1, h2, h3, h4⟩ := h
  exact ⟨b, o, cap, h1, h2, h3, fun i hi => by rw [← e i hi]; exact h4 i hi⟩
theorem WMatAt.congr {w : World} {v : Value} {n : Nat} {A B : MF} (h : WMatAt w v n A) (e : eqF n A B) : WMatAt w v n B := by
  obtain ⟨b, o, cap, h1, h2, h3, h4⟩ := h
  refine ⟨b, o, cap, h1, h2, h3, fun i hi => ?_⟩
  obtain ⟨u, h5, h6⟩ := h4 i hi
  exact ⟨u, h5, h6.congr (e i hi)⟩
set_option maxHeartbeats 1000000 in
theorem wtimes1_c (P1 P2 P3 n k j : Nat) (rv mv : Value) (x : Nat → E) (B : MF) (w : World) (hk : k < n) (hj : j < n) (hr : WVecAt w rv n x) (hm : WMatAt w mv n B)
    (h1 : w.cell? ⟨P1, 0, none⟩ = some rv) (h2 : w.cell? ⟨P2, 0, none⟩ = some mv) (h3 : w.cell? ⟨P3, 0, none⟩ = some (.int .i64 (j : Int))) (hx : bdE KB (x k)) (hB : bdE KB (B k j)) :
    Calls Tryz.prog 139 #[.int .i64 (k : Int), .pointer (some ⟨P1, 0, none⟩), .pointer (some ⟨P2, 0, none⟩), .pointer (some ⟨P3, 0, none⟩)] w fun e w' => e = .returned (bv (ep (x k) (B k j))) ∧ Ext w w' := by
  obtain ⟨rb, ro, rc, rfl, hr1, hr2, hr3⟩ := hr
  obtain ⟨mb, mo, mc, rfl, hm1, hm2, hm3⟩ := hm
  obtain ⟨u, c2, ⟨sb, so, sc, rfl, hs1, hs2, hs3⟩⟩ := hm3 k hk
  have HC1 := Lib.hid (hr3 k hk)
  have HC2 := Lib.hid c2
  have HC3 := Lib.hid (hs3 j hj)
  have HP1 := Lib.hid h1
  have HP2 := Lib.hid h2
  have HP3 := Lib.hid h3
  have HM := Lib.hid (fun W => wtimes_c (x k) (B k j) W)
  have HT := Lib.hid wm_times
  clear hr3 hm3 c2 hs3 h1 h2 h3 hx hB
  generalize ep (x k) (B k j) = z at *
  generalize x k = xk at *
  generalize B k j = bkj at *
  go_enter Tryz.func139, Tryz.ntmps139
  go_wp2_with fail
  refine wp_region_stable_last [⟨[], none⟩, ⟨[], none⟩, ⟨[(0, 6), (1, 7)], none⟩, ⟨[(2, 8)], none⟩, ⟨[(3, 9)], none⟩, ⟨[], none⟩, ⟨[], none⟩, ⟨[(5, 11), (6, 12)], none⟩, ⟨[(7, 13)], none⟩, ⟨[], none⟩, ⟨[(8, 14), (9, 15)], none⟩, ⟨[(10, 16)], none⟩, ⟨[(4, 10), (11, 17)], none⟩] (fun x y => Below x.heap.size x y) (MPat [MP.eq (.slice (some ⟨rb, ro, none⟩) n rc), MP.eq (.int .i64 (k : Int)), MP.eq (.pointer (some ⟨rb, ro + k, none⟩)), MP.eq (bv xk), MP.eq (.iface 104 (bv xk)), MP.eq (.slice (some ⟨mb, mo, none⟩) n mc), MP.eq (.int .i64 (k : Int)), MP.eq (.pointer (some ⟨mb, mo + k, none⟩)), MP.eq (.slice (some ⟨sb, so, none⟩) n sc), MP.eq (.int .i64 (j : Int)), MP.eq (.pointer (some ⟨sb, so + j, none⟩)), MP.eq (bv bkj), MP.eq (bv z)]) rfl (by kernel_rfl) (fun _ _ _ h k => Ext.trans h k) (fun _ => Below.refl _ _) (fun x => (Below.refl x.heap.size x).drew) (MPat.mono _) (by kernel_rfl) (by kernel_rfl) (by kernel_rfl) ?obs ?rest
  case obs =>
    refine ⟨?_, ?_, ?_, ?_, ?_, ?_, ?_, ?_, ?_, ?_, ?_, ?_, ?_, trivial⟩
    · intro ev W hf _ _ hst hd
      have e1 : ev (.tmp 1) = .pointer (some ⟨P1, 0, none⟩) := hf 1 (by kernel_rfl)
      have q0 := Ext.cell hst HP1.out
      refine st_value (v := .slice (some ⟨rb, ro, none⟩) n rc) ?_ (Below.refl _ _) ?_
      · simp [execOp, go_sem, e1, q0]
      · exact rfl
    · intro ev W hf _ _ hst hd
      have e0 : ev (.tmp 0) = .int .i64 (k : Int) := hf 0 (by kernel_rfl)
      refine st_value (v := .int .i64 (k : Int)) ?_ (Below.refl _ _) ?_
      · simp [execOp, go_sem, e0]
      · exact rfl
    · intro ev W hf _ _ hst hd
      obtain ⟨d6, d7, _⟩ := hd
      have e6 : ev (.tmp 6) = .slice (some ⟨rb, ro, none⟩) n rc := d6
      have e7 : ev (.tmp 7) = .int .i64 (k : Int) := d7
      refine st_value (v := .pointer (some ⟨rb, ro + k, none⟩)) ?_ (Below.refl _ _) ?_
      · simp [execOp, go_sem, e6, e7, hk]
      · exact rfl
    · intro ev W hf _ _ hst hd
      obtain ⟨d8, _⟩ := hd
      have e8 : ev (.tmp 8) = .pointer (some ⟨rb, ro + k, none⟩) := d8
      have q0 := Ext.cell hst HC1.out
      refine st_value (v := bv xk) ?_ (Below.refl _ _) ?_
      · simp [execOp, go_sem, e8, q0]
      · exact rfl
    · intro ev W hf _ _ hst hd
      obtain ⟨d9, _⟩ := hd
      have e9 : ev (.tmp 9) = bv xk := d9
      refine st_value (v := .iface 104 (bv xk)) ?_ (Below.refl _ _) ?_
      · simp [execOp, go_sem, e9]
      · exact rfl
    · intro ev W hf _ _ hst hd
      have e2 : ev (.tmp 2) = .pointer (some ⟨P2, 0, none⟩) := hf 2 (by kernel_rfl)
      have q0 := Ext.cell hst HP2.out
      refine st_value (v := .slice (some ⟨mb, mo, none⟩) n mc) ?_ (Below.refl _ _) ?_
      · simp [execOp, go_sem, e2, q0]
      · exact rfl
    · intro ev W hf _ _ hst hd
      have e0 : ev (.tmp 0) = .int .i64 (k : Int) := hf 0 (by kernel_rfl)
      refine st_value (v := .int .i64 (k : Int)) ?_ (Below.refl _ _) ?_
      · simp [execOp, go_sem, e0]
      · exact rfl
    · intro ev W hf _ _ hst hd
      obtain ⟨d11, d12, _⟩ := hd
      have e11 : ev (.tmp 11) = .slice (some ⟨mb, mo, none⟩) n mc := d11
      have e12 : ev (.tmp 12) = .int .i64 (k : Int) := d12
      refine st_value (v := .pointer (some ⟨mb, mo + k, none⟩)) ?_ (Below.refl _ _) ?_
      · simp [execOp, go_sem, e11, e12, hk]
      · exact rfl
    · intro ev W hf _ _ hst hd
      obtain ⟨d13, _⟩ := hd
      have e13 : ev (.tmp 13) = .pointer (some ⟨mb, mo + k, none⟩) := d13
      have q0 := Ext.cell hst HC2.out
      refine st_value (v := .slice (some ⟨sb, so, none⟩) n sc) ?_ (Below.refl _ _) ?_
      · simp [execOp, go_sem, e13, q0]
      · exact rfl
    · intro ev W hf _ _ hst hd
      have e3 : ev (.tmp 3) = .pointer (some ⟨P3, 0, none⟩) := hf 3 (by kernel_rfl)
      have q0 := Ext.cell hst HP3.out
      refine st_value (v := .int .i64 (j : Int)) ?_ (Below.refl _ _) ?_
      · simp [execOp, go_sem, e3, q0]
      · exact rfl
    · intro ev W hf _ _ hst hd
      obtain ⟨d14, d15, _⟩ := hd
      have e14 : ev (.tmp 14) = .slice (some ⟨sb, so, none⟩) n sc := d14
      have e15 : ev (.tmp 15) = .int .i64 (j : Int) := d15
      refine st_value (v := .pointer (some ⟨sb, so + j, none⟩)) ?_ (Below.refl _ _) ?_
      · simp [execOp, go_sem, e14, e15, hj]
      · exact rfl
    · intro ev W hf _ _ hst hd
      obtain ⟨d16, _⟩ := hd
      have e16 : ev (.tmp 16) = .pointer (some ⟨sb, so + j, none⟩) := d16
      have q0 := Ext.cell hst HC3.out
      refine st_value (v := bv bkj) ?_ (Below.refl _ _) ?_
      · simp [execOp, go_sem, e16, q0]
      · exact rfl
    · intro ev W hf _ hfn hst hd
      obtain ⟨d10, d17, _⟩ := hd
      have e10 : ev (.tmp 10) = .iface 104 (bv xk) := d10
      have e17 : ev (.tmp 17) = bv bkj := d17
      clear hfn
      refine st_call (f := 163) (args := #[bv xk, bv bkj]) (by simp [execOp, go_sem, e10, e17, HT.out]) ((HM.out _).mono fun _ _ he => ⟨he.1, by rw [← he.2]; exact Ext.refl _⟩) (fun _ _ => rfl)
  case rest =>
    intro vs w3 hl hst hg
    have HE3 := Lib.hid hst
    have hvs : vs = [.slice (some ⟨rb, ro, none⟩) n rc, .int .i64 (k : Int), .pointer (some ⟨rb, ro + k, none⟩), bv xk, .iface 104 (bv xk), .slice (some ⟨mb, mo, none⟩) n mc, .int .i64 (k : Int), .pointer (some ⟨mb, mo + k, none⟩), .slice (some ⟨sb, so, none⟩) n sc, .int .i64 (j : Int), .pointer (some ⟨sb, so + j, none⟩), bv bkj, bv z] := list_of hl (fun i u hu => by
      match i, hu with
      | 0, hu => exact (congrArg some (hg 0 u hu)).symm
      | 1, hu => exact (congrArg some (hg 1 u hu)).symm
      | 2, hu => exact (congrArg some (hg 2 u hu)).symm
      | 3, hu => exact (congrArg some (hg 3 u hu)).symm
      | 4, hu => exact (congrArg some (hg 4 u hu)).symm
      | 5, hu => exact (congrArg some (hg 5 u hu)).symm
      | 6, hu => exact (congrArg some (hg 6 u hu)).symm
      | 7, hu => exact (congrArg some (hg 7 u hu)).symm
      | 8, hu => exact (congrArg some (hg 8 u hu)).symm
      | 9, hu => exact (congrArg some (hg 9 u hu)).symm
      | 10, hu => exact (congrArg some (hg 10 u hu)).symm
      | 11, hu => exact (congrArg some (hg 11 u hu)).symm
      | 12, hu => exact (congrArg some (hg 12 u hu)).symm
      | n + 13, hu => exact absurd (lt_len hu) (by rw [hl]; simp))
    clear hg hst hl
    subst hvs
    simp only [putAll, Act.put, List.dropLast, List.setIfInBounds_toArray, List.set_cons_zero, List.set_cons_succ]
    go_wp2_with fail
    go_ret
    exact ⟨rfl, HE3.out⟩
end Go.Proofs.YtbcngojiikdigaaGreat
