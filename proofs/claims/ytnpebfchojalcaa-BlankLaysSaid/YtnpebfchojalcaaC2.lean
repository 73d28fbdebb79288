import Derived.Test.YtnpebfchojalcaaC1
import Derived.Test.YtnpebfchojalcaaB8
namespace Go.Proofs.Ytnpebfchojalcaa
set_option maxRecDepth 100000
open Go.RowKit Go.Shelf
def rectV (x y : Int) : Value := .agg #[.int .i64 x, .int .i64 y]
def tripV (t : It) : Value := .agg #[.int .i64 t.1, .int .i64 t.2.1, .int .i64 t.2.2]
theorem fits_false {w h : Nat} {t : It} (e : ¬ (t.1 ≤ (w : Int) ∧ t.2.1 ≤ (h : Int))) : fitsB w h t = false := by
  rw [Bool.eq_false_iff]; intro h; simp only [fitsB, Bool.and_eq_true, decide_eq_true_eq] at h; exact e h
theorem fits_true {w h : Nat} {t : It} (e : t.1 ≤ (w : Int) ∧ t.2.1 ≤ (h : Int)) : fitsB w h t = true := by
  simp only [fitsB, Bool.and_eq_true, decide_eq_true_eq]; exact e
theorem fits_iff {w h : Nat} {t : It} (e : fitsB w h t = true) : t.1 ≤ (w : Int) ∧ t.2.1 ≤ (h : Int) := by
  simpa only [fitsB, Bool.and_eq_true, decide_eq_true_eq] using e
theorem holds_c (x y : Nat) (t : It) (w : World) : Calls Try.prog 121 #[rectV x y, tripV t] w fun e w' => e = .returned (.bool (fitsB x y t)) ∧ Ext w w' := by
  obtain ⟨t1, t2, t3⟩ := t
  have hE := Ext.alloc (Ext.alloc (Ext.refl w) (.cells #[.int .i64 (x : Int), .int .i64 (y : Int)] 92)) (.cells #[.int .i64 t1, .int .i64 t2, .int .i64 t3] 53)
  have HE := Lib.hid hE
  clear hE
  unfold rectV tripV
  by_cases h1 : t1 ≤ (x : Int)
  · by_cases h2 : t2 ≤ (y : Int)
    · rw [fits_true ⟨h1, h2⟩]
      go_enter Try.func121, Try.ntmps121
      go_wp2
      go_ret
      exact ⟨rfl, HE.out⟩
    · rw [fits_false (fun h => h2 h.2)]
      go_enter Try.func121, Try.ntmps121
      go_wp2
      go_ret
      exact ⟨rfl, HE.out⟩
  · rw [fits_false (fun h => h1 h.1)]
    go_enter Try.func121, Try.ntmps121
    go_wp2
    go_ret
    exact ⟨rfl, HE.out⟩
/-- an entry of the table of choices -/
def Entry (w : World) (cv : Value) (a b : Nat) (c : It) : Prop := ∃ T o n cap R o2 n2 cap2, cv = .slice (some ⟨T, o, none⟩) n cap ∧ a < n ∧ w.cell? ⟨T, o + a, none⟩ = some (.slice (some ⟨R, o2, none⟩) n2 cap2) ∧ b < n2 ∧
  w.cell? ⟨R, o2 + b * 3, none⟩ = some (.int .i64 c.1) ∧ w.cell? ⟨R, o2 + b * 3 + 1, none⟩ = some (.int .i64 c.2.1) ∧ w.cell? ⟨R, o2 + b * 3 + 2, none⟩ = some (.int .i64 c.2.2)
theorem Entry.ext {w w' : World} {cv : Value} {a b : Nat} {c : It} (h : Entry w cv a b c) (he : Ext w w') : Entry w' cv a b c := by
  obtain ⟨T, o, n, cap, R, o2, n2, cap2, h1, h2, h3, h4, h5, h6, h7⟩ := h
  exact ⟨T, o, n, cap, R, o2, n2, cap2, h1, h2, Ext.cell he h3, h4, Ext.cell he h5, Ext.cell he h6, Ext.cell he h7⟩
set_option maxHeartbeats 1000000 in
theorem of_c (cv : Value) (a b : Nat) (c : It) (w : World) (h : Entry w cv a b c) : Calls Try.prog 66 #[cv, rectV a b] w fun e w' => e = .returned (tripV c) ∧ Ext w w' := by
  obtain ⟨T, o, n, cap, R, o2, n2, cap2, rfl, h2, h3, h4, h5, h6, h7⟩ := h
  obtain ⟨c1, c2, c3⟩ := c
  simp only at h5 h6 h7
  unfold rectV tripV
  have hE := Ext.alloc (Ext.alloc (Ext.refl w) (.cells #[.int .i64 (a : Int), .int .i64 (b : Int)] 92)) (.cells #[.int .i64 0, .int .i64 0, .int .i64 0] 100)
  have HC := Lib.hid (Ext.cell hE h3)
  have H5 := Lib.hid (Ext.cell hE h5)
  have H6 := Lib.hid (Ext.cell hE h6)
  have H7 := Lib.hid (Ext.cell hE h7)
  have HR := Lib.hid ((vrow_alloc w [.int .i64 (a : Int), .int .i64 (b : Int)] 92).alloc (.cells #[.int .i64 0, .int .i64 0, .int .i64 0] 100))
  have s1 : (w.alloc (.cells #[.int .i64 (a : Int), .int .i64 (b : Int)] 92)).heap.size = w.heap.size + 1 := by simp
  have hO := vrow_alloc (w.alloc (.cells #[.int .i64 (a : Int), .int .i64 (b : Int)] 92)) [.int .i64 0, .int .i64 0, .int .i64 0] 100
  rw [s1] at hO
  have HO := Lib.hid (show VRow ((w.alloc (.cells #[.int .i64 (a : Int), .int .i64 (b : Int)] 92)).alloc (.cells #[.int .i64 0, .int .i64 0, .int .i64 0] 100)) _ _ _ from hO)
  replace HR := Lib.hid (show VRow ((w.alloc (.cells #[.int .i64 (a : Int), .int .i64 (b : Int)] 92)).alloc (.cells #[.int .i64 0, .int .i64 0, .int .i64 0] 100)) _ _ _ from HR.out)
  have HE := Lib.hid hE
  clear hE h3 h5 h6 h7 hO
  go_enter Try.func66, Try.ntmps66
  go_wp2_with fail
  clear s1
  generalize (w.alloc (.cells #[.int .i64 (a : Int), .int .i64 (b : Int)] 92)).alloc (.cells #[.int .i64 0, .int .i64 0, .int .i64 0] 100) = w1 at *
  refine wp_region_stable_last [⟨[], none⟩, ⟨[], none⟩, ⟨[(1, 6)], none⟩, ⟨[(0, 5), (2, 7)], none⟩, ⟨[(3, 8)], none⟩, ⟨[], none⟩, ⟨[(5, 10)], none⟩, ⟨[(4, 9), (6, 11)], none⟩, ⟨[(7, 12)], none⟩] (fun x y => Below x.heap.size x y) (MPat [MP.eq (.slice (some ⟨T, o, none⟩) n cap), MP.eq (.pointer (some ⟨w.heap.size, 0, none⟩)), MP.eq (.int .i64 (a : Int)), MP.eq (.pointer (some ⟨T, o + a, none⟩)), MP.eq (.slice (some ⟨R, o2, none⟩) n2 cap2), MP.eq (.pointer (some ⟨w.heap.size, 1, none⟩)), MP.eq (.int .i64 (b : Int)), MP.eq (.pointer (some ⟨R, o2 + b * 3, none⟩)), MP.eq (.agg #[.int .i64 c1, .int .i64 c2, .int .i64 c3])]) rfl (by kernel_rfl) (fun _ _ _ h k => Ext.trans h k) (fun _ => Below.refl _ _) (fun x => (Below.refl x.heap.size x).drew) (MPat.mono _) (by kernel_rfl) (by kernel_rfl) (by kernel_rfl) ?obs ?rest
  case obs =>
    refine ⟨?_, ?_, ?_, ?_, ?_, ?_, ?_, ?_, ?_, trivial⟩
    · intro ev W hf _ _ hst hd
      have e0 : ev (.tmp 0) = .slice (some ⟨T, o, none⟩) n cap := hf 0 (by kernel_rfl)
      refine st_value (v := .slice (some ⟨T, o, none⟩) n cap) ?_ (Below.refl _ _) ?_
      · simp [execOp, go_sem, e0]
      · exact rfl
    · intro ev W hf _ _ hst hd
      have e3 : ev (.tmp 3) = .pointer (some ⟨w.heap.size, 0, none⟩) := hf 3 (by kernel_rfl)
      refine st_value (v := .pointer (some ⟨w.heap.size, 0, none⟩)) ?_ (Below.refl _ _) ?_
      · simp [execOp, go_sem, e3]
      · exact rfl
    · intro ev W hf _ _ hst hd
      obtain ⟨d6, _⟩ := hd
      have e6 : ev (.tmp 6) = .pointer (some ⟨w.heap.size, 0, none⟩) := d6
      have kk := VRow.ext HR.out hst
      have k0 := VRow.cell kk (k := 0) rfl
      refine st_value (v := .int .i64 (a : Int)) ?_ (Below.refl _ _) ?_
      · simp [execOp, go_sem, e6, k0]
      · exact rfl
    · intro ev W hf _ _ hst hd
      obtain ⟨d5, d7, _⟩ := hd
      have e5 : ev (.tmp 5) = .slice (some ⟨T, o, none⟩) n cap := d5
      have e7 : ev (.tmp 7) = .int .i64 (a : Int) := d7
      refine st_value (v := .pointer (some ⟨T, o + a, none⟩)) ?_ (Below.refl _ _) ?_
      · simp [execOp, go_sem, e5, e7, h2]
      · exact rfl
    · intro ev W hf _ _ hst hd
      obtain ⟨d8, _⟩ := hd
      have e8 : ev (.tmp 8) = .pointer (some ⟨T, o + a, none⟩) := d8
      have q0 := Ext.cell hst HC.out
      refine st_value (v := .slice (some ⟨R, o2, none⟩) n2 cap2) ?_ (Below.refl _ _) ?_
      · simp [execOp, go_sem, e8, q0]
      · exact rfl
    · intro ev W hf _ _ hst hd
      have e3 : ev (.tmp 3) = .pointer (some ⟨w.heap.size, 0, none⟩) := hf 3 (by kernel_rfl)
      refine st_value (v := .pointer (some ⟨w.heap.size, 1, none⟩)) ?_ (Below.refl _ _) ?_
      · simp [execOp, go_sem, e3]
      · exact rfl
    · intro ev W hf _ _ hst hd
      obtain ⟨d10, _⟩ := hd
      have e10 : ev (.tmp 10) = .pointer (some ⟨w.heap.size, 1, none⟩) := d10
      have kk := VRow.ext HR.out hst
      have k1 := VRow.cell kk (k := 1) rfl
      refine st_value (v := .int .i64 (b : Int)) ?_ (Below.refl _ _) ?_
      · simp [execOp, go_sem, e10, k1]
      · exact rfl
    · intro ev W hf _ _ hst hd
      obtain ⟨d9, d11, _⟩ := hd
      have e9 : ev (.tmp 9) = .slice (some ⟨R, o2, none⟩) n2 cap2 := d9
      have e11 : ev (.tmp 11) = .int .i64 (b : Int) := d11
      refine st_value (v := .pointer (some ⟨R, o2 + b * 3, none⟩)) ?_ (Below.refl _ _) ?_
      · simp [execOp, go_sem, e9, e11, h4]
      · exact rfl
    · intro ev W hf _ _ hst hd
      obtain ⟨d12, _⟩ := hd
      have e12 : ev (.tmp 12) = .pointer (some ⟨R, o2 + b * 3, none⟩) := d12
      have q0 := Ext.cell hst H5.out
      have q1 := Ext.cell hst H6.out
      have q2 := Ext.cell hst H7.out
      refine st_value (v := .agg #[.int .i64 c1, .int .i64 c2, .int .i64 c3]) ?_ (Below.refl _ _) ?_
      · simp [execOp, go_sem, e12, q0, q1, q2]
      · exact rfl
  case rest =>
    intro vs w3 hl hst hg
    have hx0 : ∀ u, vs[0]? = some u → u = .slice (some ⟨T, o, none⟩) n cap := fun u hu => hg 0 u hu
    have hx1 : ∀ u, vs[1]? = some u → u = .pointer (some ⟨w.heap.size, 0, none⟩) := fun u hu => hg 1 u hu
    have hx2 : ∀ u, vs[2]? = some u → u = .int .i64 (a : Int) := fun u hu => hg 2 u hu
    have hx3 : ∀ u, vs[3]? = some u → u = .pointer (some ⟨T, o + a, none⟩) := fun u hu => hg 3 u hu
    have hx4 : ∀ u, vs[4]? = some u → u = .slice (some ⟨R, o2, none⟩) n2 cap2 := fun u hu => hg 4 u hu
    have hx5 : ∀ u, vs[5]? = some u → u = .pointer (some ⟨w.heap.size, 1, none⟩) := fun u hu => hg 5 u hu
    have hx6 : ∀ u, vs[6]? = some u → u = .int .i64 (b : Int) := fun u hu => hg 6 u hu
    have hx7 : ∀ u, vs[7]? = some u → u = .pointer (some ⟨R, o2 + b * 3, none⟩) := fun u hu => hg 7 u hu
    have hx8 : ∀ u, vs[8]? = some u → u = .agg #[.int .i64 c1, .int .i64 c2, .int .i64 c3] := fun u hu => hg 8 u hu
    have HE3 := Lib.hid hst
    clear hg hst
    obtain ⟨x0, vs0, rfl, hl0⟩ := len_succ hl
    obtain ⟨x1, vs1, rfl, hl1⟩ := len_succ hl0
    obtain ⟨x2, vs2, rfl, hl2⟩ := len_succ hl1
    obtain ⟨x3, vs3, rfl, hl3⟩ := len_succ hl2
    obtain ⟨x4, vs4, rfl, hl4⟩ := len_succ hl3
    obtain ⟨x5, vs5, rfl, hl5⟩ := len_succ hl4
    obtain ⟨x6, vs6, rfl, hl6⟩ := len_succ hl5
    obtain ⟨x7, vs7, rfl, hl7⟩ := len_succ hl6
    obtain ⟨x8, vs8, rfl, hl8⟩ := len_succ hl7
    have hnil : vs8 = [] := List.length_eq_zero_iff.1 hl8
    subst hnil
    obtain rfl : x0 = .slice (some ⟨T, o, none⟩) n cap := hx0 _ rfl
    obtain rfl : x1 = .pointer (some ⟨w.heap.size, 0, none⟩) := hx1 _ rfl
    obtain rfl : x2 = .int .i64 (a : Int) := hx2 _ rfl
    obtain rfl : x3 = .pointer (some ⟨T, o + a, none⟩) := hx3 _ rfl
    obtain rfl : x4 = .slice (some ⟨R, o2, none⟩) n2 cap2 := hx4 _ rfl
    obtain rfl : x5 = .pointer (some ⟨w.heap.size, 1, none⟩) := hx5 _ rfl
    obtain rfl : x6 = .int .i64 (b : Int) := hx6 _ rfl
    obtain rfl : x7 = .pointer (some ⟨R, o2 + b * 3, none⟩) := hx7 _ rfl
    obtain rfl : x8 = .agg #[.int .i64 c1, .int .i64 c2, .int .i64 c3] := hx8 _ rfl
    clear hx0 hx1 hx2 hx3 hx4 hx5 hx6 hx7 hx8
    simp only [putAll, Act.put, List.dropLast, List.setIfInBounds_toArray, List.set_cons_zero, List.set_cons_succ]
    have hB := VRow.ext HO.out HE3.out
    have m0 := VRow.cell hB (k := 0) rfl
    have m1 := VRow.cell hB (k := 1) rfl
    have m2 := VRow.cell hB (k := 2) rfl
    have f0 := VRow.frozen hB 0 none
    have f1 := VRow.frozen hB 1 none
    have f2 := VRow.frozen hB 2 none
    go_wp2_with fail
    (try simp only [Exit.inBlock, Exit.then])
    have hF := vrow3_put hB (.int .i64 c1) (.int .i64 c2) (.int .i64 c3)
    have n0 := VRow.cell hF (k := 0) rfl
    have n1 := VRow.cell hF (k := 1) rfl
    have n2' := VRow.cell hF (k := 2) rfl
    refine bodyPost_ret (v := .agg #[.int .i64 c1, .int .i64 c2, .int .i64 c3]) (by rw [results_cell1 rfl]; go_simp) rfl ?_
    exact ⟨rfl, ext3_put (Ext.trans HE.out HE3.out) (Nat.le_succ _) _ _ _⟩
/-- the offer of a value -/
theorem offer_c (g : Nat) (b o : It) (w : World) (h : VRow w g 100 [.int .i64 b.1, .int .i64 b.2.1, .int .i64 b.2.2]) : Calls Try.prog 122 #[.int .i64 o.1, .int .i64 o.2.1, .int .i64 o.2.2, .pointer (some ⟨g, 0, none⟩)] w fun e w' =>
    (∃ v, e = .returned v) ∧ VRow w' g 100 [.int .i64 (pickZ b o).1, .int .i64 (pickZ b o).2.1, .int .i64 (pickZ b o).2.2] ∧ w.grownBy w' (some g) := by
  obtain ⟨b1, b2, b3⟩ := b
  obtain ⟨o1, o2, o3⟩ := o
  simp only at h ⊢
  have c0 := VRow.cell h (k := 0) rfl
  have c1 := VRow.cell h (k := 1) rfl
  have c2 := VRow.cell h (k := 2) rfl
  have f0 := VRow.frozen h 0 none
  have f1 := VRow.frozen h 1 none
  have f2 := VRow.frozen h 2 none
  have H := Lib.hid h
  have hlt := VRow.lt h
  clear h
  by_cases hc : b1 < o1
  · have e : pickZ (b1, b2, b3) (o1, o2, o3) = (o1, o2, o3) := by unfold pickZ; rw [if_pos hc]
    rw [e]
    clear e
    go_enter Try.func122, Try.ntmps122
    go_wp2_with fail
    go_end0
    refine ⟨⟨_, rfl⟩, VRow.set (VRow.set (VRow.set H.out 0 _) 1 _) 2 _, ?_⟩
    exact grown_trans' (grown_trans' (grown_set _ _ _ _) (grown_set _ _ _ _)) (grown_set _ _ _ _)
  · have e : pickZ (b1, b2, b3) (o1, o2, o3) = (b1, b2, b3) := by unfold pickZ; rw [if_neg hc]
    rw [e]
    clear e
    go_enter Try.func122, Try.ntmps122
    go_wp2_with fail
    go_end0
    exact ⟨⟨_, rfl⟩, H.out, grown_ext (Ext.refl _)⟩
end Go.Proofs.Ytnpebfchojalcaa
