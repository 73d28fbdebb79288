import Derived.Test.YtnoacppfgckohaaM16
namespace Go.Proofs.Ytnoacppfgckohaa
open Go.RowKit Go.Shelf
attribute [local go_sem] Oper.semAt_some
def in4 (x : Int) : Prop := -10000 ≤ x ∧ x ≤ 10000
set_option maxRecDepth 100000 in
set_option maxHeartbeats 1000000 in
theorem leftOf_c (a1 a2 b1 b2 c1 c2 : Int) (w : World) (ha : in4 a1 ∧ in4 a2) (hb : in4 b1 ∧ in4 b2) (hc : in4 c1 ∧ in4 c2) :
    Calls Try.prog 65 #[vecV a1 a2, vecV b1 b2, vecV c1 c2] w fun e w' => e = .returned (.bool (leftB (a1, a2) (b1, b2) (c1, c2))) ∧ Ext w w' := by
  have hm0 := VRow.alloc (VRow.alloc (vrow_alloc w [.int .i64 a1, .int .i64 a2] 31) (.cells #[.int .i64 b1, .int .i64 b2] 31)) (.cells #[.int .i64 c1, .int .i64 c2] 31)
  have hn0 := VRow.alloc (vrow_alloc (w.alloc (.cells #[.int .i64 a1, .int .i64 a2] 31)) [.int .i64 b1, .int .i64 b2] 31) (.cells #[.int .i64 c1, .int .i64 c2] 31)
  have hp0 := vrow_alloc ((w.alloc (.cells #[.int .i64 a1, .int .i64 a2] 31)).alloc (.cells #[.int .i64 b1, .int .i64 b2] 31)) [.int .i64 c1, .int .i64 c2] 31
  have hE := Ext.alloc (Ext.alloc (Ext.alloc (Ext.refl w) (.cells #[.int .i64 a1, .int .i64 a2] 31)) (.cells #[.int .i64 b1, .int .i64 b2] 31)) (.cells #[.int .i64 c1, .int .i64 c2] 31)
  have hs1 : (w.alloc (.cells #[.int .i64 a1, .int .i64 a2] 31)).heap.size = w.heap.size + 1 := by simp
  have hs2 : ((w.alloc (.cells #[.int .i64 a1, .int .i64 a2] 31)).alloc (.cells #[.int .i64 b1, .int .i64 b2] 31)).heap.size = w.heap.size + 2 := by simp
  rw [hs1] at hn0
  rw [hs2] at hp0
  change VRow (((w.alloc (.cells #[.int .i64 a1, .int .i64 a2] 31)).alloc (.cells #[.int .i64 b1, .int .i64 b2] 31)).alloc (.cells #[.int .i64 c1, .int .i64 c2] 31)) _ _ _ at hm0 hn0 hp0
  have HM := Lib.hid hm0
  have HN := Lib.hid hn0
  have HQ := Lib.hid hp0
  have HE := Lib.hid hE
  have hf : fine a1 ∧ fine a2 ∧ fine b1 ∧ fine b2 ∧ fine c1 ∧ fine c2 ∧ fine (b1 - a1) ∧ fine (b2 - a2) ∧ fine (c1 - a1) ∧ fine (c2 - a2) := by unfold in4 at *; unfold fine; omega
  have HF := Lib.hid hf
  obtain ⟨B, hB⟩ : ∃ B, B = leftB (a1, a2) (b1, b2) (c1, c2) := ⟨_, rfl⟩
  have HBB := Lib.hid hB
  have HLT := Lib.hid (show decide (0 < crossZ (b1 - a1) (b2 - a2) (c1 - a1) (c2 - a2)) = B from hB.symm)
  rw [← hB]
  clear hs1 hs2 hm0 hn0 hp0 hE ha hb hc hf hB
  go_enter Try.func65, Try.ntmps65
  go_wp2_with fail
  generalize (((w.alloc (.cells #[.int .i64 a1, .int .i64 a2] 31)).alloc (.cells #[.int .i64 b1, .int .i64 b2] 31)).alloc (.cells #[.int .i64 c1, .int .i64 c2] 31)) = w1 at *
  generalize hs : w.heap.size = s at *
  refine wp_region_stable [⟨[], none⟩, ⟨[], none⟩, ⟨[], none⟩, ⟨[(1, 8), (2, 9)], none⟩, ⟨[(0, 7), (3, 10)], none⟩, ⟨[], none⟩, ⟨[(4, 11), (5, 12)], none⟩, ⟨[(6, 13)], none⟩, ⟨[(7, 14)], none⟩] (fun x y => Below x.heap.size x y) (MPat [MP.eq (vecV a1 a2), MP.eq (vecV b1 b2), MP.eq (vecV a1 a2), MP.eq (vecV (b1 - a1) (b2 - a2)), MP.eq (.agg #[.int .i64 a1, .int .i64 a2, .int .i64 (b1 - a1), .int .i64 (b2 - a2)]), MP.eq (vecV c1 c2), MP.eq (.int .i64 (crossZ (b1 - a1) (b2 - a2) (c1 - a1) (c2 - a2))), MP.eq (.bool B), MP.eq (.bool B)]) (by kernel_rfl) (fun _ _ _ h k => Ext.trans h k) (fun _ => Below.refl _ _) (fun x => (Below.refl x.heap.size x).drew) (MPat.mono _) (by kernel_rfl) ?obs ?rest
  case obs =>
    refine ⟨?_, ?_, ?_, ?_, ?_, ?_, ?_, ?_, ?_, trivial⟩
    · intro ev W hf _ _ hst hd
      have e3 : ev (.tmp 3) = .pointer (some ⟨s, 0, none⟩) := hf 3 (by kernel_rfl)
      have kk := VRow.ext HM.out hst
      have k0 := VRow.cell kk (k := 0) rfl
      have k1 := VRow.cell kk (k := 1) rfl
      refine st_value (v := vecV a1 a2) ?_ (Below.refl _ _) ?_
      · simp [execOp, go_sem, e3, k0, k1]
      · exact rfl
    · intro ev W hf _ _ hst hd
      have e4 : ev (.tmp 4) = .pointer (some ⟨s + 1, 0, none⟩) := hf 4 (by kernel_rfl)
      have kk := VRow.ext HN.out hst
      have k0 := VRow.cell kk (k := 0) rfl
      have k1 := VRow.cell kk (k := 1) rfl
      refine st_value (v := vecV b1 b2) ?_ (Below.refl _ _) ?_
      · simp [execOp, go_sem, e4, k0, k1]
      · exact rfl
    · intro ev W hf _ _ hst hd
      have e3 : ev (.tmp 3) = .pointer (some ⟨s, 0, none⟩) := hf 3 (by kernel_rfl)
      have kk := VRow.ext HM.out hst
      have k0 := VRow.cell kk (k := 0) rfl
      have k1 := VRow.cell kk (k := 1) rfl
      refine st_value (v := vecV a1 a2) ?_ (Below.refl _ _) ?_
      · simp [execOp, go_sem, e3, k0, k1]
      · exact rfl
    · intro ev W hf _ hfn hst hd
      obtain ⟨d8, d9, _⟩ := hd
      have e8 : ev (.tmp 8) = vecV b1 b2 := d8
      have e9 : ev (.tmp 9) = vecV a1 a2 := d9
      refine st_call (f := 57) (args := #[vecV b1 b2, vecV a1 a2]) (by simp [execOp, go_sem, hfn, e8, e9]) (minus_c b1 b2 a1 a2 W HF.out.2.2.1 HF.out.2.2.2.1 HF.out.1 HF.out.2.1) (fun _ _ => rfl)
    · intro ev W hf _ _ hst hd
      obtain ⟨d7, d10, _⟩ := hd
      have e7 : ev (.tmp 7) = vecV a1 a2 := d7
      have e10 : ev (.tmp 10) = vecV (b1 - a1) (b2 - a2) := d10
      refine st_value (v := .agg #[.int .i64 a1, .int .i64 a2, .int .i64 (b1 - a1), .int .i64 (b2 - a2)]) ?_ (Below.refl _ _) ?_
      · simp [execOp, go_sem, e7, e10]
      · exact rfl
    · intro ev W hf _ _ hst hd
      have e5 : ev (.tmp 5) = .pointer (some ⟨s + 2, 0, none⟩) := hf 5 (by kernel_rfl)
      have kk := VRow.ext HQ.out hst
      have k0 := VRow.cell kk (k := 0) rfl
      have k1 := VRow.cell kk (k := 1) rfl
      refine st_value (v := vecV c1 c2) ?_ (Below.refl _ _) ?_
      · simp [execOp, go_sem, e5, k0, k1]
      · exact rfl
    · intro ev W hf _ hfn hst hd
      obtain ⟨d11, d12, _⟩ := hd
      have e11 : ev (.tmp 11) = .agg #[.int .i64 a1, .int .i64 a2, .int .i64 (b1 - a1), .int .i64 (b2 - a2)] := d11
      have e12 : ev (.tmp 12) = vecV c1 c2 := d12
      refine st_call (f := 55) (args := #[.agg #[.int .i64 a1, .int .i64 a2, .int .i64 (b1 - a1), .int .i64 (b2 - a2)], vecV c1 c2]) (by simp [execOp, go_sem, hfn, e11, e12]) (side_c a1 a2 (b1 - a1) (b2 - a2) c1 c2 W HF.out.1 HF.out.2.1 HF.out.2.2.2.2.2.2.1 HF.out.2.2.2.2.2.2.2.1 HF.out.2.2.2.2.1 HF.out.2.2.2.2.2.1 HF.out.2.2.2.2.2.2.2.2.1 HF.out.2.2.2.2.2.2.2.2.2) (fun _ _ => rfl)
    · intro ev W hf hcst _ hst hd
      obtain ⟨d13, _⟩ := hd
      have e13 : ev (.tmp 13) = .int .i64 (crossZ (b1 - a1) (b2 - a2) (c1 - a1) (c2 - a2)) := d13
      refine st_value (v := .bool B) ?_ (Below.refl _ _) ?_
      · simp [execOp, go_sem, e13, hcst, HLT.out]
      · exact rfl
    · intro ev W hf _ _ hst hd
      obtain ⟨d14, _⟩ := hd
      have e14 : ev (.tmp 14) = .bool B := d14
      refine st_value (v := .bool B) ?_ (Below.refl _ _) ?_
      · simp [execOp, go_sem, e14]
      · exact rfl
  case rest =>
    intro vs w3 hl hst hg
    have hx0 : ∀ u, vs[0]? = some u → u = vecV a1 a2 := fun u hu => hg 0 u hu
    have hx1 : ∀ u, vs[1]? = some u → u = vecV b1 b2 := fun u hu => hg 1 u hu
    have hx2 : ∀ u, vs[2]? = some u → u = vecV a1 a2 := fun u hu => hg 2 u hu
    have hx3 : ∀ u, vs[3]? = some u → u = vecV (b1 - a1) (b2 - a2) := fun u hu => hg 3 u hu
    have hx4 : ∀ u, vs[4]? = some u → u = .agg #[.int .i64 a1, .int .i64 a2, .int .i64 (b1 - a1), .int .i64 (b2 - a2)] := fun u hu => hg 4 u hu
    have hx5 : ∀ u, vs[5]? = some u → u = vecV c1 c2 := fun u hu => hg 5 u hu
    have hx6 : ∀ u, vs[6]? = some u → u = .int .i64 (crossZ (b1 - a1) (b2 - a2) (c1 - a1) (c2 - a2)) := fun u hu => hg 6 u hu
    have hx7 : ∀ u, vs[7]? = some u → u = .bool B := fun u hu => hg 7 u hu
    have hx8 : ∀ u, vs[8]? = some u → u = .bool B := fun u hu => hg 8 u hu
    have HE3 := Lib.hid hst
    clear hg hst
    obtain ⟨x0, vs0, rfl, hl0⟩ := len_succ hl
    obtain ⟨x1, vs1, rfl, hl1⟩ := len_succ hl0
    obtain ⟨x2, vs2, rfl, hl2⟩ := len_succ hl1
    obtain ⟨x3, vs3, rfl, hl3⟩ := len_succ hl2
    obtain ⟨x4, vs4, rfl, hl4⟩ := len_succ hl3
    obtain ⟨x5, vs5, rfl, hl5⟩ := len_succ hl4
    obtain ⟨x6, vs6, rfl, hl6⟩ := len_succ hl5
    obtain ⟨x7, vs7, rfl, hl7⟩ := len_succ hl6
    obtain ⟨x8, vs8, rfl, hl8⟩ := len_succ hl7
    have hnil : vs8 = [] := List.length_eq_zero_iff.1 hl8
    subst hnil
    obtain rfl : x0 = vecV a1 a2 := hx0 _ rfl
    obtain rfl : x1 = vecV b1 b2 := hx1 _ rfl
    obtain rfl : x2 = vecV a1 a2 := hx2 _ rfl
    obtain rfl : x3 = vecV (b1 - a1) (b2 - a2) := hx3 _ rfl
    obtain rfl : x4 = .agg #[.int .i64 a1, .int .i64 a2, .int .i64 (b1 - a1), .int .i64 (b2 - a2)] := hx4 _ rfl
    obtain rfl : x5 = vecV c1 c2 := hx5 _ rfl
    obtain rfl : x6 = .int .i64 (crossZ (b1 - a1) (b2 - a2) (c1 - a1) (c2 - a2)) := hx6 _ rfl
    obtain rfl : x7 = .bool B := hx7 _ rfl
    obtain rfl : x8 = .bool B := hx8 _ rfl
    clear hx0 hx1 hx2 hx3 hx4 hx5 hx6 hx7 hx8
    simp only [putAll, Act.put, List.setIfInBounds_toArray, List.set_cons_zero, List.set_cons_succ]
    go_wp2_with fail
    go_ret
    exact ⟨rfl, Ext.trans HE.out HE3.out⟩
end Go.Proofs.Ytnoacppfgckohaa
