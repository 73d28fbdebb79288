import Derived.Test.YtnpebfchojalcaaV5
namespace Go.Proofs.Ytnpebfchojalcaa
open Go.RowKit Go.Shelf
def angP (a b : Pt) : Int := angleZ a.1 a.2 b.1 b.2
def fineP (qs : List Pt) : Prop := ∀ q ∈ qs, fine q.1 ∧ fine q.2
def sortedB (qs : List Pt) : Bool := (List.range (qs.length - 1)).all fun i => decide (0 ≤ angP (qs.getD (i + 1) (0, 0)) (qs.getD i (0, 0)))
theorem getD_of {qs : List Pt} {k : Nat} {q : Pt} (h : qs[k]? = some q) : qs.getD k (0, 0) = q := by rw [List.getD_eq_getElem?_getD, h]; rfl
theorem sortedB_true {qs : List Pt} (h : ∀ j, j + 1 < qs.length → 0 ≤ angP (qs.getD (j + 1) (0, 0)) (qs.getD j (0, 0))) : sortedB qs = true := by
  unfold sortedB
  rw [List.all_eq_true]
  intro i hi
  rw [List.mem_range] at hi
  simpa using h i (by omega)
theorem sortedB_false {qs : List Pt} {j : Nat} (hj : j + 1 < qs.length) (h : angP (qs.getD (j + 1) (0, 0)) (qs.getD j (0, 0)) < 0) : sortedB qs = false := by
  rw [Bool.eq_false_iff]
  intro ht
  unfold sortedB at ht
  rw [List.all_eq_true] at ht
  have := ht j (by rw [List.mem_range]; omega)
  simp only [decide_eq_true_eq] at this
  omega
theorem angleZ_bd (a b c d : Int) : -1 ≤ angleZ a b c d ∧ angleZ a b c d ≤ 1 := by
  unfold angleZ
  split
  · exact sgnZ_bd _ _
  · split <;> omega
set_option maxRecDepth 100000 in
set_option maxHeartbeats 1000000 in
theorem sorted_c (v : Value) (qs : List Pt) (w : World) (hv : Vecs w v qs) (hq : fineP qs) (h0 : 0 < qs.length) (hn : qs.length ≤ 1000000) :
    Calls Try.prog 101 #[v, .func (.func 102) #[] #[]] w fun e w' => e = .returned (.bool (sortedB qs)) ∧ Ext w w' := by
  obtain ⟨ax, cx, rfl, hxc, hxm, hrx⟩ := hv.at
  have HR := Lib.hid hrx
  have HQ := Lib.hid hq
  clear hv hrx hq
  go_enter Try.func101, Try.ntmps101
  go_wp2
  go_loopw [5] (fun i wr => ∃ k : Nat, k < qs.length ∧ (∀ j, k ≤ j → j + 1 < qs.length → 0 ≤ angP (qs.getD (j + 1) (0, 0)) (qs.getD j (0, 0))) ∧ i = .int .i64 k ∧ Ext w wr) (fun i _ => (intOf i).toNat)
  case atStart => exact ⟨qs.length - 1, by omega, fun j h1 h2 => by omega, by congr 1; omega, Ext.refl _⟩
  case round =>
    obtain ⟨k, hk, hall, rfl, hE⟩ := hrel
    have Hall := Lib.hid hall
    have HE := Lib.hid hE
    clear hall hE
    cases k with
    | zero =>
      go_wp2
      go_ret
      exact ⟨ret_bool (sortedB_true (fun j hj => Hall.out j (Nat.zero_le _) hj)).symm, HE.out⟩
    | succ j =>
      obtain ⟨p, hp⟩ := getElem?_len hk
      obtain ⟨q, hq⟩ := getElem?_len (show j < qs.length by omega)
      obtain ⟨b, o, rfl, hc0, hc1⟩ := HR.out (j + 1) p hp
      obtain ⟨b', o', e, hd0, hd1⟩ := HR.out j q hq
      obtain ⟨rfl, rfl⟩ : b = b' ∧ o = o' := by injection e with e; injection e with e1 e2; exact ⟨e1, e2⟩
      have HC := Lib.hid (show wr.cell? _ = _ ∧ wr.cell? _ = _ from ⟨Ext.cell HE.out hc0, Ext.cell HE.out hc1⟩)
      have HD := Lib.hid (show wr.cell? _ = _ ∧ wr.cell? _ = _ from ⟨Ext.cell HE.out hd0, Ext.cell HE.out hd1⟩)
      have HP := Lib.hid (HQ.out p (List.mem_of_getElem? hp))
      have HQ2 := Lib.hid (HQ.out q (List.mem_of_getElem? hq))
      have HA := Lib.hid (show angP (qs.getD (j + 1) (0, 0)) (qs.getD j (0, 0)) = angleZ p.1 p.2 q.1 q.2 by rw [getD_of hp, getD_of hq]; rfl)
      have hw1 : IntKind.i64.wrap (((j + 1 : Nat) : Int) - 1) = (j : Int) := by
        have e : (((j + 1 : Nat) : Int) - 1) = (j : Int) := by omega
        rw [e]
        exact IntWalk.i64_in _ (by omega)
      have HW1 := Lib.hid hw1
      clear hp hq hc0 hc1 hd0 hd1 hw1
      obtain ⟨m, hm⟩ : ∃ m, m = j + 1 := ⟨_, rfl⟩
      have Hm := Lib.hid hm
      rw [← hm] at HC HW1 hk
      rw [← hm]
      clear hm
      obtain ⟨z, hz⟩ : ∃ z, z = angleZ p.1 p.2 q.1 q.2 := ⟨_, rfl⟩
      have hzb := angleZ_bd p.1 p.2 q.1 q.2
      rw [← hz] at hzb HA
      have HZ := Lib.hid hz
      clear hz
      have hmp : 0 < m := by have := Hm.out; omega
      have hjl : j < qs.length := by have := Hm.out; omega
      go_wp2_with fail
      by_cases hneg : z < 0
      · skip
        refine wp_region_stable [⟨[], none⟩, ⟨[], none⟩, ⟨[], none⟩, ⟨[(1, 14), (2, 15)], none⟩, ⟨[(3, 16)], none⟩, ⟨[], none⟩, ⟨[], none⟩, ⟨[(6, 19)], none⟩, ⟨[(5, 18), (7, 20)], none⟩, ⟨[(8, 21)], none⟩, ⟨[(0, 13), (4, 17), (9, 22)], none⟩, ⟨[(10, 23)], none⟩] (fun x y => Below x.heap.size x y) (MPat [MP.eq (.func (.func 102) #[] #[]), MP.eq (.slice (some ⟨b, o, none⟩) qs.length cx), MP.eq (.int .i64 m), MP.eq (.pointer (some ⟨b, o + m * 2, none⟩)), MP.eq (vecV p.1 p.2), MP.eq (.slice (some ⟨b, o, none⟩) qs.length cx), MP.eq (.int .i64 m), MP.eq (.int .i64 j), MP.eq (.pointer (some ⟨b, o + j * 2, none⟩)), MP.eq (vecV q.1 q.2), MP.eq (.int .i64 z), MP.eq (.bool true)]) (by kernel_rfl) (fun _ _ _ h k => Ext.trans h k) (fun _ => Below.refl _ _) (fun x => (Below.refl x.heap.size x).drew) (MPat.mono _) (by kernel_rfl) ?obs ?rest
        case obs =>
          refine ⟨?_, ?_, ?_, ?_, ?_, ?_, ?_, ?_, ?_, ?_, ?_, ?_, trivial⟩
          · intro ev W hf _ _ hst hd
            have e1 : ev (.tmp 1) = .func (.func 102) #[] #[] := hf 1 (by kernel_rfl)
            refine st_value (v := .func (.func 102) #[] #[]) ?_ (Below.refl _ _) ?_
            · simp [execOp, go_sem, e1]
            · exact rfl
          · intro ev W hf _ _ hst hd
            have e0 : ev (.tmp 0) = .slice (some ⟨b, o, none⟩) qs.length cx := hf 0 (by kernel_rfl)
            refine st_value (v := .slice (some ⟨b, o, none⟩) qs.length cx) ?_ (Below.refl _ _) ?_
            · simp [execOp, go_sem, e0]
            · exact rfl
          · intro ev W hf _ _ hst hd
            have e5 : ev (.tmp 5) = .int .i64 m := hf 5 (by kernel_rfl)
            refine st_value (v := .int .i64 m) ?_ (Below.refl _ _) ?_
            · simp [execOp, go_sem, e5]
            · exact rfl
          · intro ev W hf _ _ hst hd
            obtain ⟨d14, d15, _⟩ := hd
            have e14 : ev (.tmp 14) = .slice (some ⟨b, o, none⟩) qs.length cx := d14
            have e15 : ev (.tmp 15) = .int .i64 m := d15
            refine st_value (v := .pointer (some ⟨b, o + m * 2, none⟩)) ?_ (Below.refl _ _) ?_
            · simp [execOp, go_sem, e14, e15, hk]
            · exact rfl
          · intro ev W hf _ _ hst hd
            obtain ⟨d16, _⟩ := hd
            have e16 : ev (.tmp 16) = .pointer (some ⟨b, o + m * 2, none⟩) := d16
            have k0 := Ext.cell hst HC.out.1
            have k1 := Ext.cell hst HC.out.2
            refine st_value (v := vecV p.1 p.2) ?_ (Below.refl _ _) ?_
            · simp [execOp, go_sem, e16, k0, k1]
            · exact rfl
          · intro ev W hf _ _ hst hd
            have e0 : ev (.tmp 0) = .slice (some ⟨b, o, none⟩) qs.length cx := hf 0 (by kernel_rfl)
            refine st_value (v := .slice (some ⟨b, o, none⟩) qs.length cx) ?_ (Below.refl _ _) ?_
            · simp [execOp, go_sem, e0]
            · exact rfl
          · intro ev W hf _ _ hst hd
            have e5 : ev (.tmp 5) = .int .i64 m := hf 5 (by kernel_rfl)
            refine st_value (v := .int .i64 m) ?_ (Below.refl _ _) ?_
            · simp [execOp, go_sem, e5]
            · exact rfl
          · intro ev W hf hcst _ hst hd
            obtain ⟨d19, _⟩ := hd
            have e19 : ev (.tmp 19) = .int .i64 m := d19
            refine st_value (v := .int .i64 j) ?_ (Below.refl _ _) ?_
            · simp [execOp, go_sem, e19, hcst, HW1.out]
            · exact rfl
          · intro ev W hf _ _ hst hd
            obtain ⟨d18, d20, _⟩ := hd
            have e18 : ev (.tmp 18) = .slice (some ⟨b, o, none⟩) qs.length cx := d18
            have e20 : ev (.tmp 20) = .int .i64 j := d20
            refine st_value (v := .pointer (some ⟨b, o + j * 2, none⟩)) ?_ (Below.refl _ _) ?_
            · simp [execOp, go_sem, e18, e20, hjl]
            · exact rfl
          · intro ev W hf _ _ hst hd
            obtain ⟨d21, _⟩ := hd
            have e21 : ev (.tmp 21) = .pointer (some ⟨b, o + j * 2, none⟩) := d21
            have k0 := Ext.cell hst HD.out.1
            have k1 := Ext.cell hst HD.out.2
            refine st_value (v := vecV q.1 q.2) ?_ (Below.refl _ _) ?_
            · simp [execOp, go_sem, e21, k0, k1]
            · exact rfl
          · intro ev W hf _ hfn hst hd
            obtain ⟨d13, d17, d22, _⟩ := hd
            have e13 : ev (.tmp 13) = .func (.func 102) #[] #[] := d13
            have e17 : ev (.tmp 17) = vecV p.1 p.2 := d17
            have e22 : ev (.tmp 22) = vecV q.1 q.2 := d22
            clear hfn
            refine st_call (f := 102) (args := #[vecV p.1 p.2, vecV q.1 q.2]) (by simp [execOp, go_sem, e13, e17, e22]) (by rw [HZ.out]; exact byAngle_c p.1 p.2 q.1 q.2 W HP.out.1 HP.out.2 HQ2.out.1 HQ2.out.2) (fun _ _ => rfl)
          · intro ev W hf hcst _ hst hd
            obtain ⟨d23, _⟩ := hd
            have e23 : ev (.tmp 23) = .int .i64 z := d23
            refine st_value (v := .bool true) ?_ (Below.refl _ _) ?_
            · simp [execOp, go_sem, e23, hcst, hneg]
            · exact rfl
        case rest =>
          intro vs w3 hl hst hg
          have hx0 : ∀ u, vs[0]? = some u → u = .func (.func 102) #[] #[] := fun u hu => hg 0 u hu
          have hx1 : ∀ u, vs[1]? = some u → u = .slice (some ⟨b, o, none⟩) qs.length cx := fun u hu => hg 1 u hu
          have hx2 : ∀ u, vs[2]? = some u → u = .int .i64 m := fun u hu => hg 2 u hu
          have hx3 : ∀ u, vs[3]? = some u → u = .pointer (some ⟨b, o + m * 2, none⟩) := fun u hu => hg 3 u hu
          have hx4 : ∀ u, vs[4]? = some u → u = vecV p.1 p.2 := fun u hu => hg 4 u hu
          have hx5 : ∀ u, vs[5]? = some u → u = .slice (some ⟨b, o, none⟩) qs.length cx := fun u hu => hg 5 u hu
          have hx6 : ∀ u, vs[6]? = some u → u = .int .i64 m := fun u hu => hg 6 u hu
          have hx7 : ∀ u, vs[7]? = some u → u = .int .i64 j := fun u hu => hg 7 u hu
          have hx8 : ∀ u, vs[8]? = some u → u = .pointer (some ⟨b, o + j * 2, none⟩) := fun u hu => hg 8 u hu
          have hx9 : ∀ u, vs[9]? = some u → u = vecV q.1 q.2 := fun u hu => hg 9 u hu
          have hx10 : ∀ u, vs[10]? = some u → u = .int .i64 z := fun u hu => hg 10 u hu
          have hx11 : ∀ u, vs[11]? = some u → u = .bool true := fun u hu => hg 11 u hu
          have HE3 := Lib.hid hst
          clear hg hst
          obtain ⟨x0, vs0, rfl, hl0⟩ := len_succ hl
          obtain ⟨x1, vs1, rfl, hl1⟩ := len_succ hl0
          obtain ⟨x2, vs2, rfl, hl2⟩ := len_succ hl1
          obtain ⟨x3, vs3, rfl, hl3⟩ := len_succ hl2
          obtain ⟨x4, vs4, rfl, hl4⟩ := len_succ hl3
          obtain ⟨x5, vs5, rfl, hl5⟩ := len_succ hl4
          obtain ⟨x6, vs6, rfl, hl6⟩ := len_succ hl5
          obtain ⟨x7, vs7, rfl, hl7⟩ := len_succ hl6
          obtain ⟨x8, vs8, rfl, hl8⟩ := len_succ hl7
          obtain ⟨x9, vs9, rfl, hl9⟩ := len_succ hl8
          obtain ⟨x10, vs10, rfl, hl10⟩ := len_succ hl9
          obtain ⟨x11, vs11, rfl, hl11⟩ := len_succ hl10
          have hnil : vs11 = [] := List.length_eq_zero_iff.1 hl11
          subst hnil
          obtain rfl : x0 = .func (.func 102) #[] #[] := hx0 _ rfl
          obtain rfl : x1 = .slice (some ⟨b, o, none⟩) qs.length cx := hx1 _ rfl
          obtain rfl : x2 = .int .i64 m := hx2 _ rfl
          obtain rfl : x3 = .pointer (some ⟨b, o + m * 2, none⟩) := hx3 _ rfl
          obtain rfl : x4 = vecV p.1 p.2 := hx4 _ rfl
          obtain rfl : x5 = .slice (some ⟨b, o, none⟩) qs.length cx := hx5 _ rfl
          obtain rfl : x6 = .int .i64 m := hx6 _ rfl
          obtain rfl : x7 = .int .i64 j := hx7 _ rfl
          obtain rfl : x8 = .pointer (some ⟨b, o + j * 2, none⟩) := hx8 _ rfl
          obtain rfl : x9 = vecV q.1 q.2 := hx9 _ rfl
          obtain rfl : x10 = .int .i64 z := hx10 _ rfl
          obtain rfl : x11 = .bool true := hx11 _ rfl
          clear hx0 hx1 hx2 hx3 hx4 hx5 hx6 hx7 hx8 hx9 hx10 hx11
          simp only [putAll, Act.put, List.setIfInBounds_toArray, List.set_cons_zero, List.set_cons_succ]
          go_wp2
          go_ret
          exact ⟨ret_bool (sortedB_false (j := j) (by have := Hm.out; omega) (by rw [HA.out]; exact hneg)).symm, Ext.trans HE.out HE3.out⟩
      · skip
        refine wp_region_stable [⟨[], none⟩, ⟨[], none⟩, ⟨[], none⟩, ⟨[(1, 14), (2, 15)], none⟩, ⟨[(3, 16)], none⟩, ⟨[], none⟩, ⟨[], none⟩, ⟨[(6, 19)], none⟩, ⟨[(5, 18), (7, 20)], none⟩, ⟨[(8, 21)], none⟩, ⟨[(0, 13), (4, 17), (9, 22)], none⟩, ⟨[(10, 23)], none⟩] (fun x y => Below x.heap.size x y) (MPat [MP.eq (.func (.func 102) #[] #[]), MP.eq (.slice (some ⟨b, o, none⟩) qs.length cx), MP.eq (.int .i64 m), MP.eq (.pointer (some ⟨b, o + m * 2, none⟩)), MP.eq (vecV p.1 p.2), MP.eq (.slice (some ⟨b, o, none⟩) qs.length cx), MP.eq (.int .i64 m), MP.eq (.int .i64 j), MP.eq (.pointer (some ⟨b, o + j * 2, none⟩)), MP.eq (vecV q.1 q.2), MP.eq (.int .i64 z), MP.eq (.bool false)]) (by kernel_rfl) (fun _ _ _ h k => Ext.trans h k) (fun _ => Below.refl _ _) (fun x => (Below.refl x.heap.size x).drew) (MPat.mono _) (by kernel_rfl) ?obs ?rest
        case obs =>
          refine ⟨?_, ?_, ?_, ?_, ?_, ?_, ?_, ?_, ?_, ?_, ?_, ?_, trivial⟩
          · intro ev W hf _ _ hst hd
            have e1 : ev (.tmp 1) = .func (.func 102) #[] #[] := hf 1 (by kernel_rfl)
            refine st_value (v := .func (.func 102) #[] #[]) ?_ (Below.refl _ _) ?_
            · simp [execOp, go_sem, e1]
            · exact rfl
          · intro ev W hf _ _ hst hd
            have e0 : ev (.tmp 0) = .slice (some ⟨b, o, none⟩) qs.length cx := hf 0 (by kernel_rfl)
            refine st_value (v := .slice (some ⟨b, o, none⟩) qs.length cx) ?_ (Below.refl _ _) ?_
            · simp [execOp, go_sem, e0]
            · exact rfl
          · intro ev W hf _ _ hst hd
            have e5 : ev (.tmp 5) = .int .i64 m := hf 5 (by kernel_rfl)
            refine st_value (v := .int .i64 m) ?_ (Below.refl _ _) ?_
            · simp [execOp, go_sem, e5]
            · exact rfl
          · intro ev W hf _ _ hst hd
            obtain ⟨d14, d15, _⟩ := hd
            have e14 : ev (.tmp 14) = .slice (some ⟨b, o, none⟩) qs.length cx := d14
            have e15 : ev (.tmp 15) = .int .i64 m := d15
            refine st_value (v := .pointer (some ⟨b, o + m * 2, none⟩)) ?_ (Below.refl _ _) ?_
            · simp [execOp, go_sem, e14, e15, hk]
            · exact rfl
          · intro ev W hf _ _ hst hd
            obtain ⟨d16, _⟩ := hd
            have e16 : ev (.tmp 16) = .pointer (some ⟨b, o + m * 2, none⟩) := d16
            have k0 := Ext.cell hst HC.out.1
            have k1 := Ext.cell hst HC.out.2
            refine st_value (v := vecV p.1 p.2) ?_ (Below.refl _ _) ?_
            · simp [execOp, go_sem, e16, k0, k1]
            · exact rfl
          · intro ev W hf _ _ hst hd
            have e0 : ev (.tmp 0) = .slice (some ⟨b, o, none⟩) qs.length cx := hf 0 (by kernel_rfl)
            refine st_value (v := .slice (some ⟨b, o, none⟩) qs.length cx) ?_ (Below.refl _ _) ?_
            · simp [execOp, go_sem, e0]
            · exact rfl
          · intro ev W hf _ _ hst hd
            have e5 : ev (.tmp 5) = .int .i64 m := hf 5 (by kernel_rfl)
            refine st_value (v := .int .i64 m) ?_ (Below.refl _ _) ?_
            · simp [execOp, go_sem, e5]
            · exact rfl
          · intro ev W hf hcst _ hst hd
            obtain ⟨d19, _⟩ := hd
            have e19 : ev (.tmp 19) = .int .i64 m := d19
            refine st_value (v := .int .i64 j) ?_ (Below.refl _ _) ?_
            · simp [execOp, go_sem, e19, hcst, HW1.out]
            · exact rfl
          · intro ev W hf _ _ hst hd
            obtain ⟨d18, d20, _⟩ := hd
            have e18 : ev (.tmp 18) = .slice (some ⟨b, o, none⟩) qs.length cx := d18
            have e20 : ev (.tmp 20) = .int .i64 j := d20
            refine st_value (v := .pointer (some ⟨b, o + j * 2, none⟩)) ?_ (Below.refl _ _) ?_
            · simp [execOp, go_sem, e18, e20, hjl]
            · exact rfl
          · intro ev W hf _ _ hst hd
            obtain ⟨d21, _⟩ := hd
            have e21 : ev (.tmp 21) = .pointer (some ⟨b, o + j * 2, none⟩) := d21
            have k0 := Ext.cell hst HD.out.1
            have k1 := Ext.cell hst HD.out.2
            refine st_value (v := vecV q.1 q.2) ?_ (Below.refl _ _) ?_
            · simp [execOp, go_sem, e21, k0, k1]
            · exact rfl
          · intro ev W hf _ hfn hst hd
            obtain ⟨d13, d17, d22, _⟩ := hd
            have e13 : ev (.tmp 13) = .func (.func 102) #[] #[] := d13
            have e17 : ev (.tmp 17) = vecV p.1 p.2 := d17
            have e22 : ev (.tmp 22) = vecV q.1 q.2 := d22
            clear hfn
            refine st_call (f := 102) (args := #[vecV p.1 p.2, vecV q.1 q.2]) (by simp [execOp, go_sem, e13, e17, e22]) (by rw [HZ.out]; exact byAngle_c p.1 p.2 q.1 q.2 W HP.out.1 HP.out.2 HQ2.out.1 HQ2.out.2) (fun _ _ => rfl)
          · intro ev W hf hcst _ hst hd
            obtain ⟨d23, _⟩ := hd
            have e23 : ev (.tmp 23) = .int .i64 z := d23
            refine st_value (v := .bool false) ?_ (Below.refl _ _) ?_
            · simp [execOp, go_sem, e23, hcst, hneg]
            · exact rfl
        case rest =>
          intro vs w3 hl hst hg
          have hx0 : ∀ u, vs[0]? = some u → u = .func (.func 102) #[] #[] := fun u hu => hg 0 u hu
          have hx1 : ∀ u, vs[1]? = some u → u = .slice (some ⟨b, o, none⟩) qs.length cx := fun u hu => hg 1 u hu
          have hx2 : ∀ u, vs[2]? = some u → u = .int .i64 m := fun u hu => hg 2 u hu
          have hx3 : ∀ u, vs[3]? = some u → u = .pointer (some ⟨b, o + m * 2, none⟩) := fun u hu => hg 3 u hu
          have hx4 : ∀ u, vs[4]? = some u → u = vecV p.1 p.2 := fun u hu => hg 4 u hu
          have hx5 : ∀ u, vs[5]? = some u → u = .slice (some ⟨b, o, none⟩) qs.length cx := fun u hu => hg 5 u hu
          have hx6 : ∀ u, vs[6]? = some u → u = .int .i64 m := fun u hu => hg 6 u hu
          have hx7 : ∀ u, vs[7]? = some u → u = .int .i64 j := fun u hu => hg 7 u hu
          have hx8 : ∀ u, vs[8]? = some u → u = .pointer (some ⟨b, o + j * 2, none⟩) := fun u hu => hg 8 u hu
          have hx9 : ∀ u, vs[9]? = some u → u = vecV q.1 q.2 := fun u hu => hg 9 u hu
          have hx10 : ∀ u, vs[10]? = some u → u = .int .i64 z := fun u hu => hg 10 u hu
          have hx11 : ∀ u, vs[11]? = some u → u = .bool false := fun u hu => hg 11 u hu
          have HE3 := Lib.hid hst
          clear hg hst
          obtain ⟨x0, vs0, rfl, hl0⟩ := len_succ hl
          obtain ⟨x1, vs1, rfl, hl1⟩ := len_succ hl0
          obtain ⟨x2, vs2, rfl, hl2⟩ := len_succ hl1
          obtain ⟨x3, vs3, rfl, hl3⟩ := len_succ hl2
          obtain ⟨x4, vs4, rfl, hl4⟩ := len_succ hl3
          obtain ⟨x5, vs5, rfl, hl5⟩ := len_succ hl4
          obtain ⟨x6, vs6, rfl, hl6⟩ := len_succ hl5
          obtain ⟨x7, vs7, rfl, hl7⟩ := len_succ hl6
          obtain ⟨x8, vs8, rfl, hl8⟩ := len_succ hl7
          obtain ⟨x9, vs9, rfl, hl9⟩ := len_succ hl8
          obtain ⟨x10, vs10, rfl, hl10⟩ := len_succ hl9
          obtain ⟨x11, vs11, rfl, hl11⟩ := len_succ hl10
          have hnil : vs11 = [] := List.length_eq_zero_iff.1 hl11
          subst hnil
          obtain rfl : x0 = .func (.func 102) #[] #[] := hx0 _ rfl
          obtain rfl : x1 = .slice (some ⟨b, o, none⟩) qs.length cx := hx1 _ rfl
          obtain rfl : x2 = .int .i64 m := hx2 _ rfl
          obtain rfl : x3 = .pointer (some ⟨b, o + m * 2, none⟩) := hx3 _ rfl
          obtain rfl : x4 = vecV p.1 p.2 := hx4 _ rfl
          obtain rfl : x5 = .slice (some ⟨b, o, none⟩) qs.length cx := hx5 _ rfl
          obtain rfl : x6 = .int .i64 m := hx6 _ rfl
          obtain rfl : x7 = .int .i64 j := hx7 _ rfl
          obtain rfl : x8 = .pointer (some ⟨b, o + j * 2, none⟩) := hx8 _ rfl
          obtain rfl : x9 = vecV q.1 q.2 := hx9 _ rfl
          obtain rfl : x10 = .int .i64 z := hx10 _ rfl
          obtain rfl : x11 = .bool false := hx11 _ rfl
          clear hx0 hx1 hx2 hx3 hx4 hx5 hx6 hx7 hx8 hx9 hx10 hx11
          simp only [putAll, Act.put, List.setIfInBounds_toArray, List.set_cons_zero, List.set_cons_succ]
          go_wp2
          refine ⟨⟨j, hjl, fun i hi hi2 => ?_, by congr 1; have := Hm.out; omega, Ext.trans HE.out HE3.out⟩, by simp [intOf]; have := Hm.out; omega⟩
          by_cases hij : i = j
          · subst hij; rw [HA.out]; omega
          · exact Hall.out i (by omega) hi2
end Go.Proofs.Ytnpebfchojalcaa
