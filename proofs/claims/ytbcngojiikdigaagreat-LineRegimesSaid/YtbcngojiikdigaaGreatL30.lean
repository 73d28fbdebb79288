import Derived.Test.YtbcngojiikdigaaGreatL29
namespace Go.Proofs.YtbcngojiikdigaaGreat
set_option maxRecDepth 100000
open Go.RowKit Go.Shelf
/-- are rows few enough for a statement? -/
def few20 (xs : List (List Int)) : Bool := decide (xs.length ≤ 20) && xs.all (fun r => decide (r.length ≤ 20))
set_option maxHeartbeats 1000000 in
theorem few_c (u : Value) (xs : List (List Int)) (w : World) (hx : Rows2 w u xs) :
    Calls Tryz.prog 8 #[u] w fun e w' => e = .returned (.bool (few20 xs)) ∧ Ext w w' := by
  obtain ⟨ax, cx, rfl, hxc, hxm, hrx⟩ := hx.at
  have HX := Lib.hid hrx
  clear hx hrx
  go_enter Tryz.func8, Tryz.ntmps8
  go_wp2_with fail
  go_loopw [3] (fun i wr => ∃ k : Nat, k ≤ xs.length ∧ k ≤ 20 ∧ i = .int .i64 k ∧ (xs.take k).all (fun r => decide (r.length ≤ 20)) = true ∧ Ext w wr) (fun i _ => xs.length - (intOf i).toNat)
  case atStart => exact ⟨0, Nat.zero_le _, Nat.zero_le _, rfl, rfl, Ext.refl _⟩
  case round =>
    rename World => wr
    obtain ⟨k, hk, hk20, rfl, ht, hE⟩ := hrel
    have Ht := Lib.hid ht
    have HE := Lib.hid hE
    clear ht hE
    by_cases hlt : k < xs.length
    · by_cases h20 : 20 ≤ k
      · have HF := Lib.hid (show few20 xs = false by unfold few20; rw [decide_eq_false (by omega)]; rfl)
        have h20z : (20 : Int) ≤ (k : Int) := by omega
        go_wp2_with fail
        go_ret
        exact ⟨ret_bool HF.out.symm, HE.out⟩
      · have h20z : ¬ (20 : Int) ≤ (k : Int) := by omega
        obtain ⟨r, hr⟩ := getElem?_len hlt
        obtain ⟨b, o, u, rfl, c1, hu⟩ := HX.out k r hr
        replace c1 := Ext.cell HE.out c1
        have hcb := cell_lt c1
        obtain ⟨ar, cr, rfl, _⟩ := hu.at
        by_cases hl : r.length ≤ 20
        · have hlz : ¬ (20 : Int) < (r.length : Int) := by omega
          have HN := Lib.hid (all_take_succ (p := fun r => decide (r.length ≤ 20)) hr Ht.out (decide_eq_true hl))
          clear hr
          go_wp2_with fail
          exact ⟨⟨k + 1, by omega, by omega, by simp, HN.out, HE.out⟩, by simp [intOf]; omega⟩
        · have hlz : (20 : Int) < (r.length : Int) := by omega
          have HF := Lib.hid (show few20 xs = false by unfold few20; rw [all_false hr (by simpa using hl)]; simp)
          clear hr
          go_wp2_with fail
          go_ret
          exact ⟨ret_bool HF.out.symm, HE.out⟩
    · have HF := Lib.hid (show few20 xs = true by unfold few20; rw [all_done (by omega) Ht.out, decide_eq_true (by omega)]; rfl)
      go_wp2_with fail
      go_ret
      exact ⟨ret_bool HF.out.symm, HE.out⟩
theorem few20_ok {xs : List (List Int)} (h : few20 xs = true) : xs.length ≤ 20 ∧ ∀ r ∈ xs, r.length ≤ 1000000 := by
  simp only [few20, Bool.and_eq_true, decide_eq_true_eq, List.all_eq_true] at h
  exact ⟨h.1, fun r hr => by have := h.2 r hr; omega⟩
set_option maxHeartbeats 2000000 in
theorem rows_c (u v : Value) (xs ys : List (List Int)) (w : World) (hx : Rows2 w u xs) (hy : Rows2 w v ys) :
    Calls Tryz.prog 13 #[u, v] w fun e w' => e = .returned (.bool (decide (xs = ys))) ∧ Ext w w' := by
  obtain ⟨ax, cx, rfl, hxc, hxm, hrx⟩ := hx.at
  obtain ⟨ay, cy, rfl, hyc, hym, hry⟩ := hy.at
  have HX := Lib.hid hrx
  have HY := Lib.hid hry
  clear hx hy hrx hry
  by_cases hl : xs.length = ys.length
  · have hb : ((xs.length : Int) != (ys.length : Int)) = false := by rw [hl]; simp
    have hl1 : xs.length ≤ ys.length := by omega
    have hl2 : ys.length ≤ xs.length := by omega
    clear hl
    go_enter Tryz.func13, Tryz.ntmps13
    go_wp2_with fail
    clear hb
    go_loopw [5] (fun i wr => ∃ k : Nat, k ≤ xs.length ∧ i = .int .i64 k ∧ xs.take k = ys.take k ∧ Ext w wr) (fun i _ => xs.length - (intOf i).toNat)
    case atStart => exact ⟨0, Nat.zero_le _, rfl, rfl, Ext.refl _⟩
    case round =>
      rename World => wr
      obtain ⟨k, hk, rfl, ht, hE⟩ := hrel
      have Ht := Lib.hid ht
      have HE := Lib.hid hE
      clear ht hE
      by_cases hlt : k < xs.length
      · obtain ⟨x, hx⟩ := getElem?_len hlt
        obtain ⟨y, hy⟩ := getElem?_len (show k < ys.length by omega)
        obtain ⟨bx, ox, ux, rfl, h1, hux⟩ := HX.out k x hx
        obtain ⟨b, o, uy, rfl, h2, huy⟩ := HY.out k y hy
        have HC1 := Lib.hid (Ext.cell HE.out h1)
        have HC2 := Lib.hid (Ext.cell HE.out h2)
        have HS := Lib.hid (fun W (h : Ext wr W) => same_c ux uy x y W (hux.ext (Ext.trans HE.out h)) (huy.ext (Ext.trans HE.out h)))
        obtain ⟨axx, cxx, rfl, _⟩ := hux.at
        obtain ⟨ayy, cyy, rfl, _⟩ := huy.at
        have Hx := Lib.hid hx
        have Hy := Lib.hid hy
        have hltx : k < xs.length := hlt
        have hlty : k < ys.length := by omega
        obtain ⟨z, hz⟩ : ∃ z, z = decide (x = y) := ⟨_, rfl⟩
        rw [← hz] at HS
        have HZ := Lib.hid hz
        clear hx hy h1 h2 hux huy hz
        go_wp2_with fail
        refine wp_region_stable [⟨[], none⟩, ⟨[], none⟩, ⟨[(0, 17), (1, 18)], none⟩, ⟨[(2, 19)], none⟩, ⟨[], none⟩, ⟨[], none⟩, ⟨[(4, 21), (5, 22)], none⟩, ⟨[(6, 23)], none⟩, ⟨[(3, 20), (7, 24)], none⟩, ⟨[(8, 25)], none⟩] (fun x y => Below x.heap.size x y) (MPat [MP.eq (.slice (some ⟨bx, ox, none⟩) xs.length cx), MP.eq (.int .i64 (k : Int)), MP.eq (.pointer (some ⟨bx, ox + k, none⟩)), MP.eq (.slice axx x.length cxx), MP.eq (.slice (some ⟨b, o, none⟩) ys.length cy), MP.eq (.int .i64 (k : Int)), MP.eq (.pointer (some ⟨b, o + k, none⟩)), MP.eq (.slice ayy y.length cyy), MP.eq (.bool z), MP.eq (.bool (!z))]) (by kernel_rfl) (fun _ _ _ h k => Ext.trans h k) (fun _ => Below.refl _ _) (fun x => (Below.refl x.heap.size x).drew) (MPat.mono _) (by kernel_rfl) ?obs ?rest
        case obs =>
          refine ⟨?_, ?_, ?_, ?_, ?_, ?_, ?_, ?_, ?_, ?_, trivial⟩
          · intro ev W hf _ _ hst hd
            have e0 : ev (.tmp 0) = .slice (some ⟨bx, ox, none⟩) xs.length cx := hf 0 (by kernel_rfl)
            refine st_value (v := .slice (some ⟨bx, ox, none⟩) xs.length cx) ?_ (Below.refl _ _) ?_
            · simp [execOp, go_sem, e0]
            · exact rfl
          · intro ev W hf _ _ hst hd
            have e5 : ev (.tmp 5) = .int .i64 (k : Int) := hf 5 (by kernel_rfl)
            refine st_value (v := .int .i64 (k : Int)) ?_ (Below.refl _ _) ?_
            · simp [execOp, go_sem, e5]
            · exact rfl
          · intro ev W hf _ _ hst hd
            obtain ⟨d17, d18, _⟩ := hd
            have e17 : ev (.tmp 17) = .slice (some ⟨bx, ox, none⟩) xs.length cx := d17
            have e18 : ev (.tmp 18) = .int .i64 (k : Int) := d18
            refine st_value (v := .pointer (some ⟨bx, ox + k, none⟩)) ?_ (Below.refl _ _) ?_
            · simp [execOp, go_sem, e17, e18, hltx]
            · exact rfl
          · intro ev W hf _ _ hst hd
            obtain ⟨d19, _⟩ := hd
            have e19 : ev (.tmp 19) = .pointer (some ⟨bx, ox + k, none⟩) := d19
            have q0 := Ext.cell hst HC1.out
            refine st_value (v := .slice axx x.length cxx) ?_ (Below.refl _ _) ?_
            · simp [execOp, go_sem, e19, q0]
            · exact rfl
          · intro ev W hf _ _ hst hd
            have e1 : ev (.tmp 1) = .slice (some ⟨b, o, none⟩) ys.length cy := hf 1 (by kernel_rfl)
            refine st_value (v := .slice (some ⟨b, o, none⟩) ys.length cy) ?_ (Below.refl _ _) ?_
            · simp [execOp, go_sem, e1]
            · exact rfl
          · intro ev W hf _ _ hst hd
            have e5 : ev (.tmp 5) = .int .i64 (k : Int) := hf 5 (by kernel_rfl)
            refine st_value (v := .int .i64 (k : Int)) ?_ (Below.refl _ _) ?_
            · simp [execOp, go_sem, e5]
            · exact rfl
          · intro ev W hf _ _ hst hd
            obtain ⟨d21, d22, _⟩ := hd
            have e21 : ev (.tmp 21) = .slice (some ⟨b, o, none⟩) ys.length cy := d21
            have e22 : ev (.tmp 22) = .int .i64 (k : Int) := d22
            refine st_value (v := .pointer (some ⟨b, o + k, none⟩)) ?_ (Below.refl _ _) ?_
            · simp [execOp, go_sem, e21, e22, hlty]
            · exact rfl
          · intro ev W hf _ _ hst hd
            obtain ⟨d23, _⟩ := hd
            have e23 : ev (.tmp 23) = .pointer (some ⟨b, o + k, none⟩) := d23
            have q0 := Ext.cell hst HC2.out
            refine st_value (v := .slice ayy y.length cyy) ?_ (Below.refl _ _) ?_
            · simp [execOp, go_sem, e23, q0]
            · exact rfl
          · intro ev W hf _ hfn hst hd
            obtain ⟨d20, d24, _⟩ := hd
            have e20 : ev (.tmp 20) = .slice axx x.length cxx := d20
            have e24 : ev (.tmp 24) = .slice ayy y.length cyy := d24
            refine st_call (f := 19) (args := #[.slice axx x.length cxx, .slice ayy y.length cyy]) (by simp [execOp, go_sem, hfn, e20, e24]) (HS.out W hst) (fun _ _ => rfl)
          · intro ev W hf _ _ hst hd
            obtain ⟨d25, _⟩ := hd
            have e25 : ev (.tmp 25) = .bool z := d25
            refine st_value (v := .bool (!z)) ?_ (Below.refl _ _) ?_
            · simp [execOp, go_sem, e25]
            · exact rfl
        case rest =>
          intro vs w3 hl hst hg
          have hx0 : ∀ u, vs[0]? = some u → u = .slice (some ⟨bx, ox, none⟩) xs.length cx := fun u hu => hg 0 u hu
          have hx1 : ∀ u, vs[1]? = some u → u = .int .i64 (k : Int) := fun u hu => hg 1 u hu
          have hx2 : ∀ u, vs[2]? = some u → u = .pointer (some ⟨bx, ox + k, none⟩) := fun u hu => hg 2 u hu
          have hx3 : ∀ u, vs[3]? = some u → u = .slice axx x.length cxx := fun u hu => hg 3 u hu
          have hx4 : ∀ u, vs[4]? = some u → u = .slice (some ⟨b, o, none⟩) ys.length cy := fun u hu => hg 4 u hu
          have hx5 : ∀ u, vs[5]? = some u → u = .int .i64 (k : Int) := fun u hu => hg 5 u hu
          have hx6 : ∀ u, vs[6]? = some u → u = .pointer (some ⟨b, o + k, none⟩) := fun u hu => hg 6 u hu
          have hx7 : ∀ u, vs[7]? = some u → u = .slice ayy y.length cyy := fun u hu => hg 7 u hu
          have hx8 : ∀ u, vs[8]? = some u → u = .bool z := fun u hu => hg 8 u hu
          have hx9 : ∀ u, vs[9]? = some u → u = .bool (!z) := fun u hu => hg 9 u hu
          have HE3 := Lib.hid hst
          clear hg hst
          obtain ⟨x0, vs0, rfl, hl0⟩ := len_succ hl
          obtain ⟨x1, vs1, rfl, hl1⟩ := len_succ hl0
          obtain ⟨x2, vs2, rfl, hl2⟩ := len_succ hl1
          obtain ⟨x3, vs3, rfl, hl3⟩ := len_succ hl2
          obtain ⟨x4, vs4, rfl, hl4⟩ := len_succ hl3
          obtain ⟨x5, vs5, rfl, hl5⟩ := len_succ hl4
          obtain ⟨x6, vs6, rfl, hl6⟩ := len_succ hl5
          obtain ⟨x7, vs7, rfl, hl7⟩ := len_succ hl6
          obtain ⟨x8, vs8, rfl, hl8⟩ := len_succ hl7
          obtain ⟨x9, vs9, rfl, hl9⟩ := len_succ hl8
          have hnil : vs9 = [] := List.length_eq_zero_iff.1 hl9
          subst hnil
          obtain rfl : x0 = .slice (some ⟨bx, ox, none⟩) xs.length cx := hx0 _ rfl
          obtain rfl : x1 = .int .i64 (k : Int) := hx1 _ rfl
          obtain rfl : x2 = .pointer (some ⟨bx, ox + k, none⟩) := hx2 _ rfl
          obtain rfl : x3 = .slice axx x.length cxx := hx3 _ rfl
          obtain rfl : x4 = .slice (some ⟨b, o, none⟩) ys.length cy := hx4 _ rfl
          obtain rfl : x5 = .int .i64 (k : Int) := hx5 _ rfl
          obtain rfl : x6 = .pointer (some ⟨b, o + k, none⟩) := hx6 _ rfl
          obtain rfl : x7 = .slice ayy y.length cyy := hx7 _ rfl
          obtain rfl : x8 = .bool z := hx8 _ rfl
          obtain rfl : x9 = .bool (!z) := hx9 _ rfl
          clear hx0 hx1 hx2 hx3 hx4 hx5 hx6 hx7 hx8 hx9
          simp only [putAll, Act.put, List.setIfInBounds_toArray, List.set_cons_zero, List.set_cons_succ]
          cases z with
          | true =>
            have HXY := Lib.hid (show x = y from of_decide_eq_true HZ.out.symm)
            simp only [Bool.not_true]
            go_wp2_with fail
            exact ⟨⟨k + 1, by omega, by simp, take_eq_succ Hx.out (by rw [HXY.out]; exact Hy.out) Ht.out, Ext.trans HE.out HE3.out⟩, by simp [intOf]; omega⟩
          | false =>
            have HN := Lib.hid (ne_of_get Hx.out Hy.out (of_decide_eq_false HZ.out.symm))
            simp only [Bool.not_false]
            go_wp2_with fail
            go_ret
            exact ⟨ret_bool (decide_eq_false HN.out).symm, Ext.trans HE.out HE3.out⟩
      · have he : xs = ys := by
          have := Ht.out
          rwa [List.take_of_length_le (by omega), List.take_of_length_le (by omega)] at this
        have He := Lib.hid he
        clear he
        go_wp2_with fail
        go_ret
        exact ⟨ret_bool (decide_eq_true He.out).symm, HE.out⟩
  · have hb : ((xs.length : Int) != (ys.length : Int)) = true := by rw [bne_iff_ne]; omega
    have Hl := Lib.hid (show xs ≠ ys from fun e => hl (by rw [e]))
    clear hl
    go_enter Tryz.func13, Tryz.ntmps13
    go_wp2_with fail
    go_ret
    exact ⟨ret_bool (decide_eq_false Hl.out).symm, Ext.refl _⟩
end Go.Proofs.YtbcngojiikdigaaGreat
