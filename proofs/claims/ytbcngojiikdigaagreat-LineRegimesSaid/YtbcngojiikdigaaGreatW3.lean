import Derived.Test.YtbcngojiikdigaaGreatW2
namespace Go.Proofs.YtbcngojiikdigaaGreat
set_option maxRecDepth 100000
open Go.RowKit Go.Shelf
theorem size104 : (Tryz.prog.info? 104).map (·.size) = some 1 := by kernel_rfl
set_option maxHeartbeats 4000000 in
theorem wrepeat_c (X xc n : Nat) (w : World) (hn1 : 1 ≤ n) (hn : n ≤ 6) (hxc : 1 ≤ xc) (hxm : xc ≤ 1000) (hX : w.cell? ⟨X, 0, none⟩ = some (bv none)) :
    Calls Tryz.prog 134 #[.slice (some ⟨X, 0, none⟩) 1 xc, .int .i64 (n : Int)] w fun e w' => e = .returned (.slice (some ⟨w.heap.size, 0, none⟩) n n) ∧ VRow w' w.heap.size 104 (List.replicate n (bv none)) ∧ Ext w w' := by
  have HX := Lib.hid hX
  have hmk := wrun_make_row n (by omega)
  have HP := Lib.hid (vrow_rep w (Value.bool false) n 104)
  have HE := Lib.hid (Ext.alloc (Ext.refl w) (.cells (Array.replicate n (Value.bool false)) 104))
  have hXl := cell_lt hX
  have hcp := run_copy_row (P := Tryz.prog) (w.alloc (.cells (Array.replicate n (Value.bool false)) 104)) 107 107 3 104 w.heap.size 0 n n ⟨X, 0, none⟩ 1 xc (Array.replicate n (Value.bool false)) 104 [bv none] Tryz.underlying107 size104
    (by have h := HP.out; unfold VRow at h; rw [List.toArray_replicate] at h; exact h) (Nat.min_eq_left hn1).symm (fun j v h => by
      match j, h with
      | 0, h => injection h with h; subst h; exact Ext.cell HE.out hX) (by simp; omega) (by simp [Value.oneCell'])
  have hrow : (w.alloc (.cells (Array.replicate n (Value.bool false)) 104)).setRow w.heap.size ((Array.replicate n (Value.bool false)).toList.take 0 ++ [bv none] ++ (Array.replicate n (Value.bool false)).toList.drop (0 + [bv none].length)).toArray = (w.alloc (.cells (Array.replicate n (Value.bool false)) 104)).setRow w.heap.size (bv none :: List.replicate (n - 1) (Value.bool false)).toArray := by
    congr 2
    simp
  rw [hrow] at hcp
  have HQ := Lib.hid (show VRow ((w.alloc (.cells (Array.replicate n (Value.bool false)) 104)).setRow w.heap.size (bv none :: List.replicate (n - 1) (Value.bool false)).toArray) w.heap.size 104 (List.replicate 1 (bv none) ++ List.replicate (n - 1) (Value.bool false)) from by
    have h := HP.out
    exact setRow_heap _ _ _ _ 104 _ h)
  have HEQ := Lib.hid (below_setRow HE.out (Nat.le_refl _) (bv none :: List.replicate (n - 1) (Value.bool false)).toArray)
  have hgi : goInt ([bv none] : List Value).length = .int .i64 1 := rfl
  rw [hgi] at hcp
  clear hX hrow hgi
  go_enter Tryz.func134, Tryz.ntmps134
  go_wp2_with fail
  refine (mul_c n w hn).mono ?_
  rintro e w' ⟨rfl, rfl⟩
  go_wp2_with fail
  clear hmk hcp
  generalize (w.alloc (.cells (Array.replicate n (Value.bool false)) 104)).setRow w.heap.size (bv none :: List.replicate (n - 1) (Value.bool false)).toArray = w1 at *
  obtain ⟨R, hR⟩ : ∃ R, R = w.heap.size := ⟨_, rfl⟩
  rw [← hR]
  rw [← hR] at HQ
  have hRw : w.heap.size ≤ R := by omega
  have HRR := Lib.hid hR
  clear hR
  go_loopw [8] (fun i wr => ∃ m : Nat, i = .int .i64 m ∧ 1 ≤ m ∧ m ≤ n ∧ VRow wr R 104 (List.replicate m (bv none) ++ List.replicate (n - m) (Value.bool false)) ∧ Ext w wr) (fun i _ => n - (intOf i).toNat)
  case atStart => exact ⟨1, rfl, Nat.le_refl _, hn1, HQ.out, HEQ.out⟩
  case round =>
    rename World => wr
    obtain ⟨m, rfl, hm1, hm, hrow, hE⟩ := hrel
    have HR := Lib.hid hrow
    have HEr := Lib.hid hE
    clear hrow hE
    by_cases hlt : m < n
    · obtain ⟨c, hc⟩ : ∃ c, c = Nat.min m (n - m) := ⟨_, rfl⟩
      have hc1 : 1 ≤ c := by rw [hc]; exact Nat.le_min.2 ⟨hm1, by omega⟩
      have hc2 : c ≤ n - m := by rw [hc]; exact Nat.min_le_right _ _
      have hc3 : c ≤ m := by rw [hc]; exact Nat.min_le_left _ _
      have hnm : ¬ n = m := by omega
      have hcp : Sem.run Tryz.prog (Builtin.copy_ #[107, 107] 3 #[.slice (some ⟨R, m, none⟩) (n - m) (n - m), .slice (some ⟨R, 0, none⟩) m n]) wr.drew = .ok (.int .i64 (c : Int)) (wr.drew.setRow R (List.replicate (m + c) (bv none) ++ List.replicate (n - (m + c)) (Value.bool false)).toArray) := by
        have h := run_copy_row (P := Tryz.prog) wr.drew 107 107 3 104 R m (n - m) (n - m) ⟨R, 0, none⟩ m n (List.replicate m (bv none) ++ List.replicate (n - m) (Value.bool false)).toArray 104 (List.replicate c (bv none)) Tryz.underlying107 size104
          HR.out (by rw [List.length_replicate]; exact hc) (fun j v h => by
            rw [List.getElem?_replicate] at h
            split at h
            · rename_i hj
              injection h with h
              subst h
              have h9 := VRow.cell HR.out (k := j) (x := bv none) (by rw [List.getElem?_append_left (by simp; omega), List.getElem?_replicate, if_pos (by omega)])
              have e : (⟨R, 0, none⟩ : Addr).add j = ⟨R, j, none⟩ := by unfold Addr.add; cases j <;> simp
              rw [e]; exact h9
            · cases h) (by simp; omega) (by intro v hv; rw [List.mem_replicate] at hv; rw [hv.2]; rfl)
        rw [h]
        have hs := splice_rep n m (bv none) (Value.bool false) c hc hm
        unfold splice at hs
        rw [List.length_replicate]
        rw [List.length_replicate, ← List.append_assoc] at hs
        rw [show (List.replicate m (bv none) ++ List.replicate (n - m) (Value.bool false)).toArray.toList = List.replicate m (bv none) ++ List.replicate (n - m) (Value.bool false) from rfl, hs]
        rfl
      have HNR := Lib.hid (show VRow (wr.drew.setRow R (List.replicate (m + c) (bv none) ++ List.replicate (n - (m + c)) (Value.bool false)).toArray) R 104 (List.replicate (m + c) (bv none) ++ List.replicate (n - (m + c)) (Value.bool false)) from setRow_heap _ _ _ _ 104 _ HR.out)
      have HNE := Lib.hid (show Ext w (wr.drew.setRow R (List.replicate (m + c) (bv none) ++ List.replicate (n - (m + c)) (Value.bool false)).toArray) from below_setRow (Ext.drew HEr.out) hRw _)
      clear hc
      go_wp2_with fail
      go_region
      go_wp2
      exact ⟨⟨m + c, by simp, by omega, by omega, HNR.out, HNE.out⟩, by simp [intOf]; omega⟩
    · obtain rfl : m = n := by omega
      go_wp2_with fail
      go_ret
      have h := HR.out
      rw [Nat.sub_self] at h
      rw [← HRR.out]
      exact ⟨rfl, by simpa using h, HEr.out⟩
set_option maxHeartbeats 4000000 in
theorem widentity_c (n : Nat) (w : World) (hn1 : 1 ≤ n) (hn : n ≤ 6) :
    Calls Tryz.prog 123 #[.int .i64 (n : Int)] w fun e w' => ∃ r, e = .returned r ∧ WNewMat w.heap.size w' r 104 107 n oneF ∧ Ext w w' := by
  have hmk := wrun_make_mat n (by omega)
  have HP1 := Lib.hid (vrow_rep w (.slice none 0 0) n 107)
  have HE := Lib.hid (Ext.alloc (Ext.refl w) (.cells (Array.replicate n (.slice none 0 0)) 107))
  go_enter Tryz.func123, Tryz.ntmps123
  go_wp2_with fail
  clear hmk
  generalize w.alloc (.cells (Array.replicate n (.slice none 0 0)) 107) = w1 at *
  obtain ⟨C, hCC⟩ : ∃ C, C = w.heap.size := ⟨_, rfl⟩
  rw [← hCC]
  rw [← hCC] at HP1
  have hwC : w.heap.size ≤ C := by omega
  clear hCC
  go_loopw [10] (fun i wr => ∃ (k : Nat) (vs : List Value), i = .int .i64 k ∧ k ≤ n ∧ VRow wr C 107 vs ∧ vs.length = n ∧ WRowsTo wr C 104 n k oneF ∧ Ext w wr) (fun i _ => n - (intOf i).toNat)
  case atStart => exact ⟨0, _, rfl, Nat.zero_le _, HP1.out, by simp, fun i h => by omega, HE.out⟩
  case round =>
    rename World => wr
    obtain ⟨k, vs, rfl, hk, hC, hvs, hrows, hE⟩ := hrel
    have HC := Lib.hid hC
    have HRO := Lib.hid hrows
    have HE := Lib.hid hE
    have HVS := Lib.hid hvs
    clear hC hrows hE hvs
    by_cases hlt : k < n
    · have hz := wm_zero
      go_wp2_with fail
      refine (wzero_c _ wr).mono ?_
      rintro e w' ⟨rfl, rfl⟩
      have HXR := Lib.hid (show VRow (wr.alloc (.cells #[bv none] 104)) _ _ _ from vrow_alloc wr [bv none] 104)
      have HXE := Lib.hid (Ext.alloc (Ext.refl wr) (.cells #[bv none] 104))
      have hsx : (wr.alloc (.cells #[bv none] 104)).heap.size = wr.heap.size + 1 := by simp
      go_wp2_with fail
      refine (wrepeat_c wr.heap.size 1 n _ hn1 hn (Nat.le_refl _) (by omega) (VRow.cell HXR.out (k := 0) rfl)).mono ?_
      rintro e w2 ⟨rfl, hrow, hE2⟩
      have hxe := Ext.trans HXE.out hE2
      have hC2 := VRow.ext HC.out hxe
      have fz := VRow.frozen hC2 k none
      obtain ⟨uz, huz⟩ := getElem?_len (show k < vs.length by rw [HVS.out]; exact hlt)
      have cz := VRow.cell hC2 huz
      have HC2 := Lib.hid hC2
      have HROW := Lib.hid hrow
      have HE2 := Lib.hid (Ext.trans HE.out hxe)
      have HRO2 := Lib.hid (show ∀ i, i < k → ∃ R', C < R' ∧ R' < wr.heap.size ∧ w2.cell? ⟨C, i, none⟩ = some (.slice (some ⟨R', 0, none⟩) n n) ∧ WERow w2 R' 104 n (oneF i) from fun i hi => by
        obtain ⟨R', h1, h2, h3⟩ := HRO.out i hi
        exact ⟨R', h1, h3.lt, Ext.cell hxe h2, h3.below hxe h3.lt⟩)
      have hCl := VRow.lt HC.out
      clear huz hrow hE2 hxe hC2 hz
      obtain ⟨R, hR⟩ : ∃ R, R = (wr.alloc (.cells #[bv none] 104)).heap.size := ⟨_, rfl⟩
      rw [← hR]
      rw [← hR] at HROW
      have hCR : C < R := by omega
      have hwR : wr.heap.size < R := by omega
      clear hR hsx hCl HXR HXE
      go_wp2_with fail
      clear fz cz
      have HC3 := Lib.hid (VRow.set HC2.out k (.slice (some ⟨R, 0, none⟩) n n))
      have HR3 := Lib.hid (VRow.setOther HROW.out (a := ⟨C, k, none⟩) (by show R ≠ C; omega) (.slice (some ⟨R, 0, none⟩) n n))
      have HE3 := Lib.hid (show Ext w (w2.setCell ⟨C, k, none⟩ (.slice (some ⟨R, 0, none⟩) n n)) from Below.setCell (p := ⟨C, k, none⟩) HE2.out (by show w.heap.size ≤ C; omega) _)
      have HRO3 := Lib.hid (show ∀ i, i < k → ∃ R', C < R' ∧ R' < R ∧ (w2.setCell ⟨C, k, none⟩ (.slice (some ⟨R, 0, none⟩) n n)).cell? ⟨C, i, none⟩ = some (.slice (some ⟨R', 0, none⟩) n n) ∧ WERow (w2.setCell ⟨C, k, none⟩ (.slice (some ⟨R, 0, none⟩) n n)) R' 104 n (oneF i) from fun i hi => by
        obtain ⟨R', h1, h9, h2, us, h3, h4⟩ := HRO2.out i hi
        have ne2 : (⟨C, k, none⟩ : Addr) ≠ ⟨C, i, none⟩ := fun e => by injection e with e1 e2; omega
        exact ⟨R', h1, by omega, (World.cell?_setCell_other (h := ne2) ..).trans h2, us, VRow.setOther h3 (by show R' ≠ C; omega) _, h4⟩)
      have hvs2 := HVS.out
      have HKC := Lib.hid (VRow.cell HC3.out (k := k) (by rw [List.getElem?_set_self (by omega)]))
      have HVS2 := Lib.hid (show (vs.set k (Value.slice (some ⟨R, 0, none⟩) n n)).length = n by rw [List.length_set]; exact hvs2)
      clear hvs2
      generalize w2.setCell ⟨C, k, none⟩ (.slice (some ⟨R, 0, none⟩) n n) = w3 at *
      have HONE := Lib.hid (fun W => wone_c (Value.bool false) W)
      have HMO := Lib.hid wm_one
      refine wp_region_stable_last [⟨[], none⟩, ⟨[], none⟩, ⟨[(0, 22), (1, 23)], none⟩, ⟨[(2, 24)], none⟩, ⟨[], none⟩, ⟨[], none⟩, ⟨[(5, 27)], none⟩, ⟨[(6, 28)], none⟩, ⟨[(3, 25), (4, 26)], none⟩] (fun x y => Below x.heap.size x y) (MPat [MP.eq (.slice (some ⟨C, 0, none⟩) n n), MP.eq (.int .i64 (k : Int)), MP.eq (.pointer (some ⟨C, k, none⟩)), MP.eq (.slice (some ⟨R, 0, none⟩) n n), MP.eq (.int .i64 (k : Int)), MP.eq (Value.bool false), MP.eq (.iface 104 (Value.bool false)), MP.eq (bv (some 0)), MP.eq (.pointer (some ⟨R, k, none⟩))]) rfl (by kernel_rfl) (fun _ _ _ h k => Ext.trans h k) (fun _ => Below.refl _ _) (fun x => (Below.refl x.heap.size x).drew) (MPat.mono _) (by kernel_rfl) (by kernel_rfl) (by kernel_rfl) ?obs ?rest
      case obs =>
        refine ⟨?_, ?_, ?_, ?_, ?_, ?_, ?_, ?_, ?_, trivial⟩
        · intro ev W hf _ _ hst hd
          have e4 : ev (.tmp 4) = .slice (some ⟨C, 0, none⟩) n n := hf 4 (by kernel_rfl)
          refine st_value (v := .slice (some ⟨C, 0, none⟩) n n) ?_ (Below.refl _ _) ?_
          · simp [execOp, go_sem, e4]
          · exact rfl
        · intro ev W hf _ _ hst hd
          have e5 : ev (.tmp 5) = .int .i64 (k : Int) := hf 5 (by kernel_rfl)
          refine st_value (v := .int .i64 (k : Int)) ?_ (Below.refl _ _) ?_
          · simp [execOp, go_sem, e5]
          · exact rfl
        · intro ev W hf _ _ hst hd
          obtain ⟨d22, d23, _⟩ := hd
          have e22 : ev (.tmp 22) = .slice (some ⟨C, 0, none⟩) n n := d22
          have e23 : ev (.tmp 23) = .int .i64 (k : Int) := d23
          refine st_value (v := .pointer (some ⟨C, k, none⟩)) ?_ (Below.refl _ _) ?_
          · simp [execOp, go_sem, e22, e23, hlt]
          · exact rfl
        · intro ev W hf _ _ hst hd
          obtain ⟨d24, _⟩ := hd
          have e24 : ev (.tmp 24) = .pointer (some ⟨C, k, none⟩) := d24
          have q0 := Ext.cell hst HKC.out
          refine st_value (v := .slice (some ⟨R, 0, none⟩) n n) ?_ (Below.refl _ _) ?_
          · simp [execOp, go_sem, e24, q0]
          · exact rfl
        · intro ev W hf _ _ hst hd
          have e5 : ev (.tmp 5) = .int .i64 (k : Int) := hf 5 (by kernel_rfl)
          refine st_value (v := .int .i64 (k : Int)) ?_ (Below.refl _ _) ?_
          · simp [execOp, go_sem, e5]
          · exact rfl
        · intro ev W hf _ _ hst hd
          have e3 : ev (.tmp 3) = .bool false := hf 3 (by kernel_rfl)
          refine st_value (v := .bool false) ?_ (Below.refl _ _) ?_
          · simp [execOp, go_sem, e3]
          · exact rfl
        · intro ev W hf _ _ hst hd
          obtain ⟨d27, _⟩ := hd
          have e27 : ev (.tmp 27) = .bool false := d27
          refine st_value (v := .iface 104 (Value.bool false)) ?_ (Below.refl _ _) ?_
          · simp [execOp, go_sem, e27]
          · exact rfl
        · intro ev W hf _ hfn hst hd
          obtain ⟨d28, _⟩ := hd
          have e28 : ev (.tmp 28) = .iface 104 (Value.bool false) := d28
          clear hfn
          refine st_call (f := 161) (args := #[.bool false]) (by simp [execOp, go_sem, e28, HMO.out]) ((HONE.out _).mono fun _ _ he => ⟨he.1, by rw [← he.2]; exact Ext.refl _⟩) (fun _ _ => rfl)
        · intro ev W hf _ _ hst hd
          obtain ⟨d25, d26, _⟩ := hd
          have e25 : ev (.tmp 25) = .slice (some ⟨R, 0, none⟩) n n := d25
          have e26 : ev (.tmp 26) = .int .i64 (k : Int) := d26
          refine st_value (v := .pointer (some ⟨R, k, none⟩)) ?_ (Below.refl _ _) ?_
          · simp [execOp, go_sem, e25, e26, hlt]
          · exact rfl
      case rest =>
        intro vs w5 hl hst hg
        have HE5 := Lib.hid hst
        have hvs : vs = [.slice (some ⟨C, 0, none⟩) n n, .int .i64 (k : Int), .pointer (some ⟨C, k, none⟩), .slice (some ⟨R, 0, none⟩) n n, .int .i64 (k : Int), .bool false, .iface 104 (Value.bool false), bv (some 0), .pointer (some ⟨R, k, none⟩)] := list_of hl (fun i u hu => by
          match i, hu with
          | 0, hu => exact (congrArg some (hg 0 u hu)).symm
          | 1, hu => exact (congrArg some (hg 1 u hu)).symm
          | 2, hu => exact (congrArg some (hg 2 u hu)).symm
          | 3, hu => exact (congrArg some (hg 3 u hu)).symm
          | 4, hu => exact (congrArg some (hg 4 u hu)).symm
          | 5, hu => exact (congrArg some (hg 5 u hu)).symm
          | 6, hu => exact (congrArg some (hg 6 u hu)).symm
          | 7, hu => exact (congrArg some (hg 7 u hu)).symm
          | 8, hu => exact (congrArg some (hg 8 u hu)).symm
          | n + 9, hu => exact absurd (lt_len hu) (by rw [hl]; simp))
        clear hg hst hl
        subst hvs
        simp only [putAll, Act.put, List.dropLast, List.setIfInBounds_toArray, List.set_cons_zero, List.set_cons_succ]
        have HU := Lib.hid (VRow.ext HR3.out HE5.out)
        have m0 := VRow.cell HU.out (k := k) (x := bv none) (by rw [List.getElem?_replicate, if_pos hlt])
        have f0 := VRow.frozen HU.out k none
        have hx3 := HE5.out
        go_wp2_with fail
        refine ⟨⟨k + 1, _, by simp, by omega, VRow.setOther (VRow.ext HC3.out HE5.out) (a := ⟨R, k, none⟩) (by show C ≠ R; omega) _, HVS2.out, fun i hi => ?_, Below.setCell (p := ⟨R, k, none⟩) (Ext.trans HE3.out HE5.out) (by show w.heap.size ≤ R; omega) _⟩, by simp [intOf]; omega⟩
        have neR : ∀ i : Nat, (⟨R, k, none⟩ : Addr) ≠ ⟨C, i, none⟩ := fun i e => by injection e with e1; omega
        by_cases ei : i = k
        · subst ei
          refine ⟨R, hCR, (World.cell?_setCell_other (h := neR i) ..).trans (Ext.cell HE5.out HKC.out), _, VRow.set HU.out i (bv (some 0)), by simp, fun b hb => ?_⟩
          by_cases eb : b = i
          · subst eb; rw [List.getElem?_set_self (by simpa using hb)]; simp [oneF]
          · rw [List.getElem?_set_ne (by omega), List.getElem?_replicate, if_pos hb]; unfold oneF; rw [if_neg (fun h => eb h.symm)]
        · obtain ⟨R', h1, h9, h2, us, h3, h4⟩ := HRO3.out i (by omega)
          exact ⟨R', h1, (World.cell?_setCell_other (h := neR i) ..).trans (Ext.cell HE5.out h2), us, VRow.setOther (VRow.ext h3 HE5.out) (a := ⟨R, k, none⟩) (by show R' ≠ R; omega) _, h4⟩
    · obtain rfl : k = n := by omega
      go_wp2_with fail
      go_ret
      exact ⟨_, rfl, ⟨C, vs, by omega, rfl, HC.out, HVS.out, HRO.out⟩, HE.out⟩
end Go.Proofs.YtbcngojiikdigaaGreat
