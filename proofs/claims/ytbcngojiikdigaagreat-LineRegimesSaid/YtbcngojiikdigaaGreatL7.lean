import Derived.Test.YtbcngojiikdigaaGreatL6
namespace Go.Proofs.YtbcngojiikdigaaGreat
set_option maxRecDepth 100000
open Go.RowKit Go.Shelf
set_option maxHeartbeats 4000000 in
theorem identity_c (n : Nat) (w : World) (hn1 : 1 ≤ n) (hn : n ≤ 6) :
    Calls Tryz.prog 84 #[.int .i64 (n : Int)] w fun e w' => ∃ r, e = .returned r ∧ NewMat w.heap.size w' r 56 62 n oneF ∧ Ext w w' := by
  have hmk := run_make_mat n (by omega)
  have HP1 := Lib.hid (vrow_rep w (.slice none 0 0) n 62)
  have HE := Lib.hid (Ext.alloc (Ext.refl w) (.cells (Array.replicate n (.slice none 0 0)) 62))
  go_enter Tryz.func84, Tryz.ntmps84
  go_wp2_with fail
  clear hmk
  generalize w.alloc (.cells (Array.replicate n (.slice none 0 0)) 62) = w1 at *
  obtain ⟨C, hCC⟩ : ∃ C, C = w.heap.size := ⟨_, rfl⟩
  rw [← hCC]
  rw [← hCC] at HP1
  have hwC : w.heap.size ≤ C := by omega
  clear hCC
  go_loopw [10] (fun i wr => ∃ (k : Nat) (vs : List Value), i = .int .i64 k ∧ k ≤ n ∧ VRow wr C 62 vs ∧ vs.length = n ∧ RowsTo wr C 56 n k oneF ∧ Ext w wr) (fun i _ => n - (intOf i).toNat)
  case atStart => exact ⟨0, _, rfl, Nat.zero_le _, HP1.out, by simp, fun i h => by omega, HE.out⟩
  case round =>
    rename World => wr
    obtain ⟨k, vs, rfl, hk, hC, hvs, hrows, hE⟩ := hrel
    have HC := Lib.hid hC
    have HRO := Lib.hid hrows
    have HE := Lib.hid hE
    have HVS := Lib.hid hvs
    clear hC hrows hE hvs
    by_cases hlt : k < n
    · have hz := m_zero
      go_wp2_with fail
      refine (zero_c _ wr).mono ?_
      rintro e w' ⟨rfl, rfl⟩
      have HXR := Lib.hid (show VRow (wr.alloc (.cells #[iv none] 56)) _ _ _ from vrow_alloc wr [iv none] 56)
      have HXE := Lib.hid (Ext.alloc (Ext.refl wr) (.cells #[iv none] 56))
      have hsx : (wr.alloc (.cells #[iv none] 56)).heap.size = wr.heap.size + 1 := by simp
      go_wp2_with fail
      refine (repeat_c wr.heap.size 1 n _ hn1 hn (Nat.le_refl _) (by omega) (VRow.cell HXR.out (k := 0) rfl)).mono ?_
      rintro e w2 ⟨rfl, hrow, hE2⟩
      have hxe := Ext.trans HXE.out hE2
      have hC2 := VRow.ext HC.out hxe
      have fz := VRow.frozen hC2 k none
      obtain ⟨uz, huz⟩ := getElem?_len (show k < vs.length by rw [HVS.out]; exact hlt)
      have cz := VRow.cell hC2 huz
      have HC2 := Lib.hid hC2
      have HROW := Lib.hid hrow
      have HE2 := Lib.hid (Ext.trans HE.out hxe)
      have HRO2 := Lib.hid (show ∀ i, i < k → ∃ R', C < R' ∧ R' < wr.heap.size ∧ w2.cell? ⟨C, i, none⟩ = some (.slice (some ⟨R', 0, none⟩) n n) ∧ ERow w2 R' 56 n (oneF i) from fun i hi => by
        obtain ⟨R', h1, h2, h3⟩ := HRO.out i hi
        exact ⟨R', h1, h3.lt, Ext.cell hxe h2, h3.below hxe h3.lt⟩)
      have hCl := VRow.lt HC.out
      clear huz hrow hE2 hxe hC2 hz
      obtain ⟨R, hR⟩ : ∃ R, R = (wr.alloc (.cells #[iv none] 56)).heap.size := ⟨_, rfl⟩
      rw [← hR]
      rw [← hR] at HROW
      have hCR : C < R := by omega
      have hwR : wr.heap.size < R := by omega
      clear hR hsx hCl HXR HXE
      go_wp2_with fail
      clear fz cz
      have HC3 := Lib.hid (VRow.set HC2.out k (.slice (some ⟨R, 0, none⟩) n n))
      have HR3 := Lib.hid (VRow.setOther HROW.out (a := ⟨C, k, none⟩) (by show R ≠ C; omega) (.slice (some ⟨R, 0, none⟩) n n))
      have HE3 := Lib.hid (show Ext w (w2.setCell ⟨C, k, none⟩ (.slice (some ⟨R, 0, none⟩) n n)) from Below.setCell (p := ⟨C, k, none⟩) HE2.out (by show w.heap.size ≤ C; omega) _)
      have HRO3 := Lib.hid (show ∀ i, i < k → ∃ R', C < R' ∧ R' < R ∧ (w2.setCell ⟨C, k, none⟩ (.slice (some ⟨R, 0, none⟩) n n)).cell? ⟨C, i, none⟩ = some (.slice (some ⟨R', 0, none⟩) n n) ∧ ERow (w2.setCell ⟨C, k, none⟩ (.slice (some ⟨R, 0, none⟩) n n)) R' 56 n (oneF i) from fun i hi => by
        obtain ⟨R', h1, h9, h2, us, h3, h4⟩ := HRO2.out i hi
        have ne2 : (⟨C, k, none⟩ : Addr) ≠ ⟨C, i, none⟩ := fun e => by injection e with e1 e2; omega
        exact ⟨R', h1, by omega, (World.cell?_setCell_other (h := ne2) ..).trans h2, us, VRow.setOther h3 (by show R' ≠ C; omega) _, h4⟩)
      have hvs2 := HVS.out
      have HKC := Lib.hid (VRow.cell HC3.out (k := k) (by rw [List.getElem?_set_self (by omega)]))
      have HVS2 := Lib.hid (show (vs.set k (Value.slice (some ⟨R, 0, none⟩) n n)).length = n by rw [List.length_set]; exact hvs2)
      clear hvs2
      generalize w2.setCell ⟨C, k, none⟩ (.slice (some ⟨R, 0, none⟩) n n) = w3 at *
      have HONE := Lib.hid (fun W => one_c (.int .i64 0) W)
      have HMO := Lib.hid m_one
      refine wp_region_stable_last [⟨[], none⟩, ⟨[], none⟩, ⟨[(0, 22), (1, 23)], none⟩, ⟨[(2, 24)], none⟩, ⟨[], none⟩, ⟨[], none⟩, ⟨[(5, 27)], none⟩, ⟨[(6, 28)], none⟩, ⟨[(3, 25), (4, 26)], none⟩] (fun x y => Below x.heap.size x y) (MPat [MP.eq (.slice (some ⟨C, 0, none⟩) n n), MP.eq (.int .i64 (k : Int)), MP.eq (.pointer (some ⟨C, k, none⟩)), MP.eq (.slice (some ⟨R, 0, none⟩) n n), MP.eq (.int .i64 (k : Int)), MP.eq (.int .i64 0), MP.eq (.iface 56 (.int .i64 0)), MP.eq (iv (some 0)), MP.eq (.pointer (some ⟨R, k, none⟩))]) rfl (by kernel_rfl) (fun _ _ _ h k => Ext.trans h k) (fun _ => Below.refl _ _) (fun x => (Below.refl x.heap.size x).drew) (MPat.mono _) (by kernel_rfl) (by kernel_rfl) (by kernel_rfl) ?obs ?rest
      case obs =>
        refine ⟨?_, ?_, ?_, ?_, ?_, ?_, ?_, ?_, ?_, trivial⟩
        · intro ev W hf _ _ hst hd
          have e4 : ev (.tmp 4) = .slice (some ⟨C, 0, none⟩) n n := hf 4 (by kernel_rfl)
          refine st_value (v := .slice (some ⟨C, 0, none⟩) n n) ?_ (Below.refl _ _) ?_
          · simp [execOp, go_sem, e4]
          · exact rfl
        · intro ev W hf _ _ hst hd
          have e5 : ev (.tmp 5) = .int .i64 (k : Int) := hf 5 (by kernel_rfl)
          refine st_value (v := .int .i64 (k : Int)) ?_ (Below.refl _ _) ?_
          · simp [execOp, go_sem, e5]
          · exact rfl
        · intro ev W hf _ _ hst hd
          obtain ⟨d22, d23, _⟩ := hd
          have e22 : ev (.tmp 22) = .slice (some ⟨C, 0, none⟩) n n := d22
          have e23 : ev (.tmp 23) = .int .i64 (k : Int) := d23
          refine st_value (v := .pointer (some ⟨C, k, none⟩)) ?_ (Below.refl _ _) ?_
          · simp [execOp, go_sem, e22, e23, hlt]
          · exact rfl
        · intro ev W hf _ _ hst hd
          obtain ⟨d24, _⟩ := hd
          have e24 : ev (.tmp 24) = .pointer (some ⟨C, k, none⟩) := d24
          have q0 := Ext.cell hst HKC.out
          refine st_value (v := .slice (some ⟨R, 0, none⟩) n n) ?_ (Below.refl _ _) ?_
          · simp [execOp, go_sem, e24, q0]
          · exact rfl
        · intro ev W hf _ _ hst hd
          have e5 : ev (.tmp 5) = .int .i64 (k : Int) := hf 5 (by kernel_rfl)
          refine st_value (v := .int .i64 (k : Int)) ?_ (Below.refl _ _) ?_
          · simp [execOp, go_sem, e5]
          · exact rfl
        · intro ev W hf _ _ hst hd
          have e3 : ev (.tmp 3) = .int .i64 0 := hf 3 (by kernel_rfl)
          refine st_value (v := .int .i64 0) ?_ (Below.refl _ _) ?_
          · simp [execOp, go_sem, e3]
          · exact rfl
        · intro ev W hf _ _ hst hd
          obtain ⟨d27, _⟩ := hd
          have e27 : ev (.tmp 27) = .int .i64 0 := d27
          refine st_value (v := .iface 56 (.int .i64 0)) ?_ (Below.refl _ _) ?_
          · simp [execOp, go_sem, e27]
          · exact rfl
        · intro ev W hf _ hfn hst hd
          obtain ⟨d28, _⟩ := hd
          have e28 : ev (.tmp 28) = .iface 56 (.int .i64 0) := d28
          clear hfn
          refine st_call (f := 155) (args := #[.int .i64 0]) (by simp [execOp, go_sem, e28, HMO.out]) ((HONE.out _).mono fun _ _ he => ⟨he.1, by rw [← he.2]; exact Ext.refl _⟩) (fun _ _ => rfl)
        · intro ev W hf _ _ hst hd
          obtain ⟨d25, d26, _⟩ := hd
          have e25 : ev (.tmp 25) = .slice (some ⟨R, 0, none⟩) n n := d25
          have e26 : ev (.tmp 26) = .int .i64 (k : Int) := d26
          refine st_value (v := .pointer (some ⟨R, k, none⟩)) ?_ (Below.refl _ _) ?_
          · simp [execOp, go_sem, e25, e26, hlt]
          · exact rfl
      case rest =>
        intro vs w5 hl hst hg
        have HE5 := Lib.hid hst
        have hvs : vs = [.slice (some ⟨C, 0, none⟩) n n, .int .i64 (k : Int), .pointer (some ⟨C, k, none⟩), .slice (some ⟨R, 0, none⟩) n n, .int .i64 (k : Int), .int .i64 0, .iface 56 (.int .i64 0), iv (some 0), .pointer (some ⟨R, k, none⟩)] := list_of hl (fun i u hu => by
          match i, hu with
          | 0, hu => exact (congrArg some (hg 0 u hu)).symm
          | 1, hu => exact (congrArg some (hg 1 u hu)).symm
          | 2, hu => exact (congrArg some (hg 2 u hu)).symm
          | 3, hu => exact (congrArg some (hg 3 u hu)).symm
          | 4, hu => exact (congrArg some (hg 4 u hu)).symm
          | 5, hu => exact (congrArg some (hg 5 u hu)).symm
          | 6, hu => exact (congrArg some (hg 6 u hu)).symm
          | 7, hu => exact (congrArg some (hg 7 u hu)).symm
          | 8, hu => exact (congrArg some (hg 8 u hu)).symm
          | n + 9, hu => exact absurd (lt_len hu) (by rw [hl]; simp))
        clear hg hst hl
        subst hvs
        simp only [putAll, Act.put, List.dropLast, List.setIfInBounds_toArray, List.set_cons_zero, List.set_cons_succ]
        have HU := Lib.hid (VRow.ext HR3.out HE5.out)
        have m0 := VRow.cell HU.out (k := k) (x := iv none) (by rw [List.getElem?_replicate, if_pos hlt])
        have f0 := VRow.frozen HU.out k none
        have hx3 := HE5.out
        go_wp2_with fail
        refine ⟨⟨k + 1, _, by simp, by omega, VRow.setOther (VRow.ext HC3.out HE5.out) (a := ⟨R, k, none⟩) (by show C ≠ R; omega) _, HVS2.out, fun i hi => ?_, Below.setCell (p := ⟨R, k, none⟩) (Ext.trans HE3.out HE5.out) (by show w.heap.size ≤ R; omega) _⟩, by simp [intOf]; omega⟩
        have neR : ∀ i : Nat, (⟨R, k, none⟩ : Addr) ≠ ⟨C, i, none⟩ := fun i e => by injection e with e1; omega
        by_cases ei : i = k
        · subst ei
          refine ⟨R, hCR, (World.cell?_setCell_other (h := neR i) ..).trans (Ext.cell HE5.out HKC.out), _, VRow.set HU.out i (iv (some 0)), by simp, fun b hb => ?_⟩
          by_cases eb : b = i
          · subst eb; rw [List.getElem?_set_self (by simpa using hb)]; simp [oneF]
          · rw [List.getElem?_set_ne (by omega), List.getElem?_replicate, if_pos hb]; unfold oneF; rw [if_neg (fun h => eb h.symm)]
        · obtain ⟨R', h1, h9, h2, us, h3, h4⟩ := HRO3.out i (by omega)
          exact ⟨R', h1, (World.cell?_setCell_other (h := neR i) ..).trans (Ext.cell HE5.out h2), us, VRow.setOther (VRow.ext h3 HE5.out) (a := ⟨R, k, none⟩) (by show R' ≠ R; omega) _, h4⟩
    · obtain rfl : k = n := by omega
      go_wp2_with fail
      go_ret
      exact ⟨_, rfl, ⟨C, vs, by omega, rfl, HC.out, HVS.out, HRO.out⟩, HE.out⟩
end Go.Proofs.YtbcngojiikdigaaGreat
