import Derived.Test.YtbcngojiikdigaaGreatW3
namespace Go.Proofs.YtbcngojiikdigaaGreat
set_option maxRecDepth 100000
open Go.RowKit Go.Shelf
set_option maxHeartbeats 8000000 in
theorem wmplus_c (u v : Value) (n : Nat) (A B : MF) (w : World) (hn1 : 1 ≤ n) (hn : n ≤ 6) (hA : WMatAt w u n A) (hB : WMatAt w v n B) (bA : bdF KB n A) (bB : bdF KB n B) :
    Calls Tryz.prog 124 #[u, v] w fun e w' => ∃ r, e = .returned r ∧ WNewMat w.heap.size w' r 104 107 n (addF A B) ∧ Ext w w' := by
  have HBA := Lib.hid bA
  have HBB := Lib.hid bB
  obtain ⟨ub, uo, uc, rfl, hu1, hu2, hu3⟩ := hA
  have HA := Lib.hid hu3
  obtain ⟨vb, vo, vc, rfl, hv1, hv2, hv3⟩ := hB
  have HB := Lib.hid hv3
  clear bA bB hu3 hv3
  have hmk := wrun_make_mat n (by omega)
  have HMK := Lib.hid (wrun_make_row n (by omega))
  have HP1 := Lib.hid (vrow_rep w (.slice none 0 0) n 107)
  have HE := Lib.hid (Ext.alloc (Ext.refl w) (.cells (Array.replicate n (.slice none 0 0)) 107))
  go_enter Tryz.func124, Tryz.ntmps124
  go_wp2_with fail
  clear hmk
  generalize w.alloc (.cells (Array.replicate n (.slice none 0 0)) 107) = w1 at *
  obtain ⟨C, hCC⟩ : ∃ C, C = w.heap.size := ⟨_, rfl⟩
  rw [← hCC]
  rw [← hCC] at HP1
  have hwC : w.heap.size ≤ C := by omega
  clear hCC
  go_loopw [14] (fun i wr => ∃ (k : Nat) (vs : List Value), i = .int .i64 k ∧ k ≤ n ∧ VRow wr C 107 vs ∧ vs.length = n ∧ WRowsTo wr C 104 n k (addF A B) ∧ Ext w wr) (fun i _ => n - (intOf i).toNat)
  case atStart => exact ⟨0, _, rfl, Nat.zero_le _, HP1.out, by simp, fun i h => by omega, HE.out⟩
  case round =>
    rename World => wr
    obtain ⟨k, vs, rfl, hk, hC, hvs, hrows, hE⟩ := hrel
    have HC := Lib.hid hC
    have HRO := Lib.hid hrows
    have HE := Lib.hid hE
    have HVS := Lib.hid hvs
    clear hC hrows hE hvs
    by_cases hlt : k < n
    · obtain ⟨u, c1, ⟨rb, ro, rc, rfl, hr1, hr2, hr3⟩⟩ := HA.out k hlt
      obtain ⟨v, c2, ⟨sb, so, sc, rfl, hs1, hs2, hs3⟩⟩ := HB.out k hlt
      have HR3 := Lib.hid hr3
      have HS3 := Lib.hid hs3
      have HA1 := Lib.hid c1
      have HB1 := Lib.hid c2
      replace c1 := Ext.cell HE.out c1
      clear hr3 hs3 c2
      have hmk := HMK.out
      have fz := VRow.frozen HC.out k none
      obtain ⟨uz, huz⟩ := getElem?_len (show k < vs.length by rw [HVS.out]; exact hlt)
      have cz := VRow.cell HC.out huz
      have hCl := VRow.lt HC.out
      clear huz
      go_wp2_with fail
      clear hmk fz cz c1
      obtain ⟨ws, hws⟩ : ∃ x, x = wr.setCell ⟨C, k, none⟩ (.slice (some ⟨wr.heap.size, 0, none⟩) n n) := ⟨_, rfl⟩
      have hs4 : ws.heap.size = wr.heap.size := by rw [hws]; simp [World.setCell]
      have hCs : VRow ws C 107 (vs.set k (.slice (some ⟨wr.heap.size, 0, none⟩) n n)) := by rw [hws]; exact VRow.set HC.out k _
      have hEs : Ext w ws := by rw [hws]; exact Below.setCell (p := ⟨C, k, none⟩) HE.out (by show w.heap.size ≤ C; omega) _
      have hRs : ∀ i, i < k → ∃ R', C < R' ∧ R' < wr.heap.size ∧ ws.cell? ⟨C, i, none⟩ = some (.slice (some ⟨R', 0, none⟩) n n) ∧ WERow ws R' 104 n (addF A B i) := fun i hi => by
        obtain ⟨R', h1, h2, h3⟩ := HRO.out i hi
        have ne2 : (⟨C, k, none⟩ : Addr) ≠ ⟨C, i, none⟩ := fun e => by injection e with e1 e2; omega
        have hl3 := h3.lt
        obtain ⟨us, h4, h5⟩ := h3
        rw [hws]
        exact ⟨R', h1, hl3, (World.cell?_setCell_other (h := ne2) ..).trans h2, us, VRow.setOther h4 (by show R' ≠ C; omega) _, h5⟩
      rw [← hws]
      clear hws
      obtain ⟨w2, hw2⟩ : ∃ x, x = ws.alloc (.cells (Array.replicate n (Value.bool false)) 104) := ⟨_, rfl⟩
      have hs6 : w2.heap.size = wr.heap.size + 1 := by rw [hw2]; simp [hs4]
      have hx2 : Ext ws w2 := by rw [hw2]; exact Ext.alloc (Ext.refl ws) _
      have hk2 : VRow w2 wr.heap.size 104 (List.replicate n (Value.bool false)) := by
        have h := vrow_rep ws (Value.bool false) n 104
        rw [hs4] at h
        rw [hw2]; exact h
      rw [← hw2]
      clear hw2
      obtain ⟨R, hR⟩ : ∃ R, R = wr.heap.size := ⟨_, rfl⟩
      rw [← hR]
      rw [← hR] at hk2 hCs hRs hCl
      have KR := Lib.hid hk2
      have KC := Lib.hid (VRow.ext hCs hx2)
      have KE := Lib.hid (Ext.trans hEs hx2)
      have KRO := Lib.hid (show ∀ i, i < k → ∃ R', C < R' ∧ R' < R ∧ w2.cell? ⟨C, i, none⟩ = some (.slice (some ⟨R', 0, none⟩) n n) ∧ WERow w2 R' 104 n (addF A B i) from fun i hi => by
        obtain ⟨R', h1, h2, h3, h4⟩ := hRs i hi
        exact ⟨R', h1, h2, Ext.cell hx2 h3, h4.below hx2 (by omega)⟩)
      have hvs2 := HVS.out
      have HVS2 := Lib.hid (show (vs.set k (Value.slice (some ⟨R, 0, none⟩) n n)).length = n by rw [List.length_set]; exact hvs2)
      have HKC := Lib.hid (show w2.cell? ⟨C, k, none⟩ = some (.slice (some ⟨R, 0, none⟩) n n) from VRow.cell KC.out (by rw [List.getElem?_set_self (by omega)]))
      clear hk2 hx2 hCs hEs hRs HC HRO HE hR hs4 hs6 hvs2
      go_loopw [27] (fun i w3 => ∃ (j : Nat) (us : List Value), i = .int .i64 j ∧ j ≤ n ∧ VRow w3 R 104 us ∧ WRowTo (addF A B k) n j us ∧ Below R w2 w3) (fun i _ => n - (intOf i).toNat)
      case atStart => exact ⟨0, _, rfl, Nat.zero_le _, KR.out, ⟨by simp, fun b h => by omega⟩, Below.refl _ _⟩
      case round =>
        rename World => w3
        obtain ⟨j, us, rfl, hj, hus, hst, hbel⟩ := hrel
        have HUS := Lib.hid hus
        have HST := Lib.hid hst
        have HBL := Lib.hid hbel
        clear hus hst hbel
        by_cases hjl : j < n
        · have hRl := VRow.lt HUS.out
          have HQC := Lib.hid (show w3.cell? ⟨C, k, none⟩ = some (.slice (some ⟨R, 0, none⟩) n n) from by rw [Below.cell HBL.out (p := ⟨C, k, none⟩) (by show C < R; omega)]; exact HKC.out)
          have HQW := Lib.hid (show Ext w w3 from Below.trans KE.out (HBL.out.mono (by omega)))
          have HC1 := Lib.hid (Ext.cell HQW.out HA1.out)
          have HC2 := Lib.hid (Ext.cell HQW.out HB1.out)
          have HC3 := Lib.hid (Ext.cell HQW.out (HR3.out j hjl))
          have HC4 := Lib.hid (Ext.cell HQW.out (HS3.out j hjl))
          have HPUT := Lib.hid (show WRowTo (addF A B k) n (j + 1) (us.set j (bv (em (A k j) (B k j)))) from wrowTo_put HST.out hjl)
          have HPL := Lib.hid (fun W => wplus_c (A k j) (B k j) W)
          have HMP := Lib.hid wm_plus
          generalize em (A k j) (B k j) = z at *
          generalize A k j = xk at *
          generalize B k j = bkj at *
          go_wp2_with fail
          refine wp_region_stable_last [⟨[], none⟩, ⟨[], none⟩, ⟨[(0, 30), (1, 31)], none⟩, ⟨[(2, 32)], none⟩, ⟨[], none⟩, ⟨[], none⟩, ⟨[], none⟩, ⟨[(5, 35), (6, 36)], none⟩, ⟨[(7, 37)], none⟩, ⟨[], none⟩, ⟨[(8, 38), (9, 39)], none⟩, ⟨[(10, 40)], none⟩, ⟨[(11, 41)], none⟩, ⟨[], none⟩, ⟨[], none⟩, ⟨[(13, 43), (14, 44)], none⟩, ⟨[(15, 45)], none⟩, ⟨[], none⟩, ⟨[(16, 46), (17, 47)], none⟩, ⟨[(18, 48)], none⟩, ⟨[(12, 42), (19, 49)], none⟩, ⟨[(3, 33), (4, 34)], none⟩] (fun x y => Below x.heap.size x y) (MPat [MP.eq (.slice (some ⟨C, 0, none⟩) n n), MP.eq (.int .i64 (k : Int)), MP.eq (.pointer (some ⟨C, k, none⟩)), MP.eq (.slice (some ⟨R, 0, none⟩) n n), MP.eq (.int .i64 (j : Int)), MP.eq (.slice (some ⟨ub, uo, none⟩) n uc), MP.eq (.int .i64 (k : Int)), MP.eq (.pointer (some ⟨ub, uo + k, none⟩)), MP.eq (.slice (some ⟨rb, ro, none⟩) n rc), MP.eq (.int .i64 (j : Int)), MP.eq (.pointer (some ⟨rb, ro + j, none⟩)), MP.eq (bv xk), MP.eq (.iface 104 (bv xk)), MP.eq (.slice (some ⟨vb, vo, none⟩) n vc), MP.eq (.int .i64 (k : Int)), MP.eq (.pointer (some ⟨vb, vo + k, none⟩)), MP.eq (.slice (some ⟨sb, so, none⟩) n sc), MP.eq (.int .i64 (j : Int)), MP.eq (.pointer (some ⟨sb, so + j, none⟩)), MP.eq (bv bkj), MP.eq (bv z), MP.eq (.pointer (some ⟨R, j, none⟩))]) rfl (by kernel_rfl) (fun _ _ _ h k => Ext.trans h k) (fun _ => Below.refl _ _) (fun x => (Below.refl x.heap.size x).drew) (MPat.mono _) (by kernel_rfl) (by kernel_rfl) (by kernel_rfl) ?obs ?rest
          case obs =>
            refine ⟨?_, ?_, ?_, ?_, ?_, ?_, ?_, ?_, ?_, ?_, ?_, ?_, ?_, ?_, ?_, ?_, ?_, ?_, ?_, ?_, ?_, ?_, trivial⟩
            · intro ev W hf _ _ hst hd
              have e5 : ev (.tmp 5) = .slice (some ⟨C, 0, none⟩) n n := hf 5 (by kernel_rfl)
              refine st_value (v := .slice (some ⟨C, 0, none⟩) n n) ?_ (Below.refl _ _) ?_
              · simp [execOp, go_sem, e5]
              · exact rfl
            · intro ev W hf _ _ hst hd
              have e6 : ev (.tmp 6) = .int .i64 (k : Int) := hf 6 (by kernel_rfl)
              refine st_value (v := .int .i64 (k : Int)) ?_ (Below.refl _ _) ?_
              · simp [execOp, go_sem, e6]
              · exact rfl
            · intro ev W hf _ _ hst hd
              obtain ⟨d30, d31, _⟩ := hd
              have e30 : ev (.tmp 30) = .slice (some ⟨C, 0, none⟩) n n := d30
              have e31 : ev (.tmp 31) = .int .i64 (k : Int) := d31
              refine st_value (v := .pointer (some ⟨C, k, none⟩)) ?_ (Below.refl _ _) ?_
              · simp [execOp, go_sem, e30, e31, hlt]
              · exact rfl
            · intro ev W hf _ _ hst hd
              obtain ⟨d32, _⟩ := hd
              have e32 : ev (.tmp 32) = .pointer (some ⟨C, k, none⟩) := d32
              have q0 := Ext.cell hst HQC.out
              refine st_value (v := .slice (some ⟨R, 0, none⟩) n n) ?_ (Below.refl _ _) ?_
              · simp [execOp, go_sem, e32, q0]
              · exact rfl
            · intro ev W hf _ _ hst hd
              have e8 : ev (.tmp 8) = .int .i64 (j : Int) := hf 8 (by kernel_rfl)
              refine st_value (v := .int .i64 (j : Int)) ?_ (Below.refl _ _) ?_
              · simp [execOp, go_sem, e8]
              · exact rfl
            · intro ev W hf _ _ hst hd
              have e0 : ev (.tmp 0) = .slice (some ⟨ub, uo, none⟩) n uc := hf 0 (by kernel_rfl)
              refine st_value (v := .slice (some ⟨ub, uo, none⟩) n uc) ?_ (Below.refl _ _) ?_
              · simp [execOp, go_sem, e0]
              · exact rfl
            · intro ev W hf _ _ hst hd
              have e6 : ev (.tmp 6) = .int .i64 (k : Int) := hf 6 (by kernel_rfl)
              refine st_value (v := .int .i64 (k : Int)) ?_ (Below.refl _ _) ?_
              · simp [execOp, go_sem, e6]
              · exact rfl
            · intro ev W hf _ _ hst hd
              obtain ⟨d35, d36, _⟩ := hd
              have e35 : ev (.tmp 35) = .slice (some ⟨ub, uo, none⟩) n uc := d35
              have e36 : ev (.tmp 36) = .int .i64 (k : Int) := d36
              refine st_value (v := .pointer (some ⟨ub, uo + k, none⟩)) ?_ (Below.refl _ _) ?_
              · simp [execOp, go_sem, e35, e36, hlt]
              · exact rfl
            · intro ev W hf _ _ hst hd
              obtain ⟨d37, _⟩ := hd
              have e37 : ev (.tmp 37) = .pointer (some ⟨ub, uo + k, none⟩) := d37
              have q0 := Ext.cell hst HC1.out
              refine st_value (v := .slice (some ⟨rb, ro, none⟩) n rc) ?_ (Below.refl _ _) ?_
              · simp [execOp, go_sem, e37, q0]
              · exact rfl
            · intro ev W hf _ _ hst hd
              have e8 : ev (.tmp 8) = .int .i64 (j : Int) := hf 8 (by kernel_rfl)
              refine st_value (v := .int .i64 (j : Int)) ?_ (Below.refl _ _) ?_
              · simp [execOp, go_sem, e8]
              · exact rfl
            · intro ev W hf _ _ hst hd
              obtain ⟨d38, d39, _⟩ := hd
              have e38 : ev (.tmp 38) = .slice (some ⟨rb, ro, none⟩) n rc := d38
              have e39 : ev (.tmp 39) = .int .i64 (j : Int) := d39
              refine st_value (v := .pointer (some ⟨rb, ro + j, none⟩)) ?_ (Below.refl _ _) ?_
              · simp [execOp, go_sem, e38, e39, hjl]
              · exact rfl
            · intro ev W hf _ _ hst hd
              obtain ⟨d40, _⟩ := hd
              have e40 : ev (.tmp 40) = .pointer (some ⟨rb, ro + j, none⟩) := d40
              have q0 := Ext.cell hst HC3.out
              refine st_value (v := bv xk) ?_ (Below.refl _ _) ?_
              · simp [execOp, go_sem, e40, q0]
              · exact rfl
            · intro ev W hf _ _ hst hd
              obtain ⟨d41, _⟩ := hd
              have e41 : ev (.tmp 41) = bv xk := d41
              refine st_value (v := .iface 104 (bv xk)) ?_ (Below.refl _ _) ?_
              · simp [execOp, go_sem, e41]
              · exact rfl
            · intro ev W hf _ _ hst hd
              have e1 : ev (.tmp 1) = .slice (some ⟨vb, vo, none⟩) n vc := hf 1 (by kernel_rfl)
              refine st_value (v := .slice (some ⟨vb, vo, none⟩) n vc) ?_ (Below.refl _ _) ?_
              · simp [execOp, go_sem, e1]
              · exact rfl
            · intro ev W hf _ _ hst hd
              have e6 : ev (.tmp 6) = .int .i64 (k : Int) := hf 6 (by kernel_rfl)
              refine st_value (v := .int .i64 (k : Int)) ?_ (Below.refl _ _) ?_
              · simp [execOp, go_sem, e6]
              · exact rfl
            · intro ev W hf _ _ hst hd
              obtain ⟨d43, d44, _⟩ := hd
              have e43 : ev (.tmp 43) = .slice (some ⟨vb, vo, none⟩) n vc := d43
              have e44 : ev (.tmp 44) = .int .i64 (k : Int) := d44
              refine st_value (v := .pointer (some ⟨vb, vo + k, none⟩)) ?_ (Below.refl _ _) ?_
              · simp [execOp, go_sem, e43, e44, hlt]
              · exact rfl
            · intro ev W hf _ _ hst hd
              obtain ⟨d45, _⟩ := hd
              have e45 : ev (.tmp 45) = .pointer (some ⟨vb, vo + k, none⟩) := d45
              have q0 := Ext.cell hst HC2.out
              refine st_value (v := .slice (some ⟨sb, so, none⟩) n sc) ?_ (Below.refl _ _) ?_
              · simp [execOp, go_sem, e45, q0]
              · exact rfl
            · intro ev W hf _ _ hst hd
              have e8 : ev (.tmp 8) = .int .i64 (j : Int) := hf 8 (by kernel_rfl)
              refine st_value (v := .int .i64 (j : Int)) ?_ (Below.refl _ _) ?_
              · simp [execOp, go_sem, e8]
              · exact rfl
            · intro ev W hf _ _ hst hd
              obtain ⟨d46, d47, _⟩ := hd
              have e46 : ev (.tmp 46) = .slice (some ⟨sb, so, none⟩) n sc := d46
              have e47 : ev (.tmp 47) = .int .i64 (j : Int) := d47
              refine st_value (v := .pointer (some ⟨sb, so + j, none⟩)) ?_ (Below.refl _ _) ?_
              · simp [execOp, go_sem, e46, e47, hjl]
              · exact rfl
            · intro ev W hf _ _ hst hd
              obtain ⟨d48, _⟩ := hd
              have e48 : ev (.tmp 48) = .pointer (some ⟨sb, so + j, none⟩) := d48
              have q0 := Ext.cell hst HC4.out
              refine st_value (v := bv bkj) ?_ (Below.refl _ _) ?_
              · simp [execOp, go_sem, e48, q0]
              · exact rfl
            · intro ev W hf _ hfn hst hd
              obtain ⟨d42, d49, _⟩ := hd
              have e42 : ev (.tmp 42) = .iface 104 (bv xk) := d42
              have e49 : ev (.tmp 49) = bv bkj := d49
              clear hfn
              refine st_call (f := 162) (args := #[bv xk, bv bkj]) (by simp [execOp, go_sem, e42, e49, HMP.out]) ((HPL.out _).mono fun _ _ he => ⟨he.1, by rw [← he.2]; exact Ext.refl _⟩) (fun _ _ => rfl)
            · intro ev W hf _ _ hst hd
              obtain ⟨d33, d34, _⟩ := hd
              have e33 : ev (.tmp 33) = .slice (some ⟨R, 0, none⟩) n n := d33
              have e34 : ev (.tmp 34) = .int .i64 (j : Int) := d34
              refine st_value (v := .pointer (some ⟨R, j, none⟩)) ?_ (Below.refl _ _) ?_
              · simp [execOp, go_sem, e33, e34, hjl]
              · exact rfl
          case rest =>
            intro vs w5 hl hst hg
            have HE3 := Lib.hid hst
            have hvs : vs = [.slice (some ⟨C, 0, none⟩) n n, .int .i64 (k : Int), .pointer (some ⟨C, k, none⟩), .slice (some ⟨R, 0, none⟩) n n, .int .i64 (j : Int), .slice (some ⟨ub, uo, none⟩) n uc, .int .i64 (k : Int), .pointer (some ⟨ub, uo + k, none⟩), .slice (some ⟨rb, ro, none⟩) n rc, .int .i64 (j : Int), .pointer (some ⟨rb, ro + j, none⟩), bv xk, .iface 104 (bv xk), .slice (some ⟨vb, vo, none⟩) n vc, .int .i64 (k : Int), .pointer (some ⟨vb, vo + k, none⟩), .slice (some ⟨sb, so, none⟩) n sc, .int .i64 (j : Int), .pointer (some ⟨sb, so + j, none⟩), bv bkj, bv z, .pointer (some ⟨R, j, none⟩)] := list_of hl (fun i u hu => by
              match i, hu with
              | 0, hu => exact (congrArg some (hg 0 u hu)).symm
              | 1, hu => exact (congrArg some (hg 1 u hu)).symm
              | 2, hu => exact (congrArg some (hg 2 u hu)).symm
              | 3, hu => exact (congrArg some (hg 3 u hu)).symm
              | 4, hu => exact (congrArg some (hg 4 u hu)).symm
              | 5, hu => exact (congrArg some (hg 5 u hu)).symm
              | 6, hu => exact (congrArg some (hg 6 u hu)).symm
              | 7, hu => exact (congrArg some (hg 7 u hu)).symm
              | 8, hu => exact (congrArg some (hg 8 u hu)).symm
              | 9, hu => exact (congrArg some (hg 9 u hu)).symm
              | 10, hu => exact (congrArg some (hg 10 u hu)).symm
              | 11, hu => exact (congrArg some (hg 11 u hu)).symm
              | 12, hu => exact (congrArg some (hg 12 u hu)).symm
              | 13, hu => exact (congrArg some (hg 13 u hu)).symm
              | 14, hu => exact (congrArg some (hg 14 u hu)).symm
              | 15, hu => exact (congrArg some (hg 15 u hu)).symm
              | 16, hu => exact (congrArg some (hg 16 u hu)).symm
              | 17, hu => exact (congrArg some (hg 17 u hu)).symm
              | 18, hu => exact (congrArg some (hg 18 u hu)).symm
              | 19, hu => exact (congrArg some (hg 19 u hu)).symm
              | 20, hu => exact (congrArg some (hg 20 u hu)).symm
              | 21, hu => exact (congrArg some (hg 21 u hu)).symm
              | n + 22, hu => exact absurd (lt_len hu) (by rw [hl]; simp))
            clear hg hst hl
            subst hvs
            simp only [putAll, Act.put, List.dropLast, List.setIfInBounds_toArray, List.set_cons_zero, List.set_cons_succ]
            have HU := Lib.hid (VRow.ext HUS.out HE3.out)
            obtain ⟨u0, hu0⟩ := getElem?_len (show j < us.length by rw [HST.out.1]; exact hjl)
            have m0 := VRow.cell HU.out hu0
            have f0 := VRow.frozen HU.out j none
            clear hu0
            go_wp2_with fail
            refine ⟨⟨j + 1, _, by simp, by omega, VRow.set HU.out j (bv z), HPUT.out, Below.setCell (p := ⟨R, j, none⟩) (Below.lastly HBL.out HE3.out (by omega)) (Nat.le_refl _) _⟩, by simp [intOf]; omega⟩
        · obtain rfl : n = j := by omega
          go_wp2_with fail
          have hRl := VRow.lt HUS.out
          have hw2s := HBL.out.size
          refine ⟨⟨k + 1, _, by simp, by omega, VRow.below KC.out HBL.out (by omega), HVS2.out, fun i hi => ?_, Below.trans KE.out (HBL.out.mono (by omega))⟩, by simp [intOf]; omega⟩
          by_cases e : i = k
          · subst e
            exact ⟨R, by omega, by rw [Below.cell HBL.out (p := ⟨C, i, none⟩) (by show C < R; omega)]; exact HKC.out, _, HUS.out, HST.out⟩
          · obtain ⟨R', h1, h9, h2, us', h3, h4⟩ := KRO.out i (by omega)
            exact ⟨R', h1, by rw [Below.cell HBL.out (p := ⟨C, i, none⟩) (by show C < R; omega)]; exact h2, us', VRow.below h3 HBL.out (by omega), h4⟩
    · obtain rfl : k = n := by omega
      go_wp2_with fail
      go_ret
      exact ⟨_, rfl, ⟨C, vs, by omega, rfl, HC.out, HVS.out, HRO.out⟩, HE.out⟩
theorem WMatAt.len {w : World} {v : Value} {n : Nat} {M : MF} (h : WMatAt w v n M) : ∃ a c, v = .slice (some a) n c := by
  obtain ⟨b, o, cap, h1, _⟩ := h
  exact ⟨_, _, h1⟩
set_option maxHeartbeats 4000000 in
theorem wmpower_c (u : Value) (n k0 : Nat) (A : MF) (K : Int) (w : World) (hn1 : 1 ≤ n) (hn : n ≤ 6) (hk0 : k0 ≤ 1048576000) (hA : WMatAt w u n A) (bA : bdF K n A) (hK : 0 ≤ K) (hKk : K * ((2 * k0 : Nat) : Int) ≤ KB) :
    Calls Tryz.prog 125 #[u, .int .i64 (k0 : Int)] w fun e w' => ∃ r, e = .returned r ∧ WNewMat w.heap.size w' r 104 107 n (pwF n A k0) ∧ Ext w w' := by
  have HA := Lib.hid hA
  have HBA := Lib.hid bA
  have HKK := Lib.hid hKk
  obtain ⟨ua, uc, rfl⟩ := hA.len
  clear hA bA hKk
  go_enter Tryz.func125, Tryz.ntmps125
  go_wp2_with fail
  refine (widentity_c n w hn1 hn).mono ?_
  rintro e w1 ⟨r1, rfl, hr1, hE1⟩
  have HR1 := Lib.hid hr1
  have HE1 := Lib.hid hE1
  clear hr1 hE1
  go_wp2_with fail
  go_loopw [1, 5, 6] (fun kv rv sv wr => ∃ k r s : Nat, kv = .int .i64 (k : Int) ∧ (r + s * k = k0 ∧ 1 ≤ s ∧ k ≤ k0) ∧ WNewMat w.heap.size wr rv 104 107 n (pwF n A r) ∧ WMatAt wr sv n (pwF n A s) ∧ Ext w wr) (fun kv _ _ _ => (intOf kv).toNat)
  case atStart => exact ⟨k0, 0, 1, rfl, ⟨by omega, by omega, by omega⟩, HR1.out, (HA.out.ext HE1.out).congr (one_mulF n A).symm, HE1.out⟩
  case round =>
    rename World => wr
    obtain ⟨k, r, s, rfl, ⟨hrs, hs1, hkk⟩, hr, hs, hE⟩ := hrel
    have HR := Lib.hid hr
    have HS := Lib.hid hs
    have HE := Lib.hid hE
    have HRS := Lib.hid hrs
    clear hr hs hE hrs HR1 HE1
    by_cases hk : k = 0
    · subst hk
      go_wp2_with fail
      go_ret
      have h := HRS.out
      simp only [Nat.mul_zero, Nat.add_zero] at h
      have h2 := HR.out
      rw [h] at h2
      exact ⟨_, rfl, h2, HE.out⟩
    · have hkp : (0 : Int) < (k : Int) := by omega
      have hkN : 0 < k := by omega
      have hsr : r + s ≤ k0 := by
        have h := HRS.out
        have := Nat.le_mul_of_pos_right s hkN
        omega
      obtain ⟨q, hq⟩ : ∃ q, q = k / 2 := ⟨_, rfl⟩
      have hqz : (k : Int) / 2 = (q : Int) := by omega
      have hqk : q < k := by omega
      have hqk0 : q ≤ k0 := by omega
      have HBR := Lib.hid (pw_bd HBA.out hK (m := r) (k0 := 2 * k0) (by omega) HKK.out)
      have HBS := Lib.hid (pw_bd HBA.out hK (m := s) (k0 := 2 * k0) (by omega) HKK.out)
      have HBRS := Lib.hid (pw_bd2 HBA.out hK (r := r) (s := s) (k0 := 2 * k0) (by omega) HKK.out)
      have HBSS := Lib.hid (pw_bd2 HBA.out hK (r := s) (s := s) (k0 := 2 * k0) (by omega) HKK.out)
      have HRM := Lib.hid (HR.out.mat (by omega))
      obtain ⟨sa, sc, rfl⟩ := HS.out.len
      by_cases hod : k % 2 = 1
      · have hoz : (k : Int) % 2 = 1 := by omega
        have HQ := Lib.hid (show r + s + (s + s) * q = k0 from by
          have h := HRS.out
          have e : k = 2 * q + 1 := by omega
          rw [e] at h
          rw [← h]
          grind)
        clear hq hod
        go_wp2_with fail
        refine (wmtimes_c _ _ n _ _ wr hn1 hn HRM.out HS.out HBR.out HBS.out HBRS.out).mono ?_
        rintro e w2 ⟨r2, rfl, hr2, hE2⟩
        have HR2 := Lib.hid ((hr2.mono HE.out.size).congr (pwF_add n A r s).symm)
        have HE2 := Lib.hid (Ext.trans HE.out hE2)
        have HS2 := Lib.hid (HS.out.ext hE2)
        clear hr2 hE2
        go_wp2_with fail
        refine (wmtimes_c _ _ n _ _ w2 hn1 hn HS2.out HS2.out HBS.out HBS.out HBSS.out).mono ?_
        rintro e w3 ⟨s2, rfl, hs2, hE3⟩
        have HS3 := Lib.hid ((hs2.mat (by omega)).congr (pwF_add n A s s).symm)
        have HE3 := Lib.hid (Ext.trans HE2.out hE3)
        have HR3 := Lib.hid (HR2.out.ext hE3)
        clear hs2 hE3
        go_wp2_with fail
        exact ⟨⟨q, r + s, s + s, rfl, ⟨HQ.out, by omega, hqk0⟩, HR3.out, HS3.out, HE3.out⟩, by simp [intOf]; omega⟩
      · have hoz : (k : Int) % 2 = 0 := by omega
        have HQ := Lib.hid (show r + (s + s) * q = k0 from by
          have h := HRS.out
          have e : k = 2 * q := by omega
          rw [e] at h
          rw [← h]
          grind)
        clear hq hod
        go_wp2_with fail
        refine (wmtimes_c _ _ n _ _ wr hn1 hn HS.out HS.out HBS.out HBS.out HBSS.out).mono ?_
        rintro e w3 ⟨s2, rfl, hs2, hE3⟩
        have HS3 := Lib.hid ((hs2.mat (by omega)).congr (pwF_add n A s s).symm)
        have HE3 := Lib.hid (Ext.trans HE.out hE3)
        have HR3 := Lib.hid (HR.out.ext hE3)
        clear hs2 hE3
        go_wp2_with fail
        exact ⟨⟨q, r, s + s, rfl, ⟨HQ.out, by omega, hqk0⟩, HR3.out, HS3.out, HE3.out⟩, by simp [intOf]; omega⟩
set_option maxHeartbeats 1000000 in
theorem wclosure_c (u : Value) (n : Nat) (A : MF) (K : Int) (w : World) (hn1 : 1 ≤ n) (hn : n ≤ 6) (hA : WMatAt w u n A) (bA : bdF K n A) (hK : 0 ≤ K) (hKk : K * 12 ≤ KB) :
    Calls Tryz.prog 101 #[u] w fun e w' => ∃ r, e = .returned r ∧ WNewMat w.heap.size w' r 104 107 n (closF n A) ∧ Ext w w' := by
  have HA := Lib.hid hA
  have HBA := Lib.hid bA
  obtain ⟨ua, uc, rfl⟩ := hA.len
  have hKB : K ≤ KB := by unfold KB at *; omega
  have hn6 : (n : Int) - 1 = ((n - 1 : Nat) : Int) := by omega
  have HN := Lib.hid hn6
  clear hA bA hn6
  go_enter Tryz.func101, Tryz.ntmps101
  go_wp2_with fail
  refine (widentity_c n w hn1 hn).mono ?_
  rintro e w1 ⟨r1, rfl, hr1, hE1⟩
  have HR1 := Lib.hid hr1
  have HE1 := Lib.hid hE1
  clear hr1 hE1
  go_wp2_with fail
  refine (wmplus_c _ _ n _ _ w1 hn1 hn (HR1.out.mat (by omega)) (HA.out.ext HE1.out) ((bdF_one n).mono (by unfold KB; omega)) (HBA.out.mono hKB)).mono ?_
  rintro e w2 ⟨r2, rfl, hr2, hE2⟩
  have HR2 := Lib.hid hr2
  have HE2 := Lib.hid (Ext.trans HE1.out hE2)
  clear hr2 hE2
  go_wp2_with fail
  rw [HN.out]
  refine (wmpower_c _ n (n - 1) _ K w2 hn1 hn (by omega) (HR2.out.mat (by omega)) (bdF_add ((bdF_one n).mono hK) HBA.out) hK (Int.le_trans (Int.mul_le_mul_of_nonneg_left (by omega) hK) hKk)).mono ?_
  rintro e w3 ⟨r3, rfl, hr3, hE3⟩
  have HR3 := Lib.hid (hr3.mono HE2.out.size)
  have HE3 := Lib.hid (Ext.trans HE2.out hE3)
  clear hr3 hE3
  go_wp2_with fail
  go_ret
  exact ⟨_, rfl, HR3.out, HE3.out⟩
end Go.Proofs.YtbcngojiikdigaaGreat
