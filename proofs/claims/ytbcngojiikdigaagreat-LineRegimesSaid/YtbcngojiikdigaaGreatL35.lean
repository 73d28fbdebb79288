import Derived.Test.YtbcngojiikdigaaGreatL33
namespace Go.Proofs.YtbcngojiikdigaaGreat
set_option maxRecDepth 100000
open Go.RowKit Go.Shelf
theorem rplus_c (x y : E) (w : World) (hx : bdE KB x) (hy : bdE KB y) : Calls Tryz.prog 56 #[iv x, iv y] w fun e w' => e = .returned (iv (ep x y)) ∧ Ext w w' := by
  cases x with
  | none =>
    show Calls Tryz.prog 56 #[.int .i64 (-1152921504606846976), iv y] w fun e w' => e = .returned (.int .i64 (-1152921504606846976)) ∧ Ext w w'
    go_enter Tryz.func56, Tryz.ntmps56
    go_wp2_with fail
    go_ret
    exact ⟨rfl, Ext.refl _⟩
  | some a =>
    have ha := hx a rfl
    have hae : (a == -1152921504606846976) = false := by rw [beq_eq_false_iff_ne]; exact val_some_ne (by decide) hx
    cases y with
    | none =>
      show Calls Tryz.prog 56 #[.int .i64 a, .int .i64 (-1152921504606846976)] w fun e w' => e = .returned (.int .i64 (-1152921504606846976)) ∧ Ext w w'
      go_enter Tryz.func56, Tryz.ntmps56
      go_wp2_with fail
      go_ret
      exact ⟨rfl, Ext.refl _⟩
    | some b =>
      have hb := hy b rfl
      have hbe : (b == -1152921504606846976) = false := by rw [beq_eq_false_iff_ne]; exact val_some_ne (by decide) hy
      unfold KB at ha hb
      show Calls Tryz.prog 56 #[.int .i64 a, .int .i64 b] w fun e w' => e = .returned (.int .i64 (a + b)) ∧ Ext w w'
      go_enter Tryz.func56, Tryz.ntmps56
      go_wp2_with fail
      go_ret
      exact ⟨rfl, Ext.refl _⟩
set_option maxHeartbeats 8000000 in
theorem rproduct0_c (u v : Value) (n : Nat) (A B : MF) (w : World) (hn1 : 1 ≤ n) (hn : n ≤ 6) (hA : MatAt w u n A) (hB : MatAt w v n B) (bA : bdF KB n A) (bB : bdF KB n B) (bM : ∀ i, i < n → ∀ j, j < n → ∀ k, k < n → bdE KB (ep (A i k) (B k j))) :
    Calls Tryz.prog 44 #[u, v] w fun e w' => ∃ r, e = .returned r ∧ Rows2 w' r (listM n (mulF n A B)) ∧ Ext w w' := by
  have HA := Lib.hid hA
  have HB := Lib.hid hB
  have HBA := Lib.hid bA
  have HBB := Lib.hid bB
  have HBM := Lib.hid bM
  obtain ⟨ab, ao, ac, rfl, ha1, ha2, ha3⟩ := hA
  obtain ⟨bb, bo, bc, rfl, hb1, hb2, hb3⟩ := hB
  have HA3 := Lib.hid ha3
  have HB3 := Lib.hid hb3
  clear bA bB bM ha3 hb3
  go_enter Tryz.func44, Tryz.ntmps44
  go_wp2_with fail
  go_loopw [6, 5] (fun i ov wr => ∃ k : Nat, i = .int .i64 (k : Int) ∧ k ≤ n ∧ OutTo w.heap.size wr ov n k (mulF n A B) ∧ Ext w wr) (fun i _ _ => n - (intOf i).toNat)
  case atStart => exact ⟨0, rfl, Nat.zero_le _, ⟨[], ⟨rfl, .inl ⟨rfl, rfl⟩⟩, fun i u h => by simp at h⟩, Ext.refl _⟩
  case round =>
    rename World => wr
    obtain ⟨k, rfl, hk, hO, hE⟩ := hrel
    have HO := Lib.hid hO
    obtain ⟨vs, ho, hvs⟩ := hO
    obtain ⟨oa, oc, rfl⟩ := own_slice ho
    have HOW := Lib.hid ho
    have HVS := Lib.hid hvs
    have HE := Lib.hid hE
    clear ho hvs hE
    have hwr := HE.out.size
    by_cases hlt : k < n
    · obtain ⟨ra, ca, hra⟩ := HA3.out k hlt
      have HCA := Lib.hid (Ext.cell HE.out ca)
      have HRA := Lib.hid (hra.ext HE.out)
      obtain ⟨rb, ro, rc, rfl, hr1, hr2, hr3⟩ := hra
      clear ca hr3
      go_wp2_with fail
      go_loopw [8, 7] (fun jv rv wq => ∃ j : Nat, jv = .int .i64 (j : Int) ∧ j ≤ n ∧ RowOwn wr.heap.size wq rv j (mulF n A B k) ∧ Ext wr wq) (fun jv _ _ => n - (intOf jv).toNat)
      case atStart => exact ⟨0, rfl, Nat.zero_le _, ⟨rfl, .inl ⟨rfl, rfl⟩⟩, Ext.refl _⟩
      case round =>
        rename World => wq
        obtain ⟨j, rfl, hj, hR, hEq⟩ := hrel
        obtain ⟨sa, sc, rfl⟩ := own_slice hR
        have HR := Lib.hid hR
        have HEq := Lib.hid hEq
        clear hR hEq
        have hwq := HEq.out.size
        by_cases hjl : j < n
        · go_wp2_with fail
          go_loopw [10, 9] (fun tv bv wt => ∃ t : Nat, tv = .int .i64 (t : Int) ∧ t ≤ n ∧ bv = iv (es (fun t => ep (A k t) (B t j)) t) ∧ Ext wq wt) (fun tv _ _ => n - (intOf tv).toNat)
          case atStart => exact ⟨0, rfl, Nat.zero_le _, rfl, Ext.refl _⟩
          case round =>
            rename World => wt
            obtain ⟨t, rfl, ht, rfl, hEt⟩ := hrel
            have HEt := Lib.hid hEt
            clear hEt
            have HES := Lib.hid (show es (fun t => ep (A k t) (B t j)) (t + 1) = em (es (fun t => ep (A k t) (B t j)) t) (ep (A k t) (B t j)) from rfl)
            by_cases htl : t < n
            · have hET := Ext.trans HE.out (Ext.trans HEq.out HEt.out)
              obtain ⟨rb2, cb2, hrb2⟩ := HB3.out t htl
              obtain ⟨sb2, so2, sc2, rfl, hs1, hs2, hs3⟩ := hrb2
              have HC1 := Lib.hid (Ext.cell (Ext.trans HEq.out HEt.out) HCA.out)
              have HC2 := Lib.hid (show wt.cell? ⟨rb, ro + t, none⟩ = some (iv (A k t)) from by
                obtain ⟨b', o', c', e, _, _, h⟩ := HRA.out.ext (Ext.trans HEq.out HEt.out)
                simp only [Value.slice.injEq, Option.some.injEq, Addr.mk.injEq] at e
                obtain ⟨⟨rfl, rfl, _⟩, _⟩ := e
                exact h t htl)
              have HC3 := Lib.hid (Ext.cell hET cb2)
              have HC4 := Lib.hid (Ext.cell hET (hs3 j hjl))
              have HB1 := Lib.hid (show bdE KB (es (fun t => ep (A k t) (B t j)) t) from bdE_es fun s hs => HBM.out k hlt j hjl s (by omega))
              have HB2 := Lib.hid (HBM.out k hlt j hjl t htl)
              have HPL := Lib.hid (fun W => rplus_c (A k t) (B t j) W (HBA.out k hlt t htl) (HBB.out t htl j hjl))
              clear hET cb2 hs3
              obtain ⟨es1, he1⟩ : ∃ e, e = es (fun t => ep (A k t) (B t j)) (t + 1) := ⟨_, rfl⟩
              rw [← he1] at HES
              have HQ1 := Lib.hid he1
              clear he1
              generalize es (fun t => ep (A k t) (B t j)) t = es0 at *
              generalize ep (A k t) (B t j) = pz at *
              generalize A k t = akt at *
              generalize B t j = btj at *
              have HMX := Lib.hid (val_em_max HB1.out HB2.out)
              go_wp2_with fail
              refine wp_region_stable_last [⟨[], none⟩, ⟨[], none⟩, ⟨[], none⟩, ⟨[(1, 30), (2, 31)], none⟩, ⟨[(3, 32)], none⟩, ⟨[], none⟩, ⟨[(4, 33), (5, 34)], none⟩, ⟨[(6, 35)], none⟩, ⟨[], none⟩, ⟨[], none⟩, ⟨[(8, 37), (9, 38)], none⟩, ⟨[(10, 39)], none⟩, ⟨[], none⟩, ⟨[(11, 40), (12, 41)], none⟩, ⟨[(13, 42)], none⟩, ⟨[(7, 36), (14, 43)], none⟩, ⟨[(0, 29), (15, 44)], none⟩] (fun x y => Below x.heap.size x y) (MPat [MP.eq (iv es0), MP.eq (.slice (some ⟨ab, ao, none⟩) n ac), MP.eq (.int .i64 (k : Int)), MP.eq (.pointer (some ⟨ab, ao + k, none⟩)), MP.eq (.slice (some ⟨rb, ro, none⟩) n rc), MP.eq (.int .i64 (t : Int)), MP.eq (.pointer (some ⟨rb, ro + t, none⟩)), MP.eq (iv akt), MP.eq (.slice (some ⟨bb, bo, none⟩) n bc), MP.eq (.int .i64 (t : Int)), MP.eq (.pointer (some ⟨bb, bo + t, none⟩)), MP.eq (.slice (some ⟨sb2, so2, none⟩) n sc2), MP.eq (.int .i64 (j : Int)), MP.eq (.pointer (some ⟨sb2, so2 + j, none⟩)), MP.eq (iv btj), MP.eq (iv pz), MP.eq (iv es1)]) rfl (by kernel_rfl) (fun _ _ _ h k => Ext.trans h k) (fun _ => Below.refl _ _) (fun x => (Below.refl x.heap.size x).drew) (MPat.mono _) (by kernel_rfl) (by kernel_rfl) (by kernel_rfl) ?obs ?rest
              case obs =>
                refine ⟨?_, ?_, ?_, ?_, ?_, ?_, ?_, ?_, ?_, ?_, ?_, ?_, ?_, ?_, ?_, ?_, ?_, trivial⟩
                · intro ev W hf _ _ hst hd
                  have e9 : ev (.tmp 9) = iv es0 := hf 9 (by kernel_rfl)
                  refine st_value (v := iv es0) ?_ (Below.refl _ _) ?_
                  · simp [execOp, go_sem, e9]
                  · exact rfl
                · intro ev W hf _ _ hst hd
                  have e0 : ev (.tmp 0) = .slice (some ⟨ab, ao, none⟩) n ac := hf 0 (by kernel_rfl)
                  refine st_value (v := .slice (some ⟨ab, ao, none⟩) n ac) ?_ (Below.refl _ _) ?_
                  · simp [execOp, go_sem, e0]
                  · exact rfl
                · intro ev W hf _ _ hst hd
                  have e6 : ev (.tmp 6) = .int .i64 (k : Int) := hf 6 (by kernel_rfl)
                  refine st_value (v := .int .i64 (k : Int)) ?_ (Below.refl _ _) ?_
                  · simp [execOp, go_sem, e6]
                  · exact rfl
                · intro ev W hf _ _ hst hd
                  obtain ⟨d30, d31, _⟩ := hd
                  have e30 : ev (.tmp 30) = .slice (some ⟨ab, ao, none⟩) n ac := d30
                  have e31 : ev (.tmp 31) = .int .i64 (k : Int) := d31
                  refine st_value (v := .pointer (some ⟨ab, ao + k, none⟩)) ?_ (Below.refl _ _) ?_
                  · simp [execOp, go_sem, e30, e31, hlt]
                  · exact rfl
                · intro ev W hf _ _ hst hd
                  obtain ⟨d32, _⟩ := hd
                  have e32 : ev (.tmp 32) = .pointer (some ⟨ab, ao + k, none⟩) := d32
                  have q0 := Ext.cell hst HC1.out
                  refine st_value (v := .slice (some ⟨rb, ro, none⟩) n rc) ?_ (Below.refl _ _) ?_
                  · simp [execOp, go_sem, e32, q0]
                  · exact rfl
                · intro ev W hf _ _ hst hd
                  have e10 : ev (.tmp 10) = .int .i64 (t : Int) := hf 10 (by kernel_rfl)
                  refine st_value (v := .int .i64 (t : Int)) ?_ (Below.refl _ _) ?_
                  · simp [execOp, go_sem, e10]
                  · exact rfl
                · intro ev W hf _ _ hst hd
                  obtain ⟨d33, d34, _⟩ := hd
                  have e33 : ev (.tmp 33) = .slice (some ⟨rb, ro, none⟩) n rc := d33
                  have e34 : ev (.tmp 34) = .int .i64 (t : Int) := d34
                  refine st_value (v := .pointer (some ⟨rb, ro + t, none⟩)) ?_ (Below.refl _ _) ?_
                  · simp [execOp, go_sem, e33, e34, htl]
                  · exact rfl
                · intro ev W hf _ _ hst hd
                  obtain ⟨d35, _⟩ := hd
                  have e35 : ev (.tmp 35) = .pointer (some ⟨rb, ro + t, none⟩) := d35
                  have q0 := Ext.cell hst HC2.out
                  refine st_value (v := iv akt) ?_ (Below.refl _ _) ?_
                  · simp [execOp, go_sem, e35, q0]
                  · exact rfl
                · intro ev W hf _ _ hst hd
                  have e1 : ev (.tmp 1) = .slice (some ⟨bb, bo, none⟩) n bc := hf 1 (by kernel_rfl)
                  refine st_value (v := .slice (some ⟨bb, bo, none⟩) n bc) ?_ (Below.refl _ _) ?_
                  · simp [execOp, go_sem, e1]
                  · exact rfl
                · intro ev W hf _ _ hst hd
                  have e10 : ev (.tmp 10) = .int .i64 (t : Int) := hf 10 (by kernel_rfl)
                  refine st_value (v := .int .i64 (t : Int)) ?_ (Below.refl _ _) ?_
                  · simp [execOp, go_sem, e10]
                  · exact rfl
                · intro ev W hf _ _ hst hd
                  obtain ⟨d37, d38, _⟩ := hd
                  have e37 : ev (.tmp 37) = .slice (some ⟨bb, bo, none⟩) n bc := d37
                  have e38 : ev (.tmp 38) = .int .i64 (t : Int) := d38
                  refine st_value (v := .pointer (some ⟨bb, bo + t, none⟩)) ?_ (Below.refl _ _) ?_
                  · simp [execOp, go_sem, e37, e38, htl]
                  · exact rfl
                · intro ev W hf _ _ hst hd
                  obtain ⟨d39, _⟩ := hd
                  have e39 : ev (.tmp 39) = .pointer (some ⟨bb, bo + t, none⟩) := d39
                  have q0 := Ext.cell hst HC3.out
                  refine st_value (v := .slice (some ⟨sb2, so2, none⟩) n sc2) ?_ (Below.refl _ _) ?_
                  · simp [execOp, go_sem, e39, q0]
                  · exact rfl
                · intro ev W hf _ _ hst hd
                  have e8 : ev (.tmp 8) = .int .i64 (j : Int) := hf 8 (by kernel_rfl)
                  refine st_value (v := .int .i64 (j : Int)) ?_ (Below.refl _ _) ?_
                  · simp [execOp, go_sem, e8]
                  · exact rfl
                · intro ev W hf _ _ hst hd
                  obtain ⟨d40, d41, _⟩ := hd
                  have e40 : ev (.tmp 40) = .slice (some ⟨sb2, so2, none⟩) n sc2 := d40
                  have e41 : ev (.tmp 41) = .int .i64 (j : Int) := d41
                  refine st_value (v := .pointer (some ⟨sb2, so2 + j, none⟩)) ?_ (Below.refl _ _) ?_
                  · simp [execOp, go_sem, e40, e41, hjl]
                  · exact rfl
                · intro ev W hf _ _ hst hd
                  obtain ⟨d42, _⟩ := hd
                  have e42 : ev (.tmp 42) = .pointer (some ⟨sb2, so2 + j, none⟩) := d42
                  have q0 := Ext.cell hst HC4.out
                  refine st_value (v := iv btj) ?_ (Below.refl _ _) ?_
                  · simp [execOp, go_sem, e42, q0]
                  · exact rfl
                · intro ev W hf _ hfn hst hd
                  obtain ⟨d36, d43, _⟩ := hd
                  have e36 : ev (.tmp 36) = iv akt := d36
                  have e43 : ev (.tmp 43) = iv btj := d43
                  refine st_call (f := 56) (args := #[iv akt, iv btj]) (by simp [execOp, go_sem, hfn, e36, e43]) (HPL.out W) (fun _ _ => rfl)
                · intro ev W hf _ _ hst hd
                  obtain ⟨d29, d44, _⟩ := hd
                  have e29 : ev (.tmp 29) = iv es0 := d29
                  have e44 : ev (.tmp 44) = iv pz := d44
                  refine st_value (v := iv es1) ?_ (Below.refl _ _) ?_
                  · rw [HES.out]; simp [go_sem, e29, e44, HMX.out]
                  · exact rfl
              case rest =>
                intro vs w3 hl hst hg
                have HE3 := Lib.hid hst
                have hus : vs = [iv es0, .slice (some ⟨ab, ao, none⟩) n ac, .int .i64 (k : Int), .pointer (some ⟨ab, ao + k, none⟩), .slice (some ⟨rb, ro, none⟩) n rc, .int .i64 (t : Int), .pointer (some ⟨rb, ro + t, none⟩), iv akt, .slice (some ⟨bb, bo, none⟩) n bc, .int .i64 (t : Int), .pointer (some ⟨bb, bo + t, none⟩), .slice (some ⟨sb2, so2, none⟩) n sc2, .int .i64 (j : Int), .pointer (some ⟨sb2, so2 + j, none⟩), iv btj, iv pz, iv es1] := list_of hl (fun i u hu => by
                  match i, hu with
                  | 0, hu => exact (congrArg some (hg 0 u hu)).symm
                  | 1, hu => exact (congrArg some (hg 1 u hu)).symm
                  | 2, hu => exact (congrArg some (hg 2 u hu)).symm
                  | 3, hu => exact (congrArg some (hg 3 u hu)).symm
                  | 4, hu => exact (congrArg some (hg 4 u hu)).symm
                  | 5, hu => exact (congrArg some (hg 5 u hu)).symm
                  | 6, hu => exact (congrArg some (hg 6 u hu)).symm
                  | 7, hu => exact (congrArg some (hg 7 u hu)).symm
                  | 8, hu => exact (congrArg some (hg 8 u hu)).symm
                  | 9, hu => exact (congrArg some (hg 9 u hu)).symm
                  | 10, hu => exact (congrArg some (hg 10 u hu)).symm
                  | 11, hu => exact (congrArg some (hg 11 u hu)).symm
                  | 12, hu => exact (congrArg some (hg 12 u hu)).symm
                  | 13, hu => exact (congrArg some (hg 13 u hu)).symm
                  | 14, hu => exact (congrArg some (hg 14 u hu)).symm
                  | 15, hu => exact (congrArg some (hg 15 u hu)).symm
                  | 16, hu => exact (congrArg some (hg 16 u hu)).symm
                  | n + 17, hu => exact absurd (lt_len hu) (by rw [hl]; simp))
                clear hg hst hl
                subst hus
                simp only [putAll, Act.put, List.dropLast, List.setIfInBounds_toArray, List.set_cons_zero, List.set_cons_succ]
                go_wp2_with fail
                exact ⟨⟨t + 1, by simp, by omega, by rw [HQ1.out], Ext.trans HEt.out HE3.out⟩, by simp [intOf]; omega⟩
            · obtain rfl : t = n := by omega
              have HMU := Lib.hid (show es (fun s => ep (A k s) (B s j)) t = mulF t A B k j from rfl)
              have HRS := Lib.hid (listV_succ j (mulF t A B k))
              have hlen : (listV j (mulF t A B k)).length = j := listV_len _ _
              have hwt := HEt.out.size
              obtain ⟨i0, hi0, hz0, hz1, hz2⟩ := info_parts info3x23
              have HI := Lib.hid hi0
              have HZ0 := Lib.hid hz0
              have HZ1 := Lib.hid hz1
              have HZ2 := Lib.hid hz2
              clear hi0 hz0 hz1 hz2
              obtain ⟨zz, hzz⟩ : ∃ zz, zz = val (es (fun s => ep (A k s) (B s j)) t) := ⟨_, rfl⟩
              unfold iv
              rw [← hzz]
              have HZZ := Lib.hid hzz
              clear hzz
              have hob : ∀ x, Value.ownBlock (.slice sa j sc) = some x → wr.heap.size ≤ x := fun x hx => own_block HR.out hx
              have hwo := Ext.alloc HEt.out (.cells #[.int .i64 zz] 3)
              have HOWN := Lib.hid (ownsRow_ext HR.out hwo)
              clear hwo
              go_wp2_with (at_builtin; (refine wpList_append_own _ rfl _ _ 23 rfl wr.heap.size 3 i0 (.int .i64 0) 1 8 Tryz.underlying23 HI.out HZ0.out HZ1.out HZ2.out rfl (by decide) _ _ _ rfl HOWN.out ⟨wt.heap.size, 0, none⟩ 1 1 [.int .i64 zz] rfl rfl (fun j u h => cell_one_new wt _ 3 j u h) (by simp [Value.oneCell']) (by unfold maxLen; omega) (by omega) (by simp; omega) ?_; intro v' w' hown' hgrow hnil; have HO10 := Lib.hid hown'; have HG10 := Lib.hid hgrow; clear hown' hgrow hnil))
              refine ⟨⟨j + 1, by simp, by omega, ?_, Below.grown (Ext.alloc (Ext.trans HEq.out HEt.out) (.cells #[.int .i64 zz] 3)) HG10.out (by simp; omega) (fun x e => hob x e)⟩, by simp [intOf]; omega⟩
              unfold RowOwn
              rw [HRS.out, List.map_append, ← HMU.out]
              show w'.ownsRow wr.heap.size 3 1 v' (j + 1) _
              have h := HO10.out
              rw [HZZ.out] at h
              exact h
        · obtain rfl : j = n := by omega
          have hR := HR.out
          unfold RowOwn at hR
          obtain ⟨i0, hi0, hz0, hz1, hz2⟩ := info_parts info22
          have HI := Lib.hid hi0
          have HZ0 := Lib.hid hz0
          have HZ1 := Lib.hid hz1
          have HZ2 := Lib.hid hz2
          clear hi0 hz0 hz1 hz2
          have hEa := Ext.alloc (Ext.refl wq) (.cells #[.slice sa j sc] 23)
          have HOWN := Lib.hid (ownsRow_ext HOW.out (Ext.trans HEq.out hEa))
          have HROW := Lib.hid (ownsRow_ext (own_mono hR hwr) hEa)
          have HVQ := Lib.hid (fun (i : Nat) (u : Value) (h : vs[i]? = some u) => ownsRow_ext (HVS.out i u h) (Ext.trans HEq.out hEa))
          have hvl : vs.length = k := by have := HOW.out.1; omega
          have hob : ∀ x, Value.ownBlock (.slice oa k oc) = some x → w.heap.size ≤ x := fun x hx => own_block HOW.out hx
          clear hR hEa
          go_wp2_with (at_builtin; (refine wpList_append_own _ rfl _ _ 22 rfl w.heap.size 23 i0 (.slice none 0 0) 1 24 Tryz.underlying22 HI.out HZ0.out HZ1.out HZ2.out rfl (by decide) _ _ _ rfl HOWN.out ⟨wq.heap.size, 0, none⟩ 1 1 [.slice sa j sc] rfl rfl (fun j u h => cell_one_new wq _ 23 j u h) (by simp [Value.oneCell']) (by unfold maxLen; omega) (by omega) (by simp; omega) ?_; intro v' w' hown' hgrow hnil; have HO10 := Lib.hid hown'; have HG10 := Lib.hid hgrow; clear hown' hgrow hnil))
          refine ⟨⟨k + 1, by simp, by omega, ⟨_, HO10.out, fun i u h => ?_⟩, Below.grown (Ext.alloc (Ext.trans HE.out HEq.out) (.cells #[.slice sa j sc] 23)) HG10.out (by simp; omega) (fun x e => hob x e)⟩, by simp [intOf]; omega⟩
          rcases Nat.lt_trichotomy i k with hi | hi | hi
          · rw [List.getElem?_append_left (by omega)] at h
            exact own_keep (HVQ.out i u h) (own_type HOWN.out) HG10.out
          · subst hi
            rw [List.getElem?_append_right (by omega), hvl, Nat.sub_self] at h
            injection h with h
            subst h
            exact own_keep HROW.out (own_type HOWN.out) HG10.out
          · rw [List.getElem?_append_right (by omega)] at h
            have := lt_len h
            simp at this
            omega
    · obtain rfl : k = n := by omega
      go_wp2_with fail
      go_ret
      exact ⟨_, rfl, HO.out.rows (by omega), HE.out⟩
/-- the product as a matrix -/
theorem rproduct_c (u v : Value) (n : Nat) (A B : MF) (w : World) (hn1 : 1 ≤ n) (hn : n ≤ 6) (hA : MatAt w u n A) (hB : MatAt w v n B) (bA : bdF KB n A) (bB : bdF KB n B) (bM : ∀ i, i < n → ∀ j, j < n → ∀ k, k < n → bdE KB (ep (A i k) (B k j))) :
    Calls Tryz.prog 44 #[u, v] w fun e w' => ∃ r, e = .returned r ∧ MatAt w' r n (mulF n A B) ∧ Ext w w' :=
  (rproduct0_c u v n A B w hn1 hn hA hB bA bB bM).mono fun e w' h => by
    obtain ⟨r, h1, h2, h3⟩ := h
    refine ⟨r, h1, ?_, h3⟩
    have h4 := rows_mat h2 (fun r hr => by rw [listM_len, listM_row hr]) (by rw [listM_len]; exact hn1)
    rw [listM_len] at h4
    exact h4.congr (entF_list fun i hi j hj => bdE_es fun t ht => bM i hi j hj t ht)
def goodR (m : Nat) (r : List Int) : Bool := decide (r.length = m) && r.all entB
theorem goodR_bad (m : Nat) (r : List Int) : goodR m r = !badR m r := by
  unfold goodR badR
  rw [Bool.not_or]
  congr 1
  · by_cases h : r.length = m
    · simp [h]
    · simp [h]
  · rw [List.all_eq_not_any_not]
theorem matB_eq (xs : List (List Int)) : matB xs = (decide (1 ≤ xs.length) && decide (xs.length ≤ 6) && xs.all (goodR xs.length)) := by
  unfold matB
  congr 1
  rw [List.all_eq_not_any_not]
  congr 2
  funext r
  rw [goodR_bad, Bool.not_not]
set_option maxHeartbeats 4000000 in
theorem rmatrix_c (u : Value) (xs : List (List Int)) (w : World) (hx : Rows2 w u xs) (hlx : ∀ r ∈ xs, r.length ≤ 1000000) :
    Calls Tryz.prog 43 #[u] w fun e w' => e = .returned (.bool (matB xs)) ∧ Ext w w' := by
  obtain ⟨ax, cx, rfl, hxc, hxm, hrx⟩ := hx.at
  have HX := Lib.hid hrx
  have HLX := Lib.hid hlx
  have HMB := Lib.hid (matB_eq xs)
  clear hx hrx hlx
  by_cases h1 : xs.length < 1
  · have HB := Lib.hid (show matB xs = false by rw [HMB.out, decide_eq_false (by omega)]; rfl)
    have h1z : (xs.length : Int) < 1 := by omega
    go_enter Tryz.func43, Tryz.ntmps43
    go_wp2_with fail
    go_ret
    exact ⟨ret_bool HB.out.symm, Ext.refl _⟩
  · by_cases h6 : 6 < xs.length
    · have HB := Lib.hid (show matB xs = false by rw [HMB.out, decide_eq_false (show ¬ xs.length ≤ 6 by omega)]; simp)
      have h1z : ¬ (xs.length : Int) < 1 := by omega
      have h6z : 6 < (xs.length : Int) := by omega
      go_enter Tryz.func43, Tryz.ntmps43
      go_wp2_with fail
      go_ret
      exact ⟨ret_bool HB.out.symm, Ext.refl _⟩
    · have HMB := Lib.hid (show matB xs = xs.all (goodR xs.length) by rw [HMB.out, decide_eq_true (by omega), decide_eq_true (by omega)]; rfl)
      have h1z : ¬ (xs.length : Int) < 1 := by omega
      have h6z : ¬ 6 < (xs.length : Int) := by omega
      go_enter Tryz.func43, Tryz.ntmps43
      go_wp2_with fail
      go_loopw [4] (fun i wr => ∃ k : Nat, k ≤ xs.length ∧ i = .int .i64 k ∧ (xs.take k).all (goodR xs.length) = true ∧ Ext w wr) (fun i _ => xs.length - (intOf i).toNat)
      case atStart => exact ⟨0, Nat.zero_le _, rfl, rfl, Ext.refl _⟩
      case round =>
        rename World => wr
        obtain ⟨k, hk, rfl, ht, hE⟩ := hrel
        have Ht := Lib.hid ht
        have HE := Lib.hid hE
        clear ht hE
        by_cases hlt : k < xs.length
        · obtain ⟨r, hr⟩ := getElem?_len hlt
          obtain ⟨b, o, u, rfl, c1, hu⟩ := HX.out k r hr
          replace c1 := Ext.cell HE.out c1
          have hcb := cell_lt c1
          have hrl := HLX.out r (List.mem_of_getElem? hr)
          obtain ⟨ar, cr, rfl, hrc, hrm, hrr⟩ := hu.at
          have HRR := Lib.hid hrr
          have HR := Lib.hid hr
          clear hr hrr hu
          by_cases hrlen : r.length = xs.length
          · have hb : ((r.length : Int) != (xs.length : Int)) = false := by rw [hrlen]; simp
            have HRL := Lib.hid hrlen
            have hrl1 : r.length ≤ xs.length := by omega
            have hrl2 : xs.length ≤ r.length := by omega
            have HC1 := Lib.hid c1
            clear c1 hrlen
            have c1 := HC1.out
            go_wp2_with fail
            clear c1
            go_loopw [5] (fun i wq => ∃ j : Nat, j ≤ r.length ∧ i = .int .i64 j ∧ (r.take j).all entB = true ∧ Ext wr wq) (fun i _ => r.length - (intOf i).toNat)
            case atStart => exact ⟨0, Nat.zero_le _, rfl, rfl, Ext.refl _⟩
            case round =>
              rename World => wq
              obtain ⟨j, hj, rfl, hjt, hEq⟩ := hrel
              have Hjt := Lib.hid hjt
              have HEq := Lib.hid hEq
              clear hjt hEq
              have c1 := Ext.cell HEq.out HC1.out
              by_cases hjl : j < r.length
              · have hjx : j < xs.length := by omega
                obtain ⟨x, hx⟩ := getElem?_len hjl
                obtain ⟨b2, o2, rfl, c2⟩ := HRR.out j x hx
                replace c2 := Ext.cell (Ext.trans HE.out HEq.out) c2
                have hcb2 := cell_lt c2
                cases he : entB x with
                | true =>
                  have HN := Lib.hid (all_take_succ hx Hjt.out he)
                  have HI := Lib.hid (show x = -1152921504606846976 ∨ (-1000 ≤ x ∧ x ≤ 1000) from by simpa [entB] using he)
                  clear hx he
                  rcases HI.out with hi | ⟨hi1, hi2⟩
                  · subst hi
                    go_wp2_with fail
                    exact ⟨⟨j + 1, by omega, by simp, HN.out, HEq.out⟩, by simp [intOf]; omega⟩
                  · have hb : (x != -1152921504606846976) = true := by rw [bne_iff_ne]; omega
                    go_wp2_with fail
                    exact ⟨⟨j + 1, by omega, by simp, HN.out, HEq.out⟩, by simp [intOf]; omega⟩
                | false =>
                  have HF := Lib.hid (show matB xs = false from by
                    rw [HMB.out]
                    exact all_false HR.out (by unfold goodR; rw [all_false hx he]; simp))
                  have hne : x ≠ -1152921504606846976 ∧ ¬ (-1000 ≤ x ∧ x ≤ 1000) := by
                    constructor
                    · rintro rfl; simp [entB] at he
                    · intro h; simp [entB, h.1, h.2] at he
                  have hb : (x != -1152921504606846976) = true := by rw [bne_iff_ne]; exact hne.1
                  clear hx he
                  by_cases hlo : x < -1000
                  · clear hne
                    go_wp2_with fail
                    go_ret
                    exact ⟨ret_bool HF.out.symm, Ext.trans HE.out HEq.out⟩
                  · have hhi : 1000 < x := by omega
                    clear hne
                    go_wp2_with fail
                    go_ret
                    exact ⟨ret_bool HF.out.symm, Ext.trans HE.out HEq.out⟩
              · have HN := Lib.hid (all_take_succ (p := goodR xs.length) HR.out Ht.out (by unfold goodR; rw [all_done (by omega) Hjt.out, decide_eq_true HRL.out]; rfl))
                have hjx : ¬ (j : Int) < (xs.length : Int) := by omega
                go_wp2_with fail
                exact ⟨⟨k + 1, by omega, by simp, HN.out, Ext.trans HE.out HEq.out⟩, by simp [intOf]; omega⟩
          · have hb : ((r.length : Int) != (xs.length : Int)) = true := by rw [bne_iff_ne]; omega
            have HF := Lib.hid (show matB xs = false from by
              rw [HMB.out]
              exact all_false HR.out (by unfold goodR; rw [decide_eq_false hrlen]; rfl))
            clear hrlen
            go_wp2_with fail
            go_ret
            exact ⟨ret_bool HF.out.symm, HE.out⟩
        · have HF := Lib.hid (show matB xs = true by rw [HMB.out, all_done (by omega) Ht.out])
          go_wp2_with fail
          go_ret
          exact ⟨ret_bool HF.out.symm, HE.out⟩
theorem OutTo.mat {base n : Nat} {w : World} {v : Value} {M : MF} (h : OutTo base w v n n M) (hn1 : 1 ≤ n) (hn : n ≤ 1000000) (bM : bdF KB n M) : MatAt w v n M := by
  have h4 := rows_mat (h.rows hn) (fun r hr => by rw [listM_len, listM_row hr]) (by rw [listM_len]; exact hn1)
  rw [listM_len] at h4
  exact h4.congr (entF_list bM)
theorem val_one (k j : Nat) : val (oneF k j) = if k = j then 0 else -1152921504606846976 := by
  unfold oneF
  split <;> rfl
set_option maxHeartbeats 4000000 in
theorem rone_c (n : Nat) (w : World) (hn1 : 1 ≤ n) (hn : n ≤ 6) :
    Calls Tryz.prog 74 #[.int .i64 (n : Int)] w fun e w' => ∃ r, e = .returned r ∧ MatAt w' r n oneF ∧ Ext w w' := by
  go_enter Tryz.func74, Tryz.ntmps74
  go_wp2_with fail
  go_loopw [4, 3] (fun i ov wr => ∃ k : Nat, i = .int .i64 (k : Int) ∧ k ≤ n ∧ OutTo w.heap.size wr ov n k oneF ∧ Ext w wr) (fun i _ _ => n - (intOf i).toNat)
  case atStart => exact ⟨0, rfl, Nat.zero_le _, ⟨[], ⟨rfl, .inl ⟨rfl, rfl⟩⟩, fun i u h => by simp at h⟩, Ext.refl _⟩
  case round =>
    rename World => wr
    obtain ⟨k, rfl, hk, hO, hE⟩ := hrel
    have HO := Lib.hid hO
    obtain ⟨vs, ho, hvs⟩ := hO
    obtain ⟨oa, oc, rfl⟩ := own_slice ho
    have HOW := Lib.hid ho
    have HVS := Lib.hid hvs
    have HE := Lib.hid hE
    clear ho hvs hE
    have hwr := HE.out.size
    by_cases hlt : k < n
    · have hmk := run_make_ints n (by omega)
      have HP1 := Lib.hid (vrow_rep wr (.int .i64 0) n 3)
      have HEm := Lib.hid (Ext.alloc (Ext.refl wr) (.cells (Array.replicate n (.int .i64 0)) 3))
      have hsm : (wr.alloc (.cells (Array.replicate n (.int .i64 0)) 3)).heap.size = wr.heap.size + 1 := by simp
      go_wp2_with fail
      clear hmk
      generalize wr.alloc (.cells (Array.replicate n (.int .i64 0)) 3) = wm at *
      go_loopw [6] (fun jv wq => ∃ (j : Nat) (us : List Value), jv = .int .i64 (j : Int) ∧ j ≤ n ∧ VRow wq wr.heap.size 3 us ∧ us.length = n ∧ (∀ i, i < j → us[i]? = some (.int .i64 (val (oneF k i)))) ∧ (∀ i, j ≤ i → i < n → us[i]? = some (.int .i64 0)) ∧ Ext wr wq) (fun jv _ => n - (intOf jv).toNat)
      case atStart => exact ⟨0, _, rfl, Nat.zero_le _, HP1.out, by simp, fun i h => by omega, fun i _ h => by rw [List.getElem?_replicate, if_pos h], HEm.out⟩
      case round =>
        rename World => wq
        obtain ⟨j, us, rfl, hj, hus, hul, hst, hst2, hEq⟩ := hrel
        have HUS := Lib.hid hus
        have HST := Lib.hid hst
        have HST2 := Lib.hid hst2
        have HUL := Lib.hid hul
        have HEq := Lib.hid hEq
        clear hus hst hst2 hul hEq
        by_cases hjl : j < n
        · by_cases hkj : k = j
          · have hb : ((k : Int) != (j : Int)) = false := by rw [hkj]; simp
            have HN := Lib.hid (show ∀ i, i < j + 1 → us[i]? = some (.int .i64 (val (oneF k i))) from fun i hi => by
              by_cases e : i = j
              · subst e; rw [HST2.out i (Nat.le_refl _) hjl, val_one, if_pos hkj]
              · exact HST.out i (by omega))
            have hk1 : k ≤ j := by omega
            have hk2 : j ≤ k := by omega
            clear hkj
            go_wp2_with fail
            exact ⟨⟨j + 1, us, by simp, by omega, HUS.out, HUL.out, HN.out, fun i h1 h2 => HST2.out i (by omega) h2, HEq.out⟩, by simp [intOf]; omega⟩
          · have hb : ((k : Int) != (j : Int)) = true := by rw [bne_iff_ne]; omega
            have m0 := VRow.cell HUS.out (HST2.out j (Nat.le_refl _) hjl)
            have f0 := VRow.frozen HUS.out j none
            have hcb := cell_lt m0
            have HN := Lib.hid (show ∀ i, i < j + 1 → (us.set j (.int .i64 (-1152921504606846976)))[i]? = some (.int .i64 (val (oneF k i))) from fun i hi => by
              by_cases e : i = j
              · subst e; rw [List.getElem?_set_self (by rw [HUL.out]; exact hjl), val_one, if_neg hkj]
              · rw [List.getElem?_set_ne (fun h => e h.symm)]; exact HST.out i (by omega))
            have HN2 := Lib.hid (show ∀ i, j + 1 ≤ i → i < n → (us.set j (.int .i64 (-1152921504606846976)))[i]? = some (.int .i64 0) from fun i h1 h2 => by
              rw [List.getElem?_set_ne (by omega)]; exact HST2.out i (by omega) h2)
            clear hkj
            go_wp2_with fail
            exact ⟨⟨j + 1, _, by simp, by omega, VRow.set HUS.out j (.int .i64 (-1152921504606846976)), by rw [List.length_set]; exact HUL.out, HN.out, HN2.out, Below.setCell (p := ⟨wr.heap.size, j, none⟩) HEq.out (Nat.le_refl _) _⟩, by simp [intOf]; omega⟩
        · obtain rfl : j = n := by omega
          have hwq := HEq.out.size
          have hus : us = (listV j (oneF k)).map (Value.int .i64) := list_of (by rw [HUL.out]; simp [listV_len]) (fun i u hu => by
            have hi := lt_len hu
            rw [HUL.out] at hi
            rw [HST.out i hi] at hu
            rw [← hu, List.getElem?_map, listV_at _ hi]; rfl)
          have hRow : wq.ownsRow w.heap.size 3 1 (.slice (some ⟨wr.heap.size, 0, none⟩) j j) j ((listV j (oneF k)).map (Value.int .i64)) := by
            refine ⟨by simp [listV_len], .inr ⟨wr.heap.size, j, _, rfl, hwr, HUS.out, Nat.le_refl _, by unfold maxLen; omega, by rw [List.size_toArray, HUL.out]; omega, ?_⟩⟩
            rw [← hus, Nat.mul_one]
            exact List.take_of_length_le (by simp [HUL.out])
          obtain ⟨i0, hi0, hz0, hz1, hz2⟩ := info_parts info22
          have HI := Lib.hid hi0
          have HZ0 := Lib.hid hz0
          have HZ1 := Lib.hid hz1
          have HZ2 := Lib.hid hz2
          have hEa := Ext.alloc (Ext.refl wq) (.cells #[.slice (some ⟨wr.heap.size, 0, none⟩) j j] 23)
          have HOWN := Lib.hid (ownsRow_ext HOW.out (Ext.trans HEq.out hEa))
          have HROW := Lib.hid (ownsRow_ext hRow hEa)
          have HVQ := Lib.hid (fun (i : Nat) (u : Value) (h : vs[i]? = some u) => ownsRow_ext (HVS.out i u h) (Ext.trans HEq.out hEa))
          have HVL := Lib.hid (show vs.length = k from by have := HOW.out.1; omega)
          have hob : ∀ x, Value.ownBlock (.slice oa k oc) = some x → w.heap.size ≤ x := fun x hx => own_block HOW.out hx
          clear hi0 hz0 hz1 hz2 hRow hEa hus
          go_wp2_with (at_builtin; (refine wpList_append_own _ rfl _ _ 22 rfl w.heap.size 23 i0 (.slice none 0 0) 1 24 Tryz.underlying22 HI.out HZ0.out HZ1.out HZ2.out rfl (by decide) _ _ _ rfl HOWN.out ⟨wq.heap.size, 0, none⟩ 1 1 [.slice (some ⟨wr.heap.size, 0, none⟩) j j] rfl rfl (fun j u h => cell_one_new wq _ 23 j u h) (by simp [Value.oneCell']) (by unfold maxLen; omega) (by omega) (by simp; omega) ?_; intro v' w' hown' hgrow hnil; have HO10 := Lib.hid hown'; have HG10 := Lib.hid hgrow; clear hown' hgrow hnil))
          refine ⟨⟨k + 1, by simp, by omega, ⟨_, HO10.out, fun i u h => ?_⟩, Below.grown (Ext.alloc (Ext.trans HE.out HEq.out) (.cells #[.slice (some ⟨wr.heap.size, 0, none⟩) j j] 23)) HG10.out (by simp; omega) (fun x e => hob x e)⟩, by simp [intOf]; omega⟩
          have hvl := HVL.out
          rcases Nat.lt_trichotomy i k with hi | hi | hi
          · rw [List.getElem?_append_left (by omega)] at h
            exact own_keep (HVQ.out i u h) (own_type HOWN.out) HG10.out
          · subst hi
            rw [List.getElem?_append_right (by omega), hvl, Nat.sub_self] at h
            injection h with h
            subst h
            exact own_keep HROW.out (own_type HOWN.out) HG10.out
          · rw [List.getElem?_append_right (by omega)] at h
            have := lt_len h
            simp at this
            omega
    · obtain rfl : k = n := by omega
      go_wp2_with fail
      go_ret
      exact ⟨_, rfl, HO.out.mat hn1 (by omega) ((bdF_one k).mono (by unfold KB; omega)), HE.out⟩
set_option maxHeartbeats 4000000 in
theorem raised_c (n : Nat) (A : MF) (hn1 : 1 ≤ n) (hn : n ≤ 6) (bA : bdF 1000 n A) : ∀ (k : Nat) (u : Value) (w : World), k ≤ 1048576 → MatAt w u n A →
    Calls Tryz.prog 47 #[u, .int .i64 (k : Int)] w fun e w' => ∃ r, e = .returned r ∧ MatAt w' r n (pwF n A k) ∧ Ext w w' := by
  have HBA := Lib.hid bA
  clear bA
  intro k
  induction k using Nat.strongRecOn with
  | _ k ih =>
    intro u w hk hA
    have HA := Lib.hid hA
    obtain ⟨ua, uc, rfl⟩ := hA.len
    clear hA
    by_cases h0 : k = 0
    · subst h0
      clear ih
      go_enter Tryz.func47, Tryz.ntmps47
      go_wp2_with fail
      refine (rone_c n w hn1 hn).mono ?_
      rintro e w2 ⟨r, rfl, hr, hE⟩
      have HR := Lib.hid hr
      have HE := Lib.hid hE
      clear hr hE
      go_wp2_with fail
      go_ret
      exact ⟨_, rfl, HR.out, HE.out⟩
    · obtain ⟨q, hq⟩ : ∃ q, q = k / 2 := ⟨_, rfl⟩
      have HIH := Lib.hid (fun u w => ih q (by omega) u w (by omega))
      have hqz : (k : Int) / 2 = (q : Int) := by omega
      have hkb : ((k : Int) == 0) = false := by rw [beq_eq_false_iff_ne]; omega
      have hk1 : 1 ≤ k := by omega
      have HBQ := Lib.hid (show bdF KB n (pwF n A q) from (bdF_pw HBA.out q).mono (by unfold KB; omega))
      have HBQ2 := Lib.hid (show bdF KB n (pwF n A (q + q)) from (bdF_pw HBA.out (q + q)).mono (by unfold KB; omega))
      have HBM := Lib.hid (show ∀ i, i < n → ∀ j, j < n → ∀ t, t < n → bdE KB (ep (pwF n A q i t) (pwF n A q t j)) from fun i hi j hj t ht => (bdE_ep (bdF_pw HBA.out q i hi t ht) (bdF_pw HBA.out q t ht j hj)).mono (by unfold KB; omega))
      have HBM2 := Lib.hid (show ∀ i, i < n → ∀ j, j < n → ∀ t, t < n → bdE KB (ep (pwF n A (q + q) i t) (A t j)) from fun i hi j hj t ht => (bdE_ep (bdF_pw HBA.out (q + q) i hi t ht) (HBA.out t ht j hj)).mono (by unfold KB; omega))
      have HBK := Lib.hid (HBA.out.mono (show (1000 : Int) ≤ KB by decide))
      clear ih h0
      by_cases hod : k % 2 = 1
      · have hoz : (k : Int) % 2 = 1 := by omega
        have HK := Lib.hid (show k = q + q + 1 by omega)
        clear hq hod
        go_enter Tryz.func47, Tryz.ntmps47
        go_wp2_with fail
        refine (HIH.out _ _ HA.out).mono ?_
        rintro e w2 ⟨r2, rfl, hr, hE⟩
        have HR2 := Lib.hid hr
        have HE2 := Lib.hid hE
        clear hr hE
        go_wp2_with fail
        refine (rproduct_c _ _ n _ _ w2 hn1 hn HR2.out HR2.out HBQ.out HBQ.out HBM.out).mono ?_
        rintro e w3 ⟨r3, rfl, hr, hE⟩
        have HR3 := Lib.hid (hr.congr (pwF_add n A q q).symm)
        have HE3 := Lib.hid (Ext.trans HE2.out hE)
        clear hr hE
        go_wp2_with fail
        refine (rproduct_c _ _ n _ _ w3 hn1 hn HR3.out (HA.out.ext HE3.out) HBQ2.out HBK.out HBM2.out).mono ?_
        rintro e w4 ⟨r4, rfl, hr, hE⟩
        have HR4 := Lib.hid (show MatAt w4 r4 n (pwF n A k) from by rw [HK.out]; exact hr)
        have HE4 := Lib.hid (Ext.trans HE3.out hE)
        clear hr hE
        go_wp2_with fail
        go_ret
        exact ⟨_, rfl, HR4.out, HE4.out⟩
      · have hoz : (k : Int) % 2 = 0 := by omega
        have HK := Lib.hid (show k = q + q by omega)
        clear hq hod
        go_enter Tryz.func47, Tryz.ntmps47
        go_wp2_with fail
        refine (HIH.out _ _ HA.out).mono ?_
        rintro e w2 ⟨r2, rfl, hr, hE⟩
        have HR2 := Lib.hid hr
        have HE2 := Lib.hid hE
        clear hr hE
        go_wp2_with fail
        refine (rproduct_c _ _ n _ _ w2 hn1 hn HR2.out HR2.out HBQ.out HBQ.out HBM.out).mono ?_
        rintro e w3 ⟨r3, rfl, hr, hE⟩
        have HR3 := Lib.hid (show MatAt w3 r3 n (pwF n A k) from by rw [HK.out]; exact hr.congr (pwF_add n A q q).symm)
        have HE3 := Lib.hid (Ext.trans HE2.out hE)
        clear hr hE
        go_wp2_with fail
        go_ret
        exact ⟨_, rfl, HR3.out, HE3.out⟩
end Go.Proofs.YtbcngojiikdigaaGreat
