import Derived.Test.YtnpebfchojalcaaJ3
namespace Go.Proofs.Ytnpebfchojalcaa
set_option maxRecDepth 100000
open Go.RowKit Go.Shelf
set_option maxHeartbeats 8000000 in
theorem rBest_c (x y : Int) (v : Value) (ts : List It) (w : World) (hv : Items w v ts) :
    Calls Try.prog 31 #[.int .i64 x, .int .i64 y, v] w fun e w' => BestS ts x y e w' ∧ Ext w w' := by
  obtain ⟨a, cap, rfl, hl, hm, _⟩ := hv.at
  have HV := Lib.hid hv
  clear hv
  by_cases ho : ordZ x y ts = 0
  · obtain ⟨⟨hx1, hx2, hy1, hy2⟩, _, hok⟩ := ord_ok ho
    obtain ⟨W, rfl⟩ : ∃ W : Nat, x = (W : Int) := ⟨x.toNat, by omega⟩
    obtain ⟨H, rfl⟩ : ∃ H : Nat, y = (H : Int) := ⟨y.toNat, by omega⟩
    have HS := Lib.hid (fun (v' : Value) (w' : World) (hp : Vecs w' v' (planZ ts W H)) => (show BestS ts (W : Int) (H : Int) (three (.int .i64 (bestV ts W H)) v' (.int .i64 0)) w' from .inr ⟨ho, v', rfl, hp⟩))
    have HO := Lib.hid ho
    have HOK := Lib.hid hok
    have HPL := Lib.hid (planZ_len ts (W := W) (H := H) (by omega) (by omega) (by omega) (by omega))
    clear ho hok
    generalize BestS ts (W : Int) (H : Int) = BS at *
    go_enter Try.func31, Try.ntmps31
    go_wp2_with fail
    refine (rorder_c (W : Int) (H : Int) _ ts w HV.out).mono ?_
    rintro e w1 ⟨rfl, hE1⟩
    rw [HO.out]
    have HE1 := Lib.hid hE1
    clear hE1
    go_wp2_with fail
    refine (table_c _ ts W H w1 (by omega) (by omega) (HV.out.ext HE1.out) HOK.out).mono ?_
    rintro e w3 ⟨T, rfl, hT, hE3⟩
    obtain ⟨R, a1, a2⟩ := hT W H (Nat.le_refl _) (Nat.le_refl _)
    have HA1 := Lib.hid a1
    have HA2 := Lib.hid a2
    have HE3 := Lib.hid (Ext.trans HE1.out hE3)
    have HAP := Lib.hid (fun (W5 : World) (h5 : Ext w3 W5) => rplan_c ts (.slice a ts.length cap) T W H w3 (by omega) (by omega) (HV.out.ext HE3.out) HOK.out hT (W + H + 1) W H W5 (by omega) (by omega) (by omega) (Nat.le_refl _) (Nat.le_refl _) h5)
    clear hT hE3 a1 a2
    generalize bestV ts W H = bv at *
    go_wp2_with fail
    refine wp_region_stable [⟨[], none⟩, ⟨[], none⟩, ⟨[(0, 22), (1, 23)], none⟩, ⟨[(2, 24)], none⟩, ⟨[], none⟩, ⟨[(3, 25), (4, 26)], none⟩, ⟨[(5, 27)], none⟩, ⟨[], none⟩, ⟨[], none⟩, ⟨[], none⟩, ⟨[], none⟩, ⟨[(7, 29), (8, 30), (9, 31), (10, 32)], none⟩, ⟨[(6, 28)], none⟩, ⟨[(11, 33)], none⟩, ⟨[], none⟩] (fun x y => Below x.heap.size x y) (MPat [MP.eq (.slice (some ⟨T, 0, none⟩) (W + 1) (W + 1)), MP.eq (.int .i64 (W : Int)), MP.eq (.pointer (some ⟨T, W, none⟩)), MP.eq (.slice (some ⟨R, 0, none⟩) (H + 1) (H + 1)), MP.eq (.int .i64 (H : Int)), MP.eq (.pointer (some ⟨R, H, none⟩)), MP.eq (.int .i64 bv), MP.eq (.slice (some ⟨T, 0, none⟩) (W + 1) (W + 1)), MP.eq (.int .i64 (W : Int)), MP.eq (.int .i64 (H : Int)), MP.eq (.slice a ts.length cap), MP.vecs (planZ ts W H), MP.eq (.int .i64 bv), MP.vecs (planZ ts W H), MP.eq (.int .i64 0)]) (by kernel_rfl) (fun _ _ _ h k => Ext.trans h k) (fun _ => Below.refl _ _) (fun x => (Below.refl x.heap.size x).drew) (MPat.mono _) (by kernel_rfl) ?obs ?rest
    case obs =>
      refine ⟨?_, ?_, ?_, ?_, ?_, ?_, ?_, ?_, ?_, ?_, ?_, ?_, ?_, ?_, ?_, trivial⟩
      · intro ev W5 hf _ _ hst hd
        have e10 : ev (.tmp 10) = .slice (some ⟨T, 0, none⟩) (W + 1) (W + 1) := hf 10 (by kernel_rfl)
        refine st_value (v := .slice (some ⟨T, 0, none⟩) (W + 1) (W + 1)) ?_ (Below.refl _ _) ?_
        · simp [execOp, go_sem, e10]
        · exact rfl
      · intro ev W5 hf _ _ hst hd
        have e0 : ev (.tmp 0) = .int .i64 (W : Int) := hf 0 (by kernel_rfl)
        refine st_value (v := .int .i64 (W : Int)) ?_ (Below.refl _ _) ?_
        · simp [execOp, go_sem, e0]
        · exact rfl
      · intro ev W5 hf _ _ hst hd
        obtain ⟨d22, d23, _⟩ := hd
        have e22 : ev (.tmp 22) = .slice (some ⟨T, 0, none⟩) (W + 1) (W + 1) := d22
        have e23 : ev (.tmp 23) = .int .i64 (W : Int) := d23
        refine st_value (v := .pointer (some ⟨T, W, none⟩)) ?_ (Below.refl _ _) ?_
        · simp [execOp, go_sem, e22, e23]; intro h9; omega
        · exact rfl
      · intro ev W5 hf _ _ hst hd
        obtain ⟨d24, _⟩ := hd
        have e24 : ev (.tmp 24) = .pointer (some ⟨T, W, none⟩) := d24
        have q0 := Ext.cell hst HA1.out
        refine st_value (v := .slice (some ⟨R, 0, none⟩) (H + 1) (H + 1)) ?_ (Below.refl _ _) ?_
        · simp [execOp, go_sem, e24, q0]
        · exact rfl
      · intro ev W5 hf _ _ hst hd
        have e1 : ev (.tmp 1) = .int .i64 (H : Int) := hf 1 (by kernel_rfl)
        refine st_value (v := .int .i64 (H : Int)) ?_ (Below.refl _ _) ?_
        · simp [execOp, go_sem, e1]
        · exact rfl
      · intro ev W5 hf _ _ hst hd
        obtain ⟨d25, d26, _⟩ := hd
        have e25 : ev (.tmp 25) = .slice (some ⟨R, 0, none⟩) (H + 1) (H + 1) := d25
        have e26 : ev (.tmp 26) = .int .i64 (H : Int) := d26
        refine st_value (v := .pointer (some ⟨R, H, none⟩)) ?_ (Below.refl _ _) ?_
        · simp [execOp, go_sem, e25, e26]; intro h9; omega
        · exact rfl
      · intro ev W5 hf _ _ hst hd
        obtain ⟨d27, _⟩ := hd
        have e27 : ev (.tmp 27) = .pointer (some ⟨R, H, none⟩) := d27
        have q0 := Ext.cell hst HA2.out
        refine st_value (v := .int .i64 bv) ?_ (Below.refl _ _) ?_
        · simp [execOp, go_sem, e27, q0]
        · exact rfl
      · intro ev W5 hf _ _ hst hd
        have e10 : ev (.tmp 10) = .slice (some ⟨T, 0, none⟩) (W + 1) (W + 1) := hf 10 (by kernel_rfl)
        refine st_value (v := .slice (some ⟨T, 0, none⟩) (W + 1) (W + 1)) ?_ (Below.refl _ _) ?_
        · simp [execOp, go_sem, e10]
        · exact rfl
      · intro ev W5 hf _ _ hst hd
        have e0 : ev (.tmp 0) = .int .i64 (W : Int) := hf 0 (by kernel_rfl)
        refine st_value (v := .int .i64 (W : Int)) ?_ (Below.refl _ _) ?_
        · simp [execOp, go_sem, e0]
        · exact rfl
      · intro ev W5 hf _ _ hst hd
        have e1 : ev (.tmp 1) = .int .i64 (H : Int) := hf 1 (by kernel_rfl)
        refine st_value (v := .int .i64 (H : Int)) ?_ (Below.refl _ _) ?_
        · simp [execOp, go_sem, e1]
        · exact rfl
      · intro ev W5 hf _ _ hst hd
        have e2 : ev (.tmp 2) = .slice a ts.length cap := hf 2 (by kernel_rfl)
        refine st_value (v := .slice a ts.length cap) ?_ (Below.refl _ _) ?_
        · simp [execOp, go_sem, e2]
        · exact rfl
      · intro ev W5 hf _ hfn hst hd
        obtain ⟨d29, d30, d31, d32, _⟩ := hd
        have e29 : ev (.tmp 29) = .slice (some ⟨T, 0, none⟩) (W + 1) (W + 1) := d29
        have e30 : ev (.tmp 30) = .int .i64 (W : Int) := d30
        have e31 : ev (.tmp 31) = .int .i64 (H : Int) := d31
        have e32 : ev (.tmp 32) = .slice a ts.length cap := d32
        refine st_enter (f := 69) (args := #[.slice (some ⟨T, 0, none⟩) (W + 1) (W + 1), .int .i64 (W : Int), .int .i64 (H : Int), .slice a ts.length cap]) (by simp [execOp, go_sem, hfn, e29, e30, e31, e32]) ((HAP.out W5 hst).mono fun e w5 he => ?_)
        obtain ⟨v9, rfl, ho9, hE9⟩ := he
        exact ⟨v9, rfl, hE9, vecs_own2 ho9 (by have h9 : (planZ ts W H).length ≤ 19999 := HPL.out; omega)⟩
      · intro ev W5 hf _ _ hst hd
        obtain ⟨d28, _⟩ := hd
        have e28 : ev (.tmp 28) = .int .i64 bv := d28
        refine st_value (v := .int .i64 bv) ?_ (Below.refl _ _) ?_
        · simp [execOp, go_sem, e28]
        · exact rfl
      · intro ev W5 hf _ hfn hst hd
        obtain ⟨d33, _⟩ := hd
        refine st_value (v := ev (.tmp 33)) ?_ (Below.refl _ _) d33
        simp [execOp, go_sem]
      · intro ev W5 hf hcst _ hst hd
        refine st_value (v := .int .i64 0) ?_ (Below.refl _ _) ?_
        · simp [execOp, go_sem, hcst]
        · exact rfl
    case rest =>
      intro vs w4 hl hst hg
      have hx0 : ∀ u, vs[0]? = some u → u = .slice (some ⟨T, 0, none⟩) (W + 1) (W + 1) := fun u hu => hg 0 u hu
      have hx1 : ∀ u, vs[1]? = some u → u = .int .i64 (W : Int) := fun u hu => hg 1 u hu
      have hx2 : ∀ u, vs[2]? = some u → u = .pointer (some ⟨T, W, none⟩) := fun u hu => hg 2 u hu
      have hx3 : ∀ u, vs[3]? = some u → u = .slice (some ⟨R, 0, none⟩) (H + 1) (H + 1) := fun u hu => hg 3 u hu
      have hx4 : ∀ u, vs[4]? = some u → u = .int .i64 (H : Int) := fun u hu => hg 4 u hu
      have hx5 : ∀ u, vs[5]? = some u → u = .pointer (some ⟨R, H, none⟩) := fun u hu => hg 5 u hu
      have hx6 : ∀ u, vs[6]? = some u → u = .int .i64 bv := fun u hu => hg 6 u hu
      have hx7 : ∀ u, vs[7]? = some u → u = .slice (some ⟨T, 0, none⟩) (W + 1) (W + 1) := fun u hu => hg 7 u hu
      have hx8 : ∀ u, vs[8]? = some u → u = .int .i64 (W : Int) := fun u hu => hg 8 u hu
      have hx9 : ∀ u, vs[9]? = some u → u = .int .i64 (H : Int) := fun u hu => hg 9 u hu
      have hx10 : ∀ u, vs[10]? = some u → u = .slice a ts.length cap := fun u hu => hg 10 u hu
      have hx11 : ∀ u, vs[11]? = some u → MP.p (MP.vecs (planZ ts W H)) u w4 := fun u hu => hg 11 u hu
      have hx12 : ∀ u, vs[12]? = some u → u = .int .i64 bv := fun u hu => hg 12 u hu
      have hx13 : ∀ u, vs[13]? = some u → MP.p (MP.vecs (planZ ts W H)) u w4 := fun u hu => hg 13 u hu
      have hx14 : ∀ u, vs[14]? = some u → u = .int .i64 0 := fun u hu => hg 14 u hu
      have HE3' := Lib.hid hst
      clear hg hst
      obtain ⟨x0, vs0, rfl, hl0⟩ := len_succ hl
      obtain ⟨x1, vs1, rfl, hl1⟩ := len_succ hl0
      obtain ⟨x2, vs2, rfl, hl2⟩ := len_succ hl1
      obtain ⟨x3, vs3, rfl, hl3⟩ := len_succ hl2
      obtain ⟨x4, vs4, rfl, hl4⟩ := len_succ hl3
      obtain ⟨x5, vs5, rfl, hl5⟩ := len_succ hl4
      obtain ⟨x6, vs6, rfl, hl6⟩ := len_succ hl5
      obtain ⟨x7, vs7, rfl, hl7⟩ := len_succ hl6
      obtain ⟨x8, vs8, rfl, hl8⟩ := len_succ hl7
      obtain ⟨x9, vs9, rfl, hl9⟩ := len_succ hl8
      obtain ⟨x10, vs10, rfl, hl10⟩ := len_succ hl9
      obtain ⟨x11, vs11, rfl, hl11⟩ := len_succ hl10
      obtain ⟨x12, vs12, rfl, hl12⟩ := len_succ hl11
      obtain ⟨x13, vs13, rfl, hl13⟩ := len_succ hl12
      obtain ⟨x14, vs14, rfl, hl14⟩ := len_succ hl13
      have hnil : vs14 = [] := List.length_eq_zero_iff.1 hl14
      subst hnil
      obtain rfl : x0 = .slice (some ⟨T, 0, none⟩) (W + 1) (W + 1) := hx0 _ rfl
      obtain rfl : x1 = .int .i64 (W : Int) := hx1 _ rfl
      obtain rfl : x2 = .pointer (some ⟨T, W, none⟩) := hx2 _ rfl
      obtain rfl : x3 = .slice (some ⟨R, 0, none⟩) (H + 1) (H + 1) := hx3 _ rfl
      obtain rfl : x4 = .int .i64 (H : Int) := hx4 _ rfl
      obtain rfl : x5 = .pointer (some ⟨R, H, none⟩) := hx5 _ rfl
      obtain rfl : x6 = .int .i64 bv := hx6 _ rfl
      obtain rfl : x7 = .slice (some ⟨T, 0, none⟩) (W + 1) (W + 1) := hx7 _ rfl
      obtain rfl : x8 = .int .i64 (W : Int) := hx8 _ rfl
      obtain rfl : x9 = .int .i64 (H : Int) := hx9 _ rfl
      obtain rfl : x10 = .slice a ts.length cap := hx10 _ rfl
      replace hx11 := hx11 _ rfl
      obtain rfl : x12 = .int .i64 bv := hx12 _ rfl
      replace hx13 := hx13 _ rfl
      obtain rfl : x14 = .int .i64 0 := hx14 _ rfl
      clear hx0 hx1 hx2 hx3 hx4 hx5 hx6 hx7 hx8 hx9 hx10 hx12 hx14
      simp only [putAll, Act.put, List.setIfInBounds_toArray, List.set_cons_zero, List.set_cons_succ]
      go_wp2_with fail
      (try simp only [Exit.inBlock, Exit.then])
      refine bodyPost_ret (results_tmp3 (t := 6) (u := 7) (v := 8) rfl _ _ _) rfl ?_
      exact ⟨HS.out _ _ hx13, Ext.trans HE3.out HE3'.out⟩
  · have HS := Lib.hid (fun (w' : World) => (show BestS ts x y (three (.int .i64 0) (.slice none 0 0) (.int .i64 (ordZ x y ts))) w' from .inl ⟨ho, rfl⟩))
    have hz : (ordZ x y ts != 0) = true := by rw [bne_iff_ne]; exact ho
    generalize BestS ts x y = BS at *
    have HC := Lib.hid (rorder_c x y _ ts w HV.out)
    generalize ordZ x y ts = z at *
    go_enter Try.func31, Try.ntmps31
    go_wp2_with fail
    refine HC.out.mono ?_
    rintro e w1 ⟨rfl, hE1⟩
    have HE1 := Lib.hid hE1
    clear hE1
    go_wp2_with fail
    (try simp only [Exit.inBlock, Exit.then])
    refine bodyPost_ret (results_tmp3 (t := 6) (u := 7) (v := 8) rfl _ _ _) rfl ?_
    exact ⟨HS.out _, HE1.out⟩
end Go.Proofs.Ytnpebfchojalcaa
