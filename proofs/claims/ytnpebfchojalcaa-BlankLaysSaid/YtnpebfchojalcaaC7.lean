import Derived.Test.YtnpebfchojalcaaC6
namespace Go.Proofs.Ytnpebfchojalcaa
set_option maxRecDepth 100000
open Go.RowKit Go.Shelf
theorem vecs_own2 {W : World} {base : Nat} {e : TypeId} {v : Value} {qs : List Pt} (h : W.ownsRow base e 2 v qs.length (cellsOf qs)) (hm : qs.length ≤ 1000000) : Vecs W v qs := by
  rcases h.2 with ⟨hv, hn⟩ | ⟨g, cap, cur, hv, hg, hc, hnc, hmx, hsz, htk⟩
  · have : qs = [] := List.length_eq_zero_iff.1 hn
    subst this
    exact ⟨none, 0, hv, Nat.le_refl _, by omega, .inl rfl⟩
  · refine ⟨_, cap, hv, hnc, by unfold maxLen at hmx; omega, .inr ⟨g, 0, rfl, fun k q hk => ?_⟩⟩
    have hlt := lt_len hk
    obtain ⟨h1, h2⟩ := cellsOf_at qs k q hk
    rw [← htk] at h1 h2
    rw [List.getElem?_take_of_lt (by omega), Array.getElem?_toList] at h1 h2
    simp only [World.cell?, hc, Nat.zero_add]
    exact ⟨by simp [h1], by simp [h2]⟩
theorem plan_len (ts : List It) : ∀ (f W H : Nat), W + H < f → 1 ≤ W → 1 ≤ H → (planN ts f W H).length + 1 ≤ 2 * (W * H) := by
  intro f
  induction f with
  | zero => intro W H h; omega
  | succ f ih =>
    intro W H hf hW hH
    have hWH : 1 ≤ W * H := Nat.mul_pos hW hH
    rcases bestC_is ts W H with e | ⟨j, hj, hfit, e⟩ | ⟨x, h1, h2, e⟩ | ⟨y, h1, h2, e⟩
    · simp only [planN, e]; simp; omega
    · simp only [planN, e]; simp; omega
    · simp only [planN, e]
      have i1 := ih x H (by omega) h1 hH
      have i2 := ih (W - x) H (by omega) (by omega) hH
      have hm : x * H + (W - x) * H = W * H := by rw [← Nat.add_mul]; congr 1; omega
      simp
      omega
    · simp only [planN, e]
      have i1 := ih W y (by omega) hW h1
      have i2 := ih W (H - y) (by omega) hW (by omega)
      have hm : W * y + W * (H - y) = W * H := by rw [← Nat.mul_add]; congr 1; omega
      simp
      omega
def planZ (ts : List It) (W H : Nat) : List Ct := planN ts (W + H + 1) W H
theorem planZ_len (ts : List It) {W H : Nat} (hW : 1 ≤ W) (hH : 1 ≤ H) (hW2 : W ≤ 100) (hH2 : H ≤ 100) : (planZ ts W H).length ≤ 19999 := by
  have h1 := plan_len ts (W + H + 1) W H (by omega) hW hH
  have h2 := Nat.mul_le_mul hW2 hH2
  unfold planZ
  omega
def MP.vecs (ps : List Pt) : MP := ⟨fun u w => Vecs w u ps, fun _ _ _ h hh => Vecs.ext hh h⟩
def three (a b c : Value) : Ending := .returned (.tuple #[a, b, c])
/-- what Best gives -/
def BestS (ts : List It) (x y : Int) (e : Ending) (w' : World) : Prop :=
  (ordZ x y ts ≠ 0 ∧ e = three (.int .i64 0) (.slice none 0 0) (.int .i64 (ordZ x y ts))) ∨
  (ordZ x y ts = 0 ∧ ∃ v', e = three (.int .i64 (bestV ts x.toNat y.toNat)) v' (.int .i64 0) ∧ Vecs w' v' (planZ ts x.toNat y.toNat))
theorem ord_ok {x y : Int} {ts : List It} (h : ordZ x y ts = 0) : (1 ≤ x ∧ x ≤ 100 ∧ 1 ≤ y ∧ y ≤ 100) ∧ ts.length ≤ 10 ∧ ts.all itemB = true := by
  unfold ordZ at h
  split at h
  · omega
  · rename_i h1
    split at h
    · omega
    · rename_i h2
      split at h
      · rename_i h3
        exact ⟨sheet_in (by cases hs : sheetB x y with | true => rfl | false => exact absurd hs h1), by omega, h3⟩
      · omega
set_option maxHeartbeats 4000000 in
theorem Best_c (x y : Int) (v : Value) (ts : List It) (w : World) (hv : Items w v ts) :
    Calls Try.prog 30 #[.int .i64 x, .int .i64 y, v] w fun e w' => BestS ts x y e w' ∧ Ext w w' := by
  obtain ⟨a, cap, rfl, hl, hm, _⟩ := hv.at
  have HV := Lib.hid hv
  clear hv
  by_cases ho : ordZ x y ts = 0
  · obtain ⟨⟨hx1, hx2, hy1, hy2⟩, _, hok⟩ := ord_ok ho
    obtain ⟨W, rfl⟩ : ∃ W : Nat, x = (W : Int) := ⟨x.toNat, by omega⟩
    obtain ⟨H, rfl⟩ : ∃ H : Nat, y = (H : Int) := ⟨y.toNat, by omega⟩
    have HS := Lib.hid (fun (v' : Value) (w' : World) (hp : Vecs w' v' (planZ ts W H)) => (show BestS ts (W : Int) (H : Int) (three (.int .i64 (bestV ts W H)) v' (.int .i64 0)) w' from .inr ⟨ho, v', rfl, hp⟩))
    have HO := Lib.hid ho
    have HOK := Lib.hid hok
    have HPL := Lib.hid (planZ_len ts (W := W) (H := H) (by omega) (by omega) (by omega) (by omega))
    clear ho hok
    generalize BestS ts (W : Int) (H : Int) = BS at *
    go_enter Try.func30, Try.ntmps30
    go_wp2_with fail
    refine (order_c (W : Int) (H : Int) _ ts w HV.out).mono ?_
    rintro e w1 ⟨rfl, hE1⟩
    rw [HO.out]
    go_wp2_with fail
    have hE2 := Ext.alloc hE1 (.cells #[.int .i64 (W : Int), .int .i64 (H : Int)] 92)
    have HE2 := Lib.hid hE2
    have HR2 := Lib.hid (show VRow (w1.alloc (.cells #[.int .i64 (W : Int), .int .i64 (H : Int)] 92)) _ _ _ from vrow_alloc w1 [.int .i64 (W : Int), .int .i64 (H : Int)] 92)
    clear hE1 hE2
    generalize w1.heap.size = s1 at *
    generalize w1.alloc (.cells #[.int .i64 (W : Int), .int .i64 (H : Int)] 92) = w2 at *
    refine (show Calls Try.prog 65 #[rectV (W : Int) (H : Int), .slice a ts.length cap] w2 _ from choose_c _ ts W H w2 (by omega) (by omega) (HV.out.ext HE2.out) HOK.out).mono ?_
    rintro e w3 ⟨T, rfl, hT, hE3⟩
    have HT := Lib.hid hT
    have HR3 := Lib.hid (VRow.ext HR2.out hE3)
    have HE3 := Lib.hid (Ext.trans HE2.out hE3)
    have HAP := Lib.hid (fun (W5 : World) (h5 : Ext w3 W5) => appendPlan_c ts T 0 (W + 1) (W + 1) W H w3 (by omega) (by omega) hT (W + H + 1) W H (.slice none 0 0) 0 [] W5 (by omega) (Nat.le_refl _) (Nat.le_refl _) h5 ⟨rfl, .inl ⟨rfl, rfl⟩⟩ (by have := HPL.out; unfold planZ at this; omega))
    have HBV := Lib.hid (show bestV ts W H = (bestC ts W H).1 from rfl)
    clear hT hE3 HE2 HR2
    generalize hc : bestC ts W H = c at *
    have Hc := Lib.hid hc
    clear hc
    generalize bestV ts W H = bv at *
    go_wp2_with fail
    have HRW := HR3
    refine wp_region_stable [⟨[], none⟩, ⟨[], none⟩, ⟨[(0, 25), (1, 26)], none⟩, ⟨[(2, 27)], none⟩, ⟨[], none⟩, ⟨[], none⟩, ⟨[(4, 29), (5, 30)], none⟩, ⟨[(3, 28)], none⟩, ⟨[(6, 31)], none⟩, ⟨[], none⟩] (fun x y => Below x.heap.size x y) (MPat [MP.eq (.slice (some ⟨T, 0, none⟩) (W + 1) (W + 1)), MP.eq (rectV (W : Int) (H : Int)), MP.eq (tripV c), MP.eq (.int .i64 c.1), MP.eq (.slice (some ⟨T, 0, none⟩) (W + 1) (W + 1)), MP.eq (rectV (W : Int) (H : Int)), MP.vecs (planZ ts W H), MP.eq (.int .i64 c.1), MP.vecs (planZ ts W H), MP.eq (.int .i64 0)]) (by kernel_rfl) (fun _ _ _ h k => Ext.trans h k) (fun _ => Below.refl _ _) (fun x => (Below.refl x.heap.size x).drew) (MPat.mono _) (by kernel_rfl) ?obs ?rest
    case obs =>
      refine ⟨?_, ?_, ?_, ?_, ?_, ?_, ?_, ?_, ?_, ?_, trivial⟩
      · intro ev W5 hf _ _ hst hd
        have e11 : ev (.tmp 11) = .slice (some ⟨T, 0, none⟩) (W + 1) (W + 1) := hf 11 (by kernel_rfl)
        refine st_value (v := .slice (some ⟨T, 0, none⟩) (W + 1) (W + 1)) ?_ (Below.refl _ _) ?_
        · simp [execOp, go_sem, e11]
        · exact rfl
      · intro ev W5 hf _ _ hst hd
        have e10 : ev (.tmp 10) = .pointer (some ⟨s1, 0, none⟩) := hf 10 (by kernel_rfl)
        have kk := VRow.ext HRW.out hst
        have k0 := VRow.cell kk (k := 0) rfl
        have k1 := VRow.cell kk (k := 1) rfl
        refine st_value (v := rectV (W : Int) (H : Int)) ?_ (Below.refl _ _) ?_
        · simp [execOp, go_sem, e10, k0, k1, rectV]
        · exact rfl
      · intro ev W5 hf _ hfn hst hd
        obtain ⟨d25, d26, _⟩ := hd
        have e25 : ev (.tmp 25) = .slice (some ⟨T, 0, none⟩) (W + 1) (W + 1) := d25
        have e26 : ev (.tmp 26) = rectV (W : Int) (H : Int) := d26
        refine st_call (f := 66) (args := #[.slice (some ⟨T, 0, none⟩) (W + 1) (W + 1), rectV (W : Int) (H : Int)]) (by simp [execOp, go_sem, hfn, e25, e26]) (of_c _ W H c W5 (by have h := (HT.out W H (Nat.le_refl _) (Nat.le_refl _)).ext hst; rw [Hc.out] at h; exact h)) (fun _ _ => rfl)
      · intro ev W5 hf _ _ hst hd
        obtain ⟨d27, _⟩ := hd
        have e27 : ev (.tmp 27) = tripV c := d27
        refine st_value (v := .int .i64 c.1) ?_ (Below.refl _ _) ?_
        · simp [execOp, go_sem, e27, tripV, field_val]
        · exact rfl
      · intro ev W5 hf _ _ hst hd
        have e11 : ev (.tmp 11) = .slice (some ⟨T, 0, none⟩) (W + 1) (W + 1) := hf 11 (by kernel_rfl)
        refine st_value (v := .slice (some ⟨T, 0, none⟩) (W + 1) (W + 1)) ?_ (Below.refl _ _) ?_
        · simp [execOp, go_sem, e11]
        · exact rfl
      · intro ev W5 hf _ _ hst hd
        have e10 : ev (.tmp 10) = .pointer (some ⟨s1, 0, none⟩) := hf 10 (by kernel_rfl)
        have kk := VRow.ext HRW.out hst
        have k0 := VRow.cell kk (k := 0) rfl
        have k1 := VRow.cell kk (k := 1) rfl
        refine st_value (v := rectV (W : Int) (H : Int)) ?_ (Below.refl _ _) ?_
        · simp [execOp, go_sem, e10, k0, k1, rectV]
        · exact rfl
      · intro ev W5 hf hcst hfn hst hd
        obtain ⟨d29, d30, _⟩ := hd
        have e29 : ev (.tmp 29) = .slice (some ⟨T, 0, none⟩) (W + 1) (W + 1) := d29
        have e30 : ev (.tmp 30) = rectV (W : Int) (H : Int) := d30
        refine st_enter (f := 67) (args := #[.slice (some ⟨T, 0, none⟩) (W + 1) (W + 1), .slice none 0 0, rectV (W : Int) (H : Int)]) (by simp [execOp, go_sem, hfn, e29, e30, hcst]) ((HAP.out W5 hst).mono fun e w5 he => ?_)
        obtain ⟨v9, rfl, ho9, hg9, _⟩ := he
        exact ⟨v9, rfl, ⟨hg9.os, hg9.tape, hg9.output, hg9.size, fun i hi => hg9.block i hi (fun e => by cases e)⟩, vecs_own2 (by rw [Nat.zero_add, List.nil_append] at ho9; exact ho9) (by have := HPL.out; omega)⟩
      · intro ev W5 hf _ _ hst hd
        obtain ⟨d28, _⟩ := hd
        have e28 : ev (.tmp 28) = .int .i64 c.1 := d28
        refine st_value (v := .int .i64 c.1) ?_ (Below.refl _ _) ?_
        · simp [execOp, go_sem, e28]
        · exact rfl
      · intro ev W5 hf _ hfn hst hd
        obtain ⟨d31, _⟩ := hd
        refine st_value (v := ev (.tmp 31)) ?_ (Below.refl _ _) d31
        simp [execOp, go_sem]
      · intro ev W5 hf hcst _ hst hd
        refine st_value (v := .int .i64 0) ?_ (Below.refl _ _) ?_
        · simp [execOp, go_sem, hcst]
        · exact rfl
    case rest =>
      intro vs w4 hl hst hg
      have hx0 : ∀ u, vs[0]? = some u → u = .slice (some ⟨T, 0, none⟩) (W + 1) (W + 1) := fun u hu => hg 0 u hu
      have hx1 : ∀ u, vs[1]? = some u → u = rectV (W : Int) (H : Int) := fun u hu => hg 1 u hu
      have hx2 : ∀ u, vs[2]? = some u → u = tripV c := fun u hu => hg 2 u hu
      have hx3 : ∀ u, vs[3]? = some u → u = .int .i64 c.1 := fun u hu => hg 3 u hu
      have hx4 : ∀ u, vs[4]? = some u → u = .slice (some ⟨T, 0, none⟩) (W + 1) (W + 1) := fun u hu => hg 4 u hu
      have hx5 : ∀ u, vs[5]? = some u → u = rectV (W : Int) (H : Int) := fun u hu => hg 5 u hu
      have hx6 : ∀ u, vs[6]? = some u → MP.p (MP.vecs (planZ ts W H)) u w4 := fun u hu => hg 6 u hu
      have hx7 : ∀ u, vs[7]? = some u → u = .int .i64 c.1 := fun u hu => hg 7 u hu
      have hx8 : ∀ u, vs[8]? = some u → MP.p (MP.vecs (planZ ts W H)) u w4 := fun u hu => hg 8 u hu
      have hx9 : ∀ u, vs[9]? = some u → u = .int .i64 0 := fun u hu => hg 9 u hu
      have HE3' := Lib.hid hst
      clear hg hst
      obtain ⟨x0, vs0, rfl, hl0⟩ := len_succ hl
      obtain ⟨x1, vs1, rfl, hl1⟩ := len_succ hl0
      obtain ⟨x2, vs2, rfl, hl2⟩ := len_succ hl1
      obtain ⟨x3, vs3, rfl, hl3⟩ := len_succ hl2
      obtain ⟨x4, vs4, rfl, hl4⟩ := len_succ hl3
      obtain ⟨x5, vs5, rfl, hl5⟩ := len_succ hl4
      obtain ⟨x6, vs6, rfl, hl6⟩ := len_succ hl5
      obtain ⟨x7, vs7, rfl, hl7⟩ := len_succ hl6
      obtain ⟨x8, vs8, rfl, hl8⟩ := len_succ hl7
      obtain ⟨x9, vs9, rfl, hl9⟩ := len_succ hl8
      have hnil : vs9 = [] := List.length_eq_zero_iff.1 hl9
      subst hnil
      obtain rfl : x0 = .slice (some ⟨T, 0, none⟩) (W + 1) (W + 1) := hx0 _ rfl
      obtain rfl : x1 = rectV (W : Int) (H : Int) := hx1 _ rfl
      obtain rfl : x2 = tripV c := hx2 _ rfl
      obtain rfl : x3 = .int .i64 c.1 := hx3 _ rfl
      obtain rfl : x4 = .slice (some ⟨T, 0, none⟩) (W + 1) (W + 1) := hx4 _ rfl
      obtain rfl : x5 = rectV (W : Int) (H : Int) := hx5 _ rfl
      replace hx6 := hx6 _ rfl
      obtain rfl : x7 = .int .i64 c.1 := hx7 _ rfl
      replace hx8 := hx8 _ rfl
      obtain rfl : x9 = .int .i64 0 := hx9 _ rfl
      clear hx0 hx1 hx2 hx3 hx4 hx5 hx7 hx9
      simp only [putAll, Act.put, List.setIfInBounds_toArray, List.set_cons_zero, List.set_cons_succ]
      go_wp2_with fail
      (try simp only [Exit.inBlock, Exit.then])
      refine bodyPost_ret (results_tmp3 (t := 6) (u := 7) (v := 8) rfl _ _ _) rfl ?_
      have hF := HS.out _ _ hx8
      rw [HBV.out] at hF
      exact ⟨hF, Ext.trans HE3.out HE3'.out⟩
  · have HS := Lib.hid (fun (w' : World) => (show BestS ts x y (three (.int .i64 0) (.slice none 0 0) (.int .i64 (ordZ x y ts))) w' from .inl ⟨ho, rfl⟩))
    generalize BestS ts x y = BS at *
    have HO := Lib.hid (show ordZ x y ts = ordZ x y ts from rfl)
    have HC := Lib.hid (order_c x y _ ts w HV.out)
    generalize ordZ x y ts = z at *
    go_enter Try.func30, Try.ntmps30
    go_wp2_with fail
    refine HC.out.mono ?_
    rintro e w1 ⟨rfl, hE1⟩
    have HE1 := Lib.hid hE1
    clear hE1
    go_wp2_with fail
    (try simp only [Exit.inBlock, Exit.then])
    refine bodyPost_ret (results_tmp3 (t := 6) (u := 7) (v := 8) rfl _ _ _) rfl ?_
    exact ⟨HS.out _, HE1.out⟩
end Go.Proofs.Ytnpebfchojalcaa
