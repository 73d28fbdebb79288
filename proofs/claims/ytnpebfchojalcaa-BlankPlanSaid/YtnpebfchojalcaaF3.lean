import Derived.Test.YtnpebfchojalcaaF1
import Derived.Test.YtnpebfchojalcaaL4
namespace Go.Proofs.Ytnpebfchojalcaa
set_option maxRecDepth 100000
open Go.RowKit Go.Shelf
theorem worth_best {ts : List It} {W H : Nat} {e : Ending} {w : World} (hx : 1 ≤ (W : Int) ∧ (W : Int) ≤ 100 ∧ 1 ≤ (H : Int) ∧ (H : Int) ≤ 100) (h0 : ordZ (W : Int) (H : Int) ts = 0) (h : WorthS ts (planZ ts W H) (W : Int) (H : Int) e w) :
    ∃ cs cv, e = four (.int .i64 (bestV ts W H)) cv (.bool true) (.int .i64 0) ∧ Ints w cv cs ∧ cs.length = ts.length ∧ (∀ x ∈ cs, 0 ≤ x ∧ x ≤ 20000) ∧ dotZ cs (valsZ ts) = bestV ts W H ∧ dotZ cs (areasZ ts) ≤ (W : Int) * (H : Int) := by
  obtain ⟨_, hn10, hok⟩ := ord_ok h0
  have hlen := planZ_len ts (W := W) (H := H) (by omega) (by omega) (by omega) (by omega)
  obtain ⟨cs', hr⟩ := read_plan ts (W + H + 1) W H (planZ ts W H).length [] 0 (zeros ts.length) (by omega) (Nat.le_refl _)
  rw [List.append_nil, Int.zero_add] at hr
  have hw : wreadZ ts (W : Int) (H : Int) (planZ ts W H) = some ([], bestV ts W H, cs') := by unfold wreadZ; rw [Int.toNat_natCast, Int.toNat_natCast]; exact hr
  rcases h with ⟨h1, _⟩ | ⟨_, h1, _⟩ | ⟨_, _, h1, _⟩ | ⟨_, _, v, cs, cv, h1, h2, h3⟩
  · exact absurd h0 h1
  · omega
  · exact absurd hw (h1 _ _)
  · rw [hw] at h1
    injection h1 with h1
    injection h1 with _ h1
    injection h1 with e1 e2
    subst e1 e2
    have hzl : (zeros ts.length).length = ts.length := by simp [zeros]
    have hk := readN_ok hok _ _ _ _ _ hr
    have hs := readN_sum hok _ _ _ _ _ hr hzl
    have hz : ∀ ys, dotZ (zeros ts.length) ys = 0 := by
      intro ys
      unfold zeros
      induction ts.length generalizing ys with
      | zero => rfl
      | succ n ih =>
        cases ys with
        | nil => rfl
        | cons y ys => rw [List.replicate_succ]; show 0 * y + dotZ (List.replicate n 0) ys = 0; rw [ih]; simp
    simp only [hz] at hs
    refine ⟨cs', cv, h2, h3, hk.2.2.2.1.trans hzl, fun x hx => ?_, by omega, by omega⟩
    have := hk.2.2.2.2 20000 (fun q hq => by unfold zeros at hq; rw [List.mem_replicate] at hq; show 0 ≤ q ∧ q + ((planZ ts W H).length : Int) ≤ 20000; omega) (by omega) x hx
    simp only [List.length_nil] at this
    omega
theorem worth_any {ts : List It} {plan : List Ct} {W H : Nat} {e : Ending} {w : World} (h0 : ordZ (W : Int) (H : Int) ts = 0) (hl : plan.length ≤ 1000) (h : WorthS ts plan (W : Int) (H : Int) e w) :
    ∃ (b : Int) (cv : Value) (ok : Bool), e = four (.int .i64 b) cv (.bool ok) (.int .i64 0) ∧ (ok = true → b ≤ bestV ts W H) := by
  obtain ⟨_, hn10, hok⟩ := ord_ok h0
  rcases h with ⟨h1, _⟩ | ⟨_, h1, _⟩ | ⟨_, _, _, h1⟩ | ⟨_, _, v, cs, cv, h1, h2, h3⟩
  · exact absurd h0 h1
  · omega
  · exact ⟨0, _, false, h1, fun h => by cases h⟩
  · refine ⟨v, cv, true, h2, fun _ => ?_⟩
    unfold wreadZ at h1
    rw [Int.toNat_natCast, Int.toNat_natCast] at h1
    have hs := readN_sum hok _ _ _ _ _ h1 (by simp [zeros])
    simp only at hs
    omega
set_option maxHeartbeats 8000000 in
theorem plan_law (x y : Int) (u : Value) (ts : List It) (pv : Value) (plan : List Ct) (w : World) (hu : Items w u ts) (hp : Vecs w pv plan) :
    Calls Try.prog 12 #[.int .i64 x, .int .i64 y, u, pv] w fun e w' => e = .returned (.bool true) ∧ Ext w w' := by
  obtain ⟨a, cap, rfl, hl, hm, hr⟩ := hu.at
  obtain ⟨a2, cap2, rfl, hl2, hm2, _⟩ := hp.at
  have HU := Lib.hid hu
  have HP := Lib.hid hp
  have HR := Lib.hid hr
  clear hu hp hr
  by_cases hn : 30 < ts.length
  · go_enter Try.func12, Try.ntmps12
    go_wp2_with fail
    refine (alive_c w).mono ?_
    rintro e w2 ⟨rfl, hE⟩
    go_wp2_with fail
    go_ret
    exact ⟨rfl, hE⟩
  · by_cases hn2 : 1000 < plan.length
    · go_enter Try.func12, Try.ntmps12
      go_wp2_with fail
      refine (alive_c w).mono ?_
      rintro e w2 ⟨rfl, hE⟩
      go_wp2_with fail
      go_ret
      exact ⟨rfl, hE⟩
    · by_cases ho : ordZ x y ts = 0
      · obtain ⟨⟨hx1, hx2, hy1, hy2⟩, hn10, hok⟩ := ord_ok ho
        obtain ⟨W, rfl⟩ : ∃ W : Nat, x = (W : Int) := ⟨x.toNat, by omega⟩
        obtain ⟨H, rfl⟩ : ∃ H : Nat, y = (H : Int) := ⟨y.toNat, by omega⟩
        have HO := Lib.hid ho
        have HOK := Lib.hid hok
        clear ho hok
        go_enter Try.func12, Try.ntmps12
        go_wp2_with fail
        refine (Best_c (W : Int) (H : Int) _ ts w HU.out).mono ?_
        rintro e w1 ⟨hS, hE1⟩
        obtain ⟨p1, rfl, hp1⟩ := best_val hS HO.out
        rw [Int.toNat_natCast, Int.toNat_natCast] at hp1 ⊢
        obtain ⟨a3, cap3, rfl, hl3, hm3, _⟩ := hp1.at
        have HP1 := Lib.hid hp1
        have HE1 := Lib.hid hE1
        clear hS hE1 hp1
        have hbv := bestV_small HOK.out (w := W) (g := H) (by omega) (by omega)
        obtain ⟨V, hV⟩ : ∃ V, V = bestV ts W H := ⟨_, rfl⟩
        rw [← hV] at hbv ⊢
        have HV := Lib.hid hV
        clear hV
        simp only [three]
        go_wp2_with fail
        refine (Worth_c (W : Int) (H : Int) _ ts _ (planZ ts W H) w1 (HU.out.ext HE1.out) HP1.out).mono ?_
        rintro e w2 ⟨hS, hE2⟩
        obtain ⟨cs, cv, rfl, hci, hcl, hcb, hd1, hd2⟩ := worth_best ⟨hx1, hx2, hy1, hy2⟩ HO.out hS
        rw [← HV.out] at hd1 ⊢
        obtain ⟨a4, cap4, rfl, hl4, hm4, hcr⟩ := hci.at
        have HCR := Lib.hid hcr
        have HCB := Lib.hid hcb
        have HD1 := Lib.hid hd1
        have HD2 := Lib.hid hd2
        have HCL := Lib.hid hcl
        have HE2 := Lib.hid (Ext.trans HE1.out hE2)
        clear hS hE2 hci hcr hcb hd1 hd2
        simp only [four]
        rw [hcl] at hl4 ⊢
        clear hcl
        go_wp2_with fail
        go_loopw [16, 17, 18] (fun s ar i wr => ∃ k : Nat, i = .int .i64 k ∧ k ≤ ts.length ∧ s = .int .i64 (dotZ (cs.take k) (valsZ ts)) ∧ ar = .int .i64 (dotZ (cs.take k) (areasZ ts)) ∧ (0 ≤ dotZ (cs.take k) (valsZ ts) ∧ dotZ (cs.take k) (valsZ ts) ≤ 30000000000 * (k : Int)) ∧ (0 ≤ dotZ (cs.take k) (areasZ ts) ∧ dotZ (cs.take k) (areasZ ts) ≤ 30000000000 * (k : Int)) ∧ Ext w2 wr) (fun _ _ i _ => ts.length - (intOf i).toNat)
        case atStart => exact ⟨0, rfl, Nat.zero_le _, rfl, rfl, ⟨Int.le_refl _, by show (0 : Int) ≤ _; omega⟩, ⟨Int.le_refl _, by show (0 : Int) ≤ _; omega⟩, Ext.refl _⟩
        case round =>
          obtain ⟨k, rfl, hk, rfl, rfl, hb1, hb2, hE⟩ := hrel
          have HEr := Lib.hid hE
          clear hE
          by_cases hlt : k < ts.length
          · obtain ⟨t, ht⟩ := getElem?_len hlt
            obtain ⟨b, o, rfl, hc0, hc1, hc2⟩ := HR.out k t ht
            have HC0 := Lib.hid (fun (X : World) (h : Ext w2 X) => Ext.cell h (Ext.cell HE2.out hc0))
            have HC1 := Lib.hid (fun (X : World) (h : Ext w2 X) => Ext.cell h (Ext.cell HE2.out hc1))
            have HC2 := Lib.hid (fun (X : World) (h : Ext w2 X) => Ext.cell h (Ext.cell HE2.out hc2))
            obtain ⟨c, hcc⟩ := getElem?_len (show k < cs.length by rw [HCL.out]; exact hlt)
            obtain ⟨cb, co, rfl, hcv⟩ := HCR.out k c hcc
            have HCV := Lib.hid (fun (X : World) (h : Ext w2 X) => Ext.cell h hcv)
            have hcbd := HCB.out c (List.mem_of_getElem? hcc)
            have hti : (1 ≤ t.1 ∧ t.1 ≤ 100) ∧ (1 ≤ t.2.1 ∧ t.2.1 ≤ 100) ∧ (1 ≤ t.2.2 ∧ t.2.2 ≤ 1048576) := by
              have h := HOK.out
              rw [List.all_eq_true] at h
              have := h t (List.mem_of_getElem? ht)
              simp only [itemB, Bool.and_eq_true, decide_eq_true_eq] at this
              have h2 := sheet_in this.1.1
              omega
            have e1 := dotZ_take_succ cs (valsZ ts) k c t.2.2 hcc (by simp [valsZ, ht])
            have e2 := dotZ_take_succ cs (areasZ ts) k c (t.1 * t.2.1) hcc (by simp [areasZ, ht])
            have m1 := Int.mul_le_mul (show c ≤ 20000 by omega) hti.2.2.2 (by omega) (by omega)
            have m1' := Int.mul_nonneg hcbd.1 (show 0 ≤ t.2.2 by omega)
            have m2 := Int.mul_le_mul (show c ≤ 20000 by omega) hti.1.2 (by omega) (by omega)
            have m2' := Int.mul_nonneg hcbd.1 (show 0 ≤ t.1 by omega)
            have m3 := Int.mul_le_mul (show c * t.1 ≤ 2000000 by omega) hti.2.1.2 (by omega) (by omega)
            have m3' := Int.mul_nonneg m2' (show 0 ≤ t.2.1 by omega)
            rw [← Int.mul_assoc] at e2
            have HE1' := Lib.hid e1
            have HE2' := Lib.hid e2
            clear e1 e2 hcv hcc hc0 hc1 hc2 ht hti
            generalize dotZ (cs.take k) (valsZ ts) = S at *
            generalize dotZ (cs.take k) (areasZ ts) = A at *
            have W1 := Lib.hid (show IntKind.i64.wrap (c * t.2.2) = c * t.2.2 from IntWalk.i64_in _ (by omega))
            have W2 := Lib.hid (show IntKind.i64.wrap (S + c * t.2.2) = S + c * t.2.2 from IntWalk.i64_in _ (by omega))
            have W3 := Lib.hid (show IntKind.i64.wrap (c * t.1) = c * t.1 from IntWalk.i64_in _ (by omega))
            have W4 := Lib.hid (show IntKind.i64.wrap (c * t.1 * t.2.1) = c * t.1 * t.2.1 from IntWalk.i64_in _ (by omega))
            have W5 := Lib.hid (show IntKind.i64.wrap (A + c * t.1 * t.2.1) = A + c * t.1 * t.2.1 from IntWalk.i64_in _ (by omega))
            have z0 := HCV.out wr HEr.out
            go_wp2_with fail
            clear z0
            refine wp_region_stable_last [⟨[], none⟩, ⟨[], none⟩, ⟨[], none⟩, ⟨[(1, 91), (2, 92)], none⟩, ⟨[(3, 93)], none⟩, ⟨[], none⟩, ⟨[], none⟩, ⟨[(5, 95), (6, 96)], none⟩, ⟨[(7, 97)], none⟩, ⟨[(8, 98)], none⟩, ⟨[(4, 94), (9, 99)], none⟩, ⟨[(0, 90), (10, 100)], none⟩] (fun x y => Below x.heap.size x y) (MPat [MP.eq (.int .i64 S), MP.eq (.slice (some ⟨cb, co, none⟩) ts.length cap4), MP.eq (.int .i64 (k : Int)), MP.eq (.pointer (some ⟨cb, co + k, none⟩)), MP.eq (.int .i64 c), MP.eq (.slice (some ⟨b, o, none⟩) ts.length cap), MP.eq (.int .i64 (k : Int)), MP.eq (.pointer (some ⟨b, o + k * 3, none⟩)), MP.eq (.pointer (some ⟨b, o + k * 3 + 2, none⟩)), MP.eq (.int .i64 t.2.2), MP.eq (.int .i64 (c * t.2.2)), MP.eq (.int .i64 (S + c * t.2.2))]) rfl (by kernel_rfl) (fun _ _ _ h k => Ext.trans h k) (fun _ => Below.refl _ _) (fun x => (Below.refl x.heap.size x).drew) (MPat.mono _) (by kernel_rfl) (by kernel_rfl) (by kernel_rfl) ?obs ?rest
            case obs =>
              refine ⟨?_, ?_, ?_, ?_, ?_, ?_, ?_, ?_, ?_, ?_, ?_, ?_, trivial⟩
              · intro ev W6 hf _ _ hst hd
                have e16 : ev (.tmp 16) = .int .i64 S := hf 16 (by kernel_rfl)
                refine st_value (v := .int .i64 S) ?_ (Below.refl _ _) ?_
                · simp [execOp, go_sem, e16]
                · exact rfl
              · intro ev W6 hf _ _ hst hd
                have e13 : ev (.tmp 13) = .slice (some ⟨cb, co, none⟩) ts.length cap4 := hf 13 (by kernel_rfl)
                refine st_value (v := .slice (some ⟨cb, co, none⟩) ts.length cap4) ?_ (Below.refl _ _) ?_
                · simp [execOp, go_sem, e13]
                · exact rfl
              · intro ev W6 hf _ _ hst hd
                have e18 : ev (.tmp 18) = .int .i64 (k : Int) := hf 18 (by kernel_rfl)
                refine st_value (v := .int .i64 (k : Int)) ?_ (Below.refl _ _) ?_
                · simp [execOp, go_sem, e18]
                · exact rfl
              · intro ev W6 hf _ _ hst hd
                obtain ⟨d91, d92, _⟩ := hd
                have e91 : ev (.tmp 91) = .slice (some ⟨cb, co, none⟩) ts.length cap4 := d91
                have e92 : ev (.tmp 92) = .int .i64 (k : Int) := d92
                refine st_value (v := .pointer (some ⟨cb, co + k, none⟩)) ?_ (Below.refl _ _) ?_
                · simp [execOp, go_sem, e91, e92, hlt]
                · exact rfl
              · intro ev W6 hf _ _ hst hd
                obtain ⟨d93, _⟩ := hd
                have e93 : ev (.tmp 93) = .pointer (some ⟨cb, co + k, none⟩) := d93
                have q0 := HCV.out W6 (Ext.trans HEr.out hst)
                refine st_value (v := .int .i64 c) ?_ (Below.refl _ _) ?_
                · simp [execOp, go_sem, e93, q0]
                · exact rfl
              · intro ev W6 hf _ _ hst hd
                have e2 : ev (.tmp 2) = .slice (some ⟨b, o, none⟩) ts.length cap := hf 2 (by kernel_rfl)
                refine st_value (v := .slice (some ⟨b, o, none⟩) ts.length cap) ?_ (Below.refl _ _) ?_
                · simp [execOp, go_sem, e2]
                · exact rfl
              · intro ev W6 hf _ _ hst hd
                have e18 : ev (.tmp 18) = .int .i64 (k : Int) := hf 18 (by kernel_rfl)
                refine st_value (v := .int .i64 (k : Int)) ?_ (Below.refl _ _) ?_
                · simp [execOp, go_sem, e18]
                · exact rfl
              · intro ev W6 hf _ _ hst hd
                obtain ⟨d95, d96, _⟩ := hd
                have e95 : ev (.tmp 95) = .slice (some ⟨b, o, none⟩) ts.length cap := d95
                have e96 : ev (.tmp 96) = .int .i64 (k : Int) := d96
                refine st_value (v := .pointer (some ⟨b, o + k * 3, none⟩)) ?_ (Below.refl _ _) ?_
                · simp [execOp, go_sem, e95, e96, hlt]
                · exact rfl
              · intro ev W6 hf _ _ hst hd
                obtain ⟨d97, _⟩ := hd
                have e97 : ev (.tmp 97) = .pointer (some ⟨b, o + k * 3, none⟩) := d97
                refine st_value (v := .pointer (some ⟨b, o + k * 3 + 2, none⟩)) ?_ (Below.refl _ _) ?_
                · simp [execOp, go_sem, e97]
                · exact rfl
              · intro ev W6 hf _ _ hst hd
                obtain ⟨d98, _⟩ := hd
                have e98 : ev (.tmp 98) = .pointer (some ⟨b, o + k * 3 + 2, none⟩) := d98
                have q0 := HC2.out W6 (Ext.trans HEr.out hst)
                refine st_value (v := .int .i64 t.2.2) ?_ (Below.refl _ _) ?_
                · simp [execOp, go_sem, e98, q0]
                · exact rfl
              · intro ev W6 hf _ _ hst hd
                obtain ⟨d94, d99, _⟩ := hd
                have e94 : ev (.tmp 94) = .int .i64 c := d94
                have e99 : ev (.tmp 99) = .int .i64 t.2.2 := d99
                refine st_value (v := .int .i64 (c * t.2.2)) ?_ (Below.refl _ _) ?_
                · simp [execOp, go_sem, e94, e99, W1.out]
                · exact rfl
              · intro ev W6 hf _ _ hst hd
                obtain ⟨d90, d100, _⟩ := hd
                have e90 : ev (.tmp 90) = .int .i64 S := d90
                have e100 : ev (.tmp 100) = .int .i64 (c * t.2.2) := d100
                refine st_value (v := .int .i64 (S + c * t.2.2)) ?_ (Below.refl _ _) ?_
                · simp [execOp, go_sem, e90, e100, W2.out]
                · exact rfl
            case rest =>
              intro vs w3 hl hst hg
              have HE3 := Lib.hid hst
              have hvs : vs = [.int .i64 S, .slice (some ⟨cb, co, none⟩) ts.length cap4, .int .i64 (k : Int), .pointer (some ⟨cb, co + k, none⟩), .int .i64 c, .slice (some ⟨b, o, none⟩) ts.length cap, .int .i64 (k : Int), .pointer (some ⟨b, o + k * 3, none⟩), .pointer (some ⟨b, o + k * 3 + 2, none⟩), .int .i64 t.2.2, .int .i64 (c * t.2.2), .int .i64 (S + c * t.2.2)] := list_of hl (fun i u hu => by
                match i, hu with
                | 0, hu => exact (congrArg some (hg 0 u hu)).symm
                | 1, hu => exact (congrArg some (hg 1 u hu)).symm
                | 2, hu => exact (congrArg some (hg 2 u hu)).symm
                | 3, hu => exact (congrArg some (hg 3 u hu)).symm
                | 4, hu => exact (congrArg some (hg 4 u hu)).symm
                | 5, hu => exact (congrArg some (hg 5 u hu)).symm
                | 6, hu => exact (congrArg some (hg 6 u hu)).symm
                | 7, hu => exact (congrArg some (hg 7 u hu)).symm
                | 8, hu => exact (congrArg some (hg 8 u hu)).symm
                | 9, hu => exact (congrArg some (hg 9 u hu)).symm
                | 10, hu => exact (congrArg some (hg 10 u hu)).symm
                | 11, hu => exact (congrArg some (hg 11 u hu)).symm
                | n + 12, hu => exact absurd (lt_len hu) (by rw [hl]; simp))
              clear hg hst hl
              subst hvs
              simp only [putAll, Act.put, List.dropLast, List.setIfInBounds_toArray, List.set_cons_zero, List.set_cons_succ]
              have HEa := Lib.hid (Ext.trans HEr.out HE3.out)
              clear HE3
              go_wp2_with fail
              refine wp_region_stable_last [⟨[], none⟩, ⟨[], none⟩, ⟨[], none⟩, ⟨[(1, 103), (2, 104)], none⟩, ⟨[(3, 105)], none⟩, ⟨[], none⟩, ⟨[], none⟩, ⟨[(5, 107), (6, 108)], none⟩, ⟨[(7, 109)], none⟩, ⟨[(8, 110)], none⟩, ⟨[(4, 106), (9, 111)], none⟩, ⟨[], none⟩, ⟨[], none⟩, ⟨[(11, 113), (12, 114)], none⟩, ⟨[(13, 115)], none⟩, ⟨[(14, 116)], none⟩, ⟨[(10, 112), (15, 117)], none⟩, ⟨[(0, 102), (16, 118)], none⟩] (fun x y => Below x.heap.size x y) (MPat [MP.eq (.int .i64 A), MP.eq (.slice (some ⟨cb, co, none⟩) ts.length cap4), MP.eq (.int .i64 (k : Int)), MP.eq (.pointer (some ⟨cb, co + k, none⟩)), MP.eq (.int .i64 c), MP.eq (.slice (some ⟨b, o, none⟩) ts.length cap), MP.eq (.int .i64 (k : Int)), MP.eq (.pointer (some ⟨b, o + k * 3, none⟩)), MP.eq (.pointer (some ⟨b, o + k * 3, none⟩)), MP.eq (.int .i64 t.1), MP.eq (.int .i64 (c * t.1)), MP.eq (.slice (some ⟨b, o, none⟩) ts.length cap), MP.eq (.int .i64 (k : Int)), MP.eq (.pointer (some ⟨b, o + k * 3, none⟩)), MP.eq (.pointer (some ⟨b, o + k * 3 + 1, none⟩)), MP.eq (.int .i64 t.2.1), MP.eq (.int .i64 (c * t.1 * t.2.1)), MP.eq (.int .i64 (A + c * t.1 * t.2.1))]) rfl (by kernel_rfl) (fun _ _ _ h k => Ext.trans h k) (fun _ => Below.refl _ _) (fun x => (Below.refl x.heap.size x).drew) (MPat.mono _) (by kernel_rfl) (by kernel_rfl) (by kernel_rfl) ?obs2 ?rest2
              case obs2 =>
                refine ⟨?_, ?_, ?_, ?_, ?_, ?_, ?_, ?_, ?_, ?_, ?_, ?_, ?_, ?_, ?_, ?_, ?_, ?_, trivial⟩
                · intro ev W6 hf _ _ hst hd
                  have e17 : ev (.tmp 17) = .int .i64 A := hf 17 (by kernel_rfl)
                  refine st_value (v := .int .i64 A) ?_ (Below.refl _ _) ?_
                  · simp [execOp, go_sem, e17]
                  · exact rfl
                · intro ev W6 hf _ _ hst hd
                  have e13 : ev (.tmp 13) = .slice (some ⟨cb, co, none⟩) ts.length cap4 := hf 13 (by kernel_rfl)
                  refine st_value (v := .slice (some ⟨cb, co, none⟩) ts.length cap4) ?_ (Below.refl _ _) ?_
                  · simp [execOp, go_sem, e13]
                  · exact rfl
                · intro ev W6 hf _ _ hst hd
                  have e18 : ev (.tmp 18) = .int .i64 (k : Int) := hf 18 (by kernel_rfl)
                  refine st_value (v := .int .i64 (k : Int)) ?_ (Below.refl _ _) ?_
                  · simp [execOp, go_sem, e18]
                  · exact rfl
                · intro ev W6 hf _ _ hst hd
                  obtain ⟨d103, d104, _⟩ := hd
                  have e103 : ev (.tmp 103) = .slice (some ⟨cb, co, none⟩) ts.length cap4 := d103
                  have e104 : ev (.tmp 104) = .int .i64 (k : Int) := d104
                  refine st_value (v := .pointer (some ⟨cb, co + k, none⟩)) ?_ (Below.refl _ _) ?_
                  · simp [execOp, go_sem, e103, e104, hlt]
                  · exact rfl
                · intro ev W6 hf _ _ hst hd
                  obtain ⟨d105, _⟩ := hd
                  have e105 : ev (.tmp 105) = .pointer (some ⟨cb, co + k, none⟩) := d105
                  have q0 := HCV.out W6 (Ext.trans HEa.out hst)
                  refine st_value (v := .int .i64 c) ?_ (Below.refl _ _) ?_
                  · simp [execOp, go_sem, e105, q0]
                  · exact rfl
                · intro ev W6 hf _ _ hst hd
                  have e2 : ev (.tmp 2) = .slice (some ⟨b, o, none⟩) ts.length cap := hf 2 (by kernel_rfl)
                  refine st_value (v := .slice (some ⟨b, o, none⟩) ts.length cap) ?_ (Below.refl _ _) ?_
                  · simp [execOp, go_sem, e2]
                  · exact rfl
                · intro ev W6 hf _ _ hst hd
                  have e18 : ev (.tmp 18) = .int .i64 (k : Int) := hf 18 (by kernel_rfl)
                  refine st_value (v := .int .i64 (k : Int)) ?_ (Below.refl _ _) ?_
                  · simp [execOp, go_sem, e18]
                  · exact rfl
                · intro ev W6 hf _ _ hst hd
                  obtain ⟨d107, d108, _⟩ := hd
                  have e107 : ev (.tmp 107) = .slice (some ⟨b, o, none⟩) ts.length cap := d107
                  have e108 : ev (.tmp 108) = .int .i64 (k : Int) := d108
                  refine st_value (v := .pointer (some ⟨b, o + k * 3, none⟩)) ?_ (Below.refl _ _) ?_
                  · simp [execOp, go_sem, e107, e108, hlt]
                  · exact rfl
                · intro ev W6 hf _ _ hst hd
                  obtain ⟨d109, _⟩ := hd
                  have e109 : ev (.tmp 109) = .pointer (some ⟨b, o + k * 3, none⟩) := d109
                  refine st_value (v := .pointer (some ⟨b, o + k * 3, none⟩)) ?_ (Below.refl _ _) ?_
                  · simp [execOp, go_sem, e109]
                  · exact rfl
                · intro ev W6 hf _ _ hst hd
                  obtain ⟨d110, _⟩ := hd
                  have e110 : ev (.tmp 110) = .pointer (some ⟨b, o + k * 3, none⟩) := d110
                  have q0 := HC0.out W6 (Ext.trans HEa.out hst)
                  refine st_value (v := .int .i64 t.1) ?_ (Below.refl _ _) ?_
                  · simp [execOp, go_sem, e110, q0]
                  · exact rfl
                · intro ev W6 hf _ _ hst hd
                  obtain ⟨d106, d111, _⟩ := hd
                  have e106 : ev (.tmp 106) = .int .i64 c := d106
                  have e111 : ev (.tmp 111) = .int .i64 t.1 := d111
                  refine st_value (v := .int .i64 (c * t.1)) ?_ (Below.refl _ _) ?_
                  · simp [execOp, go_sem, e106, e111, W3.out]
                  · exact rfl
                · intro ev W6 hf _ _ hst hd
                  have e2 : ev (.tmp 2) = .slice (some ⟨b, o, none⟩) ts.length cap := hf 2 (by kernel_rfl)
                  refine st_value (v := .slice (some ⟨b, o, none⟩) ts.length cap) ?_ (Below.refl _ _) ?_
                  · simp [execOp, go_sem, e2]
                  · exact rfl
                · intro ev W6 hf _ _ hst hd
                  have e18 : ev (.tmp 18) = .int .i64 (k : Int) := hf 18 (by kernel_rfl)
                  refine st_value (v := .int .i64 (k : Int)) ?_ (Below.refl _ _) ?_
                  · simp [execOp, go_sem, e18]
                  · exact rfl
                · intro ev W6 hf _ _ hst hd
                  obtain ⟨d113, d114, _⟩ := hd
                  have e113 : ev (.tmp 113) = .slice (some ⟨b, o, none⟩) ts.length cap := d113
                  have e114 : ev (.tmp 114) = .int .i64 (k : Int) := d114
                  refine st_value (v := .pointer (some ⟨b, o + k * 3, none⟩)) ?_ (Below.refl _ _) ?_
                  · simp [execOp, go_sem, e113, e114, hlt]
                  · exact rfl
                · intro ev W6 hf _ _ hst hd
                  obtain ⟨d115, _⟩ := hd
                  have e115 : ev (.tmp 115) = .pointer (some ⟨b, o + k * 3, none⟩) := d115
                  refine st_value (v := .pointer (some ⟨b, o + k * 3 + 1, none⟩)) ?_ (Below.refl _ _) ?_
                  · simp [execOp, go_sem, e115]
                  · exact rfl
                · intro ev W6 hf _ _ hst hd
                  obtain ⟨d116, _⟩ := hd
                  have e116 : ev (.tmp 116) = .pointer (some ⟨b, o + k * 3 + 1, none⟩) := d116
                  have q0 := HC1.out W6 (Ext.trans HEa.out hst)
                  refine st_value (v := .int .i64 t.2.1) ?_ (Below.refl _ _) ?_
                  · simp [execOp, go_sem, e116, q0]
                  · exact rfl
                · intro ev W6 hf _ _ hst hd
                  obtain ⟨d112, d117, _⟩ := hd
                  have e112 : ev (.tmp 112) = .int .i64 (c * t.1) := d112
                  have e117 : ev (.tmp 117) = .int .i64 t.2.1 := d117
                  refine st_value (v := .int .i64 (c * t.1 * t.2.1)) ?_ (Below.refl _ _) ?_
                  · simp [execOp, go_sem, e112, e117, W4.out]
                  · exact rfl
                · intro ev W6 hf _ _ hst hd
                  obtain ⟨d102, d118, _⟩ := hd
                  have e102 : ev (.tmp 102) = .int .i64 A := d102
                  have e118 : ev (.tmp 118) = .int .i64 (c * t.1 * t.2.1) := d118
                  refine st_value (v := .int .i64 (A + c * t.1 * t.2.1)) ?_ (Below.refl _ _) ?_
                  · simp [execOp, go_sem, e102, e118, W5.out]
                  · exact rfl
              case rest2 =>
                intro vs w4 hl hst hg
                have HE3 := Lib.hid hst
                have hvs : vs = [.int .i64 A, .slice (some ⟨cb, co, none⟩) ts.length cap4, .int .i64 (k : Int), .pointer (some ⟨cb, co + k, none⟩), .int .i64 c, .slice (some ⟨b, o, none⟩) ts.length cap, .int .i64 (k : Int), .pointer (some ⟨b, o + k * 3, none⟩), .pointer (some ⟨b, o + k * 3, none⟩), .int .i64 t.1, .int .i64 (c * t.1), .slice (some ⟨b, o, none⟩) ts.length cap, .int .i64 (k : Int), .pointer (some ⟨b, o + k * 3, none⟩), .pointer (some ⟨b, o + k * 3 + 1, none⟩), .int .i64 t.2.1, .int .i64 (c * t.1 * t.2.1), .int .i64 (A + c * t.1 * t.2.1)] := list_of hl (fun i u hu => by
                  match i, hu with
                  | 0, hu => exact (congrArg some (hg 0 u hu)).symm
                  | 1, hu => exact (congrArg some (hg 1 u hu)).symm
                  | 2, hu => exact (congrArg some (hg 2 u hu)).symm
                  | 3, hu => exact (congrArg some (hg 3 u hu)).symm
                  | 4, hu => exact (congrArg some (hg 4 u hu)).symm
                  | 5, hu => exact (congrArg some (hg 5 u hu)).symm
                  | 6, hu => exact (congrArg some (hg 6 u hu)).symm
                  | 7, hu => exact (congrArg some (hg 7 u hu)).symm
                  | 8, hu => exact (congrArg some (hg 8 u hu)).symm
                  | 9, hu => exact (congrArg some (hg 9 u hu)).symm
                  | 10, hu => exact (congrArg some (hg 10 u hu)).symm
                  | 11, hu => exact (congrArg some (hg 11 u hu)).symm
                  | 12, hu => exact (congrArg some (hg 12 u hu)).symm
                  | 13, hu => exact (congrArg some (hg 13 u hu)).symm
                  | 14, hu => exact (congrArg some (hg 14 u hu)).symm
                  | 15, hu => exact (congrArg some (hg 15 u hu)).symm
                  | 16, hu => exact (congrArg some (hg 16 u hu)).symm
                  | 17, hu => exact (congrArg some (hg 17 u hu)).symm
                  | n + 18, hu => exact absurd (lt_len hu) (by rw [hl]; simp))
                clear hg hst hl
                subst hvs
                simp only [putAll, Act.put, List.dropLast, List.setIfInBounds_toArray, List.set_cons_zero, List.set_cons_succ]
                have HEb := Lib.hid (Ext.trans HEa.out HE3.out)
                go_wp2_with fail
                refine ⟨⟨k + 1, by simp, by omega, by rw [HE1'.out], by rw [HE2'.out], by rw [HE1'.out]; omega, by rw [HE2'.out]; omega, HEb.out⟩, by simp [intOf]; omega⟩
          · obtain rfl : k = ts.length := by omega
            have hT1 : dotZ (cs.take ts.length) (valsZ ts) = V := by rw [← HCL.out, List.take_length]; exact HD1.out
            have hT2 : dotZ (cs.take ts.length) (areasZ ts) ≤ (W : Int) * (H : Int) := by rw [← HCL.out, List.take_length]; exact HD2.out
            rw [hT1]
            have hwh := Int.mul_le_mul hx2 hy2 (by omega) (by omega)
            have hwh0 := Int.mul_nonneg (show 0 ≤ (W : Int) by omega) (show 0 ≤ (H : Int) by omega)
            clear hT1
            generalize dotZ (cs.take ts.length) (valsZ ts) = S at *
            generalize dotZ (cs.take ts.length) (areasZ ts) = A at *
            have hE3 := Ext.trans HE2.out HEr.out
            have HE3 := Lib.hid hE3
            clear hE3
            go_wp2_with fail
            refine (Worth_c (W : Int) (H : Int) _ ts _ plan wr (HU.out.ext HE3.out) (HP.out.ext HE3.out)).mono ?_
            rintro e w4 ⟨hS, hE4⟩
            obtain ⟨b, cv, ok, rfl, hle⟩ := worth_any HO.out (by omega) hS
            rw [← HV.out] at hle
            have HE4 := Lib.hid (Ext.trans HE3.out hE4)
            clear hS hE4
            simp only [four]
            obtain ⟨q, hq⟩ : ∃ q, (W : Int) * (H : Int) = q := ⟨_, rfl⟩
            rw [hq] at hT2 hwh hwh0
            have hwq : IntKind.i64.wrap q = q := IntWalk.i64_in _ (by omega)
            cases ok with
            | false =>
              clear hle
              go_wp2_with fail
              refine (alive_c w4).mono ?_
              rintro e w5 ⟨rfl, hE5⟩
              go_wp2_with fail
              go_ret
              exact ⟨rfl, Ext.trans HE4.out hE5⟩
            | true =>
              have hle2 := hle rfl
              clear hle
              go_wp2_with fail
              refine (alive_c w4).mono ?_
              rintro e w5 ⟨rfl, hE5⟩
              go_wp2_with fail
              go_ret
              exact ⟨rfl, Ext.trans HE4.out hE5⟩
      · have HO := Lib.hid ho
        clear ho
        go_enter Try.func12, Try.ntmps12
        go_wp2_with fail
        refine (Best_c x y _ ts w HU.out).mono ?_
        rintro e w1 ⟨hS, hE1⟩
        have he := best_err hS HO.out
        subst he
        have hz : (ordZ x y ts != 0) = true := by simp [HO.out]
        generalize ordZ x y ts = z at *
        clear hS
        simp only [three]
        go_wp2_with fail
        refine (alive_c w1).mono ?_
        rintro e w2 ⟨rfl, hE⟩
        go_wp2_with fail
        go_ret
        exact ⟨rfl, Ext.trans hE1 hE⟩
end Go.Proofs.Ytnpebfchojalcaa
