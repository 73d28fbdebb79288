import Derived.Test.YtnpebfchojalcaaC2
namespace Go.Proofs.Ytnpebfchojalcaa
set_option maxRecDepth 100000
open Go.RowKit Go.Shelf
theorem widesK_at {V : Nat → Nat → Int} {w h : Nat} {b : It} {x : Nat} (h1 : 1 ≤ x) : widesK V w h b x = pickZ (widesK V w h b (x - 1)) (V x h + V (w - x) h, 2, (x : Int)) := by
  obtain ⟨k, rfl⟩ : ∃ k, x = k + 1 := ⟨x - 1, by omega⟩
  rfl
theorem highsK_at {V : Nat → Nat → Int} {w h : Nat} {b : It} {y : Nat} (h1 : 1 ≤ y) : highsK V w h b y = pickZ (highsK V w h b (y - 1)) (V w y + V w (h - y), 3, (y : Int)) := by
  obtain ⟨k, rfl⟩ : ∃ k, y = k + 1 := ⟨y - 1, by omega⟩
  rfl
theorem items_pos {ts : List It} (h : ts.all itemB = true) {j : Nat} (hj : j < ts.length) : 1 ≤ (ts.getD j (0, 0, 0)).1 ∧ (ts.getD j (0, 0, 0)).1 ≤ 100 ∧ 1 ≤ (ts.getD j (0, 0, 0)).2.1 ∧ (ts.getD j (0, 0, 0)).2.1 ≤ 100 ∧ 1 ≤ (ts.getD j (0, 0, 0)).2.2 ∧ (ts.getD j (0, 0, 0)).2.2 ≤ 1048576 := by
  rw [List.all_eq_true] at h
  have hm : ts.getD j (0, 0, 0) ∈ ts := by rw [List.getD_eq_getElem?_getD, List.getElem?_eq_getElem hj]; exact List.getElem_mem _
  have := h _ hm
  simp only [itemB, Bool.and_eq_true, decide_eq_true_eq] at this
  have h2 := sheet_in this.1.1
  omega
theorem bestV_bd {ts : List It} (h : ts.all itemB = true) (w g : Nat) : bestV ts w g ≤ 1048576 * ((w : Int) * (g : Int)) := by
  refine bestV_le (F := fun w g => 1048576 * ((w : Int) * (g : Int))) (fun w g => ?_) (fun w g j hj hf => ?_) (fun w g x h1 h2 => ?_) (fun w g y h1 h2 => ?_) w g
  · have := Int.mul_nonneg (Int.natCast_nonneg w) (Int.natCast_nonneg g); omega
  · have hp := items_pos h hj
    have hf := fits_iff hf
    have := Int.mul_le_mul (show (1 : Int) ≤ (w : Int) by omega) (show (1 : Int) ≤ (g : Int) by omega) (by omega) (by omega)
    (try dsimp only)
    omega
  · have : ((w - x : Nat) : Int) = (w : Int) - (x : Int) := by omega
    (try dsimp only)
    rw [this, Int.sub_mul]
    omega
  · have : ((g - y : Nat) : Int) = (g : Int) - (y : Int) := by omega
    (try dsimp only)
    rw [this, Int.mul_sub]
    omega
theorem bestV_small {ts : List It} (h : ts.all itemB = true) {w g : Nat} (hw : w ≤ 100) (hg : g ≤ 100) : 0 ≤ bestV ts w g ∧ bestV ts w g ≤ 10485760000 := by
  have h1 := bestV_nonneg ts w g
  have h2 := bestV_bd h w g
  have h3 := Int.mul_le_mul (show (w : Int) ≤ 100 by omega) (show (g : Int) ≤ 100 by omega) (by omega) (by omega)
  omega
theorem field_val (a b c : Int) (w : World) : (Instr.field 100 (.agg #[.int .i64 a, .int .i64 b, .int .i64 c]) 0).run Try.prog w = .ok (.int .i64 a) w := by
  simp [go_sem, Instr.field]
  rfl
theorem field_step (a b c : Int) (w : World) : (Instr.field 100 (.agg #[.int .i64 a, .int .i64 b, .int .i64 c]) 1).run Try.prog w = .ok (.agg #[.int .i64 b, .int .i64 c]) w := by
  simp [go_sem, Instr.field]
  rfl
abbrev tripL (c : It) : List Value := [.int .i64 c.1, .int .i64 c.2.1, .int .i64 c.2.2]
/-- what the walk of best holds on to -/
structure BestW (n : Nat) (wr : World) (W H : Nat) (cur : It) : Prop where
  r0 : VRow wr n 92 [.int .i64 (W : Int), .int .i64 (H : Int)]
  r1 : VRow wr (n + 1) 100 [.int .i64 0, .int .i64 0, .int .i64 0]
  r2 : VRow wr (n + 2) 100 [.int .i64 cur.1, .int .i64 cur.2.1, .int .i64 cur.2.2]
theorem BestW.ext {n W H : Nat} {w w' : World} {cur : It} (h : BestW n w W H cur) (he : Ext w w') : BestW n w' W H cur := ⟨VRow.ext h.r0 he, VRow.ext h.r1 he, VRow.ext h.r2 he⟩
theorem BestW.put {n W H : Nat} {w w' : World} {cur cur' : It} (h : BestW n w W H cur) (hr : VRow w' (n + 2) 100 [.int .i64 cur'.1, .int .i64 cur'.2.1, .int .i64 cur'.2.2]) (hg : w.grownBy w' (some (n + 2))) : BestW n w' W H cur' :=
  ⟨VRow.grown h.r0 hg (by intro e; injection e with e; omega), VRow.grown h.r1 hg (by intro e; injection e with e; omega), hr⟩
set_option maxHeartbeats 4000000 in
theorem best_c (T0 oT nT cT : Nat) (v : Value) (ts : List It) (W H : Nat) (w : World) (hW : W ≤ 100) (hH : H ≤ 100) (hv : Items w v ts) (hok : ts.all itemB = true)
    (ht1 : ∀ x, 1 ≤ x → x < W → Entry w (.slice (some ⟨T0, oT, none⟩) nT cT) x H (bestC ts x H)) (ht2 : ∀ y, 1 ≤ y → y < H → Entry w (.slice (some ⟨T0, oT, none⟩) nT cT) W y (bestC ts W y)) :
    Calls Try.prog 98 #[.slice (some ⟨T0, oT, none⟩) nT cT, rectV W H, v] w fun e w' => e = .returned (tripV (bestC ts W H)) ∧ Ext w w' := by
  obtain ⟨a, cap, rfl, hl, hm, hr⟩ := hv.at
  have HV := Lib.hid hr
  have HOK := Lib.hid hok
  have HT1 := Lib.hid ht1
  have HT2 := Lib.hid ht2
  have HEQ := Lib.hid (bestC_eq ts W H)
  have HCF := Lib.hid (show chooseF ts (bestV ts) W H = highsK (bestV ts) W H (widesK (bestV ts) W H (itemsK ts W H ts.length) (W / 2)) (H / 2) from rfl)
  clear hv hr hok ht1 ht2
  generalize bestC ts W H = RES at *
  unfold rectV
  have hE := Ext.alloc (Ext.alloc (Ext.alloc (Ext.refl w) (.cells #[.int .i64 (W : Int), .int .i64 (H : Int)] 92)) (.cells #[.int .i64 0, .int .i64 0, .int .i64 0] 100)) (.cells #[.int .i64 0, .int .i64 0, .int .i64 0] 100)
  have s1 : (w.alloc (.cells #[.int .i64 (W : Int), .int .i64 (H : Int)] 92)).heap.size = w.heap.size + 1 := by simp
  have s2 : ((w.alloc (.cells #[.int .i64 (W : Int), .int .i64 (H : Int)] 92)).alloc (.cells #[.int .i64 0, .int .i64 0, .int .i64 0] 100)).heap.size = w.heap.size + 2 := by simp
  have p0 := ((vrow_alloc w [.int .i64 (W : Int), .int .i64 (H : Int)] 92).alloc (.cells #[.int .i64 0, .int .i64 0, .int .i64 0] 100)).alloc (.cells #[.int .i64 0, .int .i64 0, .int .i64 0] 100)
  have p1 := (vrow_alloc (w.alloc (.cells #[.int .i64 (W : Int), .int .i64 (H : Int)] 92)) [.int .i64 0, .int .i64 0, .int .i64 0] 100).alloc (.cells #[.int .i64 0, .int .i64 0, .int .i64 0] 100)
  have p2 := vrow_alloc ((w.alloc (.cells #[.int .i64 (W : Int), .int .i64 (H : Int)] 92)).alloc (.cells #[.int .i64 0, .int .i64 0, .int .i64 0] 100)) [.int .i64 0, .int .i64 0, .int .i64 0] 100
  rw [s1] at p1
  rw [s2] at p2
  have HB := Lib.hid (show BestW w.heap.size (((w.alloc (.cells #[.int .i64 (W : Int), .int .i64 (H : Int)] 92)).alloc (.cells #[.int .i64 0, .int .i64 0, .int .i64 0] 100)).alloc (.cells #[.int .i64 0, .int .i64 0, .int .i64 0] 100)) W H (itemsK ts W H 0) from ⟨p0, p1, p2⟩)
  have HE := Lib.hid hE
  clear hE p0 p1 p2
  go_enter Try.func98, Try.ntmps98
  go_wp2_with fail
  clear s1 s2
  generalize ((w.alloc (.cells #[.int .i64 (W : Int), .int .i64 (H : Int)] 92)).alloc (.cells #[.int .i64 0, .int .i64 0, .int .i64 0] 100)).alloc (.cells #[.int .i64 0, .int .i64 0, .int .i64 0] 100) = w1 at *
  go_loopw [18] (fun i wr => ∃ k : Nat, i = .int .i64 k ∧ k ≤ ts.length ∧ BestW w.heap.size wr W H (itemsK ts W H k) ∧ Ext w wr) (fun i _ => ts.length - (intOf i).toNat)
  case atStart => exact ⟨0, rfl, Nat.zero_le _, HB.out, HE.out⟩
  case round =>
    obtain ⟨k, rfl, hk, hB, hE⟩ := hrel
    have HB1 := Lib.hid hB
    have HE1 := Lib.hid hE
    clear hB hE HB HE
    by_cases hlt : k < ts.length
    · obtain ⟨t, ht⟩ := getElem?_len hlt
      obtain ⟨b, o, rfl, hc0, hc1, hc2⟩ := HV.out k t ht
      replace hc0 := Ext.cell HE1.out hc0
      replace hc1 := Ext.cell HE1.out hc1
      replace hc2 := Ext.cell HE1.out hc2
      have HTT := Lib.hid (show ts.getD k (0, 0, 0) = t by rw [List.getD_eq_getElem?_getD, ht]; rfl)
      have HSU := Lib.hid (show itemsK ts W H (k + 1) = if fitsB W H (ts.getD k (0, 0, 0)) then pickZ (itemsK ts W H k) ((ts.getD k (0, 0, 0)).2.2, 1, k) else itemsK ts W H k from rfl)
      have hbs := cell_lt hc0
      clear ht
      obtain ⟨t1, t2, t3⟩ := t
      simp only at hc0 hc1 hc2
      have hrl := VRow.lt HB1.out.r0
      have q0 := VRow.cell HB1.out.r0 (k := 0) rfl
      have q1 := VRow.cell HB1.out.r0 (k := 1) rfl
      go_wp2_with fail
      clear hc0 hc1 hc2 q0 q1
      have hEa := Ext.alloc (Ext.refl wr) (.cells #[.int .i64 t1, .int .i64 t2, .int .i64 t3] 53)
      have HI := Lib.hid (show VRow (wr.alloc (.cells #[.int .i64 t1, .int .i64 t2, .int .i64 t3] 53)) _ _ _ from vrow_alloc wr [.int .i64 t1, .int .i64 t2, .int .i64 t3] 53)
      have HB2 := Lib.hid (HB1.out.ext hEa)
      have HE2 := Lib.hid (Ext.trans HE1.out hEa)
      have hwr : w.heap.size + 2 < wr.heap.size := VRow.lt HB1.out.r2
      clear hEa HB1 HE1
      generalize hws : wr.heap.size = m0 at *
      clear hws
      generalize wr.alloc (.cells #[.int .i64 t1, .int .i64 t2, .int .i64 t3] 53) = w2 at *
      refine (show Calls Try.prog 121 #[rectV (W : Int) (H : Int), tripV (t1, t2, t3)] w2 _ from holds_c W H (t1, t2, t3) w2).mono ?_
      rintro e w3 ⟨rfl, hE3⟩
      have HI3 := Lib.hid (VRow.ext HI.out hE3)
      have HB3 := Lib.hid (HB2.out.ext hE3)
      have HE3 := Lib.hid (Ext.trans HE2.out hE3)
      clear hE3 HI HB2 HE2
      cases hf : fitsB W H (t1, t2, t3) with
      | false =>
        have Hf := Lib.hid hf
        clear hf
        go_wp2_with fail
        refine ⟨⟨k + 1, by simp, by omega, ?_, HE3.out⟩, by simp [intOf]; omega⟩
        rw [HSU.out, HTT.out, Hf.out, if_neg (by decide)]
        exact HB3.out
      | true =>
        have Hf := Lib.hid hf
        clear hf
        have i2 := VRow.cell HI3.out (k := 2) rfl
        go_wp2_with fail
        clear i2
        refine (show Calls Try.prog 122 #[.int .i64 t3, .int .i64 1, .int .i64 (k : Int), .pointer (some ⟨w.heap.size + 2, 0, none⟩)] w3 _ from offer_c (w.heap.size + 2) (itemsK ts W H k) (t3, 1, (k : Int)) w3 HB3.out.r2).mono ?_
        rintro e w4 ⟨⟨u, rfl⟩, hr4, hg4⟩
        have HB4 := Lib.hid (HB3.out.put hr4 hg4)
        have HE4 := Lib.hid (below_grown HE3.out hg4 HE3.out.size (by omega))
        clear hr4 hg4
        go_wp2_with fail
        refine ⟨⟨k + 1, by simp, by omega, ?_, HE4.out⟩, by simp [intOf]; omega⟩
        rw [HSU.out, HTT.out, Hf.out, if_pos rfl]
        exact HB4.out
    · obtain rfl : k = ts.length := by omega
      go_wp2_with fail
      generalize itemsK ts W H ts.length = b0 at *
      obtain ⟨q, hq⟩ : ∃ q : Nat, q = W / 2 := ⟨_, rfl⟩
      have hqz : (W : Int) / 2 = (q : Int) := by omega
      have hqW : 2 * q ≤ W := by omega
      have HQ := Lib.hid hq
      clear hq
      go_loopw [11] (fun i wr => ∃ x : Nat, i = .int .i64 x ∧ 1 ≤ x ∧ x ≤ q + 1 ∧ BestW w.heap.size wr W H (widesK (bestV ts) W H b0 (x - 1)) ∧ Ext w wr) (fun i _ => q + 1 - (intOf i).toNat)
      case atStart => exact ⟨1, rfl, by omega, by omega, HB1.out, HE1.out⟩
      case round =>
        obtain ⟨x, rfl, hx1, hx2, hB, hE⟩ := hrel
        have HB2 := Lib.hid hB
        have HE2 := Lib.hid hE
        clear hB hE HB1 HE1
        have c0 := VRow.cell HB2.out.r0 (k := 0) rfl
        have c1 := VRow.cell HB2.out.r0 (k := 1) rfl
        by_cases hlt2 : x ≤ q
        · skip
          have HA := Lib.hid (HT1.out x hx1 (by omega))
          have HC := Lib.hid (HT1.out (W - x) (by omega) (by omega))
          have bA := bestV_small HOK.out (show x ≤ 100 by omega) (show H ≤ 100 by omega)
          have bB := bestV_small HOK.out (show (W - x) ≤ 100 by omega) (show H ≤ 100 by omega)
          have HVA := Lib.hid (show bestV ts x H = (bestC ts x H).1 from rfl)
          have HVB := Lib.hid (show bestV ts (W - x) H = (bestC ts (W - x) H).1 from rfl)
          have HAT := Lib.hid (widesK_at (V := bestV ts) (w := W) (h := H) (b := b0) hx1)
          rw [HVA.out] at bA
          rw [HVB.out] at bB
          rw [HVA.out, HVB.out] at HAT
          generalize bestC ts x H = cA at *
          generalize bestC ts (W - x) H = cB at *
          generalize hcur : widesK (bestV ts) W H b0 (x - 1) = cur at *
          have Hcur := Lib.hid hcur
          clear hcur HVA HVB
          have HSW := Lib.hid (show IntKind.i64.wrap ((W : Int) - (x : Int)) = ((W - x : Nat) : Int) by rw [show ((W - x : Nat) : Int) = (W : Int) - (x : Int) by omega]; exact IntWalk.i64_in _ (by omega))
          have HAD := Lib.hid (show IntKind.i64.wrap (cA.1 + cB.1) = cA.1 + cB.1 from IntWalk.i64_in _ (by omega))
          go_wp2_with fail
          clear c0 c1
          have HRW := Lib.hid HB2.out.r0
          refine wp_region_stable_last [⟨[], none⟩, ⟨[], none⟩, ⟨[], none⟩, ⟨[], none⟩, ⟨[(3, 42)], none⟩, ⟨[(2, 41), (4, 43)], none⟩, ⟨[(1, 40), (5, 44)], none⟩, ⟨[(6, 45)], none⟩, ⟨[], none⟩, ⟨[], none⟩, ⟨[(9, 48)], none⟩, ⟨[], none⟩, ⟨[(10, 49), (11, 50)], none⟩, ⟨[], none⟩, ⟨[(13, 52)], none⟩, ⟨[(12, 51), (14, 53)], none⟩, ⟨[(8, 47), (15, 54)], none⟩, ⟨[(16, 55)], none⟩, ⟨[(7, 46), (17, 56)], none⟩, ⟨[], none⟩] (fun x y => Below x.heap.size x y) (MPat [MP.eq (.func (.func 122) #[] #[.pointer (some ⟨w.heap.size + 2, 0, none⟩)]), MP.eq (.slice (some ⟨T0, oT, none⟩) nT cT), MP.eq (.int .i64 (x : Int)), MP.eq (.pointer (some ⟨w.heap.size, 1, none⟩)), MP.eq (.int .i64 (H : Int)), MP.eq (rectV ((x : Nat) : Int) ((H : Nat) : Int)), MP.eq (tripV cA), MP.eq (.int .i64 cA.1), MP.eq (.slice (some ⟨T0, oT, none⟩) nT cT), MP.eq (.pointer (some ⟨w.heap.size, 0, none⟩)), MP.eq (.int .i64 (W : Int)), MP.eq (.int .i64 (x : Int)), MP.eq (.int .i64 ((W - x : Nat) : Int)), MP.eq (.pointer (some ⟨w.heap.size, 1, none⟩)), MP.eq (.int .i64 (H : Int)), MP.eq (rectV (((W - x) : Nat) : Int) ((H : Nat) : Int)), MP.eq (tripV cB), MP.eq (.int .i64 cB.1), MP.eq (.int .i64 (cA.1 + cB.1)), MP.eq (.int .i64 (x : Int))]) rfl (by kernel_rfl) (fun _ _ _ h k => Ext.trans h k) (fun _ => Below.refl _ _) (fun x => (Below.refl x.heap.size x).drew) (MPat.mono _) (by kernel_rfl) (by kernel_rfl) (by kernel_rfl) ?obs ?rest
          case obs =>
            refine ⟨?_, ?_, ?_, ?_, ?_, ?_, ?_, ?_, ?_, ?_, ?_, ?_, ?_, ?_, ?_, ?_, ?_, ?_, ?_, ?_, trivial⟩
            · intro ev W5 hf _ _ hst hd
              have e8 : ev (.tmp 8) = .func (.func 122) #[] #[.pointer (some ⟨w.heap.size + 2, 0, none⟩)] := hf 8 (by kernel_rfl)
              refine st_value (v := .func (.func 122) #[] #[.pointer (some ⟨w.heap.size + 2, 0, none⟩)]) ?_ (Below.refl _ _) ?_
              · simp [execOp, go_sem, e8]
              · exact rfl
            · intro ev W5 hf _ _ hst hd
              have e0 : ev (.tmp 0) = .slice (some ⟨T0, oT, none⟩) nT cT := hf 0 (by kernel_rfl)
              refine st_value (v := .slice (some ⟨T0, oT, none⟩) nT cT) ?_ (Below.refl _ _) ?_
              · simp [execOp, go_sem, e0]
              · exact rfl
            · intro ev W5 hf _ _ hst hd
              have e11 : ev (.tmp 11) = .int .i64 (x : Int) := hf 11 (by kernel_rfl)
              refine st_value (v := .int .i64 (x : Int)) ?_ (Below.refl _ _) ?_
              · simp [execOp, go_sem, e11]
              · exact rfl
            · intro ev W5 hf _ _ hst hd
              have e4 : ev (.tmp 4) = .pointer (some ⟨w.heap.size, 0, none⟩) := hf 4 (by kernel_rfl)
              refine st_value (v := .pointer (some ⟨w.heap.size, 1, none⟩)) ?_ (Below.refl _ _) ?_
              · simp [execOp, go_sem, e4]
              · exact rfl
            · intro ev W5 hf _ _ hst hd
              obtain ⟨d42, _⟩ := hd
              have e42 : ev (.tmp 42) = .pointer (some ⟨w.heap.size, 1, none⟩) := d42
              have kk := VRow.ext HRW.out hst
              have k1 := VRow.cell kk (k := 1) rfl
              refine st_value (v := .int .i64 (H : Int)) ?_ (Below.refl _ _) ?_
              · simp [execOp, go_sem, e42, k1]
              · exact rfl
            · intro ev W5 hf _ _ hst hd
              obtain ⟨d41, d43, _⟩ := hd
              have e41 : ev (.tmp 41) = .int .i64 (x : Int) := d41
              have e43 : ev (.tmp 43) = .int .i64 (H : Int) := d43
              refine st_value (v := rectV ((x : Nat) : Int) ((H : Nat) : Int)) ?_ (Below.refl _ _) ?_
              · simp [execOp, go_sem, e41, e43, rectV]
              · exact rfl
            · intro ev W5 hf _ hfn hst hd
              obtain ⟨d40, d44, _⟩ := hd
              have e40 : ev (.tmp 40) = .slice (some ⟨T0, oT, none⟩) nT cT := d40
              have e44 : ev (.tmp 44) = rectV ((x : Nat) : Int) ((H : Nat) : Int) := d44
              refine st_call (f := 66) (args := #[.slice (some ⟨T0, oT, none⟩) nT cT, rectV ((x : Nat) : Int) ((H : Nat) : Int)]) (by simp [execOp, go_sem, hfn, e40, e44]) (of_c _ x H cA W5 (HA.out.ext (Ext.trans HE2.out hst))) (fun _ _ => rfl)
            · intro ev W5 hf _ _ hst hd
              obtain ⟨d45, _⟩ := hd
              have e45 : ev (.tmp 45) = tripV cA := d45
              refine st_value (v := .int .i64 cA.1) ?_ (Below.refl _ _) ?_
              · simp [execOp, go_sem, e45, tripV, field_val]
              · exact rfl
            · intro ev W5 hf _ _ hst hd
              have e0 : ev (.tmp 0) = .slice (some ⟨T0, oT, none⟩) nT cT := hf 0 (by kernel_rfl)
              refine st_value (v := .slice (some ⟨T0, oT, none⟩) nT cT) ?_ (Below.refl _ _) ?_
              · simp [execOp, go_sem, e0]
              · exact rfl
            · intro ev W5 hf _ _ hst hd
              have e4 : ev (.tmp 4) = .pointer (some ⟨w.heap.size, 0, none⟩) := hf 4 (by kernel_rfl)
              refine st_value (v := .pointer (some ⟨w.heap.size, 0, none⟩)) ?_ (Below.refl _ _) ?_
              · simp [execOp, go_sem, e4]
              · exact rfl
            · intro ev W5 hf _ _ hst hd
              obtain ⟨d48, _⟩ := hd
              have e48 : ev (.tmp 48) = .pointer (some ⟨w.heap.size, 0, none⟩) := d48
              have kk := VRow.ext HRW.out hst
              have k0 := VRow.cell kk (k := 0) rfl
              refine st_value (v := .int .i64 (W : Int)) ?_ (Below.refl _ _) ?_
              · simp [execOp, go_sem, e48, k0]
              · exact rfl
            · intro ev W5 hf _ _ hst hd
              have e11 : ev (.tmp 11) = .int .i64 (x : Int) := hf 11 (by kernel_rfl)
              refine st_value (v := .int .i64 (x : Int)) ?_ (Below.refl _ _) ?_
              · simp [execOp, go_sem, e11]
              · exact rfl
            · intro ev W5 hf _ _ hst hd
              obtain ⟨d49, d50, _⟩ := hd
              have e49 : ev (.tmp 49) = .int .i64 (W : Int) := d49
              have e50 : ev (.tmp 50) = .int .i64 (x : Int) := d50
              refine st_value (v := .int .i64 ((W - x : Nat) : Int)) ?_ (Below.refl _ _) ?_
              · simp [execOp, go_sem, e49, e50, HSW.out]
              · exact rfl
            · intro ev W5 hf _ _ hst hd
              have e4 : ev (.tmp 4) = .pointer (some ⟨w.heap.size, 0, none⟩) := hf 4 (by kernel_rfl)
              refine st_value (v := .pointer (some ⟨w.heap.size, 1, none⟩)) ?_ (Below.refl _ _) ?_
              · simp [execOp, go_sem, e4]
              · exact rfl
            · intro ev W5 hf _ _ hst hd
              obtain ⟨d52, _⟩ := hd
              have e52 : ev (.tmp 52) = .pointer (some ⟨w.heap.size, 1, none⟩) := d52
              have kk := VRow.ext HRW.out hst
              have k1 := VRow.cell kk (k := 1) rfl
              refine st_value (v := .int .i64 (H : Int)) ?_ (Below.refl _ _) ?_
              · simp [execOp, go_sem, e52, k1]
              · exact rfl
            · intro ev W5 hf _ _ hst hd
              obtain ⟨d51, d53, _⟩ := hd
              have e51 : ev (.tmp 51) = .int .i64 ((W - x : Nat) : Int) := d51
              have e53 : ev (.tmp 53) = .int .i64 (H : Int) := d53
              refine st_value (v := rectV (((W - x) : Nat) : Int) ((H : Nat) : Int)) ?_ (Below.refl _ _) ?_
              · simp [execOp, go_sem, e51, e53, rectV]
              · exact rfl
            · intro ev W5 hf _ hfn hst hd
              obtain ⟨d47, d54, _⟩ := hd
              have e47 : ev (.tmp 47) = .slice (some ⟨T0, oT, none⟩) nT cT := d47
              have e54 : ev (.tmp 54) = rectV (((W - x) : Nat) : Int) ((H : Nat) : Int) := d54
              refine st_call (f := 66) (args := #[.slice (some ⟨T0, oT, none⟩) nT cT, rectV (((W - x) : Nat) : Int) ((H : Nat) : Int)]) (by simp [execOp, go_sem, hfn, e47, e54]) (of_c _ (W - x) H cB W5 (HC.out.ext (Ext.trans HE2.out hst))) (fun _ _ => rfl)
            · intro ev W5 hf _ _ hst hd
              obtain ⟨d55, _⟩ := hd
              have e55 : ev (.tmp 55) = tripV cB := d55
              refine st_value (v := .int .i64 cB.1) ?_ (Below.refl _ _) ?_
              · simp [execOp, go_sem, e55, tripV, field_val]
              · exact rfl
            · intro ev W5 hf _ _ hst hd
              obtain ⟨d46, d56, _⟩ := hd
              have e46 : ev (.tmp 46) = .int .i64 cA.1 := d46
              have e56 : ev (.tmp 56) = .int .i64 cB.1 := d56
              refine st_value (v := .int .i64 (cA.1 + cB.1)) ?_ (Below.refl _ _) ?_
              · simp [execOp, go_sem, e46, e56, HAD.out]
              · exact rfl
            · intro ev W5 hf _ _ hst hd
              have e11 : ev (.tmp 11) = .int .i64 (x : Int) := hf 11 (by kernel_rfl)
              refine st_value (v := .int .i64 (x : Int)) ?_ (Below.refl _ _) ?_
              · simp [execOp, go_sem, e11]
              · exact rfl
          case rest =>
            intro vs w3 hl hst hg
            have hx0 : ∀ u, vs[0]? = some u → u = .func (.func 122) #[] #[.pointer (some ⟨w.heap.size + 2, 0, none⟩)] := fun u hu => hg 0 u hu
            have hx1 : ∀ u, vs[1]? = some u → u = .slice (some ⟨T0, oT, none⟩) nT cT := fun u hu => hg 1 u hu
            have hx2 : ∀ u, vs[2]? = some u → u = .int .i64 (x : Int) := fun u hu => hg 2 u hu
            have hx3 : ∀ u, vs[3]? = some u → u = .pointer (some ⟨w.heap.size, 1, none⟩) := fun u hu => hg 3 u hu
            have hx4 : ∀ u, vs[4]? = some u → u = .int .i64 (H : Int) := fun u hu => hg 4 u hu
            have hx5 : ∀ u, vs[5]? = some u → u = rectV ((x : Nat) : Int) ((H : Nat) : Int) := fun u hu => hg 5 u hu
            have hx6 : ∀ u, vs[6]? = some u → u = tripV cA := fun u hu => hg 6 u hu
            have hx7 : ∀ u, vs[7]? = some u → u = .int .i64 cA.1 := fun u hu => hg 7 u hu
            have hx8 : ∀ u, vs[8]? = some u → u = .slice (some ⟨T0, oT, none⟩) nT cT := fun u hu => hg 8 u hu
            have hx9 : ∀ u, vs[9]? = some u → u = .pointer (some ⟨w.heap.size, 0, none⟩) := fun u hu => hg 9 u hu
            have hx10 : ∀ u, vs[10]? = some u → u = .int .i64 (W : Int) := fun u hu => hg 10 u hu
            have hx11 : ∀ u, vs[11]? = some u → u = .int .i64 (x : Int) := fun u hu => hg 11 u hu
            have hx12 : ∀ u, vs[12]? = some u → u = .int .i64 ((W - x : Nat) : Int) := fun u hu => hg 12 u hu
            have hx13 : ∀ u, vs[13]? = some u → u = .pointer (some ⟨w.heap.size, 1, none⟩) := fun u hu => hg 13 u hu
            have hx14 : ∀ u, vs[14]? = some u → u = .int .i64 (H : Int) := fun u hu => hg 14 u hu
            have hx15 : ∀ u, vs[15]? = some u → u = rectV (((W - x) : Nat) : Int) ((H : Nat) : Int) := fun u hu => hg 15 u hu
            have hx16 : ∀ u, vs[16]? = some u → u = tripV cB := fun u hu => hg 16 u hu
            have hx17 : ∀ u, vs[17]? = some u → u = .int .i64 cB.1 := fun u hu => hg 17 u hu
            have hx18 : ∀ u, vs[18]? = some u → u = .int .i64 (cA.1 + cB.1) := fun u hu => hg 18 u hu
            have hx19 : ∀ u, vs[19]? = some u → u = .int .i64 (x : Int) := fun u hu => hg 19 u hu
            have HE3' := Lib.hid hst
            clear hg hst
            obtain ⟨x0, vs0, rfl, hl0⟩ := len_succ hl
            obtain ⟨x1, vs1, rfl, hl1⟩ := len_succ hl0
            obtain ⟨x2, vs2, rfl, hl2⟩ := len_succ hl1
            obtain ⟨x3, vs3, rfl, hl3⟩ := len_succ hl2
            obtain ⟨x4, vs4, rfl, hl4⟩ := len_succ hl3
            obtain ⟨x5, vs5, rfl, hl5⟩ := len_succ hl4
            obtain ⟨x6, vs6, rfl, hl6⟩ := len_succ hl5
            obtain ⟨x7, vs7, rfl, hl7⟩ := len_succ hl6
            obtain ⟨x8, vs8, rfl, hl8⟩ := len_succ hl7
            obtain ⟨x9, vs9, rfl, hl9⟩ := len_succ hl8
            obtain ⟨x10, vs10, rfl, hl10⟩ := len_succ hl9
            obtain ⟨x11, vs11, rfl, hl11⟩ := len_succ hl10
            obtain ⟨x12, vs12, rfl, hl12⟩ := len_succ hl11
            obtain ⟨x13, vs13, rfl, hl13⟩ := len_succ hl12
            obtain ⟨x14, vs14, rfl, hl14⟩ := len_succ hl13
            obtain ⟨x15, vs15, rfl, hl15⟩ := len_succ hl14
            obtain ⟨x16, vs16, rfl, hl16⟩ := len_succ hl15
            obtain ⟨x17, vs17, rfl, hl17⟩ := len_succ hl16
            obtain ⟨x18, vs18, rfl, hl18⟩ := len_succ hl17
            obtain ⟨x19, vs19, rfl, hl19⟩ := len_succ hl18
            have hnil : vs19 = [] := List.length_eq_zero_iff.1 hl19
            subst hnil
            obtain rfl : x0 = .func (.func 122) #[] #[.pointer (some ⟨w.heap.size + 2, 0, none⟩)] := hx0 _ rfl
            obtain rfl : x1 = .slice (some ⟨T0, oT, none⟩) nT cT := hx1 _ rfl
            obtain rfl : x2 = .int .i64 (x : Int) := hx2 _ rfl
            obtain rfl : x3 = .pointer (some ⟨w.heap.size, 1, none⟩) := hx3 _ rfl
            obtain rfl : x4 = .int .i64 (H : Int) := hx4 _ rfl
            obtain rfl : x5 = rectV ((x : Nat) : Int) ((H : Nat) : Int) := hx5 _ rfl
            obtain rfl : x6 = tripV cA := hx6 _ rfl
            obtain rfl : x7 = .int .i64 cA.1 := hx7 _ rfl
            obtain rfl : x8 = .slice (some ⟨T0, oT, none⟩) nT cT := hx8 _ rfl
            obtain rfl : x9 = .pointer (some ⟨w.heap.size, 0, none⟩) := hx9 _ rfl
            obtain rfl : x10 = .int .i64 (W : Int) := hx10 _ rfl
            obtain rfl : x11 = .int .i64 (x : Int) := hx11 _ rfl
            obtain rfl : x12 = .int .i64 ((W - x : Nat) : Int) := hx12 _ rfl
            obtain rfl : x13 = .pointer (some ⟨w.heap.size, 1, none⟩) := hx13 _ rfl
            obtain rfl : x14 = .int .i64 (H : Int) := hx14 _ rfl
            obtain rfl : x15 = rectV (((W - x) : Nat) : Int) ((H : Nat) : Int) := hx15 _ rfl
            obtain rfl : x16 = tripV cB := hx16 _ rfl
            obtain rfl : x17 = .int .i64 cB.1 := hx17 _ rfl
            obtain rfl : x18 = .int .i64 (cA.1 + cB.1) := hx18 _ rfl
            obtain rfl : x19 = .int .i64 (x : Int) := hx19 _ rfl
            clear hx0 hx1 hx2 hx3 hx4 hx5 hx6 hx7 hx8 hx9 hx10 hx11 hx12 hx13 hx14 hx15 hx16 hx17 hx18 hx19
            simp only [putAll, Act.put, List.dropLast, List.setIfInBounds_toArray, List.set_cons_zero, List.set_cons_succ]
            have HB5 := Lib.hid (HB2.out.ext HE3'.out)
            have HE5 := Lib.hid (Ext.trans HE2.out HE3'.out)
            go_wp2_with fail
            refine (show Calls Try.prog 122 #[.int .i64 (cA.1 + cB.1), .int .i64 2, .int .i64 (x : Int), .pointer (some ⟨w.heap.size + 2, 0, none⟩)] w3 _ from offer_c (w.heap.size + 2) cur (cA.1 + cB.1, 2, (x : Int)) w3 HB5.out.r2).mono ?_
            rintro e w4 ⟨⟨u, rfl⟩, hr4, hg4⟩
            have HB6 := Lib.hid (HB5.out.put hr4 hg4)
            have HE6 := Lib.hid (below_grown HE5.out hg4 HE5.out.size (by omega))
            clear hr4 hg4
            go_wp2_with fail
            refine ⟨⟨x + 1, by simp, by omega, by omega, ?_, HE6.out⟩, by simp [intOf]; omega⟩
            rw [show x + 1 - 1 = x by omega, HAT.out]
            exact HB6.out
        · go_wp2_with fail
          clear c0 c1 hqz
          replace HB2 := Lib.hid (show BestW w.heap.size wr W H (widesK (bestV ts) W H b0 q) by have h := HB2.out; rw [show x - 1 = q by omega] at h; exact h)
          clear hx1 hx2
          rw [← HQ.out] at HCF
          generalize widesK (bestV ts) W H b0 q = b1 at *
          obtain ⟨q2, hq2⟩ : ∃ q2 : Nat, q2 = H / 2 := ⟨_, rfl⟩
          have hqz : (H : Int) / 2 = (q2 : Int) := by omega
          have hqH : 2 * q2 ≤ H := by omega
          have HQ2 := Lib.hid hq2
          clear hq2
          go_loopw [12] (fun i wr => ∃ y : Nat, i = .int .i64 y ∧ 1 ≤ y ∧ y ≤ q2 + 1 ∧ BestW w.heap.size wr W H (highsK (bestV ts) W H b1 (y - 1)) ∧ Ext w wr) (fun i _ => q2 + 1 - (intOf i).toNat)
          case atStart => exact ⟨1, rfl, by omega, by omega, HB2.out, HE2.out⟩
          case round =>
            obtain ⟨y, rfl, hx1, hx2, hB, hE⟩ := hrel
            have HB3 := Lib.hid hB
            have HE3 := Lib.hid hE
            clear hB hE HB2 HE2
            have c0 := VRow.cell HB3.out.r0 (k := 0) rfl
            have c1 := VRow.cell HB3.out.r0 (k := 1) rfl
            by_cases hlt3 : y ≤ q2
            · skip
              have HA := Lib.hid (HT2.out y hx1 (by omega))
              have HC := Lib.hid (HT2.out (H - y) (by omega) (by omega))
              have bA := bestV_small HOK.out (show W ≤ 100 by omega) (show y ≤ 100 by omega)
              have bB := bestV_small HOK.out (show W ≤ 100 by omega) (show (H - y) ≤ 100 by omega)
              have HVA := Lib.hid (show bestV ts W y = (bestC ts W y).1 from rfl)
              have HVB := Lib.hid (show bestV ts W (H - y) = (bestC ts W (H - y)).1 from rfl)
              have HAT := Lib.hid (highsK_at (V := bestV ts) (w := W) (h := H) (b := b1) hx1)
              rw [HVA.out] at bA
              rw [HVB.out] at bB
              rw [HVA.out, HVB.out] at HAT
              generalize bestC ts W y = cA at *
              generalize bestC ts W (H - y) = cB at *
              generalize hcur : highsK (bestV ts) W H b1 (y - 1) = cur at *
              have Hcur := Lib.hid hcur
              clear hcur HVA HVB
              have HSW := Lib.hid (show IntKind.i64.wrap ((H : Int) - (y : Int)) = ((H - y : Nat) : Int) by rw [show ((H - y : Nat) : Int) = (H : Int) - (y : Int) by omega]; exact IntWalk.i64_in _ (by omega))
              have HAD := Lib.hid (show IntKind.i64.wrap (cA.1 + cB.1) = cA.1 + cB.1 from IntWalk.i64_in _ (by omega))
              go_wp2_with fail
              clear c0 c1
              have HRW := Lib.hid HB3.out.r0
              refine wp_region_stable_last [⟨[], none⟩, ⟨[], none⟩, ⟨[], none⟩, ⟨[(2, 69)], none⟩, ⟨[], none⟩, ⟨[(3, 70), (4, 71)], none⟩, ⟨[(1, 68), (5, 72)], none⟩, ⟨[(6, 73)], none⟩, ⟨[], none⟩, ⟨[], none⟩, ⟨[(9, 76)], none⟩, ⟨[], none⟩, ⟨[(11, 78)], none⟩, ⟨[], none⟩, ⟨[(12, 79), (13, 80)], none⟩, ⟨[(10, 77), (14, 81)], none⟩, ⟨[(8, 75), (15, 82)], none⟩, ⟨[(16, 83)], none⟩, ⟨[(7, 74), (17, 84)], none⟩, ⟨[], none⟩] (fun x y => Below x.heap.size x y) (MPat [MP.eq (.func (.func 122) #[] #[.pointer (some ⟨w.heap.size + 2, 0, none⟩)]), MP.eq (.slice (some ⟨T0, oT, none⟩) nT cT), MP.eq (.pointer (some ⟨w.heap.size, 0, none⟩)), MP.eq (.int .i64 (W : Int)), MP.eq (.int .i64 (y : Int)), MP.eq (rectV ((W : Nat) : Int) ((y : Nat) : Int)), MP.eq (tripV cA), MP.eq (.int .i64 cA.1), MP.eq (.slice (some ⟨T0, oT, none⟩) nT cT), MP.eq (.pointer (some ⟨w.heap.size, 0, none⟩)), MP.eq (.int .i64 (W : Int)), MP.eq (.pointer (some ⟨w.heap.size, 1, none⟩)), MP.eq (.int .i64 (H : Int)), MP.eq (.int .i64 (y : Int)), MP.eq (.int .i64 ((H - y : Nat) : Int)), MP.eq (rectV ((W : Nat) : Int) (((H - y) : Nat) : Int)), MP.eq (tripV cB), MP.eq (.int .i64 cB.1), MP.eq (.int .i64 (cA.1 + cB.1)), MP.eq (.int .i64 (y : Int))]) rfl (by kernel_rfl) (fun _ _ _ h k => Ext.trans h k) (fun _ => Below.refl _ _) (fun x => (Below.refl x.heap.size x).drew) (MPat.mono _) (by kernel_rfl) (by kernel_rfl) (by kernel_rfl) ?obs ?rest
              case obs =>
                refine ⟨?_, ?_, ?_, ?_, ?_, ?_, ?_, ?_, ?_, ?_, ?_, ?_, ?_, ?_, ?_, ?_, ?_, ?_, ?_, ?_, trivial⟩
                · intro ev W5 hf _ _ hst hd
                  have e8 : ev (.tmp 8) = .func (.func 122) #[] #[.pointer (some ⟨w.heap.size + 2, 0, none⟩)] := hf 8 (by kernel_rfl)
                  refine st_value (v := .func (.func 122) #[] #[.pointer (some ⟨w.heap.size + 2, 0, none⟩)]) ?_ (Below.refl _ _) ?_
                  · simp [execOp, go_sem, e8]
                  · exact rfl
                · intro ev W5 hf _ _ hst hd
                  have e0 : ev (.tmp 0) = .slice (some ⟨T0, oT, none⟩) nT cT := hf 0 (by kernel_rfl)
                  refine st_value (v := .slice (some ⟨T0, oT, none⟩) nT cT) ?_ (Below.refl _ _) ?_
                  · simp [execOp, go_sem, e0]
                  · exact rfl
                · intro ev W5 hf _ _ hst hd
                  have e4 : ev (.tmp 4) = .pointer (some ⟨w.heap.size, 0, none⟩) := hf 4 (by kernel_rfl)
                  refine st_value (v := .pointer (some ⟨w.heap.size, 0, none⟩)) ?_ (Below.refl _ _) ?_
                  · simp [execOp, go_sem, e4]
                  · exact rfl
                · intro ev W5 hf _ _ hst hd
                  obtain ⟨d69, _⟩ := hd
                  have e69 : ev (.tmp 69) = .pointer (some ⟨w.heap.size, 0, none⟩) := d69
                  have kk := VRow.ext HRW.out hst
                  have k0 := VRow.cell kk (k := 0) rfl
                  refine st_value (v := .int .i64 (W : Int)) ?_ (Below.refl _ _) ?_
                  · simp [execOp, go_sem, e69, k0]
                  · exact rfl
                · intro ev W5 hf _ _ hst hd
                  have e12 : ev (.tmp 12) = .int .i64 (y : Int) := hf 12 (by kernel_rfl)
                  refine st_value (v := .int .i64 (y : Int)) ?_ (Below.refl _ _) ?_
                  · simp [execOp, go_sem, e12]
                  · exact rfl
                · intro ev W5 hf _ _ hst hd
                  obtain ⟨d70, d71, _⟩ := hd
                  have e70 : ev (.tmp 70) = .int .i64 (W : Int) := d70
                  have e71 : ev (.tmp 71) = .int .i64 (y : Int) := d71
                  refine st_value (v := rectV ((W : Nat) : Int) ((y : Nat) : Int)) ?_ (Below.refl _ _) ?_
                  · simp [execOp, go_sem, e70, e71, rectV]
                  · exact rfl
                · intro ev W5 hf _ hfn hst hd
                  obtain ⟨d68, d72, _⟩ := hd
                  have e68 : ev (.tmp 68) = .slice (some ⟨T0, oT, none⟩) nT cT := d68
                  have e72 : ev (.tmp 72) = rectV ((W : Nat) : Int) ((y : Nat) : Int) := d72
                  refine st_call (f := 66) (args := #[.slice (some ⟨T0, oT, none⟩) nT cT, rectV ((W : Nat) : Int) ((y : Nat) : Int)]) (by simp [execOp, go_sem, hfn, e68, e72]) (of_c _ W y cA W5 (HA.out.ext (Ext.trans HE3.out hst))) (fun _ _ => rfl)
                · intro ev W5 hf _ _ hst hd
                  obtain ⟨d73, _⟩ := hd
                  have e73 : ev (.tmp 73) = tripV cA := d73
                  refine st_value (v := .int .i64 cA.1) ?_ (Below.refl _ _) ?_
                  · simp [execOp, go_sem, e73, tripV, field_val]
                  · exact rfl
                · intro ev W5 hf _ _ hst hd
                  have e0 : ev (.tmp 0) = .slice (some ⟨T0, oT, none⟩) nT cT := hf 0 (by kernel_rfl)
                  refine st_value (v := .slice (some ⟨T0, oT, none⟩) nT cT) ?_ (Below.refl _ _) ?_
                  · simp [execOp, go_sem, e0]
                  · exact rfl
                · intro ev W5 hf _ _ hst hd
                  have e4 : ev (.tmp 4) = .pointer (some ⟨w.heap.size, 0, none⟩) := hf 4 (by kernel_rfl)
                  refine st_value (v := .pointer (some ⟨w.heap.size, 0, none⟩)) ?_ (Below.refl _ _) ?_
                  · simp [execOp, go_sem, e4]
                  · exact rfl
                · intro ev W5 hf _ _ hst hd
                  obtain ⟨d76, _⟩ := hd
                  have e76 : ev (.tmp 76) = .pointer (some ⟨w.heap.size, 0, none⟩) := d76
                  have kk := VRow.ext HRW.out hst
                  have k0 := VRow.cell kk (k := 0) rfl
                  refine st_value (v := .int .i64 (W : Int)) ?_ (Below.refl _ _) ?_
                  · simp [execOp, go_sem, e76, k0]
                  · exact rfl
                · intro ev W5 hf _ _ hst hd
                  have e4 : ev (.tmp 4) = .pointer (some ⟨w.heap.size, 0, none⟩) := hf 4 (by kernel_rfl)
                  refine st_value (v := .pointer (some ⟨w.heap.size, 1, none⟩)) ?_ (Below.refl _ _) ?_
                  · simp [execOp, go_sem, e4]
                  · exact rfl
                · intro ev W5 hf _ _ hst hd
                  obtain ⟨d78, _⟩ := hd
                  have e78 : ev (.tmp 78) = .pointer (some ⟨w.heap.size, 1, none⟩) := d78
                  have kk := VRow.ext HRW.out hst
                  have k1 := VRow.cell kk (k := 1) rfl
                  refine st_value (v := .int .i64 (H : Int)) ?_ (Below.refl _ _) ?_
                  · simp [execOp, go_sem, e78, k1]
                  · exact rfl
                · intro ev W5 hf _ _ hst hd
                  have e12 : ev (.tmp 12) = .int .i64 (y : Int) := hf 12 (by kernel_rfl)
                  refine st_value (v := .int .i64 (y : Int)) ?_ (Below.refl _ _) ?_
                  · simp [execOp, go_sem, e12]
                  · exact rfl
                · intro ev W5 hf _ _ hst hd
                  obtain ⟨d79, d80, _⟩ := hd
                  have e79 : ev (.tmp 79) = .int .i64 (H : Int) := d79
                  have e80 : ev (.tmp 80) = .int .i64 (y : Int) := d80
                  refine st_value (v := .int .i64 ((H - y : Nat) : Int)) ?_ (Below.refl _ _) ?_
                  · simp [execOp, go_sem, e79, e80, HSW.out]
                  · exact rfl
                · intro ev W5 hf _ _ hst hd
                  obtain ⟨d77, d81, _⟩ := hd
                  have e77 : ev (.tmp 77) = .int .i64 (W : Int) := d77
                  have e81 : ev (.tmp 81) = .int .i64 ((H - y : Nat) : Int) := d81
                  refine st_value (v := rectV ((W : Nat) : Int) (((H - y) : Nat) : Int)) ?_ (Below.refl _ _) ?_
                  · simp [execOp, go_sem, e77, e81, rectV]
                  · exact rfl
                · intro ev W5 hf _ hfn hst hd
                  obtain ⟨d75, d82, _⟩ := hd
                  have e75 : ev (.tmp 75) = .slice (some ⟨T0, oT, none⟩) nT cT := d75
                  have e82 : ev (.tmp 82) = rectV ((W : Nat) : Int) (((H - y) : Nat) : Int) := d82
                  refine st_call (f := 66) (args := #[.slice (some ⟨T0, oT, none⟩) nT cT, rectV ((W : Nat) : Int) (((H - y) : Nat) : Int)]) (by simp [execOp, go_sem, hfn, e75, e82]) (of_c _ W (H - y) cB W5 (HC.out.ext (Ext.trans HE3.out hst))) (fun _ _ => rfl)
                · intro ev W5 hf _ _ hst hd
                  obtain ⟨d83, _⟩ := hd
                  have e83 : ev (.tmp 83) = tripV cB := d83
                  refine st_value (v := .int .i64 cB.1) ?_ (Below.refl _ _) ?_
                  · simp [execOp, go_sem, e83, tripV, field_val]
                  · exact rfl
                · intro ev W5 hf _ _ hst hd
                  obtain ⟨d74, d84, _⟩ := hd
                  have e74 : ev (.tmp 74) = .int .i64 cA.1 := d74
                  have e84 : ev (.tmp 84) = .int .i64 cB.1 := d84
                  refine st_value (v := .int .i64 (cA.1 + cB.1)) ?_ (Below.refl _ _) ?_
                  · simp [execOp, go_sem, e74, e84, HAD.out]
                  · exact rfl
                · intro ev W5 hf _ _ hst hd
                  have e12 : ev (.tmp 12) = .int .i64 (y : Int) := hf 12 (by kernel_rfl)
                  refine st_value (v := .int .i64 (y : Int)) ?_ (Below.refl _ _) ?_
                  · simp [execOp, go_sem, e12]
                  · exact rfl
              case rest =>
                intro vs w3 hl hst hg
                have hx0 : ∀ u, vs[0]? = some u → u = .func (.func 122) #[] #[.pointer (some ⟨w.heap.size + 2, 0, none⟩)] := fun u hu => hg 0 u hu
                have hx1 : ∀ u, vs[1]? = some u → u = .slice (some ⟨T0, oT, none⟩) nT cT := fun u hu => hg 1 u hu
                have hx2 : ∀ u, vs[2]? = some u → u = .pointer (some ⟨w.heap.size, 0, none⟩) := fun u hu => hg 2 u hu
                have hx3 : ∀ u, vs[3]? = some u → u = .int .i64 (W : Int) := fun u hu => hg 3 u hu
                have hx4 : ∀ u, vs[4]? = some u → u = .int .i64 (y : Int) := fun u hu => hg 4 u hu
                have hx5 : ∀ u, vs[5]? = some u → u = rectV ((W : Nat) : Int) ((y : Nat) : Int) := fun u hu => hg 5 u hu
                have hx6 : ∀ u, vs[6]? = some u → u = tripV cA := fun u hu => hg 6 u hu
                have hx7 : ∀ u, vs[7]? = some u → u = .int .i64 cA.1 := fun u hu => hg 7 u hu
                have hx8 : ∀ u, vs[8]? = some u → u = .slice (some ⟨T0, oT, none⟩) nT cT := fun u hu => hg 8 u hu
                have hx9 : ∀ u, vs[9]? = some u → u = .pointer (some ⟨w.heap.size, 0, none⟩) := fun u hu => hg 9 u hu
                have hx10 : ∀ u, vs[10]? = some u → u = .int .i64 (W : Int) := fun u hu => hg 10 u hu
                have hx11 : ∀ u, vs[11]? = some u → u = .pointer (some ⟨w.heap.size, 1, none⟩) := fun u hu => hg 11 u hu
                have hx12 : ∀ u, vs[12]? = some u → u = .int .i64 (H : Int) := fun u hu => hg 12 u hu
                have hx13 : ∀ u, vs[13]? = some u → u = .int .i64 (y : Int) := fun u hu => hg 13 u hu
                have hx14 : ∀ u, vs[14]? = some u → u = .int .i64 ((H - y : Nat) : Int) := fun u hu => hg 14 u hu
                have hx15 : ∀ u, vs[15]? = some u → u = rectV ((W : Nat) : Int) (((H - y) : Nat) : Int) := fun u hu => hg 15 u hu
                have hx16 : ∀ u, vs[16]? = some u → u = tripV cB := fun u hu => hg 16 u hu
                have hx17 : ∀ u, vs[17]? = some u → u = .int .i64 cB.1 := fun u hu => hg 17 u hu
                have hx18 : ∀ u, vs[18]? = some u → u = .int .i64 (cA.1 + cB.1) := fun u hu => hg 18 u hu
                have hx19 : ∀ u, vs[19]? = some u → u = .int .i64 (y : Int) := fun u hu => hg 19 u hu
                have HE3' := Lib.hid hst
                clear hg hst
                obtain ⟨x0, vs0, rfl, hl0⟩ := len_succ hl
                obtain ⟨x1, vs1, rfl, hl1⟩ := len_succ hl0
                obtain ⟨x2, vs2, rfl, hl2⟩ := len_succ hl1
                obtain ⟨x3, vs3, rfl, hl3⟩ := len_succ hl2
                obtain ⟨x4, vs4, rfl, hl4⟩ := len_succ hl3
                obtain ⟨x5, vs5, rfl, hl5⟩ := len_succ hl4
                obtain ⟨x6, vs6, rfl, hl6⟩ := len_succ hl5
                obtain ⟨x7, vs7, rfl, hl7⟩ := len_succ hl6
                obtain ⟨x8, vs8, rfl, hl8⟩ := len_succ hl7
                obtain ⟨x9, vs9, rfl, hl9⟩ := len_succ hl8
                obtain ⟨x10, vs10, rfl, hl10⟩ := len_succ hl9
                obtain ⟨x11, vs11, rfl, hl11⟩ := len_succ hl10
                obtain ⟨x12, vs12, rfl, hl12⟩ := len_succ hl11
                obtain ⟨x13, vs13, rfl, hl13⟩ := len_succ hl12
                obtain ⟨x14, vs14, rfl, hl14⟩ := len_succ hl13
                obtain ⟨x15, vs15, rfl, hl15⟩ := len_succ hl14
                obtain ⟨x16, vs16, rfl, hl16⟩ := len_succ hl15
                obtain ⟨x17, vs17, rfl, hl17⟩ := len_succ hl16
                obtain ⟨x18, vs18, rfl, hl18⟩ := len_succ hl17
                obtain ⟨x19, vs19, rfl, hl19⟩ := len_succ hl18
                have hnil : vs19 = [] := List.length_eq_zero_iff.1 hl19
                subst hnil
                obtain rfl : x0 = .func (.func 122) #[] #[.pointer (some ⟨w.heap.size + 2, 0, none⟩)] := hx0 _ rfl
                obtain rfl : x1 = .slice (some ⟨T0, oT, none⟩) nT cT := hx1 _ rfl
                obtain rfl : x2 = .pointer (some ⟨w.heap.size, 0, none⟩) := hx2 _ rfl
                obtain rfl : x3 = .int .i64 (W : Int) := hx3 _ rfl
                obtain rfl : x4 = .int .i64 (y : Int) := hx4 _ rfl
                obtain rfl : x5 = rectV ((W : Nat) : Int) ((y : Nat) : Int) := hx5 _ rfl
                obtain rfl : x6 = tripV cA := hx6 _ rfl
                obtain rfl : x7 = .int .i64 cA.1 := hx7 _ rfl
                obtain rfl : x8 = .slice (some ⟨T0, oT, none⟩) nT cT := hx8 _ rfl
                obtain rfl : x9 = .pointer (some ⟨w.heap.size, 0, none⟩) := hx9 _ rfl
                obtain rfl : x10 = .int .i64 (W : Int) := hx10 _ rfl
                obtain rfl : x11 = .pointer (some ⟨w.heap.size, 1, none⟩) := hx11 _ rfl
                obtain rfl : x12 = .int .i64 (H : Int) := hx12 _ rfl
                obtain rfl : x13 = .int .i64 (y : Int) := hx13 _ rfl
                obtain rfl : x14 = .int .i64 ((H - y : Nat) : Int) := hx14 _ rfl
                obtain rfl : x15 = rectV ((W : Nat) : Int) (((H - y) : Nat) : Int) := hx15 _ rfl
                obtain rfl : x16 = tripV cB := hx16 _ rfl
                obtain rfl : x17 = .int .i64 cB.1 := hx17 _ rfl
                obtain rfl : x18 = .int .i64 (cA.1 + cB.1) := hx18 _ rfl
                obtain rfl : x19 = .int .i64 (y : Int) := hx19 _ rfl
                clear hx0 hx1 hx2 hx3 hx4 hx5 hx6 hx7 hx8 hx9 hx10 hx11 hx12 hx13 hx14 hx15 hx16 hx17 hx18 hx19
                simp only [putAll, Act.put, List.dropLast, List.setIfInBounds_toArray, List.set_cons_zero, List.set_cons_succ]
                have HB5 := Lib.hid (HB3.out.ext HE3'.out)
                have HE5 := Lib.hid (Ext.trans HE3.out HE3'.out)
                go_wp2_with fail
                refine (show Calls Try.prog 122 #[.int .i64 (cA.1 + cB.1), .int .i64 3, .int .i64 (y : Int), .pointer (some ⟨w.heap.size + 2, 0, none⟩)] w3 _ from offer_c (w.heap.size + 2) cur (cA.1 + cB.1, 3, (y : Int)) w3 HB5.out.r2).mono ?_
                rintro e w4 ⟨⟨u, rfl⟩, hr4, hg4⟩
                have HB6 := Lib.hid (HB5.out.put hr4 hg4)
                have HE6 := Lib.hid (below_grown HE5.out hg4 HE5.out.size (by omega))
                clear hr4 hg4
                go_wp2_with fail
                refine ⟨⟨y + 1, by simp, by omega, by omega, ?_, HE6.out⟩, by simp [intOf]; omega⟩
                rw [show y + 1 - 1 = y by omega, HAT.out]
                exact HB6.out
            · skip
              replace HB3 := Lib.hid (show BestW w.heap.size wr W H (highsK (bestV ts) W H b1 q2) by have h := HB3.out; rw [show y - 1 = q2 by omega] at h; exact h)
              have HRES := Lib.hid (show RES = highsK (bestV ts) W H b1 q2 by rw [HEQ.out, HCF.out, HQ2.out])
              generalize highsK (bestV ts) W H b1 q2 = b2 at *
              have d0 := VRow.cell HB3.out.r2 (k := 0) rfl
              have d1 := VRow.cell HB3.out.r2 (k := 1) rfl
              have d2 := VRow.cell HB3.out.r2 (k := 2) rfl
              have e0 := VRow.cell HB3.out.r1 (k := 0) rfl
              have e1 := VRow.cell HB3.out.r1 (k := 1) rfl
              have e2 := VRow.cell HB3.out.r1 (k := 2) rfl
              have f0 := VRow.frozen HB3.out.r1 0 none
              have f1 := VRow.frozen HB3.out.r1 1 none
              have f2 := VRow.frozen HB3.out.r1 2 none
              go_wp2_with fail
              (try simp only [Exit.inBlock, Exit.then])
              have hF := vrow3_put HB3.out.r1 (.int .i64 b2.1) (.int .i64 b2.2.1) (.int .i64 b2.2.2)
              clear e0 e1 e2
              have n0 := VRow.cell hF (k := 0) rfl
              have n1 := VRow.cell hF (k := 1) rfl
              have n2' := VRow.cell hF (k := 2) rfl
              refine bodyPost_ret (v := .agg #[.int .i64 b2.1, .int .i64 b2.2.1, .int .i64 b2.2.2]) (by rw [results_cell1 rfl]; go_simp) rfl ?_
              exact ⟨by rw [HRES.out]; rfl, ext3_put HE3.out (by omega) _ _ _⟩
end Go.Proofs.Ytnpebfchojalcaa

