import Derived.Test.YtnpebfchojalcaaJ2
import Derived.Test.YtnpebfchojalcaaS5
import Derived.Test.YtnpebfchojalcaaC7
namespace Go.Proofs.Ytnpebfchojalcaa
set_option maxRecDepth 100000
open Go.RowKit Go.Shelf
theorem own_one (w : World) (x y : Value) : (w.alloc (.cells #[x, y] 69)).ownsRow w.heap.size 69 2 (.slice (some ⟨w.heap.size, 0, none⟩) 1 1) 1 [x, y] :=
  ⟨rfl, .inr ⟨w.heap.size, 1, #[x, y], rfl, Nat.le_refl _, heap_alloc_new w _, Nat.le_refl _, by decide, rfl, rfl⟩⟩
theorem own_cells {W : World} {base n : Nat} {v : Value} {P : List Ct} (h : W.ownsRow base 69 2 v n (cellsOf P)) (hn : n = P.length) (h0 : 0 < n) (hm : n ≤ 1000000) : ∃ (ad : Addr) (cap : Nat), v = .slice (some ad) n cap ∧ ∀ (j : Nat) (u : Value), (cellsOf P)[j]? = some u → W.cell? (ad.add j) = some u := by
  subst hn
  have hv := vecs_own2 h hm
  rcases h.2 with ⟨_, e⟩ | ⟨g, cap, cur, rfl, _⟩
  · omega
  · exact ⟨_, cap, rfl, (vecs_some hv).2⟩
theorem own_base {W : World} {b c n : Nat} {v : Value} {xs : List Value} (h : W.ownsRow b 69 2 v n xs) (hb : c ≤ b) : W.ownsRow c 69 2 v n xs := by
  refine ⟨h.1, ?_⟩
  rcases h.2 with e | ⟨g, cap, cur, h1, h2, h3⟩
  · exact .inl e
  · exact .inr ⟨g, cap, cur, h1, by omega, h3⟩
theorem plan_pos {ts : List It} {f W H : Nat} (hf : 0 < f) : 0 < (planN ts f W H).length := by
  cases f with
  | zero => omega
  | succ f => simp [planN]
set_option maxHeartbeats 16000000 in
theorem rplan_c (ts : List It) (v : Value) (T W0 H0 : Nat) (w0 : World) (hW0 : W0 ≤ 100) (hH0 : H0 ≤ 100) (hv : Items w0 v ts) (hok : ts.all itemB = true)
    (hT : ∀ a b, a ≤ W0 → b ≤ H0 → EntV w0 T (H0 + 1) a b (bestV ts a b)) :
    ∀ (f W H : Nat) (w : World), W + H < f → 1 ≤ W → 1 ≤ H → W ≤ W0 → H ≤ H0 → Ext w0 w →
    Calls Try.prog 69 #[.slice (some ⟨T, 0, none⟩) (W0 + 1) (W0 + 1), .int .i64 (W : Int), .int .i64 (H : Int), v] w fun e w' => ∃ v', e = .returned v' ∧ w'.ownsRow w.heap.size 69 2 v' (planN ts f W H).length (cellsOf (planN ts f W H)) ∧ Ext w w' := by
  obtain ⟨av, capv, rfl, hlv, hmv, hir⟩ := hv.at
  obtain ⟨i0, hi, hz0, hz1, hz2⟩ := info_parts info69
  have HI := Lib.hid hi
  have HZ0 := Lib.hid hz0
  have HZ1 := Lib.hid hz1
  have HZ2 := Lib.hid hz2
  have HT := Lib.hid hT
  have HOK := Lib.hid hok
  have HIR := Lib.hid hir
  clear hi hz0 hz1 hz2 hT hok hir hv
  obtain ⟨N, hN⟩ : ∃ N, N = W0 + 1 := ⟨_, rfl⟩
  obtain ⟨M, hM⟩ : ∃ M, M = H0 + 1 := ⟨_, rfl⟩
  rw [← hN]
  rw [← hM] at HT
  have HNN := Lib.hid hN
  have HMM := Lib.hid hM
  intro f
  induction f with
  | zero => intro W H w hf; omega
  | succ f ih =>
    intro W H w hf hW1 hH1 hW hH hb
    have IH := Lib.hid ih
    have HB := Lib.hid hb
    obtain ⟨R0, a1, a2⟩ := (HT.out W H hW hH).ext HB.out
    have hpn : (planN ts (f + 1) W H).length ≤ 20000 := by
      have h1 := plan_len ts (f + 1) W H hf hW1 hH1
      have h2 := Nat.mul_le_mul (show W ≤ 100 by omega) (show H ≤ 100 by omega)
      omega
    obtain ⟨PL, hPL⟩ : ∃ PL, PL = planN ts (f + 1) W H := ⟨_, rfl⟩
    rw [← hPL] at hpn ⊢
    have HPL := Lib.hid (show PL = ((bestC ts W H).2.1, (bestC ts W H).2.2) :: (if (bestC ts W H).2.1 = 2 then planN ts f (bestC ts W H).2.2.toNat H ++ planN ts f (W - (bestC ts W H).2.2.toNat) H else if (bestC ts W H).2.1 = 3 then planN ts f W (bestC ts W H).2.2.toNat ++ planN ts f W (H - (bestC ts W H).2.2.toNat) else []) from hPL)
    have hvb := bestV_small HOK.out (w := W) (g := H) (by omega) (by omega)
    obtain ⟨b, hbv⟩ : ∃ b, bestV ts W H = b := ⟨_, rfl⟩
    rw [hbv] at a2 hvb
    have HBV := Lib.hid hbv
    have HA1 := Lib.hid a1
    have HA2 := Lib.hid a2
    have hWN : W < N := by omega
    have hHM : H < M := by omega
    have hWb : W ≤ 100 := by omega
    have hHb : H ≤ 100 := by omega
    clear ih hb hPL hbv hN hM
    by_cases b0 : b = 0
    · subst b0
      have hpl2 : PL = [(0, 0)] := by have h := HPL.out; rw [rule_zero HBV.out] at h; simpa using h
      have HO := Lib.hid (own_one w (.int .i64 0) (.int .i64 0))
      clear IH
      go_enter Try.func69, Try.ntmps69
      go_wp2_with fail
      go_ret
      refine ⟨_, rfl, ?_, Ext.alloc (Ext.refl _) _⟩
      rw [hpl2]
      exact HO.out
    · have hb0 : (b == 0) = false := by simp [b0]
      go_enter Try.func69, Try.ntmps69
      go_wp2_with fail
      clear a1 a2
      go_loopw [10] (fun i wr => ∃ q : Nat, i = .int .i64 q ∧ q ≤ ts.length ∧ (∀ i, i < q → ¬ itemIs ts W H b i) ∧ Ext w wr) (fun i _ => ts.length - (intOf i).toNat)
      case atStart => exact ⟨0, rfl, Nat.zero_le _, fun i h => by omega, Ext.refl _⟩
      case round =>
        obtain ⟨q, rfl, hq, hni, hE⟩ := hrel
        have HEr := Lib.hid hE
        have HNI := Lib.hid hni
        clear hE hni
        by_cases hql : q < ts.length
        · obtain ⟨t, ht⟩ := getElem?_len hql
          obtain ⟨ab, ao, rfl, c0, c1, c2⟩ := HIR.out q t ht
          replace c0 := Ext.cell (Ext.trans HB.out HEr.out) c0
          replace c1 := Ext.cell (Ext.trans HB.out HEr.out) c1
          replace c2 := Ext.cell (Ext.trans HB.out HEr.out) c2
          have hgd : ts.getD q (0, 0, 0) = t := by rw [List.getD_eq_getElem?_getD, ht]; rfl
          have HNX := Lib.hid (fun (h : ¬ (fitsB W H t = true ∧ t.2.2 = b)) => (show ∀ i, i < q + 1 → ¬ itemIs ts W H b i from fun i h4 h5 => by
            by_cases he : i = q
            · subst he; obtain ⟨_, h6, h7⟩ := h5; rw [hgd] at h6 h7; exact h ⟨h6, h7⟩
            · exact HNI.out i (by omega) h5))
          have HIS := Lib.hid (fun (h6 : fitsB W H t = true) (h7 : t.2.2 = b) => (show itemIs ts W H b q from ⟨hql, by rw [hgd]; exact h6, by rw [hgd]; exact h7⟩))
          obtain ⟨t1, t2, t3⟩ := t
          simp only at c0 c1 c2 HNX HIS
          clear ht hgd
          by_cases f1 : t1 ≤ (W : Int)
          · by_cases f2 : t2 ≤ (H : Int)
            · have hf6 : fitsB W H (t1, t2, t3) = true := by simp [fitsB, f1, f2]
              by_cases f3 : t3 = b
              · subst f3
                have hpl2 : PL = [(1, (q : Int))] := by have h := HPL.out; rw [rule_item HBV.out b0 (HIS.out hf6 rfl) HNI.out] at h; simpa using h
                have HO := Lib.hid (own_one wr (.int .i64 1) (.int .i64 (q : Int)))
                clear IH HNX HIS hf6
                go_wp2_with fail
                go_ret
                refine ⟨_, rfl, ?_, Ext.alloc HEr.out _⟩
                rw [hpl2]
                exact own_base HO.out HEr.out.size
              · have hz : (t3 == b) = false := by simp [f3]
                have HXT := Lib.hid (HNX.out (fun h => f3 h.2))
                clear HNX HIS hf6 IH
                go_wp2_with fail
                exact ⟨⟨q + 1, by simp, by omega, HXT.out, HEr.out⟩, by simp [intOf]; omega⟩
            · have hf6 : fitsB W H (t1, t2, t3) = false := by simp [fitsB]; omega
              have HXT := Lib.hid (HNX.out (fun h => by rw [hf6] at h; cases h.1))
              clear HNX HIS hf6 IH
              go_wp2_with fail
              exact ⟨⟨q + 1, by simp, by omega, HXT.out, HEr.out⟩, by simp [intOf]; omega⟩
          · have hf6 : fitsB W H (t1, t2, t3) = false := by simp [fitsB]; omega
            have HXT := Lib.hid (HNX.out (fun h => by rw [hf6] at h; cases h.1))
            clear HNX HIS hf6 IH
            go_wp2_with fail
            exact ⟨⟨q + 1, by simp, by omega, HXT.out, HEr.out⟩, by simp [intOf]; omega⟩
        · obtain rfl : q = ts.length := by omega
          have HNO := Lib.hid (show ∀ i, ¬ itemIs ts W H b i from fun i h => by
            have h1 := h.1
            exact HNI.out i h1 h)
          obtain ⟨qw, hqw⟩ : ∃ qw : Nat, qw = W / 2 := ⟨_, rfl⟩
          have hqz : (W : Int) / 2 = (qw : Int) := by omega
          have hqW : 2 * qw ≤ W := by omega
          have HQW := Lib.hid hqw
          clear HNI hqw
          go_wp2_with fail
          go_loopw [11] (fun i wr => ∃ c : Nat, i = .int .i64 c ∧ 1 ≤ c ∧ c ≤ qw + 1 ∧ (∀ i, i < c → ¬ wideIs ts W H b i) ∧ Ext w wr) (fun i _ => qw + 1 - (intOf i).toNat)
          case atStart => exact ⟨1, rfl, Nat.le_refl _, by omega, fun i h1 h2 => by have := h2.1; omega, HEr.out⟩
          case round =>
            clear HEr
            rename World => wx
            obtain ⟨c, rfl, hc1, hc2, hnw, hE⟩ := hrel
            have HEr := Lib.hid hE
            have HNW := Lib.hid hnw
            clear hE hnw
            by_cases hck : c ≤ qw
            · obtain ⟨R1, a1, a2⟩ := (HT.out c H (by omega) (by omega)).ext (Ext.trans HB.out HEr.out)
              obtain ⟨R2, a3, a4⟩ := (HT.out (W - c) H (by omega) (by omega)).ext (Ext.trans HB.out HEr.out)
              have hs1 := bestV_small HOK.out (w := c) (g := H) (by omega) (by omega)
              have hs2 := bestV_small HOK.out (w := W - c) (g := H) (by omega) (by omega)
              have HIS := Lib.hid (fun (h : bestV ts c H + bestV ts (W - c) H = b) => (show wideIs ts W H b c from ⟨hc1, by have := HQW.out; omega, h⟩))
              have HNX := Lib.hid (fun (h : bestV ts c H + bestV ts (W - c) H ≠ b) => (show ∀ i, i < c + 1 → ¬ wideIs ts W H b i from fun i h4 h5 => by
                by_cases he : i = c
                · subst he; exact h h5.2.2
                · exact HNW.out i (by omega) h5))
              generalize bestV ts c H = z1 at *
              generalize bestV ts (W - c) H = z2 at *
              skip
              obtain ⟨d, hd⟩ : ∃ d, d = W - c := ⟨_, rfl⟩
              rw [← hd] at a3
              have HD := Lib.hid hd
              have hsub : IntKind.i64.wrap ((W : Int) - (c : Int)) = (d : Int) := by rw [show (W : Int) - (c : Int) = (d : Int) by omega]; exact IntWalk.i64_in _ (by omega)
              have hadd : IntKind.i64.wrap (z1 + z2) = z1 + z2 := IntWalk.i64_in _ (by omega)
              have hcN : c < N := by omega
              have hdN : d < N := by omega
              have hckz : (c : Int) ≤ (qw : Int) := by omega
              clear hd
              by_cases he : z1 + z2 = b
              · have hbe : (z1 + z2 == b) = true := by simp [he]
                have his := HIS.out he
                have hpl2 : PL = (2, (c : Int)) :: (planN ts f c H ++ planN ts f (W - c) H) := by have h := HPL.out; rw [rule_wide HBV.out b0 HNO.out his HNW.out] at h; simpa using h
                clear HIS HNX his
                go_wp2_with fail
                go_quiet (fail)
                rename Nat => nq
                have HEd := Lib.hid (ext_drewN3 HEr.out nq)
                obtain ⟨wr, hwr⟩ : ∃ x, x = World.drewN wx nq := ⟨_, rfl⟩
                rw [← hwr] at HEd ⊢
                clear a1 a2 a3 a4 hwr
                have HEr := HEd
                rw [← HD.out] at hpl2
                have HP1 := Lib.hid (show (planN ts f c H).length + (planN ts f d H).length + 1 = PL.length by rw [hpl2, List.length_cons, List.length_append])
                have HPL2 := Lib.hid hpl2
                have hl1 : 0 < (planN ts f c H).length := plan_pos (by omega)
                have hl2 : 0 < (planN ts f d H).length := plan_pos (by omega)
                have HO0 := Lib.hid (own_one wr (.int .i64 2) (.int .i64 (c : Int)))
                have HE0 := Lib.hid (Ext.alloc (Ext.refl wr) (.cells #[.int .i64 2, .int .i64 (c : Int)] 69))
                have HE1 := Lib.hid (Ext.trans HEr.out HE0.out)
                clear hpl2
                go_wp2_with fail
                generalize wr.alloc (.cells #[.int .i64 2, .int .i64 (c : Int)] 69) = wa at *
                refine (show Calls Try.prog 69 #[_, .int .i64 (c : Int), .int .i64 (H : Int), _] wa _ from IH.out c H wa (by omega) (by omega) (by omega) (by omega) (by omega) (Ext.trans HB.out HE1.out)).mono ?_
                rintro e wb ⟨v1, rfl, hown1, hE⟩
                obtain ⟨ad1, cap1, rfl, hc1⟩ := own_cells hown1 rfl hl1 (by have := HP1.out; omega)
                have HC1 := Lib.hid hc1
                have HE2 := Lib.hid (Ext.trans HE1.out hE)
                have HO1 := Lib.hid (own_base (ownsRow_ext HO0.out hE) HEr.out.size)
                have hwb : w.heap.size ≤ wb.heap.size := HE2.out.size
                have hpb := HP1.out
                clear hown1 hE hc1
                go_wp2_with (at_builtin; refine wpList_append_own _ rfl _ _ 42 rfl w.heap.size 69 i0 (.agg #[.int .i64 0, .int .i64 0]) 2 16 Try.underlying42 HI.out HZ0.out HZ1.out HZ2.out rfl (by decide) _ _ _ rfl HO1.out ad1 (planN ts f c H).length cap1 (cellsOf (planN ts f c H)) rfl (cellsOf_length _) HC1.out cellsOf_one (by unfold maxLen; omega) (by omega) hwb ?_; intro v' wc hown' hgrow hnil; have HO4 := Lib.hid hown'; have HG4 := Lib.hid hgrow; obtain ⟨aw, cw, rfl⟩ := own_slice hown'; clear hown' hgrow hnil)
                have HE3 := Lib.hid (show Ext w wc from Below.grown HE2.out HG4.out HE2.out.size (fun j e => own_block HO1.out e))
                clear HG4 HO1 HC1
                refine (show Calls Try.prog 69 #[_, .int .i64 ((d : Int)), .int .i64 ((H : Int)), _] wc _ from IH.out d H wc (by have := HD.out; omega) (by have := HD.out; omega) (by have := HD.out; omega) (by have := HD.out; omega) (by have := HD.out; omega) (Ext.trans HB.out HE3.out)).mono ?_
                rintro e wd ⟨v2, rfl, hown2, hE⟩
                obtain ⟨ad2, cap2, rfl, hc2⟩ := own_cells hown2 rfl hl2 (by have := HP1.out; omega)
                have HC2 := Lib.hid hc2
                have HE4 := Lib.hid (Ext.trans HE3.out hE)
                have HO5 := Lib.hid (ownsRow_ext HO4.out hE)
                have hwd : w.heap.size ≤ wd.heap.size := HE4.out.size
                clear hown2 hE hc2 HO4
                go_wp2_with (at_builtin; refine wpList_append_own _ rfl _ _ 42 rfl w.heap.size 69 i0 (.agg #[.int .i64 0, .int .i64 0]) 2 16 Try.underlying42 HI.out HZ0.out HZ1.out HZ2.out rfl (by decide) _ _ _ rfl HO5.out ad2 (planN ts f d H).length cap2 (cellsOf (planN ts f d H)) rfl (cellsOf_length _) HC2.out cellsOf_one (by unfold maxLen; omega) (by omega) hwd ?_; intro v' we hown' hgrow hnil; have HO6 := Lib.hid hown'; have HG6 := Lib.hid hgrow; obtain ⟨ax, cx, rfl⟩ := own_slice hown'; clear hown' hgrow hnil)
                go_ret
                have HE5 := Lib.hid (show Ext w we from Below.grown HE4.out HG6.out HE4.out.size (fun j e => own_block HO5.out e))
                refine ⟨_, rfl, ?_, HE5.out⟩
                have h6 := HO6.out
                have e1 : PL.length = 1 + (planN ts f c H).length + (planN ts f d H).length := by have := HP1.out; omega
                rw [HPL2.out] at e1 ⊢
                rw [e1]
                simp only [cellsOf, cellsOf_append]
                simpa [List.append_assoc] using h6
              · have hbe : (z1 + z2 == b) = false := by simp [he]
                have HXT := Lib.hid (HNX.out he)
                clear HIS HNX IH
                go_wp2_with fail
                go_quiet (fail)
                go_wp2
                all_goals exact ⟨⟨c + 1, by simp, by omega, by omega, HXT.out, ext_drewN3 HEr.out _⟩, by simp [intOf]; omega⟩
            · have hckz : ¬ (c : Int) ≤ (qw : Int) := by omega
              have HNOW := Lib.hid (show ∀ i, ¬ wideIs ts W H b i from fun i h => by
                have h1 := h.2.1
                exact HNW.out i (by have := HQW.out; omega) h)
              obtain ⟨qh, hqh⟩ : ∃ qh : Nat, qh = H / 2 := ⟨_, rfl⟩
              have hqz2 : (H : Int) / 2 = (qh : Int) := by omega
              have hqH : 2 * qh ≤ H := by omega
              have HQH := Lib.hid hqh
              clear HNW hqh
              go_wp2_with fail
              go_loopw [13] (fun i wr => ∃ c : Nat, i = .int .i64 c ∧ 1 ≤ c ∧ c ≤ qh + 1 ∧ (∀ i, i < c → ¬ highIs ts W H b i) ∧ Ext w wr) (fun i _ => qh + 1 - (intOf i).toNat)
              case atStart => exact ⟨1, rfl, Nat.le_refl _, by omega, fun i h1 h2 => by have := h2.1; omega, HEr.out⟩
              case round =>
                clear HEr
                rename World => wx
                obtain ⟨c, rfl, hc1, hc2, hnw, hE⟩ := hrel
                have HEr := Lib.hid hE
                have HNW := Lib.hid hnw
                clear hE hnw
                by_cases hck : c ≤ qh
                · obtain ⟨R1, a1, a2⟩ := (HT.out W c (by omega) (by omega)).ext (Ext.trans HB.out HEr.out)
                  obtain ⟨R2, a3, a4⟩ := (HT.out W (H - c) (by omega) (by omega)).ext (Ext.trans HB.out HEr.out)
                  have hs1 := bestV_small HOK.out (w := W) (g := c) (by omega) (by omega)
                  have hs2 := bestV_small HOK.out (w := W) (g := H - c) (by omega) (by omega)
                  have HIS := Lib.hid (fun (h : bestV ts W c + bestV ts W (H - c) = b) => (show highIs ts W H b c from ⟨hc1, by have := HQH.out; omega, h⟩))
                  have HNX := Lib.hid (fun (h : bestV ts W c + bestV ts W (H - c) ≠ b) => (show ∀ i, i < c + 1 → ¬ highIs ts W H b i from fun i h4 h5 => by
                    by_cases he : i = c
                    · subst he; exact h h5.2.2
                    · exact HNW.out i (by omega) h5))
                  generalize bestV ts W c = z1 at *
                  generalize bestV ts W (H - c) = z2 at *
                  obtain rfl : R1 = R2 := by have h := a1.symm.trans a3; simpa using h
                  obtain ⟨d, hd⟩ : ∃ d, d = H - c := ⟨_, rfl⟩
                  rw [← hd] at a4
                  have HD := Lib.hid hd
                  have hsub : IntKind.i64.wrap ((H : Int) - (c : Int)) = (d : Int) := by rw [show (H : Int) - (c : Int) = (d : Int) by omega]; exact IntWalk.i64_in _ (by omega)
                  have hadd : IntKind.i64.wrap (z1 + z2) = z1 + z2 := IntWalk.i64_in _ (by omega)
                  have hcN : c < M := by omega
                  have hdN : d < M := by omega
                  have hckz : (c : Int) ≤ (qh : Int) := by omega
                  clear hd
                  by_cases he : z1 + z2 = b
                  · have hbe : (z1 + z2 == b) = true := by simp [he]
                    have his := HIS.out he
                    have hpl2 : PL = (3, (c : Int)) :: (planN ts f W c ++ planN ts f W (H - c)) := by have h := HPL.out; rw [rule_high HBV.out b0 HNO.out HNOW.out his HNW.out] at h; simpa using h
                    clear HIS HNX his
                    go_wp2_with fail
                    go_quiet (fail)
                    rename Nat => nq
                    have HEd := Lib.hid (ext_drewN3 HEr.out nq)
                    obtain ⟨wr, hwr⟩ : ∃ x, x = World.drewN wx nq := ⟨_, rfl⟩
                    rw [← hwr] at HEd ⊢
                    clear a1 a2 a3 a4 hwr
                    have HEr := HEd
                    rw [← HD.out] at hpl2
                    have HP1 := Lib.hid (show (planN ts f W c).length + (planN ts f W d).length + 1 = PL.length by rw [hpl2, List.length_cons, List.length_append])
                    have HPL2 := Lib.hid hpl2
                    have hl1 : 0 < (planN ts f W c).length := plan_pos (by omega)
                    have hl2 : 0 < (planN ts f W d).length := plan_pos (by omega)
                    have HO0 := Lib.hid (own_one wr (.int .i64 3) (.int .i64 (c : Int)))
                    have HE0 := Lib.hid (Ext.alloc (Ext.refl wr) (.cells #[.int .i64 3, .int .i64 (c : Int)] 69))
                    have HE1 := Lib.hid (Ext.trans HEr.out HE0.out)
                    clear hpl2
                    go_wp2_with fail
                    generalize wr.alloc (.cells #[.int .i64 3, .int .i64 (c : Int)] 69) = wa at *
                    refine (show Calls Try.prog 69 #[_, .int .i64 (W : Int), .int .i64 (c : Int), _] wa _ from IH.out W c wa (by omega) (by omega) (by omega) (by omega) (by omega) (Ext.trans HB.out HE1.out)).mono ?_
                    rintro e wb ⟨v1, rfl, hown1, hE⟩
                    obtain ⟨ad1, cap1, rfl, hc1⟩ := own_cells hown1 rfl hl1 (by have := HP1.out; omega)
                    have HC1 := Lib.hid hc1
                    have HE2 := Lib.hid (Ext.trans HE1.out hE)
                    have HO1 := Lib.hid (own_base (ownsRow_ext HO0.out hE) HEr.out.size)
                    have hwb : w.heap.size ≤ wb.heap.size := HE2.out.size
                    have hpb := HP1.out
                    clear hown1 hE hc1
                    go_wp2_with (at_builtin; refine wpList_append_own _ rfl _ _ 42 rfl w.heap.size 69 i0 (.agg #[.int .i64 0, .int .i64 0]) 2 16 Try.underlying42 HI.out HZ0.out HZ1.out HZ2.out rfl (by decide) _ _ _ rfl HO1.out ad1 (planN ts f W c).length cap1 (cellsOf (planN ts f W c)) rfl (cellsOf_length _) HC1.out cellsOf_one (by unfold maxLen; omega) (by omega) hwb ?_; intro v' wc hown' hgrow hnil; have HO4 := Lib.hid hown'; have HG4 := Lib.hid hgrow; obtain ⟨aw, cw, rfl⟩ := own_slice hown'; clear hown' hgrow hnil)
                    have HE3 := Lib.hid (show Ext w wc from Below.grown HE2.out HG4.out HE2.out.size (fun j e => own_block HO1.out e))
                    clear HG4 HO1 HC1
                    refine (show Calls Try.prog 69 #[_, .int .i64 ((W : Int)), .int .i64 ((d : Int)), _] wc _ from IH.out W d wc (by have := HD.out; omega) (by have := HD.out; omega) (by have := HD.out; omega) (by have := HD.out; omega) (by have := HD.out; omega) (Ext.trans HB.out HE3.out)).mono ?_
                    rintro e wd ⟨v2, rfl, hown2, hE⟩
                    obtain ⟨ad2, cap2, rfl, hc2⟩ := own_cells hown2 rfl hl2 (by have := HP1.out; omega)
                    have HC2 := Lib.hid hc2
                    have HE4 := Lib.hid (Ext.trans HE3.out hE)
                    have HO5 := Lib.hid (ownsRow_ext HO4.out hE)
                    have hwd : w.heap.size ≤ wd.heap.size := HE4.out.size
                    clear hown2 hE hc2 HO4
                    go_wp2_with (at_builtin; refine wpList_append_own _ rfl _ _ 42 rfl w.heap.size 69 i0 (.agg #[.int .i64 0, .int .i64 0]) 2 16 Try.underlying42 HI.out HZ0.out HZ1.out HZ2.out rfl (by decide) _ _ _ rfl HO5.out ad2 (planN ts f W d).length cap2 (cellsOf (planN ts f W d)) rfl (cellsOf_length _) HC2.out cellsOf_one (by unfold maxLen; omega) (by omega) hwd ?_; intro v' we hown' hgrow hnil; have HO6 := Lib.hid hown'; have HG6 := Lib.hid hgrow; obtain ⟨ax, cx, rfl⟩ := own_slice hown'; clear hown' hgrow hnil)
                    go_ret
                    have HE5 := Lib.hid (show Ext w we from Below.grown HE4.out HG6.out HE4.out.size (fun j e => own_block HO5.out e))
                    refine ⟨_, rfl, ?_, HE5.out⟩
                    have h6 := HO6.out
                    have e1 : PL.length = 1 + (planN ts f W c).length + (planN ts f W d).length := by have := HP1.out; omega
                    rw [HPL2.out] at e1 ⊢
                    rw [e1]
                    simp only [cellsOf, cellsOf_append]
                    simpa [List.append_assoc] using h6
                  · have hbe : (z1 + z2 == b) = false := by simp [he]
                    have HXT := Lib.hid (HNX.out he)
                    clear HIS HNX IH
                    go_wp2_with fail
                    go_quiet (fail)
                    go_wp2
                    all_goals exact ⟨⟨c + 1, by simp, by omega, by omega, HXT.out, ext_drewN3 HEr.out _⟩, by simp [intOf]; omega⟩
                · have hckz : ¬ (c : Int) ≤ (qh : Int) := by omega
                  have HNOH := Lib.hid (show ∀ i, ¬ highIs ts W H b i from fun i h => by
                    have h1 := h.2.1
                    exact HNW.out i (by have := HQH.out; omega) h)
                  rcases rule_some HBV.out b0 with ⟨i, h⟩ | ⟨i, h⟩ | ⟨i, h⟩
                  · exact absurd h (HNO.out i)
                  · exact absurd h (HNOW.out i)
                  · exact absurd h (HNOH.out i)

end Go.Proofs.Ytnpebfchojalcaa
