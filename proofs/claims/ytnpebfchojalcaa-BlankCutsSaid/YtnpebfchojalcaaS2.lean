import Derived.Test.YtnpebfchojalcaaS1
import Derived.Test.YtnpebfchojalcaaL3
namespace Go.Proofs.Ytnpebfchojalcaa
set_option maxRecDepth 100000
open Go.RowKit Go.Shelf
/-- what the reader by index answers -/
def RrPost (P : List Ct) (c : Nat) (w' : World) (z : Int) : Option RdS → Prop
  | none => z = -1
  | some s => ∃ n : Nat, z = (n : Int) ∧ n ≤ P.length ∧ s.1 = P.drop n ∧ IRow w' c 3 s.2.2
def RrEnd (P : List Ct) (cl : Nat) (c : Nat) (w : World) (o : Option RdS) (e : Ending) (w' : World) : Prop := ∃ z : Int, e = .returned (.tuple #[.int .i64 z, .slice (some ⟨c, 0, none⟩) cl cl]) ∧ Frame2 c c w w' ∧ RrPost P c w' z o
theorem rr_mk {P : List Ct} {cl c : Nat} {w w' : World} {o : Option RdS} {e : Ending} (z : Int) (he : e = .returned (.tuple #[.int .i64 z, .slice (some ⟨c, 0, none⟩) cl cl])) (hF : Frame2 c c w w') (hP : RrPost P c w' z o) : RrEnd P cl c w o e w' := ⟨z, he, hF, hP⟩
set_option maxHeartbeats 4000000 in
theorem rread_out (W H : Nat) (iv : Value) (n cap cl c : Nat) (pa : Option Addr) (at' : Int) (w : World) (h : at' < 0 ∨ (n : Int) ≤ at') :
    Calls Try.prog 63 #[.int .i64 (W : Int), .int .i64 (H : Int), iv, .slice pa n cap, .int .i64 at', .slice (some ⟨c, 0, none⟩) cl cl] w fun e w' => e = .returned (.tuple #[.int .i64 (-1), .slice (some ⟨c, 0, none⟩) cl cl]) ∧ w = w' := by
  by_cases h0 : at' < 0
  · go_enter Try.func63, Try.ntmps63
    go_wp2_with fail
    go_ret2
    exact ⟨rfl, rfl⟩
  · have h1 : (n : Int) ≤ at' := by omega
    go_enter Try.func63, Try.ntmps63
    go_wp2_with fail
    go_ret2
    exact ⟨rfl, rfl⟩
set_option maxHeartbeats 16000000 in
theorem rread_c (ts : List It) (iv : Value) (w0 : World) (hv : Items w0 iv ts) (hok : ts.all itemB = true) (P : List Ct) (pv : Value) (hp : Vecs w0 pv P) (c : Nat) (hc : w0.heap.size ≤ c) :
    ∀ (f W H n : Nat) (v : Int) (cs : List Int) (w : World), W ≤ 100 → H ≤ 100 → n ≤ P.length → P.length - n ≤ f → Below w0.heap.size w0 w → IRow w c 3 cs → cs.length = ts.length →
    (∀ x ∈ cs, 0 ≤ x ∧ x + ((P.drop n).length : Int) ≤ 1000000000) →
    Calls Try.prog 63 #[.int .i64 (W : Int), .int .i64 (H : Int), iv, pv, .int .i64 (n : Int), .slice (some ⟨c, 0, none⟩) ts.length ts.length] w fun e w' => RrEnd P ts.length c w (readN ts f W H (P.drop n, v, cs)) e w' := by
  obtain ⟨pa, pcap, rfl, hpl, hpm, hpr⟩ := hp.at
  obtain ⟨a, cap, rfl, hl, hm, hr⟩ := hv.at
  have HR := Lib.hid hr
  have HPR := Lib.hid hpr
  have HOK := Lib.hid hok
  clear hr hpr hok hv hp
  intro f
  induction f with
  | zero =>
    intro W H n v cs w hW hH hn hf hb hr hcs hcb
    obtain rfl : n = P.length := by omega
    refine (rread_out W H _ P.length pcap ts.length c pa (P.length : Int) w (.inr (Int.le_refl _))).mono ?_
    rintro e w' ⟨rfl, rfl⟩
    exact rr_mk _ rfl (Frame2.of_ext (Ext.refl _)) rfl
  | succ f ih =>
    intro W H n v cs w hW hH hn hf hb hr hcs hcb
    by_cases hlt : n < P.length
    · have IH := Lib.hid ih
      clear ih
      obtain ⟨q, hq⟩ := getElem?_len hlt
      obtain ⟨pb, po, rfl, p0, p1⟩ := HPR.out n q hq
      have hd : P.drop n = q :: P.drop (n + 1) := by
        rw [List.drop_eq_getElem_cons hlt]
        rw [List.getElem?_eq_getElem hlt] at hq
        injection hq with hq
        rw [hq]
      obtain ⟨k, m⟩ := q
      simp only at p0 p1
      have hdl : (P.drop (n + 1)).length + 1 = P.length - n := by simp; omega
      rw [hd] at hcb ⊢
      have HCB := Lib.hid hcb
      have HD := Lib.hid hd
      have HDL := Lib.hid hdl
      have HB := Lib.hid hb
      have HI := Lib.hid hr
      clear hd hdl hcb hb hr hq
      have hbl := cell_lt p0
      have hil := VRow.lt HI.out
      replace p0 := Ext.cell HB.out p0
      replace p1 := Ext.cell HB.out p1
      generalize hrest : P.drop (n + 1) = rest at *
      have HRE := Lib.hid hrest
      clear hrest
      have hE0 := Ext.alloc (Ext.refl w) (.cells #[.int .i64 k, .int .i64 m] 69)
      have HE := Lib.hid hE0
      clear hE0
      by_cases k0 : k = 0
      · subst k0
        by_cases m0 : m = 0
        · subst m0
          have HN0 : readN ts (f + 1) W H ((0, 0) :: rest, v, cs) = some (rest, v, cs) := by
            simp [readN]
          have HN := Lib.hid HN0
          clear HN0
          generalize readN ts (f + 1) W H ((0, 0) :: rest, v, cs) = RN at *
          go_enter Try.func63, Try.ntmps63
          go_wp2_with fail
          go_ret2
          exact rr_mk _ rfl (Frame2.of_ext HE.out) (by rw [HN.out]; exact ⟨n + 1, by simp, hlt, HRE.out.symm, VRow.ext HI.out HE.out⟩)
        · have hmb : (m == 0) = false := by simp [m0]
          have HN0 : readN ts (f + 1) W H ((0, m) :: rest, v, cs) = none := by
            simp [readN, m0]
          have HN := Lib.hid HN0
          clear HN0
          generalize readN ts (f + 1) W H ((0, m) :: rest, v, cs) = RN at *
          clear m0
          go_enter Try.func63, Try.ntmps63
          go_wp2_with fail
          go_ret2
          exact rr_mk _ rfl (Frame2.of_ext HE.out) (by rw [HN.out]; rfl)
      · by_cases k1 : k = 1
        · subst k1
          clear k0
          by_cases m0 : m < 0
          · skip
            have HN0 : readN ts (f + 1) W H ((1, m) :: rest, v, cs) = none := by
              have e0 : takeB ts W H m = false := by unfold takeB; rw [decide_eq_false (show ¬ 0 ≤ m by omega)]; rfl
              simp [readN, e0]
            have HN := Lib.hid HN0
            clear HN0
            generalize readN ts (f + 1) W H ((1, m) :: rest, v, cs) = RN at *
            go_enter Try.func63, Try.ntmps63
            go_wp2_with fail
            go_ret2
            exact rr_mk _ rfl (Frame2.of_ext HE.out) (by rw [HN.out]; rfl)
          · by_cases m1 : (ts.length : Int) ≤ m
            · skip
              have HN0 : readN ts (f + 1) W H ((1, m) :: rest, v, cs) = none := by
                have e0 : takeB ts W H m = false := by unfold takeB; rw [decide_eq_false (show ¬ m < (ts.length : Int) by omega)]; simp
                simp [readN, e0]
              have HN := Lib.hid HN0
              clear HN0
              generalize readN ts (f + 1) W H ((1, m) :: rest, v, cs) = RN at *
              go_enter Try.func63, Try.ntmps63
              go_wp2_with fail
              go_ret2
              exact rr_mk _ rfl (Frame2.of_ext HE.out) (by rw [HN.out]; rfl)
            · obtain ⟨M, rfl⟩ : ∃ M : Nat, m = (M : Int) := ⟨m.toNat, by omega⟩
              have hM : M < ts.length := by omega
              obtain ⟨t, ht⟩ := getElem?_len hM
              obtain ⟨b, o, rfl, c0, c1, c2⟩ := HR.out M t ht
              have hgd : ts.getD M (0, 0, 0) = t := by rw [List.getD_eq_getElem?_getD, ht]; rfl
              clear ht c2
              replace c0 := Ext.cell HB.out c0
              have hcl : b < w.heap.size := cell_lt c0
              replace c1 := Ext.cell HB.out c1
              obtain ⟨t1, t2, t3⟩ := t
              simp only at c0 c1
              by_cases f1 : t1 ≤ (W : Int)
              · by_cases f2 : t2 ≤ (H : Int)
                · have e0 : takeB ts W H (M : Int) = true := by simp only [takeB, Int.toNat_natCast, hgd, fitsB]; simp; omega
                  have HN0 : readN ts (f + 1) W H ((1, (M : Int)) :: rest, v, cs) = some (rest, v + t3, bumpZ cs M) := by
                    have hg2 := hgd
                    rw [List.getD_eq_getElem?_getD] at hg2
                    simp [readN, e0, hg2]
                  have HN := Lib.hid HN0
                  clear HN0
                  generalize readN ts (f + 1) W H ((1, (M : Int)) :: rest, v, cs) = RN at *
                  obtain ⟨x, hx⟩ := getElem?_len (show M < cs.length by omega)
                  have hxb := HCB.out x (List.mem_of_getElem? hx)
                  simp only [List.length_cons] at hxb
                  have ci := IRow.at HI.out hx
                  have cf := VRow.frozen HI.out M none
                  have hbz : bumpZ cs M = cs.set M (x + 1) := by rw [bumpZ, List.getD_eq_getElem?_getD, hx]; rfl
                  have HBZ := Lib.hid hbz
                  have HF := Lib.hid (show Frame2 c c w ((w.setCell ⟨c, M, none⟩ (.int .i64 (x + 1))).alloc (.cells #[.int .i64 1, .int .i64 (M : Int)] 69)) from (Frame2.set w ⟨c, M, none⟩ (.int .i64 (x + 1)) (.inl rfl)).trans (Frame2.of_ext (Ext.alloc (Ext.refl _) _)))
                  have HP := Lib.hid (show IRow ((w.setCell ⟨c, M, none⟩ (.int .i64 (x + 1))).alloc (.cells #[.int .i64 1, .int .i64 (M : Int)] 69)) c 3 (cs.set M (x + 1)) from VRow.alloc (IRow.put HI.out M (x + 1)) _)
                  clear hx hbz hgd e0
                  go_enter Try.func63, Try.ntmps63
                  go_wp2_with fail
                  go_ret2
                  exact rr_mk _ rfl HF.out (by rw [HN.out]; exact ⟨n + 1, by simp, hlt, HRE.out.symm, by rw [HBZ.out]; exact HP.out⟩)
                · have e0 : takeB ts W H (M : Int) = false := by simp only [takeB, Int.toNat_natCast, hgd, fitsB]; simp; omega
                  have HN0 : readN ts (f + 1) W H ((1, (M : Int)) :: rest, v, cs) = none := by
                    simp [readN, e0]
                  have HN := Lib.hid HN0
                  clear HN0
                  generalize readN ts (f + 1) W H ((1, (M : Int)) :: rest, v, cs) = RN at *
                  clear hgd e0
                  go_enter Try.func63, Try.ntmps63
                  go_wp2_with fail
                  go_ret2
                  exact rr_mk _ rfl (Frame2.of_ext HE.out) (by rw [HN.out]; rfl)
              · have e0 : takeB ts W H (M : Int) = false := by simp only [takeB, Int.toNat_natCast, hgd, fitsB]; simp; omega
                have HN0 : readN ts (f + 1) W H ((1, (M : Int)) :: rest, v, cs) = none := by
                  simp [readN, e0]
                have HN := Lib.hid HN0
                clear HN0
                generalize readN ts (f + 1) W H ((1, (M : Int)) :: rest, v, cs) = RN at *
                clear hgd e0
                go_enter Try.func63, Try.ntmps63
                go_wp2_with fail
                go_ret2
                exact rr_mk _ rfl (Frame2.of_ext HE.out) (by rw [HN.out]; rfl)
        · by_cases k2 : k = 2
          · subst k2
            clear k0 k1
            by_cases m0 : m < 1
            · skip
              have HN0 : readN ts (f + 1) W H ((2, m) :: rest, v, cs) = none := by
                simp only [readN]; rw [if_neg (by omega), if_neg (by omega), if_neg (by omega), if_neg (by omega)]
              have HN := Lib.hid HN0
              clear HN0
              generalize readN ts (f + 1) W H ((2, m) :: rest, v, cs) = RN at *
              clear IH
              go_enter Try.func63, Try.ntmps63
              go_wp2_with fail
              go_ret2
              exact rr_mk _ rfl (Frame2.of_ext HE.out) (by rw [HN.out]; rfl)
            · by_cases m1 : (W : Int) ≤ m
              · skip
                have HN0 : readN ts (f + 1) W H ((2, m) :: rest, v, cs) = none := by
                  simp only [readN]; rw [if_neg (by omega), if_neg (by omega), if_neg (by omega), if_neg (by omega)]
                have HN := Lib.hid HN0
                clear HN0
                generalize readN ts (f + 1) W H ((2, m) :: rest, v, cs) = RN at *
                clear IH
                go_enter Try.func63, Try.ntmps63
                go_wp2_with fail
                go_ret2
                exact rr_mk _ rfl (Frame2.of_ext HE.out) (by rw [HN.out]; rfl)
              · obtain ⟨M, rfl⟩ : ∃ M : Nat, m = (M : Int) := ⟨m.toNat, by omega⟩
                have HN0 : readN ts (f + 1) W H ((2, (M : Int)) :: rest, v, cs) = (readN ts f M H (rest, v, cs)).bind (readN ts f (W - M) H) := by
                  simp only [readN]; rw [if_neg (by omega), if_neg (by omega), if_pos (by simp only [true_and]; omega)]; rfl
                have HN := Lib.hid HN0
                clear HN0
                generalize readN ts (f + 1) W H ((2, (M : Int)) :: rest, v, cs) = RN at *
                have HI1 := Lib.hid (VRow.ext HI.out HE.out)
                have HB1 := Lib.hid (Below.trans HB.out (HE.out.mono HB.out.size))
                have h1w : M ≤ 100 := by omega
                have h1h : H ≤ 100 := by omega
                have h2w : (W - M) ≤ 100 := by omega
                have h2h : H ≤ 100 := by omega
                have HBX := Lib.hid (show VRow (w.alloc (.cells #[.int .i64 2, .int .i64 (M : Int)] 69)) _ _ _ from vrow_alloc w [.int .i64 2, .int .i64 (M : Int)] 69)
                clear HPR HR
                go_enter Try.func63, Try.ntmps63
                go_wp2_with fail
                generalize w.alloc (.cells #[.int .i64 2, .int .i64 (M : Int)] 69) = w1 at *
                have h1 := IH.out M H (n + 1) v cs w1 h1w h1h (by omega) (by omega) HB1.out HI1.out hcs (fun x hx => by have := HCB.out x hx; rw [HRE.out]; simp only [List.length_cons] at this; omega)
                rw [HRE.out] at h1
                refine (show Calls Try.prog 63 #[.int .i64 (M : Int), .int .i64 (H : Int), _, _, .int .i64 ((n : Int) + 1), _] w1 _ from h1).mono ?_
                rintro e w2 ⟨z, rfl, hF2, hP2⟩
                have HF2 := Lib.hid ((Frame2.of_ext HE.out).trans hF2)
                have HB2 := Lib.hid (Below.trans HB1.out (hF2.below hc hc HB1.out.size))
                have HX2 := Frame2.vrow hF2 HBX.out (by omega) (by omega)
                have y0 := VRow.cell HX2 (k := 0) rfl
                have y1 := VRow.cell HX2 (k := 1) rfl
                clear h1 hF2 HX2
                cases hrn : readN ts f M H (rest, v, cs) with
                | none =>
                  rw [hrn] at hP2
                  obtain rfl : z = -1 := hP2
                  rw [hrn] at HN
                  have HN2 := Lib.hid HN.out
                  clear hrn HN
                  go_wp2_with fail
                  refine (show Calls Try.prog 63 #[.int .i64 ((W : Int) - M), .int .i64 (H : Int), _, _, .int .i64 (-1), _] w2 _ from by have h := rread_out (W - M) H (.slice a ts.length cap) P.length pcap ts.length c (some ⟨pb, po, none⟩) (-1) w2 (.inl (by omega)); rw [show ((W - M : Nat) : Int) = (W : Int) - M by omega] at h; exact h).mono ?_
                  rintro e w3 ⟨rfl, rfl⟩
                  go_wp2_with fail
                  go_ret2
                  exact rr_mk _ rfl HF2.out (by rw [HN2.out]; rfl)
                | some s1 =>
                  rw [hrn] at hP2
                  obtain ⟨n2, rfl, hn2, hs2, hi2⟩ := hP2
                  have hq := readN_ok HOK.out f M H _ _ hrn
                  have HHQ := Lib.hid hq
                  rw [hrn] at HN
                  have HN2 := Lib.hid HN.out
                  have HS2 := Lib.hid hs2
                  have HI2 := Lib.hid hi2
                  clear hrn hs2 hi2 hq HN
                  go_wp2_with fail
                  clear y0 y1
                  obtain ⟨l1, v1, cs1⟩ := s1
                  have hq := HHQ.out
                  have hs2 := HS2.out
                  simp only at hq hs2
                  subst hs2
                  have h2 := IH.out (W - M) H n2 v1 cs1 w2 h2w h2h hn2 (by have := hq.1; have h9 := HDL.out; rw [List.length_drop] at this; omega) HB2.out HI2.out (by omega) (hq.2.2.2.2 1000000000 (fun x hx => by have := HCB.out x hx; simp only [List.length_cons] at this; omega) (by omega))
                  refine (show Calls Try.prog 63 #[.int .i64 ((W : Int) - M), .int .i64 (H : Int), _, _, .int .i64 (n2 : Int), _] w2 _ from by rw [show ((W - M : Nat) : Int) = (W : Int) - M by omega] at h2; exact h2).mono ?_
                  rintro e w3 ⟨z, rfl, hF3, hP3⟩
                  have HF3 := Lib.hid (HF2.out.trans hF3)
                  have HP3 := Lib.hid hP3
                  clear hF3 hP3 h2 hq
                  go_wp2_with fail
                  go_ret2
                  exact rr_mk _ rfl HF3.out (by rw [HN2.out]; exact HP3.out)
          · by_cases k3 : k = 3
            · subst k3
              clear k0 k1 k2
              by_cases m0 : m < 1
              · skip
                have HN0 : readN ts (f + 1) W H ((3, m) :: rest, v, cs) = none := by
                  simp only [readN]; rw [if_neg (by omega), if_neg (by omega), if_neg (by omega), if_neg (by omega)]
                have HN := Lib.hid HN0
                clear HN0
                generalize readN ts (f + 1) W H ((3, m) :: rest, v, cs) = RN at *
                clear IH
                go_enter Try.func63, Try.ntmps63
                go_wp2_with fail
                go_ret2
                exact rr_mk _ rfl (Frame2.of_ext HE.out) (by rw [HN.out]; rfl)
              · by_cases m1 : (H : Int) ≤ m
                · skip
                  have HN0 : readN ts (f + 1) W H ((3, m) :: rest, v, cs) = none := by
                    simp only [readN]; rw [if_neg (by omega), if_neg (by omega), if_neg (by omega), if_neg (by omega)]
                  have HN := Lib.hid HN0
                  clear HN0
                  generalize readN ts (f + 1) W H ((3, m) :: rest, v, cs) = RN at *
                  clear IH
                  go_enter Try.func63, Try.ntmps63
                  go_wp2_with fail
                  go_ret2
                  exact rr_mk _ rfl (Frame2.of_ext HE.out) (by rw [HN.out]; rfl)
                · obtain ⟨M, rfl⟩ : ∃ M : Nat, m = (M : Int) := ⟨m.toNat, by omega⟩
                  have HN0 : readN ts (f + 1) W H ((3, (M : Int)) :: rest, v, cs) = (readN ts f W M (rest, v, cs)).bind (readN ts f W (H - M)) := by
                    simp only [readN]; rw [if_neg (by omega), if_neg (by omega), if_neg (by omega), if_pos (by simp only [true_and]; omega)]; rfl
                  have HN := Lib.hid HN0
                  clear HN0
                  generalize readN ts (f + 1) W H ((3, (M : Int)) :: rest, v, cs) = RN at *
                  have HI1 := Lib.hid (VRow.ext HI.out HE.out)
                  have HB1 := Lib.hid (Below.trans HB.out (HE.out.mono HB.out.size))
                  have h1w : W ≤ 100 := by omega
                  have h1h : M ≤ 100 := by omega
                  have h2w : W ≤ 100 := by omega
                  have h2h : (H - M) ≤ 100 := by omega
                  have HBX := Lib.hid (show VRow (w.alloc (.cells #[.int .i64 3, .int .i64 (M : Int)] 69)) _ _ _ from vrow_alloc w [.int .i64 3, .int .i64 (M : Int)] 69)
                  clear HPR HR
                  go_enter Try.func63, Try.ntmps63
                  go_wp2_with fail
                  generalize w.alloc (.cells #[.int .i64 3, .int .i64 (M : Int)] 69) = w1 at *
                  have h1 := IH.out W M (n + 1) v cs w1 h1w h1h (by omega) (by omega) HB1.out HI1.out hcs (fun x hx => by have := HCB.out x hx; rw [HRE.out]; simp only [List.length_cons] at this; omega)
                  rw [HRE.out] at h1
                  refine (show Calls Try.prog 63 #[.int .i64 (W : Int), .int .i64 (M : Int), _, _, .int .i64 ((n : Int) + 1), _] w1 _ from h1).mono ?_
                  rintro e w2 ⟨z, rfl, hF2, hP2⟩
                  have HF2 := Lib.hid ((Frame2.of_ext HE.out).trans hF2)
                  have HB2 := Lib.hid (Below.trans HB1.out (hF2.below hc hc HB1.out.size))
                  have HX2 := Frame2.vrow hF2 HBX.out (by omega) (by omega)
                  have y0 := VRow.cell HX2 (k := 0) rfl
                  have y1 := VRow.cell HX2 (k := 1) rfl
                  clear h1 hF2 HX2
                  cases hrn : readN ts f W M (rest, v, cs) with
                  | none =>
                    rw [hrn] at hP2
                    obtain rfl : z = -1 := hP2
                    rw [hrn] at HN
                    have HN2 := Lib.hid HN.out
                    clear hrn HN
                    go_wp2_with fail
                    refine (show Calls Try.prog 63 #[.int .i64 (W : Int), .int .i64 ((H : Int) - M), _, _, .int .i64 (-1), _] w2 _ from by have h := rread_out W (H - M) (.slice a ts.length cap) P.length pcap ts.length c (some ⟨pb, po, none⟩) (-1) w2 (.inl (by omega)); rw [show ((H - M : Nat) : Int) = (H : Int) - M by omega] at h; exact h).mono ?_
                    rintro e w3 ⟨rfl, rfl⟩
                    go_wp2_with fail
                    go_ret2
                    exact rr_mk _ rfl HF2.out (by rw [HN2.out]; rfl)
                  | some s1 =>
                    rw [hrn] at hP2
                    obtain ⟨n2, rfl, hn2, hs2, hi2⟩ := hP2
                    have hq := readN_ok HOK.out f W M _ _ hrn
                    have HHQ := Lib.hid hq
                    rw [hrn] at HN
                    have HN2 := Lib.hid HN.out
                    have HS2 := Lib.hid hs2
                    have HI2 := Lib.hid hi2
                    clear hrn hs2 hi2 hq HN
                    go_wp2_with fail
                    clear y0 y1
                    obtain ⟨l1, v1, cs1⟩ := s1
                    have hq := HHQ.out
                    have hs2 := HS2.out
                    simp only at hq hs2
                    subst hs2
                    have h2 := IH.out W (H - M) n2 v1 cs1 w2 h2w h2h hn2 (by have := hq.1; have h9 := HDL.out; rw [List.length_drop] at this; omega) HB2.out HI2.out (by omega) (hq.2.2.2.2 1000000000 (fun x hx => by have := HCB.out x hx; simp only [List.length_cons] at this; omega) (by omega))
                    refine (show Calls Try.prog 63 #[.int .i64 (W : Int), .int .i64 ((H : Int) - M), _, _, .int .i64 (n2 : Int), _] w2 _ from by rw [show ((H - M : Nat) : Int) = (H : Int) - M by omega] at h2; exact h2).mono ?_
                    rintro e w3 ⟨z, rfl, hF3, hP3⟩
                    have HF3 := Lib.hid (HF2.out.trans hF3)
                    have HP3 := Lib.hid hP3
                    clear hF3 hP3 h2 hq
                    go_wp2_with fail
                    go_ret2
                    exact rr_mk _ rfl HF3.out (by rw [HN2.out]; exact HP3.out)
            · have hb0 : (k == 0) = false := by simp [k0]
              have hb1 : (k == 1) = false := by simp [k1]
              have hb2 : (k == 2) = false := by simp [k2]
              have hb3 : (k == 3) = false := by simp [k3]
              have HN0 : readN ts (f + 1) W H ((k, m) :: rest, v, cs) = none := by
                simp only [readN]; rw [if_neg k0, if_neg k1, if_neg (by omega), if_neg (by omega)]
              have HN := Lib.hid HN0
              clear HN0
              generalize readN ts (f + 1) W H ((k, m) :: rest, v, cs) = RN at *
              clear k0 k1 k2 k3 IH
              go_enter Try.func63, Try.ntmps63
              go_wp2_with fail
              go_ret2
              exact rr_mk _ rfl (Frame2.of_ext HE.out) (by rw [HN.out]; rfl)
    · obtain rfl : n = P.length := by omega
      refine (rread_out W H _ P.length pcap ts.length c pa (P.length : Int) w (.inr (Int.le_refl _))).mono ?_
      rintro e w' ⟨rfl, rfl⟩
      exact rr_mk _ rfl (Frame2.of_ext (Ext.refl _)) (by rw [List.drop_length]; rfl)

end Go.Proofs.Ytnpebfchojalcaa
