import Derived.Test.YtnpebfchojalcaaL2
namespace Go.Proofs.Ytnpebfchojalcaa
set_option maxRecDepth 100000
open Go.RowKit Go.Shelf
def RdPost (w0 : World) (iv : Value) (g c : Nat) (w' : World) (b : Bool) : Option RdS → Prop
  | none => b = false
  | some s => b = true ∧ ∃ rv, Vecs w0 rv s.1 ∧ RSt w' g c iv rv s.2.1 s.2.2
def RdEnd (w0 : World) (iv : Value) (g c : Nat) (w : World) (o : Option RdS) (e : Ending) (w' : World) : Prop := ∃ b, e = .returned (.bool b) ∧ Frame2 g c w w' ∧ RdPost w0 iv g c w' b o
theorem rd_mk {w0 w w' : World} {iv : Value} {g c : Nat} {o : Option RdS} {e : Ending} (b : Bool) (he : e = .returned (.bool b)) (hF : Frame2 g c w w') (hP : RdPost w0 iv g c w' b o) : RdEnd w0 iv g c w o e w' := ⟨b, he, hF, hP⟩
/-- one step further in a list of steps -/
theorem vecs_tail {w : World} {pb po n cap : Nat} {p : Pt} {r : List Pt} (h : Vecs w (.slice (some ⟨pb, po, none⟩) n cap) (p :: r)) (po' : Nat) (hp : po' = po + 2 ∨ r = []) (a : Option Addr) (ha : a = some ⟨pb, po', none⟩) :
    Vecs w (.slice a r.length (cap - 1)) r := by
  obtain ⟨a2, cap2, e, hl, hm, hr⟩ := h
  simp only [Value.slice.injEq] at e
  obtain ⟨rfl, _, rfl⟩ := e
  simp only [List.length_cons] at hl
  refine ⟨a, cap - 1, rfl, by omega, by omega, ?_⟩
  rcases hr with hr | ⟨b, o, e2, hc⟩
  · cases hr
  · rcases hp with hp | hp
    · refine .inr ⟨pb, po', ha, fun k q hk => ?_⟩
      injection e2 with e2
      injection e2 with e3 e4
      subst e3 e4 hp
      have := hc (k + 1) q (by simpa using hk)
      rw [show po + 2 + k * 2 = po + (k + 1) * 2 by omega]
      exact this
    · exact .inl hp
theorem read_cases {ts : List It} {f W H : Nat} {k m : Int} {rest : List Ct} {v : Int} {cs : List Int} (h0 : k ≠ 0) (h1 : k ≠ 1) (hW : W ≤ 100) (hH : H ≤ 100) :
    (splitV W H k m = .tuple #[rectV 0 0, rectV 0 0, .bool false] ∧ readN ts (f + 1) W H ((k, m) :: rest, v, cs) = none) ∨
    ∃ W1 H1 W2 H2 : Nat, W1 ≤ 100 ∧ H1 ≤ 100 ∧ W2 ≤ 100 ∧ H2 ≤ 100 ∧ splitV W H k m = .tuple #[rectV W1 H1, rectV W2 H2, .bool true] ∧ readN ts (f + 1) W H ((k, m) :: rest, v, cs) = (readN ts f W1 H1 (rest, v, cs)).bind (readN ts f W2 H2) := by
  simp only [readN, if_neg h0, if_neg h1]
  unfold splitV
  by_cases h2 : k = 2 ∧ 1 ≤ m ∧ m < (W : Int)
  · right
    refine ⟨m.toNat, H, W - m.toNat, H, by omega, hH, by omega, hH, ?_, by rw [if_pos h2]⟩
    rw [if_pos h2, show ((m.toNat : Nat) : Int) = m by omega, show ((W - m.toNat : Nat) : Int) = (W : Int) - m by omega]
  · by_cases h3 : k = 3 ∧ 1 ≤ m ∧ m < (H : Int)
    · right
      refine ⟨W, m.toNat, W, H - m.toNat, hW, by omega, hW, by omega, ?_, by rw [if_neg h2, if_pos h3]⟩
      rw [if_neg h2, if_pos h3, show ((m.toNat : Nat) : Int) = m by omega, show ((H - m.toNat : Nat) : Int) = (H : Int) - m by omega]
    · left
      exact ⟨by rw [if_neg h2, if_neg h3], by rw [if_neg h2, if_neg h3]⟩
set_option maxHeartbeats 8000000 in
theorem read_c (ts : List It) (iv : Value) (w0 : World) (hv : Items w0 iv ts) (hok : ts.all itemB = true) (g c : Nat) (hg : w0.heap.size ≤ g) (hc : w0.heap.size ≤ c) (hgc : g ≠ c) :
    ∀ (f W H : Nat) (rest : List Ct) (v : Int) (cs : List Int) (rv : Value) (w : World), W ≤ 100 → H ≤ 100 → rest.length ≤ f → Below w0.heap.size w0 w → RSt w g c iv rv v cs → Vecs w0 rv rest → cs.length = ts.length →
    (0 ≤ v ∧ v + 1048576 * (rest.length : Int) ≤ 1000000000000000) → (∀ x ∈ cs, 0 ≤ x ∧ x + (rest.length : Int) ≤ 1000000000) →
    Calls Try.prog 62 #[.pointer (some ⟨g, 0, none⟩), rectV W H] w fun e w' => RdEnd w0 iv g c w (readN ts f W H (rest, v, cs)) e w' := by
  have HVI := Lib.hid hv
  have HOK := Lib.hid hok
  clear hv hok
  intro f
  induction f with
  | zero =>
    intro W H rest v cs rv w hW hH hf hb hr hvs hcs hv hcb
    obtain rfl : rest = [] := List.length_eq_zero_iff.1 (by omega)
    obtain ⟨a, cap, rfl, hl, hm, _⟩ := hvs.at
    have hE0 := Ext.alloc (Ext.refl w) (.cells #[.int .i64 (W : Int), .int .i64 (H : Int)] 92)
    have HE := Lib.hid hE0
    have HS := Lib.hid (hr.ext hE0)
    have hgl := VRow.lt hr.rg
    have k1 := VRow.cell HS.out.rg (k := 1) rfl
    clear hE0 hr hvs hb
    unfold rectV
    go_enter Try.func62, Try.ntmps62
    go_wp2_with fail
    go_ret
    exact rd_mk false rfl (Frame2.of_ext HE.out) rfl
  | succ f ih =>
    intro W H rest v cs rv w hW hH hf hb hr hvs hcs hv hcb
    have IH := Lib.hid ih
    clear ih
    cases rest with
    | nil =>
      obtain ⟨a, cap, rfl, hl, hm, _⟩ := hvs.at
      have hE0 := Ext.alloc (Ext.refl w) (.cells #[.int .i64 (W : Int), .int .i64 (H : Int)] 92)
      have HE := Lib.hid hE0
      have HS := Lib.hid (hr.ext hE0)
      have hgl := VRow.lt hr.rg
      have k1 := VRow.cell HS.out.rg (k := 1) rfl
      clear hE0 hr hvs hb
      unfold rectV
      go_enter Try.func62, Try.ntmps62
      go_wp2_with fail
      go_ret
      exact rd_mk false rfl (Frame2.of_ext HE.out) rfl
    | cons q rest =>
      obtain ⟨k, m⟩ := q
      obtain ⟨a, cap, rfl, hl, hm, hra⟩ := hvs.at
      obtain ⟨pb, po, rfl, p0, p1⟩ := hra 0 (k, m) rfl
      simp only [Nat.zero_mul, Nat.add_zero] at p0 p1
      simp only [List.length_cons] at hl hf hv hcb ⊢
      have hE0 := Ext.alloc (Ext.refl w) (.cells #[.int .i64 (W : Int), .int .i64 (H : Int)] 92)
      have HE := Lib.hid hE0
      have HB := Lib.hid hb
      have HS := Lib.hid (hr.ext hE0)
      have HR := Lib.hid hr
      have HVS := Lib.hid hvs
      have HCB := Lib.hid hcb
      have hpl := cell_lt p0
      have hbs := hb.size
      have hgl := VRow.lt hr.rg
      have p0' := Ext.cell (w := w0) (Below.trans hb (hE0.mono hbs)) p0
      have p1' := Ext.cell (w := w0) (Below.trans hb (hE0.mono hbs)) p1
      have HPN := Lib.hid (show pb < w0.heap.size from hpl)
      have k1 := VRow.cell HS.out.rg (k := 1) rfl
      have fg := VRow.frozen HS.out.rg 1 none
      have h1l : (1 : Int) ≤ ((rest.length + 1 : Nat) : Int) := by omega
      have h1n : 1 ≤ rest.length + 1 := by omega
      simp only [List.length_cons] at k1
      clear hE0 hr hvs hb p0 p1 hra hcb
      by_cases hcap : cap = 1
      · subst hcap
        obtain rfl : rest = [] := List.length_eq_zero_iff.1 (by omega)
        simp only [List.length_nil, Nat.zero_add] at k1 h1l h1n hl hf hv
        have HVR := Lib.hid (show Vecs w0 (.slice (some ⟨pb, po, none⟩) 0 0) [] from by have h := vecs_tail HVS.out po (.inr rfl) _ rfl; exact h)
        have HS2 := Lib.hid (show RSt (((w.setCell ⟨g, 1, none⟩ (.slice (some ⟨pb, po, none⟩) 0 0)).alloc (.cells #[.int .i64 (W : Int), .int .i64 (H : Int)] 92)).alloc (.cells #[.int .i64 k, .int .i64 m] 69)) g c iv (.slice (some ⟨pb, po, none⟩) 0 0) v cs from ⟨((VRow.set HR.out.rg 1 (.slice (some ⟨pb, po, none⟩) 0 0)).alloc (.cells #[.int .i64 (W : Int), .int .i64 (H : Int)] 92)).alloc (.cells #[.int .i64 k, .int .i64 m] 69), ((VRow.setOther HR.out.rc (a := ⟨g, 1, none⟩) (by show c ≠ g; omega) (.slice (some ⟨pb, po, none⟩) 0 0)).alloc (.cells #[.int .i64 (W : Int), .int .i64 (H : Int)] 92)).alloc (.cells #[.int .i64 k, .int .i64 m] 69)⟩)
        have HB2 := Lib.hid (show Below w0.heap.size w0 (((w.setCell ⟨g, 1, none⟩ (.slice (some ⟨pb, po, none⟩) 0 0)).alloc (.cells #[.int .i64 (W : Int), .int .i64 (H : Int)] 92)).alloc (.cells #[.int .i64 k, .int .i64 m] 69)) from Ext.alloc (Ext.alloc (Below.setCell (p := ⟨g, 1, none⟩) HB.out hg (.slice (some ⟨pb, po, none⟩) 0 0)) (.cells #[.int .i64 (W : Int), .int .i64 (H : Int)] 92)) (.cells #[.int .i64 k, .int .i64 m] 69))
        have HF2 := Lib.hid (show Frame2 g c w (((w.setCell ⟨g, 1, none⟩ (.slice (some ⟨pb, po, none⟩) 0 0)).alloc (.cells #[.int .i64 (W : Int), .int .i64 (H : Int)] 92)).alloc (.cells #[.int .i64 k, .int .i64 m] 69)) from (Frame2.set w ⟨g, 1, none⟩ (.slice (some ⟨pb, po, none⟩) 0 0) (.inl rfl)).trans (Frame2.of_ext (Ext.alloc (Ext.alloc (Ext.refl _) (.cells #[.int .i64 (W : Int), .int .i64 (H : Int)] 92)) (.cells #[.int .i64 k, .int .i64 m] 69))))
        clear HE HS HB HVS HPN
        by_cases k0 : k = 0
        · subst k0
          by_cases m0 : m = 0
          · subst m0
            have HN := Lib.hid (show readN ts (f + 1) W H ((0, 0) :: [], v, cs) = some ([], v, cs) by simp [readN])
            generalize readN ts (f + 1) W H ((0, 0) :: [], v, cs) = RN at *
            unfold rectV
            go_enter Try.func62, Try.ntmps62
            go_wp2_with fail
            go_ret
            exact rd_mk true rfl HF2.out (by rw [HN.out]; exact ⟨rfl, _, HVR.out, HS2.out⟩)
          · have HN := Lib.hid (show readN ts (f + 1) W H ((0, m) :: [], v, cs) = none by simp [readN, m0])
            generalize readN ts (f + 1) W H ((0, m) :: [], v, cs) = RN at *
            have hmb : (m == 0) = false := by simp [m0]
            clear m0
            unfold rectV
            go_enter Try.func62, Try.ntmps62
            go_wp2_with fail
            go_ret
            exact rd_mk false rfl HF2.out (by rw [HN.out]; rfl)
        · by_cases k1' : k = 1
          · subst k1'
            clear k0
            have HN := Lib.hid (show readN ts (f + 1) W H ((1, m) :: [], v, cs) = if takeB ts W H m = true then some ([], v + (ts.getD m.toNat (0, 0, 0)).2.2, bumpZ cs m.toNat) else none by simp [readN])
            generalize readN ts (f + 1) W H ((1, m) :: [], v, cs) = RN at *
            unfold rectV
            go_enter Try.func62, Try.ntmps62
            go_wp2_with fail
            generalize ((w.setCell ⟨g, 1, none⟩ (.slice (some ⟨pb, po, none⟩) 0 0)).alloc (.cells #[.int .i64 (W : Int), .int .i64 (H : Int)] 92)).alloc (.cells #[.int .i64 1, .int .i64 m] 69) = w2 at *
            refine (show Calls Try.prog 96 #[.pointer (some ⟨g, 0, none⟩), rectV (W : Int) (H : Int), .int .i64 m] w2 _ from take_c ts iv (.slice (some ⟨pb, po, none⟩) 0 0) w0 HVI.out HOK.out W H m v cs g c w2 HB2.out hgc HS2.out hcs (by omega) (fun x hx => by have := HCB.out x hx; omega)).mono ?_
            rintro e w3 ⟨rfl, hF3, hT⟩
            have HT := Lib.hid hT
            have HF3 := Lib.hid (HF2.out.trans hF3)
            clear hT hF3
            generalize takeB ts W H m = tb at *
            go_wp2_with fail
            go_ret
            refine rd_mk tb rfl HF3.out ?_
            rw [HN.out]
            cases tb with
            | false => rfl
            | true => exact ⟨rfl, _, HVR.out, HT.out rfl⟩
          · have HRC := Lib.hid (read_cases (ts := ts) (f := f) (m := m) (rest := []) (v := v) (cs := cs) k0 k1' hW hH)
            have hb0 : (k == 0) = false := by simp [k0]
            have hb1 : (k == 1) = false := by simp [k1']
            clear k0 k1'
            generalize readN ts (f + 1) W H ((k, m) :: [], v, cs) = RN at *
            unfold rectV
            go_enter Try.func62, Try.ntmps62
            go_wp2_with fail
            generalize ((w.setCell ⟨g, 1, none⟩ (.slice (some ⟨pb, po, none⟩) 0 0)).alloc (.cells #[.int .i64 (W : Int), .int .i64 (H : Int)] 92)).alloc (.cells #[.int .i64 k, .int .i64 m] 69) = w2 at *
            refine (show Calls Try.prog 97 #[rectV (W : Int) (H : Int), cutV k m] w2 _ from split_c W H k m w2 hW hH).mono ?_
            rintro e w3 ⟨rfl, hE3⟩
            have HS3 := Lib.hid (HS2.out.ext hE3)
            have HB3 := Lib.hid (Below.trans HB2.out (hE3.mono HB2.out.size))
            have HF3 := Lib.hid (HF2.out.trans (Frame2.of_ext hE3))
            clear hE3 HS2 HB2 HF2
            rcases HRC.out with ⟨e1, e2⟩ | ⟨W1, H1, W2, H2, x1, x2, x3, x4, e1, e2⟩
            · have E2 := Lib.hid e2
              rw [e1]
              clear e1 e2
              unfold rectV
              go_wp2_with fail
              go_ret
              exact rd_mk false rfl (HF3.out.trans (Frame2.of_ext (Ext.alloc (Ext.alloc (Ext.refl w3) _) _))) (by rw [E2.out]; rfl)
            · have E2 := Lib.hid e2
              rw [e1]
              have HLE := Lib.hid (And.intro x1 (And.intro x2 (And.intro x3 x4)))
              clear e1 e2 x1 x2 x3 x4
              unfold rectV
              have hE4 := Ext.alloc (Ext.alloc (Ext.refl w3) (.cells #[.int .i64 (W1 : Int), .int .i64 (H1 : Int)] 92)) (.cells #[.int .i64 (W2 : Int), .int .i64 (H2 : Int)] 92)
              have hs7 : (w3.alloc (.cells #[.int .i64 (W1 : Int), .int .i64 (H1 : Int)] 92)).heap.size = w3.heap.size + 1 := by simp
              have h7 := vrow_alloc (w3.alloc (.cells #[.int .i64 (W1 : Int), .int .i64 (H1 : Int)] 92)) [.int .i64 (W2 : Int), .int .i64 (H2 : Int)] 92
              rw [hs7] at h7
              have H7 := Lib.hid (show VRow ((w3.alloc (.cells #[.int .i64 (W1 : Int), .int .i64 (H1 : Int)] 92)).alloc (.cells #[.int .i64 (W2 : Int), .int .i64 (H2 : Int)] 92)) _ _ _ from h7)
              have HS4 := Lib.hid (HS3.out.ext hE4)
              have HB4 := Lib.hid (Below.trans HB3.out (hE4.mono HB3.out.size))
              have HF4 := Lib.hid (HF3.out.trans (Frame2.of_ext hE4))
              have hg3 : g < w3.heap.size := VRow.lt HS3.out.rg
              have hc3 : c < w3.heap.size := VRow.lt HS3.out.rc
              clear hE4 h7 HS3 HB3 HF3
              go_wp2_with fail
              clear hs7
              generalize w3.heap.size = s3 at *
              generalize (w3.alloc (.cells #[.int .i64 (W1 : Int), .int .i64 (H1 : Int)] 92)).alloc (.cells #[.int .i64 (W2 : Int), .int .i64 (H2 : Int)] 92) = w4 at *
              refine (show Calls Try.prog 62 #[.pointer (some ⟨g, 0, none⟩), rectV (W1 : Int) (H1 : Int)] w4 _ from IH.out W1 H1 [] v cs _ w4 HLE.out.1 HLE.out.2.1 (by first | omega | (simp only [List.length_nil]; omega)) HB4.out HS4.out HVR.out hcs (by first | omega | (simp only [List.length_nil]; omega)) (fun x hx => by have := HCB.out x hx; first | omega | (simp only [List.length_nil] at this ⊢; omega))).mono ?_
              rintro e w5 ⟨b, rfl, hF5, hP5⟩
              have H75 := Lib.hid (Frame2.vrow hF5 H7.out (by omega) (by omega))
              have HB5 := Lib.hid (Below.trans HB4.out (hF5.below hg hc HB4.out.size))
              have HF5 := Lib.hid (HF4.out.trans hF5)
              clear hF5
              cases hrn : readN ts f W1 H1 ([], v, cs) with
              | none =>
                rw [hrn] at hP5
                obtain rfl : b = false := hP5
                have HRN := Lib.hid hrn
                clear hrn
                go_wp2_with fail
                go_ret
                exact rd_mk false rfl HF5.out (by rw [E2.out, HRN.out]; rfl)
              | some s1 =>
                rw [hrn] at hP5
                obtain ⟨rfl, rv5, hv5, hr5⟩ := hP5
                have HOKS := Lib.hid (readN_ok HOK.out f W1 H1 _ _ hrn)
                have HRN := Lib.hid hrn
                have HV5 := Lib.hid hv5
                have HR5 := Lib.hid hr5
                clear hrn hv5 hr5
                have y0 := VRow.cell H75.out (k := 0) rfl
                have y1 := VRow.cell H75.out (k := 1) rfl
                go_wp2_with fail
                clear y0 y1
                obtain ⟨l1, v1, cs1⟩ := s1
                have hq := HOKS.out
                simp only at hq
                (try simp only [List.length_nil] at hq)
                refine (show Calls Try.prog 62 #[.pointer (some ⟨g, 0, none⟩), rectV (W2 : Int) (H2 : Int)] w5 _ from IH.out W2 H2 l1 v1 cs1 rv5 w5 HLE.out.2.2.1 HLE.out.2.2.2 (by omega) HB5.out HR5.out HV5.out (by omega) (by omega) (hq.2.2.2.2 1000000000 (fun x hx => by have := HCB.out x hx; omega) (by omega))).mono ?_
                rintro e w6 ⟨b2, rfl, hF6, hP6⟩
                have HP6 := Lib.hid hP6
                have HF6 := Lib.hid (HF5.out.trans hF6)
                clear hF6 hP6 hq
                go_wp2_with fail
                go_ret
                exact rd_mk b2 rfl HF6.out (by rw [E2.out, HRN.out]; exact HP6.out)
      · skip
        have HVR := Lib.hid (show Vecs w0 (.slice (some ⟨pb, (po + 2), none⟩) rest.length (cap - 1)) rest from by have h := vecs_tail HVS.out (po + 2) (.inl rfl) _ rfl; exact h)
        have HS2 := Lib.hid (show RSt (((w.setCell ⟨g, 1, none⟩ (.slice (some ⟨pb, (po + 2), none⟩) rest.length (cap - 1))).alloc (.cells #[.int .i64 (W : Int), .int .i64 (H : Int)] 92)).alloc (.cells #[.int .i64 k, .int .i64 m] 69)) g c iv (.slice (some ⟨pb, (po + 2), none⟩) rest.length (cap - 1)) v cs from ⟨((VRow.set HR.out.rg 1 (.slice (some ⟨pb, (po + 2), none⟩) rest.length (cap - 1))).alloc (.cells #[.int .i64 (W : Int), .int .i64 (H : Int)] 92)).alloc (.cells #[.int .i64 k, .int .i64 m] 69), ((VRow.setOther HR.out.rc (a := ⟨g, 1, none⟩) (by show c ≠ g; omega) (.slice (some ⟨pb, (po + 2), none⟩) rest.length (cap - 1))).alloc (.cells #[.int .i64 (W : Int), .int .i64 (H : Int)] 92)).alloc (.cells #[.int .i64 k, .int .i64 m] 69)⟩)
        have HB2 := Lib.hid (show Below w0.heap.size w0 (((w.setCell ⟨g, 1, none⟩ (.slice (some ⟨pb, (po + 2), none⟩) rest.length (cap - 1))).alloc (.cells #[.int .i64 (W : Int), .int .i64 (H : Int)] 92)).alloc (.cells #[.int .i64 k, .int .i64 m] 69)) from Ext.alloc (Ext.alloc (Below.setCell (p := ⟨g, 1, none⟩) HB.out hg (.slice (some ⟨pb, (po + 2), none⟩) rest.length (cap - 1))) (.cells #[.int .i64 (W : Int), .int .i64 (H : Int)] 92)) (.cells #[.int .i64 k, .int .i64 m] 69))
        have HF2 := Lib.hid (show Frame2 g c w (((w.setCell ⟨g, 1, none⟩ (.slice (some ⟨pb, (po + 2), none⟩) rest.length (cap - 1))).alloc (.cells #[.int .i64 (W : Int), .int .i64 (H : Int)] 92)).alloc (.cells #[.int .i64 k, .int .i64 m] 69)) from (Frame2.set w ⟨g, 1, none⟩ (.slice (some ⟨pb, (po + 2), none⟩) rest.length (cap - 1)) (.inl rfl)).trans (Frame2.of_ext (Ext.alloc (Ext.alloc (Ext.refl _) (.cells #[.int .i64 (W : Int), .int .i64 (H : Int)] 92)) (.cells #[.int .i64 k, .int .i64 m] 69))))
        clear HE HS HB HVS HPN
        by_cases k0 : k = 0
        · subst k0
          by_cases m0 : m = 0
          · subst m0
            have HN := Lib.hid (show readN ts (f + 1) W H ((0, 0) :: rest, v, cs) = some (rest, v, cs) by simp [readN])
            generalize readN ts (f + 1) W H ((0, 0) :: rest, v, cs) = RN at *
            unfold rectV
            go_enter Try.func62, Try.ntmps62
            go_wp2_with fail
            go_ret
            exact rd_mk true rfl HF2.out (by rw [HN.out]; exact ⟨rfl, _, HVR.out, HS2.out⟩)
          · have HN := Lib.hid (show readN ts (f + 1) W H ((0, m) :: rest, v, cs) = none by simp [readN, m0])
            generalize readN ts (f + 1) W H ((0, m) :: rest, v, cs) = RN at *
            have hmb : (m == 0) = false := by simp [m0]
            clear m0
            unfold rectV
            go_enter Try.func62, Try.ntmps62
            go_wp2_with fail
            go_ret
            exact rd_mk false rfl HF2.out (by rw [HN.out]; rfl)
        · by_cases k1' : k = 1
          · subst k1'
            clear k0
            have HN := Lib.hid (show readN ts (f + 1) W H ((1, m) :: rest, v, cs) = if takeB ts W H m = true then some (rest, v + (ts.getD m.toNat (0, 0, 0)).2.2, bumpZ cs m.toNat) else none by simp [readN])
            generalize readN ts (f + 1) W H ((1, m) :: rest, v, cs) = RN at *
            unfold rectV
            go_enter Try.func62, Try.ntmps62
            go_wp2_with fail
            generalize ((w.setCell ⟨g, 1, none⟩ (.slice (some ⟨pb, (po + 2), none⟩) rest.length (cap - 1))).alloc (.cells #[.int .i64 (W : Int), .int .i64 (H : Int)] 92)).alloc (.cells #[.int .i64 1, .int .i64 m] 69) = w2 at *
            refine (show Calls Try.prog 96 #[.pointer (some ⟨g, 0, none⟩), rectV (W : Int) (H : Int), .int .i64 m] w2 _ from take_c ts iv (.slice (some ⟨pb, (po + 2), none⟩) rest.length (cap - 1)) w0 HVI.out HOK.out W H m v cs g c w2 HB2.out hgc HS2.out hcs (by omega) (fun x hx => by have := HCB.out x hx; omega)).mono ?_
            rintro e w3 ⟨rfl, hF3, hT⟩
            have HT := Lib.hid hT
            have HF3 := Lib.hid (HF2.out.trans hF3)
            clear hT hF3
            generalize takeB ts W H m = tb at *
            go_wp2_with fail
            go_ret
            refine rd_mk tb rfl HF3.out ?_
            rw [HN.out]
            cases tb with
            | false => rfl
            | true => exact ⟨rfl, _, HVR.out, HT.out rfl⟩
          · have HRC := Lib.hid (read_cases (ts := ts) (f := f) (m := m) (rest := rest) (v := v) (cs := cs) k0 k1' hW hH)
            have hb0 : (k == 0) = false := by simp [k0]
            have hb1 : (k == 1) = false := by simp [k1']
            clear k0 k1'
            generalize readN ts (f + 1) W H ((k, m) :: rest, v, cs) = RN at *
            unfold rectV
            go_enter Try.func62, Try.ntmps62
            go_wp2_with fail
            generalize ((w.setCell ⟨g, 1, none⟩ (.slice (some ⟨pb, (po + 2), none⟩) rest.length (cap - 1))).alloc (.cells #[.int .i64 (W : Int), .int .i64 (H : Int)] 92)).alloc (.cells #[.int .i64 k, .int .i64 m] 69) = w2 at *
            refine (show Calls Try.prog 97 #[rectV (W : Int) (H : Int), cutV k m] w2 _ from split_c W H k m w2 hW hH).mono ?_
            rintro e w3 ⟨rfl, hE3⟩
            have HS3 := Lib.hid (HS2.out.ext hE3)
            have HB3 := Lib.hid (Below.trans HB2.out (hE3.mono HB2.out.size))
            have HF3 := Lib.hid (HF2.out.trans (Frame2.of_ext hE3))
            clear hE3 HS2 HB2 HF2
            rcases HRC.out with ⟨e1, e2⟩ | ⟨W1, H1, W2, H2, x1, x2, x3, x4, e1, e2⟩
            · have E2 := Lib.hid e2
              rw [e1]
              clear e1 e2
              unfold rectV
              go_wp2_with fail
              go_ret
              exact rd_mk false rfl (HF3.out.trans (Frame2.of_ext (Ext.alloc (Ext.alloc (Ext.refl w3) _) _))) (by rw [E2.out]; rfl)
            · have E2 := Lib.hid e2
              rw [e1]
              have HLE := Lib.hid (And.intro x1 (And.intro x2 (And.intro x3 x4)))
              clear e1 e2 x1 x2 x3 x4
              unfold rectV
              have hE4 := Ext.alloc (Ext.alloc (Ext.refl w3) (.cells #[.int .i64 (W1 : Int), .int .i64 (H1 : Int)] 92)) (.cells #[.int .i64 (W2 : Int), .int .i64 (H2 : Int)] 92)
              have hs7 : (w3.alloc (.cells #[.int .i64 (W1 : Int), .int .i64 (H1 : Int)] 92)).heap.size = w3.heap.size + 1 := by simp
              have h7 := vrow_alloc (w3.alloc (.cells #[.int .i64 (W1 : Int), .int .i64 (H1 : Int)] 92)) [.int .i64 (W2 : Int), .int .i64 (H2 : Int)] 92
              rw [hs7] at h7
              have H7 := Lib.hid (show VRow ((w3.alloc (.cells #[.int .i64 (W1 : Int), .int .i64 (H1 : Int)] 92)).alloc (.cells #[.int .i64 (W2 : Int), .int .i64 (H2 : Int)] 92)) _ _ _ from h7)
              have HS4 := Lib.hid (HS3.out.ext hE4)
              have HB4 := Lib.hid (Below.trans HB3.out (hE4.mono HB3.out.size))
              have HF4 := Lib.hid (HF3.out.trans (Frame2.of_ext hE4))
              have hg3 : g < w3.heap.size := VRow.lt HS3.out.rg
              have hc3 : c < w3.heap.size := VRow.lt HS3.out.rc
              clear hE4 h7 HS3 HB3 HF3
              go_wp2_with fail
              clear hs7
              generalize w3.heap.size = s3 at *
              generalize (w3.alloc (.cells #[.int .i64 (W1 : Int), .int .i64 (H1 : Int)] 92)).alloc (.cells #[.int .i64 (W2 : Int), .int .i64 (H2 : Int)] 92) = w4 at *
              refine (show Calls Try.prog 62 #[.pointer (some ⟨g, 0, none⟩), rectV (W1 : Int) (H1 : Int)] w4 _ from IH.out W1 H1 rest v cs _ w4 HLE.out.1 HLE.out.2.1 (by first | omega | (simp only [List.length_nil]; omega)) HB4.out HS4.out HVR.out hcs (by first | omega | (simp only [List.length_nil]; omega)) (fun x hx => by have := HCB.out x hx; first | omega | (simp only [List.length_nil] at this ⊢; omega))).mono ?_
              rintro e w5 ⟨b, rfl, hF5, hP5⟩
              have H75 := Lib.hid (Frame2.vrow hF5 H7.out (by omega) (by omega))
              have HB5 := Lib.hid (Below.trans HB4.out (hF5.below hg hc HB4.out.size))
              have HF5 := Lib.hid (HF4.out.trans hF5)
              clear hF5
              cases hrn : readN ts f W1 H1 (rest, v, cs) with
              | none =>
                rw [hrn] at hP5
                obtain rfl : b = false := hP5
                have HRN := Lib.hid hrn
                clear hrn
                go_wp2_with fail
                go_ret
                exact rd_mk false rfl HF5.out (by rw [E2.out, HRN.out]; rfl)
              | some s1 =>
                rw [hrn] at hP5
                obtain ⟨rfl, rv5, hv5, hr5⟩ := hP5
                have HOKS := Lib.hid (readN_ok HOK.out f W1 H1 _ _ hrn)
                have HRN := Lib.hid hrn
                have HV5 := Lib.hid hv5
                have HR5 := Lib.hid hr5
                clear hrn hv5 hr5
                have y0 := VRow.cell H75.out (k := 0) rfl
                have y1 := VRow.cell H75.out (k := 1) rfl
                go_wp2_with fail
                clear y0 y1
                obtain ⟨l1, v1, cs1⟩ := s1
                have hq := HOKS.out
                simp only at hq
                (try simp only [List.length_nil] at hq)
                refine (show Calls Try.prog 62 #[.pointer (some ⟨g, 0, none⟩), rectV (W2 : Int) (H2 : Int)] w5 _ from IH.out W2 H2 l1 v1 cs1 rv5 w5 HLE.out.2.2.1 HLE.out.2.2.2 (by omega) HB5.out HR5.out HV5.out (by omega) (by omega) (hq.2.2.2.2 1000000000 (fun x hx => by have := HCB.out x hx; omega) (by omega))).mono ?_
                rintro e w6 ⟨b2, rfl, hF6, hP6⟩
                have HP6 := Lib.hid hP6
                have HF6 := Lib.hid (HF5.out.trans hF6)
                clear hF6 hP6 hq
                go_wp2_with fail
                go_ret
                exact rd_mk b2 rfl HF6.out (by rw [E2.out, HRN.out]; exact HP6.out)
end Go.Proofs.Ytnpebfchojalcaa
