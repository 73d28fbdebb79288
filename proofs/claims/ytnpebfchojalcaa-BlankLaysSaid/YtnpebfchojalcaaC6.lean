import Derived.Test.YtnpebfchojalcaaC5
import Derived.Maps.AppendAt
namespace Go.Proofs.Ytnpebfchojalcaa
set_option maxRecDepth 100000
open Go.RowKit Go.Shelf
theorem info69 : (Try.prog.info? 69).map (fun i => (i.zero, i.size, i.bytes)) = some (some (.agg #[.int .i64 0, .int .i64 0]), 2, 16) := by kernel_rfl
/-- the plan of a rectangle by the choices -/
def planN (ts : List It) : Nat → Nat → Nat → List Ct
  | 0, _, _ => []
  | f + 1, W, H => ((bestC ts W H).2.1, (bestC ts W H).2.2) ::
      (if (bestC ts W H).2.1 = 2 then planN ts f (bestC ts W H).2.2.toNat H ++ planN ts f (W - (bestC ts W H).2.2.toNat) H
       else if (bestC ts W H).2.1 = 3 then planN ts f W (bestC ts W H).2.2.toNat ++ planN ts f W (H - (bestC ts W H).2.2.toNat) else [])
/-- where an own row may have gone -/
def GoneTo (w : World) (v v' : Value) : Prop := v'.ownBlock = v.ownBlock ∨ ∃ g, v'.ownBlock = some g ∧ w.heap.size ≤ g
theorem GoneTo.trans {w w1 : World} {v v1 v2 : Value} (h : GoneTo w v v1) (hs : w.heap.size ≤ w1.heap.size) (k : GoneTo w1 v1 v2) : GoneTo w v v2 := by
  rcases k with k | ⟨g, k1, k2⟩
  · rcases h with h | ⟨g, h1, h2⟩
    · exact .inl (k.trans h)
    · exact .inr ⟨g, k.trans h1, h2⟩
  · exact .inr ⟨g, k1, by omega⟩
theorem grown_trans2 {w w1 w2 : World} {v v1 : Value} (h : w.grownBy w1 v.ownBlock) (hat : GoneTo w v v1) (k : w1.grownBy w2 v1.ownBlock) : w.grownBy w2 v.ownBlock :=
  ⟨k.os.trans h.os, k.tape.trans h.tape, k.output.trans h.output, Nat.le_trans h.size k.size, fun i hi hne => by
    refine (k.block i (Nat.lt_of_lt_of_le hi h.size) ?_).trans (h.block i hi hne)
    rcases hat with e | ⟨g, e, hg⟩
    · rw [e]; exact hne
    · rw [e]; intro e2; injection e2 with e2; omega⟩
theorem grown_ext2 {w w1 w2 : World} {r : Option Nat} (h : w.grownBy w1 r) (k : Ext w1 w2) : w.grownBy w2 r :=
  ⟨k.os.trans h.os, k.tape.trans h.tape, k.output.trans h.output, Nat.le_trans h.size k.size, fun i hi hne => (k.block i (Nat.lt_of_lt_of_le hi h.size)).trans (h.block i hi hne)⟩
theorem ext_grown {w w1 w2 : World} {r : Option Nat} (h : Ext w w1) (k : w1.grownBy w2 r) : w.grownBy w2 r :=
  ⟨k.os.trans h.os, k.tape.trans h.tape, k.output.trans h.output, Nat.le_trans h.size k.size, fun i hi hne => (k.block i (Nat.lt_of_lt_of_le hi h.size) hne).trans (h.block i hi)⟩
theorem own_lt {w : World} {base : Nat} {e : TypeId} {sz n g : Nat} {v : Value} {xs : List Value} (h : w.ownsRow base e sz v n xs) (hg : v.ownBlock = some g) : g < w.heap.size := by
  rcases h.2 with ⟨h, _⟩ | ⟨g', cap, cur, hv, hb, hc, _⟩
  · subst h; cases hg
  · subst hv; simp [Value.ownBlock] at hg; subst hg; exact (Array.getElem?_eq_some_iff.1 hc).1
theorem own_slice {w : World} {base : Nat} {e : TypeId} {sz n : Nat} {v : Value} {xs : List Value} (h : w.ownsRow base e sz v n xs) : ∃ a cap, v = .slice a n cap := by
  rcases h.2 with ⟨h, h0⟩ | ⟨g', cap, cur, hv, _⟩
  · exact ⟨none, 0, by rw [h, h0]⟩
  · exact ⟨_, _, hv⟩
theorem own_below {w w' : World} {base : Nat} {e : TypeId} {sz n : Nat} {v : Value} {xs : List Value} (h : w.ownsRow base e sz v n xs) (hg : w.grownBy w' v.ownBlock) (hb : base ≤ w.heap.size) : Below base w w' :=
  ⟨hg.os, hg.tape, hg.output, hg.size, fun i hi => hg.block i (by omega) (fun e => by have := own_block h e.symm; omega)⟩
/-- what a choice's step leads to -/
theorem plan_cases {ts : List It} {f W H : Nat} {c : It} {V : Nat → Nat → Int} (hc : IsChoice ts V W H c) (hf : W + H < f + 1) {PL : List Ct}
    (hPL : PL = (c.2.1, c.2.2) :: (if c.2.1 = 2 then planN ts f c.2.2.toNat H ++ planN ts f (W - c.2.2.toNat) H else if c.2.1 = 3 then planN ts f W c.2.2.toNat ++ planN ts f W (H - c.2.2.toNat) else [])) :
    (PL = [(c.2.1, c.2.2)] ∧ splitV W H c.2.1 c.2.2 = .tuple #[rectV 0 0, rectV 0 0, .bool false]) ∨
    ∃ W1 H1 W2 H2 : Nat, W1 + H1 < f ∧ W2 + H2 < f ∧ W1 ≤ W ∧ H1 ≤ H ∧ W2 ≤ W ∧ H2 ≤ H ∧ PL = (c.2.1, c.2.2) :: (planN ts f W1 H1 ++ planN ts f W2 H2) ∧ splitV W H c.2.1 c.2.2 = .tuple #[rectV W1 H1, rectV W2 H2, .bool true] := by
  rcases hc with e | ⟨j, hj, hfit, e⟩ | ⟨x, h1, h2, e⟩ | ⟨y, h1, h2, e⟩
  · subst e
    left
    rw [hPL]
    exact ⟨by simp, by simp [splitV]⟩
  · subst e
    left
    rw [hPL]
    exact ⟨by simp, by simp [splitV]⟩
  · subst e
    right
    refine ⟨x, H, W - x, H, by omega, by omega, by omega, by omega, by omega, by omega, ?_, ?_⟩
    · rw [hPL]; simp
    · unfold splitV
      rw [if_pos ⟨rfl, by simp only; omega, by simp only; omega⟩, show ((W - x : Nat) : Int) = (W : Int) - (x : Int) by omega]
  · subst e
    right
    refine ⟨W, y, W, H - y, by omega, by omega, by omega, by omega, by omega, by omega, ?_, ?_⟩
    · rw [hPL]; simp
    · unfold splitV
      rw [if_neg (fun h => by have := h.1; simp at this), if_pos ⟨rfl, by simp only; omega, by simp only; omega⟩, show ((H - y : Nat) : Int) = (H : Int) - (y : Int) by omega]
set_option maxHeartbeats 4000000 in
theorem appendPlan_c (ts : List It) (T0 oT nT cT W0 H0 : Nat) (w0 : World) (hW0 : W0 ≤ 100) (hH0 : H0 ≤ 100)
    (hT : ∀ a b, a ≤ W0 → b ≤ H0 → Entry w0 (.slice (some ⟨T0, oT, none⟩) nT cT) a b (bestC ts a b)) :
    ∀ (f W H : Nat) (v : Value) (n : Nat) (xs : List Ct) (w : World), W + H < f → W ≤ W0 → H ≤ H0 → Below w0.heap.size w0 w → w.ownsRow w0.heap.size 69 2 v n (cellsOf xs) → n + (planN ts f W H).length ≤ 100000 →
    Calls Try.prog 67 #[.slice (some ⟨T0, oT, none⟩) nT cT, v, rectV W H] w fun e w' => ∃ v', e = .returned v' ∧ w'.ownsRow w0.heap.size 69 2 v' (n + (planN ts f W H).length) (cellsOf (xs ++ planN ts f W H)) ∧ w.grownBy w' v.ownBlock ∧ GoneTo w v v' := by
  have HT := Lib.hid hT
  clear hT
  intro f
  induction f with
  | zero => intro W H v n xs w hf; omega
  | succ f ih =>
    intro W H v n xs w hf hW hH hb hown hn
    obtain ⟨a, cap, rfl⟩ := own_slice hown
    have IH := Lib.hid ih
    have HB := Lib.hid hb
    have HO := Lib.hid hown
    have HIS := Lib.hid (bestC_is ts W H)
    have HPL := Lib.hid (show planN ts (f + 1) W H = ((bestC ts W H).2.1, (bestC ts W H).2.2) ::
      (if (bestC ts W H).2.1 = 2 then planN ts f (bestC ts W H).2.2.toNat H ++ planN ts f (W - (bestC ts W H).2.2.toNat) H
       else if (bestC ts W H).2.1 = 3 then planN ts f W (bestC ts W H).2.2.toNat ++ planN ts f W (H - (bestC ts W H).2.2.toNat) else []) from rfl)
    have HN := Lib.hid hn
    have hsz := hb.size
    have hEA := Ext.alloc (Ext.refl w) (.cells #[.int .i64 (W : Int), .int .i64 (H : Int)] 92)
    have HEN := Lib.hid ((HT.out W H hW hH).ext (Below.trans hb (hEA.mono hsz)))
    have HEA := Lib.hid hEA
    have HRA := Lib.hid (show VRow (w.alloc (.cells #[.int .i64 (W : Int), .int .i64 (H : Int)] 92)) _ _ _ from vrow_alloc w [.int .i64 (W : Int), .int .i64 (H : Int)] 92)
    have HOA := Lib.hid (ownsRow_ext hown hEA)
    clear ih hb hown hn hEA
    generalize planN ts (f + 1) W H = PL at *
    generalize bestC ts W H = c at *
    obtain ⟨c1, c2, c3⟩ := c
    have hfs := field_step c1 c2 c3
    obtain ⟨i0, hi, hz0, hz1, hz2⟩ := info_parts info69
    have HI := Lib.hid hi
    have HZ0 := Lib.hid hz0
    have HZ1 := Lib.hid hz1
    have HZ2 := Lib.hid hz2
    clear hi hz0 hz1 hz2
    have hn0 : n ≤ 100000 := by have := HN.out; omega
    unfold rectV
    go_enter Try.func67, Try.ntmps67
    go_wp2_with fail
    generalize hs0 : w.heap.size = s0 at *
    have HS0 := Lib.hid hs0
    clear hs0
    generalize w.alloc (.cells #[.int .i64 (W : Int), .int .i64 (H : Int)] 92) = wA at *
    refine (show Calls Try.prog 66 #[.slice (some ⟨T0, oT, none⟩) nT cT, rectV (W : Int) (H : Int)] wA _ from of_c _ W H (c1, c2, c3) wA HEN.out).mono ?_
    rintro e wB ⟨rfl, hEB⟩
    have HEB := Lib.hid (Ext.trans HEA.out hEB)
    have HRB := Lib.hid (VRow.ext HRA.out hEB)
    have HOB := Lib.hid (ownsRow_ext HOA.out hEB)
    clear hEB HEA HRA HOA HEN
    unfold tripV
    have hEC := Ext.alloc (Ext.refl wB) (.cells #[.int .i64 c2, .int .i64 c3] 69)
    have hED := Ext.alloc hEC (.cells #[.int .i64 c2, .int .i64 c3] 69)
    have HED := Lib.hid (Ext.trans HEB.out hED)
    have HRD := Lib.hid (VRow.ext HRB.out hED)
    have HOD := Lib.hid (ownsRow_ext HOB.out hED)
    have HCD := Lib.hid (show VRow ((wB.alloc (.cells #[.int .i64 c2, .int .i64 c3] 69)).alloc (.cells #[.int .i64 c2, .int .i64 c3] 69)) _ _ _ from (vrow_alloc wB [.int .i64 c2, .int .i64 c3] 69).alloc (.cells #[.int .i64 c2, .int .i64 c3] 69))
    have hsB : s0 < wB.heap.size := VRow.lt HRB.out
    have hsD : ((wB.alloc (.cells #[.int .i64 c2, .int .i64 c3] 69)).alloc (.cells #[.int .i64 c2, .int .i64 c3] 69)).heap.size = wB.heap.size + 2 := by simp
    clear hEC hED
    go_wp2_with (at_builtin; refine wpList_append_own_at _ rfl _ _ 42 rfl w0.heap.size 69 i0 (.agg #[.int .i64 0, .int .i64 0]) 2 16 Try.underlying42 HI.out HZ0.out HZ1.out HZ2.out rfl (by decide) _ _ _ rfl HOD.out ⟨wB.heap.size + 1, 0, none⟩ 1 1 [.int .i64 c2, .int .i64 c3] rfl rfl (fun j u h => by have := cell_two_new (wB.alloc (.cells #[.int .i64 c2, .int .i64 c3] 69)) (.int .i64 c2) (.int .i64 c3) 69 j u h; simpa using this) (by simp [Value.oneCell']) (by unfold maxLen; omega) (by omega) (by rw [hsD]; omega) ?_; intro v1 wE hown1 hgrow1 hnil1 hat1; obtain ⟨a1, cap1, rfl⟩ := own_slice hown1; have hRE := VRow.grown HRD.out hgrow1 (by intro e; have := own_lt HO.out e.symm; rw [HS0.out] at this; omega); have hCE := VRow.grown HCD.out hgrow1 (by intro e; have := own_lt HO.out e.symm; rw [HS0.out] at this; omega); have r0 := VRow.cell hRE (k := 0) rfl; have r1 := VRow.cell hRE (k := 1) rfl; have q0 := VRow.cell hCE (k := 0) rfl; have q1 := VRow.cell hCE (k := 1) rfl; have HO1 := Lib.hid hown1; have HG1 := Lib.hid hgrow1; have HAT1 := Lib.hid hat1; clear hown1 hgrow1 hnil1 hat1 hRE hCE hfs)
    clear r0 r1 q0 q1
    refine (show Calls Try.prog 97 #[rectV (W : Int) (H : Int), cutV c2 c3] wE _ from split_c W H c2 c3 wE (by omega) (by omega)).mono ?_
    rintro e wF ⟨rfl, hEF⟩
    have G1 := Lib.hid (grown_ext2 (ext_grown HED.out HG1.out) hEF)
    have HO1 := Lib.hid (ownsRow_ext HO1.out hEF)
    have hg1 : ∀ g, (Value.slice a1 (n + 1) cap1).ownBlock = some g → g < wF.heap.size := fun g hg => own_lt HO1.out hg
    have GT1 := Lib.hid (show GoneTo w (.slice a n cap) (.slice a1 (n + 1) cap1) by
      rcases HAT1.out with e | e
      · exact .inl e
      · exact .inr ⟨_, e, by rw [hsD, HS0.out]; omega⟩)
    clear hEF HAT1 HG1 HOD HCD HRD HED HOB HRB HEB hsD
    rcases plan_cases HIS.out hf HPL.out with ⟨e1, e2⟩ | ⟨W1, H1, W2, H2, b1, b2, b3, b4, b5, b6, e1, e2⟩
    · have E1 := Lib.hid e1
      have E2 := Lib.hid e2
      clear e1 e2
      rw [show splitV W H c2 c3 = _ from E2.out]
      unfold rectV
      go_wp2_with fail
      go_ret
      have hx := Ext.alloc (Ext.alloc (Ext.refl wF) (.cells #[.int .i64 0, .int .i64 0] 92)) (.cells #[.int .i64 0, .int .i64 0] 92)
      refine ⟨_, rfl, ?_, grown_ext2 G1.out hx, GT1.out⟩
      have h := ownsRow_ext HO1.out hx
      rw [E1.out, cellsOf_append]
      exact h
    · have E1 := Lib.hid e1
      have E2 := Lib.hid e2
      have HX := Lib.hid (And.intro b1 (And.intro b2 (And.intro b3 (And.intro b4 (And.intro b5 b6)))))
      clear e1 e2 b1 b2 b3 b4 b5 b6
      rw [show splitV W H c2 c3 = _ from E2.out]
      unfold rectV
      have hEG := Ext.alloc (Ext.alloc (Ext.refl wF) (.cells #[.int .i64 (W1 : Int), .int .i64 (H1 : Int)] 92)) (.cells #[.int .i64 (W2 : Int), .int .i64 (H2 : Int)] 92)
      have hs8 : (wF.alloc (.cells #[.int .i64 (W1 : Int), .int .i64 (H1 : Int)] 92)).heap.size = wF.heap.size + 1 := by simp
      have h9 := vrow_alloc (wF.alloc (.cells #[.int .i64 (W1 : Int), .int .i64 (H1 : Int)] 92)) [.int .i64 (W2 : Int), .int .i64 (H2 : Int)] 92
      rw [hs8] at h9
      have H9 := Lib.hid (show VRow ((wF.alloc (.cells #[.int .i64 (W1 : Int), .int .i64 (H1 : Int)] 92)).alloc (.cells #[.int .i64 (W2 : Int), .int .i64 (H2 : Int)] 92)) _ _ _ from h9)
      have HOG := Lib.hid (ownsRow_ext HO1.out hEG)
      have G2 := Lib.hid (grown_ext2 G1.out hEG)
      clear hEG h9 G1 HO1
      go_wp2_with fail
      clear hs8
      generalize (wF.alloc (.cells #[.int .i64 (W1 : Int), .int .i64 (H1 : Int)] 92)).alloc (.cells #[.int .i64 (W2 : Int), .int .i64 (H2 : Int)] 92) = wG at *
      have hlen : (planN ts f W1 H1).length + (planN ts f W2 H2).length + 1 = PL.length := by rw [E1.out, List.length_cons, List.length_append]
      have hNN := HN.out
      have hX := HX.out
      refine (show Calls Try.prog 67 #[.slice (some ⟨T0, oT, none⟩) nT cT, .slice a1 (n + 1) cap1, rectV (W1 : Int) (H1 : Int)] wG _ from IH.out W1 H1 _ (n + 1) (xs ++ [(c2, c3)]) wG hX.1 (by omega) (by omega) (Below.trans HB.out (own_below HO.out G2.out (by rw [HS0.out]; exact hsz))) (by rw [cellsOf_append]; exact HOG.out) (by omega)).mono ?_
      rintro e wH ⟨v2, rfl, hown2, hgrow2, hat2⟩
      obtain ⟨a2, cap2, rfl⟩ := own_slice hown2
      have HO2 := Lib.hid hown2
      have hR9 := VRow.grown H9.out hgrow2 (by intro e; have := hg1 _ e.symm; omega)
      have k0 := VRow.cell hR9 (k := 0) rfl
      have k1 := VRow.cell hR9 (k := 1) rfl
      have hGs := G2.out.size
      have G3 := Lib.hid (grown_trans2 G2.out GT1.out hgrow2)
      have GT2 := Lib.hid (GT1.out.trans hGs hat2)
      clear hown2 hgrow2 hat2 hR9 hNN hX hGs
      go_wp2_with fail
      clear k0 k1
      have hNN := HN.out
      have hX := HX.out
      refine (show Calls Try.prog 67 #[.slice (some ⟨T0, oT, none⟩) nT cT, .slice a2 (n + 1 + (planN ts f W1 H1).length) cap2, rectV (W2 : Int) (H2 : Int)] wH _ from IH.out W2 H2 _ (n + 1 + (planN ts f W1 H1).length) (xs ++ [(c2, c3)] ++ planN ts f W1 H1) wH hX.2.1 (by omega) (by omega) (Below.trans HB.out (own_below HO.out G3.out (by rw [HS0.out]; exact hsz))) HO2.out (by omega)).mono ?_
      rintro e wI ⟨v3, rfl, hown3, hgrow3, hat3⟩
      have HO3 := Lib.hid hown3
      have hGs := G3.out.size
      have G4 := Lib.hid (grown_trans2 G3.out GT2.out hgrow3)
      have GT3 := Lib.hid (GT2.out.trans hGs hat3)
      clear hown3 hgrow3 hat3 hNN hX hGs
      go_wp2_with fail
      go_ret
      refine ⟨_, rfl, ?_, G4.out, GT3.out⟩
      have h := HO3.out
      rw [show n + PL.length = n + 1 + (planN ts f W1 H1).length + (planN ts f W2 H2).length by omega, E1.out, show xs ++ (c2, c3) :: (planN ts f W1 H1 ++ planN ts f W2 H2) = xs ++ [(c2, c3)] ++ planN ts f W1 H1 ++ planN ts f W2 H2 by simp]
      exact h
end Go.Proofs.Ytnpebfchojalcaa
