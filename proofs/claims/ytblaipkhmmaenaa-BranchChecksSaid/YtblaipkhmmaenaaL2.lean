import Derived.RangeFuncNested
import Derived.RangeFuncBound
import Derived.RangeFuncCalls
import Derived.RangeFuncLeaves
import Derived.Shelf.Abstract
import Derived.Shelf.RegionOpen
import Derived.OwnWalkIn
import Derived.TacticsInMore
import Derived.LoopNIn
import Derived.LoopIn
import Derived.Test.YtblaipkhmmaenaaL1
import Derived.Test.YtblaipkhmmaenaaB3
namespace Go.Proofs.Ytblaipkhmmaenaa
open Go.RowKit
attribute [local go_sem] Oper.semAt_some
/-- the numbers that a block holds -/
def readRow (w : World) (g : Nat) : List Int := match w.heap[g]? with
  | some (.cells cs _ _) => cs.toList.map intOf
  | _ => []
theorem readRow_of {w : World} {g : Nat} {t : TypeId} {x : List Int} (h : IRow w g t x) : readRow w g = x := by
  unfold readRow
  rw [show w.heap[g]? = _ from h]
  simp [Function.comp_def, intOf]
theorem whoP {p : Who} (h : whoB p = true) : p.C.length ≤ 5 ∧ p.U.length = p.C.length ∧ (∀ y ∈ p.U, 0 ≤ y ∧ y ≤ 7) ∧ programB p.prg = true := by
  simp only [whoB, Bool.and_eq_true, decide_eq_true_eq] at h
  refine ⟨h.1.1.1, h.1.1.2, ?_, h.2⟩
  intro y hy
  have h2 := h.1.2
  rw [List.all_eq_true] at h2
  have := h2 y hy
  simpa [upB] using this
theorem vecAt_bd : ∀ (U : List Int) (k : Nat), (∀ y ∈ U, 0 ≤ y ∧ y ≤ 7) → k < sizeU U → ∀ y ∈ vecAt U k, 0 ≤ y ∧ y ≤ 7
  | [], _, _, _, y, hy => by simp [vecAt] at hy
  | u :: us, k, hU, h, y, hy => by
    have hm := sizeU_pos us
    have hd : k / sizeU us < u.toNat + 1 := by
      rw [Nat.div_lt_iff_lt_mul hm]; exact h
    have hu := hU u (by simp)
    simp only [vecAt, List.mem_cons] at hy
    rcases hy with rfl | hy
    · clear h
      generalize k / sizeU us = q at *
      omega
    · exact vecAt_bd us _ (fun z hz => hU z (by simp [hz])) (Nat.mod_lt _ hm) y hy
/-- products stay small in a box -/
theorem dot_small (n : Nat) (m : Int) (hm : 0 ≤ m) (hm2 : m ≤ 1000) (r x : List Int) (hr : ∀ y ∈ r, -m ≤ y ∧ y ≤ m) (hx : ∀ y ∈ x, 0 ≤ y ∧ y ≤ 7) (hl : r.length ≤ n) (hn : n ≤ 6) : -42000 ≤ dotZ r x ∧ dotZ r x ≤ 42000 := by
  have := dotZ_bd m 7 hm (by omega) r x hr (fun y hy => by have := hx y hy; omega)
  have h2 : (r.length : Int) * (m * 7) ≤ 6 * (m * 7) := Int.mul_le_mul_of_nonneg_right (by omega) (by omega)
  omega
theorem wrap_small {z : Int} (h : -42000 ≤ z ∧ z ≤ 42000) : wrap64 z = z := by unfold wrap64; omega
theorem row_small {p : Who} (hv : whoB p = true) {x : List Int} (hx : ∀ y ∈ x, 0 ≤ y ∧ y ≤ 7) : ∀ r ∈ p.A, -42000 ≤ dotZ r x ∧ dotZ r x ≤ 42000 := by
  intro r hr
  obtain ⟨h5, _, _, hp⟩ := whoP hv
  have hl := (pB hp).2.2.2 r hr
  have hrow : r.all (withinB 30) = true := by
    simp only [programB, equationsB, rowsB, Bool.and_eq_true] at hp
    have h9 := hp.1.1.2
    rw [List.all_eq_true] at h9
    have := h9 r hr
    simp only [rowB, Bool.and_eq_true] at this
    exact this.2
  exact dot_small 5 30 (by omega) (by omega) r x (withinAll hrow) hx (by have : r.length = p.C.length := hl; omega) (by omega)
theorem cost_small {p : Who} (hv : whoB p = true) {x : List Int} (hx : ∀ y ∈ x, 0 ≤ y ∧ y ≤ 7) : -42000 ≤ dotZ p.C x ∧ dotZ p.C x ≤ 42000 := by
  obtain ⟨h5, _, _, hp⟩ := whoP hv
  have hC : ∀ c ∈ p.C, -1000 ≤ c ∧ c ≤ 1000 := by
    simp only [programB, costsB, Bool.and_eq_true] at hp
    exact withinAll hp.2.2
  exact dot_small 5 1000 (by omega) (by omega) p.C x hC hx h5 (by omega)
theorem inBox_bd : ∀ (U x : List Int), (∀ y ∈ U, 0 ≤ y ∧ y ≤ 7) → inBox U x → ∀ y ∈ x, 0 ≤ y ∧ y ≤ 7
  | [], [], _, _, y, hy => by simp at hy
  | u :: us, x :: xs, hU, h, y, hy => by
    have hu := hU u (by simp)
    simp only [List.mem_cons] at hy
    rcases hy with rfl | hy
    · exact ⟨h.1, by have := h.2.1; omega⟩
    · exact inBox_bd us xs (fun z hz => hU z (by simp [hz])) h.2.2 y hy
def isTrue : Value → Bool
  | .bool b => b
  | _ => false
def leftK (U : List Int) (g : Nat) (m : Value) (w : World) : Nat := if isTrue m = true then sizeU U - rankU U (readRow w g) else 0
abbrev yesK (p : Who) (k : Nat) : Prop := satB p (vecAt p.U k) = true
abbrev layK (p : Who) (b k : Nat) (W : World) : Prop := IRow W b 3 (vecAt p.U k)
abbrev encK (p : Who) (b k : Nat) : Array Value := #[.slice (some ⟨b, 0, none⟩) p.U.length p.U.length, .int .i64 (dotZ p.C (vecAt p.U k))]
theorem adv_next (p : Who) (k : Nat) (hlt : k < sizeU p.U) : (adv (vecAt p.U k) p.U).isSome = decide (k + 1 < sizeU p.U) ∧ (k + 1 < sizeU p.U → (adv (vecAt p.U k) p.U).getD (List.replicate p.U.length 0) = vecAt p.U (k + 1)) := by
  rw [adv_vecAt p.U k hlt]
  by_cases h : k + 1 < sizeU p.U
  · simp [h]
  · simp [h]
theorem left_less (p : Who) (g k : Nat) (wr w2 : World) (hlt : k < sizeU p.U) (hx : IRow wr g 3 (vecAt p.U k)) (hx2 : k + 1 < sizeU p.U → IRow w2 g 3 (vecAt p.U (k + 1))) :
    leftK p.U g (.bool (decide (k + 1 < sizeU p.U))) w2 < leftK p.U g (.bool true) wr := by
  have e1 : leftK p.U g (.bool true) wr = sizeU p.U - k := by simp [leftK, isTrue, readRow_of hx, rank_vecAt p.U k hlt]
  rw [e1]
  by_cases h : k + 1 < sizeU p.U
  · have e2 : leftK p.U g (.bool (decide (k + 1 < sizeU p.U))) w2 = sizeU p.U - (k + 1) := by simp [leftK, isTrue, h, readRow_of (hx2 h), rank_vecAt p.U (k + 1) h]
    rw [e2]; omega
  · have e2 : leftK p.U g (.bool (decide (k + 1 < sizeU p.U))) w2 = 0 := by simp [leftK, isTrue, h]
    rw [e2]; omega
set_option maxRecDepth 100000 in
set_option maxHeartbeats 2000000 in
theorem iter_c (n : Nat) (hn : 1 ≤ n) (l bw : Nat) (a b c u : Value) (p : Who) (w0 w W : World) (hp : WhoAt w0 a b c u p) (hv : whoB p = true) (hE : Ext w0 w) (hbox : VRow w bw 25 [a, b, c, u]) (hW : Held (fun k => k < w.heap.size) w W)
    (J : Nat → World → Prop) (hJ : ∀ k A B, J k A → A.grownBy B (some W.heap.size) → J k B)
    (hY : ∀ k W1, J k W1 → k < sizeU p.U → yesK p k → layK p W.heap.size k W1 → YieldAt Fence.wide (n - 1) Try.prog l (encK p W.heap.size k) W1 fun e W' =>
      e = .returned (.bool true) ∧ J (k + 1) W' ∧ Held (fun j => j < w0.heap.size ∨ j = bw ∨ j = W.heap.size) W1 W')
    (hS : ∀ k W1, J k W1 → k < sizeU p.U → ¬ yesK p k → J (k + 1) W1) (h0 : J 0 W) :
    CallsIn Fence.wide n Try.prog 32 #[.func (.yield l) #[] #[], .pointer (some ⟨bw, 0, none⟩)] W fun e W' => (∃ v, e = .returned v) ∧ J (sizeU p.U) W' := by
  obtain ⟨h5, hUC, hU7, hprg⟩ := whoP hv
  have hbw : bw < w.heap.size := hbox.lt
  have hboxW : VRow W bw 25 [a, b, c, u] := hbox.of_block (hW.block bw hbw)
  have hExt : Ext w0 W := ⟨hW.os.trans hE.os, hW.tape.trans hE.tape, hW.output.trans hE.output, Nat.le_trans hE.size hW.size, fun k hk => (hW.block k (Nat.lt_of_lt_of_le hk hE.size)).trans (hE.block k hk)⟩
  have hbW : bw < W.heap.size := hboxW.lt
  obtain ⟨au, cu, rfl, huc, hum, _⟩ := hp.2.at
  have q3 := VRow.cell hboxW (k := 3) rfl
  have hmk := run_make_row' (P := Try.prog) 23 3 (.int .i64 0) 8 Try.underlying23 Try.info3 rfl .i64 .i64 p.U.length (by omega) (by omega)
  have HUC := Lib.hid hUC
  have HU7 := Lib.hid hU7
  have HG := Lib.hid hprg
  have HP := Lib.hid hp
  have HB := Lib.hid hboxW
  have HX := Lib.hid hExt
  have HJ := Lib.hid hJ
  have HY := Lib.hid hY
  have HS := Lib.hid hS
  have HV := Lib.hid hv
  have H0 := Lib.hid h0
  clear hp hv hE hbox hW hboxW hExt hJ hY hS h0 hUC hU7 hprg
  refine callsIn_of_wp Try.func32 rfl trivial ?_ rfl
  simp only [Try.ntmps32, List.size_toArray, List.length_cons, List.length_nil, Nat.reduceAdd, Nat.reduceSub, Array.replicate_succ, Array.replicate_zero, List.push_toArray, List.append_toArray, List.nil_append, List.cons_append]
  have hmd := Lib.hid (irow_made W p.U.length 3)
  have hgr := Lib.hid (World.grownBy_alloc W (.cells (madeCells #[.int .i64 0] p.U.length) 3) (some W.heap.size))
  have hsz : W.heap.size < (W.alloc (.cells (madeCells #[.int .i64 0] p.U.length) 3)).heap.size := by simp
  gi_wp2
  clear hmk q3
  generalize (W.alloc (.cells (madeCells #[.int .i64 0] p.U.length) 3)) = W2 at *
  gi_loopw [4] (fun m wr => ∃ k : Nat, k ≤ sizeU p.U ∧ m = .bool (decide (k < sizeU p.U)) ∧ J k wr ∧ Held (fun j => j < w0.heap.size ∨ j = bw) W wr ∧ W.heap.size < wr.heap.size ∧ (k < sizeU p.U → IRow wr W.heap.size 3 (vecAt p.U k)))
    (fun m wr => leftK p.U W.heap.size m wr)
  case atStart =>
    refine ⟨0, Nat.zero_le _, by simp [sizeU_pos], HJ.out _ _ _ H0.out hgr.out, Held.grown hgr.out (fun j hj => ?_), hsz, fun _ => by rw [vecAt_zero]; exact hmd.out⟩
    have := HX.out.size
    omega
  case round =>
    obtain ⟨k, hk, rfl, hj, hh, hsz3, hrow⟩ := hrel
    by_cases hlt : k < sizeU p.U
    · have hx := hrow hlt
      have hbx : VRow wr bw 25 [a, b, c, .slice au p.U.length cu] := HB.out.of_block (hh.block bw (.inr rfl))
      have hEr : Ext w0 wr := ⟨hh.os.trans HX.out.os, hh.tape.trans HX.out.tape, hh.output.trans HX.out.output, Nat.le_trans HX.out.size hh.size, fun j hj => (hh.block j (.inl hj)).trans (HX.out.block j hj)⟩
      have hpr := HP.out.ext hEr
      have hvl := vecAt_length p.U k
      have hbd := vecAt_bd p.U k HU7.out hlt
      have hxi : Ints wr (.slice (some ⟨W.heap.size, 0, none⟩) p.U.length p.U.length) (vecAt p.U k) := IRow.ints' hx hvl.symm (by omega) (by have := HUC.out; omega)
      have HSA := Lib.hid (satisfies_c _ _ _ _ _ p (vecAt p.U k) wr hpr hxi (fun r hr => by have h9 := (pB HG.out).2.2.2 r hr; have := HUC.out; have h8 : r.length = p.C.length := h9; omega) ((pB HG.out).2.2.1) (fun r hr => wrap_small (row_small HV.out hbd r hr)))
      have q0 := VRow.cell hbx (k := 0) rfl
      have q1 := VRow.cell hbx (k := 1) rfl
      have q2 := VRow.cell hbx (k := 2) rfl
      have q3 := VRow.cell hbx (k := 3) rfl
      have Hx := Lib.hid hx
      have Hbx := Lib.hid hbx
      have Her := Lib.hid hEr
      have Hpr := Lib.hid hpr
      have Hbd := Lib.hid hbd
      have Hvl := Lib.hid hvl
      have Hxi := Lib.hid hxi
      have Hj := Lib.hid hj
      have Hh := Lib.hid hh
      clear hx hbx hEr hpr hbd hvl hxi hj hh hrow
      have hdec : decide (k < sizeU p.U) = true := by simp [hlt]
      rw [hdec]
      gi_wp2_with fail
      clear q0 q1 q2 q3
      refine ⟨trivial, (callsIn_wide.2 HSA.out).mono ?_⟩
      rintro e w1 ⟨rfl, hE1⟩
      have Hx1 := Lib.hid (VRow.ext Hx.out hE1)
      have Hb1 := Lib.hid (VRow.ext Hbx.out hE1)
      have He1 := Lib.hid (Her.out.trans hE1)
      have Hj1 := Lib.hid (HJ.out k wr w1 Hj.out (grown_ext hE1))
      have Hh1 := Lib.hid (Hh.out.trans ((Held.of_below hE1).mono (T := fun j => j < w0.heap.size ∨ j = bw) (fun j hj => by have := Her.out.size; have := Hbx.out.lt; omega)))
      have hsz4 : W.heap.size < w1.heap.size := Nat.lt_of_lt_of_le hsz3 hE1.size
      clear hE1
      cases hs : satB p (vecAt p.U k)
      · have Hs := Lib.hid hs
        clear hs
        have q3 := VRow.cell Hb1.out (k := 3) rfl
        have HA := Lib.hid (advance_c W.heap.size p.U.length p.U.length (.slice au p.U.length cu) (vecAt p.U k) p.U w1 Hx1.out Hvl.out rfl (by have := HUC.out; omega)
          (fun wr' hg' => HP.out.2.ext (below_grown He1.out hg' He1.out.size HX.out.size)) Hbd.out)
        have HN := Lib.hid (adv_next p k hlt)
        have hJ2 := Lib.hid (HS.out k w1 Hj1.out hlt (by rw [yesK, Hs.out]; simp))
        gi_wp2_with fail
        refine ⟨trivial, ?_⟩
        gi_wp2_with fail
        refine ⟨fun _ _ => trivial, ?_⟩
        gi_wp2_with fail
        clear q3
        refine ⟨trivial, (callsIn_wide.2 HA.out).mono ?_⟩
        rintro e w2 ⟨rfl, hrow2, hg2⟩
        rw [HN.out.1]
        have Hr2 := Lib.hid hrow2
        have Hg2 := Lib.hid hg2
        clear hrow2 hg2
        gi_wp2
        go_roundw
        case rel => exact ⟨k + 1, by omega, rfl, HJ.out _ _ _ hJ2.out Hg2.out, Hh1.out.trans (Held.grown Hg2.out (fun j (hj : j < w0.heap.size ∨ j = bw) => by have := HX.out.size; have := Hb1.out.lt; constructor <;> omega)), Nat.lt_of_lt_of_le hsz4 Hg2.out.size, fun h9 => by have := Hr2.out; rw [HN.out.2 h9] at this; exact this⟩
        case measure => exact left_less p W.heap.size k wr w2 hlt Hx.out (fun h9 => by have := Hr2.out; rw [HN.out.2 h9] at this; exact this)
      · have Hs := Lib.hid hs
        clear hs
        have q2 := VRow.cell Hb1.out (k := 2) rfl
        have HD := Lib.hid (bdot_c c (.slice (some ⟨W.heap.size, 0, none⟩) p.U.length p.U.length) p.C (vecAt p.U k) w1 (HP.out.ext He1.out).1.2.2 (IRow.ints' Hx1.out Hvl.out.symm (by have := Hvl.out; omega) (by have := HUC.out; omega)) (by rw [Hvl.out, HUC.out]; exact Nat.le_refl _))
        have HF := Lib.hid (wrap_small (cost_small HV.out Hbd.out))
        have HYK := Lib.hid (HY.out k w1 Hj1.out hlt Hs.out Hx1.out)
        gi_wp2_with fail
        refine ⟨trivial, (callsIn_wide.2 HD.out).mono ?_⟩
        rintro e w' ⟨rfl, rfl⟩
        rw [HF.out]
        obtain ⟨fn, tmps, assign, body, hy, hRR⟩ := HYK.out
        have HRR := Lib.hid hRR
        clear q2 hRR
        gi_wp2_with fail
        refine HRR.out.mono ?_
        rintro e W3 ⟨rfl, hJ3, hk3⟩
        have HJ3 := Lib.hid hJ3
        have He3 : RowKit.Hid (Ext w0 W3) := Lib.hid ⟨hk3.os.trans He1.out.os, hk3.tape.trans He1.out.tape, hk3.output.trans He1.out.output, Nat.le_trans He1.out.size hk3.size, fun j hj => (hk3.block j (.inl hj)).trans (He1.out.block j hj)⟩
        have Hb3 : RowKit.Hid (VRow W3 bw 25 [a, b, c, .slice au p.U.length cu]) := Lib.hid (Hb1.out.of_block (hk3.block bw (.inr (.inl rfl))))
        have Hx3 : RowKit.Hid (IRow W3 W.heap.size 3 (vecAt p.U k)) := Lib.hid (VRow.of_block Hx1.out (hk3.block _ (.inr (.inr rfl))))
        have Hh3 : RowKit.Hid (Held (fun j => j < w0.heap.size ∨ j = bw) W W3) := Lib.hid (Hh1.out.trans (hk3.mono (fun j (hj : j < w0.heap.size ∨ j = bw) => by omega)))
        have hsz5 : W.heap.size < W3.heap.size := Nat.lt_of_lt_of_le hsz4 hk3.size
        clear hJ3 hk3
        have q3 := VRow.cell Hb3.out (k := 3) rfl
        have HA := Lib.hid (advance_c W.heap.size p.U.length p.U.length (.slice au p.U.length cu) (vecAt p.U k) p.U W3 Hx3.out Hvl.out rfl (by have := HUC.out; omega)
          (fun wr' hg' => HP.out.2.ext (below_grown He3.out hg' He3.out.size HX.out.size)) Hbd.out)
        have HN := Lib.hid (adv_next p k hlt)
        gi_wp2_with fail
        clear q3
        refine ⟨trivial, (callsIn_wide.2 HA.out).mono ?_⟩
        rintro e w2 ⟨rfl, hrow2, hg2⟩
        rw [HN.out.1]
        have Hr2 := Lib.hid hrow2
        have Hg2 := Lib.hid hg2
        clear hrow2 hg2
        gi_wp2
        go_roundw
        case rel => exact ⟨k + 1, by omega, rfl, HJ.out _ _ _ HJ3.out Hg2.out, Hh3.out.trans (Held.grown Hg2.out (fun j (hj : j < w0.heap.size ∨ j = bw) => by have := HX.out.size; have := Hb3.out.lt; constructor <;> omega)), Nat.lt_of_lt_of_le hsz5 Hg2.out.size, fun h9 => by have := Hr2.out; rw [HN.out.2 h9] at this; exact this⟩
        case measure => exact left_less p W.heap.size k wr w2 hlt Hx.out (fun h9 => by have := Hr2.out; rw [HN.out.2 h9] at this; exact this)
    · have hke : k = sizeU p.U := by omega
      have hdec : decide (k < sizeU p.U) = false := by simp [hlt]
      rw [hdec]
      have Hj := Lib.hid hj
      clear hj hh hrow
      gi_wp2
      go_end0
      exact ⟨⟨_, rfl⟩, by rw [← hke]; exact Hj.out⟩
end Go.Proofs.Ytblaipkhmmaenaa
