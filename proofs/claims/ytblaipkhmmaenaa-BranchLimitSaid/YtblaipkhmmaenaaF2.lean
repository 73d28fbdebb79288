import Derived.Test.YtblaipkhmmaenaaF1
import Derived.Laws.MakeOwn
namespace Go.Proofs.Ytblaipkhmmaenaa
open Go.RowKit
theorem Try.info40 : (Try.prog.info? 40).map (fun i => (i.zero, i.size, i.bytes)) = some (some (.agg #[.int .i64 0, .int .i64 0, .slice none 0 0, .int .i64 0]), 4, 48) := by kernel_rfl
theorem lim_make {n : Nat} {N : Int} (hN : N = (n : Int)) (hn : n ≤ 70000) (w : World) : (Instr.makeSlice 35 (.int .i64 N) (.int .i64 N)).run Try.prog w =
    .ok (.slice (some ⟨w.heap.size, 0, none⟩) n n) (w.alloc (.cells (madeCells #[.int .i64 0, .int .i64 0, .slice none 0 0, .int .i64 0] (n * 4)) 40)) := by
  subst hN
  obtain ⟨i0, hi, hz0, hz1, hz2⟩ := info_parts Try.info40
  have := run_make (P := Try.prog) w 35 40 i0 _ Try.underlying35 hi hz0 .i64 .i64 n n (by omega) (Int.le_refl _) (by rw [hz2]; omega) (by omega)
  simp only [Int.toNat_natCast, hz1] at this
  exact this
theorem lim_at {w : World} {s : Nat} (h0 : IRow w s 3 [1]) (h1 : IRow w (s + 1) 3 [7]) : WhoAt w (.slice none 0 0) (.slice none 0 0) (.slice (some ⟨s, 0, none⟩) 1 1) (.slice (some ⟨s + 1, 0, none⟩) 1 1) limP :=
  ⟨⟨⟨none, 0, [], rfl, Nat.le_refl _, by omega, .inl rfl, rfl, by simp⟩, ⟨none, 0, rfl, Nat.le_refl _, by omega, .inl rfl⟩, ints_new h0 rfl (by decide)⟩, ints_new h1 rfl (by decide)⟩
def LimI (B : Nat) (w1 : World) (g k n : Nat) (W : World) : Prop := W.ownsRow B 40 4 (.slice (some ⟨g, 0, none⟩) n n) n (nodesL k n) ∧ Below B w1 W
theorem lim_cells {B : Nat} {w1 : World} {g k n : Nat} {W : World} (h : LimI B w1 g k n W) {x : Nat} (hx : x < n) : (∃ v0 v1 v2 v3, W.cell? ⟨g, x * 4, none⟩ = some v0 ∧ W.cell? ⟨g, x * 4 + 1, none⟩ = some v1 ∧ W.cell? ⟨g, x * 4 + 2, none⟩ = some v2 ∧ W.cell? ⟨g, x * 4 + 3, none⟩ = some v3) := by
  have f : ∀ j, j < n * 4 → ∃ v, W.cell? ⟨g, j, none⟩ = some v := fun j hj => ⟨_, by rw [h.1.cellAt j hj, nodesL_get hj]⟩
  obtain ⟨v0, h0⟩ := f (x * 4) (by omega)
  obtain ⟨v1, h1⟩ := f (x * 4 + 1) (by omega)
  obtain ⟨v2, h2⟩ := f (x * 4 + 2) (by omega)
  obtain ⟨v3, h3⟩ := f (x * 4 + 3) (by omega)
  exact ⟨v0, v1, v2, v3, h0, h1, h2, h3⟩
theorem lim_step {B : Nat} {w1 : World} {g k n : Nat} {W : World} (h : LimI B w1 g k n W) (hg : B ≤ g) :
    LimI B w1 g (k + 1) n ((((W.setCell ⟨g, k * 4, none⟩ (.int .i64 (-1))).setCell ⟨g, k * 4 + 1, none⟩ (.int .i64 0)).setCell ⟨g, k * 4 + 2, none⟩ (.slice none 0 0)).setCell ⟨g, k * 4 + 3, none⟩ (.int .i64 1)) := by
  refine ⟨?_, Below.setCell (p := ⟨g, k * 4 + 3, none⟩) (Below.setCell (p := ⟨g, k * 4 + 2, none⟩) (Below.setCell (p := ⟨g, k * 4 + 1, none⟩) (Below.setCell (p := ⟨g, k * 4, none⟩) h.2 hg _) hg _) hg _) hg _⟩
  have := ((((h.1.stored (k * 4) (.int .i64 (-1))).1.stored (k * 4 + 1) (.int .i64 0)).1.stored (k * 4 + 2) (.slice none 0 0)).1.stored (k * 4 + 3) (.int .i64 1)).1
  rw [nodesL_step] at this
  exact this
def headL (a : Int) (n : Nat) : List Value := ((((nodesL n n).set 0 (.int .i64 0)).set 1 (.int .i64 a)).set 2 (.slice none 0 0)).set 3 (.int .i64 0)
theorem headL_get {a : Int} {n i : Nat} (hi : i < n * 4) : (headL a n)[i]? = some (if i = 0 then .int .i64 0 else if i = 1 then .int .i64 a else if i = 2 then .slice none 0 0 else if i = 3 then .int .i64 0 else leafC (i % 4)) := by
  have hl : (nodesL n n).length = n * 4 := by simp [nodesL]
  simp only [headL, List.getElem?_set, List.length_set, hl]
  by_cases h3 : i = 3
  · subst h3; simp [hi]
  · by_cases h2 : i = 2
    · subst h2; simp [hi]
    · by_cases h1 : i = 1
      · subst h1; simp [hi]
      · by_cases h0 : i = 0
        · subst h0; simp [hi]
        · rw [if_neg (fun e => h3 e.symm), if_neg (fun e => h2 e.symm), if_neg (fun e => h1 e.symm), if_neg (fun e => h0 e.symm), nodesL_get hi, if_neg h0, if_neg h1, if_neg h2, if_neg h3, if_pos (show i / 4 < n by omega)]
theorem lim_head {B : Nat} {w1 : World} {g n : Nat} {W : World} (a : Int) (h : LimI B w1 g n n W) (hg : B ≤ g) :
    ((((W.setCell ⟨g, 0, none⟩ (.int .i64 0)).setCell ⟨g, 1, none⟩ (.int .i64 a)).setCell ⟨g, 2, none⟩ (.slice none 0 0)).setCell ⟨g, 3, none⟩ (.int .i64 0)).ownsRow B 40 4 (.slice (some ⟨g, 0, none⟩) n n) n (headL a n) ∧
    Below B w1 ((((W.setCell ⟨g, 0, none⟩ (.int .i64 0)).setCell ⟨g, 1, none⟩ (.int .i64 a)).setCell ⟨g, 2, none⟩ (.slice none 0 0)).setCell ⟨g, 3, none⟩ (.int .i64 0)) :=
  ⟨((((h.1.stored 0 (.int .i64 0)).1.stored 1 (.int .i64 a)).1.stored 2 (.slice none 0 0)).1.stored 3 (.int .i64 0)).1,
    Below.setCell (p := ⟨g, 3, none⟩) (Below.setCell (p := ⟨g, 2, none⟩) (Below.setCell (p := ⟨g, 1, none⟩) (Below.setCell (p := ⟨g, 0, none⟩) h.2 hg _) hg _) hg _) hg _⟩
theorem lim_nodes {B g n m : Nat} {W : World} {a : Int} (h : W.ownsRow B 40 4 (.slice (some ⟨g, 0, none⟩) n n) n (headL a n)) (h1 : 1 ≤ m) (hm : m ≤ n) (hn : n ≤ 70000) : NodesAt W (.slice (some ⟨g, 0, none⟩) m n) (limS a :: List.replicate (m - 1) limL) := by
  have f : ∀ j, j < n * 4 → W.cell? ⟨g, 0 + j, none⟩ = some (if j = 0 then .int .i64 0 else if j = 1 then .int .i64 a else if j = 2 then .slice none 0 0 else if j = 3 then .int .i64 0 else leafC (j % 4)) := fun j hj => by rw [Nat.zero_add, h.cellAt j hj, headL_get hj]
  refine ⟨some ⟨g, 0, none⟩, n, by simp only [List.length_cons, List.length_replicate]; congr 1; omega, by simp only [List.length_cons, List.length_replicate]; omega, by omega, fun _ => ⟨g, 0, rfl, fun k nd hk => ?_⟩⟩
  have hkm : k < m := by have := lt_len hk; simp only [List.length_cons, List.length_replicate] at this; omega
  have hnil : Ints W (.slice none 0 0) [] := ⟨none, 0, rfl, Nat.le_refl _, by omega, .inl rfl⟩
  cases k with
  | zero =>
    simp only [List.getElem?_cons_zero, Option.some.injEq] at hk
    subst hk
    exact ⟨f 0 (by omega), f 1 (by omega), f 2 (by omega), f 3 (by omega), hnil⟩
  | succ k =>
    simp only [List.getElem?_cons_succ, List.getElem?_replicate] at hk
    rw [if_pos (by omega)] at hk
    simp only [Option.some.injEq] at hk
    subst hk
    have g0 := f ((k + 1) * 4) (by omega)
    have g1 := f ((k + 1) * 4 + 1) (by omega)
    have g2 := f ((k + 1) * 4 + 2) (by omega)
    have g3 := f ((k + 1) * 4 + 3) (by omega)
    rw [if_neg (by omega), if_neg (by omega), if_neg (by omega), if_neg (by omega)] at g0 g1 g2 g3
    rw [show (k + 1) * 4 % 4 = 0 by omega] at g0
    rw [show ((k + 1) * 4 + 1) % 4 = 1 by omega] at g1
    rw [show ((k + 1) * 4 + 2) % 4 = 2 by omega] at g2
    rw [show ((k + 1) * 4 + 3) % 4 = 3 by omega] at g3
    exact ⟨g0, g1, g2, g3, hnil⟩
theorem lim_list {a : Int} {m : Nat} (hm : 4 ≤ m) : (limS a :: List.replicate (m - 1) limL)[0]? = some (limS a) ∧ (limS a :: List.replicate (m - 1) limL)[1]? = some limL ∧ (limS a :: List.replicate (m - 1) limL)[2]? = some limL ∧ 4 ≤ (limS a :: List.replicate (m - 1) limL).length := by
  refine ⟨rfl, ?_, ?_, by simp; omega⟩
  · simp only [List.getElem?_cons_succ, List.getElem?_replicate]; rw [if_pos (by omega)]
  · simp only [List.getElem?_cons_succ, List.getElem?_replicate]; rw [if_pos (by omega)]
set_option maxRecDepth 100000 in
set_option maxHeartbeats 4000000 in
theorem limitMore_c (at' : Int) (hat : 0 ≤ at' ∧ at' ≤ 255) (w : World) : Calls Try.prog 5 #[.bool true, .int .u8 at'] w fun e w' => e = .returned (.bool true) ∧ Ext w w' := by
  obtain ⟨n, hn⟩ : ∃ n : Nat, n = 65536 := ⟨_, rfl⟩
  have hmk := lim_make (n := n) (N := 65536) (by omega) (by omega)
  have hc := vrow_alloc w [.int .i64 1] 3
  have hu := vrow_alloc (w.alloc (.cells #[.int .i64 1] 3)) [.int .i64 7] 3
  have hb := vrow_alloc ((w.alloc (.cells #[.int .i64 1] 3)).alloc (.cells #[.int .i64 7] 3)) [.slice none 0 0, .slice none 0 0, .slice (some ⟨w.heap.size, 0, none⟩) 1 1, .slice (some ⟨w.heap.size + 1, 0, none⟩) 1 1] 25
  have hl := World.ownsRow_lit (base := w.heap.size + 1 + 1 + 1) (e := 40) (size := 4) (((w.alloc (.cells #[.int .i64 1] 3)).alloc (.cells #[.int .i64 7] 3)).alloc (.cells #[.slice none 0 0, .slice none 0 0, .slice (some ⟨w.heap.size, 0, none⟩) 1 1, .slice (some ⟨w.heap.size + 1, 0, none⟩) 1 1] 25)) (madeCells #[.int .i64 0, .int .i64 0, .slice none 0 0, .int .i64 0] (n * 4)) n (by simp) (by unfold maxLen; omega) (by simp [madeCells])
  rw [nodesL_zero] at hl
  have hc2 := VRow.alloc (VRow.alloc (VRow.alloc hc (.cells #[.int .i64 7] 3)) (.cells #[.slice none 0 0, .slice none 0 0, .slice (some ⟨w.heap.size, 0, none⟩) 1 1, .slice (some ⟨w.heap.size + 1, 0, none⟩) 1 1] 25)) (.cells (madeCells #[.int .i64 0, .int .i64 0, .slice none 0 0, .int .i64 0] (n * 4)) 40)
  have hu2 := VRow.alloc (VRow.alloc hu (.cells #[.slice none 0 0, .slice none 0 0, .slice (some ⟨w.heap.size, 0, none⟩) 1 1, .slice (some ⟨w.heap.size + 1, 0, none⟩) 1 1] 25)) (.cells (madeCells #[.int .i64 0, .int .i64 0, .slice none 0 0, .int .i64 0] (n * 4)) 40)
  have hb2 := VRow.alloc hb (.cells (madeCells #[.int .i64 0, .int .i64 0, .slice none 0 0, .int .i64 0] (n * 4)) 40)
  have hE := Ext.alloc (Ext.alloc (Ext.alloc (Ext.alloc (Ext.refl w) (.cells #[.int .i64 1] 3)) (.cells #[.int .i64 7] 3)) (.cells #[.slice none 0 0, .slice none 0 0, .slice (some ⟨w.heap.size, 0, none⟩) 1 1, .slice (some ⟨w.heap.size + 1, 0, none⟩) 1 1] 25)) (.cells (madeCells #[.int .i64 0, .int .i64 0, .slice none 0 0, .int .i64 0] (n * 4)) 40)
  simp only [World.size_alloc] at hu2 hb2 hl
  have hsz : ((((w.alloc (.cells #[.int .i64 1] 3)).alloc (.cells #[.int .i64 7] 3)).alloc (.cells #[.slice none 0 0, .slice none 0 0, .slice (some ⟨w.heap.size, 0, none⟩) 1 1, .slice (some ⟨w.heap.size + 1, 0, none⟩) 1 1] 25)).alloc (.cells (madeCells #[.int .i64 0, .int .i64 0, .slice none 0 0, .int .i64 0] (n * 4)) 40)).heap.size = w.heap.size + 1 + 1 + 1 + 1 := by simp only [World.size_alloc]
  have HC := Lib.hid hc2
  have HU := Lib.hid hu2
  have HB := Lib.hid hb2
  have HL := Lib.hid hl
  have HE := Lib.hid hE
  change Hid (VRow ((((w.alloc (.cells #[.int .i64 1] 3)).alloc (.cells #[.int .i64 7] 3)).alloc (.cells #[.slice none 0 0, .slice none 0 0, .slice (some ⟨w.heap.size, 0, none⟩) 1 1, .slice (some ⟨w.heap.size + 1, 0, none⟩) 1 1] 25)).alloc (.cells (madeCells #[.int .i64 0, .int .i64 0, .slice none 0 0, .int .i64 0] (n * 4)) 40)) _ _ _) at HB
  change Hid (VRow ((((w.alloc (.cells #[.int .i64 1] 3)).alloc (.cells #[.int .i64 7] 3)).alloc (.cells #[.slice none 0 0, .slice none 0 0, .slice (some ⟨w.heap.size, 0, none⟩) 1 1, .slice (some ⟨w.heap.size + 1, 0, none⟩) 1 1] 25)).alloc (.cells (madeCells #[.int .i64 0, .int .i64 0, .slice none 0 0, .int .i64 0] (n * 4)) 40)) _ _ _) at HC
  change Hid (VRow ((((w.alloc (.cells #[.int .i64 1] 3)).alloc (.cells #[.int .i64 7] 3)).alloc (.cells #[.slice none 0 0, .slice none 0 0, .slice (some ⟨w.heap.size, 0, none⟩) 1 1, .slice (some ⟨w.heap.size + 1, 0, none⟩) 1 1] 25)).alloc (.cells (madeCells #[.int .i64 0, .int .i64 0, .slice none 0 0, .int .i64 0] (n * 4)) 40)) _ _ _) at HU
  have Hn := Lib.hid hn
  have HNI := Lib.hid (show (65536 : Int) = (n : Int) by omega)
  clear hn hc hu hb hl hc2 hu2 hb2 hE
  go_enter Try.func5, Try.ntmps5
  go_wp2_with fail
  clear hmk
  generalize ((((w.alloc (.cells #[.int .i64 1] 3)).alloc (.cells #[.int .i64 7] 3)).alloc (.cells #[.slice none 0 0, .slice none 0 0, .slice (some ⟨w.heap.size, 0, none⟩) 1 1, .slice (some ⟨w.heap.size + 1, 0, none⟩) 1 1] 25)).alloc (.cells (madeCells #[.int .i64 0, .int .i64 0, .slice none 0 0, .int .i64 0] (n * 4)) 40)) = W0 at *
  generalize hs : w.heap.size = s at *
  go_loopw [8] (fun i wr => ∃ k : Nat, k ≤ n ∧ i = .int .i64 k ∧ LimI (s + 1 + 1 + 1) W0 (s + 1 + 1 + 1) k n wr) (fun i _ => n - (intOf i).toNat)
  case atStart => exact ⟨0, Nat.zero_le _, rfl, HL.out, Below.refl _ _⟩
  case round =>
    obtain ⟨k, hk, rfl, hI⟩ := hrel
    by_cases hlt : k < n
    · have hltN : (k : Int) < 65536 := by have := HNI.out; omega
      have hltn : (k : Int) < (n : Int) := by omega
      obtain ⟨v0, v1, v2, v3, c0, c1, c2, c3⟩ := lim_cells hI hlt
      have f0 := hI.1.frozenAt (k * 4)
      have f1 := hI.1.frozenAt (k * 4 + 1)
      have f2 := hI.1.frozenAt (k * 4 + 2)
      have f3 := hI.1.frozenAt (k * 4 + 3)
      have HI := Lib.hid hI
      clear hI
      go_wp2_with fail
      exact ⟨⟨k + 1, by omega, by go_num, lim_step HI.out (Nat.le_refl _)⟩, by simp [intOf]; omega⟩
    · have hke : k = n := by omega
      subst hke
      have hltN : ¬ (k : Int) < 65536 := by have := HNI.out; omega
      have hpos : (0 : Int) < (k : Int) := by have := HNI.out; omega
      obtain ⟨v0, v1, v2, v3, c0, c1, c2, c3⟩ := lim_cells hI (x := 0) (by have := Hn.out; omega)
      have f0 := hI.1.frozenAt 0
      have f1 := hI.1.frozenAt 1
      have f2 := hI.1.frozenAt 2
      have f3 := hI.1.frozenAt 3
      simp only [Nat.zero_mul, Nat.zero_add] at c0 c1 c2 c3
      have h07 : 0 ≤ at' % 7 ∧ at' % 7 < 7 := by omega
      have q := VRow.below HB.out hI.2 (by omega)
      have q0 := VRow.cell q (k := 0) rfl
      have q1 := VRow.cell q (k := 1) rfl
      have q2 := VRow.cell q (k := 2) rfl
      have q3 := VRow.cell q (k := 3) rfl
      have HI := Lib.hid hI
      clear hI q
      go_wp2_with fail
      obtain ⟨hH1, hH2⟩ := lim_head (at' % 7) HI.out (Nat.le_refl _)
      have hEH : Ext w ((((wr.setCell ⟨s + 1 + 1 + 1, 0, none⟩ (.int .i64 0)).setCell ⟨s + 1 + 1 + 1, 1, none⟩ (.int .i64 (at' % 7))).setCell ⟨s + 1 + 1 + 1, 2, none⟩ (.slice none 0 0)).setCell ⟨s + 1 + 1 + 1, 3, none⟩ (.int .i64 0)) := Below.trans HE.out (hH2.mono (by omega))
      have hcH := VRow.below HC.out hH2 (by omega)
      have huH := VRow.below HU.out hH2 (by omega)
      have hbH := VRow.below HB.out hH2 (by omega)
      have hkk := Hn.out
      generalize ((((wr.setCell ⟨s + 1 + 1 + 1, 0, none⟩ (.int .i64 0)).setCell ⟨s + 1 + 1 + 1, 1, none⟩ (.int .i64 (at' % 7))).setCell ⟨s + 1 + 1 + 1, 2, none⟩ (.slice none 0 0)).setCell ⟨s + 1 + 1 + 1, 3, none⟩ (.int .i64 0)) = W1 at *
      have hwho := lim_at hcH huH
      obtain ⟨l0, l1, l2, l4⟩ := lim_list (a := at' % 7) (m := k) (by omega)
      refine (checkAny_c _ _ _ _ _ true 0 (limS (at' % 7) :: List.replicate (k - 1) limL) limP W1 hwho (lim_nodes hH1 (by omega) (Nat.le_refl _) (by omega))).mono ?_
      rintro e W2 ⟨rfl, hE2⟩
      have hlen : (limS (at' % 7) :: List.replicate (k - 1) limL).length = 65536 := by simp only [List.length_cons, List.length_replicate]; omega
      rw [lim_who, hlen, lim_four h07.1 h07.2 l0 l1 l2 l4]
      have HE2 := Lib.hid (hEH.trans hE2)
      clear hH1 hH2 hEH hcH huH hbH hwho hE2 hlen l0 l1 l2 l4
      simp only [chkV, Bool.and_false, Nat.reduceLeDiff, decide_false, if_true, if_false]
      go_wp2_with fail
      refine (alive_c _).mono ?_
      rintro e W3 ⟨rfl, hE3⟩
      have HE3 := Lib.hid (HE2.out.trans hE3)
      clear hE3
      go_wp2_with fail
      go_ret
      exact ⟨rfl, HE3.out⟩
set_option maxRecDepth 100000 in
set_option maxHeartbeats 4000000 in
theorem limitJust_c (at' : Int) (hat : 0 ≤ at' ∧ at' ≤ 255) (w : World) : Calls Try.prog 5 #[.bool false, .int .u8 at'] w fun e w' => e = .returned (.bool true) ∧ Ext w w' := by
  obtain ⟨n, hn⟩ : ∃ n : Nat, n = 65535 := ⟨_, rfl⟩
  have hmk := lim_make (n := n) (N := 65535) (by omega) (by omega)
  have hc := vrow_alloc w [.int .i64 1] 3
  have hu := vrow_alloc (w.alloc (.cells #[.int .i64 1] 3)) [.int .i64 7] 3
  have hb := vrow_alloc ((w.alloc (.cells #[.int .i64 1] 3)).alloc (.cells #[.int .i64 7] 3)) [.slice none 0 0, .slice none 0 0, .slice (some ⟨w.heap.size, 0, none⟩) 1 1, .slice (some ⟨w.heap.size + 1, 0, none⟩) 1 1] 25
  have hl := World.ownsRow_lit (base := w.heap.size + 1 + 1 + 1) (e := 40) (size := 4) (((w.alloc (.cells #[.int .i64 1] 3)).alloc (.cells #[.int .i64 7] 3)).alloc (.cells #[.slice none 0 0, .slice none 0 0, .slice (some ⟨w.heap.size, 0, none⟩) 1 1, .slice (some ⟨w.heap.size + 1, 0, none⟩) 1 1] 25)) (madeCells #[.int .i64 0, .int .i64 0, .slice none 0 0, .int .i64 0] (n * 4)) n (by simp) (by unfold maxLen; omega) (by simp [madeCells])
  rw [nodesL_zero] at hl
  have hc2 := VRow.alloc (VRow.alloc (VRow.alloc hc (.cells #[.int .i64 7] 3)) (.cells #[.slice none 0 0, .slice none 0 0, .slice (some ⟨w.heap.size, 0, none⟩) 1 1, .slice (some ⟨w.heap.size + 1, 0, none⟩) 1 1] 25)) (.cells (madeCells #[.int .i64 0, .int .i64 0, .slice none 0 0, .int .i64 0] (n * 4)) 40)
  have hu2 := VRow.alloc (VRow.alloc hu (.cells #[.slice none 0 0, .slice none 0 0, .slice (some ⟨w.heap.size, 0, none⟩) 1 1, .slice (some ⟨w.heap.size + 1, 0, none⟩) 1 1] 25)) (.cells (madeCells #[.int .i64 0, .int .i64 0, .slice none 0 0, .int .i64 0] (n * 4)) 40)
  have hb2 := VRow.alloc hb (.cells (madeCells #[.int .i64 0, .int .i64 0, .slice none 0 0, .int .i64 0] (n * 4)) 40)
  have hE := Ext.alloc (Ext.alloc (Ext.alloc (Ext.alloc (Ext.refl w) (.cells #[.int .i64 1] 3)) (.cells #[.int .i64 7] 3)) (.cells #[.slice none 0 0, .slice none 0 0, .slice (some ⟨w.heap.size, 0, none⟩) 1 1, .slice (some ⟨w.heap.size + 1, 0, none⟩) 1 1] 25)) (.cells (madeCells #[.int .i64 0, .int .i64 0, .slice none 0 0, .int .i64 0] (n * 4)) 40)
  simp only [World.size_alloc] at hu2 hb2 hl
  have hsz : ((((w.alloc (.cells #[.int .i64 1] 3)).alloc (.cells #[.int .i64 7] 3)).alloc (.cells #[.slice none 0 0, .slice none 0 0, .slice (some ⟨w.heap.size, 0, none⟩) 1 1, .slice (some ⟨w.heap.size + 1, 0, none⟩) 1 1] 25)).alloc (.cells (madeCells #[.int .i64 0, .int .i64 0, .slice none 0 0, .int .i64 0] (n * 4)) 40)).heap.size = w.heap.size + 1 + 1 + 1 + 1 := by simp only [World.size_alloc]
  have HC := Lib.hid hc2
  have HU := Lib.hid hu2
  have HB := Lib.hid hb2
  have HL := Lib.hid hl
  have HE := Lib.hid hE
  change Hid (VRow ((((w.alloc (.cells #[.int .i64 1] 3)).alloc (.cells #[.int .i64 7] 3)).alloc (.cells #[.slice none 0 0, .slice none 0 0, .slice (some ⟨w.heap.size, 0, none⟩) 1 1, .slice (some ⟨w.heap.size + 1, 0, none⟩) 1 1] 25)).alloc (.cells (madeCells #[.int .i64 0, .int .i64 0, .slice none 0 0, .int .i64 0] (n * 4)) 40)) _ _ _) at HB
  change Hid (VRow ((((w.alloc (.cells #[.int .i64 1] 3)).alloc (.cells #[.int .i64 7] 3)).alloc (.cells #[.slice none 0 0, .slice none 0 0, .slice (some ⟨w.heap.size, 0, none⟩) 1 1, .slice (some ⟨w.heap.size + 1, 0, none⟩) 1 1] 25)).alloc (.cells (madeCells #[.int .i64 0, .int .i64 0, .slice none 0 0, .int .i64 0] (n * 4)) 40)) _ _ _) at HC
  change Hid (VRow ((((w.alloc (.cells #[.int .i64 1] 3)).alloc (.cells #[.int .i64 7] 3)).alloc (.cells #[.slice none 0 0, .slice none 0 0, .slice (some ⟨w.heap.size, 0, none⟩) 1 1, .slice (some ⟨w.heap.size + 1, 0, none⟩) 1 1] 25)).alloc (.cells (madeCells #[.int .i64 0, .int .i64 0, .slice none 0 0, .int .i64 0] (n * 4)) 40)) _ _ _) at HU
  have Hn := Lib.hid hn
  have HNI := Lib.hid (show (65535 : Int) = (n : Int) by omega)
  clear hn hc hu hb hl hc2 hu2 hb2 hE
  go_enter Try.func5, Try.ntmps5
  go_wp2_with fail
  clear hmk
  generalize ((((w.alloc (.cells #[.int .i64 1] 3)).alloc (.cells #[.int .i64 7] 3)).alloc (.cells #[.slice none 0 0, .slice none 0 0, .slice (some ⟨w.heap.size, 0, none⟩) 1 1, .slice (some ⟨w.heap.size + 1, 0, none⟩) 1 1] 25)).alloc (.cells (madeCells #[.int .i64 0, .int .i64 0, .slice none 0 0, .int .i64 0] (n * 4)) 40)) = W0 at *
  generalize hs : w.heap.size = s at *
  go_loopw [8] (fun i wr => ∃ k : Nat, k ≤ n ∧ i = .int .i64 k ∧ LimI (s + 1 + 1 + 1) W0 (s + 1 + 1 + 1) k n wr) (fun i _ => n - (intOf i).toNat)
  case atStart => exact ⟨0, Nat.zero_le _, rfl, HL.out, Below.refl _ _⟩
  case round =>
    obtain ⟨k, hk, rfl, hI⟩ := hrel
    by_cases hlt : k < n
    · have hltN : (k : Int) < 65535 := by have := HNI.out; omega
      have hltn : (k : Int) < (n : Int) := by omega
      obtain ⟨v0, v1, v2, v3, c0, c1, c2, c3⟩ := lim_cells hI hlt
      have f0 := hI.1.frozenAt (k * 4)
      have f1 := hI.1.frozenAt (k * 4 + 1)
      have f2 := hI.1.frozenAt (k * 4 + 2)
      have f3 := hI.1.frozenAt (k * 4 + 3)
      have HI := Lib.hid hI
      clear hI
      go_wp2_with fail
      exact ⟨⟨k + 1, by omega, by go_num, lim_step HI.out (Nat.le_refl _)⟩, by simp [intOf]; omega⟩
    · have hke : k = n := by omega
      subst hke
      have hltN : ¬ (k : Int) < 65535 := by have := HNI.out; omega
      have hpos : (0 : Int) < (k : Int) := by have := HNI.out; omega
      obtain ⟨v0, v1, v2, v3, c0, c1, c2, c3⟩ := lim_cells hI (x := 0) (by have := Hn.out; omega)
      have f0 := hI.1.frozenAt 0
      have f1 := hI.1.frozenAt 1
      have f2 := hI.1.frozenAt 2
      have f3 := hI.1.frozenAt 3
      simp only [Nat.zero_mul, Nat.zero_add] at c0 c1 c2 c3
      have h07 : 0 ≤ at' % 7 ∧ at' % 7 < 7 := by omega
      have q := VRow.below HB.out hI.2 (by omega)
      have q0 := VRow.cell q (k := 0) rfl
      have q1 := VRow.cell q (k := 1) rfl
      have q2 := VRow.cell q (k := 2) rfl
      have q3 := VRow.cell q (k := 3) rfl
      have HI := Lib.hid hI
      clear hI q
      go_wp2_with fail
      obtain ⟨hH1, hH2⟩ := lim_head (at' % 7) HI.out (Nat.le_refl _)
      have hEH : Ext w ((((wr.setCell ⟨s + 1 + 1 + 1, 0, none⟩ (.int .i64 0)).setCell ⟨s + 1 + 1 + 1, 1, none⟩ (.int .i64 (at' % 7))).setCell ⟨s + 1 + 1 + 1, 2, none⟩ (.slice none 0 0)).setCell ⟨s + 1 + 1 + 1, 3, none⟩ (.int .i64 0)) := Below.trans HE.out (hH2.mono (by omega))
      have hcH := VRow.below HC.out hH2 (by omega)
      have huH := VRow.below HU.out hH2 (by omega)
      have hbH := VRow.below HB.out hH2 (by omega)
      have hkk := Hn.out
      generalize ((((wr.setCell ⟨s + 1 + 1 + 1, 0, none⟩ (.int .i64 0)).setCell ⟨s + 1 + 1 + 1, 1, none⟩ (.int .i64 (at' % 7))).setCell ⟨s + 1 + 1 + 1, 2, none⟩ (.slice none 0 0)).setCell ⟨s + 1 + 1 + 1, 3, none⟩ (.int .i64 0)) = W1 at *
      have hwho := lim_at hcH huH
      obtain ⟨l0, l1, l2, l4⟩ := lim_list (a := at' % 7) (m := k) (by omega)
      refine (checkAny_c _ _ _ _ _ true 0 (limS (at' % 7) :: List.replicate (k - 1) limL) limP W1 hwho (lim_nodes hH1 (by omega) (Nat.le_refl _) (by omega))).mono ?_
      rintro e W2 ⟨rfl, hE2⟩
      have hlen : (limS (at' % 7) :: List.replicate (k - 1) limL).length = 65535 := by simp only [List.length_cons, List.length_replicate]; omega
      rw [lim_who, hlen, lim_four h07.1 h07.2 l0 l1 l2 l4]
      have HE2 := Lib.hid (hEH.trans hE2)
      have HB2 := Lib.hid (VRow.ext hbH hE2)
      have HN2 := Lib.hid ((lim_nodes (m := 3) hH1 (by omega) (by omega) (by omega)).ext hE2)
      have HW2 := Lib.hid (hwho.ext hE2)
      have q0 := VRow.cell HB2.out (k := 0) rfl
      have q1 := VRow.cell HB2.out (k := 1) rfl
      have q2 := VRow.cell HB2.out (k := 2) rfl
      have q3 := VRow.cell HB2.out (k := 3) rfl
      have h3k : 3 ≤ k := by omega
      have h3i : (3 : Int) ≤ (k : Int) := by omega
      have HA3 : Hid (chkV (whoB limP) [limS (at' % 7), limL, limL].length (accM limP (goalsOf limP true 0) [limS (at' % 7), limL, limL]) = .returned (.tuple #[.bool true, .int .i64 0])) := Lib.hid (by rw [lim_who, lim_three h07.1 h07.2]; rfl)
      clear hH1 hH2 hEH hcH huH hbH hwho hE2 hlen l0 l1 l2 l4 hkk
      simp only [chkV, Bool.true_and, Bool.and_false, Nat.reduceLeDiff, decide_true, if_true]
      go_wp2_with fail
      go_region_with (go_at_call 17; refine (checkAny_c _ _ _ _ _ true 0 [limS (at' % 7), limL, limL] limP _ (HW2.out.ext (Ext.refl _).drew) (HN2.out.ext (Ext.refl _).drew)).mono ?_; rintro e W3 ⟨he3, hE3⟩; rw [HA3.out] at he3; subst he3)
      all_goals (have HE3 := Lib.hid (Ext.trans (Ext.drew HE2.out) hE3); clear hE3; go_wp2_with fail; refine (alive_c _).mono ?_; rintro e W4 ⟨rfl, hE4⟩; have HE4 := Lib.hid (HE3.out.trans hE4); clear hE4; go_wp2_with fail; go_ret; exact ⟨rfl, HE4.out⟩)
end Go.Proofs.Ytblaipkhmmaenaa
