import Derived.Test.YtnpebfchojalcaaNZ
import Derived.Test.YtnpebfchojalcaaKX
import Derived.Test.YtnpebfchojalcaaG1
import Derived.Laws.AppendOwnNone
import Derived.Test.YtnpebfchojalcaaO1
namespace Go.Proofs.Ytnpebfchojalcaa
set_option maxRecDepth 100000
open Go.RowKit Go.Shelf
attribute [local go_sem] Oper.semAt_some
/-! The reference's Good, asks, nearer and Admissible. -/
theorem rgood_c (A B D : Int) (w : World) : Calls Try.prog 88 #[gridV A B D] w fun e w' => e = .returned (.bool (gridB A B D)) ∧ Ext w w' := by
  have hE := Lib.hid (Ext.alloc (Ext.refl w) (.cells #[.int .i64 A, .int .i64 B, .int .i64 D] 24))
  unfold gridV
  by_cases h1 : 1 ≤ A
  · by_cases h2 : A ≤ 400
    · by_cases h3 : 1 ≤ D
      · by_cases h4 : D ≤ 400
        · by_cases h5 : 0 ≤ B
          · by_cases h6 : B < D
            · rw [show gridB A B D = true from gridB_iff.2 ⟨h1, h2, h3, h4, h5, h6⟩]
              go_enter Try.func88, Try.ntmps88
              go_wp2
              go_ret
              exact ⟨rfl, hE.out⟩
            · rw [gridB_false (fun h => h6 h.2.2.2.2.2)]
              go_enter Try.func88, Try.ntmps88
              go_wp2
              go_ret
              exact ⟨rfl, hE.out⟩
          · rw [gridB_false (fun h => h5 h.2.2.2.2.1)]
            go_enter Try.func88, Try.ntmps88
            go_wp2
            go_ret
            exact ⟨rfl, hE.out⟩
        · rw [gridB_false (fun h => h4 h.2.2.2.1)]
          go_enter Try.func88, Try.ntmps88
          go_wp2
          go_ret
          exact ⟨rfl, hE.out⟩
      · rw [gridB_false (fun h => h3 h.2.2.1)]
        go_enter Try.func88, Try.ntmps88
        go_wp2
        go_ret
        exact ⟨rfl, hE.out⟩
    · rw [gridB_false (fun h => h2 h.2.1)]
      go_enter Try.func88, Try.ntmps88
      go_wp2
      go_ret
      exact ⟨rfl, hE.out⟩
  · rw [gridB_false (fun h => h1 h.1)]
    go_enter Try.func88, Try.ntmps88
    go_wp2
    go_ret
    exact ⟨rfl, hE.out⟩
def asksZ (ps : List Pt) (A B D : Int) : Int := if blankB ps = true ∧ gridB A B D = true then 0 else 2
set_option maxHeartbeats 1000000 in
theorem asks_c (v : Value) (ps : List Pt) (A B D : Int) (w : World) (hv : Vecs w v ps) :
    Calls Try.prog 44 #[v, gridV A B D] w fun e w' => e = .returned (.int .i64 (asksZ ps A B D)) ∧ Ext w w' := by
  obtain ⟨a, cap, rfl, hl, hm, _⟩ := hv.at
  have hE0 := Ext.alloc (Ext.refl w) (.cells #[.int .i64 A, .int .i64 B, .int .i64 D] 24)
  have HV := Lib.hid (hv.ext hE0)
  have HE0 := Lib.hid hE0
  have HB := Lib.hid (show VRow (w.alloc (.cells #[.int .i64 A, .int .i64 B, .int .i64 D] 24)) _ _ _ from vrow_alloc w [.int .i64 A, .int .i64 B, .int .i64 D] 24)
  clear hv hE0
  cases hf : blankB ps with
  | false =>
    have HR := Lib.hid (show asksZ ps A B D = 2 by simp [asksZ, hf])
    generalize asksZ ps A B D = R at *
    have Hf := Lib.hid hf
    clear hf
    unfold gridV
    go_enter Try.func44, Try.ntmps44
    go_wp2_with fail
    refine (rBlank_c _ ps _ HV.out).mono ?_
    rintro e w2 ⟨rfl, hE⟩
    rw [Hf.out]
    go_wp2_with fail
    go_ret
    exact ⟨ret_int HR.out.symm, Ext.trans HE0.out hE⟩
  | true =>
    have HR := Lib.hid (show asksZ ps A B D = if gridB A B D = true then 0 else 2 by simp [asksZ, hf])
    generalize asksZ ps A B D = R at *
    have Hf := Lib.hid hf
    clear hf
    unfold gridV
    go_enter Try.func44, Try.ntmps44
    go_wp2_with fail
    refine (rBlank_c _ ps _ HV.out).mono ?_
    rintro e w2 ⟨rfl, hE⟩
    rw [Hf.out]
    have hb := VRow.ext HB.out hE
    have b0 := VRow.cell hb (k := 0) rfl
    have b1 := VRow.cell hb (k := 1) rfl
    have b2 := VRow.cell hb (k := 2) rfl
    go_wp2_with fail
    clear b0 b1 b2
    refine (show Calls Try.prog 88 #[gridV A B D] w2 _ from rgood_c A B D w2).mono ?_
    rintro e w3 ⟨rfl, hE3⟩
    cases hg : gridB A B D with
    | false =>
      rw [hg] at HR
      go_wp2_with fail
      go_ret
      exact ⟨ret_int (by rw [HR.out]; rfl), Ext.trans HE0.out (Ext.trans hE hE3)⟩
    | true =>
      rw [hg] at HR
      go_wp2_with fail
      go_ret
      exact ⟨ret_int (by rw [HR.out]; rfl), Ext.trans HE0.out (Ext.trans hE hE3)⟩
end Go.Proofs.Ytnpebfchojalcaa

namespace Go.Proofs.Ytnpebfchojalcaa
set_option maxRecDepth 100000
open Go.RowKit Go.Shelf
attribute [local go_sem] Oper.semAt_some
/-! The reference's Admissible; which collision is the first. -/
theorem cross_bd {ps : List Pt} : ∀ q ∈ crossL ps, -1000 ≤ q.1 ∧ q.1 ≤ 1000 ∧ -1000 ≤ q.2 ∧ q.2 ≤ 1000 := fun q hq => by
  have := ((hit_iff ps q).1 (cross_mem.1 hq).2).1
  omega
theorem cross_len (ps : List Pt) : (crossL ps).length ≤ 1000 := by
  have := crossN_len ps 25
  unfold crossL
  omega
theorem free_coll {ps : List Pt} {A B D : Int} (hb : blankB ps = true) (hg : gridB A B D = true) : freeB (crossL ps) A B D = decide (collL ps A B D = []) := by
  rw [free_avoid hb (gridB_ok hg), Bool.eq_iff_iff, decide_eq_true_eq]
  exact avoid_iff (gridB_ok hg)
set_option maxHeartbeats 2000000 in
theorem rAdmissible_c (v : Value) (ps : List Pt) (A B D : Int) (w : World) (hv : Vecs w v ps) :
    Calls Try.prog 17 #[v, gridV A B D] w fun e w' => e = admR ps A B D ∧ Ext w w' := by
  obtain ⟨a, cap, rfl, hl, hm, _⟩ := hv.at
  have hE0 := Ext.alloc (Ext.refl w) (.cells #[.int .i64 A, .int .i64 B, .int .i64 D] 24)
  have HV := Lib.hid (hv.ext hE0)
  have HE0 := Lib.hid hE0
  have HB := Lib.hid (show VRow (w.alloc (.cells #[.int .i64 A, .int .i64 B, .int .i64 D] 24)) _ _ _ from vrow_alloc w [.int .i64 A, .int .i64 B, .int .i64 D] 24)
  have b0 := VRow.cell HB.out (k := 0) rfl
  have b1 := VRow.cell HB.out (k := 1) rfl
  have b2 := VRow.cell HB.out (k := 2) rfl
  clear hv hE0
  by_cases hok : blankB ps = true ∧ gridB A B D = true
  · have HA := Lib.hid (show asksZ ps A B D = 0 from by unfold asksZ; rw [if_pos hok])
    have HR := Lib.hid (show admR ps A B D = two (.bool (freeB (crossL ps) A B D)) (.int .i64 0) from by unfold admR; rw [if_pos hok, free_coll hok.1 hok.2])
    have Hf := Lib.hid hok.1
    have HGO := Lib.hid (gridB_ok hok.2)
    generalize admR ps A B D = R at *
    clear hok
    unfold gridV
    go_enter Try.func17, Try.ntmps17
    go_wp2_with fail
    refine (show Calls Try.prog 44 #[.slice a ps.length cap, gridV A B D] _ _ from (asks_c _ ps A B D _ HV.out).mono ?_)
    rintro e w2 ⟨rfl, hE⟩
    rw [HA.out]
    have HB2 := Lib.hid (VRow.ext HB.out hE)
    have HV2 := Lib.hid (HV.out.ext hE)
    have HE2 := Lib.hid (Ext.trans HE0.out hE)
    clear hE b0 b1 b2
    obtain ⟨g, hgg⟩ : ∃ g, g = w.heap.size := ⟨_, rfl⟩
    rw [← hgg] at HB2 ⊢
    clear hgg
    go_wp2_with fail
    refine wp_region_stable [⟨[], none⟩, ⟨[(0, 13)], none⟩, ⟨[], none⟩, ⟨[(1, 14), (2, 15)], none⟩, ⟨[(3, 16)], none⟩, ⟨[], none⟩] (fun x y => Below x.heap.size x y) (MPat [MP.eq (.slice a ps.length cap), MP.vecs (crossL ps), MP.eq (gridV A B D), MP.eq (.bool (freeB (crossL ps) A B D)), MP.eq (.bool (freeB (crossL ps) A B D)), MP.eq (.int .i64 0)]) (by kernel_rfl) (fun _ _ _ h k => Ext.trans h k) (fun _ => Below.refl _ _) (fun x => (Below.refl x.heap.size x).drew) (MPat.mono _) (by kernel_rfl) ?obs ?rest
    case obs =>
      refine ⟨?_, ?_, ?_, ?_, ?_, ?_, trivial⟩
      · intro ev W5 hf _ _ hst hd
        have e0 : ev (.tmp 0) = .slice a ps.length cap := hf 0 (by kernel_rfl)
        exact st_value (v := .slice a ps.length cap) (by simp [execOp, go_sem, e0]) (Below.refl _ _) rfl
      · intro ev W5 hf _ hfn hst hd
        obtain ⟨d13, _⟩ := hd
        have e13 : ev (.tmp 13) = .slice a ps.length cap := d13
        refine st_enter (f := 46) (args := #[.slice a ps.length cap]) (by simp [execOp, go_sem, hfn, e13]) ?_
        refine (crossing_c _ ps W5 (HV2.out.ext hst) Hf.out).mono ?_
        rintro e w5 ⟨r, rfl, hr, hE⟩
        exact ⟨r, rfl, hE, hr⟩
      · intro ev W5 hf _ _ hst hd
        have e3 : ev (.tmp 3) = .pointer (some ⟨g, 0, none⟩) := hf 3 (by kernel_rfl)
        have kk := VRow.ext HB2.out hst
        have q0 := VRow.cell kk (k := 0) rfl
        have q1 := VRow.cell kk (k := 1) rfl
        have q2 := VRow.cell kk (k := 2) rfl
        exact st_value (v := gridV A B D) (by simp [execOp, go_sem, e3, q0, q1, q2, gridV]) (Below.refl _ _) rfl
      · intro ev W5 hf _ hfn hst hd
        obtain ⟨d14, d15, _⟩ := hd
        have e15 : ev (.tmp 15) = gridV A B D := d15
        have d14 : Vecs W5 (ev (.tmp 14)) (crossL ps) := d14
        refine st_call (f := 45) (args := #[ev (.tmp 14), gridV A B D]) (by simp [execOp, go_sem, hfn, e15]) (free_c _ (crossL ps) A B D W5 d14 cross_bd (cross_len ps) HGO.out) (fun _ _ => rfl)
      · intro ev W5 hf _ _ hst hd
        obtain ⟨d16, _⟩ := hd
        have e16 : ev (.tmp 16) = .bool (freeB (crossL ps) A B D) := d16
        exact st_value (v := .bool (freeB (crossL ps) A B D)) (by simp [execOp, go_sem, e16]) (Below.refl _ _) rfl
      · intro ev W5 hf hcst _ hst hd
        exact st_value (v := .int .i64 0) (by simp [execOp, go_sem, hcst]) (Below.refl _ _) rfl
    case rest =>
      intro vs w3 hl hst hg
      have hx0 : ∀ u, vs[0]? = some u → u = .slice a ps.length cap := fun u hu => hg 0 u hu
      have hx1 : ∀ u, vs[1]? = some u → MP.p (MP.vecs (crossL ps)) u w3 := fun u hu => hg 1 u hu
      have hx2 : ∀ u, vs[2]? = some u → u = gridV A B D := fun u hu => hg 2 u hu
      have hx3 : ∀ u, vs[3]? = some u → u = .bool (freeB (crossL ps) A B D) := fun u hu => hg 3 u hu
      have hx4 : ∀ u, vs[4]? = some u → u = .bool (freeB (crossL ps) A B D) := fun u hu => hg 4 u hu
      have hx5 : ∀ u, vs[5]? = some u → u = .int .i64 0 := fun u hu => hg 5 u hu
      have HE3 := Lib.hid hst
      clear hg hst
      obtain ⟨x0, vs0, rfl, hl0⟩ := len_succ hl
      obtain ⟨x1, vs1, rfl, hl1⟩ := len_succ hl0
      obtain ⟨x2, vs2, rfl, hl2⟩ := len_succ hl1
      obtain ⟨x3, vs3, rfl, hl3⟩ := len_succ hl2
      obtain ⟨x4, vs4, rfl, hl4⟩ := len_succ hl3
      obtain ⟨x5, vs5, rfl, hl5⟩ := len_succ hl4
      have hnil : vs5 = [] := List.length_eq_zero_iff.1 hl5
      subst hnil
      obtain rfl : x0 = .slice a ps.length cap := hx0 _ rfl
      replace hx1 := hx1 _ rfl
      obtain rfl : x2 = gridV A B D := hx2 _ rfl
      obtain rfl : x3 = .bool (freeB (crossL ps) A B D) := hx3 _ rfl
      obtain rfl : x4 = .bool (freeB (crossL ps) A B D) := hx4 _ rfl
      obtain rfl : x5 = .int .i64 0 := hx5 _ rfl
      clear hx0 hx2 hx3 hx4 hx5
      simp only [putAll, Act.put, List.setIfInBounds_toArray, List.set_cons_zero, List.set_cons_succ]
      go_wp2_with fail
      go_ret2
      exact ⟨HR.out.symm, Ext.trans HE2.out HE3.out⟩
  · have HA := Lib.hid (show asksZ ps A B D = 2 from by unfold asksZ; rw [if_neg hok])
    have HR := Lib.hid (show admR ps A B D = two (.bool false) (.int .i64 2) from by unfold admR; rw [if_neg hok])
    generalize admR ps A B D = R at *
    clear hok
    unfold gridV
    go_enter Try.func17, Try.ntmps17
    go_wp2_with fail
    refine (show Calls Try.prog 44 #[.slice a ps.length cap, gridV A B D] _ _ from (asks_c _ ps A B D _ HV.out).mono ?_)
    rintro e w2 ⟨rfl, hE⟩
    rw [HA.out]
    have HE2 := Lib.hid (Ext.trans HE0.out hE)
    clear hE b0 b1 b2
    go_wp2_with fail
    go_ret2
    exact ⟨HR.out.symm, HE2.out⟩
/-- the best of the first vectors of a list that are a grid's -/
def BestI (cs : List Pt) (A B D : Int) (k : Nat) (q : Pt) : Prop :=
  (q = (0, 0) ∧ ∀ j, j < k → inB A B D (fromP cs j) = false) ∨ (q ∈ cs ∧ q ≠ (0, 0) ∧ inB A B D q = true ∧ ∀ j, j < k → inB A B D (fromP cs j) = true → ¬ witP (fromP cs j) q < 0)
end Go.Proofs.Ytnpebfchojalcaa

namespace Go.Proofs.Ytnpebfchojalcaa
set_option maxRecDepth 100000
open Go.RowKit Go.Shelf
attribute [local go_sem] Oper.semAt_some
/-! The reference's Witness. -/
/-- a list's cells in a block -/
def LAt (W : World) (b o : Nat) (cs : List Pt) : Prop := ∀ k, k < cs.length → W.cell? ⟨b, o + k * 2, none⟩ = some (.int .i64 (fromP cs k).1) ∧ W.cell? ⟨b, o + k * 2 + 1, none⟩ = some (.int .i64 (fromP cs k).2)
theorem LAt.ext {W W' : World} {b o : Nat} {cs : List Pt} (h : LAt W b o cs) (hE : Ext W W') : LAt W' b o cs := fun k hk => ⟨Ext.cell hE (h k hk).1, Ext.cell hE (h k hk).2⟩
theorem LAt.other {W : World} {b o : Nat} {cs : List Pt} (h : LAt W b o cs) {m i : Nat} (hm : m ≠ b) (v : Value) : LAt (W.setCell ⟨m, i, none⟩ v) b o cs := fun k hk =>
  have ne : ∀ o, (⟨m, i, none⟩ : Addr) ≠ ⟨b, o, none⟩ := fun o e => by injection e with e1 e2; exact hm e1
  ⟨(World.cell?_setCell_other (h := ne _) ..).trans (h k hk).1, (World.cell?_setCell_other (h := ne _) ..).trans (h k hk).2⟩
end Go.Proofs.Ytnpebfchojalcaa

namespace Go.Proofs.Ytnpebfchojalcaa
set_option maxRecDepth 100000
open Go.RowKit Go.Shelf Go.Maps
theorem few_c (a : Option Addr) (len cap : Nat) (w : World) (h : len ≤ 9223372036854775807) : Calls Try.prog 14 #[.slice a len cap] w fun e w' => e = .returned (.bool (decide (len ≤ 60))) ∧ w = w' := by
  by_cases h3 : len ≤ 60
  · rw [decide_eq_true h3]
    go_enter Try.func14, Try.ntmps14
    go_wp2
    all_goals go_ret
    all_goals exact ⟨ret_bool (by simp; omega), rfl⟩
  · rw [decide_eq_false h3]
    go_enter Try.func14, Try.ntmps14
    go_wp2
    all_goals go_ret
    all_goals exact ⟨ret_bool (by simp; omega), rfl⟩
end Go.Proofs.Ytnpebfchojalcaa

namespace Go.Proofs.Ytnpebfchojalcaa
set_option maxRecDepth 100000
open Go.RowKit Go.Shelf
attribute [local go_sem] Oper.semAt_some
/-! The law of grids: Admissible and Witness against the reference, on a copy. -/
theorem addn_addr (b o j : Nat) : (⟨b, o, none⟩ : Addr).add j = ⟨b, o + j, none⟩ := by
  unfold Addr.add
  cases j with
  | zero => rfl
  | succ j => simp
theorem ptsn_cells {w : World} {b o : Nat} {qs : List Pt} (h : PtsAt w b o qs) (j : Nat) (u : Value) (hj : (cellsOf qs)[j]? = some u) : w.cell? ((⟨b, o, none⟩ : Addr).add j) = some u := by
  obtain ⟨k, q, hk, hh⟩ := cellsOf_get qs j u hj
  obtain ⟨h1, h2⟩ := h k q hk
  rw [addn_addr]
  rcases hh with ⟨rfl, rfl⟩ | ⟨rfl, rfl⟩
  · exact h1
  · exact h2
/-- a slice without memory is the nil slice -/
def NilO (v : Value) : Prop := ∀ n cap : Nat, v = .slice none n cap → n = 0 ∧ cap = 0
set_option maxHeartbeats 2000000 in
theorem same_c (u v : Value) (ps : List Pt) (w : World) (hu : Vecs w u ps) (hv : Vecs w v ps) :
    Calls Try.prog 20 #[u, v] w fun e w' => e = .returned (.bool true) ∧ Ext w w' := by
  by_cases h0 : ps = []
  · subst h0
    obtain ⟨a, cap, rfl, hl, hm, _⟩ := hu.at
    obtain ⟨a', cap', rfl, hl', hm', _⟩ := hv.at
    clear hu hv
    go_enter Try.func20, Try.ntmps20
    go_wp2_with fail
    go_loopw [5] (fun iv wr => iv = .int .i64 0 ∧ Ext w wr) (fun _ _ => 0)
    case atStart => exact ⟨rfl, Ext.refl _⟩
    case round =>
      rename World => wr
      obtain ⟨rfl, hE⟩ := hrel
      go_wp2_with fail
      go_ret
      exact ⟨rfl, hE⟩
  · have h1 : 1 ≤ ps.length := by
      cases ps with
      | nil => exact absurd rfl h0
      | cons _ _ => simp
    obtain ⟨b, o, cap, rfl, hl, hm, hc⟩ := vecs_cells hu h1
    obtain ⟨b', o', cap', rfl, hl', hm', hc'⟩ := vecs_cells hv h1
    have HC := Lib.hid hc
    have HC' := Lib.hid hc'
    obtain ⟨n, hn⟩ : ∃ n, n = ps.length := ⟨_, rfl⟩
    rw [← hn] at HC HC' hl hl' ⊢
    clear hu hv hc hc' h0 h1 hn
    go_enter Try.func20, Try.ntmps20
    go_wp2_with fail
    go_loopw [5] (fun iv wr => ∃ k : Nat, iv = .int .i64 (k : Int) ∧ k ≤ n ∧ Ext w wr) (fun iv _ => n - (intOf iv).toNat)
    case atStart => exact ⟨0, rfl, Nat.zero_le _, Ext.refl _⟩
    case round =>
      rename World => wr
      obtain ⟨k, rfl, hk, hE⟩ := hrel
      have HE := Lib.hid hE
      clear hE
      by_cases hlt : k < n
      · obtain ⟨c1, c2⟩ := HC.out k hlt
        obtain ⟨d1, d2⟩ := HC'.out k hlt
        have HCC := Lib.hid (show _ ∧ _ from And.intro (Ext.cell HE.out c1) (Ext.cell HE.out c2))
        have HDD := Lib.hid (show _ ∧ _ from And.intro (Ext.cell HE.out d1) (Ext.cell HE.out d2))
        clear c1 c2 d1 d2
        obtain ⟨x, hx⟩ : ∃ x, x = (fromP ps k).1 := ⟨_, rfl⟩
        obtain ⟨y, hy⟩ : ∃ y, y = (fromP ps k).2 := ⟨_, rfl⟩
        rw [← hx, ← hy] at HCC HDD
        clear hx hy
        go_wp2_with fail
        refine wp_region_stable [⟨[], none⟩, ⟨[], none⟩, ⟨[(0, 17), (1, 18)], none⟩, ⟨[(2, 19)], none⟩, ⟨[], none⟩, ⟨[], none⟩, ⟨[(4, 21), (5, 22)], none⟩, ⟨[(6, 23)], none⟩, ⟨[(3, 20), (7, 24)], none⟩] (fun x y => Below x.heap.size x y) (MPat [MP.eq (.slice (some ⟨b, o, none⟩) n cap), MP.eq (.int .i64 k), MP.eq (.pointer (some ⟨b, o + k * 2, none⟩)), MP.eq (vecV x y), MP.eq (.slice (some ⟨b', o', none⟩) n cap'), MP.eq (.int .i64 k), MP.eq (.pointer (some ⟨b', o' + k * 2, none⟩)), MP.eq (vecV x y), MP.eq (.bool false)]) (by kernel_rfl) (fun _ _ _ h k => Ext.trans h k) (fun _ => Below.refl _ _) (fun x => (Below.refl x.heap.size x).drew) (MPat.mono _) (by kernel_rfl) ?obs ?rest
        case obs =>
          refine ⟨?_, ?_, ?_, ?_, ?_, ?_, ?_, ?_, ?_, trivial⟩
          · intro ev W hf _ _ hst hd
            have e0 : ev (.tmp 0) = .slice (some ⟨b, o, none⟩) n cap := hf 0 (by kernel_rfl)
            exact st_value (v := .slice (some ⟨b, o, none⟩) n cap) (by simp [execOp, go_sem, e0]) (Below.refl _ _) rfl
          · intro ev W hf _ _ hst hd
            have e5 : ev (.tmp 5) = .int .i64 k := hf 5 (by kernel_rfl)
            exact st_value (v := .int .i64 k) (by simp [execOp, go_sem, e5]) (Below.refl _ _) rfl
          · intro ev W hf _ _ hst hd
            obtain ⟨d17, d18, _⟩ := hd
            have e17 : ev (.tmp 17) = .slice (some ⟨b, o, none⟩) n cap := d17
            have e18 : ev (.tmp 18) = .int .i64 k := d18
            exact st_value (v := .pointer (some ⟨b, o + k * 2, none⟩)) (by simp [execOp, go_sem, e17, e18, hlt]) (Below.refl _ _) rfl
          · intro ev W hf _ _ hst hd
            obtain ⟨d19, _⟩ := hd
            have e19 : ev (.tmp 19) = .pointer (some ⟨b, o + k * 2, none⟩) := d19
            have k0 := Ext.cell hst HCC.out.1
            have k1 := Ext.cell hst HCC.out.2
            exact st_value (v := vecV x y) (by simp [execOp, go_sem, e19, k0, k1]) (Below.refl _ _) rfl
          · intro ev W hf _ _ hst hd
            have e1 : ev (.tmp 1) = .slice (some ⟨b', o', none⟩) n cap' := hf 1 (by kernel_rfl)
            exact st_value (v := .slice (some ⟨b', o', none⟩) n cap') (by simp [execOp, go_sem, e1]) (Below.refl _ _) rfl
          · intro ev W hf _ _ hst hd
            have e5 : ev (.tmp 5) = .int .i64 k := hf 5 (by kernel_rfl)
            exact st_value (v := .int .i64 k) (by simp [execOp, go_sem, e5]) (Below.refl _ _) rfl
          · intro ev W hf _ _ hst hd
            obtain ⟨d21, d22, _⟩ := hd
            have e21 : ev (.tmp 21) = .slice (some ⟨b', o', none⟩) n cap' := d21
            have e22 : ev (.tmp 22) = .int .i64 k := d22
            exact st_value (v := .pointer (some ⟨b', o' + k * 2, none⟩)) (by simp [execOp, go_sem, e21, e22, hlt]) (Below.refl _ _) rfl
          · intro ev W hf _ _ hst hd
            obtain ⟨d23, _⟩ := hd
            have e23 : ev (.tmp 23) = .pointer (some ⟨b', o' + k * 2, none⟩) := d23
            have k0 := Ext.cell hst HDD.out.1
            have k1 := Ext.cell hst HDD.out.2
            exact st_value (v := vecV x y) (by simp [execOp, go_sem, e23, k0, k1]) (Below.refl _ _) rfl
          · intro ev W hf _ _ hst hd
            obtain ⟨d20, d24, _⟩ := hd
            have e20 : ev (.tmp 20) = vecV x y := d20
            have e24 : ev (.tmp 24) = vecV x y := d24
            exact st_value (v := .bool false) (by simp [execOp, go_sem, e20, e24]) (Below.refl _ _) rfl
        case rest =>
          intro vs w3 hl hst hg
          have hvs : vs = [.slice (some ⟨b, o, none⟩) n cap, .int .i64 k, .pointer (some ⟨b, o + k * 2, none⟩), vecV x y, .slice (some ⟨b', o', none⟩) n cap', .int .i64 k, .pointer (some ⟨b', o' + k * 2, none⟩), vecV x y, .bool false] := vs_all hl hg
          have HE3 := Lib.hid hst
          clear hg hst hl
          subst hvs
          simp only [putAll, Act.put, List.setIfInBounds_toArray, List.set_cons_zero, List.set_cons_succ]
          go_wp2_with fail
          exact ⟨⟨k + 1, by simp, by omega, Ext.trans HE.out HE3.out⟩, by simp [intOf]; omega⟩
      · obtain rfl : k = n := by omega
        go_wp2_with fail
        go_ret
        exact ⟨rfl, HE.out⟩
end Go.Proofs.Ytnpebfchojalcaa

namespace Go.Proofs.Ytnpebfchojalcaa
set_option maxRecDepth 100000
open Go.ChangeShapes Go.WideShapes Go.ChangeAt Go.RowKit
section
variable {H : Type} {enc : TypeId × Value → H} {w : World} {base b2 : Nat} {spare : Nat → Bool} {held : Bool}
theorem vecs_trodH {v : Value} {d : DataW H} {ps : List MemPlace} (hok : Value.okWide Try.prog w .any b2 22 v) (h : DataW.Trod enc Try.prog w base spare held 22 v d ps) : ∃ xs, Vecs w v xs ∧ NilO v := by
  obtain ⟨fuel, h⟩ := h
  have hv : ∀ a len cap, v.cells.toList = [.slice a len cap] → v = .slice a len cap := by
    intro a len cap e
    cases v <;> simp [Value.cells] at e
    case slice => obtain ⟨rfl, rfl, rfl⟩ := e; rfl
    all_goals simp [Value.okWide, Cell.okWide, Cell.ok, Try.underlying22] at hok
  rcases Go.Deep.open_slice_pairs Try.underlying22 Try.underlying31 cells31 rfl rfl cells3 cells3 h with ⟨hc, _⟩ | ⟨a, len, cap, m, n, V0, V1, D0, D1, P0, P1, hc, _, hl, hm, hmm, _, hx⟩
  · have e0 := hv _ _ _ hc
    exact ⟨[], ⟨none, 0, e0, Nat.le_refl _, by omega, .inl rfl⟩, fun n cap e => by rw [e0] at e; injection e with _ e1 e2; exact ⟨e1.symm, e2.symm⟩⟩
  · have hlen : len ≤ m := by rw [hmm]; split <;> omega
    unfold maxLen at hm
    have := hv _ _ _ hc
    subst this
    obtain ⟨f, hf⟩ := Go.Deep.choose_lt (n := m) (p := fun i (x : Pt) => V0 i = .int .i64 x.1 ∧ V1 i = .int .i64 x.2) (fun i hi => by
      obtain ⟨_, _, t0, t1⟩ := hx i hi
      obtain ⟨x, e0, _, _⟩ := DataW.trod_int Try.underlying3 t0
      obtain ⟨y, e1, _, _⟩ := DataW.trod_int Try.underlying3 t1
      simp only [List.cons.injEq, and_true] at e0 e1
      exact ⟨(x, y), e0, e1⟩)
    refine ⟨(List.range len).map f, ⟨some a, cap, by simp, by simpa using hl, by omega, ?_⟩, fun n cap e => by cases e⟩
    by_cases h0 : len = 0
    · subst h0; exact .inl rfl
    · have e := plain_of_cell (show w.cell? (a.add 0) = some (V0 0) by simpa using (hx 0 (by omega)).1)
      refine .inr ⟨a.block, a.off, by rw [← e], fun k p hk => ?_⟩
      have hi : k < len := by
        have := (List.getElem?_eq_some_iff.1 hk).1
        simpa using this
      simp [hi] at hk
      subst hk
      obtain ⟨c0, c1, _, _⟩ := hx k (by omega)
      rw [e, Go.WideShapes.add_plain] at c0 c1
      obtain ⟨g0, g1⟩ := hf k (by omega)
      rw [← g0, ← g1]
      exact ⟨c0, by simpa [Nat.add_assoc] using c1⟩
end
end Go.Proofs.Ytnpebfchojalcaa
