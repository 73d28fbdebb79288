import Derived.Test.YtnpebfchojalcaaV8
namespace Go.Proofs.Ytnpebfchojalcaa
open Go.RowKit Go.Shelf
theorem madeCells_two (n : Nat) : madeCells #[.int .i64 0, .int .i64 0] (n * 2) = (cellsOf (List.replicate n (0, 0))).toArray := by
  have e : ∀ n, cellsOf (List.replicate n ((0, 0) : Pt)) = List.replicate (n * 2) (.int .i64 0) := by
    intro n
    induction n with
    | zero => rfl
    | succ n ih =>
      rw [List.replicate_succ, cellsOf, ih, show (n + 1) * 2 = n * 2 + 1 + 1 by omega, List.replicate_succ, List.replicate_succ]
  rw [e]
  apply Array.ext
  · simp [madeCells]
  · intro i h1 h2
    rcases Nat.mod_two_eq_zero_or_one i with h | h <;> simp [madeCells, h]
theorem run_make_pts (n : Nat) (hn : n ≤ 1000000) (w : World) :
    (Instr.makeSlice 22 (.int .i64 (n : Int)) (.int .i64 (n : Int))).run Try.prog w = .ok (.slice (some ⟨w.heap.size, 0, none⟩) n n) (w.alloc (.cells (cellsOf (List.replicate n (0, 0))).toArray 31)) := by
  obtain ⟨i, hi, hz, hs, hb⟩ := info_parts info31
  have hr := run_make (P := Try.prog) w 22 31 i (.agg #[.int .i64 0, .int .i64 0]) Try.underlying22 hi hz .i64 .i64 n n (by omega) (Int.le_refl _) (by rw [hb]; omega) (by omega)
  simp only [Int.toNat_natCast, hs] at hr
  have e : (Value.agg #[Value.int IntKind.i64 0, Value.int IntKind.i64 0]).cells = #[Value.int IntKind.i64 0, Value.int IntKind.i64 0] := rfl
  rw [e, madeCells_two] at hr
  exact hr
theorem cellsOf_set : ∀ (qs : List Pt) (k : Nat) (p : Pt), cellsOf (qs.set k p) = ((cellsOf qs).set (k * 2) (.int .i64 p.1)).set (k * 2 + 1) (.int .i64 p.2) := by
  intro qs
  induction qs with
  | nil => intro k p; rfl
  | cons q r ih =>
    intro k p
    cases k with
    | zero => rfl
    | succ k =>
      rw [show (k + 1) * 2 = k * 2 + 1 + 1 by omega]
      simp only [List.set_cons_succ, cellsOf, ih]
/-- Block g holds these points. -/
abbrev PRow (w : World) (g : Nat) (qs : List Pt) : Prop := VRow w g 31 (cellsOf qs)
theorem PRow.put {w : World} {g : Nat} {qs : List Pt} (h : PRow w g qs) (k : Nat) (p : Pt) : PRow ((w.setCell ⟨g, k * 2, none⟩ (.int .i64 p.1)).setCell ⟨g, k * 2 + 1, none⟩ (.int .i64 p.2)) g (qs.set k p) := by
  unfold PRow
  rw [cellsOf_set]
  exact VRow.set (VRow.set h _ _) _ _
theorem PRow.vecs {w : World} {g n : Nat} {qs : List Pt} (h : PRow w g qs) (hn : n = qs.length) (hm : qs.length ≤ 1000000) : Vecs w (.slice (some ⟨g, 0, none⟩) n n) qs := by
  subst hn
  refine ⟨_, _, rfl, Nat.le_refl _, by omega, .inr ⟨g, 0, rfl, fun k q hk => ?_⟩⟩
  obtain ⟨h1, h2⟩ := cellsOf_at qs k q hk
  rw [Nat.zero_add]
  exact ⟨VRow.cell h h1, VRow.cell h h2⟩
theorem PRow.at {w : World} {g k : Nat} {qs : List Pt} (h : PRow w g qs) (hk : k < qs.length) : ∃ x y, w.cell? ⟨g, k * 2, none⟩ = some x ∧ w.cell? ⟨g, k * 2 + 1, none⟩ = some y := by
  obtain ⟨q, hq⟩ := getElem?_len hk
  obtain ⟨h1, h2⟩ := cellsOf_at qs k q hq
  exact ⟨_, _, VRow.cell h h1, VRow.cell h h2⟩
theorem set_done {qs rs : List Pt} {k : Nat} {p : Pt} {f : Pt → Pt} (hl : qs.length = rs.length) (hk : k < rs.length) (h : ∀ j, j < k → qs[j]? = rs[j]?.map f) (hp : rs[k]? = some p) : ∀ j, j < k + 1 → (qs.set k (f p))[j]? = rs[j]?.map f := by
  intro j hj
  by_cases hjk : j = k
  · subst hjk
    rw [List.getElem?_set_self (by omega), hp]
    rfl
  · rw [List.getElem?_set_ne (by omega)]
    exact h j (by omega)
theorem all_map {qs rs : List Pt} {f : Pt → Pt} (hl : qs.length = rs.length) (h : ∀ j, j < rs.length → qs[j]? = rs[j]?.map f) : qs = rs.map f := by
  apply List.ext_getElem?
  intro j
  rw [List.getElem?_map]
  by_cases hj : j < rs.length
  · exact h j hj
  · rw [List.getElem?_eq_none (by omega), List.getElem?_eq_none (by omega)]
    rfl
theorem lim_two (v : Value) (ps : List Pt) : ∃ a b, limR v ps = two a b := by
  unfold limR
  split
  · exact ⟨_, _, rfl⟩
  · split <;> exact ⟨_, _, rfl⟩
def addP (v q : Pt) : Pt := (q.1 + v.1, q.2 + v.2)
def negP (q : Pt) : Pt := (-q.1, -q.2)
def movedP (ps : List Pt) (v : Pt) : List Pt := ps.map (addP v)
def okVec (x y : Int) : Prop := farB x y = false
/-- Move's end: the two errors, or the moved polygon in memory of its own, or limited's errors -/
def moveR (ps : List Pt) (x y : Int) (u : Value) : Ending := if validB ps = true ∧ farB x y = false then limR u (movedP ps (x, y)) else two (.slice none 0 0) (.int .i64 2)
theorem far_in {x y : Int} (h : farB x y = false) : -1000 ≤ x ∧ x ≤ 1000 ∧ -1000 ≤ y ∧ y ≤ 1000 := by
  simp [farB] at h
  omega
set_option maxRecDepth 100000 in
set_option maxHeartbeats 1000000 in
theorem Move_c (v : Value) (ps : List Pt) (x y : Int) (w : World) (hv : Vecs w v ps) :
    Calls Try.prog 35 #[v, vecV x y] w fun e w' => ∃ u, e = moveR ps x y u ∧ (validB ps = true → farB x y = false → Vecs w' u (movedP ps (x, y))) ∧ Ext w w' := by
  obtain ⟨a, cap, rfl, hl, hm, hra⟩ := hv.at
  have hE0 := Ext.alloc (Ext.refl w) (.cells #[.int .i64 x, .int .i64 y] 31)
  have HV := Lib.hid (hv.ext hE0)
  have HE0 := Lib.hid hE0
  have HB := Lib.hid (show VRow (w.alloc (.cells #[.int .i64 x, .int .i64 y] 31)) _ _ _ from vrow_alloc w [.int .i64 x, .int .i64 y] 31)
  clear hv hE0 hra
  cases hf : validB ps with
  | false =>
    have HR := Lib.hid (show moveR ps x y (.slice none 0 0) = two (.slice none 0 0) (.int .i64 2) by simp [moveR, hf])
    have Hf := Lib.hid hf
    clear hf
    go_enter Try.func35, Try.ntmps35
    go_wp2_with fail
    refine (valid_c _ ps _ HV.out).mono ?_
    rintro e w2 ⟨rfl, hE⟩
    rw [Hf.out]
    go_wp2_with fail
    go_ret2
    exact ⟨_, HR.out.symm, fun h => (by cases h), Ext.trans HE0.out hE⟩
  | true =>
    cases hg : farB x y with
    | true =>
      have HR := Lib.hid (show moveR ps x y (.slice none 0 0) = two (.slice none 0 0) (.int .i64 2) by simp [moveR, hg])
      have Hf := Lib.hid hf
      have Hg := Lib.hid hg
      clear hf hg
      go_enter Try.func35, Try.ntmps35
      go_wp2_with fail
      refine (valid_c _ ps _ HV.out).mono ?_
      rintro e w2 ⟨rfl, hE⟩
      rw [Hf.out]
      have hb := VRow.ext HB.out hE
      have b0 := VRow.cell hb (k := 0) rfl
      have b1 := VRow.cell hb (k := 1) rfl
      go_wp2_with fail
      refine (show Calls Try.prog 79 #[vecV x y] _ _ from (far_c x y _).mono ?_)
      rintro e w3 ⟨rfl, hE3⟩
      rw [Hg.out]
      clear b0 b1
      go_wp2_with fail
      go_ret2
      exact ⟨_, HR.out.symm, fun _ h => (by cases h), Ext.trans HE0.out (Ext.trans hE hE3)⟩
    | false =>
      have HR := Lib.hid (show ∀ u, moveR ps x y u = limR u (movedP ps (x, y)) from fun u => by simp [moveR, hf, hg])
      have Hf := Lib.hid hf
      have Hg := Lib.hid hg
      have hxy := far_in hg
      have hn : ps.length ≤ 32 := (valid_near hf).2.2
      have HX := Lib.hid (show fine x ∧ fine y by unfold fine; omega)
      have HN := Lib.hid (valid_near hf).1
      clear hf hg hxy
      have hmk := run_make_pts ps.length (by omega)
      have HMK := Lib.hid hmk
      clear hmk
      go_enter Try.func35, Try.ntmps35
      go_wp2_with fail
      refine (valid_c _ ps _ HV.out).mono ?_
      rintro e w2 ⟨rfl, hE⟩
      rw [Hf.out]
      have hb := VRow.ext HB.out hE
      have b0 := VRow.cell hb (k := 0) rfl
      have b1 := VRow.cell hb (k := 1) rfl
      go_wp2_with fail
      refine (show Calls Try.prog 79 #[vecV x y] _ _ from (far_c x y _).mono ?_)
      rintro e w3 ⟨rfl, hE3⟩
      rw [Hg.out]
      have HE3 := Lib.hid (Ext.trans hE hE3)
      clear b0 b1 hb hE hE3
      have hmk := HMK.out w3
      go_wp2_with fail
      clear hmk
      have hr0 := vrow_alloc w3 (cellsOf (List.replicate ps.length (0, 0))) 31
      have HV3 := Lib.hid (HV.out.ext (Ext.trans HE3.out (Ext.alloc (Ext.refl w3) (.cells (cellsOf (List.replicate ps.length (0, 0))).toArray 31))))
      have HB3 := Lib.hid (VRow.ext HB.out (Ext.trans HE3.out (Ext.alloc (Ext.refl w3) (.cells (cellsOf (List.replicate ps.length (0, 0))).toArray 31))))
      have hE4 := Ext.alloc (Ext.refl w3) (.cells (cellsOf (List.replicate ps.length (0, 0))).toArray 31)
      have hss : (w3.alloc (.cells (cellsOf (List.replicate ps.length (0, 0))).toArray 31)).heap.size = w3.heap.size + 1 := by simp
      have hbb : w.heap.size < w3.heap.size := VRow.lt (VRow.ext HB.out HE3.out)
      go_loopw [21] (fun i wr => ∃ (k : Nat) (qs : List Pt), k ≤ ps.length ∧ qs.length = ps.length ∧ (∀ j, j < k → qs[j]? = ps[j]?.map (addP (x, y))) ∧ i = .int .i64 k ∧ PRow wr w3.heap.size qs ∧ Ext w3 wr ∧ Held (fun j => j < w3.heap.size) w3 wr) (fun i _ => ps.length - (intOf i).toNat)
      case atStart => exact ⟨0, _, Nat.zero_le _, by simp, fun j hj => by omega, rfl, hr0, hE4, Held.of_below hE4⟩
      case round =>
        clear hr0
        obtain ⟨k, qs, hk, hql, hq, rfl, hr, hE5, hH⟩ := hrel
        clear hH
        have HQ := Lib.hid hq
        have HRW := Lib.hid hr
        have HE5 := Lib.hid hE5
        have Hql := Lib.hid hql
        clear hq hr hE5 hql
        by_cases hlt : k < ps.length
        · have HV5 := HV.out.ext (Ext.trans HE3.out HE5.out)
          obtain ⟨a', cap', e, _, _, hra⟩ := HV5.at
          have e : a = a' ∧ cap = cap' := by injection e with e1 e2 e3; exact ⟨e1, e3⟩
          obtain ⟨rfl, rfl⟩ := e
          obtain ⟨q, hq⟩ := getElem?_len hlt
          obtain ⟨b, o, rfl, c0, c1⟩ := hra k q hq
          have hqn := HN.out q (List.mem_of_getElem? hq)
          have HQN := Lib.hid (show fine q.1 ∧ fine q.2 by unfold fine; omega)
          have hb := VRow.ext HB.out (Ext.trans HE3.out HE5.out)
          have b0 := VRow.cell hb (k := 0) rfl
          have b1 := VRow.cell hb (k := 1) rfl
          have Hq := Lib.hid hq
          have h1 := cell_lt c0
          have h2 := cell_lt b0
          have HB5 := Lib.hid hb
          have hg3 := VRow.lt HRW.out
          clear hb hq hqn hra HV5
          replace b0 := Ext.cell (Ext.alloc (Ext.refl wr) (.cells #[.int .i64 q.1, .int .i64 q.2] 31)) b0
          replace b1 := Ext.cell (Ext.alloc (Ext.refl wr) (.cells #[.int .i64 q.1, .int .i64 q.2] 31)) b1
          go_wp2_with fail
          clear b0 b1 c0 c1
          refine (show Calls Try.prog 80 #[vecV q.1 q.2, vecV x y] _ _ from (plus_c q.1 q.2 x y _ HQN.out.1 HQN.out.2 HX.out.1 HX.out.2).mono ?_)
          rintro e w6 ⟨rfl, hE6⟩
          have HE6 := Lib.hid (Ext.trans (Ext.alloc (Ext.refl wr) (.cells #[.int .i64 q.1, .int .i64 q.2] 31)) hE6)
          have HR6 := Lib.hid (VRow.ext HRW.out HE6.out)
          obtain ⟨cx, cy, d0, d1⟩ := PRow.at (show PRow w6 _ qs from HR6.out) (show k < qs.length by rw [Hql.out]; exact hlt)
          have f0 := VRow.frozen HR6.out (k * 2) none
          have f1 := VRow.frozen HR6.out (k * 2 + 1) none
          clear hE6
          go_wp2_with fail
          refine ⟨⟨k + 1, _, by omega, by rw [List.length_set]; exact Hql.out, set_done (f := addP (x, y)) Hql.out hlt HQ.out Hq.out, by simp, PRow.put (show PRow w6 _ qs from HR6.out) k (addP (x, y) q), ?_, ?_⟩, by simp [intOf]; omega⟩
          · exact Below.setCell (p := ⟨w3.heap.size, k * 2 + 1, none⟩) (Below.setCell (p := ⟨w3.heap.size, k * 2, none⟩) (Ext.trans HE5.out HE6.out) (Nat.le_refl _) _) (Nat.le_refl _) _
          · exact Held.of_below (Below.setCell (p := ⟨w3.heap.size, k * 2 + 1, none⟩) (Below.setCell (p := ⟨w3.heap.size, k * 2, none⟩) (Ext.trans HE5.out HE6.out) (Nat.le_refl _) _) (Nat.le_refl _) _)
        · obtain rfl : k = ps.length := by omega
          go_wp2_with fail
          have hqs := all_map Hql.out HQ.out
          refine (limited_c _ qs _ (PRow.vecs HRW.out Hql.out.symm (by rw [Hql.out]; omega))).mono ?_
          rintro e w6 ⟨rfl, hE6⟩
          have hvx := (PRow.vecs HRW.out Hql.out.symm (by rw [Hql.out]; omega)).ext hE6
          obtain ⟨ra, rb, hab⟩ := lim_two (.slice (some ⟨w3.heap.size, 0, none⟩) ps.length ps.length) qs
          have HAB := Lib.hid hab
          have HVX := Lib.hid hvx
          have HQS := Lib.hid hqs
          have HE6 := Lib.hid (Ext.trans HE3.out (Ext.trans HE5.out hE6))
          rw [hab]
          clear hab hvx hqs hE6
          simp only [two]
          go_wp2_with fail
          go_ret2
          refine ⟨_, by rw [HR.out, show movedP ps (x, y) = qs from HQS.out.symm, HAB.out]; rfl, fun _ _ => ?_, Ext.trans HE0.out HE6.out⟩
          rw [show movedP ps (x, y) = qs from HQS.out.symm]
          exact HVX.out
end Go.Proofs.Ytnpebfchojalcaa
