import Derived.Test.YtbdppephmlkbaaaV17
import Derived.Test.YtbdppephmlkbaaaS1
namespace Go.Proofs.Ytbdppephmlkbaaa
set_option maxRecDepth 100000
open Go.RowKit Go.Shelf
def wideZ (a : Int) : Prop := -1000000 ≤ a ∧ a ≤ 1000000
set_option maxHeartbeats 400000 in
theorem plus_w (a b c d : Int) (w : World) (ha : wideZ a) (hb : wideZ b) (hc : wideZ c) (hd : wideZ d) :
    Calls Try.prog 59 #[vecV a b, vecV c d] w fun e w' => e = .returned (vecV (a + c) (b + d)) ∧ Ext w w' := by
  unfold wideZ at *
  go_enter Try.func59, Try.ntmps59
  go_wp2
  all_goals ((try simp only [Exit.inBlock, Exit.then]); refine bodyPost_ret (by rw [results_cell1 rfl]; go_simp; rfl) rfl ?_)
  all_goals exact ⟨rfl, by (repeat' (first | exact Below.refl _ _ | refine Below.drew ?_ | refine Below.alloc ?_ (by simp <;> omega) _ | refine Below.setCell ?_ (by simp <;> omega) _))⟩
/-- what the sort does to a row of one's own -/
def SortC (f : FuncId) (lt : Pt → Pt → Prop) (ok : Pt → Prop) : Prop := ∀ (g cap base n : Nat) (ds : List Pt) (W : World), W.ownsRow base 32 2 (.slice (some ⟨g, 0, none⟩) n cap) n (cellsOf ds) → ds.length = n → (∀ q ∈ ds, ok q) → n ≤ 1000 →
  Calls Try.prog 75 #[.slice (some ⟨g, 0, none⟩) n cap, .func (.func f) #[] #[]] W fun e w' => e = .returned (.tuple #[]) ∧ ∃ ds', ds'.Perm ds ∧ ds'.Pairwise (fun a b => ¬ lt b a) ∧ w'.ownsRow base 32 2 (.slice (some ⟨g, 0, none⟩) n cap) n (cellsOf ds') ∧ Held (fun j => j < W.heap.size ∧ j ≠ g) W w'
def okA (q : Pt) : Prop := fine q.1 ∧ fine q.2 ∧ q ≠ (0, 0)
def walkK (a : Pt) (ds : List Pt) : Nat → List Pt × Pt
  | 0 => ([], a)
  | k + 1 => (if k = 0 ∨ angP (fromP ds (k - 1)) (fromP ds k) ≠ 0 then (walkK a ds k).1 ++ [(walkK a ds k).2] else (walkK a ds k).1, addP (fromP ds k) (walkK a ds k).2)
theorem walk_bd {a : Pt} {ds : List Pt} {m : Int} (ha : -4000 ≤ a.1 ∧ a.1 ≤ 4000 ∧ -4000 ≤ a.2 ∧ a.2 ≤ 4000) (hm : ∀ q ∈ ds, -m ≤ q.1 ∧ q.1 ≤ m ∧ -m ≤ q.2 ∧ q.2 ≤ m) :
    ∀ k, k ≤ ds.length → -(4000 + m * k) ≤ (walkK a ds k).2.1 ∧ (walkK a ds k).2.1 ≤ 4000 + m * k ∧ -(4000 + m * k) ≤ (walkK a ds k).2.2 ∧ (walkK a ds k).2.2 ≤ 4000 + m * k := by
  intro k
  induction k with
  | zero => intro _; simp only [walkK]; omega
  | succ k ih =>
    intro hk
    have h1 := ih (by omega)
    have h2 := hm (fromP ds k) (by unfold fromP; rw [List.getD_eq_getElem?_getD, List.getElem?_eq_getElem (show k < ds.length by omega)]; exact List.getElem_mem _)
    simp only [walkK, addP]
    have e : m * ((k + 1 : Nat) : Int) = m * k + m := by rw [Int.natCast_add, Int.mul_add]; simp
    rw [e]
    omega
theorem walk_len (a : Pt) (ds : List Pt) : ∀ k, (walkK a ds k).1.length ≤ k := by
  intro k
  induction k with
  | zero => simp [walkK]
  | succ k ih =>
    simp only [walkK]
    split
    · rw [List.length_append]; show _ + 1 ≤ _; omega
    · omega
theorem vecs_some {w : World} {v : Value} {qs : List Pt} (h : Vecs w v qs) (hn : 0 < qs.length) : ∃ b o cap, v = .slice (some ⟨b, o, none⟩) qs.length cap ∧ qs.length ≤ cap ∧ cap ≤ 9223372036854775807 ∧ PtsAt w b o qs := by
  obtain ⟨a, cap, hv, hl, hm, hr⟩ := h
  rcases hr with hr | ⟨b, off, ha, hc⟩
  · subst hr; simp at hn
  · subst ha; exact ⟨b, off, cap, hv, hl, hm, hc⟩
theorem own_form {W : World} {base n : Nat} {v : Value} {xs : List Value} (h : W.ownsRow base 32 2 v n xs) (hn : 0 < n) : ∃ g cap, v = .slice (some ⟨g, 0, none⟩) n cap ∧ base ≤ g ∧ g < W.heap.size ∧ n ≤ cap ∧ cap ≤ 9223372036854775807 := by
  rcases h.2 with ⟨_, h0⟩ | ⟨g, cap, cur, hv, hg, hc, hnc, hm, _⟩
  · omega
  · exact ⟨g, cap, hv, hg, (Array.getElem?_eq_some_iff.1 hc).1, hnc, by unfold maxLen at hm; omega⟩
theorem own_put {W : World} {t n : Nat} {base : Nat} {v : Value} {xs : List Value} (h : W.ownsRow base 32 2 v n xs) (hb : t < base) (x y : Value) : ((W.setCell ⟨t, 0, none⟩ x).setCell ⟨t, 1, none⟩ y).ownsRow base 32 2 v n xs := by
  refine ⟨h.1, ?_⟩
  rcases h.2 with h | ⟨g, cap, cur, hv, hg, hc, r⟩
  · exact .inl h
  · exact .inr ⟨g, cap, cur, hv, hg, ((Below.heap_setCell _ _ _ _ (by show g ≠ t; omega)).trans (Below.heap_setCell _ _ _ _ (by show g ≠ t; omega))).trans hc, r⟩
theorem own_pts {W : World} {base n g cap : Nat} {qs : List Pt} (h : W.ownsRow base 32 2 (.slice (some ⟨g, 0, none⟩) n cap) n (cellsOf qs)) (hn : n = qs.length) (hm : qs.length ≤ 1000000) : PtsAt W g 0 qs := by
  subst hn
  have hv := vecs_own h hm
  obtain ⟨a, c, e, _, _, hr⟩ := hv
  rcases hr with hr | ⟨b, o, ha, hc⟩
  · subst hr; intro k q hk; simp at hk
  · subst ha
    injection e with e1 e2 e3
    injection e1 with e1
    injection e1 with e1 e4
    subst e1 e4
    exact hc
theorem held_ext {w A B : World} {g : Nat} (h : Held (fun j => j < A.heap.size ∧ j ≠ g) A B) (he : Ext w A) (hg : w.heap.size ≤ g) : Ext w B :=
  Below.trans he ⟨h.os, h.tape, h.output, h.size, fun j hj => h.block j ⟨Nat.lt_of_lt_of_le hj he.size, by omega⟩⟩
theorem steps_ok {ps : List Pt} (h : validB ps = true) : ∀ q ∈ stepsOf ps, (-2000 ≤ q.1 ∧ q.1 ≤ 2000 ∧ -2000 ≤ q.2 ∧ q.2 ≤ 2000) ∧ okA q := by
  have hn := valid_near h
  have hf : ps.any farP = false := by
    simp only [validB, Bool.and_eq_true, Bool.not_eq_true'] at h
    exact h.1.1.2
  rw [validB_eq hn.2.1 hn.2.2 hf, Bool.and_eq_true] at h
  intro q hq
  obtain ⟨i, hi⟩ := List.mem_iff_getElem?.1 hq
  have hil := lt_len hi
  have hgd := getD_of hi
  rw [stepsOf_length] at hil
  have hmem : ∀ j, j < ps.length → fromP ps j ∈ ps := fun j hj => by unfold fromP; rw [List.getD_eq_getElem?_getD, List.getElem?_eq_getElem hj]; exact List.getElem_mem _
  have h1 := hn.1 _ (hmem i hil)
  have h2 := hn.1 _ (hmem ((i + 1) % ps.length) (Nat.mod_lt _ (by omega)))
  have hq2 : q = stepP ps i := by
    unfold stepsOf at hi
    rw [List.getElem?_map, List.getElem?_range hil] at hi
    simpa using hi.symm
  have hbd : -2000 ≤ q.1 ∧ q.1 ≤ 2000 ∧ -2000 ≤ q.2 ∧ q.2 ≤ 2000 := by
    rw [hq2]
    unfold stepP
    show -2000 ≤ (fromP ps ((i + 1) % ps.length)).1 - (fromP ps i).1 ∧ (fromP ps ((i + 1) % ps.length)).1 - (fromP ps i).1 ≤ 2000 ∧ -2000 ≤ (fromP ps ((i + 1) % ps.length)).2 - (fromP ps i).2 ∧ (fromP ps ((i + 1) % ps.length)).2 - (fromP ps i).2 ≤ 2000
    omega
  refine ⟨hbd, by unfold fine; omega, by unfold fine; omega, fun e => ?_⟩
  have ht := h.1
  unfold turnB at ht
  rw [List.all_eq_true] at ht
  have := ht i (by rw [List.mem_range, stepsOf_length]; exact hil)
  rw [hgd, e] at this
  simp [crossP, crossZ] at this
set_option maxRecDepth 100000 in
set_option maxHeartbeats 4000000 in
theorem sum_u (hS : SortC 48 ltA okA) (u v : Value) (ps qs : List Pt) (w : World) (hu : Vecs w u ps) (hv : Vecs w v qs) (h1 : validB ps = true) (h2 : validB qs = true) :
    Calls Try.prog 67 #[u, v] w fun e w' => ∃ r ds, e = .returned r ∧ ds.Perm (stepsOf ps ++ stepsOf qs) ∧ ds.Pairwise (fun a b => ¬ ltA b a) ∧ Vecs w' r (walkK (addP (fromP qs 0) (fromP ps 0)) ds ds.length).1 ∧ w'.ownsRow w.heap.size 32 2 r (walkK (addP (fromP qs 0) (fromP ps 0)) ds ds.length).1.length (cellsOf (walkK (addP (fromP qs 0) (fromP ps 0)) ds ds.length).1) ∧ Ext w w' := by
  obtain ⟨a, cap, rfl, hl, hm, hr1⟩ := hu.at
  obtain ⟨a2, cap2, rfl, hl2, hm2, hr2⟩ := hv.at
  have hn1 := (valid_near h1).2
  have hn2 := (valid_near h2).2
  have HN1 := Lib.hid (valid_near h1).1
  have HN2 := Lib.hid (valid_near h2).1
  have HK1 := Lib.hid (steps_ok h1)
  have HK2 := Lib.hid (steps_ok h2)
  have HW1 := Lib.hid (valid_wide h1)
  have HW2 := Lib.hid (valid_wide h2)
  have HU := Lib.hid hu
  have HV := Lib.hid hv
  have HS := Lib.hid hS
  obtain ⟨p0, hp0⟩ := getElem?_len (show 0 < ps.length by omega)
  obtain ⟨q0, hq0⟩ := getElem?_len (show 0 < qs.length by omega)
  obtain ⟨bp, op, rfl, cp0, cp1⟩ := hr1 0 p0 hp0
  obtain ⟨bq, oq, rfl, cq0, cq1⟩ := hr2 0 q0 hq0
  have HCP := Lib.hid (show w.cell? ⟨bp, op, none⟩ = some (.int .i64 p0.1) ∧ w.cell? ⟨bp, op + 1, none⟩ = some (.int .i64 p0.2) by exact ⟨by simpa using cp0, by simpa using cp1⟩)
  have HCQ := Lib.hid (show w.cell? ⟨bq, oq, none⟩ = some (.int .i64 q0.1) ∧ w.cell? ⟨bq, oq + 1, none⟩ = some (.int .i64 q0.2) by exact ⟨by simpa using cq0, by simpa using cq1⟩)
  have HP0 := Lib.hid (fromP_of hp0)
  have HQ0 := Lib.hid (fromP_of hq0)
  have hbp := (valid_near h1).1 p0 (List.mem_of_getElem? hp0)
  have hbq := (valid_near h2).1 q0 (List.mem_of_getElem? hq0)
  have hlp : ¬ ps = [] := by rintro rfl; simp at hn1
  have hlq : ¬ qs = [] := by rintro rfl; simp at hn2
  clear hu hv hS h1 h2 hr1 hr2 cp0 cp1 cq0 cq1 hp0 hq0
  go_enter Try.func67, Try.ntmps67
  go_wp2_with fail
  refine (steps_c _ ps w HU.out HW1.out (by omega)).mono ?_
  rintro e w2 ⟨s1, rfl, hs1, hE2⟩
  have HS1 := Lib.hid hs1
  have HE2 := Lib.hid hE2
  clear hs1 hE2
  go_wp2_with fail
  refine (steps_c _ qs w2 (HV.out.ext HE2.out) HW2.out (by omega)).mono ?_
  rintro e w3 ⟨s2, rfl, hs2, hE3⟩
  have HS2 := Lib.hid hs2
  have HS13 := Lib.hid (HS1.out.ext hE3)
  have HE3 := Lib.hid (Ext.trans HE2.out hE3)
  clear hs2 hE3 HS1
  obtain ⟨b1, o1, c1, rfl, hx1, hy1, hp1⟩ := vecs_some HS13.out (by rw [stepsOf_length]; omega)
  obtain ⟨b2, o2, c2, rfl, hx2, hy2, hp2⟩ := vecs_some HS2.out (by rw [stepsOf_length]; omega)
  have HP1 := Lib.hid hp1
  have HP2 := Lib.hid hp2
  clear hp1 hp2 HS13 HS2
  go_wp2_with fail
  have hE4 := Ext.alloc (Ext.refl w3) (.cells #[.slice (some ⟨b1, o1, none⟩) (stepsOf ps).length c1, .slice (some ⟨b2, o2, none⟩) (stepsOf qs).length c2] 22)
  have hconc := concat_c w3.heap.size b1 o1 c1 b2 o2 c2 (stepsOf ps) (stepsOf qs) (w3.alloc (.cells #[.slice (some ⟨b1, o1, none⟩) (stepsOf ps).length c1, .slice (some ⟨b2, o2, none⟩) (stepsOf qs).length c2] 22)) (vrow_alloc w3 _ 22) (HP1.out.ext hE4) (HP2.out.ext hE4) (by rw [stepsOf_length]; omega) (by rw [stepsOf_length]; omega) (by rw [stepsOf_length]; omega)
  have hN : (stepsOf ps).length + (stepsOf qs).length = (stepsOf ps ++ stepsOf qs).length := by simp
  rw [hN] at hconc
  have hN64 : (stepsOf ps ++ stepsOf qs).length ≤ 64 := by rw [List.length_append, stepsOf_length, stepsOf_length]; omega
  have hN6 : 0 < (stepsOf ps ++ stepsOf qs).length := by rw [List.length_append, stepsOf_length, stepsOf_length]; omega
  have HOK := Lib.hid (show ∀ q ∈ stepsOf ps ++ stepsOf qs, (-2000 ≤ q.1 ∧ q.1 ≤ 2000 ∧ -2000 ≤ q.2 ∧ q.2 ≤ 2000) ∧ okA q from fun q hq => by
    rcases List.mem_append.1 hq with h | h
    · exact HK1.out q h
    · exact HK2.out q h)
  clear HK1 HK2 hN
  generalize hall : stepsOf ps ++ stepsOf qs = all at *
  have HALL := Lib.hid hall
  clear hall
  refine hconc.mono ?_
  rintro e w4 ⟨av, rfl, hO, hE5⟩
  obtain ⟨g, cg, rfl, hg1, hg2, hcg, hcg2⟩ := own_form hO hN6
  have HO := Lib.hid hO
  have HE4 := Lib.hid (Ext.trans HE3.out (Ext.trans hE4 hE5))
  have hgw : w.heap.size ≤ g := by have := HE3.out.size; have := hE4.size; omega
  clear hconc hO hE5
  have hsort := HS.out g cg _ _ all w4 HO.out rfl (fun q hq => (HOK.out q hq).2) (by omega)
  clear hE4
  go_wp2_with fail
  refine hsort.mono ?_
  rintro e w5 ⟨rfl, ds, hperm, hpw, hO5, hH5⟩
  have hdl : ds.length = all.length := hperm.length_eq
  have HDK := Lib.hid (show ∀ q ∈ ds, (-2000 ≤ q.1 ∧ q.1 ≤ 2000 ∧ -2000 ≤ q.2 ∧ q.2 ≤ 2000) ∧ okA q from fun q hq => HOK.out q (hperm.mem_iff.1 hq))
  have HE5 := Lib.hid (held_ext hH5 HE4.out hgw)
  have hg5 := own_form hO5 hN6
  have HPT := Lib.hid (own_pts hO5 hdl.symm (by omega))
  have HPerm := Lib.hid hperm
  have Hpw := Lib.hid hpw
  clear hsort hperm hpw hO5 hH5 HO HOK HS
  rw [← hdl] at hN64 hN6 ⊢
  generalize all.length = N at *
  subst hdl
  go_wp2_with fail
  have HE5b := Lib.hid (HE5.out)
  have HCP5 := Lib.hid (show w5.cell? ⟨bp, op, none⟩ = some (.int .i64 p0.1) ∧ w5.cell? ⟨bp, op + 1, none⟩ = some (.int .i64 p0.2) from ⟨Ext.cell HE5.out HCP.out.1, Ext.cell HE5.out HCP.out.2⟩)
  have HCQ5 := Lib.hid (show w5.cell? ⟨bq, oq, none⟩ = some (.int .i64 q0.1) ∧ w5.cell? ⟨bq, oq + 1, none⟩ = some (.int .i64 q0.2) from ⟨Ext.cell HE5.out HCQ.out.1, Ext.cell HE5.out HCQ.out.2⟩)
  have hpl : 0 < ps.length := by omega
  have hql : 0 < qs.length := by omega
  have HF := Lib.hid (show fine p0.1 ∧ fine p0.2 ∧ fine q0.1 ∧ fine q0.2 by unfold fine; omega)
  refine wp_region_stable_last [⟨[], none⟩, ⟨[(0, 18)], none⟩, ⟨[(1, 19)], none⟩, ⟨[], none⟩, ⟨[(3, 21)], none⟩, ⟨[(4, 22)], none⟩, ⟨[(2, 20), (5, 23)], none⟩, ⟨[], none⟩] (fun x y => Below x.heap.size x y) (MPat [MP.eq (.slice (some ⟨bp, op, none⟩) ps.length cap), MP.eq (.pointer (some ⟨bp, op, none⟩)), MP.eq (vecV p0.1 p0.2), MP.eq (.slice (some ⟨bq, oq, none⟩) qs.length cap2), MP.eq (.pointer (some ⟨bq, oq, none⟩)), MP.eq (vecV q0.1 q0.2), MP.eq (vecV (p0.1 + q0.1) (p0.2 + q0.2)), MP.ptr w5.heap.size]) rfl (by kernel_rfl) (fun _ _ _ h k => Ext.trans h k) (fun _ => Below.refl _ _) (fun x => (Below.refl x.heap.size x).drew) (MPat.mono _) (by kernel_rfl) (by kernel_rfl) (by kernel_rfl) ?obs ?rest
  case obs =>
    refine ⟨?_, ?_, ?_, ?_, ?_, ?_, ?_, ?_, trivial⟩
    · intro ev W hf _ _ hst hd
      have e0 : ev (.tmp 0) = .slice (some ⟨bp, op, none⟩) ps.length cap := hf 0 (by kernel_rfl)
      refine st_value (v := .slice (some ⟨bp, op, none⟩) ps.length cap) ?_ (Below.refl _ _) ?_
      · simp [execOp, go_sem, e0]
      · exact rfl
    · intro ev W hf hcst _ hst hd
      obtain ⟨d18, _⟩ := hd
      have e18 : ev (.tmp 18) = .slice (some ⟨bp, op, none⟩) ps.length cap := d18
      refine st_value (v := .pointer (some ⟨bp, op, none⟩)) ?_ (Below.refl _ _) ?_
      · simp [execOp, go_sem, e18, hcst, hpl]
      · exact rfl
    · intro ev W hf _ _ hst hd
      obtain ⟨d19, _⟩ := hd
      have e19 : ev (.tmp 19) = .pointer (some ⟨bp, op, none⟩) := d19
      have k0 := Ext.cell hst HCP5.out.1
      have k1 := Ext.cell hst HCP5.out.2
      refine st_value (v := vecV p0.1 p0.2) ?_ (Below.refl _ _) ?_
      · simp [execOp, go_sem, e19, k0, k1]
      · exact rfl
    · intro ev W hf _ _ hst hd
      have e1 : ev (.tmp 1) = .slice (some ⟨bq, oq, none⟩) qs.length cap2 := hf 1 (by kernel_rfl)
      refine st_value (v := .slice (some ⟨bq, oq, none⟩) qs.length cap2) ?_ (Below.refl _ _) ?_
      · simp [execOp, go_sem, e1]
      · exact rfl
    · intro ev W hf hcst _ hst hd
      obtain ⟨d21, _⟩ := hd
      have e21 : ev (.tmp 21) = .slice (some ⟨bq, oq, none⟩) qs.length cap2 := d21
      refine st_value (v := .pointer (some ⟨bq, oq, none⟩)) ?_ (Below.refl _ _) ?_
      · simp [execOp, go_sem, e21, hcst, hql]
      · exact rfl
    · intro ev W hf _ _ hst hd
      obtain ⟨d22, _⟩ := hd
      have e22 : ev (.tmp 22) = .pointer (some ⟨bq, oq, none⟩) := d22
      have k0 := Ext.cell hst HCQ5.out.1
      have k1 := Ext.cell hst HCQ5.out.2
      refine st_value (v := vecV q0.1 q0.2) ?_ (Below.refl _ _) ?_
      · simp [execOp, go_sem, e22, k0, k1]
      · exact rfl
    · intro ev W hf _ hfn hst hd
      obtain ⟨d20, d23, _⟩ := hd
      have e20 : ev (.tmp 20) = vecV p0.1 p0.2 := d20
      have e23 : ev (.tmp 23) = vecV q0.1 q0.2 := d23
      refine st_call (f := 59) (args := #[vecV p0.1 p0.2, vecV q0.1 q0.2]) (by simp [execOp, go_sem, hfn, e20, e23]) (plus_c p0.1 p0.2 q0.1 q0.2 W HF.out.1 HF.out.2.1 HF.out.2.2.1 HF.out.2.2.2) (fun _ _ => rfl)
    · intro ev W hf _ hfn hst hd
      refine st_new (v := .pointer (some ⟨W.heap.size, 0, none⟩)) (o := .cells #[.int .i64 0, .int .i64 0] 32) ?_ ?_
      · simp [execOp, go_sem]
      · exact ⟨_, rfl, vrow_alloc W [.int .i64 0, .int .i64 0] 32, by have := hst.size; omega⟩
  case rest =>
    intro vs w6 hl hst hg
    obtain ⟨t, et, ht, hts⟩ : ∃ t, vs[7]? = some (.pointer (some ⟨t, 0, none⟩)) ∧ VRow w6 t 32 [.int .i64 0, .int .i64 0] ∧ w5.heap.size ≤ t := by
      have hu : vs[7]? = some (vs[7]'(by rw [hl]; decide)) := List.getElem?_eq_getElem _
      obtain ⟨t, he, h1, h2⟩ := hg 7 _ hu
      exact ⟨t, by rw [hu, he], h1, h2⟩
    have hx0 : ∀ u, vs[0]? = some u → u = .slice (some ⟨bp, op, none⟩) ps.length cap := fun u hu => hg 0 u hu
    have hx1 : ∀ u, vs[1]? = some u → u = .pointer (some ⟨bp, op, none⟩) := fun u hu => hg 1 u hu
    have hx2 : ∀ u, vs[2]? = some u → u = vecV p0.1 p0.2 := fun u hu => hg 2 u hu
    have hx3 : ∀ u, vs[3]? = some u → u = .slice (some ⟨bq, oq, none⟩) qs.length cap2 := fun u hu => hg 3 u hu
    have hx4 : ∀ u, vs[4]? = some u → u = .pointer (some ⟨bq, oq, none⟩) := fun u hu => hg 4 u hu
    have hx5 : ∀ u, vs[5]? = some u → u = vecV q0.1 q0.2 := fun u hu => hg 5 u hu
    have hx6 : ∀ u, vs[6]? = some u → u = vecV (p0.1 + q0.1) (p0.2 + q0.2) := fun u hu => hg 6 u hu
    have HE6 := Lib.hid hst
    have HT := Lib.hid ht
    clear hg hst ht
    obtain ⟨x0, vs0, rfl, hl0⟩ := len_succ hl
    obtain ⟨x1, vs1, rfl, hl1⟩ := len_succ hl0
    obtain ⟨x2, vs2, rfl, hl2⟩ := len_succ hl1
    obtain ⟨x3, vs3, rfl, hl3⟩ := len_succ hl2
    obtain ⟨x4, vs4, rfl, hl4⟩ := len_succ hl3
    obtain ⟨x5, vs5, rfl, hl5⟩ := len_succ hl4
    obtain ⟨x6, vs6, rfl, hl6⟩ := len_succ hl5
    obtain ⟨x7, vs7, rfl, hl7⟩ := len_succ hl6
    have hnil : vs7 = [] := List.length_eq_zero_iff.1 hl7
    subst hnil
    simp only [List.getElem?_cons_succ, List.getElem?_cons_zero, Option.some.injEq] at et
    subst et
    obtain rfl : x0 = .slice (some ⟨bp, op, none⟩) ps.length cap := hx0 _ rfl
    obtain rfl : x1 = .pointer (some ⟨bp, op, none⟩) := hx1 _ rfl
    obtain rfl : x2 = vecV p0.1 p0.2 := hx2 _ rfl
    obtain rfl : x3 = .slice (some ⟨bq, oq, none⟩) qs.length cap2 := hx3 _ rfl
    obtain rfl : x4 = .pointer (some ⟨bq, oq, none⟩) := hx4 _ rfl
    obtain rfl : x5 = vecV q0.1 q0.2 := hx5 _ rfl
    obtain rfl : x6 = vecV (p0.1 + q0.1) (p0.2 + q0.2) := hx6 _ rfl
    clear hx0 hx1 hx2 hx3 hx4 hx5 hx6
    simp only [putAll, Act.put, List.dropLast, List.setIfInBounds_toArray, List.set_cons_zero, List.set_cons_succ]
    have m0 := VRow.cell HT.out (k := 0) rfl
    have m1 := VRow.cell HT.out (k := 1) rfl
    have f0 := VRow.frozen HT.out 0 none
    have f1 := VRow.frozen HT.out 1 none
    go_wp2_with fail
    clear m0 m1 f0 f1
    obtain ⟨hv7, hE7⟩ := vec_put HE6.out HT.out hts (.int .i64 (p0.1 + q0.1)) (.int .i64 (p0.2 + q0.2))
    have htl := VRow.lt hv7
    generalize (w6.setCell ⟨t, 0, none⟩ (.int .i64 (p0.1 + q0.1))).setCell ⟨t, 1, none⟩ (.int .i64 (p0.2 + q0.2)) = w7 at *
    obtain ⟨A, hA⟩ : ∃ A : Pt, A = addP (fromP qs 0) (fromP ps 0) := ⟨_, rfl⟩
    have hA2 : A = (p0.1 + q0.1, p0.2 + q0.2) := by rw [hA, HP0.out, HQ0.out]; rfl
    have hAb : -4000 ≤ A.1 ∧ A.1 ≤ 4000 ∧ -4000 ≤ A.2 ∧ A.2 ≤ 4000 := by rw [hA2]; show -4000 ≤ p0.1 + q0.1 ∧ p0.1 + q0.1 ≤ 4000 ∧ -4000 ≤ p0.2 + q0.2 ∧ p0.2 + q0.2 ≤ 4000; omega
    have hv7 : VRow w7 t 32 [.int .i64 A.1, .int .i64 A.2] := by rw [hA2]; exact hv7
    have HAA := Lib.hid hA
    have HWB := Lib.hid (walk_bd (m := 2000) hAb (fun q hq => (HDK.out q hq).1))
    have HWL := Lib.hid (walk_len A ds)
    clear hA hA2 hAb
    clear hpl hql hbp hbq hlp hlq hn1 hn2 hx1 hy1 hx2 hy2 HCP HCQ HCP5 HCQ5 HP0 HQ0 HF HE6 HT HU HV HW1 HW2 HN1 HN2 HE2 HE3 HP1 HP2 HE5b HE4 hm hm2 hl hl2
    go_loopw [27, 7] (fun i s wr => ∃ k : Nat, k ≤ ds.length ∧ i = .int .i64 k ∧ wr.ownsRow (t + 1) 32 2 s (walkK A ds k).1.length (cellsOf (walkK A ds k).1) ∧ VRow wr t 32 [.int .i64 (walkK A ds k).2.1, .int .i64 (walkK A ds k).2.2] ∧ Ext w5 wr) (fun i _ _ => ds.length - (intOf i).toNat)
    case atStart => exact ⟨0, Nat.zero_le _, rfl, ⟨rfl, .inl ⟨rfl, rfl⟩⟩, hv7, hE7⟩
    case round =>
      obtain ⟨k, hk, rfl, hO, hT, hE⟩ := hrel
      have HO := Lib.hid hO
      have HTT := Lib.hid hT
      have HE := Lib.hid hE
      have htw := VRow.lt hT
      clear hO hT hE
      by_cases hlt : k < ds.length
      · obtain ⟨q, hq⟩ := getElem?_len hlt
        obtain ⟨hc0, hc1⟩ := (PtsAt.ext HPT.out HE.out) k q hq
        rw [Nat.zero_add] at hc0 hc1
        have HDQ := Lib.hid (HDK.out q (List.mem_of_getElem? hq))
        have HFQ := Lib.hid (fromP_of hq)
        have hgl := cell_lt hc0
        go_wp2_with fail
        clear hc0 hc1 hq
        have HB := Lib.hid (vrow_alloc wr [.int .i64 q.1, .int .i64 q.2] 32)
        change RowKit.Hid (VRow (wr.alloc (.cells #[.int .i64 q.1, .int .i64 q.2] 32)) _ _ _) at HB
        have HE8 := Lib.hid (Ext.trans HE.out (Ext.alloc (Ext.refl wr) (.cells #[.int .i64 q.1, .int .i64 q.2] 32)))
        have HT8 := Lib.hid (VRow.alloc HTT.out (.cells #[.int .i64 q.1, .int .i64 q.2] 32))
        have HO8 := Lib.hid (ownsRow_ext HO.out (Ext.alloc (Ext.refl wr) (.cells #[.int .i64 q.1, .int .i64 q.2] 32)))
        have hs8 : (wr.alloc (.cells #[.int .i64 q.1, .int .i64 q.2] 32)).heap.size = wr.heap.size + 1 := by simp
        have hwb := HWB.out k hk
        have hwl := HWL.out k
        have HWK := Lib.hid (show walkK A ds (k + 1) = (if k = 0 ∨ angP (fromP ds (k - 1)) (fromP ds k) ≠ 0 then (walkK A ds k).1 ++ [(walkK A ds k).2] else (walkK A ds k).1, addP (fromP ds k) (walkK A ds k).2) from rfl)
        have hobl0 : ∀ j, u7.ownBlock = some j → t + 1 ≤ j ∧ j < wr.heap.size := fun j hj => World.ownsRow.lt HO.out j hj
        clear HO HTT HE
        generalize wr.alloc (.cells #[.int .i64 q.1, .int .i64 q.2] 32) = w8 at *
        generalize hwk : walkK A ds k = wk at *
        obtain ⟨l, at_⟩ := wk
        clear hwk
        obtain ⟨r9, hr9⟩ : ∃ r, r = wr.heap.size := ⟨_, rfl⟩
        rw [← hr9] at HB hs8 hobl0 ⊢
        have HOBL := Lib.hid hobl0
        clear hobl0
        have htr : t ≠ r9 := by omega
        have htr2 : t < r9 := by omega
        dsimp only at hwb hwl HO8 HT8 HWK
        have hwz : wideZ at_.1 ∧ wideZ at_.2 ∧ wideZ q.1 ∧ wideZ q.2 := by have := HDQ.out.1; unfold wideZ; omega
        have HWZ := Lib.hid hwz
        have hsr : w8.heap.size = r9 + 1 := by rw [hs8]
        clear hwz hwb hr9 hs8
        by_cases hk0 : k = 0
        · have HS := Lib.hid (show walkK A ds (k + 1) = (l ++ [at_], addP q at_) by rw [HWK.out, if_pos (.inl hk0), HFQ.out])
          clear HWK
          have hk0' : (k : Int) = 0 := by omega
          refine wp_region_stable [⟨[], none⟩, ⟨[(0, 32)], none⟩, ⟨[(1, 33)], none⟩, ⟨[(2, 34)], some (34, false)⟩, ⟨[(2, 34)], some (34, false)⟩, ⟨[(4, 36), (2, 34)], some (34, false)⟩, ⟨[(3, 35), (5, 37), (2, 34)], some (34, false)⟩, ⟨[(6, 38), (2, 34)], some (34, false)⟩, ⟨[(2, 34)], some (34, false)⟩, ⟨[(7, 39), (8, 40), (2, 34)], some (34, false)⟩, ⟨[(9, 41), (2, 34)], some (34, false)⟩, ⟨[(2, 34), (10, 42)], none⟩] (fun x y => Below x.heap.size x y) (MPat [MP.eq (.int .i64 k), MP.eq (.bool true), MP.eq (.bool true), MP.eq (undef), MP.eq (undef), MP.eq (undef), MP.eq (undef), MP.eq (undef), MP.eq (undef), MP.eq (undef), MP.eq (undef), MP.eq (.bool true)]) (by kernel_rfl) (fun _ _ _ h k => Ext.trans h k) (fun _ => Below.refl _ _) (fun x => (Below.refl x.heap.size x).drew) (MPat.mono _) (by kernel_rfl) ?obs ?rest
          case obs =>
            refine ⟨?_, ?_, ?_, ?_, ?_, ?_, ?_, ?_, ?_, ?_, ?_, ?_, trivial⟩
            · intro ev W hf _ _ hst hd
              have e8 : ev (.tmp 8) = .int .i64 k := hf 8 (by kernel_rfl)
              refine st_value (v := .int .i64 k) ?_ (Below.refl _ _) ?_
              · simp [execOp, go_sem, e8]
              · exact rfl
            · intro ev W hf hcst _ hst hd
              obtain ⟨d32, _⟩ := hd
              have e32 : ev (.tmp 32) = .int .i64 k := d32
              refine st_value (v := .bool true) ?_ (Below.refl _ _) ?_
              · simp [execOp, go_sem, e32, hcst, hk0']
              · exact rfl
            · intro ev W hf _ _ hst hd
              obtain ⟨d33, _⟩ := hd
              have e33 : ev (.tmp 33) = .bool true := d33
              refine st_value (v := .bool true) ?_ (Below.refl _ _) ?_
              · simp [execOp, go_sem, e33]
              · exact rfl
            · intro ev W hf _ _ hst hd
              obtain ⟨d34, _⟩ := hd
              have e34 : ev (.tmp 34) = .bool true := d34
              refine ⟨fun hh => ?_, fun _ => rfl⟩
              rw [e34] at hh
              simp at hh
            · intro ev W hf _ _ hst hd
              obtain ⟨d34, _⟩ := hd
              have e34 : ev (.tmp 34) = .bool true := d34
              refine ⟨fun hh => ?_, fun _ => rfl⟩
              rw [e34] at hh
              simp at hh
            · intro ev W hf _ _ hst hd
              obtain ⟨d36, d34, _⟩ := hd
              have e34 : ev (.tmp 34) = .bool true := d34
              refine ⟨fun hh => ?_, fun _ => rfl⟩
              rw [e34] at hh
              simp at hh
            · intro ev W hf _ _ hst hd
              obtain ⟨d35, d37, d34, _⟩ := hd
              have e34 : ev (.tmp 34) = .bool true := d34
              refine ⟨fun hh => ?_, fun _ => rfl⟩
              rw [e34] at hh
              simp at hh
            · intro ev W hf _ _ hst hd
              obtain ⟨d38, d34, _⟩ := hd
              have e34 : ev (.tmp 34) = .bool true := d34
              refine ⟨fun hh => ?_, fun _ => rfl⟩
              rw [e34] at hh
              simp at hh
            · intro ev W hf _ _ hst hd
              obtain ⟨d34, _⟩ := hd
              have e34 : ev (.tmp 34) = .bool true := d34
              refine ⟨fun hh => ?_, fun _ => rfl⟩
              rw [e34] at hh
              simp at hh
            · intro ev W hf _ _ hst hd
              obtain ⟨d39, d40, d34, _⟩ := hd
              have e34 : ev (.tmp 34) = .bool true := d34
              refine ⟨fun hh => ?_, fun _ => rfl⟩
              rw [e34] at hh
              simp at hh
            · intro ev W hf _ _ hst hd
              obtain ⟨d41, d34, _⟩ := hd
              have e34 : ev (.tmp 34) = .bool true := d34
              refine ⟨fun hh => ?_, fun _ => rfl⟩
              rw [e34] at hh
              simp at hh
            · intro ev W hf hcst _ hst hd
              obtain ⟨d34, d42, _⟩ := hd
              have e34 : ev (.tmp 34) = .bool true := d34
              have e42 : ev (.tmp 42) = undef := d42
              refine st_value (v := .bool true) ?_ (Below.refl _ _) ?_
              · simp [execOp, go_sem, e34, e42, hcst]
              · exact rfl
          case rest =>
            intro vs w3 hl hst hg
            have hx0 : ∀ u, vs[0]? = some u → u = .int .i64 k := fun u hu => hg 0 u hu
            have hx1 : ∀ u, vs[1]? = some u → u = .bool true := fun u hu => hg 1 u hu
            have hx2 : ∀ u, vs[2]? = some u → u = .bool true := fun u hu => hg 2 u hu
            have hx3 : ∀ u, vs[3]? = some u → u = undef := fun u hu => hg 3 u hu
            have hx4 : ∀ u, vs[4]? = some u → u = undef := fun u hu => hg 4 u hu
            have hx5 : ∀ u, vs[5]? = some u → u = undef := fun u hu => hg 5 u hu
            have hx6 : ∀ u, vs[6]? = some u → u = undef := fun u hu => hg 6 u hu
            have hx7 : ∀ u, vs[7]? = some u → u = undef := fun u hu => hg 7 u hu
            have hx8 : ∀ u, vs[8]? = some u → u = undef := fun u hu => hg 8 u hu
            have hx9 : ∀ u, vs[9]? = some u → u = undef := fun u hu => hg 9 u hu
            have hx10 : ∀ u, vs[10]? = some u → u = undef := fun u hu => hg 10 u hu
            have hx11 : ∀ u, vs[11]? = some u → u = .bool true := fun u hu => hg 11 u hu
            have HE3 := Lib.hid hst
            clear hg hst
            obtain ⟨x0, vs0, rfl, hl0⟩ := len_succ hl
            obtain ⟨x1, vs1, rfl, hl1⟩ := len_succ hl0
            obtain ⟨x2, vs2, rfl, hl2⟩ := len_succ hl1
            obtain ⟨x3, vs3, rfl, hl3⟩ := len_succ hl2
            obtain ⟨x4, vs4, rfl, hl4⟩ := len_succ hl3
            obtain ⟨x5, vs5, rfl, hl5⟩ := len_succ hl4
            obtain ⟨x6, vs6, rfl, hl6⟩ := len_succ hl5
            obtain ⟨x7, vs7, rfl, hl7⟩ := len_succ hl6
            obtain ⟨x8, vs8, rfl, hl8⟩ := len_succ hl7
            obtain ⟨x9, vs9, rfl, hl9⟩ := len_succ hl8
            obtain ⟨x10, vs10, rfl, hl10⟩ := len_succ hl9
            obtain ⟨x11, vs11, rfl, hl11⟩ := len_succ hl10
            have hnil : vs11 = [] := List.length_eq_zero_iff.1 hl11
            subst hnil
            obtain rfl : x0 = .int .i64 k := hx0 _ rfl
            obtain rfl : x1 = .bool true := hx1 _ rfl
            obtain rfl : x2 = .bool true := hx2 _ rfl
            obtain rfl : x3 = undef := hx3 _ rfl
            obtain rfl : x4 = undef := hx4 _ rfl
            obtain rfl : x5 = undef := hx5 _ rfl
            obtain rfl : x6 = undef := hx6 _ rfl
            obtain rfl : x7 = undef := hx7 _ rfl
            obtain rfl : x8 = undef := hx8 _ rfl
            obtain rfl : x9 = undef := hx9 _ rfl
            obtain rfl : x10 = undef := hx10 _ rfl
            obtain rfl : x11 = .bool true := hx11 _ rfl
            clear hx0 hx1 hx2 hx3 hx4 hx5 hx6 hx7 hx8 hx9 hx10 hx11
            simp only [putAll, Act.put, List.setIfInBounds_toArray, List.set_cons_zero, List.set_cons_succ]
            have hT9 := VRow.ext HT8.out HE3.out
            have hB9 := VRow.ext HB.out HE3.out
            have hO9 := ownsRow_ext HO8.out HE3.out
            have hsz9 := HE3.out.size
            have HE39 := Lib.hid (Ext.trans HE8.out HE3.out)
            have m0 := VRow.cell hT9 (k := 0) rfl
            have m1 := VRow.cell hT9 (k := 1) rfl
            have HT39 := Lib.hid hT9
            have HB39 := Lib.hid hB9
            have HO39 := Lib.hid hO9
            clear hT9 hB9 hO9
            obtain ⟨i0, hi, hz0_, hz1, hz2⟩ := info_parts info31
            have HI := Lib.hid hi
            have HZ0 := Lib.hid hz0_
            have HZ1 := Lib.hid hz1
            have HZ2 := Lib.hid hz2
            clear hi hz0_ hz1 hz2
            have hob : ∀ j, u7.ownBlock = some j → t + 1 ≤ j := fun j hj => own_block HO39.out hj
            have hobr : ∀ j, u7.ownBlock = some j → j ≠ r9 := fun j hj => by have := (HOBL.out j hj).2; omega
            go_wp2_with (at_builtin; (refine wpList_append_own _ rfl _ _ 22 rfl (t + 1) 32 i0 (.agg #[.int .i64 0, .int .i64 0]) 2 16 Try.underlying22 HI.out HZ0.out HZ1.out HZ2.out rfl (by decide) _ _ _ rfl (ownsRow_ext HO39.out (Ext.alloc (Ext.refl w3) (.cells #[.int .i64 at_.1, .int .i64 at_.2] 32))) ⟨w3.heap.size, 0, none⟩ 1 1 [.int .i64 at_.1, .int .i64 at_.2] rfl rfl (fun j u h => cell_two_new w3 _ _ 32 j u h) (by simp [Value.oneCell']) (by unfold maxLen; omega) (by omega) (by simp; omega) ?_; intro v' w' hown' hgrow hnil; obtain ⟨g', cap', rfl⟩ := ownsRow_succ hown'; have HO9 := Lib.hid hown'; have HG9 := Lib.hid hgrow; have hm1 := VRow.grown (VRow.alloc HT39.out (.cells #[.int .i64 at_.1, .int .i64 at_.2] 32)) hgrow (fun e => by have := hob _ e.symm; omega); have hb1 := VRow.grown (VRow.alloc HB39.out (.cells #[.int .i64 at_.1, .int .i64 at_.2] 32)) hgrow (fun e => hobr _ e.symm rfl); clear m0 m1; have m0 := VRow.cell hm1 (k := 0) rfl; have m1 := VRow.cell hm1 (k := 1) rfl; have d0 := VRow.cell hb1 (k := 0) rfl; have d1 := VRow.cell hb1 (k := 1) rfl; have HT9 := Lib.hid hm1; clear hown' hgrow hm1 hb1 hnil))
            have HGG := Lib.hid HG9.out
            have HE9 := Lib.hid (show Ext w5 w' from Below.grown (Ext.alloc HE39.out (.cells #[.int .i64 at_.1, .int .i64 at_.2] 32)) HG9.out (by have := HE39.out.size; simp; omega) (fun j e => by have := hob j e; omega))
            have hce : cellsOf l ++ [.int .i64 at_.1, .int .i64 at_.2] = cellsOf (l ++ [at_]) := by rw [cellsOf_append]; rfl
            have HO9b := HO9.out
            rw [hce] at HO9b
            clear HO9
            have HO9 := Lib.hid HO9b
            clear HO9b hce
            refine (show Calls Try.prog 59 #[vecV at_.1 at_.2, vecV q.1 q.2] _ _ from (plus_w at_.1 at_.2 q.1 q.2 _ HWZ.out.1 HWZ.out.2.1 HWZ.out.2.2.1 HWZ.out.2.2.2).mono ?_)
            rintro e wz ⟨rfl, hEz⟩
            have HTz := Lib.hid (VRow.ext HT9.out hEz)
            have HOz := Lib.hid (ownsRow_ext HO9.out hEz)
            have HEz := Lib.hid (Ext.trans HE9.out hEz)
            clear hEz m0 m1 d0 d1
            have m0 := VRow.cell HTz.out (k := 0) rfl
            have m1 := VRow.cell HTz.out (k := 1) rfl
            have f0 := VRow.frozen HTz.out 0 none
            have f1 := VRow.frozen HTz.out 1 none
            go_wp2_with fail
            obtain ⟨hvz, hEy⟩ := vec_put HEz.out HTz.out hts (.int .i64 (at_.1 + q.1)) (.int .i64 (at_.2 + q.2))
            refine ⟨⟨k + 1, by omega, by (try simp) <;> (try omega), ?_, ?_, hEy⟩, by (try simp [intOf]) <;> (try omega)⟩
            · rw [HS.out]
              show World.ownsRow _ (t + 1) 32 2 _ (l ++ [at_]).length (cellsOf (l ++ [at_]))
              rw [show (l ++ [at_]).length = l.length + 1 by simp]
              exact own_put HOz.out (Nat.lt_succ_self t) _ _
            · rw [HS.out]
              exact hvz
        · obtain ⟨j, hj⟩ : ∃ j, k = j + 1 := ⟨k - 1, by omega⟩
          obtain ⟨p, hp⟩ := getElem?_len (show j < ds.length by omega)
          have hjl := lt_len hp
          have HCJ := Lib.hid (show w8.cell? ⟨g, j * 2, none⟩ = some (.int .i64 p.1) ∧ w8.cell? ⟨g, j * 2 + 1, none⟩ = some (.int .i64 p.2) by have := (PtsAt.ext HPT.out HE8.out) j p hp; rwa [Nat.zero_add] at this)
          have HDP := Lib.hid (HDK.out p (List.mem_of_getElem? hp))
          have HW1 := Lib.hid (show IntKind.i64.wrap ((k : Int) - 1) = (j : Int) by rw [show (k : Int) - 1 = (j : Int) by omega]; exact IntWalk.i64_in _ (by omega))
          obtain ⟨z, hz⟩ : ∃ z, z = angleZ p.1 p.2 q.1 q.2 := ⟨_, rfl⟩
          have HZ := Lib.hid hz
          have HANG := Lib.hid (show angP (fromP ds (k - 1)) (fromP ds k) = z by rw [hj, Nat.add_sub_cancel, fromP_of hp, ← hj, HFQ.out, hz]; rfl)
          clear hz hp
          have Hj := Lib.hid hj
          clear hj
          by_cases hz0 : z = 0
          · have HS := Lib.hid (show walkK A ds (k + 1) = (l, addP q at_) by rw [HWK.out, if_neg (by rw [HANG.out]; simp [hk0, hz0]), HFQ.out])
            clear HWK
            refine wp_region_stable [⟨[], none⟩, ⟨[(0, 32)], none⟩, ⟨[(1, 33)], none⟩, ⟨[(2, 34)], some (34, false)⟩, ⟨[(2, 34)], some (34, false)⟩, ⟨[(4, 36), (2, 34)], some (34, false)⟩, ⟨[(3, 35), (5, 37), (2, 34)], some (34, false)⟩, ⟨[(6, 38), (2, 34)], some (34, false)⟩, ⟨[(2, 34)], some (34, false)⟩, ⟨[(7, 39), (8, 40), (2, 34)], some (34, false)⟩, ⟨[(9, 41), (2, 34)], some (34, false)⟩, ⟨[(2, 34), (10, 42)], none⟩] (fun x y => Below x.heap.size x y) (MPat [MP.eq (.int .i64 k), MP.eq (.bool false), MP.eq (.bool false), MP.eq (.slice (some ⟨g, 0, none⟩) ds.length cg), MP.eq (.int .i64 k), MP.eq (.int .i64 j), MP.eq (.pointer (some ⟨g, j * 2, none⟩)), MP.eq (vecV p.1 p.2), MP.eq (vecV q.1 q.2), MP.eq (.int .i64 z), MP.eq (.bool false), MP.eq (.bool false)]) (by kernel_rfl) (fun _ _ _ h k => Ext.trans h k) (fun _ => Below.refl _ _) (fun x => (Below.refl x.heap.size x).drew) (MPat.mono _) (by kernel_rfl) ?obs ?rest
            case obs =>
              refine ⟨?_, ?_, ?_, ?_, ?_, ?_, ?_, ?_, ?_, ?_, ?_, ?_, trivial⟩
              · intro ev W hf _ _ hst hd
                have e8 : ev (.tmp 8) = .int .i64 k := hf 8 (by kernel_rfl)
                refine st_value (v := .int .i64 k) ?_ (Below.refl _ _) ?_
                · simp [execOp, go_sem, e8]
                · exact rfl
              · intro ev W hf hcst _ hst hd
                obtain ⟨d32, _⟩ := hd
                have e32 : ev (.tmp 32) = .int .i64 k := d32
                refine st_value (v := .bool false) ?_ (Below.refl _ _) ?_
                · simp [execOp, go_sem, e32, hcst, hk0]
                · exact rfl
              · intro ev W hf _ _ hst hd
                obtain ⟨d33, _⟩ := hd
                have e33 : ev (.tmp 33) = .bool false := d33
                refine st_value (v := .bool false) ?_ (Below.refl _ _) ?_
                · simp [execOp, go_sem, e33]
                · exact rfl
              · intro ev W hf _ _ hst hd
                obtain ⟨d34, _⟩ := hd
                have e5 : ev (.tmp 5) = .slice (some ⟨g, 0, none⟩) ds.length cg := hf 5 (by kernel_rfl)
                have e34 : ev (.tmp 34) = .bool false := d34
                refine ⟨fun _ => ?_, fun hne => absurd e34 hne⟩
                refine st_value (v := .slice (some ⟨g, 0, none⟩) ds.length cg) ?_ (Below.refl _ _) ?_
                · simp [execOp, go_sem, e5]
                · exact rfl
              · intro ev W hf _ _ hst hd
                obtain ⟨d34, _⟩ := hd
                have e8 : ev (.tmp 8) = .int .i64 k := hf 8 (by kernel_rfl)
                have e34 : ev (.tmp 34) = .bool false := d34
                refine ⟨fun _ => ?_, fun hne => absurd e34 hne⟩
                refine st_value (v := .int .i64 k) ?_ (Below.refl _ _) ?_
                · simp [execOp, go_sem, e8]
                · exact rfl
              · intro ev W hf hcst _ hst hd
                obtain ⟨d36, d34, _⟩ := hd
                have e36 : ev (.tmp 36) = .int .i64 k := d36
                have e34 : ev (.tmp 34) = .bool false := d34
                refine ⟨fun _ => ?_, fun hne => absurd e34 hne⟩
                refine st_value (v := .int .i64 j) ?_ (Below.refl _ _) ?_
                · simp [execOp, go_sem, e36, hcst, HW1.out]
                · exact rfl
              · intro ev W hf _ _ hst hd
                obtain ⟨d35, d37, d34, _⟩ := hd
                have e35 : ev (.tmp 35) = .slice (some ⟨g, 0, none⟩) ds.length cg := d35
                have e37 : ev (.tmp 37) = .int .i64 j := d37
                have e34 : ev (.tmp 34) = .bool false := d34
                refine ⟨fun _ => ?_, fun hne => absurd e34 hne⟩
                refine st_value (v := .pointer (some ⟨g, j * 2, none⟩)) ?_ (Below.refl _ _) ?_
                · simp [execOp, go_sem, e35, e37, hjl]
                · exact rfl
              · intro ev W hf _ _ hst hd
                obtain ⟨d38, d34, _⟩ := hd
                have e38 : ev (.tmp 38) = .pointer (some ⟨g, j * 2, none⟩) := d38
                have e34 : ev (.tmp 34) = .bool false := d34
                refine ⟨fun _ => ?_, fun hne => absurd e34 hne⟩
                have k0 := Ext.cell hst HCJ.out.1
                have k1 := Ext.cell hst HCJ.out.2
                refine st_value (v := vecV p.1 p.2) ?_ (Below.refl _ _) ?_
                · simp [execOp, go_sem, e38, k0, k1]
                · exact rfl
              · intro ev W hf _ _ hst hd
                obtain ⟨d34, _⟩ := hd
                have e9 : ev (.tmp 9) = .pointer (some ⟨r9, 0, none⟩) := hf 9 (by kernel_rfl)
                have e34 : ev (.tmp 34) = .bool false := d34
                refine ⟨fun _ => ?_, fun hne => absurd e34 hne⟩
                have kk := VRow.ext HB.out hst
                have k0 := VRow.cell kk (k := 0) rfl
                have k1 := VRow.cell kk (k := 1) rfl
                refine st_value (v := vecV q.1 q.2) ?_ (Below.refl _ _) ?_
                · simp [execOp, go_sem, e9, k0, k1]
                · exact rfl
              · intro ev W hf _ hfn hst hd
                obtain ⟨d39, d40, d34, _⟩ := hd
                have e39 : ev (.tmp 39) = vecV p.1 p.2 := d39
                have e40 : ev (.tmp 40) = vecV q.1 q.2 := d40
                have e34 : ev (.tmp 34) = .bool false := d34
                refine ⟨fun _ => ?_, fun hne => absurd e34 hne⟩
                refine st_call (f := 48) (args := #[vecV p.1 p.2, vecV q.1 q.2]) (by simp [execOp, go_sem, hfn, e39, e40]) (by rw [HZ.out]; exact byAngle_c p.1 p.2 q.1 q.2 W HDP.out.2.1 HDP.out.2.2.1 HDQ.out.2.1 HDQ.out.2.2.1) (fun _ _ => rfl)
              · intro ev W hf hcst _ hst hd
                obtain ⟨d41, d34, _⟩ := hd
                have e41 : ev (.tmp 41) = .int .i64 z := d41
                have e34 : ev (.tmp 34) = .bool false := d34
                refine ⟨fun _ => ?_, fun hne => absurd e34 hne⟩
                refine st_value (v := .bool false) ?_ (Below.refl _ _) ?_
                · simp [execOp, go_sem, e41, hcst, hz0]
                · exact rfl
              · intro ev W hf hcst _ hst hd
                obtain ⟨d34, d42, _⟩ := hd
                have e34 : ev (.tmp 34) = .bool false := d34
                have e42 : ev (.tmp 42) = .bool false := d42
                refine st_value (v := .bool false) ?_ (Below.refl _ _) ?_
                · simp [execOp, go_sem, e34, e42, hcst]
                · exact rfl
            case rest =>
              intro vs w3 hl hst hg
              have hx0 : ∀ u, vs[0]? = some u → u = .int .i64 k := fun u hu => hg 0 u hu
              have hx1 : ∀ u, vs[1]? = some u → u = .bool false := fun u hu => hg 1 u hu
              have hx2 : ∀ u, vs[2]? = some u → u = .bool false := fun u hu => hg 2 u hu
              have hx3 : ∀ u, vs[3]? = some u → u = .slice (some ⟨g, 0, none⟩) ds.length cg := fun u hu => hg 3 u hu
              have hx4 : ∀ u, vs[4]? = some u → u = .int .i64 k := fun u hu => hg 4 u hu
              have hx5 : ∀ u, vs[5]? = some u → u = .int .i64 j := fun u hu => hg 5 u hu
              have hx6 : ∀ u, vs[6]? = some u → u = .pointer (some ⟨g, j * 2, none⟩) := fun u hu => hg 6 u hu
              have hx7 : ∀ u, vs[7]? = some u → u = vecV p.1 p.2 := fun u hu => hg 7 u hu
              have hx8 : ∀ u, vs[8]? = some u → u = vecV q.1 q.2 := fun u hu => hg 8 u hu
              have hx9 : ∀ u, vs[9]? = some u → u = .int .i64 z := fun u hu => hg 9 u hu
              have hx10 : ∀ u, vs[10]? = some u → u = .bool false := fun u hu => hg 10 u hu
              have hx11 : ∀ u, vs[11]? = some u → u = .bool false := fun u hu => hg 11 u hu
              have HE3 := Lib.hid hst
              clear hg hst
              obtain ⟨x0, vs0, rfl, hl0⟩ := len_succ hl
              obtain ⟨x1, vs1, rfl, hl1⟩ := len_succ hl0
              obtain ⟨x2, vs2, rfl, hl2⟩ := len_succ hl1
              obtain ⟨x3, vs3, rfl, hl3⟩ := len_succ hl2
              obtain ⟨x4, vs4, rfl, hl4⟩ := len_succ hl3
              obtain ⟨x5, vs5, rfl, hl5⟩ := len_succ hl4
              obtain ⟨x6, vs6, rfl, hl6⟩ := len_succ hl5
              obtain ⟨x7, vs7, rfl, hl7⟩ := len_succ hl6
              obtain ⟨x8, vs8, rfl, hl8⟩ := len_succ hl7
              obtain ⟨x9, vs9, rfl, hl9⟩ := len_succ hl8
              obtain ⟨x10, vs10, rfl, hl10⟩ := len_succ hl9
              obtain ⟨x11, vs11, rfl, hl11⟩ := len_succ hl10
              have hnil : vs11 = [] := List.length_eq_zero_iff.1 hl11
              subst hnil
              obtain rfl : x0 = .int .i64 k := hx0 _ rfl
              obtain rfl : x1 = .bool false := hx1 _ rfl
              obtain rfl : x2 = .bool false := hx2 _ rfl
              obtain rfl : x3 = .slice (some ⟨g, 0, none⟩) ds.length cg := hx3 _ rfl
              obtain rfl : x4 = .int .i64 k := hx4 _ rfl
              obtain rfl : x5 = .int .i64 j := hx5 _ rfl
              obtain rfl : x6 = .pointer (some ⟨g, j * 2, none⟩) := hx6 _ rfl
              obtain rfl : x7 = vecV p.1 p.2 := hx7 _ rfl
              obtain rfl : x8 = vecV q.1 q.2 := hx8 _ rfl
              obtain rfl : x9 = .int .i64 z := hx9 _ rfl
              obtain rfl : x10 = .bool false := hx10 _ rfl
              obtain rfl : x11 = .bool false := hx11 _ rfl
              clear hx0 hx1 hx2 hx3 hx4 hx5 hx6 hx7 hx8 hx9 hx10 hx11
              simp only [putAll, Act.put, List.setIfInBounds_toArray, List.set_cons_zero, List.set_cons_succ]
              have HT9 := Lib.hid (VRow.ext HT8.out HE3.out)
              have hB9 := VRow.ext HB.out HE3.out
              have HO9 := Lib.hid (ownsRow_ext HO8.out HE3.out)
              have HE9 := Lib.hid (Ext.trans HE8.out HE3.out)
              have m0 := VRow.cell HT9.out (k := 0) rfl
              have m1 := VRow.cell HT9.out (k := 1) rfl
              have d0 := VRow.cell hB9 (k := 0) rfl
              have d1 := VRow.cell hB9 (k := 1) rfl
              clear hB9
              go_wp2_with fail
              refine (show Calls Try.prog 59 #[vecV at_.1 at_.2, vecV q.1 q.2] _ _ from (plus_w at_.1 at_.2 q.1 q.2 _ HWZ.out.1 HWZ.out.2.1 HWZ.out.2.2.1 HWZ.out.2.2.2).mono ?_)
              rintro e wz ⟨rfl, hEz⟩
              have HTz := Lib.hid (VRow.ext HT9.out hEz)
              have HOz := Lib.hid (ownsRow_ext HO9.out hEz)
              have HEz := Lib.hid (Ext.trans HE9.out hEz)
              clear hEz m0 m1 d0 d1
              have m0 := VRow.cell HTz.out (k := 0) rfl
              have m1 := VRow.cell HTz.out (k := 1) rfl
              have f0 := VRow.frozen HTz.out 0 none
              have f1 := VRow.frozen HTz.out 1 none
              go_wp2_with fail
              obtain ⟨hvz, hEy⟩ := vec_put HEz.out HTz.out hts (.int .i64 (at_.1 + q.1)) (.int .i64 (at_.2 + q.2))
              refine ⟨⟨k + 1, by omega, by (try simp) <;> (try omega), ?_, ?_, hEy⟩, by (try simp [intOf]) <;> (try omega)⟩
              · rw [HS.out]
                exact own_put HOz.out (Nat.lt_succ_self t) _ _
              · rw [HS.out]
                exact hvz
          · have HS := Lib.hid (show walkK A ds (k + 1) = (l ++ [at_], addP q at_) by rw [HWK.out, if_pos (.inr (by rw [HANG.out]; exact hz0)), HFQ.out])
            clear HWK
            refine wp_region_stable [⟨[], none⟩, ⟨[(0, 32)], none⟩, ⟨[(1, 33)], none⟩, ⟨[(2, 34)], some (34, false)⟩, ⟨[(2, 34)], some (34, false)⟩, ⟨[(4, 36), (2, 34)], some (34, false)⟩, ⟨[(3, 35), (5, 37), (2, 34)], some (34, false)⟩, ⟨[(6, 38), (2, 34)], some (34, false)⟩, ⟨[(2, 34)], some (34, false)⟩, ⟨[(7, 39), (8, 40), (2, 34)], some (34, false)⟩, ⟨[(9, 41), (2, 34)], some (34, false)⟩, ⟨[(2, 34), (10, 42)], none⟩] (fun x y => Below x.heap.size x y) (MPat [MP.eq (.int .i64 k), MP.eq (.bool false), MP.eq (.bool false), MP.eq (.slice (some ⟨g, 0, none⟩) ds.length cg), MP.eq (.int .i64 k), MP.eq (.int .i64 j), MP.eq (.pointer (some ⟨g, j * 2, none⟩)), MP.eq (vecV p.1 p.2), MP.eq (vecV q.1 q.2), MP.eq (.int .i64 z), MP.eq (.bool true), MP.eq (.bool true)]) (by kernel_rfl) (fun _ _ _ h k => Ext.trans h k) (fun _ => Below.refl _ _) (fun x => (Below.refl x.heap.size x).drew) (MPat.mono _) (by kernel_rfl) ?obs ?rest
            case obs =>
              refine ⟨?_, ?_, ?_, ?_, ?_, ?_, ?_, ?_, ?_, ?_, ?_, ?_, trivial⟩
              · intro ev W hf _ _ hst hd
                have e8 : ev (.tmp 8) = .int .i64 k := hf 8 (by kernel_rfl)
                refine st_value (v := .int .i64 k) ?_ (Below.refl _ _) ?_
                · simp [execOp, go_sem, e8]
                · exact rfl
              · intro ev W hf hcst _ hst hd
                obtain ⟨d32, _⟩ := hd
                have e32 : ev (.tmp 32) = .int .i64 k := d32
                refine st_value (v := .bool false) ?_ (Below.refl _ _) ?_
                · simp [execOp, go_sem, e32, hcst, hk0]
                · exact rfl
              · intro ev W hf _ _ hst hd
                obtain ⟨d33, _⟩ := hd
                have e33 : ev (.tmp 33) = .bool false := d33
                refine st_value (v := .bool false) ?_ (Below.refl _ _) ?_
                · simp [execOp, go_sem, e33]
                · exact rfl
              · intro ev W hf _ _ hst hd
                obtain ⟨d34, _⟩ := hd
                have e5 : ev (.tmp 5) = .slice (some ⟨g, 0, none⟩) ds.length cg := hf 5 (by kernel_rfl)
                have e34 : ev (.tmp 34) = .bool false := d34
                refine ⟨fun _ => ?_, fun hne => absurd e34 hne⟩
                refine st_value (v := .slice (some ⟨g, 0, none⟩) ds.length cg) ?_ (Below.refl _ _) ?_
                · simp [execOp, go_sem, e5]
                · exact rfl
              · intro ev W hf _ _ hst hd
                obtain ⟨d34, _⟩ := hd
                have e8 : ev (.tmp 8) = .int .i64 k := hf 8 (by kernel_rfl)
                have e34 : ev (.tmp 34) = .bool false := d34
                refine ⟨fun _ => ?_, fun hne => absurd e34 hne⟩
                refine st_value (v := .int .i64 k) ?_ (Below.refl _ _) ?_
                · simp [execOp, go_sem, e8]
                · exact rfl
              · intro ev W hf hcst _ hst hd
                obtain ⟨d36, d34, _⟩ := hd
                have e36 : ev (.tmp 36) = .int .i64 k := d36
                have e34 : ev (.tmp 34) = .bool false := d34
                refine ⟨fun _ => ?_, fun hne => absurd e34 hne⟩
                refine st_value (v := .int .i64 j) ?_ (Below.refl _ _) ?_
                · simp [execOp, go_sem, e36, hcst, HW1.out]
                · exact rfl
              · intro ev W hf _ _ hst hd
                obtain ⟨d35, d37, d34, _⟩ := hd
                have e35 : ev (.tmp 35) = .slice (some ⟨g, 0, none⟩) ds.length cg := d35
                have e37 : ev (.tmp 37) = .int .i64 j := d37
                have e34 : ev (.tmp 34) = .bool false := d34
                refine ⟨fun _ => ?_, fun hne => absurd e34 hne⟩
                refine st_value (v := .pointer (some ⟨g, j * 2, none⟩)) ?_ (Below.refl _ _) ?_
                · simp [execOp, go_sem, e35, e37, hjl]
                · exact rfl
              · intro ev W hf _ _ hst hd
                obtain ⟨d38, d34, _⟩ := hd
                have e38 : ev (.tmp 38) = .pointer (some ⟨g, j * 2, none⟩) := d38
                have e34 : ev (.tmp 34) = .bool false := d34
                refine ⟨fun _ => ?_, fun hne => absurd e34 hne⟩
                have k0 := Ext.cell hst HCJ.out.1
                have k1 := Ext.cell hst HCJ.out.2
                refine st_value (v := vecV p.1 p.2) ?_ (Below.refl _ _) ?_
                · simp [execOp, go_sem, e38, k0, k1]
                · exact rfl
              · intro ev W hf _ _ hst hd
                obtain ⟨d34, _⟩ := hd
                have e9 : ev (.tmp 9) = .pointer (some ⟨r9, 0, none⟩) := hf 9 (by kernel_rfl)
                have e34 : ev (.tmp 34) = .bool false := d34
                refine ⟨fun _ => ?_, fun hne => absurd e34 hne⟩
                have kk := VRow.ext HB.out hst
                have k0 := VRow.cell kk (k := 0) rfl
                have k1 := VRow.cell kk (k := 1) rfl
                refine st_value (v := vecV q.1 q.2) ?_ (Below.refl _ _) ?_
                · simp [execOp, go_sem, e9, k0, k1]
                · exact rfl
              · intro ev W hf _ hfn hst hd
                obtain ⟨d39, d40, d34, _⟩ := hd
                have e39 : ev (.tmp 39) = vecV p.1 p.2 := d39
                have e40 : ev (.tmp 40) = vecV q.1 q.2 := d40
                have e34 : ev (.tmp 34) = .bool false := d34
                refine ⟨fun _ => ?_, fun hne => absurd e34 hne⟩
                refine st_call (f := 48) (args := #[vecV p.1 p.2, vecV q.1 q.2]) (by simp [execOp, go_sem, hfn, e39, e40]) (by rw [HZ.out]; exact byAngle_c p.1 p.2 q.1 q.2 W HDP.out.2.1 HDP.out.2.2.1 HDQ.out.2.1 HDQ.out.2.2.1) (fun _ _ => rfl)
              · intro ev W hf hcst _ hst hd
                obtain ⟨d41, d34, _⟩ := hd
                have e41 : ev (.tmp 41) = .int .i64 z := d41
                have e34 : ev (.tmp 34) = .bool false := d34
                refine ⟨fun _ => ?_, fun hne => absurd e34 hne⟩
                refine st_value (v := .bool true) ?_ (Below.refl _ _) ?_
                · simp [execOp, go_sem, e41, hcst, hz0]
                · exact rfl
              · intro ev W hf hcst _ hst hd
                obtain ⟨d34, d42, _⟩ := hd
                have e34 : ev (.tmp 34) = .bool false := d34
                have e42 : ev (.tmp 42) = .bool true := d42
                refine st_value (v := .bool true) ?_ (Below.refl _ _) ?_
                · simp [execOp, go_sem, e34, e42, hcst]
                · exact rfl
            case rest =>
              intro vs w3 hl hst hg
              have hx0 : ∀ u, vs[0]? = some u → u = .int .i64 k := fun u hu => hg 0 u hu
              have hx1 : ∀ u, vs[1]? = some u → u = .bool false := fun u hu => hg 1 u hu
              have hx2 : ∀ u, vs[2]? = some u → u = .bool false := fun u hu => hg 2 u hu
              have hx3 : ∀ u, vs[3]? = some u → u = .slice (some ⟨g, 0, none⟩) ds.length cg := fun u hu => hg 3 u hu
              have hx4 : ∀ u, vs[4]? = some u → u = .int .i64 k := fun u hu => hg 4 u hu
              have hx5 : ∀ u, vs[5]? = some u → u = .int .i64 j := fun u hu => hg 5 u hu
              have hx6 : ∀ u, vs[6]? = some u → u = .pointer (some ⟨g, j * 2, none⟩) := fun u hu => hg 6 u hu
              have hx7 : ∀ u, vs[7]? = some u → u = vecV p.1 p.2 := fun u hu => hg 7 u hu
              have hx8 : ∀ u, vs[8]? = some u → u = vecV q.1 q.2 := fun u hu => hg 8 u hu
              have hx9 : ∀ u, vs[9]? = some u → u = .int .i64 z := fun u hu => hg 9 u hu
              have hx10 : ∀ u, vs[10]? = some u → u = .bool true := fun u hu => hg 10 u hu
              have hx11 : ∀ u, vs[11]? = some u → u = .bool true := fun u hu => hg 11 u hu
              have HE3 := Lib.hid hst
              clear hg hst
              obtain ⟨x0, vs0, rfl, hl0⟩ := len_succ hl
              obtain ⟨x1, vs1, rfl, hl1⟩ := len_succ hl0
              obtain ⟨x2, vs2, rfl, hl2⟩ := len_succ hl1
              obtain ⟨x3, vs3, rfl, hl3⟩ := len_succ hl2
              obtain ⟨x4, vs4, rfl, hl4⟩ := len_succ hl3
              obtain ⟨x5, vs5, rfl, hl5⟩ := len_succ hl4
              obtain ⟨x6, vs6, rfl, hl6⟩ := len_succ hl5
              obtain ⟨x7, vs7, rfl, hl7⟩ := len_succ hl6
              obtain ⟨x8, vs8, rfl, hl8⟩ := len_succ hl7
              obtain ⟨x9, vs9, rfl, hl9⟩ := len_succ hl8
              obtain ⟨x10, vs10, rfl, hl10⟩ := len_succ hl9
              obtain ⟨x11, vs11, rfl, hl11⟩ := len_succ hl10
              have hnil : vs11 = [] := List.length_eq_zero_iff.1 hl11
              subst hnil
              obtain rfl : x0 = .int .i64 k := hx0 _ rfl
              obtain rfl : x1 = .bool false := hx1 _ rfl
              obtain rfl : x2 = .bool false := hx2 _ rfl
              obtain rfl : x3 = .slice (some ⟨g, 0, none⟩) ds.length cg := hx3 _ rfl
              obtain rfl : x4 = .int .i64 k := hx4 _ rfl
              obtain rfl : x5 = .int .i64 j := hx5 _ rfl
              obtain rfl : x6 = .pointer (some ⟨g, j * 2, none⟩) := hx6 _ rfl
              obtain rfl : x7 = vecV p.1 p.2 := hx7 _ rfl
              obtain rfl : x8 = vecV q.1 q.2 := hx8 _ rfl
              obtain rfl : x9 = .int .i64 z := hx9 _ rfl
              obtain rfl : x10 = .bool true := hx10 _ rfl
              obtain rfl : x11 = .bool true := hx11 _ rfl
              clear hx0 hx1 hx2 hx3 hx4 hx5 hx6 hx7 hx8 hx9 hx10 hx11
              simp only [putAll, Act.put, List.setIfInBounds_toArray, List.set_cons_zero, List.set_cons_succ]
              have hT9 := VRow.ext HT8.out HE3.out
              have hB9 := VRow.ext HB.out HE3.out
              have hO9 := ownsRow_ext HO8.out HE3.out
              have hsz9 := HE3.out.size
              have HE39 := Lib.hid (Ext.trans HE8.out HE3.out)
              have m0 := VRow.cell hT9 (k := 0) rfl
              have m1 := VRow.cell hT9 (k := 1) rfl
              have HT39 := Lib.hid hT9
              have HB39 := Lib.hid hB9
              have HO39 := Lib.hid hO9
              clear hT9 hB9 hO9
              obtain ⟨i0, hi, hz0_, hz1, hz2⟩ := info_parts info31
              have HI := Lib.hid hi
              have HZ0 := Lib.hid hz0_
              have HZ1 := Lib.hid hz1
              have HZ2 := Lib.hid hz2
              clear hi hz0_ hz1 hz2
              have hob : ∀ j, u7.ownBlock = some j → t + 1 ≤ j := fun j hj => own_block HO39.out hj
              have hobr : ∀ j, u7.ownBlock = some j → j ≠ r9 := fun j hj => by have := (HOBL.out j hj).2; omega
              go_wp2_with (at_builtin; (refine wpList_append_own _ rfl _ _ 22 rfl (t + 1) 32 i0 (.agg #[.int .i64 0, .int .i64 0]) 2 16 Try.underlying22 HI.out HZ0.out HZ1.out HZ2.out rfl (by decide) _ _ _ rfl (ownsRow_ext HO39.out (Ext.alloc (Ext.refl w3) (.cells #[.int .i64 at_.1, .int .i64 at_.2] 32))) ⟨w3.heap.size, 0, none⟩ 1 1 [.int .i64 at_.1, .int .i64 at_.2] rfl rfl (fun j u h => cell_two_new w3 _ _ 32 j u h) (by simp [Value.oneCell']) (by unfold maxLen; omega) (by omega) (by simp; omega) ?_; intro v' w' hown' hgrow hnil; obtain ⟨g', cap', rfl⟩ := ownsRow_succ hown'; have HO9 := Lib.hid hown'; have HG9 := Lib.hid hgrow; have hm1 := VRow.grown (VRow.alloc HT39.out (.cells #[.int .i64 at_.1, .int .i64 at_.2] 32)) hgrow (fun e => by have := hob _ e.symm; omega); have hb1 := VRow.grown (VRow.alloc HB39.out (.cells #[.int .i64 at_.1, .int .i64 at_.2] 32)) hgrow (fun e => hobr _ e.symm rfl); clear m0 m1; have m0 := VRow.cell hm1 (k := 0) rfl; have m1 := VRow.cell hm1 (k := 1) rfl; have d0 := VRow.cell hb1 (k := 0) rfl; have d1 := VRow.cell hb1 (k := 1) rfl; have HT9 := Lib.hid hm1; clear hown' hgrow hm1 hb1 hnil))
              have HGG := Lib.hid HG9.out
              have HE9 := Lib.hid (show Ext w5 w' from Below.grown (Ext.alloc HE39.out (.cells #[.int .i64 at_.1, .int .i64 at_.2] 32)) HG9.out (by have := HE39.out.size; simp; omega) (fun j e => by have := hob j e; omega))
              have hce : cellsOf l ++ [.int .i64 at_.1, .int .i64 at_.2] = cellsOf (l ++ [at_]) := by rw [cellsOf_append]; rfl
              have HO9b := HO9.out
              rw [hce] at HO9b
              clear HO9
              have HO9 := Lib.hid HO9b
              clear HO9b hce
              refine (show Calls Try.prog 59 #[vecV at_.1 at_.2, vecV q.1 q.2] _ _ from (plus_w at_.1 at_.2 q.1 q.2 _ HWZ.out.1 HWZ.out.2.1 HWZ.out.2.2.1 HWZ.out.2.2.2).mono ?_)
              rintro e wz ⟨rfl, hEz⟩
              have HTz := Lib.hid (VRow.ext HT9.out hEz)
              have HOz := Lib.hid (ownsRow_ext HO9.out hEz)
              have HEz := Lib.hid (Ext.trans HE9.out hEz)
              clear hEz m0 m1 d0 d1
              have m0 := VRow.cell HTz.out (k := 0) rfl
              have m1 := VRow.cell HTz.out (k := 1) rfl
              have f0 := VRow.frozen HTz.out 0 none
              have f1 := VRow.frozen HTz.out 1 none
              go_wp2_with fail
              obtain ⟨hvz, hEy⟩ := vec_put HEz.out HTz.out hts (.int .i64 (at_.1 + q.1)) (.int .i64 (at_.2 + q.2))
              refine ⟨⟨k + 1, by omega, by (try simp) <;> (try omega), ?_, ?_, hEy⟩, by (try simp [intOf]) <;> (try omega)⟩
              · rw [HS.out]
                show World.ownsRow _ (t + 1) 32 2 _ (l ++ [at_]).length (cellsOf (l ++ [at_]))
                rw [show (l ++ [at_]).length = l.length + 1 by simp]
                exact own_put HOz.out (Nat.lt_succ_self t) _ _
              · rw [HS.out]
                exact hvz
      · obtain rfl : k = ds.length := by omega
        go_wp2_with fail
        go_ret
        refine ⟨_, ds, rfl, by rw [HALL.out]; exact HPerm.out, Hpw.out, ?_, ?_, Ext.trans HE5.out HE.out⟩
        · rw [← HAA.out]
          have hwl := HWL.out ds.length
          exact vecs_own HO.out (by omega)
        · rw [← HAA.out]
          exact ownsRow_base HO.out (by have := HE5.out.size; omega)
theorem sum_c (hS : SortC 48 ltA okA) (u v : Value) (ps qs : List Pt) (w : World) (hu : Vecs w u ps) (hv : Vecs w v qs) (h1 : validB ps = true) (h2 : validB qs = true) :
    Calls Try.prog 67 #[u, v] w fun e w' => ∃ r ds, e = .returned r ∧ ds.Perm (stepsOf ps ++ stepsOf qs) ∧ ds.Pairwise (fun a b => ¬ ltA b a) ∧ Vecs w' r (walkK (addP (fromP qs 0) (fromP ps 0)) ds ds.length).1 ∧ Ext w w' :=
  (sum_u hS u v ps qs w hu hv h1 h2).mono fun _ _ ⟨r, ds, e, h1, h2, h3, _, hE⟩ => ⟨r, ds, e, h1, h2, h3, hE⟩
end Go.Proofs.Ytbdppephmlkbaaa
