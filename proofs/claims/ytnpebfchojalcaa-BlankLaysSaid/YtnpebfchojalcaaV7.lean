import Derived.Test.YtnpebfchojalcaaV6
namespace Go.Proofs.Ytnpebfchojalcaa
open Go.RowKit Go.Shelf
theorem wide_near {ps : List Pt} (h : nearP ps) : wideP ps := fun q hq => by have := h q hq; omega
theorem steps_fine {ps : List Pt} (h : wideP ps) : fineP (stepsOf ps) := by
  intro q hq
  unfold stepsOf at hq
  rw [List.mem_map] at hq
  obtain ⟨k, hk, rfl⟩ := hq
  rw [List.mem_range] at hk
  have := step_fine h hk
  exact ⟨this.2.2.2.2.1, this.2.2.2.2.2⟩
def crossP (a b : Pt) : Int := crossZ a.1 a.2 b.1 b.2
def prevP (qs : List Pt) (i : Nat) : Pt := if i = 0 then qs.getD (qs.length - 1) (0, 0) else qs.getD (i - 1) (0, 0)
def turnB (qs : List Pt) : Bool := (List.range qs.length).all fun i => decide (0 < crossP (prevP qs i) (qs.getD i (0, 0)))
def validB (ps : List Pt) : Bool := decide (3 ≤ ps.length) && decide (ps.length ≤ 32) && !ps.any farP && turnB (stepsOf ps) && sortedB (stepsOf ps)
theorem turnB_true {qs : List Pt} (h : ∀ j, j < qs.length → 0 < crossP (prevP qs j) (qs.getD j (0, 0))) : turnB qs = true := by
  unfold turnB
  rw [List.all_eq_true]
  intro i hi
  rw [List.mem_range] at hi
  simpa using h i hi
theorem turnB_false {qs : List Pt} {j : Nat} (hj : j < qs.length) (h : crossP (prevP qs j) (qs.getD j (0, 0)) ≤ 0) : turnB qs = false := by
  rw [Bool.eq_false_iff]
  intro ht
  unfold turnB at ht
  rw [List.all_eq_true] at ht
  have := ht j (by rw [List.mem_range]; omega)
  simp only [decide_eq_true_eq] at this
  omega
theorem prevP_fine {qs : List Pt} (h : fineP qs) {i : Nat} (hi : i < qs.length) : fine (prevP qs i).1 ∧ fine (prevP qs i).2 := by
  unfold prevP
  split
  · exact h _ (by rw [List.getD_eq_getElem?_getD, List.getElem?_eq_getElem (show qs.length - 1 < qs.length by omega)]; exact List.getElem_mem _)
  · exact h _ (by rw [List.getD_eq_getElem?_getD, List.getElem?_eq_getElem (show i - 1 < qs.length by omega)]; exact List.getElem_mem _)
theorem validB_eq {ps : List Pt} (h3 : 3 ≤ ps.length) (h32 : ps.length ≤ 32) (hf : ps.any farP = false) : validB ps = (turnB (stepsOf ps) && sortedB (stepsOf ps)) := by
  simp [validB, h3, h32, hf]
theorem stepsOf_length (ps : List Pt) : (stepsOf ps).length = ps.length := stepsTo_length ps ps.length
set_option maxRecDepth 100000 in
set_option maxHeartbeats 1000000 in
theorem valid_c (v : Value) (ps : List Pt) (w : World) (hv : Vecs w v ps) :
    Calls Try.prog 70 #[v] w fun e w' => e = .returned (.bool (validB ps)) ∧ Ext w w' := by
  obtain ⟨a, cap, rfl, hl, hm, _⟩ := hv.at
  have HV := Lib.hid hv
  clear hv
  by_cases h3 : ps.length < 3
  · have e : validB ps = false := by simp [validB, show ¬ 3 ≤ ps.length by omega]
    rw [e]
    clear e
    go_enter Try.func70, Try.ntmps70
    go_wp2
    all_goals go_ret
    all_goals exact ⟨rfl, Ext.refl _⟩
  · by_cases h32 : 32 < ps.length
    · have e : validB ps = false := by simp [validB, show ¬ ps.length ≤ 32 by omega]
      rw [e]
      clear e
      go_enter Try.func70, Try.ntmps70
      go_wp2
      all_goals go_ret
      all_goals exact ⟨rfl, Ext.refl _⟩
    · cases hf : ps.any farP with
      | true =>
        have e : validB ps = false := by simp [validB, hf]
        have Hf := Lib.hid hf
        rw [e]
        clear e hf
        go_enter Try.func70, Try.ntmps70
        go_wp2_with fail
        refine (contains27_c _ farP ps _ (far_pred ps _) HV.out).mono ?_
        rintro e w2 ⟨rfl, hE⟩
        rw [Hf.out]
        go_wp2
        all_goals go_ret
        all_goals exact ⟨rfl, hE⟩
      | false =>
        have Hf := Lib.hid hf
        have HW := Lib.hid (wide_near (near_of hf))
        have HEQ := Lib.hid (validB_eq (show 3 ≤ ps.length by omega) (by omega) hf)
        clear hf
        rw [HEQ.out]
        go_enter Try.func70, Try.ntmps70
        go_wp2_with fail
        refine (contains27_c _ farP ps _ (far_pred ps _) HV.out).mono ?_
        rintro e w2 ⟨rfl, hE⟩
        have HE := Lib.hid hE
        clear hE
        rw [Hf.out]
        go_wp2_with fail
        refine (steps_c _ ps w2 (HV.out.ext HE.out) HW.out (by omega)).mono ?_
        rintro e w3 ⟨u, rfl, hU, hE3⟩
        have HE3 := Lib.hid (Ext.trans HE.out hE3)
        have HQ := Lib.hid (steps_fine HW.out)
        have hql := stepsOf_length ps
        generalize hqs : stepsOf ps = qs at *
        have HQS := Lib.hid hqs
        clear hqs
        generalize ps.length = n at *
        subst hql
        have HU := Lib.hid hU
        obtain ⟨b, cu, rfl, hlu, hmu, hru⟩ := hU.at
        have HRU := Lib.hid hru
        clear hU hE3 hru
        obtain ⟨p0, hp0⟩ := getElem?_len (show qs.length - 1 < qs.length by omega)
        obtain ⟨g, o, rfl, hc0, hc1⟩ := HRU.out _ p0 hp0
        have hlast : prevP qs 0 = p0 := by unfold prevP; rw [if_pos rfl, getD_of hp0]
        have Hlast := Lib.hid hlast
        clear hlast
        have hbn : g < w3.heap.size := cell_lt hc0
        go_wp2_with fail
        clear hc0 hc1
        have hr0 := vrow_alloc w3 [.int .i64 p0.1, .int .i64 p0.2] 31
        go_loopw [29] (fun i wr => ∃ k : Nat, k ≤ qs.length ∧ (∀ j, j < k → 0 < crossP (prevP qs j) (qs.getD j (0, 0))) ∧ i = .int .i64 k ∧ Ext w3 wr ∧ VRow wr w3.heap.size 31 [.int .i64 (prevP qs k).1, .int .i64 (prevP qs k).2]) (fun i _ => qs.length - (intOf i).toNat)
        case atStart => exact ⟨0, Nat.zero_le _, fun j hj => by omega, rfl, Ext.alloc (Ext.refl w3) _, by rw [Hlast.out]; exact hr0⟩
        case round =>
          clear hr0
          obtain ⟨k, hk, hall, rfl, hE4, hr⟩ := hrel
          have Hall := Lib.hid hall
          have HE4 := Lib.hid hE4
          have HR := Lib.hid hr
          have m0 := VRow.cell hr (k := 0) rfl
          have m1 := VRow.cell hr (k := 1) rfl
          have hg3 := VRow.lt hr
          clear hall hE4 hr
          by_cases hlt : k < qs.length
          · obtain ⟨q, hq⟩ := getElem?_len hlt
            obtain ⟨g', o', e, hd0, hd1⟩ := HRU.out k q hq
            obtain ⟨rfl, rfl⟩ : g = g' ∧ o = o' := by injection e with e; injection e with e1 e2; exact ⟨e1, e2⟩
            replace hd0 := Ext.cell HE4.out hd0
            replace hd1 := Ext.cell HE4.out hd1
            have hpf := prevP_fine HQ.out hlt
            have hqf := HQ.out q (List.mem_of_getElem? hq)
            have HPF := Lib.hid hpf
            have HQF := Lib.hid hqf
            have HN := Lib.hid (getD_of hq)
            have HNX := Lib.hid (show prevP qs (k + 1) = q by unfold prevP; rw [if_neg (by omega)]; exact getD_of hq)
            clear hq hpf hqf
            generalize hpp : prevP qs k = p at *
            have Hpp := Lib.hid hpp
            clear hpp
            go_wp2_with fail
            clear hd0 hd1 m0 m1
            have hE5 := Ext.alloc (Ext.refl wr) (.cells #[.int .i64 q.1, .int .i64 q.2] 31)
            have HB := Lib.hid (vrow_alloc wr [.int .i64 q.1, .int .i64 q.2] 31)
            have HR2 := Lib.hid (VRow.alloc HR.out (.cells #[.int .i64 q.1, .int .i64 q.2] 31))
            refine (show Calls Try.prog 100 #[vecV p.1 p.2, vecV q.1 q.2] _ _ from (cross_c p.1 p.2 q.1 q.2 _ HPF.out.1 HPF.out.2 HQF.out.1 HQF.out.2).mono ?_)
            rintro e w6 ⟨rfl, hE6⟩
            have HE6 := Lib.hid (Ext.trans HE4.out (Ext.trans hE5 hE6))
            have HB6 := Lib.hid (VRow.ext (show VRow (wr.alloc (.cells #[.int .i64 q.1, .int .i64 q.2] 31)) _ _ _ from HB.out) hE6)
            have HR6 := Lib.hid (VRow.ext HR2.out hE6)
            clear hE5 hE6
            by_cases hc : crossZ p.1 p.2 q.1 q.2 ≤ 0
            · go_wp2
              go_ret
              refine ⟨ret_bool ?_, Ext.trans HE3.out HE6.out⟩
              rw [HQS.out, turnB_false hlt (by rw [HN.out, Hpp.out]; exact hc), Bool.false_and]
            · have n0 := VRow.cell HB6.out (k := 0) rfl
              have n1 := VRow.cell HB6.out (k := 1) rfl
              have m0 := VRow.cell HR6.out (k := 0) rfl
              have m1 := VRow.cell HR6.out (k := 1) rfl
              have f0 := VRow.frozen HR6.out 0 none
              have f1 := VRow.frozen HR6.out 1 none
              go_wp2
              obtain ⟨hv7, hE7⟩ := vec_put HE6.out HR6.out (Nat.le_refl _) (.int .i64 q.1) (.int .i64 q.2)
              refine ⟨⟨k + 1, by omega, fun j hj => ?_, by simp, hE7, by rw [HNX.out]; exact hv7⟩, by simp [intOf]; omega⟩
              by_cases hjk : j = k
              · subst hjk; rw [HN.out, Hpp.out]; unfold crossP; omega
              · exact Hall.out j (by omega)
          · obtain rfl : k = qs.length := by omega
            go_wp2_with fail
            refine (sorted_c _ qs _ (HU.out.ext HE4.out) HQ.out (by omega) (by omega)).mono ?_
            rintro e w6 ⟨rfl, hE6⟩
            go_wp2
            go_ret
            refine ⟨ret_bool ?_, Ext.trans HE3.out (Ext.trans HE4.out hE6)⟩
            rw [HQS.out, turnB_true Hall.out, Bool.true_and]
end Go.Proofs.Ytnpebfchojalcaa
