import Derived.Test.YtbdppephmlkbaaaV22
import Derived.BigQuiet
namespace Go.Proofs.Ytbdppephmlkbaaa
set_option maxRecDepth 100000
open Go.RowKit Go.Shelf
attribute [local go_sem] Oper.semAt_some
theorem ext_drewN {w w1 : World} (h : Ext w w1) (n : Nat) : Ext w (w1.drewN n) := ⟨h.os, h.tape, h.output, h.size, h.block⟩
theorem list_same {ps qs : List Pt} (hl : ps.length = qs.length) (h : ∀ j, j < ps.length → fromP ps j = fromP qs j) : ps = qs := by
  refine List.ext_getElem hl fun i h1 h2 => ?_
  have := h i h1
  rwa [fromP_of (List.getElem?_eq_getElem h1), fromP_of (List.getElem?_eq_getElem h2)] at this
set_option maxRecDepth 100000 in
set_option maxHeartbeats 2000000 in
theorem same_c (u v : Value) (ps qs : List Pt) (w : World) (hu : Vecs w u ps) (hv : Vecs w v qs) :
    Calls Try.prog 12 #[u, v] w fun e w' => e = .returned (.bool (decide (ps = qs))) ∧ Ext w w' := by
  obtain ⟨a1, c1, rfl, hl1, hm1, hra⟩ := hu.at
  obtain ⟨a2, c2, rfl, hl2, hm2, hrb⟩ := hv.at
  have HA := Lib.hid hra
  have HB := Lib.hid hrb
  clear hu hv hra hrb
  by_cases hl : ps.length = qs.length
  · have HL := Lib.hid hl
    rw [← hl] at hl2 ⊢
    clear hl
    go_enter Try.func12, Try.ntmps12
    go_wp2_with fail
    go_loopw [5] (fun i wr => ∃ k : Nat, k ≤ ps.length ∧ (∀ j, j < k → fromP ps j = fromP qs j) ∧ i = .int .i64 k ∧ Ext w wr) (fun i _ => ps.length - (intOf i).toNat)
    case atStart => exact ⟨0, Nat.zero_le _, fun j hj => by omega, rfl, Ext.refl _⟩
    case round =>
      obtain ⟨k, hk, hall, rfl, hE⟩ := hrel
      have Hall := Lib.hid hall
      have HE := Lib.hid hE
      clear hall hE
      by_cases hlt : k < ps.length
      · obtain ⟨p, hp⟩ := getElem?_len hlt
        obtain ⟨q, hq⟩ := getElem?_len (show k < qs.length by have := HL.out; omega)
        obtain ⟨b3, o3, rfl, c3, c4⟩ := HA.out k p hp
        obtain ⟨b4, o4, rfl, c5, c6⟩ := HB.out k q hq
        replace c3 := Ext.cell HE.out c3
        replace c4 := Ext.cell HE.out c4
        replace c5 := Ext.cell HE.out c5
        replace c6 := Ext.cell HE.out c6
        have HP := Lib.hid (fromP_of hp)
        have HQ := Lib.hid (fromP_of hq)
        obtain ⟨p1, p2⟩ := p
        obtain ⟨q1, q2⟩ := q
        simp only at c3 c4 c5 c6
        clear hp hq
        by_cases h1 : p1 = q1
        · subst h1
          by_cases h2 : p2 = q2
          · subst h2
            have HT := Lib.hid (show ∀ j, j < k + 1 → fromP ps j = fromP qs j from fun j hj => by
              rcases Nat.lt_or_ge j k with h | h
              · exact Hall.out j h
              · obtain rfl : j = k := by omega
                rw [HP.out, HQ.out])
            go_wp2_with fail
            go_quiet (fail)
            go_wp2
            all_goals exact ⟨⟨k + 1, by omega, HT.out, by simp, ext_drewN HE.out _⟩, by simp [intOf]; omega⟩
          · have hz : (p2 == q2) = false := by simpa using h2
            have HN := Lib.hid (show decide (ps = qs) = false from by
              rw [decide_eq_false_iff_not]
              intro e
              have := HP.out
              rw [e, HQ.out] at this
              exact h2 (congrArg Prod.snd this).symm)
            clear h2
            go_wp2_with fail
            go_quiet (fail)
            go_wp2
            all_goals go_ret
            all_goals exact ⟨ret_bool HN.out.symm, ext_drewN HE.out _⟩
        · have hz : (p1 == q1) = false := by simpa using h1
          have HN := Lib.hid (show decide (ps = qs) = false from by
            rw [decide_eq_false_iff_not]
            intro e
            have := HP.out
            rw [e, HQ.out] at this
            exact h1 (congrArg Prod.fst this).symm)
          clear h1
          go_wp2_with fail
          go_quiet (fail)
          go_wp2
          all_goals go_ret
          all_goals exact ⟨ret_bool HN.out.symm, ext_drewN HE.out _⟩
      · have HT := Lib.hid (show decide (ps = qs) = true from by
          rw [decide_eq_true_eq]
          exact list_same HL.out fun j hj => Hall.out j (by omega))
        go_wp2
        all_goals go_ret
        all_goals exact ⟨ret_bool HT.out.symm, HE.out⟩
  · have HN := Lib.hid (show decide (ps = qs) = false from by
      rw [decide_eq_false_iff_not]
      exact fun e => hl (congrArg List.length e))
    have hz : ((ps.length : Int) == (qs.length : Int)) = false := by simp; omega
    go_enter Try.func12, Try.ntmps12
    go_wp2
    all_goals go_ret
    all_goals exact ⟨ret_bool HN.out.symm, Ext.refl _⟩
end Go.Proofs.Ytbdppephmlkbaaa
