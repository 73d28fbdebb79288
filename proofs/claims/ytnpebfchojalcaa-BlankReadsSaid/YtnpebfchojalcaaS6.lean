import Derived.Test.YtnpebfchojalcaaS5
namespace Go.Proofs.Ytnpebfchojalcaa
set_option maxRecDepth 100000
open Go.RowKit Go.Shelf
set_option maxHeartbeats 16000000 in
theorem reads_law (x y : Int) (u : Value) (ts : List It) (pv : Value) (plan : List Ct) (w : World) (hu : Items w u ts) (hp : Vecs w pv plan) (hsl : pv = .slice none 0 0 ∨ ∃ ad n cap, pv = .slice (some ad) n cap) :
    Calls Try.prog 6 #[.int .i64 x, .int .i64 y, u, pv] w fun e w' => e = .returned (.bool true) ∧ Ext w w' := by
  obtain ⟨a, cap, rfl, hl, hm, hr⟩ := hu.at
  obtain ⟨i0, hi, hz0, hz1, hz2⟩ := info_parts info69
  have HI := Lib.hid hi
  have HZ0 := Lib.hid hz0
  have HZ1 := Lib.hid hz1
  have HZ2 := Lib.hid hz2
  have HU := Lib.hid hu
  have HP := Lib.hid hp
  have HE := Lib.hid (Ext.alloc (Ext.refl w) (.cells #[] 69))
  have HO := Lib.hid (show (w.alloc (.cells #[] 69)).ownsRow w.heap.size 69 2 (.slice (some ⟨w.heap.size, 0, none⟩) 0 0) 0 [] from World.ownsRow_made w #[] 0 (Nat.le_refl _) (by decide) rfl)
  clear hu hp hr hi hz0 hz1 hz2
  rcases hsl with rfl | ⟨ad, nn, cap2, rfl⟩
  · by_cases hn : 30 < ts.length
    · have hn0 : plan = [] := by
        obtain ⟨ap, cp, e, _⟩ := HP.out
        simp only [Value.slice.injEq] at e
        exact List.length_eq_zero_iff.1 e.2.1.symm
      subst hn0
      go_enter Try.func6, Try.ntmps6
      go_wp2_with fail
      refine (alive_c w).mono ?_
      rintro e w2 ⟨rfl, hE⟩
      go_wp2_with fail
      go_ret
      exact ⟨rfl, hE⟩
    · skip
      have hn0 : plan = [] := by
        obtain ⟨ap, cp, e, _⟩ := HP.out
        simp only [Value.slice.injEq] at e
        exact List.length_eq_zero_iff.1 e.2.1.symm
      subst hn0
      go_enter Try.func6, Try.ntmps6
      go_wp2_with (at_builtin; refine wpList_append_own_none rfl _ _ 42 rfl w.heap.size 69 i0 2 Try.underlying42 HI.out _ 0 [] rfl HO.out rfl ?_)
      have HEO := HE
      have HVO : RowKit.Hid (Vecs (w.alloc (.cells #[] 69)) (.slice (some ⟨w.heap.size, 0, none⟩) 0 0) []) := Lib.hid ⟨_, 0, rfl, Nat.le_refl _, by omega, .inl rfl⟩
      generalize w.alloc (.cells #[] 69) = wo at *
      refine (Worth_c x y _ ts _ ([] : List Ct) wo (HU.out.ext HEO.out) HVO.out).mono ?_
      rintro e w2 ⟨hS, hE2⟩
      obtain ⟨b, cs, a3, c3, ok, er, rfl, hi1, hnext⟩ := worth_pair hS
      have HI1 := Lib.hid hi1
      have HN := Lib.hid hnext
      have HE2 := Lib.hid (Ext.trans HEO.out hE2)
      have HVO2 := Lib.hid (HVO.out.ext hE2)
      clear hS hi1 hnext hE2
      simp only [four]
      go_wp2_with fail
      refine (rWorth_c x y _ ts _ ([] : List Ct) w2 (HU.out.ext HE2.out) (HP.out.ext HE2.out)).mono ?_
      rintro e w3 ⟨hS, hE3⟩
      obtain ⟨a4, c4, rfl, hi2⟩ := HN.out e w3 hS
      have HI1 := Lib.hid (HI1.out.ext hE3)
      have HI2 := Lib.hid hi2
      have HE3 := Lib.hid (Ext.trans HE2.out hE3)
      have HVO3 := Lib.hid (HVO2.out.ext hE3)
      clear hS hi2 hE3
      simp only [four]
      go_wp2_with fail
      refine (numbers_c _ _ cs cs w3 HI1.out HI2.out).mono ?_
      rintro e w4 ⟨rfl, hE4⟩
      rw [decide_eq_true (rfl : cs = cs)]
      have HE4 := Lib.hid (Ext.trans HE3.out hE4)
      have HVO4 := Lib.hid (HVO3.out.ext hE4)
      clear hE4
      go_wp2_with fail
      refine (cuts_c _ _ ([] : List Ct) ([] : List Ct) w4 HVO4.out (HP.out.ext HE4.out)).mono ?_
      rintro e w5 ⟨rfl, hE5⟩
      rw [decide_eq_true (rfl : ([] : List Ct) = [])]
      have HE5 := Lib.hid (Ext.trans HE4.out hE5)
      clear hE5
      go_wp2_with fail
      refine (alive_c w5).mono ?_
      rintro e w6 ⟨rfl, hE6⟩
      go_wp2_with fail
      go_ret
      exact ⟨ret_bool (by simp), Ext.trans HE5.out hE6⟩
  · obtain ⟨hnn, hcells⟩ := vecs_some HP.out
    subst hnn
    have HC := Lib.hid hcells
    clear hcells
    have hcp : plan.length ≤ cap2 ∧ cap2 ≤ 9223372036854775807 := by
      obtain ⟨ap, cp, e, h1, h2, _⟩ := HP.out
      simp only [Value.slice.injEq] at e
      omega
    by_cases hn : 30 < ts.length
    · skip
      go_enter Try.func6, Try.ntmps6
      go_wp2_with fail
      refine (alive_c w).mono ?_
      rintro e w2 ⟨rfl, hE⟩
      go_wp2_with fail
      go_ret
      exact ⟨rfl, hE⟩
    · by_cases h1 : 1000 < plan.length
      · by_cases h2 : plan.length ≤ 20001
        · skip
          go_enter Try.func6, Try.ntmps6
          go_wp2_with fail
          refine (alive_c w).mono ?_
          rintro e w2 ⟨rfl, hE⟩
          go_wp2_with fail
          go_ret
          exact ⟨rfl, hE⟩
        · by_cases h3 : 21000 < plan.length
          · skip
            go_enter Try.func6, Try.ntmps6
            go_wp2_with fail
            refine (alive_c w).mono ?_
            rintro e w2 ⟨rfl, hE⟩
            go_wp2_with fail
            go_ret
            exact ⟨rfl, hE⟩
          · skip
            go_enter Try.func6, Try.ntmps6
            go_wp2_with (at_builtin; refine wpList_append_own _ rfl _ _ 42 rfl w.heap.size 69 i0 (.agg #[.int .i64 0, .int .i64 0]) 2 16 Try.underlying42 HI.out HZ0.out HZ1.out HZ2.out rfl (by decide) _ _ _ rfl HO.out ad plan.length cap2 (cellsOf plan) rfl (cellsOf_length plan) (fun j u hj => Ext.cell HE.out (HC.out j u hj)) cellsOf_one (by unfold maxLen; omega) (by omega) HE.out.size ?_; intro v' wo hown' hgrow hnil; have HO4 := Lib.hid hown'; have HG4 := Lib.hid hgrow; obtain ⟨aw, cw, rfl⟩ := own_slice hown'; clear hown' hgrow hnil)
            have HVO := Lib.hid (show Vecs wo _ plan from vecs_own2 (base := w.heap.size) (e := 69) (by have h := HO4.out; rw [Nat.zero_add, List.nil_append] at h; exact h) (by omega))
            have HEO := Lib.hid (show Ext w wo from Below.grown HE.out HG4.out HE.out.size (fun j e => own_block HO.out e))
            (try simp only [Nat.zero_add])
            clear HO4 HG4
            refine (Worth_c x y _ ts _ plan wo (HU.out.ext HEO.out) HVO.out).mono ?_
            rintro e w2 ⟨hS, hE2⟩
            obtain ⟨b, cs, a3, c3, ok, er, rfl, hi1, hnext⟩ := worth_pair hS
            have HI1 := Lib.hid hi1
            have HN := Lib.hid hnext
            have HE2 := Lib.hid (Ext.trans HEO.out hE2)
            have HVO2 := Lib.hid (HVO.out.ext hE2)
            clear hS hi1 hnext hE2
            simp only [four]
            go_wp2_with fail
            refine (rWorth_c x y _ ts _ plan w2 (HU.out.ext HE2.out) (HP.out.ext HE2.out)).mono ?_
            rintro e w3 ⟨hS, hE3⟩
            obtain ⟨a4, c4, rfl, hi2⟩ := HN.out e w3 hS
            have HI1 := Lib.hid (HI1.out.ext hE3)
            have HI2 := Lib.hid hi2
            have HE3 := Lib.hid (Ext.trans HE2.out hE3)
            have HVO3 := Lib.hid (HVO2.out.ext hE3)
            clear hS hi2 hE3
            simp only [four]
            go_wp2_with fail
            refine (numbers_c _ _ cs cs w3 HI1.out HI2.out).mono ?_
            rintro e w4 ⟨rfl, hE4⟩
            rw [decide_eq_true (rfl : cs = cs)]
            have HE4 := Lib.hid (Ext.trans HE3.out hE4)
            have HVO4 := Lib.hid (HVO3.out.ext hE4)
            clear hE4
            go_wp2_with fail
            refine (cuts_c _ _ plan plan w4 HVO4.out (HP.out.ext HE4.out)).mono ?_
            rintro e w5 ⟨rfl, hE5⟩
            rw [decide_eq_true (rfl : plan = plan)]
            have HE5 := Lib.hid (Ext.trans HE4.out hE5)
            clear hE5
            go_wp2_with fail
            refine (alive_c w5).mono ?_
            rintro e w6 ⟨rfl, hE6⟩
            go_wp2_with fail
            go_ret
            exact ⟨ret_bool (by simp), Ext.trans HE5.out hE6⟩
      · skip
        go_enter Try.func6, Try.ntmps6
        go_wp2_with (at_builtin; refine wpList_append_own _ rfl _ _ 42 rfl w.heap.size 69 i0 (.agg #[.int .i64 0, .int .i64 0]) 2 16 Try.underlying42 HI.out HZ0.out HZ1.out HZ2.out rfl (by decide) _ _ _ rfl HO.out ad plan.length cap2 (cellsOf plan) rfl (cellsOf_length plan) (fun j u hj => Ext.cell HE.out (HC.out j u hj)) cellsOf_one (by unfold maxLen; omega) (by omega) HE.out.size ?_; intro v' wo hown' hgrow hnil; have HO4 := Lib.hid hown'; have HG4 := Lib.hid hgrow; obtain ⟨aw, cw, rfl⟩ := own_slice hown'; clear hown' hgrow hnil)
        have HVO := Lib.hid (show Vecs wo _ plan from vecs_own2 (base := w.heap.size) (e := 69) (by have h := HO4.out; rw [Nat.zero_add, List.nil_append] at h; exact h) (by omega))
        have HEO := Lib.hid (show Ext w wo from Below.grown HE.out HG4.out HE.out.size (fun j e => own_block HO.out e))
        (try simp only [Nat.zero_add])
        clear HO4 HG4
        refine (Worth_c x y _ ts _ plan wo (HU.out.ext HEO.out) HVO.out).mono ?_
        rintro e w2 ⟨hS, hE2⟩
        obtain ⟨b, cs, a3, c3, ok, er, rfl, hi1, hnext⟩ := worth_pair hS
        have HI1 := Lib.hid hi1
        have HN := Lib.hid hnext
        have HE2 := Lib.hid (Ext.trans HEO.out hE2)
        have HVO2 := Lib.hid (HVO.out.ext hE2)
        clear hS hi1 hnext hE2
        simp only [four]
        go_wp2_with fail
        refine (rWorth_c x y _ ts _ plan w2 (HU.out.ext HE2.out) (HP.out.ext HE2.out)).mono ?_
        rintro e w3 ⟨hS, hE3⟩
        obtain ⟨a4, c4, rfl, hi2⟩ := HN.out e w3 hS
        have HI1 := Lib.hid (HI1.out.ext hE3)
        have HI2 := Lib.hid hi2
        have HE3 := Lib.hid (Ext.trans HE2.out hE3)
        have HVO3 := Lib.hid (HVO2.out.ext hE3)
        clear hS hi2 hE3
        simp only [four]
        go_wp2_with fail
        refine (numbers_c _ _ cs cs w3 HI1.out HI2.out).mono ?_
        rintro e w4 ⟨rfl, hE4⟩
        rw [decide_eq_true (rfl : cs = cs)]
        have HE4 := Lib.hid (Ext.trans HE3.out hE4)
        have HVO4 := Lib.hid (HVO3.out.ext hE4)
        clear hE4
        go_wp2_with fail
        refine (cuts_c _ _ plan plan w4 HVO4.out (HP.out.ext HE4.out)).mono ?_
        rintro e w5 ⟨rfl, hE5⟩
        rw [decide_eq_true (rfl : plan = plan)]
        have HE5 := Lib.hid (Ext.trans HE4.out hE5)
        clear hE5
        go_wp2_with fail
        refine (alive_c w5).mono ?_
        rintro e w6 ⟨rfl, hE6⟩
        go_wp2_with fail
        go_ret
        exact ⟨ret_bool (by simp), Ext.trans HE5.out hE6⟩
end Go.Proofs.Ytnpebfchojalcaa
