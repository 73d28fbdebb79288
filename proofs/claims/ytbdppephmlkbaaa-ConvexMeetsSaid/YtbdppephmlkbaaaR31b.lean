import Derived.Test.YtbdppephmlkbaaaR17b
import Derived.Test.YtbdppephmlkbaaaRE
namespace Go.Proofs.Ytbdppephmlkbaaa
set_option maxRecDepth 100000
open Go.RowKit Go.Shelf
attribute [local go_sem] Oper.semAt_some
/-! The law ConvexMeets. -/
theorem over_two (ps qs : List Pt) : ∃ (b : Bool) (e : Int), overlapR ps qs = two (.bool b) (.int .i64 e) := by
  unfold overlapR
  split
  · exact ⟨_, _, rfl⟩
  · exact ⟨_, _, rfl⟩
theorem ins_two (ps qs : List Pt) : ∃ (b : Bool) (e : Int), insideR ps qs = two (.bool b) (.int .i64 e) := by
  unfold insideR
  split
  · exact ⟨_, _, rfl⟩
  · exact ⟨_, _, rfl⟩
theorem sep_two (ps qs : List Pt) : ∃ x y e : Int, sepR ps qs = two (vecV x y) (.int .i64 e) := by
  unfold sepR
  split
  · split
    · exact ⟨_, _, _, rfl⟩
    · exact ⟨_, _, _, rfl⟩
  · exact ⟨_, _, _, rfl⟩
theorem vneq_f (a b : Int) (w : World) : Sem.run Try.prog (binOp .neq 32 (.agg #[.int .i64 a, .int .i64 b]) (.agg #[.int .i64 a, .int .i64 b])) w = .ok (.bool false) w := by
  simp [go_sem]
set_option maxHeartbeats 8000000 in
theorem meets_law (v u : Value) (ps qs : List Pt) (w : World) (hv : Vecs w v ps ∧ NilO v) (hu : Vecs w u qs ∧ NilO u) :
    Calls Try.prog 6 #[v, u] w fun e w' => e = .returned (.bool true) ∧ Ext w w' := by
  have HV := Lib.hid hv.1
  have HNL := Lib.hid hv.2
  have HU := Lib.hid hu.1
  have HNU := Lib.hid hu.2
  obtain ⟨a1, c1, rfl, hl1, hm1, _⟩ := hv.1.at
  obtain ⟨a2, c2, rfl, hl2, hm2, _⟩ := hu.1.at
  clear hv hu
  go_enter Try.func6, Try.ntmps6
  go_wp2_with fail
  refine (few_c _ _ _ w (by omega)).mono ?_
  rintro e w2 ⟨rfl, rfl⟩
  by_cases hf1 : ps.length ≤ 300
  · rw [decide_eq_true hf1]
    go_wp2_with fail
    refine (few_c _ _ _ w (by omega)).mono ?_
    rintro e w2 ⟨rfl, rfl⟩
    by_cases hf2 : qs.length ≤ 300
    · rw [decide_eq_true hf2]
      go_wp2_with fail
      refine (copyd_c _ ps w HV.out HNL.out hf1).mono ?_
      rintro e w2 ⟨ra, rfl, hr, hE⟩
      have HE2 := Lib.hid hE
      have HA2 := Lib.hid hr
      clear hE hr
      go_wp2_with fail
      refine (copyd_c _ qs w2 (HU.out.ext HE2.out) HNU.out hf2).mono ?_
      rintro e w3 ⟨rb, rfl, hr, hE⟩
      have HE3 := Lib.hid (Ext.trans HE2.out hE)
      have HA3 := Lib.hid (HA2.out.ext hE)
      have HC3 := Lib.hid hr
      clear hE hr
      go_wp2_with fail
      refine (Overlap_c _ _ ps qs w3 HA3.out HC3.out).mono ?_
      rintro e w4 ⟨he, hE⟩
      obtain ⟨ob, oe, hob⟩ := over_two ps qs
      rw [hob] at he
      subst he
      have HOB := Lib.hid hob
      have HX4 := Lib.hid hE
      clear hE hob
      unfold two
      go_wp2_with fail
      refine (rOverlap_c _ _ ps qs w4 (HV.out.ext (Ext.trans HE3.out HX4.out)) (HU.out.ext (Ext.trans HE3.out HX4.out))).mono ?_
      rintro e w5 ⟨he, hE⟩
      rw [HOB.out] at he
      subst he
      have HX5 := Lib.hid (Ext.trans HX4.out hE)
      have q1 : (ob != ob) = false := by simp
      have q2 : (oe != oe) = false := by simp
      clear hE
      unfold two
      go_wp2_with fail
      refine (Separate_c _ _ ps qs w5 (HA3.out.ext HX5.out) (HC3.out.ext HX5.out)).mono ?_
      rintro e w6 ⟨he, hE⟩
      obtain ⟨sx, sy, se, hsp⟩ := sep_two ps qs
      rw [hsp] at he
      subst he
      have HSP := Lib.hid hsp
      have HX6 := Lib.hid (Ext.trans HX5.out hE)
      clear hE hsp q1 q2
      have HD := Lib.hid (show VRow (w6.alloc (.cells #[.int .i64 sx, .int .i64 sy] 32)) _ _ _ from vrow_alloc w6 [.int .i64 sx, .int .i64 sy] 32)
      have HX7 := Lib.hid (Ext.trans HX6.out (Ext.alloc (Ext.refl w6) (.cells #[.int .i64 sx, .int .i64 sy] 32)))
      unfold two
      go_wp2_with fail
      generalize hw7 : w6.alloc (.cells #[.int .i64 sx, .int .i64 sy] 32) = w7 at *
      clear hw7
      refine (rSeparate_c _ _ ps qs w7 (HV.out.ext (Ext.trans HE3.out HX7.out)) (HU.out.ext (Ext.trans HE3.out HX7.out))).mono ?_
      rintro e w8 ⟨he, hE⟩
      rw [HSP.out] at he
      subst he
      have HX8 := Lib.hid (Ext.trans HX7.out hE)
      have HD8 := Lib.hid (VRow.ext HD.out hE)
      have HX9 := Lib.hid (Ext.trans HX8.out (Ext.alloc (Ext.refl w8) (.cells #[.int .i64 sx, .int .i64 sy] 32)))
      have HD9 := Lib.hid (VRow.alloc HD8.out (.cells #[.int .i64 sx, .int .i64 sy] 32))
      have HC9 := Lib.hid (show VRow (w8.alloc (.cells #[.int .i64 sx, .int .i64 sy] 32)) _ _ _ from vrow_alloc w8 [.int .i64 sx, .int .i64 sy] 32)
      have q2 : (se != se) = false := by simp
      have hnq := fun W => vneq_f sx sy W
      have hs8 := hE.size
      clear hE
      have d0 := VRow.cell HD9.out (k := 0) rfl
      have d1 := VRow.cell HD9.out (k := 1) rfl
      have e0 := VRow.cell HC9.out (k := 0) rfl
      have e1 := VRow.cell HC9.out (k := 1) rfl
      unfold two
      go_wp2_with fail
      clear d0 d1 e0 e1 q2 hnq
      generalize hw9 : w8.alloc (.cells #[.int .i64 sx, .int .i64 sy] 32) = w9 at *
      clear hw9
      refine (Inside_c _ _ ps qs w9 (HA3.out.ext HX9.out) (HC3.out.ext HX9.out)).mono ?_
      rintro e w10 ⟨he, hE⟩
      obtain ⟨ib, ie, hib⟩ := ins_two ps qs
      rw [hib] at he
      subst he
      have HIB := Lib.hid hib
      have HX10 := Lib.hid (Ext.trans HX9.out hE)
      clear hE hib
      unfold two
      go_wp2_with fail
      refine (rInside_c _ _ ps qs w10 (HV.out.ext (Ext.trans HE3.out HX10.out)) (HU.out.ext (Ext.trans HE3.out HX10.out))).mono ?_
      rintro e w11 ⟨he, hE⟩
      rw [HIB.out] at he
      subst he
      have HX11 := Lib.hid (Ext.trans HX10.out hE)
      have q1 : (ib == ib) = true := by simp
      have q2 : (ie == ie) = true := by simp
      clear hE
      unfold two
      go_wp2_with fail
      refine (same_c _ _ ps ps w11 (HA3.out.ext HX11.out) (HV.out.ext (Ext.trans HE3.out HX11.out))).mono ?_
      rintro e w18 ⟨rfl, hE⟩
      have HX18 := Lib.hid (Ext.trans HX11.out hE)
      rw [decide_eq_true rfl]
      clear hE q1 q2
      go_wp2_with fail
      refine (same_c _ _ qs qs w18 (HC3.out.ext HX18.out) (HU.out.ext (Ext.trans HE3.out HX18.out))).mono ?_
      rintro e w19 ⟨rfl, hE⟩
      have HX19 := Lib.hid (Ext.trans HX18.out hE)
      rw [decide_eq_true rfl]
      clear hE
      go_wp2_with fail
      refine (alive_c w19).mono ?_
      rintro e w20 ⟨rfl, hE⟩
      have HE20 := Lib.hid (Ext.trans HE3.out (Ext.trans HX19.out hE))
      clear hE
      go_wp2_with fail
      go_ret
      exact ⟨rfl, HE20.out⟩
    · rw [decide_eq_false hf2]
      go_wp2_with fail
      refine (alive_c _).mono ?_
      rintro e w9 ⟨rfl, hE⟩
      have HE9 := Lib.hid hE
      clear hE
      go_wp2_with fail
      go_ret
      exact ⟨rfl, HE9.out⟩
  · rw [decide_eq_false hf1]
    go_wp2_with fail
    refine (alive_c _).mono ?_
    rintro e w9 ⟨rfl, hE⟩
    have HE9 := Lib.hid hE
    clear hE
    go_wp2_with fail
    go_ret
    exact ⟨rfl, HE9.out⟩
end Go.Proofs.Ytbdppephmlkbaaa
