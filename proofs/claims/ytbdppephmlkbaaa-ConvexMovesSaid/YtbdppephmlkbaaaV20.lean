import Derived.Test.YtbdppephmlkbaaaV19
namespace Go.Proofs.Ytbdppephmlkbaaa
set_option maxRecDepth 100000
open Go.RowKit Go.Shelf
theorem tri_vecs (w : World) : Vecs (w.alloc (.cells #[.int .i64 0, .int .i64 0, .int .i64 2, .int .i64 0, .int .i64 0, .int .i64 2] 32)) (.slice (some ⟨w.heap.size, 0, none⟩) 3 3) triT :=
  PRow.vecs (show PRow (w.alloc (.cells #[.int .i64 0, .int .i64 0, .int .i64 2, .int .i64 0, .int .i64 0, .int .i64 2] 32)) w.heap.size triT from vrow_alloc w (cellsOf triT) 32) rfl (by decide)
theorem lim_triS (r : Value) : limR r triS = two r (.int .i64 0) := by
  unfold limR
  rw [if_neg (by decide +kernel), if_neg (by decide +kernel)]
theorem few_c (a : Option Addr) (len cap : Nat) (w : World) (h : len ≤ 9223372036854775807) : Calls Try.prog 7 #[.slice a len cap] w fun e w' => e = .returned (.bool (decide (len ≤ 300))) ∧ w = w' := by
  by_cases h3 : len ≤ 300
  · rw [decide_eq_true h3]
    go_enter Try.func7, Try.ntmps7
    go_wp2
    all_goals go_ret
    all_goals exact ⟨ret_bool (by simp; omega), rfl⟩
  · rw [decide_eq_false h3]
    go_enter Try.func7, Try.ntmps7
    go_wp2
    all_goals go_ret
    all_goals exact ⟨ret_bool (by simp; omega), rfl⟩
set_option maxRecDepth 100000 in
set_option maxHeartbeats 1000000 in
theorem alive_c (w : World) : Calls Try.prog 8 #[] w fun e w' => e = .returned (.bool true) ∧ Ext w w' := by
  have HV := Lib.hid (tri_vecs w)
  have HE := Lib.hid (Ext.alloc (Ext.refl w) (.cells #[.int .i64 0, .int .i64 0, .int .i64 2, .int .i64 0, .int .i64 0, .int .i64 2] 32))
  go_enter Try.func8, Try.ntmps8
  go_wp2_with fail
  generalize w.alloc (.cells #[.int .i64 0, .int .i64 0, .int .i64 2, .int .i64 0, .int .i64 0, .int .i64 2] 32) = w1 at *
  refine (Flip_c _ triT w1 HV.out).mono ?_
  rintro e w2 ⟨u, rfl, hu, hE2⟩
  have hu2 := hu tri_valid
  rw [tri_flip] at hu2
  rw [show flipR triT u = two u (.int .i64 0) by unfold flipR; rw [if_pos tri_valid]]
  simp only [two]
  have HU := Lib.hid hu2
  have HE2 := Lib.hid (Ext.trans HE.out hE2)
  have HV2 := Lib.hid (HV.out.ext hE2)
  obtain ⟨au, cu, rfl, hlu, hmu, _⟩ := hu2.at
  clear hu hu2 hE2
  go_wp2_with fail
  refine (Sum_c _ _ triT triF w2 HV2.out HU.out tri_valid triF_valid).mono ?_
  rintro e w3 ⟨r, ds, hs, rfl, hr, hE3⟩
  rw [tri_sorted hs] at hr ⊢
  rw [lim_triS]
  simp only [two]
  have HR := Lib.hid hr
  have HE3 := Lib.hid (Ext.trans HE2.out hE3)
  have HV3 := Lib.hid (HV2.out.ext hE3)
  obtain ⟨ar, cr, rfl, hlr, hmr, _⟩ := hr.at
  clear hs hr hE3 ds
  go_wp2_with fail
  refine (Area_c _ triS w3 HR.out).mono ?_
  rintro e w4 ⟨rfl, hE4⟩
  rw [show areaR triS = two (.int .i64 24) (.int .i64 0) by unfold areaR; rw [if_pos triS_valid, tri_area]]
  simp only [two]
  have HE4 := Lib.hid (Ext.trans HE3.out hE4)
  have HV4 := Lib.hid (HV3.out.ext hE4)
  clear hE4
  have hl6 : triS.length = 6 := rfl
  go_wp2_with fail
  refine (valid_c _ triT w4 HV4.out).mono ?_
  rintro e w5 ⟨rfl, hE5⟩
  rw [tri_valid]
  go_wp2
  all_goals go_ret
  all_goals exact ⟨ret_bool (by simp), Ext.trans HE4.out hE5⟩
end Go.Proofs.Ytbdppephmlkbaaa
