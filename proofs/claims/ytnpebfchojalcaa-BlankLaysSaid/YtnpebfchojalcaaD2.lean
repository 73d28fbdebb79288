import Derived.Test.YtnpebfchojalcaaD1
namespace Go.Proofs.Ytnpebfchojalcaa
set_option maxRecDepth 100000
open Go.RowKit Go.Shelf
theorem dens_tri {e : Ending} (h : DensS triE e) : e = two (gridV 1 1 3) (.int .i64 0) := by
  rcases h with ⟨_, A, B, D, he, hf⟩ | ⟨hb, _⟩
  · obtain ⟨rfl, rfl, rfl⟩ := first_one hf triE_first
    exact he
  · rw [tri_blank] at hb; cases hb
theorem best_its {e : Ending} {w : World} (h : BestS itsP 4 3 e w) : ∃ v', e = three (.int .i64 13) v' (.int .i64 0) ∧ Vecs w v' [(3, 1), (1, 1), (2, 2), (1, 0), (1, 0)] := by
  rcases h with ⟨h0, _⟩ | ⟨_, v', he, hv⟩
  · exact absurd its_ord h0
  · refine ⟨v', ?_, ?_⟩
    · rw [he, show bestV itsP (4 : Int).toNat (3 : Int).toNat = 13 from its_best]
    · rw [show planZ itsP (4 : Int).toNat (3 : Int).toNat = _ from its_plan] at hv
      exact hv
set_option maxHeartbeats 1000000 in
theorem alive_c (w : World) : Calls Try.prog 15 #[] w fun e w' => e = .returned (.bool true) ∧ Ext w w' := by
  have HV := Lib.hid (tri_made w)
  go_enter Try.func15, Try.ntmps15
  go_wp2_with fail
  refine (Densest_c _ triE _ HV.out).mono ?_
  rintro e w2 ⟨hS, hE⟩
  have he := dens_tri hS
  subst he
  have HE2 := Lib.hid (Ext.trans (Ext.alloc (Ext.refl w) _) hE)
  clear hE hS HV
  simp only [two, gridV]
  have hr := vrow_alloc w2 [.int .i64 1, .int .i64 1, .int .i64 3] 24
  have HR := Lib.hid (show VRow (w2.alloc (.cells #[.int .i64 1, .int .i64 1, .int .i64 3] 24)) _ _ _ from hr)
  have HI := Lib.hid (items_made (w2.alloc (.cells #[.int .i64 1, .int .i64 1, .int .i64 3] 24)))
  have hs : (w2.alloc (.cells #[.int .i64 1, .int .i64 1, .int .i64 3] 24)).heap.size = w2.heap.size + 1 := by simp
  rw [hs] at HI
  have HE3 := Lib.hid (Ext.trans HE2.out (Ext.alloc (Ext.alloc (Ext.refl w2) (.cells #[.int .i64 1, .int .i64 1, .int .i64 3] 24)) (.cells #[.int .i64 2, .int .i64 2, .int .i64 5, .int .i64 4, .int .i64 1, .int .i64 3] 53)))
  have HR3 := Lib.hid (show VRow ((w2.alloc (.cells #[.int .i64 1, .int .i64 1, .int .i64 3] 24)).alloc (.cells #[.int .i64 2, .int .i64 2, .int .i64 5, .int .i64 4, .int .i64 1, .int .i64 3] 53)) _ _ _ from HR.out.alloc _)
  clear hr HR HE2
  go_wp2_with fail
  clear hs
  refine (Best_c 4 3 _ itsP _ HI.out).mono ?_
  rintro e w4 ⟨hS, hE⟩
  obtain ⟨v', rfl, hv'⟩ := best_its hS
  obtain ⟨a, cap, rfl, hl, hm, hr⟩ := hv'.at
  obtain ⟨b, o, rfl, c0, c1⟩ := hr 0 (3, 1) rfl
  have HR4 := Lib.hid (VRow.ext HR3.out hE)
  have HE4 := Lib.hid (Ext.trans HE3.out hE)
  have g0 := VRow.cell HR4.out (k := 0) rfl
  have g1 := VRow.cell HR4.out (k := 1) rfl
  have g2 := VRow.cell HR4.out (k := 2) rfl
  clear hE hS hv' hr HE3 HR3
  simp only [three]
  simp only [Nat.zero_mul, Nat.add_zero] at c0 c1
  simp only [List.length_cons, List.length_nil, Nat.zero_add, Nat.reduceAdd]
  go_wp2
  go_ret
  exact ⟨rfl, HE4.out⟩
end Go.Proofs.Ytnpebfchojalcaa
