/- For every three lists of rows, every list of numbers and every two numbers of 16 bits, the law LineAlgebra returns true and leaves its arguments as they were: Multiply is associative where its results may be arguments; the power j + k is the product of the powers j and k; Run by j and then by k steps is Run by j + k. No condition. -/
import Derived.Test.YtbcngojiikdigaaGreatO1
import Derived.Test.YtbcngojiikdigaaGreatL34
namespace Go.Proofs.YtbcngojiikdigaaGreat
open Go.ChangeShapes Go.WideShapes Go.ChangeAt Go.RowKit
set_option maxRecDepth 100000 in
set_option maxHeartbeats 4000000 in
theorem algebra_lifted (os : Os) (started : os.Started) (H : Type) (enc : TypeId × Value → H) :
    ReturnsInHanded {} Tryz.checked os 7 .any (Rows.lineAlgebraSpec.pre6 enc Tryz.prog Tryz.f7 Rows.lineAlgebraRow.domain false) (Rows.lineAlgebraSpec.post enc Tryz.prog Tryz.f7 false true false false) := by
  refine returnsInHanded_of_change (C := Tryz.checked) Tryz.own started (by kernel_rfl) Tryz.func7
    (ChangeSpec.witness6 (enc := enc) (C := Tryz.checked) false ⟨#[], #[.slice none 0 0, .slice none 0 0, .slice none 0 0, .slice none 0 0, .int .u16 0, .int .u16 0], []⟩ 8 (by kernel_rfl) (by kernel_rfl) (by kernel_rfl) (by kernel_rfl)) ?_
  intro W base args ds gs before hval0 hW hcnd _
  have hval : ∀ (j : Nat) t v, Tryz.f7.params[j]? = some t → args[j]? = some v → Value.okWide Tryz.prog W .any base t v := hval0
  have hW' := hW
  obtain ⟨p, q, hA0, hV, rfl, hfz, hnd⟩ := hW
  have hA : DataW.TrodAll enc Tryz.prog W 0 (fun _ => true) true Tryz.f7.params.toList args.toList ds p := hA0
  rw [Tryz.params7] at hA hval
  have hA1 := hA
  have hlt : ∀ x ∈ p, x.block < W.heap.size := fun x hx => hW'.lt x (List.mem_append_left _ hx)
  obtain ⟨v0, v1, v2, v3, v4, v5, d0, d1, d2, d3, d4, d5, p0, p1, p2, p3, p4, p5, rfl, rfl, rfl, h0, h1, h2, h3, h4, h5⟩ := trodAll_six hA
  obtain ⟨rfl, rfl⟩ := trodVars_none hV
  obtain ⟨xs0, hP0⟩ := rows_arg (hval 0 22 v0 rfl rfl) h0
  obtain ⟨xs1, hP1⟩ := rows_arg (hval 1 22 v1 rfl rfl) h1
  obtain ⟨xs2, hP2⟩ := rows_arg (hval 2 22 v2 rfl rfl) h2
  obtain ⟨xs3, hP3⟩ := ints_arg (hval 3 23 v3 rfl rfl) h3
  obtain ⟨x4, rfl, rfl, rfl, hb4⟩ := open_int Tryz.underlying47 (hval 4 47 v4 rfl rfl) h4
  obtain ⟨x5, rfl, rfl, rfl, hb5⟩ := open_int Tryz.underlying47 (hval 5 47 v5 rfl rfl) h5
  clear hA0 hval0
  refine (algebra_c v0 v1 v2 v3 xs0 xs1 xs2 xs3 x4 x5 W hP0 hP1 hP2 hP3 (wf_u16 hb4) (wf_u16 hb5)).mono fun e W' ⟨he, hB⟩ => ?_
  subst he
  refine ⟨_, rfl, _, _, _, [], _, [], hW', ?_, trodAll_stays hB _ _ _ _ (by decide +kernel) hA1 hlt, rfl, hB.frame _, fun h => by cases h⟩
  exact trodAll_mk1 (shut_bool Tryz.underlying4 true)
set_option maxHeartbeats 4000000 in
theorem algebra_holds : Rows.LineAlgebraSaid :=
  OpenClaim.holds_of_wide 7 Tryz.f7 rfl rfl rfl rfl rfl rfl rfl ⟨rfl, rfl, rfl, rfl, rfl⟩ rfl rfl rfl rfl rfl (by kernel_rfl) Tryz.func7 (by kernel_rfl)
    (of_decide_eq_true (by kernel_rfl)) (by unfold Func.isWrapper; first | (rw [if_pos (by decide +kernel)]; kernel_rfl) | (rw [if_neg (by decide +kernel)]; exact ⟨rfl, rfl⟩))
    (fun os started H enc _ => algebra_lifted os started H enc)
end Go.Proofs.YtbcngojiikdigaaGreat
