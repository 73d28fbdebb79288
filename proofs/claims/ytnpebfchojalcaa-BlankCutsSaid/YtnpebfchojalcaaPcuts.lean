/- For every width and height and every list of items, the law BlankCuts returns true and leaves its arguments as they were: Best returns the greatest worth and the plan of the rule, held against all cuts of all rectangles, or the error of the specification. No condition. -/
import Derived.Test.YtnpebfchojalcaaO2
import Derived.Test.YtnpebfchojalcaaJ5
namespace Go.Proofs.Ytnpebfchojalcaa
open Go.ChangeShapes Go.WideShapes Go.ChangeAt Go.RowKit
set_option maxRecDepth 100000 in
theorem slice_trod {H : Type} {enc : TypeId × Value → H} {w : World} {base : Nat} {spare : Nat → Bool} {held : Bool} {b2 : Nat} {v : Value} {d : DataW H} {ps : List MemPlace} (hok : Value.okWide Try.prog w .any b2 41 v) (h : DataW.Trod enc Try.prog w base spare held 41 v d ps) : v = .slice none 0 0 ∨ ∃ ad n cap, v = .slice (some ad) n cap := by
  obtain ⟨fuel, h⟩ := h
  rcases Go.Deep.open_slice Try.underlying41 h with ⟨e, _⟩ | ⟨a, len, cap, m, n, D, Pl, e, _⟩
  · left
    cases v <;> simp [Value.cells] at e
    case slice => obtain ⟨rfl, rfl, rfl⟩ := e; rfl
    all_goals simp [Value.okWide, Cell.okWide, Cell.ok, Try.underlying41] at hok
  · right
    refine ⟨a, len, cap, ?_⟩
    cases v <;> simp [Value.cells] at e
    case slice => obtain ⟨rfl, rfl, rfl⟩ := e; rfl
    all_goals simp [Value.okWide, Cell.okWide, Cell.ok, Try.underlying41] at hok
set_option maxRecDepth 100000 in
set_option maxHeartbeats 4000000 in
theorem cuts_lifted (os : Os) (started : os.Started) (H : Type) (enc : TypeId × Value → H) :
    ReturnsInHanded {} Try.checked os 7 .any (Rows.blankCutsSpec.pre6 enc Try.prog Try.f7 Rows.blankCutsRow.domain false) (Rows.blankCutsSpec.post enc Try.prog Try.f7 false true false false) := by
  refine returnsInHanded_of_change (C := Try.checked) Try.own started (by kernel_rfl) Try.func7
    (ChangeSpec.witness6 (enc := enc) (C := Try.checked) false ⟨#[], #[.int .i64 0, .int .i64 0, .slice none 0 0], []⟩ 8 (by kernel_rfl) (by kernel_rfl) (by kernel_rfl) (by kernel_rfl)) ?_
  intro W base args ds gs before hval0 hW hcnd _
  have hval : ∀ (j : Nat) t v, Try.f7.params[j]? = some t → args[j]? = some v → Value.okWide Try.prog W .any base t v := hval0
  have hW' := hW
  obtain ⟨p, q, hA0, hV, rfl, hfz, hnd⟩ := hW
  have hA : DataW.TrodAll enc Try.prog W 0 (fun _ => true) true Try.f7.params.toList args.toList ds p := hA0
  rw [Try.params7] at hA hval
  have hA1 := hA
  have hlt : ∀ x ∈ p, x.block < W.heap.size := fun x hx => hW'.lt x (List.mem_append_left _ hx)
  obtain ⟨v0, v1, v2, d0, d1, d2, p0, p1, p2, rfl, rfl, rfl, h0, h1, h2⟩ := trodAll_three hA
  obtain ⟨rfl, rfl⟩ := trodVars_none hV
  obtain ⟨x0, rfl, rfl, rfl, hb0⟩ := open_int Try.underlying3 (hval 0 3 v0 rfl rfl) h0
  obtain ⟨x1, rfl, rfl, rfl, hb1⟩ := open_int Try.underlying3 (hval 1 3 v1 rfl rfl) h1
  obtain ⟨xs2, hP2⟩ := items_trod (hval 2 41 v2 rfl rfl) h2
  have hsl := slice_trod (hval 2 41 v2 rfl rfl) h2
  clear hA0 hval0
  refine (cuts_law x0 x1 v2 xs2  W hP2 hsl).mono fun e W' ⟨he, hB⟩ => ?_
  subst he
  refine ⟨_, rfl, _, _, _, [], _, [], hW', ?_, trodAll_stays hB _ _ _ _ (by decide +kernel) hA1 hlt, rfl, hB.frame _, fun h => by cases h⟩
  exact trodAll_mk1 (shut_bool Try.underlying4 true)
set_option maxHeartbeats 4000000 in
theorem cuts_holds : Rows.BlankCutsSaid :=
  OpenClaim.holds_of_wide 7 Try.f7 rfl rfl rfl rfl rfl rfl rfl ⟨rfl, rfl, rfl, rfl, rfl⟩ rfl rfl rfl rfl rfl (by kernel_rfl) Try.func7 (by kernel_rfl)
    (of_decide_eq_true (by kernel_rfl)) (by unfold Func.isWrapper; first | (rw [if_pos (by decide +kernel)]; kernel_rfl) | (rw [if_neg (by decide +kernel)]; exact ⟨rfl, rfl⟩))
    (fun os started H enc _ => cuts_lifted os started H enc)
end Go.Proofs.Ytnpebfchojalcaa
