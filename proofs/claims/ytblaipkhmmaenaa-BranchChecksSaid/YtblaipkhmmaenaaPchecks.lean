/- For every integer program, every proof, both values of feasible and every cost, the law BranchChecks returns true and leaves its arguments as they were: Check accepts exactly the proofs that the specification accepts, with the specification's error, and changes no node. No condition. -/
import Derived.Test.YtblaipkhmmaenaaO3
import Derived.Test.YtblaipkhmmaenaaHB
import Derived.Test.YtblaipkhmmaenaaO4
namespace Go.Proofs.Ytblaipkhmmaenaa
open Go.ChangeShapes Go.WideShapes Go.ChangeAt Go.RowKit
theorem slice_trod {H : Type} {enc : TypeId × Value → H} {w : World} {base : Nat} {spare : Nat → Bool} {held : Bool} {b2 : Nat} {v : Value} {d : DataW H} {ps : List MemPlace} (hok : Value.okWide Try.prog w .any b2 35 v) (h : DataW.Trod enc Try.prog w base spare held 35 v d ps) : v = .slice none 0 0 ∨ ∃ ad n cap, v = .slice (some ad) n cap := by
  obtain ⟨fuel, h⟩ := h
  rcases Go.Deep.open_slice Try.underlying35 h with ⟨e, _⟩ | ⟨a, len, cap, m, n, D, Pl, e, _⟩
  · left
    cases v <;> simp [Value.cells] at e
    case slice => obtain ⟨rfl, rfl, rfl⟩ := e; rfl
    all_goals simp [Value.okWide, Cell.okWide, Cell.ok, Try.underlying35] at hok
  · right
    refine ⟨a, len, cap, ?_⟩
    cases v <;> simp [Value.cells] at e
    case slice => obtain ⟨rfl, rfl, rfl⟩ := e; rfl
    all_goals simp [Value.okWide, Cell.okWide, Cell.ok, Try.underlying35] at hok
set_option maxRecDepth 100000 in
theorem checks_lifted (os : Os) (started : os.Started) (H : Type) (enc : TypeId × Value → H) :
    ReturnsInHanded {} Try.checked os 4 .any (Rows.branchChecksSpec.pre6 enc Try.prog Try.f4 Rows.branchChecksRow.domain false) (Rows.branchChecksSpec.post enc Try.prog Try.f4 false true false false) := by
  refine returnsInHanded_of_change (C := Try.checked) Try.own started (by kernel_rfl) Try.func4
    (ChangeSpec.witness6 (enc := enc) (C := Try.checked) false ⟨#[], #[.agg #[.slice none 0 0, .slice none 0 0, .slice none 0 0, .slice none 0 0], .slice none 0 0, .bool false, .int .i64 0], []⟩ 8 (by kernel_rfl) (by kernel_rfl) (by kernel_rfl) (by kernel_rfl)) ?_
  intro W base args ds gs before hval0 hW hcnd _
  have hval : ∀ (j : Nat) t v, Try.f4.params[j]? = some t → args[j]? = some v → Value.okWide Try.prog W .any base t v := hval0
  have hW' := hW
  obtain ⟨p, q, hA0, hV, rfl, hfz, hnd⟩ := hW
  have hA : DataW.TrodAll enc Try.prog W 0 (fun _ => true) true Try.f4.params.toList args.toList ds p := hA0
  rw [Try.params4] at hA hval
  have hA1 := hA
  have hlt : ∀ x ∈ p, x.block < W.heap.size := fun x hx => hW'.lt x (List.mem_append_left _ hx)
  obtain ⟨v0, v1, v2, v3, d0, d1, d2, d3, p0, p1, p2, p3, rfl, rfl, rfl, h0, h1, h2, h3⟩ := trodAll_four hA
  obtain ⟨rfl, rfl⟩ := trodVars_none hV
  obtain ⟨a, b, c, u, P, rfl, hP, _⟩ := who_trod (hval 0 25 v0 rfl rfl) h0
  obtain ⟨ns, hNs⟩ := nodes_trod (hval 1 35 v1 rfl rfl) h1
  have hsl := slice_trod (hval 1 35 v1 rfl rfl) h1
  obtain ⟨f, rfl, rfl, rfl⟩ := open_bool Try.underlying4 (hval 2 4 v2 rfl rfl) h2
  obtain ⟨x, rfl, rfl, rfl, hxw⟩ := open_int Try.underlying3 (hval 3 3 v3 rfl rfl) h3
  have hx64 : in64 x := bounds_i64 hxw
  clear hA0 hval0
  refine (checks_c a b c u v1 ns f x P W hP hNs hsl hx64).mono fun e W' ⟨he, hB⟩ => ?_
  subst he
  refine ⟨_, rfl, _, _, _, [], _, [], hW', ?_, trodAll_stays hB _ _ _ _ (by decide +kernel) hA1 hlt, rfl, hB.frame _, fun h => by cases h⟩
  exact trodAll_mk1 (shut_bool Try.underlying4 true)
theorem checks_holds : Rows.BranchChecksSaid :=
  OpenClaim.holds_of_wide 4 Try.f4 rfl rfl rfl rfl rfl rfl rfl ⟨rfl, rfl, rfl, rfl, rfl⟩ rfl rfl rfl rfl rfl (by kernel_rfl) Try.func4 (by kernel_rfl)
    (of_decide_eq_true (by kernel_rfl)) (by unfold Func.isWrapper; first | (rw [if_pos (by decide +kernel)]; kernel_rfl) | (rw [if_neg (by decide +kernel)]; exact ⟨rfl, rfl⟩))
    (fun os started H enc _ => checks_lifted os started H enc)
end Go.Proofs.Ytblaipkhmmaenaa
