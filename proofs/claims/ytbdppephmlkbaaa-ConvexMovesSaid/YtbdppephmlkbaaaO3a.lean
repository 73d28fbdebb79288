import Derived.Test.YtbdppephmlkbaaaO1
import Derived.Test.YtbdppephmlkbaaaRB
namespace Go.Proofs.Ytbdppephmlkbaaa
set_option maxRecDepth 100000
open Go.ChangeShapes Go.WideShapes Go.ChangeAt Go.RowKit
section
variable {H : Type} {enc : TypeId × Value → H} {w : World} {base b2 : Nat} {spare : Nat → Bool} {held : Bool}
theorem vecs_trodH {v : Value} {d : DataW H} {ps : List MemPlace} (hok : Value.okWide Try.prog w .any b2 22 v) (h : DataW.Trod enc Try.prog w base spare held 22 v d ps) : ∃ xs, Vecs w v xs ∧ NilO v := by
  obtain ⟨fuel, h⟩ := h
  have hv : ∀ a len cap, v.cells.toList = [.slice a len cap] → v = .slice a len cap := by
    intro a len cap e
    cases v <;> simp [Value.cells] at e
    case slice => obtain ⟨rfl, rfl, rfl⟩ := e; rfl
    all_goals simp [Value.okWide, Cell.okWide, Cell.ok, Try.underlying22] at hok
  rcases Go.Deep.open_slice_pairs Try.underlying22 Try.underlying32 cells31 rfl rfl cells3 cells3 h with ⟨hc, _⟩ | ⟨a, len, cap, m, n, V0, V1, D0, D1, P0, P1, hc, _, hl, hm, hmm, _, hx⟩
  · have e0 := hv _ _ _ hc
    exact ⟨[], ⟨none, 0, e0, Nat.le_refl _, by omega, .inl rfl⟩, fun n cap e => by rw [e0] at e; injection e with _ e1 e2; exact ⟨e1.symm, e2.symm⟩⟩
  · have hlen : len ≤ m := by rw [hmm]; split <;> omega
    unfold maxLen at hm
    have := hv _ _ _ hc
    subst this
    obtain ⟨f, hf⟩ := Go.Deep.choose_lt (n := m) (p := fun i (x : Pt) => V0 i = .int .i64 x.1 ∧ V1 i = .int .i64 x.2) (fun i hi => by
      obtain ⟨_, _, t0, t1⟩ := hx i hi
      obtain ⟨x, e0, _, _⟩ := DataW.trod_int Try.underlying3 t0
      obtain ⟨y, e1, _, _⟩ := DataW.trod_int Try.underlying3 t1
      simp only [List.cons.injEq, and_true] at e0 e1
      exact ⟨(x, y), e0, e1⟩)
    refine ⟨(List.range len).map f, ⟨some a, cap, by simp, by simpa using hl, by omega, ?_⟩, fun n cap e => by cases e⟩
    by_cases h0 : len = 0
    · subst h0; exact .inl rfl
    · have e := plain_of_cell (show w.cell? (a.add 0) = some (V0 0) by simpa using (hx 0 (by omega)).1)
      refine .inr ⟨a.block, a.off, by rw [← e], fun k p hk => ?_⟩
      have hi : k < len := by
        have := (List.getElem?_eq_some_iff.1 hk).1
        simpa using this
      simp [hi] at hk
      subst hk
      obtain ⟨c0, c1, _, _⟩ := hx k (by omega)
      rw [e, Go.WideShapes.add_plain] at c0 c1
      obtain ⟨g0, g1⟩ := hf k (by omega)
      rw [← g0, ← g1]
      exact ⟨c0, by simpa [Nat.add_assoc] using c1⟩
end
end Go.Proofs.Ytbdppephmlkbaaa
