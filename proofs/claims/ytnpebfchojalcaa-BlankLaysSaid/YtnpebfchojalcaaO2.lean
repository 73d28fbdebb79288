import Derived.Test.YtnpebfchojalcaaO1
import Derived.Test.YtnpebfchojalcaaC1
namespace Go.Proofs.Ytnpebfchojalcaa
set_option maxRecDepth 100000
open Go.ChangeShapes Go.WideShapes Go.ChangeAt Go.RowKit
theorem cells53 : Try.prog.cellsOf 53 = 3 := by kernel_rfl
theorem cells69 : Try.prog.cellsOf 69 = 2 := by kernel_rfl
section
variable {H : Type} {enc : TypeId × Value → H} {w : World} {base b2 : Nat} {spare : Nat → Bool} {held : Bool}
/-- A list of items among the arguments. -/
theorem items_trod {v : Value} {d : DataW H} {ps : List MemPlace} (hok : Value.okWide Try.prog w .any b2 41 v) (h : DataW.Trod enc Try.prog w base spare held 41 v d ps) : ∃ xs, Items w v xs := by
  obtain ⟨fuel, h⟩ := h
  have hv : ∀ a len cap, v.cells.toList = [.slice a len cap] → v = .slice a len cap := by
    intro a len cap e
    cases v <;> simp [Value.cells] at e
    case slice => obtain ⟨rfl, rfl, rfl⟩ := e; rfl
    all_goals simp [Value.okWide, Cell.okWide, Cell.ok, Try.underlying41] at hok
  rcases Go.Deep.open_slice Try.underlying41 h with ⟨hc, _⟩ | ⟨a, len, cap, m, n, D, Pl, hc, hb, hl, hm, hmm, _, hx⟩
  · exact ⟨[], none, 0, hv _ _ _ hc, Nat.le_refl _, by omega, .inl rfl⟩
  · have hlen : len ≤ m := by rw [hmm]; split <;> omega
    unfold maxLen at hm
    have := hv _ _ _ hc
    subst this
    obtain ⟨f, hf⟩ := Go.Deep.choose_lt (n := m) (p := fun i (x : It) => w.cell? (a.add (i * 3)) = some (.int .i64 x.1) ∧ w.cell? (a.add (i * 3 + 1)) = some (.int .i64 x.2.1) ∧ w.cell? (a.add (i * 3 + 2)) = some (.int .i64 x.2.2)) (fun i hi => by
      obtain ⟨cs, h1, h2⟩ := hx i hi
      rw [cells53] at h1
      obtain ⟨_, hcl, hcell⟩ := World.cells?_some h1
      obtain ⟨xs, k, _, _, _, hxl, hff⟩ := DataW.trod_struct Try.underlying53 h2
      match xs, hxl, cs, hcl with
      | [y0, y1, y2], _, [v0, v1, v2], _ =>
        have g0 := hff 0 _ rfl
        have g1 := hff 1 _ rfl
        have g2 := hff 2 _ rfl
        simp [cells3] at g0 g1 g2
        obtain ⟨x0, e0, _, _⟩ := DataW.trod_int Try.underlying3 g0
        obtain ⟨x1, e1, _, _⟩ := DataW.trod_int Try.underlying3 g1
        obtain ⟨x2, e2, _, _⟩ := DataW.trod_int Try.underlying3 g2
        simp only [List.cons.injEq, and_true] at e0 e1 e2
        subst e0 e1 e2
        have c0 := hcell 0 (by omega)
        have c1 := hcell 1 (by omega)
        have c2 := hcell 2 (by omega)
        rw [Go.Deep.add_add] at c0 c1 c2
        exact ⟨(x0, x1, x2), by simpa using c0, by simpa using c1, by simpa using c2⟩)
    refine ⟨(List.range len).map f, some a, cap, by simp, by simpa using hl, by omega, ?_⟩
    by_cases h0 : len = 0
    · subst h0; exact .inl rfl
    · have e := plain_of_cell (show w.cell? (a.add 0) = some (.int .i64 (f 0).1) by simpa using (hf 0 (by omega)).1)
      refine .inr ⟨a.block, a.off, by rw [← e], fun k p hk => ?_⟩
      have hi : k < len := by
        have := (List.getElem?_eq_some_iff.1 hk).1
        simpa using this
      simp [hi] at hk
      subst hk
      obtain ⟨c0, c1, c2⟩ := hf k (by omega)
      rw [e, Go.WideShapes.add_plain] at c0 c1 c2
      exact ⟨c0, by simpa [Nat.add_assoc] using c1, by simpa [Nat.add_assoc] using c2⟩
theorem trodAll_five {t t' t'' t3 t4 : TypeId} {args : Array Value} {ds : List (DataW H)} {ps : List MemPlace} (h : DataW.TrodAll enc Try.prog w base spare held [t, t', t'', t3, t4] args.toList ds ps) :
    ∃ v v' v'' v3 v4 d d' d'' d3 d4 p p' p'' p3 p4, args = #[v, v', v'', v3, v4] ∧ ds = [d, d', d'', d3, d4] ∧ ps = p ++ p' ++ p'' ++ p3 ++ p4 ∧ DataW.Trod enc Try.prog w base spare held t v d p ∧ DataW.Trod enc Try.prog w base spare held t' v' d' p' ∧ DataW.Trod enc Try.prog w base spare held t'' v'' d'' p'' ∧ DataW.Trod enc Try.prog w base spare held t3 v3 d3 p3 ∧ DataW.Trod enc Try.prog w base spare held t4 v4 d4 p4 := by
  obtain ⟨v, vs, d, ds', p, q, hargs, rfl, rfl, hd, hrest⟩ := trodAll_cons h
  obtain ⟨v', vs', d', ds'', p', q', rfl, rfl, rfl, hd', hrest'⟩ := trodAll_cons hrest
  obtain ⟨v'', vs'', d'', ds''', p'', q'', rfl, rfl, rfl, hd'', hrest''⟩ := trodAll_cons hrest'
  obtain ⟨v3, vs3, d3, ds3, p3, q3, rfl, rfl, rfl, hd3, hrest3⟩ := trodAll_cons hrest''
  obtain ⟨v4, vs4, d4, ds4, p4, q4, rfl, rfl, rfl, hd4, hrest4⟩ := trodAll_cons hrest3
  obtain ⟨rfl, rfl, rfl⟩ := trodAll_nil hrest4
  exact ⟨v, v', v'', v3, v4, d, d', d'', d3, d4, p, p', p'', p3, p4, by cases args; simp_all, rfl, by simp, hd, hd', hd'', hd3, hd4⟩
end
theorem wf_u8 {x : Int} (h : (Lit.int IntKind.u8 x).wf = true) : 0 ≤ x ∧ x ≤ 255 := by
  simp only [Lit.wf, Bool.and_eq_true, decide_eq_true_eq] at h
  have e1 : IntKind.u8.min = 0 := by decide
  have e2 : IntKind.u8.max = 255 := by decide
  rw [e1, e2] at h
  omega
end Go.Proofs.Ytnpebfchojalcaa
