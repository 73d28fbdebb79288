import Derived.Test.YtblaipkhmmaenaaO2
import Derived.Test.YtblaipkhmmaenaaC7
import Derived.Test.YtblaipkhmmaenaaB7
namespace Go.Proofs.Ytblaipkhmmaenaa
open Go.ChangeShapes Go.WideShapes Go.ChangeAt Go.RowKit
theorem cells40 : Try.prog.cellsOf 40 = 4 := by kernel_rfl
section
variable {H : Type} {enc : TypeId × Value → H} {w : World} {base b2 : Nat} {spare : Nat → Bool} {held : Bool}
instance : Inhabited Nd := ⟨⟨0, 0, .slice none 0 0, [], 0⟩⟩
set_option maxRecDepth 100000 in
theorem nodes_trod {v : Value} {d : DataW H} {ps : List MemPlace} (hok : Value.okWide Try.prog w .any b2 35 v) (h : DataW.Trod enc Try.prog w base spare held 35 v d ps) : ∃ ns, NodesAt w v ns := by
  obtain ⟨fuel, h⟩ := h
  rcases Go.Deep.open_slice Try.underlying35 h with ⟨e, _⟩ | ⟨a, len, cap, m, n, D, Pl, e, _, hl, hm, hmm, _, hx⟩
  · have : v = .slice none 0 0 := by
      cases v <;> simp [Value.cells] at e
      case slice => obtain ⟨rfl, rfl, rfl⟩ := e; rfl
      all_goals simp [Value.okWide, Cell.okWide, Cell.ok, Try.underlying35] at hok
    subst this
    exact ⟨[], none, 0, rfl, Nat.le_refl _, by omega, fun h0 => by simp at h0⟩
  · have : v = .slice (some a) len cap := by
      cases v <;> simp [Value.cells] at e
      case slice => obtain ⟨rfl, rfl, rfl⟩ := e; rfl
      all_goals simp [Value.okWide, Cell.okWide, Cell.ok, Try.underlying35] at hok
    subst this
    unfold maxLen at hm
    have hlm : len ≤ m := by rw [hmm]; split <;> omega
    rw [cells40] at hx
    have each : ∀ i, i < len → ∃ nd : Nd, w.cell? ((a.add (i * 4)).add 0) = some (.int .i64 nd.v) ∧ w.cell? ((a.add (i * 4)).add 1) = some (.int .i64 nd.at') ∧ w.cell? ((a.add (i * 4)).add 2) = some nd.yv ∧ w.cell? ((a.add (i * 4)).add 3) = some (.int .i64 nd.d) ∧ Ints w nd.yv nd.y := by
      intro i hi
      obtain ⟨cs, h1, h2⟩ := hx i (by omega)
      obtain ⟨_, hlen, hcell⟩ := World.cells?_some h1
      obtain ⟨xs, n', _, _, _, hn, hf⟩ := DataW.trod_struct Try.underlying40 h2
      simp only [List.size_toArray, List.length_cons, List.length_nil, Nat.zero_add, Nat.reduceAdd] at hn
      have h0 : DataW.trod enc Try.prog w base spare held n' 3 ((cs.drop 0).take (Try.prog.cellsOf 3)) = xs[0]? := hf 0 _ rfl
      have h1 : DataW.trod enc Try.prog w base spare held n' 3 ((cs.drop 1).take (Try.prog.cellsOf 3)) = xs[1]? := hf 1 _ rfl
      have h2 : DataW.trod enc Try.prog w base spare held n' 23 ((cs.drop 2).take (Try.prog.cellsOf 23)) = xs[2]? := hf 2 _ rfl
      have h3 : DataW.trod enc Try.prog w base spare held n' 3 ((cs.drop 3).take (Try.prog.cellsOf 3)) = xs[3]? := hf 3 _ rfl
      rw [cells3] at h0 h1 h3
      rw [cells23] at h2
      obtain ⟨x0, e0⟩ := getElem?_len (show 0 < xs.length by omega)
      obtain ⟨x1, e1⟩ := getElem?_len (show 1 < xs.length by omega)
      obtain ⟨x2, e2⟩ := getElem?_len (show 2 < xs.length by omega)
      obtain ⟨x3, e3⟩ := getElem?_len (show 3 < xs.length by omega)
      rw [e0] at h0
      rw [e1] at h1
      rw [e2] at h2
      rw [e3] at h3
      obtain ⟨z0, c0, _, _⟩ := DataW.trod_int Try.underlying3 h0
      obtain ⟨z1, c1, _, _⟩ := DataW.trod_int Try.underlying3 h1
      obtain ⟨yv, y, c2, hy, _⟩ := ints_trod Try.underlying23 Try.underlying3 cells3 h2
      obtain ⟨z3, c3, _, _⟩ := DataW.trod_int Try.underlying3 h3
      match cs, hlen with
      | [q0, q1, q2, q3], _ =>
        simp at c0 c1 c2 c3
        subst c0 c1 c2 c3
        exact ⟨⟨z0, z1, q2, y, z3⟩, hcell 0 (by omega), hcell 1 (by omega), hcell 2 (by omega), hcell 3 (by omega), hy⟩
    obtain ⟨f, hf⟩ := Go.Deep.choose_lt each
    refine ⟨(List.range len).map f, some a, cap, by simp, by simpa using hl, by omega, fun h0 => ?_⟩
    simp only [List.length_map, List.length_range] at h0
    have hplain : a = ⟨a.block, a.off, none⟩ := by
      have := (hf 0 h0).1
      rw [Nat.zero_mul] at this
      refine plain_of_cell (w := w) (v := .int .i64 (f 0).v) ?_
      simpa [Addr.add] using this
    refine ⟨a.block, a.off, by rw [← hplain], fun k nd hk => ?_⟩
    have hkl : k < len := by have := lt_len hk; simpa using this
    simp [hkl] at hk
    subst hk
    obtain ⟨g0, g1, g2, g3, g4⟩ := hf k hkl
    rw [hplain] at g0 g1 g2 g3
    simp only [addr_add] at g0 g1 g2 g3
    exact ⟨g0, g1, g2, g3, g4⟩
end
end Go.Proofs.Ytblaipkhmmaenaa
