import Derived.Test.YtblaipkhmmaenaaO1
import Derived.Test.YtblaipkhmmaenaaB1
namespace Go.Proofs.Ytblaipkhmmaenaa
open Go.ChangeShapes Go.WideShapes Go.ChangeAt Go.RowKit
theorem cells22 : Try.prog.cellsOf 22 = 1 := by kernel_rfl
theorem cells23 : Try.prog.cellsOf 23 = 1 := by kernel_rfl
theorem cells3 : Try.prog.cellsOf 3 = 1 := by kernel_rfl
theorem cells25 : Try.prog.cellsOf 25 = 4 := by kernel_rfl
section
variable {H : Type} {enc : TypeId × Value → H} {w : World} {base b2 : Nat} {spare : Nat → Bool} {held : Bool}
theorem toArray_four {cs : Array Value} {a b c u : Value} (h : cs.toList = [a, b, c, u]) : cs = #[a, b, c, u] := by
  apply Array.ext'
  simpa using h
set_option maxRecDepth 100000 in
theorem who_trod {v : Value} {d : DataW H} {ps : List MemPlace} (hok : Value.okWide Try.prog w .any b2 25 v) (h : DataW.Trod enc Try.prog w base spare held 25 v d ps) :
    ∃ a b c u p, v = .agg #[a, b, c, u] ∧ WhoAt w a b c u p ∧ ∀ n ∈ p.C, good64 n := by
  simp only [Value.okWide, Try.underlying25] at hok
  obtain ⟨cs, rfl, hsz, _⟩ := hok
  obtain ⟨fuel, h⟩ := h
  obtain ⟨xs, n, _, _, hl, hn, hx⟩ := DataW.trod_struct Try.underlying25 h
  simp only [List.size_toArray, List.length_cons, List.length_nil, Nat.zero_add, Nat.reduceAdd] at hn
  have h0 : DataW.trod enc Try.prog w base spare held n 22 ((cs.toList.drop 0).take (Try.prog.cellsOf 22)) = xs[0]? := hx 0 _ rfl
  have h1 : DataW.trod enc Try.prog w base spare held n 23 ((cs.toList.drop 1).take (Try.prog.cellsOf 23)) = xs[1]? := hx 1 _ rfl
  have h2 : DataW.trod enc Try.prog w base spare held n 23 ((cs.toList.drop 2).take (Try.prog.cellsOf 23)) = xs[2]? := hx 2 _ rfl
  have h3 : DataW.trod enc Try.prog w base spare held n 23 ((cs.toList.drop 3).take (Try.prog.cellsOf 23)) = xs[3]? := hx 3 _ rfl
  rw [cells22] at h0
  rw [cells23] at h1 h2 h3
  obtain ⟨x0, e0⟩ := getElem?_len (show 0 < xs.length by omega)
  obtain ⟨x1, e1⟩ := getElem?_len (show 1 < xs.length by omega)
  obtain ⟨x2, e2⟩ := getElem?_len (show 2 < xs.length by omega)
  obtain ⟨x3, e3⟩ := getElem?_len (show 3 < xs.length by omega)
  rw [e0] at h0
  rw [e1] at h1
  rw [e2] at h2
  rw [e3] at h3
  obtain ⟨a, A, ha, hA, _⟩ := rows_trod Try.underlying22 Try.underlying23 Try.underlying3 cells23 cells3 h0
  obtain ⟨b, B, hb, hB, _⟩ := ints_trod Try.underlying23 Try.underlying3 cells3 h1
  obtain ⟨c, C, hc, hC, hCb⟩ := ints_trod Try.underlying23 Try.underlying3 cells3 h2
  obtain ⟨u, U, hu, hU, _⟩ := ints_trod Try.underlying23 Try.underlying3 cells3 h3
  have hlen : (Value.agg cs).cells.toList.length = 4 := by rw [hl, cells25]
  have hcs : cs = #[a, b, c, u] := by
    refine toArray_four ?_
    change cs.toList.length = 4 at hlen
    change (cs.toList.drop 0).take 1 = [a] at ha
    change (cs.toList.drop 1).take 1 = [b] at hb
    change (cs.toList.drop 2).take 1 = [c] at hc
    change (cs.toList.drop 3).take 1 = [u] at hu
    match hcs : cs.toList, hlen with
    | [x0, x1, x2, x3], _ =>
      rw [hcs] at ha hb hc hu
      simp at ha hb hc hu
      rw [ha, hb, hc, hu]
  subst hcs
  exact ⟨a, b, c, u, ⟨A, B, C, U⟩, rfl, ⟨⟨hA, hB, hC⟩, hU⟩, hCb⟩
set_option maxRecDepth 100000 in
theorem list_trod {v : Value} {d : DataW H} {ps : List MemPlace} (hok : Value.okWide Try.prog w .any b2 23 v) (h : DataW.Trod enc Try.prog w base spare held 23 v d ps) :
    ∃ xs, Ints w v xs ∧ ∀ n ∈ xs, good64 n := by
  obtain ⟨fuel, h⟩ := h
  obtain ⟨v', xs, e, hI, hb⟩ := ints_trod Try.underlying23 Try.underlying3 cells3 h
  have : v = v' := by
    obtain ⟨a, cap, rfl, _⟩ := hI
    cases v <;> simp [Value.cells] at e
    case slice => obtain ⟨rfl, rfl, rfl⟩ := e; rfl
    all_goals simp [Value.okWide, Cell.okWide, Cell.ok, Try.underlying23] at hok
  subst this
  exact ⟨xs, hI, hb⟩
end
end Go.Proofs.Ytblaipkhmmaenaa
