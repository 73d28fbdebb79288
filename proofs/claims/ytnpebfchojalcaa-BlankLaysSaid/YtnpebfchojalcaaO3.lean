import Derived.Test.YtnpebfchojalcaaO2
namespace Go.Proofs.Ytnpebfchojalcaa
set_option maxRecDepth 100000
open Go.ChangeShapes Go.WideShapes Go.ChangeAt Go.RowKit
section
variable {H : Type} {enc : TypeId × Value → H} {w : World} {base b2 : Nat} {spare : Nat → Bool} {held : Bool}
/-- A grid among the arguments. -/
theorem grid_trod {v : Value} {d : DataW H} {ps : List MemPlace} (hok : Value.okWide Try.prog w .any b2 24 v) (h : DataW.Trod enc Try.prog w base spare held 24 v d ps) : ∃ A B D : Int, v = .agg #[.int .i64 A, .int .i64 B, .int .i64 D] := by
  simp only [Value.okWide, Try.underlying24] at hok
  obtain ⟨cs, rfl, hsz, _⟩ := hok
  obtain ⟨fuel, h⟩ := h
  obtain ⟨xs, k, _, _, hcl, hxl, hff⟩ := DataW.trod_struct Try.underlying24 h
  have hlen : cs.toList.length = 3 := by
    have e : Try.prog.cellsOf 24 = 3 := by kernel_rfl
    have : (Value.agg cs).cells.toList.length = 3 := by rw [hcl, e]
    exact this
  have g0 : DataW.trod enc Try.prog w base spare held k 3 (((Value.agg cs).cells.toList.drop 0).take (Try.prog.cellsOf 3)) = xs[0]? := hff 0 _ rfl
  have g1 : DataW.trod enc Try.prog w base spare held k 3 (((Value.agg cs).cells.toList.drop 1).take (Try.prog.cellsOf 3)) = xs[1]? := hff 1 _ rfl
  have g2 : DataW.trod enc Try.prog w base spare held k 3 (((Value.agg cs).cells.toList.drop 2).take (Try.prog.cellsOf 3)) = xs[2]? := hff 2 _ rfl
  rw [cells3] at g0 g1 g2
  match xs, hxl with
  | [y0, y1, y2], _ =>
    obtain ⟨x0, e0, _, _⟩ := DataW.trod_int Try.underlying3 g0
    obtain ⟨x1, e1, _, _⟩ := DataW.trod_int Try.underlying3 g1
    obtain ⟨x2, e2, _, _⟩ := DataW.trod_int Try.underlying3 g2
    change (cs.toList.drop 0).take 1 = [.int .i64 x0] at e0
    change (cs.toList.drop 1).take 1 = [.int .i64 x1] at e1
    change (cs.toList.drop 2).take 1 = [.int .i64 x2] at e2
    refine ⟨x0, x1, x2, ?_⟩
    have hcs : cs = #[.int .i64 x0, .int .i64 x1, .int .i64 x2] := by
      apply Array.ext'
      match hcs : cs.toList, hlen with
      | [c0, c1, c2], _ =>
        rw [hcs] at e0 e1 e2
        simp at e0 e1 e2
        rw [e0, e1, e2]
    rw [hcs]
end
end Go.Proofs.Ytnpebfchojalcaa
