import Derived.Test.YtnpebfchojalcaaW3
import Derived.Test.YtnpebfchojalcaaRows
import Derived.ProofKit
import Derived.OpenShut
import Derived.Deep.SlicePairs
namespace Go.Proofs.Ytnpebfchojalcaa
set_option maxRecDepth 100000
open Go.ChangeShapes Go.WideShapes Go.ChangeAt Go.RowKit
theorem Try.own : ownKnob Try.prog.godebug = none := by kernel_rfl
theorem Try.laidOut : laidOutB Try.prog = true := by kernel_rfl
/-- arguments read as they did, where nothing that was there has turned -/
theorem trodAll_stays {H : Type} {enc : TypeId × Value → H} {W W' : World} (hb : Below W.heap.size W W') : ∀ (ts : List TypeId) (vs : List Value) (ds : List (DataW H)) (ps : List MemPlace),
    (∀ t ∈ ts, Try.prog.readableRec t = true ∧ t < Try.prog.types.size) → DataW.TrodAll enc Try.prog W 0 (fun _ => true) true ts vs ds ps → (∀ x ∈ ps, x.block < W.heap.size) →
    DataW.TrodAll enc Try.prog W' 0 (fun b => decide (b < W.heap.size)) true ts vs ds ps
  | [], vs, ds, ps, _, h, _ => by
    obtain ⟨rfl, rfl, rfl⟩ := trodAll_nil h
    exact h
  | t :: ts, vs, ds, ps, ht, h, hlt => by
    obtain ⟨v, vs1, d, ds1, p, q, rfl, rfl, rfl, h1, h2⟩ := trodAll_cons h
    have h3 := ht t (by simp)
    exact ⟨p, q, Below.trod Try.laidOut h3.1 h3.2 h1 hb (fun x hx => hlt x (by simp [hx])), trodAll_stays hb ts vs1 ds1 q (fun t' h' => ht t' (by simp [h'])) h2 (fun x hx => hlt x (by simp [hx])), rfl⟩
theorem cells31 : Try.prog.cellsOf 31 = 2 := by kernel_rfl
theorem cells3 : Try.prog.cellsOf 3 = 1 := by kernel_rfl
section
variable {H : Type} {enc : TypeId × Value → H} {w : World} {base b2 : Nat} {spare : Nat → Bool} {held : Bool}
theorem plain_of_cell {a : Addr} {v : Value} (h : w.cell? (a.add 0) = some v) : a = ⟨a.block, a.off, none⟩ := by
  obtain ⟨b, off, spot⟩ := a
  have hspot : spot = none := by
    simpa [Addr.add] using World.cell?_spot h
  subst hspot
  rfl
set_option maxRecDepth 100000 in
/-- A list of points among the arguments. -/
theorem vecs_trod {v : Value} {d : DataW H} {ps : List MemPlace} (hok : Value.okWide Try.prog w .any b2 22 v) (h : DataW.Trod enc Try.prog w base spare held 22 v d ps) : ∃ xs, Vecs w v xs := by
  obtain ⟨fuel, h⟩ := h
  have hv : ∀ a len cap, v.cells.toList = [.slice a len cap] → v = .slice a len cap := by
    intro a len cap e
    cases v <;> simp [Value.cells] at e
    case slice => obtain ⟨rfl, rfl, rfl⟩ := e; rfl
    all_goals simp [Value.okWide, Cell.okWide, Cell.ok, Try.underlying22] at hok
  rcases Go.Deep.open_slice_pairs Try.underlying22 Try.underlying31 cells31 rfl rfl cells3 cells3 h with ⟨hc, _⟩ | ⟨a, len, cap, m, n, V0, V1, D0, D1, P0, P1, hc, _, hl, hm, hmm, _, hx⟩
  · exact ⟨[], none, 0, hv _ _ _ hc, Nat.le_refl _, by omega, .inl rfl⟩
  · have hlen : len ≤ m := by rw [hmm]; split <;> omega
    unfold maxLen at hm
    have := hv _ _ _ hc
    subst this
    obtain ⟨f, hf⟩ := Go.Deep.choose_lt (n := m) (p := fun i (x : Pt) => V0 i = .int .i64 x.1 ∧ V1 i = .int .i64 x.2) (fun i hi => by
      obtain ⟨_, _, t0, t1⟩ := hx i hi
      obtain ⟨x, e0, _, _⟩ := DataW.trod_int Try.underlying3 t0
      obtain ⟨y, e1, _, _⟩ := DataW.trod_int Try.underlying3 t1
      simp only [List.cons.injEq, and_true] at e0 e1
      exact ⟨(x, y), e0, e1⟩)
    refine ⟨(List.range len).map f, some a, cap, by simp, by simpa using hl, by omega, ?_⟩
    by_cases h0 : len = 0
    · subst h0; exact .inl rfl
    · have e := plain_of_cell (show w.cell? (a.add 0) = some (V0 0) by simpa using (hx 0 (by omega)).1)
      refine .inr ⟨a.block, a.off, by rw [← e], fun k p hk => ?_⟩
      have hi : k < len := by
        have := (List.getElem?_eq_some_iff.1 hk).1
        simpa using this
      simp [hi] at hk
      subst hk
      obtain ⟨c0, c1, _, _⟩ := hx k (by omega)
      rw [e, Go.WideShapes.add_plain] at c0 c1
      obtain ⟨g0, g1⟩ := hf k (by omega)
      rw [← g0, ← g1]
      exact ⟨c0, by simpa [Nat.add_assoc] using c1⟩
set_option maxRecDepth 100000 in
/-- A vector among the arguments. -/
theorem vec_trod {v : Value} {d : DataW H} {ps : List MemPlace} (hok : Value.okWide Try.prog w .any b2 31 v) (h : DataW.Trod enc Try.prog w base spare held 31 v d ps) : ∃ x y, v = vecV x y := by
  simp only [Value.okWide, Try.underlying31] at hok
  obtain ⟨cs, rfl, hsz, _⟩ := hok
  obtain ⟨fuel, h⟩ := h
  obtain ⟨y0, y1, n, _, hl, h0, h1⟩ := trod_struct2 Try.underlying31 h
  rw [cells3] at h0 h1
  obtain ⟨x, e0, _, _⟩ := DataW.trod_int Try.underlying3 h0
  obtain ⟨y, e1, _, _⟩ := DataW.trod_int Try.underlying3 h1
  have hlen : cs.toList.length = 2 := by
    have : (Value.agg cs).cells.toList.length = 2 := by rw [hl, cells31]
    exact this
  change (cs.toList.drop 0).take 1 = [.int .i64 x] at e0
  change (cs.toList.drop 1).take 1 = [.int .i64 y] at e1
  refine ⟨x, y, ?_⟩
  have hcs : cs = #[.int .i64 x, .int .i64 y] := by
    apply Array.ext'
    match hcs : cs.toList, hlen with
    | [x0, x1], _ =>
      rw [hcs] at e0 e1
      simp at e0 e1
      rw [e0, e1]
  rw [hcs]
end
end Go.Proofs.Ytnpebfchojalcaa
