import Derived.Test.YtblaipkhmmaenaaE3
import Derived.Test.YtblaipkhmmaenaaE4
namespace Go.Proofs.Ytblaipkhmmaenaa
open Go.RowKit
/-- a box: where it begins and ends -/
abbrev Bx := List Int × List Int
def Bx.cells (b : Bx) : List Value := (b.1 ++ b.2).map (.int .i64)
def okBx (b : Bx) : Prop := b.1.length = 5 ∧ b.2.length = 5 ∧ (∀ x ∈ b.1, 0 ≤ x ∧ x ≤ 7) ∧ (∀ x ∈ b.2, 0 ≤ x ∧ x ≤ 7)
/-- the boxes as they lie: the next one last -/
def stackV (st : List Bx) : List Value := st.reverse.flatMap Bx.cells
theorem stackV_cons (b : Bx) (st : List Bx) : stackV (b :: st) = stackV st ++ b.cells := by simp [stackV]
theorem cells_len {b : Bx} (h : okBx b) : b.cells.length = 10 := by simp [Bx.cells, h.1, h.2.1]
theorem stackV_length : ∀ {st : List Bx}, (∀ b ∈ st, okBx b) → (stackV st).length = st.length * 10
  | [], _ => rfl
  | b :: st, h => by
    rw [stackV_cons, List.length_append, stackV_length (fun x hx => h x (by simp [hx])), cells_len (h b (by simp)), List.length_cons]
    omega
/-- one node read: none if it is refused -/
def stepM (p : Who) (gs : List (List Int × Int)) (st : List Bx) (nd : Nd) : Option (List Bx) :=
  match st with
  | [] => none
  | b :: rest =>
    if nd.v < 0 then (if goodB p nd.y nd.d b.1 b.2 gs = true then some rest else none)
    else if (p.C.length : Int) ≤ nd.v then none
    else if divB b.1 b.2 nd.v.toNat nd.at' = true then some ((b.1, b.2.set nd.v.toNat nd.at') :: (b.1.set nd.v.toNat (nd.at' + 1), b.2) :: rest) else none
structure OpenI (w0 : World) (R : Nat) (a b c u g : Value) (gs : List (List Int × Int)) (W : World) (st : List Bx) : Prop where
  ext : Ext w0 W
  goals : GoalsS w0.heap.size W g gs
  row : ∃ ob cap, VRow W R 62 [a, b, c, u, g, .slice (some ⟨ob, 0, none⟩) st.length cap] ∧ W.ownsRow w0.heap.size 58 10 (.slice (some ⟨ob, 0, none⟩) st.length cap) st.length (stackV st)
  boxes : ∀ b ∈ st, okBx b
theorem own_parts {W : World} {B ob n cap : Nat} {xs : List Value} (h : W.ownsRow B 58 10 (.slice (some ⟨ob, 0, none⟩) n cap) n xs) :
    B ≤ ob ∧ n ≤ cap ∧ cap ≤ 9223372036854775807 ∧ ∃ cur, W.heap[ob]? = some (.cells cur 58 (0, 0)) ∧ cur.toList.take (n * 10) = xs := by
  rcases h.2 with ⟨h0, _⟩ | ⟨g, cap', cur, hv, hg, hh, hn, hcap, hsz, htake⟩
  · simp at h0
  · simp only [Value.slice.injEq, Option.some.injEq, Addr.mk.injEq] at hv
    obtain ⟨⟨rfl, _⟩, _, rfl⟩ := hv
    exact ⟨hg, hn, by unfold maxLen at hcap; omega, cur, hh, htake⟩
theorem own_cell {W : World} {B ob n cap : Nat} {xs : List Value} (h : W.ownsRow B 58 10 (.slice (some ⟨ob, 0, none⟩) n cap) n xs) {k : Nat} {x : Value} (hk : xs[k]? = some x) : W.cell? ⟨ob, k, none⟩ = some x := by
  obtain ⟨_, _, _, cur, hc, ht⟩ := own_parts h
  have hlt := lt_len hk
  rw [← ht] at hk hlt
  simp only [List.length_take] at hlt
  rw [List.getElem?_take_of_lt (by omega), Array.getElem?_toList] at hk
  simp [World.cell?, hc, hk]
theorem own_ne {W : World} {B ob n cap R : Nat} {xs vs : List Value} (h : W.ownsRow B 58 10 (.slice (some ⟨ob, 0, none⟩) n cap) n xs) (hr : VRow W R 62 vs) : ob ≠ R := by
  intro e
  obtain ⟨_, _, _, cur, hc, _⟩ := own_parts h
  have hr2 : W.heap[R]? = some (.cells vs.toArray 62 (0, 0)) := hr
  rw [← e, hc] at hr2
  simp at hr2
theorem goalsS_off {n0 : Nat} {W W' : World} {R ob n cap : Nat} {g : Value} {gs : List (List Int × Int)} {xs vs : List Value} (h : GoalsS n0 W g gs) (hr : VRow W R 62 vs) (hR : n0 ≤ R) (hn : n0 ≤ W.heap.size)
    (ho : W.ownsRow n0 58 10 (.slice (some ⟨ob, 0, none⟩) n cap) n xs) (hh : Held (fun k => k < W.heap.size ∧ k ≠ R ∧ k ≠ ob) W W') : GoalsS n0 W' g gs := by
  obtain ⟨hb, _, _, cur, hc, _⟩ := own_parts ho
  refine h.held (hh.mono (fun k hk => ?_))
  rcases hk with hk | ⟨cs, t, ht, h58, h62⟩
  · omega
  · refine ⟨(Array.getElem?_eq_some_iff.1 ht).1, fun e => ?_, fun e => ?_⟩
    · subst e
      have hr2 : W.heap[k]? = some (.cells vs.toArray 62 (0, 0)) := hr
      rw [hr2] at ht
      simp only [Option.some.injEq, Obj.cells.injEq] at ht
      exact h62 ht.2.1.symm
    · subst e
      rw [hc] at ht
      simp only [Option.some.injEq, Obj.cells.injEq] at ht
      exact h58 ht.2.1.symm
theorem ext_off {w0 W W' : World} {R ob : Nat} (he : Ext w0 W) (hR : w0.heap.size ≤ R) (hb : w0.heap.size ≤ ob) (hh : Held (fun k => k < W.heap.size ∧ k ≠ R ∧ k ≠ ob) W W') : Ext w0 W' :=
  ((Held.of_below he).trans (hh.mono (fun k hk => ⟨by have := he.size; omega, by omega, by omega⟩))).below
end Go.Proofs.Ytblaipkhmmaenaa
