import Derived.Test.YtbcngojiikdigaaGreatKit
import Derived.Test.YtbcngojiikdigaaGreatV1b
import Derived.Shelf.RegionOpen
import Derived.Maps.AppendAt
namespace Go.Proofs.YtbcngojiikdigaaGreat
set_option maxRecDepth 100000
open Go.RowKit Go.Shelf
theorem results_cell1 {fn : Func} {p : Tmp} {ty : TypeId} (h : fn.results = #[.cell p ty]) (tmps : Array Value) (P : Program) (w : World) :
    (results fn tmps).run P w = ((asAddr (tmps.getD p undef)).run P w).andThen fun a w₁ => (loadVar ty a).run P w₁ := by
  simp only [results, h]
  simp only [Array.mapM_eq_foldlM, List.foldlM_toArray']
  simp [Sem.run_bind, Result.andThen]
/-- A vector's value. -/
theorem made_one (z : Value) (n : Nat) : madeCells #[z] n = Array.replicate n z := by
  apply Array.ext
  · simp [madeCells]
  · intro i h1 h2
    simp [madeCells, Nat.mod_one]
theorem vrow_rep (w : World) (z : Value) (n : Nat) (t : TypeId) : VRow (w.alloc (.cells (Array.replicate n z) t)) w.heap.size t (List.replicate n z) := by
  have h := vrow_alloc w (List.replicate n z) t
  rw [List.toArray_replicate] at h
  exact h
theorem list_of {α : Type} {vs ws : List α} (hl : vs.length = ws.length) (h : ∀ (i : Nat) (u : α), vs[i]? = some u → ws[i]? = some u) : vs = ws := by
  apply List.ext_getElem?
  intro i
  by_cases hi : i < vs.length
  · have e := List.getElem?_eq_getElem hi
    rw [e, h i _ e]
  · rw [List.getElem?_eq_none (by omega), List.getElem?_eq_none (by omega)]
/-- an append to a row of one's own, as the operation behind all the others of its region -/
theorem ext_drewN {w w1 : World} (h : Ext w w1) (n : Nat) : Ext w (w1.drewN n) := ⟨h.os, h.tape, h.output, h.size, h.block⟩
theorem ownsRow_ext {A B : World} {base : Nat} {e : TypeId} {n sz : Nat} {v : Value} {xs : List Value} (h : A.ownsRow base e sz v n xs) (hb : Ext A B) : B.ownsRow base e sz v n xs := by
  refine ⟨h.1, ?_⟩
  rcases h.2 with h | ⟨g, cap, cur, hv, hg, hc, r⟩
  · exact .inl h
  · exact .inr ⟨g, cap, cur, hv, hg, (hb.block g (Array.getElem?_eq_some_iff.1 hc).1).trans hc, r⟩
theorem own_block {A : World} {base : Nat} {e : TypeId} {n sz j : Nat} {v : Value} {xs : List Value} (h : A.ownsRow base e sz v n xs) (hj : v.ownBlock = some j) : base ≤ j := by
  rcases h.2 with ⟨h, _⟩ | ⟨g, cap, cur, hv, hg, _⟩
  · subst h; cases hj
  · subst hv; simp [Value.ownBlock] at hj; omega
theorem own_lt {w : World} {base : Nat} {e : TypeId} {sz n g : Nat} {v : Value} {xs : List Value} (h : w.ownsRow base e sz v n xs) (hg : v.ownBlock = some g) : g < w.heap.size := by
  rcases h.2 with ⟨h, _⟩ | ⟨g', cap, cur, hv, hb, hc, _⟩
  · subst h; cases hg
  · subst hv; simp [Value.ownBlock] at hg; subst hg; exact (Array.getElem?_eq_some_iff.1 hc).1
theorem own_slice {w : World} {base : Nat} {e : TypeId} {sz n : Nat} {v : Value} {xs : List Value} (h : w.ownsRow base e sz v n xs) : ∃ a cap, v = .slice a n cap := by
  rcases h.2 with ⟨h, h0⟩ | ⟨g', cap, cur, hv, _⟩
  · exact ⟨none, 0, by rw [h, h0]⟩
  · exact ⟨_, _, hv⟩
theorem own_below {w w' : World} {base : Nat} {e : TypeId} {sz n : Nat} {v : Value} {xs : List Value} (h : w.ownsRow base e sz v n xs) (hg : w.grownBy w' v.ownBlock) (hb : base ≤ w.heap.size) : Below base w w' :=
  ⟨hg.os, hg.tape, hg.output, hg.size, fun i hi => hg.block i (by omega) (fun e => by have := own_block h e.symm; omega)⟩
/-- what a choice's step leads to -/
theorem results_tmp4 {fn : Func} {t u v x : Tmp} (h : fn.results = #[.tmp t, .tmp u, .tmp v, .tmp x]) (tmps : Array Value) (P : Program) (w : World) :
    (results fn tmps).run P w = .ok (.tuple #[tmps.getD t undef, tmps.getD u undef, tmps.getD v undef, tmps.getD x undef]) w := by
  simp only [results, h]
  simp only [Array.mapM_eq_foldlM, List.foldlM_toArray']
  simp
end Go.Proofs.YtbcngojiikdigaaGreat
