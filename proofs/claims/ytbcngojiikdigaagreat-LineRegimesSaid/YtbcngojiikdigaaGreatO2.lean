import Derived.Test.YtbcngojiikdigaaGreatO1
import Derived.Test.YtbcngojiikdigaaGreatL36
namespace Go.Proofs.YtbcngojiikdigaaGreat
set_option maxRecDepth 100000
open Go.ChangeShapes Go.WideShapes Go.ChangeAt Go.RowKit
theorem nil_some (a : Addr) (n c : Nat) : NilOk (.slice (some a) n c) := fun _ _ h => by injection h with h; cases h
theorem nil_nil : NilOk (.slice none 0 0) := fun _ _ h => by injection h with _ h1 h2; exact ⟨h1.symm, h2.symm⟩
section
variable {H : Type} {enc : TypeId × Value → H} {P : Program} {w : World} {base : Nat} {spare : Nat → Bool} {held : Bool}
theorem ints_trodN {t e : TypeId} {fuel : Nat} {cs : List Value} {x : DataW H × List MemPlace} (ht : P.underlying t = some (.slice e)) (he : P.underlying e = some (.int .i64)) (hc : P.cellsOf e = 1)
    (h : DataW.trod enc P w base spare held fuel t cs = some x) : ∃ v xs, cs = [v] ∧ IntsN w v xs ∧ ∀ n ∈ xs, good64 n := by
  rcases open_ints ht he hc h with ⟨rfl, _⟩ | ⟨a, len, cap, zs, rfl, _, hl, hm, hz, _, hcell, hwf⟩
  · exact ⟨_, [], rfl, ⟨⟨none, 0, rfl, Nat.le_refl _, by omega, .inl rfl⟩, nil_nil⟩, by simp⟩
  · have hlen : len ≤ zs.length := by rw [hz]; split <;> omega
    have hn : (zs.take len).length = len := by simp; omega
    unfold maxLen at hm
    refine ⟨_, zs.take len, rfl, ⟨⟨some a, cap, by rw [hn], by omega, by omega, row_of_cells fun i v hv => ?_⟩, nil_some _ _ _⟩, fun n hn2 => bounds_i64 (hwf n (List.mem_of_mem_take hn2))⟩
    have hi : i < len := by have := lt_len hv; simp at this; omega
    rw [hcell i (by omega)]
    simp [hi, show i < zs.length by omega] at hv
    rw [← hv]
    simp [List.getD, show i < zs.length by omega]
theorem rows_trodN {t e q : TypeId} {fuel : Nat} {cs : List Value} {x : DataW H × List MemPlace} (ht : P.underlying t = some (.slice e)) (he : P.underlying e = some (.slice q)) (hq : P.underlying q = some (.int .i64)) (ce : P.cellsOf e = 1) (cq : P.cellsOf q = 1)
    (h : DataW.trod enc P w base spare held fuel t cs = some x) : ∃ v xs, cs = [v] ∧ RowsN w v xs ∧ ∀ r ∈ xs, ∀ n ∈ r, good64 n := by
  rcases Go.Deep.open_slice1 ht ce h with ⟨rfl, _⟩ | ⟨a, len, cap, m, n, V, D, Pl, rfl, _, hl, hm, hmm, _, hx⟩
  · exact ⟨_, [], rfl, ⟨none, 0, [], rfl, Nat.le_refl _, by omega, .inl rfl, rfl, by simp⟩, by simp⟩
  · have hlen : len ≤ m := by rw [hmm]; split <;> omega
    unfold maxLen at hm
    obtain ⟨f, hf⟩ := Go.Deep.choose_lt (n := m) (p := fun i xs => IntsN w (V i) xs ∧ ∀ n ∈ xs, good64 n) (fun i hi => by
      obtain ⟨v, xs, e1, h1, h2⟩ := ints_trodN he hq cq (hx i hi).2
      simp only [List.cons.injEq, and_true] at e1
      subst e1
      exact ⟨xs, h1, h2⟩)
    refine ⟨_, (List.range len).map f, rfl, ⟨some a, cap, (List.range len).map V, by simp, by simpa using hl, by omega, row_of_cells fun i v hv => ?_, by simp, fun k u y hu hy => ?_⟩, fun r hr => ?_⟩
    · have hi : i < len := by have := lt_len hv; simpa using this
      simp [hi] at hv
      rw [(hx i (by omega)).1, hv]
    · have hi : k < len := by have := lt_len hu; simpa using this
      simp [hi] at hu hy
      subst hu hy
      exact (hf k (by omega)).1
    · simp only [List.mem_map, List.mem_range] at hr
      obtain ⟨i, hi, rfl⟩ := hr
      exact (hf i (by omega)).2
end
theorem ints_argN {H : Type} {enc : TypeId × Value → H} {w : World} {base b2 : Nat} {spare : Nat → Bool} {held : Bool} {v : Value} {d : DataW H} {ps : List MemPlace} (hok : Value.okWide Tryz.prog w .any b2 23 v) (h : DataW.Trod enc Tryz.prog w base spare held 23 v d ps) : ∃ xs, IntsN w v xs := by
  obtain ⟨fuel, h⟩ := h
  obtain ⟨u, xs, e, hi, _⟩ := ints_trodN Tryz.underlying23 Tryz.underlying3 cells3 h
  refine ⟨xs, ?_⟩
  have hu := hi
  obtain ⟨⟨a, cap, rfl, _⟩, _⟩ := hi
  cases v <;> simp [Value.cells] at e
  case slice => obtain ⟨rfl, rfl, rfl⟩ := e; exact hu
  all_goals simp [Value.okWide, Cell.okWide, Cell.ok, Tryz.underlying23] at hok
theorem rows_argN {H : Type} {enc : TypeId × Value → H} {w : World} {base b2 : Nat} {spare : Nat → Bool} {held : Bool} {v : Value} {d : DataW H} {ps : List MemPlace} (hok : Value.okWide Tryz.prog w .any b2 22 v) (h : DataW.Trod enc Tryz.prog w base spare held 22 v d ps) : ∃ xs, RowsN w v xs := by
  obtain ⟨fuel, h⟩ := h
  obtain ⟨u, xs, e, hi, _⟩ := rows_trodN Tryz.underlying22 Tryz.underlying23 Tryz.underlying3 cells23 cells3 h
  refine ⟨xs, ?_⟩
  have hu := hi
  obtain ⟨a, cap, vs, rfl, _⟩ := hi
  cases v <;> simp [Value.cells] at e
  case slice => obtain ⟨rfl, rfl, rfl⟩ := e; exact hu
  all_goals simp [Value.okWide, Cell.okWide, Cell.ok, Tryz.underlying22] at hok
theorem trodAll_fourz {H : Type} {enc : TypeId × Value → H} {w : World} {base : Nat} {spare : Nat → Bool} {held : Bool} {t t' t'' t3 : TypeId} {args : Array Value} {ds : List (DataW H)} {ps : List MemPlace} (h : DataW.TrodAll enc Tryz.prog w base spare held [t, t', t'', t3] args.toList ds ps) :
    ∃ v v' v'' v3 d d' d'' d3 p p' p'' p3, args = #[v, v', v'', v3] ∧ ds = [d, d', d'', d3] ∧ ps = p ++ p' ++ p'' ++ p3 ∧ DataW.Trod enc Tryz.prog w base spare held t v d p ∧ DataW.Trod enc Tryz.prog w base spare held t' v' d' p' ∧ DataW.Trod enc Tryz.prog w base spare held t'' v'' d'' p'' ∧ DataW.Trod enc Tryz.prog w base spare held t3 v3 d3 p3 := by
  obtain ⟨v, vs, d, ds1, p, q, hargs, rfl, rfl, hd, hrest⟩ := trodAll_cons h
  obtain ⟨v', vs1, d', ds2, p', q1, rfl, rfl, rfl, hd1, hrest1⟩ := trodAll_cons hrest
  obtain ⟨v'', vs2, d'', ds3, p'', q2, rfl, rfl, rfl, hd2, hrest2⟩ := trodAll_cons hrest1
  obtain ⟨v3, vs3, d3, ds4, p3, q3, rfl, rfl, rfl, hd3, hrest3⟩ := trodAll_cons hrest2
  obtain ⟨rfl, rfl, rfl⟩ := trodAll_nil hrest3
  exact ⟨v, v', v'', v3, d, d', d'', d3, p, p', p'', p3, by cases args; simp_all, rfl, by simp, hd, hd1, hd2, hd3⟩
end Go.Proofs.YtbcngojiikdigaaGreat
