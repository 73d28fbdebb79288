import Derived.Test.YtbcngojiikdigaaGreatBase
import Derived.Test.YtbcngojiikdigaaGreatRows
import Derived.Test.YtbcngojiikdigaaGreatChecked
import Derived.ProofKit
import Derived.Deep.Matrix
import Derived.OpenShut
namespace Go.Proofs.YtbcngojiikdigaaGreat
set_option maxRecDepth 100000
open Go.ChangeShapes Go.WideShapes Go.ChangeAt Go.RowKit
theorem Tryz.own : ownKnob Tryz.prog.godebug = none := by kernel_rfl
theorem Tryz.laidOut : laidOutB Tryz.prog = true := by kernel_rfl
/-- arguments read as they did, where nothing that was there has turned -/
theorem trodAll_stays {H : Type} {enc : TypeId × Value → H} {W W' : World} (hb : Below W.heap.size W W') : ∀ (ts : List TypeId) (vs : List Value) (ds : List (DataW H)) (ps : List MemPlace),
    (∀ t ∈ ts, Tryz.prog.readableRec t = true ∧ t < Tryz.prog.types.size) → DataW.TrodAll enc Tryz.prog W 0 (fun _ => true) true ts vs ds ps → (∀ x ∈ ps, x.block < W.heap.size) →
    DataW.TrodAll enc Tryz.prog W' 0 (fun b => decide (b < W.heap.size)) true ts vs ds ps
  | [], vs, ds, ps, _, h, _ => by
    obtain ⟨rfl, rfl, rfl⟩ := trodAll_nil h
    exact h
  | t :: ts, vs, ds, ps, ht, h, hlt => by
    obtain ⟨v, vs1, d, ds1, p, q, rfl, rfl, rfl, h1, h2⟩ := trodAll_cons h
    have h3 := ht t (by simp)
    exact ⟨p, q, Below.trod Tryz.laidOut h3.1 h3.2 h1 hb (fun x hx => hlt x (by simp [hx])), trodAll_stays hb ts vs1 ds1 q (fun t' h' => ht t' (by simp [h'])) h2 (fun x hx => hlt x (by simp [hx])), rfl⟩
theorem cells3 : Tryz.prog.cellsOf 3 = 1 := by kernel_rfl
theorem cells23 : Tryz.prog.cellsOf 23 = 1 := by kernel_rfl
section
variable {H : Type} {enc : TypeId × Value → H} {P : Program} {w : World} {base : Nat} {spare : Nat → Bool} {held : Bool}
theorem plain_of_cell {a : Addr} {v : Value} (h : w.cell? (a.add 0) = some v) : a = ⟨a.block, a.off, none⟩ := by
  obtain ⟨b, off, spot⟩ := a
  have hspot : spot = none := by
    simpa [Addr.add] using World.cell?_spot h
  subst hspot
  rfl
theorem row_of_cells {a : Addr} {vs : List Value} (h : ∀ i v, vs[i]? = some v → w.cell? (a.add i) = some v) : Row w (some a) vs := by
  by_cases h0 : vs = []
  · exact .inl h0
  · obtain ⟨v, hv⟩ := getElem?_len (List.length_pos_iff.2 h0)
    have e := plain_of_cell (h 0 v hv)
    refine .inr ⟨a.block, a.off, by rw [← e], fun k x hk => ?_⟩
    have := h k x hk
    rw [e] at this
    rw [← Go.WideShapes.add_plain]
    exact this
def good64 (n : Int) : Prop := -9223372036854775808 ≤ n ∧ n ≤ 9223372036854775807
theorem ints_trod {t e : TypeId} {fuel : Nat} {cs : List Value} {x : DataW H × List MemPlace} (ht : P.underlying t = some (.slice e)) (he : P.underlying e = some (.int .i64)) (hc : P.cellsOf e = 1)
    (h : DataW.trod enc P w base spare held fuel t cs = some x) : ∃ v xs, cs = [v] ∧ Ints w v xs ∧ ∀ n ∈ xs, good64 n := by
  rcases open_ints ht he hc h with ⟨rfl, _⟩ | ⟨a, len, cap, zs, rfl, _, hl, hm, hz, _, hcell, hwf⟩
  · exact ⟨_, [], rfl, ⟨none, 0, rfl, Nat.le_refl _, by omega, .inl rfl⟩, by simp⟩
  · have hlen : len ≤ zs.length := by rw [hz]; split <;> omega
    have hn : (zs.take len).length = len := by simp; omega
    unfold maxLen at hm
    refine ⟨_, zs.take len, rfl, ⟨some a, cap, by rw [hn], by omega, by omega, row_of_cells fun i v hv => ?_⟩, fun n hn2 => bounds_i64 (hwf n (List.mem_of_mem_take hn2))⟩
    have hi : i < len := by have := lt_len hv; simp at this; omega
    rw [hcell i (by omega)]
    simp [hi, show i < zs.length by omega] at hv
    rw [← hv]
    simp [List.getD, show i < zs.length by omega]
theorem rows_trod {t e q : TypeId} {fuel : Nat} {cs : List Value} {x : DataW H × List MemPlace} (ht : P.underlying t = some (.slice e)) (he : P.underlying e = some (.slice q)) (hq : P.underlying q = some (.int .i64)) (ce : P.cellsOf e = 1) (cq : P.cellsOf q = 1)
    (h : DataW.trod enc P w base spare held fuel t cs = some x) : ∃ v xs, cs = [v] ∧ Rows2 w v xs ∧ ∀ r ∈ xs, ∀ n ∈ r, good64 n := by
  rcases Go.Deep.open_slice1 ht ce h with ⟨rfl, _⟩ | ⟨a, len, cap, m, n, V, D, Pl, rfl, _, hl, hm, hmm, _, hx⟩
  · exact ⟨_, [], rfl, ⟨none, 0, [], rfl, Nat.le_refl _, by omega, .inl rfl, rfl, by simp⟩, by simp⟩
  · have hlen : len ≤ m := by rw [hmm]; split <;> omega
    unfold maxLen at hm
    obtain ⟨f, hf⟩ := Go.Deep.choose_lt (n := m) (p := fun i xs => Ints w (V i) xs ∧ ∀ n ∈ xs, good64 n) (fun i hi => by
      obtain ⟨v, xs, e1, h1, h2⟩ := ints_trod he hq cq (hx i hi).2
      simp only [List.cons.injEq, and_true] at e1
      subst e1
      exact ⟨xs, h1, h2⟩)
    refine ⟨_, (List.range len).map f, rfl, ⟨some a, cap, (List.range len).map V, by simp, by simpa using hl, by omega, row_of_cells fun i v hv => ?_, by simp, fun k u y hu hy => ?_⟩, fun r hr => ?_⟩
    · have hi : i < len := by have := lt_len hv; simpa using this
      simp [hi] at hv
      rw [(hx i (by omega)).1, hv]
    · have hi : k < len := by have := lt_len hu; simpa using this
      simp [hi] at hu hy
      subst hu hy
      exact (hf k (by omega)).1
    · simp only [List.mem_map, List.mem_range] at hr
      obtain ⟨i, hi, rfl⟩ := hr
      exact (hf i (by omega)).2
end
theorem ints_arg {H : Type} {enc : TypeId × Value → H} {w : World} {base b2 : Nat} {spare : Nat → Bool} {held : Bool} {v : Value} {d : DataW H} {ps : List MemPlace} (hok : Value.okWide Tryz.prog w .any b2 23 v) (h : DataW.Trod enc Tryz.prog w base spare held 23 v d ps) : ∃ xs, Ints w v xs := by
  obtain ⟨fuel, h⟩ := h
  obtain ⟨u, xs, e, hi, _⟩ := ints_trod Tryz.underlying23 Tryz.underlying3 cells3 h
  refine ⟨xs, ?_⟩
  have hu := hi
  obtain ⟨a, cap, rfl, _⟩ := hi
  cases v <;> simp [Value.cells] at e
  case slice => obtain ⟨rfl, rfl, rfl⟩ := e; exact hu
  all_goals simp [Value.okWide, Cell.okWide, Cell.ok, Tryz.underlying23] at hok
theorem rows_arg {H : Type} {enc : TypeId × Value → H} {w : World} {base b2 : Nat} {spare : Nat → Bool} {held : Bool} {v : Value} {d : DataW H} {ps : List MemPlace} (hok : Value.okWide Tryz.prog w .any b2 22 v) (h : DataW.Trod enc Tryz.prog w base spare held 22 v d ps) : ∃ xs, Rows2 w v xs := by
  obtain ⟨fuel, h⟩ := h
  obtain ⟨u, xs, e, hi, _⟩ := rows_trod Tryz.underlying22 Tryz.underlying23 Tryz.underlying3 cells23 cells3 h
  refine ⟨xs, ?_⟩
  have hu := hi
  obtain ⟨a, cap, vs, rfl, _⟩ := hi
  cases v <;> simp [Value.cells] at e
  case slice => obtain ⟨rfl, rfl, rfl⟩ := e; exact hu
  all_goals simp [Value.okWide, Cell.okWide, Cell.ok, Tryz.underlying22] at hok
theorem trodAll_six {H : Type} {enc : TypeId × Value → H} {w : World} {base : Nat} {spare : Nat → Bool} {held : Bool} {t t' t'' t3 t4 t5 : TypeId} {args : Array Value} {ds : List (DataW H)} {ps : List MemPlace} (h : DataW.TrodAll enc Tryz.prog w base spare held [t, t', t'', t3, t4, t5] args.toList ds ps) :
    ∃ v v' v'' v3 v4 v5 d d' d'' d3 d4 d5 p p' p'' p3 p4 p5, args = #[v, v', v'', v3, v4, v5] ∧ ds = [d, d', d'', d3, d4, d5] ∧ ps = p ++ p' ++ p'' ++ p3 ++ p4 ++ p5 ∧ DataW.Trod enc Tryz.prog w base spare held t v d p ∧ DataW.Trod enc Tryz.prog w base spare held t' v' d' p' ∧ DataW.Trod enc Tryz.prog w base spare held t'' v'' d'' p'' ∧ DataW.Trod enc Tryz.prog w base spare held t3 v3 d3 p3 ∧ DataW.Trod enc Tryz.prog w base spare held t4 v4 d4 p4 ∧ DataW.Trod enc Tryz.prog w base spare held t5 v5 d5 p5 := by
  obtain ⟨v, vs, d, ds', p, q, hargs, rfl, rfl, hd, hrest⟩ := trodAll_cons h
  obtain ⟨v', vs', d', ds'', p', q', rfl, rfl, rfl, hd', hrest'⟩ := trodAll_cons hrest
  obtain ⟨v'', vs'', d'', ds''', p'', q'', rfl, rfl, rfl, hd'', hrest''⟩ := trodAll_cons hrest'
  obtain ⟨v3, vs3, d3, ds3, p3, q3, rfl, rfl, rfl, hd3, hrest3⟩ := trodAll_cons hrest''
  obtain ⟨v4, vs4, d4, ds4, p4, q4, rfl, rfl, rfl, hd4, hrest4⟩ := trodAll_cons hrest3
  obtain ⟨v5, vs5, d5, ds5, p5, q5, rfl, rfl, rfl, hd5, hrest5⟩ := trodAll_cons hrest4
  obtain ⟨rfl, rfl, rfl⟩ := trodAll_nil hrest5
  exact ⟨v, v', v'', v3, v4, v5, d, d', d'', d3, d4, d5, p, p', p'', p3, p4, p5, by cases args; simp_all, rfl, by simp, hd, hd', hd'', hd3, hd4, hd5⟩
theorem wf_u16 {x : Int} (h : (Lit.int IntKind.u16 x).wf = true) : 0 ≤ x ∧ x ≤ 65535 := by
  simp only [Lit.wf, Bool.and_eq_true, decide_eq_true_eq] at h
  have e1 : IntKind.u16.min = 0 := by decide
  have e2 : IntKind.u16.max = 65535 := by decide
  rw [e1, e2] at h
  omega
end Go.Proofs.YtbcngojiikdigaaGreat
