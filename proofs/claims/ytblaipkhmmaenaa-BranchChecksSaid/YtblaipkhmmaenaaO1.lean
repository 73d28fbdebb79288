import Derived.Test.YtblaipkhmmaenaaBase
import Derived.ProofKit
import Derived.Deep.Matrix
import Derived.OpenShut
namespace Go.Proofs.Ytblaipkhmmaenaa
open Go.ChangeShapes Go.WideShapes Go.ChangeAt Go.RowKit
section
variable {H : Type} {enc : TypeId × Value → H} {P : Program} {w : World} {base : Nat} {spare : Nat → Bool} {held : Bool}
theorem plain_of_cell {a : Addr} {v : Value} (h : w.cell? (a.add 0) = some v) : a = ⟨a.block, a.off, none⟩ := by
  obtain ⟨b, off, spot⟩ := a
  have hspot : spot = none := by
    simpa [Addr.add] using World.cell?_spot h
  subst hspot
  rfl
theorem row_of_cells {a : Addr} {vs : List Value} (h : ∀ i v, vs[i]? = some v → w.cell? (a.add i) = some v) : Row w (some a) vs := by
  by_cases h0 : vs = []
  · exact .inl h0
  · obtain ⟨v, hv⟩ := getElem?_len (List.length_pos_iff.2 h0)
    have e := plain_of_cell (h 0 v hv)
    refine .inr ⟨a.block, a.off, by rw [← e], fun k x hk => ?_⟩
    have := h k x hk
    rw [e] at this
    rw [← Go.WideShapes.add_plain]
    exact this
def good64 (n : Int) : Prop := -9223372036854775808 ≤ n ∧ n ≤ 9223372036854775807
theorem ints_trod {t e : TypeId} {fuel : Nat} {cs : List Value} {x : DataW H × List MemPlace} (ht : P.underlying t = some (.slice e)) (he : P.underlying e = some (.int .i64)) (hc : P.cellsOf e = 1)
    (h : DataW.trod enc P w base spare held fuel t cs = some x) : ∃ v xs, cs = [v] ∧ Ints w v xs ∧ ∀ n ∈ xs, good64 n := by
  rcases open_ints ht he hc h with ⟨rfl, _⟩ | ⟨a, len, cap, zs, rfl, _, hl, hm, hz, _, hcell, hwf⟩
  · exact ⟨_, [], rfl, ⟨none, 0, rfl, Nat.le_refl _, by omega, .inl rfl⟩, by simp⟩
  · have hlen : len ≤ zs.length := by rw [hz]; split <;> omega
    have hn : (zs.take len).length = len := by simp; omega
    unfold maxLen at hm
    refine ⟨_, zs.take len, rfl, ⟨some a, cap, by rw [hn], by omega, by omega, row_of_cells fun i v hv => ?_⟩, fun n hn2 => bounds_i64 (hwf n (List.mem_of_mem_take hn2))⟩
    have hi : i < len := by have := lt_len hv; simp at this; omega
    rw [hcell i (by omega)]
    simp [hi, show i < zs.length by omega] at hv
    rw [← hv]
    simp [List.getD, show i < zs.length by omega]
theorem rows_trod {t e q : TypeId} {fuel : Nat} {cs : List Value} {x : DataW H × List MemPlace} (ht : P.underlying t = some (.slice e)) (he : P.underlying e = some (.slice q)) (hq : P.underlying q = some (.int .i64)) (ce : P.cellsOf e = 1) (cq : P.cellsOf q = 1)
    (h : DataW.trod enc P w base spare held fuel t cs = some x) : ∃ v xs, cs = [v] ∧ Rows2 w v xs ∧ ∀ r ∈ xs, ∀ n ∈ r, good64 n := by
  rcases Go.Deep.open_slice1 ht ce h with ⟨rfl, _⟩ | ⟨a, len, cap, m, n, V, D, Pl, rfl, _, hl, hm, hmm, _, hx⟩
  · exact ⟨_, [], rfl, ⟨none, 0, [], rfl, Nat.le_refl _, by omega, .inl rfl, rfl, by simp⟩, by simp⟩
  · have hlen : len ≤ m := by rw [hmm]; split <;> omega
    unfold maxLen at hm
    obtain ⟨f, hf⟩ := Go.Deep.choose_lt (n := m) (p := fun i xs => Ints w (V i) xs ∧ ∀ n ∈ xs, good64 n) (fun i hi => by
      obtain ⟨v, xs, e1, h1, h2⟩ := ints_trod he hq cq (hx i hi).2
      simp only [List.cons.injEq, and_true] at e1
      subst e1
      exact ⟨xs, h1, h2⟩)
    refine ⟨_, (List.range len).map f, rfl, ⟨some a, cap, (List.range len).map V, by simp, by simpa using hl, by omega, row_of_cells fun i v hv => ?_, by simp, fun k u y hu hy => ?_⟩, fun r hr => ?_⟩
    · have hi : i < len := by have := lt_len hv; simpa using this
      simp [hi] at hv
      rw [(hx i (by omega)).1, hv]
    · have hi : k < len := by have := lt_len hu; simpa using this
      simp [hi] at hu hy
      subst hu hy
      exact (hf k (by omega)).1
    · simp only [List.mem_map, List.mem_range] at hr
      obtain ⟨i, hi, rfl⟩ := hr
      exact (hf i (by omega)).2
end
end Go.Proofs.Ytblaipkhmmaenaa
