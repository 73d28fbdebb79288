import Derived.Test.YtnpebfchojalcaaR1
import Derived.Test.YtnpebfchojalcaaV11
namespace Go.Proofs.Ytnpebfchojalcaa
open Go.RowKit Go.Shelf
/-! Points in memory, and lists within 4000. -/
theorem vecs_cells {w : World} {v : Value} {ps : List Pt} (h : Vecs w v ps) (h1 : 1 ≤ ps.length) : ∃ b o cap, v = .slice (some ⟨b, o, none⟩) ps.length cap ∧ ps.length ≤ cap ∧ cap ≤ 9223372036854775807 ∧
    ∀ k, k < ps.length → w.cell? ⟨b, o + k * 2, none⟩ = some (.int .i64 (fromP ps k).1) ∧ w.cell? ⟨b, o + k * 2 + 1, none⟩ = some (.int .i64 (fromP ps k).2) := by
  obtain ⟨a, cap, hv, hl, hm, hr⟩ := h.at
  obtain ⟨p, hp⟩ := getElem?_len (show 0 < ps.length by omega)
  obtain ⟨b, o, rfl, _⟩ := hr 0 p hp
  refine ⟨b, o, cap, hv, hl, hm, fun k hk => ?_⟩
  obtain ⟨q, hq⟩ := getElem?_len hk
  obtain ⟨b', o', e, h3, h4⟩ := hr k q hq
  injection e with e
  injection e with e1 e2
  subst e1 e2
  rw [fromP_of hq]
  exact ⟨h3, h4⟩
/-- a list of points within 4000 -/
def nearF (ps : List Pt) : Prop := ∀ q ∈ ps, -4000 ≤ q.1 ∧ q.1 ≤ 4000 ∧ -4000 ≤ q.2 ∧ q.2 ≤ 4000
theorem from_nearF {ps : List Pt} (h : nearF ps) {k : Nat} (hk : k < ps.length) : -4000 ≤ (fromP ps k).1 ∧ (fromP ps k).1 ≤ 4000 ∧ -4000 ≤ (fromP ps k).2 ∧ (fromP ps k).2 ≤ 4000 := by
  obtain ⟨q, hq⟩ := getElem?_len hk
  rw [fromP_of hq]
  exact h q (List.mem_of_getElem? hq)
theorem near_L {ps : List Pt} (h : nearP ps) : nearF ps := fun q hq => by have := h q hq; omega
end Go.Proofs.Ytnpebfchojalcaa
