import Derived.Test.YtnpebfchojalcaaNZ
import Derived.Test.YtnpebfchojalcaaKX
namespace Go.Proofs.Ytnpebfchojalcaa
set_option maxRecDepth 100000
open Go.RowKit Go.Shelf
attribute [local go_sem] Oper.semAt_some
/-! The reference's Good, asks, nearer and Admissible. -/
def asksZ (ps : List Pt) (A B D : Int) : Int := if blankB ps = true ∧ gridB A B D = true then 0 else 2
end Go.Proofs.Ytnpebfchojalcaa

namespace Go.Proofs.Ytnpebfchojalcaa
set_option maxRecDepth 100000
open Go.RowKit Go.Shelf
attribute [local go_sem] Oper.semAt_some
/-! The reference's Admissible; which collision is the first. -/
/-- a grid's collisions, by their signs -/
theorem coll_mem {ps : List Pt} {A B D : Int} (hb : blankB ps = true) (hg : gridOk A B D) {p : Pt} : p ∈ collL ps A B D ↔ (0 ≤ p.1 ∧ leastZ p.1 ≤ p.2) ∧ inZ A B D p ∧ hitB ps p = true := by
  unfold collL
  rw [List.mem_filter]
  constructor
  · rintro ⟨h1, h2⟩
    have h3 := nearL_mem hg h1
    have h4 := (in_near hg h3.1).2 h1
    rw [coll_hit hb h3] at h2
    exact ⟨⟨h3.1, h4.2.1⟩, h4.2.2.2, h2⟩
  · rintro ⟨⟨h1, h2⟩, h3, h4⟩
    have h5 := ((hit_iff ps p).1 h4).1
    have h6 := (in_near hg h1).1 ⟨h5.2.1, h2, h5.2.2.2, h3⟩
    exact ⟨h6, by rw [coll_hit hb (nearL_mem hg h6)]; exact h4⟩
/-- the best of the first vectors of a list that are a grid's -/
def BestI (cs : List Pt) (A B D : Int) (k : Nat) (q : Pt) : Prop :=
  (q = (0, 0) ∧ ∀ j, j < k → inB A B D (fromP cs j) = false) ∨ (q ∈ cs ∧ q ≠ (0, 0) ∧ inB A B D q = true ∧ ∀ j, j < k → inB A B D (fromP cs j) = true → ¬ witP (fromP cs j) q < 0)
end Go.Proofs.Ytnpebfchojalcaa
