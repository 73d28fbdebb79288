import Derived.Test.YtnpebfchojalcaaV3
namespace Go.Proofs.Ytnpebfchojalcaa
open Go.RowKit Go.Shelf
attribute [local go_sem] Oper.semAt_some
theorem Rem_bound (a b : Int) (hb : b ≠ 0) : (a.tmod b).natAbs < b.natAbs := by
  rw [Int.natAbs_tmod]
  exact Nat.mod_lt _ (by omega)
theorem gcd_tmod (c d : Int) : Int.gcd d (c.tmod d) = Int.gcd c d := by
  unfold Int.gcd
  rw [Int.natAbs_tmod, Nat.gcd_comm c.natAbs d.natAbs, Nat.gcd_rec d.natAbs c.natAbs, Nat.gcd_comm]
def sideK (ps : List Pt) (x y : Int) (k : Nat) : Int := crossZ (stepP ps k).1 (stepP ps k).2 (x - (fromP ps k).1) (y - (fromP ps k).2)
def placeK (ps : List Pt) (x y : Int) : Nat → Int
  | 0 => 1
  | k + 1 => min (placeK ps x y k) (sgnZ (sideK ps x y k) 0)
def placeZ (ps : List Pt) (x y : Int) : Int := placeK ps x y ps.length
theorem sgnZ_bd (a b : Int) : -1 ≤ sgnZ a b ∧ sgnZ a b ≤ 1 := by unfold sgnZ; split <;> (try split) <;> omega
theorem placeK_bd (ps : List Pt) (x y : Int) : ∀ k, -1 ≤ placeK ps x y k ∧ placeK ps x y k ≤ 1 := by
  intro k
  induction k with
  | zero => simp [placeK]
  | succ k ih =>
    have := sgnZ_bd (sideK ps x y k) 0
    simp only [placeK]
    omega
theorem body_end2 {w W2 W3 : World} {t t2 : TypeId} {s2 g : Nat} {o x : Value} {us : List Value} (hE : Ext w W2) (hE3 : Ext W2 W3) (hM : VRow W2 g t [o]) (hU : VRow W2 w.heap.size t2 us) (hg : g = w.heap.size + 1) (h2 : w.heap.size + 2 < s2) (_ : s2 + 1 < W2.heap.size) :
    Held (fun j => (j < w.heap.size ∨ j = w.heap.size + 2) ∨ j = s2 ∨ j = s2 + 1) W2 (W3.setCell ⟨g, 0, none⟩ x) ∧ VRow (W3.setCell ⟨g, 0, none⟩ x) g t [x] ∧ VRow (W3.setCell ⟨g, 0, none⟩ x) w.heap.size t2 us ∧ Ext w (W3.setCell ⟨g, 0, none⟩ x) :=
  ⟨Held.trans (Held.ext hE3 (fun j hj => by omega)) (Held.set _ _ _ (fun j hj => by show j ≠ g; omega)), VRow.set (VRow.ext hM hE3) 0 x, VRow.setOther (VRow.ext hU hE3) (by show w.heap.size ≠ g; omega) _, Below.setCell (p := ⟨g, 0, none⟩) (Ext.trans hE hE3) (by show w.heap.size ≤ g; omega) _⟩
end Go.Proofs.Ytnpebfchojalcaa
