import Derived.Test.YtbcngojiikdigaaGreatL14
namespace Go.Proofs.YtbcngojiikdigaaGreat
set_option maxRecDepth 100000
open Go.RowKit Go.Shelf
/-- the entries of rows -/
def entF (xs : List (List Int)) : MF := fun i j => unv ((xs.getD i []).getD j 0)
theorem ints_vec {w : World} {u : Value} {r : List Int} {n : Nat} (h : Ints w u r) (hl : r.length = n) (hn : 1 ≤ n) : VecAt w u n (fun j => unv (r.getD j 0)) := by
  subst hl
  obtain ⟨a, cap, rfl, h1, h2, h3⟩ := h.at
  obtain ⟨x, hx⟩ := getElem?_len (show 0 < r.length by omega)
  obtain ⟨b, o, rfl, _⟩ := h3 0 x hx
  refine ⟨b, o, cap, rfl, h1, h2, fun i hi => ?_⟩
  obtain ⟨y, hy⟩ := getElem?_len hi
  obtain ⟨b2, o2, e2, c2⟩ := h3 i y hy
  simp only [Option.some.injEq, Addr.mk.injEq, and_true] at e2
  obtain ⟨rfl, rfl⟩ := e2
  rw [c2, iv, val_unv, List.getD_eq_getElem?_getD, hy]
  rfl
theorem rows_mat {w : World} {v : Value} {xs : List (List Int)} (h : Rows2 w v xs) (hr : ∀ r ∈ xs, r.length = xs.length) (hn : 1 ≤ xs.length) : MatAt w v xs.length (entF xs) := by
  obtain ⟨a, cap, rfl, h1, h2, h3⟩ := h.at
  obtain ⟨x, hx⟩ := getElem?_len (show 0 < xs.length by omega)
  obtain ⟨b, o, u0, rfl, _⟩ := h3 0 x hx
  refine ⟨b, o, cap, rfl, h1, h2, fun i hi => ?_⟩
  obtain ⟨y, hy⟩ := getElem?_len hi
  obtain ⟨b2, o2, u, e2, c2, hu⟩ := h3 i y hy
  simp only [Option.some.injEq, Addr.mk.injEq, and_true] at e2
  obtain ⟨rfl, rfl⟩ := e2
  refine ⟨u, c2, ?_⟩
  have hg : xs.getD i [] = y := by rw [List.getD_eq_getElem?_getD, hy]; rfl
  have := ints_vec hu (hr y (List.mem_of_getElem? hy)) hn
  unfold entF
  rw [hg]
  exact this
theorem matB_ok {xs : List (List Int)} (h : matB xs = true) : (1 ≤ xs.length ∧ xs.length ≤ 6) ∧ (∀ r ∈ xs, r.length = xs.length) ∧ bdF 1000 xs.length (entF xs) := by
  simp only [matB, Bool.and_eq_true, decide_eq_true_eq, Bool.not_eq_true'] at h
  obtain ⟨⟨h1, h2⟩, h3⟩ := h
  have hr : ∀ r ∈ xs, badR xs.length r = false := fun r hm => by
    cases hb : badR xs.length r with
    | false => rfl
    | true => rw [List.any_eq_true.2 ⟨r, hm, hb⟩] at h3; cases h3
  have hl : ∀ r ∈ xs, r.length = xs.length := fun r hm => by
    have := hr r hm
    simp only [badR, Bool.or_eq_false_iff, decide_eq_false_iff_not, Classical.not_not] at this
    exact this.1
  refine ⟨⟨h1, h2⟩, hl, fun i hi j hj y hy => ?_⟩
  obtain ⟨r, hri⟩ := getElem?_len hi
  have hg : xs.getD i [] = r := by rw [List.getD_eq_getElem?_getD, hri]; rfl
  have hm := List.mem_of_getElem? hri
  obtain ⟨x, hx⟩ := getElem?_len (show j < r.length by rw [hl r hm]; exact hj)
  have hg2 : r.getD j 0 = x := by rw [List.getD_eq_getElem?_getD, hx]; rfl
  have hb := hr r hm
  simp only [badR, Bool.or_eq_false_iff] at hb
  have hx2 : entB x = true := by
    cases he : entB x with
    | true => rfl
    | false => rw [List.any_eq_true.2 ⟨x, List.mem_of_getElem? hx, by simp [he]⟩] at hb; cases hb.2
  unfold entF at hy
  rw [hg, hg2] at hy
  unfold unv at hy
  split at hy
  · cases hy
  · rename_i hne
    injection hy with hy
    subst hy
    simp only [entB, Bool.or_eq_true, Bool.and_eq_true, decide_eq_true_eq] at hx2
    rcases hx2 with e | e
    · exact absurd e hne
    · exact e
end Go.Proofs.YtbcngojiikdigaaGreat
