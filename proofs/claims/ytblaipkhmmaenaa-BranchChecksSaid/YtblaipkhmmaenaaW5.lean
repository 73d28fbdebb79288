import Derived.Test.YtblaipkhmmaenaaW4
namespace Go.Proofs.Ytblaipkhmmaenaa
open Go.RowKit
def IntsF (B : Nat) (w : World) (v : Value) (xs : List Int) : Prop := ∃ g cap t, v = .slice (some ⟨g, 0, none⟩) xs.length cap ∧ B ≤ g ∧ xs.length ≤ cap ∧ cap ≤ 9223372036854775807 ∧ IRow w g t xs
theorem IntsF.ints {B : Nat} {w : World} {v : Value} {xs : List Int} (h : IntsF B w v xs) : Ints w v xs := by
  obtain ⟨g, cap, t, rfl, _, hl, hm, hr⟩ := h
  exact hr.ints hl hm
theorem set_replicate_aux {xs : List Int} {m k : Nat} {x : Int} (hm : xs.length = k) : (xs ++ List.replicate (m + 1) 0).set k x = xs ++ [x] ++ List.replicate m 0 := by
  subst hm
  rw [List.replicate_succ, List.set_append]
  simp
theorem rep_step {xs : List Int} {n k : Nat} {x : Int} (hm : xs.length = k) (hk : k < n) : (xs ++ List.replicate (n - k) 0).set k x = (xs ++ [x]) ++ List.replicate (n - (k + 1)) 0 := by
  have e : n - k = (n - (k + 1)) + 1 := by omega
  rw [e, set_replicate_aux hm]
theorem rep_get {xs : List Int} {n k : Nat} (hm : xs.length = k) (hk : k < n) : (xs ++ List.replicate (n - k) 0)[k]? = some 0 := by
  subst hm
  have e : n - xs.length = (n - (xs.length + 1)) + 1 := by omega
  rw [e, List.replicate_succ]
  simp
theorem map_take_succ {α : Type} (f : α → Int) {l : List α} {k : Nat} {x : α} (h : l[k]? = some x) : (l.take k).map f ++ [f x] = (l.take (k + 1)).map f := by
  rw [take_succ_get h]; simp
theorem irow_start (w : World) (n : Nat) (t : TypeId) : IRow (w.alloc (.cells (madeCells #[.int .i64 0] n) t)) w.heap.size t ([] ++ List.replicate (n - 0) 0) := irow_made w n t

def rowSumsZ (a : List (List Int)) (x : List Int) : List Int := a.map (fun r => wrap64 (dotZ r x))
def colSumsZ : List Int → List (List Int) → List Int → List Int
  | acc, r :: a, y :: ys => colSumsZ (addT acc y r) a ys
  | acc, _, _ => acc
theorem colSumsZ_length : ∀ (a : List (List Int)) (acc ys : List Int), (colSumsZ acc a ys).length = acc.length := by
  intro a
  induction a with
  | nil => intro acc ys; cases ys <;> rfl
  | cons r a ih => intro acc ys; cases ys with
    | nil => rfl
    | cons y ys => simp [colSumsZ, ih, addT_length]
theorem colSumsZ_step : ∀ (a : List (List Int)) (acc ys : List Int) (k : Nat) (r : List Int) (y : Int), a[k]? = some r → ys[k]? = some y →
    colSumsZ acc (a.take (k + 1)) ys = addT (colSumsZ acc (a.take k) ys) y r := by
  intro a
  induction a with
  | nil => intro acc ys k r y h; simp at h
  | cons r0 a ih =>
    intro acc ys k r y hr hy
    cases ys with
    | nil => simp at hy
    | cons y0 ys =>
      cases k with
      | zero =>
        simp at hr hy; subst hr hy
        simp [colSumsZ]
      | succ k => simpa [colSumsZ] using ih (addT acc y0 r0) ys k r y (by simpa using hr) (by simpa using hy)
def beyondZ (s l : List Int) (den : Int) : List Int := List.zipWith (fun a b => wrap64 (a - b * den)) s l
theorem zipWith_take_succ (f : Int → Int → Int) : ∀ (s l : List Int) (k : Nat) (a b : Int), s[k]? = some a → l[k]? = some b → List.zipWith f (s.take (k + 1)) l = List.zipWith f (s.take k) l ++ [f a b] := by
  intro s
  induction s with
  | nil => intro l k a b h; simp at h
  | cons x s ih =>
    intro l k a b ha hb
    cases l with
    | nil => simp at hb
    | cons y l =>
      cases k with
      | zero => simp at ha hb; subst ha hb; simp
      | succ k => simpa using ih l k a b (by simpa using ha) (by simpa using hb)
theorem wrap64_sub' (a b : Int) : wrap64 (a - wrap64 b) = wrap64 (a - b) := by unfold wrap64; omega
end Go.Proofs.Ytblaipkhmmaenaa
