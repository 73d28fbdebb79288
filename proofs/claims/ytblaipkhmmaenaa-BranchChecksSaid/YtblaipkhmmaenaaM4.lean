import Derived.Test.YtblaipkhmmaenaaL3
namespace Go.Proofs.Ytblaipkhmmaenaa
open Go.RowKit
abbrev shiftA (a : Option Addr) : Option Addr := Option.map (fun x : Addr => { block := x.block, off := x.off + 1 }) a
theorem row_tail {w : World} {a : Option Addr} {v : Value} {vs : List Value} (h : Row w a (v :: vs)) : Row w (shiftA a) vs := by
  rcases h with h | ⟨b, off, rfl, hc⟩
  · simp at h
  · refine .inr ⟨b, off + 1, rfl, fun k x hk => ?_⟩
    have := hc (k + 1) x (by simpa using hk)
    rw [show off + 1 + k = off + (k + 1) by omega]
    exact this
theorem ints_tail {w : World} {a : Option Addr} {c n : Nat} {xs : List Int} (h : Ints w (.slice a n c) xs) (hn : 0 < xs.length) : Ints w (.slice (shiftA a) (n - 1) (c - 1)) xs.tail := by
  obtain ⟨a', c', e, hl, hm, hr⟩ := h
  simp only [Value.slice.injEq] at e
  obtain ⟨rfl, rfl, rfl⟩ := e
  cases xs with
  | nil => simp at hn
  | cons x xs =>
    refine ⟨_, _, rfl, ?_, by omega, row_tail hr⟩
    simp only [List.length_cons, List.tail_cons] at *
    omega
theorem ints_tail0 {w : World} {a : Option Addr} {c n : Nat} {xs : List Int} (h : Ints w (.slice a n c) xs) (hc : c ≤ 1) : Ints w (.slice a (n - 1) 0) xs.tail := by
  obtain ⟨a', c', e, hl, hm, hr⟩ := h
  simp only [Value.slice.injEq] at e
  obtain ⟨rfl, rfl, rfl⟩ := e
  have ht : xs.tail = [] := List.length_eq_zero_iff.1 (by simp; omega)
  rw [ht]
  exact ⟨a, 0, by rw [show xs.length - 1 = 0 by omega]; rfl, Nat.le_refl _, by omega, .inl rfl⟩
theorem rows_tail {w : World} {a : Option Addr} {c n : Nat} {xs : List (List Int)} (h : Rows2 w (.slice a n c) xs) (hn : 0 < xs.length) : Rows2 w (.slice (shiftA a) (n - 1) (c - 1)) xs.tail := by
  obtain ⟨a', c', vs, e, hl, hm, hr, hlen, hx⟩ := h
  simp only [Value.slice.injEq] at e
  obtain ⟨rfl, rfl, rfl⟩ := e
  cases xs with
  | nil => simp at hn
  | cons x xs =>
    cases vs with
    | nil => simp at hlen
    | cons v vs =>
      refine ⟨_, _, vs, rfl, ?_, by omega, row_tail hr, by simpa using hlen, fun k u y hu hy => hx (k + 1) u y (by simpa using hu) (by simpa using hy)⟩
      simp only [List.length_cons, List.tail_cons] at *
      omega
theorem rows_tail0 {w : World} {a : Option Addr} {c n : Nat} {xs : List (List Int)} (h : Rows2 w (.slice a n c) xs) (hc : c ≤ 1) : Rows2 w (.slice a (n - 1) 0) xs.tail := by
  obtain ⟨a', c', vs, e, hl, hm, hr, hlen, hx⟩ := h
  simp only [Value.slice.injEq] at e
  obtain ⟨rfl, rfl, rfl⟩ := e
  have ht : xs.tail = [] := List.length_eq_zero_iff.1 (by simp; omega)
  rw [ht]
  exact ⟨a, 0, [], by rw [show xs.length - 1 = 0 by omega]; rfl, Nat.le_refl _, by omega, .inl rfl, rfl, by simp⟩
theorem own_ints {W : World} {base n : Nat} {v : Value} {x : List Int} (h : W.ownsRow base 3 1 v n (x.map (.int .i64))) : Ints W v x := by
  by_cases hv : v = .slice none 0 0
  · subst hv
    have hx : x = [] := by
      rcases h.2 with ⟨_, h2⟩ | ⟨g, cap, cur, hv2, _⟩
      · have := h.1
        simp at this
        rcases h2 with h2
        simp_all
      · simp at hv2
    subst hx
    exact ⟨none, 0, rfl, Nat.le_refl _, by omega, .inl rfl⟩
  · have hn : x.length = n := by have := h.1; simp at this; omega
    exact (own_at h hv hn (Nat.le_refl _)).ints
end Go.Proofs.Ytblaipkhmmaenaa
