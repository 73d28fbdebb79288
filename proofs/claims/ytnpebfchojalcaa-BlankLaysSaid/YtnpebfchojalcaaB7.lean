import Derived.Test.YtnpebfchojalcaaB6
namespace Go.Proofs.Ytnpebfchojalcaa
open Go.RowKit Go.Shelf Go.Maps
/-- which grid comes before which -/
def befG (A' B' D' A B D : Int) : Prop := A' * D' < A * D ∨ (A' * D' = A * D ∧ (A' < A ∨ (A' = A ∧ B' < B)))
/-- the first grid that avoids these vectors -/
def FirstG (ks : List Pt) (A B D : Int) : Prop := (1 ≤ A ∧ 0 ≤ B ∧ B < D ∧ A * D ≤ 144) ∧ avoidB ks A B D = true ∧ ∀ A' B' D', 1 ≤ A' → 0 ≤ B' → B' < D' → befG A' B' D' A B D → avoidB ks A' B' D' = false
theorem mul_le_of {a d n : Int} (ha : 1 ≤ a) (hd : 1 ≤ d) (h : a * d ≤ n) : a ≤ n ∧ d ≤ n := by
  have h1 := Int.mul_le_mul (show (1 : Int) ≤ a from ha) (Int.le_refl d) (by omega) (by omega)
  have h2 := Int.mul_le_mul (Int.le_refl a) (show (1 : Int) ≤ d from hd) (by omega) (by omega)
  omega
theorem first_ok {ks : List Pt} {A B D : Int} (h : FirstG ks A B D) : gridOk A B D := by
  obtain ⟨⟨a, b, c, d⟩, _⟩ := h
  have := mul_le_of a (show 1 ≤ D by omega) d
  unfold gridOk
  omega
theorem first_one {ks : List Pt} {A B D A' B' D' : Int} (h : FirstG ks A B D) (k : FirstG ks A' B' D') : A = A' ∧ B = B' ∧ D = D' := by
  obtain ⟨⟨a1, a2, a3, a4⟩, a5, a6⟩ := h
  obtain ⟨⟨b1, b2, b3, b4⟩, b5, b6⟩ := k
  have n1 : ¬ befG A B D A' B' D' := fun hb => by have := b6 A B D a1 a2 a3 hb; rw [a5] at this; cases this
  have n2 : ¬ befG A' B' D' A B D := fun hb => by have := a6 A' B' D' b1 b2 b3 hb; rw [b5] at this; cases this
  unfold befG at n1 n2
  have e1 : A * D = A' * D' := by omega
  have e2 : A = A' := by omega
  have e3 : B = B' := by omega
  subst e2
  exact ⟨rfl, e3, Int.eq_of_mul_eq_mul_left (by omega) e1⟩
theorem avoid_big (ks : List Pt) : avoidB ks 12 0 12 = true := by
  have : nearL 12 0 12 = [] := by decide +kernel
  unfold avoidB
  rw [this]; rfl
/-- nothing of a smaller index, nothing of this index and a smaller A, nothing of these and a smaller B -/
def NoneI (ks : List Pt) (n : Nat) : Prop := ∀ A' B' D', 1 ≤ A' → 0 ≤ B' → B' < D' → A' * D' < (n : Int) → avoidB ks A' B' D' = false
def NoneA (ks : List Pt) (n a : Nat) : Prop := ∀ A' B' D', 1 ≤ A' → 0 ≤ B' → B' < D' → A' * D' = (n : Int) → A' < (a : Int) → avoidB ks A' B' D' = false
def NoneB (ks : List Pt) (n a b : Nat) : Prop := ∀ B' : Int, 0 ≤ B' → B' < (b : Int) → avoidB ks (a : Int) B' ((n / a : Nat) : Int) = false
theorem noneI_one (ks : List Pt) : NoneI ks 1 := fun A' B' D' h1 h2 h3 h4 => by
  have := Int.mul_pos (show 0 < A' by omega) (show 0 < D' by omega)
  omega
theorem noneI_next {ks : List Pt} {n : Nat} (h : NoneI ks n) (h2 : NoneA ks n (n + 1)) : NoneI ks (n + 1) := fun A' B' D' h1 h3 h4 h5 => by
  by_cases hn : A' * D' < (n : Int)
  · exact h A' B' D' h1 h3 h4 hn
  · have e : A' * D' = (n : Int) := by omega
    have := mul_le_of h1 (show 1 ≤ D' by omega) (Int.le_of_eq e)
    exact h2 A' B' D' h1 h3 h4 e (by omega)
theorem noneI_lt {ks : List Pt} {n : Nat} (h : NoneI ks (n + 1)) : n < 144 := by
  by_cases hn : n < 144
  · exact hn
  · have := h 12 0 12 (by decide) (by decide) (by decide) (by omega)
    rw [avoid_big] at this; cases this
theorem noneA_one (ks : List Pt) (n : Nat) : NoneA ks n 1 := fun A' B' D' h1 h2 h3 h4 h5 => by omega
theorem noneA_skip {ks : List Pt} {n a : Nat} (h : NoneA ks n a) (hd : n % a ≠ 0) : NoneA ks n (a + 1) := fun A' B' D' h1 h2 h3 h4 h5 => by
  by_cases e : A' < (a : Int)
  · exact h A' B' D' h1 h2 h3 h4 e
  · have e : A' = (a : Int) := by omega
    subst e
    exfalso
    apply hd
    have : (n : Int) % (a : Int) = 0 := by rw [← h4]; exact Int.mul_emod_right _ _
    omega
theorem noneA_next {ks : List Pt} {n a : Nat} (h : NoneA ks n a) (ha : 1 ≤ a) (hd : n % a = 0) (hb : NoneB ks n a (n / a)) : NoneA ks n (a + 1) := fun A' B' D' h1 h2 h3 h4 h5 => by
  by_cases e : A' < (a : Int)
  · exact h A' B' D' h1 h2 h3 h4 e
  · have e : A' = (a : Int) := by omega
    subst e
    have hq : n = a * (n / a) := by have := Nat.div_add_mod n a; omega
    have e2 : D' = ((n / a : Nat) : Int) := by
      have : (a : Int) * D' = (a : Int) * ((n / a : Nat) : Int) := by rw [h4]; exact_mod_cast hq
      exact Int.eq_of_mul_eq_mul_left (by omega) this
    subst e2
    exact hb B' h2 h3
theorem noneB_next {ks : List Pt} {n a b : Nat} (h : NoneB ks n a b) (hb : avoidB ks (a : Int) (b : Int) ((n / a : Nat) : Int) = false) : NoneB ks n a (b + 1) := fun B' h1 h2 => by
  by_cases e : B' < (b : Int)
  · exact h B' h1 e
  · have e : B' = (b : Int) := by omega
    subst e; exact hb
theorem first_of {ks : List Pt} {n a b : Nat} (hn : n ≤ 144) (ha : 1 ≤ a) (hd : n % a = 0) (hb : b < n / a) (h1 : NoneI ks n) (h2 : NoneA ks n a) (h3 : NoneB ks n a b) (h4 : avoidB ks (a : Int) (b : Int) ((n / a : Nat) : Int) = true) : FirstG ks (a : Int) (b : Int) ((n / a : Nat) : Int) := by
  have hq : n = a * (n / a) := by have := Nat.div_add_mod n a; omega
  have hqz : (a : Int) * ((n / a : Nat) : Int) = (n : Int) := by exact_mod_cast hq.symm
  refine ⟨⟨by omega, by omega, by omega, by omega⟩, h4, fun A' B' D' i1 i2 i3 i4 => ?_⟩
  unfold befG at i4
  rw [hqz] at i4
  rcases i4 with i4 | ⟨i4, i5 | ⟨i5, i6⟩⟩
  · exact h1 A' B' D' i1 i2 i3 i4
  · exact h2 A' B' D' i1 i2 i3 i4 i5
  · subst i5
    have e2 : D' = ((n / a : Nat) : Int) := Int.eq_of_mul_eq_mul_left (show (a : Int) ≠ 0 by omega) (by rw [i4, hqz])
    subst e2
    exact h3 B' i2 i6
/-- what Densest gives -/
def DensS (ps : List Pt) (e : Ending) : Prop := (blankB ps = true ∧ ∃ A B D, e = two (gridV A B D) (.int .i64 0) ∧ FirstG (collL ps 1 0 1) A B D) ∨ (blankB ps = false ∧ e = two (gridV 0 0 0) (.int .i64 2))
theorem results_cell_tmp {fn : Func} {p q : Tmp} {ty : TypeId} (h : fn.results = #[.cell p ty, .tmp q]) (tmps : Array Value) (P : Program) (w : World) :
    (results fn tmps).run P w = ((asAddr (tmps.getD p undef)).run P w).andThen fun a w₁ => ((loadVar ty a).run P w₁).andThen fun v w₂ => .ok (.tuple #[v, tmps.getD q undef]) w₂ := by
  simp only [results, h]
  simp only [Array.mapM_eq_foldlM, List.foldlM_toArray']
  simp [Sem.run_bind, Result.andThen]
theorem dens_results {g : Nat} {W : World} {A B D e : Int} (h : VRow W g 24 [.int .i64 A, .int .i64 B, .int .i64 D]) (tmps : Array Value) (h4 : tmps.getD 2 undef = .pointer (some ⟨g, 0, none⟩)) (h5 : tmps.getD 3 undef = .int .i64 e) : (results Try.f21 tmps).run Try.prog W = .ok (.tuple #[gridV A B D, .int .i64 e]) W := by
  have c0 := VRow.cell h (k := 0) rfl
  have c1 := VRow.cell h (k := 1) rfl
  have c2 := VRow.cell h (k := 2) rfl
  rw [results_cell_tmp rfl, h4, h5]
  go_simp
  rfl
end Go.Proofs.Ytnpebfchojalcaa
