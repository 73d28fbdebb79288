import Derived.Test.YtblaipkhmmaenaaM2
namespace Go.Proofs.Ytblaipkhmmaenaa
open Go.RowKit
def moreU (U : List Int) : List Int := U.map fun z => min (z + 1) 7
def morep (p : Who) : Who := ⟨p.A.tail, p.B.tail, p.C, moreU p.U⟩
theorem inBox_more : ∀ (U x : List Int), (∀ z ∈ U, z ≤ 7) → inBox U x → inBox (moreU U) x
  | [], [], _, h => h
  | u :: us, x :: xs, hU, h => by
    have := hU u (by simp)
    have h1 := h.2.1
    exact ⟨h.1, by show x ≤ min (u + 1) 7; omega, inBox_more us xs (fun z hz => hU z (by simp [hz])) h.2.2⟩
  | [], _ :: _, _, h => h.elim
  | _ :: _, [], _, h => h.elim
/-- the order of two vectors is the same in every box that holds them -/
theorem rank_mono (U : List Int) : ∀ (V x y : List Int), inBox U x → inBox U y → inBox V x → inBox V y → rankU U x < rankU U y → rankU V x < rankU V y := by
  induction U with
  | nil => intro V x y _ _ _ _ h; simp [rankU] at h
  | cons u us ih =>
    intro V x y hx hy gx gy h
    cases x with
    | nil => exact hx.elim
    | cons x xs =>
      cases y with
      | nil => exact hy.elim
      | cons y ys =>
        cases V with
        | nil => exact gx.elim
        | cons v vs =>
          simp only [rankU] at h ⊢
          have h1 := rankU_lt us xs hx.2.2
          have h2 := rankU_lt us ys hy.2.2
          have g1 := rankU_lt vs xs gx.2.2
          have g2 := rankU_lt vs ys gy.2.2
          have hx0 := hx.1
          have hy0 := hy.1
          by_cases hlt : x < y
          · have e : x.toNat + 1 ≤ y.toNat := by omega
            have := Nat.mul_le_mul_right (sizeU vs) e
            rw [Nat.add_mul] at this
            omega
          · by_cases heq : x = y
            · subst heq
              have := ih vs xs ys hx.2.2 hy.2.2 gx.2.2 gy.2.2 (by omega)
              omega
            · exfalso
              have e : y.toNat + 1 ≤ x.toNat := by omega
              have := Nat.mul_le_mul_right (sizeU us) e
              rw [Nat.add_mul] at this
              omega
theorem countK_mono {p : Who} {c d : Int} (h : c ≤ d) : ∀ k, countK p c k ≤ countK p d k
  | 0 => Nat.le_refl _
  | k + 1 => by
    have := countK_mono (p := p) h k
    simp only [countK]
    by_cases h1 : satB p (vecAt p.U k) = true ∧ dotZ p.C (vecAt p.U k) ≤ c
    · rw [if_pos h1, if_pos ⟨h1.1, by omega⟩]; omega
    · rw [if_neg h1]; split <;> omega
theorem countK_le_of {p : Who} {c : Int} : ∀ {i k : Nat}, i ≤ k → countK p c i ≤ countK p c k
  | i, 0, h => by have : i = 0 := by omega
                  subst this; exact Nat.le_refl _
  | i, k + 1, h => by
    by_cases hi : i = k + 1
    · subst hi; exact Nat.le_refl _
    · have := countK_le_of (p := p) (c := c) (show i ≤ k by omega)
      simp only [countK]
      omega
theorem countK_pos {p : Who} {c : Int} : ∀ {k : Nat}, 0 < countK p c k → ∃ i, i < k ∧ satB p (vecAt p.U i) = true ∧ dotZ p.C (vecAt p.U i) ≤ c
  | 0, h => by simp [countK] at h
  | k + 1, h => by
    by_cases h1 : satB p (vecAt p.U k) = true ∧ dotZ p.C (vecAt p.U k) ≤ c
    · exact ⟨k, by omega, h1⟩
    · simp only [countK, if_neg h1] at h
      obtain ⟨i, hi, r⟩ := countK_pos (k := k) (by omega)
      exact ⟨i, by omega, r⟩
theorem countK_pos_of {p : Who} {c : Int} {i k : Nat} (hi : i < k) (hs : satB p (vecAt p.U i) = true) (hd : dotZ p.C (vecAt p.U i) ≤ c) : 0 < countK p c k := by
  have : countK p c (i + 1) ≤ countK p c k := countK_le_of (by omega)
  simp only [countK, if_pos (And.intro hs hd)] at this
  omega
/-- Count is 0 below the cost of Solve, and at least 1 from it on -/
theorem count_best {p : Who} {x : List Int} (h : bestK p (sizeU p.U) = some x) (c : Int) : 0 < countK p c (sizeU p.U) ↔ dotZ p.C x ≤ c := by
  obtain ⟨i, hi, rfl, hs, hall⟩ := bestK_some p _ _ h
  constructor
  · intro hc
    obtain ⟨j, hj, hsj, hd⟩ := countK_pos hc
    have := hall j hj hsj
    omega
  · exact fun hd => countK_pos_of hi hs hd
theorem count_none {p : Who} (h : bestK p (sizeU p.U) = none) (c : Int) : countK p c (sizeU p.U) = 0 := by
  have : ¬ 0 < countK p c (sizeU p.U) := fun hc => by
    obtain ⟨j, hj, hsj, _⟩ := countK_pos hc
    rw [bestK_none p _ h j hj] at hsj
    cases hsj
  omega
theorem satB_tail {p : Who} {x : List Int} (h : satB p x = true) : satB (morep p) x = true := by
  unfold satB at *
  cases hA : p.A with
  | nil => simp [morep, hA]
  | cons r rs =>
    cases hB : p.B with
    | nil => simp [morep, hA, hB]
    | cons b bs =>
      rw [hA, hB] at h
      simp only [List.zip_cons_cons, List.all_cons, Bool.and_eq_true] at h
      simpa [morep, hA, hB] using h.2
/-- a greater box or fewer rows never have fewer vectors -/
theorem count_more {p : Who} (hv : whoB p = true) (c : Int) : countK p c (sizeU p.U) ≤ countK (morep p) c (sizeU (moreU p.U)) := by
  have h0 : ∀ z ∈ p.U, 0 ≤ z := fun z hz => ((whoP hv).2.2.1 z hz).1
  have h7 : ∀ z ∈ p.U, z ≤ 7 := fun z hz => ((whoP hv).2.2.1 z hz).2
  have hin : ∀ k, k < sizeU p.U → inBox p.U (vecAt p.U k) := fun k hk => inBox_vecAt p.U k h0 hk
  have hin2 : ∀ k, k < sizeU p.U → inBox (moreU p.U) (vecAt p.U k) := fun k hk => inBox_more _ _ h7 (hin k hk)
  have key : ∀ k, k ≤ sizeU p.U → ∃ m, m ≤ sizeU (moreU p.U) ∧ countK p c k ≤ countK (morep p) c m ∧ ∀ j, k ≤ j → j < sizeU p.U → m ≤ rankU (moreU p.U) (vecAt p.U j) := by
    intro k
    induction k with
    | zero => exact fun _ => ⟨0, Nat.zero_le _, Nat.le_refl _, fun _ _ _ => Nat.zero_le _⟩
    | succ k ih =>
      intro hk
      obtain ⟨m, hm, hc, hj⟩ := ih (by omega)
      have hr := rankU_lt _ _ (hin2 k (by omega))
      refine ⟨rankU (moreU p.U) (vecAt p.U k) + 1, by omega, ?_, fun j h1 h2 => ?_⟩
      · have h1 : countK (morep p) c m ≤ countK (morep p) c (rankU (moreU p.U) (vecAt p.U k)) := countK_le_of (hj k (Nat.le_refl _) (by omega))
        have hat : vecAt (morep p).U (rankU (moreU p.U) (vecAt p.U k)) = vecAt p.U k := vecAt_rank _ _ (hin2 k (by omega))
        simp only [countK]
        rw [hat]
        by_cases h2 : satB p (vecAt p.U k) = true ∧ dotZ p.C (vecAt p.U k) ≤ c
        · rw [if_pos h2, if_pos ⟨satB_tail h2.1, h2.2⟩]; omega
        · rw [if_neg h2]; omega
      · refine rank_mono p.U (moreU p.U) _ _ (hin k (by omega)) (hin j h2) (hin2 k (by omega)) (hin2 j h2) ?_
        rw [rank_vecAt p.U k (by omega), rank_vecAt p.U j h2]
        omega
  obtain ⟨m, hm, hc, _⟩ := key _ (Nat.le_refl _)
  exact Nat.le_trans hc (countK_le_of hm)
theorem who_more {p : Who} (hv : whoB p = true) : whoB (morep p) = true := by
  obtain ⟨h1, h2, h3, h4⟩ := whoP hv
  have hAB : p.B.length = p.A.length := (rows_len hv).2
  simp only [whoB, Bool.and_eq_true, decide_eq_true_eq, List.all_eq_true]
  refine ⟨⟨⟨h1, by simp [morep, moreU, h2]⟩, ?_⟩, ?_⟩
  · intro z hz
    simp only [morep, moreU, List.mem_map] at hz
    obtain ⟨y, hy, rfl⟩ := hz
    have := h3 y hy
    simp [upB]
    omega
  · simp only [programB, equationsB, rowsB, costsB, Bool.and_eq_true, decide_eq_true_eq, List.all_eq_true] at h4 ⊢
    obtain ⟨⟨⟨⟨a1, a2⟩, a3⟩, ⟨b1, b2⟩⟩, c1⟩ := h4
    refine ⟨⟨⟨⟨a1, ?_⟩, fun r hr => a3 r (List.mem_of_mem_tail hr)⟩, ⟨?_, fun z hz => b2 z (List.mem_of_mem_tail hz)⟩⟩, c1⟩
    · simp [morep]; omega
    · simp [morep]; omega
end Go.Proofs.Ytblaipkhmmaenaa
