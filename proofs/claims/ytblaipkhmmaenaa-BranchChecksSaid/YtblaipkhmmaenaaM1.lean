import Derived.Test.YtblaipkhmmaenaaB1
namespace Go.Proofs.Ytblaipkhmmaenaa
open Go.RowKit
/-- how many vectors a box has -/
def sizeU : List Int → Nat
  | [] => 1
  | u :: us => (u.toNat + 1) * sizeU us
theorem sizeU_pos : ∀ U : List Int, 0 < sizeU U
  | [] => by simp [sizeU]
  | u :: us => by simp only [sizeU]; exact Nat.mul_pos (by omega) (sizeU_pos us)
/-- the vector of a number, in lexicographic order -/
def vecAt : List Int → Nat → List Int
  | [], _ => []
  | _ :: us, k => ((k / sizeU us : Nat) : Int) :: vecAt us (k % sizeU us)
theorem vecAt_length : ∀ (U : List Int) (k : Nat), (vecAt U k).length = U.length
  | [], _ => rfl
  | _ :: us, k => by simp [vecAt, vecAt_length us]
theorem vecAt_zero : ∀ U : List Int, vecAt U 0 = List.replicate U.length 0
  | [] => rfl
  | u :: us => by simp [vecAt, vecAt_zero us, List.replicate_succ]
def adv : List Int → List Int → Option (List Int)
  | x :: xs, u :: us => match adv xs us with
    | some ys => some (x :: ys)
    | none => if x < u then some ((x + 1) :: List.replicate xs.length 0) else none
  | _, _ => none
theorem adv_vecAt : ∀ (U : List Int) (k : Nat), k < sizeU U → adv (vecAt U k) U = if k + 1 < sizeU U then some (vecAt U (k + 1)) else none
  | [], k, h => by simp only [sizeU] at h; simp [vecAt, adv, sizeU]
  | u :: us, k, h => by
    have hm := sizeU_pos us
    have hk : k % sizeU us < sizeU us := Nat.mod_lt _ hm
    have ih := adv_vecAt us (k % sizeU us) hk
    have e0 : sizeU us * (k / sizeU us) + k % sizeU us = k := Nat.div_add_mod k (sizeU us)
    have hd : k / sizeU us < u.toNat + 1 := by
      rw [Nat.div_lt_iff_lt_mul hm]; exact h
    simp only [vecAt, adv, ih]
    by_cases h1 : k % sizeU us + 1 < sizeU us
    · have ek : k + 1 = sizeU us * (k / sizeU us) + (k % sizeU us + 1) := by omega
      have e1 : (k + 1) / sizeU us = k / sizeU us := by
        rw [ek, Nat.mul_add_div hm, Nat.div_eq_of_lt h1, Nat.add_zero]
      have e2 : (k + 1) % sizeU us = k % sizeU us + 1 := by
        rw [ek, Nat.mul_add_mod, Nat.mod_eq_of_lt h1]
      have h2 : k + 1 < sizeU (u :: us) := by
        show k + 1 < (u.toNat + 1) * sizeU us
        rw [← Nat.div_lt_iff_lt_mul hm, e1]; exact hd
      simp [h1, h2, e1, e2]
    · have h3 : k % sizeU us + 1 = sizeU us := by omega
      have ek : k + 1 = sizeU us * (k / sizeU us + 1) := by rw [Nat.mul_add]; omega
      have e1 : (k + 1) / sizeU us = k / sizeU us + 1 := by
        rw [ek, Nat.mul_div_cancel_left _ hm]
      have e2 : (k + 1) % sizeU us = 0 := by
        rw [ek, Nat.mul_mod_right]
      rw [if_neg h1]
      have hiff : (k + 1 < sizeU (u :: us)) ↔ k / sizeU us + 1 < u.toNat + 1 := by
        show k + 1 < (u.toNat + 1) * sizeU us ↔ _
        rw [← Nat.div_lt_iff_lt_mul hm, e1]
      by_cases h4 : ((k / sizeU us : Nat) : Int) < u
      · have h5 : k + 1 < sizeU (u :: us) := hiff.2 (by clear hiff e0 e1 e2 ek hd; generalize k / sizeU us = q at *; omega)
        simp only [if_pos h4, if_pos h5]
        rw [e1, e2, vecAt_zero, vecAt_length]
        simp
      · have h5 : ¬ k + 1 < sizeU (u :: us) := fun h => h4 (by have h9 := hiff.1 h; clear hiff h4 e0 e1 e2 ek hd; generalize k / sizeU us = q at *; omega)
        simp only [if_neg h4, if_neg h5]
/-- the number of a vector -/
def rankU : List Int → List Int → Nat
  | _ :: us, y :: ys => y.toNat * sizeU us + rankU us ys
  | _, _ => 0
def inBox : List Int → List Int → Prop
  | u :: us, y :: ys => 0 ≤ y ∧ y ≤ u ∧ inBox us ys
  | [], [] => True
  | _, _ => False
theorem rankU_lt : ∀ (U y : List Int), inBox U y → rankU U y < sizeU U
  | [], [], _ => by simp [rankU, sizeU]
  | u :: us, y :: ys, h => by
    have h1 := rankU_lt us ys h.2.2
    have h2 : y.toNat + 1 ≤ u.toNat + 1 := by have := h.1; have := h.2.1; omega
    have h3 := Nat.mul_le_mul_right (sizeU us) h2
    simp only [rankU, sizeU]
    rw [Nat.add_mul] at h3
    omega
theorem vecAt_rank : ∀ (U y : List Int), inBox U y → vecAt U (rankU U y) = y
  | [], [], _ => rfl
  | u :: us, y :: ys, h => by
    have hm := sizeU_pos us
    have h1 := rankU_lt us ys h.2.2
    have ih := vecAt_rank us ys h.2.2
    simp only [rankU, vecAt]
    have e1 : (y.toNat * sizeU us + rankU us ys) / sizeU us = y.toNat := by
      rw [Nat.mul_comm, Nat.mul_add_div hm, Nat.div_eq_of_lt h1, Nat.add_zero]
    have e2 : (y.toNat * sizeU us + rankU us ys) % sizeU us = rankU us ys := by
      rw [Nat.mul_comm, Nat.mul_add_mod, Nat.mod_eq_of_lt h1]
    rw [e1, e2, ih, Int.toNat_of_nonneg h.1]
theorem inBox_vecAt : ∀ (U : List Int) (k : Nat), (∀ u ∈ U, 0 ≤ u) → k < sizeU U → inBox U (vecAt U k)
  | [], _, _, _ => trivial
  | u :: us, k, hU, h => by
    have hm := sizeU_pos us
    have hd : k / sizeU us < u.toNat + 1 := by
      rw [Nat.div_lt_iff_lt_mul hm]; exact h
    have := hU u (by simp)
    exact ⟨by exact Int.natCast_nonneg _, by clear h; generalize k / sizeU us = q at *; omega, inBox_vecAt us _ (fun x hx => hU x (by simp [hx])) (Nat.mod_lt _ hm)⟩
theorem inBox_length : ∀ (U y : List Int), inBox U y → y.length = U.length
  | [], [], _ => rfl
  | u :: us, y :: ys, h => by simp [inBox_length us ys h.2.2]
theorem rank_vecAt : ∀ (U : List Int) (k : Nat), k < sizeU U → rankU U (vecAt U k) = k
  | [], k, h => by simp only [sizeU] at h; simp [rankU]; omega
  | _ :: us, k, h => by
    have hm := sizeU_pos us
    simp only [vecAt, rankU, rank_vecAt us _ (Nat.mod_lt _ hm), Int.toNat_natCast]
    rw [Nat.mul_comm]; exact Nat.div_add_mod k (sizeU us)
/-- what comes first is lexicographically less -/
theorem rank_lex : ∀ (U x y : List Int) (i : Nat) (a b : Int), inBox U x → inBox U y → x.take i = y.take i → x[i]? = some a → y[i]? = some b → rankU U x ≤ rankU U y → a ≠ b → a < b
  | [], [], [], i, a, b, _, _, _, h, _, _, _ => by simp at h
  | u :: us, x :: xs, y :: ys, 0, a, b, hx, hy, _, ha, hb, hr, hne => by
    simp only [List.getElem?_cons_zero, Option.some.injEq] at ha hb
    subst ha hb
    simp only [rankU] at hr
    have h1 := rankU_lt us ys hy.2.2
    by_cases hlt : x < y
    · exact hlt
    · have h2 : y.toNat + 1 ≤ x.toNat := by have := hy.1; have := hx.1; omega
      have h3 := Nat.mul_le_mul_right (sizeU us) h2
      rw [Nat.add_mul] at h3
      omega
  | u :: us, x :: xs, y :: ys, i + 1, a, b, hx, hy, ht, ha, hb, hr, hne => by
    simp only [List.take_succ_cons, List.cons.injEq] at ht
    obtain ⟨rfl, ht⟩ := ht
    simp only [List.getElem?_cons_succ] at ha hb
    simp only [rankU] at hr
    exact rank_lex us xs ys i a b hx.2.2 hy.2.2 ht ha hb (by omega) hne

def satB (p : Who) (x : List Int) : Bool := (p.A.zip p.B).all (fun rb => decide (rb.2 ≤ dotZ rb.1 x))
/-- the best of the first k vectors of the box -/
def bestK (p : Who) : Nat → Option (List Int)
  | 0 => none
  | k + 1 => if satB p (vecAt p.U k) = true then
      match bestK p k with
      | none => some (vecAt p.U k)
      | some b => if dotZ p.C (vecAt p.U k) < dotZ p.C b then some (vecAt p.U k) else some b
    else bestK p k
theorem bestK_none (p : Who) : ∀ k, bestK p k = none → ∀ i, i < k → satB p (vecAt p.U i) = false
  | 0, _, i, hi => by omega
  | k + 1, h, i, hi => by
    simp only [bestK] at h
    by_cases hs : satB p (vecAt p.U k) = true
    · rw [if_pos hs] at h
      cases hb : bestK p k with
      | none => rw [hb] at h; simp at h
      | some b =>
        rw [hb] at h
        simp only at h
        split at h <;> simp at h
    · rw [if_neg hs] at h
      by_cases hik : i = k
      · subst hik; simpa using hs
      · exact bestK_none p k h i (by omega)
theorem bestK_some (p : Who) : ∀ k b, bestK p k = some b → ∃ i, i < k ∧ b = vecAt p.U i ∧ satB p b = true ∧ ∀ j, j < k → satB p (vecAt p.U j) = true → dotZ p.C b < dotZ p.C (vecAt p.U j) ∨ (dotZ p.C b = dotZ p.C (vecAt p.U j) ∧ i ≤ j)
  | 0, b, h => by simp [bestK] at h
  | k + 1, b, h => by
    simp only [bestK] at h
    by_cases hs : satB p (vecAt p.U k) = true
    · rw [if_pos hs] at h
      cases hb : bestK p k with
      | none =>
        rw [hb] at h
        simp only [Option.some.injEq] at h
        subst h
        refine ⟨k, by omega, rfl, hs, fun j hj hsj => ?_⟩
        by_cases hjk : j = k
        · subst hjk; exact .inr ⟨rfl, by omega⟩
        · rw [bestK_none p k hb j (by omega)] at hsj; cases hsj
      | some c =>
        rw [hb] at h
        simp only at h
        obtain ⟨i, hi, hc, hcs, hall⟩ := bestK_some p k c hb
        by_cases hlt : dotZ p.C (vecAt p.U k) < dotZ p.C c
        · rw [if_pos hlt] at h
          simp only [Option.some.injEq] at h
          subst h
          refine ⟨k, by omega, rfl, hs, fun j hj hsj => ?_⟩
          by_cases hjk : j = k
          · subst hjk; exact .inr ⟨rfl, by omega⟩
          · have := hall j (by omega) hsj
            left; omega
        · rw [if_neg hlt] at h
          simp only [Option.some.injEq] at h
          subst h
          refine ⟨i, by omega, hc, hcs, fun j hj hsj => ?_⟩
          by_cases hjk : j = k
          · subst hjk; by_cases he : dotZ p.C c = dotZ p.C (vecAt p.U j)
            · exact .inr ⟨he, by omega⟩
            · left; omega
          · exact hall j (by omega) hsj
    · rw [if_neg hs] at h
      obtain ⟨i, hi, hc, hcs, hall⟩ := bestK_some p k b h
      refine ⟨i, by omega, hc, hcs, fun j hj hsj => ?_⟩
      by_cases hjk : j = k
      · subst hjk; exact absurd hsj hs
      · exact hall j (by omega) hsj
/-- how many of the first k vectors are feasible and cost at most c -/
def countK (p : Who) (c : Int) : Nat → Nat
  | 0 => 0
  | k + 1 => countK p c k + if satB p (vecAt p.U k) = true ∧ dotZ p.C (vecAt p.U k) ≤ c then 1 else 0
theorem countK_le (p : Who) (c : Int) : ∀ k, countK p c k ≤ k
  | 0 => by simp [countK]
  | k + 1 => by have := countK_le p c k; simp only [countK]; split <;> omega
theorem sizeU_le : ∀ (U : List Int), (∀ u ∈ U, u ≤ 7) → sizeU U ≤ 8 ^ U.length
  | [], _ => by simp [sizeU]
  | u :: us, h => by
    have h1 := sizeU_le us (fun x hx => h x (by simp [hx]))
    have h2 := h u (by simp)
    simp only [sizeU, List.length_cons, Nat.pow_succ]
    rw [Nat.mul_comm]
    exact Nat.mul_le_mul h1 (by omega)
end Go.Proofs.Ytblaipkhmmaenaa
