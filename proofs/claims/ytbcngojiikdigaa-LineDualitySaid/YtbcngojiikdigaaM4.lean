import Derived.Test.YtbcngojiikdigaaM3
import Derived.Test.YtbcngojiikdigaaL27
namespace Go.Proofs.Ytbcngojiikdigaa
/-! The level matrix: no closed walk above 0, a critical vertex, the eigenvector's equation (pure). -/
/-- a sum of m arcs, in units of 1/q and relative to p -/
def lvM (p q : Int) (m : Nat) : E → E
  | none => none
  | some x => some (q * x - p * m)
theorem lvM_em (p q : Int) (hq : 0 < q) (m : Nat) (x y : E) : lvM p q m (em x y) = em (lvM p q m x) (lvM p q m y) := by
  cases x with
  | none => rfl
  | some a =>
    cases y with
    | none => rfl
    | some b =>
      show some (q * (if a < b then b else a) - p * m) = some (if q * a - p * m < q * b - p * m then q * b - p * m else q * a - p * m)
      congr 1
      by_cases h : a < b
      · have : q * a < q * b := Int.mul_lt_mul_of_pos_left h hq
        rw [if_pos h, if_pos (by omega)]
      · have : q * b ≤ q * a := Int.mul_le_mul_of_nonneg_left (by omega) (by omega)
        rw [if_neg h, if_neg (by omega)]
theorem lvM_ep (p q : Int) (m k : Nat) (x y : E) : lvM p q (m + k) (ep x y) = ep (lvM p q m x) (lvM p q k y) := by
  cases x with
  | none => rfl
  | some a =>
    cases y with
    | none => rfl
    | some b =>
      show some (q * (a + b) - p * ((m + k : Nat) : Int)) = some (q * a - p * m + (q * b - p * k))
      congr 1
      rw [Int.natCast_add]
      grind
theorem lvM_es (p q : Int) (hq : 0 < q) (m : Nat) (f : Nat → E) : ∀ n, lvM p q m (es f n) = es (fun k => lvM p q m (f k)) n := by
  intro n
  induction n with
  | zero => rfl
  | succ n ih => simp only [es]; rw [lvM_em p q hq, ih]
theorem lv_pw {p q : Int} (hq : 0 < q) (n : Nat) (A : MF) : ∀ m, eqF n (pwF n (lvF p q A) m) (fun i j => lvM p q m (pwF n A m i j)) := by
  intro m
  induction m with
  | zero =>
    intro i _ j _
    show oneF i j = lvM p q 0 (oneF i j)
    unfold oneF
    split
    · show some 0 = some (q * 0 - p * 0)
      simp
    · rfl
  | succ m ih =>
    intro i hi j hj
    show mulF n (pwF n (lvF p q A) m) (lvF p q A) i j = lvM p q (m + 1) (mulF n (pwF n A m) A i j)
    unfold mulF
    rw [lvM_es p q hq]
    refine es_congr fun k hk => ?_
    rw [lvM_ep, ih i hi k hk]
    congr 1
    show lvE p q (A k j) = lvM p q 1 (A k j)
    cases A k j with
    | none => rfl
    | some x => simp [lvE, lvM]
theorem lv_tr {p q : Int} (hq : 0 < q) (n : Nat) (A : MF) (m : Nat) : trF n (lvF p q A) m = lvM p q m (trF n A m) := by
  unfold trF
  rw [lvM_es p q hq]
  exact es_congr fun i hi => lv_pw hq n A m i hi i hi
/-- the best mean is a mean -/
theorem spK_is (n : Nat) (A : MF) : ∀ m, (spK n A m).2 ≠ 0 → ∃ m', 1 ≤ m' ∧ m' ≤ m ∧ trF n A m' = some (spK n A m).1 ∧ (spK n A m).2 = (m' : Int) := by
  intro m
  induction m with
  | zero => intro h; exact absurd rfl h
  | succ m ih =>
    simp only [spK]
    cases ht : trF n A (m + 1) with
    | none =>
      intro h
      obtain ⟨m', h1, h2, h3⟩ := ih h
      exact ⟨m', h1, by omega, h3⟩
    | some t =>
      simp only
      split
      · intro _
        exact ⟨m + 1, by omega, Nat.le_refl _, ht, by simp⟩
      · intro h
        obtain ⟨m', h1, h2, h3⟩ := ih h
        exact ⟨m', h1, by omega, h3⟩
/-- the speed and the best mean -/
theorem sp_parts {n : Nat} {A : MF} {p q : Int} (h : spF n A = some (p, q)) : ∃ g : Int, 0 < g ∧ (spK n A n).1 = p * g ∧ (spK n A n).2 = q * g ∧ 0 < q := by
  unfold spF at h
  split at h
  · cases h
  · rename_i hne
    injection h with h
    injection h with h1 h2
    have hd0 := (spK_best n A n).2
    have hg : 0 < (Int.gcd (spK n A n).1 (spK n A n).2 : Int) := by
      have := Int.gcd_pos_of_ne_zero_right (spK n A n).1 hne
      omega
    have e1 : (spK n A n).1.tdiv (Int.gcd (spK n A n).1 (spK n A n).2 : Int) * (Int.gcd (spK n A n).1 (spK n A n).2 : Int) = (spK n A n).1 := Int.tdiv_mul_cancel (Int.gcd_dvd_left ..)
    have e2 : (spK n A n).2.tdiv (Int.gcd (spK n A n).1 (spK n A n).2 : Int) * (Int.gcd (spK n A n).1 (spK n A n).2 : Int) = (spK n A n).2 := Int.tdiv_mul_cancel (Int.gcd_dvd_right ..)
    rw [h1] at e1
    rw [h2] at e2
    refine ⟨_, hg, e1.symm, e2.symm, ?_⟩
    by_cases hq : 0 < q
    · exact hq
    · have : q * (Int.gcd (spK n A n).1 (spK n A n).2 : Int) ≤ 0 := Int.mul_nonpos_of_nonpos_of_nonneg (by omega) (by omega)
      omega
theorem lv_noPos {n : Nat} {A : MF} {p q : Int} (h : spF n A = some (p, q)) : NoPos n (lvF p q A) := fun m h1 h2 => by
  obtain ⟨g, hg, e1, e2, hq⟩ := sp_parts h
  rw [lv_tr hq]
  cases ht : trF n A m with
  | none => exact none_leE _
  | some t =>
    obtain ⟨_, hb⟩ := (spK_best n A n).1 m h1 h2 t ht
    rw [e1, e2] at hb
    refine leE_some.2 ?_
    have h3 : (q * t) * g ≤ (p * (m : Int)) * g := by
      have a1 : t * (q * g) = (q * t) * g := by grind
      have a2 : p * g * (m : Int) = (p * (m : Int)) * g := by grind
      omega
    have := Int.le_of_mul_le_mul_right h3 hg
    omega
/-- some vertex lies on a closed walk with the sum 0 -/
theorem crit_ex {n : Nat} {A : MF} {p q : Int} (hn : 1 ≤ n) (h : spF n A = some (p, q)) : ∃ f rest, critL n (lvF p q A) n = f :: rest ∧ f < n ∧ mulF n (lvF p q A) (closF n (lvF p q A)) f f = some 0 := by
  have hNP := lv_noPos h
  obtain ⟨g, hg, e1, e2, hq⟩ := sp_parts h
  have hd : (spK n A n).2 ≠ 0 := by rw [e2]; exact Int.mul_ne_zero (by omega) (by omega)
  obtain ⟨m, h1, h2, ht, hm⟩ := spK_is n A n hd
  have htr : trF n (lvF p q A) m = some 0 := by
    rw [lv_tr hq, ht]
    show some (q * (spK n A n).1 - p * (m : Int)) = some 0
    congr 1
    rw [← hm, e1, e2]
    grind
  generalize lvF p q A = B at *
  obtain ⟨i, hi, e⟩ := es_attain (f := fun i => pwF n B m i i) (n := n) (by show trF n B m ≠ none; rw [htr]; simp)
  have hii : pwF n B m i i = some 0 := by rw [← e]; exact htr
  have hBS : ∀ i, i < n → mulF n B (closF n B) i i = es (fun k => pwF n B (k + 1) i i) n := fun i hi => by
    have hcs : eqF n (closF n B) (smF n B n) := by
      have h := clos_sum n B (n - 1)
      rw [show n - 1 + 1 = n by omega] at h
      exact h
    rw [mulF_congr (eqF.refl n B) hcs i hi i hi]
    unfold mulF
    rw [show (fun x => ep (B i x) (smF n B n x i)) = fun x => es (fun k => ep (B i x) (pwF n B k x i)) n from funext fun x => ep_es _ _ _, es_swap]
    exact es_congr fun k _ => mul_pw n B k i hi i hi
  have hz : mulF n B (closF n B) i i = some 0 := by
    rw [hBS i hi]
    apply leE.antisymm
    · exact es_lub fun k hk => (es_le (f := fun i => pwF n B (k + 1) i i) hi).trans (hNP (k + 1) (by omega) (by omega))
    · have := es_le (f := fun k => pwF n B (k + 1) i i) (show m - 1 < n by omega)
      rw [show m - 1 + 1 = m by omega, hii] at this
      exact this
  have hmem : i ∈ critL n B n := by
    unfold critL
    rw [List.mem_filter]
    exact ⟨List.mem_range.2 hi, by rw [hz]; rfl⟩
  cases hc : critL n B n with
  | nil => rw [hc] at hmem; cases hmem
  | cons f rest =>
    refine ⟨f, rest, rfl, ?_⟩
    have hf : f ∈ critL n B n := by rw [hc]; exact List.mem_cons_self ..
    unfold critL at hf
    rw [List.mem_filter, List.mem_range] at hf
    refine ⟨hf.1, ?_⟩
    have := hf.2
    unfold zB at this
    simpa using this
end Go.Proofs.Ytbcngojiikdigaa
