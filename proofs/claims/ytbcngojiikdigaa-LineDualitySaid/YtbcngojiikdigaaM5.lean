import Derived.Test.YtbcngojiikdigaaM4
import Derived.Test.YtbcngojiikdigaaS1
namespace Go.Proofs.Ytbcngojiikdigaa
open Go.RowKit Go.Shelf
/-! The eigenvector (pure) -/
theorem wB_em (x y : E) : wB (em x y) = (wB x || wB y) := by
  cases x with
  | none => rw [none_em]; rfl
  | some a => cases y with
    | none => rfl
    | some b => rfl
theorem wB_ep (x y : E) : wB (ep x y) = (wB x && wB y) := by cases x <;> cases y <;> rfl
theorem wB_es {f g : Nat → E} : ∀ {n : Nat}, (∀ k, k < n → wB (f k) = wB (g k)) → wB (es f n) = wB (es g n) := by
  intro n
  induction n with
  | zero => intro _; rfl
  | succ n ih =>
    intro h
    simp only [es]
    rw [wB_em, wB_em, ih (fun k hk => h k (by omega)), h n (by omega)]
theorem wB_mul {n : Nat} {A B C D : MF} (h : ∀ i, i < n → ∀ j, j < n → wB (A i j) = wB (C i j)) (k : ∀ i, i < n → ∀ j, j < n → wB (B i j) = wB (D i j)) {i j : Nat} (hi : i < n) (hj : j < n) : wB (mulF n A B i j) = wB (mulF n C D i j) := by
  unfold mulF
  refine wB_es fun l hl => ?_
  rw [wB_ep, wB_ep, h i hi l hl, k l hl j hj]
theorem wB_pw {n : Nat} {A B : MF} (h : ∀ i, i < n → ∀ j, j < n → wB (A i j) = wB (B i j)) : ∀ m i j, i < n → j < n → wB (pwF n A m i j) = wB (pwF n B m i j) := by
  intro m
  induction m with
  | zero => intro i j _ _; rfl
  | succ m ih =>
    intro i j hi hj
    exact wB_mul (fun i hi j hj => ih i j hi hj) h hi hj
theorem wB_clos {n : Nat} {A : MF} {i j : Nat} (hi : i < n) (hj : j < n) : wB (closF n (arcF A) i j) = wB (closF n A i j) := by
  refine wB_pw (fun i _ j _ => ?_) _ _ _ hi hj
  show wB (em (oneF i j) (arcF A i j)) = wB (em (oneF i j) (A i j))
  rw [wB_em, wB_em]
  congr 1
  unfold arcF arcE
  cases A i j <;> rfl
/-- connected: the closure has an entry everywhere -/
theorem conn_some {n : Nat} {A : MF} (h : connB n A = true) {i j : Nat} (hi : i < n) (hj : j < n) : ∃ y, closF n A i j = some y := by
  have h1 : wB (closF n (arcF A) i j) = true := by
    cases hw : wB (closF n (arcF A) i j) with
    | true => rfl
    | false =>
      unfold connB at h
      rw [noneMB_true hi (noneB_true hj hw)] at h
      cases h
  rw [wB_clos hi hj] at h1
  cases hc : closF n A i j with
  | none => rw [hc] at h1; cases h1
  | some y => exact ⟨y, rfl⟩
theorem eig_ok {n : Nat} {A : MF} {p q : Int} (hn : 1 ≤ n) (h : spF n A = some (p, q)) (hc : connB n (lvF p q A) = true) : EigOk n (lvF p q A) := by
  obtain ⟨f, rest, h1, h2, _⟩ := crit_ex hn h
  exact ⟨f, rest, h1, h2, fun i hi => conn_some hc hi h2⟩
/-- the column of a critical vertex is an eigenvector of the level matrix -/
theorem eig_eq {n : Nat} {B : MF} {f : Nat} (hn : 1 ≤ n) (hN : NoPos n B) (hf : f < n) (hz : mulF n B (closF n B) f f = some 0) {i : Nat} (hi : i < n) : vecF n B (fun j => closF n B j f) i = closF n B i f := by
  show mulF n B (closF n B) i f = closF n B i f
  have h := clos_eq hn hN hi hf
  by_cases e : i = f
  · subst e
    rw [h, hz]
    simp only [oneF, if_pos]
    rfl
  · rw [show oneF i f = none by simp [oneF, e], em_none] at h
    exact h.symm
/-- shifting a vector -/
theorem vecF_shift {n : Nat} {B : MF} {x : Nat → E} (c : Int) (i : Nat) : vecF n B (fun j => ep (x j) (some c)) i = ep (vecF n B x i) (some c) := by
  unfold vecF
  rw [es_ep]
  exact es_congr fun k _ => (ep_assoc _ _ _).symm
/-- powers keep it -/
theorem eig_pw {n : Nat} {B : MF} {v : Nat → E} (h : ∀ i, i < n → vecF n B v i = v i) : ∀ k i, i < n → vecF n (pwF n B k) v i = v i := by
  intro k
  induction k with
  | zero =>
    intro i hi
    show es (fun j => ep (oneF i j) (v j)) n = v i
    rw [es_one hi (fun k _ hk => by rw [show oneF i k = none by simp [oneF, Ne.symm hk]]; rfl)]
    rw [show oneF i i = some 0 by simp [oneF], zero_ep]
  | succ k ih =>
    intro i hi
    show vecF n (mulF n (pwF n B k) B) v i = v i
    rw [vecF_mul]
    rw [show vecF n (pwF n B k) (vecF n B v) i = vecF n (pwF n B k) v i from es_congr fun j hj => by rw [h j hj]]
    exact ih i hi
/-- what lies between shifts of an eigenvector stays between -/
theorem eig_up {n : Nat} {B : MF} {v x : Nat → E} (h : ∀ i, i < n → vecF n B v i = v i) {c : Int} (hx : ∀ i, i < n → leE (x i) (ep (v i) (some c))) (k : Nat) : ∀ i, i < n → leE (vecF n (pwF n B k) x i) (ep (v i) (some c)) := by
  intro i hi
  rw [← eig_pw h k i hi, ← vecF_shift]
  refine es_lub fun j hj => ?_
  exact (ep_mono (leE.refl _) (hx j hj)).trans (es_le (f := fun j => ep (pwF n B k i j) (ep (v j) (some c))) hj)
theorem eig_down {n : Nat} {B : MF} {v x : Nat → E} (h : ∀ i, i < n → vecF n B v i = v i) {c : Int} (hx : ∀ i, i < n → leE (ep (v i) (some c)) (x i)) (k : Nat) : ∀ i, i < n → leE (ep (v i) (some c)) (vecF n (pwF n B k) x i) := by
  intro i hi
  rw [← eig_pw h k i hi, ← vecF_shift]
  refine es_lub fun j hj => ?_
  exact (ep_mono (leE.refl _) (hx j hj)).trans (es_le (f := fun j => ep (pwF n B k i j) (x j)) hj)
/-- the run in units of 1/q, relative to p a step -/
theorem run_lv {n : Nat} {A : MF} {p q : Int} (hq : 0 < q) (x : Nat → E) (k : Nat) : ∀ i, i < n → lvM p q k (vecF n (pwF n A k) x i) = vecF n (pwF n (lvF p q A) k) (fun j => lvM p q 0 (x j)) i := by
  intro i hi
  unfold vecF
  rw [lvM_es p q hq]
  refine es_congr fun j hj => ?_
  rw [show k = k + 0 from rfl, lvM_ep, lv_pw hq n A (k + 0) i hi j hj]
  rfl
/-- the eigenvector's numbers -/
def eigV (n : Nat) (B : MF) (f i : Nat) : Int := colZ n B f i - mnK (colL n B f) (n - 1)
theorem mnK_le (xs : List Int) : ∀ k j, j ≤ k → mnK xs k ≤ xs.getD j 0 := by
  intro k
  induction k with
  | zero => intro j hj; obtain rfl : j = 0 := by omega
            exact Int.le_refl _
  | succ k ih =>
    intro j hj
    simp only [mnK]
    by_cases e : j = k + 1
    · subst e
      split <;> omega
    · have := ih j (by omega)
      split <;> omega
theorem mnK_is (xs : List Int) : ∀ k, ∃ j, j ≤ k ∧ mnK xs k = xs.getD j 0 := by
  intro k
  induction k with
  | zero => exact ⟨0, Nat.le_refl _, rfl⟩
  | succ k ih =>
    obtain ⟨j, hj, e⟩ := ih
    simp only [mnK]
    split
    · exact ⟨k + 1, Nat.le_refl _, rfl⟩
    · exact ⟨j, by omega, e⟩
theorem colL_getD {n : Nat} (B : MF) (f : Nat) {i : Nat} (hi : i < n) : (colL n B f).getD i 0 = colZ n B f i := by
  rw [List.getD_eq_getElem?_getD, colL_at B f hi]; rfl
theorem eigV_min {n : Nat} (hn : 1 ≤ n) (B : MF) (f : Nat) : (∀ i, i < n → 0 ≤ eigV n B f i) ∧ ∃ i, i < n ∧ eigV n B f i = 0 := by
  constructor
  · intro i hi
    have := mnK_le (colL n B f) (n - 1) i (by omega)
    rw [colL_getD B f hi] at this
    unfold eigV
    omega
  · obtain ⟨j, hj, e⟩ := mnK_is (colL n B f) (n - 1)
    rw [colL_getD B f (by omega : j < n)] at e
    exact ⟨j, by omega, by unfold eigV; omega⟩
theorem eigV_bd {n f : Nat} {B : MF} (hn : 1 ≤ n) (h6 : n ≤ 6) (hB : bdF 12000 n B) (hf : f < n) (hc : ∀ i, i < n → ∃ y, closF n B i f = some y) : ∀ i, i < n → eigV n B f i ≤ 144000 := by
  intro i hi
  have h1 := colZ_bd hB h6 hf hc
  obtain ⟨j, hj, e⟩ := mnK_is (colL n B f) (n - 1)
  rw [colL_getD B f (by omega : j < n)] at e
  have := h1 i hi
  have := h1 j (by omega)
  unfold eigV
  omega
theorem eigV_eq {n : Nat} {A : MF} {p q : Int} {f : Nat} {rest : List Nat} (hn : 1 ≤ n) (h : spF n A = some (p, q)) (hc : connB n (lvF p q A) = true) (hcr : critL n (lvF p q A) n = f :: rest) :
    ∀ i, i < n → vecF n (lvF p q A) (fun j => some (eigV n (lvF p q A) f j)) i = some (eigV n (lvF p q A) f i) := by
  intro i hi
  obtain ⟨f', rest', h1, h2, h3⟩ := crit_ex hn h
  rw [hcr] at h1
  injection h1 with e1 e2
  subst e1
  have hNP := lv_noPos h
  have hS : ∀ j, j < n → ep (closF n (lvF p q A) j f) (some (- mnK (colL n (lvF p q A) f) (n - 1))) = some (eigV n (lvF p q A) f j) := fun j hj => by
    obtain ⟨y, hy⟩ := conn_some hc hj h2
    unfold eigV colZ
    rw [hy]
    show some (y + - _) = some (y - _)
    rw [Int.sub_eq_add_neg]
  rw [← hS i hi]
  have e := eig_eq hn hNP h2 h3 hi
  rw [show vecF n (lvF p q A) (fun j => some (eigV n (lvF p q A) f j)) i = vecF n (lvF p q A) (fun j => ep (closF n (lvF p q A) j f) (some (- mnK (colL n (lvF p q A) f) (n - 1)))) i from es_congr fun j hj => by
    show ep _ (some _) = ep _ (ep _ _)
    rw [hS j hj]]
  rw [vecF_shift, e]
theorem lvE_zero (p q : Int) (x : E) : lvE p q x = ep (lvE 0 q x) (some (-p)) := by
  cases x with
  | none => rfl
  | some a =>
    show some (q * a - p) = some (q * a - 0 + -p)
    congr 1
    omega
/-- the equation in the law's own form -/
theorem eig_law {n : Nat} {A : MF} {p q : Int} {f : Nat} {rest : List Nat} (hn : 1 ≤ n) (h : spF n A = some (p, q)) (hc : connB n (lvF p q A) = true) (hcr : critL n (lvF p q A) n = f :: rest) :
    ∀ i, i < n → es (fun j => ep (lvE 0 q (A i j)) (some (eigV n (lvF p q A) f j))) n = some (p + eigV n (lvF p q A) f i) := by
  intro i hi
  have e := eigV_eq hn h hc hcr i hi
  generalize eigV n (lvF p q A) f = V at *
  have e2 : ep (es (fun j => ep (lvE 0 q (A i j)) (some (V j))) n) (some (-p)) = some (V i) := by
    rw [es_ep, ← e]
    unfold vecF
    refine es_congr fun j _ => ?_
    show _ = ep (lvE p q (A i j)) (some (V j))
    rw [lvE_zero p q, ep_assoc, ep_assoc, ep_comm (some (V j))]
  cases hz : es (fun j => ep (lvE 0 q (A i j)) (some (V j))) n with
  | none => rw [hz] at e2; cases e2
  | some z =>
    rw [hz] at e2
    have e3 : z + -p = V i := by injection e2
    congr 1
    omega
/-- the run stays as near as it began -/
theorem eig_run {n : Nat} {A : MF} {p q : Int} {f : Nat} {rest : List Nat} (hn : 1 ≤ n) (h : spF n A = some (p, q)) (hc : connB n (lvF p q A) = true) (hcr : critL n (lvF p q A) n = f :: rest)
    {x : Nat → E} {X : Nat → Int} {lo hi : Int} (hx : ∀ i, i < n → x i = some (X i)) (hlo : ∀ i, i < n → lo ≤ q * X i - eigV n (lvF p q A) f i ∧ q * X i - eigV n (lvF p q A) f i ≤ hi) (k : Nat) :
    ∀ i, i < n → ∃ y, vecF n (pwF n A k) x i = some y ∧ lo ≤ q * y - k * p - eigV n (lvF p q A) f i ∧ q * y - k * p - eigV n (lvF p q A) f i ≤ hi := by
  intro i hi'
  have hq : 0 < q := (sp_parts h).choose_spec.2.2.2
  have e := eigV_eq hn h hc hcr
  generalize eigV n (lvF p q A) f = V at *
  have r := run_lv hq x k i hi' (A := A) (p := p)
  have hs : ∀ j, j < n → lvM p q 0 (x j) = some (q * X j) := fun j hj => by
    rw [hx j hj]
    show some (q * X j - p * 0) = _
    simp
  have u := eig_up (x := fun j => lvM p q 0 (x j)) (c := hi) e (fun j hj => by
    show leE (lvM p q 0 (x j)) (ep (some (V j)) (some hi))
    rw [hs j hj]
    refine leE_some.2 ?_
    have := hlo j hj
    omega) k i hi'
  have d := eig_down (x := fun j => lvM p q 0 (x j)) (c := lo) e (fun j hj => by
    show leE (ep (some (V j)) (some lo)) (lvM p q 0 (x j))
    rw [hs j hj]
    refine leE_some.2 ?_
    have := hlo j hj
    omega) k i hi'
  rw [← r] at u d
  cases hy : vecF n (pwF n A k) x i with
  | none =>
    rw [hy] at d
    exact absurd d (by intro hd; cases hd)
  | some y =>
    rw [hy] at u d
    have u' := leE_some.1 u
    have d' := leE_some.1 d
    have hpk : p * (k : Int) = (k : Int) * p := Int.mul_comm _ _
    refine ⟨y, rfl, ?_, ?_⟩ <;> omega
/-- the run's numbers are small -/
theorem run_bd {n : Nat} {A : MF} (bA : bdF 1000 n A) {x : Nat → E} (hx : ∀ i, i < n → bdE 1000000 (x i)) {k : Nat} (hk : k ≤ 1000) : ∀ i, i < n → bdE 2000000 (vecF n (pwF n A k) x i) := by
  intro i hi
  refine bdE_es fun j hj => ?_
  have := bdE_ep (bdF_pw bA k i hi j hj) (hx j hj)
  exact this.mono (by omega)
/-! What the law asks of it -/
theorem qz_bd {q z K : Int} (hq : 1 ≤ q ∧ q ≤ 6) (hz : -K ≤ z ∧ z ≤ K) : -(6 * K) ≤ q * z ∧ q * z ≤ 6 * K := by
  obtain ⟨h1, h2⟩ := hq
  have : q = 1 ∨ q = 2 ∨ q = 3 ∨ q = 4 ∨ q = 5 ∨ q = 6 := by omega
  rcases this with rfl | rfl | rfl | rfl | rfl | rfl <;> omega
theorem mul_bd2 {m p : Int} (hm : 0 ≤ m ∧ m ≤ 999) (hp : -6000 ≤ p ∧ p ≤ 6000) : -6000000 ≤ m * p ∧ m * p ≤ 6000000 := by
  have h1 : m * p ≤ m * 6000 := Int.mul_le_mul_of_nonneg_left hp.2 hm.1
  have h2 : m * (-6000) ≤ m * p := Int.mul_le_mul_of_nonneg_left hp.1 hm.1
  omega
theorem startF_small {x : List Int} {n : Nat} (h : ∀ j, j < n → -1000000 ≤ x.getD j 0 ∧ x.getD j 0 ≤ 1000000) : ∀ j, j < n → startF x j = some (x.getD j 0) := fun j hj => by
  have := h j hj
  unfold startF unv
  rw [if_neg]
  unfold NV
  omega
theorem vecB_small {x : List Int} {n : Nat} (hl : x.length = n) (h : ∀ j, j < n → -1000000 ≤ x.getD j 0 ∧ x.getD j 0 ≤ 1000000) : vecB x n = true := by
  unfold vecB
  rw [decide_eq_true hl, Bool.true_and, Bool.not_eq_true', Bool.eq_false_iff]
  intro e
  obtain ⟨z, hz, he⟩ := List.any_eq_true.1 e
  obtain ⟨j, hj⟩ := List.getElem?_of_mem hz
  have hb := h j (by have := lt_len hj; omega)
  rw [List.getD_eq_getElem?_getD, hj] at hb
  have hb2 : -1000000 ≤ z ∧ z ≤ 1000000 := hb
  rw [show vecE z = true by unfold vecE; rw [Bool.or_eq_true]; right; rw [Bool.and_eq_true, decide_eq_true_eq, decide_eq_true_eq]; omega] at he
  cases he
theorem run_small {A : List (List Int)} {x : List Int} (bA : bdF 1000 A.length (entF A)) (h : ∀ j, j < A.length → -1000000 ≤ x.getD j 0 ∧ x.getD j 0 ≤ 1000000) {m : Nat} (hm : m ≤ 999) : (runL A x m).any (fun z => !resE z) = false := by
  rw [Bool.eq_false_iff]
  intro e
  obtain ⟨z, hz, he⟩ := List.any_eq_true.1 e
  obtain ⟨j, hj⟩ := List.getElem?_of_mem hz
  have hl := lt_len hj
  unfold runL at hj hl
  rw [listV_len] at hl
  rw [listV_at _ hl] at hj
  injection hj with hj
  have hb := run_bd bA (x := startF x) (fun i hi => by rw [startF_small h i hi]; intro y hy; injection hy with hy; subst hy; exact h i hi) (k := m) (by omega) j hl
  rw [show resE z = true by
    rw [← hj]
    cases hv : vecF A.length (pwF A.length (entF A) m) (startF x) j with
    | none => rfl
    | some y =>
      have := hb y hv
      show resE y = true
      unfold resE; rw [Bool.or_eq_true]; right; rw [Bool.and_eq_true, decide_eq_true_eq, decide_eq_true_eq]; omega] at he
  cases he
theorem runL_len (A : List (List Int)) (x : List Int) (m : Nat) : (runL A x m).length = A.length := by unfold runL; exact listV_len _ _
/-- the run, as the law looks at it -/
theorem run_law {A : List (List Int)} {x : List Int} {p q : Int} {f : Nat} {rest : List Nat} (hn : 1 ≤ A.length) (bA : bdF 1000 A.length (entF A)) (h : spF A.length (entF A) = some (p, q)) (hc : connB A.length (lvF p q (entF A)) = true) (hcr : critL A.length (lvF p q (entF A)) A.length = f :: rest)
    (lo hi : Int) (hx : ∀ j, j < A.length → lo ≤ q * x.getD j 0 - eigV A.length (lvF p q (entF A)) f j ∧ q * x.getD j 0 - eigV A.length (lvF p q (entF A)) f j ≤ hi ∧ -1000000 ≤ x.getD j 0 ∧ x.getD j 0 ≤ 1000000) (m : Nat) (hm : m ≤ 999) :
    ∀ i, i < A.length → lo ≤ q * (runL A x m).getD i 0 - (m : Int) * p - eigV A.length (lvF p q (entF A)) f i ∧ q * (runL A x m).getD i 0 - (m : Int) * p - eigV A.length (lvF p q (entF A)) f i ≤ hi ∧ -2000000 ≤ (runL A x m).getD i 0 ∧ (runL A x m).getD i 0 ≤ 2000000 := by
  intro i hi'
  have hsm := startF_small (x := x) (n := A.length) (fun j hj => (hx j hj).2.2)
  obtain ⟨y, hy, h1, h2⟩ := eig_run (lo := lo) (hi := hi) hn h hc hcr hsm (fun j hj => ⟨(hx j hj).1, (hx j hj).2.1⟩) m i hi'
  have hb := run_bd bA (x := startF x) (fun i hi => by rw [hsm i hi]; intro y hy; injection hy with hy; subst hy; exact (hx i hi).2.2) (k := m) (by omega) i hi' y hy
  have hg : (runL A x m).getD i 0 = y := by
    rw [List.getD_eq_getElem?_getD]
    unfold runL
    rw [listV_at _ hi', hy]
    rfl
  rw [hg]
  exact ⟨h1, h2, hb.1, hb.2⟩
theorem ints_getD {w : World} {v : Value} {xs : List Int} (h : Ints w v xs) (h1 : 1 ≤ xs.length) : ∃ b o cap, v = .slice (some ⟨b, o, none⟩) xs.length cap ∧ ∀ i, i < xs.length → w.cell? ⟨b, o + i, none⟩ = some (.int .i64 (xs.getD i 0)) := by
  obtain ⟨a, cap, hv, _, _, hr⟩ := h.at
  obtain ⟨z, hz⟩ := getElem?_len (show 0 < xs.length by omega)
  obtain ⟨b, o, ha, _⟩ := hr 0 z hz
  refine ⟨b, o, cap, by rw [hv, ha], fun i hi => ?_⟩
  obtain ⟨y, hy⟩ := getElem?_len hi
  obtain ⟨b', o', ha', hc⟩ := hr i y hy
  rw [ha] at ha'
  simp only [Option.some.injEq, Addr.mk.injEq, and_true] at ha'
  obtain ⟨rfl, rfl⟩ := ha'
  rw [hc, List.getD_eq_getElem?_getD, hy]
  rfl
end Go.Proofs.Ytbcngojiikdigaa
