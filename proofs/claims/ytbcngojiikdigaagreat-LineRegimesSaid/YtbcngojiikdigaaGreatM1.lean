namespace Go.Proofs.YtbcngojiikdigaaGreat
/-- a number of the algebra: none is Never -/
abbrev E := Option Int
def NV : Int := -1152921504606846976
def val : E → Int
  | none => NV
  | some x => x
def ep : E → E → E
  | some x, some y => some (x + y)
  | _, _ => none
def em : E → E → E
  | none, y => y
  | x, none => x
  | some x, some y => some (if x < y then y else x)
theorem em_none (x : E) : em x none = x := by cases x <;> rfl
theorem none_em (x : E) : em none x = x := by cases x <;> rfl
theorem em_comm (x y : E) : em x y = em y x := by
  cases x <;> cases y <;> simp only [em]
  rename_i a b
  congr 1
  split <;> split <;> omega
theorem em_assoc (x y z : E) : em (em x y) z = em x (em y z) := by
  cases x <;> cases y <;> cases z <;> simp only [em]
  rename_i a b c
  congr 1
  split <;> split <;> (try split) <;> (try split) <;> omega
theorem em_idem (x : E) : em x x = x := by
  cases x <;> simp [em]
theorem ep_assoc (x y z : E) : ep (ep x y) z = ep x (ep y z) := by
  cases x <;> cases y <;> cases z <;> simp [ep, Int.add_assoc]
theorem ep_comm (x y : E) : ep x y = ep y x := by
  cases x <;> cases y <;> simp [ep, Int.add_comm]
theorem ep_none (x : E) : ep x none = none := by cases x <;> rfl
theorem none_ep (x : E) : ep none x = none := by cases x <;> rfl
theorem ep_zero (x : E) : ep x (some 0) = x := by cases x <;> simp [ep]
theorem zero_ep (x : E) : ep (some 0) x = x := by cases x <;> simp [ep]
theorem ep_em (x y z : E) : ep x (em y z) = em (ep x y) (ep x z) := by
  cases x <;> cases y <;> cases z <;> simp only [ep, em]
  rename_i a b c
  congr 1
  split <;> split <;> omega
theorem em_ep (x y z : E) : ep (em x y) z = em (ep x z) (ep y z) := by
  rw [ep_comm, ep_em, ep_comm z x, ep_comm z y]
/-- the greatest of f below n -/
def es (f : Nat → E) : Nat → E
  | 0 => none
  | n + 1 => em (es f n) (f n)
theorem es_congr {f g : Nat → E} : ∀ {n : Nat}, (∀ k, k < n → f k = g k) → es f n = es g n := by
  intro n
  induction n with
  | zero => intro _; rfl
  | succ n ih =>
    intro h
    simp only [es]
    rw [ih (fun k hk => h k (by omega)), h n (by omega)]
theorem es_none (n : Nat) : es (fun _ => none) n = none := by
  induction n with
  | zero => rfl
  | succ n ih => simp only [es, ih]; rfl
theorem em_swap (a b c d : E) : em (em a b) (em c d) = em (em a c) (em b d) := by
  rw [em_assoc, em_assoc, ← em_assoc b c d, em_comm b c, em_assoc c b d]
theorem es_em (f g : Nat → E) : ∀ n, es (fun k => em (f k) (g k)) n = em (es f n) (es g n) := by
  intro n
  induction n with
  | zero => rfl
  | succ n ih => simp only [es, ih]; exact em_swap _ _ _ _
theorem ep_es (x : E) (f : Nat → E) : ∀ n, ep x (es f n) = es (fun k => ep x (f k)) n := by
  intro n
  induction n with
  | zero => exact ep_none x
  | succ n ih => simp only [es, ep_em, ih]
theorem es_ep (x : E) (f : Nat → E) (n : Nat) : ep (es f n) x = es (fun k => ep (f k) x) n := by
  rw [ep_comm, ep_es]
  exact es_congr fun k _ => ep_comm _ _
theorem es_swap (f : Nat → Nat → E) (n m : Nat) : es (fun i => es (fun j => f i j) m) n = es (fun j => es (fun i => f i j) n) m := by
  induction n with
  | zero => simp only [es]; exact (es_none m).symm
  | succ n ih =>
    simp only [es, ih]
    rw [← es_em]
abbrev MF := Nat → Nat → E
def mulF (n : Nat) (A B : MF) : MF := fun i j => es (fun k => ep (A i k) (B k j)) n
def oneF : MF := fun i j => if i = j then some 0 else none
def addF (A B : MF) : MF := fun i j => em (A i j) (B i j)
def vecF (n : Nat) (A : MF) (x : Nat → E) : Nat → E := fun i => es (fun j => ep (A i j) (x j)) n
/-- the same entries below n -/
def eqF (n : Nat) (A B : MF) : Prop := ∀ i, i < n → ∀ j, j < n → A i j = B i j
theorem eqF.refl (n : Nat) (A : MF) : eqF n A A := fun _ _ _ _ => rfl
theorem eqF.symm {n : Nat} {A B : MF} (h : eqF n A B) : eqF n B A := fun i hi j hj => (h i hi j hj).symm
theorem eqF.trans {n : Nat} {A B C : MF} (h : eqF n A B) (k : eqF n B C) : eqF n A C := fun i hi j hj => (h i hi j hj).trans (k i hi j hj)
theorem mulF_congr {n : Nat} {A B C D : MF} (h : eqF n A C) (k : eqF n B D) : eqF n (mulF n A B) (mulF n C D) := fun i hi j hj =>
  es_congr fun l hl => by rw [h i hi l hl, k l hl j hj]
theorem mulF_assoc (n : Nat) (A B C : MF) : mulF n (mulF n A B) C = mulF n A (mulF n B C) := by
  funext i j
  unfold mulF
  have h1 : es (fun k => ep (es (fun l => ep (A i l) (B l k)) n) (C k j)) n = es (fun k => es (fun l => ep (A i l) (ep (B l k) (C k j))) n) n :=
    es_congr fun k _ => by rw [es_ep]; exact es_congr fun l _ => ep_assoc _ _ _
  rw [h1, es_swap]
  exact es_congr fun l _ => (ep_es _ _ _).symm
theorem es_one {f : Nat → E} {i : Nat} : ∀ {n : Nat}, i < n → (∀ k, k < n → k ≠ i → f k = none) → es f n = f i := by
  intro n
  induction n with
  | zero => intro h; omega
  | succ n ih =>
    intro h hf
    simp only [es]
    by_cases e : i = n
    · subst e
      rw [es_congr (g := fun _ => none) (fun k hk => hf k (by omega) (by omega)), es_none]
      exact none_em _
    · rw [ih (by omega) (fun k hk hk2 => hf k (by omega) hk2), hf n (by omega) (fun h => e h.symm)]
      exact em_none _
theorem mulF_one (n : Nat) (A : MF) : eqF n (mulF n A oneF) A := fun i hi j hj => by
  show es (fun k => ep (A i k) (oneF k j)) n = A i j
  rw [es_one (i := j) hj (fun k _ hk => by simp [oneF, hk, ep_none])]
  simp [oneF, ep_zero]
theorem one_mulF (n : Nat) (A : MF) : eqF n (mulF n oneF A) A := fun i hi j hj => by
  show es (fun k => ep (oneF i k) (A k j)) n = A i j
  rw [es_one (i := i) hi (fun k _ hk => by unfold oneF; rw [if_neg (fun h => hk h.symm)]; exact none_ep _)]
  simp [oneF, zero_ep]
/-- the power -/
def pwF (n : Nat) (A : MF) : Nat → MF
  | 0 => oneF
  | k + 1 => mulF n (pwF n A k) A
theorem pwF_add (n : Nat) (A : MF) (j : Nat) : ∀ k, eqF n (pwF n A (j + k)) (mulF n (pwF n A j) (pwF n A k)) := by
  intro k
  induction k with
  | zero => exact (mulF_one n _).symm
  | succ k ih =>
    show eqF n (mulF n (pwF n A (j + k)) A) (mulF n (pwF n A j) (mulF n (pwF n A k) A))
    rw [← mulF_assoc]
    exact mulF_congr ih (eqF.refl _ _)
theorem pwF_congr {n : Nat} {A B : MF} (h : eqF n A B) : ∀ k, eqF n (pwF n A k) (pwF n B k) := by
  intro k
  induction k with
  | zero => exact eqF.refl _ _
  | succ k ih => exact mulF_congr ih h
theorem pwF_mul (n : Nat) (A : MF) (j : Nat) : ∀ k, eqF n (pwF n (pwF n A j) k) (pwF n A (j * k)) := by
  intro k
  induction k with
  | zero => exact eqF.refl _ _
  | succ k ih =>
    rw [Nat.mul_succ]
    exact (mulF_congr ih (eqF.refl _ _)).trans (pwF_add n A _ _).symm
theorem vecF_mul (n : Nat) (A B : MF) (x : Nat → E) : ∀ i, vecF n (mulF n A B) x i = vecF n A (vecF n B x) i := by
  intro i
  unfold vecF mulF
  have h1 : es (fun j => ep (es (fun k => ep (A i k) (B k j)) n) (x j)) n = es (fun j => es (fun k => ep (A i k) (ep (B k j) (x j))) n) n :=
    es_congr fun k _ => by rw [es_ep]; exact es_congr fun l _ => ep_assoc _ _ _
  rw [h1, es_swap]
  exact es_congr fun l _ => (ep_es _ _ _).symm
/-- the numbers are within a bound -/
def bdE (K : Int) (x : E) : Prop := ∀ y, x = some y → -K ≤ y ∧ y ≤ K
def bdF (K : Int) (n : Nat) (A : MF) : Prop := ∀ i, i < n → ∀ j, j < n → bdE K (A i j)
theorem bdE_none (K : Int) : bdE K none := fun y h => by cases h
theorem bdE.mono {K L : Int} {x : E} (h : bdE K x) (hK : K ≤ L) : bdE L x := fun y hy => by have := h y hy; omega
theorem bdE_em {K : Int} {x y : E} (hx : bdE K x) (hy : bdE K y) : bdE K (em x y) := by
  cases x with
  | none => rw [none_em]; exact hy
  | some a =>
    cases y with
    | none => exact hx
    | some b =>
      intro z hz
      simp only [em, Option.some.injEq] at hz
      have h1 := hx a rfl
      have h2 := hy b rfl
      split at hz <;> omega
theorem bdE_ep {K L : Int} {x y : E} (hx : bdE K x) (hy : bdE L y) : bdE (K + L) (ep x y) := by
  cases x with
  | none => rw [none_ep]; exact bdE_none _
  | some a =>
    cases y with
    | none => exact bdE_none _
    | some b =>
      intro z hz
      simp only [ep, Option.some.injEq] at hz
      have h1 := hx a rfl
      have h2 := hy b rfl
      omega
theorem bdE_es {K : Int} {f : Nat → E} : ∀ {n : Nat}, (∀ k, k < n → bdE K (f k)) → bdE K (es f n) := by
  intro n
  induction n with
  | zero => intro _; exact bdE_none _
  | succ n ih =>
    intro h
    exact bdE_em (ih (fun k hk => h k (by omega))) (h n (by omega))
theorem bdF.mono {K L : Int} {n : Nat} {A : MF} (h : bdF K n A) (hK : K ≤ L) : bdF L n A := fun i hi j hj => (h i hi j hj).mono hK
theorem bdF_mul {K L : Int} {n : Nat} {A B : MF} (hA : bdF K n A) (hB : bdF L n B) : bdF (K + L) n (mulF n A B) := fun i hi j hj => bdE_es fun k hk => bdE_ep (hA i hi k hk) (hB k hk j hj)
theorem bdF_one (n : Nat) : bdF 0 n oneF := fun i _ j _ y hy => by
  unfold oneF at hy
  split at hy
  · injection hy with hy; omega
  · cases hy
theorem bdF_pw {K : Int} {n : Nat} {A : MF} (hA : bdF K n A) : ∀ k : Nat, bdF (K * k) n (pwF n A k) := by
  intro k
  induction k with
  | zero => exact (bdF_one n).mono (by simp)
  | succ k ih =>
    have := bdF_mul ih hA
    have e : K * ((k + 1 : Nat) : Int) = K * (k : Int) + K := by rw [Int.natCast_add, Int.mul_add]; simp
    rw [e]
    exact this
theorem val_inj {K : Int} (hK : K < 1152921504606846976) {x y : E} (hx : bdE K x) (hy : bdE K y) (h : val x = val y) : x = y := by
  cases x with
  | none =>
    cases y with
    | none => rfl
    | some b => have := hy b rfl; simp only [val, NV] at h; omega
  | some a =>
    cases y with
    | none => have := hx a rfl; simp only [val, NV] at h; omega
    | some b => simp only [val] at h; rw [h]
/-- the number that this is -/
def unv (x : Int) : E := if x = NV then none else some x
theorem val_unv (x : Int) : val (unv x) = x := by
  unfold unv
  split
  · rename_i h; rw [h]; rfl
  · rfl
end Go.Proofs.YtbcngojiikdigaaGreat
