import Derived.Test.YtnoacppfgckohaaM5
namespace Go.Proofs.Ytnoacppfgckohaa
open Go.RowKit
def Lin (f : Pt → Int) : Prop := ∀ a b, f (addP a b) = f a + f b
theorem lin_fst : Lin fun x => x.1 := fun a b => by simp only [addP]; omega
theorem lin_snd : Lin fun x => x.2 := fun a b => by simp only [addP]; omega
theorem lin_left (u : Pt) : Lin fun x => crossP u x := fun a b => by simp only [crossP, crossZ, addP]; grind
theorem lin_right (u : Pt) : Lin fun x => crossP x u := fun a b => by simp only [crossP, crossZ, addP]; grind
theorem lin_lr {f : Pt → Int} (hf : Lin f) (ps : List Pt) (k : Nat) : f (toP ps k) = f (fromP ps k) + f (stepP ps k) := by
  have : toP ps k = addP (stepP ps k) (fromP ps k) := by
    unfold addP stepP; exact Prod.ext (by simp only; omega) (by simp only; omega)
  rw [this, hf]; omega
theorem take_steps (ps : List Pt) {k : Nat} (hk : k ≤ ps.length) : (stepsOf ps).take k = stepsTo ps k := by
  unfold stepsOf stepsTo
  rw [← List.map_take, List.take_range, Nat.min_eq_left hk]
theorem path_get {f : Pt → Int} (hf : Lin f) (ps : List Pt) : ∀ k, k < ps.length → f (fromP ps k) = f (fromP ps 0) + sumF f ((stepsOf ps).take k) := by
  intro k
  induction k with
  | zero => intro _; simp [sumF]
  | succ k ih =>
    intro hk
    have h1 := ih (by omega)
    rw [take_steps ps (by omega)] at h1 ⊢
    rw [stepsTo_succ, sumF_append]
    have h2 := lin_lr hf ps k
    have h3 : toP ps k = fromP ps (k + 1) := by unfold toP fromP; rw [Nat.mod_eq_of_lt hk]
    rw [h3] at h2
    simp only [sumF]
    omega
theorem path_sum {f : Pt → Int} (hf : Lin f) (ps : List Pt) : sumF f (stepsOf ps) = 0 := by
  by_cases h0 : ps.length = 0
  · have : stepsOf ps = [] := List.eq_nil_of_length_eq_zero (by rw [stepsOf_length, h0])
    rw [this]; rfl
  obtain ⟨m, hm⟩ : ∃ m, ps.length = m + 1 := ⟨ps.length - 1, by omega⟩
  have h1 := path_get hf ps m (by omega)
  have h2 := lin_lr hf ps m
  have h3 : toP ps m = fromP ps 0 := by unfold toP fromP; rw [← hm, Nat.mod_self]
  rw [take_steps ps (by omega)] at h1
  have h4 : stepsOf ps = stepsTo ps m ++ [stepP ps m] := by rw [← stepsTo_succ, ← hm]; rfl
  rw [h4, sumF_append]
  rw [h3] at h2
  simp only [sumF]
  omega
theorem starts_length : ∀ (a : Pt) (l : List Pt), (starts a l).length = l.length
  | _, [] => rfl
  | a, d :: l => by simp only [starts, List.length_cons, starts_length]
theorem starts_get {f : Pt → Int} (hf : Lin f) : ∀ (l : List Pt) (a : Pt) (k : Nat), k < l.length → f (fromP (starts a l) k) = f a + sumF f (l.take k)
  | [], _, _, h => by simp at h
  | d :: l, a, 0, _ => by show f a = f a + 0; omega
  | d :: l, a, k + 1, h => by
    have ih := starts_get hf l (addP d a) k (by simpa using h)
    show f (fromP (starts (addP d a) l) k) = _
    rw [ih, hf]
    simp only [List.take_succ_cons, sumF]
    omega
theorem pt_ext {a b : Pt} (h1 : a.1 = b.1) (h2 : a.2 = b.2) : a = b := Prod.ext h1 h2
theorem take_one {l : List Pt} {k : Nat} (h : k < l.length) : l.take (k + 1) = l.take k ++ [fromP l k] := by
  rw [List.take_add_one, List.getElem?_eq_getElem h]
  unfold fromP
  rw [List.getD_eq_getElem?_getD, List.getElem?_eq_getElem h]
  rfl
theorem starts_step {a : Pt} {l : List Pt} (h1 : sumF (fun x => x.1) l = 0) (h2 : sumF (fun x => x.2) l = 0) {k : Nat} (hk : k < l.length) : stepP (starts a l) k = fromP l k := by
  have key : ∀ f : Pt → Int, Lin f → sumF f l = 0 → f (toP (starts a l) k) - f (fromP (starts a l) k) = f (fromP l k) := by
    intro f hf hz
    have hto : toP (starts a l) k = fromP (starts a l) ((k + 1) % l.length) := by unfold toP fromP; rw [starts_length]
    rw [hto, starts_get hf l a _ (Nat.mod_lt _ (by omega)), starts_get hf l a _ hk]
    by_cases he : k + 1 = l.length
    · rw [he, Nat.mod_self, List.take_zero]
      have : l = l.take k ++ [fromP l k] := by rw [← take_one hk, he, List.take_length]
      rw [this, sumF_append] at hz
      simp only [sumF] at hz ⊢
      omega
    · rw [Nat.mod_eq_of_lt (by omega), take_one hk, sumF_append]
      simp only [sumF]
      omega
  exact pt_ext (key _ lin_fst h1) (key _ lin_snd h2)
theorem starts_steps {a : Pt} {l : List Pt} (h1 : sumF (fun x => x.1) l = 0) (h2 : sumF (fun x => x.2) l = 0) : stepsOf (starts a l) = l := by
  apply List.ext_getElem?
  intro i
  by_cases hi : i < l.length
  · have : (stepsOf (starts a l))[i]? = some (stepP (starts a l) i) := by
      unfold stepsOf
      rw [List.getElem?_map, List.getElem?_range (by rw [starts_length]; exact hi)]
      rfl
    rw [this, starts_step h1 h2 hi, List.getElem?_eq_getElem hi]
    unfold fromP
    rw [List.getD_eq_getElem?_getD, List.getElem?_eq_getElem hi]
    rfl
  · rw [List.getElem?_eq_none (by rw [stepsOf_length, starts_length]; omega), List.getElem?_eq_none (by omega)]
theorem sumF_zero {f : Pt → Int} : ∀ {l : List Pt}, (∀ x ∈ l, f x ≤ 0) → sumF f l = 0 → ∀ x ∈ l, f x = 0
  | [], _, _, x, hx => by simp at hx
  | y :: l, h, hz, x, hx => by
    have h1 := h y (by simp)
    have h2 := sumF_neg (l := l) fun z hz' => h z (by simp [hz'])
    simp only [sumF] at hz
    rcases List.mem_cons.1 hx with rfl | hx
    · omega
    · exact sumF_zero (fun z hz' => h z (by simp [hz'])) (by omega) x hx
theorem flat {u : Pt} (hu : u ≠ (0, 0)) {l : List Pt} (h : ∀ x ∈ l, crossP u x ≤ 0) (hz : sumF (fun x => crossP u x) l = 0) : ∀ x ∈ l, ∀ y ∈ l, crossP x y = 0 := by
  intro x hx y hy
  have hx0 := sumF_zero h hz x hx
  have hy0 := sumF_zero h hz y hy
  unfold crossP crossZ at *
  by_cases h2 : u.2 = 0
  · have h1 : u.1 ≠ 0 := fun e => hu (pt_ext e h2)
    have : u.1 * (x.1 * y.2 - x.2 * y.1) = 0 := by grind
    exact (Int.mul_eq_zero.1 this).resolve_left h1
  · have : u.2 * (x.1 * y.2 - x.2 * y.1) = 0 := by grind
    exact (Int.mul_eq_zero.1 this).resolve_left h2
theorem cross_anti (a b : Pt) : crossP b a = -crossP a b := by unfold crossP crossZ; grind
theorem cross_self (a : Pt) : crossP a a = 0 := by unfold crossP crossZ; grind
theorem lt_cross {a b : Pt} (h : ltA a b) (hs : sinksB a.1 a.2 = sinksB b.1 b.2) : 0 < crossP a b := by
  rcases h with ⟨h1, h2⟩ | ⟨_, h⟩
  · rw [h1, h2] at hs; cases hs
  · exact h
theorem lt_up {a b : Pt} (h : ltA a b) (hb : sinksB b.1 b.2 = false) : sinksB a.1 a.2 = false := by
  rcases h with ⟨_, h2⟩ | ⟨h1, _⟩
  · rw [h2] at hb; cases hb
  · rw [h1, hb]
theorem lt_down {a b : Pt} (h : ltA a b) (ha : sinksB a.1 a.2 = true) : sinksB b.1 b.2 = true := by
  rcases h with ⟨h1, _⟩ | ⟨h1, _⟩
  · rw [h1] at ha; cases ha
  · rw [← h1, ha]
theorem neg_up {a : Pt} (h : sinksB a.1 a.2 = true) : 0 < (negP a).2 ∨ ((negP a).2 = 0 ∧ 0 < (negP a).1) := down_up (down_of h)
theorem from_mem {l : List Pt} {k : Nat} (h : k < l.length) : fromP l k ∈ l := by
  unfold fromP
  rw [List.getD_eq_getElem?_getD, List.getElem?_eq_getElem h]
  exact List.getElem_mem _
theorem mem_from {l : List Pt} {x : Pt} (h : x ∈ l) : ∃ k, k < l.length ∧ fromP l k = x := by
  obtain ⟨k, hk, e⟩ := List.getElem_of_mem h
  refine ⟨k, hk, ?_⟩
  unfold fromP
  rw [List.getD_eq_getElem?_getD, List.getElem?_eq_getElem hk, ← e]
  rfl
theorem pair_lt {R : Pt → Pt → Prop} {l : List Pt} (h : l.Pairwise R) {i j : Nat} (hij : i < j) (hj : j < l.length) : R (fromP l i) (fromP l j) := by
  have := List.pairwise_iff_getElem.1 h i j (by omega) hj hij
  unfold fromP
  rw [List.getD_eq_getElem?_getD, List.getD_eq_getElem?_getD, List.getElem?_eq_getElem hj, List.getElem?_eq_getElem (show i < l.length by omega)]
  exact this
/-- strictly sorted directions that add up to nothing turn to the left everywhere, unless they lie on one line -/
theorem turns {l : List Pt} (h0 : ∀ x ∈ l, x ≠ (0, 0)) (hs : l.Pairwise ltA) (hz : ∀ f, Lin f → sumF f l = 0) (hc : ∃ x ∈ l, ∃ y ∈ l, crossP x y ≠ 0) :
    3 ≤ l.length ∧ ∀ i, i < l.length → 0 < crossP (fromP l (prevI l.length i)) (fromP l i) := by
  obtain ⟨x0, hx0, y0, hy0, hne⟩ := hc
  have no : ∀ u ∈ l, ¬ ∀ x ∈ l, crossP u x ≤ 0 := fun u hu h => hne (flat (h0 u hu) h (hz _ (lin_left u)) x0 hx0 y0 hy0)
  have hn : 0 < l.length := List.length_pos_of_mem hx0
  have ht : ∀ i, i < l.length → 0 < crossP (fromP l (prevI l.length i)) (fromP l i) := by
    intro i hi
    refine Classical.byContradiction fun hle => ?_
    by_cases hi0 : i = 0
    · subst hi0
      have e : prevI l.length 0 = l.length - 1 := rfl
      rw [e] at hle
      refine no (fromP l (l.length - 1)) (from_mem (by omega)) fun x hx => ?_
      obtain ⟨k, hk, rfl⟩ := mem_from hx
      by_cases hkl : k = l.length - 1
      · subst hkl; have := cross_self (fromP l (l.length - 1)); omega
      · have h1 := pair_lt hs (show k < l.length - 1 by omega) (by omega)
        by_cases hsk : sinksB (fromP l k).1 (fromP l k).2 = sinksB (fromP l (l.length - 1)).1 (fromP l (l.length - 1)).2
        · have := lt_cross h1 hsk
          have := cross_anti (fromP l k) (fromP l (l.length - 1))
          omega
        · rcases h1 with ⟨ku, kd⟩ | ⟨k1, _⟩
          · by_cases hk0 : k = 0
            · subst hk0; omega
            · have h2 := pair_lt hs (show 0 < k by omega) hk
              have h3 := lt_up h2 ku
              have h4 := lt_cross h2 (by rw [h3, ku])
              have q1 := cross_anti (fromP l k) (fromP l (l.length - 1))
              have q2 := cross_anti (fromP l 0) (fromP l (l.length - 1))
              have n1 := up_ntrans (a := fromP l k) (b := fromP l 0) (c := negP (fromP l (l.length - 1))) (up_of ku (h0 _ (from_mem hk))) (up_of h3 (h0 _ (from_mem hn))) (neg_up kd)
                (by have := cross_anti (fromP l 0) (fromP l k); unfold crossP at *; omega) (by have := cross_neg2 (fromP l 0) (fromP l (l.length - 1)); unfold crossP at *; omega)
              have := cross_neg2 (fromP l k) (fromP l (l.length - 1))
              unfold crossP at *
              omega
          · exact absurd k1 hsk
    · have e : prevI l.length i = i - 1 := by unfold prevI; rw [if_neg hi0]
      rw [e] at hle
      have h1 := pair_lt hs (show i - 1 < i by omega) hi
      have hud : sinksB (fromP l (i - 1)).1 (fromP l (i - 1)).2 = false ∧ sinksB (fromP l i).1 (fromP l i).2 = true := by
        rcases h1 with h1 | ⟨_, h1⟩
        · exact h1
        · unfold crossP at hle; omega
      refine no (fromP l (i - 1)) (from_mem (by omega)) fun x hx => ?_
      obtain ⟨k, hk, rfl⟩ := mem_from hx
      rcases Nat.lt_trichotomy k (i - 1) with hki | hki | hki
      · have h2 := pair_lt hs hki (by omega)
        have h3 := lt_up h2 hud.1
        have := lt_cross h2 (by rw [h3, hud.1])
        have := cross_anti (fromP l k) (fromP l (i - 1))
        omega
      · subst hki; have := cross_self (fromP l (i - 1)); omega
      · by_cases hki2 : k = i
        · subst hki2; omega
        · have h2 := pair_lt hs (show i < k by omega) hk
          have h3 := lt_down h2 hud.2
          have h4 := lt_cross h2 (by rw [h3, hud.2])
          have n1 := up_ntrans (a := negP (fromP l k)) (b := negP (fromP l i)) (c := fromP l (i - 1)) (neg_up h3) (neg_up hud.2) (up_of hud.1 (h0 _ (from_mem (by omega))))
            (by have := crossP_neg (fromP l k) (fromP l i); have := cross_anti (fromP l i) (fromP l k); unfold crossP at *; omega)
            (by have := cross_neg2 (fromP l (i - 1)) (fromP l i); have := cross_anti (fromP l (i - 1)) (negP (fromP l i)); unfold crossP at *; omega)
          have := cross_neg2 (fromP l (i - 1)) (fromP l k)
          have := cross_anti (fromP l (i - 1)) (negP (fromP l k))
          unfold crossP at *
          omega
  refine ⟨?_, ht⟩
  refine Classical.byContradiction fun h3 => ?_
  have a0 := ht 0 hn
  have a1 := ht (l.length - 1) (by omega)
  have e : prevI l.length 0 = l.length - 1 := rfl
  rw [e] at a0
  by_cases h1 : l.length = 1
  · rw [h1] at a0
    have := cross_self (fromP l 0)
    simp only [Nat.sub_self] at a0
    omega
  · have h2 : l.length = 2 := by omega
    rw [h2] at a0 a1
    have e1 : prevI 2 (2 - 1) = 0 := rfl
    rw [e1] at a1
    have := cross_anti (fromP l 0) (fromP l (2 - 1))
    omega
end Go.Proofs.Ytnoacppfgckohaa
