import Derived.Test.YtnpebfchojalcaaMX
namespace Go.Proofs.Ytnpebfchojalcaa
/-- on which side of the line from a to b the point z lies -/
def triP (a b z : Pt) : Int := (b.1 - a.1) * (z.2 - a.2) - (b.2 - a.2) * (z.1 - a.1)
def leftB (a b v : Pt) : Bool := decide (0 < triP a b v)
/-- not lower than: a is b or lies below it -/
def leP (a b : Pt) : Prop := ¬ lowP b a
theorem leP_iff (a b : Pt) : leP a b ↔ (0 < b.2 - a.2 ∨ (b.2 - a.2 = 0 ∧ 0 ≤ b.1 - a.1)) := by unfold leP lowP; omega
theorem leP_refl (a : Pt) : leP a a := low_irrefl a
theorem leP_trans {a b c : Pt} (h : leP a b) (k : leP b c) : leP a c := by rw [leP_iff] at *; omega
theorem leP_anti {a b : Pt} (h : leP a b) (k : leP b a) : a = b := by
  rw [leP_iff] at h k
  exact Prod.ext (by omega) (by omega)
theorem leP_ne {a b : Pt} (h : leP a b) (k : a ≠ b) : lowP a b := by
  rw [leP_iff] at h
  unfold lowP
  by_cases h1 : a.1 = b.1
  · by_cases h2 : a.2 = b.2
    · exact absurd (Prod.ext h1 h2) k
    · omega
  · omega
theorem leP_of {a b : Pt} (h : lowP a b) : leP a b := by unfold leP lowP at *; omega
/-- turning on in the upper half -/
theorem turn_on {p1 p2 e1 e2 q1 q2 : Int} (hp : 0 < p2 ∨ (p2 = 0 ∧ 0 ≤ p1)) (hq : 0 < q2 ∨ (q2 = 0 ∧ 0 ≤ q1)) (he : 0 < e2 ∨ (e2 = 0 ∧ 0 < e1))
    (h1 : 0 ≤ p1 * e2 - p2 * e1) (h2 : 0 ≤ e1 * q2 - e2 * q1) : 0 ≤ p1 * q2 - p2 * q1 := by
  have hp2 : 0 ≤ p2 := by omega
  have hq2 : 0 ≤ q2 := by omega
  rcases he with he | ⟨rfl, he⟩
  · have k1 := Int.mul_nonneg hp2 h2
    have k2 := Int.mul_nonneg hq2 h1
    have k : e2 * (p1 * q2 - p2 * q1) = p2 * (e1 * q2 - e2 * q1) + q2 * (p1 * e2 - p2 * e1) := by grind
    have k3 : 0 ≤ e2 * (p1 * q2 - p2 * q1) := by omega
    exact Int.nonneg_of_mul_nonneg_right k3 he
  · have k : p2 * e1 ≤ 0 := by omega
    have k2 : p2 = 0 := by
      rcases Int.lt_or_eq_of_le hp2 with h | h
      · have := Int.mul_pos h he
        omega
      · exact h.symm
    subst k2
    have : 0 ≤ p1 * q2 := Int.mul_nonneg (by omega) hq2
    omega
theorem tri_move (a b z : Pt) : triP a b z = (b.1 - a.1) * (z.2 - b.2) - (b.2 - a.2) * (z.1 - b.1) := by unfold triP; grind
theorem tri_self (a z : Pt) : triP a a z = 0 := by unfold triP; simp
theorem tri_first (a b : Pt) : triP a b a = 0 := by unfold triP; simp
theorem tri_last (a b : Pt) : triP a b b = 0 := by unfold triP; grind
/-- what has been put on the way so far, the last one first -/
def popP : List Pt → Pt → List Pt
  | b :: a :: l, v => if leftB a b v = true then b :: a :: l else popP (a :: l) v
  | [b], _ => [b]
  | [], _ => []
def bendS (l : List Pt) : List Pt := l.foldl (fun st v => v :: popP st v) []
/-- the edges of a stack have all of S on their left -/
def Sup (S : Pt → Prop) : List Pt → Prop
  | b :: a :: l => leP a b ∧ (∀ z, S z → 0 ≤ triP a b z) ∧ Sup S (a :: l)
  | _ => True
def Bends : List Pt → Prop
  | c :: b :: a :: l => 0 < triP a b c ∧ Bends (b :: a :: l)
  | _ => True
theorem Bends.tail {b : Pt} {l : List Pt} (h : Bends (b :: l)) : Bends l := by
  match l, h with
  | [], _ => trivial
  | [a], _ => trivial
  | a :: c :: l, h => exact h.2
theorem Sup.tail {S : Pt → Prop} {b : Pt} {l : List Pt} (h : Sup S (b :: l)) : Sup S l := by
  match l, h with
  | [], _ => trivial
  | a :: l, h => exact h.2.2
theorem tri_ne {a b z : Pt} (h : 0 < triP a b z) : a ≠ b := fun e => by rw [e, tri_self] at h; exact absurd h (by decide)
/-- the edges below one that has v on its left have it there too -/
theorem sup_on {S : Pt → Prop} (v : Pt) : ∀ (l : List Pt) (b a : Pt), Sup S (b :: a :: l) → Bends (b :: a :: l) → 0 ≤ triP a b v → leP b v → Sup (fun z => S z ∨ z = v) (b :: a :: l) := by
  intro l
  induction l with
  | nil =>
    intro b a h hb hv _
    refine ⟨h.1, fun z hz => ?_, trivial⟩
    rcases hz with hz | rfl
    · exact h.2.1 z hz
    · exact hv
  | cons c l ih =>
    intro b a h hb hv hbv
    refine ⟨h.1, fun z hz => ?_, ?_⟩
    · rcases hz with hz | rfl
      · exact h.2.1 z hz
      · exact hv
    · have hab : leP a v := leP_trans h.1 hbv
      refine ih a c h.2.2 hb.2 ?_ hab
      have t := hb.1
      have h1 := h.1
      have h2 := h.2.2.1
      have hne : ¬ (b.1 - a.1 = 0 ∧ b.2 - a.2 = 0) := fun e => by
        rw [tri_move, e.1, e.2] at t
        simp at t
      rw [leP_iff] at h1 h2 hab
      rw [tri_move] at t ⊢
      unfold triP at hv
      exact turn_on h2 hab (by omega) (by omega) hv
/-- what is known of a stack while points are popped off it -/
def Topped (S : Pt → Prop) (v b : Pt) (l : List Pt) : Prop :=
  (∀ z, S z → leP z b) ∨ ∃ u, leP b u ∧ (b ≠ u ∨ ∀ z, S z → z = b) ∧ (∀ z, S z → 0 ≤ triP b u z) ∧ triP b u v ≤ 0 ∧ Bends (u :: b :: l)
theorem pop_spec {S : Pt → Prop} {v f : Pt} (hv : ∀ z, S z → leP z v) (hf : ∀ z, S z → leP f z) :
    ∀ (l : List Pt) (b : Pt), (b :: l).getLast? = some f → Sup S (b :: l) → Bends (b :: l) → (∀ x ∈ b :: l, S x) → Topped S v b l →
    ∃ b' l', popP (b :: l) v = b' :: l' ∧ (b' :: l').getLast? = some f ∧ Sup (fun z => S z ∨ z = v) (v :: b' :: l') ∧ Bends (v :: b' :: l') ∧ (∀ x ∈ b' :: l', S x) := by
  intro l
  induction l with
  | nil =>
    intro b hl _ _ hm ht
    obtain rfl : b = f := by simpa using hl
    have hb := hm b (by simp)
    refine ⟨b, [], rfl, hl, ⟨hv b hb, fun z hz => ?_, trivial⟩, trivial, hm⟩
    rcases hz with hz | rfl
    · have all : (∀ z, S z → z = b) → 0 ≤ triP b v z := fun h => by rw [h z hz, tri_first]; decide
      rcases ht with ht | ⟨u, h1, h2, h3, h4, _⟩
      · exact all fun z hz => leP_anti (ht z hz) (hf z hz)
      · rcases h2 with h2 | h2
        · have hbv := hv b hb
          have hbz := hf z hz
          have h5 := leP_ne h1 h2
          have h6 := h3 z hz
          rw [leP_iff] at hbv hbz
          unfold triP at h4 h6 ⊢
          unfold lowP at h5
          exact turn_on hbv hbz (e1 := u.1 - b.1) (e2 := u.2 - b.2) (by omega) (by grind) h6
        · exact all h2
    · rw [tri_last]; decide
  | cons a l ih =>
    intro b hl hs hb hm ht
    by_cases hlt : leftB a b v = true
    · have hp : popP (b :: a :: l) v = b :: a :: l := by simp only [popP]; rw [if_pos hlt]
      have hpos : 0 < triP a b v := by unfold leftB at hlt; exact of_decide_eq_true hlt
      have hbv := hv b (hm b (by simp))
      refine ⟨b, a :: l, hp, hl, ⟨hbv, fun z hz => ?_, sup_on v l b a hs hb (by omega) hbv⟩, ⟨hpos, hb⟩, hm⟩
      rcases hz with hz | rfl
      · have s1 := hs.2.1 z hz
        have hab := hs.1
        have hne := tri_ne hpos
        have h5 := leP_ne hab hne
        rcases ht with ht | ⟨u, h1, h2, h3, h4, h6⟩
        · have hzb := ht z hz
          rw [leP_iff] at hbv hzb
          rw [tri_move] at s1 hpos
          unfold lowP at h5
          have := turn_on hzb hbv (e1 := b.1 - a.1) (e2 := b.2 - a.2) (by omega) (by grind) (by grind)
          unfold triP
          grind
        · have k1 := h6.1
          have k2 := h3 z hz
          rw [tri_move] at s1 hpos k1
          unfold triP at h4 k2 ⊢
          have m1 := Int.mul_nonneg (show 0 ≤ -((u.1 - b.1) * (v.2 - b.2) - (u.2 - b.2) * (v.1 - b.1)) by omega) s1
          have m2 := Int.mul_nonneg (Int.le_of_lt hpos) k2
          have e : ((b.1 - a.1) * (u.2 - b.2) - (b.2 - a.2) * (u.1 - b.1)) * ((v.1 - b.1) * (z.2 - b.2) - (v.2 - b.2) * (z.1 - b.1)) =
            -((u.1 - b.1) * (v.2 - b.2) - (u.2 - b.2) * (v.1 - b.1)) * ((b.1 - a.1) * (z.2 - b.2) - (b.2 - a.2) * (z.1 - b.1)) + ((b.1 - a.1) * (v.2 - b.2) - (b.2 - a.2) * (v.1 - b.1)) * ((u.1 - b.1) * (z.2 - b.2) - (u.2 - b.2) * (z.1 - b.1)) := by grind
          exact Int.nonneg_of_mul_nonneg_right (by rw [e]; omega) k1
      · rw [tri_last]; decide
    · have hp : popP (b :: a :: l) v = popP (a :: l) v := by simp only [popP]; rw [if_neg hlt]
      rw [hp]
      have hle : triP a b v ≤ 0 := by unfold leftB at hlt; rw [decide_eq_true_eq] at hlt; omega
      refine ih a (by rwa [List.getLast?_cons_cons] at hl) hs.tail hb.tail (fun x hx => hm x (by simp at hx ⊢; exact .inr hx)) (.inr ⟨b, hs.1, ?_, hs.2.1, hle, hb⟩)
      by_cases hab : a = b
      · subst hab
        right
        cases l with
        | cons c l =>
            have := hb.1
            rw [tri_last] at this
            exact absurd this (by decide)
        | nil =>
          obtain rfl : a = f := by simpa using hl
          rcases ht with ht | ⟨u, _, _, _, _, h6⟩
          · exact fun z hz => leP_anti (ht z hz) (hf z hz)
          · have := h6.1
            rw [tri_self] at this
            exact absurd this (by decide)
      · exact .inl hab
theorem Sup.mono {S T : Pt → Prop} (h : ∀ z, T z → S z) : ∀ st, Sup S st → Sup T st
  | [], _ => trivial
  | [_], _ => trivial
  | _ :: a :: l, k => ⟨k.1, fun z hz => k.2.1 z (h z hz), Sup.mono h (a :: l) k.2.2⟩
/-- a stack over the points done so far -/
structure Way (xs : List Pt) (f : Pt) (st : List Pt) : Prop where
  last : st.getLast? = some f
  sup : Sup (fun z => z ∈ xs) st
  bends : Bends st
  mem : ∀ x ∈ st, x ∈ xs
  low : ∀ z ∈ xs, leP f z
  top : ∃ b l, st = b :: l ∧ ∀ z ∈ xs, leP z b
theorem way_on {xs : List Pt} {f v : Pt} {st : List Pt} (h : Way xs f st) (hv : ∀ z ∈ xs, leP z v) : Way (xs ++ [v]) f (v :: popP st v) := by
  obtain ⟨b, l, rfl, ht⟩ := h.top
  obtain ⟨b', l', e, hl, hs, hb, hm⟩ := pop_spec (S := fun z => z ∈ xs) (v := v) (f := f) hv h.low l b h.last h.sup h.bends h.mem (.inl ht)
  rw [e]
  refine ⟨by rw [List.getLast?_cons_cons]; exact hl, hs.mono (fun z hz => by simpa using hz), hb, fun x hx => ?_, fun z hz => ?_, v, b' :: l', rfl, fun z hz => ?_⟩
  · rcases List.mem_cons.1 hx with rfl | hx
    · simp
    · exact List.mem_append_left _ (hm x hx)
  · rcases List.mem_append.1 hz with hz | hz
    · exact h.low z hz
    · obtain rfl : z = v := by simpa using hz
      exact hv f (h.mem f (List.mem_of_getLast? h.last))
  · rcases List.mem_append.1 hz with hz | hz
    · exact hv z hz
    · obtain rfl : z = v := by simpa using hz
      exact leP_refl z
theorem way_fold : ∀ (l xs : List Pt) (f : Pt) (st : List Pt), Way xs f st → (xs ++ l).Pairwise leP → Way (xs ++ l) f (l.foldl (fun st v => v :: popP st v) st) := by
  intro l
  induction l with
  | nil => intro xs f st h _; simpa using h
  | cons v l ih =>
    intro xs f st h hp
    have hp' : (xs ++ [v] ++ l).Pairwise leP := by simpa using hp
    have := ih (xs ++ [v]) f (v :: popP st v) (way_on h fun z hz => (List.pairwise_append.1 hp).2.2 z hz v (by simp)) hp'
    simpa using this
/-- the way over sorted points -/
theorem bend_way {f : Pt} {l : List Pt} (hp : (f :: l).Pairwise leP) : Way (f :: l) f (bendS (f :: l)) := by
  have r : ∀ z, z ∈ [f] → z = f := fun z hz => List.mem_singleton.1 hz
  have h0 : Way [f] f [f] := ⟨rfl, trivial, trivial, fun x hx => hx, fun z hz => by rw [r z hz]; exact leP_refl f, f, [], rfl, fun z hz => by rw [r z hz]; exact leP_refl f⟩
  exact way_fold l [f] f [f] h0 hp
end Go.Proofs.Ytnpebfchojalcaa

namespace Go.Proofs.Ytnpebfchojalcaa
/-- a way by its places -/
structure Chain (S : Pt → Prop) (A : List Pt) : Prop where
  sup : ∀ i, i + 1 < A.length → ∀ z, S z → 0 ≤ triP (fromP A i) (fromP A (i + 1)) z
  turn : ∀ i, i + 2 < A.length → 0 < triP (fromP A i) (fromP A (i + 1)) (fromP A (i + 2))
  mem : ∀ i, i < A.length → S (fromP A i)
theorem fromP_cons (a : Pt) (l : List Pt) (i : Nat) : fromP (a :: l) (i + 1) = fromP l i := rfl
theorem fromP_rev {l : List Pt} {i : Nat} (h : i < l.length) : fromP l.reverse i = fromP l (l.length - 1 - i) := by
  rw [fromP_of (List.getElem?_eq_getElem (by simpa using h)), fromP_of (List.getElem?_eq_getElem (show l.length - 1 - i < l.length by omega)), List.getElem_reverse]
theorem sup_at {S : Pt → Prop} : ∀ (st : List Pt), Sup S st → ∀ i, i + 1 < st.length → leP (fromP st (i + 1)) (fromP st i) ∧ ∀ z, S z → 0 ≤ triP (fromP st (i + 1)) (fromP st i) z
  | [], _, i, hi => by simp at hi
  | [_], _, i, hi => by simp at hi
  | b :: a :: l, h, 0, _ => ⟨h.1, h.2.1⟩
  | b :: a :: l, h, i + 1, hi => sup_at (a :: l) h.2.2 i (by simpa using hi)
theorem bends_at : ∀ (st : List Pt), Bends st → ∀ i, i + 2 < st.length → 0 < triP (fromP st (i + 2)) (fromP st (i + 1)) (fromP st i)
  | [], _, i, hi => by simp at hi
  | [_], _, i, hi => by simp at hi
  | [_, _], _, i, hi => by simp only [List.length_cons, List.length_nil] at hi; omega
  | c :: b :: a :: l, h, 0, _ => h.1
  | c :: b :: a :: l, h, i + 1, hi => bends_at (b :: a :: l) h.2 i (by simpa using hi)
theorem from_mem' {l : List Pt} {i : Nat} (h : i < l.length) : fromP l i ∈ l := by
  rw [fromP_of (List.getElem?_eq_getElem h)]
  exact List.getElem_mem h
theorem Way.chain {xs : List Pt} {f : Pt} {st : List Pt} (h : Way xs f st) : Chain (fun z => z ∈ xs) st.reverse ∧ (∀ i, i + 1 < st.length → leP (fromP st.reverse i) (fromP st.reverse (i + 1))) := by
  have e1 : ∀ i, i + 1 < st.length → fromP st.reverse i = fromP st (st.length - 2 - i + 1) := fun i hi => by
    rw [fromP_rev (by omega)]; congr 1; omega
  have e2 : ∀ i, i + 1 < st.length → fromP st.reverse (i + 1) = fromP st (st.length - 2 - i) := fun i hi => by
    rw [fromP_rev (by omega)]; congr 1; omega
  refine ⟨⟨fun i hi z hz => ?_, fun i hi => ?_, fun i hi => ?_⟩, fun i hi => ?_⟩
  · rw [List.length_reverse] at hi
    rw [e1 i hi, e2 i hi]
    exact (sup_at st h.sup _ (by omega)).2 z hz
  · rw [List.length_reverse] at hi
    have := bends_at st h.bends (st.length - 3 - i) (by omega)
    rw [fromP_rev (by omega), fromP_rev (by omega), fromP_rev (by omega)]
    rwa [show st.length - 1 - i = st.length - 3 - i + 2 by omega, show st.length - 1 - (i + 1) = st.length - 3 - i + 1 by omega, show st.length - 1 - (i + 2) = st.length - 3 - i by omega]
  · rw [List.length_reverse] at hi
    rw [fromP_rev hi]
    exact h.mem _ (from_mem' (by omega))
  · rw [e1 i hi, e2 i hi]
    exact (sup_at st h.sup _ (by omega)).1
/-- the ends of a way -/
theorem Way.ends {xs : List Pt} {f : Pt} {st : List Pt} (h : Way xs f st) : 1 ≤ st.length ∧ fromP st.reverse 0 = f ∧ ∀ z ∈ xs, leP z (fromP st.reverse (st.length - 1)) := by
  obtain ⟨b, l, rfl, ht⟩ := h.top
  refine ⟨by simp, ?_, fun z hz => ?_⟩
  · have hl := h.last
    rw [fromP_rev (by simp)]
    rw [List.getLast?_eq_getElem?] at hl
    exact fromP_of hl
  · rw [fromP_rev (by simp), Nat.sub_self]
    exact ht z hz
theorem tri_neg (a b z : Pt) : triP (negP a) (negP b) (negP z) = triP a b z := by unfold triP negP; grind
theorem leftB_neg (a b v : Pt) : leftB (negP a) (negP b) (negP v) = leftB a b v := by unfold leftB; rw [tri_neg]
theorem popP_neg (v : Pt) : ∀ st : List Pt, popP (st.map negP) (negP v) = (popP st v).map negP
  | [] => rfl
  | [_] => rfl
  | b :: a :: l => by
    have ih := popP_neg v (a :: l)
    simp only [List.map_cons, popP, leftB_neg] at ih ⊢
    split
    · rfl
    · exact ih
theorem bendS_neg (l : List Pt) : bendS (l.map negP) = (bendS l).map negP := by
  unfold bendS
  have key : ∀ (l st : List Pt), (l.map negP).foldl (fun st v => v :: popP st v) (st.map negP) = (l.foldl (fun st v => v :: popP st v) st).map negP := by
    intro l
    induction l with
    | nil => intro st; rfl
    | cons v l ih =>
      intro st
      rw [List.map_cons, List.foldl_cons, List.foldl_cons, popP_neg, ← List.map_cons]
      exact ih _
  exact key l []
theorem leP_neg {a b : Pt} (h : leP a b) : leP (negP b) (negP a) := by rw [leP_iff] at *; unfold negP; simp only; omega
theorem fromP_neg {l : List Pt} {i : Nat} (h : i < l.length) : fromP (l.map negP) i = negP (fromP l i) := by
  rw [fromP_of (List.getElem?_eq_getElem (show i < (l.map negP).length by simpa using h)), fromP_of (List.getElem?_eq_getElem h), List.getElem_map]
/-- three points on one line -/
def FlatS (S : Pt → Prop) : Prop := ∀ a b c, S a → S b → S c → triP a b c = 0
theorem flat_dir {r1 r2 x1 x2 y1 y2 : Int} (hr : ¬ (r1 = 0 ∧ r2 = 0)) (hx : r1 * x2 - r2 * x1 = 0) (hy : r1 * y2 - r2 * y1 = 0) : x1 * y2 - x2 * y1 = 0 := by
  by_cases h2 : r2 = 0
  · subst h2
    have h1 : r1 ≠ 0 := fun e => hr ⟨e, rfl⟩
    have a : x2 = 0 := by
      have : r1 * x2 = 0 := by omega
      rcases Int.mul_eq_zero.1 this with h | h
      · exact absurd h h1
      · exact h
    have b : y2 = 0 := by
      have : r1 * y2 = 0 := by omega
      rcases Int.mul_eq_zero.1 this with h | h
      · exact absurd h h1
      · exact h
    rw [a, b]; omega
  · have e : r2 * (x1 * y2 - x2 * y1) = 0 := by grind
    rcases Int.mul_eq_zero.1 e with h | h
    · exact absurd h h2
    · exact h
/-- where a way that rises meets one that sinks: either they bend there or all points lie on one line -/
theorem meet {S : Pt → Prop} {p t l : Pt} (hl : S l) (h1 : ∀ z, S z → 0 ≤ triP p t z) (h2 : ∀ z, S z → 0 ≤ triP t l z) (hpt : lowP p t) (hlt : lowP l t) :
    0 < triP p t l ∨ FlatS S := by
  rcases Int.lt_or_eq_of_le (h1 l hl) with h | h
  · exact .inl h
  · right
    have all : ∀ z, S z → triP p t z = 0 := fun z hz => by
      have a := h1 z hz
      have b := h2 z hz
      rw [tri_move] at a h ⊢
      unfold triP at b
      unfold lowP at hpt hlt
      generalize hr1 : t.1 - p.1 = r1 at *
      generalize hr2 : t.2 - p.2 = r2 at *
      generalize hv1 : l.1 - t.1 = v1 at *
      generalize hv2 : l.2 - t.2 = v2 at *
      generalize z.1 - t.1 = z1 at *
      generalize z.2 - t.2 = z2 at *
      by_cases h0 : r2 = 0
      · subst h0
        have g1 : 0 < r1 := by omega
        have g2 : v2 = 0 := by
          have : r1 * v2 = 0 := by omega
          rcases Int.mul_eq_zero.1 this with g | g
          · omega
          · exact g
        subst g2
        have g3 : v1 < 0 := by omega
        have a' : 0 ≤ r1 * z2 := by omega
        have b' : 0 ≤ v1 * z2 := by omega
        have c1 : 0 ≤ z2 := Int.nonneg_of_mul_nonneg_right a' g1
        have c2 : z2 ≤ 0 := by
          rcases Int.lt_or_le 0 z2 with g | g
          · have := Int.mul_neg_of_neg_of_pos g3 g
            omega
          · exact g
        have : z2 = 0 := by omega
        rw [this]; omega
      · have g1 : 0 < r2 := by omega
        have g2 : v2 < 0 := by
          rcases Int.lt_or_le v2 0 with g | g
          · exact g
          · have e : v2 = 0 := by omega
            have k : v1 < 0 := by omega
            rw [e] at h
            have : 0 < r2 * -v1 := Int.mul_pos g1 (by omega)
            have : r2 * -v1 = -(r2 * v1) := by grind
            omega
        have e : r2 * (v1 * z2 - v2 * z1) = v2 * (r1 * z2 - r2 * z1) := by grind
        have k : 0 ≤ v2 * (r1 * z2 - r2 * z1) := by rw [← e]; exact Int.mul_nonneg (by omega) b
        rcases Int.lt_or_eq_of_le a with g | g
        · have := Int.mul_neg_of_neg_of_pos g2 g
          omega
        · exact g.symm
    intro a b c ha hb hc
    have e1 := all a ha
    have e2 := all b hb
    have e3 := all c hc
    unfold triP at e1 e2 e3 ⊢
    unfold lowP at hpt
    exact flat_dir (r1 := t.1 - p.1) (r2 := t.2 - p.2) (by omega) (by grind) (by grind)
end Go.Proofs.Ytnpebfchojalcaa

namespace Go.Proofs.Ytnpebfchojalcaa
theorem meet_low {S : Pt → Prop} {p t l : Pt} (hl : S l) (h1 : ∀ z, S z → 0 ≤ triP p t z) (h2 : ∀ z, S z → 0 ≤ triP t l z) (hpt : lowP t p) (hlt : lowP t l) :
    0 < triP p t l ∨ FlatS S := by
  have key := meet (S := fun z => S (negP z)) (p := negP p) (t := negP t) (l := negP l) (by show S _; rw [neg_neg']; exact hl)
    (fun z hz => by rw [← neg_neg' z, tri_neg]; exact h1 _ hz) (fun z hz => by rw [← neg_neg' z, tri_neg]; exact h2 _ hz) (low_neg hpt) (low_neg hlt)
  rw [tri_neg] at key
  rcases key with h | h
  · exact .inl h
  · refine .inr fun a b c ha hb hc => ?_
    rw [← tri_neg]
    exact h _ _ _ (by show S _; rw [neg_neg']; exact ha) (by show S _; rw [neg_neg']; exact hb) (by show S _; rw [neg_neg']; exact hc)
theorem cross_tri (a b c : Pt) : crossP (b.1 - a.1, b.2 - a.2) (c.1 - b.1, c.2 - b.2) = triP a b c := by unfold crossP crossZ triP; grind
theorem cross_swap (a b : Pt) : crossP b a = -crossP a b := by unfold crossP crossZ; grind
theorem up_sink {a b : Pt} (h : lowP a b) : sinksB (b.1 - a.1) (b.2 - a.2) = false := by
  unfold lowP at h
  unfold sinksB
  simp only [Bool.or_eq_false_iff, Bool.and_eq_false_iff, decide_eq_false_iff_not]
  omega
theorem down_sink {a b : Pt} (h : lowP b a) : sinksB (b.1 - a.1) (b.2 - a.2) = true := by
  unfold lowP at h
  unfold sinksB
  simp only [Bool.or_eq_true, Bool.and_eq_true, decide_eq_true_eq]
  omega
/-- the polygon of two ways -/
theorem around_of {S : Pt → Prop} {A B : List Pt} (CA : Chain S A) (CB : Chain S B) (upA : ∀ i, i + 1 < A.length → leP (fromP A i) (fromP A (i + 1))) (dnB : ∀ i, i + 1 < B.length → leP (fromP B (i + 1)) (fromP B i))
    (h1 : 1 ≤ A.length) (h2 : 1 ≤ B.length) (e1 : fromP B 0 = fromP A (A.length - 1)) (e2 : fromP A 0 = fromP B (B.length - 1)) (low : ∀ z, S z → leP (fromP A 0) z) (high : ∀ z, S z → leP z (fromP A (A.length - 1)))
    (h3 : 3 ≤ (A.dropLast ++ B.dropLast).length) :
    Around (A.dropLast ++ B.dropLast) ∧ (∀ i, i < (A.dropLast ++ B.dropLast).length → S (fromP (A.dropLast ++ B.dropLast) i)) ∧
      ∀ i, i < (A.dropLast ++ B.dropLast).length → ∀ z, S z → 0 ≤ triP (fromP (A.dropLast ++ B.dropLast) i) (toP (A.dropLast ++ B.dropLast) i) z := by
  have hn : (A.dropLast ++ B.dropLast).length = (A.length - 1) + (B.length - 1) := by simp
  have hflat : ¬ FlatS S := fun hf => by
    have a : A.length ≤ 2 := by
      by_cases g : 2 < A.length
      · have := CA.turn 0 (by omega)
        rw [hf _ _ _ (CA.mem 0 (by omega)) (CA.mem 1 (by omega)) (CA.mem 2 (by omega))] at this
        exact absurd this (by decide)
      · omega
    have b : B.length ≤ 2 := by
      by_cases g : 2 < B.length
      · have := CB.turn 0 (by omega)
        rw [hf _ _ _ (CB.mem 0 (by omega)) (CB.mem 1 (by omega)) (CB.mem 2 (by omega))] at this
        exact absurd this (by decide)
      · omega
    omega
  have hft : fromP A 0 ≠ fromP A (A.length - 1) := fun e => by
    have all : ∀ z, S z → z = fromP A 0 := fun z hz => leP_anti (by rw [e]; exact high z hz) (low z hz)
    exact hflat fun a b c ha hb hc => by rw [all a ha, all b hb, tri_self]
  have hA2 : 2 ≤ A.length := by
    by_cases g : A.length = 1
    · rw [g] at hft; exact absurd rfl hft
    · omega
  have hB2 : 2 ≤ B.length := by
    by_cases g : B.length = 1
    · rw [g] at e2; rw [← e1, e2] at hft; exact absurd rfl hft
    · omega
  have sA : ∀ i, i + 1 < A.length → lowP (fromP A i) (fromP A (i + 1)) := fun i hi => leP_ne (upA i hi) fun e => by
    by_cases g : i + 2 < A.length
    · exact tri_ne (CA.turn i g) e
    · by_cases g0 : i = 0
      · subst g0
        rw [show A.length - 1 = 0 + 1 by omega] at hft
        exact hft e
      · have := CA.turn (i - 1) (by omega)
        rw [show i - 1 + 1 = i by omega, show i - 1 + 2 = i + 1 by omega, ← e, tri_last] at this
        exact absurd this (by decide)
  have sB : ∀ i, i + 1 < B.length → lowP (fromP B (i + 1)) (fromP B i) := fun i hi => leP_ne (dnB i hi) fun e => by
    by_cases g : i + 2 < B.length
    · exact tri_ne (CB.turn i g) e.symm
    · by_cases g0 : i = 0
      · subst g0
        rw [show B.length - 1 = 0 + 1 by omega] at e2
        rw [← e1, e2] at hft
        exact hft e
      · have := CB.turn (i - 1) (by omega)
        rw [show i - 1 + 1 = i by omega, show i - 1 + 2 = i + 1 by omega, e, tri_last] at this
        exact absurd this (by decide)
  generalize hH : A.dropLast ++ B.dropLast = H at *
  generalize hm : A.length - 1 = m at *
  generalize hk : B.length - 1 = k at *
  have hB : ∀ j, j < k → fromP H (m + j) = fromP B j := fun j hj => by
    refine fromP_of ?_
    rw [← hH, List.getElem?_append_right (by rw [List.length_dropLast]; omega), List.getElem?_dropLast, List.length_dropLast, hm, hk, show m + j - m = j by omega, if_pos hj, List.getElem?_eq_getElem (by omega)]
    rw [fromP_of (List.getElem?_eq_getElem (show j < B.length by omega))]
  have hA : ∀ i, i ≤ m → fromP H i = fromP A i := fun i hi => by
    by_cases him : i = m
    · subst him
      have := hB 0 (by omega)
      rw [Nat.add_zero] at this
      rw [this, e1]
    · refine fromP_of ?_
      rw [← hH, List.getElem?_append_left (by rw [List.length_dropLast]; omega), List.getElem?_dropLast, hm, if_pos (by omega), List.getElem?_eq_getElem (by omega)]
      rw [fromP_of (List.getElem?_eq_getElem (show i < A.length by omega))]
  have tA : ∀ i, i < m → toP H i = fromP A (i + 1) := fun i hi => by
    rw [to_from, hn, Nat.mod_eq_of_lt (by omega)]
    exact hA _ (by omega)
  have tB : ∀ j, j < k → toP H (m + j) = fromP B (j + 1) := fun j hj => by
    rw [to_from, hn]
    by_cases g : j + 1 = k
    · rw [show m + j + 1 = m + k by omega, Nat.mod_self, g, ← e2]
      exact hA 0 (by omega)
    · rw [Nat.mod_eq_of_lt (by omega), show m + j + 1 = m + (j + 1) by omega]
      exact hB _ (by omega)
  have hto : ∀ i, i < m + k → toP H (prevI (m + k) i) = fromP H i := fun i hi => by
    rw [to_from, hn]
    unfold prevI
    split
    · rename_i h0
      rw [show m + k - 1 + 1 = m + k by omega, Nat.mod_self, h0]
    · rw [show i - 1 + 1 = i by omega, Nat.mod_eq_of_lt hi]
  have cr : ∀ i, i < m + k → crossP (stepP H (prevI (m + k) i)) (stepP H i) = triP (fromP H (prevI (m + k) i)) (fromP H i) (toP H i) := fun i hi => by
    unfold stepP
    rw [hto i hi]
    exact cross_tri _ _ _
  have turn : ∀ i, i < m + k → 0 < triP (fromP H (prevI (m + k) i)) (fromP H i) (toP H i) := fun i hi => by
    by_cases g0 : i = 0
    · subst g0
      have e : prevI (m + k) 0 = m + (k - 1) := by unfold prevI; simp; omega
      rw [e, hB (k - 1) (by omega), hA 0 (by omega), tA 0 (by omega), e2]
      have s := sB (k - 1) (by omega)
      have c := CB.sup (k - 1) (by omega)
      rw [show k - 1 + 1 = k by omega] at s c
      refine (meet_low (CA.mem 1 (by omega)) c (fun z hz => ?_) s ?_).resolve_right hflat
      · rw [← e2]; exact CA.sup 0 (by omega) z hz
      · rw [← e2]; exact sA 0 (by omega)
    · have e : prevI (m + k) i = i - 1 := by unfold prevI; rw [if_neg g0]
      rw [e]
      rcases Nat.lt_trichotomy i m with g | g | g
      · rw [hA (i - 1) (by omega), hA i (by omega), tA i g]
        have := CA.turn (i - 1) (by omega)
        rwa [show i - 1 + 1 = i by omega, show i - 1 + 2 = i + 1 by omega] at this
      · have t := tB 0 (by omega)
        rw [Nat.add_zero, ← g] at t
        rw [hA (i - 1) (by omega), hA i (by omega), t]
        have s := sA (i - 1) (by omega)
        have c := CA.sup (i - 1) (by omega)
        rw [show i - 1 + 1 = i by omega] at s c
        subst g
        refine (meet (CB.mem 1 (by omega)) c (fun z hz => ?_) s ?_).resolve_right hflat
        · rw [← e1]; exact CB.sup 0 (by omega) z hz
        · rw [← e1]; exact sB 0 (by omega)
      · obtain ⟨j, rfl⟩ : ∃ j, i = m + (j + 1) := ⟨i - m - 1, by omega⟩
        rw [show m + (j + 1) - 1 = m + j by omega, hB j (by omega), hB (j + 1) (by omega), tB (j + 1) (by omega)]
        exact CB.turn j (by omega)
  have up : ∀ i, i < m → sinksB (stepP H i).1 (stepP H i).2 = false := fun i hi => by
    unfold stepP
    rw [tA i hi, hA i (by omega)]
    exact up_sink (sA i (by omega))
  have down : ∀ j, j < k → sinksB (stepP H (m + j)).1 (stepP H (m + j)).2 = true := fun j hj => by
    unfold stepP
    rw [tB j hj, hB j hj]
    exact down_sink (sB j (by omega))
  refine ⟨⟨h3, fun i hi => ?_, fun i hi => ?_⟩, fun i hi => ?_, fun i hi z hz => ?_⟩
  · rw [hn] at hi ⊢
    rw [cr i hi]
    exact turn i hi
  · rw [hn] at hi
    intro hlt
    have e : prevI (m + k) (i + 1) = i := by unfold prevI; rw [if_neg (by omega)]; omega
    have c := cr (i + 1) hi
    have t := turn (i + 1) hi
    rw [e] at c t
    rcases hlt with ⟨a, b⟩ | ⟨_, b⟩
    · by_cases g : i < m
      · rw [up i g] at b; cases b
      · have := down (i + 1 - m) (by omega)
        rw [show m + (i + 1 - m) = i + 1 by omega, a] at this
        cases this
    · have b' : 0 < crossP (stepP H (i + 1)) (stepP H i) := b
      rw [cross_swap] at b'
      omega
  · rw [hn] at hi
    by_cases g : i < m
    · rw [hA i (by omega)]; exact CA.mem i (by omega)
    · obtain ⟨j, rfl⟩ : ∃ j, i = m + j := ⟨i - m, by omega⟩
      rw [hB j (by omega)]; exact CB.mem j (by omega)
  · rw [hn] at hi
    by_cases g : i < m
    · rw [hA i (by omega), tA i g]; exact CA.sup i (by omega) z hz
    · obtain ⟨j, rfl⟩ : ∃ j, i = m + j := ⟨i - m, by omega⟩
      rw [hB j (by omega), tB j (by omega)]; exact CB.sup j (by omega) z hz
end Go.Proofs.Ytnpebfchojalcaa

namespace Go.Proofs.Ytnpebfchojalcaa
/-- the polygon around sorted points -/
def hullP (s : List Pt) : List Pt := (bendS s).reverse.dropLast ++ (bendS s.reverse).reverse.dropLast
theorem hull_around {s : List Pt} (hs : s.Pairwise leP) (h3 : 3 ≤ (hullP s).length) :
    Around (hullP s) ∧ (∀ i, i < (hullP s).length → fromP (hullP s) i ∈ s) ∧ ∀ i, i < (hullP s).length → ∀ z ∈ s, 0 ≤ triP (fromP (hullP s) i) (toP (hullP s) i) z := by
  cases hc : s with
  | nil => rw [hc] at h3; simp [hullP, bendS] at h3
  | cons f l =>
    rw [← hc]
    have hne : s.reverse ≠ [] := by rw [hc]; simp
    obtain ⟨t, l', hr⟩ : ∃ t l', s.reverse = t :: l' := by
      cases h : s.reverse with
      | nil => exact absurd h hne
      | cons t l' => exact ⟨t, l', rfl⟩
    have wA : Way s f (bendS s) := by
      have := bend_way (f := f) (l := l) (by rw [← hc]; exact hs)
      rwa [← hc] at this
    have hs' : (s.reverse.map negP).Pairwise leP := by
      rw [List.pairwise_map, List.pairwise_reverse]
      exact hs.imp fun h => leP_neg h
    have wB : Way (s.reverse.map negP) (negP t) ((bendS s.reverse).map negP) := by
      have := bend_way (f := negP t) (l := l'.map negP) (by rw [← List.map_cons, ← hr]; exact hs')
      rwa [← List.map_cons, ← hr, bendS_neg] at this
    have cA := wA.chain
    have cB := wB.chain
    have dA := wA.ends
    have dB := wB.ends
    rw [List.length_map] at dB cB
    rw [← List.map_reverse] at dB cB
    have el : (bendS s.reverse).reverse.length = (bendS s.reverse).length := List.length_reverse
    have eA : (bendS s).reverse.length = (bendS s).length := List.length_reverse
    have inn : ∀ z, z ∈ s → negP z ∈ s.reverse.map negP := fun z hz => List.mem_map.2 ⟨z, List.mem_reverse.2 hz, rfl⟩
    have out : ∀ z, z ∈ s.reverse.map negP → negP z ∈ s := fun z hz => by
      obtain ⟨x, hx, rfl⟩ := List.mem_map.1 hz
      rw [neg_neg']
      exact List.mem_reverse.1 hx
    unfold hullP at h3 ⊢
    generalize (bendS s).reverse = A at *
    generalize (bendS s.reverse).reverse = B at *
    rw [← eA] at dA cA
    rw [← el] at dB cB
    clear eA el
    have CB : Chain (fun z => z ∈ s) B := ⟨fun i hi z hz => by
        have := cB.1.sup i (by simpa using hi) (negP z) (inn z hz)
        rwa [fromP_neg (by omega), fromP_neg hi, tri_neg] at this,
      fun i hi => by
        have := cB.1.turn i (by simpa using hi)
        rwa [fromP_neg (by omega), fromP_neg (by omega), fromP_neg hi, tri_neg] at this,
      fun i hi => by
        have := out _ (cB.1.mem i (by simpa using hi))
        rwa [fromP_neg hi, neg_neg'] at this⟩
    have dn : ∀ i, i + 1 < B.length → leP (fromP B (i + 1)) (fromP B i) := fun i hi => by
      have := leP_neg (cB.2 i hi)
      rwa [fromP_neg (show i < B.length by omega), fromP_neg hi, neg_neg', neg_neg'] at this
    have hB0 : fromP B 0 = t := by
      have := dB.2.1
      rw [fromP_neg (by omega)] at this
      exact neg_inj this
    have hBl : ∀ z ∈ s, leP (fromP B (B.length - 1)) z := fun z hz => by
      have := leP_neg (dB.2.2 _ (inn z hz))
      rwa [fromP_neg (by omega), neg_neg', neg_neg'] at this
    have hBt : ∀ z ∈ s, leP z t := fun z hz => by
      have := leP_neg (wB.low _ (inn z hz))
      rwa [neg_neg', neg_neg'] at this
    have fl : ∀ z ∈ s, leP (fromP A 0) z := fun z hz => by rw [dA.2.1]; exact wA.low z hz
    refine around_of cA.1 CB cA.2 dn dA.1 dB.1 ?_ ?_ fl dA.2.2 h3
    · rw [hB0]
      have tm : t ∈ s := List.mem_reverse.1 (by rw [hr]; exact List.mem_cons_self)
      exact leP_anti (dA.2.2 t tm) (hBt _ (cA.1.mem _ (by have := dA.1; omega)))
    · exact leP_anti (fl _ (CB.mem _ (by have := dB.1; omega))) (hBl _ (cA.1.mem 0 dA.1))
end Go.Proofs.Ytnpebfchojalcaa

namespace Go.Proofs.Ytnpebfchojalcaa
/-- three directions that a convex corner can't have -/
theorem wedge1 {s a b : Pt} (hs : s ≠ (0, 0)) (ha : a ≠ (0, 0)) (hb : b ≠ (0, 0)) (h1 : ltA s a) (h2 : ltA a b) (c1 : 0 ≤ crossP s b) (c2 : 0 ≤ crossP a s) : False := by
  have key : sinksB s.1 s.2 = false ∧ sinksB a.1 a.2 = true := by
    rcases h1 with h | ⟨_, h⟩
    · exact h
    · have h : 0 < crossP s a := h
      have := cross_anti s a
      omega
  have kb : sinksB b.1 b.2 = true := lt_down h2 key.2
  have na : sinksB (negP a).1 (negP a).2 = false := by rw [sinks_neg ha, key.2]; rfl
  have nb : sinksB (negP b).1 (negP b).2 = false := by rw [sinks_neg hb, kb]; rfl
  have t1 : ¬ ltA (negP a) s := by
    rintro (⟨_, h⟩ | ⟨_, h⟩)
    · rw [key.1] at h; cases h
    · have h : 0 < crossP (negP a) s := h
      have e := cross_anti s (negP a)
      have e2 := cross_neg2 s a
      have e3 := cross_anti a s
      omega
  have t2 : ltA (negP a) (negP b) := .inr ⟨by rw [na, nb], by
    have := lt_cross h2 (by rw [key.2, kb])
    show 0 < crossP (negP a) (negP b)
    rw [crossP_neg]; exact this⟩
  rcases lt_left hs (neg_ne ha) (neg_ne hb) t1 t2 with ⟨_, h⟩ | ⟨_, h⟩
  · rw [nb] at h; cases h
  · have h : 0 < crossP s (negP b) := h
    rw [cross_neg2] at h
    omega
theorem wedge2 {s a b : Pt} (hs : s ≠ (0, 0)) (ha : a ≠ (0, 0)) (hb : b ≠ (0, 0)) (h1 : ltA a b) (h2 : ltA b s) (c1 : 0 ≤ crossP s b) (c2 : 0 ≤ crossP a s) : False := by
  have key : sinksB b.1 b.2 = false ∧ sinksB s.1 s.2 = true := by
    rcases h2 with h | ⟨_, h⟩
    · exact h
    · have h : 0 < crossP b s := h
      have := cross_anti b s
      omega
  have ka : sinksB a.1 a.2 = false := lt_up h1 key.1
  have ns : sinksB (negP s).1 (negP s).2 = false := by rw [sinks_neg hs, key.2]; rfl
  have t1 : ¬ ltA a (negP s) := by
    rintro (⟨_, h⟩ | ⟨_, h⟩)
    · rw [ns] at h; cases h
    · have h : 0 < crossP a (negP s) := h
      rw [cross_neg2] at h
      omega
  rcases lt_left (neg_ne hs) ha hb t1 h1 with ⟨_, h⟩ | ⟨_, h⟩
  · rw [key.1] at h; cases h
  · have h : 0 < crossP (negP s) b := h
    have e := cross_anti b (negP s)
    have e2 := cross_neg2 b s
    have e3 := cross_anti s b
    omega
theorem wedge3 {s a b : Pt} (h1 : ltA b s) (h2 : ltA s a) (c1 : 0 ≤ crossP s b) (c2 : 0 ≤ crossP a s) : False := by
  have key : sinksB s.1 s.2 = true := by
    rcases h1 with h | ⟨_, h⟩
    · exact h.2
    · have h : 0 < crossP b s := h
      have := cross_anti b s
      omega
  have ka := lt_down h2 key
  have := lt_cross h2 (by rw [key, ka])
  have := cross_anti s a
  omega
theorem tri_side (ps : List Pt) (z : Pt) (k : Nat) : triP (fromP ps k) (toP ps k) z = sideK ps z.1 z.2 k := by
  unfold triP sideK stepP crossZ; rfl
theorem prev_to {ps : List Pt} {j : Nat} (hj : j < ps.length) : toP ps (prevI ps.length j) = fromP ps j := by
  rw [to_from]
  congr 1
  unfold prevI
  split
  · rename_i h
    rw [h, show ps.length - 1 + 1 = ps.length by omega, Nat.mod_self]
  · rw [show j - 1 + 1 = j by omega, Nat.mod_eq_of_lt hj]
/-- every vertex but the two ends of an edge is to its left -/
theorem Around.strict_left {ps : List Pt} (h : Around ps) {k j : Nat} (hk : k < ps.length) (hj : j < ps.length) (h1 : j ≠ k) (h2 : j ≠ (k + 1) % ps.length) : 0 < sideK ps (fromP ps j).1 (fromP ps j).2 k := by
  rcases Int.lt_or_eq_of_le (h.left hk hj) with g | g
  · exact g
  · exfalso
    have h3 := h.three
    have hn : (j + 1) % ps.length < ps.length := Nat.mod_lt _ (by omega)
    have n1 := h.left hk hn
    have hp : prevI ps.length j < ps.length := by unfold prevI; split <;> omega
    have p1 := h.left hk hp
    have pt := prev_to hj
    have z0 := h.ne0 hk
    have z1 := h.ne0 hj
    have z2 := h.ne0 hp
    have cb : 0 ≤ crossP (stepP ps k) (stepP ps j) := by
      have e : crossP (stepP ps k) (stepP ps j) = sideK ps (fromP ps ((j + 1) % ps.length)).1 (fromP ps ((j + 1) % ps.length)).2 k - sideK ps (fromP ps j).1 (fromP ps j).2 k := by
        rw [← to_from]
        show crossZ _ _ ((toP ps j).1 - (fromP ps j).1) ((toP ps j).2 - (fromP ps j).2) = _
        unfold sideK crossZ
        grind
      omega
    have ca : 0 ≤ crossP (stepP ps (prevI ps.length j)) (stepP ps k) := by
      have e : crossP (stepP ps (prevI ps.length j)) (stepP ps k) = sideK ps (fromP ps (prevI ps.length j)).1 (fromP ps (prevI ps.length j)).2 k - sideK ps (fromP ps j).1 (fromP ps j).2 k := by
        rw [← pt]
        generalize prevI ps.length j = i
        show crossZ ((toP ps i).1 - (fromP ps i).1) ((toP ps i).2 - (fromP ps i).2) _ _ = _
        unfold sideK crossZ
        grind
      omega
    have lt : ∀ i m, i < m → m < ps.length → ltA (stepP ps i) (stepP ps m) := fun i m him hm => by
      have := pair_lt h.strict him (by rw [stepsOf_length]; exact hm)
      rwa [from_steps (by omega), from_steps hm] at this
    by_cases hj0 : j = 0
    · have ep : prevI ps.length j = ps.length - 1 := by unfold prevI; rw [if_pos hj0]
      rw [ep] at ca z2
      have : k ≠ ps.length - 1 := fun e => h2 (by rw [e, hj0, show ps.length - 1 + 1 = ps.length by omega, Nat.mod_self])
      exact wedge3 (lt j k (by omega) hk) (lt k (ps.length - 1) (by omega) (by omega)) cb ca
    · have ep : prevI ps.length j = j - 1 := by unfold prevI; rw [if_neg hj0]
      rw [ep] at ca z2
      have : k ≠ j - 1 := fun e => h2 (by rw [e, show j - 1 + 1 = j by omega, Nat.mod_eq_of_lt hj])
      rcases Nat.lt_or_ge k (j - 1) with g | g
      · exact wedge1 z0 z2 z1 (lt k (j - 1) g (by omega)) (lt (j - 1) j (by omega) hj) cb ca
      · exact wedge2 z0 z2 z1 (lt (j - 1) j (by omega) hj) (lt j k (by omega) hk) cb ca
/-- a point lower than the lowest vertex isn't to the left of all edges -/
theorem low_out {a b v : Pt} (hb0 : b ≠ (0, 0)) (ha0 : a ≠ (0, 0)) (hv0 : v ≠ (0, 0)) (hb : sinksB b.1 b.2 = false) (ha : sinksB a.1 a.2 = true) (hv : sinksB v.1 v.2 = true) (c : 0 < crossP a b) (h1 : 0 ≤ crossP b v) (h2 : 0 ≤ crossP a v) : False := by
  have na : sinksB (negP a).1 (negP a).2 = false := by rw [sinks_neg ha0, ha]; rfl
  have nv : sinksB (negP v).1 (negP v).2 = false := by rw [sinks_neg hv0, hv]; rfl
  have t1 : ¬ ltA b (negP v) := by
    rintro (⟨_, h⟩ | ⟨_, h⟩)
    · rw [nv] at h; cases h
    · have h : 0 < crossP b (negP v) := h
      rw [cross_neg2] at h
      omega
  have t2 : ltA b (negP a) := .inr ⟨by rw [na, hb], by
    show 0 < crossP b (negP a)
    rw [cross_neg2]
    have := cross_anti a b
    omega⟩
  rcases lt_left (neg_ne hv0) hb0 (neg_ne ha0) t1 t2 with ⟨_, h⟩ | ⟨_, h⟩
  · rw [na] at h; cases h
  · have h : 0 < crossP (negP v) (negP a) := h
    rw [crossP_neg] at h
    have := cross_anti a v
    omega
end Go.Proofs.Ytnpebfchojalcaa

namespace Go.Proofs.Ytnpebfchojalcaa
def gP (a : Pt) : Int := (Int.gcd a.1 a.2 : Nat)
theorem gP_pos {a : Pt} (h : a ≠ (0, 0)) : 1 ≤ gP a := by
  unfold gP
  have : 0 < Int.gcd a.1 a.2 := by
    rcases Nat.eq_zero_or_pos (Int.gcd a.1 a.2) with g | g
    · obtain ⟨h1, h2⟩ := Int.gcd_eq_zero_iff.1 g
      exact absurd (Prod.ext h1 h2) h
    · exact g
  omega
theorem gP_neg (a : Pt) : gP (negP a) = gP a := by unfold gP negP; simp
theorem gP_dvd (a : Pt) : gP a ∣ a.1 ∧ gP a ∣ a.2 := ⟨Int.gcd_dvd_left .., Int.gcd_dvd_right ..⟩
/-- the lattice lengths of two sides are no more than the triangle's area, twice -/
theorem gP_cross {a b : Pt} (h : 0 < crossP a b) : gP a * gP b ≤ crossP a b := by
  obtain ⟨⟨x1, h1⟩, ⟨x2, h2⟩⟩ := gP_dvd a
  obtain ⟨⟨y1, h3⟩, ⟨y2, h4⟩⟩ := gP_dvd b
  have e : crossP a b = gP a * gP b * (x1 * y2 - x2 * y1) := by
    unfold crossP crossZ
    rw [h1, h2, h3, h4]
    generalize gP a = p
    generalize gP b = q
    grind
  exact Int.le_of_dvd h ⟨_, e⟩
theorem three_sides {a b c D : Int} (ha : 1 ≤ a) (hb : 1 ≤ b) (hc : 1 ≤ c) (h1 : a * b ≤ D) (h2 : a * c ≤ D) (h3 : b * c ≤ D) : a + b + c - 2 ≤ D := by
  have key : ∀ x y z : Int, 1 ≤ x → 1 ≤ y → z ≤ x → z ≤ y → x + y + z - 2 ≤ x * y := fun x y z hx hy hzx hzy => by
    by_cases h : y = 1
    · subst h; omega
    · have := Int.mul_nonneg (show 0 ≤ x - 1 by omega) (show 0 ≤ y - 2 by omega)
      have e : (x - 1) * (y - 2) = x * y - 2 * x - y + 2 := by grind
      omega
  by_cases p : c ≤ a
  · by_cases q : c ≤ b
    · have := key a b c ha hb p q; omega
    · have := key a c b ha hc (by omega) (by omega); omega
  · by_cases q : a ≤ b
    · have := key b c a hb hc (by omega) (by omega); omega
    · have := key a c b ha hc (by omega) (by omega); omega
theorem two_sides {a b c D : Int} (ha : 1 ≤ a) (hb : 1 ≤ b) (hc : 1 ≤ c) (h : a * b ≤ D) : a + b - c ≤ D := by
  have := Int.mul_nonneg (show 0 ≤ a - 1 by omega) (show 0 ≤ b - 1 by omega)
  have e : (a - 1) * (b - 1) = a * b - a - b + 1 := by grind
  omega
namespace Around
variable {ps : List Pt}
theorem nxt (_ : Around ps) {i : Nat} (hi : i + 1 < ps.length) : toP ps i = fromP ps (i + 1) := by rw [to_from, Nat.mod_eq_of_lt hi]
theorem last (h : Around ps) : toP ps (ps.length - 1) = fromP ps 0 := by
  have := h.three
  rw [to_from, show ps.length - 1 + 1 = ps.length by omega, Nat.mod_self]
/-- the first vertex is the lowest -/
theorem lowest (h : Around ps) {j : Nat} (h0 : 0 < j) (hj : j < ps.length) : lowP (fromP ps 0) (fromP ps j) := by
  obtain ⟨u, u1, un, hu, _⟩ := h.top
  have up : ∀ i, i < u → lowP (fromP ps i) (toP ps i) := fun i hiu => h.rise (by omega) (by
    cases hs : sinksB (stepP ps i).1 (stepP ps i).2 with
    | false => rfl
    | true => have := (hu i (by omega)).1 hs; omega)
  have down : ∀ i, i < ps.length → u ≤ i → lowP (toP ps i) (fromP ps i) := fun i hi hiu => h.sink hi ((hu i hi).2 hiu)
  by_cases g : j ≤ u
  · have key : ∀ d, d < u → lowP (fromP ps 0) (fromP ps (d + 1)) := by
      intro d
      induction d with
      | zero =>
        intro _
        have := up 0 (by omega)
        rwa [h.nxt (by omega)] at this
      | succ d ih =>
        intro hd
        have := up (d + 1) (by omega)
        rw [h.nxt (by omega)] at this
        exact low_trans (ih (by omega)) this
    have := key (j - 1) (by omega)
    rwa [show j - 1 + 1 = j by omega] at this
  · have key : ∀ d, u ≤ ps.length - 1 - d → lowP (fromP ps 0) (fromP ps (ps.length - 1 - d)) := by
      intro d
      induction d with
      | zero =>
        intro _
        have := down (ps.length - 1) (by omega) (by omega)
        rwa [h.last] at this
      | succ d ih =>
        intro hd
        have := down (ps.length - 1 - (d + 1)) (by omega) hd
        rw [h.nxt (by omega), show ps.length - 1 - (d + 1) + 1 = ps.length - 1 - d by omega] at this
        exact low_trans (ih (by omega)) this
    have := key (ps.length - 1 - j) (by omega)
    rwa [show ps.length - 1 - (ps.length - 1 - j) = j by omega] at this
end Around
/-- a vertex seen from the first one -/
def rayP (ps : List Pt) (k : Nat) : Pt := ((fromP ps k).1 - (fromP ps 0).1, (fromP ps k).2 - (fromP ps 0).2)
def fanK (ps : List Pt) (k : Nat) : Int := sideK ps (fromP ps 0).1 (fromP ps 0).2 k
theorem fan_area (ps : List Pt) : sumTo (fanK ps) ps.length = areaZ ps := by
  have e1 : sumTo (fanK ps) ps.length = sumTo (fun k => crossK ps k + ((fromP ps 0).2 * (stepP ps k).1 + -(fromP ps 0).1 * (stepP ps k).2)) ps.length := by
    refine sumTo_congr _ fun k _ => ?_
    unfold fanK sideK crossK crossZ
    grind
  rw [e1, sumTo_add, sumTo_add, sumTo_mul, sumTo_mul, (sum_steps ps).1, (sum_steps ps).2]
  unfold areaZ
  rw [areaK_sum]
  omega
theorem fan_cross (ps : List Pt) {k : Nat} (hk : k + 1 < ps.length) : fanK ps k = crossP (rayP ps k) (rayP ps (k + 1)) := by
  have e : toP ps k = fromP ps (k + 1) := by rw [to_from, Nat.mod_eq_of_lt hk]
  unfold fanK sideK rayP crossP crossZ stepP
  rw [e]
  grind
theorem fan_step (ps : List Pt) {k : Nat} (hk : k + 1 < ps.length) : fanK ps k = crossP (rayP ps k) (stepP ps k) ∧ fanK ps k = crossP (rayP ps (k + 1)) (stepP ps k) := by
  have e : toP ps k = fromP ps (k + 1) := by rw [to_from, Nat.mod_eq_of_lt hk]
  unfold fanK sideK rayP crossP crossZ stepP
  rw [e]
  constructor <;> grind
theorem same_way {y z : Pt} (hy : 0 < y.2 ∨ (y.2 = 0 ∧ 0 < y.1)) (hz : 0 < z.2 ∨ (z.2 = 0 ∧ 0 < z.1)) (h : crossP y z = 0) :
    ∃ p q : Int, 0 < p ∧ 0 < q ∧ ∀ a : Pt, p * crossP a z = q * crossP a y := by
  unfold crossP crossZ at *
  by_cases h2 : y.2 = 0
  · have hz2 : z.2 = 0 := by
      rw [h2] at h
      have g : 0 < y.1 := by omega
      have : y.1 * z.2 = 0 := by omega
      rcases Int.mul_eq_zero.1 this with k | k
      · omega
      · exact k
    exact ⟨y.1, z.1, by omega, by omega, fun a => by rw [h2, hz2]; grind⟩
  · have hz2 : z.2 ≠ 0 := fun e => by
      rw [e] at h
      have g : 0 < y.2 := by omega
      have : y.2 * z.1 = 0 := by omega
      rcases Int.mul_eq_zero.1 this with k | k
      · omega
      · omega
    exact ⟨y.2, z.2, by omega, by omega, fun a => by grind⟩
namespace Around
variable {ps : List Pt}
/-- the triangles between the first vertex and the edges away from it have an area -/
theorem fan_pos (h : Around ps) {k : Nat} (h1 : 1 ≤ k) (hk : k + 1 < ps.length) : 0 < fanK ps k := by
  have h0 : 0 ≤ fanK ps k := h.left (by omega) (by omega)
  rcases Int.lt_or_eq_of_le h0 with g | g
  · exact g
  · exfalso
    have ly := h.lowest (j := k) (by omega) (by omega)
    have lz := h.lowest (j := k + 1) (by omega) hk
    have hy : 0 < (rayP ps k).2 ∨ ((rayP ps k).2 = 0 ∧ 0 < (rayP ps k).1) := by unfold lowP at ly; unfold rayP; simp only; omega
    have hz : 0 < (rayP ps (k + 1)).2 ∨ ((rayP ps (k + 1)).2 = 0 ∧ 0 < (rayP ps (k + 1)).1) := by unfold lowP at lz; unfold rayP; simp only; omega
    have c := fan_cross ps hk
    rw [← g] at c
    obtain ⟨p, q, hp, hq, e⟩ := same_way hy hz c.symm
    -- the edge before and the edge after
    have t1 := h.turn k (by omega)
    have t2 := h.turn (k + 1) hk
    rw [show prevI ps.length k = k - 1 by unfold prevI; rw [if_neg (by omega)]] at t1
    rw [show prevI ps.length (k + 1) = k by unfold prevI; rw [if_neg (by omega)]; omega] at t2
    have l1 : 0 ≤ fanK ps (k - 1) := h.left (by omega) (by omega)
    have l2 : 0 ≤ fanK ps (k + 1) := h.left hk (by omega)
    have f1 := (fan_step ps (k := k - 1) (by omega)).2
    rw [show k - 1 + 1 = k by omega] at f1
    have f2 : fanK ps (k + 1) = crossP (rayP ps (k + 1)) (stepP ps (k + 1)) := by unfold fanK sideK rayP crossP crossZ; grind
    have es : stepP ps k = ((rayP ps (k + 1)).1 - (rayP ps k).1, (rayP ps (k + 1)).2 - (rayP ps k).2) := by
      unfold stepP rayP
      rw [h.nxt hk]
      simp only [Prod.mk.injEq]
      omega
    have a1 := e (stepP ps (k - 1))
    have a2 := e (stepP ps (k + 1))
    rw [es] at t1 t2
    rw [f1] at l1
    rw [f2] at l2
    generalize rayP ps k = y at *
    generalize rayP ps (k + 1) = z at *
    generalize stepP ps (k - 1) = a at *
    generalize stepP ps (k + 1) = b at *
    have t1' : 0 < crossP a z - crossP a y := by unfold crossP crossZ at *; grind
    have t2' : 0 < crossP b y - crossP b z := by unfold crossP crossZ at *; grind
    have l1' : crossP a y ≤ 0 := by unfold crossP crossZ at *; grind
    have l2' : crossP b z ≤ 0 := by unfold crossP crossZ at *; grind
    generalize crossP a z = az at *
    generalize crossP a y = ay at *
    generalize crossP b z = bz at *
    generalize crossP b y = by' at *
    -- q < p from the edge before, p < q from the one after
    have hqp : q < p := by
      rcases Int.lt_or_le q p with k | k
      · exact k
      · have m1 : 0 ≤ (q - p) * -ay := Int.mul_nonneg (by omega) (by omega)
        have m2 : 0 < p * (az - ay) := Int.mul_pos hp t1'
        have i1 : p * (az - ay) = p * az - p * ay := by grind
        have i2 : (q - p) * -ay = p * ay - q * ay := by grind
        omega
    have hby : by' ≤ 0 := by
      rcases Int.lt_or_le 0 by' with k | k
      · have m1 : 0 < q * by' := Int.mul_pos hq k
        have m2 : 0 ≤ p * -bz := Int.mul_nonneg (by omega) (by omega)
        have i1 : p * -bz = -(p * bz) := by grind
        omega
      · exact k
    have m1 : 0 ≤ (p - q) * -by' := Int.mul_nonneg (by omega) (by omega)
    have m2 : 0 < p * (by' - bz) := Int.mul_pos hp t2'
    have i1 : p * (by' - bz) = p * by' - p * bz := by grind
    have i2 : (p - q) * -by' = q * by' - p * by' := by grind
    omega
theorem gcdK_g (ps : List Pt) (k : Nat) : gcdK ps k = gP (stepP ps k) := rfl
theorem ray_g (h : Around ps) {k : Nat} (h1 : 1 ≤ k) (hk : k < ps.length) : 1 ≤ gP (rayP ps k) := gP_pos fun e => by
  have := h.lowest (j := k) (by omega) hk
  have e1 := congrArg Prod.fst e
  have e2 := congrArg Prod.snd e
  unfold rayP at e1 e2
  unfold lowP at this
  simp only at e1 e2
  omega
theorem ring_fan (h : Around ps) : ∀ k, k + 2 < ps.length → ringK ps (k + 2) + gP (rayP ps (k + 2)) - 2 ≤ sumTo (fanK ps) (k + 2) := by
  intro k
  induction k with
  | zero =>
    intro hk
    have p := h.fan_pos (k := 1) (by omega) (by omega)
    have c1 := fan_cross ps (k := 1) (by omega)
    have c2 := fan_step ps (k := 1) (by omega)
    have z0 : fanK ps 0 = 0 := by unfold fanK sideK crossZ; grind
    have e0 : gcdK ps 0 = gP (rayP ps 1) := by
      rw [gcdK_g]
      unfold stepP rayP
      rw [h.nxt (by omega)]
    have q1 := gP_cross (a := rayP ps 1) (b := rayP ps 2) (by rw [← c1]; exact p)
    have q2 := gP_cross (a := rayP ps 1) (b := stepP ps 1) (by rw [← c2.1]; exact p)
    have q3 := gP_cross (a := rayP ps 2) (b := stepP ps 1) (by rw [← c2.2]; exact p)
    rw [← c1] at q1
    rw [← c2.1] at q2
    rw [← c2.2] at q3
    have r1 := h.ray_g (k := 1) (by omega) (by omega)
    have r2 := h.ray_g (k := 2) (by omega) (by omega)
    have r3 : 1 ≤ gP (stepP ps 1) := gP_pos (h.ne0 (by omega))
    have := three_sides r1 r2 r3 q1 q2 q3
    show ringK ps 2 + gP (rayP ps 2) - 2 ≤ sumTo (fanK ps) 2
    have er : ringK ps 2 = gcdK ps 0 + gcdK ps 1 := by simp only [ringK]; omega
    have es : sumTo (fanK ps) 2 = fanK ps 0 + fanK ps 1 := by simp only [sumTo]; omega
    rw [er, es, e0, gcdK_g, z0]
    have : gP (rayP ps (1 + 1)) = gP (rayP ps 2) := rfl
    omega
  | succ k ih =>
    intro hk
    have i := ih (by omega)
    have p := h.fan_pos (k := k + 2) (by omega) (by omega)
    have c2 := (fan_step ps (k := k + 2) (by omega)).2
    have q := gP_cross (a := rayP ps (k + 2 + 1)) (b := stepP ps (k + 2)) (by rw [← c2]; exact p)
    rw [← c2] at q
    have r1 := h.ray_g (k := k + 2) (by omega) (by omega)
    have r2 := h.ray_g (k := k + 2 + 1) (by omega) (by omega)
    have r3 : 1 ≤ gP (stepP ps (k + 2)) := gP_pos (h.ne0 (by omega))
    have := two_sides r2 r3 r1 q
    have er : ringK ps (k + 1 + 2) = ringK ps (k + 2) + gP (stepP ps (k + 2)) := rfl
    have es : sumTo (fanK ps) (k + 1 + 2) = sumTo (fanK ps) (k + 2) + fanK ps (k + 2) := rfl
    rw [er, es, show k + 1 + 2 = k + 2 + 1 by omega]
    omega
/-- no fewer than two more than the area, twice, lie on the boundary -/
theorem ring_area (h : Around ps) : ringZ ps - 2 ≤ areaZ ps := by
  have h3 := h.three
  have k := h.ring_fan (ps.length - 3) (by omega)
  rw [show ps.length - 3 + 2 = ps.length - 1 by omega] at k
  have l : 0 ≤ fanK ps (ps.length - 1) := h.left (by omega) (by omega)
  have er : ringZ ps = ringK ps (ps.length - 1) + gcdK ps (ps.length - 1) := by
    unfold ringZ
    conv => lhs; rw [show ps.length = ps.length - 1 + 1 by omega]
    rfl
  have es : areaZ ps = sumTo (fanK ps) (ps.length - 1) + fanK ps (ps.length - 1) := by
    rw [← fan_area]
    conv => lhs; rw [show ps.length = ps.length - 1 + 1 by omega]
    rfl
  have eg : gcdK ps (ps.length - 1) = gP (rayP ps (ps.length - 1)) := by
    rw [gcdK_g, ← gP_neg]
    congr 1
    unfold stepP rayP negP
    rw [h.last]
    simp only [Prod.mk.injEq]
    omega
  omega
theorem ring_len (h : Around ps) : (ps.length : Int) ≤ ringZ ps := by
  have key : ∀ k, k ≤ ps.length → (k : Int) ≤ ringK ps k := by
    intro k
    induction k with
    | zero => intro _; simp [ringK]
    | succ k ih =>
      intro hk
      have := ih (by omega)
      have g := gP_pos (h.ne0 (i := k) (by omega))
      simp only [ringK, gcdK_g]
      omega
  exact key _ (Nat.le_refl _)
end Around
/-- the parity of a lattice length -/
def qP (a : Pt) : Int := a.1 + a.2 + a.1 * a.2
theorem gP_par (a : Pt) : (gP a - qP a) % 2 = 0 := by
  have hd : ∀ c : Int, 2 ∣ c ↔ c % 2 = 0 := fun c => by omega
  have g : (2 ∣ gP a) ↔ (2 ∣ a.1 ∧ 2 ∣ a.2) := ⟨fun h => ⟨Int.dvd_trans h (gP_dvd a).1, Int.dvd_trans h (gP_dvd a).2⟩, fun h => Int.dvd_coe_gcd h.1 h.2⟩
  rw [hd, hd, hd] at g
  have e : (a.1 * a.2) % 2 = (a.1 % 2) * (a.2 % 2) % 2 := Int.mul_emod ..
  unfold qP
  have b1 : a.1 % 2 = 0 ∨ a.1 % 2 = 1 := by omega
  have b2 : a.2 % 2 = 0 ∨ a.2 % 2 = 1 := by omega
  rcases b1 with b1 | b1 <;> rcases b2 with b2 | b2 <;> rw [b1, b2] at e <;> simp [b1, b2] at g e <;> omega
theorem par_on (ps : List Pt) {k : Nat} : (qP (toP ps k) - qP (fromP ps k) - gcdK ps k - crossK ps k) % 2 = 0 := by
  have g := gP_par (stepP ps k)
  have e : qP (toP ps k) = qP (fromP ps k) + qP (stepP ps k) + crossK ps k + 2 * ((fromP ps k).2 * (stepP ps k).1) := by
    unfold qP crossK crossZ stepP
    grind
  have e2 : gcdK ps k = gP (stepP ps k) := rfl
  omega
/-- Pick's parity -/
theorem par_area {ps : List Pt} (h : Around ps) : (areaZ ps - ringZ ps) % 2 = 0 := by
  have h3 := h.three
  have key : ∀ k, k < ps.length → (qP (fromP ps k) - qP (fromP ps 0) - ringK ps k - areaK ps k) % 2 = 0 := by
    intro k
    induction k with
    | zero => intro _; simp [ringK, areaK]
    | succ k ih =>
      intro hk
      have i := ih (by omega)
      have p := par_on ps (k := k)
      rw [h.nxt hk] at p
      simp only [ringK, areaK]
      omega
  have k := key (ps.length - 1) (by omega)
  have p := par_on ps (k := ps.length - 1)
  rw [h.last] at p
  have er : ringZ ps = ringK ps (ps.length - 1) + gcdK ps (ps.length - 1) := by
    unfold ringZ
    conv => lhs; rw [show ps.length = ps.length - 1 + 1 by omega]
    rfl
  have es : areaZ ps = areaK ps (ps.length - 1) + crossK ps (ps.length - 1) := by
    unfold areaZ
    conv => lhs; rw [show ps.length = ps.length - 1 + 1 by omega]
    rfl
  omega
end Go.Proofs.Ytnpebfchojalcaa

namespace Go.Proofs.Ytnpebfchojalcaa
/-- a polygon as the chapter says it: the first vertex is the lowest one, and all vertices are to the left of all edges -/
structure RefP (ps : List Pt) : Prop where
  three : 3 ≤ ps.length
  low : ∀ i, 0 < i → i < ps.length → lowP (fromP ps 0) (fromP ps i)
  left : ∀ i k, i < ps.length → k < ps.length → k ≠ i → k ≠ (i + 1) % ps.length → 0 < sideK ps (fromP ps k).1 (fromP ps k).2 i
theorem Around.refP {ps : List Pt} (h : Around ps) : RefP ps := ⟨h.three, fun _ h0 hj => h.lowest h0 hj, fun _ _ hi hk h1 h2 => h.strict_left hi hk h1 h2⟩
theorem side_prev {ps : List Pt} {i : Nat} (hi : i < ps.length) : sideK ps (toP ps i).1 (toP ps i).2 (prevI ps.length i) = crossP (stepP ps (prevI ps.length i)) (stepP ps i) := by
  have e := prev_to hi
  unfold sideK crossP crossZ
  rw [show (stepP ps i) = ((toP ps i).1 - (fromP ps i).1, (toP ps i).2 - (fromP ps i).2) from rfl]
  rw [show (stepP ps (prevI ps.length i)) = ((fromP ps i).1 - (fromP ps (prevI ps.length i)).1, (fromP ps i).2 - (fromP ps (prevI ps.length i)).2) by unfold stepP; rw [e]]
  simp only
  grind
theorem RefP.around {ps : List Pt} (h : RefP ps) : Around ps := by
  have h3 := h.three
  have turn : ∀ i, i < ps.length → 0 < crossP (stepP ps (prevI ps.length i)) (stepP ps i) := fun i hi => by
    rw [← side_prev hi, to_from]
    have hm : (i + 1) % ps.length < ps.length := Nat.mod_lt _ (by omega)
    have hp : prevI ps.length i < ps.length := by unfold prevI; split <;> omega
    refine h.left _ _ hp hm ?_ ?_
    · unfold prevI
      by_cases e : i + 1 < ps.length
      · rw [Nat.mod_eq_of_lt e]; split <;> omega
      · rw [show i + 1 = ps.length by omega, Nat.mod_self]; split <;> omega
    · have : (prevI ps.length i + 1) % ps.length = i := by
        unfold prevI
        split
        · subst_vars
          rw [show ps.length - 1 + 1 = ps.length by omega, Nat.mod_self]
        · rw [show i - 1 + 1 = i by omega, Nat.mod_eq_of_lt hi]
      rw [this]
      by_cases e : i + 1 < ps.length
      · rw [Nat.mod_eq_of_lt e]; omega
      · rw [show i + 1 = ps.length by omega, Nat.mod_self]; omega
  have ne0 : ∀ i, i < ps.length → stepP ps i ≠ (0, 0) := fun i hi e => by
    have := turn i hi
    rw [e] at this
    simp [crossP, crossZ] at this
  refine ⟨h3, turn, fun i hi hlt => ?_⟩
  have ht := turn (i + 1) hi
  have hpi : prevI ps.length (i + 1) = i := by unfold prevI; rw [if_neg (by omega)]; omega
  rw [hpi] at ht
  rcases hlt with ⟨h1, h2⟩ | ⟨_, h2⟩
  · -- the step i sinks, the next one does not
    have hlow := h.low (i + 1) (by omega) hi
    obtain ⟨v, hv⟩ : ∃ v : Pt, v = ((fromP ps 0).1 - (fromP ps (i + 1)).1, (fromP ps 0).2 - (fromP ps (i + 1)).2) := ⟨_, rfl⟩
    have hv0 : v ≠ (0, 0) := fun e => by
      rw [hv] at e
      injection e with e1 e2
      unfold lowP at hlow
      omega
    have hvs : sinksB v.1 v.2 = true := by
      rw [hv]
      unfold sinksB lowP at *
      simp only [Bool.or_eq_true, Bool.and_eq_true, decide_eq_true_iff]
      omega
    have eto : toP ps i = fromP ps (i + 1) := by rw [to_from, Nat.mod_eq_of_lt hi]
    have hb : 0 ≤ crossP (stepP ps (i + 1)) v := by
      have e : crossP (stepP ps (i + 1)) v = sideK ps (fromP ps 0).1 (fromP ps 0).2 (i + 1) := by rw [hv]; rfl
      rw [e]
      by_cases hc : 0 = (i + 1 + 1) % ps.length
      · have e2 : toP ps (i + 1) = fromP ps 0 := by rw [to_from, ← hc]
        unfold sideK stepP crossZ
        rw [e2]
        simp only
        grind
      · exact Int.le_of_lt (h.left (i + 1) 0 hi (by omega) (by omega) hc)
    have ha : 0 ≤ crossP (stepP ps i) v := by
      have e : crossP (stepP ps i) v = sideK ps (fromP ps 0).1 (fromP ps 0).2 i := by
        rw [hv]
        unfold crossP sideK stepP crossZ
        rw [eto]
        simp only
        grind
      rw [e]
      by_cases hc : 0 = i
      · subst hc
        unfold sideK crossZ
        grind
      · exact Int.le_of_lt (h.left i 0 (by omega) (by omega) hc (by rw [Nat.mod_eq_of_lt hi]; omega))
    exact low_out (ne0 _ hi) (ne0 _ (by omega)) hv0 h1 h2 hvs ht hb ha
  · -- both are on one side, but the turn is to the left
    unfold crossP crossZ at ht
    unfold crossZ at h2
    have e1 : (stepP ps (i + 1)).1 * (stepP ps i).2 = (stepP ps i).2 * (stepP ps (i + 1)).1 := Int.mul_comm _ _
    have e2 : (stepP ps (i + 1)).2 * (stepP ps i).1 = (stepP ps i).1 * (stepP ps (i + 1)).2 := Int.mul_comm _ _
    omega
end Go.Proofs.Ytnpebfchojalcaa

namespace Go.Proofs.Ytnpebfchojalcaa
/-! sums of floors, and how many multiples there are -/
theorem div_is {x n q : Int} (hn : 0 < n) (h1 : n * q ≤ x) (h2 : x < n * q + n) : x / n = q := by
  have a : q ≤ x / n := (Int.le_ediv_iff_mul_le hn).2 (by rw [Int.mul_comm]; exact h1)
  have b : x / n < q + 1 := (Int.ediv_lt_iff_lt_mul hn).2 (by rw [Int.mul_comm, Int.mul_add]; omega)
  omega
theorem div_lo (x : Int) {n : Int} (hn : 0 < n) : n * (x / n) ≤ x := Int.mul_ediv_self_le (by omega)
theorem div_hi (x : Int) {n : Int} (hn : 0 < n) : x < n * (x / n) + n := Int.lt_mul_ediv_self_add hn
/-- a floor and that of the opposite number -/
theorem div_neg {x n : Int} (hn : 0 < n) : x / n + (-x) / n = (if n ∣ x then 1 else 0) - 1 := by
  by_cases hd : n ∣ x
  · rw [if_pos hd]
    obtain ⟨q, rfl⟩ := hd
    have e1 : n * q / n = q := Int.mul_ediv_cancel_left q (by omega)
    have e2 : -(n * q) / n = -q := by rw [← Int.mul_neg]; exact Int.mul_ediv_cancel_left _ (by omega)
    omega
  · rw [if_neg hd]
    have a := div_lo x hn
    have b := div_hi x hn
    have c : n * (x / n) ≠ x := fun e => hd ⟨_, e.symm⟩
    have e2 : (-x) / n = -(x / n) - 1 := by
      refine div_is hn ?_ ?_
      · rw [Int.mul_sub, Int.mul_neg]; omega
      · rw [Int.mul_sub, Int.mul_neg]; omega
    omega
theorem div_less {x n : Int} (hn : 0 < n) : (x - 1) / n = -((-x) / n) - 1 := by
  have a := div_lo (-x) hn
  have b := div_hi (-x) hn
  refine div_is hn ?_ ?_
  · rw [Int.mul_sub, Int.mul_neg]; omega
  · rw [Int.mul_sub, Int.mul_neg]; omega
theorem sumTo_zero (n : Nat) : sumTo (fun _ => 0) n = 0 := by
  induction n with
  | zero => rfl
  | succ n ih => simp only [sumTo, ih]; rfl
theorem sumTo_const (c : Int) (n : Nat) : sumTo (fun _ => c) n = n * c := by
  induction n with
  | zero => simp [sumTo]
  | succ n ih => simp only [sumTo, ih]; rw [Int.natCast_succ, Int.add_mul]; omega
theorem sumTo_sub {f g : Nat → Int} (n : Nat) : sumTo (fun k => f k - g k) n = sumTo f n - sumTo g n := by
  induction n with
  | zero => rfl
  | succ n ih => simp only [sumTo, ih]; omega
theorem sumTo_one (f : Nat → Int) : sumTo f 1 = f 0 := by simp [sumTo]
theorem sumTo_first (f : Nat → Int) (n : Nat) : sumTo f (n + 1) = f 0 + sumTo (fun k => f (k + 1)) n := by
  rw [Nat.add_comm, sumTo_split, sumTo_one]
  congr 1
  exact sumTo_congr _ fun k _ => by rw [Nat.add_comm]
theorem sumTo_back (f : Nat → Int) : ∀ n, sumTo (fun k => f (n - 1 - k)) n = sumTo f n := by
  intro n
  induction n with
  | zero => rfl
  | succ n ih =>
    rw [sumTo_first, show sumTo f (n + 1) = sumTo f n + f n from rfl, ← ih]
    have : sumTo (fun k => f (n + 1 - 1 - (k + 1))) n = sumTo (fun k => f (n - 1 - k)) n := sumTo_congr _ fun k _ => by congr 1; omega
    rw [this, show n + 1 - 1 - 0 = n by omega]
    omega
theorem sumTo_single {f : Nat → Int} {n k0 : Nat} (hk : k0 < n) (h : ∀ k, k < n → k ≠ k0 → f k = 0) : sumTo f n = f k0 := by
  have e : n = k0 + (1 + (n - k0 - 1)) := by omega
  rw [e, sumTo_split, sumTo_split, sumTo_one]
  have a : sumTo f k0 = 0 := by
    rw [sumTo_congr (g := fun _ => 0) _ fun k h' => h k (by omega) (by omega)]
    exact sumTo_zero _
  have b : sumTo (fun k => f (k0 + (1 + k))) (n - k0 - 1) = 0 := by
    rw [sumTo_congr (g := fun _ => 0) _ fun k h' => h (k0 + (1 + k)) (by omega) (by omega)]
    exact sumTo_zero _
  rw [a, b]
  simp
theorem sumTo_swap (f : Nat → Nat → Int) (n : Nat) : ∀ m, sumTo (fun i => sumTo (f i) n) m = sumTo (fun k => sumTo (fun i => f i k) m) n := by
  intro m
  induction m with
  | zero => exact (sumTo_zero n).symm
  | succ m ih =>
    simp only [sumTo]
    rw [ih, ← sumTo_add]
theorem sumTo_le {f g : Nat → Int} : ∀ n, (∀ k, k < n → f k ≤ g k) → sumTo f n ≤ sumTo g n := by
  intro n
  induction n with
  | zero => intro _; exact Int.le_refl _
  | succ n ih => intro h; simp only [sumTo]; have := ih fun k hk => h k (by omega); have := h n (by omega); omega
/-- a function that is zero but for some places in a row -/
theorem sumTo_part (f : Nat → Int) {a b n : Nat} (hab : a ≤ b) (hb : b ≤ n) : sumTo (fun i => if a ≤ i ∧ i < b then f i else 0) n = sumTo (fun j => f (a + j)) (b - a) := by
  have e : n = a + ((b - a) + (n - b)) := by omega
  rw [e, sumTo_split, sumTo_split]
  have z1 : sumTo (fun i => if a ≤ i ∧ i < b then f i else 0) a = 0 := by
    rw [sumTo_congr (g := fun _ => 0) _ fun k h' => if_neg (by omega)]
    exact sumTo_zero _
  have z2 : sumTo (fun k => (fun i => if a ≤ i ∧ i < b then f i else 0) (a + ((b - a) + k))) (n - b) = 0 := by
    rw [sumTo_congr (g := fun _ => 0) _ fun k h' => if_neg (by omega)]
    exact sumTo_zero _
  have z3 : sumTo (fun k => (fun i => if a ≤ i ∧ i < b then f i else 0) (a + k)) (b - a) = sumTo (fun j => f (a + j)) (b - a) := sumTo_congr _ fun k h' => if_pos (by omega)
  rw [z1, z2, z3]
  omega
theorem mult_count {d : Nat} (hd : 0 < d) : ∀ g : Nat, sumTo (fun j => if d ∣ j then 1 else 0) (g * d) = g := by
  intro g
  induction g with
  | zero => rw [Nat.zero_mul]; rfl
  | succ g ih =>
    rw [Nat.succ_mul, sumTo_split, ih]
    have : sumTo (fun k => if d ∣ g * d + k then 1 else 0) d = (if d ∣ g * d + 0 then 1 else 0) := sumTo_single (f := fun k => if d ∣ g * d + k then 1 else 0) hd fun k hk h0 => if_neg fun h => by
      have := (Nat.dvd_add_right (Nat.dvd_mul_left d g)).1 h
      have := Nat.le_of_dvd (by omega) this
      omega
    rw [this, if_pos (by rw [Nat.add_zero]; exact Nat.dvd_mul_left d g)]
    omega
/-- how many multiples of m up to n times it are multiples of n -/
theorem dvd_count (m : Int) {n : Nat} (hn : 0 < n) : sumTo (fun j => if (n : Int) ∣ (j : Int) * m then 1 else 0) n = (Int.gcd m n : Nat) := by
  have hg : 0 < Nat.gcd m.natAbs n := Nat.gcd_pos_of_pos_right _ hn
  obtain ⟨d, hd⟩ := Nat.gcd_dvd_right m.natAbs n
  obtain ⟨a, ha⟩ := Nat.gcd_dvd_left m.natAbs n
  have eg : Int.gcd m n = Nat.gcd m.natAbs n := rfl
  rw [eg]
  have hcop : Nat.gcd a d = 1 := by
    have := Nat.gcd_mul_left (Nat.gcd m.natAbs n) a d
    rw [← ha, ← hd] at this
    exact Nat.eq_of_mul_eq_mul_left hg (by rw [Nat.mul_one]; exact this.symm)
  generalize Nat.gcd m.natAbs n = g at *
  have hd0 : 0 < d := by
    rcases Nat.eq_zero_or_pos d with h | h
    · rw [h] at hd; omega
    · exact h
  have key : ∀ j : Nat, ((n : Int) ∣ (j : Int) * m) ↔ d ∣ j := fun j => by
    rw [← Int.natAbs_dvd_natAbs, Int.natAbs_mul, Int.natAbs_natCast, Int.natAbs_natCast, ha, hd]
    rw [show j * (g * a) = g * (j * a) by rw [Nat.mul_left_comm]]
    constructor
    · intro h
      have := Nat.dvd_of_mul_dvd_mul_left hg h
      exact Nat.Coprime.dvd_of_dvd_mul_right (by rw [Nat.Coprime, Nat.gcd_comm]; exact hcop) this
    · intro h
      exact Nat.mul_dvd_mul_left g (Nat.dvd_trans h (Nat.dvd_mul_right j a))
  rw [sumTo_congr (g := fun j => if d ∣ j then 1 else 0) n fun j _ => by
    by_cases h : d ∣ j
    · rw [if_pos h, if_pos ((key j).2 h)]
    · rw [if_neg h, if_neg fun k => h ((key j).1 k)]]
  rw [hd]
  exact mult_count hd0 g
/-- the sum of the floors of the multiples of a fraction -/
theorem floor_sum (m : Int) {n : Nat} (hn : 0 < n) : 2 * sumTo (fun j => ((j : Int) * m) / n) n = m * n - m - n + (Int.gcd m n : Nat) := by
  obtain ⟨p, rfl⟩ : ∃ p, n = p + 1 := ⟨n - 1, by omega⟩
  have h0 : sumTo (fun j => ((j : Int) * m) / ((p + 1 : Nat) : Int)) (p + 1) = sumTo (fun k => (((k + 1 : Nat) : Int) * m) / ((p + 1 : Nat) : Int)) p := by
    rw [sumTo_first]
    simp
  have hc := dvd_count m hn
  rw [sumTo_first] at hc
  simp only [Int.natCast_zero, Int.zero_mul] at hc
  rw [if_pos (Int.dvd_zero _)] at hc
  have hb := sumTo_back (fun k => (((k + 1 : Nat) : Int) * m) / ((p + 1 : Nat) : Int)) p
  have hp : sumTo (fun k => (((k + 1 : Nat) : Int) * m) / ((p + 1 : Nat) : Int) + (((p - 1 - k + 1 : Nat) : Int) * m) / ((p + 1 : Nat) : Int)) p =
      sumTo (fun k => (m - 1) + (if ((p + 1 : Nat) : Int) ∣ ((k + 1 : Nat) : Int) * m then 1 else 0)) p := sumTo_congr _ fun k hk => by
    have hn' : (0 : Int) < ((p + 1 : Nat) : Int) := by omega
    have e : ((p - 1 - k + 1 : Nat) : Int) * m = ((p + 1 : Nat) : Int) * m + -(((k + 1 : Nat) : Int) * m) := by
      rw [← Int.neg_mul, ← Int.add_mul]
      congr 1
      omega
    rw [e, Int.add_comm (((p + 1 : Nat) : Int) * m), Int.add_mul_ediv_left _ _ (by omega)]
    have := div_neg (x := ((k + 1 : Nat) : Int) * m) hn'
    omega
  rw [sumTo_add, hb, sumTo_add, sumTo_const] at hp
  rw [h0]
  have e : m * ((p + 1 : Nat) : Int) = m * p + m := by rw [Int.natCast_succ, Int.mul_add, Int.mul_one]
  have e2 : (p : Int) * (m - 1) = m * p - p := by rw [Int.mul_sub, Int.mul_one, Int.mul_comm]
  rw [e]
  rw [e2] at hp
  have e3 : ((p + 1 : Nat) : Int) = p + 1 := by omega
  omega
/-- and if each is a little less -/
theorem floor_less (m : Int) {n : Nat} (hn : 0 < n) : 2 * sumTo (fun j => ((j : Int) * m - 1) / n) n = m * n - m - n - (Int.gcd m n : Nat) := by
  have h := floor_sum (-m) hn
  have hn' : (0 : Int) < (n : Int) := by omega
  rw [sumTo_congr (g := fun j => -1 - ((j : Int) * -m) / n) n fun j _ => by rw [div_less hn', Int.mul_neg]; omega]
  rw [sumTo_sub, sumTo_const]
  rw [Int.neg_gcd, Int.neg_mul] at h
  omega
/-- both at once -/
def signS (s : Int) : Int := 1 - 2 * s
theorem floor_both (m : Int) {n : Nat} (hn : 0 < n) {s : Int} (hs : s = 0 ∨ s = 1) : 2 * sumTo (fun j => ((j : Int) * m - s) / n) n = m * n - m - n + signS s * (Int.gcd m n : Nat) := by
  rcases hs with rfl | rfl
  · have := floor_sum m hn
    simp only [Int.sub_zero]
    unfold signS
    omega
  · have := floor_less m hn
    unfold signS
    omega
end Go.Proofs.Ytnpebfchojalcaa

namespace Go.Proofs.Ytnpebfchojalcaa
/-! the rows of a polygon, edge by edge -/
theorem edge_up {dx dy xk yk s y0 : Int} {H : Nat} (hd : 0 < dy) (h0 : y0 ≤ yk) (h1 : yk + dy ≤ y0 + H) (hs : s = 0 ∨ s = 1) :
    2 * sumTo (fun i => if yk ≤ y0 + (i : Int) ∧ y0 + (i : Int) < yk + dy then (dx * (y0 + (i : Int) - yk) + dy * xk - s) / dy else 0) H = 2 * (dy * xk) + dx * dy - dx - dy + signS s * (Int.gcd dx dy : Nat) := by
  obtain ⟨n, rfl⟩ : ∃ n : Nat, dy = n := ⟨dy.toNat, by omega⟩
  obtain ⟨a, rfl⟩ : ∃ a : Nat, yk = y0 + a := ⟨(yk - y0).toNat, by omega⟩
  have hn : 0 < n := by omega
  rw [sumTo_congr (g := fun i => if a ≤ i ∧ i < a + n then (dx * (y0 + (i : Int) - (y0 + a)) + n * xk - s) / n else 0) H fun i _ => by
    by_cases h : a ≤ i ∧ i < a + n
    · rw [if_pos h, if_pos (by omega)]
    · rw [if_neg h, if_neg (by omega)]]
  rw [sumTo_part (fun i => (dx * (y0 + (i : Int) - (y0 + a)) + n * xk - s) / n) (by omega) (by omega), show a + n - a = n by omega]
  rw [sumTo_congr (g := fun j => xk + ((j : Int) * dx - s) / n) n fun j _ => by
    have e : dx * (y0 + ((a + j : Nat) : Int) - (y0 + a)) + n * xk - s = ((j : Int) * dx - s) + n * xk := by
      rw [show y0 + ((a + j : Nat) : Int) - (y0 + a) = j by omega, Int.mul_comm dx]; omega
    rw [e, Int.add_mul_ediv_left _ _ (by omega)]
    omega]
  rw [sumTo_add, sumTo_const]
  have := floor_both dx hn hs
  omega
theorem edge_down {dx dy xk yk s y0 : Int} {H : Nat} (hd : dy < 0) (h0 : y0 ≤ yk + dy) (h1 : yk ≤ y0 + H) (hs : s = 0 ∨ s = 1) :
    2 * sumTo (fun i => if yk + dy ≤ y0 + (i : Int) ∧ y0 + (i : Int) < yk then (dx * (y0 + (i : Int) - yk) + dy * xk - s) / -dy else 0) H = 2 * (dy * xk) + dx * dy - dx + dy + signS s * (Int.gcd dx dy : Nat) := by
  obtain ⟨n, e⟩ : ∃ n : Nat, -dy = n := ⟨(-dy).toNat, by omega⟩
  obtain rfl : dy = -n := by omega
  obtain ⟨a, e2⟩ : ∃ a : Nat, yk + -n = y0 + a := ⟨(yk + -n - y0).toNat, by omega⟩
  obtain rfl : yk = y0 + a + n := by omega
  have hn : 0 < n := by omega
  rw [sumTo_congr (g := fun i => if a ≤ i ∧ i < a + n then (dx * (y0 + (i : Int) - (y0 + a + n)) + -n * xk - s) / n else 0) H fun i _ => by
    by_cases h : a ≤ i ∧ i < a + n
    · rw [if_pos h, if_pos (by omega), Int.neg_neg]
    · rw [if_neg h, if_neg (by omega)]]
  rw [sumTo_part (fun i => (dx * (y0 + (i : Int) - (y0 + a + n)) + -n * xk - s) / n) (by omega) (by omega), show a + n - a = n by omega]
  rw [sumTo_congr (g := fun j => -(dx + xk) + ((j : Int) * dx - s) / n) n fun j _ => by
    have e : dx * (y0 + ((a + j : Nat) : Int) - (y0 + a + n)) + -n * xk - s = ((j : Int) * dx - s) + n * -(dx + xk) := by
      rw [show y0 + ((a + j : Nat) : Int) - (y0 + a + n) = (j : Int) - n by omega]; grind
    rw [e, Int.add_mul_ediv_left _ _ (by omega)]
    omega]
  rw [sumTo_add, sumTo_const]
  have h := floor_both dx hn hs
  rw [Int.gcd_neg]
  have e3 : 2 * ((n : Int) * -(dx + xk)) = -2 * (n * xk) - 2 * (dx * n) := by grind
  have e4 : -(n : Int) * xk = -(n * xk) := Int.neg_mul ..
  have e5 : dx * -(n : Int) = -(dx * n) := Int.mul_neg ..
  rw [e4, e5]
  omega
/-- where a chain passes a height -/
theorem chain_at (Y : Nat → Int) : ∀ u, (∀ k, k < u → Y k ≤ Y (k + 1)) → ∀ y, Y 0 ≤ y → y < Y u → ∃ k0, k0 < u ∧ (Y k0 ≤ y ∧ y < Y (k0 + 1)) ∧ ∀ k, k < u → k ≠ k0 → ¬ (Y k ≤ y ∧ y < Y (k + 1)) := by
  intro u
  induction u with
  | zero => intro _ y h1 h2; omega
  | succ u ih =>
    intro hm y h1 h2
    by_cases hc : y < Y u
    · obtain ⟨k0, hk, hy, ho⟩ := ih (fun k hk => hm k (by omega)) y h1 hc
      refine ⟨k0, by omega, hy, fun k hk hne => ?_⟩
      by_cases e : k = u
      · subst e; omega
      · exact ho k (by omega) hne
    · have mono : ∀ k, k ≤ u → Y k ≤ Y u := by
        intro k hk
        have : ∀ d, d ≤ u → Y (u - d) ≤ Y u := by
          intro d
          induction d with
          | zero => intro _; exact Int.le_refl _
          | succ d ihd =>
            intro hd
            have a := ihd (by omega)
            have b := hm (u - (d + 1)) (by omega)
            rw [show u - (d + 1) + 1 = u - d by omega] at b
            omega
        have := this (u - k) (by omega)
        rwa [show u - (u - k) = k by omega] at this
      refine ⟨u, by omega, ⟨by omega, h2⟩, fun k hk hne => ?_⟩
      have := mono (k + 1) (by omega)
      omega
theorem chain_dn (Y : Nat → Int) (u : Nat) (hm : ∀ k, k < u → Y (k + 1) ≤ Y k) (y : Int) (h1 : Y u ≤ y) (h2 : y < Y 0) : ∃ k0, k0 < u ∧ (Y (k0 + 1) ≤ y ∧ y < Y k0) ∧ ∀ k, k < u → k ≠ k0 → ¬ (Y (k + 1) ≤ y ∧ y < Y k) := by
  obtain ⟨k0, hk, hy, ho⟩ := chain_at (fun k => -Y k) u (fun k hk => by have := hm k hk; omega) (-y - 1) (by omega) (by omega)
  refine ⟨k0, hk, by omega, fun k hk hne h => ho k hk hne (by omega)⟩
/-- an edge's number in a row: how far to the right, or to the left, the row goes there -/
def restZ (s : Int) (ps : List Pt) (k : Nat) (y : Int) : Int := (stepP ps k).1 * (y - (fromP ps k).2) + (stepP ps k).2 * (fromP ps k).1 - s
def upC (ps : List Pt) (k : Nat) (y : Int) : Prop := (fromP ps k).2 ≤ y ∧ y < (fromP ps k).2 + (stepP ps k).2
def dnC (ps : List Pt) (k : Nat) (y : Int) : Prop := (fromP ps k).2 + (stepP ps k).2 ≤ y ∧ y < (fromP ps k).2
def upZ (s : Int) (ps : List Pt) (k : Nat) (y : Int) : Int := if (fromP ps k).2 ≤ y ∧ y < (fromP ps k).2 + (stepP ps k).2 then restZ s ps k y / (stepP ps k).2 else 0
def dnZ (s : Int) (ps : List Pt) (k : Nat) (y : Int) : Int := if (fromP ps k).2 + (stepP ps k).2 ≤ y ∧ y < (fromP ps k).2 then restZ s ps k y / -(stepP ps k).2 else 0
/-- twice what an edge gives in all rows -/
def tZ (s : Int) (ps : List Pt) (k : Nat) : Int := (2 * (fromP ps k).1 + (stepP ps k).1) * (stepP ps k).2 - (stepP ps k).1 - (if 0 ≤ (stepP ps k).2 then (stepP ps k).2 else -(stepP ps k).2) + signS s * gcdK ps k
theorem to_y (ps : List Pt) (k : Nat) : (toP ps k).2 = (fromP ps k).2 + (stepP ps k).2 := by unfold stepP; simp only; omega
theorem to_x (ps : List Pt) (k : Nat) : (toP ps k).1 = (fromP ps k).1 + (stepP ps k).1 := by unfold stepP; simp only; omega
theorem edge_rows {s : Int} (hs : s = 0 ∨ s = 1) (ps : List Pt) (k : Nat) {y0 : Int} {H : Nat} (h0 : y0 ≤ (fromP ps k).2) (h1 : (fromP ps k).2 ≤ y0 + H) (h2 : y0 ≤ (toP ps k).2) (h3 : (toP ps k).2 ≤ y0 + H) :
    2 * sumTo (fun i => upZ s ps k (y0 + (i : Int)) + dnZ s ps k (y0 + (i : Int))) H = if (stepP ps k).2 = 0 then 0 else tZ s ps k := by
  rw [to_y] at h2 h3
  have eg : gcdK ps k = (Int.gcd (stepP ps k).1 (stepP ps k).2 : Nat) := rfl
  rw [sumTo_add]
  unfold upZ dnZ restZ tZ
  rw [eg]
  generalize (stepP ps k).1 = dx at *
  generalize (stepP ps k).2 = dy at *
  generalize (fromP ps k).1 = xk at *
  generalize (fromP ps k).2 = yk at *
  rcases Int.lt_trichotomy dy 0 with h | h | h
  · rw [if_neg (show ¬ dy = 0 by omega), if_neg (show ¬ 0 ≤ dy by omega)]
    rw [sumTo_congr (f := fun i : Nat => if yk ≤ y0 + (i : Int) ∧ y0 + (i : Int) < yk + dy then (dx * (y0 + (i : Int) - yk) + dy * xk - s) / dy else 0) (g := fun _ => 0) H fun i _ => if_neg (by omega), sumTo_zero]
    have := edge_down (dx := dx) (xk := xk) h h2 h1 hs
    rw [Int.add_mul, Int.mul_assoc, Int.mul_comm xk]
    omega
  · subst h
    rw [if_pos rfl]
    rw [sumTo_congr (f := fun i : Nat => if yk ≤ y0 + (i : Int) ∧ y0 + (i : Int) < yk + 0 then (dx * (y0 + (i : Int) - yk) + 0 * xk - s) / 0 else 0) (g := fun _ => 0) H fun i _ => if_neg (by omega), sumTo_zero]
    rw [sumTo_congr (f := fun i : Nat => if yk + 0 ≤ y0 + (i : Int) ∧ y0 + (i : Int) < yk then (dx * (y0 + (i : Int) - yk) + 0 * xk - s) / -0 else 0) (g := fun _ => 0) H fun i _ => if_neg (by omega), sumTo_zero]
    rfl
  · rw [if_neg (show ¬ dy = 0 by omega), if_pos (show 0 ≤ dy by omega)]
    rw [sumTo_congr (f := fun i : Nat => if yk + dy ≤ y0 + (i : Int) ∧ y0 + (i : Int) < yk then (dx * (y0 + (i : Int) - yk) + dy * xk - s) / -dy else 0) (g := fun _ => 0) H fun i _ => if_neg (by omega), sumTo_zero]
    have := edge_up (dx := dx) (xk := xk) h h0 h3 hs
    rw [Int.add_mul, Int.mul_assoc, Int.mul_comm xk]
    omega
end Go.Proofs.Ytnpebfchojalcaa

namespace Go.Proofs.Ytnpebfchojalcaa
/-- how a polygon goes up to its highest vertex and down again -/
structure Tall (ps : List Pt) (u : Nat) : Prop where
  u1 : 1 ≤ u
  u2 : u < ps.length
  up : ∀ k, k < u → 0 < (stepP ps k).2 ∨ ((stepP ps k).2 = 0 ∧ 0 < (stepP ps k).1 ∧ k = 0)
  dn : ∀ k, u ≤ k → k < ps.length → (stepP ps k).2 < 0 ∨ ((stepP ps k).2 = 0 ∧ (stepP ps k).1 < 0 ∧ k = u)
  top : ∀ j, j < ps.length → (fromP ps j).2 ≤ (fromP ps u).2
  low : ∀ j, j < ps.length → (fromP ps 0).2 ≤ (fromP ps j).2
  high : (fromP ps 0).2 < (fromP ps u).2
theorem Around.tall {ps : List Pt} (h : Around ps) : ∃ u, Tall ps u := by
  obtain ⟨u, u1, u2, hs, ht⟩ := h.top
  have n := h.three
  have up : ∀ k, k < u → 0 < (stepP ps k).2 ∨ ((stepP ps k).2 = 0 ∧ 0 < (stepP ps k).1) := fun k hk => by
    have : sinksB (stepP ps k).1 (stepP ps k).2 = false := by
      cases e : sinksB (stepP ps k).1 (stepP ps k).2 with
      | false => rfl
      | true => have := (hs k (by omega)).1 e; omega
    exact up_of this (h.ne0 (by omega))
  have dn : ∀ k, u ≤ k → k < ps.length → (stepP ps k).2 < 0 ∨ ((stepP ps k).2 = 0 ∧ (stepP ps k).1 < 0) := fun k hk hn => down_of ((hs k hn).2 hk)
  have low : ∀ j, j < ps.length → (fromP ps 0).2 ≤ (fromP ps j).2 := fun j hj => by
    rcases Nat.eq_zero_or_pos j with rfl | h0
    · exact Int.le_refl _
    · have := h.lowest h0 hj
      unfold lowP at this
      omega
  have flat : ∀ k, 0 < k → k < ps.length → (stepP ps k).2 = 0 → 0 < -((stepP ps (k - 1)).2 * (stepP ps k).1) := fun k h0 hk e => by
    have := h.turn k hk
    rw [show prevI ps.length k = k - 1 by unfold prevI; rw [if_neg (by omega)]] at this
    unfold crossP crossZ at this
    rw [e] at this
    omega
  have up' : ∀ k, k < u → 0 < (stepP ps k).2 ∨ ((stepP ps k).2 = 0 ∧ 0 < (stepP ps k).1 ∧ k = 0) := fun k hk => by
    rcases up k hk with g | ⟨g1, g2⟩
    · exact .inl g
    · rcases Nat.eq_zero_or_pos k with h0 | h0
      · exact .inr ⟨g1, g2, h0⟩
      · have f := flat k h0 (by omega) g1
        have : 0 ≤ (stepP ps (k - 1)).2 := by rcases up (k - 1) (by omega) with g | g <;> omega
        have := Int.mul_nonneg this (Int.le_of_lt g2)
        omega
  have dn' : ∀ k, u ≤ k → k < ps.length → (stepP ps k).2 < 0 ∨ ((stepP ps k).2 = 0 ∧ (stepP ps k).1 < 0 ∧ k = u) := fun k hk hn => by
    rcases dn k hk hn with g | ⟨g1, g2⟩
    · exact .inl g
    · by_cases hu : k = u
      · exact .inr ⟨g1, g2, hu⟩
      · have f := flat k (by omega) (by omega) g1
        have : (stepP ps (k - 1)).2 ≤ 0 := by rcases dn (k - 1) (by omega) (by omega) with g | g <;> omega
        have := Int.mul_nonneg_of_nonpos_of_nonpos this (Int.le_of_lt g2)
        omega
  refine ⟨u, u1, u2, up', dn', fun j hj => ?_, low, ?_⟩
  · by_cases e : j = u
    · rw [e]; exact Int.le_refl _
    · have := ht j hj e
      unfold lowP at this
      omega
  · rcases Int.lt_or_eq_of_le (low u u2) with g | g
    · exact g
    · exfalso
      have a := h.nxt (i := 0) (by omega)
      have e1 := to_y ps 0
      rw [a] at e1
      have z : (stepP ps 0).2 = 0 := by
        have : (fromP ps (0 + 1)).2 = (fromP ps 0).2 := by
          have l := low (0 + 1) (by omega)
          by_cases e : 0 + 1 = u
          · rw [e]; exact g.symm
          · have := ht (0 + 1) (by omega) e
            unfold lowP at this
            omega
        omega
      by_cases hu1 : u = 1
      · subst hu1
        have f := h.turn 1 (by omega)
        rw [show prevI ps.length 1 = 0 from rfl] at f
        unfold crossP crossZ at f
        rw [z] at f
        have p : 0 < (stepP ps 0).1 := by rcases up 0 (by omega) with q | q <;> omega
        have q : (stepP ps 1).2 ≤ 0 := by rcases dn 1 (by omega) (by omega) with q | q <;> omega
        have := Int.mul_nonneg (Int.le_of_lt p) (show 0 ≤ -(stepP ps 1).2 by omega)
        rw [Int.mul_neg] at this
        omega
      · have b := h.nxt (i := 1) (by omega)
        have e2 := to_y ps 1
        rw [b] at e2
        have := up' 1 (by omega)
        have q : 0 < (stepP ps 1).2 := by rcases this with q | q <;> omega
        have : (fromP ps (1 + 1)).2 ≤ (fromP ps u).2 := by
          by_cases e : 1 + 1 = u
          · rw [e]; exact Int.le_refl _
          · have := ht (1 + 1) (by omega) e
            unfold lowP at this
            omega
        have e3 : (fromP ps (0 + 1)).2 = (fromP ps 1).2 := rfl
        omega
variable {ps : List Pt} {u : Nat}
/-- the two edges that a row meets -/
theorem Tall.row (h : Around ps) (t : Tall ps u) {y : Int} (h1 : (fromP ps 0).2 ≤ y) (h2 : y < (fromP ps u).2) (s : Int) :
    ∃ k m, k < u ∧ upC ps k y ∧ u ≤ m ∧ m < ps.length ∧ dnC ps m y ∧ sumTo (fun k => upZ s ps k y + dnZ s ps k y) ps.length = restZ s ps k y / (stepP ps k).2 + restZ s ps m y / -(stepP ps m).2 := by
  have n := h.three
  have u2 := t.u2
  have nx : ∀ k, k < u → (fromP ps (k + 1)).2 = (fromP ps k).2 + (stepP ps k).2 := fun k hk => by rw [← to_y, h.nxt (by omega)]
  have nd : ∀ k, u + k < ps.length → (fromP ps ((u + (k + 1)) % ps.length)).2 = (fromP ps (u + k)).2 + (stepP ps (u + k)).2 := fun k hk => by rw [← to_y, to_from]; rfl
  have md : ∀ k, u + k < ps.length → (u + k) % ps.length = u + k := fun k hk => Nat.mod_eq_of_lt hk
  obtain ⟨k, hk, hy, ho⟩ := chain_at (fun k => (fromP ps k).2) u (fun k hk => by rw [nx k hk]; rcases t.up k hk with g | g <;> omega) y h1 h2
  obtain ⟨m, hm, hz, hp⟩ := chain_dn (fun k => (fromP ps ((u + k) % ps.length)).2) (ps.length - u) (fun k hk => by rw [nd k (by omega), md k (by omega)]; rcases t.dn (u + k) (by omega) (by omega) with g | g <;> omega) y
    (by rw [show u + (ps.length - u) = ps.length by omega, Nat.mod_self]; exact h1) (by rw [Nat.add_zero, Nat.mod_eq_of_lt u2]; exact h2)

  rw [nx k hk] at hy
  rw [nd m (by omega), md m (by omega)] at hz
  refine ⟨k, u + m, hk, hy, by omega, by omega, hz, ?_⟩
  rw [sumTo_add]
  have a : sumTo (fun k => upZ s ps k y) ps.length = upZ s ps k y := sumTo_single (f := fun k => upZ s ps k y) (by omega) fun j hj hne => by
    refine if_neg fun hc => ?_
    by_cases g : j < u
    · exact ho j g hne (by rw [nx j g]; exact hc)
    · rcases t.dn j (by omega) hj with q | q <;> omega
  have b : sumTo (fun k => dnZ s ps k y) ps.length = dnZ s ps (u + m) y := sumTo_single (f := fun k => dnZ s ps k y) (by omega) fun j hj hne => by
    refine if_neg fun hc => ?_
    by_cases g : j < u
    · rcases t.up j g with q | q <;> omega
    · have := hp (j - u) (by omega) (by omega)
      rw [nd (j - u) (by omega), md (j - u) (by omega), show u + (j - u) = j by omega] at this
      exact this hc
  rw [a, b]
  unfold upZ dnZ
  rw [if_pos hy, if_pos hz]
/-- what lies to the left of two edges that face each other in a row lies to the left of all -/
theorem side_id (ps : List Pt) (k j : Nat) (x y : Int) : (stepP ps k).2 * sideK ps x y j = (stepP ps j).2 * sideK ps x y k + ((fromP ps k).2 + (stepP ps k).2 - y) * sideK ps (fromP ps k).1 (fromP ps k).2 j + (y - (fromP ps k).2) * sideK ps (toP ps k).1 (toP ps k).2 j := by
  rw [to_x, to_y]
  unfold sideK crossZ
  grind
theorem left_to (h : Around ps) {k j : Nat} (hj : j < ps.length) : 0 ≤ sideK ps (toP ps k).1 (toP ps k).2 j := by
  have n := h.three
  rw [to_from]
  exact h.left hj (Nat.mod_lt _ (by omega))
theorem mul_sign_pos {a b : Int} (ha : 0 < a) : (0 ≤ a * b ↔ 0 ≤ b) ∧ (0 < a * b ↔ 0 < b) := by
  refine ⟨⟨fun h => Int.nonneg_of_mul_nonneg_right h ha, fun h => Int.mul_nonneg (by omega) h⟩, ⟨fun h => ?_, fun h => Int.mul_pos ha h⟩⟩
  rcases Int.lt_or_le 0 b with g | g
  · exact g
  · have := Int.mul_nonneg (show 0 ≤ a by omega) (show 0 ≤ -b by omega)
    rw [Int.mul_neg] at this
    omega
theorem mul_sign_neg {a b : Int} (ha : a < 0) : (a * b ≤ 0 ↔ 0 ≤ b) ∧ (a * b < 0 ↔ 0 < b) := by
  have := mul_sign_pos (a := -a) (b := b) (by omega)
  rw [Int.neg_mul] at this
  omega
/-- a row of an edge that rises, ends included -/
def upD (ps : List Pt) (k : Nat) (y : Int) : Prop := 0 < (stepP ps k).2 ∧ (fromP ps k).2 ≤ y ∧ y ≤ (fromP ps k).2 + (stepP ps k).2
def dnD (ps : List Pt) (k : Nat) (y : Int) : Prop := (stepP ps k).2 < 0 ∧ (fromP ps k).2 + (stepP ps k).2 ≤ y ∧ y ≤ (fromP ps k).2
theorem mem_row (h : Around ps) {k m : Nat} {x y : Int} (hk : k < ps.length) (hm : m < ps.length) (a : upD ps k y) (b : dnD ps m y) (h1 : 0 ≤ sideK ps x y k) (h2 : 0 ≤ sideK ps x y m) : ∀ j, j < ps.length → 0 ≤ sideK ps x y j := fun j hj => by
  have l1 := h.left (k := j) hj hk
  have l2 := left_to h (k := k) hj
  have l3 := h.left (k := j) hj hm
  have l4 := left_to h (k := m) hj
  have i1 := side_id ps k j x y
  have i2 := side_id ps m j x y
  have p1 := Int.mul_nonneg (show 0 ≤ (fromP ps k).2 + (stepP ps k).2 - y by have := a.2.2; omega) l1
  have p2 := Int.mul_nonneg (show 0 ≤ y - (fromP ps k).2 by have := a.2.1; omega) l2
  have p3 := Int.mul_nonneg (show 0 ≤ -((fromP ps m).2 + (stepP ps m).2 - y) by have := b.2.1; omega) l3
  have p4 := Int.mul_nonneg (show 0 ≤ -(y - (fromP ps m).2) by have := b.2.2; omega) l4
  rw [Int.neg_mul] at p3 p4
  rcases Int.lt_or_le (stepP ps j).2 0 with g | g
  · have := Int.mul_nonneg (show 0 ≤ -(stepP ps j).2 by omega) h2
    rw [Int.neg_mul] at this
    exact (mul_sign_neg b.1).1.1 (by omega)
  · have := Int.mul_nonneg g h1
    exact (mul_sign_pos a.1).1.1 (by omega)
theorem mem_row1 (h : Around ps) (t : Tall ps u) {k m : Nat} {x y : Int} (hk : k < ps.length) (hm : m < ps.length) (a : upD ps k y) (b : dnD ps m y) (hy1 : (fromP ps 0).2 < y) (hy2 : y < (fromP ps u).2) (h1 : 0 < sideK ps x y k) (h2 : 0 < sideK ps x y m) : ∀ j, j < ps.length → 0 < sideK ps x y j := fun j hj => by
  have l1 := h.left (k := j) hj hk
  have l2 := left_to h (k := k) hj
  have l3 := h.left (k := j) hj hm
  have l4 := left_to h (k := m) hj
  have i1 := side_id ps k j x y
  have i2 := side_id ps m j x y
  have p1 := Int.mul_nonneg (show 0 ≤ (fromP ps k).2 + (stepP ps k).2 - y by have := a.2.2; omega) l1
  have p2 := Int.mul_nonneg (show 0 ≤ y - (fromP ps k).2 by have := a.2.1; omega) l2
  have p3 := Int.mul_nonneg (show 0 ≤ -((fromP ps m).2 + (stepP ps m).2 - y) by have := b.2.1; omega) l3
  have p4 := Int.mul_nonneg (show 0 ≤ -(y - (fromP ps m).2) by have := b.2.2; omega) l4
  rw [Int.neg_mul] at p3 p4
  rcases Int.lt_trichotomy (stepP ps j).2 0 with g | g | g
  · have := Int.mul_pos (show 0 < -(stepP ps j).2 by omega) h2
    rw [Int.neg_mul] at this
    exact (mul_sign_neg b.1).2.1 (by omega)
  · have e : sideK ps x y j = (stepP ps j).1 * (y - (fromP ps j).2) := by unfold sideK crossZ; rw [g]; omega
    rw [e]
    by_cases hju : j < u
    · rcases t.up j hju with q | ⟨_, q, rfl⟩
      · omega
      · exact Int.mul_pos q (by omega)
    · rcases t.dn j (by omega) hj with q | ⟨_, q, rfl⟩
      · omega
      · exact Int.mul_pos_of_neg_of_neg q (by omega)
  · have := Int.mul_pos g h1
    exact (mul_sign_pos a.1).2.1 (by omega)
theorem side_rest (ps : List Pt) (k : Nat) (x y s : Int) : sideK ps x y k - s = restZ s ps k y - (stepP ps k).2 * x := by
  unfold sideK crossZ restZ
  grind
theorem side_up {k : Nat} {x y s : Int} (hd : 0 < (stepP ps k).2) : s ≤ sideK ps x y k ↔ x ≤ restZ s ps k y / (stepP ps k).2 := by
  rw [Int.le_ediv_iff_mul_le hd]
  have := side_rest ps k x y s
  rw [Int.mul_comm x]
  omega
theorem side_dn {k : Nat} {x y s : Int} (hd : (stepP ps k).2 < 0) : s ≤ sideK ps x y k ↔ -(restZ s ps k y / -(stepP ps k).2) ≤ x := by
  have e : -(restZ s ps k y / -(stepP ps k).2) ≤ x ↔ -x ≤ restZ s ps k y / -(stepP ps k).2 := by omega
  rw [e, Int.le_ediv_iff_mul_le (by omega)]
  have := side_rest ps k x y s
  rw [Int.neg_mul_neg, Int.mul_comm x]
  omega
end Go.Proofs.Ytnpebfchojalcaa

namespace Go.Proofs.Ytnpebfchojalcaa
variable {ps : List Pt} {u : Nat}
/-- on all edges or to their left, by so much -/
def inP (s : Int) (ps : List Pt) (x y : Int) : Prop := ∀ k, k < ps.length → s ≤ sideK ps x y k
instance (s : Int) (ps : List Pt) (x y : Int) : Decidable (inP s ps x y) := by unfold inP; infer_instance
/-- how many points of a row are so -/
def rowN (s : Int) (ps : List Pt) (y : Int) : Int := sumTo (fun i => if inP s ps ((i : Int) - 1000) y then 1 else 0) 2001
def allN (s : Int) (ps : List Pt) : Int := sumTo (fun i => rowN s ps ((i : Int) - 1000)) 2001
theorem count_iv {P : Int → Prop} [DecidablePred P] {lo hi : Int} (h : ∀ x, P x ↔ lo ≤ x ∧ x ≤ hi) (h1 : -1000 ≤ lo) (h2 : hi ≤ 1000) (h3 : lo ≤ hi + 1) :
    sumTo (fun i => if P ((i : Int) - 1000) then 1 else 0) 2001 = hi - lo + 1 := by
  obtain ⟨a, ha⟩ : ∃ a : Nat, lo = a - 1000 := ⟨(lo + 1000).toNat, by omega⟩
  obtain ⟨b, hb⟩ : ∃ b : Nat, hi + 1 = b - 1000 := ⟨(hi + 1001).toNat, by omega⟩
  rw [sumTo_congr (g := fun i => if a ≤ i ∧ i < b then (fun _ => 1) i else 0) 2001 fun i _ => by
    by_cases g : a ≤ i ∧ i < b
    · rw [if_pos g, if_pos ((h _).2 (by omega))]
    · rw [if_neg g, if_neg fun k => g (by have := (h _).1 k; omega)]]
  rw [sumTo_part (fun _ => 1) (by omega) (by omega), sumTo_const]
  omega
theorem rowN_none {s y : Int} (h : ∀ x, ¬ inP s ps x y) : rowN s ps y = 0 := by
  unfold rowN
  rw [sumTo_congr (g := fun _ => 0) 2001 fun i _ => if_neg (h _)]
  exact sumTo_zero _
theorem inP_zero {s x y : Int} (hs : 0 ≤ s) (h : inP s ps x y) : inP 0 ps x y := fun k hk => by have := h k hk; omega
/-- no row below the lowest vertex or above the highest one -/
theorem Tall.low_row (h : Around ps) (t : Tall ps u) {x y : Int} (hi : inP 0 ps x y) : ¬ lowP (x, y) (fromP ps 0) := fun hl => by
  have n := h.three
  have s1 := hi 0 (by omega)
  have s2 := hi (ps.length - 1) (by omega)
  have pt : toP ps (ps.length - 1) = fromP ps 0 := h.last
  have e2 : sideK ps x y (ps.length - 1) = triP (fromP ps (ps.length - 1)) (toP ps (ps.length - 1)) (x, y) := (tri_side ps (x, y) _).symm
  rw [e2, tri_move, pt] at s2
  have tr := h.turn 0 (by omega)
  rw [show prevI ps.length 0 = ps.length - 1 from rfl] at tr
  have b0 : sinksB (stepP ps 0).1 (stepP ps 0).2 = false := up_sinks (t.up 0 (by have := t.u1; omega) |>.imp id fun q => ⟨q.1, q.2.1⟩)
  have a1 : sinksB (stepP ps (ps.length - 1)).1 (stepP ps (ps.length - 1)).2 = true := by
    rcases t.dn (ps.length - 1) (by have := t.u2; omega) (by omega) with q | q
    · simp [sinksB]; omega
    · simp [sinksB]; omega
  refine low_out (b := stepP ps 0) (a := stepP ps (ps.length - 1)) (v := (x - (fromP ps 0).1, y - (fromP ps 0).2)) (h.ne0 (by omega)) (h.ne0 (by omega)) (fun e => ?_) b0 a1 (down_sink hl) tr s1 ?_
  · have h1 := congrArg Prod.fst e
    have h2 := congrArg Prod.snd e
    simp only at h1 h2
    unfold lowP at hl
    simp only at hl
    omega
  · show 0 ≤ crossZ ((toP ps (ps.length - 1)).1 - (fromP ps (ps.length - 1)).1) ((toP ps (ps.length - 1)).2 - (fromP ps (ps.length - 1)).2) _ _
    rw [pt]
    exact s2
theorem Tall.high_row (h : Around ps) (t : Tall ps u) {x y : Int} (hi : inP 0 ps x y) : y ≤ (fromP ps u).2 := by
  rcases Int.lt_or_le (fromP ps u).2 y with g | g
  · exfalso
    have n := h.three
    have u1 := t.u1
    have u2 := t.u2
    have s1 := hi u u2
    have s2 := hi (u - 1) (by omega)
    have pt : toP ps (u - 1) = fromP ps u := by rw [h.nxt (by omega), show u - 1 + 1 = u by omega]
    have e2 : sideK ps x y (u - 1) = triP (fromP ps (u - 1)) (toP ps (u - 1)) (x, y) := (tri_side ps (x, y) _).symm
    rw [e2, tri_move, pt] at s2
    have tr := h.turn u u2
    rw [show prevI ps.length u = u - 1 by unfold prevI; rw [if_neg (by omega)]] at tr
    have z1 := h.ne0 (i := u) u2
    have z2 := h.ne0 (i := u - 1) (by omega)
    have a1 : sinksB (stepP ps (u - 1)).1 (stepP ps (u - 1)).2 = false := up_sinks (t.up (u - 1) (by omega) |>.imp id fun q => ⟨q.1, q.2.1⟩)
    have b0 : sinksB (stepP ps u).1 (stepP ps u).2 = true := by
      rcases t.dn u (Nat.le_refl _) u2 with q | q
      · simp [sinksB]; omega
      · simp [sinksB]; omega
    refine low_out (b := negP (stepP ps u)) (a := negP (stepP ps (u - 1))) (v := negP (x - (fromP ps u).1, y - (fromP ps u).2)) (neg_ne z1) (neg_ne z2) (neg_ne fun e => ?_) (by rw [sinks_neg z1, b0]; rfl) (by rw [sinks_neg z2, a1]; rfl) ?_ (by rw [crossP_neg]; exact tr) (by rw [crossP_neg]; exact s1) ?_
    · have h2 := congrArg Prod.snd e
      simp only at h2
      omega
    · unfold negP
      simp [sinksB]
      omega
    · rw [crossP_neg]
      show 0 ≤ crossZ ((toP ps (u - 1)).1 - (fromP ps (u - 1)).1) ((toP ps (u - 1)).2 - (fromP ps (u - 1)).2) _ _
      rw [pt]
      exact s2
  · exact g
/-- strictly inside there is no point in the lowest row or in the highest one -/
theorem Tall.ends_row (h : Around ps) (t : Tall ps u) {x y : Int} (hi : inP 1 ps x y) : (fromP ps 0).2 < y ∧ y < (fromP ps u).2 := by
  have n := h.three
  have u1 := t.u1
  have u2 := t.u2
  have l := t.low_row h (inP_zero (by decide) hi)
  have g := t.high_row h (inP_zero (by decide) hi)
  unfold lowP at l
  simp only at l
  constructor
  · rcases Int.lt_or_eq_of_le (show (fromP ps 0).2 ≤ y by omega) with e | e
    · exact e
    · exfalso
      have s1 := hi 0 (by omega)
      unfold sideK crossZ at s1
      rw [← e, Int.sub_self, Int.mul_zero] at s1
      have p : 0 ≤ (stepP ps 0).2 := by rcases t.up 0 (by omega) with q | q <;> omega
      have := Int.mul_nonneg p (show 0 ≤ x - (fromP ps 0).1 by omega)
      omega
  · rcases Int.lt_or_eq_of_le g with e | e
    · exact e
    · exfalso
      have s1 := hi u u2
      have s2 := hi (u - 1) (by omega)
      have pt : toP ps (u - 1) = fromP ps u := by rw [h.nxt (by omega), show u - 1 + 1 = u by omega]
      have e2 : sideK ps x y (u - 1) = triP (fromP ps (u - 1)) (toP ps (u - 1)) (x, y) := (tri_side ps (x, y) _).symm
      rw [e2, tri_move, pt] at s2
      simp only at s2
      unfold sideK crossZ at s1
      rw [e, Int.sub_self, Int.mul_zero] at s1 s2
      have p : 0 ≤ (fromP ps u).2 - (fromP ps (u - 1)).2 := by
        have := t.top (u - 1) (by omega)
        omega
      have q : (stepP ps u).2 ≤ 0 := by rcases t.dn u (Nat.le_refl _) u2 with q | q <;> omega
      rcases Int.lt_or_le (x - (fromP ps u).1) 0 with v | v
      · have := Int.mul_nonneg_of_nonpos_of_nonpos q (Int.le_of_lt v)
        omega
      · have := Int.mul_nonneg p v
        omega
/-- the numbers of a row's edges are within the limits -/
theorem up_near (hn : nearP ps) {k : Nat} (hk : k < ps.length) {y s : Int} (hs : 0 ≤ s) (a : upD ps k y) : restZ s ps k y / (stepP ps k).2 ≤ 1000 := by
  have b1 := hn _ (from_mem hk)
  have b2 := hn _ (show toP ps k ∈ ps from from_mem (Nat.mod_lt _ (by omega)))
  rw [to_x, to_y] at b2
  obtain ⟨d, h1, h2⟩ := a
  have : restZ s ps k y / (stepP ps k).2 < 1001 := by
    rw [Int.ediv_lt_iff_lt_mul d]
    unfold restZ
    have p1 := Int.mul_nonneg (show 0 ≤ 1000 - (fromP ps k).1 by omega) (show 0 ≤ (fromP ps k).2 + (stepP ps k).2 - y by omega)
    have p2 := Int.mul_nonneg (show 0 ≤ 1000 - ((fromP ps k).1 + (stepP ps k).1) by omega) (show 0 ≤ y - (fromP ps k).2 by omega)
    grind
  omega
theorem dn_near (hn : nearP ps) {k : Nat} (hk : k < ps.length) {y s : Int} (hs : 0 ≤ s) (a : dnD ps k y) : restZ s ps k y / -(stepP ps k).2 ≤ 1000 := by
  have b1 := hn _ (from_mem hk)
  have b2 := hn _ (show toP ps k ∈ ps from from_mem (Nat.mod_lt _ (by omega)))
  rw [to_x, to_y] at b2
  obtain ⟨d, h1, h2⟩ := a
  have : restZ s ps k y / -(stepP ps k).2 < 1001 := by
    rw [Int.ediv_lt_iff_lt_mul (by omega)]
    unfold restZ
    have p1 := Int.mul_nonneg (show 0 ≤ 1000 + (fromP ps k).1 by omega) (show 0 ≤ y - ((fromP ps k).2 + (stepP ps k).2) by omega)
    have p2 := Int.mul_nonneg (show 0 ≤ 1000 + ((fromP ps k).1 + (stepP ps k).1) by omega) (show 0 ≤ (fromP ps k).2 - y by omega)
    grind
  omega
/-- how far two edges that face each other are from each other in a row -/
theorem face_id (ps : List Pt) (k m : Nat) (y : Int) : (stepP ps k).2 * restZ 0 ps m y - (stepP ps m).2 * restZ 0 ps k y = ((fromP ps k).2 + (stepP ps k).2 - y) * sideK ps (fromP ps k).1 (fromP ps k).2 m + (y - (fromP ps k).2) * sideK ps (toP ps k).1 (toP ps k).2 m := by
  have i := side_id ps k m 0 y
  have a := side_rest ps k 0 y 0
  have b := side_rest ps m 0 y 0
  rw [Int.mul_zero, Int.sub_zero, Int.sub_zero] at a b
  rw [a, b] at i
  omega
theorem floors_meet {a b d n : Int} (hd : 0 < d) (hn : 0 < n) (h : 0 ≤ d * b + n * a) : -1 ≤ a / d + b / n := by
  have h1 := div_hi a hd
  have h2 := div_hi b hn
  have p1 : n * a ≤ n * (d * (a / d) + d - 1) := Int.mul_le_mul_of_nonneg_left (by omega) (by omega)
  have p2 : d * b ≤ d * (n * (b / n) + n - 1) := Int.mul_le_mul_of_nonneg_left (by omega) (by omega)
  have e : n * (d * (a / d) + d - 1) + d * (n * (b / n) + n - 1) = d * n * (a / d + b / n + 2) - n - d := by grind
  have q : 0 < d * n * (a / d + b / n + 2) := by omega
  have := (mul_sign_pos (b := a / d + b / n + 2) (Int.mul_pos hd hn)).2.1 q
  omega
theorem floors_meet1 {a b d n : Int} (hd : 0 < d) (hn : 0 < n) (h : 0 < d * b + n * a) : -1 ≤ (a - 1) / d + (b - 1) / n := by
  have h1 := div_hi (a - 1) hd
  have h2 := div_hi (b - 1) hn
  have p1 : n * a ≤ n * (d * ((a - 1) / d) + d) := Int.mul_le_mul_of_nonneg_left (by omega) (by omega)
  have p2 : d * b ≤ d * (n * ((b - 1) / n) + n) := Int.mul_le_mul_of_nonneg_left (by omega) (by omega)
  have e : n * (d * ((a - 1) / d) + d) + d * (n * ((b - 1) / n) + n) = d * n * ((a - 1) / d + (b - 1) / n + 2) := by grind
  have q : 0 < d * n * ((a - 1) / d + (b - 1) / n + 2) := by omega
  have := (mul_sign_pos (b := (a - 1) / d + (b - 1) / n + 2) (Int.mul_pos hd hn)).2.1 q
  omega
theorem rest_s (s : Int) (ps : List Pt) (k : Nat) (y : Int) : restZ s ps k y = restZ 0 ps k y - s := by unfold restZ; omega
/-- a row but the highest one -/
theorem Tall.row0 (h : Around ps) (hn : nearP ps) (t : Tall ps u) {y : Int} (h1 : (fromP ps 0).2 ≤ y) (h2 : y < (fromP ps u).2) :
    rowN 0 ps y = 1 + sumTo (fun k => upZ 0 ps k y + dnZ 0 ps k y) ps.length := by
  have u2 := t.u2
  obtain ⟨k, m, hk, ⟨a1, a2⟩, hm, hmn, ⟨b1, b2⟩, e⟩ := t.row h h1 h2 0
  have A : upD ps k y := ⟨by omega, a1, by omega⟩
  have B : dnD ps m y := ⟨by omega, b1, by omega⟩
  have f := face_id ps k m y
  have p1 := Int.mul_nonneg (show 0 ≤ (fromP ps k).2 + (stepP ps k).2 - y by omega) (h.left (k := m) hmn (show k < ps.length by omega))
  have p2 := Int.mul_nonneg (show 0 ≤ y - (fromP ps k).2 by omega) (left_to h (k := k) hmn)
  have g := floors_meet (a := restZ 0 ps k y) (b := restZ 0 ps m y) A.1 (show 0 < -(stepP ps m).2 by have := B.1; omega) (by rw [Int.neg_mul]; omega)
  have n1 := up_near hn (show k < ps.length by omega) (Int.le_refl 0) A
  have n2 := dn_near hn hmn (Int.le_refl 0) B
  rw [e]
  unfold rowN
  rw [count_iv (P := fun x => inP 0 ps x y) (lo := -(restZ 0 ps m y / -(stepP ps m).2)) (hi := restZ 0 ps k y / (stepP ps k).2) (fun x => ?_) (by omega) n1 (by omega)]
  · omega
  · constructor
    · intro i
      exact ⟨(side_dn B.1).1 (i m hmn), (side_up A.1).1 (i k (by omega))⟩
    · intro i j hj
      exact mem_row h (by omega) hmn A B ((side_up A.1).2 i.2) ((side_dn B.1).2 i.1) j hj
theorem Tall.row1 (h : Around ps) (hn : nearP ps) (t : Tall ps u) {y : Int} (h1 : (fromP ps 0).2 < y) (h2 : y < (fromP ps u).2) :
    rowN 1 ps y = 1 + sumTo (fun k => upZ 1 ps k y + dnZ 1 ps k y) ps.length := by
  have u2 := t.u2
  have n3 := h.three
  obtain ⟨k, m, hk, ⟨a1, a2⟩, hm, hmn, ⟨b1, b2⟩, e⟩ := t.row h (Int.le_of_lt h1) h2 1
  have A : upD ps k y := ⟨by omega, a1, by omega⟩
  have B : dnD ps m y := ⟨by omega, b1, by omega⟩
  have f := face_id ps k m y
  have l1 := h.left (k := m) hmn (show k < ps.length by omega)
  have l2 := left_to h (k := k) hmn
  have p1 := Int.mul_nonneg (show 0 ≤ (fromP ps k).2 + (stepP ps k).2 - y by omega) l1
  have p2 := Int.mul_nonneg (show 0 ≤ y - (fromP ps k).2 by omega) l2
  have pos : 0 < (stepP ps k).2 * restZ 0 ps m y - (stepP ps m).2 * restZ 0 ps k y := by
    rcases Int.lt_or_eq_of_le l1 with g | g
    · have := Int.mul_pos (show 0 < (fromP ps k).2 + (stepP ps k).2 - y by omega) g
      omega
    · have hk1 : k = (m + 1) % ps.length := by
        by_cases c : k = (m + 1) % ps.length
        · exact c
        · have := h.strict_left (k := m) (j := k) hmn (by omega) (by omega) c
          omega
      have hm1 : m + 1 = ps.length := by
        by_cases c : m + 1 < ps.length
        · rw [Nat.mod_eq_of_lt c] at hk1; omega
        · omega
      have hk0 : k = 0 := by rw [hk1, hm1, Nat.mod_self]
      have q : 0 < sideK ps (toP ps k).1 (toP ps k).2 m := by
        rw [h.nxt (by omega)]
        exact h.strict_left hmn (by omega) (by omega) (by rw [hm1, Nat.mod_self]; omega)
      have := Int.mul_pos (show 0 < y - (fromP ps k).2 by rw [hk0]; omega) q
      omega
  have g := floors_meet1 (a := restZ 0 ps k y) (b := restZ 0 ps m y) A.1 (show 0 < -(stepP ps m).2 by have := B.1; omega) (by rw [Int.neg_mul]; omega)
  rw [← rest_s, ← rest_s] at g
  have n1 := up_near hn (show k < ps.length by omega) (show (0 : Int) ≤ 1 by decide) A
  have n2 := dn_near hn hmn (show (0 : Int) ≤ 1 by decide) B
  rw [e]
  unfold rowN
  rw [count_iv (P := fun x => inP 1 ps x y) (lo := -(restZ 1 ps m y / -(stepP ps m).2)) (hi := restZ 1 ps k y / (stepP ps k).2) (fun x => ?_) (by omega) n1 (by omega)]
  · omega
  · constructor
    · intro i
      exact ⟨(side_dn B.1).1 (i m hmn), (side_up A.1).1 (i k (by omega))⟩
    · intro i j hj
      have c1 := (side_up (s := 1) A.1).2 i.2
      have c2 := (side_dn (s := 1) B.1).2 i.1
      exact mem_row1 h t (by omega) hmn A B h1 h2 (by omega) (by omega) j hj
end Go.Proofs.Ytnpebfchojalcaa

namespace Go.Proofs.Ytnpebfchojalcaa
variable {ps : List Pt} {u : Nat}
def flat0 (ps : List Pt) (k : Nat) : Int := if (stepP ps k).2 = 0 then (stepP ps k).1 else 0
/-- the highest row -/
theorem Tall.rowu (h : Around ps) (hn : nearP ps) (t : Tall ps u) : rowN 0 ps (fromP ps u).2 = 1 - flat0 ps u := by
  have n := h.three
  have u1 := t.u1
  have u2 := t.u2
  have nk : toP ps (u - 1) = fromP ps u := by rw [h.nxt (by omega), show u - 1 + 1 = u by omega]
  have ek := to_y ps (u - 1)
  have ekx := to_x ps (u - 1)
  rw [nk] at ek ekx
  have dk : 0 < (stepP ps (u - 1)).2 := by
    rcases t.up (u - 1) (by omega) with q | ⟨q, _, q3⟩
    · exact q
    · have := t.high
      rw [show u - 1 = 0 from q3] at ek q
      omega
  obtain ⟨m, hm, hmn, dm, ym, xm⟩ : ∃ m, u ≤ m ∧ m < ps.length ∧ (stepP ps m).2 < 0 ∧ (fromP ps m).2 = (fromP ps u).2 ∧ (fromP ps m).1 = (fromP ps u).1 + flat0 ps u := by
    rcases t.dn u (Nat.le_refl _) u2 with q | ⟨q, _, _⟩
    · exact ⟨u, Nat.le_refl _, u2, q, rfl, by unfold flat0; rw [if_neg (by omega)]; omega⟩
    · have e := to_y ps u
      have ex := to_x ps u
      rw [q] at e
      by_cases c : u + 1 < ps.length
      · rw [h.nxt c] at e ex
        refine ⟨u + 1, by omega, c, ?_, by omega, by unfold flat0; rw [if_pos q]; exact ex⟩
        rcases t.dn (u + 1) (by omega) c with q | ⟨_, _, q⟩
        · exact q
        · omega
      · rw [to_from, show u + 1 = ps.length by omega, Nat.mod_self] at e
        have := t.high
        omega
  have A : upD ps (u - 1) (fromP ps u).2 := ⟨dk, by omega, by omega⟩
  have B : dnD ps m (fromP ps u).2 := ⟨dm, by omega, by omega⟩
  have v1 : restZ 0 ps (u - 1) (fromP ps u).2 / (stepP ps (u - 1)).2 = (fromP ps u).1 := by
    have e : restZ 0 ps (u - 1) (fromP ps u).2 = (stepP ps (u - 1)).2 * (fromP ps u).1 := by
      unfold restZ
      rw [ekx, ek]
      grind
    rw [e]
    exact Int.mul_ediv_cancel_left _ (by omega)
  have v2 : restZ 0 ps m (fromP ps u).2 / -(stepP ps m).2 = -(fromP ps m).1 := by
    have e : restZ 0 ps m (fromP ps u).2 = -(stepP ps m).2 * -(fromP ps m).1 := by
      unfold restZ
      rw [← ym]
      grind
    rw [e]
    exact Int.mul_ediv_cancel_left _ (by omega)
  have b1 := hn _ (from_mem u2)
  have b2 := hn _ (from_mem hmn)
  have fl : flat0 ps u ≤ 0 := by
    unfold flat0
    rcases t.dn u (Nat.le_refl _) u2 with q | ⟨q, q2, _⟩
    · rw [if_neg (by omega)]; exact Int.le_refl _
    · rw [if_pos q]; omega
  unfold rowN
  rw [count_iv (P := fun x => inP 0 ps x (fromP ps u).2) (lo := (fromP ps m).1) (hi := (fromP ps u).1) (fun x => ?_) (by omega) (by omega) (by omega)]
  · omega
  · constructor
    · intro i
      have i1 := (side_dn B.1).1 (i m hmn)
      have i2 := (side_up A.1).1 (i (u - 1) (by omega))
      rw [v2] at i1
      rw [v1] at i2
      omega
    · intro i j hj
      exact mem_row h (by omega) hmn A B ((side_up A.1).2 (by rw [v1]; exact i.2)) ((side_dn B.1).2 (by rw [v2]; omega)) j hj
/-- what the edges say of the lowest row, strictly inside -/
theorem Tall.row_low (h : Around ps) (t : Tall ps u) : 1 + sumTo (fun k => upZ 1 ps k (fromP ps 0).2 + dnZ 1 ps k (fromP ps 0).2) ps.length = flat0 ps 0 - 1 := by
  have n := h.three
  have u2 := t.u2
  obtain ⟨k, m, hk, ⟨a1, a2⟩, hm, hmn, ⟨b1, b2⟩, e⟩ := t.row h (Int.le_refl _) t.high 1
  rw [e]
  have yk : (fromP ps k).2 = (fromP ps 0).2 := by have := t.low k (by omega); omega
  have hm1 : m + 1 = ps.length := by
    by_cases c : m + 1 < ps.length
    · exfalso
      have e1 := to_y ps m
      rw [h.nxt c] at e1
      have e2 := to_y ps (m + 1)
      have l := t.low (m + 1) c
      have q : (stepP ps (m + 1)).2 < 0 := by
        rcases t.dn (m + 1) (by omega) c with q | ⟨_, _, q⟩
        · exact q
        · omega
      have := t.low ((m + 1 + 1) % ps.length) (Nat.mod_lt _ (by omega))
      rw [← to_from] at this
      omega
    · omega
  have tm : toP ps m = fromP ps 0 := by rw [to_from, hm1, Nat.mod_self]
  have ey := to_y ps m
  have ex := to_x ps m
  rw [tm] at ey ex
  have xk : (fromP ps k).1 = (fromP ps 0).1 + flat0 ps 0 := by
    by_cases c : k = 0
    · subst c
      unfold flat0
      rw [if_neg (by omega)]
      omega
    · have p := to_y ps (k - 1)
      have px := to_x ps (k - 1)
      rw [h.nxt (show k - 1 + 1 < ps.length by omega), show k - 1 + 1 = k by omega] at p px
      have l := t.low (k - 1) (by omega)
      rcases t.up (k - 1) (by omega) with q | ⟨q, _, q3⟩
      · omega
      · unfold flat0
        rw [q3] at p px q
        rw [if_pos q]
        exact px
  have v1 : restZ 1 ps k (fromP ps 0).2 / (stepP ps k).2 = (fromP ps k).1 - 1 := by
    have e : restZ 1 ps k (fromP ps 0).2 = (stepP ps k).2 * (fromP ps k).1 - 1 := by
      unfold restZ
      rw [yk]
      grind
    rw [e]
    exact div_is (by omega) (by rw [Int.mul_sub]; omega) (by rw [Int.mul_sub]; omega)
  have v2 : restZ 1 ps m (fromP ps 0).2 / -(stepP ps m).2 = -(fromP ps 0).1 - 1 := by
    have e : restZ 1 ps m (fromP ps 0).2 = -(stepP ps m).2 * -(fromP ps 0).1 - 1 := by
      unfold restZ
      rw [ey, ex]
      grind
    rw [e]
    exact div_is (by omega) (by rw [Int.mul_sub]; omega) (by rw [Int.mul_sub]; omega)
  rw [v1, v2]
  omega
/-- sums around -/
theorem sum_turn (ps : List Pt) (f : Pt → Int) : sumTo (fun k => f (toP ps k) - f (fromP ps k)) ps.length = 0 := by
  rw [sumTo_sub]
  rcases Nat.eq_zero_or_pos ps.length with h | h
  · rw [h]; rfl
  · have := sumTo_turn (fun k => f (fromP ps k)) (n := ps.length) (s := 1) (by omega)
    have e : sumTo (fun k => f (toP ps k)) ps.length = sumTo (fun k => (fun k => f (fromP ps k)) ((k + 1) % ps.length)) ps.length := sumTo_congr _ fun k _ => by rw [to_from]
    rw [e, this]
    omega
theorem sum_height (h : Around ps) : ∀ k, k < ps.length → sumTo (fun k => (stepP ps k).2) k = (fromP ps k).2 - (fromP ps 0).2 := by
  intro k
  induction k with
  | zero => intro _; simp [sumTo]
  | succ k ih =>
    intro hk
    simp only [sumTo]
    rw [ih (by omega)]
    have := to_y ps k
    rw [h.nxt hk] at this
    omega
theorem Tall.sum_abs (h : Around ps) (t : Tall ps u) : sumTo (fun k => if 0 ≤ (stepP ps k).2 then (stepP ps k).2 else -(stepP ps k).2) ps.length = 2 * ((fromP ps u).2 - (fromP ps 0).2) := by
  have u2 := t.u2
  have e : ps.length = u + (ps.length - u) := by omega
  have s0 := (sum_steps ps).2
  have s1 := sum_height h u u2
  rw [e, sumTo_split] at s0
  rw [e, sumTo_split]
  rw [sumTo_congr (g := fun k => (stepP ps k).2) u fun k hk => if_pos (by rcases t.up k hk with q | q <;> omega)]
  rw [sumTo_congr (f := fun k => (fun k => if 0 ≤ (stepP ps k).2 then (stepP ps k).2 else -(stepP ps k).2) (u + k)) (g := fun k => -1 * (stepP ps (u + k)).2) (ps.length - u) fun k hk => by
    rcases t.dn (u + k) (by omega) (by omega) with q | ⟨q, _, _⟩
    · simp only; rw [if_neg (by omega)]; omega
    · simp only; rw [if_pos (by omega)]; omega]
  rw [sumTo_mul]
  omega
theorem sum_shoe (ps : List Pt) : sumTo (fun k => (2 * (fromP ps k).1 + (stepP ps k).1) * (stepP ps k).2) ps.length = areaZ ps := by
  have t := sum_turn ps (fun z => z.1 * z.2)
  have e : areaZ ps = sumTo (crossK ps) ps.length := areaK_sum ps ps.length
  rw [e, sumTo_congr (g := fun k => crossK ps k + ((fun z : Pt => z.1 * z.2) (toP ps k) - (fun z : Pt => z.1 * z.2) (fromP ps k))) ps.length fun k _ => by
    simp only
    rw [to_x, to_y]
    unfold crossK crossZ
    grind]
  rw [sumTo_add, t]
  omega
theorem Tall.sum_t (h : Around ps) (t : Tall ps u) (s : Int) : sumTo (tZ s ps) ps.length = areaZ ps - 2 * ((fromP ps u).2 - (fromP ps 0).2) + signS s * ringZ ps := by
  have a := sum_shoe ps
  have b := (sum_steps ps).1
  have c := t.sum_abs h
  have d : ringZ ps = sumTo (gcdK ps) ps.length := ringK_sum ps ps.length
  rw [← a, ← c, d, ← sumTo_mul, ← sumTo_sub, ← sumTo_add]
  have : sumTo (tZ s ps) ps.length + sumTo (fun k => (stepP ps k).1) ps.length = sumTo (fun k => (2 * (fromP ps k).1 + (stepP ps k).1) * (stepP ps k).2 - (if 0 ≤ (stepP ps k).2 then (stepP ps k).2 else -(stepP ps k).2) + signS s * gcdK ps k) ps.length := by
    rw [← sumTo_add]
    exact sumTo_congr _ fun k _ => by unfold tZ; omega
  omega
/-- but for the edges that lie in a row -/
theorem Tall.sum_g (h : Around ps) (t : Tall ps u) {s : Int} : sumTo (fun k => if (stepP ps k).2 = 0 then 0 else tZ s ps k) ps.length = sumTo (tZ s ps) ps.length - (if (stepP ps 0).2 = 0 then tZ s ps 0 else 0) - (if (stepP ps u).2 = 0 then tZ s ps u else 0) := by
  have n := h.three
  have u1 := t.u1
  have u2 := t.u2
  have key : ∀ k, k < ps.length → k ≠ 0 → k ≠ u → (stepP ps k).2 ≠ 0 := fun k hk h0 h1 => by
    by_cases c : k < u
    · rcases t.up k c with q | q <;> omega
    · rcases t.dn k (by omega) hk with q | q <;> omega
  rw [sumTo_congr (g := fun k => tZ s ps k - (if k = 0 then (if (stepP ps 0).2 = 0 then tZ s ps 0 else 0) else 0) - (if k = u then (if (stepP ps u).2 = 0 then tZ s ps u else 0) else 0)) ps.length fun k hk => by
    by_cases c0 : k = 0
    · subst c0
      rw [if_pos rfl, if_neg (show ¬ 0 = u by omega)]
      split <;> omega
    · by_cases c1 : k = u
      · subst c1
        rw [if_neg c0, if_pos rfl]
        split <;> omega
      · rw [if_neg c0, if_neg c1, if_neg (key k hk c0 c1)]
        omega]
  rw [sumTo_sub, sumTo_sub]
  have a := sumTo_single (f := fun k => if k = 0 then (if (stepP ps 0).2 = 0 then tZ s ps 0 else 0) else 0) (show 0 < ps.length by omega) fun k _ hne => if_neg hne
  have b := sumTo_single (f := fun k => if k = u then (if (stepP ps u).2 = 0 then tZ s ps u else 0) else 0) u2 fun k _ hne => if_neg hne
  rw [a, b, if_pos rfl, if_pos rfl]
theorem t_flat (s : Int) {k : Nat} (e : (stepP ps k).2 = 0) : tZ s ps k = -(stepP ps k).1 + signS s * ((stepP ps k).1.natAbs : Int) := by
  unfold tZ gcdK
  rw [e, Int.mul_zero, Int.gcd_zero_right]
  simp
/-- all rows but the highest one, by the edges -/
theorem Tall.rows (h : Around ps) (t : Tall ps u) {s : Int} (hs : s = 0 ∨ s = 1) {H : Nat} (hH : (fromP ps u).2 = (fromP ps 0).2 + H) :
    2 * sumTo (fun i => 1 + sumTo (fun k => upZ s ps k ((fromP ps 0).2 + (i : Int)) + dnZ s ps k ((fromP ps 0).2 + (i : Int))) ps.length) H = areaZ ps + signS s * ringZ ps + (if s = 0 then 2 * flat0 ps u else 2 * flat0 ps 0) := by
  have n := h.three
  rw [sumTo_add, sumTo_const, sumTo_swap (fun i k => upZ s ps k ((fromP ps 0).2 + (i : Int)) + dnZ s ps k ((fromP ps 0).2 + (i : Int))), Int.mul_add, ← sumTo_mul]
  rw [sumTo_congr (g := fun k => if (stepP ps k).2 = 0 then 0 else tZ s ps k) ps.length fun k hk => by
    have a := t.low k hk
    have b := t.top k hk
    have c := t.low ((k + 1) % ps.length) (Nat.mod_lt _ (by omega))
    have d := t.top ((k + 1) % ps.length) (Nat.mod_lt _ (by omega))
    rw [← to_from] at c d
    exact edge_rows hs ps k a (by omega) c (by omega)]
  rw [t.sum_g h, t.sum_t h]
  have c0 : (if (stepP ps 0).2 = 0 then tZ s ps 0 else 0) = (if s = 0 then 0 else -2 * flat0 ps 0) := by
    unfold flat0
    by_cases e : (stepP ps 0).2 = 0
    · rw [if_pos e, if_pos e, t_flat s e]
      have : 0 < (stepP ps 0).1 := by rcases t.up 0 (by have := t.u1; omega) with q | q <;> omega
      unfold signS
      rcases hs with rfl | rfl
      · simp; omega
      · simp; omega
    · rw [if_neg e, if_neg e]
      split <;> simp
  have cu : (if (stepP ps u).2 = 0 then tZ s ps u else 0) = (if s = 0 then -2 * flat0 ps u else 0) := by
    unfold flat0
    by_cases e : (stepP ps u).2 = 0
    · rw [if_pos e, if_pos e, t_flat s e]
      have : (stepP ps u).1 < 0 := by rcases t.dn u (Nat.le_refl _) t.u2 with q | q <;> omega
      unfold signS
      rcases hs with rfl | rfl
      · simp; omega
      · simp; omega
    · rw [if_neg e, if_neg e]
      split <;> simp
  rw [c0, cu]
  rcases hs with rfl | rfl
  · simp; omega
  · simp; omega
/-- Pick's theorem: the points that are counted row by row -/
theorem pick_all (h : Around ps) (hn : nearP ps) : 2 * allN 0 ps = areaZ ps + ringZ ps + 2 ∧ 2 * allN 1 ps = areaZ ps - ringZ ps + 2 := by
  obtain ⟨u, t⟩ := h.tall
  have u2 := t.u2
  have n := h.three
  have b0 := hn _ (from_mem (show 0 < ps.length by omega))
  have bu := hn _ (from_mem u2)
  have hi := t.high
  obtain ⟨H, hH⟩ : ∃ H : Nat, (fromP ps u).2 = (fromP ps 0).2 + H := ⟨((fromP ps u).2 - (fromP ps 0).2).toNat, by omega⟩
  obtain ⟨a, ha⟩ : ∃ a : Nat, (fromP ps 0).2 = a - 1000 := ⟨((fromP ps 0).2 + 1000).toNat, by omega⟩
  have e : 2001 = a + (H + (1 + (2001 - a - H - 1))) := by omega
  have lowz : ∀ s : Int, 0 ≤ s → sumTo (fun i => rowN s ps ((i : Int) - 1000)) a = 0 := fun s hs => by
    rw [sumTo_congr (g := fun _ => 0) a fun i hi' => rowN_none fun x hx => t.low_row h (inP_zero hs hx) (.inl (by simp only; omega))]
    exact sumTo_zero _
  have highz : ∀ s : Int, 0 ≤ s → sumTo (fun k => rowN s ps (((a + (H + (1 + k)) : Nat) : Int) - 1000)) (2001 - a - H - 1) = 0 := fun s hs => by
    rw [sumTo_congr (g := fun _ => 0) _ fun i hi' => rowN_none fun x hx => by have := t.high_row h (inP_zero hs hx); omega]
    exact sumTo_zero _
  have all : ∀ s : Int, 0 ≤ s → allN s ps = sumTo (fun i => rowN s ps ((fromP ps 0).2 + (i : Int))) H + rowN s ps (fromP ps u).2 := fun s hs => by
    unfold allN
    rw [e, sumTo_split, sumTo_split, sumTo_split, lowz s hs, highz s hs, sumTo_one]
    rw [sumTo_congr (f := fun k : Nat => rowN s ps (((a + k : Nat) : Int) - 1000)) (g := fun i => rowN s ps ((fromP ps 0).2 + (i : Int))) H fun i _ => by congr 1; omega]
    rw [show (((a + (H + 0) : Nat) : Int) - 1000) = (fromP ps u).2 by omega]
    omega
  have r0 := t.rows h (s := 0) (.inl rfl) hH
  have r1 := t.rows h (s := 1) (.inr rfl) hH
  constructor
  · rw [all 0 (Int.le_refl _), t.rowu h hn]
    rw [sumTo_congr (g := fun i => 1 + sumTo (fun k => upZ 0 ps k ((fromP ps 0).2 + (i : Int)) + dnZ 0 ps k ((fromP ps 0).2 + (i : Int))) ps.length) H fun i hi' => t.row0 h hn (by omega) (by omega)]
    rw [if_pos rfl] at r0
    unfold signS at r0
    omega
  · rw [all 1 (by decide), rowN_none fun x hx => by have := (t.ends_row h hx).2; omega]
    have hp : 0 < H := by omega
    obtain ⟨G, rfl⟩ : ∃ G, H = G + 1 := ⟨H - 1, by omega⟩
    rw [sumTo_first] at r1 ⊢
    rw [rowN_none fun x hx => by have := (t.ends_row h hx).1; simp at this]
    rw [sumTo_congr (g := fun i => 1 + sumTo (fun k => upZ 1 ps k ((fromP ps 0).2 + ((i + 1 : Nat) : Int)) + dnZ 1 ps k ((fromP ps 0).2 + ((i + 1 : Nat) : Int))) ps.length) G fun i hi' => t.row1 h hn (by omega) (by omega)]
    have l := t.row_low h
    simp only [Int.natCast_zero, Int.add_zero] at r1
    rw [l, if_neg (by decide)] at r1
    unfold signS at r1
    omega
end Go.Proofs.Ytnpebfchojalcaa

namespace Go.Proofs.Ytnpebfchojalcaa
variable {ps : List Pt}
/-! What the reference counts in a row: the points between the greatest lower and the least upper bound of the edges. -/
def loZ (s : Int) (ps : List Pt) (y : Int) : Nat → Int
  | 0 => -1000
  | k + 1 => if (stepP ps k).2 < 0 then max (loZ s ps y k) (-(restZ s ps k y / -(stepP ps k).2)) else loZ s ps y k
def hiZ (s : Int) (ps : List Pt) (y : Int) : Nat → Int
  | 0 => 1000
  | k + 1 => if 0 < (stepP ps k).2 then min (hiZ s ps y k) (restZ s ps k y / (stepP ps k).2) else hiZ s ps y k
/-- does the row lie on the right side of the edges that lie in rows? -/
def flatB (s : Int) (ps : List Pt) (y : Int) : Nat → Bool
  | 0 => true
  | k + 1 => flatB s ps y k && decide ((stepP ps k).2 = 0 → 0 ≤ restZ s ps k y)
theorem row_iv {s y x : Int} (hx : -1000 ≤ x ∧ x ≤ 1000) : ∀ k, (∀ j, j < k → s ≤ sideK ps x y j) ↔ (flatB s ps y k = true ∧ loZ s ps y k ≤ x ∧ x ≤ hiZ s ps y k) := by
  intro k
  induction k with
  | zero => simp [flatB, loZ, hiZ]; omega
  | succ k ih =>
    have step : (∀ j, j < k + 1 → s ≤ sideK ps x y j) ↔ ((∀ j, j < k → s ≤ sideK ps x y j) ∧ s ≤ sideK ps x y k) :=
      ⟨fun h => ⟨fun j hj => h j (by omega), h k (by omega)⟩, fun h j hj => by
        by_cases e : j = k
        · rw [e]; exact h.2
        · exact h.1 j (by omega)⟩
    rw [step, ih]
    simp only [flatB, loZ, hiZ, Bool.and_eq_true, decide_eq_true_iff]
    rcases Int.lt_trichotomy (stepP ps k).2 0 with hd | hd | hd
    · rw [if_pos hd, if_neg (by omega), side_dn hd]
      constructor
      · rintro ⟨⟨h1, h2, h3⟩, h4⟩
        exact ⟨⟨h1, fun e => by omega⟩, by omega, h3⟩
      · rintro ⟨⟨h1, _⟩, h2, h3⟩
        exact ⟨⟨h1, by omega, h3⟩, by omega⟩
    · have hr := side_rest ps k x y s
      rw [hd, Int.zero_mul] at hr
      rw [if_neg (by omega), if_neg (by omega)]
      constructor
      · rintro ⟨⟨h1, h2, h3⟩, h4⟩
        exact ⟨⟨h1, fun _ => by omega⟩, h2, h3⟩
      · rintro ⟨⟨h1, h5⟩, h2, h3⟩
        exact ⟨⟨h1, h2, h3⟩, by have := h5 hd; omega⟩
    · rw [if_neg (by omega), if_pos hd, side_up hd]
      constructor
      · rintro ⟨⟨h1, h2, h3⟩, h4⟩
        exact ⟨⟨h1, fun e => by omega⟩, h2, by omega⟩
      · rintro ⟨⟨h1, _⟩, h2, h3⟩
        exact ⟨⟨h1, h2, by omega⟩, by omega⟩
theorem lo_ge (s : Int) (ps : List Pt) (y : Int) : ∀ k, -1000 ≤ loZ s ps y k := by
  intro k
  induction k with
  | zero => simp [loZ]
  | succ k ih => simp only [loZ]; split <;> omega
theorem hi_le' (s : Int) (ps : List Pt) (y : Int) : ∀ k, hiZ s ps y k ≤ 1000 := by
  intro k
  induction k with
  | zero => simp [hiZ]
  | succ k ih => simp only [hiZ]; split <;> omega
/-- the number of points of a row -/
def rowV (s : Int) (ps : List Pt) (y : Int) : Int := if flatB s ps y ps.length = true then max 0 (hiZ s ps y ps.length - loZ s ps y ps.length + 1) else 0
theorem rowN_eq (s : Int) (ps : List Pt) (y : Int) : rowN s ps y = rowV s ps y := by
  have hl := lo_ge s ps y ps.length
  have hh := hi_le' s ps y ps.length
  have key : ∀ i : Nat, i < 2001 → (inP s ps ((i : Int) - 1000) y ↔ (flatB s ps y ps.length = true ∧ loZ s ps y ps.length ≤ (i : Int) - 1000 ∧ (i : Int) - 1000 ≤ hiZ s ps y ps.length)) := fun i hi => row_iv (by omega) ps.length
  unfold rowN rowV
  by_cases hf : flatB s ps y ps.length = true
  · rw [if_pos hf]
    rw [sumTo_congr (g := fun i => if (fun x : Int => loZ s ps y ps.length ≤ x ∧ x ≤ hiZ s ps y ps.length) ((i : Int) - 1000) then 1 else 0) 2001 fun i hi => by
      have k := key i hi
      by_cases h : inP s ps ((i : Int) - 1000) y
      · rw [if_pos h, if_pos (k.1 h).2]
      · rw [if_neg h, if_neg (fun h2 => h (k.2 ⟨hf, h2⟩))]]
    by_cases hlh : loZ s ps y ps.length ≤ hiZ s ps y ps.length + 1
    · rw [count_iv (P := fun x : Int => loZ s ps y ps.length ≤ x ∧ x ≤ hiZ s ps y ps.length) (fun x => Iff.rfl) hl hh hlh]
      omega
    · rw [sumTo_congr (g := fun _ => 0) 2001 fun i _ => if_neg (fun h => by simp only at h; omega), sumTo_zero]
      omega
  · rw [if_neg hf]
    rw [sumTo_congr (g := fun _ => 0) 2001 fun i hi => if_neg (fun h => hf ((key i hi).1 h).1), sumTo_zero]
end Go.Proofs.Ytnpebfchojalcaa

namespace Go.Proofs.Ytnpebfchojalcaa
/-! The reference's sums, places, extremes and counts are the code's. -/
theorem fan_tri {ps : List Pt} {k : Nat} (hk : k + 1 < ps.length) : fanK ps k = triP (fromP ps 0) (fromP ps k) (fromP ps (k + 1)) := by
  have e : toP ps k = fromP ps (k + 1) := by rw [to_from, Nat.mod_eq_of_lt hk]
  unfold fanK sideK crossZ triP stepP
  rw [e]
  simp only
  grind
/-- the area of the fan's first triangles -/
def rA (ps : List Pt) : Nat → Int
  | 0 => 0
  | k + 1 => rA ps k + triP (fromP ps 0) (fromP ps (k + 1)) (fromP ps (k + 2))
theorem rA_sum {ps : List Pt} : ∀ k, k + 2 ≤ ps.length → rA ps k = sumTo (fun k => fanK ps (k + 1)) k := by
  intro k
  induction k with
  | zero => intro _; rfl
  | succ k ih =>
    intro hk
    simp only [rA, sumTo]
    rw [ih (by omega), fan_tri (by omega)]
theorem rA_area {ps : List Pt} (h3 : 3 ≤ ps.length) : rA ps (ps.length - 2) = areaZ ps := by
  obtain ⟨m, hm⟩ : ∃ m, ps.length = m + 3 := ⟨ps.length - 3, by omega⟩
  have h0 : fanK ps 0 = 0 := by unfold fanK sideK crossZ; grind
  have hl : fanK ps (m + 2) = 0 := by
    have e : toP ps (m + 2) = fromP ps 0 := by rw [to_from, hm, show m + 2 + 1 = m + 3 by omega, Nat.mod_self]
    unfold fanK sideK crossZ stepP
    rw [e]
    simp only
    grind
  rw [rA_sum _ (by omega), ← fan_area ps, hm, sumTo_first, h0, show m + 3 - 2 = m + 1 by omega]
  show _ = 0 + (sumTo (fun k => fanK ps (k + 1)) (m + 1) + fanK ps (m + 1 + 1))
  rw [show m + 1 + 1 = m + 2 by omega, hl]
  omega
theorem place_now {ps : List Pt} {x y : Int} {k : Nat} (h : ∀ j, j < k → 0 ≤ sideK ps x y j) : placeK ps x y k = if (∀ j, j < k → sideK ps x y j ≠ 0) then 1 else 0 := by
  induction k with
  | zero => simp [placeK]
  | succ k ih =>
    have hk := h k (by omega)
    have ihk := ih fun j hj => h j (by omega)
    by_cases hz : sideK ps x y k = 0
    · have hs : sgnZ (sideK ps x y k) 0 = 0 := by unfold sgnZ; rw [hz]; rfl
      have hr : ¬ ∀ j, j < k + 1 → sideK ps x y j ≠ 0 := fun h2 => h2 k (by omega) hz
      rw [if_neg hr]
      simp only [placeK, ihk, hs]
      split <;> omega
    · have hs : sgnZ (sideK ps x y k) 0 = 1 := by
        unfold sgnZ
        rw [if_neg (show ¬ sideK ps x y k < 0 by omega), if_pos (show 0 < sideK ps x y k by omega)]
      simp only [placeK, ihk, hs]
      by_cases ha : ∀ j, j < k → sideK ps x y j ≠ 0
      · have hr : ∀ j, j < k + 1 → sideK ps x y j ≠ 0 := fun j hj => by
          by_cases e : j = k
          · rw [e]; exact hz
          · exact ha j (by omega)
        rw [if_pos ha, if_pos hr]
        omega
      · have hr : ¬ ∀ j, j < k + 1 → sideK ps x y j ≠ 0 := fun h2 => ha fun j hj => h2 j (by omega)
        rw [if_neg ha, if_neg hr]
        omega
theorem place_out {ps : List Pt} {x y : Int} {k : Nat} (hk : k < ps.length) (h : sideK ps x y k < 0) : placeZ ps x y = -1 := by
  have h1 := (placeK_neg ps x y ps.length).2 ⟨k, hk, h⟩
  have h2 := placeK_bd ps x y ps.length
  unfold placeZ
  omega
theorem ext_one (ps : List Pt) (d : Pt) : extK ps d 1 = (dotP d (fromP ps 0), 0) := by
  show (if (extK ps d 0).1 < dotP d (fromP ps 0) then (dotP d (fromP ps 0), 0) else extK ps d 0) = _
  exact if_neg (fun h => Int.lt_irrefl _ h)
theorem ext_next (ps : List Pt) (d : Pt) (k : Nat) : extK ps d (k + 1) = if (extK ps d k).1 < dotP d (fromP ps k) then (dotP d (fromP ps k), k) else extK ps d k := rfl
/-- what the reference counts -/
def cntK (s : Int) (ps : List Pt) (k : Nat) : Int := sumTo (fun i => rowV s ps ((i : Int) - 1000)) k
theorem cnt_all (s : Int) (ps : List Pt) : cntK s ps 2001 = allN s ps := sumTo_congr 2001 fun i _ => (rowN_eq s ps _).symm
theorem cnt_pick {ps : List Pt} (h : Around ps) (hn : nearP ps) : cntK 1 ps 2001 = (areaZ ps - ringZ ps + 2).tdiv 2 ∧ cntK 0 ps 2001 - cntK 1 ps 2001 = ringZ ps := by
  obtain ⟨h1, h2⟩ := pick_all h hn
  rw [cnt_all, cnt_all]
  refine ⟨?_, by omega⟩
  rw [← h2, Int.mul_comm, Int.mul_tdiv_cancel _ (by decide)]
theorem rowV_bd (s : Int) (ps : List Pt) (y : Int) : 0 ≤ rowV s ps y ∧ rowV s ps y ≤ 2001 := by
  have := lo_ge s ps y ps.length
  have := hi_le' s ps y ps.length
  unfold rowV
  split <;> omega
theorem cntK_bd (s : Int) (ps : List Pt) : ∀ k : Nat, 0 ≤ cntK s ps k ∧ cntK s ps k ≤ 2001 * k := by
  intro k
  induction k with
  | zero => simp [cntK, sumTo]
  | succ k ih =>
    have := rowV_bd s ps ((k : Int) - 1000)
    have e : cntK s ps (k + 1) = cntK s ps k + rowV s ps ((k : Int) - 1000) := rfl
    rw [e, Int.natCast_add, Int.mul_add]
    omega
end Go.Proofs.Ytnpebfchojalcaa

namespace Go.Proofs.Ytnpebfchojalcaa
/-! Wrapping: the next point of the reference is the next vertex of the hull. -/
/-- the square of a distance -/
def farZ (a b : Pt) : Int := (a.1 - b.1) * (a.1 - b.1) + (a.2 - b.2) * (a.2 - b.2)
/-- one step of the search for the next point -/
def stepN (at_ n q : Pt) : Pt := if q = at_ then n else if n = at_ ∨ triP at_ n q < 0 ∨ (triP at_ n q = 0 ∧ farZ at_ n < farZ at_ q) then q else n
def nextK (l : List Pt) (at_ : Pt) : Nat → Pt
  | 0 => at_
  | i + 1 => stepN at_ (nextK l at_ i) (fromP l i)
theorem tri_swap3 (a b z : Pt) : triP a z b = -triP a b z := by unfold triP; grind
theorem from_in {l : List Pt} {i : Nat} (h : i < l.length) : fromP l i ∈ l := by
  unfold fromP
  rw [List.getD_eq_getElem?_getD, List.getElem?_eq_getElem h]
  exact List.getElem_mem h
theorem in_from {l : List Pt} {z : Pt} (h : z ∈ l) : ∃ i, i < l.length ∧ fromP l i = z := by
  obtain ⟨i, hi, e⟩ := List.getElem_of_mem h
  refine ⟨i, hi, ?_⟩
  unfold fromP
  rw [List.getD_eq_getElem?_getD, List.getElem?_eq_getElem hi]
  exact e
theorem next_mem {l : List Pt} {a : Pt} : ∀ i, i ≤ l.length → nextK l a i = a ∨ (nextK l a i ∈ l ∧ nextK l a i ≠ a) := by
  intro i
  induction i with
  | zero => intro _; exact .inl rfl
  | succ i ih =>
    intro hi
    have ih := ih (by omega)
    show stepN a (nextK l a i) (fromP l i) = a ∨ (stepN a (nextK l a i) (fromP l i) ∈ l ∧ stepN a (nextK l a i) (fromP l i) ≠ a)
    unfold stepN
    by_cases hq : fromP l i = a
    · rw [if_pos hq]; exact ih
    · rw [if_neg hq]
      split
      · exact .inr ⟨from_in (by omega), hq⟩
      · exact ih
/-- a point that has all others on its left, and those on its line nearer, is the next one -/
theorem next_is {l : List Pt} {a T : Pt} (hT : T ∈ l) (hne : T ≠ a) (h : ∀ z, z ∈ l → z ≠ a → 0 ≤ triP a T z ∧ (triP a T z = 0 → farZ a z ≤ farZ a T ∧ (farZ a z = farZ a T → z = T))) : nextK l a l.length = T := by
  obtain ⟨m, hm, e⟩ := in_from hT
  have key : ∀ j, m + 1 + j ≤ l.length → nextK l a (m + 1 + j) = T := by
    intro j
    induction j with
    | zero =>
      intro _
      show stepN a (nextK l a m) (fromP l m) = T
      unfold stepN
      rw [e, if_neg hne]
      split
      · rfl
      · rename_i hc
        rcases next_mem (l := l) (a := a) m (by omega) with h1 | ⟨h1, h2⟩
        · exact absurd (.inl h1) hc
        · obtain ⟨h3, h4⟩ := h _ h1 h2
          rw [tri_swap3] at hc
          have h5 : triP a T (nextK l a m) = 0 := by
            rcases Int.lt_or_eq_of_le h3 with h6 | h6
            · exact absurd (.inr (.inl (by omega))) hc
            · exact h6.symm
          obtain ⟨h6, h7⟩ := h4 h5
          have h8 : ¬ farZ a (nextK l a m) < farZ a T := fun h9 => hc (.inr (.inr ⟨by omega, h9⟩))
          exact h7 (by omega)
    | succ j ih =>
      intro hj
      show stepN a (nextK l a (m + 1 + j)) (fromP l (m + 1 + j)) = T
      rw [ih (by omega)]
      unfold stepN
      by_cases hq : fromP l (m + 1 + j) = a
      · rw [if_pos hq]
      · rw [if_neg hq, if_neg]
        rintro (h1 | h1 | ⟨h1, h2⟩)
        · exact hne h1
        · have := (h _ (from_in (by omega)) hq).1; omega
        · have := ((h _ (from_in (by omega)) hq).2 h1).1; omega
  have := key (l.length - (m + 1)) (by omega)
  rwa [show m + 1 + (l.length - (m + 1)) = l.length by omega] at this
/-- on a line, at between 0 and the whole -/
theorem on_line {d1 d2 e1 e2 D m : Int} (hD : D = d1 * d1 + d2 * d2) (hm : m = d1 * e1 + d2 * e2) (hc : d1 * e2 - d2 * e1 = 0) : D * e1 = m * d1 ∧ D * e2 = m * d2 ∧ D * (e1 * e1 + e2 * e2) = m * m := by
  refine ⟨by grind, by grind, by grind⟩
theorem sq_nonneg (x : Int) : 0 ≤ x * x := by
  rcases Int.le_total 0 x with h | h
  · exact Int.mul_nonneg h h
  · exact Int.mul_nonneg_of_nonpos_of_nonpos h h
theorem norm_pos {d1 d2 : Int} (h : ¬ (d1 = 0 ∧ d2 = 0)) : 0 < d1 * d1 + d2 * d2 := by
  have h1 := sq_nonneg d1
  have h2 := sq_nonneg d2
  rcases Int.lt_or_eq_of_le h1 with h3 | h3
  · omega
  · rcases Int.lt_or_eq_of_le h2 with h4 | h4
    · omega
    · exfalso
      refine h ⟨?_, ?_⟩
      · rcases Int.mul_eq_zero.1 h3.symm with h | h <;> exact h
      · rcases Int.mul_eq_zero.1 h4.symm with h | h <;> exact h
/-- a point of a hull's edge is no farther than its end -/
theorem edge_far {a T z : Pt} {p1 p2 q1 q2 : Int} (hne : T ≠ a) (hz : triP a T z = 0)
    (hp : 0 < p1 * (T.2 - a.2) - p2 * (T.1 - a.1)) (hpz : 0 ≤ p1 * (z.2 - a.2) - p2 * (z.1 - a.1))
    (hq : 0 < (T.1 - a.1) * q2 - (T.2 - a.2) * q1) (hqz : 0 ≤ q1 * (z.2 - T.2) - q2 * (z.1 - T.1)) : farZ a z ≤ farZ a T ∧ (farZ a z = farZ a T → z = T) := by
  obtain ⟨d1, hd1⟩ : ∃ d, d = T.1 - a.1 := ⟨_, rfl⟩
  obtain ⟨d2, hd2⟩ : ∃ d, d = T.2 - a.2 := ⟨_, rfl⟩
  obtain ⟨e1, he1⟩ : ∃ d, d = z.1 - a.1 := ⟨_, rfl⟩
  obtain ⟨e2, he2⟩ : ∃ d, d = z.2 - a.2 := ⟨_, rfl⟩
  have hfz : farZ a z = e1 * e1 + e2 * e2 := by unfold farZ; rw [he1, he2]; grind
  have hfT : farZ a T = d1 * d1 + d2 * d2 := by unfold farZ; rw [hd1, hd2]; grind
  have hc : d1 * e2 - d2 * e1 = 0 := by unfold triP at hz; rw [hd1, hd2, he1, he2]; exact hz
  have hq2 : 0 ≤ q1 * (e2 - d2) - q2 * (e1 - d1) := by rw [he1, he2, hd1, hd2]; grind
  rw [← hd1, ← hd2] at hp hq
  rw [← he1, ← he2] at hpz
  have hnd : ¬ (d1 = 0 ∧ d2 = 0) := fun h => hne (Prod.ext (by omega) (by omega))
  obtain ⟨D, hD⟩ : ∃ D, D = d1 * d1 + d2 * d2 := ⟨_, rfl⟩
  obtain ⟨m, hm⟩ : ∃ m, m = d1 * e1 + d2 * e2 := ⟨_, rfl⟩
  have hDp : 0 < D := by rw [hD]; exact norm_pos hnd
  obtain ⟨l1, l2, l3⟩ := on_line hD hm hc
  rw [hfz, hfT, ← hD]
  obtain ⟨E, hE⟩ : ∃ E, E = e1 * e1 + e2 * e2 := ⟨_, rfl⟩
  rw [← hE] at l3 ⊢
  have hm0 : 0 ≤ m := by
    have k : D * (p1 * e2 - p2 * e1) = m * (p1 * d2 - p2 * d1) := by grind
    have k1 : 0 ≤ m * (p1 * d2 - p2 * d1) := by rw [← k]; exact Int.mul_nonneg (by omega) hpz
    rcases Int.lt_or_le m 0 with h | h
    · have := Int.mul_neg_of_neg_of_pos h hp; omega
    · exact h
  have hmD : m ≤ D := by
    have k : D * (q1 * (e2 - d2) - q2 * (e1 - d1)) = (D - m) * (d1 * q2 - d2 * q1) := by grind
    have k1 : 0 ≤ (D - m) * (d1 * q2 - d2 * q1) := by rw [← k]; exact Int.mul_nonneg (by omega) hq2
    rcases Int.lt_or_le (D - m) 0 with h | h
    · have := Int.mul_neg_of_neg_of_pos h hq; omega
    · omega
  have h1 : D * E ≤ D * D := by
    rw [l3]
    exact Int.mul_le_mul hmD hmD hm0 (by omega)
  refine ⟨Int.le_of_mul_le_mul_left h1 hDp, fun e => ?_⟩
  rw [e] at l3
  have hmm : m = D := by
    rcases Int.lt_or_eq_of_le hmD with h | h
    · have h2 : m * m < D * D := by
        have h3 : m * m ≤ m * D := Int.mul_le_mul_of_nonneg_left hmD hm0
        have h4 : m * D < D * D := Int.mul_lt_mul_of_pos_right h hDp
        omega
      omega
    · exact h
  rw [hmm] at l1 l2
  have x1 := Int.eq_of_mul_eq_mul_left (by omega : D ≠ 0) l1
  have x2 := Int.eq_of_mul_eq_mul_left (by omega : D ≠ 0) l2
  exact Prod.ext (by omega) (by omega)
/-- the points of a line: none farther, and the lowest -/
structure FarI (l : List Pt) (a : Pt) (i : Nat) (n : Pt) : Prop where
  all : n = a → ∀ j, j < i → fromP l j = a
  most : n ≠ a → ∀ j, j < i → farZ a (fromP l j) ≤ farZ a n
theorem farZ_self (a : Pt) : farZ a a = 0 := by unfold farZ; simp
theorem farZ_nn (a z : Pt) : 0 ≤ farZ a z := by
  have h1 := sq_nonneg (a.1 - z.1)
  have h2 := sq_nonneg (a.2 - z.2)
  unfold farZ
  omega
/-- where all lie on a line, the next one is the farthest one -/
theorem next_far {l : List Pt} {a : Pt} (ha : a ∈ l) (hf : ∀ x y z, x ∈ l → y ∈ l → z ∈ l → triP x y z = 0) : ∀ i, i ≤ l.length → FarI l a i (nextK l a i) := by
  intro i
  induction i with
  | zero => intro _; exact ⟨fun _ j hj => by omega, fun h => absurd rfl h⟩
  | succ i ih =>
    intro hi
    have ih := ih (by omega)
    have hm := next_mem (l := l) (a := a) i (by omega)
    show FarI l a (i + 1) (stepN a (nextK l a i) (fromP l i))
    unfold stepN
    by_cases hq : fromP l i = a
    · rw [if_pos hq]
      refine ⟨fun h j hj => ?_, fun h j hj => ?_⟩
      · by_cases e : j = i
        · rw [e]; exact hq
        · exact ih.all h j (by omega)
      · by_cases e : j = i
        · rw [e, hq, farZ_self]; exact farZ_nn _ _
        · exact ih.most h j (by omega)
    · rw [if_neg hq]
      split
      · rename_i hc
        refine ⟨fun h => absurd h hq, fun _ j hj => ?_⟩
        by_cases e : j = i
        · rw [e]; exact Int.le_refl _
        · rcases hc with h | h | ⟨_, h⟩
          · rw [ih.all h j (by omega), farZ_self]; exact farZ_nn _ _
          · rcases hm with h1 | ⟨h1, _⟩
            · rw [ih.all h1 j (by omega), farZ_self]; exact farZ_nn _ _
            · rw [hf _ _ _ ha h1 (from_in (by omega))] at h; omega
          · rcases hm with h1 | ⟨_, h2⟩
            · rw [ih.all h1 j (by omega), farZ_self]; exact farZ_nn _ _
            · have := ih.most h2 j (by omega); omega
      · rename_i hc
        have h1 : nextK l a i ≠ a := fun h => hc (.inl h)
        refine ⟨fun h => absurd h h1, fun _ j hj => ?_⟩
        by_cases e : j = i
        · rw [e]
          rcases hm with h2 | ⟨h2, _⟩
          · exact absurd h2 h1
          · have h3 := hf _ _ _ ha h2 (from_in (l := l) (i := i) (by omega))
            rcases Int.lt_or_le (farZ a (nextK l a i)) (farZ a (fromP l i)) with h4 | h4
            · exact absurd (.inr (.inr ⟨h3, h4⟩)) hc
            · exact h4
        · exact ih.most h1 j (by omega)
theorem next_most {l : List Pt} {a : Pt} (ha : a ∈ l) (hf : ∀ x y z, x ∈ l → y ∈ l → z ∈ l → triP x y z = 0) : (nextK l a l.length = a ∧ ∀ z, z ∈ l → z = a) ∨ (nextK l a l.length ∈ l ∧ nextK l a l.length ≠ a ∧ ∀ z, z ∈ l → farZ a z ≤ farZ a (nextK l a l.length)) := by
  have h := next_far ha hf l.length (Nat.le_refl _)
  by_cases e : nextK l a l.length = a
  · refine .inl ⟨e, fun z hz => ?_⟩
    obtain ⟨j, hj, rfl⟩ := in_from hz
    exact h.all e j hj
  · refine .inr ⟨?_, e, fun z hz => ?_⟩
    · rcases next_mem (l := l) (a := a) l.length (Nat.le_refl _) with h1 | ⟨h1, _⟩
      · exact absurd h1 e
      · exact h1
    · obtain ⟨j, hj, rfl⟩ := in_from hz
      exact h.most e j hj
/-- seen from the farthest point, the lowest one is the farthest -/
theorem back_far {a F z : Pt} (hF : F ≠ a) (haF : leP a F) (haz : leP a z) (hz : triP a F z = 0) (hfz : farZ a z ≤ farZ a F) : farZ F z ≤ farZ F a ∧ (farZ F z = farZ F a → z = a) := by
  obtain ⟨d1, hd1⟩ : ∃ d, d = F.1 - a.1 := ⟨_, rfl⟩
  obtain ⟨d2, hd2⟩ : ∃ d, d = F.2 - a.2 := ⟨_, rfl⟩
  obtain ⟨e1, he1⟩ : ∃ d, d = z.1 - a.1 := ⟨_, rfl⟩
  obtain ⟨e2, he2⟩ : ∃ d, d = z.2 - a.2 := ⟨_, rfl⟩
  have hfz2 : farZ a z = e1 * e1 + e2 * e2 := by unfold farZ; rw [he1, he2]; grind
  have hfF : farZ a F = d1 * d1 + d2 * d2 := by unfold farZ; rw [hd1, hd2]; grind
  have hFz : farZ F z = (d1 - e1) * (d1 - e1) + (d2 - e2) * (d2 - e2) := by unfold farZ; rw [hd1, hd2, he1, he2]; grind
  have hFa : farZ F a = d1 * d1 + d2 * d2 := by unfold farZ; rw [hd1, hd2]
  have hc : d1 * e2 - d2 * e1 = 0 := by unfold triP at hz; rw [hd1, hd2, he1, he2]; exact hz
  have hnd : ¬ (d1 = 0 ∧ d2 = 0) := fun h => hF (Prod.ext (by omega) (by omega))
  obtain ⟨D, hD⟩ : ∃ D, D = d1 * d1 + d2 * d2 := ⟨_, rfl⟩
  obtain ⟨m, hm⟩ : ∃ m, m = d1 * e1 + d2 * e2 := ⟨_, rfl⟩
  have hDp : 0 < D := by rw [hD]; exact norm_pos hnd
  obtain ⟨l1, l2, l3⟩ := on_line hD hm hc
  obtain ⟨E, hE⟩ : ∃ E, E = e1 * e1 + e2 * e2 := ⟨_, rfl⟩
  rw [hfz2, hfF, ← hD, ← hE] at hfz
  rw [← hE] at l3
  have up1 : 0 < d2 ∨ (d2 = 0 ∧ 0 < d1) := by unfold leP lowP at haF; omega
  have up2 : 0 < e2 ∨ (e2 = 0 ∧ 0 ≤ e1) := by unfold leP lowP at haz; omega
  have hm0 : 0 ≤ m := by
    rcases Int.lt_or_le m 0 with h | h
    · exfalso
      have k1 := l1
      have k2 := l2
      rcases up1 with h1 | ⟨h1, h2⟩
      · have := Int.mul_neg_of_neg_of_pos h h1
        rcases up2 with h3 | ⟨h3, h4⟩
        · have := Int.mul_pos hDp h3; omega
        · rw [h3] at k2; simp at k2; omega
      · have h5 : e2 = 0 := by rcases Int.mul_eq_zero.1 (show D * e2 = 0 by rw [l2, h1]; simp) with h | h <;> omega
        have := Int.mul_neg_of_neg_of_pos h h2
        have := Int.mul_nonneg (show 0 ≤ D by omega) (show 0 ≤ e1 by omega)
        omega
    · exact h
  have hmD : m ≤ D := by
    rcases Int.lt_or_le D m with h | h
    · exfalso
      have h1 : D * E ≤ D * D := Int.mul_le_mul_of_nonneg_left hfz (by omega)
      have h2 : D * D < m * m := by
        have h3 : D * D < D * m := Int.mul_lt_mul_of_pos_left h hDp
        have h4 : D * m ≤ m * m := Int.mul_le_mul_of_nonneg_right (by omega) hm0
        omega
      omega
    · exact h
  have key : D * ((d1 - e1) * (d1 - e1) + (d2 - e2) * (d2 - e2)) = (D - m) * (D - m) := by grind
  obtain ⟨G, hG⟩ : ∃ G, G = (d1 - e1) * (d1 - e1) + (d2 - e2) * (d2 - e2) := ⟨_, rfl⟩
  rw [hFz, hFa, ← hD, ← hG]
  rw [← hG] at key
  have h1 : D * G ≤ D * D := by
    rw [key]
    exact Int.mul_le_mul (by omega) (by omega) (by omega) (by omega)
  refine ⟨Int.le_of_mul_le_mul_left h1 hDp, fun e => ?_⟩
  rw [e] at key
  have hmm : m = 0 := by
    rcases Int.lt_or_eq_of_le hm0 with h | h
    · exfalso
      have h2 : (D - m) * (D - m) < D * D := by
        have h3 : (D - m) * (D - m) ≤ (D - m) * D := Int.mul_le_mul_of_nonneg_left (by omega) (by omega)
        have h4 : (D - m) * D < D * D := Int.mul_lt_mul_of_pos_right (by omega) hDp
        omega
      omega
    · exact h.symm
  rw [hmm] at l1 l2
  have x1 : e1 = 0 := by rcases Int.mul_eq_zero.1 (show D * e1 = 0 by rw [l1]; simp) with h | h <;> omega
  have x2 : e2 = 0 := by rcases Int.mul_eq_zero.1 (show D * e2 = 0 by rw [l2]; simp) with h | h <;> omega
  exact Prod.ext (by omega) (by omega)
/-- and from there the next one is the lowest again -/
theorem next_back {l : List Pt} {a : Pt} (ha : a ∈ l) (hlow : ∀ z, z ∈ l → leP a z) (hf : ∀ x y z, x ∈ l → y ∈ l → z ∈ l → triP x y z = 0) (hne : nextK l a l.length ≠ a) : nextK l (nextK l a l.length) l.length = a := by
  rcases next_most ha hf with ⟨h, _⟩ | ⟨hF, hFa, hmost⟩
  · exact absurd h hne
  · obtain ⟨F, hFe⟩ : ∃ F, F = nextK l a l.length := ⟨_, rfl⟩
    rw [← hFe] at hF hFa hmost hne ⊢
    rcases next_most hF hf with ⟨_, h⟩ | ⟨hG, _, hG2⟩
    · exact absurd (h a ha).symm hne
    · have h1 := back_far hne (hlow F hF) (hlow _ hG) (hf _ _ _ ha hF hG) (hmost _ hG)
      exact h1.2 (Int.le_antisymm h1.1 (hG2 a ha))
end Go.Proofs.Ytnpebfchojalcaa

namespace Go.Proofs.Ytnpebfchojalcaa
theorem hull_lowest {hs : List Pt} (h : Around hs) {z : Pt} (hz : ∀ i, i < hs.length → 0 ≤ triP (fromP hs i) (toP hs i) z) : leP (fromP hs 0) z := by
  obtain ⟨u, t⟩ := h.tall
  exact t.low_row h (x := z.1) (y := z.2) fun k hk => by rw [← tri_side]; exact hz k hk
/-! Wrapping goes around the hull, or along the line and back. -/
theorem step_ne {hs : List Pt} (h : Around hs) {i : Nat} (hi : i < hs.length) : toP hs i ≠ fromP hs i := fun e => by
  refine h.ne0 hi ?_
  unfold stepP
  rw [e]
  simp
theorem hull_next {l hs : List Pt} (h : Around hs) (mem : ∀ i, i < hs.length → fromP hs i ∈ l) (sup : ∀ i, i < hs.length → ∀ z, z ∈ l → 0 ≤ triP (fromP hs i) (toP hs i) z) {i : Nat} (hi : i < hs.length) : nextK l (fromP hs i) l.length = toP hs i := by
  have h3 := h.three
  have hj : (i + 1) % hs.length < hs.length := Nat.mod_lt _ (by omega)
  have hT : toP hs i = fromP hs ((i + 1) % hs.length) := to_from
  have hpi : prevI hs.length i < hs.length := by unfold prevI; split <;> omega
  have hpj : prevI hs.length ((i + 1) % hs.length) = i := by
    unfold prevI
    by_cases e : i + 1 < hs.length
    · rw [Nat.mod_eq_of_lt e, if_neg (by omega)]; omega
    · rw [show i + 1 = hs.length by omega, Nat.mod_self, if_pos rfl]; omega
  refine next_is (by rw [hT]; exact mem _ hj) (step_ne h hi) fun z hz hne => ⟨sup i hi z hz, fun h0 => ?_⟩
  have t1 := h.turn i hi
  have t2 := h.turn _ hj
  rw [hpj] at t2
  have s1 := sup _ hpi z hz
  have s2 := sup _ hj z hz
  have ep : toP hs (prevI hs.length i) = fromP hs i := prev_to hi
  rw [ep] at s1
  have e1 : stepP hs i = ((toP hs i).1 - (fromP hs i).1, (toP hs i).2 - (fromP hs i).2) := rfl
  have e2 : stepP hs (prevI hs.length i) = ((fromP hs i).1 - (fromP hs (prevI hs.length i)).1, (fromP hs i).2 - (fromP hs (prevI hs.length i)).2) := by unfold stepP; rw [ep]
  refine edge_far (p1 := (stepP hs (prevI hs.length i)).1) (p2 := (stepP hs (prevI hs.length i)).2) (q1 := (stepP hs ((i + 1) % hs.length)).1) (q2 := (stepP hs ((i + 1) % hs.length)).2) (step_ne h hi) h0 ?_ ?_ ?_ ?_
  · unfold crossP crossZ at t1; rw [e1] at t1; exact t1
  · unfold triP at s1
    rw [e2]
    simp only
    grind
  · unfold crossP crossZ at t2; rw [e1] at t2; exact t2
  · have e3 : stepP hs ((i + 1) % hs.length) = ((toP hs ((i + 1) % hs.length)).1 - (toP hs i).1, (toP hs ((i + 1) % hs.length)).2 - (toP hs i).2) := by unfold stepP; rw [← hT]
    rw [← hT] at s2
    unfold triP at s2
    rw [e3]
    simp only
    grind
/-- the lowest of the first points -/
def lowK (l : List Pt) : Nat → Pt
  | 0 => fromP l 0
  | i + 1 => if (fromP l (i + 1)).2 < (lowK l i).2 ∨ ((fromP l (i + 1)).2 = (lowK l i).2 ∧ (fromP l (i + 1)).1 < (lowK l i).1) then fromP l (i + 1) else lowK l i
theorem low_least {l : List Pt} : ∀ i, i < l.length → lowK l i ∈ l ∧ ∀ j, j ≤ i → leP (lowK l i) (fromP l j) := by
  intro i
  induction i with
  | zero => intro h; exact ⟨from_in h, fun j hj => by rw [show j = 0 by omega]; exact leP_refl _⟩
  | succ i ih =>
    intro h
    obtain ⟨h1, h2⟩ := ih (by omega)
    simp only [lowK]
    split
    · rename_i hc
      refine ⟨from_in h, fun j hj => ?_⟩
      by_cases e : j = i + 1
      · rw [e]; exact leP_refl _
      · exact leP_trans (leP_of hc) (h2 j (by omega))
    · rename_i hc
      refine ⟨h1, fun j hj => ?_⟩
      by_cases e : j = i + 1
      · rw [e]; exact hc
      · exact h2 j (by omega)
theorem low_all {l : List Pt} (h : 1 ≤ l.length) : lowK l (l.length - 1) ∈ l ∧ ∀ z, z ∈ l → leP (lowK l (l.length - 1)) z := by
  obtain ⟨h1, h2⟩ := low_least (l := l) (l.length - 1) (by omega)
  refine ⟨h1, fun z hz => ?_⟩
  obtain ⟨j, hj, rfl⟩ := in_from hz
  exact h2 j (by omega)
/-- the points of the wrapping, one after another -/
def wrapK (l : List Pt) (a : Pt) : Nat → Pt
  | 0 => a
  | k + 1 => nextK l (wrapK l a k) l.length
/-- where the wrapping ends -/
structure WrapEnd (l : List Pt) (a : Pt) (K : Nat) : Prop where
  pos : 1 ≤ K
  max : K ≤ l.length + 1
  on : ∀ k, 1 ≤ k → k < K → wrapK l a k ≠ a ∧ wrapK l a k ≠ wrapK l a (k - 1)
  stop : K = l.length + 1 ∨ wrapK l a K = a ∨ wrapK l a K = wrapK l a (K - 1)
def wrapL (l : List Pt) (a : Pt) (K : Nat) : List Pt := (List.range K).map (wrapK l a)
theorem hull_inj {hs : List Pt} (h : Around hs) {i j : Nat} (hi : i < hs.length) (hj : j < hs.length) (e : fromP hs i = fromP hs j) : i = j := by
  by_cases hij : i = j
  · exact hij
  · exfalso
    by_cases h1 : j = (i + 1) % hs.length
    · refine step_ne h hi ?_
      rw [to_from, ← h1]; exact e.symm
    · have := h.strict_left hi hj (fun e => hij e.symm) h1
      rw [← e] at this
      unfold sideK crossZ at this
      simp at this
theorem sub_len {a b : List Pt} (hn : a.Nodup) (h : ∀ x, x ∈ a → x ∈ b) : a.length ≤ b.length := by
  induction a generalizing b with
  | nil => simp
  | cons x t ih =>
    rw [List.nodup_cons] at hn
    have hx : x ∈ b := h x (by simp)
    have h1 := ih (b := b.erase x) hn.2 (fun y hy => (List.mem_erase_of_ne (fun e => hn.1 (by rw [← e]; exact hy))).2 (h y (by simp [hy])))
    rw [List.length_erase_of_mem hx] at h1
    have : 1 ≤ b.length := List.length_pos_of_mem hx
    simp
    omega
theorem hull_size {l hs : List Pt} (h : Around hs) (mem : ∀ i, i < hs.length → fromP hs i ∈ l) : hs.length ≤ l.length := by
  refine sub_len ?_ fun x hx => ?_
  · show hs.Pairwise (fun x y => x ≠ y)
    rw [List.pairwise_iff_getElem]
    intro i j hi hj hij e
    have := hull_inj h hi hj (by unfold fromP; rw [List.getD_eq_getElem?_getD, List.getD_eq_getElem?_getD, List.getElem?_eq_getElem hi, List.getElem?_eq_getElem hj, e])
    omega
  · obtain ⟨i, hi, rfl⟩ := in_from hx
    exact mem i hi
theorem wrap_hull {l hs : List Pt} {a : Pt} {K : Nat} (h : Around hs) (mem : ∀ i, i < hs.length → fromP hs i ∈ l) (sup : ∀ i, i < hs.length → ∀ z, z ∈ l → 0 ≤ triP (fromP hs i) (toP hs i) z)
    (ha : a = fromP hs 0) (w : WrapEnd l a K) : wrapL l a K = hs := by
  have h3 := h.three
  have hsz := hull_size h mem
  have key : ∀ k, k < hs.length → wrapK l a k = fromP hs k := by
    intro k
    induction k with
    | zero => intro _; exact ha
    | succ k ih =>
      intro hk
      show nextK l (wrapK l a k) l.length = _
      rw [ih (by omega), hull_next h mem sup (by omega), to_from, Nat.mod_eq_of_lt hk]
  have last : wrapK l a hs.length = a := by
    obtain ⟨m, hm⟩ : ∃ m, hs.length = m + 1 := ⟨hs.length - 1, by omega⟩
    rw [hm]
    show nextK l (wrapK l a m) l.length = _
    rw [key m (by omega), hull_next h mem sup (by omega), to_from, ← hm, Nat.mod_self, ha]
  have hK : K = hs.length := by
    rcases Nat.lt_trichotomy K hs.length with hl | hl | hl
    · exfalso
      rcases w.stop with e | e | e
      · omega
      · rw [key K hl, ha] at e
        have := hull_inj h hl (by omega) e
        have := w.pos
        omega
      · have hp := w.pos
        rw [key K hl, key (K - 1) (by omega)] at e
        have := hull_inj h hl (by omega) e
        omega
    · exact hl
    · exact absurd last (w.on hs.length (by omega) hl).1
  refine List.ext_getElem? fun i => ?_
  unfold wrapL
  rw [List.getElem?_map, hK]
  by_cases hi : i < hs.length
  · rw [List.getElem?_range hi, List.getElem?_eq_getElem hi]
    show some (wrapK l a i) = _
    rw [key i hi]
    unfold fromP
    rw [List.getD_eq_getElem?_getD, List.getElem?_eq_getElem hi]; rfl
  · rw [List.getElem?_eq_none (by simp; omega), List.getElem?_eq_none (by omega)]; rfl
theorem wrap_flat {l : List Pt} {a : Pt} {K : Nat} (ha : a ∈ l) (hlow : ∀ z, z ∈ l → leP a z) (hf : ∀ x y z, x ∈ l → y ∈ l → z ∈ l → triP x y z = 0) (w : WrapEnd l a K) : K < 3 := by
  rcases Nat.lt_or_ge K 3 with h | h
  · exact h
  · exfalso
    have h1 := (w.on 1 (Nat.le_refl _) (by omega)).1
    have h2 := (w.on 2 (by omega) (by omega)).1
    have e1 : wrapK l a 1 = nextK l a l.length := rfl
    have e2 : wrapK l a 2 = nextK l (nextK l a l.length) l.length := rfl
    rw [e1] at h1
    rw [e2, next_back ha hlow hf h1] at h2
    exact h2 rfl
end Go.Proofs.Ytnpebfchojalcaa

namespace Go.Proofs.Ytnpebfchojalcaa
/-! What wrapping gives of flipped points, and of all sums of the points of two polygons. -/
theorem wrap_is {l hs : List Pt} {K : Nat} (h1 : 1 ≤ l.length) (A : Around hs) (mem : ∀ i, i < hs.length → fromP hs i ∈ l) (sup : ∀ i, i < hs.length → ∀ z, z ∈ l → 0 ≤ triP (fromP hs i) (toP hs i) z)
    (W : WrapEnd l (lowK l (l.length - 1)) K) : wrapL l (lowK l (l.length - 1)) K = hs ∧ K = hs.length := by
  have hlow := low_all h1
  have h3 := A.three
  have ha : lowK l (l.length - 1) = fromP hs 0 := leP_anti (hlow.2 _ (mem 0 (by omega))) (hull_lowest A fun i hi => sup i hi _ hlow.1)
  have e := wrap_hull A mem sup ha W
  exact ⟨e, by rw [← e, show (wrapL l (lowK l (l.length - 1)) K).length = K from by simp [wrapL]]⟩
theorem wrap_flip {ps : List Pt} {K : Nat} (h : Around ps) (W : WrapEnd (ps.map negP) (lowK (ps.map negP) ((ps.map negP).length - 1)) K) :
    wrapL (ps.map negP) (lowK (ps.map negP) ((ps.map negP).length - 1)) K = flipP ps ∧ K = ps.length := by
  have h3 := h.three
  have h0 : 0 < ps.length := by omega
  have hl := flip_length h0
  have A := around_flip h
  have e := wrap_is (l := ps.map negP) (hs := flipP ps) (by rw [neg_length]; omega) A (fun i hi => by
      rw [from_flip (by rw [← hl]; exact hi)]
      exact List.mem_map.2 ⟨_, from_mem (Nat.mod_lt _ h0), rfl⟩) (fun i hi z hz => by
      obtain ⟨q, hq, rfl⟩ := List.mem_map.1 hz
      obtain ⟨j, hj, rfl⟩ := mem_from hq
      obtain ⟨k, hk, hks⟩ := turn_back (flipS_lt h0) hj
      have := from_flip hk
      rw [hks] at this
      rw [← this, tri_side]
      exact A.left hi (by rw [hl]; exact hk)) W
  exact ⟨e.1, by rw [e.2, hl]⟩
/-- all sums with the first k points -/
def allK (ps qs : List Pt) : Nat → List Pt
  | 0 => []
  | k + 1 => allK ps qs k ++ movedP qs (fromP ps k)
theorem all_len (ps qs : List Pt) : ∀ k, (allK ps qs k).length = k * qs.length := by
  intro k
  induction k with
  | zero => simp [allK]
  | succ k ih => rw [allK, List.length_append, ih, moved_length, Nat.succ_mul]
theorem all_mem {ps qs : List Pt} {z : Pt} : ∀ k, z ∈ allK ps qs k ↔ ∃ i j, i < k ∧ j < qs.length ∧ z = addP (fromP ps i) (fromP qs j) := by
  intro k
  induction k with
  | zero => simp [allK]
  | succ k ih =>
    rw [allK, List.mem_append, ih]
    constructor
    · rintro (⟨i, j, hi, hj, e⟩ | h)
      · exact ⟨i, j, by omega, hj, e⟩
      · obtain ⟨q, hq, rfl⟩ := List.mem_map.1 h
        obtain ⟨j, hj, rfl⟩ := mem_from hq
        exact ⟨k, j, by omega, hj, rfl⟩
    · rintro ⟨i, j, hi, hj, e⟩
      by_cases hik : i = k
      · subst hik
        exact .inr (e ▸ List.mem_map.2 ⟨_, from_mem hj, rfl⟩)
      · exact .inl ⟨i, j, by omega, hj, e⟩
theorem side_less (ps : List Pt) (x y : Int) (k : Nat) : sideK ps x y k = crossP (fromP ps k) (stepP ps k) - crossP (x, y) (stepP ps k) := by
  unfold sideK crossP crossZ
  grind
theorem wrap_sum {ps qs ds : List Pt} {K : Nat} (hp : Around ps) (hq : Around qs) (hs : Sorted ps qs ds) (W : WrapEnd (allK ps qs ps.length) (lowK (allK ps qs ps.length) ((allK ps qs ps.length).length - 1)) K) :
    wrapL (allK ps qs ps.length) (lowK (allK ps qs ps.length) ((allK ps qs ps.length).length - 1)) K = sumP ps qs ds ∧ K = (sumP ps qs ds).length := by
  have p3 := hp.three
  have q3 := hq.three
  have M : Merged ps qs ds := ⟨hp.rolls, hq.rolls, hs⟩
  refine wrap_is ?_ (sum_around hp hq hs) (fun i hi => ?_) (fun i hi z hz => ?_) W
  · rw [all_len]
    exact Nat.mul_pos (by omega) (by omega)
  · rw [Merged.slen] at hi
    obtain ⟨a, b, ha, hb, e⟩ := sum_vertex M hi
    exact (all_mem _).2 ⟨a, b, ha, hb, by rw [e, addP_comm]⟩
  · rw [Merged.slen] at hi
    obtain ⟨a, b, ha, hb, rfl⟩ := (all_mem _).1 hz
    rw [tri_side, side_less, M.step hi, M.at_edge hi]
    have r0 := M.rne0 _ (from_mem hi)
    have e1 := hi_le M.p r0 ha
    have e2 := hi_le M.q r0 hb
    have e3 : crossP ((addP (fromP ps a) (fromP qs b)).1, (addP (fromP ps a) (fromP qs b)).2) (fromP (runs ds) i) = crossP (fromP qs b) (fromP (runs ds) i) + crossP (fromP ps a) (fromP (runs ds) i) := by
      unfold addP crossP crossZ
      grind
    rw [e3]
    omega
end Go.Proofs.Ytnpebfchojalcaa

namespace Go.Proofs.Ytnpebfchojalcaa
/-! Zero in the sums of a polygon and a flipped one. -/
def leA (a b : Pt) : Bool := decide (a = (0, 0)) || (!decide (b = (0, 0)) && !decide (ltA b a))
theorem leA_iff (a b : Pt) : leA a b = true ↔ a = (0, 0) ∨ (b ≠ (0, 0) ∧ ¬ ltA b a) := by
  unfold leA
  simp
theorem leA_total (a b : Pt) : (leA a b || leA b a) = true := by
  rw [Bool.or_eq_true, leA_iff, leA_iff]
  by_cases ha : a = (0, 0)
  · exact .inl (.inl ha)
  · by_cases hb : b = (0, 0)
    · exact .inr (.inl hb)
    · by_cases h : ltA b a
      · exact .inr (.inr ⟨ha, fun k => ltA_irrefl a (ltA_trans ha hb ha k h)⟩)
      · exact .inl (.inr ⟨hb, h⟩)
theorem leA_trans (a b c : Pt) (h : leA a b = true) (k : leA b c = true) : leA a c = true := by
  rw [leA_iff] at *
  rcases h with h | ⟨hb, h⟩
  · exact .inl h
  · rcases k with k | ⟨hc, k⟩
    · exact absurd k hb
    · by_cases ha : a = (0, 0)
      · exact .inl ha
      · exact .inr ⟨hc, ltA_ntrans hc hb ha k h⟩
theorem sorted_some {ps qs : List Pt} (hp : Around ps) (hq : Around qs) : ∃ ds, Sorted ps qs ds := by
  refine ⟨(stepsOf ps ++ stepsOf qs).mergeSort leA, List.mergeSort_perm _ _, ?_⟩
  have h0 : ∀ x ∈ stepsOf ps ++ stepsOf qs, x ≠ (0, 0) := fun x hx => by
    rcases List.mem_append.1 hx with h | h
    · exact hp.rolls.ne0 x h
    · exact hq.rolls.ne0 x h
  refine List.Pairwise.imp_of_mem ?_ (List.pairwise_mergeSort leA_trans leA_total _)
  intro a b ha hb h
  have ha' := h0 a ((List.mergeSort_perm _ _).mem_iff.1 ha)
  rcases (leA_iff a b).1 h with e | e
  · exact absurd e ha'
  · exact e.2
theorem wrap_gap {ps qs ds : List Pt} {K : Nat} (hp : Around ps) (hq : Around qs) (hs : Sorted ps (flipP qs) ds) (W : WrapEnd (allK ps (qs.map negP) ps.length) (lowK (allK ps (qs.map negP) ps.length) ((allK ps (qs.map negP) ps.length).length - 1)) K) :
    wrapL (allK ps (qs.map negP) ps.length) (lowK (allK ps (qs.map negP) ps.length) ((allK ps (qs.map negP) ps.length).length - 1)) K = sumP ps (flipP qs) ds ∧ K = (sumP ps (flipP qs) ds).length := by
  have p3 := hp.three
  have q3 := hq.three
  have hf := around_flip hq
  have q0 : 0 < qs.length := by omega
  have hl := flip_length q0
  have M : Merged ps (flipP qs) ds := ⟨hp.rolls, hf.rolls, hs⟩
  refine wrap_is ?_ (sum_around hp hf hs) (fun i hi => ?_) (fun i hi z hz => ?_) W
  · rw [all_len, neg_length]
    exact Nat.mul_pos (by omega) (by omega)
  · rw [Merged.slen] at hi
    obtain ⟨a, b, ha, hb, e⟩ := sum_vertex M hi
    rw [hl] at hb
    refine (all_mem _).2 ⟨a, (b + flipS qs) % qs.length, ha, by rw [neg_length]; exact Nat.mod_lt _ q0, ?_⟩
    rw [e, addP_comm, from_flip hb, from_map negP (Nat.mod_lt _ q0)]
  · rw [Merged.slen] at hi
    obtain ⟨a, b, ha, hb, rfl⟩ := (all_mem _).1 hz
    rw [neg_length] at hb
    obtain ⟨k, hk, hks⟩ := turn_back (flipS_lt q0) hb
    have ef : fromP (qs.map negP) b = fromP (flipP qs) k := by rw [from_flip hk, hks, from_map negP hb]
    rw [ef, tri_side, side_less, M.step hi, M.at_edge hi]
    have r0 := M.rne0 _ (from_mem hi)
    have e1 := hi_le M.p r0 ha
    have e2 := hi_le M.q r0 (by rw [hl]; exact hk)
    have e3 : crossP ((addP (fromP ps a) (fromP (flipP qs) k)).1, (addP (fromP ps a) (fromP (flipP qs) k)).2) (fromP (runs ds) i) = crossP (fromP (flipP qs) k) (fromP (runs ds) i) + crossP (fromP ps a) (fromP (runs ds) i) := by
      unfold addP crossP crossZ
      grind
    rw [e3]
    omega
end Go.Proofs.Ytnpebfchojalcaa
