import Derived.Test.YtbdppephmlkbaaaM3
namespace Go.Proofs.Ytbdppephmlkbaaa
/-- on which side of the line from a to b the point z lies -/
def triP (a b z : Pt) : Int := (b.1 - a.1) * (z.2 - a.2) - (b.2 - a.2) * (z.1 - a.1)
def leftB (a b v : Pt) : Bool := decide (0 < triP a b v)
/-- not lower than: a is b or lies below it -/
def leP (a b : Pt) : Prop := ¬ lowP b a
theorem leP_iff (a b : Pt) : leP a b ↔ (0 < b.2 - a.2 ∨ (b.2 - a.2 = 0 ∧ 0 ≤ b.1 - a.1)) := by unfold leP lowP; omega
theorem leP_refl (a : Pt) : leP a a := low_irrefl a
theorem leP_trans {a b c : Pt} (h : leP a b) (k : leP b c) : leP a c := by rw [leP_iff] at *; omega
theorem leP_anti {a b : Pt} (h : leP a b) (k : leP b a) : a = b := by
  rw [leP_iff] at h k
  exact Prod.ext (by omega) (by omega)
theorem leP_ne {a b : Pt} (h : leP a b) (k : a ≠ b) : lowP a b := by
  rw [leP_iff] at h
  unfold lowP
  by_cases h1 : a.1 = b.1
  · by_cases h2 : a.2 = b.2
    · exact absurd (Prod.ext h1 h2) k
    · omega
  · omega
theorem leP_of {a b : Pt} (h : lowP a b) : leP a b := by unfold leP lowP at *; omega
/-- turning on in the upper half -/
theorem turn_on {p1 p2 e1 e2 q1 q2 : Int} (hp : 0 < p2 ∨ (p2 = 0 ∧ 0 ≤ p1)) (hq : 0 < q2 ∨ (q2 = 0 ∧ 0 ≤ q1)) (he : 0 < e2 ∨ (e2 = 0 ∧ 0 < e1))
    (h1 : 0 ≤ p1 * e2 - p2 * e1) (h2 : 0 ≤ e1 * q2 - e2 * q1) : 0 ≤ p1 * q2 - p2 * q1 := by
  have hp2 : 0 ≤ p2 := by omega
  have hq2 : 0 ≤ q2 := by omega
  rcases he with he | ⟨rfl, he⟩
  · have k1 := Int.mul_nonneg hp2 h2
    have k2 := Int.mul_nonneg hq2 h1
    have k : e2 * (p1 * q2 - p2 * q1) = p2 * (e1 * q2 - e2 * q1) + q2 * (p1 * e2 - p2 * e1) := by grind
    have k3 : 0 ≤ e2 * (p1 * q2 - p2 * q1) := by omega
    exact Int.nonneg_of_mul_nonneg_right k3 he
  · have k : p2 * e1 ≤ 0 := by omega
    have k2 : p2 = 0 := by
      rcases Int.lt_or_eq_of_le hp2 with h | h
      · have := Int.mul_pos h he
        omega
      · exact h.symm
    subst k2
    have : 0 ≤ p1 * q2 := Int.mul_nonneg (by omega) hq2
    omega
theorem tri_move (a b z : Pt) : triP a b z = (b.1 - a.1) * (z.2 - b.2) - (b.2 - a.2) * (z.1 - b.1) := by unfold triP; grind
theorem tri_self (a z : Pt) : triP a a z = 0 := by unfold triP; simp
theorem tri_first (a b : Pt) : triP a b a = 0 := by unfold triP; simp
theorem tri_last (a b : Pt) : triP a b b = 0 := by unfold triP; grind
/-- what has been put on the way so far, the last one first -/
def popP : List Pt → Pt → List Pt
  | b :: a :: l, v => if leftB a b v = true then b :: a :: l else popP (a :: l) v
  | [b], _ => [b]
  | [], _ => []
def bendS (l : List Pt) : List Pt := l.foldl (fun st v => v :: popP st v) []
/-- the edges of a stack have all of S on their left -/
def Sup (S : Pt → Prop) : List Pt → Prop
  | b :: a :: l => leP a b ∧ (∀ z, S z → 0 ≤ triP a b z) ∧ Sup S (a :: l)
  | _ => True
def Bends : List Pt → Prop
  | c :: b :: a :: l => 0 < triP a b c ∧ Bends (b :: a :: l)
  | _ => True
theorem Bends.tail {b : Pt} {l : List Pt} (h : Bends (b :: l)) : Bends l := by
  match l, h with
  | [], _ => trivial
  | [a], _ => trivial
  | a :: c :: l, h => exact h.2
theorem Sup.tail {S : Pt → Prop} {b : Pt} {l : List Pt} (h : Sup S (b :: l)) : Sup S l := by
  match l, h with
  | [], _ => trivial
  | a :: l, h => exact h.2.2
theorem tri_ne {a b z : Pt} (h : 0 < triP a b z) : a ≠ b := fun e => by rw [e, tri_self] at h; exact absurd h (by decide)
/-- the edges below one that has v on its left have it there too -/
theorem sup_on {S : Pt → Prop} (v : Pt) : ∀ (l : List Pt) (b a : Pt), Sup S (b :: a :: l) → Bends (b :: a :: l) → 0 ≤ triP a b v → leP b v → Sup (fun z => S z ∨ z = v) (b :: a :: l) := by
  intro l
  induction l with
  | nil =>
    intro b a h hb hv _
    refine ⟨h.1, fun z hz => ?_, trivial⟩
    rcases hz with hz | rfl
    · exact h.2.1 z hz
    · exact hv
  | cons c l ih =>
    intro b a h hb hv hbv
    refine ⟨h.1, fun z hz => ?_, ?_⟩
    · rcases hz with hz | rfl
      · exact h.2.1 z hz
      · exact hv
    · have hab : leP a v := leP_trans h.1 hbv
      refine ih a c h.2.2 hb.2 ?_ hab
      have t := hb.1
      have h1 := h.1
      have h2 := h.2.2.1
      have hne : ¬ (b.1 - a.1 = 0 ∧ b.2 - a.2 = 0) := fun e => by
        rw [tri_move, e.1, e.2] at t
        simp at t
      rw [leP_iff] at h1 h2 hab
      rw [tri_move] at t ⊢
      unfold triP at hv
      exact turn_on h2 hab (by omega) (by omega) hv
/-- what is known of a stack while points are popped off it -/
def Topped (S : Pt → Prop) (v b : Pt) (l : List Pt) : Prop :=
  (∀ z, S z → leP z b) ∨ ∃ u, leP b u ∧ (b ≠ u ∨ ∀ z, S z → z = b) ∧ (∀ z, S z → 0 ≤ triP b u z) ∧ triP b u v ≤ 0 ∧ Bends (u :: b :: l)
theorem pop_spec {S : Pt → Prop} {v f : Pt} (hv : ∀ z, S z → leP z v) (hf : ∀ z, S z → leP f z) :
    ∀ (l : List Pt) (b : Pt), (b :: l).getLast? = some f → Sup S (b :: l) → Bends (b :: l) → (∀ x ∈ b :: l, S x) → Topped S v b l →
    ∃ b' l', popP (b :: l) v = b' :: l' ∧ (b' :: l').getLast? = some f ∧ Sup (fun z => S z ∨ z = v) (v :: b' :: l') ∧ Bends (v :: b' :: l') ∧ (∀ x ∈ b' :: l', S x) := by
  intro l
  induction l with
  | nil =>
    intro b hl _ _ hm ht
    obtain rfl : b = f := by simpa using hl
    have hb := hm b (by simp)
    refine ⟨b, [], rfl, hl, ⟨hv b hb, fun z hz => ?_, trivial⟩, trivial, hm⟩
    rcases hz with hz | rfl
    · have all : (∀ z, S z → z = b) → 0 ≤ triP b v z := fun h => by rw [h z hz, tri_first]; decide
      rcases ht with ht | ⟨u, h1, h2, h3, h4, _⟩
      · exact all fun z hz => leP_anti (ht z hz) (hf z hz)
      · rcases h2 with h2 | h2
        · have hbv := hv b hb
          have hbz := hf z hz
          have h5 := leP_ne h1 h2
          have h6 := h3 z hz
          rw [leP_iff] at hbv hbz
          unfold triP at h4 h6 ⊢
          unfold lowP at h5
          exact turn_on hbv hbz (e1 := u.1 - b.1) (e2 := u.2 - b.2) (by omega) (by grind) h6
        · exact all h2
    · rw [tri_last]; decide
  | cons a l ih =>
    intro b hl hs hb hm ht
    by_cases hlt : leftB a b v = true
    · have hp : popP (b :: a :: l) v = b :: a :: l := by simp only [popP]; rw [if_pos hlt]
      have hpos : 0 < triP a b v := by unfold leftB at hlt; exact of_decide_eq_true hlt
      have hbv := hv b (hm b (by simp))
      refine ⟨b, a :: l, hp, hl, ⟨hbv, fun z hz => ?_, sup_on v l b a hs hb (by omega) hbv⟩, ⟨hpos, hb⟩, hm⟩
      rcases hz with hz | rfl
      · have s1 := hs.2.1 z hz
        have hab := hs.1
        have hne := tri_ne hpos
        have h5 := leP_ne hab hne
        rcases ht with ht | ⟨u, h1, h2, h3, h4, h6⟩
        · have hzb := ht z hz
          rw [leP_iff] at hbv hzb
          rw [tri_move] at s1 hpos
          unfold lowP at h5
          have := turn_on hzb hbv (e1 := b.1 - a.1) (e2 := b.2 - a.2) (by omega) (by grind) (by grind)
          unfold triP
          grind
        · have k1 := h6.1
          have k2 := h3 z hz
          rw [tri_move] at s1 hpos k1
          unfold triP at h4 k2 ⊢
          have m1 := Int.mul_nonneg (show 0 ≤ -((u.1 - b.1) * (v.2 - b.2) - (u.2 - b.2) * (v.1 - b.1)) by omega) s1
          have m2 := Int.mul_nonneg (Int.le_of_lt hpos) k2
          have e : ((b.1 - a.1) * (u.2 - b.2) - (b.2 - a.2) * (u.1 - b.1)) * ((v.1 - b.1) * (z.2 - b.2) - (v.2 - b.2) * (z.1 - b.1)) =
            -((u.1 - b.1) * (v.2 - b.2) - (u.2 - b.2) * (v.1 - b.1)) * ((b.1 - a.1) * (z.2 - b.2) - (b.2 - a.2) * (z.1 - b.1)) + ((b.1 - a.1) * (v.2 - b.2) - (b.2 - a.2) * (v.1 - b.1)) * ((u.1 - b.1) * (z.2 - b.2) - (u.2 - b.2) * (z.1 - b.1)) := by grind
          exact Int.nonneg_of_mul_nonneg_right (by rw [e]; omega) k1
      · rw [tri_last]; decide
    · have hp : popP (b :: a :: l) v = popP (a :: l) v := by simp only [popP]; rw [if_neg hlt]
      rw [hp]
      have hle : triP a b v ≤ 0 := by unfold leftB at hlt; rw [decide_eq_true_eq] at hlt; omega
      refine ih a (by rwa [List.getLast?_cons_cons] at hl) hs.tail hb.tail (fun x hx => hm x (by simp at hx ⊢; exact .inr hx)) (.inr ⟨b, hs.1, ?_, hs.2.1, hle, hb⟩)
      by_cases hab : a = b
      · subst hab
        right
        cases l with
        | cons c l =>
            have := hb.1
            rw [tri_last] at this
            exact absurd this (by decide)
        | nil =>
          obtain rfl : a = f := by simpa using hl
          rcases ht with ht | ⟨u, _, _, _, _, h6⟩
          · exact fun z hz => leP_anti (ht z hz) (hf z hz)
          · have := h6.1
            rw [tri_self] at this
            exact absurd this (by decide)
      · exact .inl hab
theorem Sup.mono {S T : Pt → Prop} (h : ∀ z, T z → S z) : ∀ st, Sup S st → Sup T st
  | [], _ => trivial
  | [_], _ => trivial
  | _ :: a :: l, k => ⟨k.1, fun z hz => k.2.1 z (h z hz), Sup.mono h (a :: l) k.2.2⟩
/-- a stack over the points done so far -/
structure Way (xs : List Pt) (f : Pt) (st : List Pt) : Prop where
  last : st.getLast? = some f
  sup : Sup (fun z => z ∈ xs) st
  bends : Bends st
  mem : ∀ x ∈ st, x ∈ xs
  low : ∀ z ∈ xs, leP f z
  top : ∃ b l, st = b :: l ∧ ∀ z ∈ xs, leP z b
theorem way_on {xs : List Pt} {f v : Pt} {st : List Pt} (h : Way xs f st) (hv : ∀ z ∈ xs, leP z v) : Way (xs ++ [v]) f (v :: popP st v) := by
  obtain ⟨b, l, rfl, ht⟩ := h.top
  obtain ⟨b', l', e, hl, hs, hb, hm⟩ := pop_spec (S := fun z => z ∈ xs) (v := v) (f := f) hv h.low l b h.last h.sup h.bends h.mem (.inl ht)
  rw [e]
  refine ⟨by rw [List.getLast?_cons_cons]; exact hl, hs.mono (fun z hz => by simpa using hz), hb, fun x hx => ?_, fun z hz => ?_, v, b' :: l', rfl, fun z hz => ?_⟩
  · rcases List.mem_cons.1 hx with rfl | hx
    · simp
    · exact List.mem_append_left _ (hm x hx)
  · rcases List.mem_append.1 hz with hz | hz
    · exact h.low z hz
    · obtain rfl : z = v := by simpa using hz
      exact hv f (h.mem f (List.mem_of_getLast? h.last))
  · rcases List.mem_append.1 hz with hz | hz
    · exact hv z hz
    · obtain rfl : z = v := by simpa using hz
      exact leP_refl z
theorem way_fold : ∀ (l xs : List Pt) (f : Pt) (st : List Pt), Way xs f st → (xs ++ l).Pairwise leP → Way (xs ++ l) f (l.foldl (fun st v => v :: popP st v) st) := by
  intro l
  induction l with
  | nil => intro xs f st h _; simpa using h
  | cons v l ih =>
    intro xs f st h hp
    have hp' : (xs ++ [v] ++ l).Pairwise leP := by simpa using hp
    have := ih (xs ++ [v]) f (v :: popP st v) (way_on h fun z hz => (List.pairwise_append.1 hp).2.2 z hz v (by simp)) hp'
    simpa using this
/-- the way over sorted points -/
theorem bend_way {f : Pt} {l : List Pt} (hp : (f :: l).Pairwise leP) : Way (f :: l) f (bendS (f :: l)) := by
  have r : ∀ z, z ∈ [f] → z = f := fun z hz => List.mem_singleton.1 hz
  have h0 : Way [f] f [f] := ⟨rfl, trivial, trivial, fun x hx => hx, fun z hz => by rw [r z hz]; exact leP_refl f, f, [], rfl, fun z hz => by rw [r z hz]; exact leP_refl f⟩
  exact way_fold l [f] f [f] h0 hp
end Go.Proofs.Ytbdppephmlkbaaa

namespace Go.Proofs.Ytbdppephmlkbaaa
/-- a way by its places -/
structure Chain (S : Pt → Prop) (A : List Pt) : Prop where
  sup : ∀ i, i + 1 < A.length → ∀ z, S z → 0 ≤ triP (fromP A i) (fromP A (i + 1)) z
  turn : ∀ i, i + 2 < A.length → 0 < triP (fromP A i) (fromP A (i + 1)) (fromP A (i + 2))
  mem : ∀ i, i < A.length → S (fromP A i)
theorem fromP_cons (a : Pt) (l : List Pt) (i : Nat) : fromP (a :: l) (i + 1) = fromP l i := rfl
theorem fromP_rev {l : List Pt} {i : Nat} (h : i < l.length) : fromP l.reverse i = fromP l (l.length - 1 - i) := by
  rw [fromP_of (List.getElem?_eq_getElem (by simpa using h)), fromP_of (List.getElem?_eq_getElem (show l.length - 1 - i < l.length by omega)), List.getElem_reverse]
theorem sup_at {S : Pt → Prop} : ∀ (st : List Pt), Sup S st → ∀ i, i + 1 < st.length → leP (fromP st (i + 1)) (fromP st i) ∧ ∀ z, S z → 0 ≤ triP (fromP st (i + 1)) (fromP st i) z
  | [], _, i, hi => by simp at hi
  | [_], _, i, hi => by simp at hi
  | b :: a :: l, h, 0, _ => ⟨h.1, h.2.1⟩
  | b :: a :: l, h, i + 1, hi => sup_at (a :: l) h.2.2 i (by simpa using hi)
theorem bends_at : ∀ (st : List Pt), Bends st → ∀ i, i + 2 < st.length → 0 < triP (fromP st (i + 2)) (fromP st (i + 1)) (fromP st i)
  | [], _, i, hi => by simp at hi
  | [_], _, i, hi => by simp at hi
  | [_, _], _, i, hi => by simp only [List.length_cons, List.length_nil] at hi; omega
  | c :: b :: a :: l, h, 0, _ => h.1
  | c :: b :: a :: l, h, i + 1, hi => bends_at (b :: a :: l) h.2 i (by simpa using hi)
theorem from_mem' {l : List Pt} {i : Nat} (h : i < l.length) : fromP l i ∈ l := by
  rw [fromP_of (List.getElem?_eq_getElem h)]
  exact List.getElem_mem h
theorem Way.chain {xs : List Pt} {f : Pt} {st : List Pt} (h : Way xs f st) : Chain (fun z => z ∈ xs) st.reverse ∧ (∀ i, i + 1 < st.length → leP (fromP st.reverse i) (fromP st.reverse (i + 1))) := by
  have e1 : ∀ i, i + 1 < st.length → fromP st.reverse i = fromP st (st.length - 2 - i + 1) := fun i hi => by
    rw [fromP_rev (by omega)]; congr 1; omega
  have e2 : ∀ i, i + 1 < st.length → fromP st.reverse (i + 1) = fromP st (st.length - 2 - i) := fun i hi => by
    rw [fromP_rev (by omega)]; congr 1; omega
  refine ⟨⟨fun i hi z hz => ?_, fun i hi => ?_, fun i hi => ?_⟩, fun i hi => ?_⟩
  · rw [List.length_reverse] at hi
    rw [e1 i hi, e2 i hi]
    exact (sup_at st h.sup _ (by omega)).2 z hz
  · rw [List.length_reverse] at hi
    have := bends_at st h.bends (st.length - 3 - i) (by omega)
    rw [fromP_rev (by omega), fromP_rev (by omega), fromP_rev (by omega)]
    rwa [show st.length - 1 - i = st.length - 3 - i + 2 by omega, show st.length - 1 - (i + 1) = st.length - 3 - i + 1 by omega, show st.length - 1 - (i + 2) = st.length - 3 - i by omega]
  · rw [List.length_reverse] at hi
    rw [fromP_rev hi]
    exact h.mem _ (from_mem' (by omega))
  · rw [e1 i hi, e2 i hi]
    exact (sup_at st h.sup _ (by omega)).1
/-- the ends of a way -/
theorem Way.ends {xs : List Pt} {f : Pt} {st : List Pt} (h : Way xs f st) : 1 ≤ st.length ∧ fromP st.reverse 0 = f ∧ ∀ z ∈ xs, leP z (fromP st.reverse (st.length - 1)) := by
  obtain ⟨b, l, rfl, ht⟩ := h.top
  refine ⟨by simp, ?_, fun z hz => ?_⟩
  · have hl := h.last
    rw [fromP_rev (by simp)]
    rw [List.getLast?_eq_getElem?] at hl
    exact fromP_of hl
  · rw [fromP_rev (by simp), Nat.sub_self]
    exact ht z hz
theorem tri_neg (a b z : Pt) : triP (negP a) (negP b) (negP z) = triP a b z := by unfold triP negP; grind
theorem leftB_neg (a b v : Pt) : leftB (negP a) (negP b) (negP v) = leftB a b v := by unfold leftB; rw [tri_neg]
theorem popP_neg (v : Pt) : ∀ st : List Pt, popP (st.map negP) (negP v) = (popP st v).map negP
  | [] => rfl
  | [_] => rfl
  | b :: a :: l => by
    have ih := popP_neg v (a :: l)
    simp only [List.map_cons, popP, leftB_neg] at ih ⊢
    split
    · rfl
    · exact ih
theorem bendS_neg (l : List Pt) : bendS (l.map negP) = (bendS l).map negP := by
  unfold bendS
  have key : ∀ (l st : List Pt), (l.map negP).foldl (fun st v => v :: popP st v) (st.map negP) = (l.foldl (fun st v => v :: popP st v) st).map negP := by
    intro l
    induction l with
    | nil => intro st; rfl
    | cons v l ih =>
      intro st
      rw [List.map_cons, List.foldl_cons, List.foldl_cons, popP_neg, ← List.map_cons]
      exact ih _
  exact key l []
theorem leP_neg {a b : Pt} (h : leP a b) : leP (negP b) (negP a) := by rw [leP_iff] at *; unfold negP; simp only; omega
theorem fromP_neg {l : List Pt} {i : Nat} (h : i < l.length) : fromP (l.map negP) i = negP (fromP l i) := by
  rw [fromP_of (List.getElem?_eq_getElem (show i < (l.map negP).length by simpa using h)), fromP_of (List.getElem?_eq_getElem h), List.getElem_map]
/-- three points on one line -/
def FlatS (S : Pt → Prop) : Prop := ∀ a b c, S a → S b → S c → triP a b c = 0
theorem flat_dir {r1 r2 x1 x2 y1 y2 : Int} (hr : ¬ (r1 = 0 ∧ r2 = 0)) (hx : r1 * x2 - r2 * x1 = 0) (hy : r1 * y2 - r2 * y1 = 0) : x1 * y2 - x2 * y1 = 0 := by
  by_cases h2 : r2 = 0
  · subst h2
    have h1 : r1 ≠ 0 := fun e => hr ⟨e, rfl⟩
    have a : x2 = 0 := by
      have : r1 * x2 = 0 := by omega
      rcases Int.mul_eq_zero.1 this with h | h
      · exact absurd h h1
      · exact h
    have b : y2 = 0 := by
      have : r1 * y2 = 0 := by omega
      rcases Int.mul_eq_zero.1 this with h | h
      · exact absurd h h1
      · exact h
    rw [a, b]; omega
  · have e : r2 * (x1 * y2 - x2 * y1) = 0 := by grind
    rcases Int.mul_eq_zero.1 e with h | h
    · exact absurd h h2
    · exact h
/-- where a way that rises meets one that sinks: either they bend there or all points lie on one line -/
theorem meet {S : Pt → Prop} {p t l : Pt} (hl : S l) (h1 : ∀ z, S z → 0 ≤ triP p t z) (h2 : ∀ z, S z → 0 ≤ triP t l z) (hpt : lowP p t) (hlt : lowP l t) :
    0 < triP p t l ∨ FlatS S := by
  rcases Int.lt_or_eq_of_le (h1 l hl) with h | h
  · exact .inl h
  · right
    have all : ∀ z, S z → triP p t z = 0 := fun z hz => by
      have a := h1 z hz
      have b := h2 z hz
      rw [tri_move] at a h ⊢
      unfold triP at b
      unfold lowP at hpt hlt
      generalize hr1 : t.1 - p.1 = r1 at *
      generalize hr2 : t.2 - p.2 = r2 at *
      generalize hv1 : l.1 - t.1 = v1 at *
      generalize hv2 : l.2 - t.2 = v2 at *
      generalize z.1 - t.1 = z1 at *
      generalize z.2 - t.2 = z2 at *
      by_cases h0 : r2 = 0
      · subst h0
        have g1 : 0 < r1 := by omega
        have g2 : v2 = 0 := by
          have : r1 * v2 = 0 := by omega
          rcases Int.mul_eq_zero.1 this with g | g
          · omega
          · exact g
        subst g2
        have g3 : v1 < 0 := by omega
        have a' : 0 ≤ r1 * z2 := by omega
        have b' : 0 ≤ v1 * z2 := by omega
        have c1 : 0 ≤ z2 := Int.nonneg_of_mul_nonneg_right a' g1
        have c2 : z2 ≤ 0 := by
          rcases Int.lt_or_le 0 z2 with g | g
          · have := Int.mul_neg_of_neg_of_pos g3 g
            omega
          · exact g
        have : z2 = 0 := by omega
        rw [this]; omega
      · have g1 : 0 < r2 := by omega
        have g2 : v2 < 0 := by
          rcases Int.lt_or_le v2 0 with g | g
          · exact g
          · have e : v2 = 0 := by omega
            have k : v1 < 0 := by omega
            rw [e] at h
            have : 0 < r2 * -v1 := Int.mul_pos g1 (by omega)
            have : r2 * -v1 = -(r2 * v1) := by grind
            omega
        have e : r2 * (v1 * z2 - v2 * z1) = v2 * (r1 * z2 - r2 * z1) := by grind
        have k : 0 ≤ v2 * (r1 * z2 - r2 * z1) := by rw [← e]; exact Int.mul_nonneg (by omega) b
        rcases Int.lt_or_eq_of_le a with g | g
        · have := Int.mul_neg_of_neg_of_pos g2 g
          omega
        · exact g.symm
    intro a b c ha hb hc
    have e1 := all a ha
    have e2 := all b hb
    have e3 := all c hc
    unfold triP at e1 e2 e3 ⊢
    unfold lowP at hpt
    exact flat_dir (r1 := t.1 - p.1) (r2 := t.2 - p.2) (by omega) (by grind) (by grind)
end Go.Proofs.Ytbdppephmlkbaaa

namespace Go.Proofs.Ytbdppephmlkbaaa
theorem meet_low {S : Pt → Prop} {p t l : Pt} (hl : S l) (h1 : ∀ z, S z → 0 ≤ triP p t z) (h2 : ∀ z, S z → 0 ≤ triP t l z) (hpt : lowP t p) (hlt : lowP t l) :
    0 < triP p t l ∨ FlatS S := by
  have key := meet (S := fun z => S (negP z)) (p := negP p) (t := negP t) (l := negP l) (by show S _; rw [neg_neg']; exact hl)
    (fun z hz => by rw [← neg_neg' z, tri_neg]; exact h1 _ hz) (fun z hz => by rw [← neg_neg' z, tri_neg]; exact h2 _ hz) (low_neg hpt) (low_neg hlt)
  rw [tri_neg] at key
  rcases key with h | h
  · exact .inl h
  · refine .inr fun a b c ha hb hc => ?_
    rw [← tri_neg]
    exact h _ _ _ (by show S _; rw [neg_neg']; exact ha) (by show S _; rw [neg_neg']; exact hb) (by show S _; rw [neg_neg']; exact hc)
theorem cross_tri (a b c : Pt) : crossP (b.1 - a.1, b.2 - a.2) (c.1 - b.1, c.2 - b.2) = triP a b c := by unfold crossP crossZ triP; grind
theorem cross_swap (a b : Pt) : crossP b a = -crossP a b := by unfold crossP crossZ; grind
theorem up_sink {a b : Pt} (h : lowP a b) : sinksB (b.1 - a.1) (b.2 - a.2) = false := by
  unfold lowP at h
  unfold sinksB
  simp only [Bool.or_eq_false_iff, Bool.and_eq_false_iff, decide_eq_false_iff_not]
  omega
theorem down_sink {a b : Pt} (h : lowP b a) : sinksB (b.1 - a.1) (b.2 - a.2) = true := by
  unfold lowP at h
  unfold sinksB
  simp only [Bool.or_eq_true, Bool.and_eq_true, decide_eq_true_eq]
  omega
/-- the polygon of two ways -/
theorem around_of {S : Pt → Prop} {A B : List Pt} (CA : Chain S A) (CB : Chain S B) (upA : ∀ i, i + 1 < A.length → leP (fromP A i) (fromP A (i + 1))) (dnB : ∀ i, i + 1 < B.length → leP (fromP B (i + 1)) (fromP B i))
    (h1 : 1 ≤ A.length) (h2 : 1 ≤ B.length) (e1 : fromP B 0 = fromP A (A.length - 1)) (e2 : fromP A 0 = fromP B (B.length - 1)) (low : ∀ z, S z → leP (fromP A 0) z) (high : ∀ z, S z → leP z (fromP A (A.length - 1)))
    (h3 : 3 ≤ (A.dropLast ++ B.dropLast).length) :
    Around (A.dropLast ++ B.dropLast) ∧ (∀ i, i < (A.dropLast ++ B.dropLast).length → S (fromP (A.dropLast ++ B.dropLast) i)) ∧
      ∀ i, i < (A.dropLast ++ B.dropLast).length → ∀ z, S z → 0 ≤ triP (fromP (A.dropLast ++ B.dropLast) i) (toP (A.dropLast ++ B.dropLast) i) z := by
  have hn : (A.dropLast ++ B.dropLast).length = (A.length - 1) + (B.length - 1) := by simp
  have hflat : ¬ FlatS S := fun hf => by
    have a : A.length ≤ 2 := by
      by_cases g : 2 < A.length
      · have := CA.turn 0 (by omega)
        rw [hf _ _ _ (CA.mem 0 (by omega)) (CA.mem 1 (by omega)) (CA.mem 2 (by omega))] at this
        exact absurd this (by decide)
      · omega
    have b : B.length ≤ 2 := by
      by_cases g : 2 < B.length
      · have := CB.turn 0 (by omega)
        rw [hf _ _ _ (CB.mem 0 (by omega)) (CB.mem 1 (by omega)) (CB.mem 2 (by omega))] at this
        exact absurd this (by decide)
      · omega
    omega
  have hft : fromP A 0 ≠ fromP A (A.length - 1) := fun e => by
    have all : ∀ z, S z → z = fromP A 0 := fun z hz => leP_anti (by rw [e]; exact high z hz) (low z hz)
    exact hflat fun a b c ha hb hc => by rw [all a ha, all b hb, tri_self]
  have hA2 : 2 ≤ A.length := by
    by_cases g : A.length = 1
    · rw [g] at hft; exact absurd rfl hft
    · omega
  have hB2 : 2 ≤ B.length := by
    by_cases g : B.length = 1
    · rw [g] at e2; rw [← e1, e2] at hft; exact absurd rfl hft
    · omega
  have sA : ∀ i, i + 1 < A.length → lowP (fromP A i) (fromP A (i + 1)) := fun i hi => leP_ne (upA i hi) fun e => by
    by_cases g : i + 2 < A.length
    · exact tri_ne (CA.turn i g) e
    · by_cases g0 : i = 0
      · subst g0
        rw [show A.length - 1 = 0 + 1 by omega] at hft
        exact hft e
      · have := CA.turn (i - 1) (by omega)
        rw [show i - 1 + 1 = i by omega, show i - 1 + 2 = i + 1 by omega, ← e, tri_last] at this
        exact absurd this (by decide)
  have sB : ∀ i, i + 1 < B.length → lowP (fromP B (i + 1)) (fromP B i) := fun i hi => leP_ne (dnB i hi) fun e => by
    by_cases g : i + 2 < B.length
    · exact tri_ne (CB.turn i g) e.symm
    · by_cases g0 : i = 0
      · subst g0
        rw [show B.length - 1 = 0 + 1 by omega] at e2
        rw [← e1, e2] at hft
        exact hft e
      · have := CB.turn (i - 1) (by omega)
        rw [show i - 1 + 1 = i by omega, show i - 1 + 2 = i + 1 by omega, e, tri_last] at this
        exact absurd this (by decide)
  generalize hH : A.dropLast ++ B.dropLast = H at *
  generalize hm : A.length - 1 = m at *
  generalize hk : B.length - 1 = k at *
  have hB : ∀ j, j < k → fromP H (m + j) = fromP B j := fun j hj => by
    refine fromP_of ?_
    rw [← hH, List.getElem?_append_right (by rw [List.length_dropLast]; omega), List.getElem?_dropLast, List.length_dropLast, hm, hk, show m + j - m = j by omega, if_pos hj, List.getElem?_eq_getElem (by omega)]
    rw [fromP_of (List.getElem?_eq_getElem (show j < B.length by omega))]
  have hA : ∀ i, i ≤ m → fromP H i = fromP A i := fun i hi => by
    by_cases him : i = m
    · subst him
      have := hB 0 (by omega)
      rw [Nat.add_zero] at this
      rw [this, e1]
    · refine fromP_of ?_
      rw [← hH, List.getElem?_append_left (by rw [List.length_dropLast]; omega), List.getElem?_dropLast, hm, if_pos (by omega), List.getElem?_eq_getElem (by omega)]
      rw [fromP_of (List.getElem?_eq_getElem (show i < A.length by omega))]
  have tA : ∀ i, i < m → toP H i = fromP A (i + 1) := fun i hi => by
    rw [to_from, hn, Nat.mod_eq_of_lt (by omega)]
    exact hA _ (by omega)
  have tB : ∀ j, j < k → toP H (m + j) = fromP B (j + 1) := fun j hj => by
    rw [to_from, hn]
    by_cases g : j + 1 = k
    · rw [show m + j + 1 = m + k by omega, Nat.mod_self, g, ← e2]
      exact hA 0 (by omega)
    · rw [Nat.mod_eq_of_lt (by omega), show m + j + 1 = m + (j + 1) by omega]
      exact hB _ (by omega)
  have hto : ∀ i, i < m + k → toP H (prevI (m + k) i) = fromP H i := fun i hi => by
    rw [to_from, hn]
    unfold prevI
    split
    · rename_i h0
      rw [show m + k - 1 + 1 = m + k by omega, Nat.mod_self, h0]
    · rw [show i - 1 + 1 = i by omega, Nat.mod_eq_of_lt hi]
  have cr : ∀ i, i < m + k → crossP (stepP H (prevI (m + k) i)) (stepP H i) = triP (fromP H (prevI (m + k) i)) (fromP H i) (toP H i) := fun i hi => by
    unfold stepP
    rw [hto i hi]
    exact cross_tri _ _ _
  have turn : ∀ i, i < m + k → 0 < triP (fromP H (prevI (m + k) i)) (fromP H i) (toP H i) := fun i hi => by
    by_cases g0 : i = 0
    · subst g0
      have e : prevI (m + k) 0 = m + (k - 1) := by unfold prevI; simp; omega
      rw [e, hB (k - 1) (by omega), hA 0 (by omega), tA 0 (by omega), e2]
      have s := sB (k - 1) (by omega)
      have c := CB.sup (k - 1) (by omega)
      rw [show k - 1 + 1 = k by omega] at s c
      refine (meet_low (CA.mem 1 (by omega)) c (fun z hz => ?_) s ?_).resolve_right hflat
      · rw [← e2]; exact CA.sup 0 (by omega) z hz
      · rw [← e2]; exact sA 0 (by omega)
    · have e : prevI (m + k) i = i - 1 := by unfold prevI; rw [if_neg g0]
      rw [e]
      rcases Nat.lt_trichotomy i m with g | g | g
      · rw [hA (i - 1) (by omega), hA i (by omega), tA i g]
        have := CA.turn (i - 1) (by omega)
        rwa [show i - 1 + 1 = i by omega, show i - 1 + 2 = i + 1 by omega] at this
      · have t := tB 0 (by omega)
        rw [Nat.add_zero, ← g] at t
        rw [hA (i - 1) (by omega), hA i (by omega), t]
        have s := sA (i - 1) (by omega)
        have c := CA.sup (i - 1) (by omega)
        rw [show i - 1 + 1 = i by omega] at s c
        subst g
        refine (meet (CB.mem 1 (by omega)) c (fun z hz => ?_) s ?_).resolve_right hflat
        · rw [← e1]; exact CB.sup 0 (by omega) z hz
        · rw [← e1]; exact sB 0 (by omega)
      · obtain ⟨j, rfl⟩ : ∃ j, i = m + (j + 1) := ⟨i - m - 1, by omega⟩
        rw [show m + (j + 1) - 1 = m + j by omega, hB j (by omega), hB (j + 1) (by omega), tB (j + 1) (by omega)]
        exact CB.turn j (by omega)
  have up : ∀ i, i < m → sinksB (stepP H i).1 (stepP H i).2 = false := fun i hi => by
    unfold stepP
    rw [tA i hi, hA i (by omega)]
    exact up_sink (sA i (by omega))
  have down : ∀ j, j < k → sinksB (stepP H (m + j)).1 (stepP H (m + j)).2 = true := fun j hj => by
    unfold stepP
    rw [tB j hj, hB j hj]
    exact down_sink (sB j (by omega))
  refine ⟨⟨h3, fun i hi => ?_, fun i hi => ?_⟩, fun i hi => ?_, fun i hi z hz => ?_⟩
  · rw [hn] at hi ⊢
    rw [cr i hi]
    exact turn i hi
  · rw [hn] at hi
    intro hlt
    have e : prevI (m + k) (i + 1) = i := by unfold prevI; rw [if_neg (by omega)]; omega
    have c := cr (i + 1) hi
    have t := turn (i + 1) hi
    rw [e] at c t
    rcases hlt with ⟨a, b⟩ | ⟨_, b⟩
    · by_cases g : i < m
      · rw [up i g] at b; cases b
      · have := down (i + 1 - m) (by omega)
        rw [show m + (i + 1 - m) = i + 1 by omega, a] at this
        cases this
    · have b' : 0 < crossP (stepP H (i + 1)) (stepP H i) := b
      rw [cross_swap] at b'
      omega
  · rw [hn] at hi
    by_cases g : i < m
    · rw [hA i (by omega)]; exact CA.mem i (by omega)
    · obtain ⟨j, rfl⟩ : ∃ j, i = m + j := ⟨i - m, by omega⟩
      rw [hB j (by omega)]; exact CB.mem j (by omega)
  · rw [hn] at hi
    by_cases g : i < m
    · rw [hA i (by omega), tA i g]; exact CA.sup i (by omega) z hz
    · obtain ⟨j, rfl⟩ : ∃ j, i = m + j := ⟨i - m, by omega⟩
      rw [hB j (by omega), tB j (by omega)]; exact CB.sup j (by omega) z hz
end Go.Proofs.Ytbdppephmlkbaaa

namespace Go.Proofs.Ytbdppephmlkbaaa
/-- the polygon around sorted points -/
def hullP (s : List Pt) : List Pt := (bendS s).reverse.dropLast ++ (bendS s.reverse).reverse.dropLast
theorem hull_around {s : List Pt} (hs : s.Pairwise leP) (h3 : 3 ≤ (hullP s).length) :
    Around (hullP s) ∧ (∀ i, i < (hullP s).length → fromP (hullP s) i ∈ s) ∧ ∀ i, i < (hullP s).length → ∀ z ∈ s, 0 ≤ triP (fromP (hullP s) i) (toP (hullP s) i) z := by
  cases hc : s with
  | nil => rw [hc] at h3; simp [hullP, bendS] at h3
  | cons f l =>
    rw [← hc]
    have hne : s.reverse ≠ [] := by rw [hc]; simp
    obtain ⟨t, l', hr⟩ : ∃ t l', s.reverse = t :: l' := by
      cases h : s.reverse with
      | nil => exact absurd h hne
      | cons t l' => exact ⟨t, l', rfl⟩
    have wA : Way s f (bendS s) := by
      have := bend_way (f := f) (l := l) (by rw [← hc]; exact hs)
      rwa [← hc] at this
    have hs' : (s.reverse.map negP).Pairwise leP := by
      rw [List.pairwise_map, List.pairwise_reverse]
      exact hs.imp fun h => leP_neg h
    have wB : Way (s.reverse.map negP) (negP t) ((bendS s.reverse).map negP) := by
      have := bend_way (f := negP t) (l := l'.map negP) (by rw [← List.map_cons, ← hr]; exact hs')
      rwa [← List.map_cons, ← hr, bendS_neg] at this
    have cA := wA.chain
    have cB := wB.chain
    have dA := wA.ends
    have dB := wB.ends
    rw [List.length_map] at dB cB
    rw [← List.map_reverse] at dB cB
    have el : (bendS s.reverse).reverse.length = (bendS s.reverse).length := List.length_reverse
    have eA : (bendS s).reverse.length = (bendS s).length := List.length_reverse
    have inn : ∀ z, z ∈ s → negP z ∈ s.reverse.map negP := fun z hz => List.mem_map.2 ⟨z, List.mem_reverse.2 hz, rfl⟩
    have out : ∀ z, z ∈ s.reverse.map negP → negP z ∈ s := fun z hz => by
      obtain ⟨x, hx, rfl⟩ := List.mem_map.1 hz
      rw [neg_neg']
      exact List.mem_reverse.1 hx
    unfold hullP at h3 ⊢
    generalize (bendS s).reverse = A at *
    generalize (bendS s.reverse).reverse = B at *
    rw [← eA] at dA cA
    rw [← el] at dB cB
    clear eA el
    have CB : Chain (fun z => z ∈ s) B := ⟨fun i hi z hz => by
        have := cB.1.sup i (by simpa using hi) (negP z) (inn z hz)
        rwa [fromP_neg (by omega), fromP_neg hi, tri_neg] at this,
      fun i hi => by
        have := cB.1.turn i (by simpa using hi)
        rwa [fromP_neg (by omega), fromP_neg (by omega), fromP_neg hi, tri_neg] at this,
      fun i hi => by
        have := out _ (cB.1.mem i (by simpa using hi))
        rwa [fromP_neg hi, neg_neg'] at this⟩
    have dn : ∀ i, i + 1 < B.length → leP (fromP B (i + 1)) (fromP B i) := fun i hi => by
      have := leP_neg (cB.2 i hi)
      rwa [fromP_neg (show i < B.length by omega), fromP_neg hi, neg_neg', neg_neg'] at this
    have hB0 : fromP B 0 = t := by
      have := dB.2.1
      rw [fromP_neg (by omega)] at this
      exact neg_inj this
    have hBl : ∀ z ∈ s, leP (fromP B (B.length - 1)) z := fun z hz => by
      have := leP_neg (dB.2.2 _ (inn z hz))
      rwa [fromP_neg (by omega), neg_neg', neg_neg'] at this
    have hBt : ∀ z ∈ s, leP z t := fun z hz => by
      have := leP_neg (wB.low _ (inn z hz))
      rwa [neg_neg', neg_neg'] at this
    have fl : ∀ z ∈ s, leP (fromP A 0) z := fun z hz => by rw [dA.2.1]; exact wA.low z hz
    refine around_of cA.1 CB cA.2 dn dA.1 dB.1 ?_ ?_ fl dA.2.2 h3
    · rw [hB0]
      have tm : t ∈ s := List.mem_reverse.1 (by rw [hr]; exact List.mem_cons_self)
      exact leP_anti (dA.2.2 t tm) (hBt _ (cA.1.mem _ (by have := dA.1; omega)))
    · exact leP_anti (fl _ (CB.mem _ (by have := dB.1; omega))) (hBl _ (cA.1.mem 0 dA.1))
end Go.Proofs.Ytbdppephmlkbaaa
