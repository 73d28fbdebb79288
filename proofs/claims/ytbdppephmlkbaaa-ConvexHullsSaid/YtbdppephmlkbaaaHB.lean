import Derived.Test.YtbdppephmlkbaaaR4
import Derived.Test.YtbdppephmlkbaaaR2
import Derived.Test.YtbdppephmlkbaaaV24
import Derived.Test.YtbdppephmlkbaaaV20
import Derived.Laws.AppendOwnNone
import Derived.Test.YtbdppephmlkbaaaM28
import Derived.Test.YtbdppephmlkbaaaM24
import Derived.Laws.StructEq
import Derived.Test.YtbdppephmlkbaaaHA
namespace Go.Proofs.Ytbdppephmlkbaaa
set_option maxRecDepth 100000
open Go.RowKit Go.Shelf
attribute [local go_sem] Oper.semAt_some
/-! The law's copy. -/
/-- a slice without memory is the nil slice -/
def NilO (v : Value) : Prop := ∀ n cap : Nat, v = .slice none n cap → n = 0 ∧ cap = 0
set_option maxHeartbeats 4000000 in
theorem copyd_c (v : Value) (ps : List Pt) (w : World) (hv : Vecs w v ps) (hnl : NilO v) (h3 : ps.length ≤ 300) :
    Calls Try.prog 9 #[v] w fun e w' => ∃ r, e = .returned r ∧ Vecs w' r ps ∧ Ext w w' := by
  have HV := Lib.hid hv
  obtain ⟨a, cap, rfl, hl, hm, hr⟩ := hv
  obtain ⟨i0, hi0, hz0, hz1, hz2⟩ := info_parts info31
  have HI := Lib.hid hi0
  have HZ0 := Lib.hid hz0
  have HZ1 := Lib.hid hz1
  have HZ2 := Lib.hid hz2
  have hEa := Ext.alloc (Ext.refl w) (.cells #[] 32)
  have HEa := Lib.hid hEa
  have HOA := Lib.hid (World.ownsRow_made (base := w.heap.size) (e := 32) (size := 2) w #[] 0 (Nat.le_refl _) (by unfold maxLen; omega) rfl)
  clear hi0 hz0 hz1 hz2
  cases a with
  | none =>
    obtain ⟨h0, h1⟩ := hnl _ _ rfl
    have hps : ps = [] := List.length_eq_zero_iff.1 h0
    subst hps
    subst h1
    clear hr hl hm h0 hnl hEa h3
    go_enter Try.func9, Try.ntmps9
    go_wp2_with (at_builtin; (refine wpList_append_own_none rfl _ _ 22 rfl w.heap.size 32 i0 2 Try.underlying22 HI.out _ _ _ rfl HOA.out rfl ?_))
    go_ret
    exact ⟨_, rfl, ⟨_, 0, rfl, Nat.le_refl _, by omega, .inl rfl⟩, HEa.out⟩
  | some ad =>
    have HCL := Lib.hid (show ∀ (j : Nat) (u : Value), (cellsOf ps)[j]? = some u → (w.alloc (.cells #[] 32)).cell? (ad.add j) = some u from fun j u hj => by
      rcases hr with hr | ⟨b, off, ha, hc⟩
      · subst hr; simp [cellsOf] at hj
      · injection ha with ha
        subst ha
        exact pts_cells (PtsAt.ext hc hEa) j u hj)
    have hob : ∀ x, Value.ownBlock (.slice (some ⟨w.heap.size, 0, none⟩) 0 0) = some x → w.heap.size ≤ x := fun x e => Nat.le_of_eq (Option.some.inj e)
    clear hr hnl hEa
    go_enter Try.func9, Try.ntmps9
    go_wp2_with (at_builtin; refine wpList_append_own _ rfl _ _ 22 rfl w.heap.size 32 i0 (.agg #[.int .i64 0, .int .i64 0]) 2 16 Try.underlying22 HI.out HZ0.out HZ1.out HZ2.out rfl (by decide) _ _ _ rfl HOA.out ad ps.length cap (cellsOf ps) rfl (cellsOf_length ps) HCL.out cellsOf_one (by unfold maxLen; omega) (by omega) (by simp) ?_; intro v' w' hown' hgrow hnil; have HO4 := Lib.hid hown'; have HG4 := Lib.hid hgrow; clear hown' hgrow hnil)
    go_ret
    refine ⟨_, rfl, vecs_own (base := w.heap.size) ?_ (by omega), Below.grown HEa.out HG4.out (by simp) (fun x e => hob x e)⟩
    have h := HO4.out
    rw [Nat.zero_add, List.nil_append] at h
    exact h
end Go.Proofs.Ytbdppephmlkbaaa

namespace Go.Proofs.Ytbdppephmlkbaaa
/-! Wrapping: the next point of the reference is the next vertex of the hull. -/
/-- the square of a distance -/
def farZ (a b : Pt) : Int := (a.1 - b.1) * (a.1 - b.1) + (a.2 - b.2) * (a.2 - b.2)
/-- one step of the search for the next point -/
def stepN (at_ n q : Pt) : Pt := if q = at_ then n else if n = at_ ∨ triP at_ n q < 0 ∨ (triP at_ n q = 0 ∧ farZ at_ n < farZ at_ q) then q else n
def nextK (l : List Pt) (at_ : Pt) : Nat → Pt
  | 0 => at_
  | i + 1 => stepN at_ (nextK l at_ i) (fromP l i)
theorem tri_swap3 (a b z : Pt) : triP a z b = -triP a b z := by unfold triP; grind
theorem from_in {l : List Pt} {i : Nat} (h : i < l.length) : fromP l i ∈ l := by
  unfold fromP
  rw [List.getD_eq_getElem?_getD, List.getElem?_eq_getElem h]
  exact List.getElem_mem h
theorem in_from {l : List Pt} {z : Pt} (h : z ∈ l) : ∃ i, i < l.length ∧ fromP l i = z := by
  obtain ⟨i, hi, e⟩ := List.getElem_of_mem h
  refine ⟨i, hi, ?_⟩
  unfold fromP
  rw [List.getD_eq_getElem?_getD, List.getElem?_eq_getElem hi]
  exact e
theorem next_mem {l : List Pt} {a : Pt} : ∀ i, i ≤ l.length → nextK l a i = a ∨ (nextK l a i ∈ l ∧ nextK l a i ≠ a) := by
  intro i
  induction i with
  | zero => intro _; exact .inl rfl
  | succ i ih =>
    intro hi
    have ih := ih (by omega)
    show stepN a (nextK l a i) (fromP l i) = a ∨ (stepN a (nextK l a i) (fromP l i) ∈ l ∧ stepN a (nextK l a i) (fromP l i) ≠ a)
    unfold stepN
    by_cases hq : fromP l i = a
    · rw [if_pos hq]; exact ih
    · rw [if_neg hq]
      split
      · exact .inr ⟨from_in (by omega), hq⟩
      · exact ih
/-- a point that has all others on its left, and those on its line nearer, is the next one -/
theorem next_is {l : List Pt} {a T : Pt} (hT : T ∈ l) (hne : T ≠ a) (h : ∀ z, z ∈ l → z ≠ a → 0 ≤ triP a T z ∧ (triP a T z = 0 → farZ a z ≤ farZ a T ∧ (farZ a z = farZ a T → z = T))) : nextK l a l.length = T := by
  obtain ⟨m, hm, e⟩ := in_from hT
  have key : ∀ j, m + 1 + j ≤ l.length → nextK l a (m + 1 + j) = T := by
    intro j
    induction j with
    | zero =>
      intro _
      show stepN a (nextK l a m) (fromP l m) = T
      unfold stepN
      rw [e, if_neg hne]
      split
      · rfl
      · rename_i hc
        rcases next_mem (l := l) (a := a) m (by omega) with h1 | ⟨h1, h2⟩
        · exact absurd (.inl h1) hc
        · obtain ⟨h3, h4⟩ := h _ h1 h2
          rw [tri_swap3] at hc
          have h5 : triP a T (nextK l a m) = 0 := by
            rcases Int.lt_or_eq_of_le h3 with h6 | h6
            · exact absurd (.inr (.inl (by omega))) hc
            · exact h6.symm
          obtain ⟨h6, h7⟩ := h4 h5
          have h8 : ¬ farZ a (nextK l a m) < farZ a T := fun h9 => hc (.inr (.inr ⟨by omega, h9⟩))
          exact h7 (by omega)
    | succ j ih =>
      intro hj
      show stepN a (nextK l a (m + 1 + j)) (fromP l (m + 1 + j)) = T
      rw [ih (by omega)]
      unfold stepN
      by_cases hq : fromP l (m + 1 + j) = a
      · rw [if_pos hq]
      · rw [if_neg hq, if_neg]
        rintro (h1 | h1 | ⟨h1, h2⟩)
        · exact hne h1
        · have := (h _ (from_in (by omega)) hq).1; omega
        · have := ((h _ (from_in (by omega)) hq).2 h1).1; omega
  have := key (l.length - (m + 1)) (by omega)
  rwa [show m + 1 + (l.length - (m + 1)) = l.length by omega] at this
/-- on a line, at between 0 and the whole -/
theorem on_line {d1 d2 e1 e2 D m : Int} (hD : D = d1 * d1 + d2 * d2) (hm : m = d1 * e1 + d2 * e2) (hc : d1 * e2 - d2 * e1 = 0) : D * e1 = m * d1 ∧ D * e2 = m * d2 ∧ D * (e1 * e1 + e2 * e2) = m * m := by
  refine ⟨by grind, by grind, by grind⟩
theorem sq_nonneg (x : Int) : 0 ≤ x * x := by
  rcases Int.le_total 0 x with h | h
  · exact Int.mul_nonneg h h
  · exact Int.mul_nonneg_of_nonpos_of_nonpos h h
theorem norm_pos {d1 d2 : Int} (h : ¬ (d1 = 0 ∧ d2 = 0)) : 0 < d1 * d1 + d2 * d2 := by
  have h1 := sq_nonneg d1
  have h2 := sq_nonneg d2
  rcases Int.lt_or_eq_of_le h1 with h3 | h3
  · omega
  · rcases Int.lt_or_eq_of_le h2 with h4 | h4
    · omega
    · exfalso
      refine h ⟨?_, ?_⟩
      · rcases Int.mul_eq_zero.1 h3.symm with h | h <;> exact h
      · rcases Int.mul_eq_zero.1 h4.symm with h | h <;> exact h
/-- a point of a hull's edge is no farther than its end -/
theorem edge_far {a T z : Pt} {p1 p2 q1 q2 : Int} (hne : T ≠ a) (hz : triP a T z = 0)
    (hp : 0 < p1 * (T.2 - a.2) - p2 * (T.1 - a.1)) (hpz : 0 ≤ p1 * (z.2 - a.2) - p2 * (z.1 - a.1))
    (hq : 0 < (T.1 - a.1) * q2 - (T.2 - a.2) * q1) (hqz : 0 ≤ q1 * (z.2 - T.2) - q2 * (z.1 - T.1)) : farZ a z ≤ farZ a T ∧ (farZ a z = farZ a T → z = T) := by
  obtain ⟨d1, hd1⟩ : ∃ d, d = T.1 - a.1 := ⟨_, rfl⟩
  obtain ⟨d2, hd2⟩ : ∃ d, d = T.2 - a.2 := ⟨_, rfl⟩
  obtain ⟨e1, he1⟩ : ∃ d, d = z.1 - a.1 := ⟨_, rfl⟩
  obtain ⟨e2, he2⟩ : ∃ d, d = z.2 - a.2 := ⟨_, rfl⟩
  have hfz : farZ a z = e1 * e1 + e2 * e2 := by unfold farZ; rw [he1, he2]; grind
  have hfT : farZ a T = d1 * d1 + d2 * d2 := by unfold farZ; rw [hd1, hd2]; grind
  have hc : d1 * e2 - d2 * e1 = 0 := by unfold triP at hz; rw [hd1, hd2, he1, he2]; exact hz
  have hq2 : 0 ≤ q1 * (e2 - d2) - q2 * (e1 - d1) := by rw [he1, he2, hd1, hd2]; grind
  rw [← hd1, ← hd2] at hp hq
  rw [← he1, ← he2] at hpz
  have hnd : ¬ (d1 = 0 ∧ d2 = 0) := fun h => hne (Prod.ext (by omega) (by omega))
  obtain ⟨D, hD⟩ : ∃ D, D = d1 * d1 + d2 * d2 := ⟨_, rfl⟩
  obtain ⟨m, hm⟩ : ∃ m, m = d1 * e1 + d2 * e2 := ⟨_, rfl⟩
  have hDp : 0 < D := by rw [hD]; exact norm_pos hnd
  obtain ⟨l1, l2, l3⟩ := on_line hD hm hc
  rw [hfz, hfT, ← hD]
  obtain ⟨E, hE⟩ : ∃ E, E = e1 * e1 + e2 * e2 := ⟨_, rfl⟩
  rw [← hE] at l3 ⊢
  have hm0 : 0 ≤ m := by
    have k : D * (p1 * e2 - p2 * e1) = m * (p1 * d2 - p2 * d1) := by grind
    have k1 : 0 ≤ m * (p1 * d2 - p2 * d1) := by rw [← k]; exact Int.mul_nonneg (by omega) hpz
    rcases Int.lt_or_le m 0 with h | h
    · have := Int.mul_neg_of_neg_of_pos h hp; omega
    · exact h
  have hmD : m ≤ D := by
    have k : D * (q1 * (e2 - d2) - q2 * (e1 - d1)) = (D - m) * (d1 * q2 - d2 * q1) := by grind
    have k1 : 0 ≤ (D - m) * (d1 * q2 - d2 * q1) := by rw [← k]; exact Int.mul_nonneg (by omega) hq2
    rcases Int.lt_or_le (D - m) 0 with h | h
    · have := Int.mul_neg_of_neg_of_pos h hq; omega
    · omega
  have h1 : D * E ≤ D * D := by
    rw [l3]
    exact Int.mul_le_mul hmD hmD hm0 (by omega)
  refine ⟨Int.le_of_mul_le_mul_left h1 hDp, fun e => ?_⟩
  rw [e] at l3
  have hmm : m = D := by
    rcases Int.lt_or_eq_of_le hmD with h | h
    · have h2 : m * m < D * D := by
        have h3 : m * m ≤ m * D := Int.mul_le_mul_of_nonneg_left hmD hm0
        have h4 : m * D < D * D := Int.mul_lt_mul_of_pos_right h hDp
        omega
      omega
    · exact h
  rw [hmm] at l1 l2
  have x1 := Int.eq_of_mul_eq_mul_left (by omega : D ≠ 0) l1
  have x2 := Int.eq_of_mul_eq_mul_left (by omega : D ≠ 0) l2
  exact Prod.ext (by omega) (by omega)
/-- the points of a line: none farther, and the lowest -/
structure FarI (l : List Pt) (a : Pt) (i : Nat) (n : Pt) : Prop where
  all : n = a → ∀ j, j < i → fromP l j = a
  most : n ≠ a → ∀ j, j < i → farZ a (fromP l j) ≤ farZ a n
theorem farZ_self (a : Pt) : farZ a a = 0 := by unfold farZ; simp
theorem farZ_nn (a z : Pt) : 0 ≤ farZ a z := by
  have h1 := sq_nonneg (a.1 - z.1)
  have h2 := sq_nonneg (a.2 - z.2)
  unfold farZ
  omega
/-- where all lie on a line, the next one is the farthest one -/
theorem next_far {l : List Pt} {a : Pt} (ha : a ∈ l) (hf : ∀ x y z, x ∈ l → y ∈ l → z ∈ l → triP x y z = 0) : ∀ i, i ≤ l.length → FarI l a i (nextK l a i) := by
  intro i
  induction i with
  | zero => intro _; exact ⟨fun _ j hj => by omega, fun h => absurd rfl h⟩
  | succ i ih =>
    intro hi
    have ih := ih (by omega)
    have hm := next_mem (l := l) (a := a) i (by omega)
    show FarI l a (i + 1) (stepN a (nextK l a i) (fromP l i))
    unfold stepN
    by_cases hq : fromP l i = a
    · rw [if_pos hq]
      refine ⟨fun h j hj => ?_, fun h j hj => ?_⟩
      · by_cases e : j = i
        · rw [e]; exact hq
        · exact ih.all h j (by omega)
      · by_cases e : j = i
        · rw [e, hq, farZ_self]; exact farZ_nn _ _
        · exact ih.most h j (by omega)
    · rw [if_neg hq]
      split
      · rename_i hc
        refine ⟨fun h => absurd h hq, fun _ j hj => ?_⟩
        by_cases e : j = i
        · rw [e]; exact Int.le_refl _
        · rcases hc with h | h | ⟨_, h⟩
          · rw [ih.all h j (by omega), farZ_self]; exact farZ_nn _ _
          · rcases hm with h1 | ⟨h1, _⟩
            · rw [ih.all h1 j (by omega), farZ_self]; exact farZ_nn _ _
            · rw [hf _ _ _ ha h1 (from_in (by omega))] at h; omega
          · rcases hm with h1 | ⟨_, h2⟩
            · rw [ih.all h1 j (by omega), farZ_self]; exact farZ_nn _ _
            · have := ih.most h2 j (by omega); omega
      · rename_i hc
        have h1 : nextK l a i ≠ a := fun h => hc (.inl h)
        refine ⟨fun h => absurd h h1, fun _ j hj => ?_⟩
        by_cases e : j = i
        · rw [e]
          rcases hm with h2 | ⟨h2, _⟩
          · exact absurd h2 h1
          · have h3 := hf _ _ _ ha h2 (from_in (l := l) (i := i) (by omega))
            rcases Int.lt_or_le (farZ a (nextK l a i)) (farZ a (fromP l i)) with h4 | h4
            · exact absurd (.inr (.inr ⟨h3, h4⟩)) hc
            · exact h4
        · exact ih.most h1 j (by omega)
theorem next_most {l : List Pt} {a : Pt} (ha : a ∈ l) (hf : ∀ x y z, x ∈ l → y ∈ l → z ∈ l → triP x y z = 0) : (nextK l a l.length = a ∧ ∀ z, z ∈ l → z = a) ∨ (nextK l a l.length ∈ l ∧ nextK l a l.length ≠ a ∧ ∀ z, z ∈ l → farZ a z ≤ farZ a (nextK l a l.length)) := by
  have h := next_far ha hf l.length (Nat.le_refl _)
  by_cases e : nextK l a l.length = a
  · refine .inl ⟨e, fun z hz => ?_⟩
    obtain ⟨j, hj, rfl⟩ := in_from hz
    exact h.all e j hj
  · refine .inr ⟨?_, e, fun z hz => ?_⟩
    · rcases next_mem (l := l) (a := a) l.length (Nat.le_refl _) with h1 | ⟨h1, _⟩
      · exact absurd h1 e
      · exact h1
    · obtain ⟨j, hj, rfl⟩ := in_from hz
      exact h.most e j hj
/-- seen from the farthest point, the lowest one is the farthest -/
theorem back_far {a F z : Pt} (hF : F ≠ a) (haF : leP a F) (haz : leP a z) (hz : triP a F z = 0) (hfz : farZ a z ≤ farZ a F) : farZ F z ≤ farZ F a ∧ (farZ F z = farZ F a → z = a) := by
  obtain ⟨d1, hd1⟩ : ∃ d, d = F.1 - a.1 := ⟨_, rfl⟩
  obtain ⟨d2, hd2⟩ : ∃ d, d = F.2 - a.2 := ⟨_, rfl⟩
  obtain ⟨e1, he1⟩ : ∃ d, d = z.1 - a.1 := ⟨_, rfl⟩
  obtain ⟨e2, he2⟩ : ∃ d, d = z.2 - a.2 := ⟨_, rfl⟩
  have hfz2 : farZ a z = e1 * e1 + e2 * e2 := by unfold farZ; rw [he1, he2]; grind
  have hfF : farZ a F = d1 * d1 + d2 * d2 := by unfold farZ; rw [hd1, hd2]; grind
  have hFz : farZ F z = (d1 - e1) * (d1 - e1) + (d2 - e2) * (d2 - e2) := by unfold farZ; rw [hd1, hd2, he1, he2]; grind
  have hFa : farZ F a = d1 * d1 + d2 * d2 := by unfold farZ; rw [hd1, hd2]
  have hc : d1 * e2 - d2 * e1 = 0 := by unfold triP at hz; rw [hd1, hd2, he1, he2]; exact hz
  have hnd : ¬ (d1 = 0 ∧ d2 = 0) := fun h => hF (Prod.ext (by omega) (by omega))
  obtain ⟨D, hD⟩ : ∃ D, D = d1 * d1 + d2 * d2 := ⟨_, rfl⟩
  obtain ⟨m, hm⟩ : ∃ m, m = d1 * e1 + d2 * e2 := ⟨_, rfl⟩
  have hDp : 0 < D := by rw [hD]; exact norm_pos hnd
  obtain ⟨l1, l2, l3⟩ := on_line hD hm hc
  obtain ⟨E, hE⟩ : ∃ E, E = e1 * e1 + e2 * e2 := ⟨_, rfl⟩
  rw [hfz2, hfF, ← hD, ← hE] at hfz
  rw [← hE] at l3
  have up1 : 0 < d2 ∨ (d2 = 0 ∧ 0 < d1) := by unfold leP lowP at haF; omega
  have up2 : 0 < e2 ∨ (e2 = 0 ∧ 0 ≤ e1) := by unfold leP lowP at haz; omega
  have hm0 : 0 ≤ m := by
    rcases Int.lt_or_le m 0 with h | h
    · exfalso
      have k1 := l1
      have k2 := l2
      rcases up1 with h1 | ⟨h1, h2⟩
      · have := Int.mul_neg_of_neg_of_pos h h1
        rcases up2 with h3 | ⟨h3, h4⟩
        · have := Int.mul_pos hDp h3; omega
        · rw [h3] at k2; simp at k2; omega
      · have h5 : e2 = 0 := by rcases Int.mul_eq_zero.1 (show D * e2 = 0 by rw [l2, h1]; simp) with h | h <;> omega
        have := Int.mul_neg_of_neg_of_pos h h2
        have := Int.mul_nonneg (show 0 ≤ D by omega) (show 0 ≤ e1 by omega)
        omega
    · exact h
  have hmD : m ≤ D := by
    rcases Int.lt_or_le D m with h | h
    · exfalso
      have h1 : D * E ≤ D * D := Int.mul_le_mul_of_nonneg_left hfz (by omega)
      have h2 : D * D < m * m := by
        have h3 : D * D < D * m := Int.mul_lt_mul_of_pos_left h hDp
        have h4 : D * m ≤ m * m := Int.mul_le_mul_of_nonneg_right (by omega) hm0
        omega
      omega
    · exact h
  have key : D * ((d1 - e1) * (d1 - e1) + (d2 - e2) * (d2 - e2)) = (D - m) * (D - m) := by grind
  obtain ⟨G, hG⟩ : ∃ G, G = (d1 - e1) * (d1 - e1) + (d2 - e2) * (d2 - e2) := ⟨_, rfl⟩
  rw [hFz, hFa, ← hD, ← hG]
  rw [← hG] at key
  have h1 : D * G ≤ D * D := by
    rw [key]
    exact Int.mul_le_mul (by omega) (by omega) (by omega) (by omega)
  refine ⟨Int.le_of_mul_le_mul_left h1 hDp, fun e => ?_⟩
  rw [e] at key
  have hmm : m = 0 := by
    rcases Int.lt_or_eq_of_le hm0 with h | h
    · exfalso
      have h2 : (D - m) * (D - m) < D * D := by
        have h3 : (D - m) * (D - m) ≤ (D - m) * D := Int.mul_le_mul_of_nonneg_left (by omega) (by omega)
        have h4 : (D - m) * D < D * D := Int.mul_lt_mul_of_pos_right (by omega) hDp
        omega
      omega
    · exact h.symm
  rw [hmm] at l1 l2
  have x1 : e1 = 0 := by rcases Int.mul_eq_zero.1 (show D * e1 = 0 by rw [l1]; simp) with h | h <;> omega
  have x2 : e2 = 0 := by rcases Int.mul_eq_zero.1 (show D * e2 = 0 by rw [l2]; simp) with h | h <;> omega
  exact Prod.ext (by omega) (by omega)
/-- and from there the next one is the lowest again -/
theorem next_back {l : List Pt} {a : Pt} (ha : a ∈ l) (hlow : ∀ z, z ∈ l → leP a z) (hf : ∀ x y z, x ∈ l → y ∈ l → z ∈ l → triP x y z = 0) (hne : nextK l a l.length ≠ a) : nextK l (nextK l a l.length) l.length = a := by
  rcases next_most ha hf with ⟨h, _⟩ | ⟨hF, hFa, hmost⟩
  · exact absurd h hne
  · obtain ⟨F, hFe⟩ : ∃ F, F = nextK l a l.length := ⟨_, rfl⟩
    rw [← hFe] at hF hFa hmost hne ⊢
    rcases next_most hF hf with ⟨_, h⟩ | ⟨hG, _, hG2⟩
    · exact absurd (h a ha).symm hne
    · have h1 := back_far hne (hlow F hF) (hlow _ hG) (hf _ _ _ ha hF hG) (hmost _ hG)
      exact h1.2 (Int.le_antisymm h1.1 (hG2 a ha))
end Go.Proofs.Ytbdppephmlkbaaa

namespace Go.Proofs.Ytbdppephmlkbaaa
theorem hull_lowest {hs : List Pt} (h : Around hs) {z : Pt} (hz : ∀ i, i < hs.length → 0 ≤ triP (fromP hs i) (toP hs i) z) : leP (fromP hs 0) z := by
  obtain ⟨u, t⟩ := h.tall
  exact t.low_row h (x := z.1) (y := z.2) fun k hk => by rw [← tri_side]; exact hz k hk
/-! Wrapping goes around the hull, or along the line and back. -/
theorem step_ne {hs : List Pt} (h : Around hs) {i : Nat} (hi : i < hs.length) : toP hs i ≠ fromP hs i := fun e => by
  refine h.ne0 hi ?_
  unfold stepP
  rw [e]
  simp
theorem hull_next {l hs : List Pt} (h : Around hs) (mem : ∀ i, i < hs.length → fromP hs i ∈ l) (sup : ∀ i, i < hs.length → ∀ z, z ∈ l → 0 ≤ triP (fromP hs i) (toP hs i) z) {i : Nat} (hi : i < hs.length) : nextK l (fromP hs i) l.length = toP hs i := by
  have h3 := h.three
  have hj : (i + 1) % hs.length < hs.length := Nat.mod_lt _ (by omega)
  have hT : toP hs i = fromP hs ((i + 1) % hs.length) := to_from
  have hpi : prevI hs.length i < hs.length := by unfold prevI; split <;> omega
  have hpj : prevI hs.length ((i + 1) % hs.length) = i := by
    unfold prevI
    by_cases e : i + 1 < hs.length
    · rw [Nat.mod_eq_of_lt e, if_neg (by omega)]; omega
    · rw [show i + 1 = hs.length by omega, Nat.mod_self, if_pos rfl]; omega
  refine next_is (by rw [hT]; exact mem _ hj) (step_ne h hi) fun z hz hne => ⟨sup i hi z hz, fun h0 => ?_⟩
  have t1 := h.turn i hi
  have t2 := h.turn _ hj
  rw [hpj] at t2
  have s1 := sup _ hpi z hz
  have s2 := sup _ hj z hz
  have ep : toP hs (prevI hs.length i) = fromP hs i := prev_to hi
  rw [ep] at s1
  have e1 : stepP hs i = ((toP hs i).1 - (fromP hs i).1, (toP hs i).2 - (fromP hs i).2) := rfl
  have e2 : stepP hs (prevI hs.length i) = ((fromP hs i).1 - (fromP hs (prevI hs.length i)).1, (fromP hs i).2 - (fromP hs (prevI hs.length i)).2) := by unfold stepP; rw [ep]
  refine edge_far (p1 := (stepP hs (prevI hs.length i)).1) (p2 := (stepP hs (prevI hs.length i)).2) (q1 := (stepP hs ((i + 1) % hs.length)).1) (q2 := (stepP hs ((i + 1) % hs.length)).2) (step_ne h hi) h0 ?_ ?_ ?_ ?_
  · unfold crossP crossZ at t1; rw [e1] at t1; exact t1
  · unfold triP at s1
    rw [e2]
    simp only
    grind
  · unfold crossP crossZ at t2; rw [e1] at t2; exact t2
  · have e3 : stepP hs ((i + 1) % hs.length) = ((toP hs ((i + 1) % hs.length)).1 - (toP hs i).1, (toP hs ((i + 1) % hs.length)).2 - (toP hs i).2) := by unfold stepP; rw [← hT]
    rw [← hT] at s2
    unfold triP at s2
    rw [e3]
    simp only
    grind
/-- the lowest of the first points -/
def lowK (l : List Pt) : Nat → Pt
  | 0 => fromP l 0
  | i + 1 => if (fromP l (i + 1)).2 < (lowK l i).2 ∨ ((fromP l (i + 1)).2 = (lowK l i).2 ∧ (fromP l (i + 1)).1 < (lowK l i).1) then fromP l (i + 1) else lowK l i
theorem low_least {l : List Pt} : ∀ i, i < l.length → lowK l i ∈ l ∧ ∀ j, j ≤ i → leP (lowK l i) (fromP l j) := by
  intro i
  induction i with
  | zero => intro h; exact ⟨from_in h, fun j hj => by rw [show j = 0 by omega]; exact leP_refl _⟩
  | succ i ih =>
    intro h
    obtain ⟨h1, h2⟩ := ih (by omega)
    simp only [lowK]
    split
    · rename_i hc
      refine ⟨from_in h, fun j hj => ?_⟩
      by_cases e : j = i + 1
      · rw [e]; exact leP_refl _
      · exact leP_trans (leP_of hc) (h2 j (by omega))
    · rename_i hc
      refine ⟨h1, fun j hj => ?_⟩
      by_cases e : j = i + 1
      · rw [e]; exact hc
      · exact h2 j (by omega)
theorem low_all {l : List Pt} (h : 1 ≤ l.length) : lowK l (l.length - 1) ∈ l ∧ ∀ z, z ∈ l → leP (lowK l (l.length - 1)) z := by
  obtain ⟨h1, h2⟩ := low_least (l := l) (l.length - 1) (by omega)
  refine ⟨h1, fun z hz => ?_⟩
  obtain ⟨j, hj, rfl⟩ := in_from hz
  exact h2 j (by omega)
/-- the points of the wrapping, one after another -/
def wrapK (l : List Pt) (a : Pt) : Nat → Pt
  | 0 => a
  | k + 1 => nextK l (wrapK l a k) l.length
/-- where the wrapping ends -/
structure WrapEnd (l : List Pt) (a : Pt) (K : Nat) : Prop where
  pos : 1 ≤ K
  max : K ≤ l.length + 1
  on : ∀ k, 1 ≤ k → k < K → wrapK l a k ≠ a ∧ wrapK l a k ≠ wrapK l a (k - 1)
  stop : K = l.length + 1 ∨ wrapK l a K = a ∨ wrapK l a K = wrapK l a (K - 1)
def wrapL (l : List Pt) (a : Pt) (K : Nat) : List Pt := (List.range K).map (wrapK l a)
theorem hull_inj {hs : List Pt} (h : Around hs) {i j : Nat} (hi : i < hs.length) (hj : j < hs.length) (e : fromP hs i = fromP hs j) : i = j := by
  by_cases hij : i = j
  · exact hij
  · exfalso
    by_cases h1 : j = (i + 1) % hs.length
    · refine step_ne h hi ?_
      rw [to_from, ← h1]; exact e.symm
    · have := h.strict_left hi hj (fun e => hij e.symm) h1
      rw [← e] at this
      unfold sideK crossZ at this
      simp at this
theorem sub_len {a b : List Pt} (hn : a.Nodup) (h : ∀ x, x ∈ a → x ∈ b) : a.length ≤ b.length := by
  induction a generalizing b with
  | nil => simp
  | cons x t ih =>
    rw [List.nodup_cons] at hn
    have hx : x ∈ b := h x (by simp)
    have h1 := ih (b := b.erase x) hn.2 (fun y hy => (List.mem_erase_of_ne (fun e => hn.1 (by rw [← e]; exact hy))).2 (h y (by simp [hy])))
    rw [List.length_erase_of_mem hx] at h1
    have : 1 ≤ b.length := List.length_pos_of_mem hx
    simp
    omega
theorem hull_size {l hs : List Pt} (h : Around hs) (mem : ∀ i, i < hs.length → fromP hs i ∈ l) : hs.length ≤ l.length := by
  refine sub_len ?_ fun x hx => ?_
  · show hs.Pairwise (fun x y => x ≠ y)
    rw [List.pairwise_iff_getElem]
    intro i j hi hj hij e
    have := hull_inj h hi hj (by unfold fromP; rw [List.getD_eq_getElem?_getD, List.getD_eq_getElem?_getD, List.getElem?_eq_getElem hi, List.getElem?_eq_getElem hj, e])
    omega
  · obtain ⟨i, hi, rfl⟩ := in_from hx
    exact mem i hi
theorem wrap_hull {l hs : List Pt} {a : Pt} {K : Nat} (h : Around hs) (mem : ∀ i, i < hs.length → fromP hs i ∈ l) (sup : ∀ i, i < hs.length → ∀ z, z ∈ l → 0 ≤ triP (fromP hs i) (toP hs i) z)
    (ha : a = fromP hs 0) (w : WrapEnd l a K) : wrapL l a K = hs := by
  have h3 := h.three
  have hsz := hull_size h mem
  have key : ∀ k, k < hs.length → wrapK l a k = fromP hs k := by
    intro k
    induction k with
    | zero => intro _; exact ha
    | succ k ih =>
      intro hk
      show nextK l (wrapK l a k) l.length = _
      rw [ih (by omega), hull_next h mem sup (by omega), to_from, Nat.mod_eq_of_lt hk]
  have last : wrapK l a hs.length = a := by
    obtain ⟨m, hm⟩ : ∃ m, hs.length = m + 1 := ⟨hs.length - 1, by omega⟩
    rw [hm]
    show nextK l (wrapK l a m) l.length = _
    rw [key m (by omega), hull_next h mem sup (by omega), to_from, ← hm, Nat.mod_self, ha]
  have hK : K = hs.length := by
    rcases Nat.lt_trichotomy K hs.length with hl | hl | hl
    · exfalso
      rcases w.stop with e | e | e
      · omega
      · rw [key K hl, ha] at e
        have := hull_inj h hl (by omega) e
        have := w.pos
        omega
      · have hp := w.pos
        rw [key K hl, key (K - 1) (by omega)] at e
        have := hull_inj h hl (by omega) e
        omega
    · exact hl
    · exact absurd last (w.on hs.length (by omega) hl).1
  refine List.ext_getElem? fun i => ?_
  unfold wrapL
  rw [List.getElem?_map, hK]
  by_cases hi : i < hs.length
  · rw [List.getElem?_range hi, List.getElem?_eq_getElem hi]
    show some (wrapK l a i) = _
    rw [key i hi]
    unfold fromP
    rw [List.getD_eq_getElem?_getD, List.getElem?_eq_getElem hi]; rfl
  · rw [List.getElem?_eq_none (by simp; omega), List.getElem?_eq_none (by omega)]; rfl
theorem wrap_flat {l : List Pt} {a : Pt} {K : Nat} (ha : a ∈ l) (hlow : ∀ z, z ∈ l → leP a z) (hf : ∀ x y z, x ∈ l → y ∈ l → z ∈ l → triP x y z = 0) (w : WrapEnd l a K) : K < 3 := by
  rcases Nat.lt_or_ge K 3 with h | h
  · exact h
  · exfalso
    have h1 := (w.on 1 (Nat.le_refl _) (by omega)).1
    have h2 := (w.on 2 (by omega) (by omega)).1
    have e1 : wrapK l a 1 = nextK l a l.length := rfl
    have e2 : wrapK l a 2 = nextK l (nextK l a l.length) l.length := rfl
    rw [e1] at h1
    rw [e2, next_back ha hlow hf h1] at h2
    exact h2 rfl
end Go.Proofs.Ytbdppephmlkbaaa

namespace Go.Proofs.Ytbdppephmlkbaaa
set_option maxRecDepth 100000
open Go.RowKit Go.Shelf
attribute [local go_sem] Oper.semAt_some
/-! The reference's wrapping. -/
set_option maxHeartbeats 1000000 in
theorem rfar_c (a b c d : Int) (w : World) (ha : -10000 ≤ a ∧ a ≤ 10000) (hb : -10000 ≤ b ∧ b ≤ 10000) (hc : -10000 ≤ c ∧ c ≤ 10000) (hd : -10000 ≤ d ∧ d ≤ 10000) :
    Calls Try.prog 78 #[vecV a b, vecV c d] w fun e w' => e = .returned (.int .i64 (farZ (a, b) (c, d))) ∧ Ext w w' := by
  have m1 := mul_20 (a := a - c) (b := a - c) (by omega) (by omega)
  have m2 := mul_20 (a := b - d) (b := b - d) (by omega) (by omega)
  have e1 : wrap64 (a - c) = a - c := by unfold wrap64; omega
  have e2 : wrap64 (b - d) = b - d := by unfold wrap64; omega
  have e3 : wrap64 ((a - c) * (a - c)) = (a - c) * (a - c) := by unfold wrap64; omega
  have e4 : wrap64 ((b - d) * (b - d)) = (b - d) * (b - d) := by unfold wrap64; omega
  have e5 : wrap64 ((a - c) * (a - c) + (b - d) * (b - d)) = (a - c) * (a - c) + (b - d) * (b - d) := by unfold wrap64; omega
  clear ha hb hc hd m1 m2
  go_enter Try.func78, Try.ntmps78
  go_wp2
  all_goals go_ret
  all_goals exact ⟨ret_int (by first | rfl | simp [farZ, e1, e2, e3, e4, e5]), by (repeat' (first | exact Below.refl _ _ | refine Below.drew ?_ | refine Below.alloc ?_ (by simp <;> omega) _ | refine Below.setCell ?_ (by simp <;> omega) _))⟩
theorem veq_t (a b : Int) (w : World) : Sem.run Try.prog (binOp .eql 32 (.agg #[.int .i64 a, .int .i64 b]) (.agg #[.int .i64 a, .int .i64 b])) w = .ok (.bool true) w := by
  simp [go_sem]
theorem veq_f (a b c d : Int) (h : ¬ (a = c ∧ b = d)) (w : World) : Sem.run Try.prog (binOp .eql 32 (.agg #[.int .i64 a, .int .i64 b]) (.agg #[.int .i64 c, .int .i64 d])) w = .ok (.bool false) w := by
  by_cases hx : a = c
  · subst hx
    have hy : (b == d) = false := beq_eq_false_iff_ne.2 (fun e => h ⟨rfl, e⟩)
    simp [go_sem, hy]
  · have hx : (a == c) = false := beq_eq_false_iff_ne.2 hx
    simp [go_sem, hx]
theorem pt_ne {p q : Pt} (h : p ≠ q) : ¬ (p.1 = q.1 ∧ p.2 = q.2) := fun e => h (Prod.ext e.1 e.2)
theorem next_bd {l : List Pt} {a : Pt} {L : Int} (hb : ∀ q, q ∈ l → (-L ≤ q.1 ∧ q.1 ≤ L) ∧ (-L ≤ q.2 ∧ q.2 ≤ L)) (ha : (-L ≤ a.1 ∧ a.1 ≤ L) ∧ (-L ≤ a.2 ∧ a.2 ≤ L)) {i : Nat} (hi : i ≤ l.length) : (-L ≤ (nextK l a i).1 ∧ (nextK l a i).1 ≤ L) ∧ (-L ≤ (nextK l a i).2 ∧ (nextK l a i).2 ≤ L) := by
  rcases next_mem (l := l) (a := a) i hi with h | ⟨h, _⟩
  · rw [h]; exact ha
  · exact hb _ h
end Go.Proofs.Ytbdppephmlkbaaa

namespace Go.Proofs.Ytbdppephmlkbaaa
set_option maxRecDepth 100000
open Go.RowKit Go.Shelf
attribute [local go_sem] Oper.semAt_some
/-! The reference's wrapping. -/

def lenOf : Value → Nat
  | .slice _ n _ => n
  | _ => 0
theorem own_mono2 {w : World} {base c n : Nat} {v : Value} {xs : List Value} (h : w.ownsRow base 32 2 v n xs) (hc : c ≤ base) : w.ownsRow c 32 2 v n xs := by
  refine ⟨h.1, ?_⟩
  rcases h.2 with h | ⟨g, cap, cur, hv, hb, r⟩
  · exact .inl h
  · exact .inr ⟨g, cap, cur, hv, by omega, r⟩
theorem own_slice2 {w : World} {base : Nat} {e : TypeId} {sz n : Nat} {v : Value} {xs : List Value} (h : w.ownsRow base e sz v n xs) : ∃ a cap, v = .slice a n cap := by
  rcases h.2 with ⟨h, h0⟩ | ⟨g', cap, cur, hv, _⟩
  · exact ⟨none, 0, by rw [h, h0]⟩
  · exact ⟨_, _, hv⟩
theorem wrapL_len (l : List Pt) (a : Pt) (K : Nat) : (wrapL l a K).length = K := by simp [wrapL]
theorem wrapL_at (l : List Pt) (a : Pt) {K i : Nat} (hi : i < K) : fromP (wrapL l a K) i = wrapK l a i := by
  unfold fromP wrapL
  rw [List.getD_eq_getElem?_getD, List.getElem?_map, List.getElem?_range hi]; rfl
theorem wrapK_bd {l : List Pt} {a : Pt} {L : Int} (hb : ∀ q, q ∈ l → (-L ≤ q.1 ∧ q.1 ≤ L) ∧ (-L ≤ q.2 ∧ q.2 ≤ L)) (ha : (-L ≤ a.1 ∧ a.1 ≤ L) ∧ (-L ≤ a.2 ∧ a.2 ≤ L)) : ∀ k, (-L ≤ (wrapK l a k).1 ∧ (wrapK l a k).1 ≤ L) ∧ (-L ≤ (wrapK l a k).2 ∧ (wrapK l a k).2 ≤ L) := by
  intro k
  induction k with
  | zero => exact ha
  | succ k ih => exact next_bd hb ih (Nat.le_refl _)
set_option maxHeartbeats 16000000 in
theorem wrap_c (v : Value) (ps : List Pt) (w : World) (hv : Vecs w v ps) (hb : ∀ q, q ∈ ps → (-4000 ≤ q.1 ∧ q.1 ≤ 4000) ∧ (-4000 ≤ q.2 ∧ q.2 ≤ 4000)) (h1 : 1 ≤ ps.length) (h2 : ps.length ≤ 2000) :
    Calls Try.prog 43 #[v] w fun e w' => ∃ r K, e = .returned r ∧ WrapEnd ps (lowK ps (ps.length - 1)) K ∧ w'.ownsRow w.heap.size 32 2 r K (cellsOf (wrapL ps (lowK ps (ps.length - 1)) K)) ∧ Ext w w' := by
  obtain ⟨b, o, cap, rfl, hl, hm, hc⟩ := vecs_cells hv h1
  have HC := Lib.hid hc
  have HPB := Lib.hid (fun (k : Nat) (hk : k < ps.length) => hb _ (from_in hk))
  have HLB := Lib.hid (fun (k : Nat) (hk : k < ps.length) => hb _ (low_least k hk).1)
  have HWB := Lib.hid (wrapK_bd hb (hb _ (low_all h1).1))
  have HNB0 := Lib.hid (fun (x : Pt) (hx : (-4000 ≤ x.1 ∧ x.1 ≤ 4000) ∧ (-4000 ≤ x.2 ∧ x.2 ≤ 4000)) (i : Nat) (hi : i ≤ ps.length) => next_bd hb hx hi)
  obtain ⟨i0, hi0, hz0, hz1, hz2⟩ := info_parts info31
  have HI := Lib.hid hi0
  have HZ0 := Lib.hid hz0
  have HZ1 := Lib.hid hz1
  have HZ2 := Lib.hid hz2
  obtain ⟨n, hnn⟩ : ∃ n, n = ps.length := ⟨_, rfl⟩
  have hn : 1 ≤ n ∧ n ≤ 2000 := by omega
  rw [← hnn] at HC HPB HLB HWB HNB0 hl ⊢
  have HN := Lib.hid hnn
  clear hv hc hb h1 h2 hnn hi0 hz0 hz1 hz2
  obtain ⟨a, ha⟩ : ∃ a, a = lowK ps (n - 1) := ⟨_, rfl⟩
  rw [← ha] at HWB ⊢
  have HAL := Lib.hid ha
  clear ha
  have hzn : ((n : Int) == 0) = false := beq_eq_false_iff_ne.2 (by omega)
  have hn0 : 0 < n := by omega
  obtain ⟨c1, c2⟩ := HC.out 0 (by omega)
  rw [Nat.zero_mul, Nat.add_zero] at c1 c2
  obtain ⟨x0, hx0⟩ : ∃ x, x = (fromP ps 0).1 := ⟨_, rfl⟩
  obtain ⟨y0, hy0⟩ : ∃ x, x = (fromP ps 0).2 := ⟨_, rfl⟩
  rw [← hx0] at c1
  rw [← hy0] at c2
  have HX0 := Lib.hid hx0
  have HY0 := Lib.hid hy0
  clear hx0 hy0
  have HV0 := Lib.hid (show VRow (w.alloc (.cells #[.int .i64 x0, .int .i64 y0] 32)) _ _ _ from vrow_alloc w [.int .i64 x0, .int .i64 y0] 32)
  have HE0 := Lib.hid (Ext.alloc (Ext.refl w) (.cells #[.int .i64 x0, .int .i64 y0] 32))
  go_enter Try.func43, Try.ntmps43
  go_wp2_with fail
  clear c1 c2 hzn
  obtain ⟨g, hg⟩ : ∃ g, g = w.heap.size := ⟨_, rfl⟩
  rw [← hg] at HV0 ⊢
  have HG := Lib.hid hg
  clear hg
  generalize w.alloc (.cells #[.int .i64 x0, .int .i64 y0] 32) = w0 at *
  go_loopw [4] (fun iv wr => ∃ i : Nat, iv = .int .i64 ((i : Int) + 1) ∧ i + 1 ≤ n ∧ VRow wr g 32 [.int .i64 (lowK ps i).1, .int .i64 (lowK ps i).2] ∧ Ext w wr) (fun iv _ => n + 1 - (intOf iv).toNat)
  case atStart => exact ⟨0, rfl, by omega, by show VRow w0 g 32 [.int .i64 (fromP ps 0).1, .int .i64 (fromP ps 0).2]; rw [← HX0.out, ← HY0.out]; exact HV0.out, HE0.out⟩
  case round =>
    rename World => wr
    obtain ⟨i, rfl, hi, hV, hE⟩ := hrel
    have HV := Lib.hid hV
    have HE := Lib.hid hE
    clear hV hE
    have HGS := Lib.hid (show g < wr.heap.size from VRow.lt HV.out)
    by_cases hil : i + 1 < n
    · obtain ⟨c1, c2⟩ := HC.out (i + 1) hil
      have C1 := Lib.hid (Ext.cell HE.out c1)
      have C2 := Lib.hid (Ext.cell HE.out c2)
      have HLS := Lib.hid (show lowK ps (i + 1) = if (fromP ps (i + 1)).2 < (lowK ps i).2 ∨ ((fromP ps (i + 1)).2 = (lowK ps i).2 ∧ (fromP ps (i + 1)).1 < (lowK ps i).1) then fromP ps (i + 1) else lowK ps i from rfl)
      have hi1a : (i : Int) + 1 < (n : Int) := by omega
      have hi1b : ¬ (i : Int) + 1 < 0 := by omega
      obtain ⟨q, hq⟩ : ∃ q, q = fromP ps (i + 1) := ⟨_, rfl⟩
      obtain ⟨l, hl2⟩ : ∃ l, l = lowK ps i := ⟨_, rfl⟩
      rw [← hq] at C1 C2 HLS
      rw [← hl2] at HV HLS
      clear hq hl2 c1 c2
      have HLW := Lib.hid (fun W => lower_c q.1 q.2 l.1 l.2 W)
      cases hlb : lowB q.1 q.2 l.1 l.2 with
      | true =>
        have HS := Lib.hid (show (lowK ps (i + 1)).1 = q.1 ∧ (lowK ps (i + 1)).2 = q.2 from by
          rw [HLS.out, if_pos (show q.2 < l.2 ∨ (q.2 = l.2 ∧ q.1 < l.1) from by simpa [lowB] using hlb)]; exact ⟨rfl, rfl⟩)
        rw [hlb] at HLW
        clear hlb HLS
        generalize q.1 = qx at *
        generalize q.2 = qy at *
        generalize l.1 = lx at *
        generalize l.2 = ly at *
        go_wp2_with fail
        refine wp_region_stable [⟨[], none⟩, ⟨[], none⟩, ⟨[(0, 22), (1, 23)], none⟩, ⟨[(2, 24)], none⟩, ⟨[], none⟩, ⟨[(3, 25), (4, 26)], none⟩] (fun x y => Below x.heap.size x y) (MPat [MP.eq (.slice (some ⟨b, o, none⟩) n cap), MP.eq (.int .i64 ((i : Int) + 1)), MP.eq (.pointer (some ⟨b, o + (i + 1) * 2, none⟩)), MP.eq (vecV qx qy), MP.eq (vecV lx ly), MP.eq (.bool true)]) (by kernel_rfl) (fun _ _ _ h k => Ext.trans h k) (fun _ => Below.refl _ _) (fun x => (Below.refl x.heap.size x).drew) (MPat.mono _) (by kernel_rfl) ?obs ?rest
        case obs =>
          refine ⟨?_, ?_, ?_, ?_, ?_, ?_, trivial⟩
          · intro ev W hf _ _ hst hd
            have e0 : ev (.tmp 0) = .slice (some ⟨b, o, none⟩) n cap := hf 0 (by kernel_rfl)
            refine st_value (v := .slice (some ⟨b, o, none⟩) n cap) ?_ (Below.refl _ _) ?_
            · simp [execOp, go_sem, e0]
            · exact rfl
          · intro ev W hf _ _ hst hd
            have e4 : ev (.tmp 4) = .int .i64 ((i : Int) + 1) := hf 4 (by kernel_rfl)
            refine st_value (v := .int .i64 ((i : Int) + 1)) ?_ (Below.refl _ _) ?_
            · simp [execOp, go_sem, e4]
            · exact rfl
          · intro ev W hf _ _ hst hd
            obtain ⟨d22, d23, _⟩ := hd
            have e22 : ev (.tmp 22) = .slice (some ⟨b, o, none⟩) n cap := d22
            have e23 : ev (.tmp 23) = .int .i64 ((i : Int) + 1) := d23
            refine st_value (v := .pointer (some ⟨b, o + (i + 1) * 2, none⟩)) ?_ (Below.refl _ _) ?_
            · simp [execOp, go_sem, e22, e23, hi1a, hi1b]
            · exact rfl
          · intro ev W hf _ _ hst hd
            obtain ⟨d24, _⟩ := hd
            have e24 : ev (.tmp 24) = .pointer (some ⟨b, o + (i + 1) * 2, none⟩) := d24
            have q0 := Ext.cell hst C1.out
            have q1 := Ext.cell hst C2.out
            refine st_value (v := vecV qx qy) ?_ (Below.refl _ _) ?_
            · simp [execOp, go_sem, e24, q0, q1, vecV]
            · exact rfl
          · intro ev W hf _ _ hst hd
            have e3 : ev (.tmp 3) = .pointer (some ⟨g, 0, none⟩) := hf 3 (by kernel_rfl)
            have q0 := VRow.cell (VRow.ext HV.out hst) (k := 0) rfl
            have q1 := VRow.cell (VRow.ext HV.out hst) (k := 1) rfl
            refine st_value (v := vecV lx ly) ?_ (Below.refl _ _) ?_
            · simp [execOp, go_sem, e3, q0, q1, vecV]
            · exact rfl
          · intro ev W hf _ hfn hst hd
            obtain ⟨d25, d26, _⟩ := hd
            have e25 : ev (.tmp 25) = vecV qx qy := d25
            have e26 : ev (.tmp 26) = vecV lx ly := d26
            refine st_call (f := 49) (args := #[vecV qx qy, vecV lx ly]) (by simp [execOp, go_sem, hfn, e25, e26]) (HLW.out W) (fun _ _ => rfl)
        case rest =>
          intro vs w3 hl hst hg
          have HE3 := Lib.hid hst
          have hvs : vs = [.slice (some ⟨b, o, none⟩) n cap, .int .i64 ((i : Int) + 1), .pointer (some ⟨b, o + (i + 1) * 2, none⟩), vecV qx qy, vecV lx ly, .bool true] := list_of hl (fun i u hu => by
            match i, hu with
            | 0, hu => exact (congrArg some (hg 0 u hu)).symm
            | 1, hu => exact (congrArg some (hg 1 u hu)).symm
            | 2, hu => exact (congrArg some (hg 2 u hu)).symm
            | 3, hu => exact (congrArg some (hg 3 u hu)).symm
            | 4, hu => exact (congrArg some (hg 4 u hu)).symm
            | 5, hu => exact (congrArg some (hg 5 u hu)).symm
            | n + 6, hu => exact absurd (lt_len hu) (by rw [hl]; simp))
          clear hg hst hl
          subst hvs
          simp only [putAll, Act.put, List.dropLast, List.setIfInBounds_toArray, List.set_cons_zero, List.set_cons_succ]
          have HE4 := Lib.hid (Ext.trans HE.out HE3.out)
          have c1 := Ext.cell HE3.out C1.out
          have c2 := Ext.cell HE3.out C2.out
          have k1 := cell_lt c1
          have HVx := Lib.hid (VRow.ext HV.out HE3.out)
          have n0 := VRow.cell HVx.out (k := 0) rfl
          have n1 := VRow.cell HVx.out (k := 1) rfl
          have f0 := VRow.frozen HVx.out 0 none
          have f1 := VRow.frozen HVx.out 1 none
          have HP := Lib.hid (vec_put HE4.out HVx.out (Nat.le_of_eq HG.out.symm) (.int .i64 qx) (.int .i64 qy))
          clear HE3
          go_wp2_with fail
          exact ⟨⟨i + 1, by simp, by omega, by rw [HS.out.1, HS.out.2]; exact HP.out.1, HP.out.2⟩, by simp [intOf]; omega⟩
      | false =>
        have hnl : ¬ (q.2 < l.2 ∨ (q.2 = l.2 ∧ q.1 < l.1)) := fun h => by
          have h2 : lowB q.1 q.2 l.1 l.2 = true := by simpa [lowB] using h
          rw [hlb] at h2
          cases h2
        have HS := Lib.hid (show (lowK ps (i + 1)).1 = l.1 ∧ (lowK ps (i + 1)).2 = l.2 from by rw [HLS.out, if_neg hnl]; exact ⟨rfl, rfl⟩)
        clear hnl
        rw [hlb] at HLW
        clear hlb HLS
        generalize q.1 = qx at *
        generalize q.2 = qy at *
        generalize l.1 = lx at *
        generalize l.2 = ly at *
        go_wp2_with fail
        refine wp_region_stable [⟨[], none⟩, ⟨[], none⟩, ⟨[(0, 22), (1, 23)], none⟩, ⟨[(2, 24)], none⟩, ⟨[], none⟩, ⟨[(3, 25), (4, 26)], none⟩] (fun x y => Below x.heap.size x y) (MPat [MP.eq (.slice (some ⟨b, o, none⟩) n cap), MP.eq (.int .i64 ((i : Int) + 1)), MP.eq (.pointer (some ⟨b, o + (i + 1) * 2, none⟩)), MP.eq (vecV qx qy), MP.eq (vecV lx ly), MP.eq (.bool false)]) (by kernel_rfl) (fun _ _ _ h k => Ext.trans h k) (fun _ => Below.refl _ _) (fun x => (Below.refl x.heap.size x).drew) (MPat.mono _) (by kernel_rfl) ?obs ?rest
        case obs =>
          refine ⟨?_, ?_, ?_, ?_, ?_, ?_, trivial⟩
          · intro ev W hf _ _ hst hd
            have e0 : ev (.tmp 0) = .slice (some ⟨b, o, none⟩) n cap := hf 0 (by kernel_rfl)
            refine st_value (v := .slice (some ⟨b, o, none⟩) n cap) ?_ (Below.refl _ _) ?_
            · simp [execOp, go_sem, e0]
            · exact rfl
          · intro ev W hf _ _ hst hd
            have e4 : ev (.tmp 4) = .int .i64 ((i : Int) + 1) := hf 4 (by kernel_rfl)
            refine st_value (v := .int .i64 ((i : Int) + 1)) ?_ (Below.refl _ _) ?_
            · simp [execOp, go_sem, e4]
            · exact rfl
          · intro ev W hf _ _ hst hd
            obtain ⟨d22, d23, _⟩ := hd
            have e22 : ev (.tmp 22) = .slice (some ⟨b, o, none⟩) n cap := d22
            have e23 : ev (.tmp 23) = .int .i64 ((i : Int) + 1) := d23
            refine st_value (v := .pointer (some ⟨b, o + (i + 1) * 2, none⟩)) ?_ (Below.refl _ _) ?_
            · simp [execOp, go_sem, e22, e23, hi1a, hi1b]
            · exact rfl
          · intro ev W hf _ _ hst hd
            obtain ⟨d24, _⟩ := hd
            have e24 : ev (.tmp 24) = .pointer (some ⟨b, o + (i + 1) * 2, none⟩) := d24
            have q0 := Ext.cell hst C1.out
            have q1 := Ext.cell hst C2.out
            refine st_value (v := vecV qx qy) ?_ (Below.refl _ _) ?_
            · simp [execOp, go_sem, e24, q0, q1, vecV]
            · exact rfl
          · intro ev W hf _ _ hst hd
            have e3 : ev (.tmp 3) = .pointer (some ⟨g, 0, none⟩) := hf 3 (by kernel_rfl)
            have q0 := VRow.cell (VRow.ext HV.out hst) (k := 0) rfl
            have q1 := VRow.cell (VRow.ext HV.out hst) (k := 1) rfl
            refine st_value (v := vecV lx ly) ?_ (Below.refl _ _) ?_
            · simp [execOp, go_sem, e3, q0, q1, vecV]
            · exact rfl
          · intro ev W hf _ hfn hst hd
            obtain ⟨d25, d26, _⟩ := hd
            have e25 : ev (.tmp 25) = vecV qx qy := d25
            have e26 : ev (.tmp 26) = vecV lx ly := d26
            refine st_call (f := 49) (args := #[vecV qx qy, vecV lx ly]) (by simp [execOp, go_sem, hfn, e25, e26]) (HLW.out W) (fun _ _ => rfl)
        case rest =>
          intro vs w3 hl hst hg
          have HE3 := Lib.hid hst
          have hvs : vs = [.slice (some ⟨b, o, none⟩) n cap, .int .i64 ((i : Int) + 1), .pointer (some ⟨b, o + (i + 1) * 2, none⟩), vecV qx qy, vecV lx ly, .bool false] := list_of hl (fun i u hu => by
            match i, hu with
            | 0, hu => exact (congrArg some (hg 0 u hu)).symm
            | 1, hu => exact (congrArg some (hg 1 u hu)).symm
            | 2, hu => exact (congrArg some (hg 2 u hu)).symm
            | 3, hu => exact (congrArg some (hg 3 u hu)).symm
            | 4, hu => exact (congrArg some (hg 4 u hu)).symm
            | 5, hu => exact (congrArg some (hg 5 u hu)).symm
            | n + 6, hu => exact absurd (lt_len hu) (by rw [hl]; simp))
          clear hg hst hl
          subst hvs
          simp only [putAll, Act.put, List.dropLast, List.setIfInBounds_toArray, List.set_cons_zero, List.set_cons_succ]
          go_wp2_with fail
          exact ⟨⟨i + 1, by simp, by omega, by rw [HS.out.1, HS.out.2]; exact VRow.ext HV.out HE3.out, Ext.trans HE.out HE3.out⟩, by simp [intOf]; omega⟩
    · have hi1a : ¬ (i : Int) + 1 < (n : Int) := by omega
      have hin : i = n - 1 := by omega
      rw [hin, ← HAL.out] at HV
      clear hin
      have l0 := VRow.cell HV.out (k := 0) rfl
      have l1 := VRow.cell HV.out (k := 1) rfl
      have HEa := Lib.hid (Ext.alloc (Ext.refl wr) (.cells #[.int .i64 a.1, .int .i64 a.2] 32))
      have HVa := Lib.hid (VRow.ext HV.out HEa.out)
      have HOa := Lib.hid (show (wr.alloc (.cells #[.int .i64 a.1, .int .i64 a.2] 32)).ownsRow (g + 1) 32 2 (.slice (some ⟨wr.heap.size, 0, none⟩) 1 1) 1 (cellsOf (wrapL ps a 1)) from
        ⟨rfl, .inr ⟨wr.heap.size, 1, #[.int .i64 a.1, .int .i64 a.2], rfl, by have := HGS.out; omega, (vrow_alloc wr [.int .i64 a.1, .int .i64 a.2] 32), Nat.le_refl _, by unfold maxLen; omega, rfl, rfl⟩⟩)
      go_wp2_with fail
      clear l0 l1
      have HEw := Lib.hid (Ext.trans HE.out HEa.out)
      generalize wr.alloc (.cells #[.int .i64 a.1, .int .i64 a.2] 32) = w1 at *
      go_loopw [5] (fun ov wr => ∃ m : Nat, lenOf ov = m + 1 ∧ m + 1 ≤ n + 1 ∧ wr.ownsRow (g + 1) 32 2 ov (m + 1) (cellsOf (wrapL ps a (m + 1))) ∧ VRow wr g 32 [.int .i64 a.1, .int .i64 a.2] ∧ (∀ k, 1 ≤ k → k < m + 1 → wrapK ps a k ≠ a ∧ wrapK ps a k ≠ wrapK ps a (k - 1)) ∧ Ext w wr) (fun ov _ => n + 5 - lenOf ov)
      case atStart => exact ⟨0, rfl, by omega, HOa.out, HVa.out, fun k h1 h2 => by omega, HEw.out⟩
      case round =>
        clear HV HE HVa HOa HEw HGS
        rename World => wr
        obtain ⟨m, _, hm2, hO, hV, hon, hE⟩ := hrel
        obtain ⟨oa, oc, rfl⟩ := own_slice2 hO
        have HO := Lib.hid hO
        have HV := Lib.hid hV
        have HON := Lib.hid hon
        have HE := Lib.hid hE
        have HGS := Lib.hid (show g < wr.heap.size from VRow.lt hV)
        have hvs := vecs_own (qs := wrapL ps a (m + 1)) (base := g + 1) (by rw [wrapL_len]; exact hO) (by rw [wrapL_len]; omega)
        clear hO hV hon hE
        by_cases hmn : m + 1 ≤ n
        · obtain ⟨ob, oo, oc', hsl, hoc1, hoc2, hcells⟩ := vecs_cells hvs (by rw [wrapL_len]; omega)
          rw [wrapL_len] at hsl hcells hoc1
          simp only [Value.slice.injEq, true_and] at hsl
          obtain ⟨rfl, rfl⟩ := hsl
          obtain ⟨c1, c2⟩ := hcells m (by omega)
          rw [wrapL_at ps a (show m < m + 1 by omega)] at c1 c2
          have k1 := cell_lt c1
          have hatb := HWB.out m
          obtain ⟨at_, hat⟩ : ∃ at_, at_ = wrapK ps a m := ⟨_, rfl⟩
          rw [← hat] at c1 c2 hatb
          have HAT := Lib.hid hat
          have HAB := Lib.hid hatb
          have HNB := Lib.hid (fun (i : Nat) (hi : i ≤ n) => HNB0.out at_ hatb i hi)
          clear hat hvs hcells hatb
          have hmz : (m : Int) + 1 ≤ (n : Int) := by omega
          have HEW := Lib.hid (Ext.alloc (Ext.alloc (Ext.refl wr) (.cells #[.int .i64 at_.1, .int .i64 at_.2] 32)) (.cells #[.int .i64 at_.1, .int .i64 at_.2] 32))
          have hsA : (wr.alloc (.cells #[.int .i64 at_.1, .int .i64 at_.2] 32)).heap.size = wr.heap.size + 1 := by simp
          have VA0 := Lib.hid (show VRow ((wr.alloc (.cells #[.int .i64 at_.1, .int .i64 at_.2] 32)).alloc (.cells #[.int .i64 at_.1, .int .i64 at_.2] 32)) wr.heap.size 32 [.int .i64 at_.1, .int .i64 at_.2] from (vrow_alloc wr [.int .i64 at_.1, .int .i64 at_.2] 32).alloc _)
          have VN0 := Lib.hid (show VRow ((wr.alloc (.cells #[.int .i64 at_.1, .int .i64 at_.2] 32)).alloc (.cells #[.int .i64 at_.1, .int .i64 at_.2] 32)) (wr.heap.size + 1) 32 [.int .i64 (nextK ps at_ 0).1, .int .i64 (nextK ps at_ 0).2] from by
            have h := vrow_alloc (wr.alloc (.cells #[.int .i64 at_.1, .int .i64 at_.2] 32)) [.int .i64 at_.1, .int .i64 at_.2] 32
            rw [hsA] at h
            exact h)
          have b0 := VRow.cell (vrow_alloc wr [.int .i64 at_.1, .int .i64 at_.2] 32) (k := 0) rfl
          have b1 := VRow.cell (vrow_alloc wr [.int .i64 at_.1, .int .i64 at_.2] 32) (k := 1) rfl
          go_wp2_with fail
          clear c1 c2 k1 b0 b1 hsA
          obtain ⟨A, hA⟩ : ∃ A, A = wr.heap.size := ⟨_, rfl⟩
          obtain ⟨N, hNn⟩ : ∃ N, N = A + 1 := ⟨_, rfl⟩
          rw [← hA] at VA0 VN0 ⊢
          rw [← hNn] at VN0 ⊢
          have HWN := Lib.hid (show wr.heap.size ≤ N by omega)
          have HAN := Lib.hid (show A ≠ N by omega)
          clear hA hNn
          generalize (wr.alloc (.cells #[.int .i64 at_.1, .int .i64 at_.2] 32)).alloc (.cells #[.int .i64 at_.1, .int .i64 at_.2] 32) = w2 at *
          go_loopw [8] (fun iv wq => ∃ i : Nat, iv = .int .i64 (i : Int) ∧ i ≤ n ∧ VRow wq N 32 [.int .i64 (nextK ps at_ i).1, .int .i64 (nextK ps at_ i).2] ∧ VRow wq A 32 [.int .i64 at_.1, .int .i64 at_.2] ∧ Ext wr wq) (fun iv _ => n - (intOf iv).toNat)
          case atStart => exact ⟨0, rfl, Nat.zero_le _, VN0.out, VA0.out, HEW.out⟩
          case round =>
            rename World => wq
            obtain ⟨i, rfl, hi, hVN, hVA, hE⟩ := hrel
            have VN := Lib.hid hVN
            have VA := Lib.hid hVA
            have HEq := Lib.hid hE
            clear hVN hVA hE
            by_cases hil : i < n
            · have hilz : (i : Int) < (n : Int) := by omega
              obtain ⟨c1, c2⟩ := HC.out i hil
              have C1 := Lib.hid (Ext.cell (Ext.trans HE.out HEq.out) c1)
              have C2 := Lib.hid (Ext.cell (Ext.trans HE.out HEq.out) c2)
              have hqb := HPB.out i hil
              have hnb := HNB.out i hi
              have hatb := HAB.out
              have HST := Lib.hid (show nextK ps at_ (i + 1) = stepN at_ (nextK ps at_ i) (fromP ps i) from rfl)
              have HTW := Lib.hid (fun W => twice_c at_.1 at_.2 (nextK ps at_ i).1 (nextK ps at_ i).2 (fromP ps i).1 (fromP ps i).2 W (by omega) (by omega) (by omega) (by omega) (by omega) (by omega))
              have HF1 := Lib.hid (fun W => rfar_c at_.1 at_.2 (fromP ps i).1 (fromP ps i).2 W (by omega) (by omega) (by omega) (by omega))
              have HF2 := Lib.hid (fun W => rfar_c at_.1 at_.2 (nextK ps at_ i).1 (nextK ps at_ i).2 W (by omega) (by omega) (by omega) (by omega))
              obtain ⟨q, hq⟩ : ∃ q, q = fromP ps i := ⟨_, rfl⟩
              obtain ⟨nx, hnx⟩ : ∃ nx, nx = nextK ps at_ i := ⟨_, rfl⟩
              rw [← hq] at C1 C2 HST HTW HF1
              rw [← hnx] at VN HST HTW HF2
              obtain ⟨T, hT⟩ : ∃ T, T = triP at_ nx q := ⟨_, rfl⟩
              obtain ⟨F1, hF1⟩ : ∃ F, F = farZ at_ q := ⟨_, rfl⟩
              obtain ⟨F2, hF2⟩ : ∃ F, F = farZ at_ nx := ⟨_, rfl⟩
              rw [twi_tri, ← hT] at HTW
              have HF1 := Lib.hid (fun W => (show Calls Try.prog 78 #[vecV at_.1 at_.2, vecV q.1 q.2] W fun e w' => e = .returned (.int .i64 F1) ∧ Ext W w' from by rw [hF1]; exact HF1.out W))
              have HF2 := Lib.hid (fun W => (show Calls Try.prog 78 #[vecV at_.1 at_.2, vecV nx.1 nx.2] W fun e w' => e = .returned (.int .i64 F2) ∧ Ext W w' from by rw [hF2]; exact HF2.out W))
              unfold stepN at HST
              rw [← hT, ← hF1, ← hF2] at HST
              clear hq hnx hT hF1 hF2 c1 c2 hqb hnb
              by_cases hqa : q = at_
              · have HS := Lib.hid (show (nextK ps at_ (i + 1)).1 = nx.1 ∧ (nextK ps at_ (i + 1)).2 = nx.2 from by rw [HST.out, if_pos hqa]; exact ⟨rfl, rfl⟩)
                have HQA := Lib.hid (show ∀ W, Sem.run Try.prog (binOp .eql 32 (.agg #[.int .i64 q.1, .int .i64 q.2]) (.agg #[.int .i64 at_.1, .int .i64 at_.2])) W = .ok (.bool true) W from fun W => by rw [hqa]; exact veq_t _ _ W)
                clear hqa
                generalize q.1 = qx at *
                generalize q.2 = qy at *
                generalize nx.1 = nxx at *
                generalize nx.2 = nxy at *
                generalize at_.1 = ax at *
                generalize at_.2 = ay at *
                go_wp2_with fail
                refine wp_region_stable [⟨[], none⟩, ⟨[], none⟩, ⟨[(0, 52), (1, 53)], none⟩, ⟨[(2, 54)], none⟩, ⟨[], none⟩, ⟨[(3, 55), (4, 56)], none⟩] (fun x y => Below x.heap.size x y) (MPat [MP.eq (.slice (some ⟨b, o, none⟩) n cap), MP.eq (.int .i64 (i : Int)), MP.eq (.pointer (some ⟨b, o + i * 2, none⟩)), MP.eq (vecV qx qy), MP.eq (vecV ax ay), MP.eq (.bool true)]) (by kernel_rfl) (fun _ _ _ h k => Ext.trans h k) (fun _ => Below.refl _ _) (fun x => (Below.refl x.heap.size x).drew) (MPat.mono _) (by kernel_rfl) ?obs ?rest
                case obs =>
                  refine ⟨?_, ?_, ?_, ?_, ?_, ?_, trivial⟩
                  · intro ev W hf _ _ hst hd
                    have e0 : ev (.tmp 0) = .slice (some ⟨b, o, none⟩) n cap := hf 0 (by kernel_rfl)
                    refine st_value (v := .slice (some ⟨b, o, none⟩) n cap) ?_ (Below.refl _ _) ?_
                    · simp [execOp, go_sem, e0]
                    · exact rfl
                  · intro ev W hf _ _ hst hd
                    have e8 : ev (.tmp 8) = .int .i64 (i : Int) := hf 8 (by kernel_rfl)
                    refine st_value (v := .int .i64 (i : Int)) ?_ (Below.refl _ _) ?_
                    · simp [execOp, go_sem, e8]
                    · exact rfl
                  · intro ev W hf _ _ hst hd
                    obtain ⟨d52, d53, _⟩ := hd
                    have e52 : ev (.tmp 52) = .slice (some ⟨b, o, none⟩) n cap := d52
                    have e53 : ev (.tmp 53) = .int .i64 (i : Int) := d53
                    refine st_value (v := .pointer (some ⟨b, o + i * 2, none⟩)) ?_ (Below.refl _ _) ?_
                    · simp [execOp, go_sem, e52, e53, hil]
                    · exact rfl
                  · intro ev W hf _ _ hst hd
                    obtain ⟨d54, _⟩ := hd
                    have e54 : ev (.tmp 54) = .pointer (some ⟨b, o + i * 2, none⟩) := d54
                    have q0 := Ext.cell hst C1.out
                    have q1 := Ext.cell hst C2.out
                    refine st_value (v := vecV qx qy) ?_ (Below.refl _ _) ?_
                    · simp [execOp, go_sem, e54, q0, q1, vecV]
                    · exact rfl
                  · intro ev W hf _ _ hst hd
                    have e6 : ev (.tmp 6) = .pointer (some ⟨A, 0, none⟩) := hf 6 (by kernel_rfl)
                    have q0 := VRow.cell (VRow.ext VA.out hst) (k := 0) rfl
                    have q1 := VRow.cell (VRow.ext VA.out hst) (k := 1) rfl
                    refine st_value (v := vecV ax ay) ?_ (Below.refl _ _) ?_
                    · simp [execOp, go_sem, e6, q0, q1, vecV]
                    · exact rfl
                  · intro ev W hf _ _ hst hd
                    obtain ⟨d55, d56, _⟩ := hd
                    have e55 : ev (.tmp 55) = vecV qx qy := d55
                    have e56 : ev (.tmp 56) = vecV ax ay := d56
                    refine st_value (v := .bool true) ?_ (Below.refl _ _) ?_
                    · simp [execOp, go_sem, e55, e56, HQA.out, vecV]
                    · exact rfl
                case rest =>
                  intro vs w3 hl hst hg
                  have HE3 := Lib.hid hst
                  have hvs : vs = [.slice (some ⟨b, o, none⟩) n cap, .int .i64 (i : Int), .pointer (some ⟨b, o + i * 2, none⟩), vecV qx qy, vecV ax ay, .bool true] := list_of hl (fun i u hu => by
                    match i, hu with
                    | 0, hu => exact (congrArg some (hg 0 u hu)).symm
                    | 1, hu => exact (congrArg some (hg 1 u hu)).symm
                    | 2, hu => exact (congrArg some (hg 2 u hu)).symm
                    | 3, hu => exact (congrArg some (hg 3 u hu)).symm
                    | 4, hu => exact (congrArg some (hg 4 u hu)).symm
                    | 5, hu => exact (congrArg some (hg 5 u hu)).symm
                    | n + 6, hu => exact absurd (lt_len hu) (by rw [hl]; simp))
                  clear hg hst hl
                  subst hvs
                  simp only [putAll, Act.put, List.dropLast, List.setIfInBounds_toArray, List.set_cons_zero, List.set_cons_succ]
                  have C1 := Lib.hid (Ext.cell HE3.out C1.out)
                  have C2 := Lib.hid (Ext.cell HE3.out C2.out)
                  have VN := Lib.hid (VRow.ext VN.out HE3.out)
                  have VA := Lib.hid (VRow.ext VA.out HE3.out)
                  have HEq := Lib.hid (Ext.trans HEq.out HE3.out)
                  clear HE3
                  go_wp2_with fail
                  exact ⟨⟨i + 1, by simp, by omega, by rw [HS.out.1, HS.out.2]; exact VN.out, VA.out, HEq.out⟩, by simp [intOf]; omega⟩
              · have HS0 := Lib.hid (show nextK ps at_ (i + 1) = if nx = at_ ∨ T < 0 ∨ (T = 0 ∧ F2 < F1) then q else nx from by rw [HST.out, if_neg hqa])
                have HQA := Lib.hid (fun W => veq_f q.1 q.2 at_.1 at_.2 (pt_ne hqa) W)
                clear hqa
                by_cases hna : nx = at_
                · have HS := Lib.hid (show (nextK ps at_ (i + 1)).1 = q.1 ∧ (nextK ps at_ (i + 1)).2 = q.2 from by rw [HS0.out, if_pos (.inl hna)]; exact ⟨rfl, rfl⟩)
                  have HNA := Lib.hid (fun W => (show Sem.run Try.prog (binOp .eql 32 (.agg #[.int .i64 nx.1, .int .i64 nx.2]) (.agg #[.int .i64 at_.1, .int .i64 at_.2])) W = .ok (.bool true) W from by rw [hna]; exact veq_t _ _ W))
                  clear hna HS0
                  generalize q.1 = qx at *
                  generalize q.2 = qy at *
                  generalize nx.1 = nxx at *
                  generalize nx.2 = nxy at *
                  generalize at_.1 = ax at *
                  generalize at_.2 = ay at *
                  go_wp2_with fail
                  refine wp_region_stable [⟨[], none⟩, ⟨[], none⟩, ⟨[(0, 52), (1, 53)], none⟩, ⟨[(2, 54)], none⟩, ⟨[], none⟩, ⟨[(3, 55), (4, 56)], none⟩] (fun x y => Below x.heap.size x y) (MPat [MP.eq (.slice (some ⟨b, o, none⟩) n cap), MP.eq (.int .i64 (i : Int)), MP.eq (.pointer (some ⟨b, o + i * 2, none⟩)), MP.eq (vecV qx qy), MP.eq (vecV ax ay), MP.eq (.bool false)]) (by kernel_rfl) (fun _ _ _ h k => Ext.trans h k) (fun _ => Below.refl _ _) (fun x => (Below.refl x.heap.size x).drew) (MPat.mono _) (by kernel_rfl) ?obs ?rest
                  case obs =>
                    refine ⟨?_, ?_, ?_, ?_, ?_, ?_, trivial⟩
                    · intro ev W hf _ _ hst hd
                      have e0 : ev (.tmp 0) = .slice (some ⟨b, o, none⟩) n cap := hf 0 (by kernel_rfl)
                      refine st_value (v := .slice (some ⟨b, o, none⟩) n cap) ?_ (Below.refl _ _) ?_
                      · simp [execOp, go_sem, e0]
                      · exact rfl
                    · intro ev W hf _ _ hst hd
                      have e8 : ev (.tmp 8) = .int .i64 (i : Int) := hf 8 (by kernel_rfl)
                      refine st_value (v := .int .i64 (i : Int)) ?_ (Below.refl _ _) ?_
                      · simp [execOp, go_sem, e8]
                      · exact rfl
                    · intro ev W hf _ _ hst hd
                      obtain ⟨d52, d53, _⟩ := hd
                      have e52 : ev (.tmp 52) = .slice (some ⟨b, o, none⟩) n cap := d52
                      have e53 : ev (.tmp 53) = .int .i64 (i : Int) := d53
                      refine st_value (v := .pointer (some ⟨b, o + i * 2, none⟩)) ?_ (Below.refl _ _) ?_
                      · simp [execOp, go_sem, e52, e53, hil]
                      · exact rfl
                    · intro ev W hf _ _ hst hd
                      obtain ⟨d54, _⟩ := hd
                      have e54 : ev (.tmp 54) = .pointer (some ⟨b, o + i * 2, none⟩) := d54
                      have q0 := Ext.cell hst C1.out
                      have q1 := Ext.cell hst C2.out
                      refine st_value (v := vecV qx qy) ?_ (Below.refl _ _) ?_
                      · simp [execOp, go_sem, e54, q0, q1, vecV]
                      · exact rfl
                    · intro ev W hf _ _ hst hd
                      have e6 : ev (.tmp 6) = .pointer (some ⟨A, 0, none⟩) := hf 6 (by kernel_rfl)
                      have q0 := VRow.cell (VRow.ext VA.out hst) (k := 0) rfl
                      have q1 := VRow.cell (VRow.ext VA.out hst) (k := 1) rfl
                      refine st_value (v := vecV ax ay) ?_ (Below.refl _ _) ?_
                      · simp [execOp, go_sem, e6, q0, q1, vecV]
                      · exact rfl
                    · intro ev W hf _ _ hst hd
                      obtain ⟨d55, d56, _⟩ := hd
                      have e55 : ev (.tmp 55) = vecV qx qy := d55
                      have e56 : ev (.tmp 56) = vecV ax ay := d56
                      refine st_value (v := .bool false) ?_ (Below.refl _ _) ?_
                      · simp [execOp, go_sem, e55, e56, HQA.out, vecV]
                      · exact rfl
                  case rest =>
                    intro vs w3 hl hst hg
                    have HE3 := Lib.hid hst
                    have hvs : vs = [.slice (some ⟨b, o, none⟩) n cap, .int .i64 (i : Int), .pointer (some ⟨b, o + i * 2, none⟩), vecV qx qy, vecV ax ay, .bool false] := list_of hl (fun i u hu => by
                      match i, hu with
                      | 0, hu => exact (congrArg some (hg 0 u hu)).symm
                      | 1, hu => exact (congrArg some (hg 1 u hu)).symm
                      | 2, hu => exact (congrArg some (hg 2 u hu)).symm
                      | 3, hu => exact (congrArg some (hg 3 u hu)).symm
                      | 4, hu => exact (congrArg some (hg 4 u hu)).symm
                      | 5, hu => exact (congrArg some (hg 5 u hu)).symm
                      | n + 6, hu => exact absurd (lt_len hu) (by rw [hl]; simp))
                    clear hg hst hl
                    subst hvs
                    simp only [putAll, Act.put, List.dropLast, List.setIfInBounds_toArray, List.set_cons_zero, List.set_cons_succ]
                    have C1 := Lib.hid (Ext.cell HE3.out C1.out)
                    have C2 := Lib.hid (Ext.cell HE3.out C2.out)
                    have VN := Lib.hid (VRow.ext VN.out HE3.out)
                    have VA := Lib.hid (VRow.ext VA.out HE3.out)
                    have HEq := Lib.hid (Ext.trans HEq.out HE3.out)
                    clear HE3
                    go_wp2_with fail
                    refine wp_region_stable_last [⟨[], none⟩, ⟨[], none⟩, ⟨[], none⟩, ⟨[], none⟩, ⟨[(2, 60), (3, 61)], none⟩, ⟨[(4, 62)], none⟩, ⟨[(0, 58), (1, 59), (5, 63)], none⟩] (fun x y => Below x.heap.size x y) (MPat [MP.eq (vecV ax ay), MP.eq (vecV nxx nxy), MP.eq (.slice (some ⟨b, o, none⟩) n cap), MP.eq (.int .i64 (i : Int)), MP.eq (.pointer (some ⟨b, o + i * 2, none⟩)), MP.eq (vecV qx qy), MP.eq (.int .i64 T)]) rfl (by kernel_rfl) (fun _ _ _ h k => Ext.trans h k) (fun _ => Below.refl _ _) (fun x => (Below.refl x.heap.size x).drew) (MPat.mono _) (by kernel_rfl) (by kernel_rfl) (by kernel_rfl) ?obs ?rest
                    case obs =>
                      refine ⟨?_, ?_, ?_, ?_, ?_, ?_, ?_, trivial⟩
                      · intro ev W hf _ _ hst hd
                        have e6 : ev (.tmp 6) = .pointer (some ⟨A, 0, none⟩) := hf 6 (by kernel_rfl)
                        have q0 := VRow.cell (VRow.ext VA.out hst) (k := 0) rfl
                        have q1 := VRow.cell (VRow.ext VA.out hst) (k := 1) rfl
                        refine st_value (v := vecV ax ay) ?_ (Below.refl _ _) ?_
                        · simp [execOp, go_sem, e6, q0, q1, vecV]
                        · exact rfl
                      · intro ev W hf _ _ hst hd
                        have e7 : ev (.tmp 7) = .pointer (some ⟨N, 0, none⟩) := hf 7 (by kernel_rfl)
                        have q0 := VRow.cell (VRow.ext VN.out hst) (k := 0) rfl
                        have q1 := VRow.cell (VRow.ext VN.out hst) (k := 1) rfl
                        refine st_value (v := vecV nxx nxy) ?_ (Below.refl _ _) ?_
                        · simp [execOp, go_sem, e7, q0, q1, vecV]
                        · exact rfl
                      · intro ev W hf _ _ hst hd
                        have e0 : ev (.tmp 0) = .slice (some ⟨b, o, none⟩) n cap := hf 0 (by kernel_rfl)
                        refine st_value (v := .slice (some ⟨b, o, none⟩) n cap) ?_ (Below.refl _ _) ?_
                        · simp [execOp, go_sem, e0]
                        · exact rfl
                      · intro ev W hf _ _ hst hd
                        have e8 : ev (.tmp 8) = .int .i64 (i : Int) := hf 8 (by kernel_rfl)
                        refine st_value (v := .int .i64 (i : Int)) ?_ (Below.refl _ _) ?_
                        · simp [execOp, go_sem, e8]
                        · exact rfl
                      · intro ev W hf _ _ hst hd
                        obtain ⟨d60, d61, _⟩ := hd
                        have e60 : ev (.tmp 60) = .slice (some ⟨b, o, none⟩) n cap := d60
                        have e61 : ev (.tmp 61) = .int .i64 (i : Int) := d61
                        refine st_value (v := .pointer (some ⟨b, o + i * 2, none⟩)) ?_ (Below.refl _ _) ?_
                        · simp [execOp, go_sem, e60, e61, hil]
                        · exact rfl
                      · intro ev W hf _ _ hst hd
                        obtain ⟨d62, _⟩ := hd
                        have e62 : ev (.tmp 62) = .pointer (some ⟨b, o + i * 2, none⟩) := d62
                        have q0 := Ext.cell hst C1.out
                        have q1 := Ext.cell hst C2.out
                        refine st_value (v := vecV qx qy) ?_ (Below.refl _ _) ?_
                        · simp [execOp, go_sem, e62, q0, q1, vecV]
                        · exact rfl
                      · intro ev W hf _ hfn hst hd
                        obtain ⟨d58, d59, d63, _⟩ := hd
                        have e58 : ev (.tmp 58) = vecV ax ay := d58
                        have e59 : ev (.tmp 59) = vecV nxx nxy := d59
                        have e63 : ev (.tmp 63) = vecV qx qy := d63
                        refine st_call (f := 50) (args := #[vecV ax ay, vecV nxx nxy, vecV qx qy]) (by simp [execOp, go_sem, hfn, e58, e59, e63]) (HTW.out W) (fun _ _ => rfl)
                    case rest =>
                      intro vs w3 hl hst hg
                      have HE3 := Lib.hid hst
                      have hvs : vs = [vecV ax ay, vecV nxx nxy, .slice (some ⟨b, o, none⟩) n cap, .int .i64 (i : Int), .pointer (some ⟨b, o + i * 2, none⟩), vecV qx qy, .int .i64 T] := list_of hl (fun i u hu => by
                        match i, hu with
                        | 0, hu => exact (congrArg some (hg 0 u hu)).symm
                        | 1, hu => exact (congrArg some (hg 1 u hu)).symm
                        | 2, hu => exact (congrArg some (hg 2 u hu)).symm
                        | 3, hu => exact (congrArg some (hg 3 u hu)).symm
                        | 4, hu => exact (congrArg some (hg 4 u hu)).symm
                        | 5, hu => exact (congrArg some (hg 5 u hu)).symm
                        | 6, hu => exact (congrArg some (hg 6 u hu)).symm
                        | n + 7, hu => exact absurd (lt_len hu) (by rw [hl]; simp))
                      clear hg hst hl
                      subst hvs
                      simp only [putAll, Act.put, List.dropLast, List.setIfInBounds_toArray, List.set_cons_zero, List.set_cons_succ]
                      have C1 := Lib.hid (Ext.cell HE3.out C1.out)
                      have C2 := Lib.hid (Ext.cell HE3.out C2.out)
                      have VN := Lib.hid (VRow.ext VN.out HE3.out)
                      have VA := Lib.hid (VRow.ext VA.out HE3.out)
                      have HEq := Lib.hid (Ext.trans HEq.out HE3.out)
                      clear HE3
                      go_wp2_with fail
                      refine wp_region_stable [⟨[], none⟩, ⟨[], none⟩, ⟨[(0, 65), (1, 66)], none⟩, ⟨[(2, 67)], none⟩, ⟨[(3, 68)], some (68, false)⟩, ⟨[(4, 69), (3, 68)], some (68, false)⟩, ⟨[(3, 68), (5, 70)], none⟩, ⟨[(6, 71)], none⟩, ⟨[(7, 72)], some (72, false)⟩, ⟨[(8, 73), (7, 72)], some (72, false)⟩, ⟨[(9, 74), (7, 72)], some (72, false)⟩, ⟨[(10, 75)], some (75, true)⟩, ⟨[(10, 75)], some (75, true)⟩, ⟨[(10, 75)], some (75, true)⟩, ⟨[(12, 77), (13, 78), (10, 75)], some (75, true)⟩, ⟨[(14, 79), (10, 75)], some (75, true)⟩, ⟨[(11, 76), (15, 80), (10, 75)], some (75, true)⟩, ⟨[(10, 75)], some (75, true)⟩, ⟨[(10, 75)], some (75, true)⟩, ⟨[(17, 82), (18, 83), (10, 75)], some (75, true)⟩, ⟨[(16, 81), (19, 84), (10, 75)], some (75, true)⟩, ⟨[(10, 75), (20, 85), (7, 72)], some (72, false)⟩, ⟨[(7, 72), (21, 86)], none⟩] (fun x y => Below x.heap.size x y) (MPat [MP.eq (vecV nxx nxy), MP.eq (vecV ax ay), MP.eq (.bool true), MP.eq (.bool true), MP.eq (undef), MP.eq (undef), MP.eq (.bool true), MP.eq (.bool true), MP.eq (undef), MP.eq (undef), MP.eq (undef), MP.eq (undef), MP.eq (undef), MP.eq (undef), MP.eq (undef), MP.eq (undef), MP.eq (undef), MP.eq (undef), MP.eq (undef), MP.eq (undef), MP.eq (undef), MP.eq (undef), MP.eq (.bool true)]) (by kernel_rfl) (fun _ _ _ h k => Ext.trans h k) (fun _ => Below.refl _ _) (fun x => (Below.refl x.heap.size x).drew) (MPat.mono _) (by kernel_rfl) ?obs ?rest
                      case obs =>
                        refine ⟨?_, ?_, ?_, ?_, ?_, ?_, ?_, ?_, ?_, ?_, ?_, ?_, ?_, ?_, ?_, ?_, ?_, ?_, ?_, ?_, ?_, ?_, ?_, trivial⟩
                        · intro ev W hf _ _ hst hd
                          have e7 : ev (.tmp 7) = .pointer (some ⟨N, 0, none⟩) := hf 7 (by kernel_rfl)
                          have q0 := VRow.cell (VRow.ext VN.out hst) (k := 0) rfl
                          have q1 := VRow.cell (VRow.ext VN.out hst) (k := 1) rfl
                          refine st_value (v := vecV nxx nxy) ?_ (Below.refl _ _) ?_
                          · simp [execOp, go_sem, e7, q0, q1, vecV]
                          · exact rfl
                        · intro ev W hf _ _ hst hd
                          have e6 : ev (.tmp 6) = .pointer (some ⟨A, 0, none⟩) := hf 6 (by kernel_rfl)
                          have q0 := VRow.cell (VRow.ext VA.out hst) (k := 0) rfl
                          have q1 := VRow.cell (VRow.ext VA.out hst) (k := 1) rfl
                          refine st_value (v := vecV ax ay) ?_ (Below.refl _ _) ?_
                          · simp [execOp, go_sem, e6, q0, q1, vecV]
                          · exact rfl
                        · intro ev W hf _ _ hst hd
                          obtain ⟨d65, d66, _⟩ := hd
                          have e65 : ev (.tmp 65) = vecV nxx nxy := d65
                          have e66 : ev (.tmp 66) = vecV ax ay := d66
                          refine st_value (v := .bool true) ?_ (Below.refl _ _) ?_
                          · simp [execOp, go_sem, e65, e66, HNA.out, vecV]
                          · exact rfl
                        · intro ev W hf _ _ hst hd
                          obtain ⟨d67, _⟩ := hd
                          have e67 : ev (.tmp 67) = .bool true := d67
                          refine st_value (v := .bool true) ?_ (Below.refl _ _) ?_
                          · simp [execOp, go_sem, e67]
                          · exact rfl
                        · intro ev W hf _ _ hst hd
                          obtain ⟨d68, _⟩ := hd
                          have e68 : ev (.tmp 68) = .bool true := d68
                          refine ⟨fun hh => ?_, fun _ => rfl⟩
                          rw [e68] at hh
                          simp at hh
                        · intro ev W hf _ _ hst hd
                          obtain ⟨d69, d68, _⟩ := hd
                          have e68 : ev (.tmp 68) = .bool true := d68
                          refine ⟨fun hh => ?_, fun _ => rfl⟩
                          rw [e68] at hh
                          simp at hh
                        · intro ev W hf hcst _ hst hd
                          obtain ⟨d68, d70, _⟩ := hd
                          have e68 : ev (.tmp 68) = .bool true := d68
                          have e70 : ev (.tmp 70) = undef := d70
                          refine st_value (v := .bool true) ?_ (Below.refl _ _) ?_
                          · simp [execOp, go_sem, e68, e70, hcst]
                          · exact rfl
                        · intro ev W hf _ _ hst hd
                          obtain ⟨d71, _⟩ := hd
                          have e71 : ev (.tmp 71) = .bool true := d71
                          refine st_value (v := .bool true) ?_ (Below.refl _ _) ?_
                          · simp [execOp, go_sem, e71]
                          · exact rfl
                        · intro ev W hf _ _ hst hd
                          obtain ⟨d72, _⟩ := hd
                          have e72 : ev (.tmp 72) = .bool true := d72
                          refine ⟨fun hh => ?_, fun _ => rfl⟩
                          rw [e72] at hh
                          simp at hh
                        · intro ev W hf _ _ hst hd
                          obtain ⟨d73, d72, _⟩ := hd
                          have e72 : ev (.tmp 72) = .bool true := d72
                          refine ⟨fun hh => ?_, fun _ => rfl⟩
                          rw [e72] at hh
                          simp at hh
                        · intro ev W hf _ _ hst hd
                          obtain ⟨d74, d72, _⟩ := hd
                          have e72 : ev (.tmp 72) = .bool true := d72
                          refine ⟨fun hh => ?_, fun _ => rfl⟩
                          rw [e72] at hh
                          simp at hh
                        · intro ev W hf _ _ hst hd
                          obtain ⟨d75, _⟩ := hd
                          have e75 : ev (.tmp 75) = undef := d75
                          refine ⟨fun hh => ?_, fun _ => rfl⟩
                          rw [e75] at hh
                          cases hh
                        · intro ev W hf _ _ hst hd
                          obtain ⟨d75, _⟩ := hd
                          have e75 : ev (.tmp 75) = undef := d75
                          refine ⟨fun hh => ?_, fun _ => rfl⟩
                          rw [e75] at hh
                          cases hh
                        · intro ev W hf _ _ hst hd
                          obtain ⟨d75, _⟩ := hd
                          have e75 : ev (.tmp 75) = undef := d75
                          refine ⟨fun hh => ?_, fun _ => rfl⟩
                          rw [e75] at hh
                          cases hh
                        · intro ev W hf _ _ hst hd
                          obtain ⟨d77, d78, d75, _⟩ := hd
                          have e75 : ev (.tmp 75) = undef := d75
                          refine ⟨fun hh => ?_, fun _ => rfl⟩
                          rw [e75] at hh
                          cases hh
                        · intro ev W hf _ _ hst hd
                          obtain ⟨d79, d75, _⟩ := hd
                          have e75 : ev (.tmp 75) = undef := d75
                          refine ⟨fun hh => ?_, fun _ => rfl⟩
                          rw [e75] at hh
                          cases hh
                        · intro ev W hf _ _ hst hd
                          obtain ⟨d76, d80, d75, _⟩ := hd
                          have e75 : ev (.tmp 75) = undef := d75
                          refine ⟨fun hh => ?_, fun _ => rfl⟩
                          rw [e75] at hh
                          cases hh
                        · intro ev W hf _ _ hst hd
                          obtain ⟨d75, _⟩ := hd
                          have e75 : ev (.tmp 75) = undef := d75
                          refine ⟨fun hh => ?_, fun _ => rfl⟩
                          rw [e75] at hh
                          cases hh
                        · intro ev W hf _ _ hst hd
                          obtain ⟨d75, _⟩ := hd
                          have e75 : ev (.tmp 75) = undef := d75
                          refine ⟨fun hh => ?_, fun _ => rfl⟩
                          rw [e75] at hh
                          cases hh
                        · intro ev W hf _ _ hst hd
                          obtain ⟨d82, d83, d75, _⟩ := hd
                          have e75 : ev (.tmp 75) = undef := d75
                          refine ⟨fun hh => ?_, fun _ => rfl⟩
                          rw [e75] at hh
                          cases hh
                        · intro ev W hf _ _ hst hd
                          obtain ⟨d81, d84, d75, _⟩ := hd
                          have e75 : ev (.tmp 75) = undef := d75
                          refine ⟨fun hh => ?_, fun _ => rfl⟩
                          rw [e75] at hh
                          cases hh
                        · intro ev W hf _ _ hst hd
                          obtain ⟨d75, d85, d72, _⟩ := hd
                          have e72 : ev (.tmp 72) = .bool true := d72
                          refine ⟨fun hh => ?_, fun _ => rfl⟩
                          rw [e72] at hh
                          simp at hh
                        · intro ev W hf hcst _ hst hd
                          obtain ⟨d72, d86, _⟩ := hd
                          have e72 : ev (.tmp 72) = .bool true := d72
                          have e86 : ev (.tmp 86) = undef := d86
                          refine st_value (v := .bool true) ?_ (Below.refl _ _) ?_
                          · simp [execOp, go_sem, e72, e86, hcst]
                          · exact rfl
                      case rest =>
                        intro vs w3 hl hst hg
                        have HE3 := Lib.hid hst
                        have hvs : vs = [vecV nxx nxy, vecV ax ay, .bool true, .bool true, undef, undef, .bool true, .bool true, undef, undef, undef, undef, undef, undef, undef, undef, undef, undef, undef, undef, undef, undef, .bool true] := list_of hl (fun i u hu => by
                          match i, hu with
                          | 0, hu => exact (congrArg some (hg 0 u hu)).symm
                          | 1, hu => exact (congrArg some (hg 1 u hu)).symm
                          | 2, hu => exact (congrArg some (hg 2 u hu)).symm
                          | 3, hu => exact (congrArg some (hg 3 u hu)).symm
                          | 4, hu => exact (congrArg some (hg 4 u hu)).symm
                          | 5, hu => exact (congrArg some (hg 5 u hu)).symm
                          | 6, hu => exact (congrArg some (hg 6 u hu)).symm
                          | 7, hu => exact (congrArg some (hg 7 u hu)).symm
                          | 8, hu => exact (congrArg some (hg 8 u hu)).symm
                          | 9, hu => exact (congrArg some (hg 9 u hu)).symm
                          | 10, hu => exact (congrArg some (hg 10 u hu)).symm
                          | 11, hu => exact (congrArg some (hg 11 u hu)).symm
                          | 12, hu => exact (congrArg some (hg 12 u hu)).symm
                          | 13, hu => exact (congrArg some (hg 13 u hu)).symm
                          | 14, hu => exact (congrArg some (hg 14 u hu)).symm
                          | 15, hu => exact (congrArg some (hg 15 u hu)).symm
                          | 16, hu => exact (congrArg some (hg 16 u hu)).symm
                          | 17, hu => exact (congrArg some (hg 17 u hu)).symm
                          | 18, hu => exact (congrArg some (hg 18 u hu)).symm
                          | 19, hu => exact (congrArg some (hg 19 u hu)).symm
                          | 20, hu => exact (congrArg some (hg 20 u hu)).symm
                          | 21, hu => exact (congrArg some (hg 21 u hu)).symm
                          | 22, hu => exact (congrArg some (hg 22 u hu)).symm
                          | n + 23, hu => exact absurd (lt_len hu) (by rw [hl]; simp))
                        clear hg hst hl
                        subst hvs
                        simp only [putAll, Act.put, List.dropLast, List.setIfInBounds_toArray, List.set_cons_zero, List.set_cons_succ]
                        have C1 := Lib.hid (Ext.cell HE3.out C1.out)
                        have C2 := Lib.hid (Ext.cell HE3.out C2.out)
                        have VN := Lib.hid (VRow.ext VN.out HE3.out)
                        have VA := Lib.hid (VRow.ext VA.out HE3.out)
                        have HEq := Lib.hid (Ext.trans HEq.out HE3.out)
                        clear HE3
                        have c1 := C1.out
                        have c2 := C2.out
                        have k1 := cell_lt c1
                        have n0 := VRow.cell VN.out (k := 0) rfl
                        have n1 := VRow.cell VN.out (k := 1) rfl
                        have f0 := VRow.frozen VN.out 0 none
                        have f1 := VRow.frozen VN.out 1 none
                        have HP := Lib.hid (vec_put HEq.out VN.out HWN.out (.int .i64 qx) (.int .i64 qy))
                        have HVA5 := Lib.hid ((VRow.setOther VA.out (a := ⟨N, 0, none⟩) HAN.out (.int .i64 qx)).setOther (a := ⟨N, 1, none⟩) HAN.out (.int .i64 qy))
                        go_wp2_with fail
                        exact ⟨⟨i + 1, by simp, by omega, by rw [HS.out.1, HS.out.2]; exact HP.out.1, HVA5.out, HP.out.2⟩, by simp [intOf]; omega⟩
                · have HNA := Lib.hid (fun W => veq_f nx.1 nx.2 at_.1 at_.2 (pt_ne hna) W)
                  rcases Int.lt_trichotomy T 0 with hT | hT | hT
                  · have HS := Lib.hid (show (nextK ps at_ (i + 1)).1 = q.1 ∧ (nextK ps at_ (i + 1)).2 = q.2 from by rw [HS0.out, if_pos (.inr (.inl hT))]; exact ⟨rfl, rfl⟩)
                    have HT1 := Lib.hid (show decide (T < 0) = true from decide_eq_true hT)
                    clear hna HS0 hT
                    generalize q.1 = qx at *
                    generalize q.2 = qy at *
                    generalize nx.1 = nxx at *
                    generalize nx.2 = nxy at *
                    generalize at_.1 = ax at *
                    generalize at_.2 = ay at *
                    go_wp2_with fail
                    refine wp_region_stable [⟨[], none⟩, ⟨[], none⟩, ⟨[(0, 52), (1, 53)], none⟩, ⟨[(2, 54)], none⟩, ⟨[], none⟩, ⟨[(3, 55), (4, 56)], none⟩] (fun x y => Below x.heap.size x y) (MPat [MP.eq (.slice (some ⟨b, o, none⟩) n cap), MP.eq (.int .i64 (i : Int)), MP.eq (.pointer (some ⟨b, o + i * 2, none⟩)), MP.eq (vecV qx qy), MP.eq (vecV ax ay), MP.eq (.bool false)]) (by kernel_rfl) (fun _ _ _ h k => Ext.trans h k) (fun _ => Below.refl _ _) (fun x => (Below.refl x.heap.size x).drew) (MPat.mono _) (by kernel_rfl) ?obs ?rest
                    case obs =>
                      refine ⟨?_, ?_, ?_, ?_, ?_, ?_, trivial⟩
                      · intro ev W hf _ _ hst hd
                        have e0 : ev (.tmp 0) = .slice (some ⟨b, o, none⟩) n cap := hf 0 (by kernel_rfl)
                        refine st_value (v := .slice (some ⟨b, o, none⟩) n cap) ?_ (Below.refl _ _) ?_
                        · simp [execOp, go_sem, e0]
                        · exact rfl
                      · intro ev W hf _ _ hst hd
                        have e8 : ev (.tmp 8) = .int .i64 (i : Int) := hf 8 (by kernel_rfl)
                        refine st_value (v := .int .i64 (i : Int)) ?_ (Below.refl _ _) ?_
                        · simp [execOp, go_sem, e8]
                        · exact rfl
                      · intro ev W hf _ _ hst hd
                        obtain ⟨d52, d53, _⟩ := hd
                        have e52 : ev (.tmp 52) = .slice (some ⟨b, o, none⟩) n cap := d52
                        have e53 : ev (.tmp 53) = .int .i64 (i : Int) := d53
                        refine st_value (v := .pointer (some ⟨b, o + i * 2, none⟩)) ?_ (Below.refl _ _) ?_
                        · simp [execOp, go_sem, e52, e53, hil]
                        · exact rfl
                      · intro ev W hf _ _ hst hd
                        obtain ⟨d54, _⟩ := hd
                        have e54 : ev (.tmp 54) = .pointer (some ⟨b, o + i * 2, none⟩) := d54
                        have q0 := Ext.cell hst C1.out
                        have q1 := Ext.cell hst C2.out
                        refine st_value (v := vecV qx qy) ?_ (Below.refl _ _) ?_
                        · simp [execOp, go_sem, e54, q0, q1, vecV]
                        · exact rfl
                      · intro ev W hf _ _ hst hd
                        have e6 : ev (.tmp 6) = .pointer (some ⟨A, 0, none⟩) := hf 6 (by kernel_rfl)
                        have q0 := VRow.cell (VRow.ext VA.out hst) (k := 0) rfl
                        have q1 := VRow.cell (VRow.ext VA.out hst) (k := 1) rfl
                        refine st_value (v := vecV ax ay) ?_ (Below.refl _ _) ?_
                        · simp [execOp, go_sem, e6, q0, q1, vecV]
                        · exact rfl
                      · intro ev W hf _ _ hst hd
                        obtain ⟨d55, d56, _⟩ := hd
                        have e55 : ev (.tmp 55) = vecV qx qy := d55
                        have e56 : ev (.tmp 56) = vecV ax ay := d56
                        refine st_value (v := .bool false) ?_ (Below.refl _ _) ?_
                        · simp [execOp, go_sem, e55, e56, HQA.out, vecV]
                        · exact rfl
                    case rest =>
                      intro vs w3 hl hst hg
                      have HE3 := Lib.hid hst
                      have hvs : vs = [.slice (some ⟨b, o, none⟩) n cap, .int .i64 (i : Int), .pointer (some ⟨b, o + i * 2, none⟩), vecV qx qy, vecV ax ay, .bool false] := list_of hl (fun i u hu => by
                        match i, hu with
                        | 0, hu => exact (congrArg some (hg 0 u hu)).symm
                        | 1, hu => exact (congrArg some (hg 1 u hu)).symm
                        | 2, hu => exact (congrArg some (hg 2 u hu)).symm
                        | 3, hu => exact (congrArg some (hg 3 u hu)).symm
                        | 4, hu => exact (congrArg some (hg 4 u hu)).symm
                        | 5, hu => exact (congrArg some (hg 5 u hu)).symm
                        | n + 6, hu => exact absurd (lt_len hu) (by rw [hl]; simp))
                      clear hg hst hl
                      subst hvs
                      simp only [putAll, Act.put, List.dropLast, List.setIfInBounds_toArray, List.set_cons_zero, List.set_cons_succ]
                      have C1 := Lib.hid (Ext.cell HE3.out C1.out)
                      have C2 := Lib.hid (Ext.cell HE3.out C2.out)
                      have VN := Lib.hid (VRow.ext VN.out HE3.out)
                      have VA := Lib.hid (VRow.ext VA.out HE3.out)
                      have HEq := Lib.hid (Ext.trans HEq.out HE3.out)
                      clear HE3
                      go_wp2_with fail
                      refine wp_region_stable_last [⟨[], none⟩, ⟨[], none⟩, ⟨[], none⟩, ⟨[], none⟩, ⟨[(2, 60), (3, 61)], none⟩, ⟨[(4, 62)], none⟩, ⟨[(0, 58), (1, 59), (5, 63)], none⟩] (fun x y => Below x.heap.size x y) (MPat [MP.eq (vecV ax ay), MP.eq (vecV nxx nxy), MP.eq (.slice (some ⟨b, o, none⟩) n cap), MP.eq (.int .i64 (i : Int)), MP.eq (.pointer (some ⟨b, o + i * 2, none⟩)), MP.eq (vecV qx qy), MP.eq (.int .i64 T)]) rfl (by kernel_rfl) (fun _ _ _ h k => Ext.trans h k) (fun _ => Below.refl _ _) (fun x => (Below.refl x.heap.size x).drew) (MPat.mono _) (by kernel_rfl) (by kernel_rfl) (by kernel_rfl) ?obs ?rest
                      case obs =>
                        refine ⟨?_, ?_, ?_, ?_, ?_, ?_, ?_, trivial⟩
                        · intro ev W hf _ _ hst hd
                          have e6 : ev (.tmp 6) = .pointer (some ⟨A, 0, none⟩) := hf 6 (by kernel_rfl)
                          have q0 := VRow.cell (VRow.ext VA.out hst) (k := 0) rfl
                          have q1 := VRow.cell (VRow.ext VA.out hst) (k := 1) rfl
                          refine st_value (v := vecV ax ay) ?_ (Below.refl _ _) ?_
                          · simp [execOp, go_sem, e6, q0, q1, vecV]
                          · exact rfl
                        · intro ev W hf _ _ hst hd
                          have e7 : ev (.tmp 7) = .pointer (some ⟨N, 0, none⟩) := hf 7 (by kernel_rfl)
                          have q0 := VRow.cell (VRow.ext VN.out hst) (k := 0) rfl
                          have q1 := VRow.cell (VRow.ext VN.out hst) (k := 1) rfl
                          refine st_value (v := vecV nxx nxy) ?_ (Below.refl _ _) ?_
                          · simp [execOp, go_sem, e7, q0, q1, vecV]
                          · exact rfl
                        · intro ev W hf _ _ hst hd
                          have e0 : ev (.tmp 0) = .slice (some ⟨b, o, none⟩) n cap := hf 0 (by kernel_rfl)
                          refine st_value (v := .slice (some ⟨b, o, none⟩) n cap) ?_ (Below.refl _ _) ?_
                          · simp [execOp, go_sem, e0]
                          · exact rfl
                        · intro ev W hf _ _ hst hd
                          have e8 : ev (.tmp 8) = .int .i64 (i : Int) := hf 8 (by kernel_rfl)
                          refine st_value (v := .int .i64 (i : Int)) ?_ (Below.refl _ _) ?_
                          · simp [execOp, go_sem, e8]
                          · exact rfl
                        · intro ev W hf _ _ hst hd
                          obtain ⟨d60, d61, _⟩ := hd
                          have e60 : ev (.tmp 60) = .slice (some ⟨b, o, none⟩) n cap := d60
                          have e61 : ev (.tmp 61) = .int .i64 (i : Int) := d61
                          refine st_value (v := .pointer (some ⟨b, o + i * 2, none⟩)) ?_ (Below.refl _ _) ?_
                          · simp [execOp, go_sem, e60, e61, hil]
                          · exact rfl
                        · intro ev W hf _ _ hst hd
                          obtain ⟨d62, _⟩ := hd
                          have e62 : ev (.tmp 62) = .pointer (some ⟨b, o + i * 2, none⟩) := d62
                          have q0 := Ext.cell hst C1.out
                          have q1 := Ext.cell hst C2.out
                          refine st_value (v := vecV qx qy) ?_ (Below.refl _ _) ?_
                          · simp [execOp, go_sem, e62, q0, q1, vecV]
                          · exact rfl
                        · intro ev W hf _ hfn hst hd
                          obtain ⟨d58, d59, d63, _⟩ := hd
                          have e58 : ev (.tmp 58) = vecV ax ay := d58
                          have e59 : ev (.tmp 59) = vecV nxx nxy := d59
                          have e63 : ev (.tmp 63) = vecV qx qy := d63
                          refine st_call (f := 50) (args := #[vecV ax ay, vecV nxx nxy, vecV qx qy]) (by simp [execOp, go_sem, hfn, e58, e59, e63]) (HTW.out W) (fun _ _ => rfl)
                      case rest =>
                        intro vs w3 hl hst hg
                        have HE3 := Lib.hid hst
                        have hvs : vs = [vecV ax ay, vecV nxx nxy, .slice (some ⟨b, o, none⟩) n cap, .int .i64 (i : Int), .pointer (some ⟨b, o + i * 2, none⟩), vecV qx qy, .int .i64 T] := list_of hl (fun i u hu => by
                          match i, hu with
                          | 0, hu => exact (congrArg some (hg 0 u hu)).symm
                          | 1, hu => exact (congrArg some (hg 1 u hu)).symm
                          | 2, hu => exact (congrArg some (hg 2 u hu)).symm
                          | 3, hu => exact (congrArg some (hg 3 u hu)).symm
                          | 4, hu => exact (congrArg some (hg 4 u hu)).symm
                          | 5, hu => exact (congrArg some (hg 5 u hu)).symm
                          | 6, hu => exact (congrArg some (hg 6 u hu)).symm
                          | n + 7, hu => exact absurd (lt_len hu) (by rw [hl]; simp))
                        clear hg hst hl
                        subst hvs
                        simp only [putAll, Act.put, List.dropLast, List.setIfInBounds_toArray, List.set_cons_zero, List.set_cons_succ]
                        have C1 := Lib.hid (Ext.cell HE3.out C1.out)
                        have C2 := Lib.hid (Ext.cell HE3.out C2.out)
                        have VN := Lib.hid (VRow.ext VN.out HE3.out)
                        have VA := Lib.hid (VRow.ext VA.out HE3.out)
                        have HEq := Lib.hid (Ext.trans HEq.out HE3.out)
                        clear HE3
                        go_wp2_with fail
                        refine wp_region_stable [⟨[], none⟩, ⟨[], none⟩, ⟨[(0, 65), (1, 66)], none⟩, ⟨[(2, 67)], none⟩, ⟨[(3, 68)], some (68, false)⟩, ⟨[(4, 69), (3, 68)], some (68, false)⟩, ⟨[(3, 68), (5, 70)], none⟩, ⟨[(6, 71)], none⟩, ⟨[(7, 72)], some (72, false)⟩, ⟨[(8, 73), (7, 72)], some (72, false)⟩, ⟨[(9, 74), (7, 72)], some (72, false)⟩, ⟨[(10, 75)], some (75, true)⟩, ⟨[(10, 75)], some (75, true)⟩, ⟨[(10, 75)], some (75, true)⟩, ⟨[(12, 77), (13, 78), (10, 75)], some (75, true)⟩, ⟨[(14, 79), (10, 75)], some (75, true)⟩, ⟨[(11, 76), (15, 80), (10, 75)], some (75, true)⟩, ⟨[(10, 75)], some (75, true)⟩, ⟨[(10, 75)], some (75, true)⟩, ⟨[(17, 82), (18, 83), (10, 75)], some (75, true)⟩, ⟨[(16, 81), (19, 84), (10, 75)], some (75, true)⟩, ⟨[(10, 75), (20, 85), (7, 72)], some (72, false)⟩, ⟨[(7, 72), (21, 86)], none⟩] (fun x y => Below x.heap.size x y) (MPat [MP.eq (vecV nxx nxy), MP.eq (vecV ax ay), MP.eq (.bool false), MP.eq (.bool false), MP.eq (.int .i64 T), MP.eq (.bool true), MP.eq (.bool true), MP.eq (.bool true), MP.eq (undef), MP.eq (undef), MP.eq (undef), MP.eq (undef), MP.eq (undef), MP.eq (undef), MP.eq (undef), MP.eq (undef), MP.eq (undef), MP.eq (undef), MP.eq (undef), MP.eq (undef), MP.eq (undef), MP.eq (undef), MP.eq (.bool true)]) (by kernel_rfl) (fun _ _ _ h k => Ext.trans h k) (fun _ => Below.refl _ _) (fun x => (Below.refl x.heap.size x).drew) (MPat.mono _) (by kernel_rfl) ?obs ?rest
                        case obs =>
                          refine ⟨?_, ?_, ?_, ?_, ?_, ?_, ?_, ?_, ?_, ?_, ?_, ?_, ?_, ?_, ?_, ?_, ?_, ?_, ?_, ?_, ?_, ?_, ?_, trivial⟩
                          · intro ev W hf _ _ hst hd
                            have e7 : ev (.tmp 7) = .pointer (some ⟨N, 0, none⟩) := hf 7 (by kernel_rfl)
                            have q0 := VRow.cell (VRow.ext VN.out hst) (k := 0) rfl
                            have q1 := VRow.cell (VRow.ext VN.out hst) (k := 1) rfl
                            refine st_value (v := vecV nxx nxy) ?_ (Below.refl _ _) ?_
                            · simp [execOp, go_sem, e7, q0, q1, vecV]
                            · exact rfl
                          · intro ev W hf _ _ hst hd
                            have e6 : ev (.tmp 6) = .pointer (some ⟨A, 0, none⟩) := hf 6 (by kernel_rfl)
                            have q0 := VRow.cell (VRow.ext VA.out hst) (k := 0) rfl
                            have q1 := VRow.cell (VRow.ext VA.out hst) (k := 1) rfl
                            refine st_value (v := vecV ax ay) ?_ (Below.refl _ _) ?_
                            · simp [execOp, go_sem, e6, q0, q1, vecV]
                            · exact rfl
                          · intro ev W hf _ _ hst hd
                            obtain ⟨d65, d66, _⟩ := hd
                            have e65 : ev (.tmp 65) = vecV nxx nxy := d65
                            have e66 : ev (.tmp 66) = vecV ax ay := d66
                            refine st_value (v := .bool false) ?_ (Below.refl _ _) ?_
                            · simp [execOp, go_sem, e65, e66, HNA.out, vecV]
                            · exact rfl
                          · intro ev W hf _ _ hst hd
                            obtain ⟨d67, _⟩ := hd
                            have e67 : ev (.tmp 67) = .bool false := d67
                            refine st_value (v := .bool false) ?_ (Below.refl _ _) ?_
                            · simp [execOp, go_sem, e67]
                            · exact rfl
                          · intro ev W hf _ _ hst hd
                            obtain ⟨d68, _⟩ := hd
                            have e9 : ev (.tmp 9) = .int .i64 T := hf 9 (by kernel_rfl)
                            have e68 : ev (.tmp 68) = .bool false := d68
                            refine ⟨fun _ => ?_, fun hne => absurd e68 hne⟩
                            refine st_value (v := .int .i64 T) ?_ (Below.refl _ _) ?_
                            · simp [execOp, go_sem, e9]
                            · exact rfl
                          · intro ev W hf hcst _ hst hd
                            obtain ⟨d69, d68, _⟩ := hd
                            have e69 : ev (.tmp 69) = .int .i64 T := d69
                            have e68 : ev (.tmp 68) = .bool false := d68
                            refine ⟨fun _ => ?_, fun hne => absurd e68 hne⟩
                            refine st_value (v := .bool true) ?_ (Below.refl _ _) ?_
                            · simp [execOp, go_sem, e69, hcst, HT1.out]
                            · exact rfl
                          · intro ev W hf hcst _ hst hd
                            obtain ⟨d68, d70, _⟩ := hd
                            have e68 : ev (.tmp 68) = .bool false := d68
                            have e70 : ev (.tmp 70) = .bool true := d70
                            refine st_value (v := .bool true) ?_ (Below.refl _ _) ?_
                            · simp [execOp, go_sem, e68, e70, hcst]
                            · exact rfl
                          · intro ev W hf _ _ hst hd
                            obtain ⟨d71, _⟩ := hd
                            have e71 : ev (.tmp 71) = .bool true := d71
                            refine st_value (v := .bool true) ?_ (Below.refl _ _) ?_
                            · simp [execOp, go_sem, e71]
                            · exact rfl
                          · intro ev W hf _ _ hst hd
                            obtain ⟨d72, _⟩ := hd
                            have e72 : ev (.tmp 72) = .bool true := d72
                            refine ⟨fun hh => ?_, fun _ => rfl⟩
                            rw [e72] at hh
                            simp at hh
                          · intro ev W hf _ _ hst hd
                            obtain ⟨d73, d72, _⟩ := hd
                            have e72 : ev (.tmp 72) = .bool true := d72
                            refine ⟨fun hh => ?_, fun _ => rfl⟩
                            rw [e72] at hh
                            simp at hh
                          · intro ev W hf _ _ hst hd
                            obtain ⟨d74, d72, _⟩ := hd
                            have e72 : ev (.tmp 72) = .bool true := d72
                            refine ⟨fun hh => ?_, fun _ => rfl⟩
                            rw [e72] at hh
                            simp at hh
                          · intro ev W hf _ _ hst hd
                            obtain ⟨d75, _⟩ := hd
                            have e75 : ev (.tmp 75) = undef := d75
                            refine ⟨fun hh => ?_, fun _ => rfl⟩
                            rw [e75] at hh
                            cases hh
                          · intro ev W hf _ _ hst hd
                            obtain ⟨d75, _⟩ := hd
                            have e75 : ev (.tmp 75) = undef := d75
                            refine ⟨fun hh => ?_, fun _ => rfl⟩
                            rw [e75] at hh
                            cases hh
                          · intro ev W hf _ _ hst hd
                            obtain ⟨d75, _⟩ := hd
                            have e75 : ev (.tmp 75) = undef := d75
                            refine ⟨fun hh => ?_, fun _ => rfl⟩
                            rw [e75] at hh
                            cases hh
                          · intro ev W hf _ _ hst hd
                            obtain ⟨d77, d78, d75, _⟩ := hd
                            have e75 : ev (.tmp 75) = undef := d75
                            refine ⟨fun hh => ?_, fun _ => rfl⟩
                            rw [e75] at hh
                            cases hh
                          · intro ev W hf _ _ hst hd
                            obtain ⟨d79, d75, _⟩ := hd
                            have e75 : ev (.tmp 75) = undef := d75
                            refine ⟨fun hh => ?_, fun _ => rfl⟩
                            rw [e75] at hh
                            cases hh
                          · intro ev W hf _ _ hst hd
                            obtain ⟨d76, d80, d75, _⟩ := hd
                            have e75 : ev (.tmp 75) = undef := d75
                            refine ⟨fun hh => ?_, fun _ => rfl⟩
                            rw [e75] at hh
                            cases hh
                          · intro ev W hf _ _ hst hd
                            obtain ⟨d75, _⟩ := hd
                            have e75 : ev (.tmp 75) = undef := d75
                            refine ⟨fun hh => ?_, fun _ => rfl⟩
                            rw [e75] at hh
                            cases hh
                          · intro ev W hf _ _ hst hd
                            obtain ⟨d75, _⟩ := hd
                            have e75 : ev (.tmp 75) = undef := d75
                            refine ⟨fun hh => ?_, fun _ => rfl⟩
                            rw [e75] at hh
                            cases hh
                          · intro ev W hf _ _ hst hd
                            obtain ⟨d82, d83, d75, _⟩ := hd
                            have e75 : ev (.tmp 75) = undef := d75
                            refine ⟨fun hh => ?_, fun _ => rfl⟩
                            rw [e75] at hh
                            cases hh
                          · intro ev W hf _ _ hst hd
                            obtain ⟨d81, d84, d75, _⟩ := hd
                            have e75 : ev (.tmp 75) = undef := d75
                            refine ⟨fun hh => ?_, fun _ => rfl⟩
                            rw [e75] at hh
                            cases hh
                          · intro ev W hf _ _ hst hd
                            obtain ⟨d75, d85, d72, _⟩ := hd
                            have e72 : ev (.tmp 72) = .bool true := d72
                            refine ⟨fun hh => ?_, fun _ => rfl⟩
                            rw [e72] at hh
                            simp at hh
                          · intro ev W hf hcst _ hst hd
                            obtain ⟨d72, d86, _⟩ := hd
                            have e72 : ev (.tmp 72) = .bool true := d72
                            have e86 : ev (.tmp 86) = undef := d86
                            refine st_value (v := .bool true) ?_ (Below.refl _ _) ?_
                            · simp [execOp, go_sem, e72, e86, hcst]
                            · exact rfl
                        case rest =>
                          intro vs w3 hl hst hg
                          have HE3 := Lib.hid hst
                          have hvs : vs = [vecV nxx nxy, vecV ax ay, .bool false, .bool false, .int .i64 T, .bool true, .bool true, .bool true, undef, undef, undef, undef, undef, undef, undef, undef, undef, undef, undef, undef, undef, undef, .bool true] := list_of hl (fun i u hu => by
                            match i, hu with
                            | 0, hu => exact (congrArg some (hg 0 u hu)).symm
                            | 1, hu => exact (congrArg some (hg 1 u hu)).symm
                            | 2, hu => exact (congrArg some (hg 2 u hu)).symm
                            | 3, hu => exact (congrArg some (hg 3 u hu)).symm
                            | 4, hu => exact (congrArg some (hg 4 u hu)).symm
                            | 5, hu => exact (congrArg some (hg 5 u hu)).symm
                            | 6, hu => exact (congrArg some (hg 6 u hu)).symm
                            | 7, hu => exact (congrArg some (hg 7 u hu)).symm
                            | 8, hu => exact (congrArg some (hg 8 u hu)).symm
                            | 9, hu => exact (congrArg some (hg 9 u hu)).symm
                            | 10, hu => exact (congrArg some (hg 10 u hu)).symm
                            | 11, hu => exact (congrArg some (hg 11 u hu)).symm
                            | 12, hu => exact (congrArg some (hg 12 u hu)).symm
                            | 13, hu => exact (congrArg some (hg 13 u hu)).symm
                            | 14, hu => exact (congrArg some (hg 14 u hu)).symm
                            | 15, hu => exact (congrArg some (hg 15 u hu)).symm
                            | 16, hu => exact (congrArg some (hg 16 u hu)).symm
                            | 17, hu => exact (congrArg some (hg 17 u hu)).symm
                            | 18, hu => exact (congrArg some (hg 18 u hu)).symm
                            | 19, hu => exact (congrArg some (hg 19 u hu)).symm
                            | 20, hu => exact (congrArg some (hg 20 u hu)).symm
                            | 21, hu => exact (congrArg some (hg 21 u hu)).symm
                            | 22, hu => exact (congrArg some (hg 22 u hu)).symm
                            | n + 23, hu => exact absurd (lt_len hu) (by rw [hl]; simp))
                          clear hg hst hl
                          subst hvs
                          simp only [putAll, Act.put, List.dropLast, List.setIfInBounds_toArray, List.set_cons_zero, List.set_cons_succ]
                          have C1 := Lib.hid (Ext.cell HE3.out C1.out)
                          have C2 := Lib.hid (Ext.cell HE3.out C2.out)
                          have VN := Lib.hid (VRow.ext VN.out HE3.out)
                          have VA := Lib.hid (VRow.ext VA.out HE3.out)
                          have HEq := Lib.hid (Ext.trans HEq.out HE3.out)
                          clear HE3
                          have c1 := C1.out
                          have c2 := C2.out
                          have k1 := cell_lt c1
                          have n0 := VRow.cell VN.out (k := 0) rfl
                          have n1 := VRow.cell VN.out (k := 1) rfl
                          have f0 := VRow.frozen VN.out 0 none
                          have f1 := VRow.frozen VN.out 1 none
                          have HP := Lib.hid (vec_put HEq.out VN.out HWN.out (.int .i64 qx) (.int .i64 qy))
                          have HVA5 := Lib.hid ((VRow.setOther VA.out (a := ⟨N, 0, none⟩) HAN.out (.int .i64 qx)).setOther (a := ⟨N, 1, none⟩) HAN.out (.int .i64 qy))
                          go_wp2_with fail
                          exact ⟨⟨i + 1, by simp, by omega, by rw [HS.out.1, HS.out.2]; exact HP.out.1, HVA5.out, HP.out.2⟩, by simp [intOf]; omega⟩
                  · subst hT
                    by_cases hF : F2 < F1
                    · have HS := Lib.hid (show (nextK ps at_ (i + 1)).1 = q.1 ∧ (nextK ps at_ (i + 1)).2 = q.2 from by rw [HS0.out, if_pos (.inr (.inr ⟨rfl, hF⟩))]; exact ⟨rfl, rfl⟩)
                      have HT1 := Lib.hid (show decide ((0 : Int) < 0) = false from rfl)
                      have HT2 := Lib.hid (show ((0 : Int) == 0) = true from rfl)
                      have HFF := Lib.hid (show decide (F2 < F1) = true from decide_eq_true hF)
                      clear hna HS0 hF
                      generalize q.1 = qx at *
                      generalize q.2 = qy at *
                      generalize nx.1 = nxx at *
                      generalize nx.2 = nxy at *
                      generalize at_.1 = ax at *
                      generalize at_.2 = ay at *
                      go_wp2_with fail
                      refine wp_region_stable [⟨[], none⟩, ⟨[], none⟩, ⟨[(0, 52), (1, 53)], none⟩, ⟨[(2, 54)], none⟩, ⟨[], none⟩, ⟨[(3, 55), (4, 56)], none⟩] (fun x y => Below x.heap.size x y) (MPat [MP.eq (.slice (some ⟨b, o, none⟩) n cap), MP.eq (.int .i64 (i : Int)), MP.eq (.pointer (some ⟨b, o + i * 2, none⟩)), MP.eq (vecV qx qy), MP.eq (vecV ax ay), MP.eq (.bool false)]) (by kernel_rfl) (fun _ _ _ h k => Ext.trans h k) (fun _ => Below.refl _ _) (fun x => (Below.refl x.heap.size x).drew) (MPat.mono _) (by kernel_rfl) ?obs ?rest
                      case obs =>
                        refine ⟨?_, ?_, ?_, ?_, ?_, ?_, trivial⟩
                        · intro ev W hf _ _ hst hd
                          have e0 : ev (.tmp 0) = .slice (some ⟨b, o, none⟩) n cap := hf 0 (by kernel_rfl)
                          refine st_value (v := .slice (some ⟨b, o, none⟩) n cap) ?_ (Below.refl _ _) ?_
                          · simp [execOp, go_sem, e0]
                          · exact rfl
                        · intro ev W hf _ _ hst hd
                          have e8 : ev (.tmp 8) = .int .i64 (i : Int) := hf 8 (by kernel_rfl)
                          refine st_value (v := .int .i64 (i : Int)) ?_ (Below.refl _ _) ?_
                          · simp [execOp, go_sem, e8]
                          · exact rfl
                        · intro ev W hf _ _ hst hd
                          obtain ⟨d52, d53, _⟩ := hd
                          have e52 : ev (.tmp 52) = .slice (some ⟨b, o, none⟩) n cap := d52
                          have e53 : ev (.tmp 53) = .int .i64 (i : Int) := d53
                          refine st_value (v := .pointer (some ⟨b, o + i * 2, none⟩)) ?_ (Below.refl _ _) ?_
                          · simp [execOp, go_sem, e52, e53, hil]
                          · exact rfl
                        · intro ev W hf _ _ hst hd
                          obtain ⟨d54, _⟩ := hd
                          have e54 : ev (.tmp 54) = .pointer (some ⟨b, o + i * 2, none⟩) := d54
                          have q0 := Ext.cell hst C1.out
                          have q1 := Ext.cell hst C2.out
                          refine st_value (v := vecV qx qy) ?_ (Below.refl _ _) ?_
                          · simp [execOp, go_sem, e54, q0, q1, vecV]
                          · exact rfl
                        · intro ev W hf _ _ hst hd
                          have e6 : ev (.tmp 6) = .pointer (some ⟨A, 0, none⟩) := hf 6 (by kernel_rfl)
                          have q0 := VRow.cell (VRow.ext VA.out hst) (k := 0) rfl
                          have q1 := VRow.cell (VRow.ext VA.out hst) (k := 1) rfl
                          refine st_value (v := vecV ax ay) ?_ (Below.refl _ _) ?_
                          · simp [execOp, go_sem, e6, q0, q1, vecV]
                          · exact rfl
                        · intro ev W hf _ _ hst hd
                          obtain ⟨d55, d56, _⟩ := hd
                          have e55 : ev (.tmp 55) = vecV qx qy := d55
                          have e56 : ev (.tmp 56) = vecV ax ay := d56
                          refine st_value (v := .bool false) ?_ (Below.refl _ _) ?_
                          · simp [execOp, go_sem, e55, e56, HQA.out, vecV]
                          · exact rfl
                      case rest =>
                        intro vs w3 hl hst hg
                        have HE3 := Lib.hid hst
                        have hvs : vs = [.slice (some ⟨b, o, none⟩) n cap, .int .i64 (i : Int), .pointer (some ⟨b, o + i * 2, none⟩), vecV qx qy, vecV ax ay, .bool false] := list_of hl (fun i u hu => by
                          match i, hu with
                          | 0, hu => exact (congrArg some (hg 0 u hu)).symm
                          | 1, hu => exact (congrArg some (hg 1 u hu)).symm
                          | 2, hu => exact (congrArg some (hg 2 u hu)).symm
                          | 3, hu => exact (congrArg some (hg 3 u hu)).symm
                          | 4, hu => exact (congrArg some (hg 4 u hu)).symm
                          | 5, hu => exact (congrArg some (hg 5 u hu)).symm
                          | n + 6, hu => exact absurd (lt_len hu) (by rw [hl]; simp))
                        clear hg hst hl
                        subst hvs
                        simp only [putAll, Act.put, List.dropLast, List.setIfInBounds_toArray, List.set_cons_zero, List.set_cons_succ]
                        have C1 := Lib.hid (Ext.cell HE3.out C1.out)
                        have C2 := Lib.hid (Ext.cell HE3.out C2.out)
                        have VN := Lib.hid (VRow.ext VN.out HE3.out)
                        have VA := Lib.hid (VRow.ext VA.out HE3.out)
                        have HEq := Lib.hid (Ext.trans HEq.out HE3.out)
                        clear HE3
                        go_wp2_with fail
                        refine wp_region_stable_last [⟨[], none⟩, ⟨[], none⟩, ⟨[], none⟩, ⟨[], none⟩, ⟨[(2, 60), (3, 61)], none⟩, ⟨[(4, 62)], none⟩, ⟨[(0, 58), (1, 59), (5, 63)], none⟩] (fun x y => Below x.heap.size x y) (MPat [MP.eq (vecV ax ay), MP.eq (vecV nxx nxy), MP.eq (.slice (some ⟨b, o, none⟩) n cap), MP.eq (.int .i64 (i : Int)), MP.eq (.pointer (some ⟨b, o + i * 2, none⟩)), MP.eq (vecV qx qy), MP.eq (.int .i64 0)]) rfl (by kernel_rfl) (fun _ _ _ h k => Ext.trans h k) (fun _ => Below.refl _ _) (fun x => (Below.refl x.heap.size x).drew) (MPat.mono _) (by kernel_rfl) (by kernel_rfl) (by kernel_rfl) ?obs ?rest
                        case obs =>
                          refine ⟨?_, ?_, ?_, ?_, ?_, ?_, ?_, trivial⟩
                          · intro ev W hf _ _ hst hd
                            have e6 : ev (.tmp 6) = .pointer (some ⟨A, 0, none⟩) := hf 6 (by kernel_rfl)
                            have q0 := VRow.cell (VRow.ext VA.out hst) (k := 0) rfl
                            have q1 := VRow.cell (VRow.ext VA.out hst) (k := 1) rfl
                            refine st_value (v := vecV ax ay) ?_ (Below.refl _ _) ?_
                            · simp [execOp, go_sem, e6, q0, q1, vecV]
                            · exact rfl
                          · intro ev W hf _ _ hst hd
                            have e7 : ev (.tmp 7) = .pointer (some ⟨N, 0, none⟩) := hf 7 (by kernel_rfl)
                            have q0 := VRow.cell (VRow.ext VN.out hst) (k := 0) rfl
                            have q1 := VRow.cell (VRow.ext VN.out hst) (k := 1) rfl
                            refine st_value (v := vecV nxx nxy) ?_ (Below.refl _ _) ?_
                            · simp [execOp, go_sem, e7, q0, q1, vecV]
                            · exact rfl
                          · intro ev W hf _ _ hst hd
                            have e0 : ev (.tmp 0) = .slice (some ⟨b, o, none⟩) n cap := hf 0 (by kernel_rfl)
                            refine st_value (v := .slice (some ⟨b, o, none⟩) n cap) ?_ (Below.refl _ _) ?_
                            · simp [execOp, go_sem, e0]
                            · exact rfl
                          · intro ev W hf _ _ hst hd
                            have e8 : ev (.tmp 8) = .int .i64 (i : Int) := hf 8 (by kernel_rfl)
                            refine st_value (v := .int .i64 (i : Int)) ?_ (Below.refl _ _) ?_
                            · simp [execOp, go_sem, e8]
                            · exact rfl
                          · intro ev W hf _ _ hst hd
                            obtain ⟨d60, d61, _⟩ := hd
                            have e60 : ev (.tmp 60) = .slice (some ⟨b, o, none⟩) n cap := d60
                            have e61 : ev (.tmp 61) = .int .i64 (i : Int) := d61
                            refine st_value (v := .pointer (some ⟨b, o + i * 2, none⟩)) ?_ (Below.refl _ _) ?_
                            · simp [execOp, go_sem, e60, e61, hil]
                            · exact rfl
                          · intro ev W hf _ _ hst hd
                            obtain ⟨d62, _⟩ := hd
                            have e62 : ev (.tmp 62) = .pointer (some ⟨b, o + i * 2, none⟩) := d62
                            have q0 := Ext.cell hst C1.out
                            have q1 := Ext.cell hst C2.out
                            refine st_value (v := vecV qx qy) ?_ (Below.refl _ _) ?_
                            · simp [execOp, go_sem, e62, q0, q1, vecV]
                            · exact rfl
                          · intro ev W hf _ hfn hst hd
                            obtain ⟨d58, d59, d63, _⟩ := hd
                            have e58 : ev (.tmp 58) = vecV ax ay := d58
                            have e59 : ev (.tmp 59) = vecV nxx nxy := d59
                            have e63 : ev (.tmp 63) = vecV qx qy := d63
                            refine st_call (f := 50) (args := #[vecV ax ay, vecV nxx nxy, vecV qx qy]) (by simp [execOp, go_sem, hfn, e58, e59, e63]) (HTW.out W) (fun _ _ => rfl)
                        case rest =>
                          intro vs w3 hl hst hg
                          have HE3 := Lib.hid hst
                          have hvs : vs = [vecV ax ay, vecV nxx nxy, .slice (some ⟨b, o, none⟩) n cap, .int .i64 (i : Int), .pointer (some ⟨b, o + i * 2, none⟩), vecV qx qy, .int .i64 0] := list_of hl (fun i u hu => by
                            match i, hu with
                            | 0, hu => exact (congrArg some (hg 0 u hu)).symm
                            | 1, hu => exact (congrArg some (hg 1 u hu)).symm
                            | 2, hu => exact (congrArg some (hg 2 u hu)).symm
                            | 3, hu => exact (congrArg some (hg 3 u hu)).symm
                            | 4, hu => exact (congrArg some (hg 4 u hu)).symm
                            | 5, hu => exact (congrArg some (hg 5 u hu)).symm
                            | 6, hu => exact (congrArg some (hg 6 u hu)).symm
                            | n + 7, hu => exact absurd (lt_len hu) (by rw [hl]; simp))
                          clear hg hst hl
                          subst hvs
                          simp only [putAll, Act.put, List.dropLast, List.setIfInBounds_toArray, List.set_cons_zero, List.set_cons_succ]
                          have C1 := Lib.hid (Ext.cell HE3.out C1.out)
                          have C2 := Lib.hid (Ext.cell HE3.out C2.out)
                          have VN := Lib.hid (VRow.ext VN.out HE3.out)
                          have VA := Lib.hid (VRow.ext VA.out HE3.out)
                          have HEq := Lib.hid (Ext.trans HEq.out HE3.out)
                          clear HE3
                          go_wp2_with fail
                          refine wp_region_stable [⟨[], none⟩, ⟨[], none⟩, ⟨[(0, 65), (1, 66)], none⟩, ⟨[(2, 67)], none⟩, ⟨[(3, 68)], some (68, false)⟩, ⟨[(4, 69), (3, 68)], some (68, false)⟩, ⟨[(3, 68), (5, 70)], none⟩, ⟨[(6, 71)], none⟩, ⟨[(7, 72)], some (72, false)⟩, ⟨[(8, 73), (7, 72)], some (72, false)⟩, ⟨[(9, 74), (7, 72)], some (72, false)⟩, ⟨[(10, 75)], some (75, true)⟩, ⟨[(10, 75)], some (75, true)⟩, ⟨[(10, 75)], some (75, true)⟩, ⟨[(12, 77), (13, 78), (10, 75)], some (75, true)⟩, ⟨[(14, 79), (10, 75)], some (75, true)⟩, ⟨[(11, 76), (15, 80), (10, 75)], some (75, true)⟩, ⟨[(10, 75)], some (75, true)⟩, ⟨[(10, 75)], some (75, true)⟩, ⟨[(17, 82), (18, 83), (10, 75)], some (75, true)⟩, ⟨[(16, 81), (19, 84), (10, 75)], some (75, true)⟩, ⟨[(10, 75), (20, 85), (7, 72)], some (72, false)⟩, ⟨[(7, 72), (21, 86)], none⟩] (fun x y => Below x.heap.size x y) (MPat [MP.eq (vecV nxx nxy), MP.eq (vecV ax ay), MP.eq (.bool false), MP.eq (.bool false), MP.eq (.int .i64 0), MP.eq (.bool false), MP.eq (.bool false), MP.eq (.bool false), MP.eq (.int .i64 0), MP.eq (.bool true), MP.eq (.bool true), MP.eq (vecV ax ay), MP.eq (.slice (some ⟨b, o, none⟩) n cap), MP.eq (.int .i64 (i : Int)), MP.eq (.pointer (some ⟨b, o + i * 2, none⟩)), MP.eq (vecV qx qy), MP.eq (.int .i64 F1), MP.eq (vecV ax ay), MP.eq (vecV nxx nxy), MP.eq (.int .i64 F2), MP.eq (.bool true), MP.eq (.bool true), MP.eq (.bool true)]) (by kernel_rfl) (fun _ _ _ h k => Ext.trans h k) (fun _ => Below.refl _ _) (fun x => (Below.refl x.heap.size x).drew) (MPat.mono _) (by kernel_rfl) ?obs ?rest
                          case obs =>
                            refine ⟨?_, ?_, ?_, ?_, ?_, ?_, ?_, ?_, ?_, ?_, ?_, ?_, ?_, ?_, ?_, ?_, ?_, ?_, ?_, ?_, ?_, ?_, ?_, trivial⟩
                            · intro ev W hf _ _ hst hd
                              have e7 : ev (.tmp 7) = .pointer (some ⟨N, 0, none⟩) := hf 7 (by kernel_rfl)
                              have q0 := VRow.cell (VRow.ext VN.out hst) (k := 0) rfl
                              have q1 := VRow.cell (VRow.ext VN.out hst) (k := 1) rfl
                              refine st_value (v := vecV nxx nxy) ?_ (Below.refl _ _) ?_
                              · simp [execOp, go_sem, e7, q0, q1, vecV]
                              · exact rfl
                            · intro ev W hf _ _ hst hd
                              have e6 : ev (.tmp 6) = .pointer (some ⟨A, 0, none⟩) := hf 6 (by kernel_rfl)
                              have q0 := VRow.cell (VRow.ext VA.out hst) (k := 0) rfl
                              have q1 := VRow.cell (VRow.ext VA.out hst) (k := 1) rfl
                              refine st_value (v := vecV ax ay) ?_ (Below.refl _ _) ?_
                              · simp [execOp, go_sem, e6, q0, q1, vecV]
                              · exact rfl
                            · intro ev W hf _ _ hst hd
                              obtain ⟨d65, d66, _⟩ := hd
                              have e65 : ev (.tmp 65) = vecV nxx nxy := d65
                              have e66 : ev (.tmp 66) = vecV ax ay := d66
                              refine st_value (v := .bool false) ?_ (Below.refl _ _) ?_
                              · simp [execOp, go_sem, e65, e66, HNA.out, vecV]
                              · exact rfl
                            · intro ev W hf _ _ hst hd
                              obtain ⟨d67, _⟩ := hd
                              have e67 : ev (.tmp 67) = .bool false := d67
                              refine st_value (v := .bool false) ?_ (Below.refl _ _) ?_
                              · simp [execOp, go_sem, e67]
                              · exact rfl
                            · intro ev W hf _ _ hst hd
                              obtain ⟨d68, _⟩ := hd
                              have e9 : ev (.tmp 9) = .int .i64 0 := hf 9 (by kernel_rfl)
                              have e68 : ev (.tmp 68) = .bool false := d68
                              refine ⟨fun _ => ?_, fun hne => absurd e68 hne⟩
                              refine st_value (v := .int .i64 0) ?_ (Below.refl _ _) ?_
                              · simp [execOp, go_sem, e9]
                              · exact rfl
                            · intro ev W hf hcst _ hst hd
                              obtain ⟨d69, d68, _⟩ := hd
                              have e69 : ev (.tmp 69) = .int .i64 0 := d69
                              have e68 : ev (.tmp 68) = .bool false := d68
                              refine ⟨fun _ => ?_, fun hne => absurd e68 hne⟩
                              refine st_value (v := .bool false) ?_ (Below.refl _ _) ?_
                              · simp [execOp, go_sem, e69, hcst, HT1.out]
                              · exact rfl
                            · intro ev W hf hcst _ hst hd
                              obtain ⟨d68, d70, _⟩ := hd
                              have e68 : ev (.tmp 68) = .bool false := d68
                              have e70 : ev (.tmp 70) = .bool false := d70
                              refine st_value (v := .bool false) ?_ (Below.refl _ _) ?_
                              · simp [execOp, go_sem, e68, e70, hcst]
                              · exact rfl
                            · intro ev W hf _ _ hst hd
                              obtain ⟨d71, _⟩ := hd
                              have e71 : ev (.tmp 71) = .bool false := d71
                              refine st_value (v := .bool false) ?_ (Below.refl _ _) ?_
                              · simp [execOp, go_sem, e71]
                              · exact rfl
                            · intro ev W hf _ _ hst hd
                              obtain ⟨d72, _⟩ := hd
                              have e9 : ev (.tmp 9) = .int .i64 0 := hf 9 (by kernel_rfl)
                              have e72 : ev (.tmp 72) = .bool false := d72
                              refine ⟨fun _ => ?_, fun hne => absurd e72 hne⟩
                              refine st_value (v := .int .i64 0) ?_ (Below.refl _ _) ?_
                              · simp [execOp, go_sem, e9]
                              · exact rfl
                            · intro ev W hf hcst _ hst hd
                              obtain ⟨d73, d72, _⟩ := hd
                              have e73 : ev (.tmp 73) = .int .i64 0 := d73
                              have e72 : ev (.tmp 72) = .bool false := d72
                              refine ⟨fun _ => ?_, fun hne => absurd e72 hne⟩
                              refine st_value (v := .bool true) ?_ (Below.refl _ _) ?_
                              · simp [execOp, go_sem, e73, hcst, HT2.out]
                              · exact rfl
                            · intro ev W hf _ _ hst hd
                              obtain ⟨d74, d72, _⟩ := hd
                              have e74 : ev (.tmp 74) = .bool true := d74
                              have e72 : ev (.tmp 72) = .bool false := d72
                              refine ⟨fun _ => ?_, fun hne => absurd e72 hne⟩
                              refine st_value (v := .bool true) ?_ (Below.refl _ _) ?_
                              · simp [execOp, go_sem, e74]
                              · exact rfl
                            · intro ev W hf _ _ hst hd
                              obtain ⟨d75, _⟩ := hd
                              have e6 : ev (.tmp 6) = .pointer (some ⟨A, 0, none⟩) := hf 6 (by kernel_rfl)
                              have e75 : ev (.tmp 75) = .bool true := d75
                              refine ⟨fun _ => ?_, fun hne => absurd e75 hne⟩
                              have q0 := VRow.cell (VRow.ext VA.out hst) (k := 0) rfl
                              have q1 := VRow.cell (VRow.ext VA.out hst) (k := 1) rfl
                              refine st_value (v := vecV ax ay) ?_ (Below.refl _ _) ?_
                              · simp [execOp, go_sem, e6, q0, q1, vecV]
                              · exact rfl
                            · intro ev W hf _ _ hst hd
                              obtain ⟨d75, _⟩ := hd
                              have e0 : ev (.tmp 0) = .slice (some ⟨b, o, none⟩) n cap := hf 0 (by kernel_rfl)
                              have e75 : ev (.tmp 75) = .bool true := d75
                              refine ⟨fun _ => ?_, fun hne => absurd e75 hne⟩
                              refine st_value (v := .slice (some ⟨b, o, none⟩) n cap) ?_ (Below.refl _ _) ?_
                              · simp [execOp, go_sem, e0]
                              · exact rfl
                            · intro ev W hf _ _ hst hd
                              obtain ⟨d75, _⟩ := hd
                              have e8 : ev (.tmp 8) = .int .i64 (i : Int) := hf 8 (by kernel_rfl)
                              have e75 : ev (.tmp 75) = .bool true := d75
                              refine ⟨fun _ => ?_, fun hne => absurd e75 hne⟩
                              refine st_value (v := .int .i64 (i : Int)) ?_ (Below.refl _ _) ?_
                              · simp [execOp, go_sem, e8]
                              · exact rfl
                            · intro ev W hf _ _ hst hd
                              obtain ⟨d77, d78, d75, _⟩ := hd
                              have e77 : ev (.tmp 77) = .slice (some ⟨b, o, none⟩) n cap := d77
                              have e78 : ev (.tmp 78) = .int .i64 (i : Int) := d78
                              have e75 : ev (.tmp 75) = .bool true := d75
                              refine ⟨fun _ => ?_, fun hne => absurd e75 hne⟩
                              refine st_value (v := .pointer (some ⟨b, o + i * 2, none⟩)) ?_ (Below.refl _ _) ?_
                              · simp [execOp, go_sem, e77, e78, hil]
                              · exact rfl
                            · intro ev W hf _ _ hst hd
                              obtain ⟨d79, d75, _⟩ := hd
                              have e79 : ev (.tmp 79) = .pointer (some ⟨b, o + i * 2, none⟩) := d79
                              have e75 : ev (.tmp 75) = .bool true := d75
                              refine ⟨fun _ => ?_, fun hne => absurd e75 hne⟩
                              have q0 := Ext.cell hst C1.out
                              have q1 := Ext.cell hst C2.out
                              refine st_value (v := vecV qx qy) ?_ (Below.refl _ _) ?_
                              · simp [execOp, go_sem, e79, q0, q1, vecV]
                              · exact rfl
                            · intro ev W hf _ hfn hst hd
                              obtain ⟨d76, d80, d75, _⟩ := hd
                              have e76 : ev (.tmp 76) = vecV ax ay := d76
                              have e80 : ev (.tmp 80) = vecV qx qy := d80
                              have e75 : ev (.tmp 75) = .bool true := d75
                              refine ⟨fun _ => ?_, fun hne => absurd e75 hne⟩
                              refine st_call (f := 78) (args := #[vecV ax ay, vecV qx qy]) (by simp [execOp, go_sem, hfn, e76, e80]) (HF1.out W) (fun _ _ => rfl)
                            · intro ev W hf _ _ hst hd
                              obtain ⟨d75, _⟩ := hd
                              have e6 : ev (.tmp 6) = .pointer (some ⟨A, 0, none⟩) := hf 6 (by kernel_rfl)
                              have e75 : ev (.tmp 75) = .bool true := d75
                              refine ⟨fun _ => ?_, fun hne => absurd e75 hne⟩
                              have q0 := VRow.cell (VRow.ext VA.out hst) (k := 0) rfl
                              have q1 := VRow.cell (VRow.ext VA.out hst) (k := 1) rfl
                              refine st_value (v := vecV ax ay) ?_ (Below.refl _ _) ?_
                              · simp [execOp, go_sem, e6, q0, q1, vecV]
                              · exact rfl
                            · intro ev W hf _ _ hst hd
                              obtain ⟨d75, _⟩ := hd
                              have e7 : ev (.tmp 7) = .pointer (some ⟨N, 0, none⟩) := hf 7 (by kernel_rfl)
                              have e75 : ev (.tmp 75) = .bool true := d75
                              refine ⟨fun _ => ?_, fun hne => absurd e75 hne⟩
                              have q0 := VRow.cell (VRow.ext VN.out hst) (k := 0) rfl
                              have q1 := VRow.cell (VRow.ext VN.out hst) (k := 1) rfl
                              refine st_value (v := vecV nxx nxy) ?_ (Below.refl _ _) ?_
                              · simp [execOp, go_sem, e7, q0, q1, vecV]
                              · exact rfl
                            · intro ev W hf _ hfn hst hd
                              obtain ⟨d82, d83, d75, _⟩ := hd
                              have e82 : ev (.tmp 82) = vecV ax ay := d82
                              have e83 : ev (.tmp 83) = vecV nxx nxy := d83
                              have e75 : ev (.tmp 75) = .bool true := d75
                              refine ⟨fun _ => ?_, fun hne => absurd e75 hne⟩
                              refine st_call (f := 78) (args := #[vecV ax ay, vecV nxx nxy]) (by simp [execOp, go_sem, hfn, e82, e83]) (HF2.out W) (fun _ _ => rfl)
                            · intro ev W hf _ _ hst hd
                              obtain ⟨d81, d84, d75, _⟩ := hd
                              have e81 : ev (.tmp 81) = .int .i64 F1 := d81
                              have e84 : ev (.tmp 84) = .int .i64 F2 := d84
                              have e75 : ev (.tmp 75) = .bool true := d75
                              refine ⟨fun _ => ?_, fun hne => absurd e75 hne⟩
                              refine st_value (v := .bool true) ?_ (Below.refl _ _) ?_
                              · simp [execOp, go_sem, e81, e84, HFF.out]
                              · exact rfl
                            · intro ev W hf hcst _ hst hd
                              obtain ⟨d75, d85, d72, _⟩ := hd
                              have e75 : ev (.tmp 75) = .bool true := d75
                              have e85 : ev (.tmp 85) = .bool true := d85
                              have e72 : ev (.tmp 72) = .bool false := d72
                              refine ⟨fun _ => ?_, fun hne => absurd e72 hne⟩
                              refine st_value (v := .bool true) ?_ (Below.refl _ _) ?_
                              · simp [execOp, go_sem, e75, e85, hcst]
                              · exact rfl
                            · intro ev W hf hcst _ hst hd
                              obtain ⟨d72, d86, _⟩ := hd
                              have e72 : ev (.tmp 72) = .bool false := d72
                              have e86 : ev (.tmp 86) = .bool true := d86
                              refine st_value (v := .bool true) ?_ (Below.refl _ _) ?_
                              · simp [execOp, go_sem, e72, e86, hcst]
                              · exact rfl
                          case rest =>
                            intro vs w3 hl hst hg
                            have HE3 := Lib.hid hst
                            have hvs : vs = [vecV nxx nxy, vecV ax ay, .bool false, .bool false, .int .i64 0, .bool false, .bool false, .bool false, .int .i64 0, .bool true, .bool true, vecV ax ay, .slice (some ⟨b, o, none⟩) n cap, .int .i64 (i : Int), .pointer (some ⟨b, o + i * 2, none⟩), vecV qx qy, .int .i64 F1, vecV ax ay, vecV nxx nxy, .int .i64 F2, .bool true, .bool true, .bool true] := list_of hl (fun i u hu => by
                              match i, hu with
                              | 0, hu => exact (congrArg some (hg 0 u hu)).symm
                              | 1, hu => exact (congrArg some (hg 1 u hu)).symm
                              | 2, hu => exact (congrArg some (hg 2 u hu)).symm
                              | 3, hu => exact (congrArg some (hg 3 u hu)).symm
                              | 4, hu => exact (congrArg some (hg 4 u hu)).symm
                              | 5, hu => exact (congrArg some (hg 5 u hu)).symm
                              | 6, hu => exact (congrArg some (hg 6 u hu)).symm
                              | 7, hu => exact (congrArg some (hg 7 u hu)).symm
                              | 8, hu => exact (congrArg some (hg 8 u hu)).symm
                              | 9, hu => exact (congrArg some (hg 9 u hu)).symm
                              | 10, hu => exact (congrArg some (hg 10 u hu)).symm
                              | 11, hu => exact (congrArg some (hg 11 u hu)).symm
                              | 12, hu => exact (congrArg some (hg 12 u hu)).symm
                              | 13, hu => exact (congrArg some (hg 13 u hu)).symm
                              | 14, hu => exact (congrArg some (hg 14 u hu)).symm
                              | 15, hu => exact (congrArg some (hg 15 u hu)).symm
                              | 16, hu => exact (congrArg some (hg 16 u hu)).symm
                              | 17, hu => exact (congrArg some (hg 17 u hu)).symm
                              | 18, hu => exact (congrArg some (hg 18 u hu)).symm
                              | 19, hu => exact (congrArg some (hg 19 u hu)).symm
                              | 20, hu => exact (congrArg some (hg 20 u hu)).symm
                              | 21, hu => exact (congrArg some (hg 21 u hu)).symm
                              | 22, hu => exact (congrArg some (hg 22 u hu)).symm
                              | n + 23, hu => exact absurd (lt_len hu) (by rw [hl]; simp))
                            clear hg hst hl
                            subst hvs
                            simp only [putAll, Act.put, List.dropLast, List.setIfInBounds_toArray, List.set_cons_zero, List.set_cons_succ]
                            have C1 := Lib.hid (Ext.cell HE3.out C1.out)
                            have C2 := Lib.hid (Ext.cell HE3.out C2.out)
                            have VN := Lib.hid (VRow.ext VN.out HE3.out)
                            have VA := Lib.hid (VRow.ext VA.out HE3.out)
                            have HEq := Lib.hid (Ext.trans HEq.out HE3.out)
                            clear HE3
                            have c1 := C1.out
                            have c2 := C2.out
                            have k1 := cell_lt c1
                            have n0 := VRow.cell VN.out (k := 0) rfl
                            have n1 := VRow.cell VN.out (k := 1) rfl
                            have f0 := VRow.frozen VN.out 0 none
                            have f1 := VRow.frozen VN.out 1 none
                            have HP := Lib.hid (vec_put HEq.out VN.out HWN.out (.int .i64 qx) (.int .i64 qy))
                            have HVA5 := Lib.hid ((VRow.setOther VA.out (a := ⟨N, 0, none⟩) HAN.out (.int .i64 qx)).setOther (a := ⟨N, 1, none⟩) HAN.out (.int .i64 qy))
                            go_wp2_with fail
                            exact ⟨⟨i + 1, by simp, by omega, by rw [HS.out.1, HS.out.2]; exact HP.out.1, HVA5.out, HP.out.2⟩, by simp [intOf]; omega⟩
                    · have HS := Lib.hid (show (nextK ps at_ (i + 1)).1 = nx.1 ∧ (nextK ps at_ (i + 1)).2 = nx.2 from by rw [HS0.out, if_neg (fun h => h.elim hna fun h => h.elim (fun h => absurd h (by decide)) fun h => hF h.2)]; exact ⟨rfl, rfl⟩)
                      have HT1 := Lib.hid (show decide ((0 : Int) < 0) = false from rfl)
                      have HT2 := Lib.hid (show ((0 : Int) == 0) = true from rfl)
                      have HFF := Lib.hid (show decide (F2 < F1) = false from decide_eq_false hF)
                      clear hna HS0 hF
                      generalize q.1 = qx at *
                      generalize q.2 = qy at *
                      generalize nx.1 = nxx at *
                      generalize nx.2 = nxy at *
                      generalize at_.1 = ax at *
                      generalize at_.2 = ay at *
                      go_wp2_with fail
                      refine wp_region_stable [⟨[], none⟩, ⟨[], none⟩, ⟨[(0, 52), (1, 53)], none⟩, ⟨[(2, 54)], none⟩, ⟨[], none⟩, ⟨[(3, 55), (4, 56)], none⟩] (fun x y => Below x.heap.size x y) (MPat [MP.eq (.slice (some ⟨b, o, none⟩) n cap), MP.eq (.int .i64 (i : Int)), MP.eq (.pointer (some ⟨b, o + i * 2, none⟩)), MP.eq (vecV qx qy), MP.eq (vecV ax ay), MP.eq (.bool false)]) (by kernel_rfl) (fun _ _ _ h k => Ext.trans h k) (fun _ => Below.refl _ _) (fun x => (Below.refl x.heap.size x).drew) (MPat.mono _) (by kernel_rfl) ?obs ?rest
                      case obs =>
                        refine ⟨?_, ?_, ?_, ?_, ?_, ?_, trivial⟩
                        · intro ev W hf _ _ hst hd
                          have e0 : ev (.tmp 0) = .slice (some ⟨b, o, none⟩) n cap := hf 0 (by kernel_rfl)
                          refine st_value (v := .slice (some ⟨b, o, none⟩) n cap) ?_ (Below.refl _ _) ?_
                          · simp [execOp, go_sem, e0]
                          · exact rfl
                        · intro ev W hf _ _ hst hd
                          have e8 : ev (.tmp 8) = .int .i64 (i : Int) := hf 8 (by kernel_rfl)
                          refine st_value (v := .int .i64 (i : Int)) ?_ (Below.refl _ _) ?_
                          · simp [execOp, go_sem, e8]
                          · exact rfl
                        · intro ev W hf _ _ hst hd
                          obtain ⟨d52, d53, _⟩ := hd
                          have e52 : ev (.tmp 52) = .slice (some ⟨b, o, none⟩) n cap := d52
                          have e53 : ev (.tmp 53) = .int .i64 (i : Int) := d53
                          refine st_value (v := .pointer (some ⟨b, o + i * 2, none⟩)) ?_ (Below.refl _ _) ?_
                          · simp [execOp, go_sem, e52, e53, hil]
                          · exact rfl
                        · intro ev W hf _ _ hst hd
                          obtain ⟨d54, _⟩ := hd
                          have e54 : ev (.tmp 54) = .pointer (some ⟨b, o + i * 2, none⟩) := d54
                          have q0 := Ext.cell hst C1.out
                          have q1 := Ext.cell hst C2.out
                          refine st_value (v := vecV qx qy) ?_ (Below.refl _ _) ?_
                          · simp [execOp, go_sem, e54, q0, q1, vecV]
                          · exact rfl
                        · intro ev W hf _ _ hst hd
                          have e6 : ev (.tmp 6) = .pointer (some ⟨A, 0, none⟩) := hf 6 (by kernel_rfl)
                          have q0 := VRow.cell (VRow.ext VA.out hst) (k := 0) rfl
                          have q1 := VRow.cell (VRow.ext VA.out hst) (k := 1) rfl
                          refine st_value (v := vecV ax ay) ?_ (Below.refl _ _) ?_
                          · simp [execOp, go_sem, e6, q0, q1, vecV]
                          · exact rfl
                        · intro ev W hf _ _ hst hd
                          obtain ⟨d55, d56, _⟩ := hd
                          have e55 : ev (.tmp 55) = vecV qx qy := d55
                          have e56 : ev (.tmp 56) = vecV ax ay := d56
                          refine st_value (v := .bool false) ?_ (Below.refl _ _) ?_
                          · simp [execOp, go_sem, e55, e56, HQA.out, vecV]
                          · exact rfl
                      case rest =>
                        intro vs w3 hl hst hg
                        have HE3 := Lib.hid hst
                        have hvs : vs = [.slice (some ⟨b, o, none⟩) n cap, .int .i64 (i : Int), .pointer (some ⟨b, o + i * 2, none⟩), vecV qx qy, vecV ax ay, .bool false] := list_of hl (fun i u hu => by
                          match i, hu with
                          | 0, hu => exact (congrArg some (hg 0 u hu)).symm
                          | 1, hu => exact (congrArg some (hg 1 u hu)).symm
                          | 2, hu => exact (congrArg some (hg 2 u hu)).symm
                          | 3, hu => exact (congrArg some (hg 3 u hu)).symm
                          | 4, hu => exact (congrArg some (hg 4 u hu)).symm
                          | 5, hu => exact (congrArg some (hg 5 u hu)).symm
                          | n + 6, hu => exact absurd (lt_len hu) (by rw [hl]; simp))
                        clear hg hst hl
                        subst hvs
                        simp only [putAll, Act.put, List.dropLast, List.setIfInBounds_toArray, List.set_cons_zero, List.set_cons_succ]
                        have C1 := Lib.hid (Ext.cell HE3.out C1.out)
                        have C2 := Lib.hid (Ext.cell HE3.out C2.out)
                        have VN := Lib.hid (VRow.ext VN.out HE3.out)
                        have VA := Lib.hid (VRow.ext VA.out HE3.out)
                        have HEq := Lib.hid (Ext.trans HEq.out HE3.out)
                        clear HE3
                        go_wp2_with fail
                        refine wp_region_stable_last [⟨[], none⟩, ⟨[], none⟩, ⟨[], none⟩, ⟨[], none⟩, ⟨[(2, 60), (3, 61)], none⟩, ⟨[(4, 62)], none⟩, ⟨[(0, 58), (1, 59), (5, 63)], none⟩] (fun x y => Below x.heap.size x y) (MPat [MP.eq (vecV ax ay), MP.eq (vecV nxx nxy), MP.eq (.slice (some ⟨b, o, none⟩) n cap), MP.eq (.int .i64 (i : Int)), MP.eq (.pointer (some ⟨b, o + i * 2, none⟩)), MP.eq (vecV qx qy), MP.eq (.int .i64 0)]) rfl (by kernel_rfl) (fun _ _ _ h k => Ext.trans h k) (fun _ => Below.refl _ _) (fun x => (Below.refl x.heap.size x).drew) (MPat.mono _) (by kernel_rfl) (by kernel_rfl) (by kernel_rfl) ?obs ?rest
                        case obs =>
                          refine ⟨?_, ?_, ?_, ?_, ?_, ?_, ?_, trivial⟩
                          · intro ev W hf _ _ hst hd
                            have e6 : ev (.tmp 6) = .pointer (some ⟨A, 0, none⟩) := hf 6 (by kernel_rfl)
                            have q0 := VRow.cell (VRow.ext VA.out hst) (k := 0) rfl
                            have q1 := VRow.cell (VRow.ext VA.out hst) (k := 1) rfl
                            refine st_value (v := vecV ax ay) ?_ (Below.refl _ _) ?_
                            · simp [execOp, go_sem, e6, q0, q1, vecV]
                            · exact rfl
                          · intro ev W hf _ _ hst hd
                            have e7 : ev (.tmp 7) = .pointer (some ⟨N, 0, none⟩) := hf 7 (by kernel_rfl)
                            have q0 := VRow.cell (VRow.ext VN.out hst) (k := 0) rfl
                            have q1 := VRow.cell (VRow.ext VN.out hst) (k := 1) rfl
                            refine st_value (v := vecV nxx nxy) ?_ (Below.refl _ _) ?_
                            · simp [execOp, go_sem, e7, q0, q1, vecV]
                            · exact rfl
                          · intro ev W hf _ _ hst hd
                            have e0 : ev (.tmp 0) = .slice (some ⟨b, o, none⟩) n cap := hf 0 (by kernel_rfl)
                            refine st_value (v := .slice (some ⟨b, o, none⟩) n cap) ?_ (Below.refl _ _) ?_
                            · simp [execOp, go_sem, e0]
                            · exact rfl
                          · intro ev W hf _ _ hst hd
                            have e8 : ev (.tmp 8) = .int .i64 (i : Int) := hf 8 (by kernel_rfl)
                            refine st_value (v := .int .i64 (i : Int)) ?_ (Below.refl _ _) ?_
                            · simp [execOp, go_sem, e8]
                            · exact rfl
                          · intro ev W hf _ _ hst hd
                            obtain ⟨d60, d61, _⟩ := hd
                            have e60 : ev (.tmp 60) = .slice (some ⟨b, o, none⟩) n cap := d60
                            have e61 : ev (.tmp 61) = .int .i64 (i : Int) := d61
                            refine st_value (v := .pointer (some ⟨b, o + i * 2, none⟩)) ?_ (Below.refl _ _) ?_
                            · simp [execOp, go_sem, e60, e61, hil]
                            · exact rfl
                          · intro ev W hf _ _ hst hd
                            obtain ⟨d62, _⟩ := hd
                            have e62 : ev (.tmp 62) = .pointer (some ⟨b, o + i * 2, none⟩) := d62
                            have q0 := Ext.cell hst C1.out
                            have q1 := Ext.cell hst C2.out
                            refine st_value (v := vecV qx qy) ?_ (Below.refl _ _) ?_
                            · simp [execOp, go_sem, e62, q0, q1, vecV]
                            · exact rfl
                          · intro ev W hf _ hfn hst hd
                            obtain ⟨d58, d59, d63, _⟩ := hd
                            have e58 : ev (.tmp 58) = vecV ax ay := d58
                            have e59 : ev (.tmp 59) = vecV nxx nxy := d59
                            have e63 : ev (.tmp 63) = vecV qx qy := d63
                            refine st_call (f := 50) (args := #[vecV ax ay, vecV nxx nxy, vecV qx qy]) (by simp [execOp, go_sem, hfn, e58, e59, e63]) (HTW.out W) (fun _ _ => rfl)
                        case rest =>
                          intro vs w3 hl hst hg
                          have HE3 := Lib.hid hst
                          have hvs : vs = [vecV ax ay, vecV nxx nxy, .slice (some ⟨b, o, none⟩) n cap, .int .i64 (i : Int), .pointer (some ⟨b, o + i * 2, none⟩), vecV qx qy, .int .i64 0] := list_of hl (fun i u hu => by
                            match i, hu with
                            | 0, hu => exact (congrArg some (hg 0 u hu)).symm
                            | 1, hu => exact (congrArg some (hg 1 u hu)).symm
                            | 2, hu => exact (congrArg some (hg 2 u hu)).symm
                            | 3, hu => exact (congrArg some (hg 3 u hu)).symm
                            | 4, hu => exact (congrArg some (hg 4 u hu)).symm
                            | 5, hu => exact (congrArg some (hg 5 u hu)).symm
                            | 6, hu => exact (congrArg some (hg 6 u hu)).symm
                            | n + 7, hu => exact absurd (lt_len hu) (by rw [hl]; simp))
                          clear hg hst hl
                          subst hvs
                          simp only [putAll, Act.put, List.dropLast, List.setIfInBounds_toArray, List.set_cons_zero, List.set_cons_succ]
                          have C1 := Lib.hid (Ext.cell HE3.out C1.out)
                          have C2 := Lib.hid (Ext.cell HE3.out C2.out)
                          have VN := Lib.hid (VRow.ext VN.out HE3.out)
                          have VA := Lib.hid (VRow.ext VA.out HE3.out)
                          have HEq := Lib.hid (Ext.trans HEq.out HE3.out)
                          clear HE3
                          go_wp2_with fail
                          refine wp_region_stable [⟨[], none⟩, ⟨[], none⟩, ⟨[(0, 65), (1, 66)], none⟩, ⟨[(2, 67)], none⟩, ⟨[(3, 68)], some (68, false)⟩, ⟨[(4, 69), (3, 68)], some (68, false)⟩, ⟨[(3, 68), (5, 70)], none⟩, ⟨[(6, 71)], none⟩, ⟨[(7, 72)], some (72, false)⟩, ⟨[(8, 73), (7, 72)], some (72, false)⟩, ⟨[(9, 74), (7, 72)], some (72, false)⟩, ⟨[(10, 75)], some (75, true)⟩, ⟨[(10, 75)], some (75, true)⟩, ⟨[(10, 75)], some (75, true)⟩, ⟨[(12, 77), (13, 78), (10, 75)], some (75, true)⟩, ⟨[(14, 79), (10, 75)], some (75, true)⟩, ⟨[(11, 76), (15, 80), (10, 75)], some (75, true)⟩, ⟨[(10, 75)], some (75, true)⟩, ⟨[(10, 75)], some (75, true)⟩, ⟨[(17, 82), (18, 83), (10, 75)], some (75, true)⟩, ⟨[(16, 81), (19, 84), (10, 75)], some (75, true)⟩, ⟨[(10, 75), (20, 85), (7, 72)], some (72, false)⟩, ⟨[(7, 72), (21, 86)], none⟩] (fun x y => Below x.heap.size x y) (MPat [MP.eq (vecV nxx nxy), MP.eq (vecV ax ay), MP.eq (.bool false), MP.eq (.bool false), MP.eq (.int .i64 0), MP.eq (.bool false), MP.eq (.bool false), MP.eq (.bool false), MP.eq (.int .i64 0), MP.eq (.bool true), MP.eq (.bool true), MP.eq (vecV ax ay), MP.eq (.slice (some ⟨b, o, none⟩) n cap), MP.eq (.int .i64 (i : Int)), MP.eq (.pointer (some ⟨b, o + i * 2, none⟩)), MP.eq (vecV qx qy), MP.eq (.int .i64 F1), MP.eq (vecV ax ay), MP.eq (vecV nxx nxy), MP.eq (.int .i64 F2), MP.eq (.bool false), MP.eq (.bool false), MP.eq (.bool false)]) (by kernel_rfl) (fun _ _ _ h k => Ext.trans h k) (fun _ => Below.refl _ _) (fun x => (Below.refl x.heap.size x).drew) (MPat.mono _) (by kernel_rfl) ?obs ?rest
                          case obs =>
                            refine ⟨?_, ?_, ?_, ?_, ?_, ?_, ?_, ?_, ?_, ?_, ?_, ?_, ?_, ?_, ?_, ?_, ?_, ?_, ?_, ?_, ?_, ?_, ?_, trivial⟩
                            · intro ev W hf _ _ hst hd
                              have e7 : ev (.tmp 7) = .pointer (some ⟨N, 0, none⟩) := hf 7 (by kernel_rfl)
                              have q0 := VRow.cell (VRow.ext VN.out hst) (k := 0) rfl
                              have q1 := VRow.cell (VRow.ext VN.out hst) (k := 1) rfl
                              refine st_value (v := vecV nxx nxy) ?_ (Below.refl _ _) ?_
                              · simp [execOp, go_sem, e7, q0, q1, vecV]
                              · exact rfl
                            · intro ev W hf _ _ hst hd
                              have e6 : ev (.tmp 6) = .pointer (some ⟨A, 0, none⟩) := hf 6 (by kernel_rfl)
                              have q0 := VRow.cell (VRow.ext VA.out hst) (k := 0) rfl
                              have q1 := VRow.cell (VRow.ext VA.out hst) (k := 1) rfl
                              refine st_value (v := vecV ax ay) ?_ (Below.refl _ _) ?_
                              · simp [execOp, go_sem, e6, q0, q1, vecV]
                              · exact rfl
                            · intro ev W hf _ _ hst hd
                              obtain ⟨d65, d66, _⟩ := hd
                              have e65 : ev (.tmp 65) = vecV nxx nxy := d65
                              have e66 : ev (.tmp 66) = vecV ax ay := d66
                              refine st_value (v := .bool false) ?_ (Below.refl _ _) ?_
                              · simp [execOp, go_sem, e65, e66, HNA.out, vecV]
                              · exact rfl
                            · intro ev W hf _ _ hst hd
                              obtain ⟨d67, _⟩ := hd
                              have e67 : ev (.tmp 67) = .bool false := d67
                              refine st_value (v := .bool false) ?_ (Below.refl _ _) ?_
                              · simp [execOp, go_sem, e67]
                              · exact rfl
                            · intro ev W hf _ _ hst hd
                              obtain ⟨d68, _⟩ := hd
                              have e9 : ev (.tmp 9) = .int .i64 0 := hf 9 (by kernel_rfl)
                              have e68 : ev (.tmp 68) = .bool false := d68
                              refine ⟨fun _ => ?_, fun hne => absurd e68 hne⟩
                              refine st_value (v := .int .i64 0) ?_ (Below.refl _ _) ?_
                              · simp [execOp, go_sem, e9]
                              · exact rfl
                            · intro ev W hf hcst _ hst hd
                              obtain ⟨d69, d68, _⟩ := hd
                              have e69 : ev (.tmp 69) = .int .i64 0 := d69
                              have e68 : ev (.tmp 68) = .bool false := d68
                              refine ⟨fun _ => ?_, fun hne => absurd e68 hne⟩
                              refine st_value (v := .bool false) ?_ (Below.refl _ _) ?_
                              · simp [execOp, go_sem, e69, hcst, HT1.out]
                              · exact rfl
                            · intro ev W hf hcst _ hst hd
                              obtain ⟨d68, d70, _⟩ := hd
                              have e68 : ev (.tmp 68) = .bool false := d68
                              have e70 : ev (.tmp 70) = .bool false := d70
                              refine st_value (v := .bool false) ?_ (Below.refl _ _) ?_
                              · simp [execOp, go_sem, e68, e70, hcst]
                              · exact rfl
                            · intro ev W hf _ _ hst hd
                              obtain ⟨d71, _⟩ := hd
                              have e71 : ev (.tmp 71) = .bool false := d71
                              refine st_value (v := .bool false) ?_ (Below.refl _ _) ?_
                              · simp [execOp, go_sem, e71]
                              · exact rfl
                            · intro ev W hf _ _ hst hd
                              obtain ⟨d72, _⟩ := hd
                              have e9 : ev (.tmp 9) = .int .i64 0 := hf 9 (by kernel_rfl)
                              have e72 : ev (.tmp 72) = .bool false := d72
                              refine ⟨fun _ => ?_, fun hne => absurd e72 hne⟩
                              refine st_value (v := .int .i64 0) ?_ (Below.refl _ _) ?_
                              · simp [execOp, go_sem, e9]
                              · exact rfl
                            · intro ev W hf hcst _ hst hd
                              obtain ⟨d73, d72, _⟩ := hd
                              have e73 : ev (.tmp 73) = .int .i64 0 := d73
                              have e72 : ev (.tmp 72) = .bool false := d72
                              refine ⟨fun _ => ?_, fun hne => absurd e72 hne⟩
                              refine st_value (v := .bool true) ?_ (Below.refl _ _) ?_
                              · simp [execOp, go_sem, e73, hcst, HT2.out]
                              · exact rfl
                            · intro ev W hf _ _ hst hd
                              obtain ⟨d74, d72, _⟩ := hd
                              have e74 : ev (.tmp 74) = .bool true := d74
                              have e72 : ev (.tmp 72) = .bool false := d72
                              refine ⟨fun _ => ?_, fun hne => absurd e72 hne⟩
                              refine st_value (v := .bool true) ?_ (Below.refl _ _) ?_
                              · simp [execOp, go_sem, e74]
                              · exact rfl
                            · intro ev W hf _ _ hst hd
                              obtain ⟨d75, _⟩ := hd
                              have e6 : ev (.tmp 6) = .pointer (some ⟨A, 0, none⟩) := hf 6 (by kernel_rfl)
                              have e75 : ev (.tmp 75) = .bool true := d75
                              refine ⟨fun _ => ?_, fun hne => absurd e75 hne⟩
                              have q0 := VRow.cell (VRow.ext VA.out hst) (k := 0) rfl
                              have q1 := VRow.cell (VRow.ext VA.out hst) (k := 1) rfl
                              refine st_value (v := vecV ax ay) ?_ (Below.refl _ _) ?_
                              · simp [execOp, go_sem, e6, q0, q1, vecV]
                              · exact rfl
                            · intro ev W hf _ _ hst hd
                              obtain ⟨d75, _⟩ := hd
                              have e0 : ev (.tmp 0) = .slice (some ⟨b, o, none⟩) n cap := hf 0 (by kernel_rfl)
                              have e75 : ev (.tmp 75) = .bool true := d75
                              refine ⟨fun _ => ?_, fun hne => absurd e75 hne⟩
                              refine st_value (v := .slice (some ⟨b, o, none⟩) n cap) ?_ (Below.refl _ _) ?_
                              · simp [execOp, go_sem, e0]
                              · exact rfl
                            · intro ev W hf _ _ hst hd
                              obtain ⟨d75, _⟩ := hd
                              have e8 : ev (.tmp 8) = .int .i64 (i : Int) := hf 8 (by kernel_rfl)
                              have e75 : ev (.tmp 75) = .bool true := d75
                              refine ⟨fun _ => ?_, fun hne => absurd e75 hne⟩
                              refine st_value (v := .int .i64 (i : Int)) ?_ (Below.refl _ _) ?_
                              · simp [execOp, go_sem, e8]
                              · exact rfl
                            · intro ev W hf _ _ hst hd
                              obtain ⟨d77, d78, d75, _⟩ := hd
                              have e77 : ev (.tmp 77) = .slice (some ⟨b, o, none⟩) n cap := d77
                              have e78 : ev (.tmp 78) = .int .i64 (i : Int) := d78
                              have e75 : ev (.tmp 75) = .bool true := d75
                              refine ⟨fun _ => ?_, fun hne => absurd e75 hne⟩
                              refine st_value (v := .pointer (some ⟨b, o + i * 2, none⟩)) ?_ (Below.refl _ _) ?_
                              · simp [execOp, go_sem, e77, e78, hil]
                              · exact rfl
                            · intro ev W hf _ _ hst hd
                              obtain ⟨d79, d75, _⟩ := hd
                              have e79 : ev (.tmp 79) = .pointer (some ⟨b, o + i * 2, none⟩) := d79
                              have e75 : ev (.tmp 75) = .bool true := d75
                              refine ⟨fun _ => ?_, fun hne => absurd e75 hne⟩
                              have q0 := Ext.cell hst C1.out
                              have q1 := Ext.cell hst C2.out
                              refine st_value (v := vecV qx qy) ?_ (Below.refl _ _) ?_
                              · simp [execOp, go_sem, e79, q0, q1, vecV]
                              · exact rfl
                            · intro ev W hf _ hfn hst hd
                              obtain ⟨d76, d80, d75, _⟩ := hd
                              have e76 : ev (.tmp 76) = vecV ax ay := d76
                              have e80 : ev (.tmp 80) = vecV qx qy := d80
                              have e75 : ev (.tmp 75) = .bool true := d75
                              refine ⟨fun _ => ?_, fun hne => absurd e75 hne⟩
                              refine st_call (f := 78) (args := #[vecV ax ay, vecV qx qy]) (by simp [execOp, go_sem, hfn, e76, e80]) (HF1.out W) (fun _ _ => rfl)
                            · intro ev W hf _ _ hst hd
                              obtain ⟨d75, _⟩ := hd
                              have e6 : ev (.tmp 6) = .pointer (some ⟨A, 0, none⟩) := hf 6 (by kernel_rfl)
                              have e75 : ev (.tmp 75) = .bool true := d75
                              refine ⟨fun _ => ?_, fun hne => absurd e75 hne⟩
                              have q0 := VRow.cell (VRow.ext VA.out hst) (k := 0) rfl
                              have q1 := VRow.cell (VRow.ext VA.out hst) (k := 1) rfl
                              refine st_value (v := vecV ax ay) ?_ (Below.refl _ _) ?_
                              · simp [execOp, go_sem, e6, q0, q1, vecV]
                              · exact rfl
                            · intro ev W hf _ _ hst hd
                              obtain ⟨d75, _⟩ := hd
                              have e7 : ev (.tmp 7) = .pointer (some ⟨N, 0, none⟩) := hf 7 (by kernel_rfl)
                              have e75 : ev (.tmp 75) = .bool true := d75
                              refine ⟨fun _ => ?_, fun hne => absurd e75 hne⟩
                              have q0 := VRow.cell (VRow.ext VN.out hst) (k := 0) rfl
                              have q1 := VRow.cell (VRow.ext VN.out hst) (k := 1) rfl
                              refine st_value (v := vecV nxx nxy) ?_ (Below.refl _ _) ?_
                              · simp [execOp, go_sem, e7, q0, q1, vecV]
                              · exact rfl
                            · intro ev W hf _ hfn hst hd
                              obtain ⟨d82, d83, d75, _⟩ := hd
                              have e82 : ev (.tmp 82) = vecV ax ay := d82
                              have e83 : ev (.tmp 83) = vecV nxx nxy := d83
                              have e75 : ev (.tmp 75) = .bool true := d75
                              refine ⟨fun _ => ?_, fun hne => absurd e75 hne⟩
                              refine st_call (f := 78) (args := #[vecV ax ay, vecV nxx nxy]) (by simp [execOp, go_sem, hfn, e82, e83]) (HF2.out W) (fun _ _ => rfl)
                            · intro ev W hf _ _ hst hd
                              obtain ⟨d81, d84, d75, _⟩ := hd
                              have e81 : ev (.tmp 81) = .int .i64 F1 := d81
                              have e84 : ev (.tmp 84) = .int .i64 F2 := d84
                              have e75 : ev (.tmp 75) = .bool true := d75
                              refine ⟨fun _ => ?_, fun hne => absurd e75 hne⟩
                              refine st_value (v := .bool false) ?_ (Below.refl _ _) ?_
                              · simp [execOp, go_sem, e81, e84, HFF.out]
                              · exact rfl
                            · intro ev W hf hcst _ hst hd
                              obtain ⟨d75, d85, d72, _⟩ := hd
                              have e75 : ev (.tmp 75) = .bool true := d75
                              have e85 : ev (.tmp 85) = .bool false := d85
                              have e72 : ev (.tmp 72) = .bool false := d72
                              refine ⟨fun _ => ?_, fun hne => absurd e72 hne⟩
                              refine st_value (v := .bool false) ?_ (Below.refl _ _) ?_
                              · simp [execOp, go_sem, e75, e85, hcst]
                              · exact rfl
                            · intro ev W hf hcst _ hst hd
                              obtain ⟨d72, d86, _⟩ := hd
                              have e72 : ev (.tmp 72) = .bool false := d72
                              have e86 : ev (.tmp 86) = .bool false := d86
                              refine st_value (v := .bool false) ?_ (Below.refl _ _) ?_
                              · simp [execOp, go_sem, e72, e86, hcst]
                              · exact rfl
                          case rest =>
                            intro vs w3 hl hst hg
                            have HE3 := Lib.hid hst
                            have hvs : vs = [vecV nxx nxy, vecV ax ay, .bool false, .bool false, .int .i64 0, .bool false, .bool false, .bool false, .int .i64 0, .bool true, .bool true, vecV ax ay, .slice (some ⟨b, o, none⟩) n cap, .int .i64 (i : Int), .pointer (some ⟨b, o + i * 2, none⟩), vecV qx qy, .int .i64 F1, vecV ax ay, vecV nxx nxy, .int .i64 F2, .bool false, .bool false, .bool false] := list_of hl (fun i u hu => by
                              match i, hu with
                              | 0, hu => exact (congrArg some (hg 0 u hu)).symm
                              | 1, hu => exact (congrArg some (hg 1 u hu)).symm
                              | 2, hu => exact (congrArg some (hg 2 u hu)).symm
                              | 3, hu => exact (congrArg some (hg 3 u hu)).symm
                              | 4, hu => exact (congrArg some (hg 4 u hu)).symm
                              | 5, hu => exact (congrArg some (hg 5 u hu)).symm
                              | 6, hu => exact (congrArg some (hg 6 u hu)).symm
                              | 7, hu => exact (congrArg some (hg 7 u hu)).symm
                              | 8, hu => exact (congrArg some (hg 8 u hu)).symm
                              | 9, hu => exact (congrArg some (hg 9 u hu)).symm
                              | 10, hu => exact (congrArg some (hg 10 u hu)).symm
                              | 11, hu => exact (congrArg some (hg 11 u hu)).symm
                              | 12, hu => exact (congrArg some (hg 12 u hu)).symm
                              | 13, hu => exact (congrArg some (hg 13 u hu)).symm
                              | 14, hu => exact (congrArg some (hg 14 u hu)).symm
                              | 15, hu => exact (congrArg some (hg 15 u hu)).symm
                              | 16, hu => exact (congrArg some (hg 16 u hu)).symm
                              | 17, hu => exact (congrArg some (hg 17 u hu)).symm
                              | 18, hu => exact (congrArg some (hg 18 u hu)).symm
                              | 19, hu => exact (congrArg some (hg 19 u hu)).symm
                              | 20, hu => exact (congrArg some (hg 20 u hu)).symm
                              | 21, hu => exact (congrArg some (hg 21 u hu)).symm
                              | 22, hu => exact (congrArg some (hg 22 u hu)).symm
                              | n + 23, hu => exact absurd (lt_len hu) (by rw [hl]; simp))
                            clear hg hst hl
                            subst hvs
                            simp only [putAll, Act.put, List.dropLast, List.setIfInBounds_toArray, List.set_cons_zero, List.set_cons_succ]
                            have C1 := Lib.hid (Ext.cell HE3.out C1.out)
                            have C2 := Lib.hid (Ext.cell HE3.out C2.out)
                            have VN := Lib.hid (VRow.ext VN.out HE3.out)
                            have VA := Lib.hid (VRow.ext VA.out HE3.out)
                            have HEq := Lib.hid (Ext.trans HEq.out HE3.out)
                            clear HE3
                            go_wp2_with fail
                            exact ⟨⟨i + 1, by simp, by omega, by rw [HS.out.1, HS.out.2]; exact VN.out, VA.out, HEq.out⟩, by simp [intOf]; omega⟩
                  · have HS := Lib.hid (show (nextK ps at_ (i + 1)).1 = nx.1 ∧ (nextK ps at_ (i + 1)).2 = nx.2 from by rw [HS0.out, if_neg (fun h => h.elim hna fun h => h.elim (fun h => by omega) fun h => by omega)]; exact ⟨rfl, rfl⟩)
                    have HT1 := Lib.hid (show decide (T < 0) = false from decide_eq_false (by omega))
                    have HT2 := Lib.hid (show (T == 0) = false from beq_eq_false_iff_ne.2 (by omega))
                    clear hna HS0 hT
                    generalize q.1 = qx at *
                    generalize q.2 = qy at *
                    generalize nx.1 = nxx at *
                    generalize nx.2 = nxy at *
                    generalize at_.1 = ax at *
                    generalize at_.2 = ay at *
                    go_wp2_with fail
                    refine wp_region_stable [⟨[], none⟩, ⟨[], none⟩, ⟨[(0, 52), (1, 53)], none⟩, ⟨[(2, 54)], none⟩, ⟨[], none⟩, ⟨[(3, 55), (4, 56)], none⟩] (fun x y => Below x.heap.size x y) (MPat [MP.eq (.slice (some ⟨b, o, none⟩) n cap), MP.eq (.int .i64 (i : Int)), MP.eq (.pointer (some ⟨b, o + i * 2, none⟩)), MP.eq (vecV qx qy), MP.eq (vecV ax ay), MP.eq (.bool false)]) (by kernel_rfl) (fun _ _ _ h k => Ext.trans h k) (fun _ => Below.refl _ _) (fun x => (Below.refl x.heap.size x).drew) (MPat.mono _) (by kernel_rfl) ?obs ?rest
                    case obs =>
                      refine ⟨?_, ?_, ?_, ?_, ?_, ?_, trivial⟩
                      · intro ev W hf _ _ hst hd
                        have e0 : ev (.tmp 0) = .slice (some ⟨b, o, none⟩) n cap := hf 0 (by kernel_rfl)
                        refine st_value (v := .slice (some ⟨b, o, none⟩) n cap) ?_ (Below.refl _ _) ?_
                        · simp [execOp, go_sem, e0]
                        · exact rfl
                      · intro ev W hf _ _ hst hd
                        have e8 : ev (.tmp 8) = .int .i64 (i : Int) := hf 8 (by kernel_rfl)
                        refine st_value (v := .int .i64 (i : Int)) ?_ (Below.refl _ _) ?_
                        · simp [execOp, go_sem, e8]
                        · exact rfl
                      · intro ev W hf _ _ hst hd
                        obtain ⟨d52, d53, _⟩ := hd
                        have e52 : ev (.tmp 52) = .slice (some ⟨b, o, none⟩) n cap := d52
                        have e53 : ev (.tmp 53) = .int .i64 (i : Int) := d53
                        refine st_value (v := .pointer (some ⟨b, o + i * 2, none⟩)) ?_ (Below.refl _ _) ?_
                        · simp [execOp, go_sem, e52, e53, hil]
                        · exact rfl
                      · intro ev W hf _ _ hst hd
                        obtain ⟨d54, _⟩ := hd
                        have e54 : ev (.tmp 54) = .pointer (some ⟨b, o + i * 2, none⟩) := d54
                        have q0 := Ext.cell hst C1.out
                        have q1 := Ext.cell hst C2.out
                        refine st_value (v := vecV qx qy) ?_ (Below.refl _ _) ?_
                        · simp [execOp, go_sem, e54, q0, q1, vecV]
                        · exact rfl
                      · intro ev W hf _ _ hst hd
                        have e6 : ev (.tmp 6) = .pointer (some ⟨A, 0, none⟩) := hf 6 (by kernel_rfl)
                        have q0 := VRow.cell (VRow.ext VA.out hst) (k := 0) rfl
                        have q1 := VRow.cell (VRow.ext VA.out hst) (k := 1) rfl
                        refine st_value (v := vecV ax ay) ?_ (Below.refl _ _) ?_
                        · simp [execOp, go_sem, e6, q0, q1, vecV]
                        · exact rfl
                      · intro ev W hf _ _ hst hd
                        obtain ⟨d55, d56, _⟩ := hd
                        have e55 : ev (.tmp 55) = vecV qx qy := d55
                        have e56 : ev (.tmp 56) = vecV ax ay := d56
                        refine st_value (v := .bool false) ?_ (Below.refl _ _) ?_
                        · simp [execOp, go_sem, e55, e56, HQA.out, vecV]
                        · exact rfl
                    case rest =>
                      intro vs w3 hl hst hg
                      have HE3 := Lib.hid hst
                      have hvs : vs = [.slice (some ⟨b, o, none⟩) n cap, .int .i64 (i : Int), .pointer (some ⟨b, o + i * 2, none⟩), vecV qx qy, vecV ax ay, .bool false] := list_of hl (fun i u hu => by
                        match i, hu with
                        | 0, hu => exact (congrArg some (hg 0 u hu)).symm
                        | 1, hu => exact (congrArg some (hg 1 u hu)).symm
                        | 2, hu => exact (congrArg some (hg 2 u hu)).symm
                        | 3, hu => exact (congrArg some (hg 3 u hu)).symm
                        | 4, hu => exact (congrArg some (hg 4 u hu)).symm
                        | 5, hu => exact (congrArg some (hg 5 u hu)).symm
                        | n + 6, hu => exact absurd (lt_len hu) (by rw [hl]; simp))
                      clear hg hst hl
                      subst hvs
                      simp only [putAll, Act.put, List.dropLast, List.setIfInBounds_toArray, List.set_cons_zero, List.set_cons_succ]
                      have C1 := Lib.hid (Ext.cell HE3.out C1.out)
                      have C2 := Lib.hid (Ext.cell HE3.out C2.out)
                      have VN := Lib.hid (VRow.ext VN.out HE3.out)
                      have VA := Lib.hid (VRow.ext VA.out HE3.out)
                      have HEq := Lib.hid (Ext.trans HEq.out HE3.out)
                      clear HE3
                      go_wp2_with fail
                      refine wp_region_stable_last [⟨[], none⟩, ⟨[], none⟩, ⟨[], none⟩, ⟨[], none⟩, ⟨[(2, 60), (3, 61)], none⟩, ⟨[(4, 62)], none⟩, ⟨[(0, 58), (1, 59), (5, 63)], none⟩] (fun x y => Below x.heap.size x y) (MPat [MP.eq (vecV ax ay), MP.eq (vecV nxx nxy), MP.eq (.slice (some ⟨b, o, none⟩) n cap), MP.eq (.int .i64 (i : Int)), MP.eq (.pointer (some ⟨b, o + i * 2, none⟩)), MP.eq (vecV qx qy), MP.eq (.int .i64 T)]) rfl (by kernel_rfl) (fun _ _ _ h k => Ext.trans h k) (fun _ => Below.refl _ _) (fun x => (Below.refl x.heap.size x).drew) (MPat.mono _) (by kernel_rfl) (by kernel_rfl) (by kernel_rfl) ?obs ?rest
                      case obs =>
                        refine ⟨?_, ?_, ?_, ?_, ?_, ?_, ?_, trivial⟩
                        · intro ev W hf _ _ hst hd
                          have e6 : ev (.tmp 6) = .pointer (some ⟨A, 0, none⟩) := hf 6 (by kernel_rfl)
                          have q0 := VRow.cell (VRow.ext VA.out hst) (k := 0) rfl
                          have q1 := VRow.cell (VRow.ext VA.out hst) (k := 1) rfl
                          refine st_value (v := vecV ax ay) ?_ (Below.refl _ _) ?_
                          · simp [execOp, go_sem, e6, q0, q1, vecV]
                          · exact rfl
                        · intro ev W hf _ _ hst hd
                          have e7 : ev (.tmp 7) = .pointer (some ⟨N, 0, none⟩) := hf 7 (by kernel_rfl)
                          have q0 := VRow.cell (VRow.ext VN.out hst) (k := 0) rfl
                          have q1 := VRow.cell (VRow.ext VN.out hst) (k := 1) rfl
                          refine st_value (v := vecV nxx nxy) ?_ (Below.refl _ _) ?_
                          · simp [execOp, go_sem, e7, q0, q1, vecV]
                          · exact rfl
                        · intro ev W hf _ _ hst hd
                          have e0 : ev (.tmp 0) = .slice (some ⟨b, o, none⟩) n cap := hf 0 (by kernel_rfl)
                          refine st_value (v := .slice (some ⟨b, o, none⟩) n cap) ?_ (Below.refl _ _) ?_
                          · simp [execOp, go_sem, e0]
                          · exact rfl
                        · intro ev W hf _ _ hst hd
                          have e8 : ev (.tmp 8) = .int .i64 (i : Int) := hf 8 (by kernel_rfl)
                          refine st_value (v := .int .i64 (i : Int)) ?_ (Below.refl _ _) ?_
                          · simp [execOp, go_sem, e8]
                          · exact rfl
                        · intro ev W hf _ _ hst hd
                          obtain ⟨d60, d61, _⟩ := hd
                          have e60 : ev (.tmp 60) = .slice (some ⟨b, o, none⟩) n cap := d60
                          have e61 : ev (.tmp 61) = .int .i64 (i : Int) := d61
                          refine st_value (v := .pointer (some ⟨b, o + i * 2, none⟩)) ?_ (Below.refl _ _) ?_
                          · simp [execOp, go_sem, e60, e61, hil]
                          · exact rfl
                        · intro ev W hf _ _ hst hd
                          obtain ⟨d62, _⟩ := hd
                          have e62 : ev (.tmp 62) = .pointer (some ⟨b, o + i * 2, none⟩) := d62
                          have q0 := Ext.cell hst C1.out
                          have q1 := Ext.cell hst C2.out
                          refine st_value (v := vecV qx qy) ?_ (Below.refl _ _) ?_
                          · simp [execOp, go_sem, e62, q0, q1, vecV]
                          · exact rfl
                        · intro ev W hf _ hfn hst hd
                          obtain ⟨d58, d59, d63, _⟩ := hd
                          have e58 : ev (.tmp 58) = vecV ax ay := d58
                          have e59 : ev (.tmp 59) = vecV nxx nxy := d59
                          have e63 : ev (.tmp 63) = vecV qx qy := d63
                          refine st_call (f := 50) (args := #[vecV ax ay, vecV nxx nxy, vecV qx qy]) (by simp [execOp, go_sem, hfn, e58, e59, e63]) (HTW.out W) (fun _ _ => rfl)
                      case rest =>
                        intro vs w3 hl hst hg
                        have HE3 := Lib.hid hst
                        have hvs : vs = [vecV ax ay, vecV nxx nxy, .slice (some ⟨b, o, none⟩) n cap, .int .i64 (i : Int), .pointer (some ⟨b, o + i * 2, none⟩), vecV qx qy, .int .i64 T] := list_of hl (fun i u hu => by
                          match i, hu with
                          | 0, hu => exact (congrArg some (hg 0 u hu)).symm
                          | 1, hu => exact (congrArg some (hg 1 u hu)).symm
                          | 2, hu => exact (congrArg some (hg 2 u hu)).symm
                          | 3, hu => exact (congrArg some (hg 3 u hu)).symm
                          | 4, hu => exact (congrArg some (hg 4 u hu)).symm
                          | 5, hu => exact (congrArg some (hg 5 u hu)).symm
                          | 6, hu => exact (congrArg some (hg 6 u hu)).symm
                          | n + 7, hu => exact absurd (lt_len hu) (by rw [hl]; simp))
                        clear hg hst hl
                        subst hvs
                        simp only [putAll, Act.put, List.dropLast, List.setIfInBounds_toArray, List.set_cons_zero, List.set_cons_succ]
                        have C1 := Lib.hid (Ext.cell HE3.out C1.out)
                        have C2 := Lib.hid (Ext.cell HE3.out C2.out)
                        have VN := Lib.hid (VRow.ext VN.out HE3.out)
                        have VA := Lib.hid (VRow.ext VA.out HE3.out)
                        have HEq := Lib.hid (Ext.trans HEq.out HE3.out)
                        clear HE3
                        go_wp2_with fail
                        refine wp_region_stable [⟨[], none⟩, ⟨[], none⟩, ⟨[(0, 65), (1, 66)], none⟩, ⟨[(2, 67)], none⟩, ⟨[(3, 68)], some (68, false)⟩, ⟨[(4, 69), (3, 68)], some (68, false)⟩, ⟨[(3, 68), (5, 70)], none⟩, ⟨[(6, 71)], none⟩, ⟨[(7, 72)], some (72, false)⟩, ⟨[(8, 73), (7, 72)], some (72, false)⟩, ⟨[(9, 74), (7, 72)], some (72, false)⟩, ⟨[(10, 75)], some (75, true)⟩, ⟨[(10, 75)], some (75, true)⟩, ⟨[(10, 75)], some (75, true)⟩, ⟨[(12, 77), (13, 78), (10, 75)], some (75, true)⟩, ⟨[(14, 79), (10, 75)], some (75, true)⟩, ⟨[(11, 76), (15, 80), (10, 75)], some (75, true)⟩, ⟨[(10, 75)], some (75, true)⟩, ⟨[(10, 75)], some (75, true)⟩, ⟨[(17, 82), (18, 83), (10, 75)], some (75, true)⟩, ⟨[(16, 81), (19, 84), (10, 75)], some (75, true)⟩, ⟨[(10, 75), (20, 85), (7, 72)], some (72, false)⟩, ⟨[(7, 72), (21, 86)], none⟩] (fun x y => Below x.heap.size x y) (MPat [MP.eq (vecV nxx nxy), MP.eq (vecV ax ay), MP.eq (.bool false), MP.eq (.bool false), MP.eq (.int .i64 T), MP.eq (.bool false), MP.eq (.bool false), MP.eq (.bool false), MP.eq (.int .i64 T), MP.eq (.bool false), MP.eq (.bool false), MP.eq (undef), MP.eq (undef), MP.eq (undef), MP.eq (undef), MP.eq (undef), MP.eq (undef), MP.eq (undef), MP.eq (undef), MP.eq (undef), MP.eq (undef), MP.eq (.bool false), MP.eq (.bool false)]) (by kernel_rfl) (fun _ _ _ h k => Ext.trans h k) (fun _ => Below.refl _ _) (fun x => (Below.refl x.heap.size x).drew) (MPat.mono _) (by kernel_rfl) ?obs ?rest
                        case obs =>
                          refine ⟨?_, ?_, ?_, ?_, ?_, ?_, ?_, ?_, ?_, ?_, ?_, ?_, ?_, ?_, ?_, ?_, ?_, ?_, ?_, ?_, ?_, ?_, ?_, trivial⟩
                          · intro ev W hf _ _ hst hd
                            have e7 : ev (.tmp 7) = .pointer (some ⟨N, 0, none⟩) := hf 7 (by kernel_rfl)
                            have q0 := VRow.cell (VRow.ext VN.out hst) (k := 0) rfl
                            have q1 := VRow.cell (VRow.ext VN.out hst) (k := 1) rfl
                            refine st_value (v := vecV nxx nxy) ?_ (Below.refl _ _) ?_
                            · simp [execOp, go_sem, e7, q0, q1, vecV]
                            · exact rfl
                          · intro ev W hf _ _ hst hd
                            have e6 : ev (.tmp 6) = .pointer (some ⟨A, 0, none⟩) := hf 6 (by kernel_rfl)
                            have q0 := VRow.cell (VRow.ext VA.out hst) (k := 0) rfl
                            have q1 := VRow.cell (VRow.ext VA.out hst) (k := 1) rfl
                            refine st_value (v := vecV ax ay) ?_ (Below.refl _ _) ?_
                            · simp [execOp, go_sem, e6, q0, q1, vecV]
                            · exact rfl
                          · intro ev W hf _ _ hst hd
                            obtain ⟨d65, d66, _⟩ := hd
                            have e65 : ev (.tmp 65) = vecV nxx nxy := d65
                            have e66 : ev (.tmp 66) = vecV ax ay := d66
                            refine st_value (v := .bool false) ?_ (Below.refl _ _) ?_
                            · simp [execOp, go_sem, e65, e66, HNA.out, vecV]
                            · exact rfl
                          · intro ev W hf _ _ hst hd
                            obtain ⟨d67, _⟩ := hd
                            have e67 : ev (.tmp 67) = .bool false := d67
                            refine st_value (v := .bool false) ?_ (Below.refl _ _) ?_
                            · simp [execOp, go_sem, e67]
                            · exact rfl
                          · intro ev W hf _ _ hst hd
                            obtain ⟨d68, _⟩ := hd
                            have e9 : ev (.tmp 9) = .int .i64 T := hf 9 (by kernel_rfl)
                            have e68 : ev (.tmp 68) = .bool false := d68
                            refine ⟨fun _ => ?_, fun hne => absurd e68 hne⟩
                            refine st_value (v := .int .i64 T) ?_ (Below.refl _ _) ?_
                            · simp [execOp, go_sem, e9]
                            · exact rfl
                          · intro ev W hf hcst _ hst hd
                            obtain ⟨d69, d68, _⟩ := hd
                            have e69 : ev (.tmp 69) = .int .i64 T := d69
                            have e68 : ev (.tmp 68) = .bool false := d68
                            refine ⟨fun _ => ?_, fun hne => absurd e68 hne⟩
                            refine st_value (v := .bool false) ?_ (Below.refl _ _) ?_
                            · simp [execOp, go_sem, e69, hcst, HT1.out]
                            · exact rfl
                          · intro ev W hf hcst _ hst hd
                            obtain ⟨d68, d70, _⟩ := hd
                            have e68 : ev (.tmp 68) = .bool false := d68
                            have e70 : ev (.tmp 70) = .bool false := d70
                            refine st_value (v := .bool false) ?_ (Below.refl _ _) ?_
                            · simp [execOp, go_sem, e68, e70, hcst]
                            · exact rfl
                          · intro ev W hf _ _ hst hd
                            obtain ⟨d71, _⟩ := hd
                            have e71 : ev (.tmp 71) = .bool false := d71
                            refine st_value (v := .bool false) ?_ (Below.refl _ _) ?_
                            · simp [execOp, go_sem, e71]
                            · exact rfl
                          · intro ev W hf _ _ hst hd
                            obtain ⟨d72, _⟩ := hd
                            have e9 : ev (.tmp 9) = .int .i64 T := hf 9 (by kernel_rfl)
                            have e72 : ev (.tmp 72) = .bool false := d72
                            refine ⟨fun _ => ?_, fun hne => absurd e72 hne⟩
                            refine st_value (v := .int .i64 T) ?_ (Below.refl _ _) ?_
                            · simp [execOp, go_sem, e9]
                            · exact rfl
                          · intro ev W hf hcst _ hst hd
                            obtain ⟨d73, d72, _⟩ := hd
                            have e73 : ev (.tmp 73) = .int .i64 T := d73
                            have e72 : ev (.tmp 72) = .bool false := d72
                            refine ⟨fun _ => ?_, fun hne => absurd e72 hne⟩
                            refine st_value (v := .bool false) ?_ (Below.refl _ _) ?_
                            · simp [execOp, go_sem, e73, hcst, HT2.out]
                            · exact rfl
                          · intro ev W hf _ _ hst hd
                            obtain ⟨d74, d72, _⟩ := hd
                            have e74 : ev (.tmp 74) = .bool false := d74
                            have e72 : ev (.tmp 72) = .bool false := d72
                            refine ⟨fun _ => ?_, fun hne => absurd e72 hne⟩
                            refine st_value (v := .bool false) ?_ (Below.refl _ _) ?_
                            · simp [execOp, go_sem, e74]
                            · exact rfl
                          · intro ev W hf _ _ hst hd
                            obtain ⟨d75, _⟩ := hd
                            have e75 : ev (.tmp 75) = .bool false := d75
                            refine ⟨fun hh => ?_, fun _ => rfl⟩
                            rw [e75] at hh
                            simp at hh
                          · intro ev W hf _ _ hst hd
                            obtain ⟨d75, _⟩ := hd
                            have e75 : ev (.tmp 75) = .bool false := d75
                            refine ⟨fun hh => ?_, fun _ => rfl⟩
                            rw [e75] at hh
                            simp at hh
                          · intro ev W hf _ _ hst hd
                            obtain ⟨d75, _⟩ := hd
                            have e75 : ev (.tmp 75) = .bool false := d75
                            refine ⟨fun hh => ?_, fun _ => rfl⟩
                            rw [e75] at hh
                            simp at hh
                          · intro ev W hf _ _ hst hd
                            obtain ⟨d77, d78, d75, _⟩ := hd
                            have e75 : ev (.tmp 75) = .bool false := d75
                            refine ⟨fun hh => ?_, fun _ => rfl⟩
                            rw [e75] at hh
                            simp at hh
                          · intro ev W hf _ _ hst hd
                            obtain ⟨d79, d75, _⟩ := hd
                            have e75 : ev (.tmp 75) = .bool false := d75
                            refine ⟨fun hh => ?_, fun _ => rfl⟩
                            rw [e75] at hh
                            simp at hh
                          · intro ev W hf _ _ hst hd
                            obtain ⟨d76, d80, d75, _⟩ := hd
                            have e75 : ev (.tmp 75) = .bool false := d75
                            refine ⟨fun hh => ?_, fun _ => rfl⟩
                            rw [e75] at hh
                            simp at hh
                          · intro ev W hf _ _ hst hd
                            obtain ⟨d75, _⟩ := hd
                            have e75 : ev (.tmp 75) = .bool false := d75
                            refine ⟨fun hh => ?_, fun _ => rfl⟩
                            rw [e75] at hh
                            simp at hh
                          · intro ev W hf _ _ hst hd
                            obtain ⟨d75, _⟩ := hd
                            have e75 : ev (.tmp 75) = .bool false := d75
                            refine ⟨fun hh => ?_, fun _ => rfl⟩
                            rw [e75] at hh
                            simp at hh
                          · intro ev W hf _ _ hst hd
                            obtain ⟨d82, d83, d75, _⟩ := hd
                            have e75 : ev (.tmp 75) = .bool false := d75
                            refine ⟨fun hh => ?_, fun _ => rfl⟩
                            rw [e75] at hh
                            simp at hh
                          · intro ev W hf _ _ hst hd
                            obtain ⟨d81, d84, d75, _⟩ := hd
                            have e75 : ev (.tmp 75) = .bool false := d75
                            refine ⟨fun hh => ?_, fun _ => rfl⟩
                            rw [e75] at hh
                            simp at hh
                          · intro ev W hf hcst _ hst hd
                            obtain ⟨d75, d85, d72, _⟩ := hd
                            have e75 : ev (.tmp 75) = .bool false := d75
                            have e85 : ev (.tmp 85) = undef := d85
                            have e72 : ev (.tmp 72) = .bool false := d72
                            refine ⟨fun _ => ?_, fun hne => absurd e72 hne⟩
                            refine st_value (v := .bool false) ?_ (Below.refl _ _) ?_
                            · simp [execOp, go_sem, e75, e85, hcst]
                            · exact rfl
                          · intro ev W hf hcst _ hst hd
                            obtain ⟨d72, d86, _⟩ := hd
                            have e72 : ev (.tmp 72) = .bool false := d72
                            have e86 : ev (.tmp 86) = .bool false := d86
                            refine st_value (v := .bool false) ?_ (Below.refl _ _) ?_
                            · simp [execOp, go_sem, e72, e86, hcst]
                            · exact rfl
                        case rest =>
                          intro vs w3 hl hst hg
                          have HE3 := Lib.hid hst
                          have hvs : vs = [vecV nxx nxy, vecV ax ay, .bool false, .bool false, .int .i64 T, .bool false, .bool false, .bool false, .int .i64 T, .bool false, .bool false, undef, undef, undef, undef, undef, undef, undef, undef, undef, undef, .bool false, .bool false] := list_of hl (fun i u hu => by
                            match i, hu with
                            | 0, hu => exact (congrArg some (hg 0 u hu)).symm
                            | 1, hu => exact (congrArg some (hg 1 u hu)).symm
                            | 2, hu => exact (congrArg some (hg 2 u hu)).symm
                            | 3, hu => exact (congrArg some (hg 3 u hu)).symm
                            | 4, hu => exact (congrArg some (hg 4 u hu)).symm
                            | 5, hu => exact (congrArg some (hg 5 u hu)).symm
                            | 6, hu => exact (congrArg some (hg 6 u hu)).symm
                            | 7, hu => exact (congrArg some (hg 7 u hu)).symm
                            | 8, hu => exact (congrArg some (hg 8 u hu)).symm
                            | 9, hu => exact (congrArg some (hg 9 u hu)).symm
                            | 10, hu => exact (congrArg some (hg 10 u hu)).symm
                            | 11, hu => exact (congrArg some (hg 11 u hu)).symm
                            | 12, hu => exact (congrArg some (hg 12 u hu)).symm
                            | 13, hu => exact (congrArg some (hg 13 u hu)).symm
                            | 14, hu => exact (congrArg some (hg 14 u hu)).symm
                            | 15, hu => exact (congrArg some (hg 15 u hu)).symm
                            | 16, hu => exact (congrArg some (hg 16 u hu)).symm
                            | 17, hu => exact (congrArg some (hg 17 u hu)).symm
                            | 18, hu => exact (congrArg some (hg 18 u hu)).symm
                            | 19, hu => exact (congrArg some (hg 19 u hu)).symm
                            | 20, hu => exact (congrArg some (hg 20 u hu)).symm
                            | 21, hu => exact (congrArg some (hg 21 u hu)).symm
                            | 22, hu => exact (congrArg some (hg 22 u hu)).symm
                            | n + 23, hu => exact absurd (lt_len hu) (by rw [hl]; simp))
                          clear hg hst hl
                          subst hvs
                          simp only [putAll, Act.put, List.dropLast, List.setIfInBounds_toArray, List.set_cons_zero, List.set_cons_succ]
                          have C1 := Lib.hid (Ext.cell HE3.out C1.out)
                          have C2 := Lib.hid (Ext.cell HE3.out C2.out)
                          have VN := Lib.hid (VRow.ext VN.out HE3.out)
                          have VA := Lib.hid (VRow.ext VA.out HE3.out)
                          have HEq := Lib.hid (Ext.trans HEq.out HE3.out)
                          clear HE3
                          go_wp2_with fail
                          exact ⟨⟨i + 1, by simp, by omega, by rw [HS.out.1, HS.out.2]; exact VN.out, VA.out, HEq.out⟩, by simp [intOf]; omega⟩
            · have hilz : ¬ (i : Int) < (n : Int) := by omega
              have hin : i = n := by omega
              have HNX := Lib.hid (show nextK ps at_ i = wrapK ps a (m + 1) from by rw [hin, HN.out, HAT.out]; rfl)
              clear hin
              rw [HNX.out] at VN
              obtain ⟨nx, hnx⟩ : ∃ nx, nx = wrapK ps a (m + 1) := ⟨_, rfl⟩
              rw [← hnx] at VN
              have HNXE := Lib.hid hnx
              clear hnx
              have HVq := Lib.hid (VRow.ext HV.out HEq.out)
              have l0 := VRow.cell HVq.out (k := 0) rfl
              have l1 := VRow.cell HVq.out (k := 1) rfl
              have n0 := VRow.cell VN.out (k := 0) rfl
              have n1 := VRow.cell VN.out (k := 1) rfl
              have a0 := VRow.cell VA.out (k := 0) rfl
              have a1 := VRow.cell VA.out (k := 1) rfl
              have HOq := Lib.hid (ownsRow_ext HO.out HEq.out)
              by_cases hna : nx = a
              · have HEND := Lib.hid (show WrapEnd ps a (m + 1) from ⟨by omega, by rw [← HN.out]; omega, HON.out, .inr (.inl (by rw [← HNXE.out]; exact hna))⟩)
                have heq := fun W => (show Sem.run Try.prog (binOp .eql 32 (.agg #[.int .i64 nx.1, .int .i64 nx.2]) (.agg #[.int .i64 a.1, .int .i64 a.2])) W = .ok (.bool true) W from by rw [hna]; exact veq_t _ _ W)
                clear hna
                go_wp2_with fail
                go_ret
                exact ⟨_, rfl, _, HEND.out, own_mono2 HOq.out (by have := HG.out; omega), Ext.trans HE.out HEq.out⟩
              · have heq := fun W => veq_f nx.1 nx.2 a.1 a.2 (pt_ne hna) W
                by_cases hnt : nx = at_
                · have HEND := Lib.hid (show WrapEnd ps a (m + 1) from ⟨by omega, by rw [← HN.out]; omega, HON.out, .inr (.inr (by rw [← HNXE.out, hnt, HAT.out]; rfl))⟩)
                  have heq2 := fun W => (show Sem.run Try.prog (binOp .eql 32 (.agg #[.int .i64 nx.1, .int .i64 nx.2]) (.agg #[.int .i64 at_.1, .int .i64 at_.2])) W = .ok (.bool true) W from by rw [hnt]; exact veq_t _ _ W)
                  clear hna hnt
                  go_wp2_with fail
                  go_ret
                  exact ⟨_, rfl, _, HEND.out, own_mono2 HOq.out (by have := HG.out; omega), Ext.trans HE.out HEq.out⟩
                · have heq2 := fun W => veq_f nx.1 nx.2 at_.1 at_.2 (pt_ne hnt) W
                  have HON2 := Lib.hid (show ∀ k, 1 ≤ k → k < m + 1 + 1 → wrapK ps a k ≠ a ∧ wrapK ps a k ≠ wrapK ps a (k - 1) from fun k h1 h2 => by
                    by_cases e : k = m + 1
                    · rw [e, ← HNXE.out]
                      exact ⟨hna, by rw [show m + 1 - 1 = m by omega, ← HAT.out]; exact hnt⟩
                    · exact HON.out k h1 (by omega))
                  have HWL := Lib.hid (show cellsOf (wrapL ps a (m + 1 + 1)) = cellsOf (wrapL ps a (m + 1)) ++ [.int .i64 nx.1, .int .i64 nx.2] from by
                    rw [show wrapL ps a (m + 1 + 1) = wrapL ps a (m + 1) ++ [wrapK ps a (m + 1)] by unfold wrapL; rw [List.range_succ, List.map_append]; rfl, cellsOf_append, ← HNXE.out]; rfl)
                  have hEa := Ext.alloc HEq.out (.cells #[.int .i64 nx.1, .int .i64 nx.2] 32)
                  have HOW := Lib.hid (ownsRow_ext HO.out hEa)
                  have HEa := Lib.hid hEa
                  have HVa := Lib.hid (VRow.ext HV.out hEa)
                  have hgs := HGS.out
                  have hwq := HEq.out.size
                  have hob : ∀ x, Value.ownBlock (.slice (some ⟨ob, oo, none⟩) (m + 1) oc) = some x → g + 1 ≤ x := fun x hx => own_block HO.out hx
                  clear hna hnt hEa
                  generalize nx.1 = n1x at *
                  generalize nx.2 = n1y at *
                  go_wp2_with (at_builtin; (refine wpList_append_own _ rfl _ _ 22 rfl (g + 1) 32 i0 (.agg #[.int .i64 0, .int .i64 0]) 2 16 Try.underlying22 HI.out HZ0.out HZ1.out HZ2.out rfl (by decide) _ _ _ rfl HOW.out ⟨wq.heap.size, 0, none⟩ 1 1 [.int .i64 n1x, .int .i64 n1y] rfl rfl (fun j u h => cell_two_new wq _ _ 32 j u h) (by simp [Value.oneCell']) (by unfold maxLen; omega) (by omega) (by simp; omega) ?_; intro v' w' hown' hgrow hnil; have HO10 := Lib.hid hown'; have HG10 := Lib.hid hgrow; clear hown' hgrow hnil))
                  obtain ⟨va, vc, rfl⟩ := own_slice2 HO10.out
                  have hsz := HG10.out.size
                  refine ⟨⟨m + 1, rfl, by omega, ?_, VRow.grown HVa.out HG10.out (fun e => ?_), HON2.out, Below.grown (Ext.trans HE.out HEa.out) HG10.out (by have := HG.out; have := HE.out.size; have := HEa.out.size; omega) (fun x e => by have := hob x e; have := HG.out; omega)⟩, by simp [lenOf]; omega⟩
                  · rw [HWL.out]; exact HO10.out
                  · have := hob g e.symm; omega
        · have HEND := Lib.hid (show WrapEnd ps a (m + 1) from ⟨by omega, by rw [← HN.out]; omega, HON.out, .inl (by rw [← HN.out]; omega)⟩)
          have hmz : ¬ (m : Int) + 1 ≤ (n : Int) := by omega
          clear hvs
          go_wp2_with fail
          go_ret
          exact ⟨_, rfl, _, HEND.out, own_mono2 HO.out (by have := HG.out; omega), HE.out⟩
end Go.Proofs.Ytbdppephmlkbaaa

namespace Go.Proofs.Ytbdppephmlkbaaa
set_option maxRecDepth 100000
open Go.RowKit Go.Shelf
attribute [local go_sem] Oper.semAt_some
/-! The reference's result and Hull. -/
theorem nil_own2 (w : World) (c : Nat) : w.ownsRow c 32 2 (.slice none 0 0) ([] : List Pt).length (cellsOf []) := ⟨rfl, .inl ⟨rfl, rfl⟩⟩
/-- what result gives -/
def resV (v : Value) (ps : List Pt) : Ending := if ps.any farP = true then two (.slice none 0 0) (.int .i64 4) else if 32 < ps.length then two (.slice none 0 0) (.int .i64 8) else two v (.int .i64 0)
theorem any_far {ps : List Pt} {k : Nat} (hk : k < ps.length) (h : farB (fromP ps k).1 (fromP ps k).2 = true) : ps.any farP = true := by
  obtain ⟨q, hq⟩ := getElem?_len hk
  exact any_at hq (by rw [fromP_of hq] at h; exact h)
set_option maxHeartbeats 4000000 in
theorem result_c (v : Value) (ps : List Pt) (w : World) (hv : Vecs w v ps) (h1 : 1 ≤ ps.length) :
    Calls Try.prog 44 #[v] w fun e w' => e = resV v ps ∧ Ext w w' := by
  obtain ⟨b, o, cap, rfl, hl, hm, hc⟩ := vecs_cells hv h1
  have HC := Lib.hid hc
  obtain ⟨n, hn⟩ : ∃ n, n = ps.length := ⟨_, rfl⟩
  rw [← hn] at HC hl ⊢
  have HN := Lib.hid hn
  clear hv hc hn h1
  go_enter Try.func44, Try.ntmps44
  go_wp2_with fail
  go_loopw [4] (fun iv wr => ∃ k : Nat, iv = .int .i64 (k : Int) ∧ k ≤ n ∧ (∀ j, j < k → farB (fromP ps j).1 (fromP ps j).2 = false) ∧ Ext w wr) (fun iv _ => n - (intOf iv).toNat)
  case atStart => exact ⟨0, rfl, Nat.zero_le _, fun j hj => by omega, Ext.refl _⟩
  case round =>
    rename World => wr
    obtain ⟨k, rfl, hk, hall, hE⟩ := hrel
    have HALL := Lib.hid hall
    have HE := Lib.hid hE
    clear hall hE
    by_cases hlt : k < n
    · obtain ⟨c1, c2⟩ := HC.out k hlt
      have c1 := Ext.cell HE.out c1
      have c2 := Ext.cell HE.out c2
      have k1 := cell_lt c1
      obtain ⟨x, hx⟩ : ∃ x, x = (fromP ps k).1 := ⟨_, rfl⟩
      obtain ⟨y, hy⟩ : ∃ y, y = (fromP ps k).2 := ⟨_, rfl⟩
      rw [← hx] at c1
      rw [← hy] at c2
      have HX := Lib.hid hx
      have HY := Lib.hid hy
      clear hx hy
      have hkz : (k : Int) < (n : Int) := by omega
      go_wp2_with fail
      refine (good_c x y _).mono ?_
      rintro e w2 ⟨rfl, hE⟩
      have HE2 := Lib.hid (Ext.trans HE.out hE)
      clear hE c1 c2 k1
      cases hf : farB x y with
      | true =>
        have HF := Lib.hid (show ps.any farP = true from any_far (k := k) (by have := HN.out; omega) (by rw [← HX.out, ← HY.out]; exact hf))
        clear hf
        go_wp2_with fail
        go_ret2
        exact ⟨(show resV _ ps = _ from if_pos HF.out).symm, HE2.out⟩
      | false =>
        have HT := Lib.hid (show ∀ j, j < k + 1 → farB (fromP ps j).1 (fromP ps j).2 = false from fun j hj => by
          by_cases e : j = k
          · rw [e, ← HX.out, ← HY.out]; exact hf
          · exact HALL.out j (by omega))
        clear hf
        go_wp2_with fail
        exact ⟨⟨k + 1, by simp, by omega, HT.out, HE2.out⟩, by simp [intOf]; omega⟩
    · have hkz : ¬ (k : Int) < (n : Int) := by omega
      have HNF := Lib.hid (near_from (ps := ps) fun j hj => HALL.out j (by have := HN.out; omega))
      clear hlt
      have hn := HN.out
      by_cases h32 : 32 < n
      · have h32z : 32 < (n : Int) := by omega
        have HR := Lib.hid (show resV (.slice (some ⟨b, o, none⟩) n cap) ps = two (.slice none 0 0) (.int .i64 8) from by unfold resV; rw [if_neg (by rw [HNF.out]; decide), if_pos (by omega)])
        clear hn
        go_wp2_with fail
        go_ret2
        exact ⟨HR.out.symm, HE.out⟩
      · have h32z : ¬ 32 < (n : Int) := by omega
        have HR := Lib.hid (show resV (.slice (some ⟨b, o, none⟩) n cap) ps = two (.slice (some ⟨b, o, none⟩) n cap) (.int .i64 0) from by unfold resV; rw [if_neg (by rw [HNF.out]; decide), if_neg (by omega)])
        clear hn
        go_wp2_with fail
        go_ret2
        exact ⟨HR.out.symm, HE.out⟩

theorem wrap0_c (v : Value) (w : World) (hv : Vecs w v []) :
    Calls Try.prog 43 #[v] w fun e w' => e = .returned (.slice none 0 0) ∧ Ext w w' := by
  obtain ⟨a, cap, rfl, hl, hm, _⟩ := hv.at
  clear hv
  go_enter Try.func43, Try.ntmps43
  go_wp2_with fail
  go_ret
  exact ⟨rfl, Ext.refl _⟩
theorem wrap_in {ps : List Pt} {K : Nat} (h1 : 1 ≤ ps.length) (w : WrapEnd ps (lowK ps (ps.length - 1)) K) : ∀ k, wrapK ps (lowK ps (ps.length - 1)) k ∈ ps := by
  intro k
  induction k with
  | zero => exact (low_all h1).1
  | succ k ih =>
    show nextK ps (wrapK ps _ k) ps.length ∈ ps
    rcases next_mem (l := ps) (a := wrapK ps (lowK ps (ps.length - 1)) k) ps.length (Nat.le_refl _) with e | e
    · rw [e]; exact ih
    · exact e.1
/-- what the reference's Hull answers -/
def RHullS (ps : List Pt) (er : Int) (hs : List Pt) : Prop :=
  (200 < ps.length ∧ er = 3 ∧ hs = []) ∨ (ps.length ≤ 200 ∧ ps.any farP = true ∧ er = 2 ∧ hs = []) ∨
  (ps.length ≤ 200 ∧ ps.any farP = false ∧ ((ps = [] ∧ er = 10 ∧ hs = []) ∨ ∃ K, 1 ≤ ps.length ∧ WrapEnd ps (lowK ps (ps.length - 1)) K ∧
    ((K < 3 ∧ er = 10 ∧ hs = []) ∨ (3 ≤ K ∧ 32 < K ∧ er = 8 ∧ hs = []) ∨ (3 ≤ K ∧ K ≤ 32 ∧ er = 0 ∧ hs = wrapL ps (lowK ps (ps.length - 1)) K))))
set_option maxHeartbeats 4000000 in
theorem rHull_c (v : Value) (ps : List Pt) (w : World) (hv : Vecs w v ps) :
    Calls Try.prog 11 #[v] w fun e w' => ∃ r er hs, e = two r (.int .i64 er) ∧ RHullS ps er hs ∧ w'.ownsRow w.heap.size 32 2 r hs.length (cellsOf hs) ∧ Ext w w' := by
  by_cases h0 : ps = []
  · subst h0
    have HV := Lib.hid hv
    obtain ⟨a, cap, rfl, hl, hm, _⟩ := hv.at
    clear hv
    go_enter Try.func11, Try.ntmps11
    go_wp2_with fail
    go_loopw [4] (fun iv wr => iv = .int .i64 0 ∧ wr = w) (fun iv _ => 0)
    case atStart => exact ⟨rfl, rfl⟩
    case round =>
      rename World => wr
      obtain ⟨rfl, rfl⟩ := hrel
      go_wp2_with fail
      refine (wrap0_c _ _ HV.out).mono ?_
      rintro e w2 ⟨rfl, hE⟩
      have HE2 := Lib.hid hE
      clear hE
      go_wp2_with fail
      go_ret2
      exact ⟨_, 10, [], rfl, .inr (.inr ⟨by decide, rfl, .inl ⟨rfl, rfl, rfl⟩⟩), nil_own2 _ _, HE2.out⟩
  have h1 : 1 ≤ ps.length := by
    cases ps with
    | nil => exact absurd rfl h0
    | cons _ _ => simp
  have HV := Lib.hid hv
  obtain ⟨b, o, cap, rfl, hl, hm, hc⟩ := vecs_cells hv h1
  have HC := Lib.hid hc
  obtain ⟨n, hn⟩ : ∃ n, n = ps.length := ⟨_, rfl⟩
  rw [← hn] at HC hl h1 HV ⊢
  have HN := Lib.hid hn
  clear hv hc hn h0
  by_cases h2 : 200 < n
  · have h2z : 200 < (n : Int) := by omega
    go_enter Try.func11, Try.ntmps11
    go_wp2_with fail
    go_ret2
    exact ⟨_, 3, [], rfl, .inl ⟨by have := HN.out; omega, rfl, rfl⟩, nil_own2 _ _, Ext.refl _⟩
  have h2z : ¬ 200 < (n : Int) := by omega
  go_enter Try.func11, Try.ntmps11
  go_wp2_with fail
  clear h2z
  go_loopw [4] (fun iv wr => ∃ k : Nat, iv = .int .i64 (k : Int) ∧ k ≤ n ∧ (∀ j, j < k → farB (fromP ps j).1 (fromP ps j).2 = false) ∧ Ext w wr) (fun iv _ => n - (intOf iv).toNat)
  case atStart => exact ⟨0, rfl, Nat.zero_le _, fun j hj => by omega, Ext.refl _⟩
  case round =>
    rename World => wr
    obtain ⟨k, rfl, hk, hall, hE⟩ := hrel
    have HALL := Lib.hid hall
    have HE := Lib.hid hE
    clear hall hE
    by_cases hlt : k < n
    · obtain ⟨c1, c2⟩ := HC.out k hlt
      have c1 := Ext.cell HE.out c1
      have c2 := Ext.cell HE.out c2
      have k1 := cell_lt c1
      obtain ⟨x, hx⟩ : ∃ x, x = (fromP ps k).1 := ⟨_, rfl⟩
      obtain ⟨y, hy⟩ : ∃ y, y = (fromP ps k).2 := ⟨_, rfl⟩
      rw [← hx] at c1
      rw [← hy] at c2
      have HX := Lib.hid hx
      have HY := Lib.hid hy
      clear hx hy
      have hkz : (k : Int) < (n : Int) := by omega
      go_wp2_with fail
      refine (good_c x y _).mono ?_
      rintro e w2 ⟨rfl, hE⟩
      have HE2 := Lib.hid (Ext.trans HE.out hE)
      clear hE c1 c2 k1
      cases hf : farB x y with
      | true =>
        have HF := Lib.hid (show ps.any farP = true from any_far (k := k) (by have := HN.out; omega) (by rw [← HX.out, ← HY.out]; exact hf))
        clear hf
        go_wp2_with fail
        go_ret2
        exact ⟨_, 2, [], rfl, .inr (.inl ⟨by have := HN.out; omega, HF.out, rfl, rfl⟩), nil_own2 _ _, HE2.out⟩
      | false =>
        have HT := Lib.hid (show ∀ j, j < k + 1 → farB (fromP ps j).1 (fromP ps j).2 = false from fun j hj => by
          by_cases e : j = k
          · rw [e, ← HX.out, ← HY.out]; exact hf
          · exact HALL.out j (by omega))
        clear hf
        go_wp2_with fail
        exact ⟨⟨k + 1, by simp, by omega, HT.out, HE2.out⟩, by simp [intOf]; omega⟩
    · have hkz : ¬ (k : Int) < (n : Int) := by omega
      have HNF := Lib.hid (near_from (ps := ps) fun j hj => HALL.out j (by have := HN.out; omega))
      clear hlt
      go_wp2_with fail
      refine (wrap_c _ ps _ (HV.out.ext HE.out) (fun q hq => by have := near_of HNF.out q hq; omega) (by have := HN.out; omega) (by have := HN.out; omega)).mono ?_
      rintro e w2 ⟨r, K, rfl, hW, hO, hE⟩
      have HW := Lib.hid hW
      have hK := hW.max
      have hn := HN.out
      have HR := Lib.hid (vecs_own (base := wr.heap.size) (by rw [wrapL_len]; exact hO) (by rw [wrapL_len]; omega))
      have HO := Lib.hid (own_mono2 hO HE.out.size)
      have HE2 := Lib.hid (Ext.trans HE.out hE)
      have HP := Lib.hid (show 1 ≤ ps.length ∧ ps.length ≤ 200 by omega)
      obtain ⟨a3, c3, rfl⟩ := own_slice2 hO
      clear hE hO hW hn
      by_cases hk3 : K < 3
      · have hk3z : (K : Int) < 3 := by omega
        go_wp2_with fail
        go_ret2
        exact ⟨_, 10, [], rfl, .inr (.inr ⟨HP.out.2, HNF.out, .inr ⟨K, HP.out.1, HW.out, .inl ⟨hk3, rfl, rfl⟩⟩⟩), nil_own2 _ _, HE2.out⟩
      · have hk3z : ¬ (K : Int) < 3 := by omega
        go_wp2_with fail
        refine (result_c _ _ _ HR.out (by rw [wrapL_len]; omega)).mono ?_
        rintro e w3 ⟨rfl, hE⟩
        have HE3 := Lib.hid (Ext.trans HE2.out hE)
        have HR3 := Lib.hid (ownsRow_ext HO.out hE)
        have hnf : (wrapL ps (lowK ps (ps.length - 1)) K).any farP = false := by
          rw [Bool.eq_false_iff]
          intro h
          obtain ⟨q, hq, hf⟩ := List.any_eq_true.1 h
          obtain ⟨k, _, rfl⟩ := List.mem_map.1 hq
          have := List.any_eq_false.1 HNF.out _ (wrap_in HP.out.1 HW.out k)
          exact this hf
        clear hE
        by_cases h32 : 32 < K
        · rw [show resV (.slice a3 K c3) (wrapL ps (lowK ps (ps.length - 1)) K) = two (.slice none 0 0) (.int .i64 8) from by unfold resV; rw [if_neg (by rw [hnf]; decide), if_pos (by rw [wrapL_len]; exact h32)]]
          unfold two
          clear hnf
          go_wp2_with fail
          go_ret2
          exact ⟨_, 8, [], rfl, .inr (.inr ⟨HP.out.2, HNF.out, .inr ⟨K, HP.out.1, HW.out, .inr (.inl ⟨by omega, h32, rfl, rfl⟩)⟩⟩), nil_own2 _ _, HE3.out⟩
        · rw [show resV (.slice a3 K c3) (wrapL ps (lowK ps (ps.length - 1)) K) = two (.slice a3 K c3) (.int .i64 0) from by unfold resV; rw [if_neg (by rw [hnf]; decide), if_neg (by rw [wrapL_len]; exact h32)]]
          unfold two
          clear hnf
          go_wp2_with fail
          go_ret2
          exact ⟨_, 0, _, rfl, .inr (.inr ⟨HP.out.2, HNF.out, .inr ⟨K, HP.out.1, HW.out, .inr (.inr ⟨by omega, by omega, rfl, rfl⟩)⟩⟩), by rw [wrapL_len]; exact HR3.out, HE3.out⟩

end Go.Proofs.Ytbdppephmlkbaaa

namespace Go.Proofs.Ytbdppephmlkbaaa
set_option maxRecDepth 100000
open Go.RowKit Go.Shelf
attribute [local go_sem] Oper.semAt_some
/-! The program's Hull, its error and its memory; and that the reference's is the same. -/
/-- what Hull answers -/
def HullE (ps : List Pt) (er : Int) (hs : List Pt) : Prop :=
  (200 < ps.length ∧ er = 3 ∧ hs = []) ∨ (ps.length ≤ 200 ∧ ps.any farP = true ∧ er = 2 ∧ hs = []) ∨
  (ps.length ≤ 200 ∧ ps.any farP = false ∧ ∃ s, s.Perm ps ∧ s.Pairwise leP ∧ (((hullP s).length < 3 ∧ er = 10 ∧ hs = []) ∨
    (3 ≤ (hullP s).length ∧ 32 < (hullP s).length ∧ er = 8 ∧ hs = []) ∨ (3 ≤ (hullP s).length ∧ (hullP s).length ≤ 32 ∧ er = 0 ∧ hs = hullP s)))
theorem hull_near {ps s : List Pt} (hf : ps.any farP = false) (hp : s.Perm ps) (hw : s.Pairwise leP) (h3 : 3 ≤ (hullP s).length) : (hullP s).any farP = false := by
  obtain ⟨_, b, _⟩ := hull_around hw h3
  refine any_none fun j q hj hq => ?_
  have := b j hj
  rw [fromP_of hq] at this
  have := List.any_eq_false.1 hf q (hp.mem_iff.1 this)
  simpa using this
theorem nil_own (w : World) (c : Nat) : w.ownsRow c 32 2 (.slice none 0 0) ([] : List Pt).length (cellsOf []) := ⟨rfl, .inl ⟨rfl, rfl⟩⟩
theorem hull_both {ps h1 h2 : List Pt} {e1 e2 : Int} (H1 : HullE ps e1 h1) (H2 : RHullS ps e2 h2) : e2 = e1 ∧ h2 = h1 := by
  rcases H1 with ⟨l1, rfl, rfl⟩ | ⟨l1, f1, rfl, rfl⟩ | ⟨l1, f1, s, hp, hw, H1⟩
  · rcases H2 with ⟨_, a, b⟩ | ⟨l2, _⟩ | ⟨l2, _⟩
    · exact ⟨a, b⟩
    · omega
    · omega
  · rcases H2 with ⟨l2, _⟩ | ⟨_, _, a, b⟩ | ⟨_, f2, _⟩
    · omega
    · exact ⟨a, b⟩
    · rw [f1] at f2; cases f2
  · rcases H2 with ⟨l2, _⟩ | ⟨_, f2, _⟩ | ⟨_, _, H2⟩
    · omega
    · rw [f1] at f2; cases f2
    · rcases H2 with ⟨rfl, rfl, rfl⟩ | ⟨K, hn, W, H2⟩
      · have : s = [] := List.length_eq_zero_iff.1 (by rw [hp.length_eq]; rfl)
        subst this
        have h0 : (hullP []).length = 0 := by have := hull_len (s := []); simpa using this
        rcases H1 with ⟨_, rfl, rfl⟩ | ⟨h, _⟩ | ⟨h, _⟩
        · exact ⟨rfl, rfl⟩
        · omega
        · omega
      · have hlow := low_all hn
        by_cases h3 : (hullP s).length < 3
        · have hfl := hull_flat hw h3
          have hK := wrap_flat hlow.1 hlow.2 (fun x y z hx hy hz => hfl x y z (hp.mem_iff.2 hx) (hp.mem_iff.2 hy) (hp.mem_iff.2 hz)) W
          rcases H1 with ⟨_, rfl, rfl⟩ | ⟨h, _⟩ | ⟨h, _⟩
          · rcases H2 with ⟨_, a, b⟩ | ⟨h, _⟩ | ⟨h, _⟩
            · exact ⟨a, b⟩
            · omega
            · omega
          · omega
          · omega
        · obtain ⟨A, mem, sup⟩ := hull_around hw (by omega)
          have mem' : ∀ i, i < (hullP s).length → fromP (hullP s) i ∈ ps := fun i hi => hp.mem_iff.1 (mem i hi)
          have sup' : ∀ i, i < (hullP s).length → ∀ z, z ∈ ps → 0 ≤ triP (fromP (hullP s) i) (toP (hullP s) i) z := fun i hi z hz => sup i hi z (hp.mem_iff.2 hz)
          have ha : lowK ps (ps.length - 1) = fromP (hullP s) 0 := leP_anti (hlow.2 _ (mem' 0 (by omega))) (hull_lowest A fun i hi => sup' i hi _ hlow.1)
          have e := wrap_hull A mem' sup' ha W
          have hK : K = (hullP s).length := by rw [← e, wrapL_len]
          rcases H1 with ⟨h, _⟩ | ⟨_, h, rfl, rfl⟩ | ⟨_, h, rfl, rfl⟩
          · omega
          · rcases H2 with ⟨h, _⟩ | ⟨_, _, a, b⟩ | ⟨_, h, _⟩
            · omega
            · exact ⟨a, b⟩
            · omega
          · rcases H2 with ⟨h, _⟩ | ⟨_, h, _⟩ | ⟨_, _, a, b⟩
            · omega
            · omega
            · exact ⟨a, by rw [b, e]⟩
set_option maxRecDepth 100000 in
set_option maxHeartbeats 1000000 in
theorem Hull_o (v : Value) (ps : List Pt) (w : World) (hv : Vecs w v ps) :
    Calls Try.prog 10 #[v] w fun e w' => ∃ r er hs, e = .returned (.tuple #[r, .int .i64 er]) ∧ HullE ps er hs ∧ w'.ownsRow w.heap.size 32 2 r hs.length (cellsOf hs) ∧ Ext w w' := by
  obtain ⟨a, cap, rfl, hl, hm, _⟩ := hv.at
  have HV := Lib.hid hv
  clear hv
  by_cases h2 : 200 < ps.length
  · go_enter Try.func10, Try.ntmps10
    go_wp2
    all_goals go_ret2
    all_goals exact ⟨_, 3, [], rfl, .inl ⟨h2, rfl, rfl⟩, nil_own _ _, Ext.refl _⟩
  · cases hf : ps.any farP with
    | true =>
      have Hf := Lib.hid hf
      clear hf
      go_enter Try.func10, Try.ntmps10
      go_wp2_with fail
      refine (contains27_c _ farP ps _ (far_pred ps _) HV.out).mono ?_
      rintro e w2 ⟨rfl, hE⟩
      rw [Hf.out]
      go_wp2
      all_goals go_ret2
      all_goals exact ⟨_, 2, [], rfl, .inr (.inl ⟨by omega, Hf.out, rfl, rfl⟩), nil_own _ _, hE⟩
    | false =>
      have Hf := Lib.hid hf
      have HN := Lib.hid (near_of hf)
      clear hf
      go_enter Try.func10, Try.ntmps10
      go_wp2_with fail
      refine (contains27_c _ farP ps _ (far_pred ps _) HV.out).mono ?_
      rintro e w2 ⟨rfl, hE⟩
      rw [Hf.out]
      have HE2 := Lib.hid hE
      clear hE
      go_wp2_with fail
      refine (hull_o _ ps w2 (HV.out.ext HE2.out) HN.out (by omega)).mono ?_
      rintro e w3 ⟨r, s, rfl, hp, hs, hr, hE⟩
      have HP := Lib.hid hp
      have HS := Lib.hid hs
      have HO := Lib.hid (ownsRow_base hr HE2.out.size)
      have HR := Lib.hid (vecs_own hr (by have := hull_len (s := s); have := hp.length_eq; omega))
      have HE3 := Lib.hid (Ext.trans HE2.out hE)
      obtain ⟨a3, c3, rfl, hl3, hm3, _⟩ := HR.out.at
      clear hp hs hr hE
      by_cases h3 : (hullP s).length < 3
      · go_wp2
        all_goals go_ret2
        all_goals exact ⟨_, 10, [], rfl, .inr (.inr ⟨by omega, Hf.out, s, HP.out, HS.out, .inl ⟨h3, rfl, rfl⟩⟩), nil_own _ _, HE3.out⟩
      · have HF := Lib.hid (hull_near Hf.out HP.out HS.out (by omega))
        have HQ := Lib.hid (show ∀ er hs, (32 < (hullP s).length ∧ er = 8 ∧ hs = []) ∨ (¬ 32 < (hullP s).length ∧ er = 0 ∧ hs = hullP s) → HullE ps er hs from by
          rintro er hs (⟨l, rfl, rfl⟩ | ⟨l, rfl, rfl⟩)
          · exact .inr (.inr ⟨by omega, Hf.out, s, HP.out, HS.out, .inr (.inl ⟨by omega, l, rfl, rfl⟩)⟩)
          · exact .inr (.inr ⟨by omega, Hf.out, s, HP.out, HS.out, .inr (.inr ⟨by omega, by omega, rfl, rfl⟩)⟩))
        generalize hullP s = hs at *
        obtain ⟨ra, er, ts, hR, hT⟩ : ∃ ra er ts, limR (.slice a3 hs.length c3) hs = two ra (.int .i64 er) ∧ ((hs.any farP = true ∧ er = 4 ∧ ts = [] ∧ ra = .slice none 0 0) ∨ (hs.any farP = false ∧ 32 < hs.length ∧ er = 8 ∧ ts = [] ∧ ra = .slice none 0 0) ∨ (hs.any farP = false ∧ ¬ 32 < hs.length ∧ er = 0 ∧ ts = hs ∧ ra = .slice a3 hs.length c3)) := by
          unfold limR
          cases hk : hs.any farP with
          | true => exact ⟨_, 4, [], by rw [if_pos rfl], .inl ⟨rfl, rfl, rfl, rfl⟩⟩
          | false =>
            by_cases hl : 32 < hs.length
            · exact ⟨_, 8, [], by rw [if_neg (by decide), if_pos hl], .inr (.inl ⟨rfl, hl, rfl, rfl, rfl⟩)⟩
            · exact ⟨_, 0, hs, by rw [if_neg (by decide), if_neg hl], .inr (.inr ⟨rfl, hl, rfl, rfl, rfl⟩)⟩
        have HRR := Lib.hid hR
        have HT := Lib.hid hT
        clear hR hT
        go_wp2_with fail
        refine (limited_c _ hs w3 HR.out).mono ?_
        rintro e w4 ⟨rfl, hE⟩
        rw [HRR.out]
        simp only [two]
        go_wp2
        go_ret2
        refine ⟨ra, er, ts, rfl, HQ.out er ts ?_, ?_, Ext.trans HE3.out hE⟩
        · rcases HT.out with ⟨p, q, r, _⟩ | ⟨p, q, r, t, _⟩ | ⟨p, q, r, t, _⟩
          · rw [HF.out] at p; cases p
          · exact .inl ⟨q, r, t⟩
          · exact .inr ⟨q, r, t⟩
        · rcases HT.out with ⟨_, _, r, t⟩ | ⟨_, _, _, r, t⟩ | ⟨_, _, _, r, t⟩
          · rw [r, t]; exact nil_own _ _
          · rw [r, t]; exact nil_own _ _
          · rw [r, t]; exact ownsRow_ext HO.out hE
end Go.Proofs.Ytbdppephmlkbaaa

namespace Go.Proofs.Ytbdppephmlkbaaa
set_option maxRecDepth 100000
open Go.RowKit Go.Shelf
attribute [local go_sem] Oper.semAt_some
/-! What the law spoils. -/
set_option maxHeartbeats 4000000 in
theorem spoil_c (v : Value) (base n : Nat) (xs : List Value) (w : World) (hO : w.ownsRow base 32 2 v n xs) (hn : n ≤ 1000) :
    Calls Try.prog 15 #[v] w fun e w' => (∃ u, e = .returned u) ∧ Held (fun j => j < w.heap.size ∧ v.ownBlock ≠ some j) w w' := by
  rcases hO.2 with ⟨rfl, rfl⟩ | ⟨g, cap, cur, rfl, hb, hc, hnc, hcm, hsz, _⟩
  · clear hO
    go_enter Try.func15, Try.ntmps15
    go_wp2_with fail
    go_loopw [2] (fun i wr => i = .int .i64 0 ∧ wr = w) (fun _ _ => 0)
    case atStart => exact ⟨rfl, rfl⟩
    case round =>
      obtain ⟨rfl, rfl⟩ := hrel
      go_wp2_with fail
      go_end0
      exact ⟨⟨_, rfl⟩, Held.refl _ _⟩
  · have HU := Lib.hid (show VRow w g 32 cur.toList from by unfold VRow; rw [hc])
    have hul : cur.toList.length = cap * 2 := by simpa using hsz
    generalize cur.toList = us at *
    obtain ⟨S, hS⟩ : ∃ S, S = fun j => j < w.heap.size ∧ Value.ownBlock (.slice (some ⟨g, 0, none⟩) n cap) ≠ some j := ⟨_, rfl⟩
    rw [← hS]
    have HS := Lib.hid (show ∀ j, S j → j ≠ g from fun j hj e => by rw [hS] at hj; exact hj.2 (by rw [e]; rfl))
    clear hS
    have HUL := Lib.hid hul
    have HB := Lib.hid hnc
    have hcm' : cap ≤ 9223372036854775807 := by unfold maxLen at hcm; omega
    clear hO hc hsz hb hul hcm
    go_enter Try.func15, Try.ntmps15
    go_wp2_with fail
    go_loopw [2] (fun i wr => ∃ k : Nat, i = .int .i64 (k : Int) ∧ k ≤ n ∧ (∃ us, us.length = cap * 2 ∧ VRow wr g 32 us) ∧ Held S w wr) (fun i _ => n - (intOf i).toNat)
    case atStart => exact ⟨0, rfl, Nat.zero_le _, ⟨us, HUL.out, HU.out⟩, Held.refl _ _⟩
    case round =>
      rename World => wr
      obtain ⟨k, rfl, hk, ⟨us, hl, hV⟩, hH⟩ := hrel
      have HV := Lib.hid hV
      have HH := Lib.hid hH
      have HL := Lib.hid hl
      clear hH
      by_cases hlt : k < n
      · have hkz : (k : Int) < (n : Int) := by omega
        obtain ⟨u0, hu0⟩ := getElem?_len (show k * 2 < us.length by omega)
        obtain ⟨u1, hu1⟩ := getElem?_len (show k * 2 + 1 < us.length by omega)
        have m0 := VRow.cell hV hu0
        have m1 := VRow.cell hV hu1
        have f0 := VRow.frozen hV (k * 2) none
        have hcb := cell_lt m0
        clear hu0 hu1 hV hl
        go_wp2_with fail
        refine ⟨⟨k + 1, by simp, by omega, ⟨us.set (k * 2) (.int .i64 9999), by rw [List.length_set]; exact HL.out, VRow.set HV.out _ _⟩, HH.out.trans (Held.set _ _ _ fun j hj => HS.out j hj)⟩, by simp [intOf]; omega⟩
      · have hkz : ¬ (k : Int) < (n : Int) := by omega
        clear hV hl
        go_wp2_with fail
        go_end0
        exact ⟨⟨_, rfl⟩, HH.out⟩
end Go.Proofs.Ytbdppephmlkbaaa

namespace Go.Proofs.Ytbdppephmlkbaaa
set_option maxRecDepth 100000
open Go.RowKit Go.Shelf
attribute [local go_sem] Oper.semAt_some
/-! The law ConvexHulls. -/
theorem rhull_len {ps hs : List Pt} {e : Int} (h : RHullS ps e hs) : hs.length ≤ 32 := by
  rcases h with ⟨_, _, rfl⟩ | ⟨_, _, _, rfl⟩ | ⟨_, _, ⟨_, _, rfl⟩ | ⟨K, _, _, ⟨_, _, rfl⟩ | ⟨_, _, _, rfl⟩ | ⟨_, hk, _, rfl⟩⟩⟩
  all_goals first | (rw [wrapL_len]; exact hk) | simp
theorem own_lt {w : World} {base n j : Nat} {v : Value} {xs : List Value} (h : w.ownsRow base 32 2 v n xs) (hj : v.ownBlock = some j) : j < w.heap.size := by
  rcases h.2 with ⟨rfl, _⟩ | ⟨g, cap, cur, rfl, _, hc, _⟩
  · cases hj
  · injection hj with hj
    subst hj
    exact (Array.getElem?_eq_some_iff.1 hc).1
/-- what is owned elsewhere stays when a row is spoiled -/
theorem own_spoiled {a w w' : World} {c n m : Nat} {v u : Value} {xs ys : List Value} (hv : a.ownsRow c 32 2 v n xs) (hu : w.ownsRow a.heap.size 32 2 u m ys) (hH : Held (fun j => j < w.heap.size ∧ v.ownBlock ≠ some j) w w') : w'.ownsRow a.heap.size 32 2 u m ys := by
  refine ⟨hu.1, ?_⟩
  rcases hu.2 with h | ⟨g, cap, cur, rfl, hb, hc, r⟩
  · exact .inl h
  · exact .inr ⟨g, cap, cur, rfl, hb, (hH.block g ⟨(Array.getElem?_eq_some_iff.1 hc).1, fun e => by have := own_lt hv e; omega⟩).trans hc, r⟩
theorem spoiled_ext {a w w' : World} {c n : Nat} {v : Value} {xs : List Value} (hv : w.ownsRow c 32 2 v n xs) (hc : a.heap.size ≤ c) (he : Ext a w) (hH : Held (fun j => j < w.heap.size ∧ v.ownBlock ≠ some j) w w') : Ext a w' :=
  Below.trans he ⟨hH.os, hH.tape, hH.output, hH.size, fun j hj => hH.block j ⟨Nat.lt_of_lt_of_le hj he.size, fun e => by have := own_block hv e; omega⟩⟩
set_option maxHeartbeats 4000000 in
theorem hulls_law (v : Value) (ps : List Pt) (w : World) (hv : Vecs w v ps ∧ NilO v) :
    Calls Try.prog 3 #[v] w fun e w' => e = .returned (.bool true) ∧ Ext w w' := by
  have HV := Lib.hid hv.1
  have HNL := Lib.hid hv.2
  obtain ⟨a1, c1, rfl, hl1, hm1, _⟩ := hv.1.at
  clear hv
  go_enter Try.func3, Try.ntmps3
  go_wp2_with fail
  refine (few_c _ _ _ w (by omega)).mono ?_
  rintro e w2 ⟨rfl, rfl⟩
  by_cases hf1 : ps.length ≤ 300
  · rw [decide_eq_true hf1]
    go_wp2_with fail
    refine (copyd_c _ ps w HV.out HNL.out hf1).mono ?_
    rintro e w2 ⟨r, rfl, hr, hE⟩
    have HE2 := Lib.hid hE
    have HR2 := Lib.hid hr
    clear hE hr
    go_wp2_with fail
    refine (Hull_o _ ps w2 HR2.out).mono ?_
    rintro e w3 ⟨r4, e4, h4, rfl, hS, hO, hE⟩
    have HS4 := Lib.hid hS
    have HO4 := Lib.hid hO
    have HE23 := Lib.hid hE
    have HE3 := Lib.hid (Ext.trans HE2.out hE)
    have HR3 := Lib.hid (HR2.out.ext hE)
    clear hE hS hO
    go_wp2_with fail
    refine (rHull_c _ ps w3 (HV.out.ext HE3.out)).mono ?_
    rintro e w4 ⟨r6, e6, h6, rfl, hS, hO, hE⟩
    obtain ⟨rfl, rfl⟩ := hull_both HS4.out hS
    have HRS := Lib.hid hS
    have HO6 := Lib.hid hO
    have HE34 := Lib.hid hE
    have HE4 := Lib.hid (Ext.trans HE3.out hE)
    have HR4 := Lib.hid (HR3.out.ext hE)
    have HLN := Lib.hid (rhull_len hS)
    have HV4 := Lib.hid (vecs_own (ownsRow_ext HO4.out hE) (by have := HLN.out; omega))
    have HV6 := Lib.hid (vecs_own hO (by have := HLN.out; omega))
    have q1 : (e6 != e6) = false := by simp
    clear hE hS hO
    unfold two
    go_wp2_with fail
    refine (same_c _ _ h6 h6 w4 HV4.out HV6.out).mono ?_
    rintro e w5 ⟨rfl, hE⟩
    have HE45 := Lib.hid hE
    have HE5 := Lib.hid (Ext.trans HE4.out hE)
    have HR5 := Lib.hid (HR4.out.ext hE)
    rw [decide_eq_true rfl]
    clear hE
    go_wp2_with fail
    refine (valid_c _ ps w5 HR5.out).mono ?_
    rintro e w6 ⟨rfl, hE⟩
    have HE56 := Lib.hid (Ext.trans HE45.out hE)
    have HE6 := Lib.hid (Ext.trans HE5.out hE)
    have HR6 := Lib.hid (HR5.out.ext hE)
    clear hE q1
    go_wp2_with fail
    refine (rvalid_c _ ps w6 (HV.out.ext HE6.out)).mono ?_
    rintro e w7 ⟨rfl, hE⟩
    have HE47 := Lib.hid (Ext.trans HE56.out hE)
    have HE7 := Lib.hid (Ext.trans HE6.out hE)
    have HR7 := Lib.hid (HR6.out.ext hE)
    generalize validB ps = vb at *
    have q1 : (vb != vb) = false := by simp
    clear hE
    go_wp2_with fail
    have HO47 := Lib.hid (ownsRow_ext (ownsRow_ext HO4.out HE34.out) HE47.out)
    have HO67 := Lib.hid (ownsRow_ext HO6.out HE47.out)
    refine (spoil_c r4 _ _ _ w7 HO47.out (by have := HLN.out; omega)).mono ?_
    rintro e w8 ⟨⟨u, rfl⟩, hH⟩
    have HE8 := Lib.hid (spoiled_ext HO47.out (Nat.le_trans HE2.out.size (Nat.le_refl _)) HE7.out hH)
    have HR8 := Lib.hid (HR2.out.ext (spoiled_ext HO47.out (Nat.le_refl _) (Ext.trans HE23.out (Ext.trans HE34.out HE47.out)) hH))
    have HO68 := Lib.hid (own_spoiled HO4.out HO67.out hH)
    clear hH q1
    go_wp2_with fail
    refine (Hull_o _ ps w8 HR8.out).mono ?_
    rintro e w9 ⟨r9, e9, h9, rfl, hS, hO, hE⟩
    obtain ⟨rfl, rfl⟩ := hull_both hS HRS.out
    have HV9 := Lib.hid (vecs_own hO (by have := HLN.out; omega))
    have HV69 := Lib.hid (vecs_own (ownsRow_ext HO68.out hE) (by have := HLN.out; omega))
    have HE9 := Lib.hid (Ext.trans HE8.out hE)
    have HR9 := Lib.hid (HR8.out.ext hE)
    have q1 : (e6 == e6) = true := by simp
    clear hE hS hO
    go_wp2_with fail
    refine (same_c _ _ h6 h6 w9 HV9.out HV69.out).mono ?_
    rintro e w10 ⟨rfl, hE⟩
    have HE10 := Lib.hid (Ext.trans HE9.out hE)
    have HR10 := Lib.hid (HR9.out.ext hE)
    rw [decide_eq_true rfl]
    clear hE q1
    go_wp2_with fail
    refine (same_c _ _ ps ps w10 HR10.out (HV.out.ext HE10.out)).mono ?_
    rintro e w11 ⟨rfl, hE⟩
    have HE11 := Lib.hid (Ext.trans HE10.out hE)
    rw [decide_eq_true rfl]
    clear hE
    go_wp2_with fail
    refine (alive_c w11).mono ?_
    rintro e w12 ⟨rfl, hE⟩
    have HE12 := Lib.hid (Ext.trans HE11.out hE)
    clear hE
    go_wp2_with fail
    go_ret
    exact ⟨rfl, HE12.out⟩
  · rw [decide_eq_false hf1]
    go_wp2_with fail
    refine (alive_c w).mono ?_
    rintro e w12 ⟨rfl, hE⟩
    have HE12 := Lib.hid hE
    clear hE
    go_wp2_with fail
    go_ret
    exact ⟨rfl, HE12.out⟩
end Go.Proofs.Ytbdppephmlkbaaa
