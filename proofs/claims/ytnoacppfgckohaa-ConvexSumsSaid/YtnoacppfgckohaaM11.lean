import Derived.Test.YtnoacppfgckohaaM10
namespace Go.Proofs.Ytnoacppfgckohaa
open Go.RowKit
theorem Around.strict {ps : List Pt} (h : Around ps) : (stepsOf ps).Pairwise ltA := by
  have adj : ∀ i, i + 1 < ps.length → ltA (stepP ps i) (stepP ps (i + 1)) := fun i hi => by
    have h1 := h.sorted i hi
    have h2 := h.turn (i + 1) hi
    have e : prevI ps.length (i + 1) = i := by unfold prevI; rw [if_neg (by omega)]; omega
    rw [e] at h2
    cases s1 : sinksB (stepP ps i).1 (stepP ps i).2 with
    | false =>
      cases s2 : sinksB (stepP ps (i + 1)).1 (stepP ps (i + 1)).2 with
      | false => exact .inr ⟨by rw [s1, s2], h2⟩
      | true => exact .inl ⟨s1, s2⟩
    | true =>
      cases s2 : sinksB (stepP ps (i + 1)).1 (stepP ps (i + 1)).2 with
      | false => exact absurd (.inl ⟨s2, s1⟩) h1
      | true => exact .inr ⟨by rw [s1, s2], h2⟩
  have key : ∀ d i, i + d + 1 < ps.length → ltA (stepP ps i) (stepP ps (i + d + 1)) := by
    intro d
    induction d with
    | zero => intro i hi; exact adj i hi
    | succ d ih =>
      intro i hi
      exact ltA_trans (h.ne0 (show i < ps.length by omega)) (h.ne0 (show i + d + 1 < ps.length by omega)) (h.ne0 (by omega)) (ih i (by omega)) (adj _ hi)
  rw [List.pairwise_iff_getElem]
  intro i j hi hj hij
  rw [stepsOf_length] at hi hj
  simp only [stepsOf, List.getElem_map, List.getElem_range]
  have := key (j - i - 1) i (by omega)
  rwa [show i + (j - i - 1) + 1 = j by omega] at this
theorem from_steps {ps : List Pt} {k : Nat} (hk : k < ps.length) : fromP (stepsOf ps) k = stepP ps k := stepsOf_getD hk
/-- where an edge lies, its direction has its maximum -/
theorem Around.at_edge {ps : List Pt} (h : Around ps) {k : Nat} (hk : k < ps.length) : crossP (fromP ps k) (stepP ps k) = hiP ps (stepP ps k) := by
  have e := path_get (lin_right (stepP ps k)) ps k hk
  have f := filter_at h.strict (k := k) (by rw [stepsOf_length]; exact hk)
  rw [from_steps hk] at f
  unfold hiP
  rw [f]
  exact e
/-- all vertices lie to the left of all edges -/
theorem Around.left {ps : List Pt} (h : Around ps) {k j : Nat} (hk : k < ps.length) (hj : j < ps.length) : 0 ≤ sideK ps (fromP ps j).1 (fromP ps j).2 k := by
  have h1 := h.at_edge hk
  have h2 := hi_le h.rolls (h.ne0 hk) hj
  rw [← h1] at h2
  have : sideK ps (fromP ps j).1 (fromP ps j).2 k = crossP (fromP ps k) (stepP ps k) - crossP (fromP ps j) (stepP ps k) := by
    unfold sideK crossP crossZ; grind
  omega
theorem sumTo_pos {f : Nat → Int} : ∀ n, (∀ k, k < n → 0 ≤ f k) → 0 ≤ sumTo f n
  | 0, _ => Int.le_refl _
  | n + 1, h => by
    have h1 := sumTo_pos n fun k hk => h k (by omega)
    have h2 := h n (by omega)
    simp only [sumTo]
    omega
theorem Around.area {ps : List Pt} (h : Around ps) : 0 ≤ areaZ ps := by
  have e : sumTo (fun k => sideK ps (fromP ps 0).1 (fromP ps 0).2 k) ps.length = areaZ ps := by
    have e1 : sumTo (fun k => sideK ps (fromP ps 0).1 (fromP ps 0).2 k) ps.length = sumTo (fun k => crossK ps k + ((fromP ps 0).2 * (stepP ps k).1 + -(fromP ps 0).1 * (stepP ps k).2)) ps.length := by
      refine sumTo_congr _ fun k _ => ?_
      unfold sideK crossK crossZ
      grind
    rw [e1, sumTo_add, sumTo_add, sumTo_mul, sumTo_mul, (sum_steps ps).1, (sum_steps ps).2]
    unfold areaZ
    rw [areaK_sum]
    omega
  rw [← e]
  exact sumTo_pos _ fun k hk => h.left hk (by have := h.three; omega)
/-- a list with the same weight everywhere -/
def wgt (c : Int) (l : List Pt) : List (Int × Pt) := l.map fun x => (c, x)
def mixZ (ps qs : List Pt) : Int := dbl (wgt 1 (stepsOf ps)) (wgt 1 (stepsOf qs))
theorem dbl_wgt (c d : Int) (l m : List Pt) : dbl (wgt c l) (wgt d m) = c * d * dbl (wgt 1 l) (wgt 1 m) := by
  unfold dbl wgt
  rw [sumG_map, sumG_map, ← sumG_mul]
  refine sumG_congr fun x _ => ?_
  rw [sumG_map, sumG_map, ← sumG_mul]
  refine sumG_congr fun y _ => ?_
  unfold cW
  grind
theorem wgt_sc (l : List Pt) : (wgt 1 l).map sc = l := by
  unfold wgt
  rw [List.map_map]
  have : (sc ∘ fun x : Pt => ((1 : Int), x)) = id := by
    funext x
    show sc (1, x) = x
    unfold sc
    exact Prod.ext (by simp) (by simp)
  rw [this, List.map_id]
theorem wgt_sorted {l : List Pt} (h : l.Pairwise fun a b => ¬ ltA b a) : SortW (wgt 1 l) := by
  unfold SortW wgt
  rw [List.pairwise_map]
  exact h
theorem pw_dbl {l : List Pt} (h : l.Pairwise fun a b => ¬ ltA b a) : dbl (wgt 1 l) (wgt 1 l) = 2 * pw l := by
  rw [dbl_pw (wgt_sorted h), wgt_sc]
theorem area_dbl {ps : List Pt} (h : Rolls ps) : dbl (wgt 1 (stepsOf ps)) (wgt 1 (stepsOf ps)) = 2 * areaZ ps := by
  rw [pw_dbl h.sorted, area_pw]
/-- what Mixed returns -/
theorem mixed_eq {ps qs ds : List Pt} (h : Merged ps qs ds) : areaZ (sumP ps qs ds) = areaZ ps + areaZ qs + mixZ ps qs := by
  have e := pw_dbl h.s.2
  have hp : (wgt 1 ds).Perm (wgt 1 (stepsOf ps) ++ wgt 1 (stepsOf qs)) := by
    unfold wgt
    rw [← List.map_append]
    exact h.s.1.map _
  rw [dbl_perm hp, dbl_append_l, dbl_append_r, dbl_append_r, area_dbl h.p, area_dbl h.q, dbl_comm (wgt 1 (stepsOf qs))] at e
  rw [area_sum h]
  unfold mixZ
  omega
theorem mixZ_comm (ps qs : List Pt) : mixZ ps qs = mixZ qs ps := dbl_comm _ _
/-- the height of a polygon, from its steps that rise -/
def tall (ps : List Pt) : Int := sumG (fun x => x.2) ((stepsOf ps).filter fun x => !sinksB x.1 x.2)
theorem Around.tall_pos {ps : List Pt} (h : Around ps) : 0 < tall ps := by
  have hz := path_sum lin_snd ps
  have hne : ∃ x ∈ stepsOf ps, x.2 ≠ 0 := Classical.byContradiction fun n => by
    have n' : ∀ x ∈ stepsOf ps, x.2 = 0 := fun x hx => Classical.byContradiction fun k => n ⟨x, hx, k⟩
    have hn := h.three
    have t := h.turn 1 (by omega)
    have a1 := n' _ (mem_steps (show 1 < ps.length by omega))
    have a0 := n' _ (mem_steps (show prevI ps.length 1 < ps.length by show 0 < ps.length; omega))
    unfold crossP crossZ at t
    rw [a1, a0] at t
    simp at t
  obtain ⟨x, hx, hx2⟩ := hne
  have hpos : ∃ y ∈ stepsOf ps, 0 < y.2 := Classical.byContradiction fun n => by
    have n' : ∀ y ∈ stepsOf ps, y.2 ≤ 0 := fun y hy => Classical.byContradiction fun k => n ⟨y, hy, by omega⟩
    exact hx2 (sumF_zero n' hz x hx)
  obtain ⟨y, hy, hy2⟩ := hpos
  have key : ∀ l : List Pt, (∀ x ∈ l, x ≠ (0, 0)) → y ∈ l → 0 < sumG (fun x => x.2) (l.filter fun x => !sinksB x.1 x.2) ∧ True := by
    have nn : ∀ l : List Pt, (∀ x ∈ l, x ≠ (0, 0)) → 0 ≤ sumG (fun x => x.2) (l.filter fun x => !sinksB x.1 x.2) := by
      intro l
      induction l with
      | nil => intro _; exact Int.le_refl _
      | cons z l ih =>
        intro h0
        have i := ih fun x hx => h0 x (List.mem_cons_of_mem _ hx)
        cases hs : sinksB z.1 z.2 with
        | true => rw [List.filter_cons_of_neg (by simp [hs])]; exact i
        | false =>
          rw [List.filter_cons_of_pos (by simp [hs])]
          have := up_of hs (h0 z (by simp))
          simp only [sumG]
          omega
    intro l h0 hl
    refine ⟨?_, trivial⟩
    induction l with
    | nil => simp at hl
    | cons z l ih =>
      have h1 : ∀ x ∈ l, x ≠ (0, 0) := fun x hx => h0 x (List.mem_cons_of_mem _ hx)
      have i := nn l h1
      rcases List.mem_cons.1 hl with rfl | hl
      · have hs : sinksB y.1 y.2 = false := up_sinks (e := y) (.inl hy2)
        rw [List.filter_cons_of_pos (by simp [hs])]
        simp only [sumG]
        omega
      · have i2 := ih h1 hl
        cases hs : sinksB z.1 z.2 with
        | true => rw [List.filter_cons_of_neg (by simp [hs])]; exact i2
        | false =>
          rw [List.filter_cons_of_pos (by simp [hs])]
          have := up_of hs (h0 z (by simp))
          simp only [sumG]
          omega
  exact (key _ h.rolls.ne0 hy).1
theorem wgt_sum (c : Int) (f : Pt → Int) (l : List Pt) : sumG (fun x : Int × Pt => x.1 * f x.2) (wgt c l) = c * sumG f l := by
  unfold wgt
  rw [sumG_map, ← sumG_mul]
theorem wgt_filter (c : Int) (p : Pt → Bool) (l : List Pt) : (wgt c l).filter (fun x => p x.2) = wgt c (l.filter p) := by
  unfold wgt
  rw [List.filter_map]
  rfl
/-- Minkowski's inequality, from Bonnesen's -/
theorem minkowski {ps qs : List Pt} (hp : Around ps) (hq : Around qs) : 0 ≤ mixZ ps qs ∧ 4 * areaZ ps * areaZ qs ≤ mixZ ps qs * mixZ ps qs := by
  have ta := hq.tall_pos
  have tb := hp.tall_pos
  have aa := hp.area
  have ab := hq.area
  have key : dbl (wgt (tall qs) (stepsOf ps) ++ wgt (-(tall ps)) (stepsOf qs)) (wgt (tall qs) (stepsOf ps) ++ wgt (-(tall ps)) (stepsOf qs)) ≤ 0 := by
    refine dbl_nonpos (fun x hx => ?_) ?_ ?_
    · rcases List.mem_append.1 hx with hx | hx
      · obtain ⟨y, hy, rfl⟩ := List.mem_map.1 hx
        exact hp.rolls.ne0 y hy
      · obtain ⟨y, hy, rfl⟩ := List.mem_map.1 hx
        exact hq.rolls.ne0 y hy
    · unfold vecS
      rw [sumG_append, sumG_append, wgt_sum _ (fun x => x.1), wgt_sum _ (fun x => x.1), wgt_sum _ (fun x => x.2), wgt_sum _ (fun x => x.2)]
      have a1 := path_sum lin_fst ps
      have a2 := path_sum lin_snd ps
      have b1 := path_sum lin_fst qs
      have b2 := path_sum lin_snd qs
      rw [sumF_G] at a1 a2 b1 b2
      rw [a1, a2, b1, b2]
      simp
    · rw [List.filter_append, wgt_filter _ (fun x => !sinksB x.1 x.2), wgt_filter _ (fun x => !sinksB x.1 x.2), sumG_append, wgt_sum _ (fun x => x.2), wgt_sum _ (fun x => x.2)]
      show tall qs * tall ps + -(tall ps) * tall qs = 0
      grind
  rw [dbl_append_l, dbl_append_r, dbl_append_r, dbl_wgt, dbl_wgt (tall qs), dbl_wgt (-(tall ps)), dbl_wgt (-(tall ps)), area_dbl hp.rolls, area_dbl hq.rolls, dbl_comm (wgt 1 (stepsOf qs))] at key
  change _ + _ * mixZ ps qs + (_ * mixZ ps qs + _) ≤ 0 at key
  generalize tall qs = t at *
  generalize tall ps = u at *
  generalize areaZ ps = a at *
  generalize areaZ qs = b at *
  generalize mixZ ps qs = m at *
  have tu : 0 < t * u := Int.mul_pos ta tb
  have e1 : t * t * a + u * u * b ≤ t * u * m := by grind
  have x0 : 0 ≤ t * t * a := Int.mul_nonneg (sq_nn t) aa
  have y0 : 0 ≤ u * u * b := Int.mul_nonneg (sq_nn u) ab
  have m0 : 0 ≤ m := Classical.byContradiction fun n => by
    have := Int.mul_neg_of_pos_of_neg tu (show m < 0 by omega)
    omega
  refine ⟨m0, ?_⟩
  have s1 : (t * t * a + u * u * b) * (t * t * a + u * u * b) ≤ (t * u * m) * (t * u * m) := Int.mul_le_mul e1 e1 (by omega) (by omega)
  have s2 : 4 * (t * t * a) * (u * u * b) ≤ (t * t * a + u * u * b) * (t * t * a + u * u * b) := by
    have := sq_nn (t * t * a - u * u * b)
    grind
  have s3 : (t * u * (t * u)) * (4 * a * b) ≤ (t * u * (t * u)) * (m * m) := by grind
  exact Int.le_of_mul_le_mul_left s3 (Int.mul_pos tu tu)
end Go.Proofs.Ytnoacppfgckohaa
