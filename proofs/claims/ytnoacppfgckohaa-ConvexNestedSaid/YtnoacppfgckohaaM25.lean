import Derived.Test.YtnoacppfgckohaaM24
import Derived.Test.YtnoacppfgckohaaV33
namespace Go.Proofs.Ytnoacppfgckohaa
theorem wedge_id (a b r v : Pt) : crossP a b * crossP r v = crossP r b * crossP a v + crossP a r * crossP b v := by
  unfold crossP crossZ
  grind
/-- what is to the left of all edges goes no further in any direction than some vertex -/
theorem supp_at {ps : List Pt} (h : Around ps) {r : Pt} (hr : r ≠ (0, 0)) {x y : Int} (hi : inP 0 ps x y) :
    ∃ j, j < ps.length ∧ crossP (x, y) r ≤ crossP (fromP ps j) r ∧ (inP 1 ps x y → crossP (x, y) r < crossP (fromP ps j) r) := by
  have n := h.three
  obtain ⟨j, hj, e⟩ := hi_at h.rolls hr
  have hn : (j + 1) % ps.length < ps.length := Nat.mod_lt _ (by omega)
  have hp : prevI ps.length j < ps.length := by unfold prevI; split <;> omega
  have c1 := hi_le h.rolls hr hn
  have c2 := hi_le h.rolls hr hp
  rw [← e] at c1 c2
  have pt := prev_to hj
  have tr := h.turn j hj
  have kb : 0 ≤ crossP r (stepP ps j) := by
    have : crossP r (stepP ps j) = crossP (fromP ps j) r - crossP (fromP ps ((j + 1) % ps.length)) r := by
      rw [← to_from]
      show crossZ _ _ ((toP ps j).1 - (fromP ps j).1) ((toP ps j).2 - (fromP ps j).2) = _
      unfold crossP crossZ
      grind
    omega
  have ka : 0 ≤ crossP (stepP ps (prevI ps.length j)) r := by
    have : crossP (stepP ps (prevI ps.length j)) r = crossP (fromP ps j) r - crossP (fromP ps (prevI ps.length j)) r := by
      rw [← pt]
      generalize prevI ps.length j = i
      show crossZ ((toP ps i).1 - (fromP ps i).1) ((toP ps i).2 - (fromP ps i).2) _ _ = _
      unfold crossP crossZ
      grind
    omega
  have sb := hi j hj
  have sa := hi (prevI ps.length j) hp
  have eb : sideK ps x y j = crossP (stepP ps j) (x - (fromP ps j).1, y - (fromP ps j).2) := rfl
  have ea : sideK ps x y (prevI ps.length j) = crossP (stepP ps (prevI ps.length j)) (x - (fromP ps j).1, y - (fromP ps j).2) := by
    rw [← pt]
    generalize prevI ps.length j = i
    show crossZ ((toP ps i).1 - (fromP ps i).1) ((toP ps i).2 - (fromP ps i).2) _ _ = crossZ ((toP ps i).1 - (fromP ps i).1) ((toP ps i).2 - (fromP ps i).2) _ _
    unfold crossZ
    grind
  have er : crossP r (x - (fromP ps j).1, y - (fromP ps j).2) = crossP (fromP ps j) r - crossP (x, y) r := by
    unfold crossP crossZ
    grind
  have id := wedge_id (stepP ps (prevI ps.length j)) (stepP ps j) r (x - (fromP ps j).1, y - (fromP ps j).2)
  rw [← eb, ← ea] at id
  refine ⟨j, hj, ?_, fun h1 => ?_⟩
  · have p1 := Int.mul_nonneg kb sa
    have p2 := Int.mul_nonneg ka sb
    have := (mul_sign_pos (b := crossP r (x - (fromP ps j).1, y - (fromP ps j).2)) tr).1.1 (by omega)
    omega
  · have sb1 := h1 j hj
    have sa1 := h1 (prevI ps.length j) hp
    have pos : 0 < crossP r (stepP ps j) ∨ 0 < crossP (stepP ps (prevI ps.length j)) r := by
      by_cases z1 : crossP r (stepP ps j) = 0
      · by_cases z2 : crossP (stepP ps (prevI ps.length j)) r = 0
        · exfalso
          have i1 := wedge_id (stepP ps (prevI ps.length j)) (stepP ps j) r (1, 0)
          have i2 := wedge_id (stepP ps (prevI ps.length j)) (stepP ps j) r (0, 1)
          rw [z1, z2, Int.zero_mul, Int.zero_mul] at i1 i2
          refine hr (Prod.ext ?_ ?_)
          · rcases Int.mul_eq_zero.1 i2 with q | q
            · omega
            · unfold crossP crossZ at q; simp only at q; show r.1 = 0; omega
          · rcases Int.mul_eq_zero.1 i1 with q | q
            · omega
            · unfold crossP crossZ at q; simp only at q; show r.2 = 0; omega
        · exact .inr (by omega)
      · exact .inl (by omega)
    have q : 0 < crossP r (stepP ps j) * sideK ps x y (prevI ps.length j) + crossP (stepP ps (prevI ps.length j)) r * sideK ps x y j := by
      rcases pos with g | g
      · have p1 := Int.mul_pos g (show 0 < sideK ps x y (prevI ps.length j) by omega)
        have p2 := Int.mul_nonneg ka sb
        omega
      · have p1 := Int.mul_pos g (show 0 < sideK ps x y j by omega)
        have p2 := Int.mul_nonneg kb sa
        omega
    have := (mul_sign_pos (b := crossP r (x - (fromP ps j).1, y - (fromP ps j).2)) tr).2.1 (by omega)
    omega
theorem side_cross (ps : List Pt) (x y : Int) (k : Nat) : sideK ps x y k = crossP (fromP ps k) (stepP ps k) - crossP (x, y) (stepP ps k) := by
  unfold sideK crossP crossZ
  grind
/-- a polygon with all vertices in another one -/
def SubP (ps qs : List Pt) : Prop := ∀ j, j < ps.length → inP 0 qs (fromP ps j).1 (fromP ps j).2
theorem sub_in {ps qs : List Pt} (hp : Around ps) (hq : Around qs) (h : SubP ps qs) {s : Int} (hs : s = 0 ∨ s = 1) {x y : Int} (hi : inP s ps x y) : inP s qs x y := fun k hk => by
  have h0 : inP 0 ps x y := inP_zero (by rcases hs with rfl | rfl <;> decide) hi
  obtain ⟨j, hj, a, b⟩ := supp_at hp (hq.ne0 hk) h0
  have c := h j hj k hk
  rw [side_cross] at c ⊢
  have e : crossP ((fromP ps j).1, (fromP ps j).2) (stepP qs k) = crossP (fromP ps j) (stepP qs k) := rfl
  rcases hs with rfl | rfl
  · omega
  · have := b hi
    omega
theorem sub_all {ps qs : List Pt} (hp : Around ps) (hq : Around qs) (h : SubP ps qs) {s : Int} (hs : s = 0 ∨ s = 1) : allN s ps ≤ allN s qs := by
  unfold allN rowN
  refine sumTo_le _ fun i _ => sumTo_le _ fun j _ => ?_
  by_cases c : inP s ps ((j : Int) - 1000) ((i : Int) - 1000)
  · rw [if_pos c, if_pos (sub_in hp hq h hs c)]
    exact Int.le_refl _
  · rw [if_neg c]
    split <;> decide
theorem sub_iff (ps qs : List Pt) : ps.any (outB qs) = false ↔ SubP ps qs := by
  constructor
  · intro h j hj k hk
    have a := List.any_eq_false.1 h (fromP ps j) (from_mem hj)
    rcases Int.lt_or_le (sideK qs (fromP ps j).1 (fromP ps j).2 k) 0 with g | g
    · exact absurd ((outB_iff qs _).2 ⟨k, hk, g⟩) a
    · exact g
  · intro h
    rw [List.any_eq_false]
    intro z hz ho
    obtain ⟨j, hj, rfl⟩ := mem_from hz
    obtain ⟨k, hk, g⟩ := (outB_iff qs _).1 ho
    have := h j hj k hk
    omega
/-- areas and numbers of points of polygons one in the other -/
theorem nest_num {ps qs : List Pt} (h1 : validB ps = true) (h2 : validB qs = true) (h : SubP ps qs) :
    ∃ A B N M R T : Int, areaZ ps = A ∧ areaZ qs = B ∧ (areaZ ps - ringZ ps + 2).tdiv 2 = N ∧ ringZ ps = R ∧ (areaZ qs - ringZ qs + 2).tdiv 2 = M ∧ ringZ qs = T ∧ A ≤ B ∧ N ≤ M ∧ N + R ≤ M + T ∧ 0 ≤ N ∧ 0 ≤ R ∧ N ≤ 100000000 ∧ R ≤ 3200000 ∧ 0 ≤ M ∧ 0 ≤ T ∧ M ≤ 100000000 ∧ T ≤ 3200000 := by
  obtain ⟨N, R, e1, e2, e3, e4, e5, e6, e7⟩ := pick_num h1
  obtain ⟨M, T, f1, f2, f3, f4, f5, f6, f7⟩ := pick_num h2
  have a := pick_all (valid_around h1) (valid_near h1).1
  have b := pick_all (valid_around h2) (valid_near h2).1
  have c := sub_all (valid_around h1) (valid_around h2) h (s := 0) (.inl rfl)
  have d := sub_all (valid_around h1) (valid_around h2) h (s := 1) (.inr rfl)
  exact ⟨areaZ ps, areaZ qs, N, M, R, T, rfl, rfl, e1, e2, f1, f2, by omega, by omega, by omega, by omega, by omega, by omega, by omega, by omega, by omega, by omega, by omega⟩
/-- sums of polygons one in the other -/
theorem nest_sum {ps qs rs ss ts : List Pt} (h : SubP ps qs) (h1 : SumS ps rs 0 ss) (h2 : SumS qs rs 0 ts) : validB ss = true ∧ validB ts = true ∧ SubP ss ts := by
  obtain ⟨v1, v2, v3, ds, hs, rfl⟩ := sumS_ok h1
  obtain ⟨w1, w2, w3, es, ht, rfl⟩ := sumS_ok h2
  refine ⟨v3, w3, fun k hk m hm => ?_⟩
  have M1 := merged_of v1 v2 hs
  have M2 := merged_of w1 w2 ht
  rw [Merged.slen] at hk hm
  obtain ⟨i, j, hi, hj, e⟩ := sum_vertex M1 hk
  rw [side_cross, e, M2.step hm, M2.at_edge hm]
  have hne := M2.rne0 _ (from_mem hm)
  obtain ⟨l, hl, a, _⟩ := supp_at (valid_around w1) hne (h i hi)
  have b := hi_le (valid_around w1).rolls hne hl
  have c := hi_le (valid_around w2).rolls hne hj
  have e2 : crossP ((addP (fromP rs j) (fromP ps i)).1, (addP (fromP rs j) (fromP ps i)).2) (fromP (runs es) m) = crossP (fromP rs j) (fromP (runs es) m) + crossP ((fromP ps i).1, (fromP ps i).2) (fromP (runs es) m) := by
    unfold addP crossP crossZ
    grind
  rw [e2]
  omega
end Go.Proofs.Ytnoacppfgckohaa
