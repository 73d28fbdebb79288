import Derived.Test.YtnoacppfgckohaaM17
import Derived.Test.YtnoacppfgckohaaM18
import Derived.Test.YtnoacppfgckohaaV24
namespace Go.Proofs.Ytnoacppfgckohaa
/-- the lowest vertices of two polygons, one spanned by vertices of the other one and all around them, are the same -/
theorem first_one {ps qs : List Pt} (hp : Around ps) (hq : Around qs) (mem : ∀ i, i < ps.length → fromP ps i ∈ qs) (sup : ∀ i, i < ps.length → ∀ z ∈ qs, 0 ≤ triP (fromP ps i) (toP ps i) z) :
    fromP ps 0 = fromP qs 0 := by
  have n1 := hp.three
  have n2 := hq.three
  obtain ⟨j, hj, e⟩ := mem_from (mem 0 (by omega))
  rcases Nat.eq_zero_or_pos j with rfl | hj0
  · exact e.symm
  · exfalso
    have hl : lowP (fromP qs 0) (fromP ps 0) := by rw [← e]; exact hq.lowest hj0 hj
    have hz : fromP qs 0 ∈ qs := from_mem (by omega)
    obtain ⟨u, u1, u2, hs, _⟩ := hp.top
    have s1 := sup 0 (by omega) _ hz
    have s2 := sup (ps.length - 1) (by omega) _ hz
    rw [tri_side] at s1
    have pt : toP ps (ps.length - 1) = fromP ps 0 := hp.last
    rw [tri_move, pt] at s2
    have t := hp.turn 0 (by omega)
    rw [show prevI ps.length 0 = ps.length - 1 from rfl] at t
    have b0 : sinksB (stepP ps 0).1 (stepP ps 0).2 = false := by
      cases h : sinksB (stepP ps 0).1 (stepP ps 0).2 with
      | false => rfl
      | true => have := (hs 0 (by omega)).1 h; omega
    have a1 := (hs (ps.length - 1) (by omega)).2 (by omega)
    refine low_out (b := stepP ps 0) (a := stepP ps (ps.length - 1)) (v := ((fromP qs 0).1 - (fromP ps 0).1, (fromP qs 0).2 - (fromP ps 0).2)) (hp.ne0 (by omega)) (hp.ne0 (by omega)) (fun h => ?_) b0 a1 (down_sink hl) t s1 ?_
    · have h1 := congrArg Prod.fst h
      have h2 := congrArg Prod.snd h
      simp only at h1 h2
      unfold lowP at hl
      omega
    · show 0 ≤ crossZ ((toP ps (ps.length - 1)).1 - (fromP ps (ps.length - 1)).1) ((toP ps (ps.length - 1)).2 - (fromP ps (ps.length - 1)).2) _ _
      rw [pt]
      exact s2
/-- a polygon spanned by vertices of another one and all around them is that one -/
theorem around_one {ps qs : List Pt} (hp : Around ps) (hq : Around qs) (mem : ∀ i, i < ps.length → fromP ps i ∈ qs) (sup : ∀ i, i < ps.length → ∀ z ∈ qs, 0 ≤ triP (fromP ps i) (toP ps i) z) : ps = qs := by
  have n1 := hp.three
  have n2 := hq.three
  have e0 := first_one hp hq mem sup
  have on : ∀ i, i < ps.length → i < qs.length → fromP ps i = fromP qs i → toP ps i = toP qs i := fun i hi hm he => by
    have hi1 : (i + 1) % ps.length < ps.length := Nat.mod_lt _ (by omega)
    obtain ⟨j, hj, e⟩ := mem_from (mem _ hi1)
    have hy : toP qs i ∈ qs := from_mem (Nat.mod_lt _ (by omega))
    have s1 := sup i hi _ hy
    have s2 := hq.left hm hj
    rw [← tri_side, e, ← to_from, ← he] at s2
    have sw : triP (fromP ps i) (toP ps i) (toP qs i) = - triP (fromP ps i) (toP qs i) (toP ps i) := by unfold triP; grind
    have hne : j ≠ i := fun h => by
      have : stepP ps i = (0, 0) := by
        unfold stepP
        rw [to_from, ← e, h, ← he]
        simp
      exact hp.ne0 hi this
    by_cases hj1 : j = (i + 1) % qs.length
    · rw [to_from, ← e, hj1]; rfl
    · have := hq.strict_left hm hj hne hj1
      rw [← tri_side, e, ← to_from, ← he] at this
      omega
  have all : ∀ i, i < ps.length → i < qs.length ∧ fromP ps i = fromP qs i := by
    intro i
    induction i with
    | zero => intro h; exact ⟨by omega, e0⟩
    | succ i ih =>
      intro h
      obtain ⟨g, e⟩ := ih (by omega)
      have t := on i (by omega) g e
      rw [hp.nxt h, to_from] at t
      by_cases hq1 : i + 1 < qs.length
      · rw [Nat.mod_eq_of_lt hq1] at t
        exact ⟨hq1, t⟩
      · rw [show i + 1 = qs.length by omega, Nat.mod_self, ← e0] at t
        have := hp.lowest (j := qs.length) (by omega) (by omega)
        rw [t] at this
        exact absurd this (low_irrefl _)
  refine list_same ?_ fun j hj => (all j hj).2
  obtain ⟨g, e⟩ := all (ps.length - 1) (by omega)
  have t := on (ps.length - 1) (by omega) g e
  rw [hp.last, to_from, e0] at t
  by_cases h : ps.length - 1 + 1 < qs.length
  · rw [Nat.mod_eq_of_lt h] at t
    have := hq.lowest (j := ps.length - 1 + 1) (by omega) h
    rw [← t] at this
    exact absurd this (low_irrefl _)
  · omega
theorem around_bent {ps : List Pt} (hp : Around ps) : ¬ FlatS (fun z => z ∈ ps) := fun h => by
  have n := hp.three
  have := hp.strict_left (k := 0) (j := 2) (by omega) (by omega) (by omega) (by rw [Nat.mod_eq_of_lt (by omega)]; omega)
  rw [← tri_side, h _ _ _ (from_mem (by omega)) (show toP ps 0 ∈ ps from from_mem (Nat.mod_lt _ (by omega))) (from_mem (by omega))] at this
  exact absurd this (by decide)
/-- only points on one line have a hull of fewer than three vertices -/
theorem hull_flat {s : List Pt} (hs : s.Pairwise leP) (h3 : (hullP s).length < 3) : FlatS (fun z => z ∈ s) := by
  cases hc : s with
  | nil => intro a b c ha; cases ha
  | cons f l =>
    rw [← hc]
    have hne : s.reverse ≠ [] := by rw [hc]; simp
    obtain ⟨t, l', hr⟩ : ∃ t l', s.reverse = t :: l' := by
      cases h : s.reverse with
      | nil => exact absurd h hne
      | cons t l' => exact ⟨t, l', rfl⟩
    have wA : Way s f (bendS s) := by
      have := bend_way (f := f) (l := l) (by rw [← hc]; exact hs)
      rwa [← hc] at this
    have hs' : (s.reverse.map negP).Pairwise leP := by
      rw [List.pairwise_map, List.pairwise_reverse]
      exact hs.imp fun h => leP_neg h
    have wB : Way (s.reverse.map negP) (negP t) ((bendS s.reverse).map negP) := by
      have := bend_way (f := negP t) (l := l'.map negP) (by rw [← List.map_cons, ← hr]; exact hs')
      rwa [← List.map_cons, ← hr, bendS_neg] at this
    have cA := wA.chain
    have cB := wB.chain
    have dA := wA.ends
    have dB := wB.ends
    rw [List.length_map] at dB cB
    rw [← List.map_reverse] at dB cB
    have el : (bendS s.reverse).reverse.length = (bendS s.reverse).length := List.length_reverse
    have eA : (bendS s).reverse.length = (bendS s).length := List.length_reverse
    have inn : ∀ z, z ∈ s → negP z ∈ s.reverse.map negP := fun z hz => List.mem_map.2 ⟨z, List.mem_reverse.2 hz, rfl⟩
    unfold hullP at h3
    generalize (bendS s).reverse = A at *
    generalize (bendS s.reverse).reverse = B at *
    rw [← eA] at dA cA
    rw [← el] at dB cB
    clear eA el
    have hB0 : fromP B 0 = t := by
      have := dB.2.1
      rw [fromP_neg (by omega)] at this
      exact neg_inj this
    have hBl : ∀ z ∈ s, leP (fromP B (B.length - 1)) z := fun z hz => by
      have := leP_neg (dB.2.2 _ (inn z hz))
      rwa [fromP_neg (by omega), neg_neg', neg_neg'] at this
    have hBt : ∀ z ∈ s, leP z t := fun z hz => by
      have := leP_neg (wB.low _ (inn z hz))
      rwa [neg_neg', neg_neg'] at this
    have hfl : ∀ z ∈ s, leP f z := wA.low
    have hft : f = t → FlatS (fun z => z ∈ s) := fun e => by
      have all : ∀ z ∈ s, z = f := fun z hz => leP_anti (by rw [e]; exact hBt z hz) (hfl z hz)
      intro a b c ha hb hc
      rw [all a ha, all b hb, tri_self]
    have tm : t ∈ s := List.mem_reverse.1 (by rw [hr]; exact List.mem_cons_self)
    have fm : f ∈ s := by rw [hc]; exact List.mem_cons_self
    have hA : fromP A (A.length - 1) = t := leP_anti (hBt _ (cA.1.mem _ (by have := dA.1; omega))) (dA.2.2 t tm)
    have hBe : fromP B (B.length - 1) = f := by
      refine leP_anti (hBl f fm) ?_
      have hm := cB.1.mem (B.length - 1) (by have := dB.1; simp; omega)
      rw [fromP_neg (by have := dB.1; omega)] at hm
      obtain ⟨x, hx, e⟩ := List.mem_map.1 hm
      rw [← neg_inj e]
      exact hfl x (List.mem_reverse.1 hx)
    have hlen : (A.length - 1) + (B.length - 1) < 3 := by simpa using h3
    have pA := dA.1
    have pB := dB.1
    by_cases gA : A.length = 1
    · refine hft ?_
      rw [gA] at hA
      rw [← dA.2.1]
      exact hA
    · by_cases gB : B.length = 1
      · refine hft ?_
        rw [gB] at hBe
        rw [← hB0]
        exact hBe.symm
      · have lA : A.length = 2 := by omega
        have lB : B.length = 2 := by omega
        have all : ∀ z ∈ s, triP f t z = 0 := fun z hz => by
          have h1 := cA.1.sup 0 (by omega) z hz
          have h2 := cB.1.sup 0 (by simp; omega) (negP z) (inn z hz)
          rw [fromP_neg (by omega), fromP_neg (by omega), tri_neg] at h2
          rw [lA] at hA
          rw [lB] at hBe
          simp only [Nat.zero_add] at h1 h2
          rw [dA.2.1, show fromP A 1 = t from hA] at h1
          rw [hB0, show fromP B 1 = f from hBe] at h2
          have : triP t f z = - triP f t z := by unfold triP; grind
          omega
        by_cases e : f = t
        · exact hft e
        · intro a b c ha hb hc
          have e1 := all a ha
          have e2 := all b hb
          have e3 := all c hc
          unfold triP at e1 e2 e3 ⊢
          refine flat_dir (r1 := t.1 - f.1) (r2 := t.2 - f.2) (fun h => e (Prod.ext ?_ ?_)) (by grind) (by grind)
          · omega
          · omega
end Go.Proofs.Ytnoacppfgckohaa
