import Derived.Test.YtbdppephmlkbaaaM12
import Derived.Test.YtbdppephmlkbaaaM16
namespace Go.Proofs.Ytbdppephmlkbaaa
/-- three directions that a convex corner can't have -/
theorem wedge1 {s a b : Pt} (hs : s ≠ (0, 0)) (ha : a ≠ (0, 0)) (hb : b ≠ (0, 0)) (h1 : ltA s a) (h2 : ltA a b) (c1 : 0 ≤ crossP s b) (c2 : 0 ≤ crossP a s) : False := by
  have key : sinksB s.1 s.2 = false ∧ sinksB a.1 a.2 = true := by
    rcases h1 with h | ⟨_, h⟩
    · exact h
    · have h : 0 < crossP s a := h
      have := cross_anti s a
      omega
  have kb : sinksB b.1 b.2 = true := lt_down h2 key.2
  have na : sinksB (negP a).1 (negP a).2 = false := by rw [sinks_neg ha, key.2]; rfl
  have nb : sinksB (negP b).1 (negP b).2 = false := by rw [sinks_neg hb, kb]; rfl
  have t1 : ¬ ltA (negP a) s := by
    rintro (⟨_, h⟩ | ⟨_, h⟩)
    · rw [key.1] at h; cases h
    · have h : 0 < crossP (negP a) s := h
      have e := cross_anti s (negP a)
      have e2 := cross_neg2 s a
      have e3 := cross_anti a s
      omega
  have t2 : ltA (negP a) (negP b) := .inr ⟨by rw [na, nb], by
    have := lt_cross h2 (by rw [key.2, kb])
    show 0 < crossP (negP a) (negP b)
    rw [crossP_neg]; exact this⟩
  rcases lt_left hs (neg_ne ha) (neg_ne hb) t1 t2 with ⟨_, h⟩ | ⟨_, h⟩
  · rw [nb] at h; cases h
  · have h : 0 < crossP s (negP b) := h
    rw [cross_neg2] at h
    omega
theorem wedge2 {s a b : Pt} (hs : s ≠ (0, 0)) (ha : a ≠ (0, 0)) (hb : b ≠ (0, 0)) (h1 : ltA a b) (h2 : ltA b s) (c1 : 0 ≤ crossP s b) (c2 : 0 ≤ crossP a s) : False := by
  have key : sinksB b.1 b.2 = false ∧ sinksB s.1 s.2 = true := by
    rcases h2 with h | ⟨_, h⟩
    · exact h
    · have h : 0 < crossP b s := h
      have := cross_anti b s
      omega
  have ka : sinksB a.1 a.2 = false := lt_up h1 key.1
  have ns : sinksB (negP s).1 (negP s).2 = false := by rw [sinks_neg hs, key.2]; rfl
  have t1 : ¬ ltA a (negP s) := by
    rintro (⟨_, h⟩ | ⟨_, h⟩)
    · rw [ns] at h; cases h
    · have h : 0 < crossP a (negP s) := h
      rw [cross_neg2] at h
      omega
  rcases lt_left (neg_ne hs) ha hb t1 h1 with ⟨_, h⟩ | ⟨_, h⟩
  · rw [key.1] at h; cases h
  · have h : 0 < crossP (negP s) b := h
    have e := cross_anti b (negP s)
    have e2 := cross_neg2 b s
    have e3 := cross_anti s b
    omega
theorem wedge3 {s a b : Pt} (h1 : ltA b s) (h2 : ltA s a) (c1 : 0 ≤ crossP s b) (c2 : 0 ≤ crossP a s) : False := by
  have key : sinksB s.1 s.2 = true := by
    rcases h1 with h | ⟨_, h⟩
    · exact h.2
    · have h : 0 < crossP b s := h
      have := cross_anti b s
      omega
  have ka := lt_down h2 key
  have := lt_cross h2 (by rw [key, ka])
  have := cross_anti s a
  omega
theorem tri_side (ps : List Pt) (z : Pt) (k : Nat) : triP (fromP ps k) (toP ps k) z = sideK ps z.1 z.2 k := by
  unfold triP sideK stepP crossZ; rfl
theorem prev_to {ps : List Pt} {j : Nat} (hj : j < ps.length) : toP ps (prevI ps.length j) = fromP ps j := by
  rw [to_from]
  congr 1
  unfold prevI
  split
  · rename_i h
    rw [h, show ps.length - 1 + 1 = ps.length by omega, Nat.mod_self]
  · rw [show j - 1 + 1 = j by omega, Nat.mod_eq_of_lt hj]
/-- every vertex but the two ends of an edge is to its left -/
theorem Around.strict_left {ps : List Pt} (h : Around ps) {k j : Nat} (hk : k < ps.length) (hj : j < ps.length) (h1 : j ≠ k) (h2 : j ≠ (k + 1) % ps.length) : 0 < sideK ps (fromP ps j).1 (fromP ps j).2 k := by
  rcases Int.lt_or_eq_of_le (h.left hk hj) with g | g
  · exact g
  · exfalso
    have h3 := h.three
    have hn : (j + 1) % ps.length < ps.length := Nat.mod_lt _ (by omega)
    have n1 := h.left hk hn
    have hp : prevI ps.length j < ps.length := by unfold prevI; split <;> omega
    have p1 := h.left hk hp
    have pt := prev_to hj
    have z0 := h.ne0 hk
    have z1 := h.ne0 hj
    have z2 := h.ne0 hp
    have cb : 0 ≤ crossP (stepP ps k) (stepP ps j) := by
      have e : crossP (stepP ps k) (stepP ps j) = sideK ps (fromP ps ((j + 1) % ps.length)).1 (fromP ps ((j + 1) % ps.length)).2 k - sideK ps (fromP ps j).1 (fromP ps j).2 k := by
        rw [← to_from]
        show crossZ _ _ ((toP ps j).1 - (fromP ps j).1) ((toP ps j).2 - (fromP ps j).2) = _
        unfold sideK crossZ
        grind
      omega
    have ca : 0 ≤ crossP (stepP ps (prevI ps.length j)) (stepP ps k) := by
      have e : crossP (stepP ps (prevI ps.length j)) (stepP ps k) = sideK ps (fromP ps (prevI ps.length j)).1 (fromP ps (prevI ps.length j)).2 k - sideK ps (fromP ps j).1 (fromP ps j).2 k := by
        rw [← pt]
        generalize prevI ps.length j = i
        show crossZ ((toP ps i).1 - (fromP ps i).1) ((toP ps i).2 - (fromP ps i).2) _ _ = _
        unfold sideK crossZ
        grind
      omega
    have lt : ∀ i m, i < m → m < ps.length → ltA (stepP ps i) (stepP ps m) := fun i m him hm => by
      have := pair_lt h.strict him (by rw [stepsOf_length]; exact hm)
      rwa [from_steps (by omega), from_steps hm] at this
    by_cases hj0 : j = 0
    · have ep : prevI ps.length j = ps.length - 1 := by unfold prevI; rw [if_pos hj0]
      rw [ep] at ca z2
      have : k ≠ ps.length - 1 := fun e => h2 (by rw [e, hj0, show ps.length - 1 + 1 = ps.length by omega, Nat.mod_self])
      exact wedge3 (lt j k (by omega) hk) (lt k (ps.length - 1) (by omega) (by omega)) cb ca
    · have ep : prevI ps.length j = j - 1 := by unfold prevI; rw [if_neg hj0]
      rw [ep] at ca z2
      have : k ≠ j - 1 := fun e => h2 (by rw [e, show j - 1 + 1 = j by omega, Nat.mod_eq_of_lt hj])
      rcases Nat.lt_or_ge k (j - 1) with g | g
      · exact wedge1 z0 z2 z1 (lt k (j - 1) g (by omega)) (lt (j - 1) j (by omega) hj) cb ca
      · exact wedge2 z0 z2 z1 (lt (j - 1) j (by omega) hj) (lt j k (by omega) hk) cb ca
/-- a point lower than the lowest vertex isn't to the left of all edges -/
theorem low_out {a b v : Pt} (hb0 : b ≠ (0, 0)) (ha0 : a ≠ (0, 0)) (hv0 : v ≠ (0, 0)) (hb : sinksB b.1 b.2 = false) (ha : sinksB a.1 a.2 = true) (hv : sinksB v.1 v.2 = true) (c : 0 < crossP a b) (h1 : 0 ≤ crossP b v) (h2 : 0 ≤ crossP a v) : False := by
  have na : sinksB (negP a).1 (negP a).2 = false := by rw [sinks_neg ha0, ha]; rfl
  have nv : sinksB (negP v).1 (negP v).2 = false := by rw [sinks_neg hv0, hv]; rfl
  have t1 : ¬ ltA b (negP v) := by
    rintro (⟨_, h⟩ | ⟨_, h⟩)
    · rw [nv] at h; cases h
    · have h : 0 < crossP b (negP v) := h
      rw [cross_neg2] at h
      omega
  have t2 : ltA b (negP a) := .inr ⟨by rw [na, hb], by
    show 0 < crossP b (negP a)
    rw [cross_neg2]
    have := cross_anti a b
    omega⟩
  rcases lt_left (neg_ne hv0) hb0 (neg_ne ha0) t1 t2 with ⟨_, h⟩ | ⟨_, h⟩
  · rw [na] at h; cases h
  · have h : 0 < crossP (negP v) (negP a) := h
    rw [crossP_neg] at h
    have := cross_anti a v
    omega
end Go.Proofs.Ytbdppephmlkbaaa
