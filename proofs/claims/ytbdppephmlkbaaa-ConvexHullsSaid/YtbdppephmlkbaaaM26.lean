import Derived.Test.YtbdppephmlkbaaaM18
import Derived.Test.YtbdppephmlkbaaaM17
namespace Go.Proofs.Ytbdppephmlkbaaa
/-- a polygon as the chapter says it: the first vertex is the lowest one, and all vertices are to the left of all edges -/
structure RefP (ps : List Pt) : Prop where
  three : 3 ≤ ps.length
  low : ∀ i, 0 < i → i < ps.length → lowP (fromP ps 0) (fromP ps i)
  left : ∀ i k, i < ps.length → k < ps.length → k ≠ i → k ≠ (i + 1) % ps.length → 0 < sideK ps (fromP ps k).1 (fromP ps k).2 i
theorem Around.refP {ps : List Pt} (h : Around ps) : RefP ps := ⟨h.three, fun _ h0 hj => h.lowest h0 hj, fun _ _ hi hk h1 h2 => h.strict_left hi hk h1 h2⟩
theorem side_prev {ps : List Pt} {i : Nat} (hi : i < ps.length) : sideK ps (toP ps i).1 (toP ps i).2 (prevI ps.length i) = crossP (stepP ps (prevI ps.length i)) (stepP ps i) := by
  have e := prev_to hi
  unfold sideK crossP crossZ
  rw [show (stepP ps i) = ((toP ps i).1 - (fromP ps i).1, (toP ps i).2 - (fromP ps i).2) from rfl]
  rw [show (stepP ps (prevI ps.length i)) = ((fromP ps i).1 - (fromP ps (prevI ps.length i)).1, (fromP ps i).2 - (fromP ps (prevI ps.length i)).2) by unfold stepP; rw [e]]
  simp only
  grind
theorem RefP.around {ps : List Pt} (h : RefP ps) : Around ps := by
  have h3 := h.three
  have turn : ∀ i, i < ps.length → 0 < crossP (stepP ps (prevI ps.length i)) (stepP ps i) := fun i hi => by
    rw [← side_prev hi, to_from]
    have hm : (i + 1) % ps.length < ps.length := Nat.mod_lt _ (by omega)
    have hp : prevI ps.length i < ps.length := by unfold prevI; split <;> omega
    refine h.left _ _ hp hm ?_ ?_
    · unfold prevI
      by_cases e : i + 1 < ps.length
      · rw [Nat.mod_eq_of_lt e]; split <;> omega
      · rw [show i + 1 = ps.length by omega, Nat.mod_self]; split <;> omega
    · have : (prevI ps.length i + 1) % ps.length = i := by
        unfold prevI
        split
        · subst_vars
          rw [show ps.length - 1 + 1 = ps.length by omega, Nat.mod_self]
        · rw [show i - 1 + 1 = i by omega, Nat.mod_eq_of_lt hi]
      rw [this]
      by_cases e : i + 1 < ps.length
      · rw [Nat.mod_eq_of_lt e]; omega
      · rw [show i + 1 = ps.length by omega, Nat.mod_self]; omega
  have ne0 : ∀ i, i < ps.length → stepP ps i ≠ (0, 0) := fun i hi e => by
    have := turn i hi
    rw [e] at this
    simp [crossP, crossZ] at this
  refine ⟨h3, turn, fun i hi hlt => ?_⟩
  have ht := turn (i + 1) hi
  have hpi : prevI ps.length (i + 1) = i := by unfold prevI; rw [if_neg (by omega)]; omega
  rw [hpi] at ht
  rcases hlt with ⟨h1, h2⟩ | ⟨_, h2⟩
  · -- the step i sinks, the next one does not
    have hlow := h.low (i + 1) (by omega) hi
    obtain ⟨v, hv⟩ : ∃ v : Pt, v = ((fromP ps 0).1 - (fromP ps (i + 1)).1, (fromP ps 0).2 - (fromP ps (i + 1)).2) := ⟨_, rfl⟩
    have hv0 : v ≠ (0, 0) := fun e => by
      rw [hv] at e
      injection e with e1 e2
      unfold lowP at hlow
      omega
    have hvs : sinksB v.1 v.2 = true := by
      rw [hv]
      unfold sinksB lowP at *
      simp only [Bool.or_eq_true, Bool.and_eq_true, decide_eq_true_iff]
      omega
    have eto : toP ps i = fromP ps (i + 1) := by rw [to_from, Nat.mod_eq_of_lt hi]
    have hb : 0 ≤ crossP (stepP ps (i + 1)) v := by
      have e : crossP (stepP ps (i + 1)) v = sideK ps (fromP ps 0).1 (fromP ps 0).2 (i + 1) := by rw [hv]; rfl
      rw [e]
      by_cases hc : 0 = (i + 1 + 1) % ps.length
      · have e2 : toP ps (i + 1) = fromP ps 0 := by rw [to_from, ← hc]
        unfold sideK stepP crossZ
        rw [e2]
        simp only
        grind
      · exact Int.le_of_lt (h.left (i + 1) 0 hi (by omega) (by omega) hc)
    have ha : 0 ≤ crossP (stepP ps i) v := by
      have e : crossP (stepP ps i) v = sideK ps (fromP ps 0).1 (fromP ps 0).2 i := by
        rw [hv]
        unfold crossP sideK stepP crossZ
        rw [eto]
        simp only
        grind
      rw [e]
      by_cases hc : 0 = i
      · subst hc
        unfold sideK crossZ
        grind
      · exact Int.le_of_lt (h.left i 0 (by omega) (by omega) hc (by rw [Nat.mod_eq_of_lt hi]; omega))
    exact low_out (ne0 _ hi) (ne0 _ (by omega)) hv0 h1 h2 hvs ht hb ha
  · -- both are on one side, but the turn is to the left
    unfold crossP crossZ at ht
    unfold crossZ at h2
    have e1 : (stepP ps (i + 1)).1 * (stepP ps i).2 = (stepP ps i).2 * (stepP ps (i + 1)).1 := Int.mul_comm _ _
    have e2 : (stepP ps (i + 1)).2 * (stepP ps i).1 = (stepP ps i).1 * (stepP ps (i + 1)).2 := Int.mul_comm _ _
    omega
end Go.Proofs.Ytbdppephmlkbaaa
