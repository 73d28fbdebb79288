import Derived.Test.YtnpebfchojalcaaL1
namespace Go.Proofs.Ytnpebfchojalcaa
set_option maxRecDepth 100000
open Go.RowKit Go.Shelf
/-- what a reader has: what is left, the value, the counts -/
abbrev RdS := List Ct × Int × List Int
/-- reads the plan of a rectangle -/
def readN (ts : List It) : Nat → Nat → Nat → RdS → Option RdS
  | 0, _, _, _ => none
  | _ + 1, _, _, ([], _, _) => none
  | f + 1, W, H, ((k, m) :: rest, v, cs) =>
    if k = 0 then (if m = 0 then some (rest, v, cs) else none)
    else if k = 1 then (if takeB ts W H m = true then some (rest, v + (ts.getD m.toNat (0, 0, 0)).2.2, bumpZ cs m.toNat) else none)
    else if k = 2 ∧ 1 ≤ m ∧ m < (W : Int) then (readN ts f m.toNat H (rest, v, cs)).bind (readN ts f (W - m.toNat) H)
    else if k = 3 ∧ 1 ≤ m ∧ m < (H : Int) then (readN ts f W m.toNat (rest, v, cs)).bind (readN ts f W (H - m.toNat))
    else none
theorem bumpZ_len (cs : List Int) (i : Nat) : (bumpZ cs i).length = cs.length := by simp [bumpZ]
theorem bumpZ_mem {cs : List Int} {i : Nat} {x : Int} (h : x ∈ bumpZ cs i) : x ∈ cs ∨ (i < cs.length ∧ x = cs.getD i 0 + 1) := by
  unfold bumpZ at h
  by_cases hi : i < cs.length
  · rcases List.mem_or_eq_of_mem_set h with h | h
    · exact .inl h
    · exact .inr ⟨hi, h⟩
  · rw [List.set_eq_of_length_le (by omega)] at h
    exact .inl h
/-- what a reader does to its numbers -/
theorem readN_ok {ts : List It} (hok : ts.all itemB = true) : ∀ (f W H : Nat) (s s' : RdS), readN ts f W H s = some s' →
    (s'.1.length < s.1.length) ∧ s.2.1 ≤ s'.2.1 ∧ s'.2.1 + 1048576 * (s'.1.length : Int) ≤ s.2.1 + 1048576 * (s.1.length : Int) ∧ s'.2.2.length = s.2.2.length ∧
      ∀ B : Int, (∀ x ∈ s.2.2, 0 ≤ x ∧ x + (s.1.length : Int) ≤ B) → (0 ≤ B → ∀ x ∈ s'.2.2, 0 ≤ x ∧ x + (s'.1.length : Int) ≤ B) := by
  intro f
  induction f with
  | zero => intro W H s s' h; simp [readN] at h
  | succ f ih =>
    intro W H s s' h
    obtain ⟨l, v, cs⟩ := s
    cases l with
    | nil => simp [readN] at h
    | cons c rest =>
      obtain ⟨k, m⟩ := c
      simp only [readN] at h
      split at h
      · split at h
        · injection h with h; subst h
          refine ⟨by simp, Int.le_refl _, by simp only [List.length_cons]; omega, rfl, fun B hB hB0 x hx => ?_⟩
          have := hB x hx
          simp only [List.length_cons] at this
          show 0 ≤ x ∧ x + (rest.length : Int) ≤ B
          omega
        · cases h
      · split at h
        · split at h
          · rename_i ht
            injection h with h; subst h
            simp only [takeB, Bool.and_eq_true, decide_eq_true_eq] at ht
            have hp := items_pos hok (j := m.toNat) (by omega)
            refine ⟨by simp, by simp only; omega, by simp only [List.length_cons]; omega, bumpZ_len _ _, fun B hB hB0 x hx => ?_⟩
            simp only [List.length_cons] at hB ⊢
            rcases bumpZ_mem hx with hx | hx
            · have := hB x hx; omega
            · obtain ⟨hi, hx⟩ := hx
              have := hB (cs.getD m.toNat 0) (by rw [List.getD_eq_getElem?_getD, List.getElem?_eq_getElem hi]; exact List.getElem_mem _)
              omega
          · cases h
        · split at h
          · rw [Option.bind_eq_some_iff] at h
            obtain ⟨s1, h1, h2⟩ := h
            obtain ⟨a1, a2, a3, a4, a5⟩ := ih _ _ _ _ h1
            obtain ⟨b1, b2, b3, b4, b5⟩ := ih _ _ _ _ h2
            simp only at a1 a2 a3 a4 a5
            refine ⟨by simp only [List.length_cons]; omega, by simp only; omega, by simp only [List.length_cons]; omega, by simp only; omega, fun B hB hB0 => b5 B (a5 B (fun x hx => ?_) hB0) hB0⟩
            have := hB x hx
            simp only [List.length_cons] at this
            omega
          · split at h
            · rw [Option.bind_eq_some_iff] at h
              obtain ⟨s1, h1, h2⟩ := h
              obtain ⟨a1, a2, a3, a4, a5⟩ := ih _ _ _ _ h1
              obtain ⟨b1, b2, b3, b4, b5⟩ := ih _ _ _ _ h2
              simp only at a1 a2 a3 a4 a5
              refine ⟨by simp only [List.length_cons]; omega, by simp only; omega, by simp only [List.length_cons]; omega, by simp only; omega, fun B hB hB0 => b5 B (a5 B (fun x hx => ?_) hB0) hB0⟩
              have := hB x hx
              simp only [List.length_cons] at this
              omega
            · cases h
end Go.Proofs.Ytnpebfchojalcaa
