import Derived.Test.YtblaipkhmmaenaaM5
namespace Go.Proofs.Ytblaipkhmmaenaa
open Go.RowKit
theorem dotZ_zeros (x : List Int) : ∀ n, dotZ (List.replicate n 0) x = 0 := by
  intro n
  induction n generalizing x with
  | zero => rfl
  | succ n ih =>
    cases x with
    | nil => rfl
    | cons a x => simp only [List.replicate_succ, dotZ, ih x]; omega
def claimP (p : Who) (f : Bool) (cost : Int) (x : List Int) : Prop := f = true ∧ cost ≤ dotZ p.C x
theorem leaf_claim {p : Who} (hv : whoB p = true) {f : Bool} {cost : Int} {x : List Int} (hx : feasB p x = true) {y : List Int} {d : Int} {b : Bx} (hb : inBx b x) (hg : goodB p y d b.1 b.2 (goalsOf p f cost) = true) : claimP p f cost x := by
  obtain ⟨_, hs, hxl⟩ := feas_in hx
  have hCl : p.C.length = x.length := by have := (whoP hv).2.1; omega
  have hA : ∀ r ∈ p.A, r.length = x.length := fun r hr => by rw [(rows_len hv).1 r hr, hxl]
  simp only [goodB, Bool.and_eq_true] at hg
  obtain ⟨hl, hg⟩ := hg
  obtain ⟨_, hd, _, hy⟩ := leafP hl
  have hy0 : ∀ z ∈ y, 0 ≤ z := fun z hz => (hy z hz).1
  rw [List.any_eq_true] at hg
  obtain ⟨g, hgm, hr⟩ := hg
  simp only [reachB, decide_eq_true_eq] at hr
  simp only [goalsOf, List.mem_cons] at hgm
  rcases hgm with rfl | hgm
  · exfalso
    dsimp only at hr
    have h1 := bound_le (costs := List.replicate p.C.length 0) hA (rows_len hv).2 hy0 hs (by simpa using hCl) hb (d := d)
    rw [dotZ_zeros] at h1
    have := round_le hd h1
    omega
  · cases f with
    | false => simp at hgm
    | true =>
      simp only [if_true, List.mem_cons, List.not_mem_nil, or_false] at hgm
      subst hgm
      dsimp only at hr
      have h1 := bound_le (costs := p.C) hA (rows_len hv).2 hy0 hs hCl hb (d := d)
      have := round_le hd h1
      exact ⟨rfl, by omega⟩
def len5 (st : List Bx) : Prop := ∀ b ∈ st, b.1.length = 5 ∧ b.2.length = 5
theorem step_len5 {p : Who} {gs : List (List Int × Int)} {st st' : List Bx} {nd : Nd} (h5 : len5 st) (h : stepM p gs st nd = some st') : len5 st' := by
  unfold stepM at h
  cases st with
  | nil => simp at h
  | cons b rest =>
    have hb := h5 b (by simp)
    have hr : len5 rest := fun x hx => h5 x (by simp [hx])
    simp only at h
    split at h
    · split at h
      · simp only [Option.some.injEq] at h; subst h; exact hr
      · simp at h
    · split at h
      · simp at h
      · split at h
        · simp only [Option.some.injEq] at h
          subst h
          intro x hx
          simp only [List.mem_cons] at hx
          rcases hx with rfl | rfl | hx
          · exact ⟨hb.1, by simpa using hb.2⟩
          · exact ⟨by simpa using hb.1, hb.2⟩
          · exact hr x hx
        · simp at h
theorem step_claim {p : Who} (hv : whoB p = true) {f : Bool} {cost : Int} {x : List Int} (hx : feasB p x = true) {st st' : List Bx} {nd : Nd} (h5 : len5 st) (h : stepM p (goalsOf p f cost) st nd = some st') (hin : (∃ b ∈ st, inBx b x) ∨ claimP p f cost x) :
    (∃ b ∈ st', inBx b x) ∨ claimP p f cost x := by
  rcases hin with ⟨b0, hb0, hin⟩ | hc
  · obtain ⟨_, _, hxl⟩ := feas_in hx
    have hCl : p.C.length = x.length := by have := (whoP hv).2.1; omega
    have hC5 := (whoP hv).1
    unfold stepM at h
    cases st with
    | nil => simp at h
    | cons b rest =>
      have hb := h5 b (by simp)
      simp only at h
      simp only [List.mem_cons] at hb0
      split at h
      · split at h
        · rename_i hg
          simp only [Option.some.injEq] at h
          subst h
          rcases hb0 with rfl | hb0
          · exact .inr (leaf_claim hv hx hin hg)
          · exact .inl ⟨b0, hb0, hin⟩
        · simp at h
      · split at h
        · simp at h
        · split at h
          · rename_i hneg hlt hdiv
            simp only [Option.some.injEq] at h
            subst h
            rcases hb0 with rfl | hb0
            · left
              have hj : nd.v.toNat < x.length := by omega
              by_cases hle : x.getD nd.v.toNat 0 ≤ nd.at'
              · refine ⟨_, List.mem_cons_self, fun j hjx => ?_⟩
                have h1 := hin j hjx
                refine ⟨h1.1, ?_⟩
                by_cases hjv : nd.v.toNat = j
                · subst hjv
                  simp only [List.getD_eq_getElem?_getD, List.getElem?_set_self (show nd.v.toNat < b0.2.length by omega), Option.getD_some] at hle ⊢
                  exact hle
                · simp only [List.getD_eq_getElem?_getD, List.getElem?_set_ne hjv] at h1 ⊢
                  exact h1.2
              · refine ⟨_, List.mem_cons_of_mem _ List.mem_cons_self, fun j hjx => ?_⟩
                have h1 := hin j hjx
                refine ⟨?_, h1.2⟩
                by_cases hjv : nd.v.toNat = j
                · subst hjv
                  simp only [List.getD_eq_getElem?_getD, List.getElem?_set_self (show nd.v.toNat < b0.1.length by omega), Option.getD_some] at hle ⊢
                  omega
                · simp only [List.getD_eq_getElem?_getD, List.getElem?_set_ne hjv] at h1 ⊢
                  exact h1.1
            · exact .inl ⟨b0, by simp [hb0], hin⟩
          · simp at h
  · exact .inr hc
theorem inBox_get : ∀ {U x : List Int}, inBox U x → ∀ j, j < x.length → 0 ≤ x.getD j 0 ∧ x.getD j 0 ≤ U.getD j 0
  | [], [], _, j, hj => by simp at hj
  | [], _ :: _, h, _, _ => h.elim
  | _ :: _, [], h, _, _ => h.elim
  | u :: us, y :: ys, h, 0, _ => ⟨h.1, h.2.1⟩
  | u :: us, y :: ys, h, j + 1, hj => by
    have := inBox_get h.2.2 j (by simpa using hj)
    simpa [List.getD] using this
/-- **Whatever proof is accepted, it is sound.** -/
theorem acc_sound {p : Who} (hv : whoB p = true) {f : Bool} {cost : Int} {ns : List Nd} (h : accM p (goalsOf p f cost) ns = true) {x : List Int} (hx : feasB p x = true) : claimP p f cost x := by
  have key : ∀ k st, runM p (goalsOf p f cost) [boxM p] ns k = some st → len5 st ∧ ((∃ b ∈ st, inBx b x) ∨ claimP p f cost x) := by
    intro k
    induction k with
    | zero =>
      intro st hs
      simp only [runM, Option.some.injEq] at hs
      subst hs
      refine ⟨fun b hb => ?_, .inl ⟨boxM p, by simp, fun j hj => ?_⟩⟩
      · simp only [List.mem_cons, List.not_mem_nil, or_false] at hb
        subst hb
        exact ⟨(padU_okBx hv).1, (padU_okBx hv).2.1⟩
      · obtain ⟨hb, _, hl⟩ := feas_in hx
        have h1 := inBox_get hb j hj
        have h5 : j < 5 := by have := whoP hv; omega
        have e0 : (boxM p).1.getD j 0 = 0 := by
          match j, h5 with
          | 0, _ => rfl
          | 1, _ => rfl
          | 2, _ => rfl
          | 3, _ => rfl
          | 4, _ => rfl
        have e1 : (boxM p).2.getD j 0 = p.U.getD j 0 := by
          simp only [boxM, padU, List.getD_eq_getElem?_getD]
          rw [List.getElem?_append_left (by omega)]
        rw [e0, e1]
        exact h1
    | succ k ih =>
      intro st hs
      simp only [runM] at hs
      cases hr : runM p (goalsOf p f cost) [boxM p] ns k with
      | none => rw [hr] at hs; simp at hs
      | some st1 =>
        cases hn : ns[k]? with
        | none => rw [hr, hn] at hs; simp at hs
        | some nd =>
          rw [hr, hn] at hs
          obtain ⟨h5, hin⟩ := ih st1 hr
          exact ⟨step_len5 h5 hs, step_claim hv hx h5 hs hin⟩
  simp only [accM, decide_eq_true_eq] at h
  rcases (key _ _ h).2 with ⟨b, hb, _⟩ | hc
  · simp at hb
  · exact hc
end Go.Proofs.Ytblaipkhmmaenaa
