import Derived.Test.YtblaipkhmmaenaaE6
import Derived.Test.YtblaipkhmmaenaaC10
namespace Go.Proofs.Ytblaipkhmmaenaa
open Go.RowKit
/-- the boxes that are still open behind the first k nodes -/
def runM (p : Who) (gs : List (List Int × Int)) (st0 : List Bx) (ns : List Nd) : Nat → Option (List Bx)
  | 0 => some st0
  | k + 1 => match runM p gs st0 ns k, ns[k]? with
    | some st, some nd => stepM p gs st nd
    | _, _ => none
def boxM (p : Who) : Bx := ([0, 0, 0, 0, 0], padU p.U)
def accM (p : Who) (gs : List (List Int × Int)) (ns : List Nd) : Bool := decide (runM p gs [boxM p] ns ns.length = some [])
theorem stepM_length {p : Who} {gs : List (List Int × Int)} {st st' : List Bx} {nd : Nd} (h : stepM p gs st nd = some st') : st'.length ≤ st.length + 1 := by
  unfold stepM at h
  cases st with
  | nil => simp at h
  | cons b rest =>
    simp only at h
    split at h
    · split at h
      · simp only [Option.some.injEq] at h; subst h; simp; omega
      · simp at h
    · split at h
      · simp at h
      · split at h
        · simp only [Option.some.injEq] at h; subst h; simp
        · simp at h
theorem runM_length {p : Who} {gs : List (List Int × Int)} {st0 : List Bx} {ns : List Nd} : ∀ {k : Nat} {st : List Bx}, runM p gs st0 ns k = some st → st.length ≤ st0.length + k
  | 0, st, h => by simp only [runM, Option.some.injEq] at h; subst h; simp
  | k + 1, st, h => by
    simp only [runM] at h
    cases hr : runM p gs st0 ns k with
    | none => rw [hr] at h; simp at h
    | some st1 =>
      cases hn : ns[k]? with
      | none => rw [hr, hn] at h; simp at h
      | some nd =>
        rw [hr, hn] at h
        have h1 := runM_length hr
        have h2 := stepM_length h
        omega
theorem runM_none {p : Who} {gs : List (List Int × Int)} {st0 : List Bx} {ns : List Nd} {k : Nat} (h : runM p gs st0 ns k = none) : ∀ {m : Nat}, k ≤ m → runM p gs st0 ns m = none
  | 0, hm => by have : k = 0 := by omega
                subst this; exact h
  | m + 1, hm => by
    by_cases hk : k = m + 1
    · subst hk; exact h
    · simp only [runM, runM_none h (show k ≤ m by omega)]
theorem padU_okBx {p : Who} (hv : whoB p = true) : okBx (boxM p) :=
  ⟨rfl, padU_length (by have := whoP hv; omega), by intro x hx; simp [boxM] at hx; omega, pad_in hv⟩
set_option maxHeartbeats 1000000 in
theorem checkAny_c (a b c u v : Value) (f : Bool) (cost : Int) (ns : List Nd) (p : Who) (w : World) (h : WhoAt w a b c u p) (hN : NodesAt w v ns) :
    Calls Try.prog 17 #[.agg #[a, b, c, u], v, .bool f, .int .i64 cost] w fun e w' => e = chkV (whoB p) ns.length (accM p (goalsOf p f cost) ns) ∧ Ext w w' := by
  have hvn : ∃ av cap, v = .slice av ns.length cap ∧ ns.length ≤ cap ∧ cap ≤ 9223372036854775807 := by
    obtain ⟨av, cap, e, h1, h2, _⟩ := hN
    exact ⟨av, cap, e, h1, h2⟩
  refine check_s a b c u v f cost ns.length p w h hvn _ ?_
  intro hn hv R ob g W k0 k1 k2 k3 k4 hp hE hg hr hb hR hob
  have hst0 : OpenI w R a b c u g (goalsOf p f cost) W [boxM p] := by
    have hcells : (box10 0 0 0 0 0 k0 k1 k2 k3 k4) = (boxM p).cells := by simp [boxM, Bx.cells, hp]
    refine ⟨hE, hg, ⟨ob, 1, hr, ?_⟩, fun b hb => ?_⟩
    · rw [hcells] at hb
      have hl := cells_len (padU_okBx hv)
      refine ⟨by simp [stackV, hl], .inr ⟨ob, 1, (boxM p).cells.toArray, rfl, hob, hb, Nat.le_refl _, by unfold maxLen; omega, by simp [hl], ?_⟩⟩
      simp only [stackV, List.length_singleton, Nat.one_mul, List.reverse_singleton, List.flatMap_singleton]
      exact List.take_of_length_le (by simp [hl])
    · simp only [List.mem_cons, List.not_mem_nil, or_false] at hb
      subst hb
      exact padU_okBx hv
  have hgi := goals_in hv f cost
  have hback : ∀ k, (∀ j, j < k → (runM p (goalsOf p f cost) [boxM p] ns (j + 1)).isNone = false) → ∃ st, runM p (goalsOf p f cost) [boxM p] ns k = some st := by
    intro k hk
    cases k with
    | zero => exact ⟨_, rfl⟩
    | succ j =>
      have := hk j (by omega)
      cases hr : runM p (goalsOf p f cost) [boxM p] ns (j + 1) with
      | none => rw [hr] at this; simp at this
      | some st => exact ⟨st, rfl⟩
  refine (accepts_c R v ns w W hN (fun k W' => Ext w W' ∧ ∀ st, runM p (goalsOf p f cost) [boxM p] ns k = some st → OpenI w R a b c u g (goalsOf p f cost) W' st) ⟨hE, fun st hs => ?_⟩ (fun k W' hI => hI.1)
    (fun k => (runM p (goalsOf p f cost) [boxM p] ns (k + 1)).isNone) (fun k W' nd hI hnd hall => ?_) (match runM p (goalsOf p f cost) [boxM p] ns ns.length with | some st => st.length | none => 0) (fun W' hall hI => ?_)).mono ?_
  · simp only [runM, Option.some.injEq] at hs
    subst hs
    exact hst0
  · obtain ⟨st, hs⟩ := hback k hall
    have hlen := runM_length hs
    have hkn := lt_len hnd
    have hy : Ints w nd.yv nd.y := by
      obtain ⟨_, _, _, _, _, hk⟩ := hN
      obtain ⟨_, _, _, hk2⟩ := hk (by omega)
      exact (hk2 k nd hnd).2.2.2.2
    have e1 : runM p (goalsOf p f cost) [boxM p] ns (k + 1) = stepM p (goalsOf p f cost) st nd := by simp only [runM, hs, hnd]
    refine (refuses_c p (goalsOf p f cost) w R a b c u g h hv hgi hR W' st nd (hI.2 st hs) hy (by simp only [List.length_cons, List.length_nil] at hlen; omega)).mono ?_
    rintro e W2 ⟨rfl, hE2, hO2⟩
    refine ⟨by rw [e1], hE2, fun st' hs' => hO2 st' (by rw [← e1]; exact hs')⟩
  · obtain ⟨st, hs⟩ := hback _ hall
    obtain ⟨_, _, ⟨ob', cap', hr', _⟩, _⟩ := hI.2 st hs
    rw [hs]
    exact ⟨_, _, VRow.cell hr' (k := 5) rfl⟩
  · rintro e W' ⟨rfl, k, hI⟩
    refine ⟨?_, hI.1⟩
    congr 2
    by_cases hall : ∀ j, j < ns.length → (runM p (goalsOf p f cost) [boxM p] ns (j + 1)).isNone = false
    · obtain ⟨st, hs⟩ := hback _ hall
      have h1 : ((List.range ns.length).all fun j => !(runM p (goalsOf p f cost) [boxM p] ns (j + 1)).isNone) = true := List.all_eq_true.2 fun j hj => by simp [hall j (List.mem_range.1 hj)]
      rw [h1]
      simp only [accM, hs, Bool.true_and, Option.some.injEq]
      exact decide_eq_decide.2 List.length_eq_zero_iff
    · have h2 : ∃ j, j < ns.length ∧ (runM p (goalsOf p f cost) [boxM p] ns (j + 1)).isNone = true := by
        by_cases h3 : ∃ j, j < ns.length ∧ (runM p (goalsOf p f cost) [boxM p] ns (j + 1)).isNone = true
        · exact h3
        · exact absurd (fun j hj => by
            cases hx : (runM p (goalsOf p f cost) [boxM p] ns (j + 1)).isNone with
            | false => rfl
            | true => exact absurd ⟨j, hj, hx⟩ h3) hall
      obtain ⟨j, hj, hx⟩ := h2
      have h1 : ((List.range ns.length).all fun j => !(runM p (goalsOf p f cost) [boxM p] ns (j + 1)).isNone) = false := List.all_eq_false.2 ⟨j, List.mem_range.2 hj, by simp [hx]⟩
      rw [h1, Bool.false_and]
      have hnone := runM_none (Option.isNone_iff_eq_none.1 hx) (show j + 1 ≤ ns.length by omega)
      simp [accM, hnone]
end Go.Proofs.Ytblaipkhmmaenaa
