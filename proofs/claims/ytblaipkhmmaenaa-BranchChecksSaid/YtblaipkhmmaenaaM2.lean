import Derived.Test.YtblaipkhmmaenaaL2
import Derived.Test.YtblaipkhmmaenaaB4
namespace Go.Proofs.Ytblaipkhmmaenaa
open Go.RowKit
theorem rows_len {p : Who} (hv : whoB p = true) : (∀ r ∈ p.A, r.length = p.U.length) ∧ p.B.length = p.A.length := by
  obtain ⟨_, hu, _, hp⟩ := whoP hv
  have h := pB hp
  refine ⟨fun r hr => ?_, ?_⟩
  · have := h.2.2.2 r hr
    have h2 : r.length = p.C.length := this
    omega
  · have := h.2.2.1
    simpa using this
theorem feas_in {p : Who} {y : List Int} (hf : feasB p y = true) : inBox p.U y ∧ satB p y = true ∧ y.length = p.U.length := by
  simp only [feasB, Bool.and_eq_true, decide_eq_true_eq] at hf
  exact ⟨inBox_of _ _ hf.1.1 hf.1.2, hf.2, hf.1.1⟩
theorem feas_of {p : Who} {y : List Int} (h : inBox p.U y) (hs : satB p y = true) : feasB p y = true := by
  have := of_inBox _ _ h
  simp only [feasB, Bool.and_eq_true, decide_eq_true_eq]
  exact ⟨⟨this.1, this.2⟩, hs⟩
theorem fit_in {p : Who} (hv : whoB p = true) {x : List Int} (h : inBox p.U x) : ∀ r ∈ p.A, wrap64 (dotZ r x) = dotZ r x :=
  fun r hr => wrap_small (row_small hv (inBox_bd _ _ (whoP hv).2.2.1 h) r hr)
theorem feas2_c (a b c u v : Value) (p : Who) (hv : whoB p = true) (x : List Int) (w : World) (h : WhoAt w a b c u p) (hx : Ints w v x) :
    Calls Try.prog 20 #[.agg #[a, b, c, u], v] w fun e w' => e = .returned (.bool (feasB p x)) ∧ Ext w w' :=
  sfeasible_c a b c u v p x w h hx (rows_len hv).1 (rows_len hv).2 (fun hb => fit_in hv hb)
/-- what is best is feasible, and nothing feasible is better -/
theorem best_facts {p : Who} (hv : whoB p = true) {y : List Int} (hf : feasB p y = true) :
    ∃ x, bestK p (sizeU p.U) = some x ∧ feasB p x = true ∧ dotZ p.C x ≤ dotZ p.C y ∧
      (dotZ p.C x = dotZ p.C y → ∀ i a b, x.take i = y.take i → x[i]? = some a → y[i]? = some b → a ≠ b → a < b) := by
  obtain ⟨hy, hs, _⟩ := feas_in hf
  have hr := rankU_lt _ _ hy
  have hat := vecAt_rank _ _ hy
  cases hk : bestK p (sizeU p.U) with
  | none =>
    have := bestK_none p _ hk _ hr
    rw [hat, hs] at this
    cases this
  | some x =>
    obtain ⟨i, hi, rfl, hsx, hall⟩ := bestK_some p _ _ hk
    have h0 : ∀ z ∈ p.U, 0 ≤ z := fun z hz => ((whoP hv).2.2.1 z hz).1
    have hbx := inBox_vecAt p.U i h0 hi
    have hj := hall _ hr (by rw [hat]; exact hs)
    rw [hat] at hj
    refine ⟨_, rfl, feas_of hbx hsx, by omega, fun e j a b ht ha hb hne => ?_⟩
    refine rank_lex p.U _ _ j a b hbx hy ht ha hb ?_ hne
    rw [rank_vecAt p.U i hi]
    omega
end Go.Proofs.Ytblaipkhmmaenaa
