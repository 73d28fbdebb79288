import Derived.Test.YtblaipkhmmaenaaC7
namespace Go.Proofs.Ytblaipkhmmaenaa
open Go.RowKit
set_option maxRecDepth 100000 in
set_option maxHeartbeats 2000000 in
theorem accepts_c (R : Nat) (v : Value) (ns : List Nd) (w0 w : World) (hN : NodesAt w0 v ns) (I : Nat → World → Prop) (hI0 : I 0 w) (hIE : ∀ k W, I k W → Ext w0 W) (ref : Nat → Bool)
    (hstep : ∀ k W nd, I k W → ns[k]? = some nd → (∀ j, j < k → ref j = false) → Calls Try.prog 37 #[.pointer (some ⟨R, 0, none⟩), nd.val] W fun e W' => e = .returned (.bool (ref k)) ∧ I (k + 1) W')
    (left : Nat) (hopen : ∀ W, (∀ j, j < ns.length → ref j = false) → I ns.length W → ∃ a c, W.cell? ⟨R, 5, none⟩ = some (.slice a left c)) :
    Calls Try.prog 28 #[.pointer (some ⟨R, 0, none⟩), v] w fun e W' => e = .returned (.bool ((List.range ns.length).all (fun j => !ref j) && decide (left = 0))) ∧ ∃ k, I k W' := by
  have HC := Lib.hid (index_c R v ns w0 w hN I hI0 hIE ref hstep)
  obtain ⟨a, cap, rfl, hl, hc, _⟩ := hN
  have HOP := Lib.hid hopen
  clear hI0 hIE hstep hopen
  go_enter Try.func28, Try.ntmps28
  go_wp2_with fail
  refine HC.out.mono ?_
  rintro e W' (⟨k, hk, rfl, hr, hall, hI⟩ | ⟨rfl, hall, hI⟩)
  · have Hr := Lib.hid hr
    have HI := Lib.hid hI
    clear hr hI hall
    have hlt : ¬ (k : Int) < 0 := by omega
    go_wp2
    go_ret
    refine ⟨ret_bool ?_, _, HI.out⟩
    have : (List.range ns.length).all (fun j => !ref j) = false := List.all_eq_false.2 ⟨k, List.mem_range.2 hk, by simp [Hr.out]⟩
    rw [this]
    rfl
  · obtain ⟨a2, c2, q5⟩ := HOP.out W' hall hI
    have Hall := Lib.hid hall
    have HI := Lib.hid hI
    clear hall hI
    go_wp2
    go_ret
    refine ⟨ret_bool ?_, _, HI.out⟩
    have : (List.range ns.length).all (fun j => !ref j) = true := List.all_eq_true.2 fun j hj => by simp [Hall.out j (List.mem_range.1 hj)]
    rw [this]
    rw [Bool.true_and]
    by_cases h0 : left = 0
    · subst h0; rfl
    · have : ((left : Int) == 0) = false := by simp; omega
      rw [this, decide_eq_false h0]
end Go.Proofs.Ytblaipkhmmaenaa
