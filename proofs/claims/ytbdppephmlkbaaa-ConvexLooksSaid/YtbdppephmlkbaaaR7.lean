import Derived.Test.YtbdppephmlkbaaaR2
import Derived.Test.YtbdppephmlkbaaaR4
namespace Go.Proofs.Ytbdppephmlkbaaa
set_option maxRecDepth 100000
open Go.RowKit Go.Shelf
attribute [local go_sem] Oper.semAt_some
/-! The reference's rows. -/
theorem floor_is {a b : Int} (hb : 0 < b) : a / b = if a.tmod b < 0 then a.tdiv b - 1 else a.tdiv b := by
  have h := Int.mul_tdiv_add_tmod a b
  have hl : a.tmod b < b := Int.tmod_lt_of_pos a hb
  have hg : -b < a.tmod b := by
    have h1 : (a.tmod b).natAbs = a.natAbs % b.natAbs := Int.natAbs_tmod a b
    have h2 : a.natAbs % b.natAbs < b.natAbs := Nat.mod_lt _ (by omega)
    omega
  have key : ∀ q : Int, b * q ≤ a → a < b * q + b → a / b = q := fun q h1 h2 => by
    refine Int.le_antisymm ?_ ?_
    · have : a / b < q + 1 := Int.ediv_lt_of_lt_mul hb (by rw [Int.add_mul, Int.mul_comm q b]; omega)
      omega
    · exact (Int.le_ediv_iff_mul_le hb).2 (by rw [Int.mul_comm]; exact h1)
  split
  · exact key _ (by rw [Int.mul_sub]; omega) (by rw [Int.mul_sub]; omega)
  · exact key _ (by omega) (by omega)
theorem tdiv_bd {a d : Int} (ha : -100000000 ≤ a ∧ a ≤ 100000000) : -100000000 ≤ a.tdiv d ∧ a.tdiv d ≤ 100000000 := by
  have h : (a.tdiv d).natAbs = a.natAbs / d.natAbs := Int.natAbs_tdiv a d
  have h2 : a.natAbs / d.natAbs ≤ a.natAbs := Nat.div_le_self _ _
  generalize a.natAbs / d.natAbs = t at *
  generalize a.tdiv d = y at *
  omega
set_option maxHeartbeats 1000000 in
theorem floor_c (a b : Int) (w : World) (ha : -100000000 ≤ a ∧ a ≤ 100000000) (hb : 0 < b ∧ b ≤ 100000) :
    Calls Try.prog 85 #[.int .i64 a, .int .i64 b] w fun e w' => e = .returned (.int .i64 (a / b)) ∧ Ext w w' := by
  have hqb := tdiv_bd (d := b) ha
  have HF := Lib.hid (floor_is (a := a) hb.1)
  obtain ⟨q, hq⟩ : ∃ q, q = a.tdiv b := ⟨_, rfl⟩
  rw [← hq] at hqb HF
  have hqw : IntKind.i64.wrap q = q := IntWalk.i64_in _ (by omega)
  have hqe : a.tdiv b = q := hq.symm
  have hb0 : ¬ b = 0 := by omega
  have hbb : (b == 0) = false := beq_eq_false_iff_ne.2 hb0
  clear hq
  by_cases hr : a.tmod b < 0
  · have HF2 := Lib.hid (show a / b = q - 1 from by rw [HF.out, if_pos hr])
    rw [HF2.out]
    go_enter Try.func85, Try.ntmps85
    go_wp2_with fail
    go_ret
    exact ⟨rfl, Ext.refl _⟩
  · have HF2 := Lib.hid (show a / b = q from by rw [HF.out, if_neg hr])
    rw [HF2.out]
    go_enter Try.func85, Try.ntmps85
    go_wp2_with fail
    go_ret
    exact ⟨rfl, Ext.refl _⟩
end Go.Proofs.Ytbdppephmlkbaaa
