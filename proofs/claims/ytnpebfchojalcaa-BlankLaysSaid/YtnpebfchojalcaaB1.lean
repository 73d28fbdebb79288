import Derived.Test.YtnpebfchojalcaaV2
namespace Go.Proofs.Ytnpebfchojalcaa
set_option maxRecDepth 100000
open Go.RowKit
theorem tmod_mod (a n : Int) (hn : 1 ≤ n) : (a.tmod n + n).tmod n = a % n := by
  have h1 := Int.tmod_lt_of_pos a (show 0 < n by omega)
  have h2 := Int.emod_nonneg a (show n ≠ 0 by omega)
  have h3 := Int.emod_lt_of_pos a (show 0 < n by omega)
  by_cases h : 0 ≤ a
  · rw [Int.tmod_eq_emod_of_nonneg h, Int.tmod_eq_emod_of_nonneg (by omega), Int.add_emod_right, Int.emod_emod]
  · have e : a.tmod n = -((-a) % n) := by rw [← Int.tmod_eq_emod_of_nonneg (show 0 ≤ -a by omega), Int.neg_tmod, Int.neg_neg]
    have h4 := Int.emod_nonneg (-a) (show n ≠ 0 by omega)
    have h5 := Int.emod_lt_of_pos (-a) (show 0 < n by omega)
    rw [e, Int.tmod_eq_emod_of_nonneg (by omega), Int.add_emod_right]
    have e2 : -((-a) % n) = a + n * ((-a) / n) := by have := Int.mul_ediv_add_emod (-a) n; omega
    rw [e2, Int.add_mul_emod_self_left]
theorem mod_c (a n : Int) (w : World) (_ : -1000000000 ≤ a) (_ : a ≤ 1000000000) (hn1 : 1 ≤ n) (hn2 : n ≤ 1000000) :
    Calls Try.prog 114 #[.int .i64 a, .int .i64 n] w fun e w' => e = .returned (.int .i64 (a % n)) ∧ w = w' := by
  have hn0 : n ≠ 0 := by omega
  have b1 : -n < a.tmod n := by
    have := Int.neg_tmod a n
    have h3 := Int.tmod_lt_of_pos (-a) (show 0 < n by omega)
    omega
  have b2 := Int.tmod_lt_of_pos a (show 0 < n by omega)
  have HR := Lib.hid (show (a.tmod n + n) % n = a % n by rw [← Int.tmod_eq_emod_of_nonneg (by omega), tmod_mod a n hn1])
  go_enter Try.func114, Try.ntmps114
  go_wp2
  go_ret
  exact ⟨ret_int HR.out, rfl⟩
end Go.Proofs.Ytnpebfchojalcaa
