import Derived.Test.YtblaipkhmmaenaaB2
namespace Go.Proofs.Ytblaipkhmmaenaa
open Go.RowKit
def roundZ (n d : Int) : Int := if 0 < n.tmod d then n.tdiv d + 1 else n.tdiv d
theorem tdiv_bd (n d m : Int) (h1 : -m ≤ n) (h2 : n ≤ m) : -m ≤ n.tdiv d ∧ n.tdiv d ≤ m := by
  have h : (n.tdiv d).natAbs ≤ n.natAbs := by rw [Int.natAbs_tdiv]; exact Nat.div_le_self _ _
  generalize n.tdiv d = q at *
  omega
theorem roundUp_c (n d : Int) (w : World) (hd : 1 ≤ d) (hn : -4611686018427387904 ≤ n) (hn2 : n ≤ 4611686018427387904) :
    Calls Try.prog 62 #[.int .i64 n, .int .i64 d] w fun e w' => e = .returned (.int .i64 (roundZ n d)) ∧ w' = w := by
  by_cases h : 0 < n.tmod d
  · go_enter Try.func62, Try.ntmps62
    go_wp2
    go_ret
    refine ⟨ret_int ?_, rfl⟩
    have := tdiv_bd n d 4611686018427387904 hn hn2
    rw [roundZ, if_pos h]
    unfold wrap64
    omega
  · go_enter Try.func62, Try.ntmps62
    go_wp2
    go_ret
    refine ⟨ret_int ?_, rfl⟩
    rw [roundZ, if_neg (by omega)]
def proofB (x : Int) : Bool := decide (0 ≤ x) && decide (x ≤ 1099511627776)
def leafB (rows : Nat) (y : List Int) (d : Int) : Bool := decide (y.length = rows) && decide (1 ≤ d) && decide (d ≤ 1099511627776) && y.all proofB
set_option maxRecDepth 100000 in
set_option maxHeartbeats 1000000 in
theorem validLeaf_c (a b c u g v : Value) (nv na d : Int) (p : Who) (y : List Int) (w : World) (h : WhoAt w a b c u p) (hy : Ints w v y) :
    Calls Try.prog 61 #[.agg #[a, b, c, u, g], .agg #[.int .i64 nv, .int .i64 na, v, .int .i64 d]] w fun e w' => e = .returned (.bool (leafB p.A.length y d)) ∧ Ext w w' := by
  obtain ⟨ax, cx, rfl, hxc, hxm, _⟩ := h.1.1.at
  have hy' := hy.at
  obtain ⟨ay, cy, rfl, hyc, hym, _⟩ := hy'
  dsimp only at *
  have Hy := Lib.hid hy
  clear h hy
  have HE := Lib.hid (Ext.alloc (Ext.alloc (Ext.refl w) (.cells #[.slice ax p.A.length cx, b, c, u, g] 54)) (.cells #[.int .i64 nv, .int .i64 na, .slice ay y.length cy, .int .i64 d] 40))
  by_cases h1 : y.length = p.A.length
  · have h1' : ((y.length : Int) != (p.A.length : Int)) = false := by rw [h1]; simp
    have H1 := Lib.hid h1
    clear h1
    by_cases h2 : 1 ≤ d
    · have h2' : ¬ d < 1 := by omega
      by_cases h3 : d ≤ 1099511627776
      · have h3' : ¬ 1099511627776 < d := by omega
        go_enter Try.func61, Try.ntmps61
        go_wp2
        have HR := Lib.hid ((Hy.out.ext HE.out))
        clear h1'
        generalize ((w.alloc (.cells #[.slice ax p.A.length cx, b, c, u, g] 54)).alloc (.cells #[.int .i64 nv, .int .i64 na, .slice ay y.length cy, .int .i64 d] 40)) = w1 at *
        go_loop [28] (fun i => ∃ k : Nat, k ≤ y.length ∧ i = .int .i64 k ∧ (y.take k).all proofB = true) (fun i => y.length - (intOf i).toNat)
        case atStart => exact ⟨0, Nat.zero_le _, rfl, rfl⟩
        case round =>
          obtain ⟨k, hk, rfl, hall⟩ := hrel
          by_cases hlt : k < y.length
          · obtain ⟨z, hz⟩ := getElem?_len hlt
            obtain ⟨_, _, e2, _, _, hr2⟩ := HR.out.at
            simp only [Value.slice.injEq] at e2
            obtain ⟨rfl, _, rfl⟩ := e2
            obtain ⟨b2, o2, rfl, hc2⟩ := hr2 k z hz
            clear hr2
            have Hall := Lib.hid hall
            have Hz := Lib.hid hz
            clear hall hz
            have hi2 : (k : Int) < (y.length : Int) := by omega
            by_cases h4 : 0 ≤ z
            · have h4' : ¬ z < 0 := by omega
              by_cases h5 : z ≤ 1099511627776
              · have h5' : ¬ 1099511627776 < z := by omega
                go_wp2
                refine ⟨⟨k + 1, by omega, by go_num, all_take_succ Hz.out Hall.out (by simp [proofB, h4, h5])⟩, by simp [intOf]; omega⟩
              · have h5' : 1099511627776 < z := by omega
                go_wp2
                go_ret
                refine ⟨ret_bool ?_, HE.out⟩
                have := all_false (p := proofB) Hz.out (by simp [proofB]; omega)
                simp only [leafB, this, Bool.and_false]
            · have h4' : z < 0 := by omega
              go_wp2
              go_ret
              refine ⟨ret_bool ?_, HE.out⟩
              have := all_false (p := proofB) Hz.out (by simp [proofB]; omega)
              simp only [leafB, this, Bool.and_false]
          · have Hd := Lib.hid (all_done (p := proofB) (by omega) hall)
            clear hall
            go_wp2
            go_ret
            refine ⟨ret_bool ?_, HE.out⟩
            simp [leafB, H1.out, h2, h3, Hd.out]
      · have h3' : 1099511627776 < d := by omega
        go_enter Try.func61, Try.ntmps61
        go_wp2
        go_ret
        refine ⟨ret_bool ?_, HE.out⟩
        simp only [leafB, decide_eq_false (show ¬ d ≤ 1099511627776 by omega), Bool.and_false, Bool.false_and]
    · have h2' : d < 1 := by omega
      go_enter Try.func61, Try.ntmps61
      go_wp2
      go_ret
      refine ⟨ret_bool ?_, HE.out⟩
      simp only [leafB, decide_eq_false (show ¬ 1 ≤ d by omega), Bool.and_false, Bool.false_and]
  · have h1' : ((y.length : Int) != (p.A.length : Int)) = true := by simp; omega
    go_enter Try.func61, Try.ntmps61
    go_wp2
    go_ret
    refine ⟨ret_bool ?_, HE.out⟩
    simp only [leafB, decide_eq_false h1, Bool.false_and]
end Go.Proofs.Ytblaipkhmmaenaa
