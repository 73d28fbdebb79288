import Derived.Test.YtblaipkhmmaenaaW7
namespace Go.Proofs.Ytblaipkhmmaenaa
open Go.RowKit

set_option maxHeartbeats 400000 in
theorem rwithin_c (x m : Int) (w : World) (hm : 0 ≤ m) (hm2 : m ≤ 1125899906842624) :
    Calls Try.prog 55 #[.int .i64 x, .int .i64 m] w fun e w' => e = .returned (.bool (withinB m x)) ∧ w = w' := by
  by_cases h1 : -m ≤ x
  · go_enter Try.func55, Try.ntmps55
    go_wp2
    go_ret
    exact ⟨ret_bool (and_true_left _ _ (by simpa using h1)), rfl⟩
  · go_enter Try.func55, Try.ntmps55
    go_wp2
    go_ret
    exact ⟨ret_bool (and_false_left _ _ (by simp; omega)), rfl⟩
set_option maxHeartbeats 400000 in
theorem rcosts_c (v : Value) (xs : List Int) (n : Int) (w : World) (hx : Ints w v xs) :
    Calls Try.prog 41 #[v, .int .i64 n] w fun e w' => e = .returned (.bool (costsB xs n)) ∧ w = w' := by
  obtain ⟨ax, cx, rfl, hxc, hxm, hrx⟩ := hx.at
  clear hx
  by_cases hn : (xs.length : Int) = n
  · subst hn
    have hb : ((xs.length : Int) != (xs.length : Int)) = false := by simp
    go_enter Try.func41, Try.ntmps41
    go_wp2
    clear hb
    go_loop [5] (fun i => ∃ k : Nat, k ≤ xs.length ∧ (xs.take k).all (withinB 1000) = true ∧ i = .int .i64 k) (fun i => xs.length - (intOf i).toNat)
    case atStart => exact ⟨0, Nat.zero_le _, rfl, rfl⟩
    case round =>
      obtain ⟨k, hk, hall, rfl⟩ := hrel
      by_cases hlt : k < xs.length
      · have Hall := Lib.hid hall
        clear hall
        obtain ⟨x, hx⟩ := getElem?_len hlt
        obtain ⟨b, o, rfl, hc⟩ := hrx k x hx
        have Hx := Lib.hid hx
        clear hx hrx
        go_wp2_with fail
        refine (rwithin_c x 1000 _ (by omega) (by omega)).mono ?_
        rintro e w' ⟨rfl, rfl⟩
        cases hp : withinB 1000 x
        · have Hp := Lib.hid hp
          clear hp
          go_wp2
          go_ret
          refine ⟨ret_bool ?_, rfl⟩
          have := all_false Hx.out Hp.out
          simp only [costsB, this, Bool.and_false]
        · have Hp := Lib.hid hp
          clear hp
          go_wp2
          refine ⟨⟨k + 1, by omega, all_take_succ Hx.out Hall.out Hp.out, by go_num⟩, by simp [intOf]; omega⟩
      · have Hd := Lib.hid (all_done (by omega) hall)
        clear hall
        go_wp2
        go_ret
        refine ⟨ret_bool ?_, rfl⟩
        simp [costsB, Hd.out]
  · have hb : ((xs.length : Int) != n) = true := by simpa using hn
    have Hn := Lib.hid hn
    clear hn
    go_enter Try.func41, Try.ntmps41
    go_wp2
    go_ret
    refine ⟨ret_bool ?_, rfl⟩
    simp only [costsB, Hn.out, decide_false, Bool.false_and]
theorem ownsRow_ints {w : World} {base : Nat} {e : TypeId} {v : Value} {xs : List Int} (h : w.ownsRow base e 1 v xs.length (xs.map (Value.int .i64))) : Ints w v xs := by
  obtain ⟨hl, h | ⟨g, cap, cur, rfl, _, hg, h1, h2, h3, h4⟩⟩ := h
  · obtain ⟨rfl, h0⟩ := h
    have : xs = [] := List.length_eq_zero_iff.1 h0
    subst this
    exact ⟨none, 0, rfl, Nat.le_refl _, by omega, .inl rfl⟩
  · refine ⟨_, cap, rfl, h1, by simpa [maxLen] using h2, .inr ⟨g, 0, rfl, fun k x hk => ?_⟩⟩
    rw [Nat.mul_one] at h4
    rw [← h4] at hk
    have hk2 : cur[k]? = some x := by
      rw [List.getElem?_take] at hk
      split at hk
      · simpa using hk
      · cases hk
    simp [World.cell?, hg, hk2]
def colZ (a : List (List Int)) (j : Nat) : List Int := a.map (fun r => r.getD j 0)
theorem rowB_def (n : Int) (r : List Int) : rowB n r = (decide ((r.length : Int) = n) && r.all (withinB 30)) := rfl
set_option maxHeartbeats 1000000 in
theorem rrows_c (v : Value) (xs : List (List Int)) (n : Int) (w : World) (hx : Rows2 w v xs) :
    Calls Try.prog 40 #[v, .int .i64 n] w fun e w' => e = .returned (.bool (rowsB xs n)) ∧ w = w' := by
  obtain ⟨ax, cx, rfl, hxc, hxm, hrx⟩ := hx.at
  clear hx
  by_cases h1 : 1 ≤ n
  · by_cases h2 : n ≤ 6
    · by_cases h3 : xs.length ≤ 6
      · go_enter Try.func40, Try.ntmps40
        go_wp2
        go_loop [5] (fun i => ∃ k : Nat, k ≤ xs.length ∧ (xs.take k).all (rowB n) = true ∧ i = .int .i64 k) (fun i => xs.length - (intOf i).toNat)
        case atStart => exact ⟨0, Nat.zero_le _, rfl, rfl⟩
        case round =>
          obtain ⟨k, hk, hall, rfl⟩ := hrel
          by_cases hlt : k < xs.length
          · obtain ⟨r, hrk⟩ := getElem?_len hlt
            obtain ⟨b, o, z, rfl, hc, hu⟩ := hrx k r hrk
            obtain ⟨ar, cr, rfl, hrc, hrm, hre⟩ := hu.at
            have Hall := Lib.hid hall
            have Hrk := Lib.hid hrk
            clear hall hrk hrx hu
            by_cases hn : (r.length : Int) = n
            · subst hn
              have hb : ((r.length : Int) != (r.length : Int)) = false := by simp
              go_wp2
              clear hb
              go_loop [6] (fun i => ∃ j : Nat, j ≤ r.length ∧ (r.take j).all (withinB 30) = true ∧ i = .int .i64 j) (fun i => r.length - (intOf i).toNat)
              case atStart => exact ⟨0, Nat.zero_le _, rfl, rfl⟩
              case round =>
                obtain ⟨j, hj, hall2, rfl⟩ := hrel
                by_cases hjt : j < r.length
                · obtain ⟨x, hxj⟩ := getElem?_len hjt
                  obtain ⟨b2, o2, rfl, hc2⟩ := hre j x hxj
                  have Hall2 := Lib.hid hall2
                  have Hxj := Lib.hid hxj
                  clear hall2 hxj hre
                  go_wp2_with fail
                  refine (rwithin_c x 30 _ (by omega) (by omega)).mono ?_
                  rintro e w' ⟨rfl, rfl⟩
                  cases hp : withinB 30 x
                  · have Hp := Lib.hid hp
                    clear hp
                    go_wp2
                    go_ret
                    refine ⟨ret_bool ?_, rfl⟩
                    have := all_false (p := rowB (r.length : Int)) Hrk.out (by rw [rowB_def, all_false Hxj.out Hp.out, Bool.and_false])
                    simp only [rowsB, this, Bool.and_false]
                  · have Hp := Lib.hid hp
                    clear hp
                    go_wp2
                    refine ⟨⟨j + 1, by omega, all_take_succ Hxj.out Hall2.out Hp.out, by go_num⟩, by simp [intOf]; omega⟩
                · have Hd := Lib.hid (all_done (by omega) hall2)
                  clear hall2
                  go_wp2
                  refine ⟨⟨k + 1, by omega, all_take_succ Hrk.out Hall.out (by rw [rowB_def, Hd.out]; simp), by go_num⟩, by simp [intOf]; omega⟩
            · have hb : ((r.length : Int) != n) = true := by simpa using hn
              have Hn := Lib.hid hn
              clear hn
              go_wp2
              go_ret
              refine ⟨ret_bool ?_, rfl⟩
              have := all_false (p := rowB n) Hrk.out (by simp only [rowB, Hn.out, decide_false, Bool.false_and])
              simp only [rowsB, this, Bool.and_false]
          · have Hd := Lib.hid (all_done (by omega) hall)
            clear hall
            go_wp2
            go_ret
            refine ⟨ret_bool ?_, rfl⟩
            simp [rowsB, widthB, Hd.out, h1, h2, h3]
      · go_enter Try.func40, Try.ntmps40
        go_wp2
        go_ret
        refine ⟨ret_bool ?_, rfl⟩
        simp [rowsB]; omega
    · go_enter Try.func40, Try.ntmps40
      go_wp2
      go_ret
      refine ⟨ret_bool ?_, rfl⟩
      simp [rowsB, widthB]; omega
  · go_enter Try.func40, Try.ntmps40
    go_wp2
    go_ret
    refine ⟨ret_bool ?_, rfl⟩
    simp [rowsB, widthB]; omega
end Go.Proofs.Ytblaipkhmmaenaa
