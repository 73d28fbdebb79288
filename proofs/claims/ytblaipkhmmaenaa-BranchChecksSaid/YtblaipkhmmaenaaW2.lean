import Derived.Test.YtblaipkhmmaenaaRows
import Derived.Test.YtblaipkhmmaenaaBase
namespace Go.Proofs.Ytblaipkhmmaenaa
open Go.RowKit

theorem and_true_left (a b : Bool) (h : a = true) : b = (a && b) := by simp [h]
theorem and_false_left (a b : Bool) (h : a = false) : false = (a && b) := by simp [h]
theorem and_false_right (a b : Bool) (h : b = false) : false = (a && b) := by simp [h]
def withinB (m x : Int) : Bool := decide (-m ≤ x) && decide (x ≤ m)
def atLeastB (m x : Int) : Bool := decide (m ≤ x)
def atMostB (m x : Int) : Bool := decide (x ≤ m)
set_option maxHeartbeats 400000 in
theorem within1_c (x m : Int) (a : Nat) (w : World) (h : w.cell? ⟨a, 0, none⟩ = some (.int .i64 m)) (hm : 0 ≤ m) (hm2 : m ≤ 1125899906842624) :
    Calls Try.prog 70 #[.int .i64 x, .pointer (some ⟨a, 0, none⟩)] w fun e w' => e = .returned (.bool (withinB m x)) ∧ w = w' := by
  by_cases h1 : -m ≤ x
  · go_enter Try.func70, Try.ntmps70
    go_wp2
    all_goals go_ret
    all_goals refine ⟨ret_bool (and_true_left _ _ (by simpa using h1)), rfl⟩
  · go_enter Try.func70, Try.ntmps70
    go_wp2
    all_goals go_ret
    all_goals refine ⟨ret_bool (and_false_left _ _ (by simp; omega)), rfl⟩

theorem within_c (m : Int) (w : World)  :
    Calls Try.prog 58 #[.int .i64 m] w fun e w' => e = .returned (.func (.func 70) #[] #[.pointer (some ⟨w.heap.size, 0, none⟩)]) ∧ w' = w.alloc (.cells #[.int .i64 m] 3) := by
  go_enter Try.func58, Try.ntmps58
  go_wp2
  go_ret
  exact ⟨rfl, rfl⟩
def ClosB (w : World) (f : FuncId) (cap : Value) (p : Int → Bool) : Prop := ∀ x : Int, Calls Try.prog f #[.int .i64 x, cap] w fun e w' => e = .returned (.bool (p x)) ∧ w = w'
set_option maxHeartbeats 400000 in
theorem all_c (f : FuncId) (cap v : Value) (p : Int → Bool) (xs : List Int) (w : World) (hf : f = 70) (hF : ClosB w f cap p) (hx : Ints w v xs) :
    Calls Try.prog 59 #[.func (.func f) #[] #[cap], v] w fun e w' => e = .returned (.bool (xs.all p)) ∧ w = w' := by
  obtain ⟨ax, cx, rfl, hxc, hxm, hrx⟩ := hx.at
  clear hx
  subst hf
  all_goals
    go_enter Try.func59, Try.ntmps59
    go_wp2
    go_loop [9] (fun i => ∃ k : Nat, k ≤ xs.length ∧ (xs.take k).all p = true ∧ i = .int .i64 k) (fun i => xs.length - (intOf i).toNat)
    case atStart => exact ⟨0, Nat.zero_le _, rfl, rfl⟩
    case round =>
      obtain ⟨k, hk, hall, rfl⟩ := hrel
      by_cases hlt : k < xs.length
      · have Hall := Lib.hid hall
        clear hall
        obtain ⟨x, hx⟩ := getElem?_len hlt
        obtain ⟨b, o, rfl, hc⟩ := hrx k x hx
        have Hx := Lib.hid hx
        have HF := Lib.hid hF
        clear hx hrx hF
        go_wp2_with fail
        refine (HF.out x).mono ?_
        rintro e w' ⟨rfl, rfl⟩
        cases hp : p x
        · have Hp := Lib.hid hp
          clear hp
          go_wp2
          go_ret
          exact ⟨ret_bool (all_false Hx.out Hp.out).symm, rfl⟩
        · have Hp := Lib.hid hp
          clear hp
          go_wp2
          refine ⟨⟨k + 1, by omega, all_take_succ Hx.out Hall.out Hp.out, by go_num⟩, by simp [intOf]; omega⟩
      · have Hd := Lib.hid (all_done (by omega) hall)
        clear hall
        go_wp2
        go_ret
        exact ⟨ret_bool Hd.out.symm, rfl⟩
end Go.Proofs.Ytblaipkhmmaenaa
