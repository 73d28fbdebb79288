import Derived.Test.YtblaipkhmmaenaaW1
import Derived.Test.YtblaipkhmmaenaaW2
import Derived.Deep.RegionHeld3
import Derived.Deep.RegionWith
namespace Go.Proofs.Ytblaipkhmmaenaa
open Go.RowKit
def costsB (v : List Int) (n : Int) : Bool := decide ((v.length : Int) = n) && v.all (withinB 1000)
theorem closB_within (w : World) (m : Int) (a : Nat) (h : w.cell? ⟨a, 0, none⟩ = some (.int .i64 m)) (hm : 0 ≤ m) (hm2 : m ≤ 1125899906842624) : ClosB w 70 (.pointer (some ⟨a, 0, none⟩)) (withinB m) := fun x => within1_c x m a w h hm hm2
theorem cell_new (w : World) (v : Value) (t : TypeId) : (w.alloc (.cells #[v] t)).cell? ⟨w.heap.size, 0, none⟩ = some v :=
  VRow.cell (vrow_alloc w [v] t) (k := 0) rfl
set_option maxHeartbeats 400000 in
theorem validCosts_c (v : Value) (xs : List Int) (n : Int) (w : World) (hx : Ints w v xs) :
    Calls Try.prog 57 #[v, .int .i64 n] w fun e w' => e = .returned (.bool (costsB xs n)) ∧ Ext w w' := by
  obtain ⟨ax, cx, rfl, hxc, hxm, _⟩ := hx.at
  by_cases hn : (xs.length : Int) = n
  · have hb : ((xs.length : Int) == n) = true := by simpa using hn
    have hx' : Ints (w.alloc (.cells #[.int .i64 1000] 3)) (.slice ax xs.length cx) xs := hx.ext (Ext.alloc (Ext.refl w) _)
    have Hx := Lib.hid hx'
    have Hn := Lib.hid hn
    clear hn hx hx'
    go_enter Try.func57, Try.ntmps57
    go_wp2_with fail
    refine (within_c _ _).mono ?_
    rintro e w' ⟨rfl, rfl⟩
    go_wp2_with fail
    refine (all_c _ _ _ _ _ _ (by simp) (closB_within _ 1000 _ (cell_new _ _ _) (by omega) (by omega)) Hx.out).mono ?_
    rintro e w' ⟨rfl, rfl⟩
    go_wp2
    go_ret
    refine ⟨ret_bool ?_, Ext.alloc (Ext.refl w) _⟩
    simp [costsB, Hn.out]
  · have hb : ((xs.length : Int) == n) = false := by simpa using hn
    have Hn := Lib.hid hn
    clear hn
    go_enter Try.func57, Try.ntmps57
    go_wp2
    go_ret
    refine ⟨ret_bool ?_, Ext.refl w⟩
    simp [costsB, Hn.out]

def widthB (n : Int) : Bool := decide (1 ≤ n) && decide (n ≤ 6)
set_option maxHeartbeats 400000 in
theorem validWidth_c (n : Int) (w : World) :
    Calls Try.prog 74 #[.int .i64 n] w fun e w' => e = .returned (.bool (widthB n)) ∧ w = w' := by
  by_cases h1 : 1 ≤ n
  · go_enter Try.func74, Try.ntmps74
    go_wp2
    go_ret
    exact ⟨ret_bool (and_true_left _ _ (by simpa using h1)), rfl⟩
  · go_enter Try.func74, Try.ntmps74
    go_wp2
    go_ret
    exact ⟨ret_bool (and_false_left _ _ (by simp; omega)), rfl⟩
def rowB (n : Int) (r : List Int) : Bool := decide ((r.length : Int) = n) && r.all (withinB 30)
def rowsB (xs : List (List Int)) (n : Int) : Bool := widthB n && decide (xs.length ≤ 6) && xs.all (rowB n)
set_option maxHeartbeats 400000 in
theorem validRows_c (v : Value) (xs : List (List Int)) (n : Int) (w : World) (hx : Rows2 w v xs) :
    Calls Try.prog 69 #[v, .int .i64 n] w fun e w' => e = .returned (.bool (rowsB xs n)) ∧ Ext w w' := by
  have hx' : Rows2 (w.alloc (.cells #[.int .i64 30] 3)) v xs := hx.ext (Ext.alloc (Ext.refl w) _)
  obtain ⟨ax, cx, rfl, hxc, hxm, _⟩ := hx.at
  have Hx' := Lib.hid hx'
  clear hx hx'
  cases hw : widthB n
  · have Hw := Lib.hid hw
    clear hw
    go_enter Try.func69, Try.ntmps69
    go_wp2_with fail
    refine (validWidth_c _ _).mono ?_
    rintro e w' ⟨rfl, rfl⟩
    have hw := Hw.out
    go_wp2
    go_ret
    refine ⟨ret_bool ?_, Ext.refl w⟩
    simp [rowsB, Hw.out]
  · have Hw := Lib.hid hw
    clear hw
    by_cases h6 : xs.length ≤ 6
    · go_enter Try.func69, Try.ntmps69
      go_wp2_with fail
      refine (validWidth_c _ _).mono ?_
      rintro e w' ⟨rfl, rfl⟩
      have hw := Hw.out
      go_wp2_with fail
      refine (within_c _ _).mono ?_
      rintro e w' ⟨rfl, rfl⟩
      go_wp2_with fail
      clear hw
      have hC := closB_within _ 30 _ (cell_new w (.int .i64 30) 3) (by omega) (by omega)
      have HC := Lib.hid hC
      clear hC
      have hE := Lib.hid (Ext.alloc (Ext.refl w) (.cells #[.int .i64 30] 3))
      generalize w.alloc (.cells #[.int .i64 30] 3) = w1 at *
      go_loop [19] (fun i => ∃ k : Nat, k ≤ xs.length ∧ (xs.take k).all (rowB n) = true ∧ i = .int .i64 k) (fun i => xs.length - (intOf i).toNat)
      case atStart => exact ⟨0, Nat.zero_le _, rfl, rfl⟩
      case round =>
        obtain ⟨k, hk, hall, rfl⟩ := hrel
        by_cases hlt : k < xs.length
        · have Hall := Lib.hid hall
          clear hall
          obtain ⟨x, hxk⟩ := getElem?_len hlt
          obtain ⟨a2, c2, hv2, _, _, hr2⟩ := Hx'.out.at
          obtain ⟨b, o, u, ha, hc, hu⟩ := hr2 k x hxk
          have hv3 : ax = a2 := by injection hv2
          subst hv3
          subst ha
          obtain ⟨ar, cr, rfl, hrc, hrm, _⟩ := hu.at
          have Hxk := Lib.hid hxk
          have Hu := Lib.hid hu
          clear hxk hr2 hu hv2
          by_cases hl : (x.length : Int) = n
          · have hln : ((x.length : Int) != n) = false := by simpa using hl
            have Hl := Lib.hid hl
            clear hl
            go_wp2_with fail
            refine (all_c _ _ _ _ _ _ (by simp) HC.out Hu.out).mono ?_
            rintro e w' ⟨rfl, rfl⟩
            cases hp : x.all (withinB 30)
            · have Hp := Lib.hid hp
              clear hp
              go_wp2
              go_ret
              refine ⟨ret_bool ?_, hE.out⟩
              have := all_false (p := rowB n) Hxk.out (by simp only [rowB, Hp.out, Bool.and_false])
              simp only [rowsB, this, Bool.and_false]
            · have Hp := Lib.hid hp
              clear hp
              go_wp2
              refine ⟨⟨k + 1, by omega, ?_, by go_num⟩, by simp [intOf]; omega⟩
              exact all_take_succ Hxk.out Hall.out (by simp [rowB, Hp.out, Hl.out])
          · have hln : ((x.length : Int) != n) = true := by simpa using hl
            have Hl := Lib.hid hl
            clear hl
            go_wp2
            go_ret
            refine ⟨ret_bool ?_, hE.out⟩
            have := all_false (p := rowB n) Hxk.out (by simp only [rowB, Hl.out, decide_false, Bool.false_and])
            simp only [rowsB, this, Bool.and_false]
        · have Hd := Lib.hid (all_done (by omega) hall)
          clear hall
          go_wp2
          go_ret
          refine ⟨ret_bool ?_, hE.out⟩
          simp [rowsB, Hd.out, Hw.out, h6]
    · go_enter Try.func69, Try.ntmps69
      go_wp2_with fail
      refine (validWidth_c _ _).mono ?_
      rintro e w' ⟨rfl, rfl⟩
      have hw := Hw.out
      go_wp2
      go_ret
      refine ⟨ret_bool ?_, Ext.refl w⟩
      simp [rowsB, h6]
def equationsB (a : List (List Int)) (b : List Int) (n : Int) : Bool := rowsB a n && costsB b a.length
set_option maxHeartbeats 400000 in
theorem validEquations_c (u v : Value) (a : List (List Int)) (b : List Int) (n : Int) (w : World) (hx : Rows2 w u a) (hy : Ints w v b) :
    Calls Try.prog 56 #[u, v, .int .i64 n] w fun e w' => e = .returned (.bool (equationsB a b n)) ∧ Ext w w' := by
  obtain ⟨ax, cx, rfl, hxc, hxm, _⟩ := hx.at
  have Hx := Lib.hid hx
  have Hy := Lib.hid hy
  clear hx hy
  go_enter Try.func56, Try.ntmps56
  go_wp2_with fail
  refine (validRows_c _ _ _ _ Hx.out).mono ?_
  rintro e w' ⟨rfl, hE⟩
  have HE := Lib.hid hE
  clear hE
  cases hw : rowsB a n
  · have Hw := Lib.hid hw
    clear hw
    go_wp2
    go_ret
    refine ⟨ret_bool ?_, HE.out⟩
    simp [equationsB, Hw.out]
  · have Hw := Lib.hid hw
    clear hw
    go_wp2_with fail
    refine (validCosts_c _ _ _ _ (Hy.out.ext HE.out)).mono ?_
    rintro e w2 ⟨rfl, hE2⟩
    have HE2 := Lib.hid (Ext.trans HE.out hE2)
    clear hE2
    go_wp2
    go_ret
    refine ⟨ret_bool ?_, HE2.out⟩
    simp [equationsB, Hw.out]
end Go.Proofs.Ytblaipkhmmaenaa
