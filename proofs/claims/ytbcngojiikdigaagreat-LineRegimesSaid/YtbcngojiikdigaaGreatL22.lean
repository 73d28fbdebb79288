import Derived.Test.YtbcngojiikdigaaGreatL21
namespace Go.Proofs.YtbcngojiikdigaaGreat
set_option maxRecDepth 100000
open Go.RowKit Go.Shelf
/-- the least of the first k + 1 numbers -/
def mnK (xs : List Int) : Nat → Int
  | 0 => xs.getD 0 0
  | k + 1 => if xs.getD (k + 1) 0 < mnK xs k then xs.getD (k + 1) 0 else mnK xs k
set_option maxHeartbeats 1000000 in
theorem min_c (v : Value) (xs : List Int) (w : World) (hx : Ints w v xs) (h1 : 1 ≤ xs.length) (h2 : xs.length ≤ 1000) :
    Calls Tryz.prog 71 #[v] w fun e w' => e = .returned (.int .i64 (mnK xs (xs.length - 1))) ∧ Ext w w' := by
  obtain ⟨a, cap, rfl, hl, hm, hr⟩ := hx.at
  have HR := Lib.hid hr
  obtain ⟨y, hy⟩ := getElem?_len (show 0 < xs.length by omega)
  obtain ⟨b, o, rfl, c0⟩ := hr 0 y hy
  have HY := Lib.hid (show mnK xs 0 = y by show xs.getD 0 0 = y; rw [List.getD_eq_getElem?_getD, hy]; rfl)
  clear hr hx hy
  rw [Nat.add_zero] at c0
  go_enter Tryz.func71, Tryz.ntmps71
  go_wp2_with fail
  go_loopw [3, 4] (fun mv iv wr => ∃ k : Nat, iv = .int .i64 (k : Int) ∧ 1 ≤ k ∧ k ≤ xs.length ∧ mv = .int .i64 (mnK xs (k - 1)) ∧ Ext w wr) (fun _ iv _ => xs.length - (intOf iv).toNat)
  case atStart => exact ⟨1, rfl, Nat.le_refl _, h1, by rw [show 1 - 1 = 0 from rfl, HY.out], Ext.refl _⟩
  case round =>
    rename World => wr
    obtain ⟨k, rfl, hk1, hk2, rfl, hE⟩ := hrel
    have HE := Lib.hid hE
    clear hE
    by_cases hlt : k < xs.length
    · obtain ⟨x, hx⟩ := getElem?_len hlt
      obtain ⟨b2, o2, e2, c1⟩ := HR.out k x hx
      simp only [Option.some.injEq, Addr.mk.injEq, and_true] at e2
      obtain ⟨rfl, rfl⟩ := e2
      replace c1 := Ext.cell HE.out c1
      have hg : xs.getD k 0 = x := by rw [List.getD_eq_getElem?_getD, hx]; rfl
      have hst : mnK xs (k + 1 - 1) = if x < mnK xs (k - 1) then x else mnK xs (k - 1) := by
        obtain ⟨m, rfl⟩ : ∃ m, k = m + 1 := ⟨k - 1, by omega⟩
        rw [← hg]; rfl
      have HST := Lib.hid hst
      clear hst hg hx c0
      generalize mnK xs (k - 1) = m at *
      rcases Int.lt_trichotomy x m with hh | hh | hh
      · have HST := Lib.hid (show mnK xs (k + 1 - 1) = x by rw [HST.out, if_pos hh])
        go_wp2_with fail
        exact ⟨⟨k + 1, by simp, by omega, by omega, by rw [HST.out], HE.out⟩, by simp [intOf]; omega⟩
      · subst hh
        have HST := Lib.hid (show mnK xs (k + 1 - 1) = x by rw [HST.out]; simp)
        go_wp2_with fail
        exact ⟨⟨k + 1, by simp, by omega, by omega, by rw [HST.out], HE.out⟩, by simp [intOf]; omega⟩
      · have HST := Lib.hid (show mnK xs (k + 1 - 1) = m by rw [HST.out, if_neg (by omega)])
        go_wp2_with fail
        exact ⟨⟨k + 1, by simp, by omega, by omega, by rw [HST.out], HE.out⟩, by simp [intOf]; omega⟩
    · obtain rfl : k = xs.length := by omega
      go_wp2_with fail
      go_ret
      exact ⟨rfl, HE.out⟩
end Go.Proofs.YtbcngojiikdigaaGreat
