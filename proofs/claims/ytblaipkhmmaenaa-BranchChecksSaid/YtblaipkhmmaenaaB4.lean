import Derived.Test.YtblaipkhmmaenaaB2
namespace Go.Proofs.Ytblaipkhmmaenaa
open Go.RowKit
abbrev boxR (ab : Int × Int) : Bool := decide (0 ≤ ab.1) && decide (ab.1 ≤ ab.2)
def feasB (p : Who) (x : List Int) : Bool := decide (x.length = p.U.length) && (x.zip p.U).all boxR && satB p x
theorem inBox_of : ∀ (U x : List Int), x.length = U.length → (x.zip U).all boxR = true → inBox U x
  | [], [], _, _ => trivial
  | u :: us, x :: xs, hl, h => by
    simp only [List.zip_cons_cons, List.all_cons, Bool.and_eq_true, decide_eq_true_eq] at h
    exact ⟨h.1.1, h.1.2, inBox_of us xs (by simpa using hl) h.2⟩
theorem of_inBox : ∀ (U x : List Int), inBox U x → x.length = U.length ∧ (x.zip U).all boxR = true
  | [], [], _ => ⟨rfl, rfl⟩
  | u :: us, x :: xs, h => by
    have ih := of_inBox us xs h.2.2
    simp only [List.zip_cons_cons, List.all_cons, Bool.and_eq_true, decide_eq_true_eq]
    exact ⟨by simp [ih.1], ⟨h.1, h.2.1⟩, ih.2⟩
theorem zip_get2 {a b : List Int} {k : Nat} {r y : Int} (h1 : a[k]? = some r) (h2 : b[k]? = some y) : (a.zip b)[k]? = some (r, y) := by
  rw [List.getElem?_zip_eq_some]; exact ⟨h1, h2⟩
set_option maxHeartbeats 2000000 in
theorem sfeasible_c (a b c u v : Value) (p : Who) (x : List Int) (w : World) (h : WhoAt w a b c u p) (hx : Ints w v x) (hl : ∀ r ∈ p.A, r.length = p.U.length) (hb : p.B.length = p.A.length) (hfit : inBox p.U x → ∀ r ∈ p.A, wrap64 (dotZ r x) = dotZ r x) :
    Calls Try.prog 20 #[.agg #[a, b, c, u], v] w fun e w' => e = .returned (.bool (feasB p x)) ∧ Ext w w' := by
  obtain ⟨h0, h1, h2⟩ := who_box h
  have hx1 := hx.ext h2
  obtain ⟨ax, cx, rfl, hxc, hxm, _⟩ := h.1.1.at
  obtain ⟨ay, cy, rfl, hyc, hym, _⟩ := h.1.2.1.at
  obtain ⟨az, cz, rfl, hzc, hzm, _⟩ := h.1.2.2.at
  obtain ⟨au, cu, rfl, huc, hum, _⟩ := h.2.at
  obtain ⟨av, cv, rfl, hvc, hvm, _⟩ := hx.at
  dsimp only at *
  have q3 := VRow.cell h0 (k := 3) rfl
  have HV := Lib.hid h0
  have HW := Lib.hid h1
  have HX := Lib.hid hx1
  have HE := Lib.hid h2
  have Hl := Lib.hid hl
  have Hf := Lib.hid hfit
  have Hb := Lib.hid hb
  clear h hx h0 h1 h2 hx1 hl hfit hb
  by_cases hn : x.length = p.U.length
  · have hne : ((x.length : Int) != (p.U.length : Int)) = false := by rw [hn]; simp
    have Hn := Lib.hid hn
    clear hn
    go_enter Try.func20, Try.ntmps20
    go_wp2
    clear q3 hne
    have hs : w.heap.size < (w.alloc (.cells #[.slice ax p.A.length cx, .slice ay p.B.length cy, .slice az p.C.length cz, .slice au p.U.length cu] 25)).heap.size := by simp
    generalize w.alloc (.cells #[.slice ax p.A.length cx, .slice ay p.B.length cy, .slice az p.C.length cz, .slice au p.U.length cu] 25) = w1 at *
    go_loopw [5] (fun i wr => ∃ k : Nat, k ≤ x.length ∧ i = .int .i64 k ∧ ((x.zip p.U).take k).all boxR = true ∧ Ext w1 wr) (fun i _ => x.length - (intOf i).toNat)
    case atStart => exact ⟨0, Nat.zero_le _, rfl, rfl, Ext.refl _⟩
    case round =>
      obtain ⟨k, hk, rfl, hall, hE⟩ := hrel
      by_cases hlt : k < x.length
      · obtain ⟨r, hr⟩ := getElem?_len hlt
        obtain ⟨y, hy⟩ := getElem?_len (show k < p.U.length by have := Hn.out; omega)
        have hW := HW.out.ext hE
        obtain ⟨_, _, e1, _, _, hr1⟩ := (HX.out.ext hE).at
        obtain ⟨_, _, e2, _, _, hr2⟩ := hW.2.at
        simp only [Value.slice.injEq] at e1 e2
        obtain ⟨rfl, _, rfl⟩ := e1
        obtain ⟨rfl, _, rfl⟩ := e2
        obtain ⟨bx, ox, rfl, hc1⟩ := hr1 k r hr
        obtain ⟨b2, o2, rfl, hc2⟩ := hr2 k y hy
        have q1 := VRow.cell (VRow.ext HV.out hE) (k := 3) rfl
        have HZ := Lib.hid (zip_get2 hr hy)
        have Hall := Lib.hid hall
        have HEE := Lib.hid hE
        clear hr1 hr2 hr hy hall hE hW
        have hi1 : (k : Int) < (x.length : Int) := by omega
        have hi2 : (k : Int) < (p.U.length : Int) := by have := Hn.out; omega
        by_cases h0 : 0 ≤ r
        · have h0' : ¬ r < 0 := by omega
          by_cases h1 : r ≤ y
          · have h1' : ¬ y < r := by omega
            go_wp2
            go_quiet (fail)
            go_wp2
            refine ⟨⟨k + 1, by omega, by go_num, all_take_succ HZ.out Hall.out (by simp [h0, h1]), below_drewN HEE.out _⟩, by simp [intOf]; omega⟩
          · have h1' : y < r := by omega
            go_wp2
            go_quiet (fail)
            go_wp2
            go_ret
            refine ⟨ret_bool ?_, below_drewN (HE.out.trans HEE.out) _⟩
            have := all_false (p := boxR) HZ.out (by simp [h1])
            simp only [feasB, this, Bool.and_false, Bool.false_and]
        · have h0' : r < 0 := by omega
          go_wp2
          go_quiet (fail)
          go_wp2
          go_ret
          refine ⟨ret_bool ?_, below_drewN (HE.out.trans HEE.out) _⟩
          have := all_false (p := boxR) HZ.out (by simp; omega)
          simp only [feasB, this, Bool.and_false, Bool.false_and]
      · have Hd := Lib.hid (all_done (p := boxR) (xs := x.zip p.U) (by have := Hn.out; simp [List.length_zip]; omega) hall)
        have HIB := Lib.hid (inBox_of p.U x Hn.out Hd.out)
        have HEE := Lib.hid hE
        have q0 := VRow.cell (VRow.ext HV.out hE) (k := 0) rfl
        clear hall hE
        go_wp2
        clear q0
        go_loopw [6] (fun i wr => ∃ k : Nat, k ≤ p.A.length ∧ i = .int .i64 k ∧ ((p.A.zip p.B).take k).all (okR x) = true ∧ Ext w1 wr) (fun i _ => p.A.length - (intOf i).toNat)
        case atStart => exact ⟨0, Nat.zero_le _, rfl, rfl, HEE.out⟩
        case round =>
          obtain ⟨k2, hk2, rfl, hall, hE⟩ := hrel
          have q0 := VRow.cell (VRow.ext HV.out hE) (k := 0) rfl
          by_cases hlt2 : k2 < p.A.length
          · obtain ⟨r, hr⟩ := getElem?_len hlt2
            obtain ⟨y, hy⟩ := getElem?_len (show k2 < p.B.length by have := Hb.out; omega)
            have hW := HW.out.ext hE
            obtain ⟨_, _, e1, _, _, hr1⟩ := hW.1.1.at
            obtain ⟨_, _, e2, _, _, hr2⟩ := hW.1.2.1.at
            simp only [Value.slice.injEq] at e1 e2
            obtain ⟨rfl, _, rfl⟩ := e1
            obtain ⟨rfl, _, rfl⟩ := e2
            obtain ⟨bx, ox, z, rfl, hc1, hz⟩ := hr1 k2 r hr
            obtain ⟨b2, o2, rfl, hc2⟩ := hr2 k2 y hy
            have q1 := VRow.cell (VRow.ext HV.out hE) (k := 1) rfl
            have hrl := Hl.out r (List.mem_of_getElem? hr)
            have HD := Lib.hid (sdot_c z (.slice av x.length cv) r x wr.drew (hz.ext (Ext.refl _).drew) (HX.out.ext hE.drew) (by have := Hn.out; omega))
            have HF := Lib.hid (Hf.out HIB.out r (List.mem_of_getElem? hr))
            have HZ := Lib.hid (zip_get hr hy)
            have Hall := Lib.hid hall
            have HEE2 := Lib.hid hE
            clear hr1 hr2 hr hy hall hE hW hz hrl
            have hi1 : (k2 : Int) < (p.A.length : Int) := by omega
            have hi2 : (k2 : Int) < (p.B.length : Int) := by have := Hb.out; omega
            by_cases hok : y ≤ dotZ r x
            · have hok2 : ¬ dotZ r x < y := by omega
              go_wp2
              go_region_with (go_at_call 25; refine HD.out.mono ?_; rintro e w' ⟨rfl, n9, rfl⟩; rw [HF.out])
              all_goals go_wp2
              all_goals refine ⟨⟨k2 + 1, by omega, by go_num, all_take_succ HZ.out Hall.out (by simpa using hok), below_drewN HEE2.out _⟩, by simp [intOf]; omega⟩
            · have hok2 : dotZ r x < y := by omega
              go_wp2
              go_region_with (go_at_call 25; refine HD.out.mono ?_; rintro e w' ⟨rfl, n9, rfl⟩; rw [HF.out])
              all_goals go_wp2
              all_goals go_ret
              all_goals refine ⟨ret_bool ?_, below_drewN (HE.out.trans HEE2.out) _⟩
              all_goals simp only [feasB, satB_def, all_false HZ.out (show okR x (r, y) = false by simpa using hok), Bool.and_false]
          · have Hd2 := Lib.hid (all_done (p := okR x) (xs := p.A.zip p.B) (by have := Hb.out; simp [List.length_zip]; omega) hall)
            have HEE2 := Lib.hid hE
            clear hall hE
            go_wp2
            go_ret
            refine ⟨ret_bool ?_, HE.out.trans HEE2.out⟩
            simp only [feasB, satB_def, Hd.out, Hd2.out, Hn.out, decide_true, Bool.and_self]
  · have hne : ((x.length : Int) != (p.U.length : Int)) = true := by simp; omega
    have Hn := Lib.hid hn
    clear hn
    go_enter Try.func20, Try.ntmps20
    go_wp2
    go_ret
    refine ⟨ret_bool ?_, HE.out⟩
    simp [feasB, Hn.out]
end Go.Proofs.Ytblaipkhmmaenaa
