import Derived.Test.YtblaipkhmmaenaaM1
namespace Go.Proofs.Ytblaipkhmmaenaa
open Go.RowKit
theorem zip_get {a : List (List Int)} {b : List Int} {k : Nat} {r : List Int} {y : Int} (h1 : a[k]? = some r) (h2 : b[k]? = some y) : (a.zip b)[k]? = some (r, y) := by
  rw [List.getElem?_zip_eq_some]; exact ⟨h1, h2⟩
abbrev okR (x : List Int) (rb : List Int × Int) : Bool := decide (rb.2 ≤ dotZ rb.1 x)
theorem satB_def (p : Who) (x : List Int) : satB p x = (p.A.zip p.B).all (okR x) := rfl
theorem who_box {w : World} {a b c u : Value} {p : Who} (h : WhoAt w a b c u p) : VRow (w.alloc (.cells #[a, b, c, u] 25)) w.heap.size 25 [a, b, c, u] ∧ WhoAt (w.alloc (.cells #[a, b, c, u] 25)) a b c u p ∧ Ext w (w.alloc (.cells #[a, b, c, u] 25)) :=
  ⟨vrow_alloc w [a, b, c, u] 25, h.ext (Ext.alloc (Ext.refl w) _), Ext.alloc (Ext.refl w) _⟩
set_option maxHeartbeats 1000000 in
theorem satisfies_c (a b c u v : Value) (p : Who) (x : List Int) (w : World) (h : WhoAt w a b c u p) (hx : Ints w v x) (hl : ∀ r ∈ p.A, r.length ≤ x.length) (hb : p.B.length = p.A.length) (hfit : ∀ r ∈ p.A, wrap64 (dotZ r x) = dotZ r x) :
    Calls Try.prog 34 #[.agg #[a, b, c, u], v] w fun e w' => e = .returned (.bool (satB p x)) ∧ Ext w w' := by
  obtain ⟨h0, h1, h2⟩ := who_box h
  have hx1 := hx.ext h2
  obtain ⟨ax, cx, rfl, hxc, hxm, _⟩ := h.1.1.at
  obtain ⟨ay, cy, rfl, hyc, hym, _⟩ := h.1.2.1.at
  obtain ⟨az, cz, rfl, hzc, hzm, _⟩ := h.1.2.2.at
  obtain ⟨au, cu, rfl, huc, hum, _⟩ := h.2.at
  obtain ⟨av, cv, rfl, hvc, hvm, _⟩ := hx.at
  dsimp only at *
  have q0 := VRow.cell h0 (k := 0) rfl
  have HV := Lib.hid h0
  have HW := Lib.hid h1
  have HX := Lib.hid hx1
  have HE := Lib.hid h2
  have Hl := Lib.hid hl
  have Hf := Lib.hid hfit
  have Hb := Lib.hid hb
  clear h hx h0 h1 h2 hx1 hl hfit hb
  go_enter Try.func34, Try.ntmps34
  go_wp2
  clear q0
  have hs : w.heap.size < (w.alloc (.cells #[.slice ax p.A.length cx, .slice ay p.B.length cy, .slice az p.C.length cz, .slice au p.U.length cu] 25)).heap.size := by simp
  generalize w.alloc (.cells #[.slice ax p.A.length cx, .slice ay p.B.length cy, .slice az p.C.length cz, .slice au p.U.length cu] 25) = w1 at *
  go_loopw [10] (fun i wr => ∃ k : Nat, k ≤ p.A.length ∧ i = .int .i64 k ∧ ((p.A.zip p.B).take k).all (okR x) = true ∧ Ext w1 wr) (fun i _ => p.A.length - (intOf i).toNat)
  case atStart => exact ⟨0, Nat.zero_le _, rfl, rfl, Ext.refl _⟩
  case round =>
    obtain ⟨k, hk, rfl, hall, hE⟩ := hrel
    by_cases hlt : k < p.A.length
    · obtain ⟨r, hr⟩ := getElem?_len hlt
      obtain ⟨y, hy⟩ := getElem?_len (show k < p.B.length by have := Hb.out; omega)
      have hW := HW.out.ext hE
      obtain ⟨_, _, e1, _, _, hr1⟩ := hW.1.1.at
      obtain ⟨_, _, e2, _, _, hr2⟩ := hW.1.2.1.at
      simp only [Value.slice.injEq] at e1 e2
      obtain ⟨rfl, _, rfl⟩ := e1
      obtain ⟨rfl, _, rfl⟩ := e2
      obtain ⟨bx, ox, z, rfl, hc1, hz⟩ := hr1 k r hr
      obtain ⟨b2, o2, rfl, hc2⟩ := hr2 k y hy
      have q1 := VRow.cell (VRow.ext HV.out hE) (k := 1) rfl
      have HD := Lib.hid (bdot_c z (.slice av x.length cv) r x wr.drew (hz.ext (Ext.refl _).drew) (HX.out.ext hE.drew) (Hl.out r (List.mem_of_getElem? hr)))
      have HF := Lib.hid (Hf.out r (List.mem_of_getElem? hr))
      have HZ := Lib.hid (zip_get hr hy)
      have Hall := Lib.hid hall
      have HEE := Lib.hid hE
      clear hr1 hr2 hr hy hall hE hW hz
      have hi1 : (k : Int) < (p.A.length : Int) := by omega
      have hi2 : (k : Int) < (p.B.length : Int) := by have := Hb.out; omega
      by_cases hok : y ≤ dotZ r x
      · have hok2 : ¬ dotZ r x < y := by omega
        go_wp2
        go_region_with (go_at_call 35; refine HD.out.mono ?_; rintro e w' ⟨rfl, rfl⟩; rw [HF.out])
        all_goals go_wp2
        all_goals refine ⟨⟨k + 1, by omega, by go_num, all_take_succ HZ.out Hall.out (by simpa using hok), HEE.out.drew⟩, by simp [intOf]; omega⟩
      · have hok2 : dotZ r x < y := by omega
        go_wp2
        go_region_with (go_at_call 35; refine HD.out.mono ?_; rintro e w' ⟨rfl, rfl⟩; rw [HF.out])
        all_goals go_wp2
        all_goals go_ret
        all_goals refine ⟨ret_bool ?_, (HE.out.trans HEE.out).drew⟩
        all_goals rw [satB_def, all_false HZ.out (by simpa using hok)]
    · have Hd := Lib.hid (all_done (p := okR x) (xs := p.A.zip p.B) (by have := Hb.out; simp [List.length_zip]; omega) hall)
      have HEE := Lib.hid hE
      clear hall hE
      go_wp2
      go_ret
      exact ⟨ret_bool Hd.out.symm, HE.out.trans HEE.out⟩
end Go.Proofs.Ytblaipkhmmaenaa
