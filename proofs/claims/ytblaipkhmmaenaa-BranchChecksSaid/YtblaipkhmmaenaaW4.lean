import Derived.Test.YtblaipkhmmaenaaW3
namespace Go.Proofs.Ytblaipkhmmaenaa
open Go.RowKit
theorem prgAt_ext {w w' : World} {a b c : Value} {p : Prg} (h : PrgAt w a b c p) (he : Ext w w') : PrgAt w' a b c p := ⟨h.1.ext he, h.2.1.ext he, h.2.2.ext he⟩
def programB (p : Prg) : Bool := equationsB p.A p.B p.C.length && costsB p.C p.C.length
set_option maxHeartbeats 400000 in
theorem validProgram_c (a b c : Value) (p : Prg) (w : World) (h : PrgAt w a b c p) :
    Calls Try.prog 42 #[.agg #[a, b, c]] w fun e w' => e = .returned (.bool (programB p)) ∧ Ext w w' := by
  have h' := prgAt_ext h (Ext.alloc (Ext.refl w) (.cells #[a, b, c] 65))
  obtain ⟨ax, cx, rfl, hxc, hxm, _⟩ := h.1.at
  obtain ⟨ay, cy, rfl, hyc, hym, _⟩ := h.2.1.at
  obtain ⟨az, cz, rfl, hzc, hzm, _⟩ := h.2.2.at
  have H := Lib.hid h'
  have h0 := Lib.hid (vrow_alloc w [.slice ax p.A.length cx, .slice ay p.B.length cy, .slice az p.C.length cz] 65)
  clear h h'
  go_enter Try.func42, Try.ntmps42
  go_wp2_with fail
  have HE0 := Lib.hid (Ext.alloc (Ext.refl w) (.cells #[.slice ax p.A.length cx, .slice ay p.B.length cy, .slice az p.C.length cz] 65))
  have h1 := VRow.cell h0.out (k := 2) rfl
  refine (validEquations_c _ _ _ _ _ _ H.out.1 H.out.2.1).mono ?_
  rintro e w' ⟨rfl, hE⟩
  have h2 := Ext.cell hE h1
  have HE := Lib.hid (Ext.trans HE0.out hE)
  have H2 := Lib.hid (H.out.2.2.ext hE)
  clear hE h1 HE0 h0
  cases hw : equationsB p.A p.B p.C.length
  · have Hw := Lib.hid hw
    clear hw
    go_wp2
    go_ret
    refine ⟨ret_bool ?_, HE.out⟩
    simp [programB, Hw.out]
  · have Hw := Lib.hid hw
    clear hw
    go_wp2_with fail
    refine (validCosts_c _ _ _ _ H2.out).mono ?_
    rintro e w2 ⟨rfl, hE2⟩
    have HE2 := Lib.hid (Ext.trans HE.out hE2)
    clear hE2
    go_wp2
    go_ret
    refine ⟨ret_bool ?_, HE2.out⟩
    simp [programB, Hw.out]
structure Pnt where
  Num : List Int
  Den : Int
def properB (x : Pnt) (n : Int) : Bool := decide ((x.Num.length : Int) = n) && decide (1 ≤ x.Den) && decide (x.Den ≤ 1125899906842624) && x.Num.all (withinB 1125899906842624)
theorem cell_new1 (w : World) (o : Obj) (v : Value) (t : TypeId) : ((w.alloc o).alloc (.cells #[v] t)).drew.cell? ⟨w.heap.size + 1, 0, none⟩ = some v := by
  have h := VRow.cell (vrow_alloc (w.alloc o) [v] t) (k := 0) (x := v) rfl
  have e : (w.alloc o).heap.size = w.heap.size + 1 := by simp
  rw [e] at h
  exact h
set_option maxHeartbeats 1000000 in
theorem proper_c (v : Value) (x : Pnt) (n : Int) (w : World) (hx : Ints w v x.Num) :
    Calls Try.prog 43 #[.agg #[v, .int .i64 x.Den], .int .i64 n] w fun e w' => e = .returned (.bool (properB x n)) ∧ Ext w w' := by
  obtain ⟨ax, cx, rfl, hxc, hxm, _⟩ := hx.at
  have Hx := Lib.hid hx
  clear hx
  go_enter Try.func43, Try.ntmps43
  go_wp2_with fail
  by_cases hn : (x.Num.length : Int) = n
  · have hb : ((x.Num.length : Int) == n) = true := by simpa using hn
    have Hn := Lib.hid hn
    clear hn
    by_cases h1 : 1 ≤ x.Den
    · by_cases h2 : x.Den ≤ 1125899906842624
      · go_region_with (first | (go_at_call 58; refine (within_c _ _).mono ?_; rintro e w' ⟨rfl, rfl⟩) | (go_at_call 59; refine (all_c _ _ _ _ _ _ (by simp) (closB_within _ 1125899906842624 _ (cell_new1 _ _ _ _) (by omega) (by omega)) (Hx.out.ext (Ext.alloc (Ext.alloc (Ext.refl w) _) _).drew)).mono ?_; rintro e w' ⟨rfl, rfl⟩))
        all_goals go_wp2
        all_goals go_ret
        all_goals refine ⟨ret_bool ?_, (Ext.alloc (Ext.alloc (Ext.refl w) _) _).drew⟩
        all_goals simp [properB, Hn.out, h1, h2]
      · have h2' : decide (x.Den ≤ 1125899906842624) = false := decide_eq_false h2
        go_quiet (fail)
        go_wp2
        go_ret
        refine ⟨ret_bool ?_, below_drewN (Ext.alloc (Ext.refl w) _) _⟩
        simp only [properB, h2', Bool.and_false, Bool.false_and]
    · have h1' : decide (1 ≤ x.Den) = false := decide_eq_false h1
      go_quiet (fail)
      go_wp2
      go_ret
      refine ⟨ret_bool ?_, below_drewN (Ext.alloc (Ext.refl w) _) _⟩
      simp only [properB, h1', Bool.and_false, Bool.false_and]
  · have hb : ((x.Num.length : Int) == n) = false := by simpa using hn
    have Hn := Lib.hid hn
    clear hn
    go_quiet (fail)
    go_wp2
    go_ret
    refine ⟨ret_bool ?_, below_drewN (Ext.alloc (Ext.refl w) _) _⟩
    simp [properB, Hn.out]
end Go.Proofs.Ytblaipkhmmaenaa
