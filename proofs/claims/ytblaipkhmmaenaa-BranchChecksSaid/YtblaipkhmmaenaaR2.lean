import Derived.Test.YtblaipkhmmaenaaR1
namespace Go.Proofs.Ytblaipkhmmaenaa
open Go.RowKit
theorem programB_eq (p : Prg) : programB p = (rowsB p.A p.C.length && costsB p.C p.C.length && costsB p.B p.A.length) := by
  simp only [programB, equationsB]
  cases rowsB p.A p.C.length <;> cases costsB p.C p.C.length <;> cases costsB p.B p.A.length <;> rfl
set_option maxHeartbeats 1000000 in
theorem rvalid_c (a b c : Value) (p : Prg) (w : World) (h : PrgAt w a b c p) :
    Calls Try.prog 30 #[.agg #[a, b, c]] w fun e w' => e = .returned (.bool (programB p)) ∧ Ext w w' := by
  have h' := prgAt_ext h (Ext.alloc (Ext.refl w) (.cells #[a, b, c] 65))
  have hE0 := Ext.alloc (Ext.refl w) (.cells #[a, b, c] 65)
  obtain ⟨ax, cx, rfl, hxc, hxm, _⟩ := h.1.at
  obtain ⟨ay, cy, rfl, hyc, hym, _⟩ := h.2.1.at
  obtain ⟨az, cz, rfl, hzc, hzm, _⟩ := h.2.2.at
  have H := Lib.hid h'
  have HE := Lib.hid hE0
  have h0 := vrow_alloc w [.slice ax p.A.length cx, .slice ay p.B.length cy, .slice az p.C.length cz] 65
  have q0 := VRow.cell h0 (k := 0) rfl
  have q1 := VRow.cell h0 (k := 1) rfl
  have q2 := VRow.cell h0 (k := 2) rfl
  clear h h' hE0 h0
  change (w.alloc (.cells #[.slice ax p.A.length cx, .slice ay p.B.length cy, .slice az p.C.length cz] 65)).cell? _ = _ at q0 q1 q2
  go_enter Try.func30, Try.ntmps30
  go_wp2_with fail
  generalize w.alloc (.cells #[.slice ax p.A.length cx, .slice ay p.B.length cy, .slice az p.C.length cz] 65) = w1 at *
  refine (rrows_c _ _ _ _ H.out.1).mono ?_
  rintro e w' ⟨rfl, rfl⟩
  cases hA : rowsB p.A p.C.length
  · have HA := Lib.hid hA
    clear hA
    go_wp2
    go_ret
    refine ⟨ret_bool ?_, HE.out⟩
    rw [programB_eq, HA.out]; rfl
  · have HA := Lib.hid hA
    clear hA
    go_wp2_with fail
    refine (rcosts_c _ _ _ _ H.out.2.2).mono ?_
    rintro e w' ⟨rfl, rfl⟩
    cases hC : costsB p.C p.C.length
    · have HC := Lib.hid hC
      clear hC
      go_wp2
      go_ret
      refine ⟨ret_bool ?_, HE.out⟩
      rw [programB_eq, HA.out, HC.out]; rfl
    · have HC := Lib.hid hC
      clear hC
      go_wp2_with fail
      refine (rcosts_c _ _ _ _ H.out.2.1).mono ?_
      rintro e w' ⟨rfl, rfl⟩
      go_wp2
      go_ret
      refine ⟨ret_bool ?_, HE.out⟩
      rw [programB_eq, HA.out, HC.out]; rfl
end Go.Proofs.Ytblaipkhmmaenaa
