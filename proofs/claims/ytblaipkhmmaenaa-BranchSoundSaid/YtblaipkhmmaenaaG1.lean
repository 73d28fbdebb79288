import Derived.Test.YtblaipkhmmaenaaB6
import Derived.Test.YtblaipkhmmaenaaM2
namespace Go.Proofs.Ytblaipkhmmaenaa
open Go.RowKit
theorem vecAt_cons (u : Int) (us : List Int) (k : Nat) : vecAt (u :: us) (k % sizeU (u :: us)) = ((k / sizeU us % (u.toNat + 1) : Nat) : Int) :: vecAt us (k % sizeU us) := by
  simp only [vecAt, sizeU]
  rw [Nat.mod_mul_left_mod, Nat.mod_mul_left_div_self]
theorem size_div (u : Int) (us : List Int) (k : Nat) : k / sizeU (u :: us) = k / sizeU us / (u.toNat + 1) := by
  simp only [sizeU]
  rw [Nat.div_div_eq_div_mul, Nat.mul_comm]
theorem rep_set {j : Nat} {z : Int} {S : List Int} : (List.replicate (j + 1) (0 : Int) ++ S).set j z = List.replicate j 0 ++ z :: S := by
  rw [List.replicate_succ', List.append_assoc, List.set_append_right _ _ (by simp)]
  simp
set_option maxRecDepth 100000 in
set_option maxHeartbeats 2000000 in
theorem svector_c (a b c u : Value) (p : Who) (k : Nat) (w : World) (h : WhoAt w a b c u p) (hv : whoB p = true) (hk : k ≤ 100000) :
    Calls Try.prog 24 #[.agg #[a, b, c, u], .int .i64 k] w fun e w' => ∃ g, e = .returned (.tuple #[.slice (some ⟨g, 0, none⟩) p.U.length p.U.length, .bool (decide (k / sizeU p.U = 0))]) ∧ IRow w' g 3 (vecAt p.U (k % sizeU p.U)) ∧ w.heap.size ≤ g ∧ Ext w w' := by
  obtain ⟨h0, h1, h2⟩ := who_box h
  obtain ⟨au, cu, rfl, huc, hum, _⟩ := h.2.at
  have hU5 : p.U.length ≤ 5 := by have := whoP hv; omega
  have q3 := VRow.cell h0 (k := 3) rfl
  change (w.alloc (.cells #[a, b, c, .slice au p.U.length cu] 25)).cell? _ = _ at q3
  have hmk := run_make_row' (P := Try.prog) 23 3 (.int .i64 0) 8 Try.underlying23 Try.info3 rfl .i64 .i64 p.U.length (by omega) (by omega)
  have hmv := irow_made (w.alloc (.cells #[a, b, c, .slice au p.U.length cu] 25)) p.U.length 3
  have hEm := Ext.alloc h2 (.cells (madeCells #[.int .i64 0] p.U.length) 3)
  have HV := Lib.hid (VRow.alloc h0 (.cells (madeCells #[.int .i64 0] p.U.length) 3))
  have HW := Lib.hid (h1.ext (Ext.alloc (Ext.refl _) (.cells (madeCells #[.int .i64 0] p.U.length) 3)))
  have HM := Lib.hid hmv
  have HE := Lib.hid hEm
  have Hv := Lib.hid hv
  have HU0 := Lib.hid h.2
  have hsz : (w.alloc (.cells #[a, b, c, .slice au p.U.length cu] 25)).heap.size = w.heap.size + 1 := by simp
  have hsz2 : ((w.alloc (.cells #[a, b, c, .slice au p.U.length cu] 25)).alloc (.cells (madeCells #[.int .i64 0] p.U.length) 3)).heap.size = w.heap.size + 1 + 1 := by simp
  rw [hsz] at HM
  clear h h0 h1 h2 hmv hEm hv
  go_enter Try.func24, Try.ntmps24
  go_wp2_with fail
  clear hmk q3
  generalize (w.alloc (.cells #[a, b, c, .slice au p.U.length cu] 25)).alloc (.cells (madeCells #[.int .i64 0] p.U.length) 3) = w1 at *
  generalize hs : w.heap.size = s at *
  go_loopw [1, 7] (fun kv i wr => ∃ m : Nat, m ≤ p.U.length ∧ i = .int .i64 ((m : Int) - 1) ∧ kv = .int .i64 ((k / sizeU (p.U.drop m) : Nat) : Int) ∧ IRow wr (s + 1) 3 (List.replicate m 0 ++ vecAt (p.U.drop m) (k % sizeU (p.U.drop m))) ∧ Below (s + 1) w1 wr) (fun _ i _ => (intOf i + 1).toNat)
  case atStart =>
    refine ⟨p.U.length, Nat.le_refl _, by go_num, ?_, ?_, Below.refl _ _⟩
    · rw [List.drop_length]; simp [sizeU]
    · rw [List.drop_length]; simpa [vecAt] using HM.out
  case round =>
    obtain ⟨m, hm, rfl, rfl, hrow, hb⟩ := hrel
    cases m with
    | zero =>
      have HR := Lib.hid hrow
      have HB := Lib.hid hb
      clear hrow hb
      simp only [List.drop_zero] at *
      go_wp2_with fail
      go_ret2
      have hdec : ((k : Int) / (sizeU p.U : Int) == 0) = decide (k / sizeU p.U = 0) := by
        rw [← Int.natCast_ediv, Bool.eq_iff_iff]
        simp only [beq_iff_eq, decide_eq_true_eq]
        omega
      exact ⟨s + 1, by rw [hdec]; rfl, by simpa using HR.out, by omega, Below.trans HE.out (HB.out.mono (by omega))⟩
    | succ j =>
      have ej : ((j + 1 : Nat) : Int) - 1 = (j : Int) := by omega
      rw [ej]
      clear ej
      obtain ⟨z, hz⟩ := getElem?_len (show j < p.U.length by omega)
      have hz7 := (whoP Hv.out).2.2.1 z (List.mem_of_getElem? hz)
      have hd := drop_at hz
      have hbb := VRow.below HV.out hb (by omega)
      have q3 := VRow.cell hbb (k := 3) rfl
      obtain ⟨_, _, e1, _, _, hr1⟩ := (HU0.out.ext (Below.trans HE.out (hb.mono (by omega)))).at
      simp only [Value.slice.injEq] at e1
      obtain ⟨rfl, _, rfl⟩ := e1
      obtain ⟨b1, o1, rfl, hc1⟩ := hr1 j z hz
      have hb1 : ¬ b1 = s + 1 := by
        obtain ⟨_, _, e2, _, _, hr2⟩ := HU0.out.at
        simp only [Value.slice.injEq] at e2
        obtain ⟨rfl, _, _⟩ := e2
        obtain ⟨b2, o2, e3, hc3⟩ := hr2 j z hz
        simp only [Option.some.injEq, Addr.mk.injEq] at e3
        have := cell_lt hc3
        simp only at this
        omega
      have hc2 := IRow.at hrow (k := j) (x := 0) (by rw [List.getElem?_append_left (by simp)]; simp)
      have hf := VRow.frozen hrow j none
      have hwz : IntKind.i64.wrap (z + 1) = z + 1 := IntWalk.i64_in _ (by omega)
      have hwj : IntKind.i64.wrap ((j : Int) - 1) = (j : Int) - 1 := IntWalk.i64_in _ (by omega)
      have hK : k / sizeU (p.U.drop (j + 1)) ≤ 100000 := Nat.le_trans (Nat.div_le_self _ _) hk
      have HVC : RowKit.Hid (vecAt (p.U.drop j) (k % sizeU (p.U.drop j)) = ((k / sizeU (p.U.drop (j + 1)) % (z.toNat + 1) : Nat) : Int) :: vecAt (p.U.drop (j + 1)) (k % sizeU (p.U.drop (j + 1)))) := Lib.hid (by rw [hd]; exact vecAt_cons z _ k)
      have HSD : RowKit.Hid (k / sizeU (p.U.drop j) = k / sizeU (p.U.drop (j + 1)) / (z.toNat + 1)) := Lib.hid (by rw [hd]; exact size_div z _ k)
      have hiU : (j : Int) < (p.U.length : Int) := by omega
      generalize k / sizeU (p.U.drop (j + 1)) = K at *
      generalize vecAt (p.U.drop (j + 1)) (k % sizeU (p.U.drop (j + 1))) = S at *
      have hne : ¬ z + 1 = 0 := by omega
      have hzq : z + 1 = ((z.toNat + 1 : Nat) : Int) := by omega
      have HZQ := Lib.hid hzq
      have hKz : (0 : Int) ≤ (K : Int) := by omega
      have hz1 : 0 < z + 1 := by omega
      have hm1 : 0 ≤ (K : Int) % (z + 1) ∧ (K : Int) % (z + 1) < z + 1 := ⟨Int.emod_nonneg _ hne, Int.emod_lt_of_pos _ hz1⟩
      have hm2 : IntKind.i64.wrap ((K : Int) % (z + 1)) = (K : Int) % (z + 1) := IntWalk.i64_in _ (by omega)
      have hd1 : 0 ≤ (K : Int) / (z + 1) ∧ (K : Int) / (z + 1) ≤ 100000 := ⟨Int.ediv_nonneg hKz (by omega), Int.le_trans (Int.ediv_le_self _ hKz) (by omega)⟩
      have hd2 : IntKind.i64.wrap ((K : Int) / (z + 1)) = (K : Int) / (z + 1) := IntWalk.i64_in _ (by omega)
      have HR := Lib.hid hrow
      have HB := Lib.hid hb
      have HZ := Lib.hid hz
      clear hrow hb hr1 hbb hd hz hzq
      go_wp2_with fail
      refine ⟨⟨j, by omega, by go_num, ?_, ?_, Below.setCell (p := ⟨s + 1, j, none⟩) HB.out (Nat.le_refl _) _⟩, by simp [intOf] <;> omega⟩
      · have hcast : (K : Int) / (z + 1) = ((K / (z.toNat + 1) : Nat) : Int) := by rw [HZQ.out, Int.natCast_ediv]
        rw [hcast, HSD.out]
      · have hcast : (K : Int) % (z + 1) = ((K % (z.toNat + 1) : Nat) : Int) := by rw [HZQ.out, Int.natCast_emod]
        have := IRow.put HR.out j ((K : Int) % (z + 1))
        rw [rep_set, hcast] at this
        rw [HVC.out, hcast]
        exact this
end Go.Proofs.Ytblaipkhmmaenaa
