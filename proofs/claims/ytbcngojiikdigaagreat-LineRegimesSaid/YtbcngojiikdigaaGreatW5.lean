import Derived.Test.YtbcngojiikdigaaGreatW4
namespace Go.Proofs.YtbcngojiikdigaaGreat
set_option maxRecDepth 100000
open Go.RowKit Go.Shelf
def WNewVec (base : Nat) (w : World) (v : Value) (t n : Nat) (x : Nat → E) : Prop := ∃ R, base ≤ R ∧ v = .slice (some ⟨R, 0, none⟩) n n ∧ WERow w R t n x
/-- is there an arc? -/
def arcE (x : E) : E := match x with | none => none | some _ => some 0
theorem arc_c (x : E) (w : World) (hx : bdE KB x) : Calls Tryz.prog 99 #[iv x] w fun e w' => e = .returned (bv (arcE x)) ∧ Ext w w' := by
  cases x with
  | none =>
    show Calls Tryz.prog 99 #[.int .i64 (-1152921504606846976)] w fun e w' => e = .returned (.bool false) ∧ Ext w w'
    go_enter Tryz.func99, Tryz.ntmps99
    go_wp2_with fail
    go_ret
    exact ⟨rfl, Ext.refl _⟩
  | some a =>
    have hn : (a != -1152921504606846976) = true := by rw [bne_iff_ne]; exact val_some_ne (by decide) hx
    show Calls Tryz.prog 99 #[.int .i64 a] w fun e w' => e = .returned (.bool true) ∧ Ext w w'
    go_enter Tryz.func99, Tryz.ntmps99
    go_wp2_with fail
    go_ret
    exact ⟨rfl, Ext.refl _⟩
theorem info107x101 : (Tryz.prog.info? 107).map (fun i => (i.zero, i.size, i.bytes)) = some (some (.slice none 0 0), 1, 24) := by kernel_rfl
theorem run_make_mat101 (n : Nat) (hn : n ≤ 1000) (w : World) :
    (Instr.makeSlice 101 (.int .i64 (n : Int)) (.int .i64 (n : Int))).run Tryz.prog w = .ok (.slice (some ⟨w.heap.size, 0, none⟩) n n) (w.alloc (.cells (Array.replicate n (.slice none 0 0)) 107)) := by
  obtain ⟨i, hi, hz, hs, hb⟩ := info_parts info107x101
  have hr := run_make (P := Tryz.prog) w 101 107 i (.slice none 0 0) Tryz.underlying101 hi hz .i64 .i64 n n (by omega) (Int.le_refl _) (by rw [hb]; omega) (by omega)
  simp only [Int.toNat_natCast, hs] at hr
  have e : (Value.slice none 0 0).cells = #[Value.slice none 0 0] := rfl
  rw [e, made_one, Nat.mul_one] at hr
  exact hr
set_option maxHeartbeats 2000000 in
theorem lway_c (v : Value) (n : Nat) (x y : Nat → E) (w : World) (hn1 : 1 ≤ n) (hn : n ≤ 6) (hx : VecAt w v n x)
    (hf : ∀ i, i < n → ∀ W, Ext w W → Calls Tryz.prog 99 #[iv (x i)] W fun e w' => e = .returned (bv (y i)) ∧ Ext W w') :
    Calls Tryz.prog 121 #[v, .func (.func 99) #[] #[]] w fun e w' => ∃ r, e = .returned r ∧ WNewVec w.heap.size w' r 104 n y ∧ Ext w w' := by
  have HF := Lib.hid hf
  obtain ⟨vb, vo, vc, rfl, hv1, hv2, hv3⟩ := hx
  have HX := Lib.hid hv3
  clear hf hv3
  have hmk := wrun_make_row n (by omega)
  have HP1 := Lib.hid (vrow_rep w (.bool false) n 104)
  have HE := Lib.hid (Ext.alloc (Ext.refl w) (.cells (Array.replicate n (.bool false)) 104))
  go_enter Tryz.func121, Tryz.ntmps121
  go_wp2_with fail
  clear hmk
  generalize w.alloc (.cells (Array.replicate n (.bool false)) 104) = w1 at *
  obtain ⟨R, hR⟩ : ∃ C, C = w.heap.size := ⟨_, rfl⟩
  rw [← hR]
  rw [← hR] at HP1
  have hwR : w.heap.size ≤ R := by omega
  clear hR
  go_loopw [13] (fun i wr => ∃ (k : Nat) (us : List Value), i = .int .i64 k ∧ k ≤ n ∧ VRow wr R 104 us ∧ WRowTo y n k us ∧ Ext w wr) (fun i _ => n - (intOf i).toNat)
  case atStart => exact ⟨0, _, rfl, Nat.zero_le _, HP1.out, ⟨by simp, fun i h => by omega⟩, HE.out⟩
  case round =>
    rename World => wr
    obtain ⟨k, us, rfl, hk, hus, hst, hE⟩ := hrel
    have HUS := Lib.hid hus
    have HST := Lib.hid hst
    have HE := Lib.hid hE
    clear hus hst hE
    by_cases hlt : k < n
    · have c1 := Ext.cell HE.out (HX.out k hlt)
      have hcb := cell_lt c1
      have HC := Lib.hid (HF.out k hlt wr HE.out)
      have HPUT := Lib.hid (wrowTo_put HST.out hlt)
      generalize x k = xk at *
      generalize y k = yk at *
      go_wp2_with fail
      refine HC.out.mono ?_
      rintro e w5 ⟨rfl, hE5⟩
      have hU := VRow.ext HUS.out hE5
      have HU := Lib.hid hU
      obtain ⟨u0, hu0⟩ := getElem?_len (show k < us.length by rw [HST.out.1]; exact hlt)
      have m0 := VRow.cell hU hu0
      have f0 := VRow.frozen hU k none
      have HE5 := Lib.hid (Ext.trans HE.out hE5)
      clear hu0 hU hE5 c1
      go_wp2_with fail
      refine ⟨⟨k + 1, _, by simp, by omega, VRow.set HU.out k (bv yk), HPUT.out, Below.setCell (p := ⟨R, k, none⟩) HE5.out (by show w.heap.size ≤ R; omega) _⟩, by simp [intOf]; omega⟩
    · obtain rfl : k = n := by omega
      go_wp2_with fail
      go_ret
      exact ⟨_, rfl, ⟨R, by omega, rfl, us, HUS.out, HST.out⟩, HE.out⟩
set_option maxHeartbeats 2000000 in
theorem mway_c (p0 v : Value) (n : Nat) (A B : MF) (w : World) (hn1 : 1 ≤ n) (hn : n ≤ 6) (hx : MatAt w v n A)
    (hf : ∀ i, i < n → ∀ W u, Ext w W → VecAt W u n (A i) → Calls Tryz.prog 120 #[u, p0] W fun e w' => ∃ r, e = .returned r ∧ WNewVec W.heap.size w' r 104 n (B i) ∧ Ext W w') :
    Calls Tryz.prog 119 #[v, .func (.func 120) #[] #[p0]] w fun e w' => ∃ r, e = .returned r ∧ WNewMat w.heap.size w' r 104 107 n B ∧ Ext w w' := by
  have HF := Lib.hid hf
  obtain ⟨vb, vo, vc, rfl, hv1, hv2, hv3⟩ := hx
  have HX := Lib.hid hv3
  clear hf hv3
  have hmk := run_make_mat101 n (by omega)
  have HP1 := Lib.hid (vrow_rep w (.slice none 0 0) n 107)
  have HE := Lib.hid (Ext.alloc (Ext.refl w) (.cells (Array.replicate n (.slice none 0 0)) 107))
  go_enter Tryz.func119, Tryz.ntmps119
  go_wp2_with fail
  clear hmk
  generalize w.alloc (.cells (Array.replicate n (.slice none 0 0)) 107) = w1 at *
  obtain ⟨C, hC⟩ : ∃ C, C = w.heap.size := ⟨_, rfl⟩
  rw [← hC]
  rw [← hC] at HP1
  have hwC : w.heap.size ≤ C := by omega
  clear hC
  go_loopw [13] (fun i wr => ∃ (k : Nat) (vs : List Value), i = .int .i64 k ∧ k ≤ n ∧ VRow wr C 107 vs ∧ vs.length = n ∧ WRowsTo wr C 104 n k B ∧ Ext w wr) (fun i _ => n - (intOf i).toNat)
  case atStart => exact ⟨0, _, rfl, Nat.zero_le _, HP1.out, by simp, fun i h => by omega, HE.out⟩
  case round =>
    rename World => wr
    obtain ⟨k, vs, rfl, hk, hC, hvs, hrows, hE⟩ := hrel
    have HC := Lib.hid hC
    have HRO := Lib.hid hrows
    have HE := Lib.hid hE
    have HVS := Lib.hid hvs
    clear hC hrows hE hvs
    by_cases hlt : k < n
    · obtain ⟨u, c1, hu⟩ := HX.out k hlt
      replace c1 := Ext.cell HE.out c1
      have hcb := cell_lt c1
      have HCA := Lib.hid (HF.out k hlt wr u HE.out (hu.ext HE.out))
      obtain ⟨rb, ro, rc, rfl, _⟩ := hu
      go_wp2_with fail
      refine HCA.out.mono ?_
      rintro e w2 ⟨r, rfl, ⟨R, hR, rfl, hrow⟩, hE2⟩
      have hC2 := VRow.ext HC.out hE2
      have fz := VRow.frozen hC2 k none
      obtain ⟨uz, huz⟩ := getElem?_len (show k < vs.length by rw [HVS.out]; exact hlt)
      have cz := VRow.cell hC2 huz
      have HC2 := Lib.hid hC2
      have HROW := Lib.hid hrow
      have HE2 := Lib.hid (Ext.trans HE.out hE2)
      have hCl := VRow.lt HC.out
      have hCR : C < R := by omega
      have HRO2 := Lib.hid (WRowsTo.below HRO.out hE2 hCl (Nat.le_refl _))
      clear huz hrow hE2 hC2 c1
      go_wp2_with fail
      have hvs2 := HVS.out
      refine ⟨⟨k + 1, _, by simp, by omega, VRow.set HC2.out k (.slice (some ⟨R, 0, none⟩) n n), by rw [List.length_set]; exact hvs2, fun i hi => ?_, Below.setCell (p := ⟨C, k, none⟩) HE2.out (by show w.heap.size ≤ C; omega) _⟩, by simp [intOf]; omega⟩
      by_cases ei : i = k
      · subst ei
        obtain ⟨us, h3, h4⟩ := HROW.out
        exact ⟨R, hCR, VRow.cell (VRow.set HC2.out i (.slice (some ⟨R, 0, none⟩) n n)) (by rw [List.getElem?_set_self (by omega)]), us, VRow.setOther h3 (by show R ≠ C; omega) _, h4⟩
      · obtain ⟨R', h1, h2, us, h3, h4⟩ := HRO2.out i (by omega)
        have ne2 : (⟨C, k, none⟩ : Addr) ≠ ⟨C, i, none⟩ := fun e => by injection e with e1 e2; omega
        exact ⟨R', h1, (World.cell?_setCell_other (h := ne2) ..).trans h2, us, VRow.setOther h3 (by show R' ≠ C; omega) _, h4⟩
    · obtain rfl : k = n := by omega
      go_wp2_with fail
      go_ret
      exact ⟨_, rfl, ⟨C, vs, by omega, rfl, HC.out, HVS.out, HRO.out⟩, HE.out⟩
set_option maxHeartbeats 1000000 in
theorem cway_c (P : Nat) (v : Value) (n : Nat) (x y : Nat → E) (w : World) (hn1 : 1 ≤ n) (hn : n ≤ 6) (hx : VecAt w v n x) (hP : w.cell? ⟨P, 0, none⟩ = some (.func (.func 99) #[] #[]))
    (hf : ∀ i, i < n → ∀ W, Ext w W → Calls Tryz.prog 99 #[iv (x i)] W fun e w' => e = .returned (bv (y i)) ∧ Ext W w') :
    Calls Tryz.prog 120 #[v, .pointer (some ⟨P, 0, none⟩)] w fun e w' => ∃ r, e = .returned r ∧ WNewVec w.heap.size w' r 104 n y ∧ Ext w w' := by
  have HC := Lib.hid (lway_c v n x y w hn1 hn hx hf)
  clear hx hf
  go_enter Tryz.func120, Tryz.ntmps120
  go_wp2_with fail
  refine HC.out.mono ?_
  rintro e w2 ⟨r, rfl, hr, hE⟩
  have HR := Lib.hid hr
  have HE := Lib.hid hE
  clear hr hE
  go_wp2_with fail
  go_ret
  exact ⟨_, rfl, HR.out, HE.out⟩
set_option maxHeartbeats 1000000 in
theorem rway_c (v : Value) (n : Nat) (A B : MF) (w : World) (hn1 : 1 ≤ n) (hn : n ≤ 6) (hx : MatAt w v n A)
    (hf : ∀ i, i < n → ∀ j, j < n → ∀ W, Ext w W → Calls Tryz.prog 99 #[iv (A i j)] W fun e w' => e = .returned (bv (B i j)) ∧ Ext W w') :
    Calls Tryz.prog 98 #[v, .func (.func 99) #[] #[]] w fun e w' => ∃ r, e = .returned r ∧ WNewMat w.heap.size w' r 104 107 n B ∧ Ext w w' := by
  have HX := Lib.hid hx
  have HF := Lib.hid hf
  obtain ⟨va, vc, rfl⟩ := hx.len
  have HP := Lib.hid (show VRow (w.alloc (.cells #[.func (.func 99) #[] #[]] 105)) _ _ _ from vrow_alloc w [.func (.func 99) #[] #[]] 105)
  have HE := Lib.hid (Ext.alloc (Ext.refl w) (.cells #[.func (.func 99) #[] #[]] 105))
  clear hx hf
  go_enter Tryz.func98, Tryz.ntmps98
  go_wp2_with fail
  generalize w.alloc (.cells #[.func (.func 99) #[] #[]] 105) = w1 at *
  refine (mway_c _ _ n A B w1 hn1 hn (HX.out.ext HE.out) fun i hi W u hW hu => cway_c w.heap.size u n (A i) (B i) W hn1 hn hu (VRow.cell (VRow.ext HP.out hW) (k := 0) rfl) fun j hj W2 hW2 => HF.out i hi j hj W2 (Ext.trans HE.out (Ext.trans hW hW2))).mono ?_
  rintro e w2 ⟨r, rfl, hr, hE⟩
  have HR := Lib.hid (hr.mono HE.out.size)
  have HE2 := Lib.hid (Ext.trans HE.out hE)
  clear hr hE
  go_wp2_with fail
  go_ret
  exact ⟨_, rfl, HR.out, HE2.out⟩
end Go.Proofs.YtbcngojiikdigaaGreat
