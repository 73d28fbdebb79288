import Derived.Test.YtbcngojiikdigaaGreatL11
import Derived.Test.YtbcngojiikdigaaGreatM2
namespace Go.Proofs.YtbcngojiikdigaaGreat
set_option maxRecDepth 100000
open Go.RowKit Go.Shelf
theorem results_cell_tmp {fn : Func} {p q : Tmp} {ty : TypeId} (h : fn.results = #[.cell p ty, .tmp q]) (tmps : Array Value) (P : Program) (w : World) :
    (results fn tmps).run P w = ((asAddr (tmps.getD p undef)).run P w).andThen fun a w₁ => ((loadVar ty a).run P w₁).andThen fun v w₂ => .ok (.tuple #[v, tmps.getD q undef]) w₂ := by
  simp only [results, h]
  simp only [Array.mapM_eq_foldlM, List.foldlM_toArray']
  simp
theorem pace_results {g : Nat} {W : World} {a b : Int} {c : Bool} (h : VRow W g 38 [.int .i64 a, .int .i64 b]) (tmps : Array Value) (h4 : tmps.getD 2 undef = .pointer (some ⟨g, 0, none⟩)) (h5 : tmps.getD 3 undef = .bool c) : (results Tryz.f57 tmps).run Tryz.prog W = .ok (.tuple #[.agg #[.int .i64 a, .int .i64 b], .bool c]) W := by
  have c0 := VRow.cell h (k := 0) rfl
  have c1 := VRow.cell h (k := 1) rfl
  rw [results_cell_tmp rfl, h4, h5]
  go_simp
theorem mul_bd {t d X : Int} (ht : -X ≤ t ∧ t ≤ X) (hd : 0 ≤ d ∧ d ≤ 6) : -(6 * X) ≤ t * d ∧ t * d ≤ 6 * X := by
  have h : d = 0 ∨ d = 1 ∨ d = 2 ∨ d = 3 ∨ d = 4 ∨ d = 5 ∨ d = 6 := by omega
  rcases h with rfl | rfl | rfl | rfl | rfl | rfl | rfl <;> omega
theorem spK_zero (n : Nat) (A : MF) : ∀ m, (spK n A m).2 = 0 → (spK n A m).1 = 0 := by
  intro m
  induction m with
  | zero => intro _; rfl
  | succ m ih =>
    simp only [spK]
    cases trF n A (m + 1) with
    | none => exact ih
    | some t =>
      simp only
      split
      · intro h; simp only at h; omega
      · exact ih
/-- a matrix that lies beside a block -/
def MatX (D : Nat) (w : World) (v : Value) (n : Nat) (M : MF) : Prop :=
  ∃ b o cap, v = .slice (some ⟨b, o, none⟩) n cap ∧ n ≤ cap ∧ cap ≤ 9223372036854775807 ∧ b ≠ D ∧ ∀ i, i < n → ∃ r ro rc, w.cell? ⟨b, o + i, none⟩ = some (.slice (some ⟨r, ro, none⟩) n rc) ∧ n ≤ rc ∧ rc ≤ 9223372036854775807 ∧ r ≠ D ∧ ∀ j, j < n → w.cell? ⟨r, ro + j, none⟩ = some (iv (M i j))
theorem MatX.mat {D : Nat} {w : World} {v : Value} {n : Nat} {M : MF} (h : MatX D w v n M) : MatAt w v n M := by
  obtain ⟨b, o, cap, h1, h2, h3, _, h4⟩ := h
  refine ⟨b, o, cap, h1, h2, h3, fun i hi => ?_⟩
  obtain ⟨r, ro, rc, h5, h6, h7, _, h8⟩ := h4 i hi
  exact ⟨_, h5, r, ro, rc, rfl, h6, h7, h8⟩
theorem MatX.old {D : Nat} {w : World} {v : Value} {n : Nat} {M : MF} (h : MatAt w v n M) (hn1 : 1 ≤ n) (hD : w.heap.size ≤ D) : MatX D w v n M := by
  obtain ⟨b, o, cap, h1, h2, h3, h4⟩ := h
  have hb : b < w.heap.size := by
    obtain ⟨u, h5, _⟩ := h4 0 (by omega)
    exact cell_lt h5
  refine ⟨b, o, cap, h1, h2, h3, by omega, fun i hi => ?_⟩
  obtain ⟨u, h5, r, ro, rc, rfl, h6, h7, h8⟩ := h4 i hi
  have hr : r < w.heap.size := cell_lt (h8 0 (by omega))
  exact ⟨r, ro, rc, h5, h6, h7, by omega, h8⟩
theorem MatX.new {D base : Nat} {w : World} {v : Value} {t tr n : Nat} {M : MF} (h : NewMat base w v t tr n M) (hn : n ≤ 9223372036854775807) (hD : D < base) : MatX D w v n M := by
  obtain ⟨C, vs, h1, h2, h3, h4, h5⟩ := h
  refine ⟨C, 0, n, h2, Nat.le_refl _, hn, by omega, fun i hi => ?_⟩
  obtain ⟨R, h6, h7, us, h8, h9, h10⟩ := h5 i hi
  exact ⟨R, 0, n, by rw [Nat.zero_add]; exact h7, Nat.le_refl _, hn, by omega, fun j hj => by rw [Nat.zero_add]; exact VRow.cell h8 (h10 j hj)⟩
theorem MatX.ext {D : Nat} {w w' : World} {v : Value} {n : Nat} {M : MF} (h : MatX D w v n M) (he : Ext w w') : MatX D w' v n M := by
  obtain ⟨b, o, cap, h1, h2, h3, h9, h4⟩ := h
  refine ⟨b, o, cap, h1, h2, h3, h9, fun i hi => ?_⟩
  obtain ⟨r, ro, rc, h5, h6, h7, h10, h8⟩ := h4 i hi
  exact ⟨r, ro, rc, Ext.cell he h5, h6, h7, h10, fun j hj => Ext.cell he (h8 j hj)⟩
theorem MatX.set {D : Nat} {w : World} {v : Value} {n : Nat} {M : MF} (h : MatX D w v n M) (k : Nat) (x : Value) : MatX D (w.setCell ⟨D, k, none⟩ x) v n M := by
  obtain ⟨b, o, cap, h1, h2, h3, h9, h4⟩ := h
  refine ⟨b, o, cap, h1, h2, h3, h9, fun i hi => ?_⟩
  obtain ⟨r, ro, rc, h5, h6, h7, h10, h8⟩ := h4 i hi
  have ne1 : ∀ q, (⟨D, k, none⟩ : Addr) ≠ ⟨b, q, none⟩ := fun q e => by injection e with e1; exact h9 e1.symm
  have ne2 : ∀ q, (⟨D, k, none⟩ : Addr) ≠ ⟨r, q, none⟩ := fun q e => by injection e with e1; exact h10 e1.symm
  exact ⟨r, ro, rc, (World.cell?_setCell_other (h := ne1 _) ..).trans h5, h6, h7, h10, fun j hj => (World.cell?_setCell_other (h := ne2 _) ..).trans (h8 j hj)⟩
theorem MatX.congr {D : Nat} {w : World} {v : Value} {n : Nat} {A B : MF} (h : MatX D w v n A) (e : eqF n A B) : MatX D w v n B := by
  obtain ⟨b, o, cap, h1, h2, h3, h9, h4⟩ := h
  refine ⟨b, o, cap, h1, h2, h3, h9, fun i hi => ?_⟩
  obtain ⟨r, ro, rc, h5, h6, h7, h10, h8⟩ := h4 i hi
  exact ⟨r, ro, rc, h5, h6, h7, h10, fun j hj => by rw [← e i hi j hj]; exact h8 j hj⟩
def speedV (o : Option (Int × Int)) : Value := match o with
  | none => .tuple #[.agg #[.int .i64 0, .int .i64 0], .bool false]
  | some (p, q) => .tuple #[.agg #[.int .i64 p, .int .i64 q], .bool true]
set_option maxHeartbeats 8000000 in
theorem speed_c (u : Value) (n : Nat) (A : MF) (w : World) (hn1 : 1 ≤ n) (hn : n ≤ 6) (hA : MatAt w u n A) (bA : bdF 1000 n A) :
    Calls Tryz.prog 57 #[u] w fun e w' => e = .returned (speedV (spF n A)) ∧ Ext w w' := by
  have HA := Lib.hid hA
  have HBA := Lib.hid bA
  obtain ⟨ua, uc, rfl⟩ := hA.len
  clear hA bA
  have hE := Ext.alloc (Ext.alloc (Ext.refl w) (.cells #[.int .i64 0, .int .i64 0] 38)) (.cells #[.int .i64 0, .int .i64 0] 38)
  have s1 : (w.alloc (.cells #[.int .i64 0, .int .i64 0] 38)).heap.size = w.heap.size + 1 := by simp
  have p1 := vrow_alloc (w.alloc (.cells #[.int .i64 0, .int .i64 0] 38)) [.int .i64 0, .int .i64 0] 38
  rw [s1] at p1
  have HP0 := Lib.hid (show VRow ((w.alloc (.cells #[.int .i64 0, .int .i64 0] 38)).alloc (.cells #[.int .i64 0, .int .i64 0] 38)) _ _ _ from (vrow_alloc w [.int .i64 0, .int .i64 0] 38).alloc (.cells #[.int .i64 0, .int .i64 0] 38))
  have HP1 := Lib.hid (show VRow ((w.alloc (.cells #[.int .i64 0, .int .i64 0] 38)).alloc (.cells #[.int .i64 0, .int .i64 0] 38)) _ _ _ from p1)
  have HE := Lib.hid hE
  clear hE p1
  go_enter Tryz.func57, Tryz.ntmps57
  go_wp2_with fail
  clear s1
  generalize (w.alloc (.cells #[.int .i64 0, .int .i64 0] 38)).alloc (.cells #[.int .i64 0, .int .i64 0] 38) = w1 at *
  obtain ⟨D1, hD1⟩ : ∃ C, C = w.heap.size + 1 := ⟨_, rfl⟩
  obtain ⟨D0, hD0⟩ : ∃ P, P = w.heap.size := ⟨_, rfl⟩
  rw [← hD1, ← hD0]
  rw [← hD0] at HP0
  rw [← hD1] at HP1
  have hDD : D0 < D1 := by omega
  have hwD : w.heap.size ≤ D0 := by omega
  clear hD1 hD0
  go_loopw [5, 6] (fun pv av wr => ∃ a : Nat, av = .int .i64 (a : Int) ∧ 1 ≤ a ∧ a ≤ n + 1 ∧ MatX D1 wr pv n (pwF n A a) ∧ VRow wr D0 38 [.int .i64 0, .int .i64 0] ∧ VRow wr D1 38 [.int .i64 (spK n A (a - 1)).1, .int .i64 (spK n A (a - 1)).2] ∧ Ext w wr) (fun _ av _ => n + 1 - (intOf av).toNat)
  case atStart => exact ⟨1, rfl, Nat.le_refl _, by omega, ((MatX.old HA.out hn1 (by omega)).ext HE.out).congr (one_mulF n A).symm, HP0.out, HP1.out, HE.out⟩
  case round =>
    rename World => wr
    obtain ⟨a, rfl, ha1, ha2, hp, hr0, hr1, hE⟩ := hrel
    have HP := Lib.hid hp
    have HR0 := Lib.hid hr0
    have HR1 := Lib.hid hr1
    have HE := Lib.hid hE
    clear hp hr0 hr1 hE HP0 HP1
    obtain ⟨pa, pc, rfl⟩ := HP.out.mat.len
    have hbd := spK_bd HBA.out (by decide) (a - 1)
    have hzz := spK_zero n A (a - 1)
    by_cases hal : a ≤ n
    · have hstep : spK n A (a + 1 - 1) = (match trF n A a with | none => spK n A (a - 1) | some t => if (spK n A (a - 1)).2 = 0 ∨ (spK n A (a - 1)).1 * (((a - 1 : Nat) : Int) + 1) < t * (spK n A (a - 1)).2 then (t, ((a - 1 : Nat) : Int) + 1) else spK n A (a - 1)) := by
        obtain ⟨m, rfl⟩ : ∃ m, a = m + 1 := ⟨a - 1, by omega⟩
        rfl
      have HST := Lib.hid hstep
      have HPB := Lib.hid (pw_bd HBA.out (by decide) (m := a) (k0 := 7) (by omega) (by decide))
      have HPB2 := Lib.hid (show ∀ i, i < n → ∀ j, j < n → ∀ k, k < n → bdE KB (ep (pwF n A a i k) (A k j)) from fun i hi j hj k hk => (bdE_ep (bdF_pw HBA.out a i hi k hk) (HBA.out k hk j hj)).mono (by unfold KB; omega))
      have HKA := Lib.hid (HBA.out.mono (show (1000 : Int) ≤ KB by decide))
      have htb : bdE (1000 * (a : Int)) (trF n A a) := bdE_es fun k hk => bdF_pw HBA.out a k hk k hk
      have hcast : ((a - 1 : Nat) : Int) + 1 = (a : Int) := by omega
      rw [hcast] at HST
      clear hstep hcast
      obtain ⟨⟨num, den⟩, hnd⟩ : ∃ q, q = spK n A (a - 1) := ⟨_, rfl⟩
      rw [← hnd] at hbd hzz HR1 HST
      simp only at hbd hzz HR1 HST
      clear hnd
      go_wp2_with fail
      refine (trace_c _ n _ wr hn HP.out.mat HPB.out).mono ?_
      rintro e w2 ⟨rfl, hE2⟩
      rw [show es (fun i => pwF n A a i i) n = trF n A a from rfl]
      have HQ0 := Lib.hid (VRow.ext HR0.out hE2)
      have HQ1 := Lib.hid (VRow.ext HR1.out hE2)
      have HQP := Lib.hid (HP.out.ext hE2)
      have HQE := Lib.hid (Ext.trans HE.out hE2)
      clear hE2
      cases htr : trF n A a with
      | none =>
        rw [htr] at HST
        clear htr htb
        simp only [iv, val, NV]
        go_wp2_with fail
        refine (mtimes_c _ _ n _ _ w2 hn1 hn HQP.out.mat (HA.out.ext HQE.out) HPB.out HKA.out HPB2.out).mono ?_
        rintro e w3 ⟨r, rfl, hr, hE3⟩
        have HPN := Lib.hid (MatX.new (D := D1) hr (by omega) (by have := VRow.lt HQ1.out; omega))
        have HE3 := Lib.hid (Ext.trans HQE.out hE3)
        have HN0 := Lib.hid (VRow.ext HQ0.out hE3)
        have HN1 := Lib.hid (VRow.ext HQ1.out hE3)
        clear hr hE3
        go_wp2_with fail
        exact ⟨⟨a + 1, by simp, by omega, by omega, HPN.out, HN0.out, by rw [HST.out]; exact HN1.out, HE3.out⟩, by simp [intOf]; omega⟩
      | some t =>
        rw [htr] at htb HST
        have htt := htb t rfl
        have htn : (t != -1152921504606846976) = true := by rw [bne_iff_ne]; omega
        clear htr htb
        simp only [iv, val]
        have c0 := VRow.cell HQ1.out (k := 0) rfl
        have c1 := VRow.cell HQ1.out (k := 1) rfl
        by_cases hd0 : den = 0
        · subst hd0
          have HST := Lib.hid (show spK n A (a + 1 - 1) = (t, (a : Int)) by have h := HST.out; simpa using h)
          clear hzz hbd
          have m0 := VRow.cell HQ1.out (k := 0) rfl
          have m1 := VRow.cell HQ1.out (k := 1) rfl
          have f0 := VRow.frozen HQ1.out 0 none
          have f1 := VRow.frozen HQ1.out 1 none
          go_wp2_with fail
          have HS1 := Lib.hid (VRow.set (VRow.set HQ1.out 0 (.int .i64 t)) 1 (.int .i64 (a : Int)))
          have HS0 := Lib.hid (VRow.setOther (VRow.setOther HQ0.out (a := ⟨D1, 0, none⟩) (by show D0 ≠ D1; omega) (.int .i64 t)) (a := ⟨D1, 1, none⟩) (by show D0 ≠ D1; omega) (.int .i64 (a : Int)))
          have HSP := Lib.hid ((HQP.out.set 0 (.int .i64 t)).set 1 (.int .i64 (a : Int)))
          have HSE := Lib.hid (show Ext w ((w2.setCell ⟨D1, 0, none⟩ (.int .i64 t)).setCell ⟨D1, 1, none⟩ (.int .i64 (a : Int))) from Below.setCell (p := ⟨D1, 1, none⟩) (Below.setCell (p := ⟨D1, 0, none⟩) HQE.out (by show w.heap.size ≤ D1; omega) _) (by show w.heap.size ≤ D1; omega) _)
          clear m0 m1 f0 f1
          generalize (w2.setCell ⟨D1, 0, none⟩ (.int .i64 t)).setCell ⟨D1, 1, none⟩ (.int .i64 (a : Int)) = w4 at *
          refine (mtimes_c _ _ n _ _ w4 hn1 hn HSP.out.mat (HA.out.ext HSE.out) HPB.out HKA.out HPB2.out).mono ?_
          rintro e w3 ⟨r, rfl, hr, hE3⟩
          have HPN := Lib.hid (MatX.new (D := D1) hr (by omega) (by have := VRow.lt HS1.out; omega))
          have HE3 := Lib.hid (Ext.trans HSE.out hE3)
          have HN0 := Lib.hid (VRow.ext HS0.out hE3)
          have HN1 := Lib.hid (VRow.ext HS1.out hE3)
          clear hr hE3
          go_wp2_with fail
          exact ⟨⟨a + 1, by simp, by omega, by omega, HPN.out, HN0.out, by rw [HST.out]; exact HN1.out, HE3.out⟩, by simp [intOf]; omega⟩
        · have hdz : (den == 0) = false := by simp [hd0]
          obtain ⟨q1, hq1⟩ : ∃ q, t * den = q := ⟨_, rfl⟩
          obtain ⟨q2, hq2⟩ : ∃ q, num * (a : Int) = q := ⟨_, rfl⟩
          have hb1 := mul_bd (t := t) (d := den) (X := 7000) (by omega) (by omega)
          have hb2 := mul_bd (t := num) (d := (a : Int)) (X := 7000) (by omega) (by omega)
          rw [hq1] at hb1
          rw [hq2] at hb2
          have hw1 : IntKind.i64.wrap (t * den) = q1 := by rw [hq1]; exact IntWalk.i64_in _ (by omega)
          have hw2 : IntKind.i64.wrap (num * (a : Int)) = q2 := by rw [hq2]; exact IntWalk.i64_in _ (by omega)
          have HQQ := Lib.hid hq1
          have HQQ2 := Lib.hid hq2
          clear hq1 hq2
          by_cases hgt : q2 < q1
          · have HST := Lib.hid (show spK n A (a + 1 - 1) = (t, (a : Int)) by have h := HST.out; simp only at h; rw [h, if_pos (.inr (by rw [HQQ.out, HQQ2.out]; exact hgt))])
            clear hzz hbd
            have m0 := VRow.cell HQ1.out (k := 0) rfl
            have m1 := VRow.cell HQ1.out (k := 1) rfl
            have f0 := VRow.frozen HQ1.out 0 none
            have f1 := VRow.frozen HQ1.out 1 none
            go_wp2_with fail
            have HS1 := Lib.hid (VRow.set (VRow.set HQ1.out 0 (.int .i64 t)) 1 (.int .i64 (a : Int)))
            have HS0 := Lib.hid (VRow.setOther (VRow.setOther HQ0.out (a := ⟨D1, 0, none⟩) (by show D0 ≠ D1; omega) (.int .i64 t)) (a := ⟨D1, 1, none⟩) (by show D0 ≠ D1; omega) (.int .i64 (a : Int)))
            have HSP := Lib.hid ((HQP.out.set 0 (.int .i64 t)).set 1 (.int .i64 (a : Int)))
            have HSE := Lib.hid (show Ext w ((w2.setCell ⟨D1, 0, none⟩ (.int .i64 t)).setCell ⟨D1, 1, none⟩ (.int .i64 (a : Int))) from Below.setCell (p := ⟨D1, 1, none⟩) (Below.setCell (p := ⟨D1, 0, none⟩) HQE.out (by show w.heap.size ≤ D1; omega) _) (by show w.heap.size ≤ D1; omega) _)
            clear m0 m1 f0 f1
            generalize (w2.setCell ⟨D1, 0, none⟩ (.int .i64 t)).setCell ⟨D1, 1, none⟩ (.int .i64 (a : Int)) = w4 at *
            refine (mtimes_c _ _ n _ _ w4 hn1 hn HSP.out.mat (HA.out.ext HSE.out) HPB.out HKA.out HPB2.out).mono ?_
            rintro e w3 ⟨r, rfl, hr, hE3⟩
            have HPN := Lib.hid (MatX.new (D := D1) hr (by omega) (by have := VRow.lt HS1.out; omega))
            have HE3 := Lib.hid (Ext.trans HSE.out hE3)
            have HN0 := Lib.hid (VRow.ext HS0.out hE3)
            have HN1 := Lib.hid (VRow.ext HS1.out hE3)
            clear hr hE3
            go_wp2_with fail
            exact ⟨⟨a + 1, by simp, by omega, by omega, HPN.out, HN0.out, by rw [HST.out]; exact HN1.out, HE3.out⟩, by simp [intOf]; omega⟩
          · have HST := Lib.hid (show spK n A (a + 1 - 1) = (num, den) by have h := HST.out; simp only at h; rw [h, if_neg (by rw [HQQ.out, HQQ2.out]; omega)])
            clear hzz hbd
            go_wp2_with fail
            clear c0 c1
            refine (mtimes_c _ _ n _ _ w2 hn1 hn HQP.out.mat (HA.out.ext HQE.out) HPB.out HKA.out HPB2.out).mono ?_
            rintro e w3 ⟨r, rfl, hr, hE3⟩
            have HPN := Lib.hid (MatX.new (D := D1) hr (by omega) (by have := VRow.lt HQ1.out; omega))
            have HE3 := Lib.hid (Ext.trans HQE.out hE3)
            have HN0 := Lib.hid (VRow.ext HQ0.out hE3)
            have HN1 := Lib.hid (VRow.ext HQ1.out hE3)
            clear hr hE3
            go_wp2_with fail
            exact ⟨⟨a + 1, by simp, by omega, by omega, HPN.out, HN0.out, by rw [HST.out]; exact HN1.out, HE3.out⟩, by simp [intOf]; omega⟩
    · obtain rfl : a = n + 1 := by omega
      rw [Nat.add_sub_cancel] at hbd hzz HR1
      obtain ⟨⟨num, den⟩, hnd⟩ : ∃ q, q = spK n A n := ⟨_, rfl⟩
      rw [← hnd] at hbd hzz HR1
      simp only at hbd hzz HR1
      have c0 := VRow.cell HR1.out (k := 0) rfl
      have c1 := VRow.cell HR1.out (k := 1) rfl
      by_cases hd0 : den = 0
      · subst hd0
        obtain rfl := hzz rfl
        have HS := Lib.hid (show speedV (spF n A) = .tuple #[.agg #[.int .i64 0, .int .i64 0], .bool false] by unfold spF; rw [← hnd]; rfl)
        have m0 := VRow.cell HR0.out (k := 0) rfl
        have m1 := VRow.cell HR0.out (k := 1) rfl
        have f0 := VRow.frozen HR0.out 0 none
        have f1 := VRow.frozen HR0.out 1 none
        clear hzz hbd hnd
        go_wp2_with fail
        (try simp only [Exit.inBlock, Exit.then])
        refine bodyPost_ret (pace_results (VRow.set (VRow.set HR0.out 0 (.int .i64 0)) 1 (.int .i64 0)) _ rfl rfl) rfl ?_
        rw [HS.out]
        exact ⟨rfl, Below.setCell (p := ⟨D0, 1, none⟩) (Below.setCell (p := ⟨D0, 0, none⟩) HE.out (by show w.heap.size ≤ D0; omega) _) (by show w.heap.size ≤ D0; omega) _⟩
      · have hdz : (den == 0) = false := by simp [hd0]
        have hg1 : 1 ≤ (Int.gcd num den : Int) := by
          have : 0 < Int.gcd num den := Int.gcd_pos_of_ne_zero_right num hd0
          omega
        have hg2 : (Int.gcd num den : Int) ≤ 6 := by
          have := Int.gcd_le_natAbs_right num hd0
          omega
        have HS := Lib.hid (show speedV (spF n A) = .tuple #[.agg #[.int .i64 (num.tdiv (Int.gcd num den)), .int .i64 (den / (Int.gcd num den : Int))], .bool true] by
          unfold spF
          rw [← hnd]
          simp only
          rw [if_neg hd0, ← Int.tdiv_eq_ediv_of_nonneg (by omega)]
          rfl)
        have HGC := Lib.hid (gcd_c num den wr (by omega) (by omega))
        generalize hgg : (Int.gcd num den : Int) = g at *
        clear hzz hnd hgg
        go_wp2_with fail
        refine HGC.out.mono ?_
        rintro e w2 ⟨rfl, hE2⟩
        have HQ0 := Lib.hid (VRow.ext HR0.out hE2)
        have c0 := Ext.cell hE2 c0
        have c1 := Ext.cell hE2 c1
        have m0 := VRow.cell HQ0.out (k := 0) rfl
        have m1 := VRow.cell HQ0.out (k := 1) rfl
        have f0 := VRow.frozen HQ0.out 0 none
        have f1 := VRow.frozen HQ0.out 1 none
        have HQE := Lib.hid (Ext.trans HE.out hE2)
        clear hE2
        go_wp2_with fail
        go_region
        go_wp2
        (try simp only [Exit.inBlock, Exit.then])
        refine bodyPost_ret (pace_results (VRow.drew (VRow.set (VRow.set HQ0.out 0 (.int .i64 (num.tdiv g))) 1 (.int .i64 (den / g)))) _ rfl rfl) rfl ?_
        rw [HS.out]
        exact ⟨rfl, Ext.drew (Below.setCell (p := ⟨D0, 1, none⟩) (Below.setCell (p := ⟨D0, 0, none⟩) HQE.out (by show w.heap.size ≤ D0; omega) _) (by show w.heap.size ≤ D0; omega) _)⟩
end Go.Proofs.YtbcngojiikdigaaGreat
