import Derived.Test.YtbcngojiikdigaaGreatL19
namespace Go.Proofs.YtbcngojiikdigaaGreat
set_option maxRecDepth 100000
open Go.RowKit Go.Shelf
/-- the greatest common divisor of the lengths up to m of closed walks with the sum 0 from a vertex -/
def dvK (n : Nat) (B : MF) : Nat → Nat → Nat
  | 0, _ => 0
  | m + 1, i => if zB (pwF n B (m + 1) i i) then Nat.gcd (dvK n B m i) (m + 1) else dvK n B m i
theorem dvK_le (n : Nat) (B : MF) : ∀ m i, dvK n B m i ≤ m := by
  intro m
  induction m with
  | zero => intro i; exact Nat.le_refl _
  | succ m ih =>
    intro i
    simp only [dvK]
    split
    · exact Nat.le_trans (Nat.gcd_le_right _ (by omega)) (Nat.le_refl _)
    · have := ih i; omega
def stK (D : Nat → Nat) : Nat → Nat
  | 0 => 1
  | k + 1 => if 0 < D k then Nat.lcm (stK D k) (D k) else stK D k
theorem stK_bd (D : Nat → Nat) (hD : ∀ i, D i ≤ 18) : ∀ k, 1 ≤ stK D k ∧ stK D k ≤ 18 ^ k := by
  intro k
  induction k with
  | zero => simp [stK]
  | succ k ih =>
    simp only [stK]
    split
    · rename_i h
      refine ⟨Nat.lcm_pos (by omega) h, ?_⟩
      have h1 : Nat.lcm (stK D k) (D k) ≤ stK D k * D k := Nat.le_of_dvd (Nat.mul_pos (by omega) h) (Nat.lcm_dvd_mul _ _)
      have h2 := Nat.mul_le_mul ih.2 (hD k)
      rw [Nat.pow_succ]
      omega
    · refine ⟨ih.1, Nat.le_trans ih.2 ?_⟩
      rw [Nat.pow_succ]
      omega
def periodF (n : Nat) (B : MF) : Nat := stK (dvK n B (3 * n)) n
def NRow (w : World) (R n : Nat) (f : Nat → Nat) : Prop := ∃ us, VRow w R 3 us ∧ us.length = n ∧ ∀ j, j < n → us[j]? = some (.int .i64 (f j : Int))
theorem NRow.congr {w : World} {R n : Nat} {f g : Nat → Nat} (h : NRow w R n f) (e : ∀ j, j < n → f j = g j) : NRow w R n g := by
  obtain ⟨us, h1, h2, h3⟩ := h
  exact ⟨us, h1, h2, fun j hj => by rw [h3 j hj, e j hj]⟩
theorem NRow.ext {w w' : World} {R n : Nat} {f : Nat → Nat} (h : NRow w R n f) (he : Ext w w') : NRow w' R n f := by
  obtain ⟨us, h1, h2⟩ := h
  exact ⟨us, VRow.ext h1 he, h2⟩
theorem NRow.put {w : World} {R n : Nat} {f : Nat → Nat} (h : NRow w R n f) (k v : Nat) : NRow (w.setCell ⟨R, k, none⟩ (.int .i64 (v : Int))) R n (fun j => if j = k then v else f j) := by
  obtain ⟨us, h1, h2, h3⟩ := h
  refine ⟨_, VRow.set h1 k (.int .i64 (v : Int)), by simp [h2], fun j hj => ?_⟩
  by_cases e : j = k
  · subst e; rw [List.getElem?_set_self (by omega)]; simp
  · rw [List.getElem?_set_ne (fun h => e h.symm), h3 j hj]; simp [e]
theorem NRow.cells {w : World} {R n k : Nat} {f : Nat → Nat} (h : NRow w R n f) (hk : k < n) : w.cell? ⟨R, k, none⟩ = some (.int .i64 (f k : Int)) ∧ w.frozen? ⟨R, k, none⟩ = false ∧ R < w.heap.size := by
  obtain ⟨us, h1, h2, h3⟩ := h
  exact ⟨VRow.cell h1 (h3 k hk), VRow.frozen h1 k none, VRow.lt h1⟩
set_option maxHeartbeats 8000000 in
theorem period_c (u : Value) (n : Nat) (B : MF) (w : World) (hn1 : 1 ≤ n) (hn : n ≤ 6) (hB : MatAt w u n B) (bB : bdF 12000 n B) :
    Calls Tryz.prog 72 #[u] w fun e w' => e = .returned (.int .i64 (periodF n B : Int)) ∧ Ext w w' := by
  have HB := Lib.hid hB
  have HBB := Lib.hid bB
  obtain ⟨ua, uc, rfl⟩ := hB.len
  clear hB bB
  have hmk := run_make_ints n (by omega)
  have HP1 := Lib.hid (vrow_rep w (.int .i64 0) n 3)
  have HE := Lib.hid (Ext.alloc (Ext.refl w) (.cells (Array.replicate n (.int .i64 0)) 3))
  have h3n : IntKind.i64.wrap (3 * (n : Int)) = ((3 * n : Nat) : Int) := by rw [show (3 * (n : Int)) = ((3 * n : Nat) : Int) by simp]; exact IntWalk.i64_in _ (by omega)
  have HN3 := Lib.hid h3n
  clear h3n
  go_enter Tryz.func72, Tryz.ntmps72
  go_wp2_with fail
  clear hmk
  generalize w.alloc (.cells (Array.replicate n (.int .i64 0)) 3) = w1 at *
  obtain ⟨R, hR⟩ : ∃ C, C = w.heap.size := ⟨_, rfl⟩
  rw [← hR]
  rw [← hR] at HP1
  have hwR : w.heap.size ≤ R := by omega
  clear hR
  go_loopw [4, 5] (fun pv av wr => ∃ a : Nat, av = .int .i64 (a : Int) ∧ 1 ≤ a ∧ a ≤ 3 * n + 1 ∧ MatX R wr pv n (pwF n B a) ∧ NRow wr R n (dvK n B (a - 1)) ∧ Ext w wr) (fun _ av _ => 3 * n + 1 - (intOf av).toNat)
  case atStart => exact ⟨1, rfl, Nat.le_refl _, by omega, ((MatX.old HB.out hn1 (by omega)).ext HE.out).congr (one_mulF n B).symm, ⟨_, HP1.out, by simp, fun j hj => by rw [List.getElem?_replicate, if_pos hj]; rfl⟩, HE.out⟩
  case round =>
    rename World => wr
    obtain ⟨a, rfl, ha1, ha2, hp, hr, hE⟩ := hrel
    have HP := Lib.hid hp
    have HR := Lib.hid hr
    have HE := Lib.hid hE
    clear hp hr hE HP1
    obtain ⟨pa, pc, rfl⟩ := HP.out.mat.len
    by_cases hal : a ≤ 3 * n
    · have halz : (a : Int) ≤ 3 * (n : Int) := by omega
      have HPB := Lib.hid (pw_bd HBB.out (by decide) (m := a) (k0 := 20) (by omega) (by decide))
      have HPB2 := Lib.hid (show ∀ i, i < n → ∀ j, j < n → ∀ k, k < n → bdE KB (ep (pwF n B a i k) (B k j)) from fun i hi j hj k hk => (bdE_ep (bdF_pw HBB.out a i hi k hk) (HBB.out k hk j hj)).mono (by unfold KB; omega))
      have HKB := Lib.hid (HBB.out.mono (show (12000 : Int) ≤ KB by decide))
      go_wp2_with fail
      refine (loops_c _ n _ wr hn1 hn HP.out.mat).mono ?_
      rintro e w3 ⟨r3, rfl, ⟨R2, hR2, rfl, hb⟩, hE⟩
      have hRl := (HR.out.cells (k := 0) (by omega)).2.2
      have hRR : R < R2 := by omega
      have HBO := Lib.hid hb
      have HP3 := Lib.hid (HP.out.ext hE)
      have HR3 := Lib.hid (HR.out.ext hE)
      have HE3 := Lib.hid (Ext.trans HE.out hE)
      clear hE hb
      go_wp2_with fail
      go_loopw [25] (fun kv wq => ∃ k : Nat, kv = .int .i64 (k : Int) ∧ k ≤ n ∧ NRow wq R n (fun j => if j < k then dvK n B a j else dvK n B (a - 1) j) ∧ BRow wq R2 4 n (fun i => zB (pwF n B a i i)) ∧ MatX R wq (.slice (some pa) n pc) n (pwF n B a) ∧ Ext w wq) (fun kv _ => n - (intOf kv).toNat)
      case atStart => exact ⟨0, rfl, Nat.zero_le _, HR3.out.congr (fun j _ => by simp), HBO.out, HP3.out, HE3.out⟩
      case round =>
        rename World => wq
        obtain ⟨k, rfl, hk, hr, hb, hp, hE⟩ := hrel
        have HR := Lib.hid hr
        have HBO := Lib.hid hb
        have HP := Lib.hid hp
        have HE := Lib.hid hE
        clear hr hb hp hE HR3 HP3
        by_cases hlt : k < n
        · have c1 : wq.cell? ⟨R2, k, none⟩ = some (.bool (zB (pwF n B a k k))) := by
            obtain ⟨vs, h1, h2, h3⟩ := HBO.out
            exact VRow.cell h1 (h3 k hlt)
          have hcb := cell_lt c1
          have hstep : dvK n B a k = if zB (pwF n B a k k) then Nat.gcd (dvK n B (a - 1) k) a else dvK n B (a - 1) k := by
            obtain ⟨m, rfl⟩ : ∃ m, a = m + 1 := ⟨a - 1, by omega⟩
            rfl
          have HST := Lib.hid hstep
          clear hstep
          cases hz : zB (pwF n B a k k) with
          | false =>
            rw [hz] at c1 HST
            have HNX := Lib.hid (HR.out.congr (g := fun j => if j < k + 1 then dvK n B a j else dvK n B (a - 1) j) fun j hj => by
              by_cases e : j = k
              · subst e
                rw [if_neg (by omega), if_pos (by omega)]
                have h := HST.out
                simpa using h.symm
              · by_cases e2 : j < k
                · rw [if_pos e2, if_pos (by omega)]
                · rw [if_neg e2, if_neg (by omega)])
            clear hz
            go_wp2_with fail
            exact ⟨⟨k + 1, by simp, by omega, HNX.out, HBO.out, HP.out, HE.out⟩, by simp [intOf]; omega⟩
          | true =>
            rw [hz] at c1 HST
            obtain ⟨d0, f0, hRq⟩ := HR.out.cells (k := k) hlt
            rw [if_neg (Nat.lt_irrefl k)] at d0
            have hdl := dvK_le n B (a - 1) k
            have HG := Lib.hid (fun W => gcd_c (dvK n B (a - 1) k : Int) (a : Int) W (by omega) (by omega))
            have HD := Lib.hid (show (Int.gcd (dvK n B (a - 1) k : Int) (a : Int) : Int) = ((dvK n B a k : Nat) : Int) from by
              have h := HST.out
              rw [if_pos rfl] at h
              rw [h]
              rfl)
            clear hz
            generalize dvK n B (a - 1) k = dd at *
            go_wp2_with fail
            refine (HG.out _).mono ?_
            rintro e w5 ⟨rfl, hE5⟩
            rw [HD.out]
            obtain ⟨d0, f0, hRq⟩ := (HR.out.ext hE5).cells (k := k) hlt
            have HR5 := Lib.hid (HR.out.ext hE5)
            have HE5 := Lib.hid (Ext.trans HE.out hE5)
            have HP5 := Lib.hid (HP.out.ext hE5)
            have HB5 := Lib.hid (show BRow w5 R2 4 n (fun i => zB (pwF n B a i i)) from by
              obtain ⟨vs, h1, h2⟩ := HBO.out
              exact ⟨vs, VRow.ext h1 hE5, h2⟩)
            clear hE5 c1
            go_wp2_with fail
            refine ⟨⟨k + 1, by simp, by omega, (HR5.out.put k (dvK n B a k)).congr fun j hj => ?_, ?_, HP5.out.set k _, Below.setCell (p := ⟨R, k, none⟩) HE5.out (by show w.heap.size ≤ R; omega) _⟩, by simp [intOf]; omega⟩
            · by_cases e : j = k
              · subst e; rw [if_pos rfl, if_pos (by omega)]
              · rw [if_neg e]
                by_cases e2 : j < k
                · rw [if_pos e2, if_pos (by omega)]
                · rw [if_neg e2, if_neg (by omega)]
            · obtain ⟨vs, h1, h2⟩ := HB5.out
              exact ⟨vs, VRow.setOther h1 (a := ⟨R, k, none⟩) (by show R2 ≠ R; omega) _, h2⟩
        · obtain rfl : n = k := by omega
          have HRN := Lib.hid (HR.out.congr (g := dvK n B (a + 1 - 1)) fun j hj => by rw [if_pos hj, Nat.add_sub_cancel])
          go_wp2_with fail
          refine (mtimes_c _ _ n _ _ wq hn1 hn HP.out.mat (HB.out.ext HE.out) HPB.out HKB.out HPB2.out).mono ?_
          rintro e w5 ⟨r, rfl, hr, hE5⟩
          have hRq := (HRN.out.cells (k := 0) (by omega)).2.2
          have HPN := Lib.hid (MatX.new (D := R) hr (by omega) hRq)
          have HRN := Lib.hid (HRN.out.ext hE5)
          have HE5 := Lib.hid (Ext.trans HE.out hE5)
          clear hr hE5
          go_wp2_with fail
          exact ⟨⟨a + 1, by simp, by omega, by omega, HPN.out, HRN.out, HE5.out⟩, by simp [intOf]; omega⟩
    · obtain rfl : a = 3 * n + 1 := by omega
      have halz : ¬ (3 * (n : Int) + 1) ≤ 3 * (n : Int) := by omega
      rw [Nat.add_sub_cancel] at HR
      have HD := Lib.hid (fun i => Nat.le_trans (dvK_le n B (3 * n) i) (show 3 * n ≤ 18 by omega))
      have HPF := Lib.hid (show periodF n B = stK (dvK n B (3 * n)) n from rfl)
      generalize dvK n B (3 * n) = D at *
      go_wp2_with fail
      go_loopw [8, 46] (fun sv kv wq => ∃ k : Nat, kv = .int .i64 (k : Int) ∧ k ≤ n ∧ sv = .int .i64 (stK D k : Int) ∧ Ext wr wq) (fun _ kv _ => n - (intOf kv).toNat)
      case atStart => exact ⟨0, rfl, Nat.zero_le _, rfl, Ext.refl _⟩
      case round =>
        rename World => wq
        obtain ⟨k, rfl, hk, rfl, hE⟩ := hrel
        have HEq := Lib.hid hE
        clear hE
        have hsb := stK_bd D HD.out k
        have hpw : 18 ^ k ≤ 18 ^ 6 := Nat.pow_le_pow_right (by omega) (by omega)
        have hp6 : (18 : Nat) ^ 6 = 34012224 := by decide
        have hs1 : 1 ≤ stK D k ∧ stK D k ≤ 1000000000 := by omega
        clear hsb hpw hp6
        by_cases hlt : k < n
        · obtain ⟨d0, _, hRq⟩ := (HR.out.ext HEq.out).cells (k := k) hlt
          have HST := Lib.hid (show stK D (k + 1) = if 0 < D k then Nat.lcm (stK D k) (D k) else stK D k from rfl)
          have hd18 := HD.out k
          by_cases hd : 0 < D k
          · have HST := Lib.hid (show stK D (k + 1) = Nat.lcm (stK D k) (D k) from by rw [HST.out, if_pos hd])
            have HL := Lib.hid (fun W => lcm_c (stK D k) (D k) W hs1 (by omega))
            have hdz : (0 : Int) < (D k : Int) := by omega
            generalize stK D k = s at *
            generalize D k = dk at *
            go_wp2_with fail
            refine (HL.out _).mono ?_
            rintro e w5 ⟨rfl, hE5⟩
            have HE5 := Lib.hid (Ext.trans HEq.out hE5)
            clear hE5
            go_wp2_with fail
            exact ⟨⟨k + 1, by simp, by omega, by rw [HST.out], HE5.out⟩, by simp [intOf]; omega⟩
          · have HST := Lib.hid (show stK D (k + 1) = stK D k from by rw [HST.out, if_neg hd])
            have hdz : ¬ (0 : Int) < (D k : Int) := by omega
            have hdN : D k = 0 := by omega
            have HDN := Lib.hid hdN
            rw [hdN] at d0
            clear hdz hdN hd hd18
            generalize stK D k = s at *
            go_wp2_with fail
            exact ⟨⟨k + 1, by simp, by omega, by rw [HST.out], HEq.out⟩, by simp [intOf]; omega⟩
        · obtain rfl : k = n := by omega
          go_wp2_with fail
          go_ret
          exact ⟨ret_int (by rw [HPF.out]), Ext.trans HE.out HEq.out⟩
end Go.Proofs.YtbcngojiikdigaaGreat
