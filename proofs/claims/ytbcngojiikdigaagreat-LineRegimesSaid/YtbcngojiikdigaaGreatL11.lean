import Derived.Test.YtbcngojiikdigaaGreatL10
namespace Go.Proofs.YtbcngojiikdigaaGreat
set_option maxRecDepth 100000
open Go.RowKit Go.Shelf
theorem spans_c (v : Value) (n : Nat) (A : MF) (w : World) (hn1 : 1 ≤ n) (hn : n ≤ 6) (hx : MatAt w v n A) :
    Calls Tryz.prog 41 #[v] w fun e w' => ∃ r, e = .returned r ∧ NewMat w.heap.size w' r 56 62 n A ∧ Ext w w' := by
  have HC := Lib.hid (rspan_c v n A A w hn1 hn hx fun i _ j _ W _ => (toSpan_c (A i j) W).mono fun e w' he => ⟨he.1, by rw [← he.2]; exact Ext.refl _⟩)
  clear hx
  go_enter Tryz.func41, Tryz.ntmps41
  go_wp2_with fail
  refine HC.out.mono ?_
  rintro e w2 ⟨r, rfl, hr, hE⟩
  have HR := Lib.hid hr
  have HE := Lib.hid hE
  clear hr hE
  go_wp2_with fail
  go_ret
  exact ⟨_, rfl, HR.out, HE.out⟩
theorem ints_c (v : Value) (n : Nat) (A : MF) (w : World) (hn1 : 1 ≤ n) (hn : n ≤ 6) (hx : MatAt w v n A) :
    Calls Tryz.prog 40 #[v] w fun e w' => ∃ r, e = .returned r ∧ NewMat w.heap.size w' r 3 23 n A ∧ Ext w w' := by
  have HC := Lib.hid (rint_c v n A A w hn1 hn hx fun i _ j _ W _ => (toInt_c (A i j) W).mono fun e w' he => ⟨he.1, by rw [← he.2]; exact Ext.refl _⟩)
  clear hx
  go_enter Tryz.func40, Tryz.ntmps40
  go_wp2_with fail
  refine HC.out.mono ?_
  rintro e w2 ⟨r, rfl, hr, hE⟩
  have HR := Lib.hid hr
  have HE := Lib.hid hE
  clear hr hE
  go_wp2_with fail
  go_ret
  exact ⟨_, rfl, HR.out, HE.out⟩
theorem gcd_step (x y : Int) (hy : y ≠ 0) : Int.gcd y (x.tmod y) = Int.gcd x y := by
  unfold Int.gcd
  rw [Int.natAbs_tmod, Nat.gcd_comm x.natAbs y.natAbs]
  rw [Nat.gcd_rec y.natAbs x.natAbs, Nat.gcd_comm]
theorem tmod_lt (x y : Int) (hy : y ≠ 0) : (x.tmod y).natAbs < y.natAbs := by
  rw [Int.natAbs_tmod]
  exact Nat.mod_lt _ (Int.natAbs_pos.2 hy)
set_option maxHeartbeats 1000000 in
theorem gcd_c (a b : Int) (w : World) (ha : -1000000000000 ≤ a ∧ a ≤ 1000000000000) (hb : -1000000000000 ≤ b ∧ b ≤ 1000000000000) :
    Calls Tryz.prog 89 #[.int .i64 a, .int .i64 b] w fun e w' => e = .returned (.int .i64 (Int.gcd a b : Int)) ∧ Ext w w' := by
  have HG := Lib.hid (show Int.gcd a b = Int.gcd a b from rfl)
  generalize hg : Int.gcd a b = g at *
  have HGG := Lib.hid hg
  clear hg HG
  go_enter Tryz.func89, Tryz.ntmps89
  go_wp2_with fail
  go_loopw [0, 1] (fun u v wr => ∃ x y : Int, u = .int .i64 x ∧ v = .int .i64 y ∧ (-1000000000000 ≤ x ∧ x ≤ 1000000000000) ∧ (-1000000000000 ≤ y ∧ y ≤ 1000000000000) ∧ Int.gcd x y = g ∧ Ext w wr) (fun _ v _ => (intOf v).natAbs)
  case atStart => exact ⟨a, b, rfl, rfl, ha, hb, HGG.out, Ext.refl _⟩
  case round =>
    rename World => wr
    obtain ⟨x, y, rfl, rfl, hx, hy, hgc, hE⟩ := hrel
    have HGC := Lib.hid hgc
    have HE := Lib.hid hE
    clear hgc hE
    by_cases h0 : y = 0
    · subst h0
      have HX := Lib.hid (show (x.natAbs : Int) = (g : Int) by have h := HGC.out; rw [← h]; simp [Int.gcd])
      by_cases hp : 0 < x
      · have HZ := Lib.hid (show x = (g : Int) by have := HX.out; omega)
        go_wp2_with fail
        go_ret
        exact ⟨ret_int HZ.out, HE.out⟩
      · by_cases hm : x < 0
        · have HZ := Lib.hid (show -x = (g : Int) by have := HX.out; omega)
          go_wp2_with fail
          go_ret
          exact ⟨ret_int HZ.out, HE.out⟩
        · obtain rfl : x = 0 := by omega
          have HZ := Lib.hid (show 0 = (g : Int) by have := HX.out; omega)
          go_wp2_with fail
          go_ret
          exact ⟨ret_int HZ.out, HE.out⟩
    · have hb0 : (y != 0) = true := by rw [bne_iff_ne]; exact h0
      have hlt := tmod_lt x y h0
      have HGS := Lib.hid (gcd_step x y h0)
      obtain ⟨t, ht⟩ : ∃ t, x.tmod y = t := ⟨_, rfl⟩
      rw [ht] at hlt HGS
      have htb : -1000000000000 ≤ t ∧ t ≤ 1000000000000 := by omega
      have hwt : IntKind.i64.wrap t = t := IntWalk.i64_in _ (by omega)
      go_wp2_with fail
      go_quiet (fail)
      go_wp2
      all_goals exact ⟨⟨y, t, rfl, rfl, hy, htb, by rw [HGS.out]; exact HGC.out, ext_drewN HE.out _⟩, by simp [intOf]; omega⟩
theorem run_make_bools (n : Nat) (hn : n ≤ 1000) (w : World) :
    (Instr.makeSlice 99 (.int .i64 (n : Int)) (.int .i64 (n : Int))).run Tryz.prog w = .ok (.slice (some ⟨w.heap.size, 0, none⟩) n n) (w.alloc (.cells (Array.replicate n (.bool false)) 4)) := by
  obtain ⟨i, hi, hz, hs, hb⟩ := info_parts (show (Tryz.prog.info? 4).map (fun i => (i.zero, i.size, i.bytes)) = some (some (.bool false), 1, 1) from by kernel_rfl)
  have hr := run_make (P := Tryz.prog) w 99 4 i (.bool false) Tryz.underlying99 hi hz .i64 .i64 n n (by omega) (Int.le_refl _) (by rw [hb]; omega) (by omega)
  simp only [Int.toNat_natCast, hs] at hr
  have e : (Value.bool false).cells = #[Value.bool false] := rfl
  rw [e, made_one, Nat.mul_one] at hr
  exact hr
/-- the first j answers of a list in the making -/
def BRowTo (x : Nat → Bool) (n j : Nat) (vs : List Value) : Prop := vs.length = n ∧ ∀ b, b < j → vs[b]? = some (.bool (x b))
theorem bRowTo_put {x : Nat → Bool} {n j : Nat} {vs : List Value} (h : BRowTo x n j vs) (hj : j < n) : BRowTo x n (j + 1) (vs.set j (.bool (x j))) := by
  obtain ⟨h1, h2⟩ := h
  refine ⟨by simp [h1], fun b hb => ?_⟩
  by_cases e : b = j
  · subst e; rw [List.getElem?_set_self (by omega)]
  · rw [List.getElem?_set_ne (by omega)]; exact h2 b (by omega)
def BRow (w : World) (R t n : Nat) (x : Nat → Bool) : Prop := ∃ vs, VRow w R t vs ∧ BRowTo x n n vs
def NewBools (base : Nat) (w : World) (v : Value) (t n : Nat) (x : Nat → Bool) : Prop := ∃ R, base ≤ R ∧ v = .slice (some ⟨R, 0, none⟩) n n ∧ BRow w R t n x
/-- is this entry 0? -/
def zB (x : E) : Bool := decide (x = some 0)
theorem zB_val (x : E) : (val x == 0) = zB x := by
  cases x with
  | none => rfl
  | some a => by_cases h : a = 0 <;> simp [val, zB, h]
set_option maxHeartbeats 2000000 in
theorem loops_c (v : Value) (n : Nat) (A : MF) (w : World) (hn1 : 1 ≤ n) (hn : n ≤ 6) (hx : MatAt w v n A) :
    Calls Tryz.prog 95 #[v] w fun e w' => ∃ r, e = .returned r ∧ NewBools w.heap.size w' r 4 n (fun i => zB (A i i)) ∧ Ext w w' := by
  obtain ⟨vb, vo, vc, rfl, hv1, hv2, hv3⟩ := hx
  have HX := Lib.hid hv3
  clear hv3
  have hmk := run_make_bools n (by omega)
  have HP1 := Lib.hid (vrow_rep w (.bool false) n 4)
  have HE := Lib.hid (Ext.alloc (Ext.refl w) (.cells (Array.replicate n (.bool false)) 4))
  go_enter Tryz.func95, Tryz.ntmps95
  go_wp2_with fail
  clear hmk
  generalize w.alloc (.cells (Array.replicate n (.bool false)) 4) = w1 at *
  obtain ⟨R, hR⟩ : ∃ C, C = w.heap.size := ⟨_, rfl⟩
  rw [← hR]
  rw [← hR] at HP1
  have hwR : w.heap.size ≤ R := by omega
  clear hR
  go_loopw [10] (fun i wr => ∃ (k : Nat) (us : List Value), i = .int .i64 k ∧ k ≤ n ∧ VRow wr R 4 us ∧ BRowTo (fun i => zB (A i i)) n k us ∧ Ext w wr) (fun i _ => n - (intOf i).toNat)
  case atStart => exact ⟨0, _, rfl, Nat.zero_le _, HP1.out, ⟨by simp, fun i h => by omega⟩, HE.out⟩
  case round =>
    rename World => wr
    obtain ⟨k, us, rfl, hk, hus, hst, hE⟩ := hrel
    have HUS := Lib.hid hus
    have HST := Lib.hid hst
    have HE := Lib.hid hE
    clear hst hE
    by_cases hlt : k < n
    · obtain ⟨u, c1, ⟨rb, ro, rc, rfl, hr1, hr2, hr3⟩⟩ := HX.out k hlt
      have c2 := Ext.cell HE.out (hr3 k hlt)
      replace c1 := Ext.cell HE.out c1
      have hcb := cell_lt c1
      have hcb2 := cell_lt c2
      have HPUT := Lib.hid (bRowTo_put HST.out hlt)
      have hzb := zB_val (A k k)
      obtain ⟨u0, hu0⟩ := getElem?_len (show k < us.length by rw [HST.out.1]; exact hlt)
      have m0 := VRow.cell hus hu0
      have f0 := VRow.frozen hus k none
      clear hu0 hr3 hus
      obtain ⟨zz, hzz⟩ : ∃ z, z = zB (A k k) := ⟨_, rfl⟩
      have HZZ := Lib.hid hzz
      rw [← hzz] at hzb
      clear hzz
      simp only [iv] at c2
      generalize val (A k k) = xk at *
      go_wp2_with fail
      refine ⟨⟨k + 1, _, by simp, by omega, VRow.set HUS.out k (.bool zz), by have h := HPUT.out; rw [← HZZ.out] at h; exact h, Below.setCell (p := ⟨R, k, none⟩) HE.out (by show w.heap.size ≤ R; omega) _⟩, by simp [intOf]; omega⟩
    · obtain rfl : k = n := by omega
      clear hus
      go_wp2_with fail
      go_ret
      exact ⟨_, rfl, ⟨R, by omega, rfl, us, HUS.out, HST.out⟩, HE.out⟩
end Go.Proofs.YtbcngojiikdigaaGreat
