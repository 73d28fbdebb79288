import Derived.Test.YtbcngojiikdigaaGreatY1
import Derived.Test.YtbcngojiikdigaaGreatL38
import Derived.Laws.AppendOwnNone
import Derived.Test.YtbcngojiikdigaaGreatL36
import Derived.Deep.CutRange
import Derived.Below
import Derived.Laws.StructEq
namespace Go.Proofs.YtbcngojiikdigaaGreat
/-! From which power on a line repeats itself (pure). -/
theorem ag_iff {n : Nat} {B : MF} {c e : Nat} : agB n B c e = true ↔ eqF n (pwF n B (e + c)) (pwF n B e) := by
  unfold agB
  rw [eqMB_iff]
  exact ⟨fun h => (pwF_add n B e c).trans h.symm, fun h => h.symm.trans (pwF_add n B e c)⟩
theorem ag_step {n : Nat} {B : MF} {c e : Nat} (h : agB n B c e = true) {k : Nat} (hk : e ≤ k) : agB n B c k = true := by
  have := eq_step (ag_iff.1 h) (k - e)
  rw [show e + (k - e) = k by omega] at this
  exact ag_iff.2 this
theorem ag_big {n : Nat} {B : MF} (h : Regular n B) {L : Nat} (hL : 10000000 ≤ L) : agB n B (periodF n B) L = true := ag_iff.2 (per_all h hL)
/-- the first power that comes again -/
def regK (n : Nat) (B : MF) : Nat := fstF (agB n B (periodF n B)) 20000000
theorem reg_ok {n : Nat} {B : MF} (h : Regular n B) : agB n B (periodF n B) (regK n B) = true ∧ ∀ y, y < regK n B → agB n B (periodF n B) y = false := by
  obtain ⟨T, hT⟩ : ∃ T, T = 10000000 := ⟨_, rfl⟩
  obtain ⟨U, hU⟩ : ∃ U, U = 20000000 := ⟨_, rfl⟩
  unfold regK
  rw [← hU]
  have hx := fst_ex (p := agB n B (periodF n B)) (n := U) (x := T) (by omega) (ag_big h (by omega))
  obtain ⟨_, k2, k3⟩ := fst_le (agB n B (periodF n B)) U
  exact ⟨k2 hx, k3⟩
theorem reg_eq {n : Nat} {B : MF} (h : Regular n B) {k : Nat} (h1 : agB n B (periodF n B) k = true) (h2 : ∀ y, y < k → agB n B (periodF n B) y = false) : regK n B = k := by
  obtain ⟨r1, r2⟩ := reg_ok h
  rcases Nat.lt_trichotomy (regK n B) k with hl | hl | hl
  · have := h2 _ hl; rw [r1] at this; cases this
  · exact hl
  · have := r2 _ hl; rw [h1] at this; cases this
theorem start_ok {n : Nat} {B : MF} (h : Regular n B) (h0 : agB n B (periodF n B) 0 = false) : ∃ m, StartOk n (periodF n B) B m := by
  have hb := per_bd h
  have h24 : agB n B (periodF n B) (2 ^ 24) = true := ag_big h (by decide)
  have hx := fst_ex (p := fun t => agB n B (periodF n B) (2 ^ t)) (n := 25) (x := 24) (by omega) h24
  obtain ⟨k1, k2, k3⟩ := fst_le (fun t => agB n B (periodF n B) (2 ^ t)) 25
  generalize fstF (fun t => agB n B (periodF n B) (2 ^ t)) 25 = m at *
  have hp : 2 ^ m ≤ 2 ^ 24 := Nat.pow_le_pow_right (by omega) (by omega)
  rw [show (2 : Nat) ^ 24 = 16777216 by decide] at hp
  exact ⟨m, by omega, by unfold KB; omega, by omega, k3, k2 hx, h0⟩
theorem stH_inv {a : Nat → Bool} {m : Nat} (h0 : a 0 = false) (hs : ∀ e k, e ≤ k → a e = true → a k = true) (hm : a (2 ^ m) = true) : ∀ r, r ≤ m → a (stH a m r) = false ∧ a (stH a m r + 2 * 2 ^ (m - r)) = true := by
  intro r
  induction r with
  | zero => intro _; exact ⟨h0, hs _ _ (by simp only [stH, Nat.sub_zero]; omega) hm⟩
  | succ r ih =>
    intro hr
    obtain ⟨i1, i2⟩ := ih (by omega)
    have e : 2 ^ (m - r) = 2 * 2 ^ (m - (r + 1)) := by
      rw [show m - r = (m - (r + 1)) + 1 by omega, Nat.pow_succ]; omega
    simp only [stH]
    cases hp : a (stH a m r + 2 ^ (m - r)) with
    | true => rw [if_pos rfl]; exact ⟨i1, by rw [← e]; exact hp⟩
    | false =>
      rw [if_neg (by simp)]
      refine ⟨hp, ?_⟩
      rw [← e, show stH a m r + 2 ^ (m - r) + 2 ^ (m - r) = stH a m r + 2 * 2 ^ (m - r) by omega]
      exact i2
theorem stH_last {a : Nat → Bool} {m : Nat} (h0 : a 0 = false) (hs : ∀ e k, e ≤ k → a e = true → a k = true) (hm : a (2 ^ m) = true) : a (stH a m (m + 1)) = false ∧ a (stH a m (m + 1) + 1) = true := by
  obtain ⟨i1, i2⟩ := stH_inv h0 hs hm m (Nat.le_refl _)
  rw [Nat.sub_self, Nat.pow_zero, Nat.mul_one] at i2
  simp only [stH, Nat.sub_self, Nat.pow_zero]
  cases hp : a (stH a m m + 1) with
  | true => rw [if_pos rfl]; exact ⟨i1, hp⟩
  | false => rw [if_neg (by simp)]; exact ⟨hp, i2⟩
theorem start_is {n : Nat} {B : MF} (h : Regular n B) {m : Nat} (hs : StartOk n (periodF n B) B m) : stH (agB n B (periodF n B)) m (m + 1) + 1 = regK n B := by
  obtain ⟨_, _, _, _, s5, s6⟩ := hs
  have hst := stH_last s6 (fun e k hk he => ag_step he hk) s5
  refine (reg_eq h hst.2 fun y hy => ?_).symm
  cases hb : agB n B (periodF n B) y with
  | false => rfl
  | true => have := ag_step hb (show y ≤ stH (agB n B (periodF n B)) m (m + 1) by omega); rw [hst.1] at this; cases this
theorem reg_zero {n : Nat} {B : MF} (h : Regular n B) (h0 : agB n B (periodF n B) 0 = true) : regK n B = 0 := reg_eq h h0 fun y hy => by omega
/-- the level matrix of a connected line -/
theorem lv_regular {n : Nat} {A : MF} {p q : Int} (hn : 1 ≤ n) (hn6 : n ≤ 6) (bA : bdF 1000 n A) (h : spF n A = some (p, q)) (hc : connB n (lvF p q A) = true) : Regular n (lvF p q A) := by
  have hb := spF_bd bA hn6 h
  obtain ⟨m, h1, _, h3, _⟩ := crit_least h
  obtain ⟨f, h5, h6, _⟩ := crit_first h3
  exact ⟨hn, hn6, lv_noPos h, lvF_bd bA hb.1 hb.2, fun i j hi hj => conn_some hc hi hj, f, h5, m, h1, h6⟩
theorem per_dvd {n : Nat} {A : MF} {p q : Int} (h : spF n A = some (p, q)) (hr : Regular n (lvF p q A)) : q ∣ (periodF n (lvF p q A) : Int) * p := by
  obtain ⟨_, _, _, _, hq⟩ := sp_parts h
  obtain ⟨v, hv, hc⟩ := hr.crit
  obtain ⟨d1, d2⟩ := dv_crit hr.n1 hr.pos hv hc
  have hd := stK_dvd (D := dvK n (lvF p q A) (3 * n)) n v hv d1
  have z1 := frob hr.n1 hr.n6 hr.pos hv hc (t := dvK n (lvF p q A) (3 * n) v * 6000) (by omega) (Nat.dvd_mul_right _ _)
  have z2 := frob hr.n1 hr.n6 hr.pos hv hc (t := dvK n (lvF p q A) (3 * n) v * 6000 + periodF n (lvF p q A)) (by omega) (Nat.dvd_add (Nat.dvd_mul_right _ _) hd)
  generalize dvK n (lvF p q A) (3 * n) v * 6000 = t at *
  generalize periodF n (lvF p q A) = c at *
  rw [lv_pw hq n A _ v hv v hv] at z1 z2
  change lvM p q t (pwF n A t v v) = some 0 at z1
  change lvM p q (t + c) (pwF n A (t + c) v v) = some 0 at z2
  cases hx : pwF n A t v v with
  | none => rw [hx] at z1; cases z1
  | some x =>
    cases hy : pwF n A (t + c) v v with
    | none => rw [hy] at z2; cases z2
    | some y =>
      rw [hx] at z1
      rw [hy] at z2
      have z1 : q * x - p * (t : Int) = 0 := Option.some.inj z1
      have z2 : q * y - p * ((t + c : Nat) : Int) = 0 := Option.some.inj z2
      refine ⟨y - x, ?_⟩
      rw [Int.natCast_add, Int.mul_add] at z2
      rw [Int.mul_sub, Int.mul_comm (c : Int) p]
      omega
/-- as entries of the powers themselves -/
theorem rep_iff {n : Nat} {A : MF} {p q z : Int} (hq : 0 < q) {m x : Nat} (hz : q * z = p * x) : (∀ i, i < n → ∀ j, j < n → pwF n A (m + x) i j = ep (pwF n A m i j) (some z)) ↔ eqF n (pwF n (lvF p q A) (m + x)) (pwF n (lvF p q A) m) := by
  have key : ∀ (u v : E), u = ep v (some z) ↔ lvM p q (m + x) u = lvM p q m v := fun u v => by
    cases u with
    | none =>
      cases v with
      | none => exact ⟨fun _ => rfl, fun _ => rfl⟩
      | some b => exact ⟨(fun h => by cases h), (fun h => by cases h)⟩
    | some a =>
      cases v with
      | none => exact ⟨(fun h => by cases h), (fun h => by cases h)⟩
      | some b =>
        show some a = some (b + z) ↔ some (q * a - p * ((m + x : Nat) : Int)) = some (q * b - p * (m : Int))
        rw [Option.some.injEq, Option.some.injEq, Int.natCast_add, Int.mul_add]
        constructor
        · intro h; rw [h, Int.mul_add]; omega
        · intro h
          have h2 : q * a = q * (b + z) := by rw [Int.mul_add]; omega
          exact Int.eq_of_mul_eq_mul_left (by omega) h2
  constructor
  · intro h i hi j hj
    rw [lv_pw hq n A _ i hi j hj, lv_pw hq n A _ i hi j hj]
    exact (key _ _).1 (h i hi j hj)
  · intro h i hi j hj
    have := h i hi j hj
    rw [lv_pw hq n A _ i hi j hj, lv_pw hq n A _ i hi j hj] at this
    exact (key _ _).2 this
/-- the law of the regime: when a number of steps leads to the same again -/
theorem rep_law {n : Nat} {B : MF} (h : Regular n B) : (∀ k, eqF n (pwF n B (regK n B + k + periodF n B)) (pwF n B (regK n B + k))) ∧
    (∀ k, k < regK n B → ¬ eqF n (pwF n B (k + periodF n B)) (pwF n B k)) ∧ ∀ x k, 1 ≤ x → x < periodF n B → ¬ eqF n (pwF n B (k + x)) (pwF n B k) := by
  obtain ⟨r1, r2⟩ := reg_ok h
  refine ⟨fun k => eq_step (ag_iff.1 r1) k, fun k hk he => ?_, fun x k h1 h2 he => ?_⟩
  · have := r2 k hk; rw [ag_iff.2 he] at this; cases this
  · have := Nat.le_of_dvd (by omega) (per_least h he); omega
end Go.Proofs.YtbcngojiikdigaaGreat

namespace Go.Proofs.YtbcngojiikdigaaGreat
set_option maxRecDepth 100000
open Go.RowKit Go.Shelf
attribute [local go_sem] Oper.semAt_some
set_option maxHeartbeats 8000000 in
/-- start, where the first power comes again at once -/
theorem start0_c (u : Value) (base n p : Nat) (B : MF) (K : Int) (w : World) (hn1 : 1 ≤ n) (hn : n ≤ 6) (hb0 : NewMat base w u 56 62 n B) (bB : bdF K n B) (hK : 0 ≤ K) (hp : p ≤ 1000000)
    (hKB : K * ((4 * 2 ^ 0 + 2 * p : Nat) : Int) ≤ KB) (h0 : agB n B p 0 = true) :
    Calls Tryz.prog 73 #[u, .int .i64 (p : Int)] w fun e w' => e = .returned (.int .i64 0) ∧ Ext w w' := by
  have HB0 := Lib.hid hb0
  have hB := hb0.mat (by omega)
  have HB := Lib.hid hB
  have HBB := Lib.hid bB
  obtain ⟨ua, uc, rfl⟩ := hB.len
  have HKB := Lib.hid hKB
  have H0 := Lib.hid h0
  clear hB bB hb0 hKB h0
  refine calls_marks Tryz.func73 rfl ?_
  simp only [Tryz.ntmps73, List.size_toArray, List.length_cons, List.length_nil, Nat.reduceAdd, Nat.reduceSub, Array.replicate_succ, Array.replicate_zero, List.push_toArray, List.append_toArray, List.nil_append, List.cons_append]
  go_wp2_with fail
  refine (mpower_c _ n p B K w hn1 hn (by omega) HB.out HBB.out hK (Int.le_trans (Int.mul_le_mul_of_nonneg_left (by omega) hK) HKB.out)).mono ?_
  rintro e w1 ⟨f, rfl, hf, hE⟩
  have HF := Lib.hid hf
  have HE1 := Lib.hid hE
  obtain ⟨fa, fc, rfl⟩ := (hf.mat (by omega)).len
  clear hf hE
  have sA : (w1.alloc (.cells #[.slice (some fa) n fc] 53)).heap.size = w1.heap.size + 1 := by simp
  have pA := (vrow_alloc w1 [.slice (some fa) n fc] 53)
  have pB := vrow_alloc (w1.alloc (.cells #[.slice (some fa) n fc] 53)) [.nilFunc] 80
  rw [sA] at pB
  have hp3 := (show VRow ((w1.alloc (.cells #[.slice (some fa) n fc] 53)).alloc (.cells #[.nilFunc] 80)) _ _ _ from pB)
  have m0 := VRow.cell hp3 (k := 0) rfl
  have f0 := VRow.frozen hp3 0 none
  have hst : Sem.run Tryz.prog (store ⟨w1.heap.size + 1, 0, none⟩ (.func (.func 106) #[] #[.pointer (some ⟨w1.heap.size, 0, none⟩)])) ((w1.alloc (.cells #[.slice (some fa) n fc] 53)).alloc (.cells #[.nilFunc] 80)) = .ok () (((w1.alloc (.cells #[.slice (some fa) n fc] 53)).alloc (.cells #[.nilFunc] 80)).setCell ⟨w1.heap.size + 1, 0, none⟩ (.func (.func 106) #[] #[.pointer (some ⟨w1.heap.size, 0, none⟩)])) := by
    rw [run_store Tryz.prog _ _ _ _ rfl, m0]
    simp [f0]
  clear pB hp3
  go_wp2_with fail
  clear m0 f0 hst
  have HPF := Lib.hid (show VRow ((w1.alloc (.cells #[.slice (some fa) n fc] 53)).alloc (.cells #[.func (.func 106) #[] #[.pointer (some ⟨w1.heap.size, 0, none⟩)]] 80)) _ _ _ from VRow.alloc pA _)
  have pB := vrow_alloc (w1.alloc (.cells #[.slice (some fa) n fc] 53)) [.func (.func 106) #[] #[.pointer (some ⟨w1.heap.size, 0, none⟩)]] 80
  rw [sA] at pB
  have HPA := Lib.hid (show VRow ((w1.alloc (.cells #[.slice (some fa) n fc] 53)).alloc (.cells #[.func (.func 106) #[] #[.pointer (some ⟨w1.heap.size, 0, none⟩)]] 80)) _ _ _ from pB)
  have HEB := Lib.hid (Ext.alloc (Ext.alloc HE1.out (.cells #[.slice (some fa) n fc] 53)) (.cells #[.func (.func 106) #[] #[.pointer (some ⟨w1.heap.size, 0, none⟩)]] 80))
  have HFB := Lib.hid ((HF.out.ext (Ext.alloc (Ext.refl w1) (.cells #[.slice (some fa) n fc] 53))).ext (Ext.alloc (Ext.refl _) (.cells #[.func (.func 106) #[] #[.pointer (some ⟨w1.heap.size, 0, none⟩)]] 80)))
  have sB : ((w1.alloc (.cells #[.slice (some fa) n fc] 53)).alloc (.cells #[.func (.func 106) #[] #[.pointer (some ⟨w1.heap.size, 0, none⟩)]] 80)).heap.size = w1.heap.size + 2 := by simp
  clear pA pB sA
  generalize (w1.alloc (.cells #[.slice (some fa) n fc] 53)).alloc (.cells #[.func (.func 106) #[] #[.pointer (some ⟨w1.heap.size, 0, none⟩)]] 80) = wB at *
  refine (identity_c n wB hn1 hn).mono ?_
  rintro e w2 ⟨r2, rfl, hr2, hE⟩
  have HR2 := Lib.hid hr2
  have HE2 := Lib.hid hE
  obtain ⟨ra, rc, rfl⟩ := (hr2.mat (by omega)).len
  clear hr2 hE
  have c80 : ((w2.alloc (.cells #[.slice (some ra) n rc] 53)).alloc (.cells #[.int .i64 0] 3)).cell? ⟨w1.heap.size + 1, 0, none⟩ = some (.func (.func 106) #[] #[.pointer (some ⟨w1.heap.size, 0, none⟩)]) := VRow.cell (VRow.alloc (VRow.alloc (VRow.ext HPA.out HE2.out) _) _) (k := 0) rfl
  have hw2 : w1.heap.size + 1 < w2.heap.size := by have := HE2.out.size; omega
  go_wp2_with fail
  clear c80
  have HEr := Ext.alloc (Ext.alloc (Ext.refl w2) (.cells #[.slice (some ra) n rc] 53)) (.cells #[.int .i64 0] 3)
  have HP5 := Lib.hid (VRow.ext (VRow.ext HPF.out HE2.out) HEr)
  have HP6 := Lib.hid (VRow.ext (VRow.ext HPA.out HE2.out) HEr)
  have p7 := vrow_alloc w2 [.slice (some ra) n rc] 53
  have sC : (w2.alloc (.cells #[.slice (some ra) n rc] 53)).heap.size = w2.heap.size + 1 := by simp
  have p8 := vrow_alloc (w2.alloc (.cells #[.slice (some ra) n rc] 53)) [.int .i64 0] 3
  rw [sC] at p8
  have HP7 := Lib.hid (show VRow ((w2.alloc (.cells #[.slice (some ra) n rc] 53)).alloc (.cells #[.int .i64 0] 3)) _ _ _ from VRow.alloc p7 _)
  have HP8 := Lib.hid (show VRow ((w2.alloc (.cells #[.slice (some ra) n rc] 53)).alloc (.cells #[.int .i64 0] 3)) _ _ _ from p8)
  have HE3 := Lib.hid (Ext.trans (Ext.trans HEB.out HE2.out) HEr)
  have HFQ := Lib.hid (((MatS.new (S := fun j => j ≠ w2.heap.size ∧ j ≠ w2.heap.size + 1) HFB.out (by omega) (fun j _ hj => by omega)).ext hn1 HE2.out).ext hn1 HEr)
  have HBQ := Lib.hid (((MatS.new (S := fun j => j ≠ w2.heap.size ∧ j ≠ w2.heap.size + 1) HB0.out (by omega) (fun j _ hj => by have := HE1.out.size; omega)).ext hn1 (Ext.trans HEB.out HE2.out)).ext hn1 HEr)
  have HRQ := Lib.hid ((MatS.new (S := fun j => j ≠ w2.heap.size ∧ j ≠ w2.heap.size + 1) HR2.out (by omega) (fun j _ hj => by omega)).ext hn1 HEr)
  have hwS : w.heap.size ≤ w1.heap.size := HE1.out.size
  have sD : ((w2.alloc (.cells #[.slice (some ra) n rc] 53)).alloc (.cells #[.int .i64 0] 3)).heap.size = w2.heap.size + 2 := by simp
  clear p7 p8 sC HEr
  generalize (w2.alloc (.cells #[.slice (some ra) n rc] 53)).alloc (.cells #[.int .i64 0] 3) = w3 at *
  have hK' := hK
  have HAG := Lib.hid (fun (W : World) (v : Value) (e : Nat) (he : e ≤ 2 * 2 ^ 0) (hv : MatAt W v n (pwF n B e)) (hf : MatAt W (.slice (some fa) n fc) n (pwF n B p)) (hc : VRow W w1.heap.size 53 [.slice (some fa) n fc]) =>
    (show Calls Tryz.prog 106 #[v, .pointer (some ⟨w1.heap.size, 0, none⟩)] W fun x w' => x = .returned (.bool (agB n B p e)) ∧ Ext W w' from
      again_c w1.heap.size v _ n (pwF n B e) (pwF n B p) W hn1 hn hv hf (VRow.cell hc (k := 0) rfl) (pw_bd HBB.out hK (m := e) (k0 := 4 * 2 ^ 0 + 2 * p) (by omega) HKB.out) (pw_bd HBB.out hK (m := p) (k0 := 4 * 2 ^ 0 + 2 * p) (by omega) HKB.out)
        (pw_bd2 HBB.out hK (r := e) (s := p) (k0 := 4 * 2 ^ 0 + 2 * p) (by omega) HKB.out) (pwF_prod_bd HBB.out hK (r := e) (s := p) (k0 := 4 * 2 ^ 0 + 2 * p) (by omega) HKB.out)))
  refine (HAG.out w3 _ 0 (by omega) HRQ.out.mat HFQ.out.mat HP5.out).mono ?_
  rintro e w4 ⟨rfl, hE⟩
  rw [H0.out]
  have HE4 := Lib.hid (Ext.trans HE3.out hE)
  clear hE
  go_wp2_with fail
  exact ⟨_, results_tmp rfl _ _ _, rfl, HE4.out⟩
end Go.Proofs.YtbcngojiikdigaaGreat

namespace Go.Proofs.YtbcngojiikdigaaGreat
set_option maxRecDepth 100000
open Go.RowKit Go.Shelf
/-- start, of the period of a connected line -/
theorem startK_c (u : Value) (base n : Nat) (B : MF) (w : World) (h : Regular n B) (hb0 : NewMat base w u 56 62 n B) :
    Calls Tryz.prog 73 #[u, .int .i64 (periodF n B : Int)] w fun e w' => e = .returned (.int .i64 (regK n B : Int)) ∧ Ext w w' := by
  have hb := per_bd h
  cases h0 : agB n B (periodF n B) 0 with
  | true =>
    rw [reg_zero h h0]
    exact start0_c u base n _ B 12000 w h.n1 h.n6 hb0 h.bd (by decide) (by omega) (by unfold KB; omega) h0
  | false =>
    obtain ⟨m, hs⟩ := start_ok h h0
    rw [← start_is h hs]
    exact start_c u base n _ m B 12000 w h.n1 h.n6 hb0 h.bd (by decide) hs.2.2.1 hs.1 hs.2.1 hs.2.2.2.1 hs.2.2.2.2.1 h0
/-- what Regime gives -/
def RegZ (xs : List (List Int)) (e : Ending) : Prop :=
  (matB xs = false ∧ e = three 0 0 2) ∨
  (matB xs = true ∧ spF xs.length (entF xs) = none ∧ e = three 0 0 10) ∨
  (matB xs = true ∧ ∃ p q, spF xs.length (entF xs) = some (p, q) ∧ connB xs.length (lvF p q (entF xs)) = false ∧ e = three 0 0 10) ∨
  (matB xs = true ∧ ∃ p q, spF xs.length (entF xs) = some (p, q) ∧ connB xs.length (lvF p q (entF xs)) = true ∧
    e = three (periodF xs.length (lvF p q (entF xs)) : Nat) (regK xs.length (lvF p q (entF xs)) : Nat) 0)
set_option maxHeartbeats 4000000 in
theorem RegZ_c (u : Value) (xs : List (List Int)) (w : World) (hu : Rows2 w u xs) (hlx : ∀ r ∈ xs, r.length ≤ 1000000) :
    Calls Tryz.prog 34 #[u] w fun e w' => RegZ xs e ∧ Ext w w' := by
  have HL := Lib.hid (repeating_c u xs w hu hlx)
  obtain ⟨a1, c1, rfl, hl1, hm1, _⟩ := hu.at
  clear hu hlx
  go_enter Tryz.func34, Tryz.ntmps34
  go_wp2_with fail
  refine HL.out.mono ?_
  rintro e w1 ⟨hS, hE⟩
  have HE := Lib.hid hE
  clear hE
  rcases hS with ⟨hm, rfl⟩ | ⟨hm, hs, rfl⟩ | ⟨hm, p, q, hs, hc, rfl⟩ | ⟨hm, p, q, r, hs, hc, rfl, hr⟩
  · have HS := Lib.hid (show RegZ xs (three 0 0 2) from .inl ⟨hm, rfl⟩)
    clear hm
    unfold two
    go_wp2_with fail
    (try simp only [Exit.inBlock, Exit.then])
    refine bodyPost_ret (results_tmp3 rfl _ _ _) rfl ?_
    exact ⟨HS.out, HE.out⟩
  · have HS := Lib.hid (show RegZ xs (three 0 0 10) from .inr (.inl ⟨hm, hs, rfl⟩))
    clear hm hs
    unfold two
    go_wp2_with fail
    (try simp only [Exit.inBlock, Exit.then])
    refine bodyPost_ret (results_tmp3 rfl _ _ _) rfl ?_
    exact ⟨HS.out, HE.out⟩
  · have HS := Lib.hid (show RegZ xs (three 0 0 10) from .inr (.inr (.inl ⟨hm, p, q, hs, hc, rfl⟩)))
    clear hm hs hc
    unfold two
    go_wp2_with fail
    (try simp only [Exit.inBlock, Exit.then])
    refine bodyPost_ret (results_tmp3 rfl _ _ _) rfl ?_
    exact ⟨HS.out, HE.out⟩
  · have hn := (matB_ok hm).1
    have hb := spF_bd (matB_ok hm).2.2 hn.2 hs
    have HB := Lib.hid (lvF_bd (matB_ok hm).2.2 hb.1 hb.2)
    have hreg := lv_regular hn.1 hn.2 (matB_ok hm).2.2 hs hc
    have HS := Lib.hid (show RegZ xs (three (periodF xs.length (lvF p q (entF xs)) : Nat) (regK xs.length (lvF p q (entF xs)) : Nat) 0) from .inr (.inr (.inr ⟨hm, p, q, hs, hc, rfl⟩)))
    have HR := Lib.hid hr
    obtain ⟨ra, rc, rfl⟩ := (hr.mat (by omega)).len
    obtain ⟨n, hnn⟩ : ∃ n, n = xs.length := ⟨_, rfl⟩
    rw [← hnn] at HB HS HR hn hreg
    clear hm hs hc hr hb HL hl1 hm1
    generalize hlv : lvF p q (entF xs) = B at *
    have HST := Lib.hid (fun W u hu => startK_c u w.heap.size n B W hreg hu)
    have HNN := Lib.hid hnn
    unfold two
    rw [← hnn]
    clear hlv hreg hnn
    go_wp2_with fail
    refine (period_c _ n B w1 hn.1 hn.2 (HR.out.mat (by omega)) HB.out).mono ?_
    rintro e w2 ⟨rfl, hE⟩
    have HE2 := Lib.hid (Ext.trans HE.out hE)
    have HR2 := Lib.hid (HR.out.ext hE)
    clear hE
    generalize periodF n B = pp at *
    generalize regK n B = zz at *
    go_wp2_with fail
    refine (HST.out w2 _ HR2.out).mono ?_
    rintro e w3 ⟨rfl, hE⟩
    have HE3 := Lib.hid (Ext.trans HE2.out hE)
    clear hE
    go_wp2_with fail
    (try simp only [Exit.inBlock, Exit.then])
    refine bodyPost_ret (results_tmp3 rfl _ _ _) rfl ?_
    exact ⟨HS.out, HE3.out⟩
/-- what Connected gives -/
def ConS (xs : List (List Int)) (e : Ending) : Prop :=
  (matB xs = false ∧ e = two (.bool false) (.int .i64 2)) ∨ (matB xs = true ∧ e = two (.bool (connB xs.length (entF xs))) (.int .i64 0))
set_option maxHeartbeats 4000000 in
theorem Connected_c (u : Value) (xs : List (List Int)) (w : World) (hu : Rows2 w u xs) (hlx : ∀ r ∈ xs, r.length ≤ 1000000) :
    Calls Tryz.prog 30 #[u] w fun e w' => ConS xs e ∧ Ext w w' := by
  have HU := Lib.hid hu
  have HM := Lib.hid (isMatrix_c u xs w hu hlx)
  obtain ⟨a1, c1, rfl, hl1, hm1, _⟩ := hu.at
  clear hu hlx
  cases hx : matB xs with
  | false =>
    have HS := Lib.hid (show ConS xs (two (.bool false) (.int .i64 2)) from .inl ⟨hx, rfl⟩)
    rw [hx] at HM
    clear hx
    go_enter Tryz.func30, Tryz.ntmps30
    go_wp2_with fail
    refine HM.out.mono ?_
    rintro e w1 ⟨rfl, hE⟩
    have HE := Lib.hid hE
    clear hE
    go_wp2_with fail
    go_ret2
    exact ⟨HS.out, HE.out⟩
  | true =>
    have HOX := Lib.hid (matB_ok hx)
    have hn := HOX.out.1
    have HS := Lib.hid (show ConS xs (two (.bool (connB xs.length (entF xs))) (.int .i64 0)) from .inr ⟨hx, rfl⟩)
    rw [hx] at HM
    clear hx
    go_enter Tryz.func30, Tryz.ntmps30
    go_wp2_with fail
    refine HM.out.mono ?_
    rintro e w1 ⟨rfl, hE⟩
    have HE := Lib.hid hE
    clear hE
    go_wp2_with fail
    refine (spans_c _ xs.length (entF xs) w1 hn.1 hn.2 (rows_mat (HU.out.ext HE.out) HOX.out.2.1 hn.1)).mono ?_
    rintro e w3 ⟨r1, rfl, hr1, hE⟩
    have HE3 := Lib.hid (Ext.trans HE.out hE)
    have HR1 := Lib.hid (hr1.mat (by omega))
    clear hE hr1
    go_wp2_with fail
    refine (connected_c _ xs.length _ w3 hn.1 hn.2 HR1.out (HOX.out.2.2.mono (by unfold KB; omega))).mono ?_
    rintro e w5 ⟨rfl, hE⟩
    have HE5 := Lib.hid (Ext.trans HE3.out hE)
    clear hE
    generalize connB xs.length (entF xs) = cb at *
    go_wp2_with fail
    go_ret2
    exact ⟨HS.out, HE5.out⟩
end Go.Proofs.YtbcngojiikdigaaGreat

namespace Go.Proofs.YtbcngojiikdigaaGreat
set_option maxRecDepth 100000
open Go.RowKit Go.Shelf
set_option maxHeartbeats 1000000 in
theorem rgcd_c (a b : Int) (w : World) (ha : -1000000000000 ≤ a ∧ a ≤ 1000000000000) (hb : -1000000000000 ≤ b ∧ b ≤ 1000000000000) :
    Calls Tryz.prog 92 #[.int .i64 a, .int .i64 b] w fun e w' => e = .returned (.int .i64 (Int.gcd a b : Int)) ∧ Ext w w' := by
  have HG := Lib.hid (show Int.gcd a b = Int.gcd a b from rfl)
  generalize hg : Int.gcd a b = g at *
  have HGG := Lib.hid hg
  clear hg HG
  go_enter Tryz.func92, Tryz.ntmps92
  go_wp2_with fail
  go_loopw [0, 1] (fun u v wr => ∃ x y : Int, u = .int .i64 x ∧ v = .int .i64 y ∧ (-1000000000000 ≤ x ∧ x ≤ 1000000000000) ∧ (-1000000000000 ≤ y ∧ y ≤ 1000000000000) ∧ Int.gcd x y = g ∧ Ext w wr) (fun _ v _ => (intOf v).natAbs)
  case atStart => exact ⟨a, b, rfl, rfl, ha, hb, HGG.out, Ext.refl _⟩
  case round =>
    rename World => wr
    obtain ⟨x, y, rfl, rfl, hx, hy, hgc, hE⟩ := hrel
    have HGC := Lib.hid hgc
    have HE := Lib.hid hE
    clear hgc hE
    by_cases h0 : y = 0
    · subst h0
      have HX := Lib.hid (show (x.natAbs : Int) = (g : Int) by have h := HGC.out; rw [← h]; simp [Int.gcd])
      by_cases hp : 0 < x
      · have HZ := Lib.hid (show x = (g : Int) by have := HX.out; omega)
        go_wp2_with fail
        go_ret
        exact ⟨ret_int HZ.out, HE.out⟩
      · by_cases hm : x < 0
        · have HZ := Lib.hid (show -x = (g : Int) by have := HX.out; omega)
          go_wp2_with fail
          go_ret
          exact ⟨ret_int HZ.out, HE.out⟩
        · obtain rfl : x = 0 := by omega
          have HZ := Lib.hid (show 0 = (g : Int) by have := HX.out; omega)
          go_wp2_with fail
          go_ret
          exact ⟨ret_int HZ.out, HE.out⟩
    · have hb0 : (y != 0) = true := by rw [bne_iff_ne]; exact h0
      have hlt := tmod_lt x y h0
      have HGS := Lib.hid (gcd_step x y h0)
      obtain ⟨t, ht⟩ : ∃ t, x.tmod y = t := ⟨_, rfl⟩
      rw [ht] at hlt HGS
      have htb : -1000000000000 ≤ t ∧ t ≤ 1000000000000 := by omega
      have hwt : IntKind.i64.wrap t = t := IntWalk.i64_in _ (by omega)
      go_wp2_with fail
      go_quiet (fail)
      go_wp2
      all_goals exact ⟨⟨y, t, rfl, rfl, hy, htb, by rw [HGS.out]; exact HGC.out, ext_drewN HE.out _⟩, by simp [intOf]; omega⟩
set_option maxHeartbeats 1000000 in
theorem has_c (v : Value) (xs : List Int) (x : Int) (w : World) (hx : Ints w v xs) (hl : xs.length ≤ 1000000) :
    Calls Tryz.prog 104 #[v, .int .i64 x] w fun e w' => e = .returned (.bool (decide (x ∈ xs))) ∧ Ext w w' := by
  obtain ⟨ax, cx, rfl, hxc, hxm, hrx⟩ := hx.at
  have HX := Lib.hid hrx
  clear hx hrx
  obtain ⟨D, hD⟩ : ∃ D : Bool, D = decide (x ∈ xs) := ⟨_, rfl⟩
  rw [← hD]
  have HD := Lib.hid hD
  clear hD
  go_enter Tryz.func104, Tryz.ntmps104
  go_wp2_with fail
  go_loopw [5] (fun i wr => ∃ k : Nat, k ≤ xs.length ∧ i = .int .i64 k ∧ x ∉ xs.take k ∧ Ext w wr) (fun i _ => xs.length - (intOf i).toNat)
  case atStart => exact ⟨0, Nat.zero_le _, rfl, by simp, Ext.refl _⟩
  case round =>
    rename World => wr
    obtain ⟨k, hk, rfl, ht, hE⟩ := hrel
    have Ht := Lib.hid ht
    have HE := Lib.hid hE
    clear ht hE
    by_cases hlt : k < xs.length
    · obtain ⟨y, hy⟩ := getElem?_len hlt
      obtain ⟨bx, ox, rfl, h1⟩ := HX.out k y hy
      replace h1 := Ext.cell HE.out h1
      have hc1 := cell_lt h1
      have Hy := Lib.hid hy
      clear hy
      by_cases hxy : y = x
      · subst hxy
        have hb : (y == y) = true := by simp
        have HDT := Lib.hid (show D = true from by rw [HD.out]; exact decide_eq_true (List.mem_of_getElem? Hy.out))
        go_wp2_with fail
        go_ret
        exact ⟨by rw [HDT.out]; rfl, HE.out⟩
      · have hb : (y == x) = false := beq_eq_false_iff_ne.2 hxy
        have HN := Lib.hid (show x ∉ xs.take (k + 1) from by
          rw [List.take_add_one, Hy.out]
          simp only [Option.toList_some, List.mem_append, List.mem_singleton]
          rintro (h | h)
          · exact Ht.out h
          · exact hxy h.symm)
        clear hxy
        go_wp2_with fail
        exact ⟨⟨k + 1, by omega, by simp, HN.out, HE.out⟩, by simp [intOf]; omega⟩
    · obtain rfl : k = xs.length := by omega
      have HDF := Lib.hid (show D = false from by rw [HD.out]; have h := Ht.out; rw [List.take_length] at h; exact decide_eq_false h)
      go_wp2_with fail
      go_ret
      exact ⟨by rw [HDF.out]; rfl, HE.out⟩
/-- a list of vertices as numbers -/
def natI (c : List Nat) : List Int := c.map fun i : Nat => (i : Int)
theorem natI_len (c : List Nat) : (natI c).length = c.length := by simp [natI]
theorem natI_mem {c : List Nat} {x : Nat} : ((x : Int) ∈ natI c) ↔ x ∈ c := by
  unfold natI
  rw [List.mem_map]
  constructor
  · rintro ⟨y, hy, e⟩
    have : y = x := by omega
    rw [← this]; exact hy
  · exact fun h => ⟨x, h, rfl⟩
theorem natI_at {c : List Nat} {k : Nat} (hk : k < c.length) : (natI c)[k]? = some (gC c k : Int) := by
  unfold natI gC
  rw [List.getElem?_map, List.getElem?_eq_getElem hk, List.getD_eq_getElem?_getD, List.getElem?_eq_getElem hk]
  rfl
theorem nat_cells {w : World} {v : Value} {c : List Nat} (h : Ints w v (natI c)) (h1 : 1 ≤ c.length) : ∃ b o cap, v = .slice (some ⟨b, o, none⟩) c.length cap ∧ ∀ k, k < c.length → w.cell? ⟨b, o + k, none⟩ = some (.int .i64 (gC c k : Int)) := by
  obtain ⟨a, cap, hv, _, _, hr⟩ := h.at
  obtain ⟨b, o, ha, _⟩ := hr 0 _ (natI_at (by omega))
  subst ha
  refine ⟨b, o, cap, by rw [natI_len] at hv; exact hv, fun k hk => ?_⟩
  obtain ⟨b', o', e, h2⟩ := hr k _ (natI_at hk)
  simp only [Option.some.injEq, Addr.mk.injEq] at e
  obtain ⟨rfl, rfl, _⟩ := e
  exact h2
set_option maxHeartbeats 4000000 in
theorem weight_c (u v : Value) (n : Nat) (A : MF) (c : List Nat) (s : Int) (w : World) (hA : MatAt w u n A) (hn : n ≤ 6) (hc : Ints w v (natI c)) (h1 : 1 ≤ c.length) (hl : c.length ≤ 6) (hx : ∀ x ∈ c, x < n) (bA : bdF 1000 n A) (hs : preL A (gC c) c.length = some s) :
    Calls Tryz.prog 67 #[u, v] w fun e w' => e = .returned (.int .i64 s) ∧ Ext w w' := by
  obtain ⟨ab, ao, ac, rfl, hmm1, hmm2, hMA⟩ := hA
  obtain ⟨cb, co, cc, rfl, hcc⟩ := nat_cells hc h1
  have HMA := Lib.hid hMA
  have HCC := Lib.hid hcc
  have HBA := Lib.hid bA
  have HG := Lib.hid (fun k => gC_lt h1 hx k)
  have HGE := Lib.hid (gC_end c)
  have HS := Lib.hid hs
  generalize gC c = g at *
  generalize c.length = m at *
  clear hMA hcc bA hx hs hc
  go_enter Tryz.func67, Tryz.ntmps67
  go_wp2_with fail
  go_loopw [5, 6] (fun sv iv' wr => ∃ (i : Nat) (t : Int), iv' = .int .i64 (i : Int) ∧ sv = .int .i64 t ∧ i ≤ m ∧ preL A g i = some t ∧ Ext w wr) (fun _ iv' _ => m - (intOf iv').toNat)
  case atStart => exact ⟨0, 0, rfl, rfl, Nat.zero_le _, rfl, Ext.refl _⟩
  case round =>
    rename World => wr
    obtain ⟨i, t, rfl, rfl, hi, ht, hE⟩ := hrel
    have HEr := Lib.hid hE
    have HT := Lib.hid ht
    clear hE ht
    have hsb := (preL_bd HBA.out HG.out i) t HT.out
    by_cases hil : i < m
    · obtain ⟨t', y, e1, e2, e3⟩ := preL_arc HS.out hil
      rw [HT.out] at e1
      injection e1 with e1
      subst e1
      obtain ⟨j1, hj1, hjm, hcj⟩ : ∃ j1 : Nat, (i + 1) % m = j1 ∧ j1 < m ∧ w.cell? ⟨cb, co + j1, none⟩ = some (.int .i64 (g (i + 1) : Int)) := by
        by_cases h : i + 1 < m
        · exact ⟨i + 1, Nat.mod_eq_of_lt h, h, HCC.out (i + 1) h⟩
        · have h2 : i + 1 = m := by omega
          refine ⟨0, by rw [h2, Nat.mod_self], by omega, ?_⟩
          rw [h2, HGE.out]
          exact HCC.out 0 (by omega)
      have hr2 : ((i : Int) + 1) % (m : Int) = (j1 : Int) := by rw [← hj1, Int.natCast_emod]; rfl
      have hr1 : Int.tmod ((i : Int) + 1) (m : Int) = (j1 : Int) := by rw [Int.tmod_eq_emod_of_nonneg (by omega)]; exact hr2
      have hx := HG.out i
      have hy := HG.out (i + 1)
      have hyb := HBA.out _ hy _ hx y e2
      obtain ⟨u1, cu1, ⟨rb1, ro1, rc1, rfl, _, _, hrow1⟩⟩ := HMA.out (g (i + 1)) hy
      have d1 := Ext.cell HEr.out (HCC.out i hil)
      have d2 := Ext.cell HEr.out hcj
      have d3 := Ext.cell HEr.out cu1
      have d4 := Ext.cell HEr.out (hrow1 (g i) hx)
      rw [e2] at d4
      rw [show iv (some y) = .int .i64 y from rfl] at d4
      have k1 := cell_lt d1
      have k3 := cell_lt d3
      have k4 := cell_lt d4
      have HE3' := Lib.hid e3
      have hms : (m : Int) ≠ 0 := by omega
      have hws : IntKind.i64.wrap (t + y) = t + y := IntWalk.i64_in _ (by omega)
      obtain ⟨x0, hx0⟩ : ∃ x, x = g i := ⟨_, rfl⟩
      obtain ⟨y0, hy0⟩ : ∃ x, x = g (i + 1) := ⟨_, rfl⟩
      rw [← hx0] at hx d1 d4
      rw [← hy0] at hy d2 d3
      clear hx0 hy0 hj1 e2 e3 hcj cu1 hrow1
      go_wp2_with fail
      go_quiet (fail)
      go_wp2_with fail
      exact ⟨⟨i + 1, t + y, by simp, rfl, by omega, HE3'.out, ext_drewN HEr.out _⟩, by simp [intOf]; omega⟩
    · obtain rfl : i = m := by omega
      obtain rfl : t = s := by have h := HT.out; rw [HS.out] at h; injection h with h; exact h.symm
      go_wp2_with fail
      go_ret
      exact ⟨rfl, HEr.out⟩
end Go.Proofs.YtbcngojiikdigaaGreat

namespace Go.Proofs.YtbcngojiikdigaaGreat
set_option maxRecDepth 100000
open Go.RowKit Go.Shelf
/-- lists of vertices, each in a list of its own, in a list of one's own -/
def OutC (base : Nat) (w : World) (v : Value) (L : List (List Nat)) : Prop :=
  ∃ vs : List Value, w.ownsRow base 23 1 v L.length vs ∧ ∀ (i : Nat) (u : Value) (c : List Nat), vs[i]? = some u → L[i]? = some c → w.ownsRow base 3 1 u c.length (natsV c)
theorem OutC.ext {base : Nat} {w w' : World} {v : Value} {L : List (List Nat)} (h : OutC base w v L) (he : Ext w w') : OutC base w' v L := by
  obtain ⟨vs, h1, h2⟩ := h
  exact ⟨vs, ownsRow_ext h1 he, fun i u c hu hc => ownsRow_ext (h2 i u c hu hc) he⟩
theorem OutC.mono {base b : Nat} {w : World} {v : Value} {L : List (List Nat)} (h : OutC base w v L) (hb : b ≤ base) : OutC b w v L := by
  obtain ⟨vs, h1, h2⟩ := h
  exact ⟨vs, own_mono h1 hb, fun i u c hu hc => own_mono (h2 i u c hu hc) hb⟩
theorem OutC.nil (base : Nat) (w : World) : OutC base w (.slice none 0 0) [] := ⟨[], ⟨rfl, .inl ⟨rfl, rfl⟩⟩, fun i u c h => by simp at h⟩
theorem natsV_ints (c : List Nat) : natsV c = (natI c).map (Value.int .i64) := by simp [natsV, natI]
theorem nats_ints {w : World} {base : Nat} {v : Value} {c : List Nat} (h : w.ownsRow base 3 1 v c.length (natsV c)) (hl : c.length ≤ 1000000) : Ints w v (natI c) :=
  own_ints2 (by rw [natI_len, ← natsV_ints]; exact h) (by rw [natI_len]; exact hl)
/-- lists more -/
theorem OutC.push {base : Nat} {w w' : World} {v v' : Value} {L M : List (List Nat)} {vs us : List Value} (h1 : w.ownsRow base 23 1 v L.length vs) (h2 : ∀ (i : Nat) (u : Value) (c : List Nat), vs[i]? = some u → L[i]? = some c → w.ownsRow base 3 1 u c.length (natsV c))
    (g1 : us.length = M.length) (g2 : ∀ (i : Nat) (u : Value) (c : List Nat), us[i]? = some u → M[i]? = some c → w.ownsRow base 3 1 u c.length (natsV c))
    (h3 : w'.ownsRow base 23 1 v' (L.length + M.length) (vs ++ us)) (hg : w.grownBy w' v.ownBlock) : OutC base w' v' (L ++ M) := by
  have hvl : vs.length = L.length := by have := h1.1; omega
  refine ⟨_, by rw [List.length_append]; exact h3, fun i u c hu hc => ?_⟩
  rcases Nat.lt_or_ge i L.length with hi | hi
  · rw [List.getElem?_append_left (by omega)] at hu hc
    exact own_keep (h2 i u c hu hc) (own_type h1) hg
  · rw [List.getElem?_append_right (by omega)] at hu hc
    rw [hvl] at hu
    exact own_keep (g2 _ u c hu hc) (own_type h1) hg
theorem cycF_len {n : Nat} {A : MF} {f : Nat} (hn : n ≤ 6) : ∀ k walk, (cycF n A f k walk).length ≤ 6 ^ k := by
  intro k
  induction k with
  | zero => intro walk; simp [cycF]
  | succ k ih =>
    intro walk
    have step : ∀ i, (stepC A f (cycF n A f k) walk i).length ≤ 6 ^ k := fun i => by
      have h1 : 6 ^ 0 ≤ 6 ^ k := Nat.pow_le_pow_right (by omega) (Nat.zero_le k)
      rw [Nat.pow_zero] at h1
      unfold stepC
      split
      · simp
      · split
        · simpa using h1
        · split
          · simp
          · exact ih _
    have key : ∀ m, ((List.range m).flatMap (stepC A f (cycF n A f k) walk)).length ≤ m * 6 ^ k := by
      intro m
      induction m with
      | zero => simp
      | succ m ihm =>
        rw [List.range_succ, List.flatMap_append, List.length_append, Nat.add_mul, Nat.one_mul]
        have := step m
        simp only [List.flatMap_cons, List.flatMap_nil, List.append_nil]
        omega
    have h := key n
    show ((List.range n).flatMap _).length ≤ _
    rw [Nat.pow_succ]
    have : n * 6 ^ k ≤ 6 * 6 ^ k := Nat.mul_le_mul_right _ hn
    omega
/-- the cycles found below i -/
def accC (n : Nat) (A : MF) (f k : Nat) (walk : List Nat) (i : Nat) : List (List Nat) := (List.range i).flatMap (stepC A f (cycF n A f k) walk)
theorem accC_succ (n : Nat) (A : MF) (f k : Nat) (walk : List Nat) (i : Nat) : accC n A f k walk (i + 1) = accC n A f k walk i ++ stepC A f (cycF n A f k) walk i := by
  unfold accC
  rw [List.range_succ, List.flatMap_append]
  simp
theorem accC_first {n : Nat} {A : MF} {f k : Nat} {walk : List Nat} : ∀ i, i ≤ f → accC n A f k walk i = [] := by
  intro i
  induction i with
  | zero => intro _; rfl
  | succ i ih =>
    intro h
    rw [accC_succ, ih (by omega)]
    unfold stepC
    rw [if_pos (.inl (by omega))]
    rfl
theorem accC_len {n : Nat} {A : MF} {f k : Nat} {walk : List Nat} (hn : n ≤ 6) (hk : k ≤ 6) {i : Nat} (hi : i ≤ n) : (accC n A f k walk i).length ≤ 279936 := by
  have h : ∀ m, m ≤ n → (accC n A f k walk m).length ≤ m * 46656 := by
    intro m
    induction m with
    | zero => intro _; simp [accC]
    | succ m ih =>
      intro hm
      rw [accC_succ, List.length_append, Nat.add_mul, Nat.one_mul]
      have h1 := ih (by omega)
      have h2 : (stepC A f (cycF n A f k) walk m).length ≤ 46656 := by
        unfold stepC
        split
        · simp
        · split
          · simp
          · split
            · simp
            · have h3 := cycF_len (A := A) (f := f) hn k (walk ++ [m])
              have h4 : 6 ^ k ≤ 6 ^ 6 := Nat.pow_le_pow_right (by omega) hk
              rw [show (6 : Nat) ^ 6 = 46656 by decide] at h4
              omega
      omega
  have := h i hi
  have : i * 46656 ≤ 6 * 46656 := Nat.mul_le_mul_right _ (by omega)
  omega
/-- what a walk is -/
def WalkOk (n f : Nat) (walk : List Nat) : Prop := 1 ≤ walk.length ∧ (∀ x ∈ walk, x < n) ∧ Once walk ∧ gC walk 0 = f
theorem WalkOk.len {n f : Nat} {walk : List Nat} (h : WalkOk n f walk) : walk.length ≤ n := once_len h.1 h.2.1 h.2.2.1
theorem WalkOk.push {n f i : Nat} {walk : List Nat} (h : WalkOk n f walk) (hi : i < n) (hn : i ∉ walk) : WalkOk n f (walk ++ [i]) := by
  obtain ⟨h1, h2, h3, h4⟩ := h
  refine ⟨by simp, fun x hx => ?_, ?_, ?_⟩
  · rcases List.mem_append.1 hx with h | h
    · exact h2 x h
    · rw [List.mem_singleton.1 h]; exact hi
  · rw [once_nodup] at h3 ⊢
    rw [List.nodup_append]
    refine ⟨h3, by simp, fun a ha b hb => ?_⟩
    rw [List.mem_singleton.1 hb]
    exact fun e => hn (by rw [← e]; exact ha)
  · rw [← h4]
    cases walk with
    | nil => simp at h1
    | cons y ys => rfl
theorem last_gC {walk : List Nat} (h : 1 ≤ walk.length) : walk.getLastD 0 = gC walk (walk.length - 1) := by
  unfold gC
  rw [List.getD_eq_getElem?_getD, ← List.getLast?_eq_getElem?, List.getLastD_eq_getLast?]
  cases hw : walk.getLast? with
  | none => rw [List.getLast?_eq_none_iff] at hw; rw [hw] at h; simp at h
  | some x => rfl
end Go.Proofs.YtbcngojiikdigaaGreat

namespace Go.Proofs.YtbcngojiikdigaaGreat
set_option maxRecDepth 100000
open Go.RowKit Go.Shelf
set_option maxHeartbeats 16000000 in
theorem cyc_c (ua : Value) (n : Nat) (A : MF) (hn1 : 1 ≤ n) (hn : n ≤ 6) (bA : bdF 1000 n A) (f : Nat) (hf : f < n) : ∀ (k : Nat) (walk : List Nat) (uw : Value) (w : World), walk.length + k = n + 1 → WalkOk n f walk → MatAt w ua n A → Ints w uw (natI walk) →
    Calls Tryz.prog 116 #[ua, uw] w fun e w' => ∃ v, e = .returned v ∧ OutC w.heap.size w' v (cycF n A f k walk) ∧ Ext w w' := by
  intro k
  induction k with
  | zero => intro walk uw w hk hok; have := hok.len; omega
  | succ k ih =>
    intro walk uw w hk hok hA hw
    have HIH := Lib.hid ih
    have HA := Lib.hid hA
    have HWK := Lib.hid hok
    have HIW := Lib.hid hw
    have hwl := hok.len
    have hw1 := hok.1
    obtain ⟨ab, ao, ac, rfl, hmm1, hmm2, hMA⟩ := hA
    have HMA := Lib.hid hMA
    have HBA := Lib.hid bA
    obtain ⟨wb, wo, wcap, rfl, hcell⟩ := nat_cells hw hw1
    have HCL := Lib.hid hcell
    have d0 := hcell 0 (by omega)
    have d1 := hcell (walk.length - 1) (by omega)
    rw [hok.2.2.2, Nat.add_zero] at d0
    have HD0 := Lib.hid d0
    have HACC := Lib.hid (fun i (hi : i ≤ n) => accC_len (A := A) (f := f) (k := k) (walk := walk) hn (show k ≤ 6 by omega) hi)
    have HL := Lib.hid (last_gC hw1)
    obtain ⟨la, hla⟩ : ∃ la, la = gC walk (walk.length - 1) := ⟨_, rfl⟩
    rw [← hla] at d1 HL
    have hlan : la < n := by rw [hla]; exact gC_lt hw1 hok.2.1 _
    obtain ⟨l1, hl1⟩ : ∃ l1, walk.length = l1 + 1 := ⟨walk.length - 1, by omega⟩
    rw [show walk.length - 1 = l1 by omega] at d1
    rw [hl1] at HIW hk hwl ⊢
    have hix : IntKind.i64.wrap (((l1 + 1 : Nat) : Int) - 1) = (l1 : Int) := by rw [IntWalk.i64_in _ (by omega)]; omega
    have HL1 := Lib.hid hl1
    have q0 := cell_lt d0
    obtain ⟨i0, hi0, hz0, hz1, hz2⟩ := info_parts info22
    have HI := Lib.hid hi0
    have HZ0 := Lib.hid hz0
    have HZ1 := Lib.hid hz1
    have HZ2 := Lib.hid hz2
    obtain ⟨j0, hj0, hk0, hk1, hk2⟩ := info_parts info3x23
    have HJ := Lib.hid hj0
    have HK0 := Lib.hid hk0
    have HK1 := Lib.hid hk1
    have HK2 := Lib.hid hk2
    clear hMA hw hcell hok ih bA hla hl1 hw1 hi0 hz0 hz1 hz2 hj0 hk0 hk1 hk2
    go_enter Tryz.func116, Tryz.ntmps116
    go_wp2_with fail
    clear hix d1 d0 q0
    go_loopw [5, 7] (fun ov iv' wr => ∃ i : Nat, iv' = .int .i64 (i : Int) ∧ f ≤ i ∧ i ≤ n ∧ OutC w.heap.size wr ov (accC n A f k walk i) ∧ Ext w wr) (fun _ iv' _ => n - (intOf iv').toNat)
    case atStart => exact ⟨f, rfl, Nat.le_refl _, by omega, by rw [accC_first f (Nat.le_refl _)]; exact OutC.nil _ _, Ext.refl _⟩
    case round =>
      rename World => wr
      obtain ⟨i, rfl, hfi, hi, hO, hE⟩ := hrel
      have HO := Lib.hid hO
      have HE := Lib.hid hE
      obtain ⟨vs, ho, hvs⟩ := hO
      obtain ⟨oa, oc, rfl⟩ := own_slice ho
      have HOW := Lib.hid ho
      have HVS := Lib.hid hvs
      have hwr := hE.size
      have hal := HACC.out i hi
      clear ho hvs hE
      by_cases hin : i < n
      · obtain ⟨u1, cu1, ⟨rb1, ro1, rc1, rfl, _, _, hrow1⟩⟩ := HMA.out i hin
        have d3 := Ext.cell HE.out cu1
        have d4 := Ext.cell HE.out (hrow1 la hlan)
        have d0 := Ext.cell HE.out HD0.out
        have k3 := cell_lt d3
        have k4 := cell_lt d4
        have k0 := cell_lt d0
        have HST := Lib.hid (accC_succ n A f k walk i)
        have hfi' : ¬ i < f := by omega
        cases hAi : A i la with
        | none =>
          rw [hAi] at d4
          rw [show iv none = .int .i64 (-1152921504606846976) from rfl] at d4
          have HEQ := Lib.hid (show accC n A f k walk (i + 1) = accC n A f k walk i from by
            rw [HST.out]
            unfold stepC
            rw [if_pos (.inr (by rw [HL.out]; exact hAi)), List.append_nil])
          clear hAi
          go_wp2_with fail
          exact ⟨⟨i + 1, by simp, by omega, by omega, by rw [HEQ.out]; exact HO.out, HE.out⟩, by simp [intOf]; omega⟩
        | some a =>
          have hab := HBA.out i hin la hlan a hAi
          rw [hAi] at d4
          rw [show iv (some a) = .int .i64 a from rfl] at d4
          have han : (a == -1152921504606846976) = false := beq_eq_false_iff_ne.2 (by omega)
          have HNI := Lib.hid (show ¬ (i < f ∨ A i (walk.getLastD 0) = none) from by
            rintro (h | h)
            · exact hfi' h
            · rw [HL.out, hAi] at h; cases h)
          clear hAi
          have HW3 := Lib.hid (HIW.out.ext HE.out)
          have HNIL := Lib.hid (show wr.ownsRow wr.heap.size 3 1 (.slice none 0 0) 0 [] from ⟨rfl, .inl ⟨rfl, rfl⟩⟩)
          go_upto_region 9 with (at_builtin; (refine wpList_append_ints rfl _ _ rfl wr.heap.size (.slice none 0 0) rfl HNIL.out _ (natI walk) rfl ⟨HW3.out, fun n cap h => by cases h⟩ (by rw [natI_len, HL1.out]; omega) (Nat.le_refl _) ?_; intro v3 w3 hown3 hgrow3; have HO3 := Lib.hid hown3; have HG3 := Lib.hid hgrow3; clear hown3 hgrow3))
          obtain ⟨a3, c3, rfl⟩ := own_slice HO3.out
          have HEw3 := Lib.hid (show Ext wr w3 from own_below HNIL.out HG3.out (Nat.le_refl _))
          have HE3 := Lib.hid (Ext.trans HE.out HEw3.out)
          have hw3 := HEw3.out.size
          have HR3 := Lib.hid (show w3.ownsRow wr.heap.size 3 1 (.slice a3 (natI walk).length c3) walk.length (natsV walk) from by have h := HO3.out; rw [natI_len, ← natsV_ints] at h; rw [natI_len]; exact h)
          have d0' := Ext.cell HEw3.out d0
          clear d3 d4 d0 k3 k4 k0 hab han
          have k0 := cell_lt d0'
          by_cases hif : i = f
          · have hb : ((i : Int) == (f : Int)) = true := by rw [hif]; simp
            have HEQ := Lib.hid (show accC n A f k walk (i + 1) = accC n A f k walk i ++ [walk] from by
              rw [HST.out]
              unfold stepC
              rw [if_neg HNI.out, if_pos hif])
            have HAL := Lib.hid (Ext.alloc (Ext.refl w3) (.cells #[.slice a3 (natI walk).length c3] 23))
            have HOWN := Lib.hid (ownsRow_ext HOW.out (Ext.trans HEw3.out HAL.out))
            have HVN := Lib.hid (fun (x : Nat) (u : Value) (c : List Nat) (h1 : vs[x]? = some u) (h2 : (accC n A f k walk i)[x]? = some c) => ownsRow_ext (HVS.out x u c h1 h2) (Ext.trans HEw3.out HAL.out))
            have HRN := Lib.hid (own_mono (ownsRow_ext HR3.out HAL.out) hwr)
            have hob : ∀ x, Value.ownBlock (.slice oa (accC n A f k walk i).length oc) = some x → w.heap.size ≤ x := fun x hx => own_block HOW.out hx
            clear hif
            go_wp2_with (at_builtin; (refine wpList_append_own _ rfl _ _ 22 rfl w.heap.size 23 i0 (.slice none 0 0) 1 24 Tryz.underlying22 HI.out HZ0.out HZ1.out HZ2.out rfl (by decide) _ _ _ rfl HOWN.out ⟨w3.heap.size, 0, none⟩ 1 1 [.slice a3 (natI walk).length c3] rfl rfl (fun j u h => cell_one_new w3 _ 23 j u h) (by simp [Value.oneCell']) (by unfold maxLen; omega) (by omega) (by simp; omega) ?_; intro v' w' hown' hgrow hnil; have HO10 := Lib.hid hown'; have HG10 := Lib.hid hgrow; clear hown' hgrow hnil))
            refine ⟨⟨i + 1, by simp, by omega, by omega, ?_, Below.grown (Ext.trans HE3.out HAL.out) HG10.out (by simp; omega) (fun x e => hob x e)⟩, by simp [intOf]; omega⟩
            rw [HEQ.out]
            refine OutC.push HOWN.out HVN.out (us := [.slice a3 (natI walk).length c3]) (M := [walk]) rfl (fun x u c h1 h2 => ?_) HO10.out HG10.out
            match x, h1, h2 with
            | 0, h1, h2 =>
              injection h1 with h1
              injection h2 with h2
              subst h1
              subst h2
              exact HRN.out
          · have hb : ((i : Int) == (f : Int)) = false := beq_eq_false_iff_ne.2 (by omega)
            have HW33 := Lib.hid (HW3.out.ext HEw3.out)
            have HIF := Lib.hid hif
            clear hif
            go_wp2_with fail
            refine (has_c _ (natI walk) (i : Int) w3 HW33.out (by rw [natI_len, HL1.out]; omega)).mono ?_
            rintro e w4 ⟨rfl, hE⟩
            have HE34 := Lib.hid hE
            have HE4 := Lib.hid (Ext.trans HEw3.out hE)
            have hw4 := hE.size
            clear hE d0' k0
            by_cases hmem : i ∈ walk
            · rw [decide_eq_true (natI_mem.2 hmem)]
              have HEQ := Lib.hid (show accC n A f k walk (i + 1) = accC n A f k walk i from by
                rw [HST.out]
                unfold stepC
                rw [if_neg HNI.out, if_neg HIF.out, if_pos hmem, List.append_nil])
              clear hmem
              go_wp2_with fail
              exact ⟨⟨i + 1, by simp, by omega, by omega, by rw [HEQ.out]; exact HO.out.ext HE4.out, Ext.trans HE.out HE4.out⟩, by simp [intOf]; omega⟩
            · rw [decide_eq_false (fun h => hmem (natI_mem.1 h))]
              have HEQ := Lib.hid (show accC n A f k walk (i + 1) = accC n A f k walk i ++ cycF n A f k (walk ++ [i]) from by
                rw [HST.out]
                unfold stepC
                rw [if_neg HNI.out, if_neg HIF.out, if_neg hmem])
              have HPUSH := Lib.hid (HWK.out.push hin hmem)
              have HAL := Lib.hid (Ext.alloc (Ext.refl w4) (.cells #[.int .i64 (i : Int)] 3))
              have HOWN := Lib.hid (show (w4.alloc (.cells #[.int .i64 (i : Int)] 3)).ownsRow wr.heap.size 3 1 (.slice a3 (natI walk).length c3) (natI walk).length (natsV walk) from by have h := ownsRow_ext HR3.out (Ext.trans HE34.out HAL.out); rw [natI_len] at h ⊢; exact h)
              have HNL := Lib.hid (show (natI walk).length = l1 + 1 from by rw [natI_len]; exact HL1.out)
              clear hmem
              go_wp2_with (at_builtin; (refine wpList_append_own _ rfl _ _ 23 rfl wr.heap.size 3 j0 (.int .i64 0) 1 8 Tryz.underlying23 HJ.out HK0.out HK1.out HK2.out rfl (by decide) _ _ _ rfl HOWN.out ⟨w4.heap.size, 0, none⟩ 1 1 [.int .i64 (i : Int)] rfl rfl (fun j u h => cell_one_new w4 _ 3 j u h) (by simp [Value.oneCell']) (by have := HNL.out; unfold maxLen; omega) (by have := HNL.out; omega) (by simp; omega) ?_; intro v5 w5 hown5 hgrow5 hnil5; have HO5 := Lib.hid hown5; have HG5 := Lib.hid hgrow5; clear hown5 hgrow5 hnil5))
              have HE5 := Lib.hid (show Ext wr w5 from Below.trans (Ext.trans HE4.out HAL.out) (own_below HOWN.out HG5.out (by simp; omega)))
              have HI5 := Lib.hid (show Ints w5 v5 (natI (walk ++ [i])) from nats_ints (base := wr.heap.size) (by
                have h := HO5.out
                rw [natI_len] at h
                rw [List.length_append, List.length_singleton, show natsV (walk ++ [i]) = natsV walk ++ [.int .i64 (i : Int)] from by simp [natsV]]
                exact h) (by rw [List.length_append, List.length_singleton, HL1.out]; omega))
              refine (HIH.out (walk ++ [i]) v5 w5 (by rw [List.length_append, List.length_singleton, HL1.out]; omega) HPUSH.out (HA.out.ext (Ext.trans HE.out HE5.out)) HI5.out).mono ?_
              rintro e w6 ⟨v6, rfl, hO6, hE⟩
              have HE6 := Lib.hid (Ext.trans HE5.out hE)
              have hw5 := HE5.out.size
              have hw6 := hE.size
              obtain ⟨us, h61, h62⟩ := hO6
              have hcl := cycF_len (A := A) (f := f) hn k (walk ++ [i])
              have hc6 : 6 ^ k ≤ 6 ^ 6 := Nat.pow_le_pow_right (by omega) (by omega)
              rw [show (6 : Nat) ^ 6 = 46656 by decide] at hc6
              have HU1 := Lib.hid h61
              have HU2 := Lib.hid h62
              have HOW6 := Lib.hid (ownsRow_ext HOW.out HE6.out)
              have HV6 := Lib.hid (fun (x : Nat) (u : Value) (c : List Nat) (h1 : vs[x]? = some u) (h2 : (accC n A f k walk i)[x]? = some c) => ownsRow_ext (HVS.out x u c h1 h2) HE6.out)
              have hob : ∀ x, Value.ownBlock (.slice oa (accC n A f k walk i).length oc) = some x → w.heap.size ≤ x := fun x hx => own_block HOW.out hx
              have HUM := Lib.hid (fun (x : Nat) (u : Value) (c : List Nat) (h1 : us[x]? = some u) (h2 : (cycF n A f k (walk ++ [i]))[x]? = some c) => own_mono (HU2.out x u c h1 h2) (show w.heap.size ≤ w5.heap.size by omega))
              have hul : us.length = (cycF n A f k (walk ++ [i])).length := by have := h61.1; omega
              clear hE
              rcases h61.2 with ⟨hv, hn0⟩ | ⟨g, cap, cu, hv, hg, hc, hnc, hmx, hsz, htk⟩
              · subst hv
                have hcy : cycF n A f k (walk ++ [i]) = [] := List.length_eq_zero_iff.1 hn0
                have HEQ0 := Lib.hid (show accC n A f k walk (i + 1) = accC n A f k walk i from by rw [HEQ.out, hcy, List.append_nil])
                clear h61 h62 hcl hc6 hcy hn0 hul
                go_wp2_with (at_builtin; (refine wpList_append_own_none rfl _ _ 22 rfl w.heap.size 23 i0 1 Tryz.underlying22 HI.out _ _ _ rfl HOW6.out rfl ?_))
                exact ⟨⟨i + 1, by simp, by omega, by omega, by rw [HEQ0.out]; exact HO.out.ext HE6.out, Ext.trans HE.out HE6.out⟩, by simp [intOf]; omega⟩
              · subst hv
                have HCE := Lib.hid (show ∀ (x : Nat) (u : Value), us[x]? = some u → w6.cell? ((⟨g, 0, none⟩ : Addr).add x) = some u from fun x u hx => by
                  have hi := lt_len hx
                  rw [← htk] at hx
                  rw [List.getElem?_take_of_lt (by omega), Array.getElem?_toList] at hx
                  rw [addr_add, Nat.zero_add]
                  simp [World.cell?, hc, hx])
                have HONE := Lib.hid (show ∀ u ∈ us, u.oneCell' = true from fun u hu => by
                  obtain ⟨x, hx, e⟩ := List.getElem_of_mem hu
                  have h1 : us[x]? = some u := by rw [List.getElem?_eq_getElem hx, e]
                  obtain ⟨c, hcx⟩ := getElem?_len (show x < (cycF n A f k (walk ++ [i])).length by omega)
                  obtain ⟨a, cc, rfl⟩ := own_slice (HU2.out x u c h1 hcx)
                  simp [Value.oneCell'])
                have HUL := Lib.hid hul
                clear h61 h62 hc hnc hsz htk hmx hul
                generalize hM : cycF n A f k (walk ++ [i]) = M at *
                go_wp2_with (at_builtin; (refine wpList_append_own _ rfl _ _ 22 rfl w.heap.size 23 i0 (.slice none 0 0) 1 24 Tryz.underlying22 HI.out HZ0.out HZ1.out HZ2.out rfl (by decide) _ _ _ rfl HOW6.out ⟨g, 0, none⟩ M.length cap us rfl (by rw [HUL.out]; omega) HCE.out HONE.out (by unfold maxLen; omega) (by omega) (by omega) ?_; intro v' w' hown' hgrow hnil; have HO10 := Lib.hid hown'; have HG10 := Lib.hid hgrow; clear hown' hgrow hnil))
                refine ⟨⟨i + 1, by simp, by omega, by omega, ?_, Below.grown (Ext.trans HE.out HE6.out) HG10.out (by omega) (fun x e => hob x e)⟩, by simp [intOf]; omega⟩
                rw [HEQ.out]
                exact OutC.push HOW6.out HV6.out HUL.out HUM.out HO10.out HG10.out
      · obtain rfl : n = i := by omega
        have HFIN := Lib.hid (show OutC w.heap.size wr (.slice oa (accC n A f k walk n).length oc) (cycF n A f (k + 1) walk) from HO.out)
        go_wp2_with fail
        go_ret
        exact ⟨_, rfl, HFIN.out, HE.out⟩
end Go.Proofs.YtbcngojiikdigaaGreat

namespace Go.Proofs.YtbcngojiikdigaaGreat
set_option maxRecDepth 100000
open Go.RowKit Go.Shelf
/-- all cycles from vertices below i on -/
def allC (n : Nat) (A : MF) (i : Nat) : List (List Nat) := (List.range i).flatMap fun i => cycF n A i n [i]
theorem allC_succ (n : Nat) (A : MF) (i : Nat) : allC n A (i + 1) = allC n A i ++ cycF n A i n [i] := by
  unfold allC
  rw [List.range_succ, List.flatMap_append]
  simp
theorem allC_len {n : Nat} {A : MF} (hn : n ≤ 6) {i : Nat} (hi : i ≤ n) : (allC n A i).length ≤ 279936 := by
  have h : ∀ m, (allC n A m).length ≤ m * 46656 := by
    intro m
    induction m with
    | zero => simp [allC]
    | succ m ih =>
      rw [allC_succ, List.length_append, Nat.add_mul, Nat.one_mul]
      have h3 := cycF_len (A := A) (f := m) hn n [m]
      have h4 : 6 ^ n ≤ 6 ^ 6 := Nat.pow_le_pow_right (by omega) hn
      rw [show (6 : Nat) ^ 6 = 46656 by decide] at h4
      omega
  have := h i
  have : i * 46656 ≤ 6 * 46656 := Nat.mul_le_mul_right _ (by omega)
  omega
set_option maxHeartbeats 16000000 in
theorem Cycles_c (ua : Value) (n : Nat) (A : MF) (w : World) (hn1 : 1 ≤ n) (hn : n ≤ 6) (hA : MatAt w ua n A) (bA : bdF 1000 n A) :
    Calls Tryz.prog 90 #[ua] w fun e w' => ∃ v, e = .returned v ∧ OutC w.heap.size w' v (cycL n A) ∧ Ext w w' := by
  have HA := Lib.hid hA
  have HBA := Lib.hid bA
  have HACC := Lib.hid (fun i (hi : i ≤ n) => allC_len (A := A) hn hi)
  obtain ⟨a1, c1, rfl⟩ := hA.len
  obtain ⟨i0, hi0, hz0, hz1, hz2⟩ := info_parts info22
  have HI := Lib.hid hi0
  have HZ0 := Lib.hid hz0
  have HZ1 := Lib.hid hz1
  have HZ2 := Lib.hid hz2
  clear hA bA hi0 hz0 hz1 hz2
  go_enter Tryz.func90, Tryz.ntmps90
  go_wp2_with fail
  go_loopw [3, 4] (fun ov iv' wr => ∃ i : Nat, iv' = .int .i64 (i : Int) ∧ i ≤ n ∧ OutC w.heap.size wr ov (allC n A i) ∧ Ext w wr) (fun _ iv' _ => n - (intOf iv').toNat)
  case atStart => exact ⟨0, rfl, Nat.zero_le _, OutC.nil _ _, Ext.refl _⟩
  case round =>
    rename World => wr
    obtain ⟨i, rfl, hi, hO, hE⟩ := hrel
    have HO := Lib.hid hO
    have HE := Lib.hid hE
    obtain ⟨vs, ho, hvs⟩ := hO
    obtain ⟨oa, oc, rfl⟩ := own_slice ho
    have HOW := Lib.hid ho
    have HVS := Lib.hid hvs
    have hwr := hE.size
    have hal := HACC.out i hi
    clear ho hvs hE
    by_cases hin : i < n
    · have HEQ := Lib.hid (allC_succ n A i)
      have HAL := Lib.hid (Ext.alloc (Ext.refl wr) (.cells #[.int .i64 (i : Int)] 3))
      have HI1 := Lib.hid (show Ints (wr.alloc (.cells #[.int .i64 (i : Int)] 3)) (.slice (some ⟨wr.heap.size, 0, none⟩) 1 1) (natI [i]) from ⟨_, _, rfl, Nat.le_refl _, by omega, VRow.row (vrow_alloc wr [.int .i64 (i : Int)] 3)⟩)
      have HWK := Lib.hid (show WalkOk n i [i] from ⟨by simp, (fun x hx => by rw [List.mem_singleton.1 hx]; exact hin), (fun a b h1 h2 => by simp at h2; omega), rfl⟩)
      go_wp2_with fail
      generalize wr.alloc (.cells #[.int .i64 (i : Int)] 3) = w5 at *
      have hw5 := HAL.out.size
      refine (cyc_c _ n A hn1 hn HBA.out i hin n [i] _ w5 (by simp; omega) HWK.out (HA.out.ext (Ext.trans HE.out HAL.out)) HI1.out).mono ?_
      rintro e w6 ⟨v6, rfl, hO6, hE⟩
      have HE6 := Lib.hid (Ext.trans HAL.out hE)
      have hw6 := hE.size
      obtain ⟨us, h61, h62⟩ := hO6
      have hcl := cycF_len (A := A) (f := i) hn n [i]
      have hc6 : 6 ^ n ≤ 6 ^ 6 := Nat.pow_le_pow_right (by omega) (by omega)
      rw [show (6 : Nat) ^ 6 = 46656 by decide] at hc6
      have HU2 := Lib.hid h62
      have HOW6 := Lib.hid (ownsRow_ext HOW.out HE6.out)
      have HV6 := Lib.hid (fun (x : Nat) (u : Value) (c : List Nat) (h1 : vs[x]? = some u) (h2 : (allC n A i)[x]? = some c) => ownsRow_ext (HVS.out x u c h1 h2) HE6.out)
      have hob : ∀ x, Value.ownBlock (.slice oa (allC n A i).length oc) = some x → w.heap.size ≤ x := fun x hx => own_block HOW.out hx
      have HUM := Lib.hid (fun (x : Nat) (u : Value) (c : List Nat) (h1 : us[x]? = some u) (h2 : (cycF n A i n [i])[x]? = some c) => own_mono (HU2.out x u c h1 h2) (show w.heap.size ≤ w5.heap.size by omega))
      have hul : us.length = (cycF n A i n [i]).length := by have := h61.1; omega
      clear hE
      rcases h61.2 with ⟨hv, hn0⟩ | ⟨g, cap, cu, hv, hg, hc, hnc, hmx, hsz, htk⟩
      · subst hv
        have hcy : cycF n A i n [i] = [] := List.length_eq_zero_iff.1 hn0
        have HEQ0 := Lib.hid (show allC n A (i + 1) = allC n A i from by rw [HEQ.out, hcy, List.append_nil])
        clear h61 h62 hcl hc6 hcy hn0 hul
        go_wp2_with (at_builtin; (refine wpList_append_own_none rfl _ _ 22 rfl w.heap.size 23 i0 1 Tryz.underlying22 HI.out _ _ _ rfl HOW6.out rfl ?_))
        exact ⟨⟨i + 1, by simp, by omega, by rw [HEQ0.out]; exact HO.out.ext HE6.out, Ext.trans HE.out HE6.out⟩, by simp [intOf]; omega⟩
      · subst hv
        have HCE := Lib.hid (show ∀ (x : Nat) (u : Value), us[x]? = some u → w6.cell? ((⟨g, 0, none⟩ : Addr).add x) = some u from fun x u hx => by
          have hi := lt_len hx
          rw [← htk] at hx
          rw [List.getElem?_take_of_lt (by omega), Array.getElem?_toList] at hx
          rw [addr_add, Nat.zero_add]
          simp [World.cell?, hc, hx])
        have HONE := Lib.hid (show ∀ u ∈ us, u.oneCell' = true from fun u hu => by
          obtain ⟨x, hx, e⟩ := List.getElem_of_mem hu
          have h1 : us[x]? = some u := by rw [List.getElem?_eq_getElem hx, e]
          obtain ⟨c, hcx⟩ := getElem?_len (show x < (cycF n A i n [i]).length by omega)
          obtain ⟨a, cc, rfl⟩ := own_slice (HU2.out x u c h1 hcx)
          simp [Value.oneCell'])
        have HUL := Lib.hid hul
        clear h61 h62 hc hnc hsz htk hmx hul
        generalize hM : cycF n A i n [i] = M at *
        go_wp2_with (at_builtin; (refine wpList_append_own _ rfl _ _ 22 rfl w.heap.size 23 i0 (.slice none 0 0) 1 24 Tryz.underlying22 HI.out HZ0.out HZ1.out HZ2.out rfl (by decide) _ _ _ rfl HOW6.out ⟨g, 0, none⟩ M.length cap us rfl (by rw [HUL.out]; omega) HCE.out HONE.out (by unfold maxLen; omega) (by omega) (by omega) ?_; intro v' w' hown' hgrow hnil; have HO10 := Lib.hid hown'; have HG10 := Lib.hid hgrow; clear hown' hgrow hnil))
        refine ⟨⟨i + 1, by simp, by omega, ?_, Below.grown (Ext.trans HE.out HE6.out) HG10.out (by omega) (fun x e => hob x e)⟩, by simp [intOf]; omega⟩
        rw [HEQ.out]
        exact OutC.push HOW6.out HV6.out HUL.out HUM.out HO10.out HG10.out
    · obtain rfl : n = i := by omega
      have HFIN := Lib.hid (show OutC w.heap.size wr (.slice oa (allC n A n).length oc) (cycL n A) from HO.out)
      go_wp2_with fail
      go_ret
      exact ⟨_, rfl, HFIN.out, HE.out⟩
theorem lex_step {x y : Nat} {xs ys : List Nat} : lexB (x :: xs) (y :: ys) = if x = y then lexB xs ys else decide (x < y) := rfl
theorem lex_take : ∀ (k : Nat) (a b : List Nat), a.take k = b.take k → k ≤ a.length → k ≤ b.length → lexB a b = lexB (a.drop k) (b.drop k) := by
  intro k
  induction k with
  | zero => intro a b _ _ _; rfl
  | succ k ih =>
    intro a b h ha hb
    cases a with
    | nil => simp at ha
    | cons x xs =>
      cases b with
      | nil => simp at hb
      | cons y ys =>
        simp only [List.take_succ_cons, List.cons.injEq] at h
        rw [lex_step, if_pos h.1]
        exact ih xs ys h.2 (by simpa using ha) (by simpa using hb)
set_option maxHeartbeats 4000000 in
theorem less_c (u v : Value) (a b : List Nat) (w : World) (hu : Ints w u (natI a)) (hv : Ints w v (natI b)) (hl : a.length = b.length) (hm : a.length ≤ 1000) (h1 : 1 ≤ a.length) :
    Calls Tryz.prog 91 #[u, v] w fun e w' => e = .returned (.bool (lexB a b)) ∧ Ext w w' := by
  obtain ⟨ab, ao, ac, rfl, hca⟩ := nat_cells hu h1
  obtain ⟨bb, bo, bc, rfl, hcb⟩ := nat_cells hv (by omega)
  have HA := Lib.hid hca
  have HB := Lib.hid hcb
  obtain ⟨R, hR⟩ : ∃ R : Bool, R = lexB a b := ⟨_, rfl⟩
  rw [← hR]
  have HR := Lib.hid hR
  have HL := Lib.hid hl
  have hg : ∀ (c : List Nat) (k : Nat) (h : k < c.length), gC c k = c[k] := fun c k h => by
    unfold gC
    rw [List.getD_eq_getElem?_getD, List.getElem?_eq_getElem h]
    rfl
  have HG := Lib.hid hg
  clear hca hcb hu hv hR hg hl
  go_enter Tryz.func91, Tryz.ntmps91
  go_wp2_with fail
  go_loopw [5] (fun iv' wr => ∃ i : Nat, iv' = .int .i64 (i : Int) ∧ i ≤ a.length ∧ a.take i = b.take i ∧ Ext w wr) (fun iv' _ => a.length - (intOf iv').toNat)
  case atStart => exact ⟨0, rfl, Nat.zero_le _, rfl, Ext.refl _⟩
  case round =>
    rename World => wr
    obtain ⟨i, rfl, hi, ht, hE⟩ := hrel
    have HE := Lib.hid hE
    have HT := Lib.hid ht
    clear hE ht
    by_cases hil : i < a.length
    · have hil2 : i < b.length := by have := HL.out; omega
      have d1 := Ext.cell HE.out (HA.out i hil)
      have d2 := Ext.cell HE.out (HB.out i hil2)
      have k1 := cell_lt d1
      have k2 := cell_lt d2
      have HX := Lib.hid (HG.out a i hil)
      have HY := Lib.hid (HG.out b i hil2)
      have HLT := Lib.hid (lex_take i a b HT.out hi (by have := HL.out; omega))
      have hi1 : (i : Int) < (a.length : Int) := by omega
      have hi2 : (i : Int) < (b.length : Int) := by omega
      by_cases he : gC a i = gC b i
      · rw [he] at d1
        have hb : ((gC b i : Int) != (gC b i : Int)) = false := by simp
        have HN := Lib.hid (show a.take (i + 1) = b.take (i + 1) from by
          rw [List.take_add_one, List.take_add_one, List.getElem?_eq_getElem hil, List.getElem?_eq_getElem hil2, HT.out, ← HX.out, ← HY.out, he])
        clear he
        generalize (gC b i : Int) = z at *
        go_wp2_with fail
        go_quiet (fail)
        go_wp2_with fail
        exact ⟨⟨i + 1, by simp, by omega, HN.out, ext_drewN HE.out _⟩, by simp [intOf]; omega⟩
      · have HRR := Lib.hid (show R = decide ((gC a i : Int) < (gC b i : Int)) from by
          rw [HR.out, HLT.out, List.drop_eq_getElem_cons hil, List.drop_eq_getElem_cons hil2, lex_step, ← HX.out, ← HY.out, if_neg he]
          congr 1
          exact propext ⟨fun h => by omega, fun h => by omega⟩)
        have hb : ((gC a i : Int) != (gC b i : Int)) = true := bne_iff_ne.2 (by omega)
        clear he
        generalize (gC a i : Int) = y at *
        generalize (gC b i : Int) = z at *
        go_wp2_with fail
        go_quiet (fail)
        go_wp2_with fail
        go_quiet (fail)
        go_wp2_with fail
        go_ret
        exact ⟨by rw [HRR.out]; rfl, ext_drewN (ext_drewN HE.out _) _⟩
    · obtain rfl : i = a.length := by omega
      have HRF := Lib.hid (show R = false from by
        have h := HT.out
        rw [List.take_length, HL.out, List.take_length] at h
        rw [HR.out, h]
        exact lex_irr b)
      have hnl : ¬ (a.length : Int) < (b.length : Int) := by have := HL.out; omega
      have hnl2 : ¬ a.length < b.length := by have := HL.out; omega
      go_wp2_with fail
      go_ret
      exact ⟨by rw [HRF.out]; rfl, HE.out⟩
end Go.Proofs.YtbcngojiikdigaaGreat

namespace Go.Proofs.YtbcngojiikdigaaGreat
set_option maxRecDepth 100000
open Go.RowKit Go.Shelf
/-- the better of the best so far and one more -/
def bestS (A : MF) (o : Option (List Nat)) (c : List Nat) : Option (List Nat) := match o with
  | none => some c
  | some d => some (if betB A c d then c else d)
theorem bestK_push (A : MF) : ∀ (l : List (List Nat)) (o : Option (List Nat)) (c : List Nat), bestK A o (l ++ [c]) = bestS A (bestK A o l) c := by
  intro l
  induction l with
  | nil => intro o c; cases o <;> rfl
  | cons d l ih => intro o c; cases o <;> exact ih _ _
/-- what best holds of the best so far -/
def BestV (w : World) (v : Value) (o : Option (List Nat)) : Prop := match o with
  | none => v = .slice none 0 0
  | some c => Ints w v (natI c)
theorem BestV.ext {w w' : World} {v : Value} {o : Option (List Nat)} (h : BestV w v o) (he : Ext w w') : BestV w' v o := by
  cases o with
  | none => exact h
  | some c => exact Ints.ext h he
theorem best_mem {n : Nat} {A : MF} : ∀ (l : List (List Nat)) (o : Option (List Nat)), (∀ c ∈ l, IsCyc n A c) → (∀ c, o = some c → IsCyc n A c) → ∀ c, bestK A o l = some c → IsCyc n A c := by
  intro l
  induction l with
  | nil => intro o _ h c hc; cases o <;> exact h c hc
  | cons d l ih =>
    intro o h1 h2 c hc
    cases o with
    | none => exact ih (some d) (fun x hx => h1 x (by simp [hx])) (fun x hx => by injection hx with hx; subst hx; exact h1 _ (by simp)) c hc
    | some y =>
      refine ih _ (fun x hx => h1 x (by simp [hx])) (fun x hx => ?_) c hc
      injection hx with hx
      subst hx
      split
      · exact h1 _ (by simp)
      · exact h2 y rfl
theorem IsCyc.len {n : Nat} {A : MF} {c : List Nat} (h : IsCyc n A c) : c.length ≤ n := once_len h.1 h.2.1 h.2.2.1
theorem IsCyc.wt {n : Nat} {A : MF} {c : List Nat} (h : IsCyc n A c) (hn : n ≤ 6) (bA : bdF 1000 n A) : ∃ s, preL A (gC c) c.length = some s ∧ -6000 ≤ s ∧ s ≤ 6000 := by
  cases hs : preL A (gC c) c.length with
  | none => exact absurd hs h.2.2.2.2
  | some s =>
    have := preL_bd bA (fun i => gC_lt h.1 h.2.1 i) c.length s hs
    have := h.len
    exact ⟨s, rfl, by omega, by omega⟩
theorem mul_bd6 {s m : Int} (hs : -6000 ≤ s ∧ s ≤ 6000) (hm : 0 ≤ m ∧ m ≤ 6) : -36000 ≤ s * m ∧ s * m ≤ 36000 := by
  have h1 := Int.mul_le_mul_of_nonneg_right hs.1 hm.1
  have h2 := Int.mul_le_mul_of_nonneg_right hs.2 hm.1
  omega
theorem nil_eq1 (w : World) : Sem.run Tryz.prog (binOp .eql 23 (.slice none 0 0) (.slice none 0 0)) w = .ok (.bool true) w := by kernel_rfl
theorem nil_eq2 (a : Addr) (n c : Nat) (w : World) : Sem.run Tryz.prog (binOp .eql 23 (.slice (some a) n c) (.slice none 0 0)) w = .ok (.bool false) w := by kernel_rfl
set_option maxHeartbeats 16000000 in
theorem best_c (ua : Value) (n : Nat) (A : MF) (w : World) (hn1 : 1 ≤ n) (hn : n ≤ 6) (hA : MatAt w ua n A) (bA : bdF 1000 n A) :
    Calls Tryz.prog 58 #[ua] w fun e w' => ∃ v, e = .returned v ∧ BestV w' v (bestK A none (cycL n A)) ∧ Ext w w' := by
  have HA := Lib.hid hA
  have HBA := Lib.hid bA
  obtain ⟨a1, c1, rfl⟩ := hA.len
  have HCY := Lib.hid (Cycles_c _ n A w hn1 hn hA bA)
  have HLL := Lib.hid (allC_len (A := A) hn (Nat.le_refl n))
  clear hA bA
  go_enter Tryz.func58, Tryz.ntmps58
  go_wp2_with fail
  refine HCY.out.mono ?_
  rintro e w1 ⟨v1, rfl, hO, hE⟩
  have HE1 := Lib.hid hE
  obtain ⟨vs, ho, hvs⟩ := hO
  obtain ⟨la, cap, rfl, _, _, hrow, hvl⟩ := own_vals ho
  have HVS := Lib.hid hvs
  have HROW := Lib.hid hrow
  have HMEM := Lib.hid (show ∀ c ∈ cycL n A, IsCyc n A c from fun c hc => cycL_mem.1 hc)
  have hll : (cycL n A).length ≤ 279936 := HLL.out
  have HVL := Lib.hid hvl
  obtain ⟨L, hL⟩ : ∃ L, L = cycL n A := ⟨_, rfl⟩
  rw [← hL] at HVS HMEM hll HVL
  clear ho hvs hrow hvl hE HLL HCY
  rw [← hL]
  have HLQ := Lib.hid hL
  clear hL
  go_wp2_with fail
  go_loopw [3, 5] (fun ov iv' wr => ∃ i : Nat, iv' = .int .i64 (i : Int) ∧ i ≤ L.length ∧ BestV wr ov (bestK A none (L.take i)) ∧ Ext w1 wr) (fun _ iv' _ => L.length - (intOf iv').toNat)
  case atStart => exact ⟨0, rfl, Nat.zero_le _, rfl, Ext.refl _⟩
  case round =>
    rename World => wr
    obtain ⟨i, rfl, hi, hB, hE⟩ := hrel
    have HE := Lib.hid hE
    have HB := Lib.hid hB
    clear hE hB
    by_cases hil : i < L.length
    · obtain ⟨c, hc⟩ := getElem?_len hil
      obtain ⟨u, hu⟩ := getElem?_len (show i < vs.length by have := HVL.out; omega)
      have hcy := HMEM.out c (List.mem_of_getElem? hc)
      obtain ⟨s1, hs1, hs1b⟩ := hcy.wt hn HBA.out
      have hcl := hcy.len
      have hc1 := hcy.1
      have HI := Lib.hid (nats_ints (HVS.out i u c hu hc) (by omega))
      have HIr := Lib.hid (HI.out.ext HE.out)
      obtain ⟨cb, co, cc, rfl, _⟩ := nat_cells HI.out hc1
      obtain ⟨d1⟩ : Nonempty (∃ b o, la = some ⟨b, o, none⟩ ∧ w1.cell? ⟨b, o + i, none⟩ = some (.slice (some ⟨cb, co, none⟩) c.length cc)) := by
        rcases HROW.out with h | ⟨b, o, ha, h⟩
        · rw [h] at hu; simp at hu
        · exact ⟨b, o, ha, h i _ hu⟩
      obtain ⟨lb, lo, rfl, d1⟩ := d1
      replace d1 := Ext.cell HE.out d1
      have k1 := cell_lt d1
      have HSTEP := Lib.hid (show bestK A none (L.take (i + 1)) = bestS A (bestK A none (L.take i)) c from by
        rw [List.take_add_one, hc]
        exact bestK_push A _ none c)
      have HW1 := Lib.hid (fun W (h : Ext wr W) => weight_c _ _ n A c s1 W (HA.out.ext (Ext.trans HE1.out (Ext.trans HE.out h))) hn (HIr.out.ext h) hc1 (by omega) hcy.2.1 HBA.out hs1)
      have HOK := Lib.hid (best_mem (L.take i) none (fun x hx => HMEM.out x (List.mem_of_mem_take hx)) (fun x hx => by cases hx))
      have HS1 := Lib.hid hs1
      clear hc hu hcy hs1
      have hB := HB.out
      cases hbk : bestK A none (L.take i) with
      | none =>
        rw [hbk] at hB
        have hov : _ = Value.slice none 0 0 := hB
        subst hov
        rw [hbk] at HSTEP
        clear hB hbk
        have hnil := nil_eq1 wr
        go_wp2_with fail
        exact ⟨⟨i + 1, by simp, by omega, by rw [HSTEP.out]; exact HIr.out, HE.out⟩, by simp [intOf]; omega⟩
      | some d =>
        rw [hbk] at hB
        have hdc := HOK.out d hbk
        obtain ⟨s2, hs2, hs2b⟩ := hdc.wt hn HBA.out
        have hdl := hdc.len
        have hd1 := hdc.1
        have HID := Lib.hid (show Ints wr _ (natI d) from hB)
        obtain ⟨db, do', dcap, rfl, _⟩ := nat_cells HID.out hd1
        rw [hbk] at HSTEP
        have HW2 := Lib.hid (fun W (h : Ext wr W) => weight_c _ _ n A d s2 W (HA.out.ext (Ext.trans HE1.out (Ext.trans HE.out h))) hn (HID.out.ext h) hd1 (by omega) hdc.2.1 HBA.out hs2)
        have hxb := mul_bd6 (s := s1) (m := (d.length : Int)) hs1b (by omega)
        have hyb := mul_bd6 (s := s2) (m := (c.length : Int)) hs2b (by omega)
        obtain ⟨X, hX⟩ : ∃ X, X = s1 * (d.length : Int) := ⟨_, rfl⟩
        obtain ⟨Y, hY⟩ : ∃ Y, Y = s2 * (c.length : Int) := ⟨_, rfl⟩
        have HBET := Lib.hid (show betB A c d = (decide (Y < X) || (decide (X = Y) && (decide (c.length < d.length) || (decide (c.length = d.length) && lexB c d)))) from by
          unfold betB
          simp only
          rw [HS1.out, hs2, hX, hY]
          rfl)
        rw [← hX] at hxb
        rw [← hY] at hyb
        have hwx : IntKind.i64.wrap (s1 * (d.length : Int)) = X := by rw [← hX]; exact IntWalk.i64_in _ (by omega)
        have hwy : IntKind.i64.wrap (s2 * (c.length : Int)) = Y := by rw [← hY]; exact IntWalk.i64_in _ (by omega)
        clear hB hbk hdc hs2 hX hY
        have hnil := nil_eq2 ⟨db, do', none⟩ d.length dcap wr
        go_wp2_with fail
        clear hnil
        refine (HW1.out wr (Ext.refl _)).mono ?_
        rintro e w2 ⟨rfl, hE⟩
        have HE2 := Lib.hid hE
        clear hE
        go_wp2_with fail
        refine (HW2.out w2 HE2.out).mono ?_
        rintro e w3 ⟨rfl, hE⟩
        have HE3 := Lib.hid (Ext.trans HE2.out hE)
        clear hE d1 k1
        have HIc := Lib.hid (HIr.out.ext HE3.out)
        have HId := Lib.hid (HID.out.ext HE3.out)
        have HEZ := Lib.hid (Ext.trans HE.out HE3.out)
        have HLESS := Lib.hid (fun (h : c.length = d.length) => less_c _ _ c d w3 HIc.out HId.out h (by omega) hc1)
        have HT := Lib.hid (fun (h : betB A c d = true) => (show BestV w3 (.slice (some ⟨cb, co, none⟩) c.length cc) (bestK A none (L.take (i + 1))) from by rw [HSTEP.out]; unfold bestS; simp only; rw [if_pos h]; exact HIc.out))
        have HF := Lib.hid (fun (h : betB A c d = false) => (show BestV w3 (.slice (some ⟨db, do', none⟩) d.length dcap) (bestK A none (L.take (i + 1))) from by rw [HSTEP.out]; unfold bestS; simp only; rw [if_neg (by rw [h]; simp)]; exact HId.out))
        rcases Int.lt_trichotomy Y X with hXY | hXY | hXY
        · have HV := Lib.hid (HT.out (by rw [HBET.out, decide_eq_true hXY]; rfl))
          go_wp2_with fail
          exact ⟨⟨i + 1, by simp, by omega, HV.out, HEZ.out⟩, by simp [intOf]; omega⟩
        · subst hXY
          have hyy : (Y == Y) = true := by simp
          have hyn : ¬ Y < Y := by omega
          rcases Nat.lt_trichotomy c.length d.length with hl | hl | hl
          · have HV := Lib.hid (HT.out (by rw [HBET.out, decide_eq_true hl]; simp))
            have hli : (c.length : Int) < (d.length : Int) := by omega
            go_wp2_with fail
            exact ⟨⟨i + 1, by simp, by omega, HV.out, HEZ.out⟩, by simp [intOf]; omega⟩
          · have HLE := Lib.hid (HLESS.out hl)
            have HBE := Lib.hid (show betB A c d = lexB c d from by rw [HBET.out, decide_eq_true hl, decide_eq_false hyn, decide_eq_true rfl, decide_eq_false (by omega)]; simp)
            have hli : ¬ (c.length : Int) < (d.length : Int) := by omega
            have hli2 : ¬ c.length < d.length := by omega
            have hle : ((c.length : Int) == (d.length : Int)) = true := by rw [hl]; simp
            clear hl
            go_wp2_with fail
            refine HLE.out.mono ?_
            rintro e w4 ⟨rfl, hE⟩
            have HE4 := Lib.hid hE
            clear hE
            cases hlx : lexB c d with
            | true =>
              have HV := Lib.hid ((HT.out (by rw [HBE.out, hlx])).ext HE4.out)
              clear hlx
              go_wp2_with fail
              exact ⟨⟨i + 1, by simp, by omega, HV.out, Ext.trans HEZ.out HE4.out⟩, by simp [intOf]; omega⟩
            | false =>
              have HV := Lib.hid ((HF.out (by rw [HBE.out, hlx])).ext HE4.out)
              clear hlx
              go_wp2_with fail
              exact ⟨⟨i + 1, by simp, by omega, HV.out, Ext.trans HEZ.out HE4.out⟩, by simp [intOf]; omega⟩
          · have HV := Lib.hid (HF.out (by rw [HBET.out, decide_eq_false hyn, decide_eq_false (show ¬ c.length < d.length by omega), decide_eq_false (show ¬ c.length = d.length by omega)]; simp))
            have hli : ¬ (c.length : Int) < (d.length : Int) := by omega
            have hli2 : ¬ c.length < d.length := by omega
            have hle : ((c.length : Int) == (d.length : Int)) = false := beq_eq_false_iff_ne.2 (by omega)
            go_wp2_with fail
            exact ⟨⟨i + 1, by simp, by omega, HV.out, HEZ.out⟩, by simp [intOf]; omega⟩
        · have HV := Lib.hid (HF.out (by rw [HBET.out, decide_eq_false (show ¬ Y < X by omega), decide_eq_false (show ¬ X = Y by omega)]; rfl))
          have hyx : (X == Y) = false := beq_eq_false_iff_ne.2 (by omega)
          have hyn : ¬ Y < X := by omega
          go_wp2_with fail
          exact ⟨⟨i + 1, by simp, by omega, HV.out, HEZ.out⟩, by simp [intOf]; omega⟩
    · obtain rfl : i = L.length := by omega
      have HFIN := Lib.hid (show BestV wr _ (bestK A none L) from by have h := HB.out; rw [List.take_length] at h; exact h)
      go_wp2_with fail
      go_ret
      exact ⟨_, rfl, by rw [← HLQ.out]; exact HFIN.out, Ext.trans HE1.out HE.out⟩
end Go.Proofs.YtbcngojiikdigaaGreat

namespace Go.Proofs.YtbcngojiikdigaaGreat
set_option maxRecDepth 100000
open Go.RowKit Go.Shelf
/-- the reference's best cycle: its mean is the speed -/
theorem best_some {n : Nat} {A : MF} {p q : Int} (hs : spF n A = some (p, q)) : ∃ c s, bestK A none (cycL n A) = some c ∧ IsCyc n A c ∧ preL A (gC c) c.length = some s ∧ s * q = p * c.length := by
  obtain ⟨m, f, hL⟩ := least_ex hs
  obtain ⟨cl, cx, cp⟩ := code_ok hL
  have hb := best_code hs hL
  have hc := code_cyc (lv_noPos hs) hL
  rw [preL_lv] at cp
  cases e : preL A (gC (codeC n (lvF p q A) f m)) m with
  | none => rw [e] at cp; cases cp
  | some s0 =>
    rw [e] at cp
    have e2 : q * s0 - p * (m : Int) = 0 := Option.some.inj cp
    exact ⟨_, s0, hb, hc, by rw [cl]; exact e, by rw [cl, Int.mul_comm]; omega⟩
theorem best_no {n : Nat} {A : MF} (hs : spF n A = none) : bestK A none (cycL n A) = none := by rw [sp_cyc hs]; rfl
theorem rpace_results {g : Nat} {W : World} {a b : Int} (h : VRow W g 38 [.int .i64 a, .int .i64 b]) (tmps : Array Value) (h4 : tmps.getD 4 undef = .pointer (some ⟨g, 0, none⟩)) : (results Tryz.f59 tmps).run Tryz.prog W = .ok (.agg #[.int .i64 a, .int .i64 b]) W := by
  have c0 := VRow.cell h (k := 0) rfl
  have c1 := VRow.cell h (k := 1) rfl
  rw [results_cell1 rfl, h4]
  go_simp
set_option maxHeartbeats 4000000 in
theorem pace_c (u v : Value) (n : Nat) (A : MF) (c : List Nat) (s p q : Int) (w : World) (hA : MatAt w u n A) (hn : n ≤ 6) (hc : Ints w v (natI c)) (hcy : IsCyc n A c) (bA : bdF 1000 n A) (hs : preL A (gC c) c.length = some s) (hq : 0 < q) (hg : Int.gcd p q = 1) (he : s * q = p * c.length) :
    Calls Tryz.prog 59 #[u, v] w fun e w' => e = .returned (.agg #[.int .i64 p, .int .i64 q]) ∧ Ext w w' := by
  have hl := hcy.len
  have h1 := hcy.1
  obtain ⟨s', hs', hsb⟩ := hcy.wt hn bA
  rw [hs] at hs'
  obtain rfl := Option.some.inj hs'
  have HW := Lib.hid (fun W (h : Ext w W) => weight_c u v n A c s W (hA.ext h) hn (hc.ext h) h1 (by omega) hcy.2.1 bA hs)
  have HLT := Lib.hid (low_terms (s := s) (m := (c.length : Int)) (by omega) hq hg he)
  have HGC := Lib.hid (fun W => rgcd_c s (c.length : Int) W (by omega) (by omega))
  have hg1 : 1 ≤ (Int.gcd s (c.length : Int) : Int) := by
    have : 0 < Int.gcd s (c.length : Int) := Int.gcd_pos_of_ne_zero_right s (by omega)
    omega
  have hg2 : (Int.gcd s (c.length : Int) : Int) ≤ 6 := by
    have := Int.gcd_le_natAbs_right s (show (c.length : Int) ≠ 0 by omega)
    omega
  obtain ⟨ab, ao, ac, rfl, _⟩ := hA
  obtain ⟨cb, co, cc, rfl, _⟩ := nat_cells hc h1
  clear hs hcy bA hc he hg hs'
  have HE0 := Lib.hid (Ext.alloc (Ext.refl w) (.cells #[.int .i64 0, .int .i64 0] 38))
  have HP0 := Lib.hid (show VRow (w.alloc (.cells #[.int .i64 0, .int .i64 0] 38)) _ _ _ from vrow_alloc w [.int .i64 0, .int .i64 0] 38)
  have hwD : w.heap.size ≤ w.heap.size := Nat.le_refl _
  generalize (Int.gcd s (c.length : Int) : Int) = g at *
  go_enter Tryz.func59, Tryz.ntmps59
  go_wp2_with fail
  generalize w.alloc (.cells #[.int .i64 0, .int .i64 0] 38) = w0 at *
  refine (HW.out _ HE0.out).mono ?_
  rintro e w1 ⟨rfl, hE⟩
  have HE1 := Lib.hid (Ext.trans HE0.out hE)
  have HP1 := Lib.hid (VRow.ext HP0.out hE)
  clear hE
  go_wp2_with fail
  refine (HGC.out _).mono ?_
  rintro e w2 ⟨rfl, hE⟩
  have HE2 := Lib.hid (Ext.trans HE1.out hE)
  have HP2 := Lib.hid (VRow.ext HP1.out hE)
  clear hE
  have m0 := VRow.cell HP2.out (k := 0) rfl
  have m1 := VRow.cell HP2.out (k := 1) rfl
  have f0 := VRow.frozen HP2.out 0 none
  have f1 := VRow.frozen HP2.out 1 none
  have hgz : g ≠ 0 := by omega
  have HWQ := Lib.hid (show wrap64 ((c.length : Int) / g) = (c.length : Int).tdiv g from by
    have h3 := Int.ediv_nonneg (show 0 ≤ (c.length : Int) by omega) (show 0 ≤ g by omega)
    have h4 := Int.ediv_le_self g (show 0 ≤ (c.length : Int) by omega)
    rw [Int.tdiv_eq_ediv_of_nonneg (by omega)]
    unfold wrap64; omega)
  go_wp2_with fail
  go_region
  go_wp2
  rw [HWQ.out]
  (try simp only [Exit.inBlock, Exit.then])
  refine bodyPost_ret (rpace_results (VRow.drew (VRow.set (VRow.set HP2.out 0 (.int .i64 (s.tdiv g))) 1 (.int .i64 ((c.length : Int).tdiv g)))) _ rfl) rfl ?_
  rw [HLT.out.1, HLT.out.2]
  exact ⟨rfl, Ext.drew (Below.setCell (p := ⟨w.heap.size, 1, none⟩) (Below.setCell (p := ⟨w.heap.size, 0, none⟩) HE2.out hwD _) hwD _)⟩
end Go.Proofs.YtbcngojiikdigaaGreat

namespace Go.Proofs.YtbcngojiikdigaaGreat
set_option maxRecDepth 100000
open Go.RowKit Go.Shelf
theorem rspeed_results {g : Nat} {W : World} {a b c : Int} (h : VRow W g 38 [.int .i64 a, .int .i64 b]) (tmps : Array Value) (h4 : tmps.getD 2 undef = .pointer (some ⟨g, 0, none⟩)) (h5 : tmps.getD 3 undef = .int .i64 c) : (results Tryz.f21 tmps).run Tryz.prog W = .ok (.tuple #[.agg #[.int .i64 a, .int .i64 b], .int .i64 c]) W := by
  have c0 := VRow.cell h (k := 0) rfl
  have c1 := VRow.cell h (k := 1) rfl
  rw [results_cell_tmp rfl, h4, h5]
  go_simp
set_option maxHeartbeats 4000000 in
theorem rSpeed_c (u : Value) (xs : List (List Int)) (w : World) (hu : Rows2 w u xs) (hlx : ∀ r ∈ xs, r.length ≤ 1000000) :
    Calls Tryz.prog 21 #[u] w fun e w' => e = two (.agg #[.int .i64 (speedZ xs).1, .int .i64 (speedZ xs).2.1]) (.int .i64 (speedZ xs).2.2) ∧ Ext w w' := by
  have HU := Lib.hid hu
  have HM := Lib.hid (fun W (h : Ext w W) => rmatrix_c u xs W (hu.ext h) hlx)
  obtain ⟨a1, c1, rfl, hl1, hm1, _⟩ := hu.at
  clear hu hlx
  have HE0 := Lib.hid (Ext.alloc (Ext.refl w) (.cells #[.int .i64 0, .int .i64 0] 38))
  have HP0 := Lib.hid (show VRow (w.alloc (.cells #[.int .i64 0, .int .i64 0] 38)) _ _ _ from vrow_alloc w [.int .i64 0, .int .i64 0] 38)
  have HZ := Lib.hid (show speedZ xs = speedZ xs from rfl)
  obtain ⟨⟨z1, z2, z3⟩, hz⟩ : ∃ z, z = speedZ xs := ⟨_, rfl⟩
  rw [← hz]
  simp only
  unfold speedZ at hz
  have hwD : w.heap.size ≤ w.heap.size := Nat.le_refl _
  cases hx : matB xs with
  | false =>
    rw [hx] at HM hz
    simp only [Bool.false_eq_true, if_false, Prod.mk.injEq] at hz
    obtain ⟨rfl, rfl, rfl⟩ := hz
    clear hx HZ
    go_enter Tryz.func21, Tryz.ntmps21
    go_wp2_with fail
    generalize w.alloc (.cells #[.int .i64 0, .int .i64 0] 38) = w0 at *
    refine (HM.out _ HE0.out).mono ?_
    rintro e w1 ⟨rfl, hE⟩
    have HE := Lib.hid (Ext.trans HE0.out hE)
    have HP := Lib.hid (VRow.ext HP0.out hE)
    have m0 := VRow.cell HP.out (k := 0) rfl
    have m1 := VRow.cell HP.out (k := 1) rfl
    have f0 := VRow.frozen HP.out 0 none
    have f1 := VRow.frozen HP.out 1 none
    clear hE
    go_wp2_with fail
    (try simp only [Exit.inBlock, Exit.then])
    refine bodyPost_ret (rspeed_results (VRow.set (VRow.set HP.out 0 (.int .i64 0)) 1 (.int .i64 0)) _ rfl rfl) rfl ?_
    exact ⟨rfl, Below.setCell (p := ⟨w.heap.size, 1, none⟩) (Below.setCell (p := ⟨w.heap.size, 0, none⟩) HE.out hwD _) hwD _⟩
  | true =>
    have HOX := Lib.hid (matB_ok hx)
    have hn := HOX.out.1
    rw [hx] at HM hz
    simp only [if_true] at hz
    clear hx HZ
    go_enter Tryz.func21, Tryz.ntmps21
    go_wp2_with fail
    generalize w.alloc (.cells #[.int .i64 0, .int .i64 0] 38) = w0 at *
    refine (HM.out _ HE0.out).mono ?_
    rintro e w1 ⟨rfl, hE⟩
    have HE := Lib.hid (Ext.trans HE0.out hE)
    have HP := Lib.hid (VRow.ext HP0.out hE)
    have HMA := Lib.hid (rows_mat (HU.out.ext HE.out) HOX.out.2.1 hn.1)
    clear hE
    go_wp2_with fail
    refine (best_c _ xs.length (entF xs) w1 hn.1 hn.2 HMA.out HOX.out.2.2).mono ?_
    rintro e w3 ⟨v, rfl, hB, hE⟩
    have HE3 := Lib.hid (Ext.trans HE.out hE)
    have HP3 := Lib.hid (VRow.ext HP.out hE)
    have HM3 := Lib.hid (MatAt.ext HMA.out hE)
    clear hE
    cases hs : spF xs.length (entF xs) with
    | none =>
      rw [hs] at hz
      simp only [Prod.mk.injEq] at hz
      obtain ⟨rfl, rfl, rfl⟩ := hz
      rw [best_no hs] at hB
      have hv : v = Value.slice none 0 0 := hB
      subst hv
      clear hs hB
      have hnil := nil_eq1 w3
      have m0 := VRow.cell HP3.out (k := 0) rfl
      have m1 := VRow.cell HP3.out (k := 1) rfl
      have f0 := VRow.frozen HP3.out 0 none
      have f1 := VRow.frozen HP3.out 1 none
      go_wp2_with fail
      (try simp only [Exit.inBlock, Exit.then])
      refine bodyPost_ret (rspeed_results (VRow.set (VRow.set HP3.out 0 (.int .i64 0)) 1 (.int .i64 0)) _ rfl rfl) rfl ?_
      exact ⟨rfl, Below.setCell (p := ⟨w.heap.size, 1, none⟩) (Below.setCell (p := ⟨w.heap.size, 0, none⟩) HE3.out hwD _) hwD _⟩
    | some pq =>
      obtain ⟨p, q⟩ := pq
      rw [hs] at hz
      simp only [Prod.mk.injEq] at hz
      obtain ⟨rfl, rfl, rfl⟩ := hz
      obtain ⟨c, s, hb, hcy, hps, hsq⟩ := best_some hs
      obtain ⟨hco, hq0⟩ := sp_coprime hs
      rw [hb] at hB
      have hI : Ints w3 v (natI c) := hB
      have HPC := Lib.hid (pace_c _ v _ _ c s z1 z2 w3 HM3.out hn.2 hI hcy HOX.out.2.2 hps hq0 hco hsq)
      obtain ⟨cb, co, cc, rfl, _⟩ := nat_cells hI hcy.1
      clear hs hB hb hcy hps hsq hco hq0 hI
      have hnil := nil_eq2 ⟨cb, co, none⟩ c.length cc w3
      go_wp2_with fail
      clear hnil
      refine HPC.out.mono ?_
      rintro e w5 ⟨rfl, hE⟩
      have HE6 := Lib.hid (Ext.trans HE3.out hE)
      have HP6 := Lib.hid (VRow.ext HP3.out hE)
      clear hE
      have m0 := VRow.cell HP6.out (k := 0) rfl
      have m1 := VRow.cell HP6.out (k := 1) rfl
      have f0 := VRow.frozen HP6.out 0 none
      have f1 := VRow.frozen HP6.out 1 none
      go_wp2_with fail
      (try simp only [Exit.inBlock, Exit.then])
      refine bodyPost_ret (rspeed_results (VRow.set (VRow.set HP6.out 0 (.int .i64 z1)) 1 (.int .i64 z2)) _ rfl rfl) rfl ?_
      exact ⟨rfl, Below.setCell (p := ⟨w.heap.size, 1, none⟩) (Below.setCell (p := ⟨w.heap.size, 0, none⟩) HE6.out hwD _) hwD _⟩
/-- what the reference's Cycle gives -/
def RCycS (xs : List (List Int)) (e : Ending) (w' : World) : Prop :=
  if matB xs then match bestK (entF xs) none (cycL xs.length (entF xs)) with
    | none => e = two (.slice none 0 0) (.int .i64 10)
    | some c => ∃ v, e = two v (.int .i64 0) ∧ Ints w' v (natI c)
  else e = two (.slice none 0 0) (.int .i64 2)
set_option maxHeartbeats 4000000 in
theorem rCycle_c (u : Value) (xs : List (List Int)) (w : World) (hu : Rows2 w u xs) (hlx : ∀ r ∈ xs, r.length ≤ 1000000) :
    Calls Tryz.prog 23 #[u] w fun e w' => RCycS xs e w' ∧ Ext w w' := by
  have HU := Lib.hid hu
  have HM := Lib.hid (fun W (h : Ext w W) => rmatrix_c u xs W (hu.ext h) hlx)
  obtain ⟨a1, c1, rfl, hl1, hm1, _⟩ := hu.at
  clear hu hlx
  cases hx : matB xs with
  | false =>
    rw [hx] at HM
    have HR := Lib.hid (fun W => show RCycS xs (two (.slice none 0 0) (.int .i64 2)) W from by unfold RCycS; rw [hx]; rfl)
    clear hx
    go_enter Tryz.func23, Tryz.ntmps23
    go_wp2_with fail
    refine (HM.out _ (Ext.refl _)).mono ?_
    rintro e w1 ⟨rfl, hE⟩
    have HE := Lib.hid hE
    clear hE
    go_wp2_with fail
    go_ret2
    exact ⟨HR.out _, HE.out⟩
  | true =>
    have HOX := Lib.hid (matB_ok hx)
    have hn := HOX.out.1
    rw [hx] at HM
    have HXT := Lib.hid hx
    clear hx
    go_enter Tryz.func23, Tryz.ntmps23
    go_wp2_with fail
    refine (HM.out _ (Ext.refl _)).mono ?_
    rintro e w1 ⟨rfl, hE⟩
    have HE := Lib.hid hE
    have HMA := Lib.hid (rows_mat (HU.out.ext HE.out) HOX.out.2.1 hn.1)
    clear hE
    go_wp2_with fail
    refine (best_c _ xs.length (entF xs) w1 hn.1 hn.2 HMA.out HOX.out.2.2).mono ?_
    rintro e w3 ⟨v, rfl, hB, hE⟩
    have HE3 := Lib.hid (Ext.trans HE.out hE)
    clear hE
    cases hb : bestK (entF xs) none (cycL xs.length (entF xs)) with
    | none =>
      rw [hb] at hB
      have hv : v = Value.slice none 0 0 := hB
      subst hv
      have HR := Lib.hid (fun W => show RCycS xs (two (.slice none 0 0) (.int .i64 10)) W from by unfold RCycS; rw [HXT.out, hb]; rfl)
      clear hb hB
      have hnil := nil_eq1 w3
      go_wp2_with fail
      go_ret2
      exact ⟨HR.out _, HE3.out⟩
    | some c =>
      rw [hb] at hB
      have hI : Ints w3 v (natI c) := hB
      have hcy := best_mem _ none (fun x hx => cycL_mem.1 hx) (fun x hx => by cases hx) c hb
      have HI := Lib.hid hI
      have HR := Lib.hid (fun W (h : Ints W v (natI c)) => show RCycS xs (two v (.int .i64 0)) W from by unfold RCycS; rw [HXT.out, hb]; exact ⟨v, rfl, h⟩)
      obtain ⟨cb, co, cc, rfl, _⟩ := nat_cells hI hcy.1
      clear hb hB hI hcy
      have hnil := nil_eq2 ⟨cb, co, none⟩ c.length cc w3
      go_wp2_with fail
      go_ret2
      exact ⟨HR.out _ HI.out, HE3.out⟩
end Go.Proofs.YtbcngojiikdigaaGreat

namespace Go.Proofs.YtbcngojiikdigaaGreat
set_option maxRecDepth 100000
open Go.RowKit Go.Shelf
/-- what Critical gives -/
def CritS (xs : List (List Int)) (e : Ending) (w' : World) : Prop :=
  (matB xs = false ∧ e = two (.slice none 0 0) (.int .i64 2)) ∨
  (matB xs = true ∧ spF xs.length (entF xs) = none ∧ e = two (.slice none 0 0) (.int .i64 10)) ∨
  (matB xs = true ∧ ∃ p q v, spF xs.length (entF xs) = some (p, q) ∧ e = two v (.int .i64 0) ∧ Ints w' v (natI (critL xs.length (lvF p q (entF xs)) xs.length)))
set_option maxHeartbeats 4000000 in
theorem Critical_c (u : Value) (xs : List (List Int)) (w : World) (hu : Rows2 w u xs) (hlx : ∀ r ∈ xs, r.length ≤ 1000000) :
    Calls Tryz.prog 24 #[u] w fun e w' => CritS xs e w' ∧ Ext w w' := by
  have HL := Lib.hid (leveled_c u xs w hu hlx)
  obtain ⟨a1, c1, rfl, hl1, hm1, _⟩ := hu.at
  clear hu hlx
  go_enter Tryz.func24, Tryz.ntmps24
  go_wp2_with fail
  refine HL.out.mono ?_
  rintro e w1 ⟨hS, hE⟩
  have HE := Lib.hid hE
  clear hE
  rcases hS with ⟨hm, rfl⟩ | ⟨hm, hs, rfl⟩ | ⟨hm, p, q, r, hs, rfl, hr⟩
  · have HS := Lib.hid (fun w' => (show CritS xs (two (.slice none 0 0) (.int .i64 2)) w' from .inl ⟨hm, rfl⟩))
    clear hm
    unfold two
    go_wp2_with fail
    go_ret2
    exact ⟨HS.out _, HE.out⟩
  · have HS := Lib.hid (fun w' => (show CritS xs (two (.slice none 0 0) (.int .i64 10)) w' from .inr (.inl ⟨hm, hs, rfl⟩)))
    clear hm hs
    unfold two
    go_wp2_with fail
    go_ret2
    exact ⟨HS.out _, HE.out⟩
  · have hn := (matB_ok hm).1
    have hb := spF_bd (matB_ok hm).2.2 hn.2 hs
    have HB := Lib.hid (lvF_bd (matB_ok hm).2.2 hb.1 hb.2)
    have HS := Lib.hid (fun v w' (h : Ints w' v (natI (critL xs.length (lvF p q (entF xs)) xs.length))) => (show CritS xs (two v (.int .i64 0)) w' from .inr (.inr ⟨hm, p, q, v, hs, rfl, h⟩)))
    have HLE := Lib.hid (critL_len xs.length (lvF p q (entF xs)) xs.length)
    have HCR := Lib.hid (critical_c _ _ _ 12000 w1 hn.1 hn.2 (hr.mat (by omega)) HB.out (by omega) (by omega))
    clear hm hs hr hb hl1 hm1
    unfold two at *
    go_wp2_with fail
    refine HCR.out.mono ?_
    rintro e w2 ⟨v, rfl, hv, hE⟩
    have HV := Lib.hid (nats_ints hv (by have := HLE.out; omega))
    have HE2 := Lib.hid (Ext.trans HE.out hE)
    clear hv hE
    go_wp2_with fail
    go_ret2
    exact ⟨HS.out _ _ HV.out, HE2.out⟩
end Go.Proofs.YtbcngojiikdigaaGreat

namespace Go.Proofs.YtbcngojiikdigaaGreat
/-! What the reference lists and tries: vertices on cycles of greatest mean, and powers that come again (pure). -/
theorem conn_lv (n : Nat) (p q : Int) (A : MF) : connB n (lvF p q A) = connB n A := by
  have h : arcF (lvF p q A) = arcF A := by
    funext i j
    unfold arcF lvF lvE
    cases A i j <;> rfl
  unfold connB
  rw [h]
/-- has a cycle the mean p / q? -/
def meanB (A : MF) (p q : Int) (c : List Nat) : Bool := match preL A (gC c) c.length with
  | none => false
  | some s => decide (s * q = p * c.length)
/-- is a vertex on a cycle of a list that has this mean? -/
def onB (A : MF) (p q : Int) (l : List (List Nat)) (v : Nat) : Bool := l.any fun c => meanB A p q c && c.contains v
theorem onB_push (A : MF) (p q : Int) (l : List (List Nat)) (c : List Nat) (v : Nat) : onB A p q (l ++ [c]) v = (onB A p q l v || (meanB A p q c && c.contains v)) := by
  simp [onB, List.any_append]
theorem on_iff {n : Nat} {A : MF} {p q : Int} {v : Nat} : onB A p q (cycL n A) v = true ↔ OnC n A p q v := by
  unfold onB OnC
  rw [List.any_eq_true]
  constructor
  · rintro ⟨c, hc, h⟩
    rw [Bool.and_eq_true] at h
    obtain ⟨h1, h2⟩ := h
    unfold meanB at h1
    cases hs : preL A (gC c) c.length with
    | none => rw [hs] at h1; cases h1
    | some s => rw [hs] at h1; exact ⟨c, s, hc, hs, of_decide_eq_true h1, List.contains_iff_mem.1 h2⟩
  · rintro ⟨c, s, hc, hs, he, hm⟩
    refine ⟨c, hc, ?_⟩
    rw [Bool.and_eq_true]
    refine ⟨?_, List.contains_iff_mem.2 hm⟩
    unfold meanB
    rw [hs]
    exact decide_eq_true he
/-- the reference's list of critical vertices below k -/
def onL (n : Nat) (A : MF) (p q : Int) (k : Nat) : List Nat := (List.range k).filter (onB A p q (cycL n A))
theorem onL_succ (n : Nat) (A : MF) (p q : Int) (k : Nat) : onL n A p q (k + 1) = onL n A p q k ++ (if onB A p q (cycL n A) k then [k] else []) := by
  unfold onL
  rw [List.range_succ, List.filter_append]
  congr 1
  simp only [List.filter_cons, List.filter_nil]
theorem onL_len (n : Nat) (A : MF) (p q : Int) (k : Nat) : (onL n A p q k).length ≤ k := by
  unfold onL
  have := List.length_filter_le (onB A p q (cycL n A)) (List.range k)
  simpa using this
theorem onL_crit {n : Nat} {A : MF} {p q : Int} (hn : 1 ≤ n) (h : spF n A = some (p, q)) : onL n A p q n = critL n (lvF p q A) n := by
  unfold onL critL
  refine List.filter_congr fun v hv => ?_
  have hv := List.mem_range.1 hv
  rw [Bool.eq_iff_iff]
  exact on_iff.trans (crit_on hn h hv).symm
/-- a matrix with a number added to each entry -/
def shF (M : MF) (z : Int) : MF := fun i j => ep (M i j) (some z)
/-- the reference's test of two powers -/
def ahB (n : Nat) (M N : MF) (a d : Int) : Bool := decide (a.tmod d = 0) && eqMB n M (shF N (a.tdiv d))
/-- the first number of steps from 1 to m that leads to the same again -/
def fX (n : Nat) (A : MF) (p q : Int) (k : Nat) : Nat → Nat
  | 0 => 0
  | m + 1 => if fX n A p q k m ≠ 0 then fX n A p q k m else if ahB n (pwF n A (k + (m + 1))) (pwF n A k) (((m + 1 : Nat) : Int) * p) q = true then m + 1 else 0
theorem fX_stays {n : Nat} {A : MF} {p q : Int} {k m : Nat} (h : fX n A p q k m ≠ 0) : ∀ j, fX n A p q k (m + j) = fX n A p q k m := by
  intro j
  induction j with
  | zero => rfl
  | succ j ih =>
    show (if fX n A p q k (m + j) ≠ 0 then fX n A p q k (m + j) else _) = _
    rw [if_pos (by rw [ih]; exact h), ih]
theorem fX_spec (n : Nat) (A : MF) (p q : Int) (k : Nat) : ∀ m, (fX n A p q k m = 0 ∧ ∀ x, 1 ≤ x → x ≤ m → ahB n (pwF n A (k + x)) (pwF n A k) ((x : Int) * p) q = false) ∨
    (1 ≤ fX n A p q k m ∧ fX n A p q k m ≤ m ∧ ahB n (pwF n A (k + fX n A p q k m)) (pwF n A k) ((fX n A p q k m : Int) * p) q = true ∧ ∀ x, 1 ≤ x → x < fX n A p q k m → ahB n (pwF n A (k + x)) (pwF n A k) ((x : Int) * p) q = false) := by
  intro m
  induction m with
  | zero => exact .inl ⟨rfl, fun x h1 h2 => by omega⟩
  | succ m ih =>
    rcases ih with ⟨h1, h2⟩ | ⟨h1, h2, h3, h4⟩
    · by_cases hb : ahB n (pwF n A (k + (m + 1))) (pwF n A k) (((m + 1 : Nat) : Int) * p) q = true
      · have e : fX n A p q k (m + 1) = m + 1 := by
          show (if fX n A p q k m ≠ 0 then fX n A p q k m else _) = _
          rw [if_neg (fun h => h h1), if_pos hb]
        refine .inr ?_
        rw [e]
        exact ⟨by omega, by omega, hb, fun x k1 k2 => h2 x k1 (by omega)⟩
      · have e : fX n A p q k (m + 1) = 0 := by
          show (if fX n A p q k m ≠ 0 then fX n A p q k m else _) = _
          rw [if_neg (fun h => h h1), if_neg hb]
        refine .inl ⟨e, fun x k1 k2 => ?_⟩
        by_cases hx : x = m + 1
        · rw [hx]; exact Bool.eq_false_iff.2 hb
        · exact h2 x k1 (by omega)
    · have e : fX n A p q k (m + 1) = fX n A p q k m := by
        show (if fX n A p q k m ≠ 0 then fX n A p q k m else _) = _
        rw [if_pos (by omega)]
      refine .inr ?_
      rw [e]
      exact ⟨h1, by omega, h3, h4⟩
theorem tmod_dvd {a d : Int} : a.tmod d = 0 ↔ d ∣ a := (Int.dvd_iff_tmod_eq_zero).symm
theorem ah_iff {n : Nat} {A : MF} {p q : Int} (h : spF n A = some (p, q)) (hr : Regular n (lvF p q A)) {k x : Nat} :
    ahB n (pwF n A (k + x)) (pwF n A k) ((x : Int) * p) q = true ↔ eqF n (pwF n (lvF p q A) (k + x)) (pwF n (lvF p q A) k) := by
  obtain ⟨_, _, _, _, hq⟩ := sp_parts h
  have key : ∀ z : Int, q * z = p * x → (eqMB n (pwF n A (k + x)) (shF (pwF n A k) z) = true ↔ eqF n (pwF n (lvF p q A) (k + x)) (pwF n (lvF p q A) k)) := fun z hz => by
    rw [eqMB_iff, ← rep_iff hq hz]
    exact ⟨fun e i hi j hj => e i hi j hj, fun e i hi j hj => e i hi j hj⟩
  unfold ahB
  rw [Bool.and_eq_true, decide_eq_true_iff, tmod_dvd]
  have hz : q ∣ (x : Int) * p → q * ((x : Int) * p).tdiv q = p * x := fun hd => by
    rw [Int.mul_tdiv_cancel' hd, Int.mul_comm]
  constructor
  · rintro ⟨hd, he⟩
    exact (key _ (hz hd)).1 he
  · intro he
    have hd : q ∣ (x : Int) * p := by
      obtain ⟨y, hy⟩ := per_least hr he
      have := Int.dvd_mul_of_dvd_left (c := (y : Int)) (per_dvd h hr)
      rw [show (x : Int) * p = (periodF n (lvF p q A) : Int) * p * y by rw [hy, Int.natCast_mul, Int.mul_assoc, Int.mul_comm (y : Int) p, ← Int.mul_assoc]]
      exact this
    exact ⟨hd, (key _ (hz hd)).2 he⟩
/-- what the reference finds is the regime -/
theorem reg_found {n : Nat} {A : MF} {p q : Int} (h : spF n A = some (p, q)) (hr : Regular n (lvF p q A)) {k : Nat} (h1 : fX n A p q k 12 ≠ 0) (h2 : ∀ y, y < k → fX n A p q y 12 = 0) :
    fX n A p q k 12 = periodF n (lvF p q A) ∧ k = regK n (lvF p q A) := by
  have hpb := per_bd hr
  rcases fX_spec n A p q k 12 with ⟨e, _⟩ | ⟨k1, k2, k3, k4⟩
  · exact absurd e h1
  · have e1 := (ah_iff h hr).1 k3
    have e2 := per_mult hr k1 e1
    have hle : periodF n (lvF p q A) ≤ fX n A p q k 12 := Nat.le_of_dvd (by omega) (per_least hr e1)
    have e3 : fX n A p q k 12 = periodF n (lvF p q A) := by
      rcases Nat.lt_or_ge (periodF n (lvF p q A)) (fX n A p q k 12) with hl | hl
      · have := k4 _ hpb.1 hl
        rw [(ah_iff h hr).2 e2] at this
        cases this
      · omega
    refine ⟨e3, (reg_eq hr (ag_iff.2 e2) fun y hy => ?_).symm⟩
    cases hb : agB n (lvF p q A) (periodF n (lvF p q A)) y with
    | false => rfl
    | true =>
      have e4 := (ah_iff h hr).2 (ag_iff.1 hb)
      rcases fX_spec n A p q y 12 with ⟨_, k6⟩ | ⟨k5, _⟩
      · have := k6 _ hpb.1 (by omega)
        rw [e4] at this
        cases this
      · have := h2 y hy
        omega
end Go.Proofs.YtbcngojiikdigaaGreat

namespace Go.Proofs.YtbcngojiikdigaaGreat
set_option maxRecDepth 100000
open Go.RowKit Go.Shelf
theorem OutC.put {base : Nat} {w : World} {v : Value} {L : List (List Nat)} (h : OutC base w v L) {a : Addr} (ha : a.block < base) (u : Value) : OutC base (w.setCell a u) v L := by
  obtain ⟨vs, h1, h2⟩ := h
  exact ⟨vs, ownsRow_setCell_below h1 ha u, fun i x c hx hc => ownsRow_setCell_below (h2 i x c hx hc) ha u⟩
theorem BRow.ext {w w' : World} {R t n : Nat} {x : Nat → Bool} (h : BRow w R t n x) (he : Ext w w') : BRow w' R t n x := by
  obtain ⟨vs, h1, h2⟩ := h
  exact ⟨vs, VRow.ext h1 he, h2⟩
theorem BRow.congr {w : World} {R t n : Nat} {x y : Nat → Bool} (h : BRow w R t n x) (e : ∀ i, i < n → x i = y i) : BRow w R t n y := by
  obtain ⟨vs, h1, h2, h3⟩ := h
  exact ⟨vs, h1, h2, fun b hb => by rw [h3 b hb, e b hb]⟩
theorem BRow.at {w : World} {R t n : Nat} {x : Nat → Bool} (h : BRow w R t n x) {i : Nat} (hi : i < n) : w.cell? ⟨R, i, none⟩ = some (.bool (x i)) ∧ w.frozen? ⟨R, i, none⟩ = false := by
  obtain ⟨vs, h1, _, h3⟩ := h
  exact ⟨VRow.cell h1 (h3 i hi), VRow.frozen h1 i none⟩
theorem BRow.on {w : World} {R t n : Nat} {x : Nat → Bool} (h : BRow w R t n x) {v : Nat} (hv : v < n) : BRow (w.setCell ⟨R, v, none⟩ (.bool true)) R t n (fun i => x i || decide (i = v)) := by
  obtain ⟨vs, h1, h2, h3⟩ := h
  refine ⟨_, VRow.set h1 v (.bool true), by simp [h2], fun b hb => ?_⟩
  by_cases e : b = v
  · subst e; rw [List.getElem?_set_self (by omega)]; simp
  · rw [List.getElem?_set_ne (fun h => e h.symm), h3 b hb]
    simp only [decide_eq_false e, Bool.or_false]
theorem mean_is {A : MF} {p q s : Int} {c : List Nat} (h : preL A (gC c) c.length = some s) : meanB A p q c = decide (s * q = p * c.length) := by
  unfold meanB
  rw [h]
theorem take_contains {c : List Nat} {k : Nat} (hk : k < c.length) (v : Nat) : (c.take (k + 1)).contains v = ((c.take k).contains v || decide (v = gC c k)) := by
  have e : c[k]? = some (gC c k) := by
    unfold gC
    rw [List.getD_eq_getElem?_getD, List.getElem?_eq_getElem hk]; rfl
  rw [List.take_add_one, e]
  simp only [Option.toList_some]
  rw [Bool.eq_iff_iff]
  simp [List.mem_append]
theorem own_hi0 {w : World} {base e n : Nat} {v : Value} {vs : List Value} (h : w.ownsRow base e 1 v n vs) (hn : 1 ≤ n) : ∃ b cap, v = .slice (some ⟨b, 0, none⟩) n cap ∧ n ≤ cap ∧ cap ≤ 9223372036854775807 ∧ base ≤ b ∧ vs.length = n ∧ (∃ c f, w.heap[b]? = some (.cells c e f)) ∧ ∀ (i : Nat) (u : Value), vs[i]? = some u → w.cell? ⟨b, 0 + i, none⟩ = some u := by
  obtain ⟨h1, h⟩ := h
  rw [Nat.mul_one] at h1
  rcases h with ⟨hv, hn0⟩ | ⟨g, cap, cur, hv, hg, hc, hnc, hmx, hsz, htk⟩
  · omega
  · unfold maxLen at hmx
    refine ⟨g, cap, hv, hnc, by omega, hg, h1, ⟨_, _, hc⟩, fun k q hk => ?_⟩
    have hlt := lt_len hk
    rw [← htk] at hk
    rw [List.getElem?_take_of_lt (by omega), Array.getElem?_toList] at hk
    simp [World.cell?, hc, hk]

/-- the sums of a cycle that lies in a list of cycles -/
theorem mean_bd {p x : Int} (hp : -6000 ≤ p ∧ p ≤ 6000) (hx : 0 ≤ x ∧ x ≤ 6) : -36000 ≤ p * x ∧ p * x ≤ 36000 := mul_bd6 hp hx
set_option maxHeartbeats 16000000 in
theorem rcritical_c (ua : Value) (n : Nat) (A : MF) (p q : Int) (w : World) (hn1 : 1 ≤ n) (hn : n ≤ 6) (hA : MatAt w ua n A) (bA : bdF 1000 n A) (hp : -6000 ≤ p ∧ p ≤ 6000) (hq : 0 ≤ q ∧ q ≤ 6) :
    Calls Tryz.prog 63 #[ua, .agg #[.int .i64 p, .int .i64 q]] w fun e w' => ∃ v, e = .returned v ∧ Ints w' v (natI (onL n A p q n)) ∧ Ext w w' := by
  have HA := Lib.hid hA
  have HBA := Lib.hid bA
  obtain ⟨ab, ao, ac, rfl, _, _, _⟩ := hA
  have HLL := Lib.hid (allC_len (A := A) hn (Nat.le_refl n))
  have HE1 := Lib.hid (Ext.alloc (Ext.refl w) (.cells #[.int .i64 p, .int .i64 q] 38))
  have HS1 := Lib.hid (show VRow (w.alloc (.cells #[.int .i64 p, .int .i64 q] 38)) _ _ _ from vrow_alloc w [.int .i64 p, .int .i64 q] 38)
  obtain ⟨i0, hi0, hz0, hz1, hz2⟩ := info_parts info3x23
  have HI := Lib.hid hi0
  have HZ0 := Lib.hid hz0
  have HZ1 := Lib.hid hz1
  have HZ2 := Lib.hid hz2
  have hs1 : (w.alloc (.cells #[.int .i64 p, .int .i64 q] 38)).heap.size = w.heap.size + 1 := by simp
  clear bA hi0 hz0 hz1 hz2
  go_enter Tryz.func63, Tryz.ntmps63
  have hmk := run_make_bools n (by omega)
  go_wp2_with fail
  clear hmk
  obtain ⟨sb, hsb⟩ : ∃ sb, sb = w.heap.size := ⟨_, rfl⟩
  rw [← hsb] at HS1 hs1 ⊢
  obtain ⟨w1, hw1⟩ : ∃ w1, w1 = w.alloc (.cells #[.int .i64 p, .int .i64 q] 38) := ⟨_, rfl⟩
  rw [← hw1] at HS1 HE1 hs1 ⊢
  clear hw1
  have HP1 := Lib.hid (vrow_rep w1 (.bool false) n 4)
  have HE2a := Lib.hid (Ext.alloc (Ext.refl w1) (.cells (Array.replicate n (.bool false)) 4))
  have hs2 : (w1.alloc (.cells (Array.replicate n (.bool false)) 4)).heap.size = w1.heap.size + 1 := by simp
  obtain ⟨R, hR⟩ : ∃ R, R = sb + 1 := ⟨_, rfl⟩
  rw [← hR] at hs1 ⊢
  rw [hs1] at HP1 hs2
  clear hsb hR
  obtain ⟨w2, hw2⟩ : ∃ w2, w2 = w1.alloc (.cells (Array.replicate n (.bool false)) 4) := ⟨_, rfl⟩
  rw [← hw2] at HP1 HE2a hs2 ⊢
  clear hw2
  have HB2 := Lib.hid (show BRow w2 R 4 n (fun _ => false) from ⟨_, HP1.out, by simp, fun b hb => by rw [List.getElem?_replicate, if_pos hb]⟩)
  refine (Cycles_c _ n A w2 hn1 hn (HA.out.ext (Ext.trans HE1.out HE2a.out)) HBA.out).mono ?_
  rintro e w3 ⟨v3, rfl, hO, hE⟩
  have HO3 := Lib.hid hO
  have HB3 := Lib.hid (HB2.out.ext hE)
  have HE3 := Lib.hid (Ext.trans HE2a.out hE)
  have HMEM := Lib.hid (show ∀ c ∈ cycL n A, IsCyc n A c from fun c hc => cycL_mem.1 hc)
  have hll : (cycL n A).length ≤ 279936 := HLL.out
  have HFIN := Lib.hid (show ∀ v, onB A p q (cycL n A) v = onB A p q (cycL n A) v from fun _ => rfl)
  obtain ⟨L, hL⟩ : ∃ L, L = cycL n A := ⟨_, rfl⟩
  rw [← hL] at HO3 HMEM hll
  have HLQ := Lib.hid hL
  obtain ⟨la, lcap, rfl⟩ : ∃ a c, v3 = .slice a L.length c := by obtain ⟨vs, ho, _⟩ := HO3.out; exact own_slice ho
  clear hO hE hL HB2 HP1 HLL HFIN
  go_wp2_with fail
  go_loopw [7] (fun iv' wr => ∃ i : Nat, iv' = .int .i64 (i : Int) ∧ i ≤ L.length ∧ BRow wr R 4 n (onB A p q (L.take i)) ∧ OutC w2.heap.size wr (.slice la L.length lcap) L ∧ Ext w1 wr) (fun iv' _ => L.length - (intOf iv').toNat)
  case atStart => exact ⟨0, rfl, Nat.zero_le _, HB3.out.congr fun i _ => by simp [onB], HO3.out, HE3.out⟩
  case round =>
    rename World => wr
    obtain ⟨i, rfl, hi, hB, hO, hE⟩ := hrel
    have HB := Lib.hid hB
    have HO := Lib.hid hO
    have HE := Lib.hid hE
    by_cases hil : i < L.length
    · obtain ⟨c, hc⟩ := getElem?_len hil
      obtain ⟨vs, ho, hvs⟩ := hO
      obtain ⟨lb, cap', hlv, _, _, hlb, hvl, _, hrow⟩ := own_hi0 ho (by omega)
      simp only [Value.slice.injEq, true_and] at hlv
      obtain ⟨rfl, rfl⟩ := hlv
      obtain ⟨u, hu⟩ := getElem?_len (show i < vs.length by omega)
      have hcy := HMEM.out c (List.mem_of_getElem? hc)
      obtain ⟨s1, hs1', hs1b⟩ := hcy.wt hn HBA.out
      have hcl := hcy.len
      have hc1 := hcy.1
      have HIr := Lib.hid (nats_ints (hvs i u c hu hc) (by omega))
      obtain ⟨cb, cc, rfl, _, _, hcb, _, _, hcc⟩ := own_hi0 (hvs i u c hu hc) hc1
      have HCC := Lib.hid (show ∀ k, k < c.length → wr.cell? ⟨cb, k, none⟩ = some (.int .i64 (gC c k : Int)) from fun k hk => by
        have h := hcc k (.int .i64 (gC c k : Int)) (by
          unfold natsV gC
          rw [List.getElem?_map, List.getElem?_eq_getElem hk, List.getD_eq_getElem?_getD, List.getElem?_eq_getElem hk]; rfl)
        rw [Nat.zero_add] at h
        exact h)
      have d1 := hrow i _ hu
      rw [Nat.zero_add] at d1
      have D1 := Lib.hid d1
      have HS := Lib.hid (VRow.ext HS1.out HE.out)
      have HW1 := Lib.hid (fun W (h : Ext wr W) => weight_c _ _ n A c s1 W (HA.out.ext (Ext.trans HE1.out (Ext.trans HE.out h))) hn (HIr.out.ext h) hc1 (by omega) hcy.2.1 HBA.out hs1')
      have HPUSH := Lib.hid (show ∀ v, onB A p q (L.take (i + 1)) v = (onB A p q (L.take i) v || (meanB A p q c && c.contains v)) from fun v => by
        rw [List.take_add_one, hc]
        exact onB_push A p q _ c v)
      have HMN := Lib.hid (mean_is (p := p) (q := q) hs1')
      have hxb := mean_bd (p := s1) (x := q) hs1b hq
      have hyb := mean_bd (p := p) (x := (c.length : Int)) hp (by omega)
      have HCX := Lib.hid (show ∀ k, k < c.length → gC c k < n from fun k hk => hcy.2.1 _ (by unfold gC; rw [List.getD_eq_getElem?_getD, List.getElem?_eq_getElem hk]; exact List.getElem_mem hk))
      obtain ⟨X, hX⟩ : ∃ X, X = s1 * q := ⟨_, rfl⟩
      obtain ⟨Y, hY⟩ : ∃ Y, Y = p * (c.length : Int) := ⟨_, rfl⟩
      rw [← hX, ← hY] at HMN
      have hwx : IntKind.i64.wrap (s1 * q) = X := by rw [← hX]; exact IntWalk.i64_in _ (by omega)
      have hwy : IntKind.i64.wrap (p * (c.length : Int)) = Y := by rw [← hY]; exact IntWalk.i64_in _ (by omega)
      have hilz : (i : Int) < (L.length : Int) := by omega
      clear hc hu hcy hs1' hcc d1 hX hY hrow hvl hvs ho hB hE hxb hyb hcl
      by_cases hXY : X = Y
      · have HMT := Lib.hid (show meanB A p q c = true from by rw [HMN.out]; exact decide_eq_true hXY)
        have hbb : (X == Y) = true := by rw [hXY]; simp
        clear hXY
        go_wp2_with fail
        refine wp_region_stable [⟨[], none⟩, ⟨[], none⟩, ⟨[], none⟩, ⟨[(1, 23), (2, 24)], none⟩, ⟨[(3, 25)], none⟩, ⟨[(0, 22), (4, 26)], none⟩, ⟨[], none⟩, ⟨[(6, 28)], none⟩, ⟨[(5, 27), (7, 29)], none⟩, ⟨[], none⟩, ⟨[(9, 31)], none⟩, ⟨[], none⟩, ⟨[], none⟩, ⟨[(11, 33), (12, 34)], none⟩, ⟨[(13, 35)], none⟩, ⟨[(14, 36)], none⟩, ⟨[(10, 32), (15, 37)], none⟩, ⟨[(8, 30), (16, 38)], none⟩] (fun x y => Below x.heap.size x y) (MPat [MP.eq (.slice (some ⟨ab, ao, none⟩) n ac), MP.eq (.slice (some ⟨lb, 0, none⟩) L.length lcap), MP.eq (.int .i64 (i : Int)), MP.eq (.pointer (some ⟨lb, i, none⟩)), MP.eq (.slice (some ⟨cb, 0, none⟩) c.length cc), MP.eq (.int .i64 s1), MP.eq (.pointer (some ⟨sb, 1, none⟩)), MP.eq (.int .i64 q), MP.eq (.int .i64 X), MP.eq (.pointer (some ⟨sb, 0, none⟩)), MP.eq (.int .i64 p), MP.eq (.slice (some ⟨lb, 0, none⟩) L.length lcap), MP.eq (.int .i64 (i : Int)), MP.eq (.pointer (some ⟨lb, i, none⟩)), MP.eq (.slice (some ⟨cb, 0, none⟩) c.length cc), MP.eq (.int .i64 (c.length : Int)), MP.eq (.int .i64 Y), MP.eq (.bool true)]) (by kernel_rfl) (fun _ _ _ h k => Ext.trans h k) (fun _ => Below.refl _ _) (fun x => (Below.refl x.heap.size x).drew) (MPat.mono _) (by kernel_rfl) ?obs ?rest
        case obs =>
          refine ⟨?_, ?_, ?_, ?_, ?_, ?_, ?_, ?_, ?_, ?_, ?_, ?_, ?_, ?_, ?_, ?_, ?_, ?_, trivial⟩
          · intro ev W hf _ _ hst hd
            have e0 : ev (.tmp 0) = .slice (some ⟨ab, ao, none⟩) n ac := hf 0 (by kernel_rfl)
            refine st_value (v := .slice (some ⟨ab, ao, none⟩) n ac) ?_ (Below.refl _ _) ?_
            · simp [execOp, go_sem, e0]
            · exact rfl
          · intro ev W hf _ _ hst hd
            have e6 : ev (.tmp 6) = .slice (some ⟨lb, 0, none⟩) L.length lcap := hf 6 (by kernel_rfl)
            refine st_value (v := .slice (some ⟨lb, 0, none⟩) L.length lcap) ?_ (Below.refl _ _) ?_
            · simp [execOp, go_sem, e6]
            · exact rfl
          · intro ev W hf _ _ hst hd
            have e7 : ev (.tmp 7) = .int .i64 (i : Int) := hf 7 (by kernel_rfl)
            refine st_value (v := .int .i64 (i : Int)) ?_ (Below.refl _ _) ?_
            · simp [execOp, go_sem, e7]
            · exact rfl
          · intro ev W hf _ _ hst hd
            obtain ⟨d23, d24, _⟩ := hd
            have e23 : ev (.tmp 23) = .slice (some ⟨lb, 0, none⟩) L.length lcap := d23
            have e24 : ev (.tmp 24) = .int .i64 (i : Int) := d24
            have hh := hil
            refine st_value (v := .pointer (some ⟨lb, i, none⟩)) ?_ (Below.refl _ _) ?_
            · simp [execOp, go_sem, e23, e24, hh]
            · exact rfl
          · intro ev W hf _ _ hst hd
            obtain ⟨d25, _⟩ := hd
            have e25 : ev (.tmp 25) = .pointer (some ⟨lb, i, none⟩) := d25
            have q0 := Ext.cell hst D1.out
            refine st_value (v := .slice (some ⟨cb, 0, none⟩) c.length cc) ?_ (Below.refl _ _) ?_
            · simp [execOp, go_sem, e25, q0]
            · exact rfl
          · intro ev W hf _ hfn hst hd
            obtain ⟨d22, d26, _⟩ := hd
            have e22 : ev (.tmp 22) = .slice (some ⟨ab, ao, none⟩) n ac := d22
            have e26 : ev (.tmp 26) = .slice (some ⟨cb, 0, none⟩) c.length cc := d26
            refine st_call (f := 67) (args := #[.slice (some ⟨ab, ao, none⟩) n ac, .slice (some ⟨cb, 0, none⟩) c.length cc]) (by simp [execOp, go_sem, hfn, e22, e26]) (HW1.out W hst) (fun _ _ => rfl)
          · intro ev W hf _ _ hst hd
            have e3 : ev (.tmp 3) = .pointer (some ⟨sb, 0, none⟩) := hf 3 (by kernel_rfl)
            refine st_value (v := .pointer (some ⟨sb, 1, none⟩)) ?_ (Below.refl _ _) ?_
            · simp [execOp, go_sem, e3]
            · exact rfl
          · intro ev W hf _ _ hst hd
            obtain ⟨d28, _⟩ := hd
            have e28 : ev (.tmp 28) = .pointer (some ⟨sb, 1, none⟩) := d28
            have q0 := VRow.cell (VRow.ext HS.out hst) (k := 1) rfl
            refine st_value (v := .int .i64 q) ?_ (Below.refl _ _) ?_
            · simp [execOp, go_sem, e28, q0]
            · exact rfl
          · intro ev W hf _ _ hst hd
            obtain ⟨d27, d29, _⟩ := hd
            have e27 : ev (.tmp 27) = .int .i64 s1 := d27
            have e29 : ev (.tmp 29) = .int .i64 q := d29
            refine st_value (v := .int .i64 X) ?_ (Below.refl _ _) ?_
            · simp [execOp, go_sem, e27, e29, hwx]
            · exact rfl
          · intro ev W hf _ _ hst hd
            have e3 : ev (.tmp 3) = .pointer (some ⟨sb, 0, none⟩) := hf 3 (by kernel_rfl)
            refine st_value (v := .pointer (some ⟨sb, 0, none⟩)) ?_ (Below.refl _ _) ?_
            · simp [execOp, go_sem, e3]
            · exact rfl
          · intro ev W hf _ _ hst hd
            obtain ⟨d31, _⟩ := hd
            have e31 : ev (.tmp 31) = .pointer (some ⟨sb, 0, none⟩) := d31
            have q0 := VRow.cell (VRow.ext HS.out hst) (k := 0) rfl
            refine st_value (v := .int .i64 p) ?_ (Below.refl _ _) ?_
            · simp [execOp, go_sem, e31, q0]
            · exact rfl
          · intro ev W hf _ _ hst hd
            have e6 : ev (.tmp 6) = .slice (some ⟨lb, 0, none⟩) L.length lcap := hf 6 (by kernel_rfl)
            refine st_value (v := .slice (some ⟨lb, 0, none⟩) L.length lcap) ?_ (Below.refl _ _) ?_
            · simp [execOp, go_sem, e6]
            · exact rfl
          · intro ev W hf _ _ hst hd
            have e7 : ev (.tmp 7) = .int .i64 (i : Int) := hf 7 (by kernel_rfl)
            refine st_value (v := .int .i64 (i : Int)) ?_ (Below.refl _ _) ?_
            · simp [execOp, go_sem, e7]
            · exact rfl
          · intro ev W hf _ _ hst hd
            obtain ⟨d33, d34, _⟩ := hd
            have e33 : ev (.tmp 33) = .slice (some ⟨lb, 0, none⟩) L.length lcap := d33
            have e34 : ev (.tmp 34) = .int .i64 (i : Int) := d34
            have hh := hil
            refine st_value (v := .pointer (some ⟨lb, i, none⟩)) ?_ (Below.refl _ _) ?_
            · simp [execOp, go_sem, e33, e34, hh]
            · exact rfl
          · intro ev W hf _ _ hst hd
            obtain ⟨d35, _⟩ := hd
            have e35 : ev (.tmp 35) = .pointer (some ⟨lb, i, none⟩) := d35
            have q0 := Ext.cell hst D1.out
            refine st_value (v := .slice (some ⟨cb, 0, none⟩) c.length cc) ?_ (Below.refl _ _) ?_
            · simp [execOp, go_sem, e35, q0]
            · exact rfl
          · intro ev W hf _ _ hst hd
            obtain ⟨d36, _⟩ := hd
            have e36 : ev (.tmp 36) = .slice (some ⟨cb, 0, none⟩) c.length cc := d36
            refine st_value (v := .int .i64 (c.length : Int)) ?_ (Below.refl _ _) ?_
            · simp [go_sem, e36]
            · exact rfl
          · intro ev W hf _ _ hst hd
            obtain ⟨d32, d37, _⟩ := hd
            have e32 : ev (.tmp 32) = .int .i64 p := d32
            have e37 : ev (.tmp 37) = .int .i64 (c.length : Int) := d37
            refine st_value (v := .int .i64 Y) ?_ (Below.refl _ _) ?_
            · simp [execOp, go_sem, e32, e37, hwy]
            · exact rfl
          · intro ev W hf _ _ hst hd
            obtain ⟨d30, d38, _⟩ := hd
            have e30 : ev (.tmp 30) = .int .i64 X := d30
            have e38 : ev (.tmp 38) = .int .i64 Y := d38
            refine st_value (v := .bool true) ?_ (Below.refl _ _) ?_
            · simp [execOp, go_sem, e30, e38, hbb]
            · exact rfl
        case rest =>
          intro vs w3 hl hst hg
          have hx0 : ∀ u, vs[0]? = some u → u = .slice (some ⟨ab, ao, none⟩) n ac := fun u hu => hg 0 u hu
          have hx1 : ∀ u, vs[1]? = some u → u = .slice (some ⟨lb, 0, none⟩) L.length lcap := fun u hu => hg 1 u hu
          have hx2 : ∀ u, vs[2]? = some u → u = .int .i64 (i : Int) := fun u hu => hg 2 u hu
          have hx3 : ∀ u, vs[3]? = some u → u = .pointer (some ⟨lb, i, none⟩) := fun u hu => hg 3 u hu
          have hx4 : ∀ u, vs[4]? = some u → u = .slice (some ⟨cb, 0, none⟩) c.length cc := fun u hu => hg 4 u hu
          have hx5 : ∀ u, vs[5]? = some u → u = .int .i64 s1 := fun u hu => hg 5 u hu
          have hx6 : ∀ u, vs[6]? = some u → u = .pointer (some ⟨sb, 1, none⟩) := fun u hu => hg 6 u hu
          have hx7 : ∀ u, vs[7]? = some u → u = .int .i64 q := fun u hu => hg 7 u hu
          have hx8 : ∀ u, vs[8]? = some u → u = .int .i64 X := fun u hu => hg 8 u hu
          have hx9 : ∀ u, vs[9]? = some u → u = .pointer (some ⟨sb, 0, none⟩) := fun u hu => hg 9 u hu
          have hx10 : ∀ u, vs[10]? = some u → u = .int .i64 p := fun u hu => hg 10 u hu
          have hx11 : ∀ u, vs[11]? = some u → u = .slice (some ⟨lb, 0, none⟩) L.length lcap := fun u hu => hg 11 u hu
          have hx12 : ∀ u, vs[12]? = some u → u = .int .i64 (i : Int) := fun u hu => hg 12 u hu
          have hx13 : ∀ u, vs[13]? = some u → u = .pointer (some ⟨lb, i, none⟩) := fun u hu => hg 13 u hu
          have hx14 : ∀ u, vs[14]? = some u → u = .slice (some ⟨cb, 0, none⟩) c.length cc := fun u hu => hg 14 u hu
          have hx15 : ∀ u, vs[15]? = some u → u = .int .i64 (c.length : Int) := fun u hu => hg 15 u hu
          have hx16 : ∀ u, vs[16]? = some u → u = .int .i64 Y := fun u hu => hg 16 u hu
          have hx17 : ∀ u, vs[17]? = some u → u = .bool true := fun u hu => hg 17 u hu
          have HE3 := Lib.hid hst
          clear hg hst
          obtain ⟨x0, vs0, rfl, hl0⟩ := len_succ hl
          obtain ⟨x1, vs1, rfl, hl1⟩ := len_succ hl0
          obtain ⟨x2, vs2, rfl, hl2⟩ := len_succ hl1
          obtain ⟨x3, vs3, rfl, hl3⟩ := len_succ hl2
          obtain ⟨x4, vs4, rfl, hl4⟩ := len_succ hl3
          obtain ⟨x5, vs5, rfl, hl5⟩ := len_succ hl4
          obtain ⟨x6, vs6, rfl, hl6⟩ := len_succ hl5
          obtain ⟨x7, vs7, rfl, hl7⟩ := len_succ hl6
          obtain ⟨x8, vs8, rfl, hl8⟩ := len_succ hl7
          obtain ⟨x9, vs9, rfl, hl9⟩ := len_succ hl8
          obtain ⟨x10, vs10, rfl, hl10⟩ := len_succ hl9
          obtain ⟨x11, vs11, rfl, hl11⟩ := len_succ hl10
          obtain ⟨x12, vs12, rfl, hl12⟩ := len_succ hl11
          obtain ⟨x13, vs13, rfl, hl13⟩ := len_succ hl12
          obtain ⟨x14, vs14, rfl, hl14⟩ := len_succ hl13
          obtain ⟨x15, vs15, rfl, hl15⟩ := len_succ hl14
          obtain ⟨x16, vs16, rfl, hl16⟩ := len_succ hl15
          obtain ⟨x17, vs17, rfl, hl17⟩ := len_succ hl16
          have hnil : vs17 = [] := List.length_eq_zero_iff.1 hl17
          subst hnil
          obtain rfl : x0 = .slice (some ⟨ab, ao, none⟩) n ac := hx0 _ rfl
          obtain rfl : x1 = .slice (some ⟨lb, 0, none⟩) L.length lcap := hx1 _ rfl
          obtain rfl : x2 = .int .i64 (i : Int) := hx2 _ rfl
          obtain rfl : x3 = .pointer (some ⟨lb, i, none⟩) := hx3 _ rfl
          obtain rfl : x4 = .slice (some ⟨cb, 0, none⟩) c.length cc := hx4 _ rfl
          obtain rfl : x5 = .int .i64 s1 := hx5 _ rfl
          obtain rfl : x6 = .pointer (some ⟨sb, 1, none⟩) := hx6 _ rfl
          obtain rfl : x7 = .int .i64 q := hx7 _ rfl
          obtain rfl : x8 = .int .i64 X := hx8 _ rfl
          obtain rfl : x9 = .pointer (some ⟨sb, 0, none⟩) := hx9 _ rfl
          obtain rfl : x10 = .int .i64 p := hx10 _ rfl
          obtain rfl : x11 = .slice (some ⟨lb, 0, none⟩) L.length lcap := hx11 _ rfl
          obtain rfl : x12 = .int .i64 (i : Int) := hx12 _ rfl
          obtain rfl : x13 = .pointer (some ⟨lb, i, none⟩) := hx13 _ rfl
          obtain rfl : x14 = .slice (some ⟨cb, 0, none⟩) c.length cc := hx14 _ rfl
          obtain rfl : x15 = .int .i64 (c.length : Int) := hx15 _ rfl
          obtain rfl : x16 = .int .i64 Y := hx16 _ rfl
          obtain rfl : x17 = .bool true := hx17 _ rfl
          clear hx0 hx1 hx2 hx3 hx4 hx5 hx6 hx7 hx8 hx9 hx10 hx11 hx12 hx13 hx14 hx15 hx16 hx17
          simp only [putAll, Act.put, List.setIfInBounds_toArray, List.set_cons_zero, List.set_cons_succ]
          go_wp2_with fail
          go_loopw [8] (fun kv wq => ∃ k : Nat, kv = .int .i64 (k : Int) ∧ k ≤ c.length ∧ BRow wq R 4 n (fun v => onB A p q (L.take i) v || (c.take k).contains v) ∧ OutC w2.heap.size wq (.slice (some ⟨lb, 0, none⟩) L.length lcap) L ∧ Ext w1 wq ∧ wq.cell? ⟨lb, i, none⟩ = some (.slice (some ⟨cb, 0, none⟩) c.length cc) ∧ ∀ k, k < c.length → wq.cell? ⟨cb, k, none⟩ = some (.int .i64 (gC c k : Int))) (fun kv _ => c.length - (intOf kv).toNat)
          case atStart => exact ⟨0, rfl, Nat.zero_le _, (HB.out.ext HE3.out).congr fun v _ => by simp, HO.out.ext HE3.out, Ext.trans HE.out HE3.out, Ext.cell HE3.out D1.out, fun k hk => Ext.cell HE3.out (HCC.out k hk)⟩
          case round =>
            rename World => wq
            obtain ⟨k, rfl, hk, hB, hO, hE, c1, hcs⟩ := hrel
            have HBk := Lib.hid hB
            have HOk := Lib.hid hO
            have HEk := Lib.hid hE
            have HCS := Lib.hid hcs
            have hc1k := cell_lt c1
            clear hB hO hE hcs
            by_cases hkl : k < c.length
            · have c2 := HCS.out k hkl
              have hc2k := cell_lt c2
              have hgn := HCX.out k hkl
              have hgz : (gC c k : Int) < (n : Int) := by omega
              obtain ⟨c3, f3⟩ := HBk.out.at hgn
              have hc3k := cell_lt c3
              have HPUT := Lib.hid (HBk.out.on hgn)
              have HOP := Lib.hid (HOk.out.put (a := ⟨R, gC c k, none⟩) (show R < w2.heap.size by omega) (.bool true))
              have HEP := Lib.hid (Below.setCell (p := ⟨R, gC c k, none⟩) HEk.out (show w1.heap.size ≤ R by omega) (.bool true))
              have HTC := Lib.hid (take_contains hkl)
              have HC1P := Lib.hid (show (wq.setCell ⟨R, gC c k, none⟩ (.bool true)).cell? ⟨lb, i, none⟩ = some (.slice (some ⟨cb, 0, none⟩) c.length cc) from (World.cell?_setCell_other (h := fun e => by injection e with e; omega) ..).trans c1)
              have HCSP := Lib.hid (show ∀ k2, k2 < c.length → (wq.setCell ⟨R, gC c k, none⟩ (.bool true)).cell? ⟨cb, k2, none⟩ = some (.int .i64 (gC c k2 : Int)) from fun k2 hk2 => (World.cell?_setCell_other (h := fun e => by injection e with e; omega) ..).trans (HCS.out k2 hk2))
              go_wp2_with fail
              refine ⟨⟨k + 1, by simp, by omega, HPUT.out.congr fun v _ => ?_, HOP.out, HEP.out, HC1P.out, HCSP.out⟩, by simp [intOf]; omega⟩
              rw [HTC.out, Bool.or_assoc]
            · obtain rfl : k = c.length := by omega
              have hkz : ¬ (c.length : Int) < (c.length : Int) := by omega
              go_wp2_with fail
              refine ⟨⟨i + 1, by simp, by omega, HBk.out.congr fun v _ => ?_, HOk.out, HEk.out⟩, by simp [intOf]; omega⟩
              rw [HPUSH.out, HMT.out, Bool.true_and, List.take_length]
      · have HMT := Lib.hid (show meanB A p q c = false from by rw [HMN.out]; exact decide_eq_false hXY)
        have hbb : (X == Y) = false := beq_eq_false_iff_ne.2 hXY
        clear hXY
        go_wp2_with fail
        refine wp_region_stable [⟨[], none⟩, ⟨[], none⟩, ⟨[], none⟩, ⟨[(1, 23), (2, 24)], none⟩, ⟨[(3, 25)], none⟩, ⟨[(0, 22), (4, 26)], none⟩, ⟨[], none⟩, ⟨[(6, 28)], none⟩, ⟨[(5, 27), (7, 29)], none⟩, ⟨[], none⟩, ⟨[(9, 31)], none⟩, ⟨[], none⟩, ⟨[], none⟩, ⟨[(11, 33), (12, 34)], none⟩, ⟨[(13, 35)], none⟩, ⟨[(14, 36)], none⟩, ⟨[(10, 32), (15, 37)], none⟩, ⟨[(8, 30), (16, 38)], none⟩] (fun x y => Below x.heap.size x y) (MPat [MP.eq (.slice (some ⟨ab, ao, none⟩) n ac), MP.eq (.slice (some ⟨lb, 0, none⟩) L.length lcap), MP.eq (.int .i64 (i : Int)), MP.eq (.pointer (some ⟨lb, i, none⟩)), MP.eq (.slice (some ⟨cb, 0, none⟩) c.length cc), MP.eq (.int .i64 s1), MP.eq (.pointer (some ⟨sb, 1, none⟩)), MP.eq (.int .i64 q), MP.eq (.int .i64 X), MP.eq (.pointer (some ⟨sb, 0, none⟩)), MP.eq (.int .i64 p), MP.eq (.slice (some ⟨lb, 0, none⟩) L.length lcap), MP.eq (.int .i64 (i : Int)), MP.eq (.pointer (some ⟨lb, i, none⟩)), MP.eq (.slice (some ⟨cb, 0, none⟩) c.length cc), MP.eq (.int .i64 (c.length : Int)), MP.eq (.int .i64 Y), MP.eq (.bool false)]) (by kernel_rfl) (fun _ _ _ h k => Ext.trans h k) (fun _ => Below.refl _ _) (fun x => (Below.refl x.heap.size x).drew) (MPat.mono _) (by kernel_rfl) ?obs ?rest
        case obs =>
          refine ⟨?_, ?_, ?_, ?_, ?_, ?_, ?_, ?_, ?_, ?_, ?_, ?_, ?_, ?_, ?_, ?_, ?_, ?_, trivial⟩
          · intro ev W hf _ _ hst hd
            have e0 : ev (.tmp 0) = .slice (some ⟨ab, ao, none⟩) n ac := hf 0 (by kernel_rfl)
            refine st_value (v := .slice (some ⟨ab, ao, none⟩) n ac) ?_ (Below.refl _ _) ?_
            · simp [execOp, go_sem, e0]
            · exact rfl
          · intro ev W hf _ _ hst hd
            have e6 : ev (.tmp 6) = .slice (some ⟨lb, 0, none⟩) L.length lcap := hf 6 (by kernel_rfl)
            refine st_value (v := .slice (some ⟨lb, 0, none⟩) L.length lcap) ?_ (Below.refl _ _) ?_
            · simp [execOp, go_sem, e6]
            · exact rfl
          · intro ev W hf _ _ hst hd
            have e7 : ev (.tmp 7) = .int .i64 (i : Int) := hf 7 (by kernel_rfl)
            refine st_value (v := .int .i64 (i : Int)) ?_ (Below.refl _ _) ?_
            · simp [execOp, go_sem, e7]
            · exact rfl
          · intro ev W hf _ _ hst hd
            obtain ⟨d23, d24, _⟩ := hd
            have e23 : ev (.tmp 23) = .slice (some ⟨lb, 0, none⟩) L.length lcap := d23
            have e24 : ev (.tmp 24) = .int .i64 (i : Int) := d24
            have hh := hil
            refine st_value (v := .pointer (some ⟨lb, i, none⟩)) ?_ (Below.refl _ _) ?_
            · simp [execOp, go_sem, e23, e24, hh]
            · exact rfl
          · intro ev W hf _ _ hst hd
            obtain ⟨d25, _⟩ := hd
            have e25 : ev (.tmp 25) = .pointer (some ⟨lb, i, none⟩) := d25
            have q0 := Ext.cell hst D1.out
            refine st_value (v := .slice (some ⟨cb, 0, none⟩) c.length cc) ?_ (Below.refl _ _) ?_
            · simp [execOp, go_sem, e25, q0]
            · exact rfl
          · intro ev W hf _ hfn hst hd
            obtain ⟨d22, d26, _⟩ := hd
            have e22 : ev (.tmp 22) = .slice (some ⟨ab, ao, none⟩) n ac := d22
            have e26 : ev (.tmp 26) = .slice (some ⟨cb, 0, none⟩) c.length cc := d26
            refine st_call (f := 67) (args := #[.slice (some ⟨ab, ao, none⟩) n ac, .slice (some ⟨cb, 0, none⟩) c.length cc]) (by simp [execOp, go_sem, hfn, e22, e26]) (HW1.out W hst) (fun _ _ => rfl)
          · intro ev W hf _ _ hst hd
            have e3 : ev (.tmp 3) = .pointer (some ⟨sb, 0, none⟩) := hf 3 (by kernel_rfl)
            refine st_value (v := .pointer (some ⟨sb, 1, none⟩)) ?_ (Below.refl _ _) ?_
            · simp [execOp, go_sem, e3]
            · exact rfl
          · intro ev W hf _ _ hst hd
            obtain ⟨d28, _⟩ := hd
            have e28 : ev (.tmp 28) = .pointer (some ⟨sb, 1, none⟩) := d28
            have q0 := VRow.cell (VRow.ext HS.out hst) (k := 1) rfl
            refine st_value (v := .int .i64 q) ?_ (Below.refl _ _) ?_
            · simp [execOp, go_sem, e28, q0]
            · exact rfl
          · intro ev W hf _ _ hst hd
            obtain ⟨d27, d29, _⟩ := hd
            have e27 : ev (.tmp 27) = .int .i64 s1 := d27
            have e29 : ev (.tmp 29) = .int .i64 q := d29
            refine st_value (v := .int .i64 X) ?_ (Below.refl _ _) ?_
            · simp [execOp, go_sem, e27, e29, hwx]
            · exact rfl
          · intro ev W hf _ _ hst hd
            have e3 : ev (.tmp 3) = .pointer (some ⟨sb, 0, none⟩) := hf 3 (by kernel_rfl)
            refine st_value (v := .pointer (some ⟨sb, 0, none⟩)) ?_ (Below.refl _ _) ?_
            · simp [execOp, go_sem, e3]
            · exact rfl
          · intro ev W hf _ _ hst hd
            obtain ⟨d31, _⟩ := hd
            have e31 : ev (.tmp 31) = .pointer (some ⟨sb, 0, none⟩) := d31
            have q0 := VRow.cell (VRow.ext HS.out hst) (k := 0) rfl
            refine st_value (v := .int .i64 p) ?_ (Below.refl _ _) ?_
            · simp [execOp, go_sem, e31, q0]
            · exact rfl
          · intro ev W hf _ _ hst hd
            have e6 : ev (.tmp 6) = .slice (some ⟨lb, 0, none⟩) L.length lcap := hf 6 (by kernel_rfl)
            refine st_value (v := .slice (some ⟨lb, 0, none⟩) L.length lcap) ?_ (Below.refl _ _) ?_
            · simp [execOp, go_sem, e6]
            · exact rfl
          · intro ev W hf _ _ hst hd
            have e7 : ev (.tmp 7) = .int .i64 (i : Int) := hf 7 (by kernel_rfl)
            refine st_value (v := .int .i64 (i : Int)) ?_ (Below.refl _ _) ?_
            · simp [execOp, go_sem, e7]
            · exact rfl
          · intro ev W hf _ _ hst hd
            obtain ⟨d33, d34, _⟩ := hd
            have e33 : ev (.tmp 33) = .slice (some ⟨lb, 0, none⟩) L.length lcap := d33
            have e34 : ev (.tmp 34) = .int .i64 (i : Int) := d34
            have hh := hil
            refine st_value (v := .pointer (some ⟨lb, i, none⟩)) ?_ (Below.refl _ _) ?_
            · simp [execOp, go_sem, e33, e34, hh]
            · exact rfl
          · intro ev W hf _ _ hst hd
            obtain ⟨d35, _⟩ := hd
            have e35 : ev (.tmp 35) = .pointer (some ⟨lb, i, none⟩) := d35
            have q0 := Ext.cell hst D1.out
            refine st_value (v := .slice (some ⟨cb, 0, none⟩) c.length cc) ?_ (Below.refl _ _) ?_
            · simp [execOp, go_sem, e35, q0]
            · exact rfl
          · intro ev W hf _ _ hst hd
            obtain ⟨d36, _⟩ := hd
            have e36 : ev (.tmp 36) = .slice (some ⟨cb, 0, none⟩) c.length cc := d36
            refine st_value (v := .int .i64 (c.length : Int)) ?_ (Below.refl _ _) ?_
            · simp [go_sem, e36]
            · exact rfl
          · intro ev W hf _ _ hst hd
            obtain ⟨d32, d37, _⟩ := hd
            have e32 : ev (.tmp 32) = .int .i64 p := d32
            have e37 : ev (.tmp 37) = .int .i64 (c.length : Int) := d37
            refine st_value (v := .int .i64 Y) ?_ (Below.refl _ _) ?_
            · simp [execOp, go_sem, e32, e37, hwy]
            · exact rfl
          · intro ev W hf _ _ hst hd
            obtain ⟨d30, d38, _⟩ := hd
            have e30 : ev (.tmp 30) = .int .i64 X := d30
            have e38 : ev (.tmp 38) = .int .i64 Y := d38
            refine st_value (v := .bool false) ?_ (Below.refl _ _) ?_
            · simp [execOp, go_sem, e30, e38, hbb]
            · exact rfl
        case rest =>
          intro vs w3 hl hst hg
          have hx0 : ∀ u, vs[0]? = some u → u = .slice (some ⟨ab, ao, none⟩) n ac := fun u hu => hg 0 u hu
          have hx1 : ∀ u, vs[1]? = some u → u = .slice (some ⟨lb, 0, none⟩) L.length lcap := fun u hu => hg 1 u hu
          have hx2 : ∀ u, vs[2]? = some u → u = .int .i64 (i : Int) := fun u hu => hg 2 u hu
          have hx3 : ∀ u, vs[3]? = some u → u = .pointer (some ⟨lb, i, none⟩) := fun u hu => hg 3 u hu
          have hx4 : ∀ u, vs[4]? = some u → u = .slice (some ⟨cb, 0, none⟩) c.length cc := fun u hu => hg 4 u hu
          have hx5 : ∀ u, vs[5]? = some u → u = .int .i64 s1 := fun u hu => hg 5 u hu
          have hx6 : ∀ u, vs[6]? = some u → u = .pointer (some ⟨sb, 1, none⟩) := fun u hu => hg 6 u hu
          have hx7 : ∀ u, vs[7]? = some u → u = .int .i64 q := fun u hu => hg 7 u hu
          have hx8 : ∀ u, vs[8]? = some u → u = .int .i64 X := fun u hu => hg 8 u hu
          have hx9 : ∀ u, vs[9]? = some u → u = .pointer (some ⟨sb, 0, none⟩) := fun u hu => hg 9 u hu
          have hx10 : ∀ u, vs[10]? = some u → u = .int .i64 p := fun u hu => hg 10 u hu
          have hx11 : ∀ u, vs[11]? = some u → u = .slice (some ⟨lb, 0, none⟩) L.length lcap := fun u hu => hg 11 u hu
          have hx12 : ∀ u, vs[12]? = some u → u = .int .i64 (i : Int) := fun u hu => hg 12 u hu
          have hx13 : ∀ u, vs[13]? = some u → u = .pointer (some ⟨lb, i, none⟩) := fun u hu => hg 13 u hu
          have hx14 : ∀ u, vs[14]? = some u → u = .slice (some ⟨cb, 0, none⟩) c.length cc := fun u hu => hg 14 u hu
          have hx15 : ∀ u, vs[15]? = some u → u = .int .i64 (c.length : Int) := fun u hu => hg 15 u hu
          have hx16 : ∀ u, vs[16]? = some u → u = .int .i64 Y := fun u hu => hg 16 u hu
          have hx17 : ∀ u, vs[17]? = some u → u = .bool false := fun u hu => hg 17 u hu
          have HE3 := Lib.hid hst
          clear hg hst
          obtain ⟨x0, vs0, rfl, hl0⟩ := len_succ hl
          obtain ⟨x1, vs1, rfl, hl1⟩ := len_succ hl0
          obtain ⟨x2, vs2, rfl, hl2⟩ := len_succ hl1
          obtain ⟨x3, vs3, rfl, hl3⟩ := len_succ hl2
          obtain ⟨x4, vs4, rfl, hl4⟩ := len_succ hl3
          obtain ⟨x5, vs5, rfl, hl5⟩ := len_succ hl4
          obtain ⟨x6, vs6, rfl, hl6⟩ := len_succ hl5
          obtain ⟨x7, vs7, rfl, hl7⟩ := len_succ hl6
          obtain ⟨x8, vs8, rfl, hl8⟩ := len_succ hl7
          obtain ⟨x9, vs9, rfl, hl9⟩ := len_succ hl8
          obtain ⟨x10, vs10, rfl, hl10⟩ := len_succ hl9
          obtain ⟨x11, vs11, rfl, hl11⟩ := len_succ hl10
          obtain ⟨x12, vs12, rfl, hl12⟩ := len_succ hl11
          obtain ⟨x13, vs13, rfl, hl13⟩ := len_succ hl12
          obtain ⟨x14, vs14, rfl, hl14⟩ := len_succ hl13
          obtain ⟨x15, vs15, rfl, hl15⟩ := len_succ hl14
          obtain ⟨x16, vs16, rfl, hl16⟩ := len_succ hl15
          obtain ⟨x17, vs17, rfl, hl17⟩ := len_succ hl16
          have hnil : vs17 = [] := List.length_eq_zero_iff.1 hl17
          subst hnil
          obtain rfl : x0 = .slice (some ⟨ab, ao, none⟩) n ac := hx0 _ rfl
          obtain rfl : x1 = .slice (some ⟨lb, 0, none⟩) L.length lcap := hx1 _ rfl
          obtain rfl : x2 = .int .i64 (i : Int) := hx2 _ rfl
          obtain rfl : x3 = .pointer (some ⟨lb, i, none⟩) := hx3 _ rfl
          obtain rfl : x4 = .slice (some ⟨cb, 0, none⟩) c.length cc := hx4 _ rfl
          obtain rfl : x5 = .int .i64 s1 := hx5 _ rfl
          obtain rfl : x6 = .pointer (some ⟨sb, 1, none⟩) := hx6 _ rfl
          obtain rfl : x7 = .int .i64 q := hx7 _ rfl
          obtain rfl : x8 = .int .i64 X := hx8 _ rfl
          obtain rfl : x9 = .pointer (some ⟨sb, 0, none⟩) := hx9 _ rfl
          obtain rfl : x10 = .int .i64 p := hx10 _ rfl
          obtain rfl : x11 = .slice (some ⟨lb, 0, none⟩) L.length lcap := hx11 _ rfl
          obtain rfl : x12 = .int .i64 (i : Int) := hx12 _ rfl
          obtain rfl : x13 = .pointer (some ⟨lb, i, none⟩) := hx13 _ rfl
          obtain rfl : x14 = .slice (some ⟨cb, 0, none⟩) c.length cc := hx14 _ rfl
          obtain rfl : x15 = .int .i64 (c.length : Int) := hx15 _ rfl
          obtain rfl : x16 = .int .i64 Y := hx16 _ rfl
          obtain rfl : x17 = .bool false := hx17 _ rfl
          clear hx0 hx1 hx2 hx3 hx4 hx5 hx6 hx7 hx8 hx9 hx10 hx11 hx12 hx13 hx14 hx15 hx16 hx17
          simp only [putAll, Act.put, List.setIfInBounds_toArray, List.set_cons_zero, List.set_cons_succ]
          go_wp2_with fail
          refine ⟨⟨i + 1, by simp, by omega, (HB.out.ext HE3.out).congr fun v _ => ?_, HO.out.ext HE3.out, Ext.trans HE.out HE3.out⟩, by simp [intOf]; omega⟩
          rw [HPUSH.out, HMT.out, Bool.false_and, Bool.or_false]
    · obtain rfl : i = L.length := by omega
      have HBN := Lib.hid (show BRow wr R 4 n (onB A p q (cycL n A)) from by have h := HB.out; rw [List.take_length, HLQ.out] at h; exact h)
      clear hB hO
      go_wp2_with fail
      go_loopw [9, 10] (fun lv kv wq => ∃ k : Nat, kv = .int .i64 (k : Int) ∧ k ≤ n ∧ wq.ownsRow wr.heap.size 3 1 lv (onL n A p q k).length (natsV (onL n A p q k)) ∧ Ext wr wq) (fun _ kv _ => n - (intOf kv).toNat)
      case atStart => exact ⟨0, rfl, Nat.zero_le _, ⟨by simp [natsV], .inl ⟨rfl, by simp [onL]⟩⟩, Ext.refl _⟩
      case round =>
        rename World => wq
        obtain ⟨k, rfl, hk, hown, hEq⟩ := hrel
        obtain ⟨oa, oc, rfl⟩ := own_slice hown
        have HO := Lib.hid hown
        have HEq := Lib.hid hEq
        clear hown hEq
        have hlen := onL_len n A p q k
        by_cases hlt : k < n
        · have c1 := Ext.cell HEq.out (HBN.out.at hlt).1
          have hcb := cell_lt c1
          have HSU := Lib.hid (onL_succ n A p q k)
          cases hz : onB A p q (cycL n A) k with
          | false =>
            rw [hz] at c1 HSU
            have HSU := Lib.hid (show onL n A p q (k + 1) = onL n A p q k by have h := HSU.out; simpa using h)
            clear hz
            go_wp2_with fail
            exact ⟨⟨k + 1, by simp, by omega, by rw [HSU.out]; exact HO.out, HEq.out⟩, by simp [intOf]; omega⟩
          | true =>
            rw [hz] at c1 HSU
            have HSU := Lib.hid (show onL n A p q (k + 1) = onL n A p q k ++ [k] by have h := HSU.out; simpa using h)
            have hsz := HEq.out.size
            have hob : ∀ j, Value.ownBlock (.slice oa (onL n A p q k).length oc) = some j → wr.heap.size ≤ j := fun j hj => own_block HO.out hj
            clear hz
            go_wp2_with (at_builtin; (refine wpList_append_own _ rfl _ _ 23 rfl wr.heap.size 3 i0 (.int .i64 0) 1 8 Tryz.underlying23 HI.out HZ0.out HZ1.out HZ2.out rfl (by decide) _ _ _ rfl (ownsRow_ext HO.out (Ext.alloc (Ext.refl wq) (.cells #[.int .i64 (k : Int)] 3))) ⟨wq.heap.size, 0, none⟩ 1 1 [.int .i64 (k : Int)] rfl rfl (fun j u h => cell_one_new wq _ 3 j u h) (by simp [Value.oneCell']) (by unfold maxLen; omega) (by omega) (by simp; omega) ?_; intro v' w' hown' hgrow hnil; have HO10 := Lib.hid hown'; have HG10 := Lib.hid hgrow; clear hown' hgrow hnil))
            have HE10 := Lib.hid (show Ext wr w' from Below.grown (Ext.alloc HEq.out (.cells #[.int .i64 (k : Int)] 3)) HG10.out (by have := HEq.out.size; simp; omega) (fun j e => hob j e))
            refine ⟨⟨k + 1, by simp, by omega, ?_, HE10.out⟩, by simp [intOf]; omega⟩
            rw [HSU.out]
            have h := HO10.out
            simpa [natsV] using h
        · obtain rfl : k = n := by omega
          have HI := Lib.hid (nats_ints HO.out (by omega))
          go_wp2_with fail
          go_ret
          exact ⟨_, rfl, HI.out, Ext.trans HE1.out (Ext.trans HE.out HEq.out)⟩
/-- what the reference's Critical gives -/
def RCritS (xs : List (List Int)) (e : Ending) (w' : World) : Prop :=
  (matB xs = false ∧ e = two (.slice none 0 0) (.int .i64 2)) ∨
  (matB xs = true ∧ spF xs.length (entF xs) = none ∧ e = two (.slice none 0 0) (.int .i64 10)) ∨
  (matB xs = true ∧ ∃ p q v, spF xs.length (entF xs) = some (p, q) ∧ e = two v (.int .i64 0) ∧ Ints w' v (natI (onL xs.length (entF xs) p q xs.length)))
set_option maxHeartbeats 8000000 in
theorem rCritical_c (u : Value) (xs : List (List Int)) (w : World) (hu : Rows2 w u xs) (hlx : ∀ r ∈ xs, r.length ≤ 1000000) :
    Calls Tryz.prog 25 #[u] w fun e w' => RCritS xs e w' ∧ Ext w w' := by
  have HU := Lib.hid hu
  have HSP := Lib.hid (rSpeed_c u xs w hu hlx)
  obtain ⟨a1, c1, rfl, hl1, hm1, _⟩ := hu.at
  clear hu hlx
  have HZ := Lib.hid (show speedZ xs = speedZ xs from rfl)
  obtain ⟨⟨z1, z2, z3⟩, hz⟩ : ∃ z, z = speedZ xs := ⟨_, rfl⟩
  rw [← hz] at HSP
  simp only at HSP
  unfold speedZ at hz
  by_cases hok : ∃ p q, matB xs = true ∧ spF xs.length (entF xs) = some (p, q)
  · obtain ⟨p, q, hm, hs⟩ := hok
    rw [hm] at hz
    simp only [if_true, hs, Prod.mk.injEq] at hz
    obtain ⟨rfl, rfl, rfl⟩ := hz
    have hn := (matB_ok hm).1
    have hb := spF_bd (matB_ok hm).2.2 hn.2 hs
    have HBA := Lib.hid (matB_ok hm).2.2
    have HS := Lib.hid (fun v w' (h : Ints w' v (natI (onL xs.length (entF xs) z1 z2 xs.length))) => (show RCritS xs (two v (.int .i64 0)) w' from .inr (.inr ⟨hm, z1, z2, v, hs, rfl, h⟩)))
    have HUM := Lib.hid (fun W (h : Ext w W) => rows_mat (HU.out.ext h) (matB_ok hm).2.1 hn.1)
    have hq0 : 0 ≤ z2 ∧ z2 ≤ 6 := by omega
    have hp0 := hb.1
    clear hm hs hb HZ HU
    go_enter Tryz.func25, Tryz.ntmps25
    go_wp2_with fail
    refine HSP.out.mono ?_
    rintro e w1 ⟨rfl, hE⟩
    have HE2 := Lib.hid (Ext.alloc hE (.cells #[.int .i64 z1, .int .i64 z2] 38))
    have HP2 := Lib.hid (show VRow (w1.alloc (.cells #[.int .i64 z1, .int .i64 z2] 38)) _ _ _ from vrow_alloc w1 [.int .i64 z1, .int .i64 z2] 38)
    have m0 := VRow.cell HP2.out (k := 0) rfl
    have m1 := VRow.cell HP2.out (k := 1) rfl
    clear hE
    unfold two
    go_wp2_with fail
    have HMA := Lib.hid (HUM.out _ HE2.out)
    generalize w1.alloc (.cells #[.int .i64 z1, .int .i64 z2] 38) = w2 at *
    refine (rcritical_c _ xs.length (entF xs) z1 z2 w2 hn.1 hn.2 HMA.out HBA.out hp0 hq0).mono ?_
    rintro e w3 ⟨v, rfl, hv, hE⟩
    have HV := Lib.hid hv
    have HE3 := Lib.hid (Ext.trans HE2.out hE)
    clear hv hE m0 m1
    go_wp2_with fail
    go_ret2
    exact ⟨HS.out _ _ HV.out, HE3.out⟩
  · have HBAD := Lib.hid (show z3 ≠ 0 ∧ ∀ W, RCritS xs (two (.slice none 0 0) (.int .i64 z3)) W from by
      cases hm : matB xs with
      | false =>
        rw [hm] at hz
        simp only [Bool.false_eq_true, if_false, Prod.mk.injEq] at hz
        obtain ⟨_, _, rfl⟩ := hz
        exact ⟨by decide, fun W => .inl ⟨hm, rfl⟩⟩
      | true =>
        rw [hm] at hz
        simp only [if_true] at hz
        cases hs : spF xs.length (entF xs) with
        | none =>
          rw [hs] at hz
          simp only [Prod.mk.injEq] at hz
          obtain ⟨_, _, rfl⟩ := hz
          exact ⟨by decide, fun W => .inr (.inl ⟨hm, hs, rfl⟩)⟩
        | some pq => exact absurd ⟨pq.1, pq.2, hm, hs⟩ hok)
    have hb3 : (z3 != 0) = true := by rw [bne_iff_ne]; exact HBAD.out.1
    clear hok hz HZ
    go_enter Tryz.func25, Tryz.ntmps25
    go_wp2_with fail
    refine HSP.out.mono ?_
    rintro e w1 ⟨rfl, hE⟩
    have HE1 := Lib.hid (Ext.alloc hE (.cells #[.int .i64 z1, .int .i64 z2] 38))
    clear hE
    unfold two
    go_wp2_with fail
    go_ret2
    exact ⟨HBAD.out.2 _, HE1.out⟩
end Go.Proofs.YtbcngojiikdigaaGreat

namespace Go.Proofs.YtbcngojiikdigaaGreat
set_option maxRecDepth 100000
open Go.RowKit Go.Shelf
theorem pace_neq (a b : Int) (w : World) : Sem.run Tryz.prog (binOp .neq 38 (.agg #[.int .i64 a, .int .i64 b]) (.agg #[.int .i64 a, .int .i64 b])) w = .ok (.bool false) w := by
  simp [go_sem]
theorem cyc_two {e : Ending} {base : Nat} {xs : List (List Int)} {w' : World} (h : CycS base xs e w') : ∃ r z, e = two r (.int .i64 z) := by
  rcases h with ⟨_, h⟩ | ⟨_, _, h⟩ | ⟨_, _, _, _, _, r, _, _, h, _⟩
  · exact ⟨_, _, h⟩
  · exact ⟨_, _, h⟩
  · exact ⟨_, _, h⟩
theorem rcyc_two {e : Ending} {xs : List (List Int)} {w' : World} (h : RCycS xs e w') : ∃ r z, e = two r (.int .i64 z) := by
  unfold RCycS at h
  split at h
  · split at h
    · exact ⟨_, _, h⟩
    · obtain ⟨v, h, _⟩ := h
      exact ⟨_, _, h⟩
  · exact ⟨_, _, h⟩
theorem crit_two {e : Ending} {xs : List (List Int)} {w' : World} (h : CritS xs e w') : ∃ r z, e = two r (.int .i64 z) := by
  rcases h with ⟨_, h⟩ | ⟨_, _, h⟩ | ⟨_, _, _, r, _, h, _⟩
  · exact ⟨_, _, h⟩
  · exact ⟨_, _, h⟩
  · exact ⟨_, _, h⟩
theorem rcrit_two {e : Ending} {xs : List (List Int)} {w' : World} (h : RCritS xs e w') : ∃ r z, e = two r (.int .i64 z) := by
  rcases h with ⟨_, h⟩ | ⟨_, _, h⟩ | ⟨_, _, _, r, _, h, _⟩
  · exact ⟨_, _, h⟩
  · exact ⟨_, _, h⟩
  · exact ⟨_, _, h⟩
theorem cyc_both {base : Nat} {xs : List (List Int)} {p q : Value} {z z2 : Int} {w1 w2 : World} (h1 : CycS base xs (two p (.int .i64 z)) w1) (h2 : RCycS xs (two q (.int .i64 z2)) w2) (he : Ext w1 w2) :
    z2 = z ∧ ∃ L, Ints w2 p L ∧ Ints w2 q L := by
  unfold RCycS at h2
  rcases h1 with ⟨m1, e1⟩ | ⟨m1, s1, e1⟩ | ⟨m1, a, b, m, f, r, s1, hle, e1, hr⟩
  · obtain ⟨rfl, f1⟩ := two_inj e1
    rw [m1] at h2
    simp only [Bool.false_eq_true, if_false] at h2
    obtain ⟨rfl, f2⟩ := two_inj h2
    exact ⟨by rw [int_inj f1, int_inj f2], [], ints_none _, ints_none _⟩
  · obtain ⟨rfl, f1⟩ := two_inj e1
    rw [m1, best_no s1] at h2
    simp only [if_true] at h2
    obtain ⟨rfl, f2⟩ := two_inj h2
    exact ⟨by rw [int_inj f1, int_inj f2], [], ints_none _, ints_none _⟩
  · obtain ⟨rfl, f1⟩ := two_inj e1
    rw [m1, best_code s1 hle] at h2
    simp only [if_true] at h2
    obtain ⟨v, e2, hv⟩ := h2
    obtain ⟨rfl, f2⟩ := two_inj e2
    have hlen : (codeC xs.length (lvF a b (entF xs)) f m).length = m := by
      have := hr.1
      simp [natsV] at this
      omega
    refine ⟨by rw [int_inj f1, int_inj f2], _, (nats_ints (c := codeC xs.length (lvF a b (entF xs)) f m) (by rw [hlen]; exact hr) ?_).ext he, hv⟩
    have hn := (matB_ok m1).1
    have := hle.2.1
    omega
theorem crit_both {xs : List (List Int)} {p q : Value} {z z2 : Int} {w1 w2 : World} (h1 : CritS xs (two p (.int .i64 z)) w1) (h2 : RCritS xs (two q (.int .i64 z2)) w2) (he : Ext w1 w2) :
    z2 = z ∧ ∃ L, Ints w2 p L ∧ Ints w2 q L := by
  rcases h1 with ⟨m1, e1⟩ | ⟨m1, s1, e1⟩ | ⟨m1, a, b, r, s1, e1, hr⟩
  · obtain ⟨rfl, f1⟩ := two_inj e1
    rcases h2 with ⟨_, e2⟩ | ⟨m2, _⟩ | ⟨m2, _⟩
    · obtain ⟨rfl, f2⟩ := two_inj e2
      exact ⟨by rw [int_inj f1, int_inj f2], [], ints_none _, ints_none _⟩
    · rw [m1] at m2; cases m2
    · rw [m1] at m2; cases m2
  · obtain ⟨rfl, f1⟩ := two_inj e1
    rcases h2 with ⟨m2, _⟩ | ⟨_, _, e2⟩ | ⟨_, _, _, _, s2, _⟩
    · rw [m1] at m2; cases m2
    · obtain ⟨rfl, f2⟩ := two_inj e2
      exact ⟨by rw [int_inj f1, int_inj f2], [], ints_none _, ints_none _⟩
    · rw [s1] at s2; cases s2
  · obtain ⟨rfl, f1⟩ := two_inj e1
    rcases h2 with ⟨m2, _⟩ | ⟨_, s2, _⟩ | ⟨_, a2, b2, r2, s2, e2, hr2⟩
    · rw [m1] at m2; cases m2
    · rw [s1] at s2; cases s2
    · obtain ⟨rfl, f2⟩ := two_inj e2
      rw [s1] at s2
      injection s2 with s2
      injection s2 with s3 s4
      subst s3 s4
      have hn := (matB_ok m1).1
      rw [onL_crit hn.1 s1] at hr2
      exact ⟨by rw [int_inj f1, int_inj f2], _, hr.ext he, hr2⟩
set_option maxHeartbeats 16000000 in
theorem lspeeds_c (ua : Value) (A : List (List Int)) (w : World) (hA : RowsN w ua A) :
    Calls Tryz.prog 4 #[ua] w fun e w' => e = .returned (.bool true) ∧ Ext w w' := by
  have HA := Lib.hid hA
  have HAR := Lib.hid hA.rows
  have HFA := Lib.hid (fun W (h : Ext w W) => few_c ua A W (Rows2.ext hA.rows h))
  obtain ⟨aa, ca, rfl, _, _, _⟩ := hA.at
  clear hA
  cases hfa : few20 A with
  | false =>
    rw [hfa] at HFA
    clear hfa
    go_enter Tryz.func4, Tryz.ntmps4
    go_wp2_with fail
    refine (HFA.out _ (Ext.refl _)).mono ?_
    rintro e w1 ⟨rfl, hE⟩
    have HE := Lib.hid hE
    clear hE
    go_wp2_with fail
    refine (alive_c w1).mono ?_
    rintro e wz ⟨rfl, hE⟩
    have HEz := Lib.hid (Ext.trans HE.out hE)
    clear hE
    go_wp2_with fail
    go_ret
    exact ⟨rfl, HEz.out⟩
  | true =>
    have HLA := Lib.hid (few20_ok hfa).2
    have HLA1 := Lib.hid (few20_le hfa)
    have hlA := (few20_ok hfa).1
    rw [hfa] at HFA
    clear hfa
    go_enter Tryz.func4, Tryz.ntmps4
    go_wp2_with fail
    refine (HFA.out _ (Ext.refl _)).mono ?_
    rintro e w1 ⟨rfl, hE⟩
    have HE1 := Lib.hid hE
    clear hE
    go_wp2_with fail
    refine (copied_c _ A w1 (HA.out.ext HE1.out) (by omega) HLA1.out).mono ?_
    rintro e w2 ⟨c, rfl, hc, hE⟩
    have HE2 := Lib.hid (Ext.trans HE1.out hE)
    have HC2 := Lib.hid hc
    clear hE hc
    go_wp2_with fail
    refine (Speed_c _ A w2 HC2.out HLA.out).mono ?_
    rintro e w3 ⟨rfl, hE⟩
    have HE3 := Lib.hid (Ext.trans HE2.out hE)
    have HC3 := Lib.hid (Rows2.ext HC2.out hE)
    clear hE
    obtain ⟨z1, hz1⟩ : ∃ z, z = (speedZ A).1 := ⟨_, rfl⟩
    obtain ⟨z2, hz2⟩ : ∃ z, z = (speedZ A).2.1 := ⟨_, rfl⟩
    obtain ⟨z3, hz3⟩ : ∃ z, z = (speedZ A).2.2 := ⟨_, rfl⟩
    have HRS := Lib.hid (fun W (h : Ext w W) => rSpeed_c _ A W (Rows2.ext HAR.out h) HLA.out)
    rw [← hz1, ← hz2, ← hz3] at HRS ⊢
    clear hz1 hz2 hz3
    have HEa := Lib.hid (Ext.alloc HE3.out (.cells #[.int .i64 z1, .int .i64 z2] 38))
    have HPa := Lib.hid (show VRow (w3.alloc (.cells #[.int .i64 z1, .int .i64 z2] 38)) _ _ _ from vrow_alloc w3 [.int .i64 z1, .int .i64 z2] 38)
    have HCa := Lib.hid (Rows2.ext HC3.out (Ext.alloc (Ext.refl w3) (.cells #[.int .i64 z1, .int .i64 z2] 38)))
    unfold two at *
    go_wp2_with fail
    obtain ⟨sa, hsa⟩ : ∃ sa, sa = w3.heap.size := ⟨_, rfl⟩
    rw [← hsa] at HPa ⊢
    generalize w3.alloc (.cells #[.int .i64 z1, .int .i64 z2] 38) = w4 at *
    clear hsa HE3 HC3
    refine (HRS.out w4 HEa.out).mono ?_
    rintro e w5 ⟨rfl, hE⟩
    have HEb := Lib.hid (Ext.alloc (Ext.trans HEa.out hE) (.cells #[.int .i64 z1, .int .i64 z2] 38))
    have hEb := Ext.alloc hE (.cells #[.int .i64 z1, .int .i64 z2] 38)
    have HPb := Lib.hid (show VRow (w5.alloc (.cells #[.int .i64 z1, .int .i64 z2] 38)) _ _ _ from vrow_alloc w5 [.int .i64 z1, .int .i64 z2] 38)
    have HPc := Lib.hid (VRow.ext HPa.out hEb)
    have HC5 := Lib.hid (Rows2.ext HCa.out hEb)
    have m0 := VRow.cell HPc.out (k := 0) rfl
    have m1 := VRow.cell HPc.out (k := 1) rfl
    have m2 := VRow.cell HPb.out (k := 0) rfl
    have m3 := VRow.cell HPb.out (k := 1) rfl
    have hne := pace_neq z1 z2 (w5.alloc (.cells #[.int .i64 z1, .int .i64 z2] 38))
    have hzz : (z3 != z3) = false := by simp
    clear hE hEb HRS HCa HPa
    go_wp2_with fail
    clear m0 m1 m2 m3 hne hzz
    generalize w5.alloc (.cells #[.int .i64 z1, .int .i64 z2] 38) = w6 at *
    refine (Cycle_c _ A w6 HC5.out HLA.out).mono ?_
    rintro e w7 ⟨hS1, hE⟩
    have HE7 := Lib.hid (Ext.trans HEb.out hE)
    have HC7 := Lib.hid (Rows2.ext HC5.out hE)
    obtain ⟨p2, y1, rfl⟩ := cyc_two hS1
    have HS1 := Lib.hid hS1
    clear hE hS1
    unfold two
    go_wp2_with fail
    refine (rCycle_c _ A w7 (Rows2.ext HAR.out HE7.out) HLA.out).mono ?_
    rintro e w8 ⟨hS2, hE⟩
    obtain ⟨q2, y2, rfl⟩ := rcyc_two hS2
    obtain ⟨hz, L2, hp, hq⟩ := cyc_both HS1.out hS2 hE
    subst hz
    have HE8 := Lib.hid (Ext.trans HE7.out hE)
    have HC8 := Lib.hid (Rows2.ext HC7.out hE)
    have HP8 := Lib.hid hp
    have HQ8 := Lib.hid hq
    have hzz : (y2 != y2) = false := by simp
    clear hE hS2 hp hq HS1
    unfold two
    go_wp2_with fail
    refine (same_c _ _ L2 L2 w8 HP8.out HQ8.out).mono ?_
    rintro e w9 ⟨rfl, hE⟩
    have HE9 := Lib.hid (Ext.trans HE8.out hE)
    have HC9 := Lib.hid (Rows2.ext HC8.out hE)
    rw [decide_eq_true rfl]
    clear hE hzz
    go_wp2_with fail
    refine (Critical_c _ A w9 HC9.out HLA.out).mono ?_
    rintro e w10 ⟨hS1, hE⟩
    have HE10 := Lib.hid (Ext.trans HE9.out hE)
    have HC10 := Lib.hid (Rows2.ext HC9.out hE)
    obtain ⟨p3, x1, rfl⟩ := crit_two hS1
    have HS1 := Lib.hid hS1
    clear hE hS1
    unfold two
    go_wp2_with fail
    refine (rCritical_c _ A w10 (Rows2.ext HAR.out HE10.out) HLA.out).mono ?_
    rintro e w11 ⟨hS2, hE⟩
    obtain ⟨q3, x2, rfl⟩ := rcrit_two hS2
    obtain ⟨hz, L3, hp, hq⟩ := crit_both HS1.out hS2 hE
    subst hz
    have HE11 := Lib.hid (Ext.trans HE10.out hE)
    have HC11 := Lib.hid (Rows2.ext HC10.out hE)
    have HP11 := Lib.hid hp
    have HQ11 := Lib.hid hq
    have hzz : (x2 == x2) = true := by simp
    clear hE hS2 hp hq HS1
    unfold two
    go_wp2_with fail
    refine (same_c _ _ L3 L3 w11 HP11.out HQ11.out).mono ?_
    rintro e w12 ⟨rfl, hE⟩
    have HE12 := Lib.hid (Ext.trans HE11.out hE)
    have HC12 := Lib.hid (Rows2.ext HC11.out hE)
    rw [decide_eq_true rfl]
    clear hE hzz
    go_wp2_with fail
    refine (rows_c _ _ A A w12 HC12.out (Rows2.ext HAR.out HE12.out)).mono ?_
    rintro e w13 ⟨rfl, hE⟩
    have HE13 := Lib.hid (Ext.trans HE12.out hE)
    rw [decide_eq_true rfl]
    clear hE
    go_wp2_with fail
    refine (alive_c w13).mono ?_
    rintro e wz ⟨rfl, hE⟩
    have HEz := Lib.hid (Ext.trans HE13.out hE)
    clear hE
    go_wp2_with fail
    go_ret
    exact ⟨rfl, HEz.out⟩
end Go.Proofs.YtbcngojiikdigaaGreat
