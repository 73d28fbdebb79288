import Derived.Test.YtbcngojiikdigaaGreatL25
import Derived.OwnWalkIn
namespace Go.Proofs.YtbcngojiikdigaaGreat
set_option maxRecDepth 100000
open Go.RowKit Go.Shelf
attribute [local go_sem] Oper.semAt_some
/-- does the power e come again p steps later? -/
def agB (n : Nat) (B : MF) (p e : Nat) : Bool := eqMB n (pwF n B e) (mulF n (pwF n B e) (pwF n B p))
/-- the search by halves from 2^m on, after r rounds -/
def stH (a : Nat → Bool) (m : Nat) : Nat → Nat
  | 0 => 0
  | r + 1 => if a (stH a m r + 2 ^ (m - r)) then stH a m r else stH a m r + 2 ^ (m - r)
theorem stH_bd (a : Nat → Bool) (m : Nat) : ∀ r, r ≤ m → stH a m r + 2 * 2 ^ (m - r) ≤ 2 * 2 ^ m := by
  intro r
  induction r with
  | zero => intro _; simp [stH]
  | succ r ih =>
    intro hr
    have h2 := ih (by omega)
    have hs : stH a m (r + 1) ≤ stH a m r + 2 ^ (m - r) := by simp only [stH]; split <;> omega
    have e : 2 ^ (m - r) = 2 * 2 ^ (m - (r + 1)) := by
      rw [show m - r = (m - (r + 1)) + 1 by omega, Nat.pow_succ]; omega
    omega
theorem stH_end (a : Nat → Bool) (m : Nat) : stH a m (m + 1) ≤ 2 * 2 ^ m := by
  have h := stH_bd a m m (Nat.le_refl m)
  have hs : stH a m (m + 1) ≤ stH a m m + 2 ^ (m - m) := by simp only [stH]; split <;> omega
  simp only [Nat.sub_self, Nat.pow_zero] at h hs
  omega
theorem eqMB_congr {n : Nat} {A B C D : MF} (h : eqF n A C) (k : eqF n B D) : eqMB n A B = eqMB n C D := by
  by_cases e : eqF n A B
  · rw [eqMB_iff.2 e, eqMB_iff.2 ((h.symm.trans e).trans k)]
  · rw [Bool.eq_false_iff.2 (fun x => e (eqMB_iff.1 x)), Bool.eq_false_iff.2 (fun x => e ((h.trans (eqMB_iff.1 x)).trans k.symm))]
theorem marks_end {fn : Func} {tmps : Array Value} {P : Program} {D : Nat} {v u : Value} {w W : World} (hD : W.heap[D]? = some (.deferred (some []))) (hE : Ext w W) (hd : w.heap.size ≤ D)
    (hr : ∀ W' : World, (results fn tmps).run P W' = .ok v W') (hv : v = u) : LeavesInM Fence.wide 9 P fn tmps (fun e w' => e = .returned u ∧ Ext w w') [{ target := .collected D, args := #[] }] .returning W := by
  subst hv
  refine ⟨by simp, .inl ⟨_, _, rfl, run_takeDeferred hD, ?_⟩⟩
  exact ⟨_, hr _, rfl, Below.trans hE ⟨rfl, rfl, rfl, by simp, fun j hj => World.putObj_heap_other (by omega)⟩⟩
theorem info53 : (Tryz.prog.info? 53).map (fun i => (i.zero, i.size, i.bytes)) = some (some (.slice none 0 0), 1, 24) := by kernel_rfl
def lenS : Value → Nat
  | .slice _ n _ => n
  | _ => 0
theorem pwF_prod_bd {K : Int} {n : Nat} {A : MF} (hA : bdF K n A) (hK : 0 ≤ K) {r s k0 : Nat} (hm : r + s ≤ k0) (hk : K * (k0 : Int) ≤ KB) : bdF KB n (mulF n (pwF n A r) (pwF n A s)) := fun i hi j hj => by
  rw [← pwF_add n A r s i hi j hj]; exact pw_bd hA hK hm hk i hi j hj
set_option maxHeartbeats 8000000 in
theorem start_c (u : Value) (base n p m : Nat) (B : MF) (K : Int) (w : World) (hn1 : 1 ≤ n) (hn : n ≤ 6) (hb0 : NewMat base w u 56 62 n B) (bB : bdF K n B) (hK : 0 ≤ K) (hp : p ≤ 1000000) (hm : m ≤ 40)
    (hKB : K * ((4 * 2 ^ m + 2 * p : Nat) : Int) ≤ KB) (hno : ∀ t, t < m → agB n B p (2 ^ t) = false) (hyes : agB n B p (2 ^ m) = true) (h0 : agB n B p 0 = false) :
    Calls Tryz.prog 73 #[u, .int .i64 (p : Int)] w fun e w' => e = .returned (.int .i64 ((stH (agB n B p) m (m + 1) + 1 : Nat) : Int)) ∧ Ext w w' := by
  have HB0 := Lib.hid hb0
  have hB := hb0.mat (by omega)
  have HB := Lib.hid hB
  have HBB := Lib.hid bB
  obtain ⟨ua, uc, rfl⟩ := hB.len
  have HKB := Lib.hid hKB
  have HNO := Lib.hid hno
  have HYES := Lib.hid hyes
  have H0 := Lib.hid h0
  clear hB bB hb0 hKB hno hyes h0
  refine calls_marks Tryz.func73 rfl ?_
  simp only [Tryz.ntmps73, List.size_toArray, List.length_cons, List.length_nil, Nat.reduceAdd, Nat.reduceSub, Array.replicate_succ, Array.replicate_zero, List.push_toArray, List.append_toArray, List.nil_append, List.cons_append]
  go_wp2_with fail
  refine (mpower_c _ n p B K w hn1 hn (by omega) HB.out HBB.out hK (Int.le_trans (Int.mul_le_mul_of_nonneg_left (by omega) hK) HKB.out)).mono ?_
  rintro e w1 ⟨f, rfl, hf, hE⟩
  have HF := Lib.hid hf
  have HE1 := Lib.hid hE
  obtain ⟨fa, fc, rfl⟩ := (hf.mat (by omega)).len
  clear hf hE
  have sA : (w1.alloc (.cells #[.slice (some fa) n fc] 53)).heap.size = w1.heap.size + 1 := by simp
  have pA := (vrow_alloc w1 [.slice (some fa) n fc] 53)
  have pB := vrow_alloc (w1.alloc (.cells #[.slice (some fa) n fc] 53)) [.nilFunc] 80
  rw [sA] at pB
  have hp3 := (show VRow ((w1.alloc (.cells #[.slice (some fa) n fc] 53)).alloc (.cells #[.nilFunc] 80)) _ _ _ from pB)
  have m0 := VRow.cell hp3 (k := 0) rfl
  have f0 := VRow.frozen hp3 0 none
  have hst : Sem.run Tryz.prog (store ⟨w1.heap.size + 1, 0, none⟩ (.func (.func 106) #[] #[.pointer (some ⟨w1.heap.size, 0, none⟩)])) ((w1.alloc (.cells #[.slice (some fa) n fc] 53)).alloc (.cells #[.nilFunc] 80)) = .ok () (((w1.alloc (.cells #[.slice (some fa) n fc] 53)).alloc (.cells #[.nilFunc] 80)).setCell ⟨w1.heap.size + 1, 0, none⟩ (.func (.func 106) #[] #[.pointer (some ⟨w1.heap.size, 0, none⟩)])) := by
    rw [run_store Tryz.prog _ _ _ _ rfl, m0]
    simp [f0]
  clear pB hp3
  go_wp2_with fail
  clear m0 f0 hst
  have HPF := Lib.hid (show VRow ((w1.alloc (.cells #[.slice (some fa) n fc] 53)).alloc (.cells #[.func (.func 106) #[] #[.pointer (some ⟨w1.heap.size, 0, none⟩)]] 80)) _ _ _ from VRow.alloc pA _)
  have pB := vrow_alloc (w1.alloc (.cells #[.slice (some fa) n fc] 53)) [.func (.func 106) #[] #[.pointer (some ⟨w1.heap.size, 0, none⟩)]] 80
  rw [sA] at pB
  have HPA := Lib.hid (show VRow ((w1.alloc (.cells #[.slice (some fa) n fc] 53)).alloc (.cells #[.func (.func 106) #[] #[.pointer (some ⟨w1.heap.size, 0, none⟩)]] 80)) _ _ _ from pB)
  have HEB := Lib.hid (Ext.alloc (Ext.alloc HE1.out (.cells #[.slice (some fa) n fc] 53)) (.cells #[.func (.func 106) #[] #[.pointer (some ⟨w1.heap.size, 0, none⟩)]] 80))
  have HFB := Lib.hid ((HF.out.ext (Ext.alloc (Ext.refl w1) (.cells #[.slice (some fa) n fc] 53))).ext (Ext.alloc (Ext.refl _) (.cells #[.func (.func 106) #[] #[.pointer (some ⟨w1.heap.size, 0, none⟩)]] 80)))
  have sB : ((w1.alloc (.cells #[.slice (some fa) n fc] 53)).alloc (.cells #[.func (.func 106) #[] #[.pointer (some ⟨w1.heap.size, 0, none⟩)]] 80)).heap.size = w1.heap.size + 2 := by simp
  clear pA pB sA
  generalize (w1.alloc (.cells #[.slice (some fa) n fc] 53)).alloc (.cells #[.func (.func 106) #[] #[.pointer (some ⟨w1.heap.size, 0, none⟩)]] 80) = wB at *
  refine (identity_c n wB hn1 hn).mono ?_
  rintro e w2 ⟨r2, rfl, hr2, hE⟩
  have HR2 := Lib.hid hr2
  have HE2 := Lib.hid hE
  obtain ⟨ra, rc, rfl⟩ := (hr2.mat (by omega)).len
  clear hr2 hE
  have c80 : ((w2.alloc (.cells #[.slice (some ra) n rc] 53)).alloc (.cells #[.int .i64 0] 3)).cell? ⟨w1.heap.size + 1, 0, none⟩ = some (.func (.func 106) #[] #[.pointer (some ⟨w1.heap.size, 0, none⟩)]) := VRow.cell (VRow.alloc (VRow.alloc (VRow.ext HPA.out HE2.out) _) _) (k := 0) rfl
  have hw2 : w1.heap.size + 1 < w2.heap.size := by have := HE2.out.size; omega
  go_wp2_with fail
  clear c80
  have HEr := Ext.alloc (Ext.alloc (Ext.refl w2) (.cells #[.slice (some ra) n rc] 53)) (.cells #[.int .i64 0] 3)
  have HP5 := Lib.hid (VRow.ext (VRow.ext HPF.out HE2.out) HEr)
  have HP6 := Lib.hid (VRow.ext (VRow.ext HPA.out HE2.out) HEr)
  have p7 := vrow_alloc w2 [.slice (some ra) n rc] 53
  have sC : (w2.alloc (.cells #[.slice (some ra) n rc] 53)).heap.size = w2.heap.size + 1 := by simp
  have p8 := vrow_alloc (w2.alloc (.cells #[.slice (some ra) n rc] 53)) [.int .i64 0] 3
  rw [sC] at p8
  have HP7 := Lib.hid (show VRow ((w2.alloc (.cells #[.slice (some ra) n rc] 53)).alloc (.cells #[.int .i64 0] 3)) _ _ _ from VRow.alloc p7 _)
  have HP8 := Lib.hid (show VRow ((w2.alloc (.cells #[.slice (some ra) n rc] 53)).alloc (.cells #[.int .i64 0] 3)) _ _ _ from p8)
  have HE3 := Lib.hid (Ext.trans (Ext.trans HEB.out HE2.out) HEr)
  have HFQ := Lib.hid (((MatS.new (S := fun j => j ≠ w2.heap.size ∧ j ≠ w2.heap.size + 1) HFB.out (by omega) (fun j _ hj => by omega)).ext hn1 HE2.out).ext hn1 HEr)
  have HBQ := Lib.hid (((MatS.new (S := fun j => j ≠ w2.heap.size ∧ j ≠ w2.heap.size + 1) HB0.out (by omega) (fun j _ hj => by have := HE1.out.size; omega)).ext hn1 (Ext.trans HEB.out HE2.out)).ext hn1 HEr)
  have HRQ := Lib.hid ((MatS.new (S := fun j => j ≠ w2.heap.size ∧ j ≠ w2.heap.size + 1) HR2.out (by omega) (fun j _ hj => by omega)).ext hn1 HEr)
  have hwS : w.heap.size ≤ w1.heap.size := HE1.out.size
  have sD : ((w2.alloc (.cells #[.slice (some ra) n rc] 53)).alloc (.cells #[.int .i64 0] 3)).heap.size = w2.heap.size + 2 := by simp
  clear p7 p8 sC HEr
  generalize (w2.alloc (.cells #[.slice (some ra) n rc] 53)).alloc (.cells #[.int .i64 0] 3) = w3 at *
  have hK' := hK
  have HAG := Lib.hid (fun (W : World) (v : Value) (e : Nat) (he : e ≤ 2 * 2 ^ m) (hv : MatAt W v n (pwF n B e)) (hf : MatAt W (.slice (some fa) n fc) n (pwF n B p)) (hc : VRow W w1.heap.size 53 [.slice (some fa) n fc]) =>
    (show Calls Tryz.prog 106 #[v, .pointer (some ⟨w1.heap.size, 0, none⟩)] W fun x w' => x = .returned (.bool (agB n B p e)) ∧ Ext W w' from
      again_c w1.heap.size v _ n (pwF n B e) (pwF n B p) W hn1 hn hv hf (VRow.cell hc (k := 0) rfl) (pw_bd HBB.out hK (m := e) (k0 := 4 * 2 ^ m + 2 * p) (by omega) HKB.out) (pw_bd HBB.out hK (m := p) (k0 := 4 * 2 ^ m + 2 * p) (by omega) HKB.out)
        (pw_bd2 HBB.out hK (r := e) (s := p) (k0 := 4 * 2 ^ m + 2 * p) (by omega) HKB.out) (pwF_prod_bd HBB.out hK (r := e) (s := p) (k0 := 4 * 2 ^ m + 2 * p) (by omega) HKB.out)))
  refine (HAG.out w3 _ 0 (by omega) HRQ.out.mat HFQ.out.mat HP5.out).mono ?_
  rintro e w4 ⟨rfl, hE⟩
  rw [H0.out]
  have HE4 := Lib.hid (Ext.trans HE3.out hE)
  have HP5 := Lib.hid (VRow.ext HP5.out hE)
  have HP6 := Lib.hid (VRow.ext HP6.out hE)
  have HP7 := Lib.hid (VRow.ext HP7.out hE)
  have HP8 := Lib.hid (VRow.ext HP8.out hE)
  have HFQ := Lib.hid (HFQ.out.ext hn1 hE)
  have HBQ := Lib.hid (HBQ.out.ext hn1 hE)
  have HRQ := Lib.hid (HRQ.out.ext hn1 hE)
  have hw4 : w2.heap.size + 2 ≤ w4.heap.size := by have := hE.size; omega
  clear hE
  go_wp2_with fail
  have hD0 : (w4.alloc (.cells #[.slice (some ua) n uc] 53)).ownsRow w4.heap.size 53 1 (.slice (some ⟨w4.heap.size, 0, none⟩) 1 1) 1 [.slice (some ua) n uc] :=
    ⟨rfl, .inr ⟨w4.heap.size, 1, #[.slice (some ua) n uc], rfl, Nat.le_refl _, vrow_alloc w4 [.slice (some ua) n uc] 53, Nat.le_refl _, by unfold maxLen; omega, rfl, rfl⟩⟩
  have HD0 := Lib.hid hD0
  have hEr := Ext.alloc (Ext.refl w4) (.cells #[.slice (some ua) n uc] 53)
  have HBQ := Lib.hid (HBQ.out.ext hn1 hEr)
  have HEr := Lib.hid hEr
  clear hD0 hEr
  generalize w4.alloc (.cells #[.slice (some ua) n uc] 53) = w5 at *
  obtain ⟨i0, hi0, hz0, hz1, hz2⟩ := info_parts info53
  have HI := Lib.hid hi0
  have HZ0 := Lib.hid hz0
  have HZ1 := Lib.hid hz1
  have HZ2 := Lib.hid hz2
  clear hi0 hz0 hz1 hz2 sB sD
  go_loopw [9, 10] (fun dv lv wr => ∃ (t : Nat) (vs : List Value), t ≤ m ∧ MatS (fun j => j ≠ w2.heap.size ∧ j ≠ w2.heap.size + 1) wr lv n (pwF n B (2 ^ t)) ∧ wr.ownsRow w4.heap.size 53 1 dv (t + 1) vs ∧ (∀ (i : Nat) (x : Value), vs[i]? = some x → MatS (fun j => j ≠ w2.heap.size ∧ j ≠ w2.heap.size + 1) wr x n (pwF n B (2 ^ i))) ∧ Ext w4 wr) (fun dv _ _ => m + 1 - lenS dv)
  case atStart =>
    have hB1 := HBQ.out.congr (B := pwF n B (2 ^ 0)) (show eqF n B (pwF n B 1) from (one_mulF n B).symm)
    refine ⟨0, _, Nat.zero_le _, hB1, HD0.out, fun i x h => ?_, HEr.out⟩
    match i, h with
    | 0, h => injection h with h; subst h; exact hB1
  case round =>
    rename World => wr
    obtain ⟨t, vs, ht, hl, hown, hvs, hE⟩ := hrel
    obtain ⟨dg, dc, rfl⟩ := ownsRow_succ hown
    have HL := Lib.hid hl
    have HO := Lib.hid hown
    have HVS := Lib.hid hvs
    have HE := Lib.hid hE
    obtain ⟨la, lc, rfl⟩ := hl.mat.len
    have h2t : 2 ^ t ≤ 2 ^ m := Nat.pow_le_pow_right (by omega) ht
    have hG := HAG.out wr _ (2 ^ t) (by omega) hl.mat (HFQ.out.ext hn1 hE).mat (VRow.ext HP5.out hE)
    have c80 := VRow.cell (VRow.ext HP6.out hE) (k := 0) rfl
    have hdg : w4.heap.size ≤ dg := own_block hown rfl
    have hdl : dg < wr.heap.size := own_lt hown rfl
    have hws := hE.size
    clear hl hown hvs hE HD0
    by_cases hlt : t < m
    · rw [HNO.out t hlt] at hG
      have HG := Lib.hid hG
      have h2t1 : 2 ^ (t + 1) ≤ 2 ^ m := Nat.pow_le_pow_right (by omega) hlt
      have h2s : 2 ^ (t + 1) = 2 ^ t + 2 ^ t := by rw [Nat.pow_succ]; omega
      have H2S := Lib.hid h2s
      have HT := Lib.hid (fun (W : World) (v : Value) (hv : MatAt W v n (pwF n B (2 ^ t))) => mtimes_c v v n _ _ W hn1 hn hv hv (pw_bd HBB.out hK (m := 2 ^ t) (k0 := 4 * 2 ^ m + 2 * p) (by omega) HKB.out) (pw_bd HBB.out hK (m := 2 ^ t) (k0 := 4 * 2 ^ m + 2 * p) (by omega) HKB.out) (pw_bd2 HBB.out hK (r := 2 ^ t) (s := 2 ^ t) (k0 := 4 * 2 ^ m + 2 * p) (by omega) HKB.out))
      clear hG h2t h2t1 h2s
      go_wp2_with fail
      refine HG.out.mono ?_
      rintro e w6 ⟨rfl, hE⟩
      have HE6 := Lib.hid (Ext.trans HE.out hE)
      have HL6 := Lib.hid (HL.out.ext hn1 hE)
      have HO6 := Lib.hid (ownsRow_ext HO.out hE)
      have HV6 := Lib.hid (fun (i : Nat) (x : Value) (h : vs[i]? = some x) => (HVS.out i x h).ext hn1 hE)
      clear hE c80
      go_wp2_with fail
      refine (HT.out w6 _ HL6.out.mat).mono ?_
      rintro e w7 ⟨r7, rfl, hr7, hE⟩
      have hw6 := HE6.out.size
      have HR7 := Lib.hid ((MatS.new (S := fun j => j ≠ w2.heap.size ∧ j ≠ w2.heap.size + 1) hr7 (by omega) (fun j h1 _ => by omega)).congr (B := pwF n B (2 ^ (t + 1))) (by rw [H2S.out]; exact (pwF_add n B (2 ^ t) (2 ^ t)).symm))
      have HE7 := Lib.hid (Ext.trans HE6.out hE)
      have HO7 := Lib.hid (ownsRow_ext HO6.out hE)
      have HV7 := Lib.hid (fun (i : Nat) (x : Value) (h : vs[i]? = some x) => (HV6.out i x h).ext hn1 hE)
      obtain ⟨r7a, r7c, rfl⟩ := (hr7.mat (by omega)).len
      clear hr7 hE
      have hob : ∀ j, Value.ownBlock (.slice (some ⟨dg, 0, none⟩) (t + 1) dc) = some j → w4.heap.size ≤ j := fun j hj => own_block HO.out hj
      have HL8 := Lib.hid (HR7.out.ext hn1 (Ext.alloc (Ext.refl w7) (.cells #[.slice (some r7a) n r7c] 53)))
      have HV8 := Lib.hid (fun (i : Nat) (x : Value) (h : vs[i]? = some x) => (HV7.out i x h).ext hn1 (Ext.alloc (Ext.refl w7) (.cells #[.slice (some r7a) n r7c] 53)))
      have hvl : vs.length = t + 1 := by have := HO.out.1; omega
      have hw7 := HE7.out.size
      go_wp2_with (at_builtin; (refine wpList_append_own _ rfl _ _ 97 rfl w4.heap.size 53 i0 (.slice none 0 0) 1 24 Tryz.underlying97 HI.out HZ0.out HZ1.out HZ2.out rfl (by decide) _ _ _ rfl (ownsRow_ext HO7.out (Ext.alloc (Ext.refl w7) (.cells #[.slice (some r7a) n r7c] 53))) ⟨w7.heap.size, 0, none⟩ 1 1 [.slice (some r7a) n r7c] rfl rfl (fun j u h => cell_one_new w7 _ 53 j u h) (by simp [Value.oneCell']) (by unfold maxLen; omega) (by omega) (by simp; omega) ?_; intro v' w' hown' hgrow hnil; have HO10 := Lib.hid hown'; have HG10 := Lib.hid hgrow; clear hown' hgrow hnil))
      obtain ⟨cu, hcu⟩ : ∃ cu, (w7.alloc (.cells #[.slice (some r7a) n r7c] 53)).heap[dg]? = some (.cells cu 53 (0, 0)) := by
        rcases (ownsRow_ext HO7.out (Ext.alloc (Ext.refl w7) (.cells #[.slice (some r7a) n r7c] 53))).2 with ⟨h, _⟩ | ⟨g, cap, cu, hv, _, hc, _⟩
        · cases h
        · simp only [Value.slice.injEq, Option.some.injEq, Addr.mk.injEq] at hv
          obtain ⟨⟨rfl, _⟩, _⟩ := hv
          exact ⟨cu, hc⟩
      obtain ⟨vg, vc, rfl⟩ := ownsRow_succ HO10.out
      have hLn := HL8.out.grown hn1 hcu HG10.out
      refine ⟨⟨t + 1, _, by omega, hLn, HO10.out, fun i x h => ?_, Below.grown (Ext.alloc HE7.out (.cells #[.slice (some r7a) n r7c] 53)) HG10.out (by have := HE7.out.size; simp; omega) (fun j e => hob j e)⟩, by simp only [lenS]; omega⟩
      rcases Nat.lt_trichotomy i (t + 1) with hi | hi | hi
      · rw [List.getElem?_append_left (by omega)] at h
        exact (HV8.out i x h).grown hn1 hcu HG10.out
      · subst hi
        rw [List.getElem?_append_right (by omega), hvl, Nat.sub_self] at h
        injection h with h
        subst h
        exact hLn
      · rw [List.getElem?_append_right (by omega)] at h
        have := lt_len h
        simp at this
        omega
    · obtain rfl : t = m := by omega
      rw [HYES.out] at hG
      have HG := Lib.hid hG
      clear hG
      go_wp2_with fail
      refine HG.out.mono ?_
      rintro e w6 ⟨rfl, hE⟩
      have HE6 := Lib.hid (Ext.trans HE.out hE)
      have HO6 := Lib.hid (ownsRow_ext HO.out hE)
      have HV6 := Lib.hid (fun (i : Nat) (x : Value) (h : vs[i]? = some x) => (HVS.out i x h).ext hn1 hE)
      have hwr6 := hE.size
      clear hE c80
      go_wp2_with fail
      have hvl : vs.length = t + 1 := by have := HO.out.1; omega
      refine (back_c _ (t + 1) dc w6).mono ?_
      rintro e w8 ⟨rfl, rfl⟩
      have hEr := Ext.alloc (Ext.refl w6) (.cells #[.slice (some ⟨dg, 0, none⟩) (t + 1) dc] 97)
      have HE8 := Lib.hid (Ext.trans HE6.out hEr)
      have HP9 := Lib.hid (vrow_alloc w6 [.slice (some ⟨dg, 0, none⟩) (t + 1) dc] 97)
      have HO8 := Lib.hid (ownsRow_ext HO6.out hEr)
      have HV8 := Lib.hid (fun (i : Nat) (x : Value) (h : vs[i]? = some x) => (HV6.out i x h).ext hn1 hEr)
      have hs6 : (w6.alloc (.cells #[.slice (some ⟨dg, 0, none⟩) (t + 1) dc] 97)).heap.size = w6.heap.size + 1 := by simp
      change Hid (VRow (w6.alloc (.cells #[.slice (some ⟨dg, 0, none⟩) (t + 1) dc] 97)) _ _ _) at HP9
      clear hEr
      go_wp2_with fail
      generalize w6.alloc (.cells #[.slice (some ⟨dg, 0, none⟩) (t + 1) dc] 97) = wL at *
      have hwL := HE8.out.size
      have hw6 := HE6.out.size
      have HX := Lib.hid (show ∀ (i : Nat) (x : Value), vs[i]? = some x → wL.cell? ⟨dg, 0 + i, none⟩ = some x from by
        rcases HO8.out.2 with ⟨h, _⟩ | ⟨g, cap, cu, hv, _, hc, h1, h2, h3, h4⟩
        · cases h
        · simp only [Value.slice.injEq, Option.some.injEq, Addr.mk.injEq] at hv
          obtain ⟨⟨rfl, _⟩, _⟩ := hv
          intro i x hx
          have hi := lt_len hx
          rw [← h4] at hx
          rw [List.getElem?_take_of_lt (by omega), Array.getElem?_toList] at hx
          rw [Nat.zero_add]
          simp [World.cell?, hc, hx])
      have HQ := Lib.hid (fun (W : World) (v : Value) (M : MF) (h : MatS (fun j => j ≠ w2.heap.size ∧ j ≠ w2.heap.size + 1) wL v n M) (hH : Held (fun j => j < wL.heap.size ∧ j ≠ w2.heap.size ∧ j ≠ w2.heap.size + 1) wL W) => (show MatS (fun j => j ≠ w2.heap.size ∧ j ≠ w2.heap.size + 1) W v n M from h.same hn1 fun b hb _ hl => ⟨hb, hH.block b ⟨hl, hb.1, hb.2⟩⟩))
      have HP7 := Lib.hid (VRow.ext HP7.out HE8.out)
      have HP8 := Lib.hid (VRow.ext HP8.out HE8.out)
      have HP5 := Lib.hid (VRow.ext HP5.out HE8.out)
      have HP6 := Lib.hid (VRow.ext HP6.out HE8.out)
      have HFQ := Lib.hid (HFQ.out.ext hn1 HE8.out)
      have HRQ := Lib.hid (HRQ.out.ext hn1 HE8.out)
      have HEL := Lib.hid (Ext.trans HE4.out HE8.out)
      refine (wpIn_wide (n := 9)).1 ?_
      refine wpIn_range_c (gf := 129) (lb := #[.pointer (some ⟨w6.heap.size, 0, none⟩)]) rfl (enters_of Tryz.func129 (by kernel_rfl) rfl) (t + 1) (fun j => j < wL.heap.size ∧ j ≠ w2.heap.size ∧ j ≠ w2.heap.size + 1) (fun k => #[.int .i64 ((t + 1 - 1 - k : Nat) : Int), vs.getD (t + 1 - 1 - k) undef]) (fun j hj => hj.1) (fun _ => rfl)
        (back_iter w6.heap.size dg 0 (t + 1) dc vs _ wL (fun W hH => ⟨VRow.cell (Held.vrow hH (by omega) HP9.out) (k := 0) rfl, fun i x hx => Held.cell hH (p := ⟨dg, 0 + i, none⟩) (by show dg < _ ∧ dg ≠ _ ∧ dg ≠ _; omega) (HX.out i x hx)⟩) hvl (fun i x hx => by obtain ⟨a, c, h⟩ := (HV8.out i x hx).mat.len; exact ⟨_, _, _, h⟩) (by omega) (fun j hj => hj.1))
        (fun k W => ∃ r c, VRow W w2.heap.size 53 [.slice (some r) n c] ∧ MatS (fun j => j ≠ w2.heap.size ∧ j ≠ w2.heap.size + 1) W (.slice (some r) n c) n (pwF n B (stH (agB n B p) t k)) ∧ VRow W (w2.heap.size + 1) 3 [.int .i64 (stH (agB n B p) t k : Int)] ∧ Held (fun j => j < wL.heap.size ∧ j ≠ w2.heap.size ∧ j ≠ w2.heap.size + 1) wL W) (fun _ _ => False) ?abides (fun _ _ _ h => h.elim) ⟨_, _, HP7.out, HRQ.out, HP8.out, Held.refl _ _⟩ ?round ?done (fun _ _ _ h => h.elim)
      case abides =>
        rintro k A A' ⟨r, c, h1, h2, h3, h4⟩ hb
        exact ⟨r, c, Keeps.vrow hb h1, h2.keeps hn1 hb, Keeps.vrow hb h3, h4.trans ⟨hb.os, hb.tape, hb.output, hb.size, fun j hj => hb.block j ⟨Nat.lt_of_lt_of_le hj.1 h4.size, .inl hj.1⟩⟩⟩
      case done =>
        rintro W ⟨r, c, h1, h2, h3, h4⟩ hD
        have c8 := VRow.cell h3 (k := 0) rfl
        have hEW : Ext w W := Below.trans HEL.out ⟨h4.os, h4.tape, h4.output, h4.size, fun j hj => h4.block j (by omega)⟩
        have hbd := stH_end (agB n B p) t
        have h2b := Nat.pow_le_pow_right (show 0 < 2 by omega) hm
        rw [show (2 : Nat) ^ 40 = 1099511627776 by decide] at h2b
        obtain ⟨z, hzz⟩ : ∃ z, z = stH (agB n B p) t (t + 1) := ⟨_, rfl⟩
        rw [← hzz] at c8 hbd
        have hz2 : z ≤ 4398046511104 := by omega
        have HZZ := Lib.hid hzz
        clear hzz hbd h2b
        dsimp only
        go_wp2_with fail
        rw [← HZZ.out]
        exact marks_end hD hEW (by omega) (fun _ => results_tmp rfl _ _ _) rfl
      case round =>
        rintro l k W K ⟨r, c, h7, hr, h8, hH⟩ hk hlt hK
        gi_wp2_with fail
        refine hK _ _ (fun W2 hB hlt2 => ?_) (Held.refl _ _)
        have HP7 := Lib.hid (Keeps.vrow hB h7)
        have HP8 := Lib.hid (Keeps.vrow hB h8)
        have HR := Lib.hid (hr.keeps hn1 hB)
        have HH := Lib.hid (hH.trans ⟨hB.os, hB.tape, hB.output, hB.size, fun j hj => hB.block j ⟨Nat.lt_of_lt_of_le hj.1 hH.size, .inl hj.1⟩⟩)
        have hsz := Nat.le_trans hH.size hB.size
        obtain ⟨x, hx⟩ := getElem?_len (show t - k < vs.length by omega)
        have hxd : vs[t - k]?.getD undef = x := by rw [hx]; rfl
        have hxm := HQ.out W2 _ _ (HV8.out _ x hx) HH.out
        obtain ⟨xa, xc, rfl⟩ := hxm.mat.len
        have HXM := Lib.hid hxm
        rw [hxd]
        obtain ⟨i, hi⟩ : ∃ i, i = t - k := ⟨_, rfl⟩
        rw [← hi] at HXM ⊢
        have hstep : stH (agB n B p) t (k + 1) = if agB n B p (stH (agB n B p) t k + 2 ^ i) then stH (agB n B p) t k else stH (agB n B p) t k + 2 ^ i := by rw [hi]; rfl
        have HST := Lib.hid hstep
        obtain ⟨e0, he0⟩ : ∃ e0, e0 = stH (agB n B p) t k := ⟨_, rfl⟩
        rw [← he0] at HR HP8 HST
        clear hstep
        have c7 := VRow.cell HP7.out (k := 0) rfl
        have hbd := stH_bd (agB n B p) t k (by omega)
        rw [← he0, ← hi] at hbd
        have hit : i ≤ t := by omega
        clear hi he0 h7 hr h8 hH hK hB hxm hx hxd
        gi_wp2_with fail
        refine ⟨trivial, Open.calls (Open.inRound Open.wide l) ((mtimes_c _ _ n _ _ W2 hn1 hn HR.out.mat HXM.out.mat (pw_bd HBB.out hK' (m := e0) (k0 := 4 * 2 ^ t + 2 * p) (by omega) HKB.out) (pw_bd HBB.out hK' (m := 2 ^ i) (k0 := 4 * 2 ^ t + 2 * p) (by omega) HKB.out) (pw_bd2 HBB.out hK' (r := e0) (s := 2 ^ i) (k0 := 4 * 2 ^ t + 2 * p) (by omega) HKB.out)).mono ?_)⟩
        rintro e w10 ⟨r10, rfl, hr10, hE⟩
        have HLA := Lib.hid ((MatS.new (S := fun j => j ≠ w2.heap.size ∧ j ≠ w2.heap.size + 1) hr10 (by omega) (fun j _ hj => by omega)).congr (pwF_add n B e0 (2 ^ i)).symm)
        obtain ⟨r10a, r10c, rfl⟩ := (hr10.mat (by omega)).len
        have HP7 := Lib.hid (VRow.ext HP7.out hE)
        have HP8 := Lib.hid (VRow.ext HP8.out hE)
        have HR := Lib.hid (HR.out.ext hn1 hE)
        have HE10 := Lib.hid hE
        have HH10 := Lib.hid (HH.out.trans (Held.ext hE (fun j hj => by omega)))
        have hs10 := hE.size
        clear hr10 hE c7
        have c80 := VRow.cell (Held.vrow HH10.out (by omega) HP6.out) (k := 0) rfl
        have HP5 := Lib.hid (Held.vrow HH10.out (by omega) HP5.out)
        have HFQ := Lib.hid (HQ.out _ _ _ HFQ.out HH10.out)
        have hG := HAG.out w10 _ (e0 + 2 ^ i) (by omega) HLA.out.mat HFQ.out.mat HP5.out
        cases hz : agB n B p (e0 + 2 ^ i) with
        | true =>
          rw [hz] at hG HST
          have HST := Lib.hid (show stH (agB n B p) t (k + 1) = e0 from by have h := HST.out; simpa using h)
          have HG := Lib.hid hG
          clear hG hz
          gi_wp2_with fail
          refine ⟨trivial, Open.calls (Open.inRound Open.wide l) (HG.out.mono ?_)⟩
          rintro e w11 ⟨rfl, hE⟩
          have HE11 := Lib.hid hE
          clear hE c80
          gi_wp2_with fail
          refine ⟨Held.ext (Ext.trans HE10.out HE11.out) (fun j hj => by omega), r, c, VRow.ext HP7.out HE11.out, ?_, by rw [HST.out]; exact VRow.ext HP8.out HE11.out, HH10.out.trans (Held.ext HE11.out (fun j hj => by omega))⟩
          rw [HST.out]
          exact HR.out.ext hn1 HE11.out
        | false =>
          rw [hz] at hG HST
          have HST := Lib.hid (show stH (agB n B p) t (k + 1) = e0 + 2 ^ i from by have h := HST.out; simpa using h)
          have HG := Lib.hid hG
          clear hG hz
          gi_wp2_with fail
          refine ⟨trivial, Open.calls (Open.inRound Open.wide l) (HG.out.mono ?_)⟩
          rintro e w11 ⟨rfl, hE⟩
          have HE11 := Lib.hid hE
          clear hE c80
          gi_wp2_with fail
          have h2e := Nat.pow_le_pow_right (show 0 < 2 by omega) hm
          rw [show (2 : Nat) ^ 40 = 1099511627776 by decide] at h2e
          have HP7 := Lib.hid (VRow.ext HP7.out HE11.out)
          have HP8 := Lib.hid (VRow.ext HP8.out HE11.out)
          have HS2 := Lib.hid (show IntKind.i64.wrap ((e0 : Int) + ((2 ^ i : Nat) : Int)) = ((e0 + 2 ^ i : Nat) : Int) from by rw [IntWalk.i64_in _ (by omega)]; omega)
          have hsh : IntKind.i64.wrap (2 ^ min i 64) = ((2 ^ i : Nat) : Int) := by
            rw [Nat.min_eq_left (by omega), show (2 : Int) ^ i = ((2 ^ i : Nat) : Int) by simp]
            exact IntWalk.i64_in _ (by omega)
          have q7 := HP7.out
          have q8 := HP8.out
          have m7 := VRow.cell q7 (k := 0) rfl
          have f7 := VRow.frozen q7 0 none
          have m8 := VRow.cell q8 (k := 0) rfl
          have f8 := VRow.frozen q8 0 none
          have hs2 := HS2.out
          have hval : IntKind.i64.wrap ((e0 : Int) + IntKind.i64.wrap (2 ^ i)) = ((e0 + 2 ^ i : Nat) : Int) := by
            rw [Nat.min_eq_left (by omega)] at hsh
            rw [hsh]
            exact HS2.out
          have HFIN : Held (fun j => j < wL.heap.size ∧ j ≠ w2.heap.size ∧ j ≠ w2.heap.size + 1 ∨ j = wL.heap.size ∨ j = wL.heap.size + 1) W2 ((w11.setCell ⟨w2.heap.size, 0, none⟩ (.slice (some r10a) n r10c)).setCell ⟨w2.heap.size + 1, 0, none⟩ (.int .i64 (IntKind.i64.wrap ((e0 : Int) + IntKind.i64.wrap (2 ^ i))))).drew ∧
              ∃ r c, VRow ((w11.setCell ⟨w2.heap.size, 0, none⟩ (.slice (some r10a) n r10c)).setCell ⟨w2.heap.size + 1, 0, none⟩ (.int .i64 (IntKind.i64.wrap ((e0 : Int) + IntKind.i64.wrap (2 ^ i))))).drew w2.heap.size 53 [.slice (some r) n c] ∧
                MatS (fun j => j ≠ w2.heap.size ∧ j ≠ w2.heap.size + 1) ((w11.setCell ⟨w2.heap.size, 0, none⟩ (.slice (some r10a) n r10c)).setCell ⟨w2.heap.size + 1, 0, none⟩ (.int .i64 (IntKind.i64.wrap ((e0 : Int) + IntKind.i64.wrap (2 ^ i))))).drew (.slice (some r) n c) n (pwF n B (stH (agB n B p) t (k + 1))) ∧
                VRow ((w11.setCell ⟨w2.heap.size, 0, none⟩ (.slice (some r10a) n r10c)).setCell ⟨w2.heap.size + 1, 0, none⟩ (.int .i64 (IntKind.i64.wrap ((e0 : Int) + IntKind.i64.wrap (2 ^ i))))).drew (w2.heap.size + 1) 3 [.int .i64 (stH (agB n B p) t (k + 1) : Int)] ∧
                Held (fun j => j < wL.heap.size ∧ j ≠ w2.heap.size ∧ j ≠ w2.heap.size + 1) wL ((w11.setCell ⟨w2.heap.size, 0, none⟩ (.slice (some r10a) n r10c)).setCell ⟨w2.heap.size + 1, 0, none⟩ (.int .i64 (IntKind.i64.wrap ((e0 : Int) + IntKind.i64.wrap (2 ^ i))))).drew := by
            rw [hval, HST.out]
            have s1 : ∀ S : Nat → Prop, (∀ j, S j → j ≠ w2.heap.size ∧ j ≠ w2.heap.size + 1) → Held S w11 ((w11.setCell ⟨w2.heap.size, 0, none⟩ (.slice (some r10a) n r10c)).setCell ⟨w2.heap.size + 1, 0, none⟩ (.int .i64 ((e0 + 2 ^ i : Nat) : Int))).drew := fun S hS => by
              have h := (Held.set (S := S) w11 ⟨w2.heap.size, 0, none⟩ (.slice (some r10a) n r10c) (fun j hj => (hS j hj).1)).trans (Held.set _ ⟨w2.heap.size + 1, 0, none⟩ (.int .i64 ((e0 + 2 ^ i : Nat) : Int)) (fun j hj => (hS j hj).2))
              exact ⟨h.os, h.tape, h.output, h.size, h.block⟩
            refine ⟨(Held.ext (Ext.trans HE10.out HE11.out) (fun j hj => by omega)).trans (s1 _ (fun j hj => by omega)), r10a, r10c, ?_, ?_, ?_, (HH10.out.trans (Held.ext HE11.out (fun j hj => by omega))).trans (s1 _ (fun j hj => hj.2))⟩
            · exact VRow.setOther (VRow.set q7 0 (.slice (some r10a) n r10c)) (by show w2.heap.size ≠ w2.heap.size + 1; omega) _
            · exact (HLA.out.ext hn1 HE11.out).held hn1 (s1 _ (fun j hj => hj))
            · exact VRow.set (VRow.setOther q8 (by show w2.heap.size + 1 ≠ w2.heap.size; omega) _) 0 (.int .i64 ((e0 + 2 ^ i : Nat) : Int))
          have HFIN := Lib.hid HFIN
          clear hval
          gi_region
          all_goals simp only [Exit.inBlock]
          all_goals exact HFIN.out
end Go.Proofs.YtbcngojiikdigaaGreat
