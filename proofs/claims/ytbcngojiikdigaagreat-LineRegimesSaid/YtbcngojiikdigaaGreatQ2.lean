import Derived.Test.YtbcngojiikdigaaGreatQ1
import Derived.Test.YtbcngojiikdigaaGreatL38
import Derived.Laws.AppendOwnNone
import Derived.Test.YtbcngojiikdigaaGreatL36
import Derived.Deep.CutRange
import Derived.Deep.AppendLies
import Derived.Deep.RegionLaw
namespace Go.Proofs.YtbcngojiikdigaaGreat
set_option maxRecDepth 100000
open Go.RowKit Go.Shelf
theorem NewVec.ext {base t n : Nat} {w w' : World} {v : Value} {x : Nat → E} (h : NewVec base w v t n x) (he : Ext w w') : NewVec base w' v t n x := by
  obtain ⟨R, h1, h2, h3⟩ := h
  exact ⟨R, h1, h2, h3.below he h3.lt⟩
theorem NewVec.mono {base c t n : Nat} {w : World} {v : Value} {x : Nat → E} (h : NewVec base w v t n x) (hc : c ≤ base) : NewVec c w v t n x := by
  obtain ⟨R, h1, h2, h3⟩ := h
  exact ⟨R, by omega, h2, h3⟩
def MP.mat (n : Nat) (M : MF) : MP := ⟨fun u w => MatAt w u n M, fun _ _ _ h hh => MatAt.ext hh h⟩
def MP.vec (n : Nat) (x : Nat → E) : MP := ⟨fun u w => VecAt w u n x, fun _ _ _ h hh => VecAt.ext hh h⟩
def MP.nvec (base t n : Nat) (x : Nat → E) : MP := ⟨fun u w => NewVec base w u t n x, fun _ _ _ h hh => NewVec.ext hh h⟩
theorem zero_vec (w : World) (n : Nat) (hn : n ≤ 6) : VecAt (w.alloc (.cells (Array.replicate n (.int .i64 0)) 56)) (.slice (some ⟨w.heap.size, 0, none⟩) n n) n (fun _ => some 0) := by
  have h := vrow_rep w (.int .i64 0) n 56
  refine ERow.vec (t := 56) ⟨_, h, by simp, fun b hb => ?_⟩ (by omega)
  rw [List.getElem?_replicate, if_pos hb]
  rfl
/-- what Potential gives -/
def PotS (base : Nat) (xs : List (List Int)) (e : Ending) (w' : World) : Prop :=
  (matB xs = false ∧ e = two (.slice none 0 0) (.int .i64 2)) ∨
  (matB xs = true ∧ spF xs.length (entF xs) = none ∧ e = two (.slice none 0 0) (.int .i64 10)) ∨
  (matB xs = true ∧ ∃ p q v, spF xs.length (entF xs) = some (p, q) ∧ e = two v (.int .i64 0) ∧ NewVec base w' v 3 xs.length (potF xs.length (lvF p q (entF xs))))
set_option maxHeartbeats 8000000 in
theorem Potential_c (u : Value) (xs : List (List Int)) (w : World) (hu : Rows2 w u xs) (hlx : ∀ r ∈ xs, r.length ≤ 1000000) :
    Calls Tryz.prog 26 #[u] w fun e w' => PotS w.heap.size xs e w' ∧ Ext w w' := by
  have HL := Lib.hid (leveled_c u xs w hu hlx)
  obtain ⟨a1, c1, rfl, hl1, hm1, _⟩ := hu.at
  clear hu hlx
  go_enter Tryz.func26, Tryz.ntmps26
  go_wp2_with fail
  refine HL.out.mono ?_
  rintro e w1 ⟨hS, hE⟩
  have HE := Lib.hid hE
  clear hE
  rcases hS with ⟨hm, rfl⟩ | ⟨hm, hs, rfl⟩ | ⟨hm, p, q, r, hs, rfl, hr⟩
  · have HS := Lib.hid (fun w' => (show PotS w.heap.size xs (two (.slice none 0 0) (.int .i64 2)) w' from .inl ⟨hm, rfl⟩))
    clear hm
    unfold two
    go_wp2_with fail
    go_ret2
    exact ⟨HS.out _, HE.out⟩
  · have HS := Lib.hid (fun w' => (show PotS w.heap.size xs (two (.slice none 0 0) (.int .i64 10)) w' from .inr (.inl ⟨hm, hs, rfl⟩)))
    clear hm hs
    unfold two
    go_wp2_with fail
    go_ret2
    exact ⟨HS.out _, HE.out⟩
  · have hn := (matB_ok hm).1
    have hb := spF_bd (matB_ok hm).2.2 hn.2 hs
    have HB := Lib.hid (lvF_bd (matB_ok hm).2.2 hb.1 hb.2)
    have HS := Lib.hid (fun v w' (h : NewVec w.heap.size w' v 3 xs.length (potF xs.length (lvF p q (entF xs)))) => (show PotS w.heap.size xs (two v (.int .i64 0)) w' from .inr (.inr ⟨hm, p, q, v, hs, rfl, h⟩)))
    have HR := Lib.hid hr
    obtain ⟨ra, rc, rfl⟩ := (hr.mat (by omega)).len
    have hws := HE.out.size
    clear hm hs hr hb hl1 hm1
    generalize lvF p q (entF xs) = B at *
    generalize xs.length = n at *
    unfold two at *
    have hcb : bdF 72000 n (closF n B) := (bdF_pw (bdF_add ((bdF_one n).mono (by decide)) HB.out) (n - 1)).mono (by omega)
    have HCB := Lib.hid (hcb.mono (show (72000 : Int) ≤ KB by unfold KB; omega))
    have HZB := Lib.hid (show ∀ i, i < n → bdE KB ((fun _ => some 0 : Nat → E) i) from fun i _ y hy => by injection hy with hy; subst hy; unfold KB; omega)
    have HMB := Lib.hid (show ∀ i, i < n → ∀ j, j < n → bdE KB (ep (closF n B i j) ((fun _ => some 0 : Nat → E) j)) from fun i hi j hj => by
      simp only [ep_zero]
      exact (hcb i hi j hj).mono (by unfold KB; omega))
    clear hcb
    go_wp2_with fail
    refine wp_region_stable [⟨[], none⟩, ⟨[(0, 14)], none⟩, ⟨[], none⟩, ⟨[(2, 16)], none⟩, ⟨[(3, 17)], none⟩, ⟨[(1, 15), (4, 18)], none⟩, ⟨[(5, 19)], none⟩, ⟨[(6, 20)], none⟩, ⟨[], none⟩] (fun x y => Below x.heap.size x y) (MPat [MP.eq (.slice (some ra) n rc), MP.mat n (closF n B), MP.eq (.slice (some ra) n rc), MP.eq (.int .i64 (n : Int)), MP.vec n (fun _ => some 0), MP.vec n (potF n B), MP.nvec w.heap.size 3 n (potF n B), MP.nvec w.heap.size 3 n (potF n B), MP.eq (.int .i64 0)]) (by kernel_rfl) (fun _ _ _ h k => Ext.trans h k) (fun _ => Below.refl _ _) (fun x => (Below.refl x.heap.size x).drew) (MPat.mono _) (by kernel_rfl) ?obs ?rest
    case obs =>
      refine ⟨?_, ?_, ?_, ?_, ?_, ?_, ?_, ?_, ?_, trivial⟩
      · intro ev W hf _ _ hst hd
        have e4 : ev (.tmp 4) = .slice (some ra) n rc := hf 4 (by kernel_rfl)
        refine st_value (v := .slice (some ra) n rc) ?_ (Below.refl _ _) ?_
        · simp [execOp, go_sem, e4]
        · exact rfl
      · intro ev W hf _ hfn hst hd
        obtain ⟨d14, _⟩ := hd
        have e14 : ev (.tmp 14) = .slice (some ra) n rc := d14
        refine st_enter (f := 64) (args := #[.slice (some ra) n rc]) (by simp [execOp, go_sem, hfn, e14]) ?_
        refine (closure_c _ n B 12000 W hn.1 hn.2 ((HR.out.ext hst).mat (by omega)) HB.out (by omega) (by unfold KB; omega)).mono ?_
        rintro e w' ⟨r, rfl, h1, h2⟩
        exact ⟨_, rfl, h2, h1.mat (by omega)⟩
      · intro ev W hf _ _ hst hd
        have e4 : ev (.tmp 4) = .slice (some ra) n rc := hf 4 (by kernel_rfl)
        refine st_value (v := .slice (some ra) n rc) ?_ (Below.refl _ _) ?_
        · simp [execOp, go_sem, e4]
        · exact rfl
      · intro ev W hf _ _ hst hd
        obtain ⟨d16, _⟩ := hd
        have e16 : ev (.tmp 16) = .slice (some ra) n rc := d16
        refine st_value (v := .int .i64 (n : Int)) ?_ (Below.refl _ _) ?_
        · simp [execOp, go_sem, e16]
        · exact rfl
      · intro ev W hf _ hfn hst hd
        obtain ⟨d17, _⟩ := hd
        have e17 : ev (.tmp 17) = .int .i64 (n : Int) := d17
        have hmk := run_make_row n (by omega) W
        refine st_new (v := .slice (some ⟨W.heap.size, 0, none⟩) n n) (o := .cells (Array.replicate n (.int .i64 0)) 56) ?_ ?_
        · simp [execOp, go_sem, e17, hmk]
        · exact zero_vec W n (by omega)
      · intro ev W hf _ hfn hst hd
        obtain ⟨d15, d18, _⟩ := hd
        have d15 : MatAt W (ev (.tmp 15)) n (closF n B) := d15
        have d18 : VecAt W (ev (.tmp 18)) n (fun _ => some 0) := d18
        refine st_enter (f := 50) (args := #[ev (.tmp 15), ev (.tmp 18)]) (by simp [execOp, go_sem, hfn]) ?_
        refine (mof_c _ _ n _ _ W hn.1 hn.2 d15 d18 HCB.out HZB.out HMB.out).mono ?_
        rintro e w' ⟨r, rfl, h1, h2⟩
        exact ⟨_, rfl, h2, h1.vec (by omega)⟩
      · intro ev W hf _ hfn hst hd
        obtain ⟨d19, _⟩ := hd
        have d19 : VecAt W (ev (.tmp 19)) n (potF n B) := d19
        refine st_enter (f := 49) (args := #[ev (.tmp 19), .func (.func 53) #[] #[]]) (by simp [execOp, go_sem, hfn]) ?_
        refine (lint_c _ n _ _ W hn.1 hn.2 d19 fun i _ W2 _ => calls_same (toInt_c _ W2)).mono ?_
        rintro e w' ⟨r, rfl, h1, h2⟩
        exact ⟨_, rfl, h2, h1.mono (by have := hst.size; omega)⟩
      · intro ev W hf _ hfn hst hd
        obtain ⟨d20, _⟩ := hd
        have d20 : NewVec w.heap.size W (ev (.tmp 20)) 3 n (potF n B) := d20
        refine st_value (v := ev (.tmp 20)) ?_ (Below.refl _ _) d20
        simp [execOp, go_sem]
      · intro ev W hf hcst _ hst hd
        refine st_value (v := .int .i64 0) ?_ (Below.refl _ _) ?_
        · simp [execOp, go_sem, hcst]
        · exact rfl
    case rest =>
      intro vs w3 hl hst hg
      have HE3 := Lib.hid hst
      have h7 : ∀ u, vs[7]? = some u → NewVec w.heap.size w3 u 3 n (potF n B) := fun u hu => hg 7 u hu
      have h8 : ∀ u, vs[8]? = some u → u = .int .i64 0 := fun u hu => hg 8 u hu
      clear hg hst
      obtain ⟨x0, vs0, rfl, hl0⟩ := len_succ hl
      obtain ⟨x1, vs1, rfl, hl1⟩ := len_succ hl0
      obtain ⟨x2, vs2, rfl, hl2⟩ := len_succ hl1
      obtain ⟨x3, vs3, rfl, hl3⟩ := len_succ hl2
      obtain ⟨x4, vs4, rfl, hl4⟩ := len_succ hl3
      obtain ⟨x5, vs5, rfl, hl5⟩ := len_succ hl4
      obtain ⟨x6, vs6, rfl, hl6⟩ := len_succ hl5
      obtain ⟨x7, vs7, rfl, hl7⟩ := len_succ hl6
      obtain ⟨x8, vs8, rfl, hl8⟩ := len_succ hl7
      have hnil : vs8 = [] := List.length_eq_zero_iff.1 hl8
      subst hnil
      obtain rfl : x8 = .int .i64 0 := h8 _ rfl
      have HN := Lib.hid (h7 _ rfl)
      clear h7 h8
      simp only [putAll, Act.put, List.setIfInBounds_toArray, List.set_cons_zero, List.set_cons_succ]
      go_wp2_with fail
      go_ret2
      exact ⟨HS.out _ _ HN.out, Ext.trans HE.out HE3.out⟩
/-- what Cycle gives -/
def CycS (base : Nat) (xs : List (List Int)) (e : Ending) (w' : World) : Prop :=
  (matB xs = false ∧ e = two (.slice none 0 0) (.int .i64 2)) ∨
  (matB xs = true ∧ spF xs.length (entF xs) = none ∧ e = two (.slice none 0 0) (.int .i64 10)) ∨
  (matB xs = true ∧ ∃ p q m f v, spF xs.length (entF xs) = some (p, q) ∧ Least xs.length (lvF p q (entF xs)) m f ∧ e = two v (.int .i64 0) ∧ w'.ownsRow base 3 1 v m (natsV (codeC xs.length (lvF p q (entF xs)) f m)))
set_option maxHeartbeats 4000000 in
theorem Cycle_c (u : Value) (xs : List (List Int)) (w : World) (hu : Rows2 w u xs) (hlx : ∀ r ∈ xs, r.length ≤ 1000000) :
    Calls Tryz.prog 22 #[u] w fun e w' => CycS w.heap.size xs e w' ∧ Ext w w' := by
  have HL := Lib.hid (leveled_c u xs w hu hlx)
  obtain ⟨a1, c1, rfl, hl1, hm1, _⟩ := hu.at
  clear hu hlx
  go_enter Tryz.func22, Tryz.ntmps22
  go_wp2_with fail
  refine HL.out.mono ?_
  rintro e w1 ⟨hS, hE⟩
  have HE := Lib.hid hE
  clear hE
  rcases hS with ⟨hm, rfl⟩ | ⟨hm, hs, rfl⟩ | ⟨hm, p, q, r, hs, rfl, hr⟩
  · have HS := Lib.hid (fun w' => (show CycS w.heap.size xs (two (.slice none 0 0) (.int .i64 2)) w' from .inl ⟨hm, rfl⟩))
    clear hm
    unfold two
    go_wp2_with fail
    go_ret2
    exact ⟨HS.out _, HE.out⟩
  · have HS := Lib.hid (fun w' => (show CycS w.heap.size xs (two (.slice none 0 0) (.int .i64 10)) w' from .inr (.inl ⟨hm, hs, rfl⟩)))
    clear hm hs
    unfold two
    go_wp2_with fail
    go_ret2
    exact ⟨HS.out _, HE.out⟩
  · have hn := (matB_ok hm).1
    have hb := spF_bd (matB_ok hm).2.2 hn.2 hs
    have HB := Lib.hid (lvF_bd (matB_ok hm).2.2 hb.1 hb.2)
    obtain ⟨m, f, hle⟩ := least_ex hs
    have hN := lv_noPos hs m hle.1 hle.2.1
    have HS := Lib.hid (fun v w' (h : w'.ownsRow w.heap.size 3 1 v m (natsV (codeC xs.length (lvF p q (entF xs)) f m))) => (show CycS w.heap.size xs (two v (.int .i64 0)) w' from .inr (.inr ⟨hm, p, q, m, f, v, hs, hle, rfl, h⟩)))
    have HSH := Lib.hid (shortest_c _ _ _ m f _ w1 hn.1 hn.2 hr HB.out hle hN)
    have hws := HE.out.size
    clear hm hs hr hb hl1 hm1 hle hN
    unfold two at *
    go_wp2_with fail
    refine HSH.out.mono ?_
    rintro e w2 ⟨v, rfl, hv, hE⟩
    have HV := Lib.hid (own_mono hv hws)
    have HE2 := Lib.hid (Ext.trans HE.out hE)
    clear hv hE
    go_wp2_with fail
    go_ret2
    exact ⟨HS.out _ _ HV.out, HE2.out⟩
end Go.Proofs.YtbcngojiikdigaaGreat

namespace Go.Proofs.YtbcngojiikdigaaGreat
set_option maxRecDepth 100000
open Go.RowKit Go.Shelf
attribute [local go_sem] Oper.semAt_some
set_option maxHeartbeats 8000000 in
/-- start, where the first power comes again at once -/
theorem start0_c (u : Value) (base n p : Nat) (B : MF) (K : Int) (w : World) (hn1 : 1 ≤ n) (hn : n ≤ 6) (hb0 : NewMat base w u 56 62 n B) (bB : bdF K n B) (hK : 0 ≤ K) (hp : p ≤ 1000000)
    (hKB : K * ((4 * 2 ^ 0 + 2 * p : Nat) : Int) ≤ KB) (h0 : agB n B p 0 = true) :
    Calls Tryz.prog 73 #[u, .int .i64 (p : Int)] w fun e w' => e = .returned (.int .i64 0) ∧ Ext w w' := by
  have HB0 := Lib.hid hb0
  have hB := hb0.mat (by omega)
  have HB := Lib.hid hB
  have HBB := Lib.hid bB
  obtain ⟨ua, uc, rfl⟩ := hB.len
  have HKB := Lib.hid hKB
  have H0 := Lib.hid h0
  clear hB bB hb0 hKB h0
  refine calls_marks Tryz.func73 rfl ?_
  simp only [Tryz.ntmps73, List.size_toArray, List.length_cons, List.length_nil, Nat.reduceAdd, Nat.reduceSub, Array.replicate_succ, Array.replicate_zero, List.push_toArray, List.append_toArray, List.nil_append, List.cons_append]
  go_wp2_with fail
  refine (mpower_c _ n p B K w hn1 hn (by omega) HB.out HBB.out hK (Int.le_trans (Int.mul_le_mul_of_nonneg_left (by omega) hK) HKB.out)).mono ?_
  rintro e w1 ⟨f, rfl, hf, hE⟩
  have HF := Lib.hid hf
  have HE1 := Lib.hid hE
  obtain ⟨fa, fc, rfl⟩ := (hf.mat (by omega)).len
  clear hf hE
  have sA : (w1.alloc (.cells #[.slice (some fa) n fc] 53)).heap.size = w1.heap.size + 1 := by simp
  have pA := (vrow_alloc w1 [.slice (some fa) n fc] 53)
  have pB := vrow_alloc (w1.alloc (.cells #[.slice (some fa) n fc] 53)) [.nilFunc] 80
  rw [sA] at pB
  have hp3 := (show VRow ((w1.alloc (.cells #[.slice (some fa) n fc] 53)).alloc (.cells #[.nilFunc] 80)) _ _ _ from pB)
  have m0 := VRow.cell hp3 (k := 0) rfl
  have f0 := VRow.frozen hp3 0 none
  have hst : Sem.run Tryz.prog (store ⟨w1.heap.size + 1, 0, none⟩ (.func (.func 106) #[] #[.pointer (some ⟨w1.heap.size, 0, none⟩)])) ((w1.alloc (.cells #[.slice (some fa) n fc] 53)).alloc (.cells #[.nilFunc] 80)) = .ok () (((w1.alloc (.cells #[.slice (some fa) n fc] 53)).alloc (.cells #[.nilFunc] 80)).setCell ⟨w1.heap.size + 1, 0, none⟩ (.func (.func 106) #[] #[.pointer (some ⟨w1.heap.size, 0, none⟩)])) := by
    rw [run_store Tryz.prog _ _ _ _ rfl, m0]
    simp [f0]
  clear pB hp3
  go_wp2_with fail
  clear m0 f0 hst
  have HPF := Lib.hid (show VRow ((w1.alloc (.cells #[.slice (some fa) n fc] 53)).alloc (.cells #[.func (.func 106) #[] #[.pointer (some ⟨w1.heap.size, 0, none⟩)]] 80)) _ _ _ from VRow.alloc pA _)
  have pB := vrow_alloc (w1.alloc (.cells #[.slice (some fa) n fc] 53)) [.func (.func 106) #[] #[.pointer (some ⟨w1.heap.size, 0, none⟩)]] 80
  rw [sA] at pB
  have HPA := Lib.hid (show VRow ((w1.alloc (.cells #[.slice (some fa) n fc] 53)).alloc (.cells #[.func (.func 106) #[] #[.pointer (some ⟨w1.heap.size, 0, none⟩)]] 80)) _ _ _ from pB)
  have HEB := Lib.hid (Ext.alloc (Ext.alloc HE1.out (.cells #[.slice (some fa) n fc] 53)) (.cells #[.func (.func 106) #[] #[.pointer (some ⟨w1.heap.size, 0, none⟩)]] 80))
  have HFB := Lib.hid ((HF.out.ext (Ext.alloc (Ext.refl w1) (.cells #[.slice (some fa) n fc] 53))).ext (Ext.alloc (Ext.refl _) (.cells #[.func (.func 106) #[] #[.pointer (some ⟨w1.heap.size, 0, none⟩)]] 80)))
  have sB : ((w1.alloc (.cells #[.slice (some fa) n fc] 53)).alloc (.cells #[.func (.func 106) #[] #[.pointer (some ⟨w1.heap.size, 0, none⟩)]] 80)).heap.size = w1.heap.size + 2 := by simp
  clear pA pB sA
  generalize (w1.alloc (.cells #[.slice (some fa) n fc] 53)).alloc (.cells #[.func (.func 106) #[] #[.pointer (some ⟨w1.heap.size, 0, none⟩)]] 80) = wB at *
  refine (identity_c n wB hn1 hn).mono ?_
  rintro e w2 ⟨r2, rfl, hr2, hE⟩
  have HR2 := Lib.hid hr2
  have HE2 := Lib.hid hE
  obtain ⟨ra, rc, rfl⟩ := (hr2.mat (by omega)).len
  clear hr2 hE
  have c80 : ((w2.alloc (.cells #[.slice (some ra) n rc] 53)).alloc (.cells #[.int .i64 0] 3)).cell? ⟨w1.heap.size + 1, 0, none⟩ = some (.func (.func 106) #[] #[.pointer (some ⟨w1.heap.size, 0, none⟩)]) := VRow.cell (VRow.alloc (VRow.alloc (VRow.ext HPA.out HE2.out) _) _) (k := 0) rfl
  have hw2 : w1.heap.size + 1 < w2.heap.size := by have := HE2.out.size; omega
  go_wp2_with fail
  clear c80
  have HEr := Ext.alloc (Ext.alloc (Ext.refl w2) (.cells #[.slice (some ra) n rc] 53)) (.cells #[.int .i64 0] 3)
  have HP5 := Lib.hid (VRow.ext (VRow.ext HPF.out HE2.out) HEr)
  have HP6 := Lib.hid (VRow.ext (VRow.ext HPA.out HE2.out) HEr)
  have p7 := vrow_alloc w2 [.slice (some ra) n rc] 53
  have sC : (w2.alloc (.cells #[.slice (some ra) n rc] 53)).heap.size = w2.heap.size + 1 := by simp
  have p8 := vrow_alloc (w2.alloc (.cells #[.slice (some ra) n rc] 53)) [.int .i64 0] 3
  rw [sC] at p8
  have HP7 := Lib.hid (show VRow ((w2.alloc (.cells #[.slice (some ra) n rc] 53)).alloc (.cells #[.int .i64 0] 3)) _ _ _ from VRow.alloc p7 _)
  have HP8 := Lib.hid (show VRow ((w2.alloc (.cells #[.slice (some ra) n rc] 53)).alloc (.cells #[.int .i64 0] 3)) _ _ _ from p8)
  have HE3 := Lib.hid (Ext.trans (Ext.trans HEB.out HE2.out) HEr)
  have HFQ := Lib.hid (((MatS.new (S := fun j => j ≠ w2.heap.size ∧ j ≠ w2.heap.size + 1) HFB.out (by omega) (fun j _ hj => by omega)).ext hn1 HE2.out).ext hn1 HEr)
  have HBQ := Lib.hid (((MatS.new (S := fun j => j ≠ w2.heap.size ∧ j ≠ w2.heap.size + 1) HB0.out (by omega) (fun j _ hj => by have := HE1.out.size; omega)).ext hn1 (Ext.trans HEB.out HE2.out)).ext hn1 HEr)
  have HRQ := Lib.hid ((MatS.new (S := fun j => j ≠ w2.heap.size ∧ j ≠ w2.heap.size + 1) HR2.out (by omega) (fun j _ hj => by omega)).ext hn1 HEr)
  have hwS : w.heap.size ≤ w1.heap.size := HE1.out.size
  have sD : ((w2.alloc (.cells #[.slice (some ra) n rc] 53)).alloc (.cells #[.int .i64 0] 3)).heap.size = w2.heap.size + 2 := by simp
  clear p7 p8 sC HEr
  generalize (w2.alloc (.cells #[.slice (some ra) n rc] 53)).alloc (.cells #[.int .i64 0] 3) = w3 at *
  have hK' := hK
  have HAG := Lib.hid (fun (W : World) (v : Value) (e : Nat) (he : e ≤ 2 * 2 ^ 0) (hv : MatAt W v n (pwF n B e)) (hf : MatAt W (.slice (some fa) n fc) n (pwF n B p)) (hc : VRow W w1.heap.size 53 [.slice (some fa) n fc]) =>
    (show Calls Tryz.prog 106 #[v, .pointer (some ⟨w1.heap.size, 0, none⟩)] W fun x w' => x = .returned (.bool (agB n B p e)) ∧ Ext W w' from
      again_c w1.heap.size v _ n (pwF n B e) (pwF n B p) W hn1 hn hv hf (VRow.cell hc (k := 0) rfl) (pw_bd HBB.out hK (m := e) (k0 := 4 * 2 ^ 0 + 2 * p) (by omega) HKB.out) (pw_bd HBB.out hK (m := p) (k0 := 4 * 2 ^ 0 + 2 * p) (by omega) HKB.out)
        (pw_bd2 HBB.out hK (r := e) (s := p) (k0 := 4 * 2 ^ 0 + 2 * p) (by omega) HKB.out) (pwF_prod_bd HBB.out hK (r := e) (s := p) (k0 := 4 * 2 ^ 0 + 2 * p) (by omega) HKB.out)))
  refine (HAG.out w3 _ 0 (by omega) HRQ.out.mat HFQ.out.mat HP5.out).mono ?_
  rintro e w4 ⟨rfl, hE⟩
  rw [H0.out]
  have HE4 := Lib.hid (Ext.trans HE3.out hE)
  clear hE
  go_wp2_with fail
  exact ⟨_, results_tmp rfl _ _ _, rfl, HE4.out⟩
end Go.Proofs.YtbcngojiikdigaaGreat

namespace Go.Proofs.YtbcngojiikdigaaGreat
set_option maxRecDepth 100000
open Go.RowKit Go.Shelf
/-- start, of the period of a connected line -/
theorem startK_c (u : Value) (base n : Nat) (B : MF) (w : World) (h : Regular n B) (hb0 : NewMat base w u 56 62 n B) :
    Calls Tryz.prog 73 #[u, .int .i64 (periodF n B : Int)] w fun e w' => e = .returned (.int .i64 (regK n B : Int)) ∧ Ext w w' := by
  have hb := per_bd h
  cases h0 : agB n B (periodF n B) 0 with
  | true =>
    rw [reg_zero h h0]
    exact start0_c u base n _ B 12000 w h.n1 h.n6 hb0 h.bd (by decide) (by omega) (by unfold KB; omega) h0
  | false =>
    obtain ⟨m, hs⟩ := start_ok h h0
    rw [← start_is h hs]
    exact start_c u base n _ m B 12000 w h.n1 h.n6 hb0 h.bd (by decide) hs.2.2.1 hs.1 hs.2.1 hs.2.2.2.1 hs.2.2.2.2.1 h0
/-- what Regime gives -/
def RegZ (xs : List (List Int)) (e : Ending) : Prop :=
  (matB xs = false ∧ e = three 0 0 2) ∨
  (matB xs = true ∧ spF xs.length (entF xs) = none ∧ e = three 0 0 10) ∨
  (matB xs = true ∧ ∃ p q, spF xs.length (entF xs) = some (p, q) ∧ connB xs.length (lvF p q (entF xs)) = false ∧ e = three 0 0 10) ∨
  (matB xs = true ∧ ∃ p q, spF xs.length (entF xs) = some (p, q) ∧ connB xs.length (lvF p q (entF xs)) = true ∧
    e = three (periodF xs.length (lvF p q (entF xs)) : Nat) (regK xs.length (lvF p q (entF xs)) : Nat) 0)
set_option maxHeartbeats 4000000 in
theorem RegZ_c (u : Value) (xs : List (List Int)) (w : World) (hu : Rows2 w u xs) (hlx : ∀ r ∈ xs, r.length ≤ 1000000) :
    Calls Tryz.prog 34 #[u] w fun e w' => RegZ xs e ∧ Ext w w' := by
  have HL := Lib.hid (repeating_c u xs w hu hlx)
  obtain ⟨a1, c1, rfl, hl1, hm1, _⟩ := hu.at
  clear hu hlx
  go_enter Tryz.func34, Tryz.ntmps34
  go_wp2_with fail
  refine HL.out.mono ?_
  rintro e w1 ⟨hS, hE⟩
  have HE := Lib.hid hE
  clear hE
  rcases hS with ⟨hm, rfl⟩ | ⟨hm, hs, rfl⟩ | ⟨hm, p, q, hs, hc, rfl⟩ | ⟨hm, p, q, r, hs, hc, rfl, hr⟩
  · have HS := Lib.hid (show RegZ xs (three 0 0 2) from .inl ⟨hm, rfl⟩)
    clear hm
    unfold two
    go_wp2_with fail
    (try simp only [Exit.inBlock, Exit.then])
    refine bodyPost_ret (results_tmp3 rfl _ _ _) rfl ?_
    exact ⟨HS.out, HE.out⟩
  · have HS := Lib.hid (show RegZ xs (three 0 0 10) from .inr (.inl ⟨hm, hs, rfl⟩))
    clear hm hs
    unfold two
    go_wp2_with fail
    (try simp only [Exit.inBlock, Exit.then])
    refine bodyPost_ret (results_tmp3 rfl _ _ _) rfl ?_
    exact ⟨HS.out, HE.out⟩
  · have HS := Lib.hid (show RegZ xs (three 0 0 10) from .inr (.inr (.inl ⟨hm, p, q, hs, hc, rfl⟩)))
    clear hm hs hc
    unfold two
    go_wp2_with fail
    (try simp only [Exit.inBlock, Exit.then])
    refine bodyPost_ret (results_tmp3 rfl _ _ _) rfl ?_
    exact ⟨HS.out, HE.out⟩
  · have hn := (matB_ok hm).1
    have hb := spF_bd (matB_ok hm).2.2 hn.2 hs
    have HB := Lib.hid (lvF_bd (matB_ok hm).2.2 hb.1 hb.2)
    have hreg := lv_regular hn.1 hn.2 (matB_ok hm).2.2 hs hc
    have HS := Lib.hid (show RegZ xs (three (periodF xs.length (lvF p q (entF xs)) : Nat) (regK xs.length (lvF p q (entF xs)) : Nat) 0) from .inr (.inr (.inr ⟨hm, p, q, hs, hc, rfl⟩)))
    have HR := Lib.hid hr
    obtain ⟨ra, rc, rfl⟩ := (hr.mat (by omega)).len
    obtain ⟨n, hnn⟩ : ∃ n, n = xs.length := ⟨_, rfl⟩
    rw [← hnn] at HB HS HR hn hreg
    clear hm hs hc hr hb HL hl1 hm1
    generalize hlv : lvF p q (entF xs) = B at *
    have HST := Lib.hid (fun W u hu => startK_c u w.heap.size n B W hreg hu)
    have HNN := Lib.hid hnn
    unfold two
    rw [← hnn]
    clear hlv hreg hnn
    go_wp2_with fail
    refine (period_c _ n B w1 hn.1 hn.2 (HR.out.mat (by omega)) HB.out).mono ?_
    rintro e w2 ⟨rfl, hE⟩
    have HE2 := Lib.hid (Ext.trans HE.out hE)
    have HR2 := Lib.hid (HR.out.ext hE)
    clear hE
    generalize periodF n B = pp at *
    generalize regK n B = zz at *
    go_wp2_with fail
    refine (HST.out w2 _ HR2.out).mono ?_
    rintro e w3 ⟨rfl, hE⟩
    have HE3 := Lib.hid (Ext.trans HE2.out hE)
    clear hE
    go_wp2_with fail
    (try simp only [Exit.inBlock, Exit.then])
    refine bodyPost_ret (results_tmp3 rfl _ _ _) rfl ?_
    exact ⟨HS.out, HE3.out⟩
/-- what Connected gives -/
def ConS (xs : List (List Int)) (e : Ending) : Prop :=
  (matB xs = false ∧ e = two (.bool false) (.int .i64 2)) ∨ (matB xs = true ∧ e = two (.bool (connB xs.length (entF xs))) (.int .i64 0))
set_option maxHeartbeats 4000000 in
theorem Connected_c (u : Value) (xs : List (List Int)) (w : World) (hu : Rows2 w u xs) (hlx : ∀ r ∈ xs, r.length ≤ 1000000) :
    Calls Tryz.prog 30 #[u] w fun e w' => ConS xs e ∧ Ext w w' := by
  have HU := Lib.hid hu
  have HM := Lib.hid (isMatrix_c u xs w hu hlx)
  obtain ⟨a1, c1, rfl, hl1, hm1, _⟩ := hu.at
  clear hu hlx
  cases hx : matB xs with
  | false =>
    have HS := Lib.hid (show ConS xs (two (.bool false) (.int .i64 2)) from .inl ⟨hx, rfl⟩)
    rw [hx] at HM
    clear hx
    go_enter Tryz.func30, Tryz.ntmps30
    go_wp2_with fail
    refine HM.out.mono ?_
    rintro e w1 ⟨rfl, hE⟩
    have HE := Lib.hid hE
    clear hE
    go_wp2_with fail
    go_ret2
    exact ⟨HS.out, HE.out⟩
  | true =>
    have HOX := Lib.hid (matB_ok hx)
    have hn := HOX.out.1
    have HS := Lib.hid (show ConS xs (two (.bool (connB xs.length (entF xs))) (.int .i64 0)) from .inr ⟨hx, rfl⟩)
    rw [hx] at HM
    clear hx
    go_enter Tryz.func30, Tryz.ntmps30
    go_wp2_with fail
    refine HM.out.mono ?_
    rintro e w1 ⟨rfl, hE⟩
    have HE := Lib.hid hE
    clear hE
    go_wp2_with fail
    refine (spans_c _ xs.length (entF xs) w1 hn.1 hn.2 (rows_mat (HU.out.ext HE.out) HOX.out.2.1 hn.1)).mono ?_
    rintro e w3 ⟨r1, rfl, hr1, hE⟩
    have HE3 := Lib.hid (Ext.trans HE.out hE)
    have HR1 := Lib.hid (hr1.mat (by omega))
    clear hE hr1
    go_wp2_with fail
    refine (connected_c _ xs.length _ w3 hn.1 hn.2 HR1.out (HOX.out.2.2.mono (by unfold KB; omega))).mono ?_
    rintro e w5 ⟨rfl, hE⟩
    have HE5 := Lib.hid (Ext.trans HE3.out hE)
    clear hE
    generalize connB xs.length (entF xs) = cb at *
    go_wp2_with fail
    go_ret2
    exact ⟨HS.out, HE5.out⟩
end Go.Proofs.YtbcngojiikdigaaGreat

namespace Go.Proofs.YtbcngojiikdigaaGreat
set_option maxRecDepth 100000
open Go.RowKit Go.Shelf
set_option maxHeartbeats 1000000 in
theorem rgcd_c (a b : Int) (w : World) (ha : -1000000000000 ≤ a ∧ a ≤ 1000000000000) (hb : -1000000000000 ≤ b ∧ b ≤ 1000000000000) :
    Calls Tryz.prog 92 #[.int .i64 a, .int .i64 b] w fun e w' => e = .returned (.int .i64 (Int.gcd a b : Int)) ∧ Ext w w' := by
  have HG := Lib.hid (show Int.gcd a b = Int.gcd a b from rfl)
  generalize hg : Int.gcd a b = g at *
  have HGG := Lib.hid hg
  clear hg HG
  go_enter Tryz.func92, Tryz.ntmps92
  go_wp2_with fail
  go_loopw [0, 1] (fun u v wr => ∃ x y : Int, u = .int .i64 x ∧ v = .int .i64 y ∧ (-1000000000000 ≤ x ∧ x ≤ 1000000000000) ∧ (-1000000000000 ≤ y ∧ y ≤ 1000000000000) ∧ Int.gcd x y = g ∧ Ext w wr) (fun _ v _ => (intOf v).natAbs)
  case atStart => exact ⟨a, b, rfl, rfl, ha, hb, HGG.out, Ext.refl _⟩
  case round =>
    rename World => wr
    obtain ⟨x, y, rfl, rfl, hx, hy, hgc, hE⟩ := hrel
    have HGC := Lib.hid hgc
    have HE := Lib.hid hE
    clear hgc hE
    by_cases h0 : y = 0
    · subst h0
      have HX := Lib.hid (show (x.natAbs : Int) = (g : Int) by have h := HGC.out; rw [← h]; simp [Int.gcd])
      by_cases hp : 0 < x
      · have HZ := Lib.hid (show x = (g : Int) by have := HX.out; omega)
        go_wp2_with fail
        go_ret
        exact ⟨ret_int HZ.out, HE.out⟩
      · by_cases hm : x < 0
        · have HZ := Lib.hid (show -x = (g : Int) by have := HX.out; omega)
          go_wp2_with fail
          go_ret
          exact ⟨ret_int HZ.out, HE.out⟩
        · obtain rfl : x = 0 := by omega
          have HZ := Lib.hid (show 0 = (g : Int) by have := HX.out; omega)
          go_wp2_with fail
          go_ret
          exact ⟨ret_int HZ.out, HE.out⟩
    · have hb0 : (y != 0) = true := by rw [bne_iff_ne]; exact h0
      have hlt := tmod_lt x y h0
      have HGS := Lib.hid (gcd_step x y h0)
      obtain ⟨t, ht⟩ : ∃ t, x.tmod y = t := ⟨_, rfl⟩
      rw [ht] at hlt HGS
      have htb : -1000000000000 ≤ t ∧ t ≤ 1000000000000 := by omega
      have hwt : IntKind.i64.wrap t = t := IntWalk.i64_in _ (by omega)
      go_wp2_with fail
      go_quiet (fail)
      go_wp2
      all_goals exact ⟨⟨y, t, rfl, rfl, hy, htb, by rw [HGS.out]; exact HGC.out, ext_drewN HE.out _⟩, by simp [intOf]; omega⟩
set_option maxHeartbeats 1000000 in
theorem has_c (v : Value) (xs : List Int) (x : Int) (w : World) (hx : Ints w v xs) (hl : xs.length ≤ 1000000) :
    Calls Tryz.prog 104 #[v, .int .i64 x] w fun e w' => e = .returned (.bool (decide (x ∈ xs))) ∧ Ext w w' := by
  obtain ⟨ax, cx, rfl, hxc, hxm, hrx⟩ := hx.at
  have HX := Lib.hid hrx
  clear hx hrx
  obtain ⟨D, hD⟩ : ∃ D : Bool, D = decide (x ∈ xs) := ⟨_, rfl⟩
  rw [← hD]
  have HD := Lib.hid hD
  clear hD
  go_enter Tryz.func104, Tryz.ntmps104
  go_wp2_with fail
  go_loopw [5] (fun i wr => ∃ k : Nat, k ≤ xs.length ∧ i = .int .i64 k ∧ x ∉ xs.take k ∧ Ext w wr) (fun i _ => xs.length - (intOf i).toNat)
  case atStart => exact ⟨0, Nat.zero_le _, rfl, by simp, Ext.refl _⟩
  case round =>
    rename World => wr
    obtain ⟨k, hk, rfl, ht, hE⟩ := hrel
    have Ht := Lib.hid ht
    have HE := Lib.hid hE
    clear ht hE
    by_cases hlt : k < xs.length
    · obtain ⟨y, hy⟩ := getElem?_len hlt
      obtain ⟨bx, ox, rfl, h1⟩ := HX.out k y hy
      replace h1 := Ext.cell HE.out h1
      have hc1 := cell_lt h1
      have Hy := Lib.hid hy
      clear hy
      by_cases hxy : y = x
      · subst hxy
        have hb : (y == y) = true := by simp
        have HDT := Lib.hid (show D = true from by rw [HD.out]; exact decide_eq_true (List.mem_of_getElem? Hy.out))
        go_wp2_with fail
        go_ret
        exact ⟨by rw [HDT.out]; rfl, HE.out⟩
      · have hb : (y == x) = false := beq_eq_false_iff_ne.2 hxy
        have HN := Lib.hid (show x ∉ xs.take (k + 1) from by
          rw [List.take_add_one, Hy.out]
          simp only [Option.toList_some, List.mem_append, List.mem_singleton]
          rintro (h | h)
          · exact Ht.out h
          · exact hxy h.symm)
        clear hxy
        go_wp2_with fail
        exact ⟨⟨k + 1, by omega, by simp, HN.out, HE.out⟩, by simp [intOf]; omega⟩
    · obtain rfl : k = xs.length := by omega
      have HDF := Lib.hid (show D = false from by rw [HD.out]; have h := Ht.out; rw [List.take_length] at h; exact decide_eq_false h)
      go_wp2_with fail
      go_ret
      exact ⟨by rw [HDF.out]; rfl, HE.out⟩
/-- a list of vertices as numbers -/
def natI (c : List Nat) : List Int := c.map fun i : Nat => (i : Int)
theorem natI_len (c : List Nat) : (natI c).length = c.length := by simp [natI]
theorem natI_mem {c : List Nat} {x : Nat} : ((x : Int) ∈ natI c) ↔ x ∈ c := by
  unfold natI
  rw [List.mem_map]
  constructor
  · rintro ⟨y, hy, e⟩
    have : y = x := by omega
    rw [← this]; exact hy
  · exact fun h => ⟨x, h, rfl⟩
theorem natI_at {c : List Nat} {k : Nat} (hk : k < c.length) : (natI c)[k]? = some (gC c k : Int) := by
  unfold natI gC
  rw [List.getElem?_map, List.getElem?_eq_getElem hk, List.getD_eq_getElem?_getD, List.getElem?_eq_getElem hk]
  rfl
theorem nat_cells {w : World} {v : Value} {c : List Nat} (h : Ints w v (natI c)) (h1 : 1 ≤ c.length) : ∃ b o cap, v = .slice (some ⟨b, o, none⟩) c.length cap ∧ ∀ k, k < c.length → w.cell? ⟨b, o + k, none⟩ = some (.int .i64 (gC c k : Int)) := by
  obtain ⟨a, cap, hv, _, _, hr⟩ := h.at
  obtain ⟨b, o, ha, _⟩ := hr 0 _ (natI_at (by omega))
  subst ha
  refine ⟨b, o, cap, by rw [natI_len] at hv; exact hv, fun k hk => ?_⟩
  obtain ⟨b', o', e, h2⟩ := hr k _ (natI_at hk)
  simp only [Option.some.injEq, Addr.mk.injEq] at e
  obtain ⟨rfl, rfl, _⟩ := e
  exact h2
set_option maxHeartbeats 4000000 in
theorem weight_c (u v : Value) (n : Nat) (A : MF) (c : List Nat) (s : Int) (w : World) (hA : MatAt w u n A) (hn : n ≤ 6) (hc : Ints w v (natI c)) (h1 : 1 ≤ c.length) (hl : c.length ≤ 6) (hx : ∀ x ∈ c, x < n) (bA : bdF 1000 n A) (hs : preL A (gC c) c.length = some s) :
    Calls Tryz.prog 67 #[u, v] w fun e w' => e = .returned (.int .i64 s) ∧ Ext w w' := by
  obtain ⟨ab, ao, ac, rfl, hmm1, hmm2, hMA⟩ := hA
  obtain ⟨cb, co, cc, rfl, hcc⟩ := nat_cells hc h1
  have HMA := Lib.hid hMA
  have HCC := Lib.hid hcc
  have HBA := Lib.hid bA
  have HG := Lib.hid (fun k => gC_lt h1 hx k)
  have HGE := Lib.hid (gC_end c)
  have HS := Lib.hid hs
  generalize gC c = g at *
  generalize c.length = m at *
  clear hMA hcc bA hx hs hc
  go_enter Tryz.func67, Tryz.ntmps67
  go_wp2_with fail
  go_loopw [5, 6] (fun sv iv' wr => ∃ (i : Nat) (t : Int), iv' = .int .i64 (i : Int) ∧ sv = .int .i64 t ∧ i ≤ m ∧ preL A g i = some t ∧ Ext w wr) (fun _ iv' _ => m - (intOf iv').toNat)
  case atStart => exact ⟨0, 0, rfl, rfl, Nat.zero_le _, rfl, Ext.refl _⟩
  case round =>
    rename World => wr
    obtain ⟨i, t, rfl, rfl, hi, ht, hE⟩ := hrel
    have HEr := Lib.hid hE
    have HT := Lib.hid ht
    clear hE ht
    have hsb := (preL_bd HBA.out HG.out i) t HT.out
    by_cases hil : i < m
    · obtain ⟨t', y, e1, e2, e3⟩ := preL_arc HS.out hil
      rw [HT.out] at e1
      injection e1 with e1
      subst e1
      obtain ⟨j1, hj1, hjm, hcj⟩ : ∃ j1 : Nat, (i + 1) % m = j1 ∧ j1 < m ∧ w.cell? ⟨cb, co + j1, none⟩ = some (.int .i64 (g (i + 1) : Int)) := by
        by_cases h : i + 1 < m
        · exact ⟨i + 1, Nat.mod_eq_of_lt h, h, HCC.out (i + 1) h⟩
        · have h2 : i + 1 = m := by omega
          refine ⟨0, by rw [h2, Nat.mod_self], by omega, ?_⟩
          rw [h2, HGE.out]
          exact HCC.out 0 (by omega)
      have hr2 : ((i : Int) + 1) % (m : Int) = (j1 : Int) := by rw [← hj1, Int.natCast_emod]; rfl
      have hr1 : Int.tmod ((i : Int) + 1) (m : Int) = (j1 : Int) := by rw [Int.tmod_eq_emod_of_nonneg (by omega)]; exact hr2
      have hx := HG.out i
      have hy := HG.out (i + 1)
      have hyb := HBA.out _ hy _ hx y e2
      obtain ⟨u1, cu1, ⟨rb1, ro1, rc1, rfl, _, _, hrow1⟩⟩ := HMA.out (g (i + 1)) hy
      have d1 := Ext.cell HEr.out (HCC.out i hil)
      have d2 := Ext.cell HEr.out hcj
      have d3 := Ext.cell HEr.out cu1
      have d4 := Ext.cell HEr.out (hrow1 (g i) hx)
      rw [e2] at d4
      rw [show iv (some y) = .int .i64 y from rfl] at d4
      have k1 := cell_lt d1
      have k3 := cell_lt d3
      have k4 := cell_lt d4
      have HE3' := Lib.hid e3
      have hms : (m : Int) ≠ 0 := by omega
      have hws : IntKind.i64.wrap (t + y) = t + y := IntWalk.i64_in _ (by omega)
      obtain ⟨x0, hx0⟩ : ∃ x, x = g i := ⟨_, rfl⟩
      obtain ⟨y0, hy0⟩ : ∃ x, x = g (i + 1) := ⟨_, rfl⟩
      rw [← hx0] at hx d1 d4
      rw [← hy0] at hy d2 d3
      clear hx0 hy0 hj1 e2 e3 hcj cu1 hrow1
      go_wp2_with fail
      go_quiet (fail)
      go_wp2_with fail
      exact ⟨⟨i + 1, t + y, by simp, rfl, by omega, HE3'.out, ext_drewN HEr.out _⟩, by simp [intOf]; omega⟩
    · obtain rfl : i = m := by omega
      obtain rfl : t = s := by have h := HT.out; rw [HS.out] at h; injection h with h; exact h.symm
      go_wp2_with fail
      go_ret
      exact ⟨rfl, HEr.out⟩
end Go.Proofs.YtbcngojiikdigaaGreat

namespace Go.Proofs.YtbcngojiikdigaaGreat
set_option maxRecDepth 100000
open Go.RowKit Go.Shelf
/-- lists of vertices, each in a list of its own, in a list of one's own -/
def OutC (base : Nat) (w : World) (v : Value) (L : List (List Nat)) : Prop :=
  ∃ vs : List Value, w.ownsRow base 23 1 v L.length vs ∧ ∀ (i : Nat) (u : Value) (c : List Nat), vs[i]? = some u → L[i]? = some c → w.ownsRow base 3 1 u c.length (natsV c)
theorem OutC.ext {base : Nat} {w w' : World} {v : Value} {L : List (List Nat)} (h : OutC base w v L) (he : Ext w w') : OutC base w' v L := by
  obtain ⟨vs, h1, h2⟩ := h
  exact ⟨vs, ownsRow_ext h1 he, fun i u c hu hc => ownsRow_ext (h2 i u c hu hc) he⟩
theorem OutC.mono {base b : Nat} {w : World} {v : Value} {L : List (List Nat)} (h : OutC base w v L) (hb : b ≤ base) : OutC b w v L := by
  obtain ⟨vs, h1, h2⟩ := h
  exact ⟨vs, own_mono h1 hb, fun i u c hu hc => own_mono (h2 i u c hu hc) hb⟩
theorem OutC.nil (base : Nat) (w : World) : OutC base w (.slice none 0 0) [] := ⟨[], ⟨rfl, .inl ⟨rfl, rfl⟩⟩, fun i u c h => by simp at h⟩
theorem natsV_ints (c : List Nat) : natsV c = (natI c).map (Value.int .i64) := by simp [natsV, natI]
theorem nats_ints {w : World} {base : Nat} {v : Value} {c : List Nat} (h : w.ownsRow base 3 1 v c.length (natsV c)) (hl : c.length ≤ 1000000) : Ints w v (natI c) :=
  own_ints2 (by rw [natI_len, ← natsV_ints]; exact h) (by rw [natI_len]; exact hl)
/-- lists more -/
theorem OutC.push {base : Nat} {w w' : World} {v v' : Value} {L M : List (List Nat)} {vs us : List Value} (h1 : w.ownsRow base 23 1 v L.length vs) (h2 : ∀ (i : Nat) (u : Value) (c : List Nat), vs[i]? = some u → L[i]? = some c → w.ownsRow base 3 1 u c.length (natsV c))
    (g1 : us.length = M.length) (g2 : ∀ (i : Nat) (u : Value) (c : List Nat), us[i]? = some u → M[i]? = some c → w.ownsRow base 3 1 u c.length (natsV c))
    (h3 : w'.ownsRow base 23 1 v' (L.length + M.length) (vs ++ us)) (hg : w.grownBy w' v.ownBlock) : OutC base w' v' (L ++ M) := by
  have hvl : vs.length = L.length := by have := h1.1; omega
  refine ⟨_, by rw [List.length_append]; exact h3, fun i u c hu hc => ?_⟩
  rcases Nat.lt_or_ge i L.length with hi | hi
  · rw [List.getElem?_append_left (by omega)] at hu hc
    exact own_keep (h2 i u c hu hc) (own_type h1) hg
  · rw [List.getElem?_append_right (by omega)] at hu hc
    rw [hvl] at hu
    exact own_keep (g2 _ u c hu hc) (own_type h1) hg
theorem cycF_len {n : Nat} {A : MF} {f : Nat} (hn : n ≤ 6) : ∀ k walk, (cycF n A f k walk).length ≤ 6 ^ k := by
  intro k
  induction k with
  | zero => intro walk; simp [cycF]
  | succ k ih =>
    intro walk
    have step : ∀ i, (stepC A f (cycF n A f k) walk i).length ≤ 6 ^ k := fun i => by
      have h1 : 6 ^ 0 ≤ 6 ^ k := Nat.pow_le_pow_right (by omega) (Nat.zero_le k)
      rw [Nat.pow_zero] at h1
      unfold stepC
      split
      · simp
      · split
        · simpa using h1
        · split
          · simp
          · exact ih _
    have key : ∀ m, ((List.range m).flatMap (stepC A f (cycF n A f k) walk)).length ≤ m * 6 ^ k := by
      intro m
      induction m with
      | zero => simp
      | succ m ihm =>
        rw [List.range_succ, List.flatMap_append, List.length_append, Nat.add_mul, Nat.one_mul]
        have := step m
        simp only [List.flatMap_cons, List.flatMap_nil, List.append_nil]
        omega
    have h := key n
    show ((List.range n).flatMap _).length ≤ _
    rw [Nat.pow_succ]
    have : n * 6 ^ k ≤ 6 * 6 ^ k := Nat.mul_le_mul_right _ hn
    omega
/-- the cycles found below i -/
def accC (n : Nat) (A : MF) (f k : Nat) (walk : List Nat) (i : Nat) : List (List Nat) := (List.range i).flatMap (stepC A f (cycF n A f k) walk)
theorem accC_succ (n : Nat) (A : MF) (f k : Nat) (walk : List Nat) (i : Nat) : accC n A f k walk (i + 1) = accC n A f k walk i ++ stepC A f (cycF n A f k) walk i := by
  unfold accC
  rw [List.range_succ, List.flatMap_append]
  simp
theorem accC_first {n : Nat} {A : MF} {f k : Nat} {walk : List Nat} : ∀ i, i ≤ f → accC n A f k walk i = [] := by
  intro i
  induction i with
  | zero => intro _; rfl
  | succ i ih =>
    intro h
    rw [accC_succ, ih (by omega)]
    unfold stepC
    rw [if_pos (.inl (by omega))]
    rfl
theorem accC_len {n : Nat} {A : MF} {f k : Nat} {walk : List Nat} (hn : n ≤ 6) (hk : k ≤ 6) {i : Nat} (hi : i ≤ n) : (accC n A f k walk i).length ≤ 279936 := by
  have h : ∀ m, m ≤ n → (accC n A f k walk m).length ≤ m * 46656 := by
    intro m
    induction m with
    | zero => intro _; simp [accC]
    | succ m ih =>
      intro hm
      rw [accC_succ, List.length_append, Nat.add_mul, Nat.one_mul]
      have h1 := ih (by omega)
      have h2 : (stepC A f (cycF n A f k) walk m).length ≤ 46656 := by
        unfold stepC
        split
        · simp
        · split
          · simp
          · split
            · simp
            · have h3 := cycF_len (A := A) (f := f) hn k (walk ++ [m])
              have h4 : 6 ^ k ≤ 6 ^ 6 := Nat.pow_le_pow_right (by omega) hk
              rw [show (6 : Nat) ^ 6 = 46656 by decide] at h4
              omega
      omega
  have := h i hi
  have : i * 46656 ≤ 6 * 46656 := Nat.mul_le_mul_right _ (by omega)
  omega
/-- what a walk is -/
def WalkOk (n f : Nat) (walk : List Nat) : Prop := 1 ≤ walk.length ∧ (∀ x ∈ walk, x < n) ∧ Once walk ∧ gC walk 0 = f
theorem WalkOk.len {n f : Nat} {walk : List Nat} (h : WalkOk n f walk) : walk.length ≤ n := once_len h.1 h.2.1 h.2.2.1
theorem WalkOk.push {n f i : Nat} {walk : List Nat} (h : WalkOk n f walk) (hi : i < n) (hn : i ∉ walk) : WalkOk n f (walk ++ [i]) := by
  obtain ⟨h1, h2, h3, h4⟩ := h
  refine ⟨by simp, fun x hx => ?_, ?_, ?_⟩
  · rcases List.mem_append.1 hx with h | h
    · exact h2 x h
    · rw [List.mem_singleton.1 h]; exact hi
  · rw [once_nodup] at h3 ⊢
    rw [List.nodup_append]
    refine ⟨h3, by simp, fun a ha b hb => ?_⟩
    rw [List.mem_singleton.1 hb]
    exact fun e => hn (by rw [← e]; exact ha)
  · rw [← h4]
    cases walk with
    | nil => simp at h1
    | cons y ys => rfl
theorem last_gC {walk : List Nat} (h : 1 ≤ walk.length) : walk.getLastD 0 = gC walk (walk.length - 1) := by
  unfold gC
  rw [List.getD_eq_getElem?_getD, ← List.getLast?_eq_getElem?, List.getLastD_eq_getLast?]
  cases hw : walk.getLast? with
  | none => rw [List.getLast?_eq_none_iff] at hw; rw [hw] at h; simp at h
  | some x => rfl
end Go.Proofs.YtbcngojiikdigaaGreat

namespace Go.Proofs.YtbcngojiikdigaaGreat
set_option maxRecDepth 100000
open Go.RowKit Go.Shelf
set_option maxHeartbeats 16000000 in
theorem cyc_c (ua : Value) (n : Nat) (A : MF) (hn1 : 1 ≤ n) (hn : n ≤ 6) (bA : bdF 1000 n A) (f : Nat) (hf : f < n) : ∀ (k : Nat) (walk : List Nat) (uw : Value) (w : World), walk.length + k = n + 1 → WalkOk n f walk → MatAt w ua n A → Ints w uw (natI walk) →
    Calls Tryz.prog 116 #[ua, uw] w fun e w' => ∃ v, e = .returned v ∧ OutC w.heap.size w' v (cycF n A f k walk) ∧ Ext w w' := by
  intro k
  induction k with
  | zero => intro walk uw w hk hok; have := hok.len; omega
  | succ k ih =>
    intro walk uw w hk hok hA hw
    have HIH := Lib.hid ih
    have HA := Lib.hid hA
    have HWK := Lib.hid hok
    have HIW := Lib.hid hw
    have hwl := hok.len
    have hw1 := hok.1
    obtain ⟨ab, ao, ac, rfl, hmm1, hmm2, hMA⟩ := hA
    have HMA := Lib.hid hMA
    have HBA := Lib.hid bA
    obtain ⟨wb, wo, wcap, rfl, hcell⟩ := nat_cells hw hw1
    have HCL := Lib.hid hcell
    have d0 := hcell 0 (by omega)
    have d1 := hcell (walk.length - 1) (by omega)
    rw [hok.2.2.2, Nat.add_zero] at d0
    have HD0 := Lib.hid d0
    have HACC := Lib.hid (fun i (hi : i ≤ n) => accC_len (A := A) (f := f) (k := k) (walk := walk) hn (show k ≤ 6 by omega) hi)
    have HL := Lib.hid (last_gC hw1)
    obtain ⟨la, hla⟩ : ∃ la, la = gC walk (walk.length - 1) := ⟨_, rfl⟩
    rw [← hla] at d1 HL
    have hlan : la < n := by rw [hla]; exact gC_lt hw1 hok.2.1 _
    obtain ⟨l1, hl1⟩ : ∃ l1, walk.length = l1 + 1 := ⟨walk.length - 1, by omega⟩
    rw [show walk.length - 1 = l1 by omega] at d1
    rw [hl1] at HIW hk hwl ⊢
    have hix : IntKind.i64.wrap (((l1 + 1 : Nat) : Int) - 1) = (l1 : Int) := by rw [IntWalk.i64_in _ (by omega)]; omega
    have HL1 := Lib.hid hl1
    have q0 := cell_lt d0
    obtain ⟨i0, hi0, hz0, hz1, hz2⟩ := info_parts info22
    have HI := Lib.hid hi0
    have HZ0 := Lib.hid hz0
    have HZ1 := Lib.hid hz1
    have HZ2 := Lib.hid hz2
    obtain ⟨j0, hj0, hk0, hk1, hk2⟩ := info_parts info3x23
    have HJ := Lib.hid hj0
    have HK0 := Lib.hid hk0
    have HK1 := Lib.hid hk1
    have HK2 := Lib.hid hk2
    clear hMA hw hcell hok ih bA hla hl1 hw1 hi0 hz0 hz1 hz2 hj0 hk0 hk1 hk2
    go_enter Tryz.func116, Tryz.ntmps116
    go_wp2_with fail
    clear hix d1 d0 q0
    go_loopw [5, 7] (fun ov iv' wr => ∃ i : Nat, iv' = .int .i64 (i : Int) ∧ f ≤ i ∧ i ≤ n ∧ OutC w.heap.size wr ov (accC n A f k walk i) ∧ Ext w wr) (fun _ iv' _ => n - (intOf iv').toNat)
    case atStart => exact ⟨f, rfl, Nat.le_refl _, by omega, by rw [accC_first f (Nat.le_refl _)]; exact OutC.nil _ _, Ext.refl _⟩
    case round =>
      rename World => wr
      obtain ⟨i, rfl, hfi, hi, hO, hE⟩ := hrel
      have HO := Lib.hid hO
      have HE := Lib.hid hE
      obtain ⟨vs, ho, hvs⟩ := hO
      obtain ⟨oa, oc, rfl⟩ := own_slice ho
      have HOW := Lib.hid ho
      have HVS := Lib.hid hvs
      have hwr := hE.size
      have hal := HACC.out i hi
      clear ho hvs hE
      by_cases hin : i < n
      · obtain ⟨u1, cu1, ⟨rb1, ro1, rc1, rfl, _, _, hrow1⟩⟩ := HMA.out i hin
        have d3 := Ext.cell HE.out cu1
        have d4 := Ext.cell HE.out (hrow1 la hlan)
        have d0 := Ext.cell HE.out HD0.out
        have k3 := cell_lt d3
        have k4 := cell_lt d4
        have k0 := cell_lt d0
        have HST := Lib.hid (accC_succ n A f k walk i)
        have hfi' : ¬ i < f := by omega
        cases hAi : A i la with
        | none =>
          rw [hAi] at d4
          rw [show iv none = .int .i64 (-1152921504606846976) from rfl] at d4
          have HEQ := Lib.hid (show accC n A f k walk (i + 1) = accC n A f k walk i from by
            rw [HST.out]
            unfold stepC
            rw [if_pos (.inr (by rw [HL.out]; exact hAi)), List.append_nil])
          clear hAi
          go_wp2_with fail
          exact ⟨⟨i + 1, by simp, by omega, by omega, by rw [HEQ.out]; exact HO.out, HE.out⟩, by simp [intOf]; omega⟩
        | some a =>
          have hab := HBA.out i hin la hlan a hAi
          rw [hAi] at d4
          rw [show iv (some a) = .int .i64 a from rfl] at d4
          have han : (a == -1152921504606846976) = false := beq_eq_false_iff_ne.2 (by omega)
          have HNI := Lib.hid (show ¬ (i < f ∨ A i (walk.getLastD 0) = none) from by
            rintro (h | h)
            · exact hfi' h
            · rw [HL.out, hAi] at h; cases h)
          clear hAi
          have HW3 := Lib.hid (HIW.out.ext HE.out)
          have HNIL := Lib.hid (show wr.ownsRow wr.heap.size 3 1 (.slice none 0 0) 0 [] from ⟨rfl, .inl ⟨rfl, rfl⟩⟩)
          go_upto_region 9 with (at_builtin; (refine wpList_append_ints rfl _ _ rfl wr.heap.size (.slice none 0 0) rfl HNIL.out _ (natI walk) rfl ⟨HW3.out, fun n cap h => by cases h⟩ (by rw [natI_len, HL1.out]; omega) (Nat.le_refl _) ?_; intro v3 w3 hown3 hgrow3; have HO3 := Lib.hid hown3; have HG3 := Lib.hid hgrow3; clear hown3 hgrow3))
          obtain ⟨a3, c3, rfl⟩ := own_slice HO3.out
          have HEw3 := Lib.hid (show Ext wr w3 from own_below HNIL.out HG3.out (Nat.le_refl _))
          have HE3 := Lib.hid (Ext.trans HE.out HEw3.out)
          have hw3 := HEw3.out.size
          have HR3 := Lib.hid (show w3.ownsRow wr.heap.size 3 1 (.slice a3 (natI walk).length c3) walk.length (natsV walk) from by have h := HO3.out; rw [natI_len, ← natsV_ints] at h; rw [natI_len]; exact h)
          have d0' := Ext.cell HEw3.out d0
          clear d3 d4 d0 k3 k4 k0 hab han
          have k0 := cell_lt d0'
          by_cases hif : i = f
          · have hb : ((i : Int) == (f : Int)) = true := by rw [hif]; simp
            have HEQ := Lib.hid (show accC n A f k walk (i + 1) = accC n A f k walk i ++ [walk] from by
              rw [HST.out]
              unfold stepC
              rw [if_neg HNI.out, if_pos hif])
            have HAL := Lib.hid (Ext.alloc (Ext.refl w3) (.cells #[.slice a3 (natI walk).length c3] 23))
            have HOWN := Lib.hid (ownsRow_ext HOW.out (Ext.trans HEw3.out HAL.out))
            have HVN := Lib.hid (fun (x : Nat) (u : Value) (c : List Nat) (h1 : vs[x]? = some u) (h2 : (accC n A f k walk i)[x]? = some c) => ownsRow_ext (HVS.out x u c h1 h2) (Ext.trans HEw3.out HAL.out))
            have HRN := Lib.hid (own_mono (ownsRow_ext HR3.out HAL.out) hwr)
            have hob : ∀ x, Value.ownBlock (.slice oa (accC n A f k walk i).length oc) = some x → w.heap.size ≤ x := fun x hx => own_block HOW.out hx
            clear hif
            go_wp2_with (at_builtin; (refine wpList_append_own _ rfl _ _ 22 rfl w.heap.size 23 i0 (.slice none 0 0) 1 24 Tryz.underlying22 HI.out HZ0.out HZ1.out HZ2.out rfl (by decide) _ _ _ rfl HOWN.out ⟨w3.heap.size, 0, none⟩ 1 1 [.slice a3 (natI walk).length c3] rfl rfl (fun j u h => cell_one_new w3 _ 23 j u h) (by simp [Value.oneCell']) (by unfold maxLen; omega) (by omega) (by simp; omega) ?_; intro v' w' hown' hgrow hnil; have HO10 := Lib.hid hown'; have HG10 := Lib.hid hgrow; clear hown' hgrow hnil))
            refine ⟨⟨i + 1, by simp, by omega, by omega, ?_, Below.grown (Ext.trans HE3.out HAL.out) HG10.out (by simp; omega) (fun x e => hob x e)⟩, by simp [intOf]; omega⟩
            rw [HEQ.out]
            refine OutC.push HOWN.out HVN.out (us := [.slice a3 (natI walk).length c3]) (M := [walk]) rfl (fun x u c h1 h2 => ?_) HO10.out HG10.out
            match x, h1, h2 with
            | 0, h1, h2 =>
              injection h1 with h1
              injection h2 with h2
              subst h1
              subst h2
              exact HRN.out
          · have hb : ((i : Int) == (f : Int)) = false := beq_eq_false_iff_ne.2 (by omega)
            have HW33 := Lib.hid (HW3.out.ext HEw3.out)
            have HIF := Lib.hid hif
            clear hif
            go_wp2_with fail
            refine (has_c _ (natI walk) (i : Int) w3 HW33.out (by rw [natI_len, HL1.out]; omega)).mono ?_
            rintro e w4 ⟨rfl, hE⟩
            have HE34 := Lib.hid hE
            have HE4 := Lib.hid (Ext.trans HEw3.out hE)
            have hw4 := hE.size
            clear hE d0' k0
            by_cases hmem : i ∈ walk
            · rw [decide_eq_true (natI_mem.2 hmem)]
              have HEQ := Lib.hid (show accC n A f k walk (i + 1) = accC n A f k walk i from by
                rw [HST.out]
                unfold stepC
                rw [if_neg HNI.out, if_neg HIF.out, if_pos hmem, List.append_nil])
              clear hmem
              go_wp2_with fail
              exact ⟨⟨i + 1, by simp, by omega, by omega, by rw [HEQ.out]; exact HO.out.ext HE4.out, Ext.trans HE.out HE4.out⟩, by simp [intOf]; omega⟩
            · rw [decide_eq_false (fun h => hmem (natI_mem.1 h))]
              have HEQ := Lib.hid (show accC n A f k walk (i + 1) = accC n A f k walk i ++ cycF n A f k (walk ++ [i]) from by
                rw [HST.out]
                unfold stepC
                rw [if_neg HNI.out, if_neg HIF.out, if_neg hmem])
              have HPUSH := Lib.hid (HWK.out.push hin hmem)
              have HAL := Lib.hid (Ext.alloc (Ext.refl w4) (.cells #[.int .i64 (i : Int)] 3))
              have HOWN := Lib.hid (show (w4.alloc (.cells #[.int .i64 (i : Int)] 3)).ownsRow wr.heap.size 3 1 (.slice a3 (natI walk).length c3) (natI walk).length (natsV walk) from by have h := ownsRow_ext HR3.out (Ext.trans HE34.out HAL.out); rw [natI_len] at h ⊢; exact h)
              have HNL := Lib.hid (show (natI walk).length = l1 + 1 from by rw [natI_len]; exact HL1.out)
              clear hmem
              go_wp2_with (at_builtin; (refine wpList_append_own _ rfl _ _ 23 rfl wr.heap.size 3 j0 (.int .i64 0) 1 8 Tryz.underlying23 HJ.out HK0.out HK1.out HK2.out rfl (by decide) _ _ _ rfl HOWN.out ⟨w4.heap.size, 0, none⟩ 1 1 [.int .i64 (i : Int)] rfl rfl (fun j u h => cell_one_new w4 _ 3 j u h) (by simp [Value.oneCell']) (by have := HNL.out; unfold maxLen; omega) (by have := HNL.out; omega) (by simp; omega) ?_; intro v5 w5 hown5 hgrow5 hnil5; have HO5 := Lib.hid hown5; have HG5 := Lib.hid hgrow5; clear hown5 hgrow5 hnil5))
              have HE5 := Lib.hid (show Ext wr w5 from Below.trans (Ext.trans HE4.out HAL.out) (own_below HOWN.out HG5.out (by simp; omega)))
              have HI5 := Lib.hid (show Ints w5 v5 (natI (walk ++ [i])) from nats_ints (base := wr.heap.size) (by
                have h := HO5.out
                rw [natI_len] at h
                rw [List.length_append, List.length_singleton, show natsV (walk ++ [i]) = natsV walk ++ [.int .i64 (i : Int)] from by simp [natsV]]
                exact h) (by rw [List.length_append, List.length_singleton, HL1.out]; omega))
              refine (HIH.out (walk ++ [i]) v5 w5 (by rw [List.length_append, List.length_singleton, HL1.out]; omega) HPUSH.out (HA.out.ext (Ext.trans HE.out HE5.out)) HI5.out).mono ?_
              rintro e w6 ⟨v6, rfl, hO6, hE⟩
              have HE6 := Lib.hid (Ext.trans HE5.out hE)
              have hw5 := HE5.out.size
              have hw6 := hE.size
              obtain ⟨us, h61, h62⟩ := hO6
              have hcl := cycF_len (A := A) (f := f) hn k (walk ++ [i])
              have hc6 : 6 ^ k ≤ 6 ^ 6 := Nat.pow_le_pow_right (by omega) (by omega)
              rw [show (6 : Nat) ^ 6 = 46656 by decide] at hc6
              have HU1 := Lib.hid h61
              have HU2 := Lib.hid h62
              have HOW6 := Lib.hid (ownsRow_ext HOW.out HE6.out)
              have HV6 := Lib.hid (fun (x : Nat) (u : Value) (c : List Nat) (h1 : vs[x]? = some u) (h2 : (accC n A f k walk i)[x]? = some c) => ownsRow_ext (HVS.out x u c h1 h2) HE6.out)
              have hob : ∀ x, Value.ownBlock (.slice oa (accC n A f k walk i).length oc) = some x → w.heap.size ≤ x := fun x hx => own_block HOW.out hx
              have HUM := Lib.hid (fun (x : Nat) (u : Value) (c : List Nat) (h1 : us[x]? = some u) (h2 : (cycF n A f k (walk ++ [i]))[x]? = some c) => own_mono (HU2.out x u c h1 h2) (show w.heap.size ≤ w5.heap.size by omega))
              have hul : us.length = (cycF n A f k (walk ++ [i])).length := by have := h61.1; omega
              clear hE
              rcases h61.2 with ⟨hv, hn0⟩ | ⟨g, cap, cu, hv, hg, hc, hnc, hmx, hsz, htk⟩
              · subst hv
                have hcy : cycF n A f k (walk ++ [i]) = [] := List.length_eq_zero_iff.1 hn0
                have HEQ0 := Lib.hid (show accC n A f k walk (i + 1) = accC n A f k walk i from by rw [HEQ.out, hcy, List.append_nil])
                clear h61 h62 hcl hc6 hcy hn0 hul
                go_wp2_with (at_builtin; (refine wpList_append_own_none rfl _ _ 22 rfl w.heap.size 23 i0 1 Tryz.underlying22 HI.out _ _ _ rfl HOW6.out rfl ?_))
                exact ⟨⟨i + 1, by simp, by omega, by omega, by rw [HEQ0.out]; exact HO.out.ext HE6.out, Ext.trans HE.out HE6.out⟩, by simp [intOf]; omega⟩
              · subst hv
                have HCE := Lib.hid (show ∀ (x : Nat) (u : Value), us[x]? = some u → w6.cell? ((⟨g, 0, none⟩ : Addr).add x) = some u from fun x u hx => by
                  have hi := lt_len hx
                  rw [← htk] at hx
                  rw [List.getElem?_take_of_lt (by omega), Array.getElem?_toList] at hx
                  rw [addr_add, Nat.zero_add]
                  simp [World.cell?, hc, hx])
                have HONE := Lib.hid (show ∀ u ∈ us, u.oneCell' = true from fun u hu => by
                  obtain ⟨x, hx, e⟩ := List.getElem_of_mem hu
                  have h1 : us[x]? = some u := by rw [List.getElem?_eq_getElem hx, e]
                  obtain ⟨c, hcx⟩ := getElem?_len (show x < (cycF n A f k (walk ++ [i])).length by omega)
                  obtain ⟨a, cc, rfl⟩ := own_slice (HU2.out x u c h1 hcx)
                  simp [Value.oneCell'])
                have HUL := Lib.hid hul
                clear h61 h62 hc hnc hsz htk hmx hul
                generalize hM : cycF n A f k (walk ++ [i]) = M at *
                go_wp2_with (at_builtin; (refine wpList_append_own _ rfl _ _ 22 rfl w.heap.size 23 i0 (.slice none 0 0) 1 24 Tryz.underlying22 HI.out HZ0.out HZ1.out HZ2.out rfl (by decide) _ _ _ rfl HOW6.out ⟨g, 0, none⟩ M.length cap us rfl (by rw [HUL.out]; omega) HCE.out HONE.out (by unfold maxLen; omega) (by omega) (by omega) ?_; intro v' w' hown' hgrow hnil; have HO10 := Lib.hid hown'; have HG10 := Lib.hid hgrow; clear hown' hgrow hnil))
                refine ⟨⟨i + 1, by simp, by omega, by omega, ?_, Below.grown (Ext.trans HE.out HE6.out) HG10.out (by omega) (fun x e => hob x e)⟩, by simp [intOf]; omega⟩
                rw [HEQ.out]
                exact OutC.push HOW6.out HV6.out HUL.out HUM.out HO10.out HG10.out
      · obtain rfl : n = i := by omega
        have HFIN := Lib.hid (show OutC w.heap.size wr (.slice oa (accC n A f k walk n).length oc) (cycF n A f (k + 1) walk) from HO.out)
        go_wp2_with fail
        go_ret
        exact ⟨_, rfl, HFIN.out, HE.out⟩
end Go.Proofs.YtbcngojiikdigaaGreat

namespace Go.Proofs.YtbcngojiikdigaaGreat
set_option maxRecDepth 100000
open Go.RowKit Go.Shelf
/-- all cycles from vertices below i on -/
def allC (n : Nat) (A : MF) (i : Nat) : List (List Nat) := (List.range i).flatMap fun i => cycF n A i n [i]
theorem allC_succ (n : Nat) (A : MF) (i : Nat) : allC n A (i + 1) = allC n A i ++ cycF n A i n [i] := by
  unfold allC
  rw [List.range_succ, List.flatMap_append]
  simp
theorem allC_len {n : Nat} {A : MF} (hn : n ≤ 6) {i : Nat} (hi : i ≤ n) : (allC n A i).length ≤ 279936 := by
  have h : ∀ m, (allC n A m).length ≤ m * 46656 := by
    intro m
    induction m with
    | zero => simp [allC]
    | succ m ih =>
      rw [allC_succ, List.length_append, Nat.add_mul, Nat.one_mul]
      have h3 := cycF_len (A := A) (f := m) hn n [m]
      have h4 : 6 ^ n ≤ 6 ^ 6 := Nat.pow_le_pow_right (by omega) hn
      rw [show (6 : Nat) ^ 6 = 46656 by decide] at h4
      omega
  have := h i
  have : i * 46656 ≤ 6 * 46656 := Nat.mul_le_mul_right _ (by omega)
  omega
set_option maxHeartbeats 16000000 in
theorem Cycles_c (ua : Value) (n : Nat) (A : MF) (w : World) (hn1 : 1 ≤ n) (hn : n ≤ 6) (hA : MatAt w ua n A) (bA : bdF 1000 n A) :
    Calls Tryz.prog 90 #[ua] w fun e w' => ∃ v, e = .returned v ∧ OutC w.heap.size w' v (cycL n A) ∧ Ext w w' := by
  have HA := Lib.hid hA
  have HBA := Lib.hid bA
  have HACC := Lib.hid (fun i (hi : i ≤ n) => allC_len (A := A) hn hi)
  obtain ⟨a1, c1, rfl⟩ := hA.len
  obtain ⟨i0, hi0, hz0, hz1, hz2⟩ := info_parts info22
  have HI := Lib.hid hi0
  have HZ0 := Lib.hid hz0
  have HZ1 := Lib.hid hz1
  have HZ2 := Lib.hid hz2
  clear hA bA hi0 hz0 hz1 hz2
  go_enter Tryz.func90, Tryz.ntmps90
  go_wp2_with fail
  go_loopw [3, 4] (fun ov iv' wr => ∃ i : Nat, iv' = .int .i64 (i : Int) ∧ i ≤ n ∧ OutC w.heap.size wr ov (allC n A i) ∧ Ext w wr) (fun _ iv' _ => n - (intOf iv').toNat)
  case atStart => exact ⟨0, rfl, Nat.zero_le _, OutC.nil _ _, Ext.refl _⟩
  case round =>
    rename World => wr
    obtain ⟨i, rfl, hi, hO, hE⟩ := hrel
    have HO := Lib.hid hO
    have HE := Lib.hid hE
    obtain ⟨vs, ho, hvs⟩ := hO
    obtain ⟨oa, oc, rfl⟩ := own_slice ho
    have HOW := Lib.hid ho
    have HVS := Lib.hid hvs
    have hwr := hE.size
    have hal := HACC.out i hi
    clear ho hvs hE
    by_cases hin : i < n
    · have HEQ := Lib.hid (allC_succ n A i)
      have HAL := Lib.hid (Ext.alloc (Ext.refl wr) (.cells #[.int .i64 (i : Int)] 3))
      have HI1 := Lib.hid (show Ints (wr.alloc (.cells #[.int .i64 (i : Int)] 3)) (.slice (some ⟨wr.heap.size, 0, none⟩) 1 1) (natI [i]) from ⟨_, _, rfl, Nat.le_refl _, by omega, VRow.row (vrow_alloc wr [.int .i64 (i : Int)] 3)⟩)
      have HWK := Lib.hid (show WalkOk n i [i] from ⟨by simp, (fun x hx => by rw [List.mem_singleton.1 hx]; exact hin), (fun a b h1 h2 => by simp at h2; omega), rfl⟩)
      go_wp2_with fail
      generalize wr.alloc (.cells #[.int .i64 (i : Int)] 3) = w5 at *
      have hw5 := HAL.out.size
      refine (cyc_c _ n A hn1 hn HBA.out i hin n [i] _ w5 (by simp; omega) HWK.out (HA.out.ext (Ext.trans HE.out HAL.out)) HI1.out).mono ?_
      rintro e w6 ⟨v6, rfl, hO6, hE⟩
      have HE6 := Lib.hid (Ext.trans HAL.out hE)
      have hw6 := hE.size
      obtain ⟨us, h61, h62⟩ := hO6
      have hcl := cycF_len (A := A) (f := i) hn n [i]
      have hc6 : 6 ^ n ≤ 6 ^ 6 := Nat.pow_le_pow_right (by omega) (by omega)
      rw [show (6 : Nat) ^ 6 = 46656 by decide] at hc6
      have HU2 := Lib.hid h62
      have HOW6 := Lib.hid (ownsRow_ext HOW.out HE6.out)
      have HV6 := Lib.hid (fun (x : Nat) (u : Value) (c : List Nat) (h1 : vs[x]? = some u) (h2 : (allC n A i)[x]? = some c) => ownsRow_ext (HVS.out x u c h1 h2) HE6.out)
      have hob : ∀ x, Value.ownBlock (.slice oa (allC n A i).length oc) = some x → w.heap.size ≤ x := fun x hx => own_block HOW.out hx
      have HUM := Lib.hid (fun (x : Nat) (u : Value) (c : List Nat) (h1 : us[x]? = some u) (h2 : (cycF n A i n [i])[x]? = some c) => own_mono (HU2.out x u c h1 h2) (show w.heap.size ≤ w5.heap.size by omega))
      have hul : us.length = (cycF n A i n [i]).length := by have := h61.1; omega
      clear hE
      rcases h61.2 with ⟨hv, hn0⟩ | ⟨g, cap, cu, hv, hg, hc, hnc, hmx, hsz, htk⟩
      · subst hv
        have hcy : cycF n A i n [i] = [] := List.length_eq_zero_iff.1 hn0
        have HEQ0 := Lib.hid (show allC n A (i + 1) = allC n A i from by rw [HEQ.out, hcy, List.append_nil])
        clear h61 h62 hcl hc6 hcy hn0 hul
        go_wp2_with (at_builtin; (refine wpList_append_own_none rfl _ _ 22 rfl w.heap.size 23 i0 1 Tryz.underlying22 HI.out _ _ _ rfl HOW6.out rfl ?_))
        exact ⟨⟨i + 1, by simp, by omega, by rw [HEQ0.out]; exact HO.out.ext HE6.out, Ext.trans HE.out HE6.out⟩, by simp [intOf]; omega⟩
      · subst hv
        have HCE := Lib.hid (show ∀ (x : Nat) (u : Value), us[x]? = some u → w6.cell? ((⟨g, 0, none⟩ : Addr).add x) = some u from fun x u hx => by
          have hi := lt_len hx
          rw [← htk] at hx
          rw [List.getElem?_take_of_lt (by omega), Array.getElem?_toList] at hx
          rw [addr_add, Nat.zero_add]
          simp [World.cell?, hc, hx])
        have HONE := Lib.hid (show ∀ u ∈ us, u.oneCell' = true from fun u hu => by
          obtain ⟨x, hx, e⟩ := List.getElem_of_mem hu
          have h1 : us[x]? = some u := by rw [List.getElem?_eq_getElem hx, e]
          obtain ⟨c, hcx⟩ := getElem?_len (show x < (cycF n A i n [i]).length by omega)
          obtain ⟨a, cc, rfl⟩ := own_slice (HU2.out x u c h1 hcx)
          simp [Value.oneCell'])
        have HUL := Lib.hid hul
        clear h61 h62 hc hnc hsz htk hmx hul
        generalize hM : cycF n A i n [i] = M at *
        go_wp2_with (at_builtin; (refine wpList_append_own _ rfl _ _ 22 rfl w.heap.size 23 i0 (.slice none 0 0) 1 24 Tryz.underlying22 HI.out HZ0.out HZ1.out HZ2.out rfl (by decide) _ _ _ rfl HOW6.out ⟨g, 0, none⟩ M.length cap us rfl (by rw [HUL.out]; omega) HCE.out HONE.out (by unfold maxLen; omega) (by omega) (by omega) ?_; intro v' w' hown' hgrow hnil; have HO10 := Lib.hid hown'; have HG10 := Lib.hid hgrow; clear hown' hgrow hnil))
        refine ⟨⟨i + 1, by simp, by omega, ?_, Below.grown (Ext.trans HE.out HE6.out) HG10.out (by omega) (fun x e => hob x e)⟩, by simp [intOf]; omega⟩
        rw [HEQ.out]
        exact OutC.push HOW6.out HV6.out HUL.out HUM.out HO10.out HG10.out
    · obtain rfl : n = i := by omega
      have HFIN := Lib.hid (show OutC w.heap.size wr (.slice oa (allC n A n).length oc) (cycL n A) from HO.out)
      go_wp2_with fail
      go_ret
      exact ⟨_, rfl, HFIN.out, HE.out⟩
theorem lex_step {x y : Nat} {xs ys : List Nat} : lexB (x :: xs) (y :: ys) = if x = y then lexB xs ys else decide (x < y) := rfl
theorem lex_take : ∀ (k : Nat) (a b : List Nat), a.take k = b.take k → k ≤ a.length → k ≤ b.length → lexB a b = lexB (a.drop k) (b.drop k) := by
  intro k
  induction k with
  | zero => intro a b _ _ _; rfl
  | succ k ih =>
    intro a b h ha hb
    cases a with
    | nil => simp at ha
    | cons x xs =>
      cases b with
      | nil => simp at hb
      | cons y ys =>
        simp only [List.take_succ_cons, List.cons.injEq] at h
        rw [lex_step, if_pos h.1]
        exact ih xs ys h.2 (by simpa using ha) (by simpa using hb)
set_option maxHeartbeats 4000000 in
theorem less_c (u v : Value) (a b : List Nat) (w : World) (hu : Ints w u (natI a)) (hv : Ints w v (natI b)) (hl : a.length = b.length) (hm : a.length ≤ 1000) (h1 : 1 ≤ a.length) :
    Calls Tryz.prog 91 #[u, v] w fun e w' => e = .returned (.bool (lexB a b)) ∧ Ext w w' := by
  obtain ⟨ab, ao, ac, rfl, hca⟩ := nat_cells hu h1
  obtain ⟨bb, bo, bc, rfl, hcb⟩ := nat_cells hv (by omega)
  have HA := Lib.hid hca
  have HB := Lib.hid hcb
  obtain ⟨R, hR⟩ : ∃ R : Bool, R = lexB a b := ⟨_, rfl⟩
  rw [← hR]
  have HR := Lib.hid hR
  have HL := Lib.hid hl
  have hg : ∀ (c : List Nat) (k : Nat) (h : k < c.length), gC c k = c[k] := fun c k h => by
    unfold gC
    rw [List.getD_eq_getElem?_getD, List.getElem?_eq_getElem h]
    rfl
  have HG := Lib.hid hg
  clear hca hcb hu hv hR hg hl
  go_enter Tryz.func91, Tryz.ntmps91
  go_wp2_with fail
  go_loopw [5] (fun iv' wr => ∃ i : Nat, iv' = .int .i64 (i : Int) ∧ i ≤ a.length ∧ a.take i = b.take i ∧ Ext w wr) (fun iv' _ => a.length - (intOf iv').toNat)
  case atStart => exact ⟨0, rfl, Nat.zero_le _, rfl, Ext.refl _⟩
  case round =>
    rename World => wr
    obtain ⟨i, rfl, hi, ht, hE⟩ := hrel
    have HE := Lib.hid hE
    have HT := Lib.hid ht
    clear hE ht
    by_cases hil : i < a.length
    · have hil2 : i < b.length := by have := HL.out; omega
      have d1 := Ext.cell HE.out (HA.out i hil)
      have d2 := Ext.cell HE.out (HB.out i hil2)
      have k1 := cell_lt d1
      have k2 := cell_lt d2
      have HX := Lib.hid (HG.out a i hil)
      have HY := Lib.hid (HG.out b i hil2)
      have HLT := Lib.hid (lex_take i a b HT.out hi (by have := HL.out; omega))
      have hi1 : (i : Int) < (a.length : Int) := by omega
      have hi2 : (i : Int) < (b.length : Int) := by omega
      by_cases he : gC a i = gC b i
      · rw [he] at d1
        have hb : ((gC b i : Int) != (gC b i : Int)) = false := by simp
        have HN := Lib.hid (show a.take (i + 1) = b.take (i + 1) from by
          rw [List.take_add_one, List.take_add_one, List.getElem?_eq_getElem hil, List.getElem?_eq_getElem hil2, HT.out, ← HX.out, ← HY.out, he])
        clear he
        generalize (gC b i : Int) = z at *
        go_wp2_with fail
        go_quiet (fail)
        go_wp2_with fail
        exact ⟨⟨i + 1, by simp, by omega, HN.out, ext_drewN HE.out _⟩, by simp [intOf]; omega⟩
      · have HRR := Lib.hid (show R = decide ((gC a i : Int) < (gC b i : Int)) from by
          rw [HR.out, HLT.out, List.drop_eq_getElem_cons hil, List.drop_eq_getElem_cons hil2, lex_step, ← HX.out, ← HY.out, if_neg he]
          congr 1
          exact propext ⟨fun h => by omega, fun h => by omega⟩)
        have hb : ((gC a i : Int) != (gC b i : Int)) = true := bne_iff_ne.2 (by omega)
        clear he
        generalize (gC a i : Int) = y at *
        generalize (gC b i : Int) = z at *
        go_wp2_with fail
        go_quiet (fail)
        go_wp2_with fail
        go_quiet (fail)
        go_wp2_with fail
        go_ret
        exact ⟨by rw [HRR.out]; rfl, ext_drewN (ext_drewN HE.out _) _⟩
    · obtain rfl : i = a.length := by omega
      have HRF := Lib.hid (show R = false from by
        have h := HT.out
        rw [List.take_length, HL.out, List.take_length] at h
        rw [HR.out, h]
        exact lex_irr b)
      have hnl : ¬ (a.length : Int) < (b.length : Int) := by have := HL.out; omega
      have hnl2 : ¬ a.length < b.length := by have := HL.out; omega
      go_wp2_with fail
      go_ret
      exact ⟨by rw [HRF.out]; rfl, HE.out⟩
end Go.Proofs.YtbcngojiikdigaaGreat

namespace Go.Proofs.YtbcngojiikdigaaGreat
set_option maxRecDepth 100000
open Go.RowKit Go.Shelf
/-- the better of the best so far and one more -/
def bestS (A : MF) (o : Option (List Nat)) (c : List Nat) : Option (List Nat) := match o with
  | none => some c
  | some d => some (if betB A c d then c else d)
theorem bestK_push (A : MF) : ∀ (l : List (List Nat)) (o : Option (List Nat)) (c : List Nat), bestK A o (l ++ [c]) = bestS A (bestK A o l) c := by
  intro l
  induction l with
  | nil => intro o c; cases o <;> rfl
  | cons d l ih => intro o c; cases o <;> exact ih _ _
/-- what best holds of the best so far -/
def BestV (w : World) (v : Value) (o : Option (List Nat)) : Prop := match o with
  | none => v = .slice none 0 0
  | some c => Ints w v (natI c)
theorem BestV.ext {w w' : World} {v : Value} {o : Option (List Nat)} (h : BestV w v o) (he : Ext w w') : BestV w' v o := by
  cases o with
  | none => exact h
  | some c => exact Ints.ext h he
theorem best_mem {n : Nat} {A : MF} : ∀ (l : List (List Nat)) (o : Option (List Nat)), (∀ c ∈ l, IsCyc n A c) → (∀ c, o = some c → IsCyc n A c) → ∀ c, bestK A o l = some c → IsCyc n A c := by
  intro l
  induction l with
  | nil => intro o _ h c hc; cases o <;> exact h c hc
  | cons d l ih =>
    intro o h1 h2 c hc
    cases o with
    | none => exact ih (some d) (fun x hx => h1 x (by simp [hx])) (fun x hx => by injection hx with hx; subst hx; exact h1 _ (by simp)) c hc
    | some y =>
      refine ih _ (fun x hx => h1 x (by simp [hx])) (fun x hx => ?_) c hc
      injection hx with hx
      subst hx
      split
      · exact h1 _ (by simp)
      · exact h2 y rfl
theorem IsCyc.len {n : Nat} {A : MF} {c : List Nat} (h : IsCyc n A c) : c.length ≤ n := once_len h.1 h.2.1 h.2.2.1
theorem IsCyc.wt {n : Nat} {A : MF} {c : List Nat} (h : IsCyc n A c) (hn : n ≤ 6) (bA : bdF 1000 n A) : ∃ s, preL A (gC c) c.length = some s ∧ -6000 ≤ s ∧ s ≤ 6000 := by
  cases hs : preL A (gC c) c.length with
  | none => exact absurd hs h.2.2.2.2
  | some s =>
    have := preL_bd bA (fun i => gC_lt h.1 h.2.1 i) c.length s hs
    have := h.len
    exact ⟨s, rfl, by omega, by omega⟩
theorem mul_bd6 {s m : Int} (hs : -6000 ≤ s ∧ s ≤ 6000) (hm : 0 ≤ m ∧ m ≤ 6) : -36000 ≤ s * m ∧ s * m ≤ 36000 := by
  have h1 := Int.mul_le_mul_of_nonneg_right hs.1 hm.1
  have h2 := Int.mul_le_mul_of_nonneg_right hs.2 hm.1
  omega
theorem nil_eq1 (w : World) : Sem.run Tryz.prog (binOp .eql 23 (.slice none 0 0) (.slice none 0 0)) w = .ok (.bool true) w := by kernel_rfl
theorem nil_eq2 (a : Addr) (n c : Nat) (w : World) : Sem.run Tryz.prog (binOp .eql 23 (.slice (some a) n c) (.slice none 0 0)) w = .ok (.bool false) w := by kernel_rfl
set_option maxHeartbeats 16000000 in
theorem best_c (ua : Value) (n : Nat) (A : MF) (w : World) (hn1 : 1 ≤ n) (hn : n ≤ 6) (hA : MatAt w ua n A) (bA : bdF 1000 n A) :
    Calls Tryz.prog 58 #[ua] w fun e w' => ∃ v, e = .returned v ∧ BestV w' v (bestK A none (cycL n A)) ∧ Ext w w' := by
  have HA := Lib.hid hA
  have HBA := Lib.hid bA
  obtain ⟨a1, c1, rfl⟩ := hA.len
  have HCY := Lib.hid (Cycles_c _ n A w hn1 hn hA bA)
  have HLL := Lib.hid (allC_len (A := A) hn (Nat.le_refl n))
  clear hA bA
  go_enter Tryz.func58, Tryz.ntmps58
  go_wp2_with fail
  refine HCY.out.mono ?_
  rintro e w1 ⟨v1, rfl, hO, hE⟩
  have HE1 := Lib.hid hE
  obtain ⟨vs, ho, hvs⟩ := hO
  obtain ⟨la, cap, rfl, _, _, hrow, hvl⟩ := own_vals ho
  have HVS := Lib.hid hvs
  have HROW := Lib.hid hrow
  have HMEM := Lib.hid (show ∀ c ∈ cycL n A, IsCyc n A c from fun c hc => cycL_mem.1 hc)
  have hll : (cycL n A).length ≤ 279936 := HLL.out
  have HVL := Lib.hid hvl
  obtain ⟨L, hL⟩ : ∃ L, L = cycL n A := ⟨_, rfl⟩
  rw [← hL] at HVS HMEM hll HVL
  clear ho hvs hrow hvl hE HLL HCY
  rw [← hL]
  have HLQ := Lib.hid hL
  clear hL
  go_wp2_with fail
  go_loopw [3, 5] (fun ov iv' wr => ∃ i : Nat, iv' = .int .i64 (i : Int) ∧ i ≤ L.length ∧ BestV wr ov (bestK A none (L.take i)) ∧ Ext w1 wr) (fun _ iv' _ => L.length - (intOf iv').toNat)
  case atStart => exact ⟨0, rfl, Nat.zero_le _, rfl, Ext.refl _⟩
  case round =>
    rename World => wr
    obtain ⟨i, rfl, hi, hB, hE⟩ := hrel
    have HE := Lib.hid hE
    have HB := Lib.hid hB
    clear hE hB
    by_cases hil : i < L.length
    · obtain ⟨c, hc⟩ := getElem?_len hil
      obtain ⟨u, hu⟩ := getElem?_len (show i < vs.length by have := HVL.out; omega)
      have hcy := HMEM.out c (List.mem_of_getElem? hc)
      obtain ⟨s1, hs1, hs1b⟩ := hcy.wt hn HBA.out
      have hcl := hcy.len
      have hc1 := hcy.1
      have HI := Lib.hid (nats_ints (HVS.out i u c hu hc) (by omega))
      have HIr := Lib.hid (HI.out.ext HE.out)
      obtain ⟨cb, co, cc, rfl, _⟩ := nat_cells HI.out hc1
      obtain ⟨d1⟩ : Nonempty (∃ b o, la = some ⟨b, o, none⟩ ∧ w1.cell? ⟨b, o + i, none⟩ = some (.slice (some ⟨cb, co, none⟩) c.length cc)) := by
        rcases HROW.out with h | ⟨b, o, ha, h⟩
        · rw [h] at hu; simp at hu
        · exact ⟨b, o, ha, h i _ hu⟩
      obtain ⟨lb, lo, rfl, d1⟩ := d1
      replace d1 := Ext.cell HE.out d1
      have k1 := cell_lt d1
      have HSTEP := Lib.hid (show bestK A none (L.take (i + 1)) = bestS A (bestK A none (L.take i)) c from by
        rw [List.take_add_one, hc]
        exact bestK_push A _ none c)
      have HW1 := Lib.hid (fun W (h : Ext wr W) => weight_c _ _ n A c s1 W (HA.out.ext (Ext.trans HE1.out (Ext.trans HE.out h))) hn (HIr.out.ext h) hc1 (by omega) hcy.2.1 HBA.out hs1)
      have HOK := Lib.hid (best_mem (L.take i) none (fun x hx => HMEM.out x (List.mem_of_mem_take hx)) (fun x hx => by cases hx))
      have HS1 := Lib.hid hs1
      clear hc hu hcy hs1
      have hB := HB.out
      cases hbk : bestK A none (L.take i) with
      | none =>
        rw [hbk] at hB
        have hov : _ = Value.slice none 0 0 := hB
        subst hov
        rw [hbk] at HSTEP
        clear hB hbk
        have hnil := nil_eq1 wr
        go_wp2_with fail
        exact ⟨⟨i + 1, by simp, by omega, by rw [HSTEP.out]; exact HIr.out, HE.out⟩, by simp [intOf]; omega⟩
      | some d =>
        rw [hbk] at hB
        have hdc := HOK.out d hbk
        obtain ⟨s2, hs2, hs2b⟩ := hdc.wt hn HBA.out
        have hdl := hdc.len
        have hd1 := hdc.1
        have HID := Lib.hid (show Ints wr _ (natI d) from hB)
        obtain ⟨db, do', dcap, rfl, _⟩ := nat_cells HID.out hd1
        rw [hbk] at HSTEP
        have HW2 := Lib.hid (fun W (h : Ext wr W) => weight_c _ _ n A d s2 W (HA.out.ext (Ext.trans HE1.out (Ext.trans HE.out h))) hn (HID.out.ext h) hd1 (by omega) hdc.2.1 HBA.out hs2)
        have hxb := mul_bd6 (s := s1) (m := (d.length : Int)) hs1b (by omega)
        have hyb := mul_bd6 (s := s2) (m := (c.length : Int)) hs2b (by omega)
        obtain ⟨X, hX⟩ : ∃ X, X = s1 * (d.length : Int) := ⟨_, rfl⟩
        obtain ⟨Y, hY⟩ : ∃ Y, Y = s2 * (c.length : Int) := ⟨_, rfl⟩
        have HBET := Lib.hid (show betB A c d = (decide (Y < X) || (decide (X = Y) && (decide (c.length < d.length) || (decide (c.length = d.length) && lexB c d)))) from by
          unfold betB
          simp only
          rw [HS1.out, hs2, hX, hY]
          rfl)
        rw [← hX] at hxb
        rw [← hY] at hyb
        have hwx : IntKind.i64.wrap (s1 * (d.length : Int)) = X := by rw [← hX]; exact IntWalk.i64_in _ (by omega)
        have hwy : IntKind.i64.wrap (s2 * (c.length : Int)) = Y := by rw [← hY]; exact IntWalk.i64_in _ (by omega)
        clear hB hbk hdc hs2 hX hY
        have hnil := nil_eq2 ⟨db, do', none⟩ d.length dcap wr
        go_wp2_with fail
        clear hnil
        refine (HW1.out wr (Ext.refl _)).mono ?_
        rintro e w2 ⟨rfl, hE⟩
        have HE2 := Lib.hid hE
        clear hE
        go_wp2_with fail
        refine (HW2.out w2 HE2.out).mono ?_
        rintro e w3 ⟨rfl, hE⟩
        have HE3 := Lib.hid (Ext.trans HE2.out hE)
        clear hE d1 k1
        have HIc := Lib.hid (HIr.out.ext HE3.out)
        have HId := Lib.hid (HID.out.ext HE3.out)
        have HEZ := Lib.hid (Ext.trans HE.out HE3.out)
        have HLESS := Lib.hid (fun (h : c.length = d.length) => less_c _ _ c d w3 HIc.out HId.out h (by omega) hc1)
        have HT := Lib.hid (fun (h : betB A c d = true) => (show BestV w3 (.slice (some ⟨cb, co, none⟩) c.length cc) (bestK A none (L.take (i + 1))) from by rw [HSTEP.out]; unfold bestS; simp only; rw [if_pos h]; exact HIc.out))
        have HF := Lib.hid (fun (h : betB A c d = false) => (show BestV w3 (.slice (some ⟨db, do', none⟩) d.length dcap) (bestK A none (L.take (i + 1))) from by rw [HSTEP.out]; unfold bestS; simp only; rw [if_neg (by rw [h]; simp)]; exact HId.out))
        rcases Int.lt_trichotomy Y X with hXY | hXY | hXY
        · have HV := Lib.hid (HT.out (by rw [HBET.out, decide_eq_true hXY]; rfl))
          go_wp2_with fail
          exact ⟨⟨i + 1, by simp, by omega, HV.out, HEZ.out⟩, by simp [intOf]; omega⟩
        · subst hXY
          have hyy : (Y == Y) = true := by simp
          have hyn : ¬ Y < Y := by omega
          rcases Nat.lt_trichotomy c.length d.length with hl | hl | hl
          · have HV := Lib.hid (HT.out (by rw [HBET.out, decide_eq_true hl]; simp))
            have hli : (c.length : Int) < (d.length : Int) := by omega
            go_wp2_with fail
            exact ⟨⟨i + 1, by simp, by omega, HV.out, HEZ.out⟩, by simp [intOf]; omega⟩
          · have HLE := Lib.hid (HLESS.out hl)
            have HBE := Lib.hid (show betB A c d = lexB c d from by rw [HBET.out, decide_eq_true hl, decide_eq_false hyn, decide_eq_true rfl, decide_eq_false (by omega)]; simp)
            have hli : ¬ (c.length : Int) < (d.length : Int) := by omega
            have hli2 : ¬ c.length < d.length := by omega
            have hle : ((c.length : Int) == (d.length : Int)) = true := by rw [hl]; simp
            clear hl
            go_wp2_with fail
            refine HLE.out.mono ?_
            rintro e w4 ⟨rfl, hE⟩
            have HE4 := Lib.hid hE
            clear hE
            cases hlx : lexB c d with
            | true =>
              have HV := Lib.hid ((HT.out (by rw [HBE.out, hlx])).ext HE4.out)
              clear hlx
              go_wp2_with fail
              exact ⟨⟨i + 1, by simp, by omega, HV.out, Ext.trans HEZ.out HE4.out⟩, by simp [intOf]; omega⟩
            | false =>
              have HV := Lib.hid ((HF.out (by rw [HBE.out, hlx])).ext HE4.out)
              clear hlx
              go_wp2_with fail
              exact ⟨⟨i + 1, by simp, by omega, HV.out, Ext.trans HEZ.out HE4.out⟩, by simp [intOf]; omega⟩
          · have HV := Lib.hid (HF.out (by rw [HBET.out, decide_eq_false hyn, decide_eq_false (show ¬ c.length < d.length by omega), decide_eq_false (show ¬ c.length = d.length by omega)]; simp))
            have hli : ¬ (c.length : Int) < (d.length : Int) := by omega
            have hli2 : ¬ c.length < d.length := by omega
            have hle : ((c.length : Int) == (d.length : Int)) = false := beq_eq_false_iff_ne.2 (by omega)
            go_wp2_with fail
            exact ⟨⟨i + 1, by simp, by omega, HV.out, HEZ.out⟩, by simp [intOf]; omega⟩
        · have HV := Lib.hid (HF.out (by rw [HBET.out, decide_eq_false (show ¬ Y < X by omega), decide_eq_false (show ¬ X = Y by omega)]; rfl))
          have hyx : (X == Y) = false := beq_eq_false_iff_ne.2 (by omega)
          have hyn : ¬ Y < X := by omega
          go_wp2_with fail
          exact ⟨⟨i + 1, by simp, by omega, HV.out, HEZ.out⟩, by simp [intOf]; omega⟩
    · obtain rfl : i = L.length := by omega
      have HFIN := Lib.hid (show BestV wr _ (bestK A none L) from by have h := HB.out; rw [List.take_length] at h; exact h)
      go_wp2_with fail
      go_ret
      exact ⟨_, rfl, by rw [← HLQ.out]; exact HFIN.out, Ext.trans HE1.out HE.out⟩
end Go.Proofs.YtbcngojiikdigaaGreat

namespace Go.Proofs.YtbcngojiikdigaaGreat
set_option maxRecDepth 100000
open Go.RowKit Go.Shelf
/-- the reference's best cycle: its mean is the speed -/
theorem best_some {n : Nat} {A : MF} {p q : Int} (hs : spF n A = some (p, q)) : ∃ c s, bestK A none (cycL n A) = some c ∧ IsCyc n A c ∧ preL A (gC c) c.length = some s ∧ s * q = p * c.length := by
  obtain ⟨m, f, hL⟩ := least_ex hs
  obtain ⟨cl, cx, cp⟩ := code_ok hL
  have hb := best_code hs hL
  have hc := code_cyc (lv_noPos hs) hL
  rw [preL_lv] at cp
  cases e : preL A (gC (codeC n (lvF p q A) f m)) m with
  | none => rw [e] at cp; cases cp
  | some s0 =>
    rw [e] at cp
    have e2 : q * s0 - p * (m : Int) = 0 := Option.some.inj cp
    exact ⟨_, s0, hb, hc, by rw [cl]; exact e, by rw [cl, Int.mul_comm]; omega⟩
theorem best_no {n : Nat} {A : MF} (hs : spF n A = none) : bestK A none (cycL n A) = none := by rw [sp_cyc hs]; rfl
theorem rpace_results {g : Nat} {W : World} {a b : Int} (h : VRow W g 38 [.int .i64 a, .int .i64 b]) (tmps : Array Value) (h4 : tmps.getD 4 undef = .pointer (some ⟨g, 0, none⟩)) : (results Tryz.f59 tmps).run Tryz.prog W = .ok (.agg #[.int .i64 a, .int .i64 b]) W := by
  have c0 := VRow.cell h (k := 0) rfl
  have c1 := VRow.cell h (k := 1) rfl
  rw [results_cell1 rfl, h4]
  go_simp
set_option maxHeartbeats 4000000 in
theorem pace_c (u v : Value) (n : Nat) (A : MF) (c : List Nat) (s p q : Int) (w : World) (hA : MatAt w u n A) (hn : n ≤ 6) (hc : Ints w v (natI c)) (hcy : IsCyc n A c) (bA : bdF 1000 n A) (hs : preL A (gC c) c.length = some s) (hq : 0 < q) (hg : Int.gcd p q = 1) (he : s * q = p * c.length) :
    Calls Tryz.prog 59 #[u, v] w fun e w' => e = .returned (.agg #[.int .i64 p, .int .i64 q]) ∧ Ext w w' := by
  have hl := hcy.len
  have h1 := hcy.1
  obtain ⟨s', hs', hsb⟩ := hcy.wt hn bA
  rw [hs] at hs'
  obtain rfl := Option.some.inj hs'
  have HW := Lib.hid (fun W (h : Ext w W) => weight_c u v n A c s W (hA.ext h) hn (hc.ext h) h1 (by omega) hcy.2.1 bA hs)
  have HLT := Lib.hid (low_terms (s := s) (m := (c.length : Int)) (by omega) hq hg he)
  have HGC := Lib.hid (fun W => rgcd_c s (c.length : Int) W (by omega) (by omega))
  have hg1 : 1 ≤ (Int.gcd s (c.length : Int) : Int) := by
    have : 0 < Int.gcd s (c.length : Int) := Int.gcd_pos_of_ne_zero_right s (by omega)
    omega
  have hg2 : (Int.gcd s (c.length : Int) : Int) ≤ 6 := by
    have := Int.gcd_le_natAbs_right s (show (c.length : Int) ≠ 0 by omega)
    omega
  obtain ⟨ab, ao, ac, rfl, _⟩ := hA
  obtain ⟨cb, co, cc, rfl, _⟩ := nat_cells hc h1
  clear hs hcy bA hc he hg hs'
  have HE0 := Lib.hid (Ext.alloc (Ext.refl w) (.cells #[.int .i64 0, .int .i64 0] 38))
  have HP0 := Lib.hid (show VRow (w.alloc (.cells #[.int .i64 0, .int .i64 0] 38)) _ _ _ from vrow_alloc w [.int .i64 0, .int .i64 0] 38)
  have hwD : w.heap.size ≤ w.heap.size := Nat.le_refl _
  generalize (Int.gcd s (c.length : Int) : Int) = g at *
  go_enter Tryz.func59, Tryz.ntmps59
  go_wp2_with fail
  generalize w.alloc (.cells #[.int .i64 0, .int .i64 0] 38) = w0 at *
  refine (HW.out _ HE0.out).mono ?_
  rintro e w1 ⟨rfl, hE⟩
  have HE1 := Lib.hid (Ext.trans HE0.out hE)
  have HP1 := Lib.hid (VRow.ext HP0.out hE)
  clear hE
  go_wp2_with fail
  refine (HGC.out _).mono ?_
  rintro e w2 ⟨rfl, hE⟩
  have HE2 := Lib.hid (Ext.trans HE1.out hE)
  have HP2 := Lib.hid (VRow.ext HP1.out hE)
  clear hE
  have m0 := VRow.cell HP2.out (k := 0) rfl
  have m1 := VRow.cell HP2.out (k := 1) rfl
  have f0 := VRow.frozen HP2.out 0 none
  have f1 := VRow.frozen HP2.out 1 none
  have hgz : g ≠ 0 := by omega
  have HWQ := Lib.hid (show wrap64 ((c.length : Int) / g) = (c.length : Int).tdiv g from by
    have h3 := Int.ediv_nonneg (show 0 ≤ (c.length : Int) by omega) (show 0 ≤ g by omega)
    have h4 := Int.ediv_le_self g (show 0 ≤ (c.length : Int) by omega)
    rw [Int.tdiv_eq_ediv_of_nonneg (by omega)]
    unfold wrap64; omega)
  go_wp2_with fail
  go_region
  go_wp2
  rw [HWQ.out]
  (try simp only [Exit.inBlock, Exit.then])
  refine bodyPost_ret (rpace_results (VRow.drew (VRow.set (VRow.set HP2.out 0 (.int .i64 (s.tdiv g))) 1 (.int .i64 ((c.length : Int).tdiv g)))) _ rfl) rfl ?_
  rw [HLT.out.1, HLT.out.2]
  exact ⟨rfl, Ext.drew (Below.setCell (p := ⟨w.heap.size, 1, none⟩) (Below.setCell (p := ⟨w.heap.size, 0, none⟩) HE2.out hwD _) hwD _)⟩
end Go.Proofs.YtbcngojiikdigaaGreat

namespace Go.Proofs.YtbcngojiikdigaaGreat
set_option maxRecDepth 100000
open Go.RowKit Go.Shelf
theorem rspeed_results {g : Nat} {W : World} {a b c : Int} (h : VRow W g 38 [.int .i64 a, .int .i64 b]) (tmps : Array Value) (h4 : tmps.getD 2 undef = .pointer (some ⟨g, 0, none⟩)) (h5 : tmps.getD 3 undef = .int .i64 c) : (results Tryz.f21 tmps).run Tryz.prog W = .ok (.tuple #[.agg #[.int .i64 a, .int .i64 b], .int .i64 c]) W := by
  have c0 := VRow.cell h (k := 0) rfl
  have c1 := VRow.cell h (k := 1) rfl
  rw [results_cell_tmp rfl, h4, h5]
  go_simp
set_option maxHeartbeats 4000000 in
theorem rSpeed_c (u : Value) (xs : List (List Int)) (w : World) (hu : Rows2 w u xs) (hlx : ∀ r ∈ xs, r.length ≤ 1000000) :
    Calls Tryz.prog 21 #[u] w fun e w' => e = two (.agg #[.int .i64 (speedZ xs).1, .int .i64 (speedZ xs).2.1]) (.int .i64 (speedZ xs).2.2) ∧ Ext w w' := by
  have HU := Lib.hid hu
  have HM := Lib.hid (fun W (h : Ext w W) => rmatrix_c u xs W (hu.ext h) hlx)
  obtain ⟨a1, c1, rfl, hl1, hm1, _⟩ := hu.at
  clear hu hlx
  have HE0 := Lib.hid (Ext.alloc (Ext.refl w) (.cells #[.int .i64 0, .int .i64 0] 38))
  have HP0 := Lib.hid (show VRow (w.alloc (.cells #[.int .i64 0, .int .i64 0] 38)) _ _ _ from vrow_alloc w [.int .i64 0, .int .i64 0] 38)
  have HZ := Lib.hid (show speedZ xs = speedZ xs from rfl)
  obtain ⟨⟨z1, z2, z3⟩, hz⟩ : ∃ z, z = speedZ xs := ⟨_, rfl⟩
  rw [← hz]
  simp only
  unfold speedZ at hz
  have hwD : w.heap.size ≤ w.heap.size := Nat.le_refl _
  cases hx : matB xs with
  | false =>
    rw [hx] at HM hz
    simp only [Bool.false_eq_true, if_false, Prod.mk.injEq] at hz
    obtain ⟨rfl, rfl, rfl⟩ := hz
    clear hx HZ
    go_enter Tryz.func21, Tryz.ntmps21
    go_wp2_with fail
    generalize w.alloc (.cells #[.int .i64 0, .int .i64 0] 38) = w0 at *
    refine (HM.out _ HE0.out).mono ?_
    rintro e w1 ⟨rfl, hE⟩
    have HE := Lib.hid (Ext.trans HE0.out hE)
    have HP := Lib.hid (VRow.ext HP0.out hE)
    have m0 := VRow.cell HP.out (k := 0) rfl
    have m1 := VRow.cell HP.out (k := 1) rfl
    have f0 := VRow.frozen HP.out 0 none
    have f1 := VRow.frozen HP.out 1 none
    clear hE
    go_wp2_with fail
    (try simp only [Exit.inBlock, Exit.then])
    refine bodyPost_ret (rspeed_results (VRow.set (VRow.set HP.out 0 (.int .i64 0)) 1 (.int .i64 0)) _ rfl rfl) rfl ?_
    exact ⟨rfl, Below.setCell (p := ⟨w.heap.size, 1, none⟩) (Below.setCell (p := ⟨w.heap.size, 0, none⟩) HE.out hwD _) hwD _⟩
  | true =>
    have HOX := Lib.hid (matB_ok hx)
    have hn := HOX.out.1
    rw [hx] at HM hz
    simp only [if_true] at hz
    clear hx HZ
    go_enter Tryz.func21, Tryz.ntmps21
    go_wp2_with fail
    generalize w.alloc (.cells #[.int .i64 0, .int .i64 0] 38) = w0 at *
    refine (HM.out _ HE0.out).mono ?_
    rintro e w1 ⟨rfl, hE⟩
    have HE := Lib.hid (Ext.trans HE0.out hE)
    have HP := Lib.hid (VRow.ext HP0.out hE)
    have HMA := Lib.hid (rows_mat (HU.out.ext HE.out) HOX.out.2.1 hn.1)
    clear hE
    go_wp2_with fail
    refine (best_c _ xs.length (entF xs) w1 hn.1 hn.2 HMA.out HOX.out.2.2).mono ?_
    rintro e w3 ⟨v, rfl, hB, hE⟩
    have HE3 := Lib.hid (Ext.trans HE.out hE)
    have HP3 := Lib.hid (VRow.ext HP.out hE)
    have HM3 := Lib.hid (MatAt.ext HMA.out hE)
    clear hE
    cases hs : spF xs.length (entF xs) with
    | none =>
      rw [hs] at hz
      simp only [Prod.mk.injEq] at hz
      obtain ⟨rfl, rfl, rfl⟩ := hz
      rw [best_no hs] at hB
      have hv : v = Value.slice none 0 0 := hB
      subst hv
      clear hs hB
      have hnil := nil_eq1 w3
      have m0 := VRow.cell HP3.out (k := 0) rfl
      have m1 := VRow.cell HP3.out (k := 1) rfl
      have f0 := VRow.frozen HP3.out 0 none
      have f1 := VRow.frozen HP3.out 1 none
      go_wp2_with fail
      (try simp only [Exit.inBlock, Exit.then])
      refine bodyPost_ret (rspeed_results (VRow.set (VRow.set HP3.out 0 (.int .i64 0)) 1 (.int .i64 0)) _ rfl rfl) rfl ?_
      exact ⟨rfl, Below.setCell (p := ⟨w.heap.size, 1, none⟩) (Below.setCell (p := ⟨w.heap.size, 0, none⟩) HE3.out hwD _) hwD _⟩
    | some pq =>
      obtain ⟨p, q⟩ := pq
      rw [hs] at hz
      simp only [Prod.mk.injEq] at hz
      obtain ⟨rfl, rfl, rfl⟩ := hz
      obtain ⟨c, s, hb, hcy, hps, hsq⟩ := best_some hs
      obtain ⟨hco, hq0⟩ := sp_coprime hs
      rw [hb] at hB
      have hI : Ints w3 v (natI c) := hB
      have HPC := Lib.hid (pace_c _ v _ _ c s z1 z2 w3 HM3.out hn.2 hI hcy HOX.out.2.2 hps hq0 hco hsq)
      obtain ⟨cb, co, cc, rfl, _⟩ := nat_cells hI hcy.1
      clear hs hB hb hcy hps hsq hco hq0 hI
      have hnil := nil_eq2 ⟨cb, co, none⟩ c.length cc w3
      go_wp2_with fail
      clear hnil
      refine HPC.out.mono ?_
      rintro e w5 ⟨rfl, hE⟩
      have HE6 := Lib.hid (Ext.trans HE3.out hE)
      have HP6 := Lib.hid (VRow.ext HP3.out hE)
      clear hE
      have m0 := VRow.cell HP6.out (k := 0) rfl
      have m1 := VRow.cell HP6.out (k := 1) rfl
      have f0 := VRow.frozen HP6.out 0 none
      have f1 := VRow.frozen HP6.out 1 none
      go_wp2_with fail
      (try simp only [Exit.inBlock, Exit.then])
      refine bodyPost_ret (rspeed_results (VRow.set (VRow.set HP6.out 0 (.int .i64 z1)) 1 (.int .i64 z2)) _ rfl rfl) rfl ?_
      exact ⟨rfl, Below.setCell (p := ⟨w.heap.size, 1, none⟩) (Below.setCell (p := ⟨w.heap.size, 0, none⟩) HE6.out hwD _) hwD _⟩
/-- what the reference's Cycle gives -/
def RCycS (xs : List (List Int)) (e : Ending) (w' : World) : Prop :=
  if matB xs then match bestK (entF xs) none (cycL xs.length (entF xs)) with
    | none => e = two (.slice none 0 0) (.int .i64 10)
    | some c => ∃ v, e = two v (.int .i64 0) ∧ Ints w' v (natI c)
  else e = two (.slice none 0 0) (.int .i64 2)
set_option maxHeartbeats 4000000 in
theorem rCycle_c (u : Value) (xs : List (List Int)) (w : World) (hu : Rows2 w u xs) (hlx : ∀ r ∈ xs, r.length ≤ 1000000) :
    Calls Tryz.prog 23 #[u] w fun e w' => RCycS xs e w' ∧ Ext w w' := by
  have HU := Lib.hid hu
  have HM := Lib.hid (fun W (h : Ext w W) => rmatrix_c u xs W (hu.ext h) hlx)
  obtain ⟨a1, c1, rfl, hl1, hm1, _⟩ := hu.at
  clear hu hlx
  cases hx : matB xs with
  | false =>
    rw [hx] at HM
    have HR := Lib.hid (fun W => show RCycS xs (two (.slice none 0 0) (.int .i64 2)) W from by unfold RCycS; rw [hx]; rfl)
    clear hx
    go_enter Tryz.func23, Tryz.ntmps23
    go_wp2_with fail
    refine (HM.out _ (Ext.refl _)).mono ?_
    rintro e w1 ⟨rfl, hE⟩
    have HE := Lib.hid hE
    clear hE
    go_wp2_with fail
    go_ret2
    exact ⟨HR.out _, HE.out⟩
  | true =>
    have HOX := Lib.hid (matB_ok hx)
    have hn := HOX.out.1
    rw [hx] at HM
    have HXT := Lib.hid hx
    clear hx
    go_enter Tryz.func23, Tryz.ntmps23
    go_wp2_with fail
    refine (HM.out _ (Ext.refl _)).mono ?_
    rintro e w1 ⟨rfl, hE⟩
    have HE := Lib.hid hE
    have HMA := Lib.hid (rows_mat (HU.out.ext HE.out) HOX.out.2.1 hn.1)
    clear hE
    go_wp2_with fail
    refine (best_c _ xs.length (entF xs) w1 hn.1 hn.2 HMA.out HOX.out.2.2).mono ?_
    rintro e w3 ⟨v, rfl, hB, hE⟩
    have HE3 := Lib.hid (Ext.trans HE.out hE)
    clear hE
    cases hb : bestK (entF xs) none (cycL xs.length (entF xs)) with
    | none =>
      rw [hb] at hB
      have hv : v = Value.slice none 0 0 := hB
      subst hv
      have HR := Lib.hid (fun W => show RCycS xs (two (.slice none 0 0) (.int .i64 10)) W from by unfold RCycS; rw [HXT.out, hb]; rfl)
      clear hb hB
      have hnil := nil_eq1 w3
      go_wp2_with fail
      go_ret2
      exact ⟨HR.out _, HE3.out⟩
    | some c =>
      rw [hb] at hB
      have hI : Ints w3 v (natI c) := hB
      have hcy := best_mem _ none (fun x hx => cycL_mem.1 hx) (fun x hx => by cases hx) c hb
      have HI := Lib.hid hI
      have HR := Lib.hid (fun W (h : Ints W v (natI c)) => show RCycS xs (two v (.int .i64 0)) W from by unfold RCycS; rw [HXT.out, hb]; exact ⟨v, rfl, h⟩)
      obtain ⟨cb, co, cc, rfl, _⟩ := nat_cells hI hcy.1
      clear hb hB hI hcy
      have hnil := nil_eq2 ⟨cb, co, none⟩ c.length cc w3
      go_wp2_with fail
      go_ret2
      exact ⟨HR.out _ HI.out, HE3.out⟩
end Go.Proofs.YtbcngojiikdigaaGreat

namespace Go.Proofs.YtbcngojiikdigaaGreat
set_option maxRecDepth 100000
open Go.RowKit Go.Shelf
theorem lvF_bd0 {p q : Int} {n : Nat} {A : MF} (bA : bdF 1000 n A) (hp : -6000 ≤ p ∧ p ≤ 6000) (hq : 0 ≤ q ∧ q ≤ 6) : bdF 12000 n (lvF p q A) := fun i hi j hj y hy => by
  unfold lvF at hy
  cases h : A i j with
  | none => rw [h] at hy; cases hy
  | some a =>
    rw [h] at hy
    simp only [lvE, Option.some.injEq] at hy
    have h1 := bA i hi j hj a h
    have h2 := mul_bd (t := a) (d := q) (X := 1000) (by omega) (by omega)
    rw [Int.mul_comm a q] at h2
    omega
set_option maxHeartbeats 8000000 in
theorem scaled_c (u : Value) (n : Nat) (A : MF) (p q : Int) (w : World) (hn1 : 1 ≤ n) (hn : n ≤ 6) (hA : MatAt w u n A) (bA : bdF 1000 n A) (hp : -6000 ≤ p ∧ p ≤ 6000) (hq : 0 ≤ q ∧ q ≤ 6) :
    Calls Tryz.prog 66 #[u, .agg #[.int .i64 p, .int .i64 q]] w fun e w' => ∃ r, e = .returned r ∧ MatAt w' r n (lvF p q A) ∧ Ext w w' := by
  have HBA := Lib.hid bA
  have HBL := Lib.hid (lvF_bd0 bA hp hq)
  obtain ⟨ab, ao, ac, rfl, ha1, ha2, ha3⟩ := hA
  have HA3 := Lib.hid ha3
  clear bA ha3
  have HE0 := Lib.hid (Ext.alloc (Ext.refl w) (.cells #[.int .i64 p, .int .i64 q] 38))
  have HP0 := Lib.hid (show VRow (w.alloc (.cells #[.int .i64 p, .int .i64 q] 38)) _ _ _ from vrow_alloc w [.int .i64 p, .int .i64 q] 38)
  go_enter Tryz.func66, Tryz.ntmps66
  go_wp2_with fail
  generalize w.alloc (.cells #[.int .i64 p, .int .i64 q] 38) = w0 at *
  have hP := HE0.out.size
  go_loopw [6, 5] (fun i ov wr => ∃ k : Nat, i = .int .i64 (k : Int) ∧ k ≤ n ∧ OutTo w0.heap.size wr ov n k (lvF p q A) ∧ Ext w0 wr) (fun i _ _ => n - (intOf i).toNat)
  case atStart => exact ⟨0, rfl, Nat.zero_le _, ⟨[], ⟨rfl, .inl ⟨rfl, rfl⟩⟩, fun i u h => by simp at h⟩, Ext.refl _⟩
  case round =>
    rename World => wr
    obtain ⟨k, rfl, hk, hO, hE⟩ := hrel
    have HO := Lib.hid hO
    obtain ⟨vs, ho, hvs⟩ := hO
    obtain ⟨oa, oc, rfl⟩ := own_slice ho
    have HOW := Lib.hid ho
    have HVS := Lib.hid hvs
    have HE := Lib.hid hE
    clear ho hvs hE
    have hwr := HE.out.size
    by_cases hlt : k < n
    · obtain ⟨ra, ca, hra⟩ := HA3.out k hlt
      have HCA := Lib.hid (Ext.cell (Ext.trans HE0.out HE.out) ca)
      have HRA := Lib.hid (hra.ext (Ext.trans HE0.out HE.out))
      obtain ⟨rb, ro, rc, rfl, hr1, hr2, hr3⟩ := hra
      clear ca hr3
      go_wp2_with fail
      go_loopw [8, 7] (fun jv rv wq => ∃ j : Nat, jv = .int .i64 (j : Int) ∧ j ≤ n ∧ RowOwn wr.heap.size wq rv j (lvF p q A k) ∧ Ext wr wq) (fun jv _ _ => n - (intOf jv).toNat)
      case atStart => exact ⟨0, rfl, Nat.zero_le _, ⟨rfl, .inl ⟨rfl, rfl⟩⟩, Ext.refl _⟩
      case round =>
        rename World => wq
        obtain ⟨j, rfl, hj, hR, hEq⟩ := hrel
        obtain ⟨sa, sc, rfl⟩ := own_slice hR
        have HR := Lib.hid hR
        have HEq := Lib.hid hEq
        clear hR hEq
        have hwq := HEq.out.size
        by_cases hjl : j < n
        · have cA := Ext.cell HEq.out HCA.out
          have kA := cell_lt cA
          have cE : wq.cell? ⟨rb, ro + j, none⟩ = some (iv (A k j)) := by
            obtain ⟨b', o', c', e, _, _, h⟩ := HRA.out.ext HEq.out
            simp only [Value.slice.injEq, Option.some.injEq, Addr.mk.injEq] at e
            obtain ⟨⟨rfl, rfl, _⟩, _⟩ := e
            exact h j hjl
          have kE := cell_lt cE
          have HRS := Lib.hid (listV_succ j (lvF p q A k))
          have HBE := Lib.hid (HBA.out k hlt j hjl)
          have hlen : (listV j (lvF p q A k)).length = j := listV_len _ _
          have hob : ∀ x, Value.ownBlock (.slice sa j sc) = some x → wr.heap.size ≤ x := fun x hx => own_block HR.out hx
          obtain ⟨i0, hi0, hz0, hz1, hz2⟩ := info_parts info3x23
          have HI := Lib.hid hi0
          have HZ0 := Lib.hid hz0
          have HZ1 := Lib.hid hz1
          have HZ2 := Lib.hid hz2
          clear hi0 hz0 hz1 hz2
          cases hkj : A k j with
          | none =>
            have HV := Lib.hid (show val (lvF p q A k j) = -1152921504606846976 from by unfold lvF; rw [hkj]; rfl)
            rw [hkj] at cE
            replace cE : wq.cell? ⟨rb, ro + j, none⟩ = some (.int .i64 (-1152921504606846976)) := cE
            clear hkj
            have hwo := Ext.alloc (Ext.refl wq) (.cells #[.int .i64 (-1152921504606846976)] 3)
            have HOWN := Lib.hid (ownsRow_ext HR.out hwo)
            clear hwo
            go_wp2_with (at_builtin; (refine wpList_append_own _ rfl _ _ 23 rfl wr.heap.size 3 i0 (.int .i64 0) 1 8 Tryz.underlying23 HI.out HZ0.out HZ1.out HZ2.out rfl (by decide) _ _ _ rfl HOWN.out ⟨wq.heap.size, 0, none⟩ 1 1 [.int .i64 (-1152921504606846976)] rfl rfl (fun j u h => cell_one_new wq _ 3 j u h) (by simp [Value.oneCell']) (by unfold maxLen; omega) (by omega) (by simp; omega) ?_; intro v' w' hown' hgrow hnil; have HO10 := Lib.hid hown'; have HG10 := Lib.hid hgrow; clear hown' hgrow hnil))
            refine ⟨⟨j + 1, by simp, by omega, ?_, Below.grown (Ext.alloc HEq.out (.cells #[.int .i64 (-1152921504606846976)] 3)) HG10.out (by simp; omega) (fun x e => hob x e)⟩, by simp [intOf]; omega⟩
            unfold RowOwn
            rw [HRS.out, List.map_append, HV.out]
            exact HO10.out
          | some a =>
            have hab := HBE.out a hkj
            have h2 := mul_bd (t := a) (d := q) (X := 1000) (by omega) (by omega)
            rw [Int.mul_comm a q] at h2
            obtain ⟨X, hX⟩ : ∃ X, X = q * a := ⟨_, rfl⟩
            rw [← hX] at h2
            obtain ⟨Z, hZ⟩ : ∃ Z, Z = X - p := ⟨_, rfl⟩
            have HV := Lib.hid (show val (lvF p q A k j) = Z from by unfold lvF; rw [hkj, hZ, hX]; rfl)
            have hw1 : IntKind.i64.wrap (q * a) = X := by rw [← hX]; exact IntWalk.i64_in _ (by omega)
            have hw2 : IntKind.i64.wrap (X - p) = Z := by rw [← hZ]; exact IntWalk.i64_in _ (by omega)
            rw [hkj] at cE
            replace cE : wq.cell? ⟨rb, ro + j, none⟩ = some (.int .i64 a) := cE
            have hne : (a == (-1152921504606846976 : Int)) = false := beq_eq_false_iff_ne.2 (by omega)
            have HPq := Lib.hid (VRow.ext HP0.out (Ext.trans HE.out HEq.out))
            have m0 := VRow.cell HPq.out (k := 0) rfl
            have m1 := VRow.cell HPq.out (k := 1) rfl
            have hown9 : ∀ o : Obj, (wq.alloc o).drew.ownsRow wr.heap.size 3 1 (.slice sa j sc) j ((listV j (lvF p q A k)).map (Value.int .i64)) := fun o => ownsRow_ext HR.out (Ext.drew (Ext.alloc (Ext.refl wq) o))
            have hnew9 : ∀ x : Value, ∀ j u, [x][j]? = some u → (wq.alloc (.cells #[x] 3)).drew.cell? ((⟨wq.heap.size, 0, none⟩ : Addr).add j) = some u := fun x j u h => cell_one_new wq x 3 j u h
            have hbase9 : ∀ o : Obj, wr.heap.size ≤ (wq.alloc o).drew.heap.size := fun o => by show wr.heap.size ≤ (wq.alloc o).heap.size; simp; omega
            have hmax9 : j + 1 ≤ maxLen := by unfold maxLen; omega
            have hby9 : (j + 1) * 8 ≤ 140737488355328 := by omega
            have hone9 : ∀ y : Int, ∀ u ∈ [Value.int .i64 y], u.oneCell' = true := fun y u hu => by simp only [List.mem_singleton] at hu; subst hu; rfl
            clear hkj hX hZ hab h2
            go_wp2_with fail
            go_region_law (refine step_append_lies _ rfl (.tmp 32) (.tmp 46) 23 rfl wr.heap.size 3 i0 (.int .i64 0) 1 8 Tryz.underlying23 HI.out HZ0.out HZ1.out HZ2.out rfl Nat.one_pos (.slice sa j sc) j _ rfl (hown9 _) ⟨wq.heap.size, 0, none⟩ 1 1 [.int .i64 Z] rfl rfl (hnew9 _) (hone9 _) Nat.one_pos hmax9 hby9 (hbase9 _) _ rfl ?_; intro g cap w8 hown8 hgrow hat hlt8; have HO8 := Lib.hid hown8; have HG8 := Lib.hid hgrow; clear hown8 hgrow hat hlt8)
            all_goals (go_wp2_with fail)
            all_goals refine ⟨⟨j + 1, by simp, by omega, ?_, Below.grown (Ext.drew (Ext.alloc HEq.out (.cells #[.int .i64 Z] 3))) HG8.out (by show _ ≤ (wq.alloc _).heap.size; simp; omega) (fun x e => hob x e)⟩, by simp [intOf]; omega⟩
            all_goals (unfold RowOwn; rw [HRS.out, List.map_append, HV.out]; exact HO8.out)
        · obtain rfl : j = n := by omega
          have hR := HR.out
          unfold RowOwn at hR
          obtain ⟨i0, hi0, hz0, hz1, hz2⟩ := info_parts info22
          have HI := Lib.hid hi0
          have HZ0 := Lib.hid hz0
          have HZ1 := Lib.hid hz1
          have HZ2 := Lib.hid hz2
          clear hi0 hz0 hz1 hz2
          have hEa := Ext.alloc (Ext.refl wq) (.cells #[.slice sa j sc] 23)
          have HOWN := Lib.hid (ownsRow_ext HOW.out (Ext.trans HEq.out hEa))
          have HROW := Lib.hid (ownsRow_ext (own_mono hR hwr) hEa)
          have HVQ := Lib.hid (fun (i : Nat) (u : Value) (h : vs[i]? = some u) => ownsRow_ext (HVS.out i u h) (Ext.trans HEq.out hEa))
          have hvl : vs.length = k := by have := HOW.out.1; omega
          have hob : ∀ x, Value.ownBlock (.slice oa k oc) = some x → w0.heap.size ≤ x := fun x hx => own_block HOW.out hx
          clear hR hEa
          go_wp2_with (at_builtin; (refine wpList_append_own _ rfl _ _ 22 rfl w0.heap.size 23 i0 (.slice none 0 0) 1 24 Tryz.underlying22 HI.out HZ0.out HZ1.out HZ2.out rfl (by decide) _ _ _ rfl HOWN.out ⟨wq.heap.size, 0, none⟩ 1 1 [.slice sa j sc] rfl rfl (fun j u h => cell_one_new wq _ 23 j u h) (by simp [Value.oneCell']) (by unfold maxLen; omega) (by omega) (by simp; omega) ?_; intro v' w' hown' hgrow hnil; have HO10 := Lib.hid hown'; have HG10 := Lib.hid hgrow; clear hown' hgrow hnil))
          refine ⟨⟨k + 1, by simp, by omega, ⟨_, HO10.out, fun i u h => ?_⟩, Below.grown (Ext.alloc (Ext.trans HE.out HEq.out) (.cells #[.slice sa j sc] 23)) HG10.out (by simp; omega) (fun x e => hob x e)⟩, by simp [intOf]; omega⟩
          rcases Nat.lt_trichotomy i k with hi | hi | hi
          · rw [List.getElem?_append_left (by omega)] at h
            exact own_keep (HVQ.out i u h) (own_type HOWN.out) HG10.out
          · subst hi
            rw [List.getElem?_append_right (by omega), hvl, Nat.sub_self] at h
            injection h with h
            subst h
            exact own_keep HROW.out (own_type HOWN.out) HG10.out
          · rw [List.getElem?_append_right (by omega)] at h
            have := lt_len h
            simp at this
            omega
    · obtain rfl : k = n := by omega
      go_wp2_with fail
      go_ret
      exact ⟨_, rfl, HO.out.mat hn1 (by omega) (HBL.out.mono (by unfold KB; omega)), Ext.trans HE0.out HE.out⟩
end Go.Proofs.YtbcngojiikdigaaGreat

namespace Go.Proofs.YtbcngojiikdigaaGreat
set_option maxRecDepth 100000
open Go.RowKit Go.Shelf
/-- rows of their own, each a block of numbers, no two the same -/
def OutW (base : Nat) (w : World) (v : Value) (n k : Nat) (M : MF) : Prop :=
  ∃ Rs : List Nat, w.ownsRow base 23 1 v k (Rs.map fun R => Value.slice (some ⟨R, 0, none⟩) n n) ∧ Rs.Nodup ∧ ∀ (i R : Nat), Rs[i]? = some R → base ≤ R ∧ R < w.heap.size ∧ VRow w R 3 ((listV n (M i)).map (Value.int .i64))
theorem vrow_keep {w w' : World} {R : Nat} {row : Option Nat} {us : List Value} (h : VRow w R 3 us) (hr : ∀ g, row = some g → ∃ c f, w.heap[g]? = some (.cells c 23 f)) (hg : w.grownBy w' row) : VRow w' R 3 us :=
  (hg.block R (Array.getElem?_eq_some_iff.1 h).1 (fun e => by
    obtain ⟨c, f, h1⟩ := hr R e.symm
    unfold VRow at h
    rw [h1] at h
    injection h with h
    injection h with _ h
    exact absurd h (by decide))).trans h
set_option maxHeartbeats 4000000 in
theorem roneW_c (n : Nat) (w : World) (hn1 : 1 ≤ n) (hn : n ≤ 6) :
    Calls Tryz.prog 74 #[.int .i64 (n : Int)] w fun e w' => ∃ r, e = .returned r ∧ OutW w.heap.size w' r n n oneF ∧ Ext w w' := by
  go_enter Tryz.func74, Tryz.ntmps74
  go_wp2_with fail
  go_loopw [4, 3] (fun i ov wr => ∃ k : Nat, i = .int .i64 (k : Int) ∧ k ≤ n ∧ OutW w.heap.size wr ov n k oneF ∧ Ext w wr) (fun i _ _ => n - (intOf i).toNat)
  case atStart => exact ⟨0, rfl, Nat.zero_le _, ⟨[], ⟨rfl, .inl ⟨rfl, rfl⟩⟩, List.nodup_nil, fun i R h => by simp at h⟩, Ext.refl _⟩
  case round =>
    rename World => wr
    obtain ⟨k, rfl, hk, hO, hE⟩ := hrel
    have HO := Lib.hid hO
    obtain ⟨Rs, ho, hnd, hvs⟩ := hO
    have HND := Lib.hid hnd
    obtain ⟨oa, oc, rfl⟩ := own_slice ho
    have HOW := Lib.hid ho
    have HVS := Lib.hid hvs
    have HE := Lib.hid hE
    clear ho hvs hnd hE
    have hwr := HE.out.size
    by_cases hlt : k < n
    · have hmk := run_make_ints n (by omega)
      have HP1 := Lib.hid (vrow_rep wr (.int .i64 0) n 3)
      have HEm := Lib.hid (Ext.alloc (Ext.refl wr) (.cells (Array.replicate n (.int .i64 0)) 3))
      have hsm : (wr.alloc (.cells (Array.replicate n (.int .i64 0)) 3)).heap.size = wr.heap.size + 1 := by simp
      go_wp2_with fail
      clear hmk
      generalize wr.alloc (.cells (Array.replicate n (.int .i64 0)) 3) = wm at *
      go_loopw [6] (fun jv wq => ∃ (j : Nat) (us : List Value), jv = .int .i64 (j : Int) ∧ j ≤ n ∧ VRow wq wr.heap.size 3 us ∧ us.length = n ∧ (∀ i, i < j → us[i]? = some (.int .i64 (val (oneF k i)))) ∧ (∀ i, j ≤ i → i < n → us[i]? = some (.int .i64 0)) ∧ Ext wr wq) (fun jv _ => n - (intOf jv).toNat)
      case atStart => exact ⟨0, _, rfl, Nat.zero_le _, HP1.out, by simp, fun i h => by omega, fun i _ h => by rw [List.getElem?_replicate, if_pos h], HEm.out⟩
      case round =>
        rename World => wq
        obtain ⟨j, us, rfl, hj, hus, hul, hst, hst2, hEq⟩ := hrel
        have HUS := Lib.hid hus
        have HST := Lib.hid hst
        have HST2 := Lib.hid hst2
        have HUL := Lib.hid hul
        have HEq := Lib.hid hEq
        clear hus hst hst2 hul hEq
        by_cases hjl : j < n
        · by_cases hkj : k = j
          · have hb : ((k : Int) != (j : Int)) = false := by rw [hkj]; simp
            have HN := Lib.hid (show ∀ i, i < j + 1 → us[i]? = some (.int .i64 (val (oneF k i))) from fun i hi => by
              by_cases e : i = j
              · subst e; rw [HST2.out i (Nat.le_refl _) hjl, val_one, if_pos hkj]
              · exact HST.out i (by omega))
            have hk1 : k ≤ j := by omega
            have hk2 : j ≤ k := by omega
            clear hkj
            go_wp2_with fail
            exact ⟨⟨j + 1, us, by simp, by omega, HUS.out, HUL.out, HN.out, fun i h1 h2 => HST2.out i (by omega) h2, HEq.out⟩, by simp [intOf]; omega⟩
          · have hb : ((k : Int) != (j : Int)) = true := by rw [bne_iff_ne]; omega
            have m0 := VRow.cell HUS.out (HST2.out j (Nat.le_refl _) hjl)
            have f0 := VRow.frozen HUS.out j none
            have hcb := cell_lt m0
            have HN := Lib.hid (show ∀ i, i < j + 1 → (us.set j (.int .i64 (-1152921504606846976)))[i]? = some (.int .i64 (val (oneF k i))) from fun i hi => by
              by_cases e : i = j
              · subst e; rw [List.getElem?_set_self (by rw [HUL.out]; exact hjl), val_one, if_neg hkj]
              · rw [List.getElem?_set_ne (fun h => e h.symm)]; exact HST.out i (by omega))
            have HN2 := Lib.hid (show ∀ i, j + 1 ≤ i → i < n → (us.set j (.int .i64 (-1152921504606846976)))[i]? = some (.int .i64 0) from fun i h1 h2 => by
              rw [List.getElem?_set_ne (by omega)]; exact HST2.out i (by omega) h2)
            clear hkj
            go_wp2_with fail
            exact ⟨⟨j + 1, _, by simp, by omega, VRow.set HUS.out j (.int .i64 (-1152921504606846976)), by rw [List.length_set]; exact HUL.out, HN.out, HN2.out, Below.setCell (p := ⟨wr.heap.size, j, none⟩) HEq.out (Nat.le_refl _) _⟩, by simp [intOf]; omega⟩
        · obtain rfl : j = n := by omega
          have hwq := HEq.out.size
          have hus : us = (listV j (oneF k)).map (Value.int .i64) := list_of (by rw [HUL.out]; simp [listV_len]) (fun i u hu => by
            have hi := lt_len hu
            rw [HUL.out] at hi
            rw [HST.out i hi] at hu
            rw [← hu, List.getElem?_map, listV_at _ hi]; rfl)
          have hRow : VRow wq wr.heap.size 3 ((listV j (oneF k)).map (Value.int .i64)) := by rw [← hus]; exact HUS.out
          obtain ⟨i0, hi0, hz0, hz1, hz2⟩ := info_parts info22
          have HI := Lib.hid hi0
          have HZ0 := Lib.hid hz0
          have HZ1 := Lib.hid hz1
          have HZ2 := Lib.hid hz2
          have hEa := Ext.alloc (Ext.refl wq) (.cells #[.slice (some ⟨wr.heap.size, 0, none⟩) j j] 23)
          have HOWN := Lib.hid (ownsRow_ext HOW.out (Ext.trans HEq.out hEa))
          have HROW := Lib.hid (VRow.ext hRow hEa)
          have HVQ := Lib.hid (fun (i : Nat) (R : Nat) (h : Rs[i]? = some R) => VRow.ext (HVS.out i R h).2.2 (Ext.trans HEq.out hEa))
          have HVB := Lib.hid (fun (i : Nat) (R : Nat) (h : Rs[i]? = some R) => (show w.heap.size ≤ R ∧ R < wr.heap.size from ⟨(HVS.out i R h).1, (HVS.out i R h).2.1⟩))
          have HVL := Lib.hid (show Rs.length = k from by have h := HOW.out.1; rw [List.length_map] at h; omega)
          have hob : ∀ x, Value.ownBlock (.slice oa k oc) = some x → w.heap.size ≤ x := fun x hx => own_block HOW.out hx
          clear hi0 hz0 hz1 hz2 hRow hEa hus
          go_wp2_with (at_builtin; (refine wpList_append_own _ rfl _ _ 22 rfl w.heap.size 23 i0 (.slice none 0 0) 1 24 Tryz.underlying22 HI.out HZ0.out HZ1.out HZ2.out rfl (by decide) _ _ _ rfl HOWN.out ⟨wq.heap.size, 0, none⟩ 1 1 [.slice (some ⟨wr.heap.size, 0, none⟩) j j] rfl rfl (fun j u h => cell_one_new wq _ 23 j u h) (by simp [Value.oneCell']) (by unfold maxLen; omega) (by omega) (by simp; omega) ?_; intro v' w' hown' hgrow hnil; have HO10 := Lib.hid hown'; have HG10 := Lib.hid hgrow; clear hown' hgrow hnil))
          have hvl := HVL.out
          have hsz := HG10.out.size
          have hsz2 : wq.heap.size + 1 ≤ w'.heap.size := by have h := hsz; simp at h; omega
          refine ⟨⟨k + 1, by simp, by omega, ⟨Rs ++ [wr.heap.size], by rw [List.map_append]; exact HO10.out, ?_, fun i R h => ?_⟩, Below.grown (Ext.alloc (Ext.trans HE.out HEq.out) (.cells #[.slice (some ⟨wr.heap.size, 0, none⟩) j j] 23)) HG10.out (by simp; omega) (fun x e => hob x e)⟩, by simp [intOf]; omega⟩
          · rw [List.nodup_append]
            refine ⟨HND.out, by simp, fun x hx y hy => ?_⟩
            simp only [List.mem_singleton] at hy
            subst hy
            obtain ⟨i, hi⟩ := List.getElem?_of_mem hx
            have := (HVB.out i x hi).2
            omega
          · rcases Nat.lt_trichotomy i k with hi | hi | hi
            · rw [List.getElem?_append_left (by omega)] at h
              have hb := HVB.out i R h
              exact ⟨hb.1, by omega, vrow_keep (HVQ.out i R h) (own_type HOWN.out) HG10.out⟩
            · subst hi
              rw [List.getElem?_append_right (by omega), hvl, Nat.sub_self] at h
              injection h with h
              subst h
              exact ⟨hwr, by omega, vrow_keep HROW.out (own_type HOWN.out) HG10.out⟩
            · rw [List.getElem?_append_right (by omega)] at h
              have := lt_len h
              simp at this
              omega
    · obtain rfl : k = n := by omega
      go_wp2_with fail
      go_ret
      exact ⟨_, rfl, HO.out, HE.out⟩
set_option maxHeartbeats 8000000 in
theorem rproductO_c (u v : Value) (n : Nat) (A B : MF) (w : World) (hn1 : 1 ≤ n) (hn : n ≤ 6) (hA : MatAt w u n A) (hB : MatAt w v n B) (bA : bdF KB n A) (bB : bdF KB n B) (bM : ∀ i, i < n → ∀ j, j < n → ∀ k, k < n → bdE KB (ep (A i k) (B k j))) :
    Calls Tryz.prog 44 #[u, v] w fun e w' => ∃ r, e = .returned r ∧ OutTo w.heap.size w' r n n (mulF n A B) ∧ Ext w w' := by
  have HA := Lib.hid hA
  have HB := Lib.hid hB
  have HBA := Lib.hid bA
  have HBB := Lib.hid bB
  have HBM := Lib.hid bM
  obtain ⟨ab, ao, ac, rfl, ha1, ha2, ha3⟩ := hA
  obtain ⟨bb, bo, bc, rfl, hb1, hb2, hb3⟩ := hB
  have HA3 := Lib.hid ha3
  have HB3 := Lib.hid hb3
  clear bA bB bM ha3 hb3
  go_enter Tryz.func44, Tryz.ntmps44
  go_wp2_with fail
  go_loopw [6, 5] (fun i ov wr => ∃ k : Nat, i = .int .i64 (k : Int) ∧ k ≤ n ∧ OutTo w.heap.size wr ov n k (mulF n A B) ∧ Ext w wr) (fun i _ _ => n - (intOf i).toNat)
  case atStart => exact ⟨0, rfl, Nat.zero_le _, ⟨[], ⟨rfl, .inl ⟨rfl, rfl⟩⟩, fun i u h => by simp at h⟩, Ext.refl _⟩
  case round =>
    rename World => wr
    obtain ⟨k, rfl, hk, hO, hE⟩ := hrel
    have HO := Lib.hid hO
    obtain ⟨vs, ho, hvs⟩ := hO
    obtain ⟨oa, oc, rfl⟩ := own_slice ho
    have HOW := Lib.hid ho
    have HVS := Lib.hid hvs
    have HE := Lib.hid hE
    clear ho hvs hE
    have hwr := HE.out.size
    by_cases hlt : k < n
    · obtain ⟨ra, ca, hra⟩ := HA3.out k hlt
      have HCA := Lib.hid (Ext.cell HE.out ca)
      have HRA := Lib.hid (hra.ext HE.out)
      obtain ⟨rb, ro, rc, rfl, hr1, hr2, hr3⟩ := hra
      clear ca hr3
      go_wp2_with fail
      go_loopw [8, 7] (fun jv rv wq => ∃ j : Nat, jv = .int .i64 (j : Int) ∧ j ≤ n ∧ RowOwn wr.heap.size wq rv j (mulF n A B k) ∧ Ext wr wq) (fun jv _ _ => n - (intOf jv).toNat)
      case atStart => exact ⟨0, rfl, Nat.zero_le _, ⟨rfl, .inl ⟨rfl, rfl⟩⟩, Ext.refl _⟩
      case round =>
        rename World => wq
        obtain ⟨j, rfl, hj, hR, hEq⟩ := hrel
        obtain ⟨sa, sc, rfl⟩ := own_slice hR
        have HR := Lib.hid hR
        have HEq := Lib.hid hEq
        clear hR hEq
        have hwq := HEq.out.size
        by_cases hjl : j < n
        · go_wp2_with fail
          go_loopw [10, 9] (fun tv bv wt => ∃ t : Nat, tv = .int .i64 (t : Int) ∧ t ≤ n ∧ bv = iv (es (fun t => ep (A k t) (B t j)) t) ∧ Ext wq wt) (fun tv _ _ => n - (intOf tv).toNat)
          case atStart => exact ⟨0, rfl, Nat.zero_le _, rfl, Ext.refl _⟩
          case round =>
            rename World => wt
            obtain ⟨t, rfl, ht, rfl, hEt⟩ := hrel
            have HEt := Lib.hid hEt
            clear hEt
            have HES := Lib.hid (show es (fun t => ep (A k t) (B t j)) (t + 1) = em (es (fun t => ep (A k t) (B t j)) t) (ep (A k t) (B t j)) from rfl)
            by_cases htl : t < n
            · have hET := Ext.trans HE.out (Ext.trans HEq.out HEt.out)
              obtain ⟨rb2, cb2, hrb2⟩ := HB3.out t htl
              obtain ⟨sb2, so2, sc2, rfl, hs1, hs2, hs3⟩ := hrb2
              have HC1 := Lib.hid (Ext.cell (Ext.trans HEq.out HEt.out) HCA.out)
              have HC2 := Lib.hid (show wt.cell? ⟨rb, ro + t, none⟩ = some (iv (A k t)) from by
                obtain ⟨b', o', c', e, _, _, h⟩ := HRA.out.ext (Ext.trans HEq.out HEt.out)
                simp only [Value.slice.injEq, Option.some.injEq, Addr.mk.injEq] at e
                obtain ⟨⟨rfl, rfl, _⟩, _⟩ := e
                exact h t htl)
              have HC3 := Lib.hid (Ext.cell hET cb2)
              have HC4 := Lib.hid (Ext.cell hET (hs3 j hjl))
              have HB1 := Lib.hid (show bdE KB (es (fun t => ep (A k t) (B t j)) t) from bdE_es fun s hs => HBM.out k hlt j hjl s (by omega))
              have HB2 := Lib.hid (HBM.out k hlt j hjl t htl)
              have HPL := Lib.hid (fun W => rplus_c (A k t) (B t j) W (HBA.out k hlt t htl) (HBB.out t htl j hjl))
              clear hET cb2 hs3
              obtain ⟨es1, he1⟩ : ∃ e, e = es (fun t => ep (A k t) (B t j)) (t + 1) := ⟨_, rfl⟩
              rw [← he1] at HES
              have HQ1 := Lib.hid he1
              clear he1
              generalize es (fun t => ep (A k t) (B t j)) t = es0 at *
              generalize ep (A k t) (B t j) = pz at *
              generalize A k t = akt at *
              generalize B t j = btj at *
              have HMX := Lib.hid (val_em_max HB1.out HB2.out)
              go_wp2_with fail
              refine wp_region_stable_last [⟨[], none⟩, ⟨[], none⟩, ⟨[], none⟩, ⟨[(1, 30), (2, 31)], none⟩, ⟨[(3, 32)], none⟩, ⟨[], none⟩, ⟨[(4, 33), (5, 34)], none⟩, ⟨[(6, 35)], none⟩, ⟨[], none⟩, ⟨[], none⟩, ⟨[(8, 37), (9, 38)], none⟩, ⟨[(10, 39)], none⟩, ⟨[], none⟩, ⟨[(11, 40), (12, 41)], none⟩, ⟨[(13, 42)], none⟩, ⟨[(7, 36), (14, 43)], none⟩, ⟨[(0, 29), (15, 44)], none⟩] (fun x y => Below x.heap.size x y) (MPat [MP.eq (iv es0), MP.eq (.slice (some ⟨ab, ao, none⟩) n ac), MP.eq (.int .i64 (k : Int)), MP.eq (.pointer (some ⟨ab, ao + k, none⟩)), MP.eq (.slice (some ⟨rb, ro, none⟩) n rc), MP.eq (.int .i64 (t : Int)), MP.eq (.pointer (some ⟨rb, ro + t, none⟩)), MP.eq (iv akt), MP.eq (.slice (some ⟨bb, bo, none⟩) n bc), MP.eq (.int .i64 (t : Int)), MP.eq (.pointer (some ⟨bb, bo + t, none⟩)), MP.eq (.slice (some ⟨sb2, so2, none⟩) n sc2), MP.eq (.int .i64 (j : Int)), MP.eq (.pointer (some ⟨sb2, so2 + j, none⟩)), MP.eq (iv btj), MP.eq (iv pz), MP.eq (iv es1)]) rfl (by kernel_rfl) (fun _ _ _ h k => Ext.trans h k) (fun _ => Below.refl _ _) (fun x => (Below.refl x.heap.size x).drew) (MPat.mono _) (by kernel_rfl) (by kernel_rfl) (by kernel_rfl) ?obs ?rest
              case obs =>
                refine ⟨?_, ?_, ?_, ?_, ?_, ?_, ?_, ?_, ?_, ?_, ?_, ?_, ?_, ?_, ?_, ?_, ?_, trivial⟩
                · intro ev W hf _ _ hst hd
                  have e9 : ev (.tmp 9) = iv es0 := hf 9 (by kernel_rfl)
                  refine st_value (v := iv es0) ?_ (Below.refl _ _) ?_
                  · simp [execOp, go_sem, e9]
                  · exact rfl
                · intro ev W hf _ _ hst hd
                  have e0 : ev (.tmp 0) = .slice (some ⟨ab, ao, none⟩) n ac := hf 0 (by kernel_rfl)
                  refine st_value (v := .slice (some ⟨ab, ao, none⟩) n ac) ?_ (Below.refl _ _) ?_
                  · simp [execOp, go_sem, e0]
                  · exact rfl
                · intro ev W hf _ _ hst hd
                  have e6 : ev (.tmp 6) = .int .i64 (k : Int) := hf 6 (by kernel_rfl)
                  refine st_value (v := .int .i64 (k : Int)) ?_ (Below.refl _ _) ?_
                  · simp [execOp, go_sem, e6]
                  · exact rfl
                · intro ev W hf _ _ hst hd
                  obtain ⟨d30, d31, _⟩ := hd
                  have e30 : ev (.tmp 30) = .slice (some ⟨ab, ao, none⟩) n ac := d30
                  have e31 : ev (.tmp 31) = .int .i64 (k : Int) := d31
                  refine st_value (v := .pointer (some ⟨ab, ao + k, none⟩)) ?_ (Below.refl _ _) ?_
                  · simp [execOp, go_sem, e30, e31, hlt]
                  · exact rfl
                · intro ev W hf _ _ hst hd
                  obtain ⟨d32, _⟩ := hd
                  have e32 : ev (.tmp 32) = .pointer (some ⟨ab, ao + k, none⟩) := d32
                  have q0 := Ext.cell hst HC1.out
                  refine st_value (v := .slice (some ⟨rb, ro, none⟩) n rc) ?_ (Below.refl _ _) ?_
                  · simp [execOp, go_sem, e32, q0]
                  · exact rfl
                · intro ev W hf _ _ hst hd
                  have e10 : ev (.tmp 10) = .int .i64 (t : Int) := hf 10 (by kernel_rfl)
                  refine st_value (v := .int .i64 (t : Int)) ?_ (Below.refl _ _) ?_
                  · simp [execOp, go_sem, e10]
                  · exact rfl
                · intro ev W hf _ _ hst hd
                  obtain ⟨d33, d34, _⟩ := hd
                  have e33 : ev (.tmp 33) = .slice (some ⟨rb, ro, none⟩) n rc := d33
                  have e34 : ev (.tmp 34) = .int .i64 (t : Int) := d34
                  refine st_value (v := .pointer (some ⟨rb, ro + t, none⟩)) ?_ (Below.refl _ _) ?_
                  · simp [execOp, go_sem, e33, e34, htl]
                  · exact rfl
                · intro ev W hf _ _ hst hd
                  obtain ⟨d35, _⟩ := hd
                  have e35 : ev (.tmp 35) = .pointer (some ⟨rb, ro + t, none⟩) := d35
                  have q0 := Ext.cell hst HC2.out
                  refine st_value (v := iv akt) ?_ (Below.refl _ _) ?_
                  · simp [execOp, go_sem, e35, q0]
                  · exact rfl
                · intro ev W hf _ _ hst hd
                  have e1 : ev (.tmp 1) = .slice (some ⟨bb, bo, none⟩) n bc := hf 1 (by kernel_rfl)
                  refine st_value (v := .slice (some ⟨bb, bo, none⟩) n bc) ?_ (Below.refl _ _) ?_
                  · simp [execOp, go_sem, e1]
                  · exact rfl
                · intro ev W hf _ _ hst hd
                  have e10 : ev (.tmp 10) = .int .i64 (t : Int) := hf 10 (by kernel_rfl)
                  refine st_value (v := .int .i64 (t : Int)) ?_ (Below.refl _ _) ?_
                  · simp [execOp, go_sem, e10]
                  · exact rfl
                · intro ev W hf _ _ hst hd
                  obtain ⟨d37, d38, _⟩ := hd
                  have e37 : ev (.tmp 37) = .slice (some ⟨bb, bo, none⟩) n bc := d37
                  have e38 : ev (.tmp 38) = .int .i64 (t : Int) := d38
                  refine st_value (v := .pointer (some ⟨bb, bo + t, none⟩)) ?_ (Below.refl _ _) ?_
                  · simp [execOp, go_sem, e37, e38, htl]
                  · exact rfl
                · intro ev W hf _ _ hst hd
                  obtain ⟨d39, _⟩ := hd
                  have e39 : ev (.tmp 39) = .pointer (some ⟨bb, bo + t, none⟩) := d39
                  have q0 := Ext.cell hst HC3.out
                  refine st_value (v := .slice (some ⟨sb2, so2, none⟩) n sc2) ?_ (Below.refl _ _) ?_
                  · simp [execOp, go_sem, e39, q0]
                  · exact rfl
                · intro ev W hf _ _ hst hd
                  have e8 : ev (.tmp 8) = .int .i64 (j : Int) := hf 8 (by kernel_rfl)
                  refine st_value (v := .int .i64 (j : Int)) ?_ (Below.refl _ _) ?_
                  · simp [execOp, go_sem, e8]
                  · exact rfl
                · intro ev W hf _ _ hst hd
                  obtain ⟨d40, d41, _⟩ := hd
                  have e40 : ev (.tmp 40) = .slice (some ⟨sb2, so2, none⟩) n sc2 := d40
                  have e41 : ev (.tmp 41) = .int .i64 (j : Int) := d41
                  refine st_value (v := .pointer (some ⟨sb2, so2 + j, none⟩)) ?_ (Below.refl _ _) ?_
                  · simp [execOp, go_sem, e40, e41, hjl]
                  · exact rfl
                · intro ev W hf _ _ hst hd
                  obtain ⟨d42, _⟩ := hd
                  have e42 : ev (.tmp 42) = .pointer (some ⟨sb2, so2 + j, none⟩) := d42
                  have q0 := Ext.cell hst HC4.out
                  refine st_value (v := iv btj) ?_ (Below.refl _ _) ?_
                  · simp [execOp, go_sem, e42, q0]
                  · exact rfl
                · intro ev W hf _ hfn hst hd
                  obtain ⟨d36, d43, _⟩ := hd
                  have e36 : ev (.tmp 36) = iv akt := d36
                  have e43 : ev (.tmp 43) = iv btj := d43
                  refine st_call (f := 56) (args := #[iv akt, iv btj]) (by simp [execOp, go_sem, hfn, e36, e43]) (HPL.out W) (fun _ _ => rfl)
                · intro ev W hf _ _ hst hd
                  obtain ⟨d29, d44, _⟩ := hd
                  have e29 : ev (.tmp 29) = iv es0 := d29
                  have e44 : ev (.tmp 44) = iv pz := d44
                  refine st_value (v := iv es1) ?_ (Below.refl _ _) ?_
                  · rw [HES.out]; simp [go_sem, e29, e44, HMX.out]
                  · exact rfl
              case rest =>
                intro vs w3 hl hst hg
                have HE3 := Lib.hid hst
                have hus : vs = [iv es0, .slice (some ⟨ab, ao, none⟩) n ac, .int .i64 (k : Int), .pointer (some ⟨ab, ao + k, none⟩), .slice (some ⟨rb, ro, none⟩) n rc, .int .i64 (t : Int), .pointer (some ⟨rb, ro + t, none⟩), iv akt, .slice (some ⟨bb, bo, none⟩) n bc, .int .i64 (t : Int), .pointer (some ⟨bb, bo + t, none⟩), .slice (some ⟨sb2, so2, none⟩) n sc2, .int .i64 (j : Int), .pointer (some ⟨sb2, so2 + j, none⟩), iv btj, iv pz, iv es1] := list_of hl (fun i u hu => by
                  match i, hu with
                  | 0, hu => exact (congrArg some (hg 0 u hu)).symm
                  | 1, hu => exact (congrArg some (hg 1 u hu)).symm
                  | 2, hu => exact (congrArg some (hg 2 u hu)).symm
                  | 3, hu => exact (congrArg some (hg 3 u hu)).symm
                  | 4, hu => exact (congrArg some (hg 4 u hu)).symm
                  | 5, hu => exact (congrArg some (hg 5 u hu)).symm
                  | 6, hu => exact (congrArg some (hg 6 u hu)).symm
                  | 7, hu => exact (congrArg some (hg 7 u hu)).symm
                  | 8, hu => exact (congrArg some (hg 8 u hu)).symm
                  | 9, hu => exact (congrArg some (hg 9 u hu)).symm
                  | 10, hu => exact (congrArg some (hg 10 u hu)).symm
                  | 11, hu => exact (congrArg some (hg 11 u hu)).symm
                  | 12, hu => exact (congrArg some (hg 12 u hu)).symm
                  | 13, hu => exact (congrArg some (hg 13 u hu)).symm
                  | 14, hu => exact (congrArg some (hg 14 u hu)).symm
                  | 15, hu => exact (congrArg some (hg 15 u hu)).symm
                  | 16, hu => exact (congrArg some (hg 16 u hu)).symm
                  | n + 17, hu => exact absurd (lt_len hu) (by rw [hl]; simp))
                clear hg hst hl
                subst hus
                simp only [putAll, Act.put, List.dropLast, List.setIfInBounds_toArray, List.set_cons_zero, List.set_cons_succ]
                go_wp2_with fail
                exact ⟨⟨t + 1, by simp, by omega, by rw [HQ1.out], Ext.trans HEt.out HE3.out⟩, by simp [intOf]; omega⟩
            · obtain rfl : t = n := by omega
              have HMU := Lib.hid (show es (fun s => ep (A k s) (B s j)) t = mulF t A B k j from rfl)
              have HRS := Lib.hid (listV_succ j (mulF t A B k))
              have hlen : (listV j (mulF t A B k)).length = j := listV_len _ _
              have hwt := HEt.out.size
              obtain ⟨i0, hi0, hz0, hz1, hz2⟩ := info_parts info3x23
              have HI := Lib.hid hi0
              have HZ0 := Lib.hid hz0
              have HZ1 := Lib.hid hz1
              have HZ2 := Lib.hid hz2
              clear hi0 hz0 hz1 hz2
              obtain ⟨zz, hzz⟩ : ∃ zz, zz = val (es (fun s => ep (A k s) (B s j)) t) := ⟨_, rfl⟩
              unfold iv
              rw [← hzz]
              have HZZ := Lib.hid hzz
              clear hzz
              have hob : ∀ x, Value.ownBlock (.slice sa j sc) = some x → wr.heap.size ≤ x := fun x hx => own_block HR.out hx
              have hwo := Ext.alloc HEt.out (.cells #[.int .i64 zz] 3)
              have HOWN := Lib.hid (ownsRow_ext HR.out hwo)
              clear hwo
              go_wp2_with (at_builtin; (refine wpList_append_own _ rfl _ _ 23 rfl wr.heap.size 3 i0 (.int .i64 0) 1 8 Tryz.underlying23 HI.out HZ0.out HZ1.out HZ2.out rfl (by decide) _ _ _ rfl HOWN.out ⟨wt.heap.size, 0, none⟩ 1 1 [.int .i64 zz] rfl rfl (fun j u h => cell_one_new wt _ 3 j u h) (by simp [Value.oneCell']) (by unfold maxLen; omega) (by omega) (by simp; omega) ?_; intro v' w' hown' hgrow hnil; have HO10 := Lib.hid hown'; have HG10 := Lib.hid hgrow; clear hown' hgrow hnil))
              refine ⟨⟨j + 1, by simp, by omega, ?_, Below.grown (Ext.alloc (Ext.trans HEq.out HEt.out) (.cells #[.int .i64 zz] 3)) HG10.out (by simp; omega) (fun x e => hob x e)⟩, by simp [intOf]; omega⟩
              unfold RowOwn
              rw [HRS.out, List.map_append, ← HMU.out]
              show w'.ownsRow wr.heap.size 3 1 v' (j + 1) _
              have h := HO10.out
              rw [HZZ.out] at h
              exact h
        · obtain rfl : j = n := by omega
          have hR := HR.out
          unfold RowOwn at hR
          obtain ⟨i0, hi0, hz0, hz1, hz2⟩ := info_parts info22
          have HI := Lib.hid hi0
          have HZ0 := Lib.hid hz0
          have HZ1 := Lib.hid hz1
          have HZ2 := Lib.hid hz2
          clear hi0 hz0 hz1 hz2
          have hEa := Ext.alloc (Ext.refl wq) (.cells #[.slice sa j sc] 23)
          have HOWN := Lib.hid (ownsRow_ext HOW.out (Ext.trans HEq.out hEa))
          have HROW := Lib.hid (ownsRow_ext (own_mono hR hwr) hEa)
          have HVQ := Lib.hid (fun (i : Nat) (u : Value) (h : vs[i]? = some u) => ownsRow_ext (HVS.out i u h) (Ext.trans HEq.out hEa))
          have hvl : vs.length = k := by have := HOW.out.1; omega
          have hob : ∀ x, Value.ownBlock (.slice oa k oc) = some x → w.heap.size ≤ x := fun x hx => own_block HOW.out hx
          clear hR hEa
          go_wp2_with (at_builtin; (refine wpList_append_own _ rfl _ _ 22 rfl w.heap.size 23 i0 (.slice none 0 0) 1 24 Tryz.underlying22 HI.out HZ0.out HZ1.out HZ2.out rfl (by decide) _ _ _ rfl HOWN.out ⟨wq.heap.size, 0, none⟩ 1 1 [.slice sa j sc] rfl rfl (fun j u h => cell_one_new wq _ 23 j u h) (by simp [Value.oneCell']) (by unfold maxLen; omega) (by omega) (by simp; omega) ?_; intro v' w' hown' hgrow hnil; have HO10 := Lib.hid hown'; have HG10 := Lib.hid hgrow; clear hown' hgrow hnil))
          refine ⟨⟨k + 1, by simp, by omega, ⟨_, HO10.out, fun i u h => ?_⟩, Below.grown (Ext.alloc (Ext.trans HE.out HEq.out) (.cells #[.slice sa j sc] 23)) HG10.out (by simp; omega) (fun x e => hob x e)⟩, by simp [intOf]; omega⟩
          rcases Nat.lt_trichotomy i k with hi | hi | hi
          · rw [List.getElem?_append_left (by omega)] at h
            exact own_keep (HVQ.out i u h) (own_type HOWN.out) HG10.out
          · subst hi
            rw [List.getElem?_append_right (by omega), hvl, Nat.sub_self] at h
            injection h with h
            subst h
            exact own_keep HROW.out (own_type HOWN.out) HG10.out
          · rw [List.getElem?_append_right (by omega)] at h
            have := lt_len h
            simp at this
            omega
    · obtain rfl : k = n := by omega
      go_wp2_with fail
      go_ret
      exact ⟨_, rfl, HO.out, HE.out⟩
end Go.Proofs.YtbcngojiikdigaaGreat

namespace Go.Proofs.YtbcngojiikdigaaGreat
set_option maxRecDepth 100000
open Go.RowKit Go.Shelf
/-- a matrix that lies behind a bound -/
def MatHi (B : Nat) (w : World) (v : Value) (n : Nat) (M : MF) : Prop :=
  ∃ b o cap, v = .slice (some ⟨b, o, none⟩) n cap ∧ n ≤ cap ∧ cap ≤ 9223372036854775807 ∧ B ≤ b ∧ ∀ i, i < n → ∃ r ro rc, w.cell? ⟨b, o + i, none⟩ = some (.slice (some ⟨r, ro, none⟩) n rc) ∧ n ≤ rc ∧ rc ≤ 9223372036854775807 ∧ B ≤ r ∧ ∀ j, j < n → w.cell? ⟨r, ro + j, none⟩ = some (iv (M i j))
theorem MatHi.mat {B : Nat} {w : World} {v : Value} {n : Nat} {M : MF} (h : MatHi B w v n M) : MatAt w v n M := by
  obtain ⟨b, o, cap, h1, h2, h3, _, h4⟩ := h
  refine ⟨b, o, cap, h1, h2, h3, fun i hi => ?_⟩
  obtain ⟨r, ro, rc, h5, h6, h7, _, h8⟩ := h4 i hi
  exact ⟨_, h5, r, ro, rc, rfl, h6, h7, h8⟩
theorem MatHi.put {B : Nat} {w : World} {v : Value} {n : Nat} {M : MF} (h : MatHi B w v n M) {R : Nat} (hR : R < B) (k : Nat) (x : Value) : MatHi B (w.setCell ⟨R, k, none⟩ x) v n M := by
  obtain ⟨b, o, cap, h1, h2, h3, h9, h4⟩ := h
  refine ⟨b, o, cap, h1, h2, h3, h9, fun i hi => ?_⟩
  obtain ⟨r, ro, rc, h5, h6, h7, h10, h8⟩ := h4 i hi
  have ne1 : ∀ q, (⟨R, k, none⟩ : Addr) ≠ ⟨b, q, none⟩ := fun q e => by injection e with e1; omega
  have ne2 : ∀ q, (⟨R, k, none⟩ : Addr) ≠ ⟨r, q, none⟩ := fun q e => by injection e with e1; omega
  exact ⟨r, ro, rc, (World.cell?_setCell_other (h := ne1 _) ..).trans h5, h6, h7, h10, fun j hj => (World.cell?_setCell_other (h := ne2 _) ..).trans (h8 j hj)⟩
theorem MatHi.drewN {B : Nat} {w : World} {v : Value} {n : Nat} {M : MF} (h : MatHi B w v n M) : MatHi B w.drew v n M := h
theorem MatHi.congr {B : Nat} {w : World} {v : Value} {n : Nat} {M N : MF} (h : MatHi B w v n M) (e : eqF n M N) : MatHi B w v n N := by
  obtain ⟨b, o, cap, h1, h2, h3, h9, h4⟩ := h
  refine ⟨b, o, cap, h1, h2, h3, h9, fun i hi => ?_⟩
  obtain ⟨r, ro, rc, h5, h6, h7, h10, h8⟩ := h4 i hi
  exact ⟨r, ro, rc, h5, h6, h7, h10, fun j hj => by rw [← e i hi j hj]; exact h8 j hj⟩
theorem own_hi {w : World} {base e n : Nat} {v : Value} {vs : List Value} (h : w.ownsRow base e 1 v n vs) (hn : 1 ≤ n) : ∃ b cap, v = .slice (some ⟨b, 0, none⟩) n cap ∧ n ≤ cap ∧ cap ≤ 9223372036854775807 ∧ base ≤ b ∧ vs.length = n ∧ (∃ c f, w.heap[b]? = some (.cells c e f)) ∧ ∀ (i : Nat) (u : Value), vs[i]? = some u → w.cell? ⟨b, 0 + i, none⟩ = some u := by
  obtain ⟨h1, h⟩ := h
  rw [Nat.mul_one] at h1
  rcases h with ⟨hv, hn0⟩ | ⟨g, cap, cur, hv, hg, hc, hnc, hmx, hsz, htk⟩
  · omega
  · unfold maxLen at hmx
    refine ⟨g, cap, hv, hnc, by omega, hg, h1, ⟨_, _, hc⟩, fun k q hk => ?_⟩
    have hlt := lt_len hk
    rw [← htk] at hk
    rw [List.getElem?_take_of_lt (by omega), Array.getElem?_toList] at hk
    simp [World.cell?, hc, hk]
theorem OutTo.hi {base n : Nat} {w : World} {v : Value} {M : MF} (h : OutTo base w v n n M) (hn : 1 ≤ n) (hm : n ≤ 6) (bM : bdF KB n M) : MatHi base w v n M := by
  obtain ⟨vs, ho, hvs⟩ := h
  obtain ⟨b, cap, rfl, h1, h2, h3, hl, _, hc⟩ := own_hi ho hn
  refine ⟨b, 0, cap, rfl, h1, h2, h3, fun i hi => ?_⟩
  obtain ⟨u, hu⟩ := getElem?_len (show i < vs.length by omega)
  obtain ⟨r, rc, rfl, g1, g2, g3, gl, _, gc⟩ := own_hi (hvs i u hu) hn
  refine ⟨r, 0, rc, hc i _ hu, g1, g2, g3, fun j hj => gc j _ ?_⟩
  rw [List.getElem?_map, listV_at _ hj]
  rfl
/-- a matrix with one entry anew -/
def updM (M : MF) (i j : Nat) (e : E) : MF := fun x y => if x = i ∧ y = j then e else M x y
theorem listV_upd (M : MF) (n i j : Nat) (e : E) (hj : j < n) : (listV n (updM M i j e i)).map (Value.int .i64) = ((listV n (M i)).map (Value.int .i64)).set j (iv e) := by
  refine List.ext_getElem? fun k => ?_
  rw [List.getElem?_map, List.getElem?_set]
  by_cases hk : k < n
  · rw [listV_at _ hk, List.getElem?_map, listV_at _ hk]
    by_cases e1 : j = k
    · subst e1
      rw [if_pos rfl, if_pos (by rw [List.length_map, listV_len]; exact hj)]
      unfold updM
      rw [if_pos ⟨rfl, rfl⟩]
      rfl
    · rw [if_neg e1]
      unfold updM
      rw [if_neg (fun h => e1 h.2.symm)]
  · have h1 : (listV n (updM M i j e i))[k]? = none := List.getElem?_eq_none (by rw [listV_len]; omega)
    have h2 : (listV n (M i))[k]? = none := List.getElem?_eq_none (by rw [listV_len]; omega)
    rw [h1, List.getElem?_map, h2]
    by_cases e1 : j = k
    · omega
    · rw [if_neg e1]
theorem listV_upd2 (M : MF) (n i j x : Nat) (e : E) (hx : x ≠ i) : listV n (updM M i j e x) = listV n (M x) := by
  refine listV_congr fun k _ => ?_
  unfold updM
  rw [if_neg (fun h => hx h.1)]
/-- the same, the rows between two bounds -/
def OutB (base top : Nat) (w : World) (v : Value) (n : Nat) (M : MF) : Prop :=
  ∃ Rs : List Nat, w.ownsRow base 23 1 v n (Rs.map fun R => Value.slice (some ⟨R, 0, none⟩) n n) ∧ Rs.Nodup ∧ ∀ (i R : Nat), Rs[i]? = some R → base ≤ R ∧ R < top ∧ VRow w R 3 ((listV n (M i)).map (Value.int .i64))
theorem OutW.b {base n : Nat} {w : World} {v : Value} {M : MF} (h : OutW base w v n n M) : OutB base w.heap.size w v n M := h
theorem OutB.ext {base top n : Nat} {w w' : World} {v : Value} {M : MF} (h : OutB base top w v n M) (he : Ext w w') : OutB base top w' v n M := by
  obtain ⟨Rs, h1, h2, h3⟩ := h
  exact ⟨Rs, ownsRow_ext h1 he, h2, fun i R hR => ⟨(h3 i R hR).1, (h3 i R hR).2.1, VRow.ext (h3 i R hR).2.2 he⟩⟩
theorem OutB.drew {base top n : Nat} {w : World} {v : Value} {M : MF} (h : OutB base top w v n M) : OutB base top w.drew v n M := h.ext (Ext.drew (Ext.refl w))
theorem OutB.congr {base top n : Nat} {w : World} {v : Value} {M N : MF} (h : OutB base top w v n M) (e : eqF n M N) : OutB base top w v n N := by
  obtain ⟨Rs, h1, h2, h3⟩ := h
  refine ⟨Rs, h1, h2, fun i R hR => ?_⟩
  obtain ⟨g1, g2, g3⟩ := h3 i R hR
  have hl := h1.1
  rw [List.length_map] at hl
  have hi := lt_len hR
  refine ⟨g1, g2, ?_⟩
  rw [← listV_congr (n := n) (x := M i) (y := N i) fun k hk => e i (by omega) k hk]
  exact g3
theorem OutB.put {base top n : Nat} {w : World} {v : Value} {M : MF} (h : OutB base top w v n M) (hn : 1 ≤ n) {i j : Nat} (hi : i < n) (hj : j < n) :
    ∃ b cap R, v = .slice (some ⟨b, 0, none⟩) n cap ∧ n ≤ cap ∧ cap ≤ 9223372036854775807 ∧ w.cell? ⟨b, i, none⟩ = some (.slice (some ⟨R, 0, none⟩) n n) ∧ base ≤ R ∧ R < top ∧ w.cell? ⟨R, j, none⟩ = some (iv (M i j)) ∧ w.frozen? ⟨R, j, none⟩ = false ∧ ∀ e : E, OutB base top (w.setCell ⟨R, j, none⟩ (iv e)) v n (updM M i j e) := by
  obtain ⟨Rs, ho, hnd, hvs⟩ := h
  obtain ⟨b, cap, rfl, h1, h2, h3, hl, ⟨c, f, hbk⟩, hc⟩ := own_hi ho hn
  rw [List.length_map] at hl
  obtain ⟨R, hR⟩ := getElem?_len (show i < Rs.length by omega)
  obtain ⟨g1, g2, hV⟩ := hvs i R hR
  have hne : b ≠ R := by
    rintro rfl
    unfold VRow at hV
    rw [hbk] at hV
    injection hV with hV
    injection hV with _ hV
    exact absurd hV (by decide)
  have hcj := VRow.cell hV (k := j) (x := iv (M i j)) (by rw [List.getElem?_map, listV_at _ hj]; rfl)
  have hci := hc i (.slice (some ⟨R, 0, none⟩) n n) (by rw [List.getElem?_map, hR]; rfl)
  rw [Nat.zero_add] at hci
  refine ⟨b, cap, R, rfl, h1, h2, hci, g1, g2, hcj, VRow.frozen hV j none, fun e => ⟨Rs, ?_, hnd, fun x Q hQ => ?_⟩⟩
  · refine ⟨ho.1, ?_⟩
    rcases ho.2 with ⟨hv, hn0⟩ | ⟨g, cap', cur, hv, hg, hcc, r⟩
    · omega
    · refine .inr ⟨g, cap', cur, hv, hg, ?_, r⟩
      simp only [Value.slice.injEq, Option.some.injEq, Addr.mk.injEq] at hv
      obtain ⟨⟨rfl, _⟩, _⟩ := hv
      rw [Below.heap_setCell _ _ _ _ hne]
      exact hcc
  · obtain ⟨q1, q2, q3⟩ := hvs x Q hQ
    refine ⟨q1, q2, ?_⟩
    by_cases hx : x = i
    · subst hx
      rw [hR] at hQ
      injection hQ with hQ
      subst hQ
      rw [listV_upd M n x j e hj]
      exact VRow.set q3 j (iv e)
    · rw [listV_upd2 M n i j x e hx]
      refine VRow.setOther q3 (a := ⟨R, j, none⟩) (fun e1 => hx ?_) _
      have e1 : Q = R := e1
      subst e1
      exact (List.getElem?_inj (lt_len hQ) hnd).1 (hQ.trans hR.symm)
theorem OutB.to {base top n : Nat} {w : World} {v : Value} {M : MF} (h : OutB base top w v n M) (hn : 1 ≤ n) (hm : n ≤ 6) : MatHi base w v n M := by
  obtain ⟨Rs, ho, hnd, hvs⟩ := h
  obtain ⟨b, cap, rfl, h1, h2, h3, hl, _, hc⟩ := own_hi ho hn
  rw [List.length_map] at hl
  refine ⟨b, 0, cap, rfl, h1, h2, h3, fun i hi => ?_⟩
  obtain ⟨R, hR⟩ := getElem?_len (show i < Rs.length by omega)
  obtain ⟨g1, g2, hV⟩ := hvs i R hR
  refine ⟨R, 0, n, hc i _ (by rw [List.getElem?_map, hR]; rfl), Nat.le_refl _, by omega, g1, fun j hj => ?_⟩
  rw [Nat.zero_add]
  exact VRow.cell hV (by rw [List.getElem?_map, listV_at _ hj]; rfl)
end Go.Proofs.YtbcngojiikdigaaGreat

namespace Go.Proofs.YtbcngojiikdigaaGreat
set_option maxRecDepth 100000
open Go.RowKit Go.Shelf
/-- rows before i, and of row i the places before j, are G's -/
def mixF (F G : MF) (i j : Nat) : MF := fun x y => if x < i ∨ (x = i ∧ y < j) then G x y else F x y
theorem mix_start {n : Nat} (F G : MF) : eqF n F (mixF F G 0 0) := fun x _ y _ => by
  unfold mixF
  rw [if_neg (by omega)]
theorem mix_step {n : Nat} (F G : MF) (i j : Nat) : eqF n (updM (mixF F G i j) i j (G i j)) (mixF F G i (j + 1)) := fun x _ y _ => by
  unfold updM mixF
  by_cases h : x = i ∧ y = j
  · obtain ⟨rfl, rfl⟩ := h
    rw [if_pos ⟨rfl, rfl⟩, if_pos (by omega)]
  · rw [if_neg h]
    by_cases h2 : x < i ∨ (x = i ∧ y < j)
    · rw [if_pos h2, if_pos (by omega)]
    · rw [if_neg h2, if_neg (by omega)]
theorem mix_row {n : Nat} (F G : MF) (i : Nat) : eqF n (mixF F G i n) (mixF F G (i + 1) 0) := fun x _ y hy => by
  unfold mixF
  by_cases h : x < i ∨ (x = i ∧ y < n)
  · rw [if_pos h, if_pos (by omega)]
  · rw [if_neg h, if_neg (by omega)]
theorem mix_end {n : Nat} (F G : MF) : eqF n (mixF F G n 0) G := fun x hx y _ => by
  unfold mixF
  rw [if_pos (by omega)]
theorem mix_at (F G : MF) (i j : Nat) : mixF F G i j i j = F i j := by
  unfold mixF
  rw [if_neg (by omega)]
theorem smF_one {n : Nat} (A : MF) : eqF n oneF (smF n A 1) := fun i _ j _ => by
  show oneF i j = em none (pwF n A 0 i j)
  exact (none_em _).symm
theorem smF_succ (n : Nat) (A : MF) (m i j : Nat) : smF n A (m + 1) i j = em (smF n A m i j) (pwF n A m i j) := rfl
set_option maxHeartbeats 8000000 in
theorem walks_c (u : Value) (n : Nat) (A : MF) (w : World) (hn1 : 1 ≤ n) (hn : n ≤ 6) (hA : MatAt w u n A) (bA : bdF 12000 n A) :
    Calls Tryz.prog 65 #[u] w fun e w' => ∃ r, e = .returned r ∧ MatHi w.heap.size w' r n (smF n A n) ∧ Ext w w' := by
  have HBA := Lib.hid bA
  have HA := Lib.hid hA
  obtain ⟨ua, uc, rfl⟩ := hA.len
  clear hA bA
  go_enter Tryz.func65, Tryz.ntmps65
  go_wp2_with fail
  refine (roneW_c n w hn1 hn).mono ?_
  rintro e w1 ⟨ov, rfl, hO, hE⟩
  have hO := hO.b
  have HE1 := Lib.hid hE
  obtain ⟨T, hT⟩ : ∃ T, T = w1.heap.size := ⟨_, rfl⟩
  rw [← hT] at hO
  have hTw : w.heap.size ≤ T := by rw [hT]; exact hE.size
  have HO1 := Lib.hid (hO.congr (smF_one A))
  have hT1 : T ≤ w1.heap.size := by omega
  obtain ⟨_, ob, ocap, _, rfl, hoc1, hoc2, _⟩ : ∃ _ : Unit, ∃ b cap, ∃ _ : Unit, ov = .slice (some ⟨b, 0, none⟩) n cap ∧ n ≤ cap ∧ cap ≤ 9223372036854775807 ∧ True := by
    obtain ⟨b, cap, R, h1, h2, h3, _⟩ := hO.put hn1 (show 0 < n by omega) (show 0 < n by omega)
    exact ⟨(), b, cap, (), h1, h2, h3, trivial⟩
  clear hO hE hT
  go_wp2_with fail
  refine (roneW_c n w1 hn1 hn).mono ?_
  rintro e w2 ⟨pv, rfl, hO, hE⟩
  have HP2 := Lib.hid (show MatAt w2 pv n (pwF n A 0) from (hO.b.to hn1 hn).mat)
  have HO2 := Lib.hid (HO1.out.ext hE)
  have HE2 := Lib.hid (Ext.trans HE1.out hE)
  have hT2 : T ≤ w2.heap.size := by have := hE.size; omega
  clear hO hE
  go_wp2_with fail
  go_loopw [5, 4] (fun kv pv wr => ∃ m : Nat, kv = .int .i64 ((m : Int) + 1) ∧ m + 1 ≤ n ∧ OutB w.heap.size T wr (.slice (some ⟨ob, 0, none⟩) n ocap) n (smF n A (m + 1)) ∧ MatAt wr pv n (pwF n A m) ∧ Ext w wr ∧ T ≤ wr.heap.size) (fun kv _ _ => n - (intOf kv).toNat)
  case atStart => exact ⟨0, rfl, hn1, HO2.out, HP2.out, HE2.out, hT2⟩
  case round =>
    rename World => wr
    obtain ⟨m, rfl, hm, hO, hP, hE, hTr⟩ := hrel
    have HO := Lib.hid hO
    have HP := Lib.hid hP
    have HE := Lib.hid hE
    obtain ⟨pa, pc, rfl⟩ := hP.len
    clear hO hP hE
    by_cases hlt : m + 1 < n
    · have hlz : (m : Int) + 1 < (n : Int) := by omega
      have HB1 := Lib.hid (show bdF KB n (pwF n A m) from (bdF_pw HBA.out m).mono (by unfold KB; omega))
      have HB0 := Lib.hid (HBA.out.mono (show (12000 : Int) ≤ KB by decide))
      have HBM := Lib.hid (show ∀ i, i < n → ∀ j, j < n → ∀ t, t < n → bdE KB (ep (A i t) (pwF n A m t j)) from fun i hi j hj t ht => (bdE_ep (HBA.out i hi t ht) (bdF_pw HBA.out m t ht j hj)).mono (by unfold KB; omega))
      have HBP := Lib.hid (show bdF KB n (pwF n A (m + 1)) from (bdF_pw HBA.out (m + 1)).mono (by unfold KB; omega))
      have HBS := Lib.hid (show bdF KB n (smF n A (m + 1)) from fun i hi j hj => bdE_es fun k hk => ((bdF_pw HBA.out k).mono (show (12000 : Int) * (k : Nat) ≤ KB by unfold KB; omega)) i hi j hj)
      go_wp2_with fail
      refine (rproductO_c _ _ n _ _ wr hn1 hn (HA.out.ext HE.out) HP.out HB0.out HB1.out HBM.out).mono ?_
      rintro e w3 ⟨qv, rfl, hq, hE⟩
      have HQ := Lib.hid ((hq.hi hn1 hn (fun i hi j hj => by rw [mul_pw n A m i hi j hj]; exact HBP.out i hi j hj)).congr (mul_pw n A m))
      have HE3 := Lib.hid (Ext.trans HE.out hE)
      have HO3 := Lib.hid ((HO.out.ext hE).congr (mix_start (smF n A (m + 1)) (smF n A (m + 2))))
      have hT3 : T ≤ w3.heap.size := by have := hE.size; omega
      have HB3 := Lib.hid (show w.heap.size ≤ w3.heap.size from HE3.out.size)
      obtain ⟨qb, qo, qc, rfl, hq1, hq2, _⟩ := HQ.out
      clear hq hE
      obtain ⟨B, hB⟩ : ∃ B, B = wr.heap.size := ⟨_, rfl⟩
      rw [← hB] at HQ hTr
      clear hB
      go_wp2_with fail
      go_loopw [6] (fun iv' wq => ∃ i : Nat, iv' = .int .i64 (i : Int) ∧ i ≤ n ∧ OutB w.heap.size T wq (.slice (some ⟨ob, 0, none⟩) n ocap) n (mixF (smF n A (m + 1)) (smF n A (m + 2)) i 0) ∧ MatHi B wq (.slice (some ⟨qb, qo, none⟩) n qc) n (pwF n A (m + 1)) ∧ Ext w wq ∧ T ≤ wq.heap.size) (fun iv' _ => n - (intOf iv').toNat)
      case atStart => exact ⟨0, rfl, Nat.zero_le _, HO3.out, HQ.out, HE3.out, hT3⟩
      case round =>
        rename World => wq
        obtain ⟨i, rfl, hi, hO, hQ, hE, hTq⟩ := hrel
        have HOi := Lib.hid hO
        have HQi := Lib.hid hQ
        have HEi := Lib.hid hE
        clear hO hQ hE
        by_cases hil : i < n
        · go_wp2_with fail
          go_loopw [7] (fun jv wt => ∃ j : Nat, jv = .int .i64 (j : Int) ∧ j ≤ n ∧ OutB w.heap.size T wt (.slice (some ⟨ob, 0, none⟩) n ocap) n (mixF (smF n A (m + 1)) (smF n A (m + 2)) i j) ∧ MatHi B wt (.slice (some ⟨qb, qo, none⟩) n qc) n (pwF n A (m + 1)) ∧ Ext w wt ∧ T ≤ wt.heap.size) (fun jv _ => n - (intOf jv).toNat)
          case atStart => exact ⟨0, rfl, Nat.zero_le _, HOi.out, HQi.out, HEi.out, hTq⟩
          case round =>
            rename World => wt
            obtain ⟨j, rfl, hj, hO, hQ, hE, hTt⟩ := hrel
            have HQj := Lib.hid hQ
            have HEj := Lib.hid hE
            by_cases hjl : j < n
            · obtain ⟨b', c', R, hv, _, _, c1, hR1, hR2, c2, f2, hput⟩ := hO.put hn1 hil hjl
              simp only [Value.slice.injEq, Option.some.injEq, Addr.mk.injEq] at hv
              obtain ⟨⟨rfl, _⟩, _, rfl⟩ := hv
              have HPUT := Lib.hid (hput (smF n A (m + 2) i j))
              have HQP := Lib.hid (HQj.out.put (show R < B by omega) j (iv (smF n A (m + 2) i j)))
              obtain ⟨b2, o2, q2, hv2, _, _, _, hq⟩ := hQ
              simp only [Value.slice.injEq, Option.some.injEq, Addr.mk.injEq] at hv2
              obtain ⟨⟨rfl, rfl, _⟩, _, rfl⟩ := hv2
              obtain ⟨r, ro, rc, c3, hr1, hr2, hrB, hr⟩ := hq i hil
              have c4 := hr j hjl
              have k1 := cell_lt c1
              have k2 := cell_lt c2
              have k3 := cell_lt c3
              have k4 := cell_lt c4
              rw [mix_at] at c2
              have HMX := Lib.hid (val_em_max (HBS.out i hil j hjl) (HBP.out i hil j hjl))
              have HSS := Lib.hid (smF_succ n A (m + 1) i j)
              have HBEL := Lib.hid (Below.setCell (p := ⟨R, j, none⟩) hE hR1 (iv (smF n A (m + 2) i j)))
              obtain ⟨a, ha⟩ : ∃ a, a = val (smF n A (m + 1) i j) := ⟨_, rfl⟩
              obtain ⟨b, hb⟩ : ∃ b, b = val (pwF n A (m + 1) i j) := ⟨_, rfl⟩
              obtain ⟨z, hz⟩ : ∃ z, z = val (smF n A (m + 2) i j) := ⟨_, rfl⟩
              have HZ := Lib.hid (show z = if a < b then b else a from by rw [ha, hb, hz]; exact (congrArg val (smF_succ n A (m + 1) i j)).trans HMX.out)
              unfold iv at c2 c4 HPUT HQP HBEL
              rw [← ha] at c2
              rw [← hb] at c4
              rw [← hz] at HPUT HQP HBEL
              clear hO hE hput hr hq ha hb hz HSS HMX
              by_cases hab : a < b
              · have hzb := HZ.out
                rw [if_pos hab] at hzb
                subst hzb
                go_wp2_with fail
                go_region
                all_goals (go_wp2_with fail)
                all_goals exact ⟨⟨j + 1, by simp, by omega, (HPUT.out.congr (mix_step _ _ i j)).drew, HQP.out.drewN, HBEL.out.drew, by show T ≤ (wt.setCell _ _).heap.size; simp [World.setCell]; exact hTt⟩, by simp [intOf]; omega⟩
              · have hzb := HZ.out
                rw [if_neg hab] at hzb
                subst hzb
                go_wp2_with fail
                go_region
                all_goals (go_wp2_with fail)
                all_goals exact ⟨⟨j + 1, by simp, by omega, (HPUT.out.congr (mix_step _ _ i j)).drew, HQP.out.drewN, HBEL.out.drew, by show T ≤ (wt.setCell _ _).heap.size; simp [World.setCell]; exact hTt⟩, by simp [intOf]; omega⟩
            · obtain rfl : j = n := by omega
              have HOR := Lib.hid (hO.congr (mix_row (smF j A (m + 1)) (smF j A (m + 2)) i))
              clear hO hQ hE
              go_wp2_with fail
              exact ⟨⟨i + 1, by simp, by omega, HOR.out, HQj.out, HEj.out, hTt⟩, by simp [intOf]; omega⟩
        · obtain rfl : i = n := by omega
          have HOR := Lib.hid (HOi.out.congr (mix_end (smF i A (m + 1)) (smF i A (m + 2))))
          go_wp2_with fail
          exact ⟨⟨m + 1, by simp, by omega, HOR.out, HQi.out.mat, HEi.out, hTq⟩, by simp [intOf]; omega⟩
    · obtain rfl : n = m + 1 := by omega
      have hlz : ¬ (m : Int) + 1 < ((m + 1 : Nat) : Int) := by omega
      go_wp2_with fail
      go_ret
      exact ⟨_, rfl, HO.out.to hn1 hn, HE.out⟩
end Go.Proofs.YtbcngojiikdigaaGreat

namespace Go.Proofs.YtbcngojiikdigaaGreat
set_option maxRecDepth 100000
open Go.RowKit Go.Shelf
/-- the greatest of nought and the first j -/
def accP (M : MF) (i j : Nat) : E := em (some 0) (es (fun k => M i k) j)
theorem accP_succ (M : MF) (i j : Nat) : accP M i (j + 1) = em (accP M i j) (M i j) := by
  show em (some 0) (em (es (fun k => M i k) j) (M i j)) = em (em (some 0) (es (fun k => M i k) j)) (M i j)
  exact (em_assoc _ _ _).symm
theorem accP_pot {n : Nat} {B : MF} (hn : 1 ≤ n) {i : Nat} (hi : i < n) : accP (smF n B n) i n = potF n B i := by
  have h := pot_pos (B := B) hn hi
  have e3 : potF n B i = es (fun k => smF n B n i k) n := by
    unfold potF vecF; simp only [ep_zero]
    exact es_congr fun k hk => clos_star B hn i hi k hk
  unfold accP
  rw [← e3]
  exact h
def RPotS (xs : List (List Int)) (e : Ending) (w' : World) : Prop :=
  (matB xs = false ∧ e = two (.slice none 0 0) (.int .i64 2)) ∨
  (matB xs = true ∧ spF xs.length (entF xs) = none ∧ e = two (.slice none 0 0) (.int .i64 10)) ∨
  (matB xs = true ∧ ∃ p q v, spF xs.length (entF xs) = some (p, q) ∧ e = two v (.int .i64 0) ∧ Ints w' v (listV xs.length (potF xs.length (lvF p q (entF xs)))))
set_option maxHeartbeats 8000000 in
theorem rPotential_c (u : Value) (xs : List (List Int)) (w : World) (hu : Rows2 w u xs) (hlx : ∀ r ∈ xs, r.length ≤ 1000000) :
    Calls Tryz.prog 27 #[u] w fun e w' => RPotS xs e w' ∧ Ext w w' := by
  have HU := Lib.hid hu
  have HSP := Lib.hid (rSpeed_c u xs w hu hlx)
  obtain ⟨a1, c1, rfl, hl1, hm1, _⟩ := hu.at
  clear hu hlx
  have HZ := Lib.hid (show speedZ xs = speedZ xs from rfl)
  obtain ⟨⟨z1, z2, z3⟩, hz⟩ : ∃ z, z = speedZ xs := ⟨_, rfl⟩
  rw [← hz] at HSP
  simp only at HSP
  unfold speedZ at hz
  by_cases hok : ∃ p q, matB xs = true ∧ spF xs.length (entF xs) = some (p, q)
  · obtain ⟨p, q, hm, hs⟩ := hok
    rw [hm] at hz
    simp only [if_true, hs, Prod.mk.injEq] at hz
    obtain ⟨rfl, rfl, rfl⟩ := hz
    have hn := (matB_ok hm).1
    have hb := spF_bd (matB_ok hm).2.2 hn.2 hs
    have HB := Lib.hid (lvF_bd (matB_ok hm).2.2 hb.1 hb.2)
    have HBA := Lib.hid (matB_ok hm).2.2
    have HS := Lib.hid (fun v w' (h : Ints w' v (listV xs.length (potF xs.length (lvF z1 z2 (entF xs))))) => (show RPotS xs (two v (.int .i64 0)) w' from .inr (.inr ⟨hm, z1, z2, v, hs, rfl, h⟩)))
    have HSQ := Lib.hid (fun i (hi : i < xs.length) => (accP_pot (B := lvF z1 z2 (entF xs)) hn.1 hi))
    have HUM := Lib.hid (fun W (h : Ext w W) => rows_mat (HU.out.ext h) (matB_ok hm).2.1 hn.1)
    have hq0 : 0 ≤ z2 ∧ z2 ≤ 6 := by omega
    have hp0 := hb.1
    clear hm hs hb HZ HU
    go_enter Tryz.func27, Tryz.ntmps27
    go_wp2_with fail
    refine HSP.out.mono ?_
    rintro e w1 ⟨rfl, hE⟩
    have HE1 := Lib.hid hE
    have HE2 := Lib.hid (Ext.alloc hE (.cells #[.int .i64 z1, .int .i64 z2] 38))
    have HP2 := Lib.hid (show VRow (w1.alloc (.cells #[.int .i64 z1, .int .i64 z2] 38)) _ _ _ from vrow_alloc w1 [.int .i64 z1, .int .i64 z2] 38)
    have m0 := VRow.cell HP2.out (k := 0) rfl
    have m1 := VRow.cell HP2.out (k := 1) rfl
    clear hE
    unfold two
    go_wp2_with fail
    have HMA := Lib.hid (HUM.out _ HE2.out)
    generalize w1.alloc (.cells #[.int .i64 z1, .int .i64 z2] 38) = w2 at *
    refine (scaled_c _ xs.length (entF xs) z1 z2 w2 hn.1 hn.2 HMA.out HBA.out hp0 hq0).mono ?_
    rintro e w3 ⟨r3, rfl, hr, hE⟩
    have HR3 := Lib.hid hr
    have HE3 := Lib.hid (Ext.trans HE2.out hE)
    clear hr hE HMA HUM m0 m1
    go_wp2_with fail
    refine (walks_c _ xs.length _ w3 hn.1 hn.2 HR3.out HB.out).mono ?_
    rintro e w4 ⟨r4, rfl, hr, hE⟩
    have HR4 := Lib.hid hr.mat
    have HE4 := Lib.hid (Ext.trans HE3.out hE)
    obtain ⟨rb, ro, rc, rfl, _⟩ := hr.mat
    clear hr hE
    have HBS := Lib.hid (show ∀ i, i < xs.length → ∀ j, j < xs.length → bdE 72000 (smF xs.length (lvF z1 z2 (entF xs)) xs.length i j) from fun i hi j hj => bdE_es fun k hk => ((bdF_pw HB.out k).mono (show (12000 : Int) * (k : Nat) ≤ 72000 by omega)) i hi j hj)
    generalize potF xs.length (lvF z1 z2 (entF xs)) = PF at *
    generalize smF xs.length (lvF z1 z2 (entF xs)) xs.length = M at *
    generalize xs.length = n at *
    have HBACC := Lib.hid (show ∀ i, i < n → ∀ j, j ≤ n → bdE KB (accP M i j) from fun i hi j hj => bdE_em (fun y hy => by injection hy with hy; subst hy; unfold KB; omega) (bdE_es fun k hk => (HBS.out i hi k (by omega)).mono (by unfold KB; omega)))
    go_wp2_with fail
    go_loopw [8, 7] (fun iv' ov wr => ∃ k : Nat, iv' = .int .i64 (k : Int) ∧ k ≤ n ∧ RowOwn w4.heap.size wr ov k PF ∧ Ext w4 wr) (fun iv' _ _ => n - (intOf iv').toNat)
    case atStart => exact ⟨0, rfl, Nat.zero_le _, ⟨rfl, .inl ⟨rfl, rfl⟩⟩, Ext.refl _⟩
    case round =>
      rename World => wr
      obtain ⟨k, rfl, hk, hR, hE⟩ := hrel
      obtain ⟨sa, sc, rfl⟩ := own_slice hR
      have HR := Lib.hid hR
      have HE := Lib.hid hE
      clear hR hE
      have hwr := HE.out.size
      by_cases hlt : k < n
      · go_wp2_with fail
        go_loopw [10, 9] (fun jv uv wq => ∃ j : Nat, jv = .int .i64 (j : Int) ∧ j ≤ n ∧ uv = iv (accP M k j) ∧ Ext wr wq) (fun jv _ _ => n - (intOf jv).toNat)
        case atStart => exact ⟨0, rfl, Nat.zero_le _, rfl, Ext.refl _⟩
        case round =>
          rename World => wq
          obtain ⟨j, rfl, hj, rfl, hEq⟩ := hrel
          have HEq := Lib.hid hEq
          clear hEq
          by_cases hjl : j < n
          · obtain ⟨ru, c1, hv⟩ := (HR4.out.ext (Ext.trans HE.out HEq.out)).row hlt
            obtain ⟨vb, vo, vc, rfl, hv1, hv2, hv3⟩ := hv
            have c2 := hv3 j hjl
            have k1 := cell_lt c1
            have k2 := cell_lt c2
            have HMX := Lib.hid (val_em_max (HBACC.out k hlt j hj) ((HBS.out k hlt j hjl).mono (show (72000 : Int) ≤ KB by unfold KB; omega)))
            have HAS := Lib.hid (accP_succ M k j)
            obtain ⟨a, ha⟩ : ∃ a, a = val (accP M k j) := ⟨_, rfl⟩
            obtain ⟨b, hb⟩ : ∃ b, b = val (M k j) := ⟨_, rfl⟩
            obtain ⟨z, hz⟩ : ∃ z, z = val (accP M k (j + 1)) := ⟨_, rfl⟩
            have HZ := Lib.hid (show z = if a < b then b else a from by rw [ha, hb, hz]; exact (congrArg val HAS.out).trans HMX.out)
            have HZZ := Lib.hid (show iv (accP M k (j + 1)) = .int .i64 z from by rw [hz])
            unfold iv at c2 ⊢
            rw [← hb] at c2
            rw [← ha]
            clear ha hb hz hv3 HMX HAS
            by_cases hab : a < b
            · have hzb := HZ.out
              rw [if_pos hab] at hzb
              subst hzb
              go_wp2_with fail
              exact ⟨⟨j + 1, by simp, by omega, HZZ.out.symm, HEq.out⟩, by simp [intOf]; omega⟩
            · have hzb := HZ.out
              rw [if_neg hab] at hzb
              subst hzb
              go_wp2_with fail
              exact ⟨⟨j + 1, by simp, by omega, HZZ.out.symm, HEq.out⟩, by simp [intOf]; omega⟩
          · obtain rfl : j = n := by omega
            have HMU := Lib.hid (HSQ.out k hlt)
            have HRS := Lib.hid (listV_succ k PF)
            have hlen : (listV k PF).length = k := listV_len _ _
            have hwq := HEq.out.size
            obtain ⟨i0, hi0, hz0, hz1, hz2⟩ := info_parts info3x23
            have HI := Lib.hid hi0
            have HZ0 := Lib.hid hz0
            have HZ1 := Lib.hid hz1
            have HZ2 := Lib.hid hz2
            clear hi0 hz0 hz1 hz2
            obtain ⟨zz, hzz⟩ : ∃ zz, zz = val (accP M k j) := ⟨_, rfl⟩
            unfold iv
            rw [← hzz]
            have HZZ := Lib.hid (show zz = val (PF k) by rw [hzz, HMU.out])
            clear hzz
            have hob : ∀ x, Value.ownBlock (.slice sa k sc) = some x → w4.heap.size ≤ x := fun x hx => own_block HR.out hx
            have hwo := Ext.alloc HEq.out (.cells #[.int .i64 zz] 3)
            have HOWN := Lib.hid (ownsRow_ext HR.out hwo)
            clear hwo
            go_wp2_with (at_builtin; (refine wpList_append_own _ rfl _ _ 23 rfl w4.heap.size 3 i0 (.int .i64 0) 1 8 Tryz.underlying23 HI.out HZ0.out HZ1.out HZ2.out rfl (by decide) _ _ _ rfl HOWN.out ⟨wq.heap.size, 0, none⟩ 1 1 [.int .i64 zz] rfl rfl (fun j u h => cell_one_new wq _ 3 j u h) (by simp [Value.oneCell']) (by unfold maxLen; omega) (by omega) (by simp; omega) ?_; intro v' w' hown' hgrow hnil; have HO10 := Lib.hid hown'; have HG10 := Lib.hid hgrow; clear hown' hgrow hnil))
            refine ⟨⟨k + 1, by simp, by omega, ?_, Below.grown (Ext.alloc (Ext.trans HE.out HEq.out) (.cells #[.int .i64 zz] 3)) HG10.out (by simp; omega) (fun x e => hob x e)⟩, by simp [intOf]; omega⟩
            unfold RowOwn
            rw [HRS.out, List.map_append]
            have h := HO10.out
            rw [HZZ.out] at h
            exact h
      · obtain rfl : k = n := by omega
        have HI := Lib.hid (show Ints wr _ (listV k PF) from own_ints2 (by rw [listV_len]; exact HR.out) (by rw [listV_len]; omega))
        go_wp2_with fail
        go_ret2
        exact ⟨HS.out _ _ HI.out, Ext.trans HE4.out HE.out⟩
  · have HBAD := Lib.hid (show z3 ≠ 0 ∧ ∀ W, RPotS xs (two (.slice none 0 0) (.int .i64 z3)) W from by
      cases hm : matB xs with
      | false =>
        rw [hm] at hz
        simp only [Bool.false_eq_true, if_false, Prod.mk.injEq] at hz
        obtain ⟨_, _, rfl⟩ := hz
        exact ⟨by decide, fun W => .inl ⟨hm, rfl⟩⟩
      | true =>
        rw [hm] at hz
        simp only [if_true] at hz
        cases hs : spF xs.length (entF xs) with
        | none =>
          rw [hs] at hz
          simp only [Prod.mk.injEq] at hz
          obtain ⟨_, _, rfl⟩ := hz
          exact ⟨by decide, fun W => .inr (.inl ⟨hm, hs, rfl⟩)⟩
        | some pq => exact absurd ⟨pq.1, pq.2, hm, hs⟩ hok)
    have hb3 : (z3 != 0) = true := by rw [bne_iff_ne]; exact HBAD.out.1
    clear hok hz HZ
    go_enter Tryz.func27, Tryz.ntmps27
    go_wp2_with fail
    refine HSP.out.mono ?_
    rintro e w1 ⟨rfl, hE⟩
    have HE1 := Lib.hid (Ext.alloc hE (.cells #[.int .i64 z1, .int .i64 z2] 38))
    clear hE
    unfold two
    go_wp2_with fail
    go_ret2
    exact ⟨HBAD.out.2 _, HE1.out⟩
end Go.Proofs.YtbcngojiikdigaaGreat
