import Derived.Test.YtnpebfchojalcaaW3
namespace Go.Proofs.Ytnpebfchojalcaa
open Go.RowKit
attribute [local go_sem] Oper.semAt_some
def fromP (ps : List Pt) (k : Nat) : Pt := ps.getD k (0, 0)
def toP (ps : List Pt) (k : Nat) : Pt := ps.getD ((k + 1) % ps.length) (0, 0)
def stepP (ps : List Pt) (k : Nat) : Pt := ((toP ps k).1 - (fromP ps k).1, (toP ps k).2 - (fromP ps k).2)
def edgeA (ps : List Pt) (k : Nat) : Array Value := #[.int .i64 (fromP ps k).1, .int .i64 (fromP ps k).2, .int .i64 (stepP ps k).1, .int .i64 (stepP ps k).2]
def wideP (ps : List Pt) : Prop := ∀ q ∈ ps, -10000 ≤ q.1 ∧ q.1 ≤ 10000 ∧ -10000 ≤ q.2 ∧ q.2 ≤ 10000
theorem step_fine {ps : List Pt} (h : wideP ps) {k : Nat} (hk : k < ps.length) : fine (fromP ps k).1 ∧ fine (fromP ps k).2 ∧ fine (toP ps k).1 ∧ fine (toP ps k).2 ∧ fine (stepP ps k).1 ∧ fine (stepP ps k).2 := by
  have h1 := h (fromP ps k) (by unfold fromP; rw [List.getD_eq_getElem?_getD, List.getElem?_eq_getElem hk]; exact List.getElem_mem _)
  have h2 := h (toP ps k) (by unfold toP; rw [List.getD_eq_getElem?_getD, List.getElem?_eq_getElem (Nat.mod_lt _ (by omega))]; exact List.getElem_mem _)
  unfold fine stepP
  simp only
  omega
def MP.ptr (s : Nat) : MP := ⟨fun v W => ∃ r, v = .pointer (some ⟨r, 0, none⟩) ∧ VRow W r 31 [.int .i64 0, .int .i64 0] ∧ s ≤ r, fun _ _ _ h hh => by
  obtain ⟨r, e, h1, h2⟩ := hh
  exact ⟨r, e, VRow.ext h1 h, h2⟩⟩
theorem vec_put {s w3 : World} {t : TypeId} {x0 y0 : Value} (hE : Ext s w3) {r : Nat} (hr : VRow w3 r t [x0, y0]) (hs : s.heap.size ≤ r) (x y : Value) :
    VRow ((w3.setCell ⟨r, 0, none⟩ x).setCell ⟨r, 1, none⟩ y) r t [x, y] ∧ Ext s ((w3.setCell ⟨r, 0, none⟩ x).setCell ⟨r, 1, none⟩ y) :=
  ⟨VRow.set (VRow.set hr 0 x) 1 y, Below.setCell (p := ⟨r, 1, none⟩) (Below.setCell (p := ⟨r, 0, none⟩) hE hs _) hs _⟩
theorem edges_c (a : Option Addr) (len cap : Nat) (w : World) :
    Calls Try.prog 103 #[.slice a len cap] w fun e w' => e = .returned (.func (.func 124) #[] #[.pointer (some ⟨w.heap.size, 0, none⟩)]) ∧ w' = w.alloc (.cells #[.slice a len cap] 22) := by
  go_enter Try.func103, Try.ntmps103
  go_wp2
  go_ret
  exact ⟨rfl, rfl⟩
set_option maxRecDepth 100000 in
set_option maxHeartbeats 1000000 in
theorem edges_iter (Bs : Nat) (v : Value) (ps : List Pt) (S : Nat → Prop) (w : World) (hK : ∀ W, Held S w W → W.cell? ⟨Bs, 0, none⟩ = some v ∧ Vecs W v ps) (hS : ∀ j, S j → j < w.heap.size) (hw : wideP ps) (hn : ps.length ≤ 1000000) :
    IterC Try.prog 124 #[.pointer (some ⟨Bs, 0, none⟩)] (fun k => #[.agg (edgeA ps k)]) ps.length S w := by
  intro l J Jx W hEW hJ hJx hY h0
  obtain ⟨ax, cx, rfl, hxc, hxm, _⟩ := (hK w (Held.refl _ _)).2.at
  have HK := Lib.hid hK
  have HY := Lib.hid hY
  have HW := Lib.hid hw
  clear hK hY hw
  have c0 := (HK.out W (Held.ext hEW hS)).1
  have HEW := Lib.hid (Held.ext hEW hS)
  clear hEW
  change Calls Try.prog 124 #[.func (.yield l) #[] #[], .pointer (some ⟨Bs, 0, none⟩)] W _
  go_enter Try.func124, Try.ntmps124
  go_wp2
  go_loopw [8] (fun i wr => ∃ k : Nat, k ≤ ps.length ∧ i = .int .i64 k ∧ J k wr ∧ Held S w wr) (fun i _ => ps.length - (intOf i).toNat)
  case atStart => exact ⟨0, Nat.zero_le _, rfl, h0, HEW.out⟩
  case round =>
    obtain ⟨k, hk, rfl, hJk, hH⟩ := hrel
    have HH := Lib.hid hH
    have HJ := Lib.hid hJk
    clear hH hJk c0
    by_cases hlt : k < ps.length
    · obtain ⟨q, hq⟩ := getElem?_len hlt
      obtain ⟨r, hr⟩ := getElem?_len (show (k + 1) % ps.length < ps.length from Nat.mod_lt _ (by omega))
      obtain ⟨ax', cx', e, _, _, hrx⟩ := (HK.out wr HH.out).2.at
      have e : ax = ax' := by injection e
      subst e
      obtain ⟨b, o, rfl, hc0, hc1⟩ := hrx k q hq
      obtain ⟨b', o', e, hd0, hd1⟩ := hrx _ r hr
      obtain ⟨rfl, rfl⟩ : b = b' ∧ o = o' := by injection e with e; injection e with e1 e2; exact ⟨e1, e2⟩
      have cs := (HK.out wr HH.out).1
      have h1 := cell_lt hc0
      have h2 := cell_lt cs
      go_wp2_with fail
      obtain ⟨m, hm⟩ : ∃ m, m = (k + 1) % ps.length := ⟨_, rfl⟩
      rw [← hm] at hr hd0 hd1
      have hmod : m < ps.length := lt_len hr
      have HBS := Lib.hid (show (wr.alloc (.cells #[.int .i64 q.1, .int .i64 q.2] 31)).cell? ⟨Bs, 0, none⟩ = _ from Ext.cell (Ext.alloc (Ext.refl wr) _) cs)
      have HR0 := Lib.hid (show (wr.alloc (.cells #[.int .i64 q.1, .int .i64 q.2] 31)).cell? ⟨b, o + m * 2, none⟩ = _ from Ext.cell (Ext.alloc (Ext.refl wr) _) hd0)
      have HR1 := Lib.hid (show (wr.alloc (.cells #[.int .i64 q.1, .int .i64 q.2] 31)).cell? ⟨b, o + m * 2 + 1, none⟩ = _ from Ext.cell (Ext.alloc (Ext.refl wr) _) hd1)
      have HM := Lib.hid (vrow_alloc wr [.int .i64 q.1, .int .i64 q.2] 31)
      have HE := Lib.hid (Ext.alloc (Ext.refl wr) (.cells #[.int .i64 q.1, .int .i64 q.2] 31))
      change Hid (VRow (wr.alloc (.cells #[.int .i64 q.1, .int .i64 q.2] 31)) _ _ _) at HM
      have HWR := Lib.hid (show IntKind.i64.wrap ((k : Int) + 1) = (k : Int) + 1 from IntWalk.i64_in _ (by omega))
      have HREM := Lib.hid (show ((k : Int) + 1).tmod (ps.length : Int) = (m : Int) by
        rw [Int.tmod_eq_emod_of_nonneg (by omega), hm]
        simp)
      have hnz2 : ¬ ps = [] := by rintro rfl; simp at hlt
      have Hq := Lib.hid hq
      have Hr := Lib.hid hr
      have Hm := Lib.hid hm
      clear hm hq hr hc0 hc1 hd0 hd1 cs h1 h2 hrx
      have hsz : (wr.alloc (.cells #[.int .i64 q.1, .int .i64 q.2] 31)).heap.size = wr.heap.size + 1 := by simp
      generalize hw1 : wr.alloc (.cells #[.int .i64 q.1, .int .i64 q.2] 31) = w1 at *
      refine wp_region_stable_last [⟨[], none⟩, ⟨[], none⟩, ⟨[(1, 14)], none⟩, ⟨[], none⟩, ⟨[(3, 16)], none⟩, ⟨[(2, 15), (4, 17)], none⟩, ⟨[(0, 13), (5, 18)], none⟩, ⟨[(6, 19)], none⟩, ⟨[], none⟩] (fun x y => Below x.heap.size x y) (MPat [MP.eq (.slice (some ⟨b, o, none⟩) ps.length cx), MP.eq (.int .i64 k), MP.eq (.int .i64 ((k : Int) + 1)), MP.eq (.slice (some ⟨b, o, none⟩) ps.length cx), MP.eq (.int .i64 (ps.length : Int)), MP.eq (.int .i64 (m : Int)), MP.eq (.pointer (some ⟨b, o + m * 2, none⟩)), MP.eq (vecV r.1 r.2), MP.ptr (wr.heap.size + 1)]) rfl (by kernel_rfl) (fun _ _ _ h k => Ext.trans h k) (fun _ => Below.refl _ _) (fun x => (Below.refl x.heap.size x).drew) (MPat.mono _) (by kernel_rfl) (by kernel_rfl) (by kernel_rfl) ?obs ?rest
      case obs =>
        refine ⟨?_, ?_, ?_, ?_, ?_, ?_, ?_, ?_, ?_, trivial⟩
        · intro ev W hf _ _ hst hd
          have e1 : ev (.tmp 1) = .pointer (some ⟨Bs, 0, none⟩) := hf 1 (by kernel_rfl)
          have cs := Ext.cell hst HBS.out
          refine st_value (v := .slice (some ⟨b, o, none⟩) ps.length cx) ?_ (Below.refl _ _) ?_
          · simp [execOp, go_sem, e1, cs]
          · exact rfl
        · intro ev W hf _ _ hst hd
          have e3 : ev (.tmp 3) = .int .i64 k := hf 3 (by kernel_rfl)
          refine st_value (v := .int .i64 k) ?_ (Below.refl _ _) ?_
          · simp [execOp, go_sem, e3]
          · exact rfl
        · intro ev W hf hcst _ hst hd
          obtain ⟨d14, _⟩ := hd
          have e14 : ev (.tmp 14) = .int .i64 k := d14
          refine st_value (v := .int .i64 ((k : Int) + 1)) ?_ (Below.refl _ _) ?_
          · simp [execOp, go_sem, e14, hcst, HWR.out]
          · exact rfl
        · intro ev W hf _ _ hst hd
          have e1 : ev (.tmp 1) = .pointer (some ⟨Bs, 0, none⟩) := hf 1 (by kernel_rfl)
          have cs := Ext.cell hst HBS.out
          refine st_value (v := .slice (some ⟨b, o, none⟩) ps.length cx) ?_ (Below.refl _ _) ?_
          · simp [execOp, go_sem, e1, cs]
          · exact rfl
        · intro ev W hf _ _ hst hd
          obtain ⟨d16, _⟩ := hd
          have e16 : ev (.tmp 16) = .slice (some ⟨b, o, none⟩) ps.length cx := d16
          refine st_value (v := .int .i64 (ps.length : Int)) ?_ (Below.refl _ _) ?_
          · simp [go_sem, e16]
          · exact rfl
        · intro ev W hf _ hfn hst hd
          obtain ⟨d15, d17, _⟩ := hd
          have e15 : ev (.tmp 15) = .int .i64 ((k : Int) + 1) := d15
          have e17 : ev (.tmp 17) = .int .i64 (ps.length : Int) := d17
          refine st_value (v := .int .i64 (m : Int)) ?_ (Below.refl _ _) rfl
          simp [execOp, go_sem, e15, e17, HREM.out, hnz2]
        · intro ev W hf _ _ hst hd
          obtain ⟨d13, d18, _⟩ := hd
          have e13 : ev (.tmp 13) = .slice (some ⟨b, o, none⟩) ps.length cx := d13
          have e18 : ev (.tmp 18) = .int .i64 (m : Int) := d18
          refine st_value (v := .pointer (some ⟨b, o + m * 2, none⟩)) ?_ (Below.refl _ _) ?_
          · simp [execOp, go_sem, e13, e18, hmod]
          · exact rfl
        · intro ev W hf _ _ hst hd
          obtain ⟨d19, _⟩ := hd
          have e19 : ev (.tmp 19) = .pointer (some ⟨b, o + m * 2, none⟩) := d19
          have cr0 := Ext.cell hst HR0.out
          have cr1 := Ext.cell hst HR1.out
          refine st_value (v := vecV r.1 r.2) ?_ (Below.refl _ _) ?_
          · simp [execOp, go_sem, e19, cr0, cr1]
          · exact rfl
        · intro ev W hf _ hfn hst hd
          refine st_new (v := .pointer (some ⟨W.heap.size, 0, none⟩)) (o := .cells #[.int .i64 0, .int .i64 0] 31) ?_ ?_
          · simp [execOp, go_sem]
          · exact ⟨_, rfl, vrow_alloc W [.int .i64 0, .int .i64 0] 31, by have := hst.size; omega⟩
      case rest =>
        intro vs w3 hl hst hg
        obtain ⟨t, et, ht, hts⟩ : ∃ t, vs[8]? = some (.pointer (some ⟨t, 0, none⟩)) ∧ VRow w3 t 31 [.int .i64 0, .int .i64 0] ∧ wr.heap.size + 1 ≤ t := by
          have hu : vs[8]? = some (vs[8]'(by rw [hl]; decide)) := List.getElem?_eq_getElem _
          obtain ⟨t, he, h1, h2⟩ := hg 8 _ hu
          exact ⟨t, by rw [hu, he], h1, h2⟩
        have hx0 : ∀ u, vs[0]? = some u → u = .slice (some ⟨b, o, none⟩) ps.length cx := fun u hu => hg 0 u hu
        have hx1 : ∀ u, vs[1]? = some u → u = .int .i64 k := fun u hu => hg 1 u hu
        have hx2 : ∀ u, vs[2]? = some u → u = .int .i64 ((k : Int) + 1) := fun u hu => hg 2 u hu
        have hx3 : ∀ u, vs[3]? = some u → u = .slice (some ⟨b, o, none⟩) ps.length cx := fun u hu => hg 3 u hu
        have hx4 : ∀ u, vs[4]? = some u → u = .int .i64 (ps.length : Int) := fun u hu => hg 4 u hu
        have hx5 : ∀ u, vs[5]? = some u → u = .int .i64 (m : Int) := fun u hu => hg 5 u hu
        have hx6 : ∀ u, vs[6]? = some u → u = .pointer (some ⟨b, o + m * 2, none⟩) := fun u hu => hg 6 u hu
        have hx7 : ∀ u, vs[7]? = some u → u = vecV r.1 r.2 := fun u hu => hg 7 u hu
        have HE3 := Lib.hid hst
        have HT := Lib.hid ht
        clear hg hst ht
        obtain ⟨x0, vs0, rfl, hl0⟩ := len_succ hl
        obtain ⟨x1, vs1, rfl, hl1⟩ := len_succ hl0
        obtain ⟨x2, vs2, rfl, hl2⟩ := len_succ hl1
        obtain ⟨x3, vs3, rfl, hl3⟩ := len_succ hl2
        obtain ⟨x4, vs4, rfl, hl4⟩ := len_succ hl3
        obtain ⟨x5, vs5, rfl, hl5⟩ := len_succ hl4
        obtain ⟨x6, vs6, rfl, hl6⟩ := len_succ hl5
        obtain ⟨x7, vs7, rfl, hl7⟩ := len_succ hl6
        obtain ⟨x8, vs8, rfl, hl8⟩ := len_succ hl7
        have hnil : vs8 = [] := List.length_eq_zero_iff.1 hl8
        subst hnil
        simp only [List.getElem?_cons_succ, List.getElem?_cons_zero, Option.some.injEq] at et
        subst et
        have hne : wr.heap.size ≠ t := by omega
        obtain rfl : x0 = .slice (some ⟨b, o, none⟩) ps.length cx := hx0 _ rfl
        obtain rfl : x1 = .int .i64 k := hx1 _ rfl
        obtain rfl : x2 = .int .i64 ((k : Int) + 1) := hx2 _ rfl
        obtain rfl : x3 = .slice (some ⟨b, o, none⟩) ps.length cx := hx3 _ rfl
        obtain rfl : x4 = .int .i64 (ps.length : Int) := hx4 _ rfl
        obtain rfl : x5 = .int .i64 (m : Int) := hx5 _ rfl
        obtain rfl : x6 = .pointer (some ⟨b, o + m * 2, none⟩) := hx6 _ rfl
        obtain rfl : x7 = vecV r.1 r.2 := hx7 _ rfl
        clear hx0 hx1 hx2 hx3 hx4 hx5 hx6 hx7
        simp only [putAll, Act.put, List.dropLast, List.setIfInBounds_toArray, List.set_cons_zero, List.set_cons_succ]
        have m0 := VRow.cell HT.out (k := 0) rfl
        have m1 := VRow.cell HT.out (k := 1) rfl
        have f0 := VRow.frozen HT.out 0 none
        have f1 := VRow.frozen HT.out 1 none
        go_wp2_with fail
        clear m0 m1 f0 f1
        obtain ⟨hv, hE4⟩ := vec_put (Ext.trans HE.out HE3.out) HT.out (by omega) (.int .i64 r.1) (.int .i64 r.2)
        have hm4 : VRow ((w3.setCell ⟨t, 0, none⟩ (.int .i64 r.1)).setCell ⟨t, 1, none⟩ (.int .i64 r.2)) wr.heap.size 31 [.int .i64 q.1, .int .i64 q.2] := VRow.setOther (VRow.setOther (VRow.ext HM.out HE3.out) (by show wr.heap.size ≠ t; exact hne) _) (by show wr.heap.size ≠ t; exact hne) _
        have HV := Lib.hid hv
        have HM4 := Lib.hid hm4
        have HE4 := Lib.hid hE4
        clear hv hm4 hE4
        generalize (w3.setCell ⟨t, 0, none⟩ (.int .i64 r.1)).setCell ⟨t, 1, none⟩ (.int .i64 r.2) = w4 at *
        have hfine := step_fine HW.out hlt
        have hfrom : fromP ps k = q := by unfold fromP; rw [List.getD_eq_getElem?_getD, Hq.out]; rfl
        have hto : toP ps k = r := by unfold toP; rw [← Hm.out, List.getD_eq_getElem?_getD, Hr.out]; rfl
        rw [hfrom, hto] at hfine
        have HF := Lib.hid hfine
        clear hfine
        refine (wpIn_wide (n := 9)).1 ?_
        refine wpIn_region_stable_last2 Open.wide [⟨[], none⟩, ⟨[], none⟩, ⟨[], none⟩, ⟨[], none⟩, ⟨[(2, 23), (3, 24)], none⟩, ⟨[(1, 22), (4, 25)], none⟩] (fun x y => Below x.heap.size x y) (MPat [MP.eq (.func (.yield l) #[] #[]), MP.eq (vecV q.1 q.2), MP.eq (vecV r.1 r.2), MP.eq (vecV q.1 q.2), MP.eq (vecV (r.1 - q.1) (r.2 - q.2)), MP.eq (.agg #[.int .i64 q.1, .int .i64 q.2, .int .i64 (r.1 - q.1), .int .i64 (r.2 - q.2)])]) rfl (by kernel_rfl) (fun _ _ _ h k => Ext.trans h k) (fun _ => Below.refl _ _) (fun x => (Below.refl x.heap.size x).drew) (MPat.mono _) (by kernel_rfl) (by kernel_rfl) (by kernel_rfl) (by kernel_rfl) (by kernel_rfl) (by kernel_rfl) ?obs ?rest
        case obs =>
          refine ⟨?_, ?_, ?_, ?_, ?_, ?_, trivial⟩
          · intro ev W hf _ _ hst hd
            have e0 : ev (.tmp 0) = .func (.yield l) #[] #[] := hf 0 (by kernel_rfl)
            refine st_value (v := .func (.yield l) #[] #[]) ?_ (Below.refl _ _) ?_
            · simp [execOp, go_sem, e0]
            · exact rfl
          · intro ev W hf _ _ hst hd
            have e4 : ev (.tmp 4) = .pointer (some ⟨wr.heap.size, 0, none⟩) := hf 4 (by kernel_rfl)
            have kk := VRow.ext HM4.out hst
            have k0 := VRow.cell kk (k := 0) rfl
            have k1 := VRow.cell kk (k := 1) rfl
            refine st_value (v := vecV q.1 q.2) ?_ (Below.refl _ _) ?_
            · simp [execOp, go_sem, e4, k0, k1]
            · exact rfl
          · intro ev W hf _ _ hst hd
            have e5 : ev (.tmp 5) = .pointer (some ⟨t, 0, none⟩) := hf 5 (by kernel_rfl)
            have kk := VRow.ext HV.out hst
            have k0 := VRow.cell kk (k := 0) rfl
            have k1 := VRow.cell kk (k := 1) rfl
            refine st_value (v := vecV r.1 r.2) ?_ (Below.refl _ _) ?_
            · simp [execOp, go_sem, e5, k0, k1]
            · exact rfl
          · intro ev W hf _ _ hst hd
            have e4 : ev (.tmp 4) = .pointer (some ⟨wr.heap.size, 0, none⟩) := hf 4 (by kernel_rfl)
            have kk := VRow.ext HM4.out hst
            have k0 := VRow.cell kk (k := 0) rfl
            have k1 := VRow.cell kk (k := 1) rfl
            refine st_value (v := vecV q.1 q.2) ?_ (Below.refl _ _) ?_
            · simp [execOp, go_sem, e4, k0, k1]
            · exact rfl
          · intro ev W hf _ hfn hst hd
            obtain ⟨d23, d24, _⟩ := hd
            have e23 : ev (.tmp 23) = vecV r.1 r.2 := d23
            have e24 : ev (.tmp 24) = vecV q.1 q.2 := d24
            refine st_call (f := 125) (args := #[vecV r.1 r.2, vecV q.1 q.2]) (by simp [execOp, go_sem, hfn, e23, e24]) (minus_c r.1 r.2 q.1 q.2 W HF.out.2.2.1 HF.out.2.2.2.1 HF.out.1 HF.out.2.1) (fun _ _ => rfl)
          · intro ev W hf _ _ hst hd
            obtain ⟨d22, d25, _⟩ := hd
            have e22 : ev (.tmp 22) = vecV q.1 q.2 := d22
            have e25 : ev (.tmp 25) = vecV (r.1 - q.1) (r.2 - q.2) := d25
            refine st_value (v := .agg #[.int .i64 q.1, .int .i64 q.2, .int .i64 (r.1 - q.1), .int .i64 (r.2 - q.2)]) ?_ (Below.refl _ _) ?_
            · simp [execOp, go_sem, e22, e25]
            · exact rfl
        case rest =>
          intro vs w5 hl hst hg
          have hx0 : ∀ u, vs[0]? = some u → u = .func (.yield l) #[] #[] := fun u hu => hg 0 u hu
          have hx1 : ∀ u, vs[1]? = some u → u = vecV q.1 q.2 := fun u hu => hg 1 u hu
          have hx2 : ∀ u, vs[2]? = some u → u = vecV r.1 r.2 := fun u hu => hg 2 u hu
          have hx3 : ∀ u, vs[3]? = some u → u = vecV q.1 q.2 := fun u hu => hg 3 u hu
          have hx4 : ∀ u, vs[4]? = some u → u = vecV (r.1 - q.1) (r.2 - q.2) := fun u hu => hg 4 u hu
          have hx5 : ∀ u, vs[5]? = some u → u = .agg #[.int .i64 q.1, .int .i64 q.2, .int .i64 (r.1 - q.1), .int .i64 (r.2 - q.2)] := fun u hu => hg 5 u hu
          have HE5 := Lib.hid hst
          clear hg hst
          obtain ⟨x0, vs0, rfl, hl0⟩ := len_succ hl
          obtain ⟨x1, vs1, rfl, hl1⟩ := len_succ hl0
          obtain ⟨x2, vs2, rfl, hl2⟩ := len_succ hl1
          obtain ⟨x3, vs3, rfl, hl3⟩ := len_succ hl2
          obtain ⟨x4, vs4, rfl, hl4⟩ := len_succ hl3
          obtain ⟨x5, vs5, rfl, hl5⟩ := len_succ hl4
          have hnil : vs5 = [] := List.length_eq_zero_iff.1 hl5
          subst hnil
          obtain rfl : x0 = .func (.yield l) #[] #[] := hx0 _ rfl
          obtain rfl : x1 = vecV q.1 q.2 := hx1 _ rfl
          obtain rfl : x2 = vecV r.1 r.2 := hx2 _ rfl
          obtain rfl : x3 = vecV q.1 q.2 := hx3 _ rfl
          obtain rfl : x4 = vecV (r.1 - q.1) (r.2 - q.2) := hx4 _ rfl
          obtain rfl : x5 = .agg #[.int .i64 q.1, .int .i64 q.2, .int .i64 (r.1 - q.1), .int .i64 (r.2 - q.2)] := hx5 _ rfl
          clear hx0 hx1 hx2 hx3 hx4 hx5
          simp only [putAll, Act.put, List.dropLast, List.setIfInBounds_toArray, List.set_cons_zero, List.set_cons_succ]
          have hJ5 := hJ k _ _ HJ.out (Keeps.of_ext (Ext.trans HE4.out HE5.out))
          obtain ⟨fn, tmps, assign, body, hy, hR⟩ := HY.out k w5 hJ5 hlt 9
          have hedge : edgeA ps k = #[.int .i64 q.1, .int .i64 q.2, .int .i64 (r.1 - q.1), .int .i64 (r.2 - q.2)] := by unfold edgeA stepP; rw [hfrom, hto]
          rw [hedge] at hy
          clear hedge
          gi_wp2_with fail
          have HH5 := Lib.hid (HH.out.trans (Held.ext (Ext.trans HE4.out HE5.out) (fun j hj => Nat.lt_of_lt_of_le (hS j hj) HH.out.size)))
          clear hy hJ5
          refine (RoundIn.any (m := 8) rfl hR).mono ?_
          rintro e W6 (⟨rfl, hJ6, hH6⟩ | ⟨rfl, hJ6⟩)
          · gi_wp2
            go_wp2
            refine ⟨⟨k + 1, by omega, by simp, hJ6, HH5.out.trans hH6⟩, by simp [intOf]; omega⟩
          · gi_wp2
            go_wp2
            (try simp only [Exit.inBlock, Exit.then])
            refine bodyPost_ret (results_none rfl _ _ _) rfl ?_
            exact ⟨⟨_, rfl⟩, .inr ⟨k, hlt, hJ6⟩⟩
    · obtain rfl : k = ps.length := by omega
      go_wp2
      go_end0
      exact ⟨⟨_, rfl⟩, .inl HJ.out⟩
end Go.Proofs.Ytnpebfchojalcaa
