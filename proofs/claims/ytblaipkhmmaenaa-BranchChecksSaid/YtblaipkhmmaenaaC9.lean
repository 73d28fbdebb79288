import Derived.Test.YtblaipkhmmaenaaC4
import Derived.Test.YtblaipkhmmaenaaC6
import Derived.Test.YtblaipkhmmaenaaC8
namespace Go.Proofs.Ytblaipkhmmaenaa
open Go.RowKit
def MP.meas (a b c u : Value) (gs : List (List Int × Int)) : MP := ⟨fun v w => ∃ g, v = .agg #[a, b, c, u, g] ∧ GoalsAt w g gs, fun _ _ _ h ⟨g, e, hg⟩ => ⟨g, e, hg.ext h⟩⟩
def MP.open1 (bs : List Value) : MP := ⟨fun v w => ∃ ob, v = .slice (some ⟨ob, 0, none⟩) 1 1 ∧ VRow w ob 58 bs, fun _ _ _ h ⟨ob, e, hb⟩ => ⟨ob, e, VRow.ext hb h⟩⟩
def MP.read (a b c u : Value) (gs : List (List Int × Int)) (bs : List Value) : MP := ⟨fun v w => ∃ g ob, v = .agg #[a, b, c, u, g, .slice (some ⟨ob, 0, none⟩) 1 1] ∧ GoalsAt w g gs ∧ VRow w ob 58 bs, fun _ _ _ h ⟨g, ob, e, hg, hb⟩ => ⟨g, ob, e, hg.ext h, VRow.ext hb h⟩⟩
def MP.fresh (N : Nat) : MP := ⟨fun v w => ∃ r, v = .pointer (some ⟨r, 0, none⟩) ∧ VRow w r 62 [.slice none 0 0, .slice none 0 0, .slice none 0 0, .slice none 0 0, .slice none 0 0, .slice none 0 0] ∧ N ≤ r, fun _ _ _ h ⟨r, e, hb, hn⟩ => ⟨r, e, VRow.ext hb h, hn⟩⟩
theorem st_new {P : Program} {G : Value → World → Prop} {w : World} {r : Result Next} {v : Value} {o : Obj} (hr : r = .ok (.value v) (w.alloc o)) (hg : G v (w.alloc o)) : stUpon P (fun x y => Below x.heap.size x y) G w r := by
  subst hr
  exact ⟨(Below.refl _ _).alloc (Nat.le_refl _) _, hg⟩
theorem pad5 {U : List Int} (h : U.length ≤ 5) : ∃ k0 k1 k2 k3 k4, padU U = [k0, k1, k2, k3, k4] := by
  have h5 := padU_length h
  match hp : padU U, h5 with
  | [k0, k1, k2, k3, k4], _ => exact ⟨k0, k1, k2, k3, k4, rfl⟩
def chkV (ok : Bool) (n : Nat) (B : Bool) : Ending := .returned (.tuple #[.bool (ok && decide (n ≤ 65535) && B), .int .i64 (if ok = true then (if n ≤ 65535 then 0 else 3) else 2)])
set_option maxRecDepth 100000 in
set_option maxHeartbeats 600000 in
theorem check_c (a b c u v : Value) (f : Bool) (cost : Int) (n : Nat) (p : Who) (w : World) (h : WhoAt w a b c u p) (hvn : ∃ av cap, v = .slice av n cap ∧ n ≤ cap ∧ cap ≤ 9223372036854775807) (B : Bool)
    (hacc : n ≤ 65535 → whoB p = true → ∀ (R ob : Nat) (g : Value) (W : World) (k0 k1 k2 k3 k4 : Int), padU p.U = [k0, k1, k2, k3, k4] → Ext w W → GoalsAt W g (goalsOf p f cost) → VRow W R 62 [a, b, c, u, g, .slice (some ⟨ob, 0, none⟩) 1 1] →
      VRow W ob 58 (box10 0 0 0 0 0 k0 k1 k2 k3 k4) → w.heap.size ≤ R → Calls Try.prog 28 #[.pointer (some ⟨R, 0, none⟩), v] W fun e W' => e = .returned (.bool B) ∧ Ext w W') :
    Calls Try.prog 17 #[.agg #[a, b, c, u], v, .bool f, .int .i64 cost] w fun e w' =>
      e = chkV (whoB p) n B ∧ Ext w w' := by
  obtain ⟨h0, h1, h2⟩ := who_box h
  obtain ⟨aa, ca, rfl, hac, ham, _⟩ := h.1.1.at
  obtain ⟨ab, cb, rfl, hbc, hbm, _⟩ := h.1.2.1.at
  obtain ⟨ac, cc, rfl, hcc, hcm, _⟩ := h.1.2.2.at
  obtain ⟨au, cu, rfl, huc, hum, _⟩ := h.2.at
  obtain ⟨av, cv, rfl, hvc, hvm⟩ := hvn
  dsimp only at *
  have q0 := VRow.cell h0 (k := 0) rfl
  have q1 := VRow.cell h0 (k := 1) rfl
  have q2 := VRow.cell h0 (k := 2) rfl
  have q3 := VRow.cell h0 (k := 3) rfl
  have hs : w.heap.size < (w.alloc (.cells #[.slice aa p.A.length ca, .slice ab p.B.length cb, .slice ac p.C.length cc, .slice au p.U.length cu] 25)).heap.size := by simp
  change (w.alloc (.cells #[.slice aa p.A.length ca, .slice ab p.B.length cb, .slice ac p.C.length cc, .slice au p.U.length cu] 25)).cell? _ = _ at q0 q1 q2 q3
  have HV := Lib.hid h0
  have HW := Lib.hid h1
  have HE := Lib.hid h2
  have HACC := Lib.hid hacc
  have HVC := Lib.hid (valid_c _ _ _ _ p _ h1)
  clear h h0 h1 h2 hacc
  go_enter Try.func17, Try.ntmps17
  go_wp2_with fail
  clear q0 q1 q2 q3
  refine HVC.out.mono ?_
  rintro e w1 ⟨rfl, hE1⟩
  have HE1 := Lib.hid hE1
  clear hE1 HVC
  generalize w.alloc (.cells #[.slice aa p.A.length ca, .slice ab p.B.length cb, .slice ac p.C.length cc, .slice au p.U.length cu] 25) = wb at *
  cases hv : whoB p
  · have Hv := Lib.hid hv
    clear hv
    go_wp2
    go_ret2
    exact ⟨by rw [Hv.out]; rfl, HE.out.trans HE1.out⟩
  · have Hv := Lib.hid hv
    clear hv
    by_cases hn : n ≤ 65535
    · have hn' : ¬ (65535 : Int) < n := by omega
      have hsq := VRow.ext HV.out HE1.out
      have HSq := Lib.hid hsq
      have HWq := Lib.hid (HW.out.ext HE1.out)
      have H5 := Lib.hid (whoP Hv.out).1
      have HU5 := Lib.hid (show p.U.length ≤ 5 by have := (whoP Hv.out).1; have := (whoP Hv.out).2.1; omega)
      obtain ⟨k0, k1, k2, k3, k4, hk⟩ := pad5 HU5.out
      have HK := Lib.hid hk
      have HSZ := Lib.hid (Nat.le_trans (Nat.le_of_lt hs) HE1.out.size)
      have HEE := Lib.hid (HE.out.trans HE1.out)
      clear hsq hk
      go_wp2
      generalize hss : w.heap.size = s at *
      refine wp_region_stable_last [⟨[], none⟩, ⟨[], none⟩, ⟨[], none⟩, ⟨[(0, 17), (1, 18), (2, 19)], none⟩, ⟨[], none⟩, ⟨[(4, 21)], none⟩, ⟨[(5, 22)], none⟩, ⟨[(3, 20), (6, 23)], none⟩, ⟨[], none⟩] (fun x y => Below x.heap.size x y) (MPat [MP.eq (.agg #[.slice aa p.A.length ca, .slice ab p.B.length cb, .slice ac p.C.length cc, .slice au p.U.length cu]), MP.eq (.bool f), MP.eq (.int .i64 cost), MP.meas (.slice aa p.A.length ca) (.slice ab p.B.length cb) (.slice ac p.C.length cc) (.slice au p.U.length cu) (goalsOf p f cost), MP.eq (.agg #[.slice aa p.A.length ca, .slice ab p.B.length cb, .slice ac p.C.length cc, .slice au p.U.length cu]), MP.eq (.agg #[.int .i64 0, .int .i64 0, .int .i64 0, .int .i64 0, .int .i64 0, .int .i64 k0, .int .i64 k1, .int .i64 k2, .int .i64 k3, .int .i64 k4]), MP.open1 (box10 0 0 0 0 0 k0 k1 k2 k3 k4), MP.read (.slice aa p.A.length ca) (.slice ab p.B.length cb) (.slice ac p.C.length cc) (.slice au p.U.length cu) (goalsOf p f cost) (box10 0 0 0 0 0 k0 k1 k2 k3 k4), MP.fresh s]) rfl (by kernel_rfl) (fun _ _ _ h k => Ext.trans h k) (fun _ => Below.refl _ _) (fun x => (Below.refl x.heap.size x).drew) (MPat.mono _) (by kernel_rfl) (by kernel_rfl) (by kernel_rfl) ?obs ?rest
      case obs =>
        refine ⟨?_, ?_, ?_, ?_, ?_, ?_, ?_, ?_, ?_, trivial⟩
        · intro ev W hf _ _ hst hd
          have e4 : ev (.tmp 4) = .pointer (some ⟨s, 0, none⟩) := hf 4 (by kernel_rfl)
          have kk := VRow.ext HSq.out hst
          have c0 := VRow.cell kk (k := 0) rfl
          have c1 := VRow.cell kk (k := 1) rfl
          have c2 := VRow.cell kk (k := 2) rfl
          have c3 := VRow.cell kk (k := 3) rfl
          refine st_value (v := .agg #[.slice aa p.A.length ca, .slice ab p.B.length cb, .slice ac p.C.length cc, .slice au p.U.length cu]) ?_ (Below.refl _ _) ?_
          · simp [execOp, go_sem, e4, c0, c1, c2, c3]
          · exact rfl
        · intro ev W hf _ _ hst hd
          have e2 : ev (.tmp 2) = .bool f := hf 2 (by kernel_rfl)
          refine st_value (v := .bool f) ?_ (Below.refl _ _) ?_
          · simp [execOp, go_sem, e2]
          · exact rfl
        · intro ev W hf _ _ hst hd
          have e3 : ev (.tmp 3) = .int .i64 cost := hf 3 (by kernel_rfl)
          refine st_value (v := .int .i64 cost) ?_ (Below.refl _ _) ?_
          · simp [execOp, go_sem, e3]
          · exact rfl
        · intro ev W hf _ hfn hst hd
          obtain ⟨d17, d18, d19, _⟩ := hd
          have e17 : ev (.tmp 17) = .agg #[.slice aa p.A.length ca, .slice ab p.B.length cb, .slice ac p.C.length cc, .slice au p.U.length cu] := d17
          have e18 : ev (.tmp 18) = .bool f := d18
          have e19 : ev (.tmp 19) = .int .i64 cost := d19
          refine st_enter (f := 26) (args := #[.agg #[.slice aa p.A.length ca, .slice ab p.B.length cb, .slice ac p.C.length cc, .slice au p.U.length cu], .bool f, .int .i64 cost]) (by simp [execOp, go_sem, hfn, e17, e18, e19]) ?_
          refine (measuresOf_c _ _ _ _ p f cost W (HWq.out.ext hst) H5.out).mono ?_
          rintro e w' ⟨g, rfl, hg, hE⟩
          exact ⟨_, rfl, hE, g, rfl, hg⟩
        · intro ev W hf _ _ hst hd
          have e4 : ev (.tmp 4) = .pointer (some ⟨s, 0, none⟩) := hf 4 (by kernel_rfl)
          have kk := VRow.ext HSq.out hst
          have c0 := VRow.cell kk (k := 0) rfl
          have c1 := VRow.cell kk (k := 1) rfl
          have c2 := VRow.cell kk (k := 2) rfl
          have c3 := VRow.cell kk (k := 3) rfl
          refine st_value (v := .agg #[.slice aa p.A.length ca, .slice ab p.B.length cb, .slice ac p.C.length cc, .slice au p.U.length cu]) ?_ (Below.refl _ _) ?_
          · simp [execOp, go_sem, e4, c0, c1, c2, c3]
          · exact rfl
        · intro ev W hf _ hfn hst hd
          obtain ⟨d21, _⟩ := hd
          have e21 : ev (.tmp 21) = .agg #[.slice aa p.A.length ca, .slice ab p.B.length cb, .slice ac p.C.length cc, .slice au p.U.length cu] := d21
          refine st_enter (f := 27) (args := #[.agg #[.slice aa p.A.length ca, .slice ab p.B.length cb, .slice ac p.C.length cc, .slice au p.U.length cu]]) (by simp [execOp, go_sem, hfn, e21]) ?_
          refine (boxOf_c _ _ _ _ p k0 k1 k2 k3 k4 W (HWq.out.ext hst) HU5.out HK.out).mono ?_
          rintro e w' ⟨rfl, hE⟩
          exact ⟨_, rfl, hE, rfl⟩
        · intro ev W hf _ hfn hst hd
          obtain ⟨d22, _⟩ := hd
          have e22 : ev (.tmp 22) = .agg #[.int .i64 0, .int .i64 0, .int .i64 0, .int .i64 0, .int .i64 0, .int .i64 k0, .int .i64 k1, .int .i64 k2, .int .i64 k3, .int .i64 k4] := d22
          refine st_new (v := .slice (some ⟨W.heap.size, 0, none⟩) 1 1) (o := .cells (box10 0 0 0 0 0 k0 k1 k2 k3 k4).toArray 58) ?_ ?_
          · simp [execOp, go_sem, e22]
          · exact ⟨_, rfl, vrow_alloc W (box10 0 0 0 0 0 k0 k1 k2 k3 k4) 58⟩
        · intro ev W hf _ hfn hst hd
          obtain ⟨d20, d23, _⟩ := hd
          obtain ⟨g, e20, hg⟩ := d20
          obtain ⟨ob, e23, hob⟩ := d23
          have e20 : ev (.tmp 20) = _ := e20
          have e23 : ev (.tmp 23) = _ := e23
          refine st_value (v := .agg #[.slice aa p.A.length ca, .slice ab p.B.length cb, .slice ac p.C.length cc, .slice au p.U.length cu, g, .slice (some ⟨ob, 0, none⟩) 1 1]) ?_ (Below.refl _ _) ?_
          · simp [execOp, go_sem, e20, e23]
          · exact ⟨g, ob, rfl, hg, hob⟩
        · intro ev W hf _ hfn hst hd
          have hsN : s ≤ W.heap.size := Nat.le_trans HSZ.out hst.size
          refine st_new (v := .pointer (some ⟨W.heap.size, 0, none⟩)) (o := .cells #[.slice none 0 0, .slice none 0 0, .slice none 0 0, .slice none 0 0, .slice none 0 0, .slice none 0 0] 62) ?_ ?_
          · simp [execOp, go_sem]
          · exact ⟨_, rfl, vrow_alloc W [.slice none 0 0, .slice none 0 0, .slice none 0 0, .slice none 0 0, .slice none 0 0, .slice none 0 0] 62, hsN⟩
      case rest =>
        intro vs w3 hl hst hg
        obtain ⟨g, ob, e7, hgg, hob⟩ : ∃ g ob, vs[7]? = some (.agg #[.slice aa p.A.length ca, .slice ab p.B.length cb, .slice ac p.C.length cc, .slice au p.U.length cu, g, .slice (some ⟨ob, 0, none⟩) 1 1]) ∧ GoalsAt w3 g (goalsOf p f cost) ∧ VRow w3 ob 58 (box10 0 0 0 0 0 k0 k1 k2 k3 k4) := by
          have hu : vs[7]? = some (vs[7]'(by rw [hl]; decide)) := List.getElem?_eq_getElem _
          obtain ⟨g, ob, he, h1, h2⟩ := hg 7 _ hu
          exact ⟨g, ob, by rw [hu, he], h1, h2⟩
        obtain ⟨r, e8, hr, hrN⟩ : ∃ r, vs[8]? = some (.pointer (some ⟨r, 0, none⟩)) ∧ VRow w3 r 62 [.slice none 0 0, .slice none 0 0, .slice none 0 0, .slice none 0 0, .slice none 0 0, .slice none 0 0] ∧ s ≤ r := by
          have hu : vs[8]? = some (vs[8]'(by rw [hl]; decide)) := List.getElem?_eq_getElem _
          obtain ⟨r, he, h1, h2⟩ := hg 8 _ hu
          exact ⟨r, by rw [hu, he], h1, h2⟩
        have HE3 := Lib.hid hst
        clear hst
        obtain ⟨x0, vs0, rfl, hl0⟩ := len_succ hl
        obtain ⟨x1, vs1, rfl, hl1⟩ := len_succ hl0
        obtain ⟨x2, vs2, rfl, hl2⟩ := len_succ hl1
        obtain ⟨x3, vs3, rfl, hl3⟩ := len_succ hl2
        obtain ⟨x4, vs4, rfl, hl4⟩ := len_succ hl3
        obtain ⟨x5, vs5, rfl, hl5⟩ := len_succ hl4
        obtain ⟨x6, vs6, rfl, hl6⟩ := len_succ hl5
        obtain ⟨x7, vs7, rfl, hl7⟩ := len_succ hl6
        obtain ⟨x8, vs8, rfl, hl8⟩ := len_succ hl7
        have hnil : vs8 = [] := List.length_eq_zero_iff.1 hl8
        subst hnil
        simp only [List.getElem?_cons_succ, List.getElem?_cons_zero, Option.some.injEq] at e7 e8
        subst e7 e8
        simp only [putAll, Act.put, List.dropLast, List.setIfInBounds_toArray, List.set_cons_zero, List.set_cons_succ]
        have hgc := hgg
        obtain ⟨gb, gc, rfl, hgl, hgc2, _⟩ := hgc
        have c0 := VRow.cell hr (k := 0) rfl
        have f0 := VRow.frozen hr 0 none
        have c1 := VRow.cell hr (k := 1) rfl
        have f1 := VRow.frozen hr 1 none
        have c2 := VRow.cell hr (k := 2) rfl
        have f2 := VRow.frozen hr 2 none
        have c3 := VRow.cell hr (k := 3) rfl
        have f3 := VRow.frozen hr 3 none
        have c4 := VRow.cell hr (k := 4) rfl
        have f4 := VRow.frozen hr 4 none
        have c5 := VRow.cell hr (k := 5) rfl
        have f5 := VRow.frozen hr 5 none
        have hExt3 : Ext w w3 := HEE.out.trans HE3.out
        have hnI : noInt w3 r := noInt_of hr (by intro z hz x; simp only [List.mem_cons, List.not_mem_nil, or_false, or_self] at hz; subst hz; simp)
        have hobr : ob ≠ r := fun e => by
          subst e
          unfold VRow at hob hr
          rw [hob] at hr
          simp at hr
        have s0 := VRow.set hr 0 (.slice aa p.A.length ca)
        simp only [List.set_cons_zero] at s0
        have b0 := Below.setCell (p := ⟨r, 0, none⟩) hExt3 (show w.heap.size ≤ r by rw [hss]; exact hrN) (.slice aa p.A.length ca)
        have o0 : Off r w3 (w3.setCell ⟨r, 0, none⟩ (.slice aa p.A.length ca)) := held_set w3 r 0 _ (fun j hj => hj.2)
        have s1 := VRow.set s0 1 (.slice ab p.B.length cb)
        simp only [List.set_cons_zero, List.set_cons_succ] at s1
        have b1 := Below.setCell (p := ⟨r, 1, none⟩) b0 (show w.heap.size ≤ r by rw [hss]; exact hrN) (.slice ab p.B.length cb)
        have o1 : Off r w3 ((w3.setCell ⟨r, 0, none⟩ (.slice aa p.A.length ca)).setCell ⟨r, 1, none⟩ (.slice ab p.B.length cb)) := o0.trans (held_set _ r 1 _ (fun j hj => hj.2))
        have s2 := VRow.set s1 2 (.slice ac p.C.length cc)
        simp only [List.set_cons_zero, List.set_cons_succ] at s2
        have b2 := Below.setCell (p := ⟨r, 2, none⟩) b1 (show w.heap.size ≤ r by rw [hss]; exact hrN) (.slice ac p.C.length cc)
        have o2 : Off r w3 (((w3.setCell ⟨r, 0, none⟩ (.slice aa p.A.length ca)).setCell ⟨r, 1, none⟩ (.slice ab p.B.length cb)).setCell ⟨r, 2, none⟩ (.slice ac p.C.length cc)) := o1.trans (held_set _ r 2 _ (fun j hj => hj.2))
        have s3 := VRow.set s2 3 (.slice au p.U.length cu)
        simp only [List.set_cons_zero, List.set_cons_succ] at s3
        have b3 := Below.setCell (p := ⟨r, 3, none⟩) b2 (show w.heap.size ≤ r by rw [hss]; exact hrN) (.slice au p.U.length cu)
        have o3 : Off r w3 ((((w3.setCell ⟨r, 0, none⟩ (.slice aa p.A.length ca)).setCell ⟨r, 1, none⟩ (.slice ab p.B.length cb)).setCell ⟨r, 2, none⟩ (.slice ac p.C.length cc)).setCell ⟨r, 3, none⟩ (.slice au p.U.length cu)) := o2.trans (held_set _ r 3 _ (fun j hj => hj.2))
        have s4 := VRow.set s3 4 (.slice (some ⟨gb, 0, none⟩) (goalsOf p f cost).length gc)
        simp only [List.set_cons_zero, List.set_cons_succ] at s4
        have b4 := Below.setCell (p := ⟨r, 4, none⟩) b3 (show w.heap.size ≤ r by rw [hss]; exact hrN) (.slice (some ⟨gb, 0, none⟩) (goalsOf p f cost).length gc)
        have o4 : Off r w3 (((((w3.setCell ⟨r, 0, none⟩ (.slice aa p.A.length ca)).setCell ⟨r, 1, none⟩ (.slice ab p.B.length cb)).setCell ⟨r, 2, none⟩ (.slice ac p.C.length cc)).setCell ⟨r, 3, none⟩ (.slice au p.U.length cu)).setCell ⟨r, 4, none⟩ (.slice (some ⟨gb, 0, none⟩) (goalsOf p f cost).length gc)) := o3.trans (held_set _ r 4 _ (fun j hj => hj.2))
        have s5 := VRow.set s4 5 (.slice (some ⟨ob, 0, none⟩) 1 1)
        simp only [List.set_cons_zero, List.set_cons_succ] at s5
        have b5 := Below.setCell (p := ⟨r, 5, none⟩) b4 (show w.heap.size ≤ r by rw [hss]; exact hrN) (.slice (some ⟨ob, 0, none⟩) 1 1)
        have o5 : Off r w3 ((((((w3.setCell ⟨r, 0, none⟩ (.slice aa p.A.length ca)).setCell ⟨r, 1, none⟩ (.slice ab p.B.length cb)).setCell ⟨r, 2, none⟩ (.slice ac p.C.length cc)).setCell ⟨r, 3, none⟩ (.slice au p.U.length cu)).setCell ⟨r, 4, none⟩ (.slice (some ⟨gb, 0, none⟩) (goalsOf p f cost).length gc)).setCell ⟨r, 5, none⟩ (.slice (some ⟨ob, 0, none⟩) 1 1)) := o4.trans (held_set _ r 5 _ (fun j hj => hj.2))
        have hgo := hgg.off o5 hnI
        have hobo : VRow ((((((w3.setCell ⟨r, 0, none⟩ (.slice aa p.A.length ca)).setCell ⟨r, 1, none⟩ (.slice ab p.B.length cb)).setCell ⟨r, 2, none⟩ (.slice ac p.C.length cc)).setCell ⟨r, 3, none⟩ (.slice au p.U.length cu)).setCell ⟨r, 4, none⟩ (.slice (some ⟨gb, 0, none⟩) (goalsOf p f cost).length gc)).setCell ⟨r, 5, none⟩ (.slice (some ⟨ob, 0, none⟩) 1 1)) ob 58 (box10 0 0 0 0 0 k0 k1 k2 k3 k4) := hob.of_block (o5.block ob ⟨hob.lt, hobr⟩)
        have HRUN := Lib.hid (HACC.out hn Hv.out r ob _ _ k0 k1 k2 k3 k4 HK.out b5 hgo s5 hobo hrN)
        clear s0 s1 s2 s3 s4 s5 b0 b1 b2 b3 b4 b5 o0 o1 o2 o3 o4 o5 hgo hobo hnI hobr hExt3 hgg
        unfold Oper.wp
        go_simp
        clear c0 c1 c2 c3 c4 c5 f0 f1 f2 f3 f4 f5
        generalize ((((((w3.setCell ⟨r, 0, none⟩ (.slice aa p.A.length ca)).setCell ⟨r, 1, none⟩ (.slice ab p.B.length cb)).setCell ⟨r, 2, none⟩ (.slice ac p.C.length cc)).setCell ⟨r, 3, none⟩ (.slice au p.U.length cu)).setCell ⟨r, 4, none⟩ (.slice (some ⟨gb, 0, none⟩) (goalsOf p f cost).length gc)).setCell ⟨r, 5, none⟩ (.slice (some ⟨ob, 0, none⟩) 1 1)) = w4 at *
        go_wp2_with fail
        refine HRUN.out.mono ?_
        rintro e w5 ⟨rfl, hE5⟩
        have HE5 := Lib.hid hE5
        clear hE5
        go_wp2
        go_ret2
        exact ⟨by rw [Hv.out]; simp [chkV, hn], HE5.out⟩
    · have hn' : (65535 : Int) < n := by omega
      go_wp2
      go_ret2
      exact ⟨by rw [Hv.out]; simp [chkV, hn], HE.out.trans HE1.out⟩
end Go.Proofs.Ytblaipkhmmaenaa
