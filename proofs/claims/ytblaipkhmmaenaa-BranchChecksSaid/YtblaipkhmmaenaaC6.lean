import Derived.Test.YtblaipkhmmaenaaC5
import Derived.Test.YtblaipkhmmaenaaL3
namespace Go.Proofs.Ytblaipkhmmaenaa
open Go.RowKit
/-- Only block R may have changed. -/
abbrev Off (R : Nat) (w w' : World) : Prop := Held (fun k => k < w.heap.size ∧ k ≠ R) w w'
def noInt (w : World) (R : Nat) : Prop := ∀ o x, w.cell? ⟨R, o, none⟩ ≠ some (.int .i64 x)
theorem cell_off {w w' : World} {R b o : Nat} {v : Value} (h : Off R w w') (hc : w.cell? ⟨b, o, none⟩ = some v) (hb : b ≠ R) : w'.cell? ⟨b, o, none⟩ = some v := by
  have hlt : b < w.heap.size := by
    by_cases hlt : b < w.heap.size
    · exact hlt
    · simp [World.cell?, Array.getElem?_eq_none (Nat.le_of_not_lt hlt)] at hc
  have e := h.block b ⟨hlt, hb⟩
  simp only [World.cell?] at hc ⊢
  rw [e]
  exact hc
theorem cell_offI {w w' : World} {R b o : Nat} {x : Int} (h : Off R w w') (hn : noInt w R) (hc : w.cell? ⟨b, o, none⟩ = some (.int .i64 x)) : w'.cell? ⟨b, o, none⟩ = some (.int .i64 x) :=
  cell_off h hc (fun e => by subst e; exact hn o x hc)
theorem Ints.off {w w' : World} {R : Nat} {v : Value} {xs : List Int} (hi : Ints w v xs) (h : Off R w w') (hn : noInt w R) : Ints w' v xs := by
  obtain ⟨a, cap, hv, hl, hm, hr⟩ := hi
  refine ⟨a, cap, hv, hl, hm, ?_⟩
  rcases hr with hr | ⟨b, o, ha, hk⟩
  · exact .inl hr
  · refine .inr ⟨b, o, ha, fun k x hx => ?_⟩
    have hx2 := hx
    simp only [List.getElem?_map, Option.map_eq_some_iff] at hx2
    obtain ⟨z, _, rfl⟩ := hx2
    exact cell_offI h hn (hk k _ hx)
theorem GoalsAt.off {w w' : World} {R : Nat} {g : Value} {gs : List (List Int × Int)} (hg : GoalsAt w g gs) (h : Off R w w') (hn : noInt w R) : GoalsAt w' g gs := by
  obtain ⟨blk, cap, hv, hl, hc, hk⟩ := hg
  refine ⟨blk, cap, hv, hl, hc, fun k x hx => ?_⟩
  obtain ⟨cv, h1, h2, h3⟩ := hk k x hx
  have hb : blk ≠ R := fun e => by subst e; exact hn _ _ h2
  exact ⟨cv, cell_off h h1 hb, cell_off h h2 hb, h3.off h hn⟩
theorem noInt_of {w : World} {R : Nat} {t : TypeId} {vs : List Value} (h : VRow w R t vs) (hv : ∀ v ∈ vs, ∀ x, v ≠ .int .i64 x) : noInt w R := by
  intro o x hc
  unfold VRow at h
  simp only [World.cell?, h] at hc
  have hm : Value.int .i64 x ∈ vs := by
    have : vs[o]? = some (.int .i64 x) := by simpa using hc
    exact List.mem_of_getElem? this
  exact hv _ hm x rfl
abbrev box10 (l0 l1 l2 l3 l4 h0 h1 h2 h3 h4 : Int) : List Value := [.int .i64 l0, .int .i64 l1, .int .i64 l2, .int .i64 l3, .int .i64 l4, .int .i64 h0, .int .i64 h1, .int .i64 h2, .int .i64 h3, .int .i64 h4]
set_option maxRecDepth 100000 in
set_option maxHeartbeats 4000000 in
theorem refusesLeaf_c (R ob n cap : Nat) (a b c u g v : Value) (nv na d l0 l1 l2 l3 l4 h0 h1 h2 h3 h4 : Int) (p : Who) (y : List Int) (gs : List (List Int × Int)) (w0 w : World) (h : WhoAt w0 a b c u p) (hv : whoB p = true) (hg : GoalsAt w g gs) (hy : Ints w0 v y)
    (hE : Ext w0 w) (hR0 : w0.heap.size ≤ R) (hR : VRow w R 62 [a, b, c, u, g, .slice (some ⟨ob, 0, none⟩) (n + 1) cap]) (hcap : n + 1 ≤ cap) (hcap2 : cap ≤ 9223372036854775807)
    (hbx : ∀ j x, (box10 l0 l1 l2 l3 l4 h0 h1 h2 h3 h4)[j]? = some x → w.cell? ⟨ob, n * 10 + j, none⟩ = some x) (hnv : nv < 0)
    (hlb : ∀ x ∈ [l0, l1, l2, l3, l4], 0 ≤ x ∧ x ≤ 7) (hhb : ∀ x ∈ [h0, h1, h2, h3, h4], 0 ≤ x ∧ x ≤ 7) (hgs : ∀ x ∈ gs, x.1.length = p.C.length ∧ ∀ z ∈ x.1, -1000 ≤ z ∧ z ≤ 1000) :
    Calls Try.prog 37 #[.pointer (some ⟨R, 0, none⟩), .agg #[.int .i64 nv, .int .i64 na, v, .int .i64 d]] w fun e w' => e = .returned (.bool (!goodB p y d [l0, l1, l2, l3, l4] [h0, h1, h2, h3, h4] gs)) ∧
      VRow w' R 62 [a, b, c, u, g, .slice (some ⟨ob, 0, none⟩) n cap] ∧ Held (fun k => k < w.heap.size ∧ k ≠ R) w w' := by
  have hY := hy
  have hG := hg
  obtain ⟨aa, ca, rfl, hac, ham, _⟩ := h.1.1.at
  obtain ⟨ab, cb, rfl, hbc, hbm, _⟩ := h.1.2.1.at
  obtain ⟨ac, cc, rfl, hcc, hcm, _⟩ := h.1.2.2.at
  obtain ⟨au, cu, rfl, huc, hum, _⟩ := h.2.at
  obtain ⟨gb, gc, rfl, hgl, hgc, _⟩ := hg
  obtain ⟨ay, cy, rfl, hyc, hym, _⟩ := hy.at
  dsimp only at *
  have hRlt := hR.lt
  have hi : (n : Int) < ((n + 1 : Nat) : Int) := by omega
  have hne : ((n : Int) + 1 == 0) = false := by simp; omega
  have p5 := VRow.cell (VRow.alloc hR (.cells #[.int .i64 nv, .int .i64 na, .slice ay y.length cy, .int .i64 d] 40)) (k := 5) rfl
  have r5 := VRow.cell (VRow.alloc (VRow.alloc hR (.cells #[.int .i64 nv, .int .i64 na, .slice ay y.length cy, .int .i64 d] 40)) (.cells #[.int .i64 l0, .int .i64 l1, .int .i64 l2, .int .i64 l3, .int .i64 l4, .int .i64 h0, .int .i64 h1, .int .i64 h2, .int .i64 h3, .int .i64 h4] 58)) (k := 5) rfl
  have f5 := VRow.frozen (VRow.alloc (VRow.alloc hR (.cells #[.int .i64 nv, .int .i64 na, .slice ay y.length cy, .int .i64 d] 40)) (.cells #[.int .i64 l0, .int .i64 l1, .int .i64 l2, .int .i64 l3, .int .i64 l4, .int .i64 h0, .int .i64 h1, .int .i64 h2, .int .i64 h3, .int .i64 h4] 58)) 5 none
  have x0 := Ext.cell (Ext.alloc (Ext.refl w) (.cells #[.int .i64 nv, .int .i64 na, .slice ay y.length cy, .int .i64 d] 40)) (hbx 0 _ rfl)
  have x1 := Ext.cell (Ext.alloc (Ext.refl w) (.cells #[.int .i64 nv, .int .i64 na, .slice ay y.length cy, .int .i64 d] 40)) (hbx 1 _ rfl)
  have x2 := Ext.cell (Ext.alloc (Ext.refl w) (.cells #[.int .i64 nv, .int .i64 na, .slice ay y.length cy, .int .i64 d] 40)) (hbx 2 _ rfl)
  have x3 := Ext.cell (Ext.alloc (Ext.refl w) (.cells #[.int .i64 nv, .int .i64 na, .slice ay y.length cy, .int .i64 d] 40)) (hbx 3 _ rfl)
  have x4 := Ext.cell (Ext.alloc (Ext.refl w) (.cells #[.int .i64 nv, .int .i64 na, .slice ay y.length cy, .int .i64 d] 40)) (hbx 4 _ rfl)
  have x5 := Ext.cell (Ext.alloc (Ext.refl w) (.cells #[.int .i64 nv, .int .i64 na, .slice ay y.length cy, .int .i64 d] 40)) (hbx 5 _ rfl)
  have x6 := Ext.cell (Ext.alloc (Ext.refl w) (.cells #[.int .i64 nv, .int .i64 na, .slice ay y.length cy, .int .i64 d] 40)) (hbx 6 _ rfl)
  have x7 := Ext.cell (Ext.alloc (Ext.refl w) (.cells #[.int .i64 nv, .int .i64 na, .slice ay y.length cy, .int .i64 d] 40)) (hbx 7 _ rfl)
  have x8 := Ext.cell (Ext.alloc (Ext.refl w) (.cells #[.int .i64 nv, .int .i64 na, .slice ay y.length cy, .int .i64 d] 40)) (hbx 8 _ rfl)
  have x9 := Ext.cell (Ext.alloc (Ext.refl w) (.cells #[.int .i64 nv, .int .i64 na, .slice ay y.length cy, .int .i64 d] 40)) (hbx 9 _ rfl)
  rw [Nat.add_zero] at x0
  have hset := VRow.set hR 5 (.slice (some ⟨ob, 0, none⟩) n cap)
  simp only [List.set_cons_zero, List.set_cons_succ] at hset
  have hRq := VRow.alloc (VRow.alloc hset (.cells #[.int .i64 nv, .int .i64 na, .slice ay y.length cy, .int .i64 d] 40)) (.cells #[.int .i64 l0, .int .i64 l1, .int .i64 l2, .int .i64 l3, .int .i64 l4, .int .i64 h0, .int .i64 h1, .int .i64 h2, .int .i64 h3, .int .i64 h4] 58)
  have hNq := VRow.alloc (vrow_alloc (w.setCell ⟨R, 5, none⟩ (.slice (some ⟨ob, 0, none⟩) n cap)) [.int .i64 nv, .int .i64 na, .slice ay y.length cy, .int .i64 d] 40) (.cells #[.int .i64 l0, .int .i64 l1, .int .i64 l2, .int .i64 l3, .int .i64 l4, .int .i64 h0, .int .i64 h1, .int .i64 h2, .int .i64 h3, .int .i64 h4] 58)
  have hBq := vrow_alloc ((w.setCell ⟨R, 5, none⟩ (.slice (some ⟨ob, 0, none⟩) n cap)).alloc (.cells #[.int .i64 nv, .int .i64 na, .slice ay y.length cy, .int .i64 d] 40)) [.int .i64 l0, .int .i64 l1, .int .i64 l2, .int .i64 l3, .int .i64 l4, .int .i64 h0, .int .i64 h1, .int .i64 h2, .int .i64 h3, .int .i64 h4] 58
  simp only [World.size_alloc, World.size_setCell] at hNq hBq
  have hEq : Ext w0 (((w.setCell ⟨R, 5, none⟩ (.slice (some ⟨ob, 0, none⟩) n cap)).alloc (.cells #[.int .i64 nv, .int .i64 na, .slice ay y.length cy, .int .i64 d] 40)).alloc (.cells #[.int .i64 l0, .int .i64 l1, .int .i64 l2, .int .i64 l3, .int .i64 l4, .int .i64 h0, .int .i64 h1, .int .i64 h2, .int .i64 h3, .int .i64 h4] 58)) := ((Below.setCell (p := ⟨R, 5, none⟩) hE hR0 _).alloc (by simp only [World.size_setCell]; exact hE.size) _).alloc (by simp only [World.size_alloc, World.size_setCell]; have := hE.size; omega) _
  have hHq : Held (fun k => k < w.heap.size ∧ k ≠ R) w (((w.setCell ⟨R, 5, none⟩ (.slice (some ⟨ob, 0, none⟩) n cap)).alloc (.cells #[.int .i64 nv, .int .i64 na, .slice ay y.length cy, .int .i64 d] 40)).alloc (.cells #[.int .i64 l0, .int .i64 l1, .int .i64 l2, .int .i64 l3, .int .i64 l4, .int .i64 h0, .int .i64 h1, .int .i64 h2, .int .i64 h3, .int .i64 h4] 58)) :=
    ((held_set w R 5 _ (fun j hj => hj.2)).trans ((Held.of_below ((Below.refl _ _).alloc (Nat.le_refl _) _)).mono (fun j hj => by simp only [World.size_setCell]; exact hj.1))).trans ((Held.of_below ((Below.refl _ _).alloc (Nat.le_refl _) _)).mono (fun j hj => by simp only [World.size_alloc, World.size_setCell]; have := hj.1; omega))
  have HRq := Lib.hid hRq
  have HNq := Lib.hid hNq
  have HBq := Lib.hid hBq
  have HHq := Lib.hid hHq
  have HWq := Lib.hid (h.ext hEq)
  have HYq := Lib.hid (hY.ext hEq)
  have hnI : noInt w R := noInt_of hR (by intro z hz x; simp only [List.mem_cons, List.not_mem_nil, or_false] at hz; rcases hz with rfl | rfl | rfl | rfl | rfl | rfl <;> simp)
  have HGq := Lib.hid (((hG.off (held_set w R 5 (.slice (some ⟨ob, 0, none⟩) n cap) (fun j hj => hj.2)) hnI).ext (Ext.alloc (Ext.refl _) (.cells #[.int .i64 nv, .int .i64 na, .slice ay y.length cy, .int .i64 d] 40))).ext (Ext.alloc (Ext.refl _) (.cells #[.int .i64 l0, .int .i64 l1, .int .i64 l2, .int .i64 l3, .int .i64 l4, .int .i64 h0, .int .i64 h1, .int .i64 h2, .int .i64 h3, .int .i64 h4] 58)))
  clear hnI
  have Hv := Lib.hid hv
  have Hlb := Lib.hid hlb
  have Hhb := Lib.hid hhb
  have Hgs := Lib.hid hgs
  clear h hY hG hv hlb hhb hgs hset hRq hNq hBq hEq hHq hy hE hbx hR
  change Hid (VRow (((w.setCell ⟨R, 5, none⟩ (.slice (some ⟨ob, 0, none⟩) n cap)).alloc (.cells #[.int .i64 nv, .int .i64 na, .slice ay y.length cy, .int .i64 d] 40)).alloc (.cells #[.int .i64 l0, .int .i64 l1, .int .i64 l2, .int .i64 l3, .int .i64 l4, .int .i64 h0, .int .i64 h1, .int .i64 h2, .int .i64 h3, .int .i64 h4] 58)) _ _ _) at HBq HNq HRq
  go_enter Try.func37, Try.ntmps37
  go_wp2
  generalize (((w.setCell ⟨R, 5, none⟩ (.slice (some ⟨ob, 0, none⟩) n cap)).alloc (.cells #[.int .i64 nv, .int .i64 na, .slice ay y.length cy, .int .i64 d] 40)).alloc (.cells #[.int .i64 l0, .int .i64 l1, .int .i64 l2, .int .i64 l3, .int .i64 l4, .int .i64 h0, .int .i64 h1, .int .i64 h2, .int .i64 h3, .int .i64 h4] 58)) = wq at *
  generalize hws : w.heap.size = s at *
  refine wp_region_stable [⟨[], none⟩, ⟨[(0, 40)], none⟩, ⟨[(1, 41)], none⟩, ⟨[(2, 42)], none⟩, ⟨[], none⟩, ⟨[], none⟩, ⟨[(3, 43), (4, 44), (5, 45)], none⟩, ⟨[(6, 46)], none⟩, ⟨[(7, 47)], none⟩] (fun x y => Below x.heap.size x y) (MPat [MP.eq (.pointer (some ⟨R, 0, none⟩)), MP.eq (.pointer (some ⟨R, 0, none⟩)), MP.eq (.pointer (some ⟨R, 0, none⟩)), MP.eq (.agg #[.slice aa p.A.length ca, .slice ab p.B.length cb, .slice ac p.C.length cc, .slice au p.U.length cu, .slice (some ⟨gb, 0, none⟩) gs.length gc]), MP.eq (.agg #[.int .i64 nv, .int .i64 na, .slice ay y.length cy, .int .i64 d]), MP.eq (.agg #[.int .i64 l0, .int .i64 l1, .int .i64 l2, .int .i64 l3, .int .i64 l4, .int .i64 h0, .int .i64 h1, .int .i64 h2, .int .i64 h3, .int .i64 h4]), MP.eq (.bool (goodB p y d [l0, l1, l2, l3, l4] [h0, h1, h2, h3, h4] gs)), MP.eq (.bool (!(goodB p y d [l0, l1, l2, l3, l4] [h0, h1, h2, h3, h4] gs))), MP.eq (.bool (!(goodB p y d [l0, l1, l2, l3, l4] [h0, h1, h2, h3, h4] gs)))]) (by kernel_rfl) (fun _ _ _ h k => Ext.trans h k) (fun _ => Below.refl _ _) (fun x => (Below.refl x.heap.size x).drew) (MPat.mono _) (by kernel_rfl) ?obs ?rest
  case obs =>
    refine ⟨?_, ?_, ?_, ?_, ?_, ?_, ?_, ?_, ?_, trivial⟩
    · intro ev W hf _ _ hst hd
      have e0 : ev (.tmp 0) = .pointer (some ⟨R, 0, none⟩) := hf 0 (by kernel_rfl)
      refine st_value (v := .pointer (some ⟨R, 0, none⟩)) ?_ (Below.refl _ _) ?_
      · simp [execOp, go_sem, e0]
      · exact rfl
    · intro ev W hf _ _ hst hd
      obtain ⟨d40, _⟩ := hd
      have e40 : ev (.tmp 40) = .pointer (some ⟨R, 0, none⟩) := d40
      refine st_value (v := .pointer (some ⟨R, 0, none⟩)) ?_ (Below.refl _ _) ?_
      · simp [execOp, go_sem, e40]
      · exact rfl
    · intro ev W hf _ _ hst hd
      obtain ⟨d41, _⟩ := hd
      have e41 : ev (.tmp 41) = .pointer (some ⟨R, 0, none⟩) := d41
      refine st_value (v := .pointer (some ⟨R, 0, none⟩)) ?_ (Below.refl _ _) ?_
      · simp [execOp, go_sem, e41]
      · exact rfl
    · intro ev W hf _ _ hst hd
      obtain ⟨d42, _⟩ := hd
      have e42 : ev (.tmp 42) = .pointer (some ⟨R, 0, none⟩) := d42
      have kk := VRow.ext HRq.out hst
      have k0 := VRow.cell kk (k := 0) rfl
      have k1 := VRow.cell kk (k := 1) rfl
      have k2 := VRow.cell kk (k := 2) rfl
      have k3 := VRow.cell kk (k := 3) rfl
      have k4 := VRow.cell kk (k := 4) rfl
      refine st_value (v := .agg #[.slice aa p.A.length ca, .slice ab p.B.length cb, .slice ac p.C.length cc, .slice au p.U.length cu, .slice (some ⟨gb, 0, none⟩) gs.length gc]) ?_ (Below.refl _ _) ?_
      · simp [execOp, go_sem, e42, k0, k1, k2, k3, k4]
      · exact rfl
    · intro ev W hf _ _ hst hd
      have e3 : ev (.tmp 3) = .pointer (some ⟨s, 0, none⟩) := hf 3 (by kernel_rfl)
      have kk := VRow.ext HNq.out hst
      have k0 := VRow.cell kk (k := 0) rfl
      have k1 := VRow.cell kk (k := 1) rfl
      have k2 := VRow.cell kk (k := 2) rfl
      have k3 := VRow.cell kk (k := 3) rfl
      refine st_value (v := .agg #[.int .i64 nv, .int .i64 na, .slice ay y.length cy, .int .i64 d]) ?_ (Below.refl _ _) ?_
      · simp [execOp, go_sem, e3, k0, k1, k2, k3]
      · exact rfl
    · intro ev W hf _ _ hst hd
      have e6 : ev (.tmp 6) = .pointer (some ⟨s + 1, 0, none⟩) := hf 6 (by kernel_rfl)
      have kk := VRow.ext HBq.out hst
      have k0 := VRow.cell kk (k := 0) rfl
      have k1 := VRow.cell kk (k := 1) rfl
      have k2 := VRow.cell kk (k := 2) rfl
      have k3 := VRow.cell kk (k := 3) rfl
      have k4 := VRow.cell kk (k := 4) rfl
      have k5 := VRow.cell kk (k := 5) rfl
      have k6 := VRow.cell kk (k := 6) rfl
      have k7 := VRow.cell kk (k := 7) rfl
      have k8 := VRow.cell kk (k := 8) rfl
      have k9 := VRow.cell kk (k := 9) rfl
      refine st_value (v := .agg #[.int .i64 l0, .int .i64 l1, .int .i64 l2, .int .i64 l3, .int .i64 l4, .int .i64 h0, .int .i64 h1, .int .i64 h2, .int .i64 h3, .int .i64 h4]) ?_ (Below.refl _ _) ?_
      · simp [execOp, go_sem, e6, k0, k1, k2, k3, k4, k5, k6, k7, k8, k9]
      · exact rfl
    · intro ev W hf _ hfn hst hd
      obtain ⟨d43, d44, d45, _⟩ := hd
      have e43 : ev (.tmp 43) = .agg #[.slice aa p.A.length ca, .slice ab p.B.length cb, .slice ac p.C.length cc, .slice au p.U.length cu, .slice (some ⟨gb, 0, none⟩) gs.length gc] := d43
      have e44 : ev (.tmp 44) = .agg #[.int .i64 nv, .int .i64 na, .slice ay y.length cy, .int .i64 d] := d44
      have e45 : ev (.tmp 45) = .agg #[.int .i64 l0, .int .i64 l1, .int .i64 l2, .int .i64 l3, .int .i64 l4, .int .i64 h0, .int .i64 h1, .int .i64 h2, .int .i64 h3, .int .i64 h4] := d45
      refine st_enter (f := 46) (args := #[.agg #[.slice aa p.A.length ca, .slice ab p.B.length cb, .slice ac p.C.length cc, .slice au p.U.length cu, .slice (some ⟨gb, 0, none⟩) gs.length gc], .agg #[.int .i64 nv, .int .i64 na, .slice ay y.length cy, .int .i64 d], .agg #[.int .i64 l0, .int .i64 l1, .int .i64 l2, .int .i64 l3, .int .i64 l4, .int .i64 h0, .int .i64 h1, .int .i64 h2, .int .i64 h3, .int .i64 h4]]) (by simp [execOp, go_sem, hfn, e43, e44, e45]) ?_
      refine (good_c _ _ _ _ _ _ nv na d l0 l1 l2 l3 l4 h0 h1 h2 h3 h4 p y gs W (HWq.out.ext hst) Hv.out (HGq.out.ext hst) (HYq.out.ext hst) Hlb.out Hhb.out Hgs.out).mono ?_
      rintro e w' ⟨rfl, hE⟩
      exact ⟨_, rfl, hE, rfl⟩
    · intro ev W hf _ _ hst hd
      obtain ⟨d46, _⟩ := hd
      have e46 : ev (.tmp 46) = .bool (goodB p y d [l0, l1, l2, l3, l4] [h0, h1, h2, h3, h4] gs) := d46
      refine st_value (v := .bool (!(goodB p y d [l0, l1, l2, l3, l4] [h0, h1, h2, h3, h4] gs))) ?_ (Below.refl _ _) ?_
      · simp [execOp, go_sem, e46]
      · exact rfl
    · intro ev W hf _ _ hst hd
      obtain ⟨d47, _⟩ := hd
      have e47 : ev (.tmp 47) = .bool (!(goodB p y d [l0, l1, l2, l3, l4] [h0, h1, h2, h3, h4] gs)) := d47
      refine st_value (v := .bool (!(goodB p y d [l0, l1, l2, l3, l4] [h0, h1, h2, h3, h4] gs))) ?_ (Below.refl _ _) ?_
      · simp [execOp, go_sem, e47]
      · exact rfl
  case rest =>
    intro vs w3 hl hst hg
    have hlast : ∀ u, vs[8]? = some u → u = .bool (!(goodB p y d [l0, l1, l2, l3, l4] [h0, h1, h2, h3, h4] gs)) := fun u hu => hg 8 u hu
    have HE3 := Lib.hid hst
    clear hg hst
    obtain ⟨x0, vs0, rfl, hl0⟩ := len_succ hl
    obtain ⟨x1, vs1, rfl, hl1⟩ := len_succ hl0
    obtain ⟨x2, vs2, rfl, hl2⟩ := len_succ hl1
    obtain ⟨x3, vs3, rfl, hl3⟩ := len_succ hl2
    obtain ⟨x4, vs4, rfl, hl4⟩ := len_succ hl3
    obtain ⟨x5, vs5, rfl, hl5⟩ := len_succ hl4
    obtain ⟨x6, vs6, rfl, hl6⟩ := len_succ hl5
    obtain ⟨x7, vs7, rfl, hl7⟩ := len_succ hl6
    obtain ⟨x8, vs8, rfl, hl8⟩ := len_succ hl7
    have hnil : vs8 = [] := List.length_eq_zero_iff.1 hl8
    subst hnil
    obtain rfl := hlast _ rfl
    clear hlast
    simp only [putAll, Act.put, List.setIfInBounds_toArray, List.set_cons_zero, List.set_cons_succ]
    go_wp2
    go_ret
    refine ⟨rfl, VRow.ext HRq.out HE3.out, ?_⟩
    rw [hws]
    refine HHq.out.trans ((Held.of_below HE3.out).mono (fun j hj => ?_))
    have := HBq.out.lt
    omega
end Go.Proofs.Ytblaipkhmmaenaa
