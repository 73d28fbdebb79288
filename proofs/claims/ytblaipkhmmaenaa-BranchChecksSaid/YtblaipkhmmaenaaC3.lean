import Derived.Test.YtblaipkhmmaenaaC2
import Derived.Test.YtblaipkhmmaenaaStab
namespace Go.Proofs.Ytblaipkhmmaenaa
open Go.RowKit
/-- ways to be good -/
def GoalsAt (w : World) (g : Value) (gs : List (List Int × Int)) : Prop :=
  ∃ blk cap, g = .slice (some ⟨blk, 0, none⟩) gs.length cap ∧ gs.length ≤ cap ∧ cap ≤ 9223372036854775807 ∧ ∀ k x, gs[k]? = some x → ∃ cv, w.cell? ⟨blk, k * 2, none⟩ = some cv ∧ w.cell? ⟨blk, k * 2 + 1, none⟩ = some (.int .i64 x.2) ∧ Ints w cv x.1
theorem GoalsAt.ext {w w' : World} {g : Value} {gs : List (List Int × Int)} (h : GoalsAt w g gs) (he : Ext w w') : GoalsAt w' g gs := by
  obtain ⟨blk, cap, hg, hl, hc, hk⟩ := h
  refine ⟨blk, cap, hg, hl, hc, fun k x hx => ?_⟩
  obtain ⟨cv, h1, h2, h3⟩ := hk k x hx
  exact ⟨cv, Ext.cell he h1, Ext.cell he h2, h3.ext he⟩
def reachB (p : Who) (y : List Int) (d : Int) (lo hi : List Int) (g : List Int × Int) : Bool := decide (g.2 ≤ roundZ (boundZ p y d lo hi g.1) d)
def goodB (p : Who) (y : List Int) (d : Int) (lo hi : List Int) (gs : List (List Int × Int)) : Bool := leafB p.A.length y d && gs.any (reachB p y d lo hi)
theorem any_take_succ {α : Type} {f : α → Bool} {xs : List α} {k : Nat} {x : α} (h : xs[k]? = some x) : (xs.take (k + 1)).any f = ((xs.take k).any f || f x) := by
  rw [List.take_add_one, h]
  simp
theorem any_at {α : Type} {f : α → Bool} {xs : List α} {k : Nat} {x : α} (h : xs[k]? = some x) (hf : f x = true) : xs.any f = true :=
  List.any_eq_true.2 ⟨x, List.mem_of_getElem? h, hf⟩
set_option maxRecDepth 100000 in
set_option maxHeartbeats 4000000 in
theorem good_c (a b c u g v : Value) (nv na d l0 l1 l2 l3 l4 h0 h1 h2 h3 h4 : Int) (p : Who) (y : List Int) (gs : List (List Int × Int)) (w : World) (h : WhoAt w a b c u p) (hv : whoB p = true) (hg : GoalsAt w g gs) (hy : Ints w v y)
    (hlb : ∀ x ∈ [l0, l1, l2, l3, l4], 0 ≤ x ∧ x ≤ 7) (hhb : ∀ x ∈ [h0, h1, h2, h3, h4], 0 ≤ x ∧ x ≤ 7) (hgs : ∀ x ∈ gs, x.1.length = p.C.length ∧ ∀ z ∈ x.1, -1000 ≤ z ∧ z ≤ 1000) :
    Calls Try.prog 46 #[.agg #[a, b, c, u, g], .agg #[.int .i64 nv, .int .i64 na, v, .int .i64 d], .agg #[.int .i64 l0, .int .i64 l1, .int .i64 l2, .int .i64 l3, .int .i64 l4, .int .i64 h0, .int .i64 h1, .int .i64 h2, .int .i64 h3, .int .i64 h4]] w fun e w' => e = .returned (.bool (goodB p y d [l0, l1, l2, l3, l4] [h0, h1, h2, h3, h4] gs)) ∧ Ext w w' := by
  have HE := Lib.hid (Ext.alloc (Ext.alloc (Ext.alloc (Ext.refl w) (.cells #[a, b, c, u, g] 54)) (.cells #[.int .i64 nv, .int .i64 na, v, .int .i64 d] 40)) (.cells #[.int .i64 l0, .int .i64 l1, .int .i64 l2, .int .i64 l3, .int .i64 l4, .int .i64 h0, .int .i64 h1, .int .i64 h2, .int .i64 h3, .int .i64 h4] 58))
  have hm0 := VRow.alloc (VRow.alloc (vrow_alloc w [a, b, c, u, g] 54) (.cells #[.int .i64 nv, .int .i64 na, v, .int .i64 d] 40)) (.cells #[.int .i64 l0, .int .i64 l1, .int .i64 l2, .int .i64 l3, .int .i64 l4, .int .i64 h0, .int .i64 h1, .int .i64 h2, .int .i64 h3, .int .i64 h4] 58)
  have hn0 := VRow.alloc (vrow_alloc (w.alloc (.cells #[a, b, c, u, g] 54)) [.int .i64 nv, .int .i64 na, v, .int .i64 d] 40) (.cells #[.int .i64 l0, .int .i64 l1, .int .i64 l2, .int .i64 l3, .int .i64 l4, .int .i64 h0, .int .i64 h1, .int .i64 h2, .int .i64 h3, .int .i64 h4] 58)
  have hb0 := vrow_alloc ((w.alloc (.cells #[a, b, c, u, g] 54)).alloc (.cells #[.int .i64 nv, .int .i64 na, v, .int .i64 d] 40)) [.int .i64 l0, .int .i64 l1, .int .i64 l2, .int .i64 l3, .int .i64 l4, .int .i64 h0, .int .i64 h1, .int .i64 h2, .int .i64 h3, .int .i64 h4] 58
  have hs1 : (w.alloc (.cells #[a, b, c, u, g] 54)).heap.size = w.heap.size + 1 := by simp
  have hs2 : ((w.alloc (.cells #[a, b, c, u, g] 54)).alloc (.cells #[.int .i64 nv, .int .i64 na, v, .int .i64 d] 40)).heap.size = w.heap.size + 1 + 1 := by simp
  rw [hs1] at hn0
  rw [hs2] at hb0
  change VRow (((w.alloc (.cells #[a, b, c, u, g] 54)).alloc (.cells #[.int .i64 nv, .int .i64 na, v, .int .i64 d] 40)).alloc (.cells #[.int .i64 l0, .int .i64 l1, .int .i64 l2, .int .i64 l3, .int .i64 l4, .int .i64 h0, .int .i64 h1, .int .i64 h2, .int .i64 h3, .int .i64 h4] 58)) _ _ _ at hm0 hn0 hb0
  have HVL := Lib.hid (validLeaf_c a b c u g v nv na d p y _ (h.ext HE.out) (hy.ext HE.out))
  have H := Lib.hid (h.ext HE.out)
  have Hy := Lib.hid (hy.ext HE.out)
  have Hg := Lib.hid (hg.ext HE.out)
  have Hv := Lib.hid hv
  have Hlb := Lib.hid hlb
  have Hhb := Lib.hid hhb
  have Hgs := Lib.hid hgs
  have HM := Lib.hid hm0
  have HN := Lib.hid hn0
  have HB := Lib.hid hb0
  clear h hy hg hv hlb hhb hgs hm0 hn0 hb0 hs1 hs2
  go_enter Try.func46, Try.ntmps46
  go_wp2_with fail
  generalize (((w.alloc (.cells #[a, b, c, u, g] 54)).alloc (.cells #[.int .i64 nv, .int .i64 na, v, .int .i64 d] 40)).alloc (.cells #[.int .i64 l0, .int .i64 l1, .int .i64 l2, .int .i64 l3, .int .i64 l4, .int .i64 h0, .int .i64 h1, .int .i64 h2, .int .i64 h3, .int .i64 h4] 58)) = w1 at *
  generalize w.heap.size = s at *
  refine HVL.out.mono ?_
  rintro e w2 ⟨rfl, hE2⟩
  have HE2 := Lib.hid (HE.out.trans hE2)
  have H2 := Lib.hid (H.out.ext hE2)
  have Hy2 := Lib.hid (Hy.out.ext hE2)
  have Hg2 := Lib.hid (Hg.out.ext hE2)
  have HM2 := Lib.hid (VRow.ext HM.out hE2)
  have HN2 := Lib.hid (VRow.ext HN.out hE2)
  have HB2 := Lib.hid (VRow.ext HB.out hE2)
  clear hE2 HE H Hy Hg HM HN HB HVL
  have hsw : s + 1 + 1 < w2.heap.size := HB2.out.lt
  cases hl : leafB p.A.length y d
  · have Hl := Lib.hid hl
    clear hl
    go_wp2
    go_ret
    refine ⟨ret_bool ?_, HE2.out⟩
    simp only [goodB, Hl.out, Bool.false_and]
  · have Hl := Lib.hid hl
    clear hl
    obtain ⟨blk, cap, rfl, hgl, hgc, hgk⟩ := Hg2.out
    have Hgk := Lib.hid hgk
    clear hgk
    have q4 := VRow.cell HM2.out (k := 4) rfl
    go_wp2
    clear q4
    go_loopw [16] (fun i wr => ∃ k : Nat, k ≤ gs.length ∧ i = .int .i64 k ∧ (gs.take k).any (reachB p y d [l0, l1, l2, l3, l4] [h0, h1, h2, h3, h4]) = false ∧ Ext w2 wr) (fun i _ => gs.length - (intOf i).toNat)
    case atStart => exact ⟨0, Nat.zero_le _, rfl, rfl, Ext.refl _⟩
    case round =>
      obtain ⟨k, hk, rfl, hany, hEr⟩ := hrel
      by_cases hlt : k < gs.length
      · obtain ⟨x, hx⟩ := getElem?_len hlt
        obtain ⟨cv, hc1, hc2, hc3⟩ := Hgk.out k x hx
        obtain ⟨ac, cc, rfl, _, _, _⟩ := hc3.at
        have q0 := Ext.cell hEr hc1
        have q1 := Ext.cell hEr hc2
        have Hany := Lib.hid hany
        have Hx := Lib.hid hx
        have HEr := Lib.hid hEr
        have Hcv := Lib.hid (hc3.ext hEr)
        clear hany hx hEr hc1 hc2 hc3
        have Hq := Lib.hid (Ext.alloc (Ext.refl wr) (.cells #[.slice ac x.1.length cc, .int .i64 x.2] 73))
        have HWq := Lib.hid ((H2.out.ext HEr.out).ext Hq.out)
        have HYq := Lib.hid ((Hy2.out.ext HEr.out).ext Hq.out)
        have HCq := Lib.hid (Hcv.out.ext Hq.out)
        have HMq := Lib.hid (VRow.ext (VRow.ext HM2.out HEr.out) Hq.out)
        have HNq := Lib.hid (VRow.ext (VRow.ext HN2.out HEr.out) Hq.out)
        have HBq := Lib.hid (VRow.ext (VRow.ext HB2.out HEr.out) Hq.out)
        have HGq := Lib.hid (vrow_alloc wr [.slice ac x.1.length cc, .int .i64 x.2] 73)
        change Hid (VRow (wr.alloc (.cells #[.slice ac x.1.length cc, .int .i64 x.2] 73)) _ _ _) at HGq
        have HX1 := Lib.hid (Hgs.out x (List.mem_of_getElem? Hx.out)).1
        have HX2 := Lib.hid (Hgs.out x (List.mem_of_getElem? Hx.out)).2
        have HD1 := Lib.hid (leafP Hl.out).2.1
        have HZ := Lib.hid (show -4611686018427387904 ≤ boundZ p y d [l0, l1, l2, l3, l4] [h0, h1, h2, h3, h4] x.1 ∧ boundZ p y d [l0, l1, l2, l3, l4] [h0, h1, h2, h3, h4] x.1 ≤ 4611686018427387904 by
          have := boundZ_bd Hv.out Hl.out (by rw [HX1.out]; exact Nat.le_refl _) HX2.out Hlb.out Hhb.out
          omega)
        go_wp2_with fail
        clear q0 q1
        have HEq := Lib.hid (HEr.out.trans Hq.out)
        generalize wr.alloc (.cells #[.slice ac x.1.length cc, .int .i64 x.2] 73) = wq at *
        generalize wr.heap.size = q at *
        refine wp_region_stable [⟨[], none⟩, ⟨[], none⟩, ⟨[], none⟩, ⟨[], none⟩, ⟨[(3, 23)], none⟩, ⟨[(0, 20), (1, 21), (2, 22), (4, 24)], none⟩, ⟨[], none⟩, ⟨[(6, 26)], none⟩, ⟨[(5, 25), (7, 27)], none⟩, ⟨[], none⟩, ⟨[(9, 29)], none⟩, ⟨[(8, 28), (10, 30)], none⟩] (fun x y => Below x.heap.size x y) (MPat [MP.eq (.agg #[a, b, c, u, .slice (some ⟨blk, 0, none⟩) gs.length cap]), MP.eq (.agg #[.int .i64 nv, .int .i64 na, v, .int .i64 d]), MP.eq (.agg #[.int .i64 l0, .int .i64 l1, .int .i64 l2, .int .i64 l3, .int .i64 l4, .int .i64 h0, .int .i64 h1, .int .i64 h2, .int .i64 h3, .int .i64 h4]), MP.eq (.pointer (some ⟨q, 0, none⟩)), MP.eq (.slice ac x.1.length cc), MP.eq (.int .i64 (boundZ p y d [l0, l1, l2, l3, l4] [h0, h1, h2, h3, h4] x.1)), MP.eq (.pointer (some ⟨s + 1, 3, none⟩)), MP.eq (.int .i64 d), MP.eq (.int .i64 (roundZ (boundZ p y d [l0, l1, l2, l3, l4] [h0, h1, h2, h3, h4] x.1) d)), MP.eq (.pointer (some ⟨q, 1, none⟩)), MP.eq (.int .i64 x.2), MP.eq (.bool (reachB p y d [l0, l1, l2, l3, l4] [h0, h1, h2, h3, h4] x))]) (by kernel_rfl) (fun _ _ _ h k => Ext.trans h k) (fun _ => Below.refl _ _) (fun x => (Below.refl x.heap.size x).drew) (MPat.mono _) (by kernel_rfl) ?obs ?rest
        case obs =>
          refine ⟨?_, ?_, ?_, ?_, ?_, ?_, ?_, ?_, ?_, ?_, ?_, ?_, trivial⟩
          · intro ev W hf _ _ hst hd
            have e3 : ev (.tmp 3) = .pointer (some ⟨s, 0, none⟩) := hf 3 (by kernel_rfl)
            have kk := VRow.ext HMq.out hst
            have k0 := VRow.cell kk (k := 0) rfl
            have k1 := VRow.cell kk (k := 1) rfl
            have k2 := VRow.cell kk (k := 2) rfl
            have k3 := VRow.cell kk (k := 3) rfl
            have k4 := VRow.cell kk (k := 4) rfl
            refine st_value (v := .agg #[a, b, c, u, .slice (some ⟨blk, 0, none⟩) gs.length cap]) ?_ (Below.refl _ _) ?_
            · simp [execOp, go_sem, e3, k0, k1, k2, k3, k4]
            · exact rfl
          · intro ev W hf _ _ hst hd
            have e4 : ev (.tmp 4) = .pointer (some ⟨s + 1, 0, none⟩) := hf 4 (by kernel_rfl)
            have kk := VRow.ext HNq.out hst
            have k0 := VRow.cell kk (k := 0) rfl
            have k1 := VRow.cell kk (k := 1) rfl
            have k2 := VRow.cell kk (k := 2) rfl
            have k3 := VRow.cell kk (k := 3) rfl
            refine st_value (v := .agg #[.int .i64 nv, .int .i64 na, v, .int .i64 d]) ?_ (Below.refl _ _) ?_
            · simp [execOp, go_sem, e4, k0, k1, k2, k3]
            · exact rfl
          · intro ev W hf _ _ hst hd
            have e5 : ev (.tmp 5) = .pointer (some ⟨s + 1 + 1, 0, none⟩) := hf 5 (by kernel_rfl)
            have kk := VRow.ext HBq.out hst
            have k0 := VRow.cell kk (k := 0) rfl
            have k1 := VRow.cell kk (k := 1) rfl
            have k2 := VRow.cell kk (k := 2) rfl
            have k3 := VRow.cell kk (k := 3) rfl
            have k4 := VRow.cell kk (k := 4) rfl
            have k5 := VRow.cell kk (k := 5) rfl
            have k6 := VRow.cell kk (k := 6) rfl
            have k7 := VRow.cell kk (k := 7) rfl
            have k8 := VRow.cell kk (k := 8) rfl
            have k9 := VRow.cell kk (k := 9) rfl
            refine st_value (v := .agg #[.int .i64 l0, .int .i64 l1, .int .i64 l2, .int .i64 l3, .int .i64 l4, .int .i64 h0, .int .i64 h1, .int .i64 h2, .int .i64 h3, .int .i64 h4]) ?_ (Below.refl _ _) ?_
            · simp [execOp, go_sem, e5, k0, k1, k2, k3, k4, k5, k6, k7, k8, k9]
            · exact rfl
          · intro ev W hf _ _ hst hd
            have e8 : ev (.tmp 8) = .pointer (some ⟨q, 0, none⟩) := hf 8 (by kernel_rfl)
            refine st_value (v := .pointer (some ⟨q, 0, none⟩)) ?_ (Below.refl _ _) ?_
            · simp [execOp, go_sem, e8]
            · exact rfl
          · intro ev W hf _ _ hst hd
            obtain ⟨d23, _⟩ := hd
            have e23 : ev (.tmp 23) = .pointer (some ⟨q, 0, none⟩) := d23
            have kk := VRow.ext HGq.out hst
            have k0 := VRow.cell kk (k := 0) rfl
            refine st_value (v := .slice ac x.1.length cc) ?_ (Below.refl _ _) ?_
            · simp [execOp, go_sem, e23, k0]
            · exact rfl
          · intro ev W hf _ hfn hst hd
            obtain ⟨d20, d21, d22, d24, _⟩ := hd
            have e20 : ev (.tmp 20) = .agg #[a, b, c, u, .slice (some ⟨blk, 0, none⟩) gs.length cap] := d20
            have e21 : ev (.tmp 21) = .agg #[.int .i64 nv, .int .i64 na, v, .int .i64 d] := d21
            have e22 : ev (.tmp 22) = .agg #[.int .i64 l0, .int .i64 l1, .int .i64 l2, .int .i64 l3, .int .i64 l4, .int .i64 h0, .int .i64 h1, .int .i64 h2, .int .i64 h3, .int .i64 h4] := d22
            have e24 : ev (.tmp 24) = .slice ac x.1.length cc := d24
            refine st_enter (f := 63) (args := #[.agg #[a, b, c, u, .slice (some ⟨blk, 0, none⟩) gs.length cap], .agg #[.int .i64 nv, .int .i64 na, v, .int .i64 d], .agg #[.int .i64 l0, .int .i64 l1, .int .i64 l2, .int .i64 l3, .int .i64 l4, .int .i64 h0, .int .i64 h1, .int .i64 h2, .int .i64 h3, .int .i64 h4], .slice ac x.1.length cc]) (by simp [execOp, go_sem, hfn, e20, e21, e22, e24]) ?_
            refine (bound_c a b c u _ v _ nv na d p y [l0, l1, l2, l3, l4] [h0, h1, h2, h3, h4] x.1 W (HWq.out.ext hst) Hv.out (HYq.out.ext hst) (HCq.out.ext hst) Hl.out rfl rfl Hlb.out Hhb.out HX1.out HX2.out).mono ?_
            rintro e w' ⟨rfl, hE⟩
            exact ⟨_, rfl, hE, rfl⟩
          · intro ev W hf _ _ hst hd
            have e4 : ev (.tmp 4) = .pointer (some ⟨s + 1, 0, none⟩) := hf 4 (by kernel_rfl)
            refine st_value (v := .pointer (some ⟨s + 1, 3, none⟩)) ?_ (Below.refl _ _) ?_
            · simp [execOp, go_sem, e4]
            · exact rfl
          · intro ev W hf _ _ hst hd
            obtain ⟨d26, _⟩ := hd
            have e26 : ev (.tmp 26) = .pointer (some ⟨s + 1, 3, none⟩) := d26
            have kk := VRow.ext HNq.out hst
            have k3 := VRow.cell kk (k := 3) rfl
            refine st_value (v := .int .i64 d) ?_ (Below.refl _ _) ?_
            · simp [execOp, go_sem, e26, k3]
            · exact rfl
          · intro ev W hf _ hfn hst hd
            obtain ⟨d25, d27, _⟩ := hd
            have e25 : ev (.tmp 25) = .int .i64 (boundZ p y d [l0, l1, l2, l3, l4] [h0, h1, h2, h3, h4] x.1) := d25
            have e27 : ev (.tmp 27) = .int .i64 d := d27
            refine st_enter (f := 62) (args := #[.int .i64 (boundZ p y d [l0, l1, l2, l3, l4] [h0, h1, h2, h3, h4] x.1), .int .i64 d]) (by simp [execOp, go_sem, hfn, e25, e27]) ?_
            refine (roundUp_c _ d W HD1.out HZ.out.1 HZ.out.2).mono ?_
            rintro e w' ⟨rfl, rfl⟩
            exact ⟨_, rfl, Below.refl _ _, rfl⟩
          · intro ev W hf _ _ hst hd
            have e8 : ev (.tmp 8) = .pointer (some ⟨q, 0, none⟩) := hf 8 (by kernel_rfl)
            refine st_value (v := .pointer (some ⟨q, 1, none⟩)) ?_ (Below.refl _ _) ?_
            · simp [execOp, go_sem, e8]
            · exact rfl
          · intro ev W hf _ _ hst hd
            obtain ⟨d29, _⟩ := hd
            have e29 : ev (.tmp 29) = .pointer (some ⟨q, 1, none⟩) := d29
            have kk := VRow.ext HGq.out hst
            have k1 := VRow.cell kk (k := 1) rfl
            refine st_value (v := .int .i64 x.2) ?_ (Below.refl _ _) ?_
            · simp [execOp, go_sem, e29, k1]
            · exact rfl
          · intro ev W hf _ _ hst hd
            obtain ⟨d28, d30, _⟩ := hd
            have e28 : ev (.tmp 28) = .int .i64 (roundZ (boundZ p y d [l0, l1, l2, l3, l4] [h0, h1, h2, h3, h4] x.1) d) := d28
            have e30 : ev (.tmp 30) = .int .i64 x.2 := d30
            refine st_value (v := .bool (reachB p y d [l0, l1, l2, l3, l4] [h0, h1, h2, h3, h4] x)) ?_ (Below.refl _ _) ?_
            · simp [execOp, go_sem, e28, e30]
              rfl
            · exact rfl
        case rest =>
          intro vs w3 hl hst hg
          have hlast : ∀ u, vs[11]? = some u → u = .bool (reachB p y d [l0, l1, l2, l3, l4] [h0, h1, h2, h3, h4] x) := fun u hu => hg 11 u hu
          have HE3 := Lib.hid hst
          clear hg hst
          obtain ⟨x0, vs0, rfl, hl0⟩ := len_succ hl
          obtain ⟨x1, vs1, rfl, hl1⟩ := len_succ hl0
          obtain ⟨x2, vs2, rfl, hl2⟩ := len_succ hl1
          obtain ⟨x3, vs3, rfl, hl3⟩ := len_succ hl2
          obtain ⟨x4, vs4, rfl, hl4⟩ := len_succ hl3
          obtain ⟨x5, vs5, rfl, hl5⟩ := len_succ hl4
          obtain ⟨x6, vs6, rfl, hl6⟩ := len_succ hl5
          obtain ⟨x7, vs7, rfl, hl7⟩ := len_succ hl6
          obtain ⟨x8, vs8, rfl, hl8⟩ := len_succ hl7
          obtain ⟨x9, vs9, rfl, hl9⟩ := len_succ hl8
          obtain ⟨x10, vs10, rfl, hl10⟩ := len_succ hl9
          obtain ⟨x11, vs11, rfl, hl11⟩ := len_succ hl10
          have hnil : vs11 = [] := List.length_eq_zero_iff.1 hl11
          subst hnil
          obtain rfl := hlast _ rfl
          clear hlast
          simp only [putAll, Act.put, List.setIfInBounds_toArray, List.set_cons_zero, List.set_cons_succ]
          cases hr : reachB p y d [l0, l1, l2, l3, l4] [h0, h1, h2, h3, h4] x
          · have Hr := Lib.hid hr
            clear hr
            go_wp2
            refine ⟨⟨k + 1, by omega, by go_num, ?_, HEq.out.trans HE3.out⟩, by simp [intOf]; omega⟩
            rw [any_take_succ Hx.out, Hany.out, Hr.out]
            rfl
          · have Hr := Lib.hid hr
            clear hr
            go_wp2
            go_ret
            refine ⟨ret_bool ?_, (HE2.out.trans HEq.out).trans HE3.out⟩
            simp only [goodB, Hl.out, any_at Hx.out Hr.out, Bool.and_self]
      · have Hany := Lib.hid hany
        have HEr := Lib.hid hEr
        clear hany hEr
        have hke : k = gs.length := by omega
        subst hke
        go_wp2
        go_ret
        refine ⟨ret_bool ?_, HE2.out.trans HEr.out⟩
        have h9 := Hany.out
        rw [List.take_length] at h9
        simp only [goodB, Hl.out, h9, Bool.and_false]
end Go.Proofs.Ytblaipkhmmaenaa
