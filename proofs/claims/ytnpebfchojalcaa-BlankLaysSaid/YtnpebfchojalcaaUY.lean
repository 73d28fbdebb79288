import Derived.Test.YtnpebfchojalcaaUX
import Derived.Test.YtnpebfchojalcaaKX
import Derived.Test.YtnpebfchojalcaaNY
namespace Go.Proofs.Ytnpebfchojalcaa
set_option maxRecDepth 100000
open Go.RowKit Go.Shelf
attribute [local go_sem] Oper.semAt_some
/-! The reference's classes. -/
theorem places_near {ps : List Pt} (hb : blankB ps = true) {W H : Int} (hw : 1 ≤ W ∧ W ≤ 100) (hh : 1 ≤ H ∧ H ≤ 100) {v : Pt} (hv : v ∈ placesL ps W H) : (-1000 ≤ v.1 ∧ v.1 ≤ 1000) ∧ (-1000 ≤ v.2 ∧ v.2 ≤ 1000) := by
  have h1 := go_bd hb
  have h2 := (gridP_mem _).1 hv
  omega
theorem grp_take (f : Pt → Pt) (L : List Pt) (q : Pt) {k : Nat} (hk : k < L.length) : grp f (L.take (k + 1)) q = grp f (L.take k) q ++ if f (fromP L k) = q then [fromP L k] else [] := by
  have e : L.take (k + 1) = L.take k ++ [fromP L k] := by
    rw [List.take_add_one]
    congr 1
    unfold fromP
    rw [List.getD_eq_getElem?_getD, List.getElem?_eq_getElem hk]
    rfl
  rw [e]
  by_cases h : f (fromP L k) = q
  · rw [if_pos h, grp_snoc_same h]
  · rw [if_neg h, grp_snoc_other h, List.append_nil]
theorem places_cap {ps : List Pt} (hb : blankB ps = true) {W H : Int} (hw : 1 ≤ W ∧ W ≤ 100) (hh : 1 ≤ H ∧ H ≤ 100) : (placesL ps W H).length ≤ 100000 := by
  have h1 := go_bd hb
  unfold placesL
  rw [gridP_len]
  have := Nat.mul_le_mul (show (H - goL ps 0 1 - goL ps 0 (-1) + 1).toNat ≤ 113 by omega) (show (W - goL ps 1 0 - goL ps (-1) 0 + 1).toNat ≤ 113 by omega)
  omega
set_option maxHeartbeats 16000000 in
theorem rClass_c (v : Value) (ps : List Pt) (A B D W H ox oy : Int) (w : World) (hv : Vecs w v ps) (hb : blankB ps = true) (hg : gridB A B D = true) (hw : 1 ≤ W ∧ W ≤ 100) (hh : 1 ≤ H ∧ H ≤ 100) :
    Calls Try.prog 39 #[v, gridV A B D, .int .i64 W, .int .i64 H, vecV ox oy] w fun e w' => ∃ r, e = .returned r ∧ w'.ownsRow w.heap.size 31 2 r (grp (offP A B D) (placesL ps W H) (ox, oy)).length (cellsOf (grp (offP A B D) (placesL ps W H) (ox, oy))) ∧ Ext w w' := by
  obtain ⟨base, hbase⟩ : ∃ base, base = w.heap.size := ⟨_, rfl⟩
  rw [← hbase]
  have HBASE := Lib.hid (show base ≤ w.heap.size from Nat.le_of_eq hbase)
  clear hbase
  obtain ⟨a, cap, rfl, hl, hm, _⟩ := hv.at
  have hE0 := Ext.alloc (Ext.alloc (Ext.refl w) (.cells #[.int .i64 A, .int .i64 B, .int .i64 D] 24)) (.cells #[.int .i64 ox, .int .i64 oy] 31)
  have HV := Lib.hid (hv.ext hE0)
  have HE0 := Lib.hid hE0
  have HG := Lib.hid (show VRow ((w.alloc (.cells #[.int .i64 A, .int .i64 B, .int .i64 D] 24)).alloc (.cells #[.int .i64 ox, .int .i64 oy] 31)) w.heap.size 24 [.int .i64 A, .int .i64 B, .int .i64 D] from (vrow_alloc w [.int .i64 A, .int .i64 B, .int .i64 D] 24).alloc _)
  have HO := Lib.hid (show VRow ((w.alloc (.cells #[.int .i64 A, .int .i64 B, .int .i64 D] 24)).alloc (.cells #[.int .i64 ox, .int .i64 oy] 31)) (w.heap.size + 1) 31 [.int .i64 ox, .int .i64 oy] from by
    have h := vrow_alloc (w.alloc (.cells #[.int .i64 A, .int .i64 B, .int .i64 D] 24)) [.int .i64 ox, .int .i64 oy] 31
    rw [show (w.alloc (.cells #[.int .i64 A, .int .i64 B, .int .i64 D] 24)).heap.size = w.heap.size + 1 by simp] at h
    exact h)
  have HNR := Lib.hid (fun v (hv : v ∈ placesL ps W H) => places_near hb hw hh hv)
  have HCP := Lib.hid (places_cap hb hw hh)
  have HGB := Lib.hid hg
  obtain ⟨i0, hi0, hz0, hz1, hz2⟩ := info_parts info31
  have HI := Lib.hid hi0
  have HZ0 := Lib.hid hz0
  have HZ1 := Lib.hid hz1
  have HZ2 := Lib.hid hz2
  have HRP := Lib.hid (fun (W9 : World) (h9 : Vecs W9 (.slice a ps.length cap) ps) => rplaces_c _ ps W H W9 h9 hb hw hh)
  clear hv hE0 hb hg hw hh hi0 hz0 hz1 hz2
  obtain ⟨L, hL⟩ : ∃ L, L = placesL ps W H := ⟨_, rfl⟩
  rw [← hL] at HNR HCP HRP ⊢
  clear hL
  unfold gridV
  go_enter Try.func39, Try.ntmps39
  go_wp2_with fail
  refine (HRP.out _ HV.out).mono ?_
  rintro e w2 ⟨r, rfl, hr, hE⟩
  have hcp := HCP.out
  obtain ⟨a2, c2, rfl⟩ := row_slice hr
  obtain ⟨_, _, e9, hl2, hm2, hat⟩ := (vecs_own hr (by omega)).at
  injection e9 with e9 e10 e11
  subst e9 e11
  have HAT := Lib.hid hat
  obtain ⟨s, hs⟩ : ∃ s, s = w.heap.size := ⟨_, rfl⟩
  rw [← hs] at HG HO ⊢
  have HG2 := Lib.hid (VRow.ext HG.out hE)
  have HO2 := Lib.hid (VRow.ext HO.out hE)
  have HE2 := Lib.hid (Ext.trans HE0.out hE)
  have HSL := Lib.hid (show s + 1 < w2.heap.size from VRow.lt HO2.out)
  have HSB := Lib.hid (show s = w.heap.size from hs)
  obtain ⟨bs, hbs⟩ : ∃ bs, bs = w2.heap.size := ⟨_, rfl⟩
  have HBS := Lib.hid hbs
  clear hr hE hat HV HG HO HE0 hs hbs e10
  obtain ⟨n, hn⟩ : ∃ n, n = L.length := ⟨_, rfl⟩
  rw [← hn] at hl2 hcp ⊢
  have HN := Lib.hid hn
  clear hn
  go_wp2_with fail
  go_loopw [11, 13] (fun ov iv wr => ∃ k : Nat, iv = .int .i64 (k : Int) ∧ k ≤ n ∧ wr.ownsRow bs 31 2 ov (grp (offP A B D) (L.take k) (ox, oy)).length (cellsOf (grp (offP A B D) (L.take k) (ox, oy))) ∧ Below bs w2 wr) (fun _ iv _ => n - (intOf iv).toNat)
  case atStart => exact ⟨0, rfl, Nat.zero_le _, ⟨rfl, .inl ⟨rfl, rfl⟩⟩, by rw [HBS.out]; exact Ext.refl _⟩
  case round =>
    rename World => wr
    obtain ⟨k, rfl, hk, hR, hE⟩ := hrel
    obtain ⟨a1, c1, rfl⟩ := row_slice hR
    have HR := Lib.hid hR
    have hEE : Ext w2 wr := by have := HBS.out; rw [this] at hE; exact hE
    have HE := Lib.hid hEE
    clear hR hE hEE
    by_cases hlt : k < n
    · have hkl : k < L.length := by have := HN.out; omega
      obtain ⟨p, hp⟩ := getElem?_len hkl
      obtain ⟨b, o, e9, q0, q1⟩ := HAT.out k p hp
      subst e9
      have HPV := Lib.hid (fromP_of hp)
      have HPM := Lib.hid (List.mem_of_getElem? hp)
      have HCW := Lib.hid (show _ ∧ _ from ⟨Ext.cell HE.out q0, Ext.cell HE.out q1⟩)
      have HGr := Lib.hid (VRow.ext HG2.out HE.out)
      have HOr := Lib.hid (VRow.ext HO2.out HE.out)
      have HTK := Lib.hid (grp_take (offP A B D) L (ox, oy) hkl)
      rw [HPV.out] at HTK
      have HLE := Lib.hid (Nat.le_trans (Nat.le_trans (grp_le (offP A B D) (L.take k) (ox, oy)) (List.length_take_le' k L)) HCP.out)
      clear q0 q1 hp hkl
      obtain ⟨x, y⟩ := p
      dsimp only at HCW HPM HTK
      obtain ⟨q, hq⟩ : ∃ q, q = offP A B D (x, y) := ⟨_, rfl⟩
      rw [← hq] at HTK
      have HQ := Lib.hid hq
      clear hq
      obtain ⟨qx, qy⟩ := q
      have HCALL := Lib.hid (fun (W9 : World) => (show Calls Try.prog 40 #[gridV A B D, vecV x y] W9 fun e w' => e = .returned (vecV qx qy) ∧ Ext W9 w' from by
        have h9 := HNR.out (x, y) HPM.out
        have h8 := rOffset_c A B D x y W9 HGB.out h9.1 h9.2
        rw [← HQ.out] at h8
        exact h8))
      have HLK := Lib.hid hlt
      unfold gridV at HCALL
      by_cases hqo : qx = ox ∧ qy = oy
      · obtain ⟨hq1, hq2⟩ := hqo
        have hq1 := hq1.symm
        have hq2 := hq2.symm
        subst hq1 hq2
        have HNX := Lib.hid (show grp (offP A B D) (L.take (k + 1)) (ox, oy) = grp (offP A B D) (L.take k) (ox, oy) ++ [(x, y)] from by rw [HTK.out, if_pos rfl])
        clear HTK
        go_wp2_with fail
        refine wp_region_stable [⟨[], none⟩, ⟨[], none⟩, ⟨[], none⟩, ⟨[(1, 25), (2, 26)], none⟩, ⟨[(3, 27)], none⟩, ⟨[(0, 24), (4, 28)], none⟩, ⟨[], none⟩, ⟨[(5, 29), (6, 30)], none⟩] (fun x y => Below x.heap.size x y) (MPat [MP.eq (.agg #[.int .i64 A, .int .i64 B, .int .i64 D]), MP.eq (.slice (some ⟨b, o, none⟩) n c2), MP.eq (.int .i64 k), MP.eq (.pointer (some ⟨b, o + k * 2, none⟩)), MP.eq (vecV x y), MP.eq (vecV ox oy), MP.eq (vecV ox oy), MP.eq (.bool true)]) (by kernel_rfl) (fun _ _ _ h k => Ext.trans h k) (fun _ => Below.refl _ _) (fun x => (Below.refl x.heap.size x).drew) (MPat.mono _) (by kernel_rfl) ?obs ?rest
        case obs =>
          refine ⟨?_, ?_, ?_, ?_, ?_, ?_, ?_, ?_, trivial⟩
          · intro ev W9 hf _ _ hst hd
            have e6 : ev (.tmp 6) = .pointer (some ⟨s, 0, none⟩) := hf 6 (by kernel_rfl)
            have kk := VRow.ext HGr.out hst
            have k0 := VRow.cell kk (k := 0) rfl
            have k1 := VRow.cell kk (k := 1) rfl
            have k2 := VRow.cell kk (k := 2) rfl
            exact st_value (v := .agg #[.int .i64 A, .int .i64 B, .int .i64 D]) (by simp [execOp, go_sem, e6, k0, k1, k2]) (Below.refl _ _) rfl
          · intro ev W9 hf _ _ hst hd
            have e12 : ev (.tmp 12) = .slice (some ⟨b, o, none⟩) n c2 := hf 12 (by kernel_rfl)
            exact st_value (v := .slice (some ⟨b, o, none⟩) n c2) (by simp [execOp, go_sem, e12]) (Below.refl _ _) rfl
          · intro ev W9 hf _ _ hst hd
            have e13 : ev (.tmp 13) = .int .i64 k := hf 13 (by kernel_rfl)
            exact st_value (v := .int .i64 k) (by simp [execOp, go_sem, e13]) (Below.refl _ _) rfl
          · intro ev W9 hf _ _ hst hd
            obtain ⟨d25, d26, _⟩ := hd
            have e25 : ev (.tmp 25) = .slice (some ⟨b, o, none⟩) n c2 := d25
            have e26 : ev (.tmp 26) = .int .i64 k := d26
            have hlk := HLK.out
            exact st_value (v := .pointer (some ⟨b, o + k * 2, none⟩)) (by simp [execOp, go_sem, e25, e26, hlk]) (Below.refl _ _) rfl
          · intro ev W9 hf _ _ hst hd
            obtain ⟨d27, _⟩ := hd
            have e27 : ev (.tmp 27) = .pointer (some ⟨b, o + k * 2, none⟩) := d27
            have k0 := Ext.cell hst HCW.out.1
            have k1 := Ext.cell hst HCW.out.2
            exact st_value (v := vecV x y) (by simp [execOp, go_sem, e27, k0, k1, vecV]) (Below.refl _ _) rfl
          · intro ev W9 hf _ hfn hst hd
            obtain ⟨d24, d28, _⟩ := hd
            have e24 : ev (.tmp 24) = .agg #[.int .i64 A, .int .i64 B, .int .i64 D] := d24
            have e28 : ev (.tmp 28) = vecV x y := d28
            refine st_call (f := 40) (args := #[.agg #[.int .i64 A, .int .i64 B, .int .i64 D], vecV x y]) (by simp [execOp, go_sem, hfn, e24, e28]) (HCALL.out W9) (fun _ _ => rfl)
          · intro ev W9 hf _ _ hst hd
            have e9 : ev (.tmp 9) = .pointer (some ⟨(s + 1), 0, none⟩) := hf 9 (by kernel_rfl)
            have kk := VRow.ext HOr.out hst
            have k0 := VRow.cell kk (k := 0) rfl
            have k1 := VRow.cell kk (k := 1) rfl
            exact st_value (v := vecV ox oy) (by simp [execOp, go_sem, e9, k0, k1, vecV]) (Below.refl _ _) rfl
          · intro ev W9 hf _ _ hst hd
            obtain ⟨d29, d30, _⟩ := hd
            have e29 : ev (.tmp 29) = vecV ox oy := d29
            have e30 : ev (.tmp 30) = vecV ox oy := d30
            exact st_value (v := .bool true) (by simp [execOp, go_sem, e29, e30]) (Below.refl _ _) rfl
        case rest =>
          intro vs w3 hl hst hg
          have hvs : vs = [.agg #[.int .i64 A, .int .i64 B, .int .i64 D], .slice (some ⟨b, o, none⟩) n c2, .int .i64 k, .pointer (some ⟨b, o + k * 2, none⟩), vecV x y, vecV ox oy, vecV ox oy, .bool true] := vs_all hl hg
          have HE3 := Lib.hid hst
          clear hg hst hl
          subst hvs
          simp only [putAll, Act.put, List.setIfInBounds_toArray, List.set_cons_zero, List.set_cons_succ]
          have HR3 := Lib.hid (ownsRow_ext HR.out HE3.out)
          have HE4 := Lib.hid (Ext.trans HE.out HE3.out)
          have q0 := Ext.cell HE3.out HCW.out.1
          have q1 := Ext.cell HE3.out HCW.out.2
          have HO := Lib.hid (ownsRow_ext HR3.out (Ext.alloc (Ext.refl w3) (.cells #[.int .i64 x, .int .i64 y] 31)))
          have HE6 := Lib.hid (Ext.trans HE4.out (Ext.alloc (Ext.refl w3) (.cells #[.int .i64 x, .int .i64 y] 31)))
          have hs6 := HE6.out.size
          have hbs := HBS.out
          have hle := HLE.out
          go_wp2_with (at_builtin; (refine wpList_append_own _ rfl _ _ 22 rfl bs 31 i0 (.agg #[.int .i64 0, .int .i64 0]) 2 16 Try.underlying22 HI.out HZ0.out HZ1.out HZ2.out rfl (by decide) _ _ _ rfl HO.out ⟨w3.heap.size, 0, none⟩ 1 1 [.int .i64 x, .int .i64 y] rfl rfl (fun j u h => cell_two_new w3 _ _ 31 j u h) (by simp [Value.oneCell']) (by unfold maxLen; omega) (by omega) (by omega) ?_; intro v' w' hown' hgrow hnil; have HO9 := Lib.hid hown'; have HG9 := Lib.hid hgrow; clear hown' hgrow hnil))
          obtain ⟨a4, c4, e4⟩ := row_slice HO9.out
          subst e4
          have HCE := Lib.hid (show cellsOf (grp (offP A B D) (L.take k) (ox, oy)) ++ [.int .i64 x, .int .i64 y] = cellsOf (grp (offP A B D) (L.take k) (ox, oy) ++ [(x, y)]) from by rw [cellsOf_append]; rfl)
          have HE9 := Lib.hid (Below.trans (HBS.out ▸ HE6.out : Below bs w2 _) ((row_below HO.out HG9.out (by omega)).mono (by omega)))
          refine ⟨⟨k + 1, by simp, by omega, ?_, HE9.out⟩, by simp [intOf]; omega⟩
          rw [HNX.out, List.length_append, ← HCE.out]
          exact HO9.out
      · have HNX := Lib.hid (show grp (offP A B D) (L.take (k + 1)) (ox, oy) = grp (offP A B D) (L.take k) (ox, oy) from by rw [HTK.out, if_neg (fun e => hqo ⟨congrArg Prod.fst e, congrArg Prod.snd e⟩), List.append_nil])
        have HQO := Lib.hid hqo
        clear HTK hqo
        go_wp2_with fail
        refine wp_region_stable [⟨[], none⟩, ⟨[], none⟩, ⟨[], none⟩, ⟨[(1, 25), (2, 26)], none⟩, ⟨[(3, 27)], none⟩, ⟨[(0, 24), (4, 28)], none⟩, ⟨[], none⟩, ⟨[(5, 29), (6, 30)], none⟩] (fun x y => Below x.heap.size x y) (MPat [MP.eq (.agg #[.int .i64 A, .int .i64 B, .int .i64 D]), MP.eq (.slice (some ⟨b, o, none⟩) n c2), MP.eq (.int .i64 k), MP.eq (.pointer (some ⟨b, o + k * 2, none⟩)), MP.eq (vecV x y), MP.eq (vecV qx qy), MP.eq (vecV ox oy), MP.eq (.bool false)]) (by kernel_rfl) (fun _ _ _ h k => Ext.trans h k) (fun _ => Below.refl _ _) (fun x => (Below.refl x.heap.size x).drew) (MPat.mono _) (by kernel_rfl) ?obs ?rest
        case obs =>
          refine ⟨?_, ?_, ?_, ?_, ?_, ?_, ?_, ?_, trivial⟩
          · intro ev W9 hf _ _ hst hd
            have e6 : ev (.tmp 6) = .pointer (some ⟨s, 0, none⟩) := hf 6 (by kernel_rfl)
            have kk := VRow.ext HGr.out hst
            have k0 := VRow.cell kk (k := 0) rfl
            have k1 := VRow.cell kk (k := 1) rfl
            have k2 := VRow.cell kk (k := 2) rfl
            exact st_value (v := .agg #[.int .i64 A, .int .i64 B, .int .i64 D]) (by simp [execOp, go_sem, e6, k0, k1, k2]) (Below.refl _ _) rfl
          · intro ev W9 hf _ _ hst hd
            have e12 : ev (.tmp 12) = .slice (some ⟨b, o, none⟩) n c2 := hf 12 (by kernel_rfl)
            exact st_value (v := .slice (some ⟨b, o, none⟩) n c2) (by simp [execOp, go_sem, e12]) (Below.refl _ _) rfl
          · intro ev W9 hf _ _ hst hd
            have e13 : ev (.tmp 13) = .int .i64 k := hf 13 (by kernel_rfl)
            exact st_value (v := .int .i64 k) (by simp [execOp, go_sem, e13]) (Below.refl _ _) rfl
          · intro ev W9 hf _ _ hst hd
            obtain ⟨d25, d26, _⟩ := hd
            have e25 : ev (.tmp 25) = .slice (some ⟨b, o, none⟩) n c2 := d25
            have e26 : ev (.tmp 26) = .int .i64 k := d26
            have hlk := HLK.out
            exact st_value (v := .pointer (some ⟨b, o + k * 2, none⟩)) (by simp [execOp, go_sem, e25, e26, hlk]) (Below.refl _ _) rfl
          · intro ev W9 hf _ _ hst hd
            obtain ⟨d27, _⟩ := hd
            have e27 : ev (.tmp 27) = .pointer (some ⟨b, o + k * 2, none⟩) := d27
            have k0 := Ext.cell hst HCW.out.1
            have k1 := Ext.cell hst HCW.out.2
            exact st_value (v := vecV x y) (by simp [execOp, go_sem, e27, k0, k1, vecV]) (Below.refl _ _) rfl
          · intro ev W9 hf _ hfn hst hd
            obtain ⟨d24, d28, _⟩ := hd
            have e24 : ev (.tmp 24) = .agg #[.int .i64 A, .int .i64 B, .int .i64 D] := d24
            have e28 : ev (.tmp 28) = vecV x y := d28
            refine st_call (f := 40) (args := #[.agg #[.int .i64 A, .int .i64 B, .int .i64 D], vecV x y]) (by simp [execOp, go_sem, hfn, e24, e28]) (HCALL.out W9) (fun _ _ => rfl)
          · intro ev W9 hf _ _ hst hd
            have e9 : ev (.tmp 9) = .pointer (some ⟨(s + 1), 0, none⟩) := hf 9 (by kernel_rfl)
            have kk := VRow.ext HOr.out hst
            have k0 := VRow.cell kk (k := 0) rfl
            have k1 := VRow.cell kk (k := 1) rfl
            exact st_value (v := vecV ox oy) (by simp [execOp, go_sem, e9, k0, k1, vecV]) (Below.refl _ _) rfl
          · intro ev W9 hf _ _ hst hd
            obtain ⟨d29, d30, _⟩ := hd
            have e29 : ev (.tmp 29) = vecV qx qy := d29
            have e30 : ev (.tmp 30) = vecV ox oy := d30
            refine st_value (v := .bool false) ?_ (Below.refl _ _) ?_
            · exact (by by_cases hx : qx = ox; (have hy : ¬ qy = oy := fun e => HQO.out ⟨hx, e⟩; simp [execOp, go_sem, e29, e30, hx, hy]); simp [execOp, go_sem, e29, e30, hx])
            · exact rfl
        case rest =>
          intro vs w3 hl hst hg
          have hvs : vs = [.agg #[.int .i64 A, .int .i64 B, .int .i64 D], .slice (some ⟨b, o, none⟩) n c2, .int .i64 k, .pointer (some ⟨b, o + k * 2, none⟩), vecV x y, vecV qx qy, vecV ox oy, .bool false] := vs_all hl hg
          have HE3 := Lib.hid hst
          clear hg hst hl
          subst hvs
          simp only [putAll, Act.put, List.setIfInBounds_toArray, List.set_cons_zero, List.set_cons_succ]
          have HR3 := Lib.hid (ownsRow_ext HR.out HE3.out)
          have HE4 := Lib.hid (Ext.trans HE.out HE3.out)
          go_wp2_with fail
          refine ⟨⟨k + 1, by simp, by omega, by rw [HNX.out]; exact HR3.out, (HBS.out ▸ HE4.out : Below bs w2 w3)⟩, by simp [intOf]; omega⟩
    · have hkn : k = n := by omega
      have HF := Lib.hid (show grp (offP A B D) L (ox, oy) = grp (offP A B D) (L.take k) (ox, oy) from by rw [hkn, HN.out, List.take_length])
      clear hkn
      go_wp2_with fail
      go_ret
      refine ⟨_, rfl, ?_, Ext.trans HE2.out HE.out⟩
      rw [HF.out]
      exact row_baseU2 HR.out (by have := HBS.out; have := HSL.out; have := HBASE.out; have := HSB.out; omega)
end Go.Proofs.Ytnpebfchojalcaa

namespace Go.Proofs.Ytnpebfchojalcaa
set_option maxRecDepth 100000
open Go.RowKit Go.Shelf Go.Maps
attribute [local go_sem] Oper.semAt_some
/-! The keys of a map of groups, collected. -/
def KMap (W : World) (b : Nat) (ks : List Pt) : Prop := W.ownsMap (H := Unit) Try.prog 31 R0 b ks.length (setD ks)
theorem KMap.of_block {W W' : World} {b : Nat} {ks : List Pt} (h : KMap W b ks) (e : W'.heap[b]? = W.heap[b]?) : KMap W' b ks := by
  obtain ⟨es, c, h1, h2⟩ := h
  exact ⟨es, c, e.trans h1, h2⟩
theorem KMap.lt {W : World} {b : Nat} {ks : List Pt} (h : KMap W b ks) : b < W.heap.size := World.ownsMap.lt h
theorem KMap.ext {W W' : World} {b : Nat} {ks : List Pt} (h : KMap W b ks) (he : Ext W W') : KMap W' b ks := h.of_block (he.block b h.lt)
theorem GMap.keys {W : World} {base b : Nat} {f : Pt → Pt} {L : List Pt} (h : GMap W base b f L) : KMap W b (L.map f) := by
  have := h.own
  unfold KMap
  rw [List.length_map]
  exact this
set_option maxHeartbeats 1000000 in
theorem keys_iterL (Bm b : Nat) (ks : List Pt) (S : Nat → Prop) (w : World) (hK : ∀ W, Held S w W → W.cell? ⟨Bm, 0, none⟩ = some (.map (some b)) ∧ KMap W b ks) (hS : ∀ j, S j → j < w.heap.size) (hks : ∀ q ∈ ks, nearPt q) :
    IterM Try.prog 120 #[.pointer (some ⟨Bm, 0, none⟩)] (fun x => #[vecV x.1 x.2]) ks S w := by
  intro l J W hEW hJ hY h0
  have hH0 : Held S w W := Held.ext hEW hS
  obtain ⟨hm, hown0⟩ := hK W hH0
  have hown : W.ownsMap (H := Unit) Try.prog 31 R0 b ks.length (setD ks) := hown0
  have HJ := Lib.hid hJ
  have HY := Lib.hid hY
  have HKS := Lib.hid hks
  change Calls Try.prog 120 #[.func (.yield l) #[] #[], .pointer (some ⟨Bm, 0, none⟩)] W _
  clear hK hJ hY hEW hown0 hks
  go_enter Try.func120, Try.ntmps120
  refine (wpIn_wide (n := 9)).1 ?_
  gi_wp2_with (first
    | (gi_at_range; refine wpListIn_range_own _ rfl _ 85 rfl 31 22 vecKeyed Try.underlying85 R0 b ks.length (setD ks) rfl hown ?_; intro w0 hrg0 hg0 hs0)
    | gi_in)
  have HS := Lib.hid (show ∀ j, S j → j < W.heap.size from fun j hj => Nat.lt_of_lt_of_le (hS j hj) hH0.size)
  have HH0 := Lib.hid (Held.trans hH0 (held_grown hg0 fun j hj => ⟨HS.out j hj, fun e => by cases e⟩))
  have HJ0 := Lib.hid (HJ.out [] _ _ h0 (keeps_none hg0))
  obtain ⟨r, hr⟩ : ∃ r, r = W.heap.size := ⟨_, rfl⟩
  rw [← hr] at hrg0 HS HJ ⊢
  clear hH0 hg0 hs0 hr hown h0 hm hS
  (try go_frame)
  gi_loopw [3] (fun _ wr => ∃ (left : Lit → Bool) (cnt : Nat) (ys : List Pt), wr.ranges (H := Unit) Try.prog 31 R0 b r ks.length (setD ks) left cnt ∧ Coll ks left ys ∧ J ys wr ∧ Held S w wr) (fun _ wr => wr.rangeLeft b r)
  case atStart => exact ⟨_, _, [], hrg0, coll_start ks, HJ0.out, HH0.out⟩
  case round =>
    clear hrg0 HH0 HJ0
    obtain ⟨left, cnt, ys, hrg, hC, hJs, hHs⟩ := hrel
    have HC := Lib.hid hC
    have HJs := Lib.hid hJs
    have HHs := Lib.hid hHs
    clear hC hJs hHs
    gi_wp2_with (first
      | (gi_at_next; refine wpListIn_next_ranges _ rfl _ rfl 31 vecKeyed R0 (id : Value → Value) (id : Value → Value) (fun key kl h => ⟨key, rfl⟩) (fun v y h => ⟨v, rfl⟩) b r ks.length (setD ks) _ _ rfl hrg ?_ ?_)
      | gi_in)
    · intro hc0 hl0
      gi_wp2
      go_end0
      exact ⟨⟨_, rfl⟩, ys, HC.out.nd, coll_end HC.out hl0, HJs.out⟩
    · intro x c kl yd yp w2 cnt2 hkey hlk hv hat hrg2 hlt hg2 hs2 hen
      obtain ⟨q, hq, hqy, rfl⟩ := HC.out.some kl hlk
      obtain rfl : x = vecV q.1 q.2 := vecKeyed.inj hkey (key_vec q (HKS.out q hq))
      have hJ2 := HJ.out ys wr w2 HJs.out (keeps_grown hg2 (Nat.le_refl _) hrg.iter_walk)
      have hE := Ext.alloc (Ext.refl w2) (.cells #[.int .i64 q.1, .int .i64 q.2] 31)
      have hJ3 := HJ.out ys w2 _ hJ2 (Keeps.of_ext hE)
      have HC2 := Lib.hid (coll_step HKS.out HC.out hq hqy)
      have hwr := hrg.lt
      have HH2 := Lib.hid (Held.trans HHs.out (Held.trans (held_grown (S := S) hg2 fun j hj => ⟨by have := HS.out j hj; omega, fun e => by injection e with e; have := HS.out j hj; omega⟩) (Held.ext hE fun j hj => by have := HS.out j hj; have := hg2.size; omega)))
      have HRA := Lib.hid (World.ranges.alloc hrg2 (.cells #[.int .i64 q.1, .int .i64 q.2] 31))
      have HV := Lib.hid (show VRow (w2.alloc (.cells #[.int .i64 q.1, .int .i64 q.2] 31)) _ _ _ from vrow_alloc w2 [.int .i64 q.1, .int .i64 q.2] 31)
      have HLT := Lib.hid hlt
      have HLE := Lib.hid hrg.left_eq
      have m0 := VRow.cell HV.out (k := 0) rfl
      have m1 := VRow.cell HV.out (k := 1) rfl
      obtain ⟨fn, tmps, assign, body, hy, hR⟩ := HY.out ys q _ hJ3 HC2.out.nd HC2.out.sub 9
      unfold vecV at hy hen
      clear hJ2 hJ3 hE hs2 hg2 hkey hlk hv hat hrg2 hlt hrg hwr
      gi_wp2
      clear hy
      refine (RoundIn.any (m := 8) rfl hR).mono ?_
      rintro e W3 ⟨rfl, hJ3, hH3, hk3⟩
      have HR3 := Lib.hid (World.ranges.of_walks HRA.out hk3)
      gi_wp2
      exact ⟨⟨_, cnt2, ys ++ [q], HR3.out, HC2.out, hJ3, HH2.out.trans hH3⟩, by rw [HR3.out.left_eq, HLE.out]; exact HLT.out⟩
theorem keys_cL (b : Nat) (w : World) :
    Calls Try.prog 95 #[.map (some b)] w fun e w' => e = .returned (.func (.func 120) #[] #[.pointer (some ⟨w.heap.size, 0, none⟩)]) ∧ w' = w.alloc (.cells #[.map (some b)] 85) := by
  go_enter Try.func95, Try.ntmps95
  go_wp2
  go_ret
  exact ⟨rfl, rfl⟩
set_option maxHeartbeats 2000000 in
theorem appendSeq_cL (Bm b : Nat) (ks : List Pt) (w : World) (hm : w.cell? ⟨Bm, 0, none⟩ = some (.map (some b))) (hown : KMap w b ks) (hks : ∀ q ∈ ks, nearPt q) (hkl : ks.length ≤ 100000) :
    Calls Try.prog 115 #[.slice none 0 0, .func (.func 120) #[] #[.pointer (some ⟨Bm, 0, none⟩)]] w fun e w' => ∃ r ys, e = .returned r ∧ ys.Nodup ∧ (∀ y, y ∈ ys ↔ y ∈ ks) ∧ Vecs w' r ys ∧ Ext w w' := by
  have HM := Lib.hid hm
  have HOW := Lib.hid hown
  have HKS := Lib.hid hks
  have hbl := cell_lt hm
  have hb2 := hown.lt
  clear hm hown hks
  refine calls_marks Try.func115 rfl ?_
  simp only [Try.ntmps115, List.size_toArray, List.length_cons, List.length_nil, Nat.reduceAdd, Nat.reduceSub, Array.replicate_succ, Array.replicate_zero, List.push_toArray, List.append_toArray, List.nil_append, List.cons_append]
  go_wp2_with fail
  have HR := Lib.hid (show VRow (w.alloc (.cells #[.slice none 0 0] 22)) _ _ _ from vrow_alloc w [.slice none 0 0] 22)
  have HE := Lib.hid (Ext.alloc (Ext.refl w) (.cells #[.slice none 0 0] 22))
  have hsz : (w.alloc (.cells #[.slice none 0 0] 22)).heap.size = w.heap.size + 1 := by simp
  obtain ⟨w2, hw2⟩ : ∃ w2, w2 = w.alloc (.cells #[.slice none 0 0] 22) := ⟨_, rfl⟩
  rw [← hw2] at HR HE hsz ⊢
  clear hw2
  refine (wpIn_wide (n := 9)).1 ?_
  refine wpIn_range_m (gf := 120) (lb := #[.pointer (some ⟨Bm, 0, none⟩)]) rfl (enters_of Try.func120 (by kernel_rfl) rfl) ks (fun j => j < w.heap.size) (fun x => #[vecV x.1 x.2]) (fun j hj => by omega) (fun _ => rfl)
    (keys_iterL Bm b ks _ w2 (fun W hH => by
      have hx : Ext w W := ⟨hH.os.trans HE.out.os, hH.tape.trans HE.out.tape, hH.output.trans HE.out.output, Nat.le_trans HE.out.size hH.size, fun j hj => (hH.block j hj).trans (HE.out.block j hj)⟩
      exact ⟨Ext.cell hx HM.out, HOW.out.ext hx⟩) (fun j hj => by omega) HKS.out)
    (fun ys W => ∃ u, VRow W w.heap.size 22 [u] ∧ W.ownsRow (w.heap.size + 3) 31 2 u ys.length (cellsOf ys) ∧ Ext w W) ?_ ⟨_, HR.out, ⟨rfl, .inl ⟨rfl, rfl⟩⟩, HE.out⟩ ?round ?done
  · rintro pre A B ⟨u, h1, h2, h3⟩ hb
    exact ⟨u, Keeps.vrow hb h1, ownsRow_keeps h2 hb, Keeps.below hb h3 (by omega)⟩
  case round =>
    rintro l pre x W K ⟨u, h1, h3, h2⟩ hnd hmem hlt hK
    have hpl : pre.length ≤ ks.length := sub_len (List.nodup_append.1 hnd).1 fun y hy => hmem y (List.mem_append.2 (.inl hy))
    have HPL := Lib.hid hpl
    clear hpl hnd hmem
    simp only [vecV]
    gi_wp2_with fail
    refine hK _ _ (fun W2 hB hlt2 => ?_) (Held.ext (Ext.alloc (Ext.refl W) _) (fun j hj => by omega)) (KeepsWalks.alloc _ _)
    have hb1 := VRow.alloc h1 (.cells #[.int .i64 x.1, .int .i64 x.2] 31)
    have hb2 := vrow_alloc W [.int .i64 x.1, .int .i64 x.2] 31
    have hE1 := Ext.alloc h2 (.cells #[.int .i64 x.1, .int .i64 x.2] 31)
    have hO1 := ownsRow_keeps (ownsRow_ext h3 (Ext.alloc (Ext.refl W) (.cells #[.int .i64 x.1, .int .i64 x.2] 31))) hB
    have hM := Keeps.vrow hB hb1
    have hN := Keeps.vrow hB hb2
    have HE2 := Lib.hid (Keeps.below hB hE1 (by omega))
    clear hb1 hb2 hE1 hK hB h1 h2 h3
    have m0 := VRow.cell hM (k := 0) rfl
    have n2 := VRow.cell hN (k := 0) rfl
    have n3 := VRow.cell hN (k := 1) rfl
    have HM := Lib.hid hM
    have HO := Lib.hid hO1
    clear hM hN hO1
    obtain ⟨i0, hi, hz0, hz1, hz2⟩ := info_parts info31
    have HI := Lib.hid hi
    have HZ0 := Lib.hid hz0
    have HZ1 := Lib.hid hz1
    have HZ2 := Lib.hid hz2
    clear hi hz0 hz1 hz2
    have hpl := HPL.out
    have hob : ∀ j, u.ownBlock = some j → w.heap.size + 3 ≤ j := fun j hj => own_block HO.out hj
    have hsz2 : (W2.alloc (.cells #[.int .i64 x.1, .int .i64 x.2] 31)).heap.size = W2.heap.size + 1 := by simp
    gi_wp2_with (gi_at_builtin; refine wpListIn_append_own _ rfl _ _ 22 rfl (w.heap.size + 3) 31 i0 (.agg #[.int .i64 0, .int .i64 0]) 2 16 Try.underlying22 HI.out HZ0.out HZ1.out HZ2.out rfl (by decide) _ _ _ rfl (ownsRow_ext HO.out (Ext.alloc (Ext.refl W2) (.cells #[.int .i64 x.1, .int .i64 x.2] 31))) ⟨W2.heap.size, 0, none⟩ 1 1 [.int .i64 x.1, .int .i64 x.2] rfl rfl (fun j u h => cell_two_new W2 _ _ 31 j u h) (by simp [Value.oneCell']) (by unfold maxLen; omega) (by omega) (by simp; omega) ?_; intro v' w' hown' hgrow hnil; obtain ⟨g', cap', rfl⟩ := ownsRow_succ hown'; have HO' := Lib.hid hown'; have HG' := Lib.hid hgrow; have hm1 := VRow.grown (VRow.alloc HM.out (.cells #[.int .i64 x.1, .int .i64 x.2] 31)) hgrow (fun e => by have := hob _ e.symm; omega); have p0 := VRow.cell hm1 (k := 0) rfl; have f0 := VRow.frozen hm1 0 none; have HM1 := Lib.hid hm1; clear hown' hgrow hm1 hnil)
    have hg' := own_block HO'.out (j := g') rfl
    have e : cellsOf pre ++ [.int .i64 x.1, .int .i64 x.2] = cellsOf (pre ++ [x]) := by rw [cellsOf_append]; rfl
    have el : pre.length + 1 = (pre ++ [x]).length := by simp
    have hO2 : w'.ownsRow (w.heap.size + 3) 31 2 (.slice (some ⟨g', 0, none⟩) (pre.length + 1) cap') (pre ++ [x]).length (cellsOf (pre ++ [x])) := by
      rw [← e, ← el]
      exact HO'.out
    have hgs := grown_set w' w.heap.size 0 (.slice (some ⟨g', 0, none⟩) (pre.length + 1) cap')
    refine ⟨⟨((Held.ext (Ext.alloc (Ext.refl W2) (.cells #[.int .i64 x.1, .int .i64 x.2] 31)) (fun j hj => by omega)).trans (grown_held HG'.out (fun j hj => ⟨by omega, fun e => by have := hob _ e.symm; omega⟩))).trans (Held.set _ _ _ (fun j hj => by show j ≠ w.heap.size; omega)),
      ((KeepsWalks.alloc _ _).trans (walks_grown (ownsRow_ext HO.out (Ext.alloc (Ext.refl W2) (.cells #[.int .i64 x.1, .int .i64 x.2] 31))) HG'.out)).trans (KeepsWalks.setCell _ _ _)⟩, _, VRow.set HM1.out 0 _, hO2.kept hgs (.inr (by simp [Value.ownBlock]; omega)), ?_⟩
    have hx1 : Below w.heap.size w w' := Below.grown (Ext.alloc HE2.out (.cells #[.int .i64 x.1, .int .i64 x.2] 31)) HG'.out (by omega) (fun j e => by have := hob _ e; omega)
    exact Below.setCell (p := ⟨w.heap.size, 0, none⟩) hx1 (Nat.le_refl _) _
  case done =>
    rintro W ys hnd hmem ⟨u, h1, h3, h2⟩ hD
    have m0 := VRow.cell h1 (k := 0) rfl
    dsimp only
    go_wp2_with fail
    have hO := ownsRow_putObj h3 (.deferred none) hD rfl
    have hlen : ys.length ≤ ks.length := sub_len hnd fun y hy => (hmem y).1 hy
    refine ⟨by simp, .inl ⟨_, _, rfl, run_takeDeferred hD, _, results_tmp rfl _ _ _, u, ys, rfl, hnd, hmem, vecs_own (base := w.heap.size + 3) hO (by omega), ?_⟩⟩
    exact Below.trans h2 ⟨rfl, rfl, rfl, by simp, fun j hj => World.putObj_heap_other (by omega)⟩
set_option maxHeartbeats 1000000 in
theorem collect_cL (Bm b : Nat) (ks : List Pt) (w : World) (hm : w.cell? ⟨Bm, 0, none⟩ = some (.map (some b))) (hown : KMap w b ks) (hks : ∀ q ∈ ks, nearPt q) (hkl : ks.length ≤ 100000) :
    Calls Try.prog 89 #[.func (.func 120) #[] #[.pointer (some ⟨Bm, 0, none⟩)]] w fun e w' => ∃ r ys, e = .returned r ∧ ys.Nodup ∧ (∀ y, y ∈ ys ↔ y ∈ ks) ∧ Vecs w' r ys ∧ Ext w w' := by
  have HC := Lib.hid (appendSeq_cL Bm b ks w hm hown hks hkl)
  clear hm hown hks
  go_enter Try.func89, Try.ntmps89
  go_wp2_with fail
  refine HC.out.mono ?_
  rintro e w2 ⟨r, ys, rfl, hnd, hmem, hr, hE⟩
  have HH := Lib.hid (show ys.Nodup ∧ (∀ y, y ∈ ys ↔ y ∈ ks) ∧ Vecs w2 r ys ∧ Ext w w2 from ⟨hnd, hmem, hr, hE⟩)
  clear hnd hmem hr hE
  go_wp2_with fail
  go_ret
  exact ⟨r, ys, rfl, HH.out⟩
end Go.Proofs.Ytnpebfchojalcaa

namespace Go.Proofs.Ytnpebfchojalcaa
set_option maxRecDepth 100000
open Go.RowKit Go.Shelf Go.Maps Go.WideElems
attribute [local go_sem] Oper.semAt_some
/-! The first key of a map of groups. -/
theorem row_sliceU {w : World} {base : Nat} {e : TypeId} {sz n : Nat} {v : Value} {xs : List Value} (h : w.ownsRow base e sz v n xs) : ∃ a cap, v = .slice a n cap := by
  rcases h.2 with ⟨rfl, rfl⟩ | ⟨g, cap, cur, rfl, _⟩
  · exact ⟨none, 0, rfl⟩
  · exact ⟨_, cap, rfl⟩
theorem key_one : ∀ {l : List MapEntry}, (l.map (·.key)).Nodup → ∀ {a b : MapEntry}, a ∈ l → b ∈ l → a.key = b.key → a = b
  | [], _, _, _, ha, _, _ => by cases ha
  | x :: l, hn, a, b, ha, hb, he => by
    rw [List.map_cons, List.nodup_cons] at hn
    rcases List.mem_cons.1 ha with rfl | ha' <;> rcases List.mem_cons.1 hb with rfl | hb'
    · rfl
    · exact absurd (List.mem_map.2 ⟨b, hb', he.symm⟩) hn.1
    · exact absurd (List.mem_map.2 ⟨a, ha', he⟩) hn.1
    · exact key_one hn.2 ha' hb' he
/-- a look-up is the same in all later worlds -/
theorem look_fix {W : World} {base b : Nat} {f : Pt → Pt} {L : List Pt} (h : GMap W base b f L) {q : Pt} (hq : nearPt q) :
    ∃ a cap, ∀ W', Ext W W' → (Instr.lookup 85 (.map (some b)) (vecV q.1 q.2) false).run Try.prog W' = .ok (.slice a (grp f L q).length cap) W' ∧ W'.ownsRow base 31 2 (.slice a (grp f L q).length cap) (grp f L q).length (cellsOf (grp f L q)) := by
  obtain ⟨v, hv, ho⟩ := gmap_look h hq
  obtain ⟨a, cap, rfl⟩ := row_sliceU ho
  refine ⟨a, cap, fun W' he => ?_⟩
  obtain ⟨v', hv', ho'⟩ := gmap_look (h.ext he) hq
  obtain ⟨es, c, hb, F, _⟩ := h.own
  have hb' := (he.block b h.lt).trans hb
  have e : v' = .slice a (grp f L q).length cap := by
    rcases Maps.fit_look false vecKeyed Try.underlying85 (zero22 W) hb F (key_vec q hq) with ⟨hr, hne, _⟩ | ⟨e0, y, he0, hk0, hr, _⟩ <;>
    rcases Maps.fit_look false vecKeyed Try.underlying85 (zero22 W') hb' F (key_vec q hq) with ⟨hr', hne', _⟩ | ⟨e1, y', he1, hk1, hr', _⟩
    · rw [hr] at hv; rw [hr'] at hv'
      have x1 : (.slice none 0 0 : Value) = .slice a (grp f L q).length cap := by simpa using hv
      have x2 : (.slice none 0 0 : Value) = v' := by simpa using hv'
      rw [← x2, x1]
    · exact absurd hk1 (hne e1 he1)
    · exact absurd hk0 (hne' e0 he0)
    · have : e0 = e1 := key_one F.stamped.2.2 he0 he1 (hk0.trans hk1.symm)
      subst this
      rw [hr] at hv; rw [hr'] at hv'
      have x1 : e0.val = .slice a (grp f L q).length cap := by simpa using hv
      have x2 : e0.val = v' := by simpa using hv'
      rw [← x2, x1]
  subst e
  exact ⟨hv', ho'⟩
/-- the order of layouts: the longer first, of those with as many the lexicographically less -/
def layZ (n1 n2 : Nat) (a b c d : Int) : Int := if sgnZ n2 n1 = 0 then heightZ b a d c else sgnZ n2 n1
set_option maxHeartbeats 2000000 in
theorem lay_c (Bm mb base : Nat) (f : Pt → Pt) (L : List Pt) (a b c d : Int) (w : World) (hm : w.cell? ⟨Bm, 0, none⟩ = some (.map (some mb))) (hG : GMap w base mb f L) (h1 : nearPt (a, b)) (h2 : nearPt (c, d)) :
    Calls Try.prog 60 #[vecV a b, vecV c d, .pointer (some ⟨Bm, 0, none⟩)] w fun e w' => e = .returned (.int .i64 (layZ (grp f L (a, b)).length (grp f L (c, d)).length a b c d)) ∧ Ext w w' := by
  obtain ⟨sa, ca, hl1⟩ := look_fix hG h1
  obtain ⟨sc, cc, hl2⟩ := look_fix hG h2
  generalize (grp f L (a, b)).length = n1 at *
  generalize (grp f L (c, d)).length = n2 at *
  have hBl := cell_lt hm
  have HL1 := Lib.hid (fun W (h : Ext w W) => (show _ ∧ True from ⟨(hl1 W h).1, trivial⟩))
  have HL2 := Lib.hid (fun W (h : Ext w W) => (show _ ∧ True from ⟨(hl2 W h).1, trivial⟩))
  clear hl1 hl2 h1 h2 hG
  have hm0 := VRow.alloc (vrow_alloc w [.int .i64 a, .int .i64 b] 31) (.cells #[.int .i64 c, .int .i64 d] 31)
  have hn0 := vrow_alloc (w.alloc (.cells #[.int .i64 a, .int .i64 b] 31)) [.int .i64 c, .int .i64 d] 31
  have hE := Ext.alloc (Ext.alloc (Ext.refl w) (.cells #[.int .i64 a, .int .i64 b] 31)) (.cells #[.int .i64 c, .int .i64 d] 31)
  have hs1 : (w.alloc (.cells #[.int .i64 a, .int .i64 b] 31)).heap.size = w.heap.size + 1 := by simp
  rw [hs1] at hn0
  change VRow ((w.alloc (.cells #[.int .i64 a, .int .i64 b] 31)).alloc (.cells #[.int .i64 c, .int .i64 d] 31)) _ _ _ at hm0 hn0
  have HM := Lib.hid hm0
  have HN := Lib.hid hn0
  have HE := Lib.hid hE
  clear hs1 hm0 hn0 hE
  go_enter Try.func60, Try.ntmps60
  go_wp2_with fail
  have HBM := Lib.hid (Ext.cell HE.out hm)
  have HL1 := Lib.hid (fun W (h : Ext _ W) => HL1.out W (Ext.trans HE.out h))
  have HL2 := Lib.hid (fun W (h : Ext _ W) => HL2.out W (Ext.trans HE.out h))
  clear hm
  generalize (w.alloc (.cells #[.int .i64 a, .int .i64 b] 31)).alloc (.cells #[.int .i64 c, .int .i64 d] 31) = w1 at *
  generalize hs : w.heap.size = s at *
  refine wp_region_stable [⟨[], none⟩, ⟨[], none⟩, ⟨[(0, 6), (1, 7)], none⟩, ⟨[(2, 8)], none⟩, ⟨[], none⟩, ⟨[], none⟩, ⟨[(4, 10), (5, 11)], none⟩, ⟨[(6, 12)], none⟩, ⟨[(3, 9), (7, 13)], none⟩, ⟨[], none⟩, ⟨[], none⟩, ⟨[(9, 15), (10, 16)], none⟩, ⟨[(8, 14), (11, 17)], none⟩, ⟨[(12, 18)], none⟩, ⟨[(13, 19)], none⟩] (fun x y => Below x.heap.size x y) (MPat [MP.eq (.map (some mb)), MP.eq (vecV c d), MP.eq (.slice sc n2 cc), MP.eq (.int .i64 n2), MP.eq (.map (some mb)), MP.eq (vecV a b), MP.eq (.slice sa n1 ca), MP.eq (.int .i64 n1), MP.eq (.int .i64 (sgnZ n2 n1)), MP.eq (vecV a b), MP.eq (vecV c d), MP.eq (.int .i64 (heightZ b a d c)), MP.ints [sgnZ n2 n1, heightZ b a d c], MP.eq (.int .i64 (layZ n1 n2 a b c d)), MP.eq (.int .i64 (layZ n1 n2 a b c d))]) (by kernel_rfl) (fun _ _ _ h k => Ext.trans h k) (fun _ => Below.refl _ _) (fun x => (Below.refl x.heap.size x).drew) (MPat.mono _) (by kernel_rfl) ?obs ?rest
  case obs =>
    refine ⟨?_, ?_, ?_, ?_, ?_, ?_, ?_, ?_, ?_, ?_, ?_, ?_, ?_, ?_, ?_, trivial⟩
    · intro ev W hf _ _ hst hd
      have e2 : ev (.tmp 2) = .pointer (some ⟨Bm, 0, none⟩) := hf 2 (by kernel_rfl)
      have k0 := Ext.cell hst HBM.out
      exact st_value (v := .map (some mb)) (by simp [execOp, go_sem, e2, k0]) (Below.refl _ _) rfl
    · intro ev W hf _ _ hst hd
      have e4 : ev (.tmp 4) = .pointer (some ⟨(s + 1), 0, none⟩) := hf 4 (by kernel_rfl)
      have kk := VRow.ext HN.out hst
      have k0 := VRow.cell kk (k := 0) rfl
      have k1 := VRow.cell kk (k := 1) rfl
      exact st_value (v := vecV c d) (by simp [execOp, go_sem, e4, k0, k1, vecV]) (Below.refl _ _) rfl
    · intro ev W hf _ _ hst hd
      obtain ⟨d6, d7, _⟩ := hd
      have e6 : ev (.tmp 6) = .map (some mb) := d6
      have e7 : ev (.tmp 7) = vecV c d := d7
      have kl := (HL2.out W hst).1
      unfold vecV at kl
      exact st_value (v := .slice sc n2 cc) (by simp [execOp, go_sem, e6, e7, kl, vecV]) (Below.refl _ _) rfl
    · intro ev W hf _ _ hst hd
      obtain ⟨d8, _⟩ := hd
      have e8 : ev (.tmp 8) = .slice sc n2 cc := d8
      exact st_value (v := .int .i64 n2) (by simp [execOp, go_sem, e8]) (Below.refl _ _) rfl
    · intro ev W hf _ _ hst hd
      have e2 : ev (.tmp 2) = .pointer (some ⟨Bm, 0, none⟩) := hf 2 (by kernel_rfl)
      have k0 := Ext.cell hst HBM.out
      exact st_value (v := .map (some mb)) (by simp [execOp, go_sem, e2, k0]) (Below.refl _ _) rfl
    · intro ev W hf _ _ hst hd
      have e3 : ev (.tmp 3) = .pointer (some ⟨s, 0, none⟩) := hf 3 (by kernel_rfl)
      have kk := VRow.ext HM.out hst
      have k0 := VRow.cell kk (k := 0) rfl
      have k1 := VRow.cell kk (k := 1) rfl
      exact st_value (v := vecV a b) (by simp [execOp, go_sem, e3, k0, k1, vecV]) (Below.refl _ _) rfl
    · intro ev W hf _ _ hst hd
      obtain ⟨d10, d11, _⟩ := hd
      have e10 : ev (.tmp 10) = .map (some mb) := d10
      have e11 : ev (.tmp 11) = vecV a b := d11
      have kl := (HL1.out W hst).1
      unfold vecV at kl
      exact st_value (v := .slice sa n1 ca) (by simp [execOp, go_sem, e10, e11, kl, vecV]) (Below.refl _ _) rfl
    · intro ev W hf _ _ hst hd
      obtain ⟨d12, _⟩ := hd
      have e12 : ev (.tmp 12) = .slice sa n1 ca := d12
      exact st_value (v := .int .i64 n1) (by simp [execOp, go_sem, e12]) (Below.refl _ _) rfl
    · intro ev W hf _ hfn hst hd
      obtain ⟨d9, d13, _⟩ := hd
      have e9 : ev (.tmp 9) = .int .i64 n2 := d9
      have e13 : ev (.tmp 13) = .int .i64 n1 := d13
      refine st_call (f := 50) (args := #[.int .i64 n2, .int .i64 n1]) (by simp [execOp, go_sem, hfn, e9, e13]) (calls_same (compare_c n2 n1 W)) (fun _ _ => rfl)
    · intro ev W hf _ _ hst hd
      have e3 : ev (.tmp 3) = .pointer (some ⟨s, 0, none⟩) := hf 3 (by kernel_rfl)
      have kk := VRow.ext HM.out hst
      have k0 := VRow.cell kk (k := 0) rfl
      have k1 := VRow.cell kk (k := 1) rfl
      exact st_value (v := vecV a b) (by simp [execOp, go_sem, e3, k0, k1, vecV]) (Below.refl _ _) rfl
    · intro ev W hf _ _ hst hd
      have e4 : ev (.tmp 4) = .pointer (some ⟨(s + 1), 0, none⟩) := hf 4 (by kernel_rfl)
      have kk := VRow.ext HN.out hst
      have k0 := VRow.cell kk (k := 0) rfl
      have k1 := VRow.cell kk (k := 1) rfl
      exact st_value (v := vecV c d) (by simp [execOp, go_sem, e4, k0, k1, vecV]) (Below.refl _ _) rfl
    · intro ev W hf _ hfn hst hd
      obtain ⟨d15, d16, _⟩ := hd
      have e15 : ev (.tmp 15) = vecV a b := d15
      have e16 : ev (.tmp 16) = vecV c d := d16
      refine st_call (f := 52) (args := #[vecV a b, vecV c d]) (by simp [execOp, go_sem, hfn, e15, e16]) (lex_c a b c d W) (fun _ _ => rfl)
    · intro ev W hf _ hfn hst hd
      obtain ⟨d14, d17, _⟩ := hd
      have e14 : ev (.tmp 14) = .int .i64 (sgnZ n2 n1) := d14
      have e17 : ev (.tmp 17) = .int .i64 (heightZ b a d c) := d17
      refine st_new (v := .slice (some ⟨W.heap.size, 0, none⟩) 2 2) (o := .cells #[.int .i64 (sgnZ n2 n1), .int .i64 (heightZ b a d c)] 3) ?_ ?_
      · simp [execOp, go_sem, e14, e17]
      · exact IRow.ints' (xs := [sgnZ n2 n1, heightZ b a d c]) (vrow_alloc W [.int .i64 (sgnZ n2 n1), .int .i64 (heightZ b a d c)] 3) rfl (by simp) (by simp)
    · intro ev W hf _ hfn hst hd
      obtain ⟨d18, _⟩ := hd
      have d18 : Ints W (ev (.tmp 18)) [sgnZ n2 n1, heightZ b a d c] := d18
      refine st_call (f := 49) (args := #[ev (.tmp 18)]) (by simp [execOp, go_sem, hfn]) ?_ (fun _ _ => rfl)
      have h9 := calls_same (or_c _ _ W d18)
      rw [orZ_two] at h9
      exact h9
    · intro ev W hf _ _ hst hd
      obtain ⟨d19, _⟩ := hd
      have e19 : ev (.tmp 19) = .int .i64 (layZ n1 n2 a b c d) := d19
      exact st_value (v := .int .i64 (layZ n1 n2 a b c d)) (by simp [execOp, go_sem, e19]) (Below.refl _ _) rfl
  case rest =>
    intro vs w3 hl hst hg
    have hx0 : ∀ u, vs[0]? = some u → u = .map (some mb) := fun u hu => hg 0 u hu
    have hx1 : ∀ u, vs[1]? = some u → u = vecV c d := fun u hu => hg 1 u hu
    have hx2 : ∀ u, vs[2]? = some u → u = .slice sc n2 cc := fun u hu => hg 2 u hu
    have hx3 : ∀ u, vs[3]? = some u → u = .int .i64 n2 := fun u hu => hg 3 u hu
    have hx4 : ∀ u, vs[4]? = some u → u = .map (some mb) := fun u hu => hg 4 u hu
    have hx5 : ∀ u, vs[5]? = some u → u = vecV a b := fun u hu => hg 5 u hu
    have hx6 : ∀ u, vs[6]? = some u → u = .slice sa n1 ca := fun u hu => hg 6 u hu
    have hx7 : ∀ u, vs[7]? = some u → u = .int .i64 n1 := fun u hu => hg 7 u hu
    have hx8 : ∀ u, vs[8]? = some u → u = .int .i64 (sgnZ n2 n1) := fun u hu => hg 8 u hu
    have hx9 : ∀ u, vs[9]? = some u → u = vecV a b := fun u hu => hg 9 u hu
    have hx10 : ∀ u, vs[10]? = some u → u = vecV c d := fun u hu => hg 10 u hu
    have hx11 : ∀ u, vs[11]? = some u → u = .int .i64 (heightZ b a d c) := fun u hu => hg 11 u hu
    have hx12 : ∀ u, vs[12]? = some u → MP.p (MP.ints [sgnZ n2 n1, heightZ b a d c]) u w3 := fun u hu => hg 12 u hu
    have hx13 : ∀ u, vs[13]? = some u → u = .int .i64 (layZ n1 n2 a b c d) := fun u hu => hg 13 u hu
    have hx14 : ∀ u, vs[14]? = some u → u = .int .i64 (layZ n1 n2 a b c d) := fun u hu => hg 14 u hu
    have HE3 := Lib.hid hst
    clear hg hst
    obtain ⟨x0, vs0, rfl, hl0⟩ := len_succ hl
    obtain ⟨x1, vs1, rfl, hl1⟩ := len_succ hl0
    obtain ⟨x2, vs2, rfl, hl2⟩ := len_succ hl1
    obtain ⟨x3, vs3, rfl, hl3⟩ := len_succ hl2
    obtain ⟨x4, vs4, rfl, hl4⟩ := len_succ hl3
    obtain ⟨x5, vs5, rfl, hl5⟩ := len_succ hl4
    obtain ⟨x6, vs6, rfl, hl6⟩ := len_succ hl5
    obtain ⟨x7, vs7, rfl, hl7⟩ := len_succ hl6
    obtain ⟨x8, vs8, rfl, hl8⟩ := len_succ hl7
    obtain ⟨x9, vs9, rfl, hl9⟩ := len_succ hl8
    obtain ⟨x10, vs10, rfl, hl10⟩ := len_succ hl9
    obtain ⟨x11, vs11, rfl, hl11⟩ := len_succ hl10
    obtain ⟨x12, vs12, rfl, hl12⟩ := len_succ hl11
    obtain ⟨x13, vs13, rfl, hl13⟩ := len_succ hl12
    obtain ⟨x14, vs14, rfl, hl14⟩ := len_succ hl13
    have hnil : vs14 = [] := List.length_eq_zero_iff.1 hl14
    subst hnil
    obtain rfl : x0 = .map (some mb) := hx0 _ rfl
    obtain rfl : x1 = vecV c d := hx1 _ rfl
    obtain rfl : x2 = .slice sc n2 cc := hx2 _ rfl
    obtain rfl : x3 = .int .i64 n2 := hx3 _ rfl
    obtain rfl : x4 = .map (some mb) := hx4 _ rfl
    obtain rfl : x5 = vecV a b := hx5 _ rfl
    obtain rfl : x6 = .slice sa n1 ca := hx6 _ rfl
    obtain rfl : x7 = .int .i64 n1 := hx7 _ rfl
    obtain rfl : x8 = .int .i64 (sgnZ n2 n1) := hx8 _ rfl
    obtain rfl : x9 = vecV a b := hx9 _ rfl
    obtain rfl : x10 = vecV c d := hx10 _ rfl
    obtain rfl : x11 = .int .i64 (heightZ b a d c) := hx11 _ rfl
    replace hx12 := hx12 _ rfl
    obtain rfl : x13 = .int .i64 (layZ n1 n2 a b c d) := hx13 _ rfl
    obtain rfl : x14 = .int .i64 (layZ n1 n2 a b c d) := hx14 _ rfl
    clear hx0 hx1 hx2 hx3 hx4 hx5 hx6 hx7 hx8 hx9 hx10 hx11 hx13 hx14
    simp only [putAll, Act.put, List.setIfInBounds_toArray, List.set_cons_zero, List.set_cons_succ]
    go_wp2_with fail
    go_ret
    exact ⟨rfl, Ext.trans HE.out HE3.out⟩
def minO (ord : Pt → Pt → Int) (qs : List Pt) : Nat → Pt
  | 0 => fromP qs 0
  | k + 1 => if ord (fromP qs (k + 1)) (minO ord qs k) < 0 then fromP qs (k + 1) else minO ord qs k
def minOP (ord : Pt → Pt → Int) (qs : List Pt) : Pt := minO ord qs (qs.length - 1)
theorem minO_mem {ord : Pt → Pt → Int} {qs : List Pt} (hn : 0 < qs.length) : ∀ k, k < qs.length → minO ord qs k ∈ qs := by
  have hf : ∀ j, j < qs.length → fromP qs j ∈ qs := fun j hj => by unfold fromP; rw [List.getD_eq_getElem?_getD, List.getElem?_eq_getElem hj]; exact List.getElem_mem _
  intro k
  induction k with
  | zero => intro _; exact hf 0 hn
  | succ k ih =>
    intro hk
    simp only [minO]
    split
    · exact hf _ hk
    · exact ih (by omega)
set_option maxRecDepth 100000 in
set_option maxHeartbeats 1000000 in
theorem minO_c (ord : Pt → Pt → Int) (cv : Value) (v : Value) (qs : List Pt) (w : World) (hv : Vecs w v qs) (hn : 0 < qs.length) (hm : qs.length ≤ 1000000) (hc : ∀ W, Ext w W → ∀ p ∈ qs, ∀ q ∈ qs, Calls Try.prog 60 #[vecV p.1 p.2, vecV q.1 q.2, cv] W fun e w' => e = .returned (.int .i64 (ord p q)) ∧ Ext W w') :
    Calls Try.prog 74 #[v, .func (.func 60) #[] #[cv]] w fun e w' => e = .returned (vecV (minOP ord qs).1 (minOP ord qs).2) ∧ Ext w w' := by
  have hbd : ∀ q ∈ qs, q ∈ qs := fun _ h => h
  have HC9 := Lib.hid hc
  clear hc
  obtain ⟨a, cap, rfl, hl, hmx, hr⟩ := hv.at
  obtain ⟨p0, hp0⟩ := getElem?_len hn
  obtain ⟨b, o, rfl, c0, c1⟩ := hr 0 p0 hp0
  have hE0 := Ext.alloc (Ext.refl w) (.cells #[.int .i64 0, .int .i64 0] 31)
  have HR := Lib.hid (show ∀ (k : Nat) (p : Pt), qs[k]? = some p → w.cell? ⟨b, o + k * 2, none⟩ = some (.int .i64 p.1) ∧ w.cell? ⟨b, o + k * 2 + 1, none⟩ = some (.int .i64 p.2) from fun k p hk => by
    obtain ⟨b', o', e, h1, h2⟩ := hr k p hk
    obtain ⟨rfl, rfl⟩ : b = b' ∧ o = o' := by injection e with e; injection e with e1 e2; exact ⟨e1, e2⟩
    exact ⟨h1, h2⟩)
  have HF0 := Lib.hid (fromP_of hp0)
  have HBD := Lib.hid hbd
  have HWM := Lib.hid (minO_mem (ord := ord) hn)
  clear hbd
  have d0 : (w.alloc (.cells #[.int .i64 0, .int .i64 0] 31)).cell? ⟨b, o, none⟩ = some (.int .i64 p0.1) := by have := Ext.cell hE0 c0; simpa using this
  have d1 : (w.alloc (.cells #[.int .i64 0, .int .i64 0] 31)).cell? ⟨b, o + 1, none⟩ = some (.int .i64 p0.2) := by have := Ext.cell hE0 c1; simpa using this
  have hblt := cell_lt c0
  clear hv hr c0 c1 hp0
  go_enter Try.func74, Try.ntmps74
  go_wp2_with fail
  clear d0 d1
  have hs1 : (w.alloc (.cells #[.int .i64 0, .int .i64 0] 31)).heap.size = w.heap.size + 1 := by simp
  have hra := VRow.alloc (vrow_alloc w [.int .i64 0, .int .i64 0] 31) (.cells #[.int .i64 p0.1, .int .i64 p0.2] 31)
  have hrb := vrow_alloc (w.alloc (.cells #[.int .i64 0, .int .i64 0] 31)) [.int .i64 p0.1, .int .i64 p0.2] 31
  rw [hs1] at hrb
  go_loopw [6] (fun i wr => ∃ k : Nat, k + 1 ≤ qs.length ∧ i = .int .i64 ((k + 1 : Nat) : Int) ∧ VRow wr (w.heap.size + 1) 31 [.int .i64 (minO ord qs k).1, .int .i64 (minO ord qs k).2] ∧ VRow wr w.heap.size 31 [.int .i64 0, .int .i64 0] ∧ Ext w wr) (fun i _ => qs.length - (intOf i).toNat)
  case atStart => exact ⟨0, by omega, rfl, by simp only [minO, HF0.out]; exact hrb, hra, Ext.alloc hE0 _⟩
  case round =>
    clear hra hrb
    obtain ⟨k, hk, rfl, hM, hA, hE⟩ := hrel
    have HM := Lib.hid hM
    have HA := Lib.hid hA
    have HE := Lib.hid hE
    clear hM hA hE hE0
    obtain ⟨j, hj⟩ : ∃ j, j = k + 1 := ⟨_, rfl⟩
    rw [← hj] at hk ⊢
    by_cases hlt : j < qs.length
    · obtain ⟨q, hq⟩ := getElem?_len hlt
      obtain ⟨hc0, hc1⟩ := HR.out j q hq
      have HC := Lib.hid (show wr.cell? _ = _ ∧ wr.cell? _ = _ from ⟨Ext.cell HE.out hc0, Ext.cell HE.out hc1⟩)
      have HS := Lib.hid (show minO ord qs j = if ord q (minO ord qs k) < 0 then q else minO ord qs k by rw [hj]; simp only [minO]; rw [← hj, fromP_of hq])
      have HQB := Lib.hid (HBD.out q (List.mem_of_getElem? hq))
      have HMB := Lib.hid (HBD.out _ (HWM.out k (by omega)))
      clear hq hc0 hc1
      obtain ⟨m, hmm⟩ : ∃ m, m = minO ord qs k := ⟨_, rfl⟩
      rw [← hmm] at HM HS HMB
      obtain ⟨z, hz⟩ : ∃ z, z = ord q m := ⟨_, rfl⟩
      rw [← hz] at HS
      have HZ := Lib.hid hz
      have HMM := Lib.hid hmm
      have Hj := Lib.hid hj
      clear hz hmm hj
      go_wp2_with fail
      by_cases hneg : z < 0
      · skip
        refine wp_region_stable [⟨[], none⟩, ⟨[], none⟩, ⟨[], none⟩, ⟨[(1, 21), (2, 22)], none⟩, ⟨[(3, 23)], none⟩, ⟨[], none⟩, ⟨[(0, 20), (4, 24), (5, 25)], none⟩, ⟨[(6, 26)], none⟩] (fun x y => Below x.heap.size x y) (MPat [MP.eq (.func (.func 60) #[] #[cv]), MP.eq (.slice (some ⟨b, o, none⟩) qs.length cap), MP.eq (.int .i64 j), MP.eq (.pointer (some ⟨b, o + j * 2, none⟩)), MP.eq (vecV q.1 q.2), MP.eq (vecV m.1 m.2), MP.eq (.int .i64 z), MP.eq (.bool true)]) (by kernel_rfl) (fun _ _ _ h k => Ext.trans h k) (fun _ => Below.refl _ _) (fun x => (Below.refl x.heap.size x).drew) (MPat.mono _) (by kernel_rfl) ?obs ?rest
        case obs =>
          refine ⟨?_, ?_, ?_, ?_, ?_, ?_, ?_, ?_, trivial⟩
          · intro ev W hf _ _ hst hd
            have e1 : ev (.tmp 1) = .func (.func 60) #[] #[cv] := hf 1 (by kernel_rfl)
            exact st_value (v := .func (.func 60) #[] #[cv]) (by simp [execOp, go_sem, e1]) (Below.refl _ _) rfl
          · intro ev W hf _ _ hst hd
            have e0 : ev (.tmp 0) = .slice (some ⟨b, o, none⟩) qs.length cap := hf 0 (by kernel_rfl)
            exact st_value (v := .slice (some ⟨b, o, none⟩) qs.length cap) (by simp [execOp, go_sem, e0]) (Below.refl _ _) rfl
          · intro ev W hf _ _ hst hd
            have e6 : ev (.tmp 6) = .int .i64 j := hf 6 (by kernel_rfl)
            exact st_value (v := .int .i64 j) (by simp [execOp, go_sem, e6]) (Below.refl _ _) rfl
          · intro ev W hf _ _ hst hd
            obtain ⟨d21, d22, _⟩ := hd
            have e21 : ev (.tmp 21) = .slice (some ⟨b, o, none⟩) qs.length cap := d21
            have e22 : ev (.tmp 22) = .int .i64 j := d22
            exact st_value (v := .pointer (some ⟨b, o + j * 2, none⟩)) (by simp [execOp, go_sem, e21, e22, hlt]) (Below.refl _ _) rfl
          · intro ev W hf _ _ hst hd
            obtain ⟨d23, _⟩ := hd
            have e23 : ev (.tmp 23) = .pointer (some ⟨b, o + j * 2, none⟩) := d23
            have k0 := Ext.cell hst HC.out.1
            have k1 := Ext.cell hst HC.out.2
            exact st_value (v := vecV q.1 q.2) (by simp [execOp, go_sem, e23, k0, k1]) (Below.refl _ _) rfl
          · intro ev W hf _ _ hst hd
            have e5 : ev (.tmp 5) = .pointer (some ⟨w.heap.size + 1, 0, none⟩) := hf 5 (by kernel_rfl)
            have kk := VRow.ext HM.out hst
            have k0 := VRow.cell kk (k := 0) rfl
            have k1 := VRow.cell kk (k := 1) rfl
            exact st_value (v := vecV m.1 m.2) (by simp [execOp, go_sem, e5, k0, k1]) (Below.refl _ _) rfl
          · intro ev W hf _ hfn hst hd
            obtain ⟨d20, d24, d25, _⟩ := hd
            have e20 : ev (.tmp 20) = .func (.func 60) #[] #[cv] := d20
            have e24 : ev (.tmp 24) = vecV q.1 q.2 := d24
            have e25 : ev (.tmp 25) = vecV m.1 m.2 := d25
            clear hfn
            refine st_call (f := 60) (args := #[vecV q.1 q.2, vecV m.1 m.2, cv]) (by simp [execOp, go_sem, e20, e24, e25]) (by rw [HZ.out]; exact HC9.out W (Ext.trans HE.out hst) q HQB.out m HMB.out) (fun _ _ => rfl)
          · intro ev W hf hcst _ hst hd
            obtain ⟨d26, _⟩ := hd
            have e26 : ev (.tmp 26) = .int .i64 z := d26
            exact st_value (v := .bool true) (by simp [execOp, go_sem, e26, hcst, hneg]) (Below.refl _ _) rfl
        case rest =>
          intro vs w3 hl hst hg
          have hvs : vs = [.func (.func 60) #[] #[cv], .slice (some ⟨b, o, none⟩) qs.length cap, .int .i64 j, .pointer (some ⟨b, o + j * 2, none⟩), vecV q.1 q.2, vecV m.1 m.2, .int .i64 z, .bool true] := vs_all hl hg
          have HE3 := Lib.hid hst
          clear hg hst hl
          subst hvs
          simp only [putAll, Act.put, List.setIfInBounds_toArray, List.set_cons_zero, List.set_cons_succ]
          have hm3 := VRow.ext HM.out HE3.out
          have c0 := Ext.cell HE3.out HC.out.1
          have c1 := Ext.cell HE3.out HC.out.2
          have m0 := VRow.cell hm3 (k := 0) rfl
          have m1 := VRow.cell hm3 (k := 1) rfl
          have f0 := VRow.frozen hm3 0 none
          have f1 := VRow.frozen hm3 1 none
          have HM3 := Lib.hid hm3
          clear hm3
          go_wp2
          have hj := Hj.out
          refine ⟨⟨k + 1, by omega, by congr 1; omega, ?_, VRow.setOther (VRow.setOther (VRow.ext HA.out HE3.out) (by simp) _) (by simp) _, ?_⟩, by simp [intOf]; omega⟩
          · have e := HS.out
            rw [if_pos hneg, hj] at e
            rw [e]
            exact VRow.set (VRow.set HM3.out 0 _) 1 _
          · exact Below.setCell (p := ⟨w.heap.size + 1, 1, none⟩) (Below.setCell (p := ⟨w.heap.size + 1, 0, none⟩) (Ext.trans HE.out HE3.out) (by show _ ≤ w.heap.size + 1; omega) _) (by show _ ≤ w.heap.size + 1; omega) _
      · skip
        refine wp_region_stable [⟨[], none⟩, ⟨[], none⟩, ⟨[], none⟩, ⟨[(1, 21), (2, 22)], none⟩, ⟨[(3, 23)], none⟩, ⟨[], none⟩, ⟨[(0, 20), (4, 24), (5, 25)], none⟩, ⟨[(6, 26)], none⟩] (fun x y => Below x.heap.size x y) (MPat [MP.eq (.func (.func 60) #[] #[cv]), MP.eq (.slice (some ⟨b, o, none⟩) qs.length cap), MP.eq (.int .i64 j), MP.eq (.pointer (some ⟨b, o + j * 2, none⟩)), MP.eq (vecV q.1 q.2), MP.eq (vecV m.1 m.2), MP.eq (.int .i64 z), MP.eq (.bool false)]) (by kernel_rfl) (fun _ _ _ h k => Ext.trans h k) (fun _ => Below.refl _ _) (fun x => (Below.refl x.heap.size x).drew) (MPat.mono _) (by kernel_rfl) ?obs ?rest
        case obs =>
          refine ⟨?_, ?_, ?_, ?_, ?_, ?_, ?_, ?_, trivial⟩
          · intro ev W hf _ _ hst hd
            have e1 : ev (.tmp 1) = .func (.func 60) #[] #[cv] := hf 1 (by kernel_rfl)
            exact st_value (v := .func (.func 60) #[] #[cv]) (by simp [execOp, go_sem, e1]) (Below.refl _ _) rfl
          · intro ev W hf _ _ hst hd
            have e0 : ev (.tmp 0) = .slice (some ⟨b, o, none⟩) qs.length cap := hf 0 (by kernel_rfl)
            exact st_value (v := .slice (some ⟨b, o, none⟩) qs.length cap) (by simp [execOp, go_sem, e0]) (Below.refl _ _) rfl
          · intro ev W hf _ _ hst hd
            have e6 : ev (.tmp 6) = .int .i64 j := hf 6 (by kernel_rfl)
            exact st_value (v := .int .i64 j) (by simp [execOp, go_sem, e6]) (Below.refl _ _) rfl
          · intro ev W hf _ _ hst hd
            obtain ⟨d21, d22, _⟩ := hd
            have e21 : ev (.tmp 21) = .slice (some ⟨b, o, none⟩) qs.length cap := d21
            have e22 : ev (.tmp 22) = .int .i64 j := d22
            exact st_value (v := .pointer (some ⟨b, o + j * 2, none⟩)) (by simp [execOp, go_sem, e21, e22, hlt]) (Below.refl _ _) rfl
          · intro ev W hf _ _ hst hd
            obtain ⟨d23, _⟩ := hd
            have e23 : ev (.tmp 23) = .pointer (some ⟨b, o + j * 2, none⟩) := d23
            have k0 := Ext.cell hst HC.out.1
            have k1 := Ext.cell hst HC.out.2
            exact st_value (v := vecV q.1 q.2) (by simp [execOp, go_sem, e23, k0, k1]) (Below.refl _ _) rfl
          · intro ev W hf _ _ hst hd
            have e5 : ev (.tmp 5) = .pointer (some ⟨w.heap.size + 1, 0, none⟩) := hf 5 (by kernel_rfl)
            have kk := VRow.ext HM.out hst
            have k0 := VRow.cell kk (k := 0) rfl
            have k1 := VRow.cell kk (k := 1) rfl
            exact st_value (v := vecV m.1 m.2) (by simp [execOp, go_sem, e5, k0, k1]) (Below.refl _ _) rfl
          · intro ev W hf _ hfn hst hd
            obtain ⟨d20, d24, d25, _⟩ := hd
            have e20 : ev (.tmp 20) = .func (.func 60) #[] #[cv] := d20
            have e24 : ev (.tmp 24) = vecV q.1 q.2 := d24
            have e25 : ev (.tmp 25) = vecV m.1 m.2 := d25
            clear hfn
            refine st_call (f := 60) (args := #[vecV q.1 q.2, vecV m.1 m.2, cv]) (by simp [execOp, go_sem, e20, e24, e25]) (by rw [HZ.out]; exact HC9.out W (Ext.trans HE.out hst) q HQB.out m HMB.out) (fun _ _ => rfl)
          · intro ev W hf hcst _ hst hd
            obtain ⟨d26, _⟩ := hd
            have e26 : ev (.tmp 26) = .int .i64 z := d26
            exact st_value (v := .bool false) (by simp [execOp, go_sem, e26, hcst, hneg]) (Below.refl _ _) rfl
        case rest =>
          intro vs w3 hl hst hg
          have hvs : vs = [.func (.func 60) #[] #[cv], .slice (some ⟨b, o, none⟩) qs.length cap, .int .i64 j, .pointer (some ⟨b, o + j * 2, none⟩), vecV q.1 q.2, vecV m.1 m.2, .int .i64 z, .bool false] := vs_all hl hg
          have HE3 := Lib.hid hst
          clear hg hst hl
          subst hvs
          simp only [putAll, Act.put, List.setIfInBounds_toArray, List.set_cons_zero, List.set_cons_succ]
          go_wp2
          have hj := Hj.out
          refine ⟨⟨k + 1, by omega, by congr 1; omega, ?_, VRow.ext HA.out HE3.out, Ext.trans HE.out HE3.out⟩, by simp [intOf]; omega⟩
          have e := HS.out
          rw [if_neg hneg, hj] at e
          rw [e]
          exact VRow.ext HM.out HE3.out
    · have hjn : j = qs.length := by omega
      have m0 := VRow.cell HM.out (k := 0) rfl
      have m1 := VRow.cell HM.out (k := 1) rfl
      have a0 := VRow.cell HA.out (k := 0) rfl
      have a1 := VRow.cell HA.out (k := 1) rfl
      have f0 := VRow.frozen HA.out 0 none
      have f1 := VRow.frozen HA.out 1 none
      have Hj := Lib.hid hj
      clear hj
      go_wp2_with fail
      have hA2 := VRow.set (VRow.set HA.out 0 (.int .i64 (minO ord qs k).1)) 1 (.int .i64 (minO ord qs k).2)
      have b0 := VRow.cell hA2 (k := 0) rfl
      have b1 := VRow.cell hA2 (k := 1) rfl
      have hE2 := Below.setCell (p := ⟨w.heap.size, 1, none⟩) (Below.setCell (p := ⟨w.heap.size, 0, none⟩) HE.out (Nat.le_refl _) (.int .i64 (minO ord qs k).1)) (Nat.le_refl _) (.int .i64 (minO ord qs k).2)
      generalize ((wr.setCell ⟨w.heap.size, 0, none⟩ (.int .i64 (minO ord qs k).1)).setCell ⟨w.heap.size, 1, none⟩ (.int .i64 (minO ord qs k).2)) = w9 at *
      (try simp only [Exit.inBlock, Exit.then])
      refine bodyPost_ret (by rw [results_cell1 rfl]; go_simp; rfl) rfl ?_
      have hkn : k = qs.length - 1 := by have := Hj.out; omega
      exact ⟨by unfold minOP; rw [← hkn], hE2⟩
theorem minO_low {ord : Pt → Pt → Int} (h0 : ∀ p, ¬ ord p p < 0) (h1 : ∀ p q r, ord p q < 0 → ¬ ord r q < 0 → ¬ ord r p < 0) {qs : List Pt} : ∀ k j, j ≤ k → ¬ ord (fromP qs j) (minO ord qs k) < 0 := by
  intro k
  induction k with
  | zero =>
    intro j hj
    obtain rfl : j = 0 := by omega
    exact h0 _
  | succ k ih =>
    intro j hj
    simp only [minO]
    split
    · rename_i hc
      by_cases h : j = k + 1
      · rw [h]; exact h0 _
      · exact h1 _ _ _ hc (ih j (by omega))
    · rename_i hc
      by_cases h : j = k + 1
      · rw [h]; exact hc
      · exact ih j (by omega)
/-- the first of some vectors -/
def FirstO (ord : Pt → Pt → Int) (ks : List Pt) (q : Pt) : Prop := q ∈ ks ∧ ∀ p, p ∈ ks → ¬ ord p q < 0
theorem firstO_of {ord : Pt → Pt → Int} (h0 : ∀ p, ¬ ord p p < 0) (h1 : ∀ p q r, ord p q < 0 → ¬ ord r q < 0 → ¬ ord r p < 0) {ks ys : List Pt} (h : ∀ y, y ∈ ys ↔ y ∈ ks) (hn : 0 < ys.length) : FirstO ord ks (minOP ord ys) := by
  refine ⟨(h _).1 (minO_mem hn _ (by omega)), fun p hp => ?_⟩
  have hp := (h p).2 hp
  obtain ⟨j, hj, e⟩ := List.getElem_of_mem hp
  have e2 : fromP ys j = p := by unfold fromP; rw [List.getD_eq_getElem?_getD, List.getElem?_eq_getElem hj, e]; rfl
  rw [← e2]
  exact minO_low h0 h1 (ys.length - 1) j (by omega)
/-- the order of offsets -/
def layP (n : Pt → Nat) (p q : Pt) : Int := layZ (n p) (n q) p.1 p.2 q.1 q.2
theorem lay_lt (n : Pt → Nat) (p q : Pt) : layP n p q < 0 ↔ n q < n p ∨ (n p = n q ∧ (p.1 < q.1 ∨ (p.1 = q.1 ∧ p.2 < q.2))) := by
  unfold layP layZ heightZ
  generalize n p = s
  generalize n q = t
  by_cases hs : sgnZ t s = 0
  · have e := (sgn_zero (t : Int) s).1 hs
    rw [if_pos hs]
    by_cases h1 : sgnZ p.1 q.1 = 0
    · have e1 := (sgn_zero _ _).1 h1
      rw [if_pos h1, sgn_neg]
      omega
    · have e1 : p.1 ≠ q.1 := fun e => h1 ((sgn_zero _ _).2 e)
      rw [if_neg h1, sgn_neg]
      omega
  · have e : (t : Int) ≠ s := fun e => hs ((sgn_zero _ _).2 e)
    rw [if_neg hs, sgn_neg]
    omega
theorem lay_self (n : Pt → Nat) (p : Pt) : ¬ layP n p p < 0 := by rw [lay_lt]; omega
theorem lay_trans (n : Pt → Nat) (p q r : Pt) (h : layP n p q < 0) (k : ¬ layP n r q < 0) : ¬ layP n r p < 0 := by rw [lay_lt] at *; omega
set_option maxHeartbeats 4000000 in
theorem firstKeyL_c (ord : Pt → Pt → Int) (h0o : ∀ p, ¬ ord p p < 0) (h1o : ∀ p q r, ord p q < 0 → ¬ ord r q < 0 → ¬ ord r p < 0) (cv : Value) (b : Nat) (ks : List Pt) (w : World) (hB : KMap w b ks) (hks : ∀ q ∈ ks, (-10000 ≤ q.1 ∧ q.1 ≤ 10000) ∧ (-10000 ≤ q.2 ∧ q.2 ≤ 10000)) (hkl : ks.length ≤ 100000) (hc : ∀ W, Ext w W → ∀ p ∈ ks, ∀ q ∈ ks, Calls Try.prog 60 #[vecV p.1 p.2, vecV q.1 q.2, cv] W fun e w' => e = .returned (.int .i64 (ord p q)) ∧ Ext W w') :
    Calls Try.prog 59 #[.map (some b), .func (.func 60) #[] #[cv]] w fun e w' => ((ks = [] ∧ e = .returned (.tuple #[vecV 0 0, .bool false])) ∨ ∃ q, FirstO ord ks q ∧ e = .returned (.tuple #[vecV q.1 q.2, .bool true])) ∧ Ext w w' := by
  have HC9 := Lib.hid hc
  have H0O := Lib.hid h0o
  have H1O := Lib.hid h1o
  clear hc h0o h1o
  have HE0 := Lib.hid (Ext.alloc (Ext.refl w) (.cells #[.int .i64 0, .int .i64 0] 31))
  have HR0 := Lib.hid (show VRow (w.alloc (.cells #[.int .i64 0, .int .i64 0] 31)) _ _ _ from vrow_alloc w [.int .i64 0, .int .i64 0] 31)
  have HB0 := Lib.hid (hB.ext HE0.out)
  have hnp : ∀ q ∈ ks, nearPt q := fun q hq => by have := hks q hq; unfold nearPt; omega
  have HNP := Lib.hid hnp
  have HKS := Lib.hid hks
  have hsz := setD_size hnp
  clear hB hks hnp
  have hlen := (show ((w.alloc (.cells #[.int .i64 0, .int .i64 0] 31)).ownsMap (H := Unit) Try.prog 31 R0 b ks.length (setD ks)) from HB0.out)
  have HLEN := Lib.hid hlen
  clear hlen
  by_cases h0 : ks = []
  · have HZ := Lib.hid (hsz.2 h0)
    have H0 := Lib.hid h0
    clear hsz h0
    go_enter Try.func59, Try.ntmps59
    go_wp2_with (refine wpList_len_own _ rfl _ 85 rfl 31 22 Try.underlying85 R0 b ks.length (setD ks) rfl HLEN.out ?_; rw [HZ.out])
    (try simp only [Exit.inBlock, Exit.then])
    (try rw [Exit.noGoto_ret])
    refine bodyPost_ret (key_results HR0.out _ rfl rfl) rfl ?_
    exact ⟨.inl ⟨H0.out, rfl⟩, HE0.out⟩
  · have HZ := Lib.hid (fun e => h0 (hsz.1 e))
    have hpos : 0 < ks.length := by
      cases ks with
      | nil => exact absurd rfl h0
      | cons _ _ => simp
    clear hsz h0
    obtain ⟨sz, hszz⟩ : ∃ sz, sz = Maps.size (setD ks) := ⟨_, rfl⟩
    have hs0 : sz ≠ 0 := fun e => HZ.out (by rw [← hszz]; exact e)
    have hsb : ((sz : Int) == 0) = false := beq_eq_false_iff_ne.2 (by omega)
    go_enter Try.func59, Try.ntmps59
    go_wp2_with (refine wpList_len_own _ rfl _ 85 rfl 31 22 Try.underlying85 R0 b ks.length (setD ks) rfl HLEN.out ?_; rw [← hszz])
    obtain ⟨w1, hw1⟩ : ∃ w1, w1 = w.alloc (.cells #[.int .i64 0, .int .i64 0] 31) := ⟨_, rfl⟩
    obtain ⟨g, hg⟩ : ∃ g, g = w.heap.size := ⟨_, rfl⟩
    rw [← hw1] at HE0 HR0 HB0 ⊢
    rw [← hg] at HR0 ⊢
    have HG := Lib.hid (show w.heap.size ≤ g from Nat.le_of_eq hg.symm)
    clear HLEN hszz hs0 hsb hw1 hg
    refine (keys_cL b w1).mono ?_
    rintro e w2 ⟨rfl, rfl⟩
    have hEk := Ext.alloc (Ext.refl w1) (.cells #[.map (some b)] 85)
    have HM2 := Lib.hid (show VRow (w1.alloc (.cells #[.map (some b)] 85)) w1.heap.size 85 [.map (some b)] from vrow_alloc w1 [.map (some b)] 85)
    have HB2 := Lib.hid (HB0.out.ext hEk)
    have HR2 := Lib.hid (VRow.ext HR0.out hEk)
    have HE2 := Lib.hid (Ext.trans HE0.out hEk)
    clear hEk HR0 HB0
    go_wp2_with fail
    refine (collect_cL w1.heap.size b ks _ (VRow.cell HM2.out (k := 0) rfl) HB2.out HNP.out hkl).mono ?_
    rintro e w3 ⟨r, ys, rfl, hnd, hmem, hr, hE⟩
    have HMEM := Lib.hid hmem
    have HV3 := Lib.hid hr
    have HR3 := Lib.hid (VRow.ext HR2.out hE)
    have HE3 := Lib.hid (Ext.trans HE2.out hE)
    have HYL := Lib.hid (show 0 < ys.length ∧ ys.length ≤ 100000 from by
      constructor
      · obtain ⟨q, hq⟩ := List.exists_mem_of_length_pos hpos
        exact List.length_pos_of_mem ((hmem q).2 hq)
      · exact Nat.le_trans (sub_len hnd fun y hy => (hmem y).1 hy) hkl)
    clear hnd hmem hr hE HB2 HM2 HR2 HE2
    go_wp2_with fail
    refine (minO_c ord cv r ys w3 HV3.out HYL.out.1 (by have := HYL.out; omega) (fun W hW p hp q hq => HC9.out W (Ext.trans HE3.out hW) p ((HMEM.out p).1 hp) q ((HMEM.out q).1 hq))).mono ?_
    rintro e w4 ⟨rfl, hE⟩
    have HF := Lib.hid (firstO_of (ord := ord) (fun p => by have := H0O.out p; omega) (fun p q r h1 h2 => by have := H1O.out p q r h1 (by omega); omega) HMEM.out HYL.out.1)
    have HR4 := Lib.hid (VRow.ext HR3.out hE)
    have HE4 := Lib.hid (Ext.trans HE3.out hE)
    clear hE
    generalize minOP ord ys = q at *
    have c0 := VRow.cell HR4.out (k := 0) rfl
    have c1 := VRow.cell HR4.out (k := 1) rfl
    have f0 := VRow.frozen HR4.out 0 none
    have f1 := VRow.frozen HR4.out 1 none
    go_wp2_with fail
    (try simp only [Exit.inBlock, Exit.then])
    (try rw [Exit.noGoto_ret])
    refine bodyPost_ret (key_results (vrow2_putW HR4.out _ _) _ rfl rfl) rfl ?_
    exact ⟨.inr ⟨q, HF.out, rfl⟩, ext2_putW HE4.out HG.out _ _⟩
end Go.Proofs.Ytnpebfchojalcaa

namespace Go.Proofs.Ytnpebfchojalcaa
set_option maxRecDepth 100000
open Go.RowKit Go.Shelf Go.Maps
attribute [local go_sem] Oper.semAt_some
/-! Lay. -/
/-- the offset of a layout -/
def LayO (f : Pt → Pt) (P : List Pt) (o : Pt) : Prop := P = [] ∨ FirstO (layP fun q => (grp f P q).length) (P.map f) o
def layOk (ps : List Pt) (A B D W H : Int) : Prop := blankB ps = true ∧ gridB A B D = true ∧ sheetB W H = true ∧ collL ps A B D = []
def LayS (ps : List Pt) (A B D W H : Int) (e : Ending) (base : Nat) (w : World) : Prop :=
  (¬ layOk ps A B D W H ∧ e = two (.slice none 0 0) (.int .i64 2)) ∨
  (layOk ps A B D W H ∧ ∃ o r, LayO (offP A B D) (placesL ps W H) o ∧ e = two r (.int .i64 0) ∧ w.ownsRow base 31 2 r (grp (offP A B D) (placesL ps W H) o).length (cellsOf (grp (offP A B D) (placesL ps W H) o)))
theorem off_near {A B D : Int} (hg : gridB A B D = true) {L : List Pt} {q : Pt} (hq : q ∈ L.map (offP A B D)) : nearPt q ∧ ((-10000 ≤ q.1 ∧ q.1 ≤ 10000) ∧ (-10000 ≤ q.2 ∧ q.2 ≤ 10000)) := by
  obtain ⟨v, _, rfl⟩ := List.mem_map.1 hq
  have hgi := gridB_iff.1 hg
  have := offP_bd (A := A) (B := B) (D := D) (by omega) (by omega) v
  unfold nearPt
  omega
theorem places_len {ps : List Pt} (hb : blankB ps = true) {W H : Int} (hs : sheetB W H = true) : (placesL ps W H).length ≤ 100000 := by
  have h1 := go_bd hb
  simp only [sheetB, Bool.and_eq_true, decide_eq_true_eq] at hs
  unfold placesL
  rw [gridP_len]
  have := Nat.mul_le_mul (show (H - goL ps 0 1 - goL ps 0 (-1) + 1).toNat ≤ 113 by omega) (show (W - goL ps 1 0 - goL ps (-1) 0 + 1).toNat ≤ 113 by omega)
  omega
theorem row_baseU {w : World} {base c n : Nat} {v : Value} {xs : List Value} (h : w.ownsRow base 31 2 v n xs) (hc : c ≤ base) : w.ownsRow c 31 2 v n xs := by
  obtain ⟨h1, h2⟩ := h
  refine ⟨h1, ?_⟩
  rcases h2 with h2 | ⟨g, cap, cur, a1, a2, a3⟩
  · exact .inl h2
  · exact .inr ⟨g, cap, cur, a1, Nat.le_trans hc a2, a3⟩
set_option maxHeartbeats 8000000 in
theorem Lay_c (v : Value) (ps : List Pt) (A B D W H : Int) (w : World) (hv : Vecs w v ps) :
    Calls Try.prog 24 #[v, gridV A B D, .int .i64 W, .int .i64 H] w fun e w' => LayS ps A B D W H e w.heap.size w' ∧ Ext w w' := by
  obtain ⟨a, cap, rfl, hl, hm, _⟩ := hv.at
  have hE0 := Ext.alloc (Ext.refl w) (.cells #[.int .i64 A, .int .i64 B, .int .i64 D] 24)
  have HV := Lib.hid (hv.ext hE0)
  have HE0 := Lib.hid hE0
  have HB := Lib.hid (show VRow (w.alloc (.cells #[.int .i64 A, .int .i64 B, .int .i64 D] 24)) _ _ _ from vrow_alloc w [.int .i64 A, .int .i64 B, .int .i64 D] 24)
  clear hv hE0
  have HBAD := Lib.hid (fun (h : ¬ layOk ps A B D W H) (w' : World) => (show LayS ps A B D W H (two (.slice none 0 0) (.int .i64 2)) w.heap.size w' from .inl ⟨h, rfl⟩))
  unfold gridV
  go_enter Try.func24, Try.ntmps24
  go_wp2_with fail
  refine (isBlank_c _ ps _ HV.out).mono ?_
  rintro e w2 ⟨rfl, hE⟩
  have HB2 := Lib.hid (VRow.ext HB.out hE)
  have HV2 := Lib.hid (HV.out.ext hE)
  have HE2 := Lib.hid (Ext.trans HE0.out hE)
  clear hE HB HV HE0
  cases hf : blankB ps with
  | false =>
    have HR := Lib.hid (HBAD.out fun h => by have := h.1; rw [hf] at this; cases this)
    clear hf
    go_wp2_with fail
    go_ret2
    exact ⟨HR.out _, HE2.out⟩
  | true =>
    have Hf := Lib.hid hf
    clear hf
    have b0 := VRow.cell HB2.out (k := 0) rfl
    have b1 := VRow.cell HB2.out (k := 1) rfl
    have b2 := VRow.cell HB2.out (k := 2) rfl
    go_wp2_with fail
    clear b0 b1 b2
    refine (show Calls Try.prog 42 #[gridV A B D] w2 _ from isGrid_c A B D w2).mono ?_
    rintro e w3 ⟨rfl, hE⟩
    have HB3 := Lib.hid (VRow.ext HB2.out hE)
    have HV3 := Lib.hid (HV2.out.ext hE)
    have HE3 := Lib.hid (Ext.trans HE2.out hE)
    clear hE HB2 HV2 HE2
    cases hg : gridB A B D with
    | false =>
      have HR := Lib.hid (HBAD.out fun h => by have := h.2.1; rw [hg] at this; cases this)
      clear hg
      go_wp2_with fail
      go_ret2
      exact ⟨HR.out _, HE3.out⟩
    | true =>
      have Hg := Lib.hid hg
      clear hg
      go_wp2_with fail
      refine (isSheet_c W H w3).mono ?_
      rintro e w9 ⟨rfl, rfl⟩
      cases hs : sheetB W H with
      | false =>
        have HR := Lib.hid (HBAD.out fun h => by have := h.2.2.1; rw [hs] at this; cases this)
        clear hs
        go_wp2_with fail
        go_ret2
        exact ⟨HR.out _, HE3.out⟩
      | true =>
        have Hs := Lib.hid hs
        have HWH := Lib.hid (show (1 ≤ W ∧ W ≤ 100) ∧ (1 ≤ H ∧ H ≤ 100) from by simp only [sheetB, Bool.and_eq_true, decide_eq_true_eq] at hs; omega)
        clear hs
        have HGO := Lib.hid (gridB_ok Hg.out)
        have b0 := VRow.cell HB3.out (k := 0) rfl
        have b1 := VRow.cell HB3.out (k := 1) rfl
        have b2 := VRow.cell HB3.out (k := 2) rfl
        go_wp2_with fail
        clear b0 b1 b2
        refine (show Calls Try.prog 43 #[.slice a ps.length cap, gridV A B D] w3 _ from collisions_c _ ps A B D w3 HV3.out Hf.out HGO.out).mono ?_
        rintro e w4 ⟨b, rfl, hB4, _, hE⟩
        have HM4 := Lib.hid hB4
        have HB4 := Lib.hid (VRow.ext HB3.out hE)
        have HV4 := Lib.hid (HV3.out.ext hE)
        have HE4 := Lib.hid (Ext.trans HE3.out hE)
        have HSZ := Lib.hid (setD_size (ks := collL ps A B D) (fun q hq => near_pt (nearL_mem HGO.out (List.mem_filter.1 hq).1)))
        obtain ⟨sz, hsz⟩ : ∃ sz, sz = Maps.size (setD (collL ps A B D)) := ⟨_, rfl⟩
        have HSS := Lib.hid hsz
        have HLQ := Lib.hid (show (Builtin.len_ #[71] 3 #[.map (some b)]).run Try.prog w4 = .ok (.int .i64 (sz : Int)) w4 from by rw [hsz]; exact World.ownsMap.len (show w4.ownsMap (H := Unit) Try.prog 31 (plainElem Try.prog 4) b (collL ps A B D).length (setD (collL ps A B D)) from hB4) Try.underlying71 3)
        clear hB4 hE HB3 HV3 HE3 hsz
        by_cases hz : 0 < sz
        · have HR := Lib.hid (HBAD.out fun h => by have := HSZ.out.2 h.2.2.2; have := HSS.out; omega)
          have hzz : (0 : Int) < (sz : Int) := by omega
          have hlq := HLQ.out
          go_wp2_with fail
          clear hlq
          go_ret2
          exact ⟨HR.out _, HE4.out⟩
        · have HOK := Lib.hid (show layOk ps A B D W H from ⟨Hf.out, Hg.out, Hs.out, HSZ.out.1 (by have := HSS.out; omega)⟩)
          have hzz : ¬ (0 : Int) < (sz : Int) := by omega
          have b0 := VRow.cell HB4.out (k := 0) rfl
          have b1 := VRow.cell HB4.out (k := 1) rfl
          have b2 := VRow.cell HB4.out (k := 2) rfl
          have hlq := HLQ.out
          go_wp2_with fail
          clear hlq
          clear b0 b1 b2 hz hzz HM4
          refine (show Calls Try.prog 58 #[.slice a ps.length cap, gridV A B D, .int .i64 W, .int .i64 H] w4 _ from layouts_c _ ps A B D W H w4 HV4.out Hf.out Hg.out HWH.out.1 HWH.out.2).mono ?_
          rintro e w5 ⟨mb, rfl, hG, hlow, hE⟩
          obtain ⟨P, hP⟩ : ∃ P, P = placesL ps W H := ⟨_, rfl⟩
          rw [← hP] at hG
          have HPL := Lib.hid (show P.length ≤ 100000 from by rw [hP]; exact places_len Hf.out Hs.out)
          have HOW := Lib.hid (show w.heap.size ≤ mb from Nat.le_trans HE4.out.size hlow)
          have HON := Lib.hid (fun q (h : q ∈ P.map (offP A B D)) => off_near Hg.out h)
          have HEA := Lib.hid (Ext.alloc (Ext.refl w5) (.cells #[.map (some mb)] 85))
          have HG6 := Lib.hid (hG.ext HEA.out)
          have HX6 := Lib.hid (show VRow (w5.alloc (.cells #[.map (some mb)] 85)) w5.heap.size 85 [.map (some mb)] from vrow_alloc w5 [.map (some mb)] 85)
          have HE6 := Lib.hid (Ext.trans (Ext.trans HE4.out hE) HEA.out)
          have HPP := Lib.hid hP
          clear hG hlow hE HB4 HV4 HE4 hP HEA
          have m0 := VRow.cell HX6.out (k := 0) rfl
          go_wp2_with fail
          clear m0
          refine (firstKeyL_c (layP fun q => (grp (offP A B D) P q).length) (lay_self _) (lay_trans _) (.pointer (some ⟨w5.heap.size, 0, none⟩)) mb (P.map (offP A B D)) _ HG6.out.keys (fun q hq => (HON.out q hq).2) (by rw [List.length_map]; exact HPL.out) (fun Wx hx p hp q hq => lay_c w5.heap.size mb (mb + 1) (offP A B D) P p.1 p.2 q.1 q.2 Wx (Ext.cell hx (VRow.cell HX6.out (k := 0) rfl)) (HG6.out.ext hx) (HON.out p hp).1 (HON.out q hq).1)).mono ?_
          rintro e w7 ⟨hK, hE⟩
          have hkk : ∃ q : Pt, ∃ t : Bool, e = .returned (.tuple #[vecV q.1 q.2, .bool t]) ∧ LayO (offP A B D) P q ∧ nearPt q := by
            rcases hK with ⟨h0, rfl⟩ | ⟨q, hq, rfl⟩
            · exact ⟨(0, 0), false, rfl, .inl (List.map_eq_nil_iff.1 h0), by unfold nearPt; omega⟩
            · exact ⟨q, true, rfl, .inr hq, (HON.out q hq.1).1⟩
          obtain ⟨q, t, rfl, hlo, hnq⟩ := hkk
          have HLO := Lib.hid hlo
          have HX7 := Lib.hid (VRow.ext HX6.out hE)
          have e8 := Ext.alloc (Ext.refl w7) (.cells #[.int .i64 q.1, .int .i64 q.2] 31)
          have HX8 := Lib.hid (VRow.ext HX7.out e8)
          have HE8 := Lib.hid (Ext.trans HE6.out (Ext.trans hE e8))
          have HQ8 := Lib.hid (show VRow (w7.alloc (.cells #[.int .i64 q.1, .int .i64 q.2] 31)) w7.heap.size 31 [.int .i64 q.1, .int .i64 q.2] from vrow_alloc w7 [.int .i64 q.1, .int .i64 q.2] 31)
          obtain ⟨r, hr, hor⟩ := gmap_look (HG6.out.ext (Ext.trans hE e8)) hnq
          have HOR := Lib.hid hor
          clear hK hE hlo hnq e8 hor
          obtain ⟨qx, qy⟩ := q
          dsimp only at hr ⊢
          have m0 := VRow.cell HX8.out (k := 0) rfl
          have q0 := VRow.cell HQ8.out (k := 0) rfl
          have q1 := VRow.cell HQ8.out (k := 1) rfl
          go_wp2_with fail
          go_ret2
          refine ⟨.inr ⟨HOK.out, (qx, qy), r, ?_, rfl, ?_⟩, HE8.out⟩
          · rw [← HPP.out]; exact HLO.out
          · rw [← HPP.out]; exact row_baseU HOR.out (by have := HOW.out; omega)
end Go.Proofs.Ytnpebfchojalcaa

namespace Go.Proofs.Ytnpebfchojalcaa
set_option maxRecDepth 100000
open Go.RowKit Go.Shelf
attribute [local go_sem] Oper.semAt_some
/-! The reference's Lay. -/
theorem info3U : (Try.prog.info? 3).map (fun i => (i.zero, i.size, i.bytes)) = some (some (.int .i64 0), 1, 8) := by kernel_rfl
theorem run_make_intsN (n : Nat) (hn : n ≤ 1000000) (w : World) :
    (Instr.makeSlice 43 (.int .i64 (n : Int)) (.int .i64 (n : Int))).run Try.prog w = .ok (.slice (some ⟨w.heap.size, 0, none⟩) n n) (w.alloc (.cells (Array.replicate n (.int .i64 0)) 3)) := by
  obtain ⟨i, hi, hz, hs, hb⟩ := info_parts info3U
  have hr := run_make (P := Try.prog) w 43 3 i (.int .i64 0) Try.underlying43 hi hz .i64 .i64 n n (by omega) (Int.le_refl _) (by rw [hb]; omega) (by omega)
  simp only [Int.toNat_natCast, hs] at hr
  have e : (Value.int .i64 0).cells = #[Value.int .i64 0] := rfl
  rw [e, made_one, Nat.mul_one] at hr
  exact hr
/-- an offset's number -/
def idxN (D : Int) (q : Pt) : Nat := (q.1 * D + q.2).toNat
def cntZ (f : Pt → Pt) (D : Int) (T : List Pt) (i : Nat) : Nat := (T.filter fun v => decide (idxN D (f v) = i)).length
def cntL (N : Nat) (f : Pt → Pt) (D : Int) (T : List Pt) : List Int := (List.range N).map fun i => ((cntZ f D T i : Nat) : Int)
theorem cntL_zero (N : Nat) (f : Pt → Pt) (D : Int) : cntL N f D [] = List.replicate N 0 := by
  unfold cntL cntZ
  refine List.ext_getElem (by simp) fun i h1 h2 => ?_
  simp
theorem cntL_at {N : Nat} {f : Pt → Pt} {D : Int} {T : List Pt} {i : Nat} (hi : i < N) : (cntL N f D T)[i]? = some ((cntZ f D T i : Nat) : Int) := by
  unfold cntL
  simp [hi]
theorem cntZ_step {f : Pt → Pt} {D : Int} {L : List Pt} {k : Nat} (hk : k < L.length) (i : Nat) : cntZ f D (L.take (k + 1)) i = cntZ f D (L.take k) i + if idxN D (f (fromP L k)) = i then 1 else 0 := by
  have e : L.take (k + 1) = L.take k ++ [fromP L k] := by
    rw [List.take_add_one]
    congr 1
    unfold fromP
    rw [List.getD_eq_getElem?_getD, List.getElem?_eq_getElem hk]
    rfl
  unfold cntZ
  rw [e, List.filter_append, List.length_append]
  congr 1
  by_cases h : idxN D (f (fromP L k)) = i
  · rw [if_pos h]; simp [h]
  · rw [if_neg h]; simp [h]
theorem cntL_step {N : Nat} {f : Pt → Pt} {D : Int} {L : List Pt} {k ix : Nat} (hk : k < L.length) (hx : idxN D (f (fromP L k)) = ix) : cntL N f D (L.take (k + 1)) = (cntL N f D (L.take k)).set ix (((cntZ f D (L.take k) ix : Nat) : Int) + 1) := by
  refine List.ext_getElem (by simp [cntL]) fun i h1 h2 => ?_
  have hi : i < N := by simpa [cntL] using h1
  rw [List.getElem_set]
  have e1 : (cntL N f D (L.take (k + 1)))[i] = ((cntZ f D (L.take (k + 1)) i : Nat) : Int) := by simp [cntL]
  rw [e1, cntZ_step hk]
  by_cases h : ix = i
  · subst h
    rw [if_pos rfl, if_pos hx]
    simp
  · rw [if_neg h, if_neg (fun e => h (hx.symm.trans e))]
    simp [cntL]
theorem cntZ_le (f : Pt → Pt) (D : Int) (T : List Pt) (i : Nat) : cntZ f D T i ≤ T.length := List.length_filter_le _ _
/-- the numbers of offsets are as many, and an offset's number tells it -/
theorem idx_bd {A B D : Int} (hA : 1 ≤ A) (hD : 1 ≤ D) (v : Pt) : ((idxN D (offP A B D v) : Nat) : Int) = (offP A B D v).1 * D + (offP A B D v).2 ∧ (offP A B D v).1 * D + (offP A B D v).2 < A * D := by
  have h := offP_bd (B := B) hA hD v
  have h1 := Int.mul_nonneg h.1.1 (show 0 ≤ D by omega)
  have h2 := Int.mul_le_mul_of_nonneg_right (show (offP A B D v).1 ≤ A - 1 by omega) (show 0 ≤ D by omega)
  rw [Int.sub_mul] at h2
  unfold idxN
  omega
theorem idx_back {D x y : Int} (hD : 1 ≤ D) (hy : 0 ≤ y ∧ y < D) (hx : 0 ≤ x) {i : Nat} (h : (i : Int) = x * D + y) : (i : Int).tdiv D = x ∧ (i : Int).tmod D = y := by
  have e1 : (i : Int).tdiv D = (i : Int) / D := Int.tdiv_eq_ediv_of_nonneg (by omega)
  have e2 : (i : Int).tmod D = (i : Int) % D := Int.tmod_eq_emod_of_nonneg (by omega)
  rw [e1, e2, h, Int.add_comm, Int.add_mul_ediv_right _ _ (by omega), Int.add_mul_emod_self_right, Int.ediv_eq_zero_of_lt hy.1 hy.2, Int.emod_eq_of_lt hy.1 hy.2]
  omega
theorem cnt_grp {A B D : Int} (hA : 1 ≤ A) (hD : 1 ≤ D) (T : List Pt) (i : Nat) : cntZ (offP A B D) D T i = (grp (offP A B D) T ((i : Int).tdiv D, (i : Int).tmod D)).length := by
  unfold cntZ grp
  congr 1
  refine List.filter_congr fun v _ => ?_
  have h := offP_bd (B := B) hA hD v
  have hb := idx_bd (B := B) hA hD v
  rw [decide_eq_decide]
  constructor
  · intro e
    have := idx_back hD h.2 h.1.1 (i := i) (by rw [← e]; exact hb.1)
    exact Prod.ext this.1.symm this.2.symm
  · intro e
    rw [e] at hb
    dsimp only at hb
    have h3 : D * (i : Int).tdiv D + (i : Int).tmod D = i := Int.mul_tdiv_add_tmod _ _
    rw [Int.mul_comm] at h3
    rw [e]
    omega
theorem best_lay {A B D : Int} (hA : 1 ≤ A) (hD : 1 ≤ D) {L : List Pt} {N bst : Nat} (hN : (N : Int) = A * D) (h1 : ∀ j, j < N → cntZ (offP A B D) D L j ≤ cntZ (offP A B D) D L bst) (h2 : ∀ j, j < bst → cntZ (offP A B D) D L j < cntZ (offP A B D) D L bst) :
    LayO (offP A B D) L ((bst : Int).tdiv D, (bst : Int).tmod D) := by
  by_cases h0 : L = []
  · exact .inl h0
  · refine .inr ⟨?_, fun p hp => ?_⟩
    · obtain ⟨v, hv⟩ := List.exists_mem_of_ne_nil L h0
      have hb := idx_bd (B := B) hA hD v
      have hc : 0 < cntZ (offP A B D) D L (idxN D (offP A B D v)) := List.length_pos_of_mem (List.mem_filter.2 ⟨hv, decide_eq_true rfl⟩)
      have hc2 := h1 (idxN D (offP A B D v)) (by omega)
      rw [cnt_grp hA hD L bst] at hc2
      obtain ⟨u, hu⟩ := List.exists_mem_of_length_pos (show 0 < (grp (offP A B D) L ((bst : Int).tdiv D, (bst : Int).tmod D)).length by omega)
      obtain ⟨hu1, hu2⟩ := List.mem_filter.1 hu
      exact List.mem_map.2 ⟨u, hu1, of_decide_eq_true hu2⟩
    · obtain ⟨v, hv, rfl⟩ := List.mem_map.1 hp
      have hb := idx_bd (B := B) hA hD v
      have ho := offP_bd (B := B) hA hD v
      have hk := idx_back hD ho.2 ho.1.1 hb.1
      have e1 := cnt_grp (B := B) hA hD L (idxN D (offP A B D v))
      have e2 := cnt_grp (B := B) hA hD L bst
      rw [hk.1, hk.2] at e1
      have c1 := h1 (idxN D (offP A B D v)) (by omega)
      rw [lay_lt]
      dsimp only
      have e3 : ((offP A B D v).1, (offP A B D v).2) = offP A B D v := rfl
      rw [e3] at e1
      rw [← e1, ← e2]
      rintro (h | ⟨h, hl⟩)
      · omega
      · have h3 : D * (bst : Int).tdiv D + (bst : Int).tmod D = bst := Int.mul_tdiv_add_tmod _ _
        have h4 : 0 ≤ (bst : Int).tmod D := Int.tmod_nonneg _ (by omega)
        have h5 : (idxN D (offP A B D v) : Nat) < bst := by
          rcases hl with hl | ⟨hl, hl2⟩
          · have := Int.mul_le_mul_of_nonneg_right (show (offP A B D v).1 + 1 ≤ (bst : Int).tdiv D by omega) (show 0 ≤ D by omega)
            rw [Int.add_mul, Int.mul_comm ((bst : Int).tdiv D)] at this
            omega
          · rw [← hl, Int.mul_comm] at h3
            omega
        have := h2 _ h5
        omega
theorem cell_heldU {S : Nat → Prop} {A B : World} (h : Held S A B) {a : Addr} (ha : S a.block) : B.cell? a = A.cell? a := by
  unfold World.cell?
  rw [h.block _ ha]
def MP.rowL (base : Nat) (qs : List Pt) : MP := ⟨fun v W => W.ownsRow base 31 2 v qs.length (cellsOf qs), fun _ _ _ h hh => ownsRow_ext hh h⟩
set_option maxHeartbeats 16000000 in
theorem rLay_c (v : Value) (ps : List Pt) (A B D W H : Int) (w : World) (hv : Vecs w v ps) :
    Calls Try.prog 23 #[v, gridV A B D, .int .i64 W, .int .i64 H] w fun e w' => LayS ps A B D W H e w.heap.size w' ∧ Ext w w' := by
  obtain ⟨a, cap, rfl, hl, hm, _⟩ := hv.at
  have hE0 := Ext.alloc (Ext.refl w) (.cells #[.int .i64 A, .int .i64 B, .int .i64 D] 24)
  have HV := Lib.hid (hv.ext hE0)
  have HE0 := Lib.hid hE0
  have HB := Lib.hid (show VRow (w.alloc (.cells #[.int .i64 A, .int .i64 B, .int .i64 D] 24)) _ _ _ from vrow_alloc w [.int .i64 A, .int .i64 B, .int .i64 D] 24)
  have HVW := Lib.hid hv
  clear hv hE0
  obtain ⟨base, hbase⟩ : ∃ base, base = w.heap.size := ⟨_, rfl⟩
  have HBASE := Lib.hid (show base = w.heap.size from hbase)
  rw [← hbase]
  clear hbase
  have HBAD := Lib.hid (fun (h : ¬ layOk ps A B D W H) (w' : World) => (show LayS ps A B D W H (two (.slice none 0 0) (.int .i64 2)) base w' from .inl ⟨h, rfl⟩))
  have b0 := VRow.cell HB.out (k := 0) rfl
  have b1 := VRow.cell HB.out (k := 1) rfl
  have b2 := VRow.cell HB.out (k := 2) rfl
  unfold gridV
  go_enter Try.func23, Try.ntmps23
  go_wp2_with fail
  clear b0 b1 b2
  refine (show Calls Try.prog 17 #[.slice a ps.length cap, gridV A B D] _ _ from rAdmissible_c _ ps A B D _ HV.out).mono ?_
  rintro e w2 ⟨rfl, hE⟩
  have HV2 := Lib.hid (HV.out.ext hE)
  have HB2 := Lib.hid (VRow.ext HB.out hE)
  have HE2 := Lib.hid (Ext.trans HE0.out hE)
  clear hE HV HB HE0
  by_cases hbg : blankB ps = true ∧ gridB A B D = true
  · rw [show admR ps A B D = two (.bool (decide (collL ps A B D = []))) (.int .i64 0) by unfold admR; rw [if_pos hbg]]
    have HBG := Lib.hid hbg
    obtain ⟨ok, hok⟩ : ∃ ok, ok = decide (collL ps A B D = []) := ⟨_, rfl⟩
    have HOK := Lib.hid hok
    rw [← hok]
    clear hok hbg
    unfold two
    by_cases c0 : W < 1
    · have HR := Lib.hid (HBAD.out fun h => by have := h.2.2.1; simp only [sheetB, Bool.and_eq_true, decide_eq_true_eq] at this; omega)
      go_wp2_with fail
      go_ret2
      exact ⟨HR.out _, HE2.out⟩
    by_cases c1 : 100 < W
    · have HR := Lib.hid (HBAD.out fun h => by have := h.2.2.1; simp only [sheetB, Bool.and_eq_true, decide_eq_true_eq] at this; omega)
      go_wp2_with fail
      go_ret2
      exact ⟨HR.out _, HE2.out⟩
    by_cases c2 : H < 1
    · have HR := Lib.hid (HBAD.out fun h => by have := h.2.2.1; simp only [sheetB, Bool.and_eq_true, decide_eq_true_eq] at this; omega)
      go_wp2_with fail
      go_ret2
      exact ⟨HR.out _, HE2.out⟩
    by_cases c3 : 100 < H
    · have HR := Lib.hid (HBAD.out fun h => by have := h.2.2.1; simp only [sheetB, Bool.and_eq_true, decide_eq_true_eq] at this; omega)
      go_wp2_with fail
      go_ret2
      exact ⟨HR.out _, HE2.out⟩
    cases ok with
    | false =>
      have HR := Lib.hid (HBAD.out fun h => by have := HOK.out; rw [decide_eq_true h.2.2.2] at this; cases this)
      go_wp2_with fail
      go_ret2
      exact ⟨HR.out _, HE2.out⟩
    | true =>
      have HLO := Lib.hid (show layOk ps A B D W H from ⟨HBG.out.1, HBG.out.2, by simp only [sheetB, Bool.and_eq_true, decide_eq_true_eq]; omega, of_decide_eq_true HOK.out.symm⟩)
      have HWH := Lib.hid (show (1 ≤ W ∧ W ≤ 100) ∧ (1 ≤ H ∧ H ≤ 100) from by omega)
      have HGI := Lib.hid (gridB_iff.1 HBG.out.2)
      have hgi := HGI.out
      have hAD : 1 ≤ A * D ∧ A * D ≤ 160000 := ⟨by have := Int.mul_pos (show 0 < A by omega) (show 0 < D by omega); omega, by
        have := Int.mul_le_mul hgi.2.1 hgi.2.2.2.1 (by omega) (by omega)
        omega⟩
      obtain ⟨N, hN⟩ : ∃ N : Nat, (N : Int) = A * D := ⟨(A * D).toNat, by omega⟩
      have HN := Lib.hid hN
      have HNB := Lib.hid (show 1 ≤ N ∧ N ≤ 160000 from by omega)
      have hwad : IntKind.i64.wrap (A * D) = (N : Int) := by rw [hN]; exact IntWalk.i64_in _ (by omega)
      have hmk := run_make_intsN N (by omega) w2
      obtain ⟨s, hs⟩ : ∃ s, s = w.heap.size := ⟨_, rfl⟩
      rw [← hs] at HB2 ⊢
      have HSB := Lib.hid hs
      have b0 := VRow.cell HB2.out (k := 0) rfl
      have b2 := VRow.cell HB2.out (k := 2) rfl
      have HDB := Lib.hid (show 1 ≤ D ∧ D ≤ 400 from by omega)
      clear hgi hAD hN hs
      go_wp2_with fail
      clear hwad hmk b0 b2 c0 c1 c2 c3
      have hEm := Ext.alloc (Ext.refl w2) (.cells (Array.replicate N (.int .i64 0)) 3)
      have HM0 := Lib.hid (show IRow (w2.alloc (.cells (Array.replicate N (.int .i64 0)) 3)) w2.heap.size 3 (cntL N (offP A B D) D []) from by
        rw [cntL_zero]
        unfold IRow
        rw [List.map_replicate]
        exact vrow_rep w2 _ N 3)
      have HVm := Lib.hid (HV2.out.ext hEm)
      have HBm := Lib.hid (VRow.ext HB2.out hEm)
      have HEm := Lib.hid (Ext.trans HE2.out hEm)
      obtain ⟨M, hM⟩ : ∃ M, M = w2.heap.size := ⟨_, rfl⟩
      have HSM := Lib.hid (show s < M from by rw [hM]; exact VRow.lt HB2.out)
      have HMS := Lib.hid (show (w2.alloc (.cells (Array.replicate N (.int .i64 0)) 3)).heap.size = M + 1 from by rw [hM]; simp)
      rw [← hM] at HM0 ⊢
      generalize w2.alloc (.cells (Array.replicate N (.int .i64 0)) 3) = wm at *
      clear hM hEm HV2 HB2 HE2
      have HRP := Lib.hid (fun (W9 : World) (h9 : Vecs W9 (.slice a ps.length cap) ps) => rplaces_c _ ps W H W9 h9 HBG.out.1 HWH.out.1 HWH.out.2)
      have HNR := Lib.hid (fun v (hv : v ∈ placesL ps W H) => places_near HBG.out.1 HWH.out.1 HWH.out.2 hv)
      have HCP := Lib.hid (places_cap HBG.out.1 HWH.out.1 HWH.out.2)
      have HRC := Lib.hid (fun (x y : Int) (W9 : World) (h9 : Vecs W9 (.slice a ps.length cap) ps) => rClass_c _ ps A B D W H x y W9 h9 HBG.out.1 HBG.out.2 HWH.out.1 HWH.out.2)
      have HFIN := Lib.hid (fun (o : Pt) (r : Value) (w' : World) (h1 : LayO (offP A B D) (placesL ps W H) o) (h2 : w'.ownsRow base 31 2 r (grp (offP A B D) (placesL ps W H) o).length (cellsOf (grp (offP A B D) (placesL ps W H) o))) => (show LayS ps A B D W H (two r (.int .i64 0)) base w' from .inr ⟨HLO.out, o, r, h1, rfl, h2⟩))
      obtain ⟨L, hL⟩ : ∃ L, L = placesL ps W H := ⟨_, rfl⟩
      rw [← hL] at HRP HNR HCP HRC HFIN
      clear hL
      refine (HRP.out _ HVm.out).mono ?_
      rintro e w3 ⟨r, rfl, hr, hE⟩
      have hcp := HCP.out
      obtain ⟨a2, c2, rfl⟩ := row_slice hr
      obtain ⟨_, _, e9, hl2, hm2, hat⟩ := (vecs_own hr (by omega)).at
      injection e9 with e9 e10 e11
      subst e9 e11
      have hlow : ∀ j, (Value.slice a2 L.length c2).ownBlock = some j → M < j ∧ j < w3.heap.size := fun j hj => by have := row_block hr hj; have := HMS.out; omega
      have HAT := Lib.hid (show ∀ (k : Nat) (p : Pt), L[k]? = some p → ∃ b o, a2 = some ⟨b, o, none⟩ ∧ (M < b ∧ b < w3.heap.size) ∧ w3.cell? ⟨b, o + k * 2, none⟩ = some (.int .i64 p.1) ∧ w3.cell? ⟨b, o + k * 2 + 1, none⟩ = some (.int .i64 p.2) from fun k p hp => by
        obtain ⟨b, o, e9, q0, q1⟩ := hat k p hp
        subst e9
        exact ⟨b, o, rfl, hlow b rfl, q0, q1⟩)
      have HM3 := Lib.hid (VRow.ext HM0.out hE)
      have HV3 := Lib.hid (HVm.out.ext hE)
      have HB3 := Lib.hid (VRow.ext HBm.out hE)
      have HE3 := Lib.hid (Ext.trans HEm.out hE)
      have HM3L := Lib.hid (show M < w3.heap.size from by have := HMS.out; have := hE.size; omega)
      clear hr hE hat hlow HM0 HVm HBm HEm e10
      obtain ⟨n, hn⟩ : ∃ n, n = L.length := ⟨_, rfl⟩
      rw [← hn] at hl2 ⊢
      have HNN := Lib.hid hn
      clear hn hcp
      go_wp2_with fail
      go_loopw [14] (fun kv wr => ∃ k : Nat, kv = .int .i64 (k : Int) ∧ k ≤ n ∧ IRow wr M 3 (cntL N (offP A B D) D (L.take k)) ∧ Held (fun j => M < j ∧ j < w3.heap.size) w3 wr ∧ VRow wr s 24 [.int .i64 A, .int .i64 B, .int .i64 D] ∧ Ext w wr) (fun kv _ => n - (intOf kv).toNat)
      case atStart => exact ⟨0, rfl, Nat.zero_le _, HM3.out, Held.refl _ _, HB3.out, HE3.out⟩
      case round =>
        rename World => wr
        obtain ⟨k, rfl, hk, hM, hH, hB, hE⟩ := hrel
        have HMr := Lib.hid hM
        have HHr := Lib.hid hH
        have HBr := Lib.hid hB
        have HEr := Lib.hid hE
        clear hM hH hB hE
        by_cases hlt : k < n
        · have hkl : k < L.length := by have := HNN.out; omega
          obtain ⟨p, hp⟩ := getElem?_len hkl
          obtain ⟨b, o, e9, hbb, q0, q1⟩ := HAT.out k p hp
          subst e9
          have HPV := Lib.hid (fromP_of hp)
          have HPM := Lib.hid (List.mem_of_getElem? hp)
          have HCW := Lib.hid (show _ ∧ _ from ⟨(cell_heldU HHr.out (a := ⟨b, o + k * 2, none⟩) hbb).trans q0, (cell_heldU HHr.out (a := ⟨b, o + k * 2 + 1, none⟩) hbb).trans q1⟩)
          have hpb := HNR.out p HPM.out
          have hbd := idx_bd (B := B) HGI.out.1 HDB.out.1 p
          have hob := offP_bd (B := B) HGI.out.1 HDB.out.1 p
          have HST := Lib.hid (cntL_step (N := N) (f := offP A B D) (D := D) (L := L) (k := k) (ix := idxN D (offP A B D p)) hkl (by rw [HPV.out]))
          obtain ⟨ix, hix⟩ : ∃ ix, ix = idxN D (offP A B D p) := ⟨_, rfl⟩
          rw [← hix] at hbd HST
          have hixN : ix < N := by have := HN.out; omega
          have HIX := Lib.hid hixN
          obtain ⟨cc, hcc⟩ : ∃ cc : Nat, cc = cntZ (offP A B D) D (L.take k) ix := ⟨_, rfl⟩
          rw [← hcc] at HST
          have HCC := Lib.hid (show cc ≤ 100000 from by rw [hcc]; exact Nat.le_trans (cntZ_le _ _ _ _) (Nat.le_trans (List.length_take_le' k L) HCP.out))
          have HCA := Lib.hid (show (cntL N (offP A B D) D (L.take k))[ix]? = some ((cc : Nat) : Int) from by rw [hcc]; exact cntL_at hixN)
          clear hix hcc hp hkl q0 q1 HPM hbb
          obtain ⟨x, y⟩ := p
          dsimp only at HCW hpb
          obtain ⟨q, hq⟩ : ∃ q, q = offP A B D (x, y) := ⟨_, rfl⟩
          rw [← hq] at hbd hob
          have HCALL := Lib.hid (fun (W9 : World) => (show Calls Try.prog 40 #[gridV A B D, vecV x y] W9 fun e w' => e = .returned (vecV q.1 q.2) ∧ Ext W9 w' from by
            have h8 := rOffset_c A B D x y W9 HBG.out.2 hpb.1 hpb.2
            rw [← hq] at h8
            exact h8))
          clear hq
          obtain ⟨qx, qy⟩ := q
          dsimp only at hbd hob HCALL
          have hmb : 0 ≤ qx * D ∧ qx * D ≤ 160000 := by
            have := Int.mul_nonneg hob.1.1 (show 0 ≤ D by have := HDB.out; omega)
            have := HNB.out
            have := HN.out
            omega
          have HW1 := Lib.hid (IntWalk.i64_in (qx * D) (by omega))
          have HW2 := Lib.hid (show IntKind.i64.wrap (qx * D + qy) = (ix : Int) from by rw [hbd.1]; exact IntWalk.i64_in _ (by have := HNB.out; omega))
          have HW3 := Lib.hid (IntWalk.i64_in ((cc : Int) + 1) (by have := HCC.out; omega))
          have HLK := Lib.hid hlt
          unfold gridV at HCALL
          clear hpb hbd hob hmb hixN
          go_wp2_with fail
          refine wp_region_stable_last [⟨[], none⟩, ⟨[], none⟩, ⟨[], none⟩, ⟨[(1, 62), (2, 63)], none⟩, ⟨[(3, 64)], none⟩, ⟨[(0, 61), (4, 65)], none⟩, ⟨[], none⟩] (fun x y => Below x.heap.size x y) (MPat [MP.eq (.agg #[.int .i64 A, .int .i64 B, .int .i64 D]), MP.eq (.slice (some ⟨b, o, none⟩) n c2), MP.eq (.int .i64 k), MP.eq (.pointer (some ⟨b, o + k * 2, none⟩)), MP.eq (vecV x y), MP.eq (vecV qx qy), MP.ptr wr.heap.size]) rfl (by kernel_rfl) (fun _ _ _ h k => Ext.trans h k) (fun _ => Below.refl _ _) (fun x => (Below.refl x.heap.size x).drew) (MPat.mono _) (by kernel_rfl) (by kernel_rfl) (by kernel_rfl) ?obs ?rest
          case obs =>
            refine ⟨?_, ?_, ?_, ?_, ?_, ?_, ?_, trivial⟩
            · intro ev W9 hf _ _ hst hd
              have e5 : ev (.tmp 5) = .pointer (some ⟨s, 0, none⟩) := hf 5 (by kernel_rfl)
              have kk := VRow.ext HBr.out hst
              have k0 := VRow.cell kk (k := 0) rfl
              have k1 := VRow.cell kk (k := 1) rfl
              have k2 := VRow.cell kk (k := 2) rfl
              exact st_value (v := .agg #[.int .i64 A, .int .i64 B, .int .i64 D]) (by simp [execOp, go_sem, e5, k0, k1, k2]) (Below.refl _ _) rfl
            · intro ev W9 hf _ _ hst hd
              have e13 : ev (.tmp 13) = .slice (some ⟨b, o, none⟩) n c2 := hf 13 (by kernel_rfl)
              exact st_value (v := .slice (some ⟨b, o, none⟩) n c2) (by simp [execOp, go_sem, e13]) (Below.refl _ _) rfl
            · intro ev W9 hf _ _ hst hd
              have e14 : ev (.tmp 14) = .int .i64 k := hf 14 (by kernel_rfl)
              exact st_value (v := .int .i64 k) (by simp [execOp, go_sem, e14]) (Below.refl _ _) rfl
            · intro ev W9 hf _ _ hst hd
              obtain ⟨d62, d63, _⟩ := hd
              have e62 : ev (.tmp 62) = .slice (some ⟨b, o, none⟩) n c2 := d62
              have e63 : ev (.tmp 63) = .int .i64 k := d63
              have hlk := HLK.out
              exact st_value (v := .pointer (some ⟨b, o + k * 2, none⟩)) (by simp [execOp, go_sem, e62, e63, hlk]) (Below.refl _ _) rfl
            · intro ev W9 hf _ _ hst hd
              obtain ⟨d64, _⟩ := hd
              have e64 : ev (.tmp 64) = .pointer (some ⟨b, o + k * 2, none⟩) := d64
              have k0 := Ext.cell hst HCW.out.1
              have k1 := Ext.cell hst HCW.out.2
              exact st_value (v := vecV x y) (by simp [execOp, go_sem, e64, k0, k1, vecV]) (Below.refl _ _) rfl
            · intro ev W9 hf _ hfn hst hd
              obtain ⟨d61, d65, _⟩ := hd
              have e61 : ev (.tmp 61) = .agg #[.int .i64 A, .int .i64 B, .int .i64 D] := d61
              have e65 : ev (.tmp 65) = vecV x y := d65
              refine st_call (f := 40) (args := #[.agg #[.int .i64 A, .int .i64 B, .int .i64 D], vecV x y]) (by simp [execOp, go_sem, hfn, e61, e65]) (HCALL.out W9) (fun _ _ => rfl)
            · intro ev W9 hf _ hfn hst hd
              refine st_new (v := .pointer (some ⟨W9.heap.size, 0, none⟩)) (o := .cells #[.int .i64 0, .int .i64 0] 31) ?_ ?_
              · simp [execOp, go_sem]
              · exact ⟨_, rfl, vrow_alloc W9 [.int .i64 0, .int .i64 0] 31, by have := hst.size; omega⟩
          case rest =>
            intro vs w5 hl hst hg
            obtain ⟨t, et, ht, hts⟩ : ∃ t, vs[6]? = some (.pointer (some ⟨t, 0, none⟩)) ∧ VRow w5 t 31 [.int .i64 0, .int .i64 0] ∧ wr.heap.size ≤ t := by
              have hu : vs[6]? = some (vs[6]'(by rw [hl]; decide)) := List.getElem?_eq_getElem _
              obtain ⟨t, he, h1, h2⟩ := hg 6 _ hu
              exact ⟨t, by rw [hu, he], h1, h2⟩
            have hx0 : ∀ u, vs[0]? = some u → u = .agg #[.int .i64 A, .int .i64 B, .int .i64 D] := fun u hu => hg 0 u hu
            have hx1 : ∀ u, vs[1]? = some u → u = .slice (some ⟨b, o, none⟩) n c2 := fun u hu => hg 1 u hu
            have hx2 : ∀ u, vs[2]? = some u → u = .int .i64 k := fun u hu => hg 2 u hu
            have hx3 : ∀ u, vs[3]? = some u → u = .pointer (some ⟨b, o + k * 2, none⟩) := fun u hu => hg 3 u hu
            have hx4 : ∀ u, vs[4]? = some u → u = vecV x y := fun u hu => hg 4 u hu
            have hx5 : ∀ u, vs[5]? = some u → u = vecV qx qy := fun u hu => hg 5 u hu
            have HE5 := Lib.hid hst
            have HT := Lib.hid ht
            clear hg hst ht
            obtain ⟨x0, vs0, rfl, hl0⟩ := len_succ hl
            obtain ⟨x1, vs1, rfl, hl1⟩ := len_succ hl0
            obtain ⟨x2, vs2, rfl, hl2⟩ := len_succ hl1
            obtain ⟨x3, vs3, rfl, hl3⟩ := len_succ hl2
            obtain ⟨x4, vs4, rfl, hl4⟩ := len_succ hl3
            obtain ⟨x5, vs5, rfl, hl5⟩ := len_succ hl4
            obtain ⟨x6, vs6, rfl, hl6⟩ := len_succ hl5
            have hnil : vs6 = [] := List.length_eq_zero_iff.1 hl6
            subst hnil
            simp only [List.getElem?_cons_succ, List.getElem?_cons_zero, Option.some.injEq] at et
            subst et
            obtain rfl : x0 = .agg #[.int .i64 A, .int .i64 B, .int .i64 D] := hx0 _ rfl
            obtain rfl : x1 = .slice (some ⟨b, o, none⟩) n c2 := hx1 _ rfl
            obtain rfl : x2 = .int .i64 k := hx2 _ rfl
            obtain rfl : x3 = .pointer (some ⟨b, o + k * 2, none⟩) := hx3 _ rfl
            obtain rfl : x4 = vecV x y := hx4 _ rfl
            obtain rfl : x5 = vecV qx qy := hx5 _ rfl
            clear hx0 hx1 hx2 hx3 hx4 hx5
            simp only [putAll, Act.put, List.dropLast, List.setIfInBounds_toArray, List.set_cons_zero, List.set_cons_succ]
            have HE4 := Lib.hid (Ext.trans HEr.out HE5.out)
            have m0 := VRow.cell HT.out (k := 0) rfl
            have m1 := VRow.cell HT.out (k := 1) rfl
            have f0 := VRow.frozen HT.out 0 none
            have f1 := VRow.frozen HT.out 1 none
            obtain ⟨hv7, hE7⟩ := vec_put HE5.out HT.out hts (.int .i64 qx) (.int .i64 qy)
            have HV7 := Lib.hid hv7
            have HE7 := Lib.hid hE7
            have HB7 := Lib.hid (VRow.ext HBr.out hE7)
            have HM7 := Lib.hid (VRow.ext HMr.out hE7)
            have HX7 := Lib.hid (Ext.trans HEr.out hE7)
            clear hv7 hE7 hts
            have t0 := VRow.cell HV7.out (k := 0) rfl
            have t1 := VRow.cell HV7.out (k := 1) rfl
            have g2 := VRow.cell HB7.out (k := 2) rfl
            have mm := IRow.at HM7.out HCA.out
            have fm := VRow.frozen HM7.out ix none
            have w1 := HW1.out
            have w2 := HW2.out
            have w3z := HW3.out
            have hixN := HIX.out
            have hixZ : (ix : Int) < (N : Int) := by omega
            go_wp2_with fail
            clear m0 m1 f0 f1 t0 t1 g2 mm fm
            have hIP := IRow.put HM7.out ix ((cc : Int) + 1)
            rw [← HST.out] at hIP
            have hS1 := HSM.out
            have hM3 := HM3L.out
            refine ⟨⟨k + 1, by simp, by omega, hIP, ?_, VRow.setOther HB7.out (by simp; omega) _, ?_⟩, by simp [intOf]; omega⟩
            · refine Held.trans HHr.out (Held.trans (Held.ext HE7.out (fun j hj => by have := HHr.out.size; omega)) (Held.set _ _ _ (fun j hj => by show j ≠ M; omega)))
            · exact Below.setCell (p := ⟨M, ix, none⟩) HX7.out (by have := HSB.out; show w.heap.size ≤ M; omega) _
        · have hkn : k = n := by omega
          have HTK := Lib.hid (show L.take k = L from by rw [hkn, HNN.out, List.take_length])
          have HMf := Lib.hid (show IRow wr M 3 (cntL N (offP A B D) D L) from by have := HMr.out; rw [HTK.out] at this; exact this)
          clear hkn HMr HTK
          have HVf := Lib.hid (show Vecs wr (.slice a ps.length cap) ps from HVW.out.ext HEr.out)
          have hn1 := HNB.out
          go_wp2_with fail
          have HEr2 := Lib.hid (Ext.refl wr)
          go_loopw [16, 17] (fun bv iv wq => ∃ i bst : Nat, bv = .int .i64 (bst : Int) ∧ iv = .int .i64 (i : Int) ∧ 1 ≤ i ∧ i ≤ N ∧ bst < i ∧ (∀ j, j < i → cntZ (offP A B D) D L j ≤ cntZ (offP A B D) D L bst) ∧ (∀ j, j < bst → cntZ (offP A B D) D L j < cntZ (offP A B D) D L bst) ∧ Ext wr wq) (fun _ iv _ => N - (intOf iv).toNat)
          case atStart => exact ⟨1, 0, rfl, rfl, Nat.le_refl _, hn1.1, by omega, fun j hj => (by rw [show j = 0 from by omega]; exact Nat.le_refl _), fun j hj => (by omega), HEr2.out⟩
          case round =>
            rename World => wq
            obtain ⟨i, bst, rfl, rfl, hi1, hiN, hbi, hmx, hfi, hE⟩ := hrel
            have HMX := Lib.hid hmx
            have HFI := Lib.hid hfi
            have HEq := Lib.hid hE
            clear hmx hfi hE
            by_cases hit : i < N
            · have hbN : bst < N := by omega
              have HMq := Lib.hid (VRow.ext HMf.out HEq.out)
              obtain ⟨ci, hci⟩ : ∃ ci : Nat, ci = cntZ (offP A B D) D L i := ⟨_, rfl⟩
              obtain ⟨cb, hcb⟩ : ∃ cb : Nat, cb = cntZ (offP A B D) D L bst := ⟨_, rfl⟩
              have HCI := Lib.hid (show (cntL N (offP A B D) D L)[i]? = some ((ci : Nat) : Int) from by rw [hci]; exact cntL_at hit)
              have HCB := Lib.hid (show (cntL N (offP A B D) D L)[bst]? = some ((cb : Nat) : Int) from by rw [hcb]; exact cntL_at hbN)
              have HIT := Lib.hid hit
              have HBN := Lib.hid hbN
              have HEI := Lib.hid (And.intro hci hcb)
              clear hci hcb
              by_cases hgt : cb < ci
              · have HGT := Lib.hid hgt
                have hz : (cb : Int) < (ci : Int) := by omega
                go_wp2_with fail
                refine wp_region_stable [⟨[], none⟩, ⟨[], none⟩, ⟨[(0, 86), (1, 87)], none⟩, ⟨[(2, 88)], none⟩, ⟨[], none⟩, ⟨[], none⟩, ⟨[(4, 90), (5, 91)], none⟩, ⟨[(6, 92)], none⟩, ⟨[(3, 89), (7, 93)], none⟩] (fun x y => Below x.heap.size x y) (MPat [MP.eq (.slice (some ⟨M, 0, none⟩) N N), MP.eq (.int .i64 i), MP.eq (.pointer (some ⟨M, i, none⟩)), MP.eq (.int .i64 ci), MP.eq (.slice (some ⟨M, 0, none⟩) N N), MP.eq (.int .i64 bst), MP.eq (.pointer (some ⟨M, bst, none⟩)), MP.eq (.int .i64 cb), MP.eq (.bool true)]) (by kernel_rfl) (fun _ _ _ h k => Ext.trans h k) (fun _ => Below.refl _ _) (fun x => (Below.refl x.heap.size x).drew) (MPat.mono _) (by kernel_rfl) ?obs ?rest
                case obs =>
                  refine ⟨?_, ?_, ?_, ?_, ?_, ?_, ?_, ?_, ?_, trivial⟩
                  · intro ev W9 hf _ _ hst hd
                    have e12 : ev (.tmp 12) = .slice (some ⟨M, 0, none⟩) N N := hf 12 (by kernel_rfl)
                    exact st_value (v := .slice (some ⟨M, 0, none⟩) N N) (by simp [execOp, go_sem, e12]) (Below.refl _ _) rfl
                  · intro ev W9 hf _ _ hst hd
                    have e17 : ev (.tmp 17) = .int .i64 i := hf 17 (by kernel_rfl)
                    exact st_value (v := .int .i64 i) (by simp [execOp, go_sem, e17]) (Below.refl _ _) rfl
                  · intro ev W9 hf _ _ hst hd
                    obtain ⟨d86, d87, _⟩ := hd
                    have e86 : ev (.tmp 86) = .slice (some ⟨M, 0, none⟩) N N := d86
                    have e87 : ev (.tmp 87) = .int .i64 i := d87
                    have h9 := HIT.out
                    exact st_value (v := .pointer (some ⟨M, i, none⟩)) (by simp [execOp, go_sem, e86, e87, h9]) (Below.refl _ _) rfl
                  · intro ev W9 hf _ _ hst hd
                    obtain ⟨d88, _⟩ := hd
                    have e88 : ev (.tmp 88) = .pointer (some ⟨M, i, none⟩) := d88
                    have k0 := IRow.at (VRow.ext HMq.out hst) HCI.out
                    exact st_value (v := .int .i64 ci) (by simp [execOp, go_sem, e88, k0]) (Below.refl _ _) rfl
                  · intro ev W9 hf _ _ hst hd
                    have e12 : ev (.tmp 12) = .slice (some ⟨M, 0, none⟩) N N := hf 12 (by kernel_rfl)
                    exact st_value (v := .slice (some ⟨M, 0, none⟩) N N) (by simp [execOp, go_sem, e12]) (Below.refl _ _) rfl
                  · intro ev W9 hf _ _ hst hd
                    have e16 : ev (.tmp 16) = .int .i64 bst := hf 16 (by kernel_rfl)
                    exact st_value (v := .int .i64 bst) (by simp [execOp, go_sem, e16]) (Below.refl _ _) rfl
                  · intro ev W9 hf _ _ hst hd
                    obtain ⟨d90, d91, _⟩ := hd
                    have e90 : ev (.tmp 90) = .slice (some ⟨M, 0, none⟩) N N := d90
                    have e91 : ev (.tmp 91) = .int .i64 bst := d91
                    have h9 := HBN.out
                    exact st_value (v := .pointer (some ⟨M, bst, none⟩)) (by simp [execOp, go_sem, e90, e91, h9]) (Below.refl _ _) rfl
                  · intro ev W9 hf _ _ hst hd
                    obtain ⟨d92, _⟩ := hd
                    have e92 : ev (.tmp 92) = .pointer (some ⟨M, bst, none⟩) := d92
                    have k0 := IRow.at (VRow.ext HMq.out hst) HCB.out
                    exact st_value (v := .int .i64 cb) (by simp [execOp, go_sem, e92, k0]) (Below.refl _ _) rfl
                  · intro ev W9 hf _ _ hst hd
                    obtain ⟨d89, d93, _⟩ := hd
                    have e89 : ev (.tmp 89) = .int .i64 ci := d89
                    have e93 : ev (.tmp 93) = .int .i64 cb := d93
                    have h9 := HGT.out
                    exact st_value (v := .bool true) (by simp [execOp, go_sem, e89, e93, h9]) (Below.refl _ _) rfl
                case rest =>
                  intro vs w3 hl hst hg
                  have hvs : vs = [.slice (some ⟨M, 0, none⟩) N N, .int .i64 i, .pointer (some ⟨M, i, none⟩), .int .i64 ci, .slice (some ⟨M, 0, none⟩) N N, .int .i64 bst, .pointer (some ⟨M, bst, none⟩), .int .i64 cb, .bool true] := vs_all hl hg
                  have HE3 := Lib.hid hst
                  clear hg hst hl
                  subst hvs
                  simp only [putAll, Act.put, List.setIfInBounds_toArray, List.set_cons_zero, List.set_cons_succ]
                  have hmx := HMX.out
                  have hfi := HFI.out
                  have hei := HEI.out
                  go_wp2_with fail
                  refine ⟨⟨i + 1, i, rfl, by simp, by omega, by omega, by omega, fun j hj => ?_, fun j hj => ?_, Ext.trans HEq.out HE3.out⟩, by simp [intOf]; omega⟩
                  · by_cases e : j = i
                    · rw [e]; exact Nat.le_refl _
                    · have := hmx j (by omega)
                      omega
                  · have := hmx j hj
                    omega
              · have HGT := Lib.hid hgt
                have hz : ¬ (cb : Int) < (ci : Int) := by omega
                go_wp2_with fail
                refine wp_region_stable [⟨[], none⟩, ⟨[], none⟩, ⟨[(0, 86), (1, 87)], none⟩, ⟨[(2, 88)], none⟩, ⟨[], none⟩, ⟨[], none⟩, ⟨[(4, 90), (5, 91)], none⟩, ⟨[(6, 92)], none⟩, ⟨[(3, 89), (7, 93)], none⟩] (fun x y => Below x.heap.size x y) (MPat [MP.eq (.slice (some ⟨M, 0, none⟩) N N), MP.eq (.int .i64 i), MP.eq (.pointer (some ⟨M, i, none⟩)), MP.eq (.int .i64 ci), MP.eq (.slice (some ⟨M, 0, none⟩) N N), MP.eq (.int .i64 bst), MP.eq (.pointer (some ⟨M, bst, none⟩)), MP.eq (.int .i64 cb), MP.eq (.bool false)]) (by kernel_rfl) (fun _ _ _ h k => Ext.trans h k) (fun _ => Below.refl _ _) (fun x => (Below.refl x.heap.size x).drew) (MPat.mono _) (by kernel_rfl) ?obs ?rest
                case obs =>
                  refine ⟨?_, ?_, ?_, ?_, ?_, ?_, ?_, ?_, ?_, trivial⟩
                  · intro ev W9 hf _ _ hst hd
                    have e12 : ev (.tmp 12) = .slice (some ⟨M, 0, none⟩) N N := hf 12 (by kernel_rfl)
                    exact st_value (v := .slice (some ⟨M, 0, none⟩) N N) (by simp [execOp, go_sem, e12]) (Below.refl _ _) rfl
                  · intro ev W9 hf _ _ hst hd
                    have e17 : ev (.tmp 17) = .int .i64 i := hf 17 (by kernel_rfl)
                    exact st_value (v := .int .i64 i) (by simp [execOp, go_sem, e17]) (Below.refl _ _) rfl
                  · intro ev W9 hf _ _ hst hd
                    obtain ⟨d86, d87, _⟩ := hd
                    have e86 : ev (.tmp 86) = .slice (some ⟨M, 0, none⟩) N N := d86
                    have e87 : ev (.tmp 87) = .int .i64 i := d87
                    have h9 := HIT.out
                    exact st_value (v := .pointer (some ⟨M, i, none⟩)) (by simp [execOp, go_sem, e86, e87, h9]) (Below.refl _ _) rfl
                  · intro ev W9 hf _ _ hst hd
                    obtain ⟨d88, _⟩ := hd
                    have e88 : ev (.tmp 88) = .pointer (some ⟨M, i, none⟩) := d88
                    have k0 := IRow.at (VRow.ext HMq.out hst) HCI.out
                    exact st_value (v := .int .i64 ci) (by simp [execOp, go_sem, e88, k0]) (Below.refl _ _) rfl
                  · intro ev W9 hf _ _ hst hd
                    have e12 : ev (.tmp 12) = .slice (some ⟨M, 0, none⟩) N N := hf 12 (by kernel_rfl)
                    exact st_value (v := .slice (some ⟨M, 0, none⟩) N N) (by simp [execOp, go_sem, e12]) (Below.refl _ _) rfl
                  · intro ev W9 hf _ _ hst hd
                    have e16 : ev (.tmp 16) = .int .i64 bst := hf 16 (by kernel_rfl)
                    exact st_value (v := .int .i64 bst) (by simp [execOp, go_sem, e16]) (Below.refl _ _) rfl
                  · intro ev W9 hf _ _ hst hd
                    obtain ⟨d90, d91, _⟩ := hd
                    have e90 : ev (.tmp 90) = .slice (some ⟨M, 0, none⟩) N N := d90
                    have e91 : ev (.tmp 91) = .int .i64 bst := d91
                    have h9 := HBN.out
                    exact st_value (v := .pointer (some ⟨M, bst, none⟩)) (by simp [execOp, go_sem, e90, e91, h9]) (Below.refl _ _) rfl
                  · intro ev W9 hf _ _ hst hd
                    obtain ⟨d92, _⟩ := hd
                    have e92 : ev (.tmp 92) = .pointer (some ⟨M, bst, none⟩) := d92
                    have k0 := IRow.at (VRow.ext HMq.out hst) HCB.out
                    exact st_value (v := .int .i64 cb) (by simp [execOp, go_sem, e92, k0]) (Below.refl _ _) rfl
                  · intro ev W9 hf _ _ hst hd
                    obtain ⟨d89, d93, _⟩ := hd
                    have e89 : ev (.tmp 89) = .int .i64 ci := d89
                    have e93 : ev (.tmp 93) = .int .i64 cb := d93
                    have h9 := HGT.out
                    exact st_value (v := .bool false) (by simp [execOp, go_sem, e89, e93, h9]) (Below.refl _ _) rfl
                case rest =>
                  intro vs w3 hl hst hg
                  have hvs : vs = [.slice (some ⟨M, 0, none⟩) N N, .int .i64 i, .pointer (some ⟨M, i, none⟩), .int .i64 ci, .slice (some ⟨M, 0, none⟩) N N, .int .i64 bst, .pointer (some ⟨M, bst, none⟩), .int .i64 cb, .bool false] := vs_all hl hg
                  have HE3 := Lib.hid hst
                  clear hg hst hl
                  subst hvs
                  simp only [putAll, Act.put, List.setIfInBounds_toArray, List.set_cons_zero, List.set_cons_succ]
                  have hmx := HMX.out
                  have hfi := HFI.out
                  have hei := HEI.out
                  go_wp2_with fail
                  refine ⟨⟨i + 1, bst, rfl, by simp, by omega, by omega, by omega, fun j hj => ?_, hfi, Ext.trans HEq.out HE3.out⟩, by simp [intOf]; omega⟩
                  by_cases e : j = i
                  · rw [e]; omega
                  · exact hmx j (by omega)
            · have hiN2 : i = N := by omega
              have HLY := Lib.hid (best_lay (A := A) (B := B) HGI.out.1 HDB.out.1 HN.out (fun j hj => HMX.out j (by omega)) HFI.out)
              have HVq := Lib.hid (HVf.out.ext HEq.out)
              have HBq := Lib.hid (VRow.ext HBr.out HEq.out)
              have HEw := Lib.hid (Ext.trans HEr.out HEq.out)
              have hD0 : D ≠ 0 := by have := HDB.out; omega
              have HD0 := Lib.hid hD0
              have hbb := HNB.out
              have hdv : 0 ≤ (bst : Int).tdiv D ∧ (bst : Int).tdiv D ≤ 160000 := by
                rw [Int.tdiv_eq_ediv_of_nonneg (by omega)]
                exact ⟨Int.ediv_nonneg (by omega) (by have := HDB.out; omega), Int.le_trans (Int.ediv_le_self _ (by omega)) (by omega)⟩
              have hmd : 0 ≤ (bst : Int).tmod D ∧ (bst : Int).tmod D ≤ 400 := by
                have h1 := Int.tmod_nonneg D (show 0 ≤ (bst : Int) by omega)
                have h2 := Int.tmod_lt_of_pos (bst : Int) (show 0 < D by have := HDB.out; omega)
                have := HDB.out
                omega
              have HW5 := Lib.hid (IntWalk.i64_in ((bst : Int).tdiv D) (by omega))
              obtain ⟨dv, hdvv⟩ : ∃ dv, dv = (bst : Int).tdiv D := ⟨_, rfl⟩
              obtain ⟨md, hmdd⟩ : ∃ md, md = (bst : Int).tmod D := ⟨_, rfl⟩
              rw [← hdvv, ← hmdd] at HLY
              rw [← hdvv] at HW5
              have HDV := Lib.hid (And.intro hdvv hmdd)
              clear hdv hmd hdvv hmdd hbb hiN2 hbi hiN
              go_wp2_with fail
              refine wp_region_stable [⟨[], none⟩, ⟨[], none⟩, ⟨[], none⟩, ⟨[], none⟩, ⟨[], none⟩, ⟨[], none⟩, ⟨[(5, 101)], none⟩, ⟨[(4, 100), (6, 102)], none⟩, ⟨[], none⟩, ⟨[], none⟩, ⟨[(9, 105)], none⟩, ⟨[(8, 104), (10, 106)], none⟩, ⟨[(7, 103), (11, 107)], none⟩, ⟨[(0, 96), (1, 97), (2, 98), (3, 99), (12, 108)], none⟩, ⟨[(13, 109)], none⟩, ⟨[], none⟩] (fun x y => Below x.heap.size x y) (MPat [MP.eq (.slice a ps.length cap), MP.eq (.agg #[.int .i64 A, .int .i64 B, .int .i64 D]), MP.eq (.int .i64 W), MP.eq (.int .i64 H), MP.eq (.int .i64 bst), MP.eq (.pointer (some ⟨s, 2, none⟩)), MP.eq (.int .i64 D), MP.eq (.int .i64 dv), MP.eq (.int .i64 bst), MP.eq (.pointer (some ⟨s, 2, none⟩)), MP.eq (.int .i64 D), MP.eq (.int .i64 md), MP.eq (vecV dv md), MP.rowL base (grp (offP A B D) L (dv, md)), MP.rowL base (grp (offP A B D) L (dv, md)), MP.eq (.int .i64 0)]) (by kernel_rfl) (fun _ _ _ h k => Ext.trans h k) (fun _ => Below.refl _ _) (fun x => (Below.refl x.heap.size x).drew) (MPat.mono _) (by kernel_rfl) ?obs ?rest
              case obs =>
                refine ⟨?_, ?_, ?_, ?_, ?_, ?_, ?_, ?_, ?_, ?_, ?_, ?_, ?_, ?_, ?_, ?_, trivial⟩
                · intro ev W9 hf _ _ hst hd
                  have e0 : ev (.tmp 0) = .slice a ps.length cap := hf 0 (by kernel_rfl)
                  exact st_value (v := .slice a ps.length cap) (by simp [execOp, go_sem, e0]) (Below.refl _ _) rfl
                · intro ev W9 hf _ _ hst hd
                  have e5 : ev (.tmp 5) = .pointer (some ⟨s, 0, none⟩) := hf 5 (by kernel_rfl)
                  have kk := VRow.ext HBq.out hst
                  have k0 := VRow.cell kk (k := 0) rfl
                  have k1 := VRow.cell kk (k := 1) rfl
                  have k2 := VRow.cell kk (k := 2) rfl
                  exact st_value (v := .agg #[.int .i64 A, .int .i64 B, .int .i64 D]) (by simp [execOp, go_sem, e5, k0, k1, k2]) (Below.refl _ _) rfl
                · intro ev W9 hf _ _ hst hd
                  have e2 : ev (.tmp 2) = .int .i64 W := hf 2 (by kernel_rfl)
                  exact st_value (v := .int .i64 W) (by simp [execOp, go_sem, e2]) (Below.refl _ _) rfl
                · intro ev W9 hf _ _ hst hd
                  have e3 : ev (.tmp 3) = .int .i64 H := hf 3 (by kernel_rfl)
                  exact st_value (v := .int .i64 H) (by simp [execOp, go_sem, e3]) (Below.refl _ _) rfl
                · intro ev W9 hf _ _ hst hd
                  have e16 : ev (.tmp 16) = .int .i64 bst := hf 16 (by kernel_rfl)
                  exact st_value (v := .int .i64 bst) (by simp [execOp, go_sem, e16]) (Below.refl _ _) rfl
                · intro ev W9 hf _ _ hst hd
                  have e5 : ev (.tmp 5) = .pointer (some ⟨s, 0, none⟩) := hf 5 (by kernel_rfl)
                  exact st_value (v := .pointer (some ⟨s, 2, none⟩)) (by simp [execOp, go_sem, e5]) (Below.refl _ _) rfl
                · intro ev W9 hf _ _ hst hd
                  obtain ⟨d101, _⟩ := hd
                  have e101 : ev (.tmp 101) = .pointer (some ⟨s, 2, none⟩) := d101
                  have kk := VRow.ext HBq.out hst
                  have k2 := VRow.cell kk (k := 2) rfl
                  exact st_value (v := .int .i64 D) (by simp [execOp, go_sem, e101, k2]) (Below.refl _ _) rfl
                · intro ev W9 hf _ _ hst hd
                  obtain ⟨d100, d102, _⟩ := hd
                  have e100 : ev (.tmp 100) = .int .i64 bst := d100
                  have e102 : ev (.tmp 102) = .int .i64 D := d102
                  have hd0 := HD0.out
                  have k0 := HDV.out.1
                  have k1 := HW5.out
                  exact st_value (v := .int .i64 dv) (by simp [execOp, go_sem, e100, e102, hd0, ← k0, k1]) (Below.refl _ _) rfl
                · intro ev W9 hf _ _ hst hd
                  have e16 : ev (.tmp 16) = .int .i64 bst := hf 16 (by kernel_rfl)
                  exact st_value (v := .int .i64 bst) (by simp [execOp, go_sem, e16]) (Below.refl _ _) rfl
                · intro ev W9 hf _ _ hst hd
                  have e5 : ev (.tmp 5) = .pointer (some ⟨s, 0, none⟩) := hf 5 (by kernel_rfl)
                  exact st_value (v := .pointer (some ⟨s, 2, none⟩)) (by simp [execOp, go_sem, e5]) (Below.refl _ _) rfl
                · intro ev W9 hf _ _ hst hd
                  obtain ⟨d105, _⟩ := hd
                  have e105 : ev (.tmp 105) = .pointer (some ⟨s, 2, none⟩) := d105
                  have kk := VRow.ext HBq.out hst
                  have k2 := VRow.cell kk (k := 2) rfl
                  exact st_value (v := .int .i64 D) (by simp [execOp, go_sem, e105, k2]) (Below.refl _ _) rfl
                · intro ev W9 hf _ _ hst hd
                  obtain ⟨d104, d106, _⟩ := hd
                  have e104 : ev (.tmp 104) = .int .i64 bst := d104
                  have e106 : ev (.tmp 106) = .int .i64 D := d106
                  have hd0 := HD0.out
                  have k0 := HDV.out.2
                  exact st_value (v := .int .i64 md) (by simp [execOp, go_sem, e104, e106, hd0, ← k0]) (Below.refl _ _) rfl
                · intro ev W9 hf _ _ hst hd
                  obtain ⟨d103, d107, _⟩ := hd
                  have e103 : ev (.tmp 103) = .int .i64 dv := d103
                  have e107 : ev (.tmp 107) = .int .i64 md := d107
                  exact st_value (v := vecV dv md) (by simp [execOp, go_sem, e103, e107]) (Below.refl _ _) rfl
                · intro ev W9 hf _ hfn hst hd
                  obtain ⟨d96, d97, d98, d99, d108, _⟩ := hd
                  have e96 : ev (.tmp 96) = .slice a ps.length cap := d96
                  have e97 : ev (.tmp 97) = .agg #[.int .i64 A, .int .i64 B, .int .i64 D] := d97
                  have e98 : ev (.tmp 98) = .int .i64 W := d98
                  have e99 : ev (.tmp 99) = .int .i64 H := d99
                  have e108 : ev (.tmp 108) = vecV dv md := d108
                  refine st_enter (f := 39) (args := #[.slice a ps.length cap, .agg #[.int .i64 A, .int .i64 B, .int .i64 D], .int .i64 W, .int .i64 H, vecV dv md]) (by simp [execOp, go_sem, hfn, e96, e97, e98, e99, e108]) ?_
                  refine (show Calls Try.prog 39 #[_, gridV A B D, _, _, vecV dv md] _ _ from HRC.out dv md W9 (HVq.out.ext hst)).mono ?_
                  rintro e w5 ⟨r, rfl, hr, hE⟩
                  exact ⟨r, rfl, hE, row_baseU2 hr (by have := hst.size; have := HEw.out.size; have := HBASE.out; omega)⟩
                · intro ev W9 hf _ hfn hst hd
                  obtain ⟨d109, _⟩ := hd
                  have d109 : (MP.rowL base (grp (offP A B D) L (dv, md))).p (ev (.tmp 109)) W9 := d109
                  refine st_value (v := ev (.tmp 109)) ?_ (Below.refl _ _) d109
                  simp [execOp, go_sem]
                · intro ev W9 hf hcst _ hst hd
                  exact st_value (v := .int .i64 0) (by simp [execOp, go_sem, hcst]) (Below.refl _ _) rfl
              case rest =>
                intro vs w3 hl hst hg
                have hx0 : ∀ u, vs[0]? = some u → u = .slice a ps.length cap := fun u hu => hg 0 u hu
                have hx1 : ∀ u, vs[1]? = some u → u = .agg #[.int .i64 A, .int .i64 B, .int .i64 D] := fun u hu => hg 1 u hu
                have hx2 : ∀ u, vs[2]? = some u → u = .int .i64 W := fun u hu => hg 2 u hu
                have hx3 : ∀ u, vs[3]? = some u → u = .int .i64 H := fun u hu => hg 3 u hu
                have hx4 : ∀ u, vs[4]? = some u → u = .int .i64 bst := fun u hu => hg 4 u hu
                have hx5 : ∀ u, vs[5]? = some u → u = .pointer (some ⟨s, 2, none⟩) := fun u hu => hg 5 u hu
                have hx6 : ∀ u, vs[6]? = some u → u = .int .i64 D := fun u hu => hg 6 u hu
                have hx7 : ∀ u, vs[7]? = some u → u = .int .i64 dv := fun u hu => hg 7 u hu
                have hx8 : ∀ u, vs[8]? = some u → u = .int .i64 bst := fun u hu => hg 8 u hu
                have hx9 : ∀ u, vs[9]? = some u → u = .pointer (some ⟨s, 2, none⟩) := fun u hu => hg 9 u hu
                have hx10 : ∀ u, vs[10]? = some u → u = .int .i64 D := fun u hu => hg 10 u hu
                have hx11 : ∀ u, vs[11]? = some u → u = .int .i64 md := fun u hu => hg 11 u hu
                have hx12 : ∀ u, vs[12]? = some u → u = vecV dv md := fun u hu => hg 12 u hu
                have hx13 : ∀ u, vs[13]? = some u → MP.p (MP.rowL base (grp (offP A B D) L (dv, md))) u w3 := fun u hu => hg 13 u hu
                have hx14 : ∀ u, vs[14]? = some u → MP.p (MP.rowL base (grp (offP A B D) L (dv, md))) u w3 := fun u hu => hg 14 u hu
                have hx15 : ∀ u, vs[15]? = some u → u = .int .i64 0 := fun u hu => hg 15 u hu
                have HE3 := Lib.hid hst
                clear hg hst
                obtain ⟨x0, vs0, rfl, hl0⟩ := len_succ hl
                obtain ⟨x1, vs1, rfl, hl1⟩ := len_succ hl0
                obtain ⟨x2, vs2, rfl, hl2⟩ := len_succ hl1
                obtain ⟨x3, vs3, rfl, hl3⟩ := len_succ hl2
                obtain ⟨x4, vs4, rfl, hl4⟩ := len_succ hl3
                obtain ⟨x5, vs5, rfl, hl5⟩ := len_succ hl4
                obtain ⟨x6, vs6, rfl, hl6⟩ := len_succ hl5
                obtain ⟨x7, vs7, rfl, hl7⟩ := len_succ hl6
                obtain ⟨x8, vs8, rfl, hl8⟩ := len_succ hl7
                obtain ⟨x9, vs9, rfl, hl9⟩ := len_succ hl8
                obtain ⟨x10, vs10, rfl, hl10⟩ := len_succ hl9
                obtain ⟨x11, vs11, rfl, hl11⟩ := len_succ hl10
                obtain ⟨x12, vs12, rfl, hl12⟩ := len_succ hl11
                obtain ⟨x13, vs13, rfl, hl13⟩ := len_succ hl12
                obtain ⟨x14, vs14, rfl, hl14⟩ := len_succ hl13
                obtain ⟨x15, vs15, rfl, hl15⟩ := len_succ hl14
                have hnil : vs15 = [] := List.length_eq_zero_iff.1 hl15
                subst hnil
                obtain rfl : x0 = .slice a ps.length cap := hx0 _ rfl
                obtain rfl : x1 = .agg #[.int .i64 A, .int .i64 B, .int .i64 D] := hx1 _ rfl
                obtain rfl : x2 = .int .i64 W := hx2 _ rfl
                obtain rfl : x3 = .int .i64 H := hx3 _ rfl
                obtain rfl : x4 = .int .i64 bst := hx4 _ rfl
                obtain rfl : x5 = .pointer (some ⟨s, 2, none⟩) := hx5 _ rfl
                obtain rfl : x6 = .int .i64 D := hx6 _ rfl
                obtain rfl : x7 = .int .i64 dv := hx7 _ rfl
                obtain rfl : x8 = .int .i64 bst := hx8 _ rfl
                obtain rfl : x9 = .pointer (some ⟨s, 2, none⟩) := hx9 _ rfl
                obtain rfl : x10 = .int .i64 D := hx10 _ rfl
                obtain rfl : x11 = .int .i64 md := hx11 _ rfl
                obtain rfl : x12 = vecV dv md := hx12 _ rfl
                replace hx13 := hx13 _ rfl
                replace hx14 := hx14 _ rfl
                obtain rfl : x15 = .int .i64 0 := hx15 _ rfl
                clear hx0 hx1 hx2 hx3 hx4 hx5 hx6 hx7 hx8 hx9 hx10 hx11 hx12 hx15
                simp only [putAll, Act.put, List.setIfInBounds_toArray, List.set_cons_zero, List.set_cons_succ]
                have HRW := Lib.hid hx14
                clear hx13 hx14
                go_wp2_with fail
                go_ret2
                exact ⟨HFIN.out (dv, md) _ _ HLY.out HRW.out, Ext.trans HEw.out HE3.out⟩
  · rw [show admR ps A B D = two (.bool false) (.int .i64 2) by unfold admR; rw [if_neg hbg]]
    have HR := Lib.hid (HBAD.out fun h => hbg ⟨h.1, h.2.1⟩)
    clear hbg
    unfold two
    go_wp2_with fail
    go_ret2
    exact ⟨HR.out _, HE2.out⟩
end Go.Proofs.Ytnpebfchojalcaa

namespace Go.Proofs.Ytnpebfchojalcaa
set_option maxRecDepth 100000
open Go.RowKit Go.Shelf
attribute [local go_sem] Oper.semAt_some
/-! The law of layouts: Lay against the reference, twice, with the first result overwritten. -/
theorem layO_one {f : Pt → Pt} {P : List Pt} {o q : Pt} (ho : LayO f P o) (hq : LayO f P q) : grp f P o = grp f P q := by
  rcases ho with h | ho
  · rw [h]; rfl
  rcases hq with h | hq
  · rw [h]; rfl
  have h1 := ho.2 q hq.1
  have h2 := hq.2 o ho.1
  rw [lay_lt] at h1 h2
  have : o = q := Prod.ext (by omega) (by omega)
  rw [this]
/-- a block whose first cells are numbers -/
def CellsI (W : World) (g n : Nat) : Prop := ∃ vs : List Value, VRow W g 31 vs ∧ n * 2 ≤ vs.length ∧ ∀ j, j < n * 2 → ∃ z : Int, vs[j]? = some (.int .i64 z)
theorem cellsI_of {W : World} {base g cap : Nat} {qs : List Pt} (h : W.ownsRow base 31 2 (.slice (some ⟨g, 0, none⟩) qs.length cap) qs.length (cellsOf qs)) : CellsI W g qs.length := by
  rcases h.2 with ⟨hv, _⟩ | ⟨g', cap', cur, hv, _, hc, hn, hm, hs, ht⟩
  · cases hv
  · injection hv with e1 _ e3
    injection e1 with e1
    injection e1 with e1 _ _
    subst e1 e3
    refine ⟨cur.toList, by unfold VRow; rw [Array.toArray_toList]; exact hc, by rw [show cur.toList.length = cur.size from Array.length_toList, hs]; exact Nat.mul_le_mul_right 2 hn, fun j hj => ?_⟩
    have hl : (cellsOf qs).length = qs.length * 2 := cellsOf_length qs
    have e : (cur.toList.take (qs.length * 2))[j]? = (cellsOf qs)[j]? := by rw [ht]
    rw [List.getElem?_take, if_pos hj] at e
    obtain ⟨u, hu⟩ : ∃ u, (cellsOf qs)[j]? = some u := ⟨_, List.getElem?_eq_getElem (by omega)⟩
    obtain ⟨k, q, _, hh⟩ := cellsOf_get qs j u hu
    rw [e, hu]
    rcases hh with ⟨_, rfl⟩ | ⟨_, rfl⟩
    · exact ⟨_, rfl⟩
    · exact ⟨_, rfl⟩
theorem CellsI.put {W : World} {g n : Nat} (h : CellsI W g n) (j : Nat) (z : Int) : CellsI (W.setCell ⟨g, j, none⟩ (.int .i64 z)) g n := by
  obtain ⟨vs, h1, h2, h3⟩ := h
  refine ⟨_, VRow.set h1 j (.int .i64 z), by rw [List.length_set]; exact h2, fun i hi => ?_⟩
  rw [List.getElem?_set]
  by_cases e : j = i
  · rw [if_pos e, if_pos (by omega)]
    exact ⟨z, rfl⟩
  · rw [if_neg e]
    exact h3 i hi
theorem CellsI.at {W : World} {g n j : Nat} (h : CellsI W g n) (hj : j < n * 2) : (∃ z : Int, W.cell? ⟨g, j, none⟩ = some (.int .i64 z)) ∧ W.frozen? ⟨g, j, none⟩ = false := by
  obtain ⟨vs, h1, _, h3⟩ := h
  obtain ⟨z, hz⟩ := h3 j hj
  exact ⟨⟨z, VRow.cell h1 hz⟩, VRow.frozen h1 j none⟩
set_option maxHeartbeats 16000000 in
theorem lays_none (v : Value) (ps : List Pt) (A B D W H : Int) (w : World) (hv : Vecs w v ps) (h60 : ps.length ≤ 60) (hno : ¬ layOk ps A B D W H) (han : ∀ x n c, v ≠ .slice (some x) n c) (hnl : NilO v) :
    Calls Try.prog 5 #[v, gridV A B D, .int .i64 W, .int .i64 H] w fun e w' => e = .returned (.bool true) ∧ Ext w w' := by
  have HV0 := Lib.hid hv
  have HNOK := Lib.hid hno
  obtain ⟨a, cap, rfl, hl, hm, hr⟩ := hv
  have hE0 := Ext.alloc (Ext.refl w) (.cells #[.int .i64 A, .int .i64 B, .int .i64 D] 24)
  have HE0 := Lib.hid hE0
  have HB0 := Lib.hid (show VRow (w.alloc (.cells #[.int .i64 A, .int .i64 B, .int .i64 D] 24)) _ _ _ from vrow_alloc w [.int .i64 A, .int .i64 B, .int .i64 D] 24)
  have HV := Lib.hid (HV0.out.ext hE0)
  have HRR := Lib.hid hr
  have HNL := Lib.hid hnl
  clear hE0 hr hnl HV0
  have Hd := Lib.hid (decide_eq_true h60)
  unfold gridV
  go_enter Try.func5, Try.ntmps5
  go_wp2_with fail
  refine (few_c a ps.length cap _ (by omega)).mono ?_
  rintro e w1 ⟨rfl, rfl⟩
  rw [Hd.out]
  obtain ⟨g, hg⟩ : ∃ g, g = w.heap.size := ⟨_, rfl⟩
  obtain ⟨w1, hw1⟩ : ∃ w1, w1 = w.alloc (.cells #[.int .i64 A, .int .i64 B, .int .i64 D] 24) := ⟨_, rfl⟩
  rw [← hg] at HB0 ⊢
  rw [← hw1] at HB0 HE0 HV ⊢
  have HW1 := Lib.hid hw1
  clear hg hw1
  obtain ⟨i0, hi0, hz0, hz1, hz2⟩ := info_parts info31
  have HI := Lib.hid hi0
  have HZ0 := Lib.hid hz0
  have HZ1 := Lib.hid hz1
  have HZ2 := Lib.hid hz2
  have hEa := Ext.alloc (Ext.refl w1) (.cells #[] 31)
  have HEa := Lib.hid hEa
  have HOA := Lib.hid (World.ownsRow_made (base := w1.heap.size) (e := 31) (size := 2) w1 #[] 0 (Nat.le_refl _) (by unfold maxLen; omega) rfl)
  clear hi0 hz0 hz1 hz2
  cases a with
  | some ad => exact absurd rfl (han ad _ _)
  | none =>
    obtain ⟨h0, h1⟩ := HNL.out _ _ rfl
    have hps : ps = [] := List.length_eq_zero_iff.1 h0
    subst hps
    subst h1
    clear hl hm h0 HRR HNL hEa
    have HBo := Lib.hid (VRow.alloc HB0.out (.cells #[] 31))
    have b0 := VRow.cell HBo.out (k := 0) rfl
    have b1 := VRow.cell HBo.out (k := 1) rfl
    have b2 := VRow.cell HBo.out (k := 2) rfl
    go_wp2_with (at_builtin; (refine wpList_append_own_none rfl _ _ 22 rfl w1.heap.size 31 i0 2 Try.underlying22 HI.out _ _ _ rfl HOA.out rfl ?_))
    clear b0 b1 b2
    have HO := Lib.hid (show Vecs (w1.alloc (.cells #[] 31)) (.slice (some ⟨w1.heap.size, 0, none⟩) 0 0) [] from ⟨_, 0, rfl, Nat.le_refl _, by omega, .inl rfl⟩)
    have HEo := Lib.hid HEa.out
    generalize w1.alloc (.cells #[] 31) = wo at *
    clear HEa HOA
    have HVo := Lib.hid (HV.out.ext HEo.out)
    have HE1 := Lib.hid (Ext.trans HE0.out HEo.out)
    clear HB0 HV HE0 HEo
    refine (show Calls Try.prog 23 #[.slice none 0 0, gridV A B D, .int .i64 W, .int .i64 H] wo _ from rLay_c _ ([] : List Pt) A B D W H wo HVo.out).mono ?_
    rintro e w2 ⟨hS, hE⟩
    have HB2 := Lib.hid (VRow.ext HBo.out hE)
    have HV2 := Lib.hid (HVo.out.ext hE)
    have HO2 := Lib.hid (HO.out.ext hE)
    have HE2 := Lib.hid (Ext.trans HE1.out hE)
    clear hE HBo HVo HO HE1
    rcases hS with ⟨hno, rfl⟩ | ⟨hyes, o, r, hlo, rfl, hrow⟩
    · have HNO := Lib.hid hno
      clear hno
      unfold two
      go_wp2_with fail
      go_loopw [12] (fun tv wr => ∃ t : Nat, tv = .int .i64 (t : Int) ∧ t ≤ 2 ∧ Ext w2 wr) (fun tv _ => 2 - (intOf tv).toNat)
      case atStart => exact ⟨0, rfl, by omega, Ext.refl _⟩
      case round =>
        rename World => wr
        obtain ⟨t, rfl, ht, hE⟩ := hrel
        have HEt := Lib.hid hE
        clear hE
        by_cases hlt : t < 2
        · have hltz : (t : Int) < 2 := by omega
          have HBr := Lib.hid (VRow.ext HB2.out HEt.out)
          have b0 := VRow.cell HBr.out (k := 0) rfl
          have b1 := VRow.cell HBr.out (k := 1) rfl
          have b2 := VRow.cell HBr.out (k := 2) rfl
          go_wp2_with fail
          clear b0 b1 b2
          refine (show Calls Try.prog 24 #[.slice (some ⟨w1.heap.size, 0, none⟩) 0 0, gridV A B D, .int .i64 W, .int .i64 H] wr _ from Lay_c _ ([] : List Pt) A B D W H wr (HO2.out.ext HEt.out)).mono ?_
          rintro e w3 ⟨hS, hE⟩
          have HE3 := Lib.hid (Ext.trans HEt.out hE)
          clear hE
          rcases hS with ⟨_, rfl⟩ | ⟨hy, _⟩
          · unfold two
            go_wp2_with fail
            refine (same_c (.slice none 0 0) (.slice none 0 0) [] w3 ⟨none, 0, rfl, Nat.le_refl _, by omega, .inl rfl⟩ ⟨none, 0, rfl, Nat.le_refl _, by omega, .inl rfl⟩).mono ?_
            rintro e w4 ⟨rfl, hE⟩
            have HE4 := Lib.hid (Ext.trans HE3.out hE)
            clear hE
            go_wp2_with fail
            go_loopw [15] (fun iv wq => iv = .int .i64 0 ∧ Ext w2 wq) (fun _ _ => 0)
            case atStart => exact ⟨rfl, HE4.out⟩
            case round =>
              rename World => wq
              obtain ⟨rfl, hE⟩ := hrel
              have HEq := Lib.hid hE
              clear hE
              go_wp2_with fail
              exact ⟨⟨t + 1, by simp, by omega, HEq.out⟩, by simp [intOf]; omega⟩
          · exact absurd hy HNO.out
        · have ht2 : t = 2 := by omega
          subst ht2
          have HOx := Lib.hid (HO2.out.ext HEt.out)
          have HVx := Lib.hid (HV2.out.ext HEt.out)
          have HEx := Lib.hid (Ext.trans HE2.out HEt.out)
          go_wp2_with fail
          refine (same_c _ _ ([] : List Pt) _ HOx.out HVx.out).mono ?_
          rintro e w8 ⟨rfl, hE⟩
          have HE8 := Lib.hid (Ext.trans HEx.out hE)
          clear hE
          go_wp2_with fail
          refine (alive_c _).mono ?_
          rintro e w9 ⟨rfl, hE9⟩
          go_wp2_with fail
          go_ret
          exact ⟨rfl, Ext.trans HE8.out hE9⟩
    · exact absurd hyes HNOK.out
set_option maxHeartbeats 16000000 in
theorem lays_bad (v : Value) (ps : List Pt) (A B D W H : Int) (w : World) (hv : Vecs w v ps) (h60 : ps.length ≤ 60) (hno : ¬ layOk ps A B D W H) (han : ∀ n c, v ≠ .slice none n c) (hnl : NilO v) :
    Calls Try.prog 5 #[v, gridV A B D, .int .i64 W, .int .i64 H] w fun e w' => e = .returned (.bool true) ∧ Ext w w' := by
  have HV0 := Lib.hid hv
  have HNOK := Lib.hid hno
  obtain ⟨a, cap, rfl, hl, hm, hr⟩ := hv
  have hE0 := Ext.alloc (Ext.refl w) (.cells #[.int .i64 A, .int .i64 B, .int .i64 D] 24)
  have HE0 := Lib.hid hE0
  have HB0 := Lib.hid (show VRow (w.alloc (.cells #[.int .i64 A, .int .i64 B, .int .i64 D] 24)) _ _ _ from vrow_alloc w [.int .i64 A, .int .i64 B, .int .i64 D] 24)
  have HV := Lib.hid (HV0.out.ext hE0)
  have HRR := Lib.hid hr
  have HNL := Lib.hid hnl
  clear hE0 hr hnl HV0
  have Hd := Lib.hid (decide_eq_true h60)
  unfold gridV
  go_enter Try.func5, Try.ntmps5
  go_wp2_with fail
  refine (few_c a ps.length cap _ (by omega)).mono ?_
  rintro e w1 ⟨rfl, rfl⟩
  rw [Hd.out]
  obtain ⟨g, hg⟩ : ∃ g, g = w.heap.size := ⟨_, rfl⟩
  obtain ⟨w1, hw1⟩ : ∃ w1, w1 = w.alloc (.cells #[.int .i64 A, .int .i64 B, .int .i64 D] 24) := ⟨_, rfl⟩
  rw [← hg] at HB0 ⊢
  rw [← hw1] at HB0 HE0 HV ⊢
  have HW1 := Lib.hid hw1
  clear hg hw1
  obtain ⟨i0, hi0, hz0, hz1, hz2⟩ := info_parts info31
  have HI := Lib.hid hi0
  have HZ0 := Lib.hid hz0
  have HZ1 := Lib.hid hz1
  have HZ2 := Lib.hid hz2
  have hEa := Ext.alloc (Ext.refl w1) (.cells #[] 31)
  have HEa := Lib.hid hEa
  have HOA := Lib.hid (World.ownsRow_made (base := w1.heap.size) (e := 31) (size := 2) w1 #[] 0 (Nat.le_refl _) (by unfold maxLen; omega) rfl)
  clear hi0 hz0 hz1 hz2
  cases a with
  | none => exact absurd rfl (han _ _)
  | some ad =>
    have HCL := Lib.hid (show ∀ (j : Nat) (u : Value), (cellsOf ps)[j]? = some u → (w1.alloc (.cells #[] 31)).cell? (ad.add j) = some u from fun j u hj => by
      rcases HRR.out with hr | ⟨b, off, ha, hc⟩
      · subst hr; simp [cellsOf] at hj
      · injection ha with ha
        subst ha
        exact ptsn_cells (PtsAt.ext (PtsAt.ext hc (by rw [HW1.out]; exact Ext.alloc (Ext.refl w) _)) hEa) j u hj)
    have hob : ∀ x, Value.ownBlock (.slice (some ⟨w1.heap.size, 0, none⟩) 0 0) = some x → w1.heap.size ≤ x := fun x e => Nat.le_of_eq (Option.some.inj e)
    clear hEa HRR HNL
    go_wp2_with (at_builtin; refine wpList_append_own _ rfl _ _ 22 rfl w1.heap.size 31 i0 (.agg #[.int .i64 0, .int .i64 0]) 2 16 Try.underlying22 HI.out HZ0.out HZ1.out HZ2.out rfl (by decide) _ _ _ rfl HOA.out ad ps.length cap (cellsOf ps) rfl (cellsOf_length ps) HCL.out cellsOf_one (by unfold maxLen; omega) (by omega) (by simp) ?_; intro vo wo hown' hgrow hnil; have HO4 := Lib.hid hown'; have HG4 := Lib.hid hgrow; clear hown' hgrow hnil; have HEo := Lib.hid (Below.grown HEa.out HG4.out (by simp) (fun x e => hob x e)); have HO := Lib.hid (show Vecs wo vo ps from (by have h := HO4.out; rw [Nat.zero_add, List.nil_append] at h; exact vecs_own h (by omega))); obtain ⟨ao, co, rfl, _, _, _⟩ := HO.out.at; have HBo := Lib.hid (VRow.ext HB0.out HEo.out); have b0 := VRow.cell HBo.out (k := 0) rfl; have b1 := VRow.cell HBo.out (k := 1) rfl; have b2 := VRow.cell HBo.out (k := 2) rfl)
    clear b0 b1 b2
    clear HEa HOA HO4 HG4 HCL hob
    have HVo := Lib.hid (HV.out.ext HEo.out)
    have HE1 := Lib.hid (Ext.trans HE0.out HEo.out)
    clear HB0 HV HE0 HEo
    refine (show Calls Try.prog 23 #[.slice (some ad) ps.length cap, gridV A B D, .int .i64 W, .int .i64 H] wo _ from rLay_c _ ps A B D W H wo HVo.out).mono ?_
    rintro e w2 ⟨hS, hE⟩
    have HB2 := Lib.hid (VRow.ext HBo.out hE)
    have HV2 := Lib.hid (HVo.out.ext hE)
    have HO2 := Lib.hid (HO.out.ext hE)
    have HE2 := Lib.hid (Ext.trans HE1.out hE)
    clear hE HBo HVo HO HE1
    rcases hS with ⟨hno, rfl⟩ | ⟨hyes, o, r, hlo, rfl, hrow⟩
    · have HNO := Lib.hid hno
      clear hno
      unfold two
      go_wp2_with fail
      go_loopw [12] (fun tv wr => ∃ t : Nat, tv = .int .i64 (t : Int) ∧ t ≤ 2 ∧ Ext w2 wr) (fun tv _ => 2 - (intOf tv).toNat)
      case atStart => exact ⟨0, rfl, by omega, Ext.refl _⟩
      case round =>
        rename World => wr
        obtain ⟨t, rfl, ht, hE⟩ := hrel
        have HEt := Lib.hid hE
        clear hE
        by_cases hlt : t < 2
        · have hltz : (t : Int) < 2 := by omega
          have HBr := Lib.hid (VRow.ext HB2.out HEt.out)
          have b0 := VRow.cell HBr.out (k := 0) rfl
          have b1 := VRow.cell HBr.out (k := 1) rfl
          have b2 := VRow.cell HBr.out (k := 2) rfl
          go_wp2_with fail
          clear b0 b1 b2
          refine (show Calls Try.prog 24 #[.slice ao ps.length co, gridV A B D, .int .i64 W, .int .i64 H] wr _ from Lay_c _ ps A B D W H wr (HO2.out.ext HEt.out)).mono ?_
          rintro e w3 ⟨hS, hE⟩
          have HE3 := Lib.hid (Ext.trans HEt.out hE)
          clear hE
          rcases hS with ⟨_, rfl⟩ | ⟨hy, _⟩
          · unfold two
            go_wp2_with fail
            refine (same_c (.slice none 0 0) (.slice none 0 0) [] w3 ⟨none, 0, rfl, Nat.le_refl _, by omega, .inl rfl⟩ ⟨none, 0, rfl, Nat.le_refl _, by omega, .inl rfl⟩).mono ?_
            rintro e w4 ⟨rfl, hE⟩
            have HE4 := Lib.hid (Ext.trans HE3.out hE)
            clear hE
            go_wp2_with fail
            go_loopw [15] (fun iv wq => iv = .int .i64 0 ∧ Ext w2 wq) (fun _ _ => 0)
            case atStart => exact ⟨rfl, HE4.out⟩
            case round =>
              rename World => wq
              obtain ⟨rfl, hE⟩ := hrel
              have HEq := Lib.hid hE
              clear hE
              go_wp2_with fail
              exact ⟨⟨t + 1, by simp, by omega, HEq.out⟩, by simp [intOf]; omega⟩
          · exact absurd hy HNO.out
        · have ht2 : t = 2 := by omega
          subst ht2
          have HOx := Lib.hid (HO2.out.ext HEt.out)
          have HVx := Lib.hid (HV2.out.ext HEt.out)
          have HEx := Lib.hid (Ext.trans HE2.out HEt.out)
          go_wp2_with fail
          refine (same_c _ _ ps _ HOx.out HVx.out).mono ?_
          rintro e w8 ⟨rfl, hE⟩
          have HE8 := Lib.hid (Ext.trans HEx.out hE)
          clear hE
          go_wp2_with fail
          refine (alive_c _).mono ?_
          rintro e w9 ⟨rfl, hE9⟩
          go_wp2_with fail
          go_ret
          exact ⟨rfl, Ext.trans HE8.out hE9⟩
    · exact absurd hyes HNOK.out
set_option maxHeartbeats 16000000 in
theorem lays_good (v : Value) (ps : List Pt) (A B D W H : Int) (w : World) (hv : Vecs w v ps) (h60 : ps.length ≤ 60) (hyes : layOk ps A B D W H) (han : ∀ n c, v ≠ .slice none n c) (hnl : NilO v) :
    Calls Try.prog 5 #[v, gridV A B D, .int .i64 W, .int .i64 H] w fun e w' => e = .returned (.bool true) ∧ Ext w w' := by
  have HV0 := Lib.hid hv
  have HOKK := Lib.hid hyes
  obtain ⟨a, cap, rfl, hl, hm, hr⟩ := hv
  have hE0 := Ext.alloc (Ext.refl w) (.cells #[.int .i64 A, .int .i64 B, .int .i64 D] 24)
  have HE0 := Lib.hid hE0
  have HB0 := Lib.hid (show VRow (w.alloc (.cells #[.int .i64 A, .int .i64 B, .int .i64 D] 24)) _ _ _ from vrow_alloc w [.int .i64 A, .int .i64 B, .int .i64 D] 24)
  have HV := Lib.hid (HV0.out.ext hE0)
  have HRR := Lib.hid hr
  have HNL := Lib.hid hnl
  clear hE0 hr hnl HV0
  have Hd := Lib.hid (decide_eq_true h60)
  unfold gridV
  go_enter Try.func5, Try.ntmps5
  go_wp2_with fail
  refine (few_c a ps.length cap _ (by omega)).mono ?_
  rintro e w1 ⟨rfl, rfl⟩
  rw [Hd.out]
  obtain ⟨g, hg⟩ : ∃ g, g = w.heap.size := ⟨_, rfl⟩
  obtain ⟨w1, hw1⟩ : ∃ w1, w1 = w.alloc (.cells #[.int .i64 A, .int .i64 B, .int .i64 D] 24) := ⟨_, rfl⟩
  rw [← hg] at HB0 ⊢
  rw [← hw1] at HB0 HE0 HV ⊢
  have HW1 := Lib.hid hw1
  clear hg hw1
  obtain ⟨i0, hi0, hz0, hz1, hz2⟩ := info_parts info31
  have HI := Lib.hid hi0
  have HZ0 := Lib.hid hz0
  have HZ1 := Lib.hid hz1
  have HZ2 := Lib.hid hz2
  have hEa := Ext.alloc (Ext.refl w1) (.cells #[] 31)
  have HEa := Lib.hid hEa
  have HOA := Lib.hid (World.ownsRow_made (base := w1.heap.size) (e := 31) (size := 2) w1 #[] 0 (Nat.le_refl _) (by unfold maxLen; omega) rfl)
  clear hi0 hz0 hz1 hz2
  cases a with
  | none => exact absurd rfl (han _ _)
  | some ad =>
    have HCL := Lib.hid (show ∀ (j : Nat) (u : Value), (cellsOf ps)[j]? = some u → (w1.alloc (.cells #[] 31)).cell? (ad.add j) = some u from fun j u hj => by
      rcases HRR.out with hr | ⟨b, off, ha, hc⟩
      · subst hr; simp [cellsOf] at hj
      · injection ha with ha
        subst ha
        exact ptsn_cells (PtsAt.ext (PtsAt.ext hc (by rw [HW1.out]; exact Ext.alloc (Ext.refl w) _)) hEa) j u hj)
    have hob : ∀ x, Value.ownBlock (.slice (some ⟨w1.heap.size, 0, none⟩) 0 0) = some x → w1.heap.size ≤ x := fun x e => Nat.le_of_eq (Option.some.inj e)
    clear hEa HRR HNL
    go_wp2_with (at_builtin; refine wpList_append_own _ rfl _ _ 22 rfl w1.heap.size 31 i0 (.agg #[.int .i64 0, .int .i64 0]) 2 16 Try.underlying22 HI.out HZ0.out HZ1.out HZ2.out rfl (by decide) _ _ _ rfl HOA.out ad ps.length cap (cellsOf ps) rfl (cellsOf_length ps) HCL.out cellsOf_one (by unfold maxLen; omega) (by omega) (by simp) ?_; intro vo wo hown' hgrow hnil; have HO4 := Lib.hid hown'; have HG4 := Lib.hid hgrow; clear hown' hgrow hnil; have HEo := Lib.hid (Below.grown HEa.out HG4.out (by simp) (fun x e => hob x e)); have HO := Lib.hid (show Vecs wo vo ps from (by have h := HO4.out; rw [Nat.zero_add, List.nil_append] at h; exact vecs_own h (by omega))); obtain ⟨ao, co, rfl, _, _, _⟩ := HO.out.at; have HBo := Lib.hid (VRow.ext HB0.out HEo.out); have b0 := VRow.cell HBo.out (k := 0) rfl; have b1 := VRow.cell HBo.out (k := 1) rfl; have b2 := VRow.cell HBo.out (k := 2) rfl)
    clear b0 b1 b2
    clear HEa HOA HO4 HG4 HCL hob
    have HVo := Lib.hid (HV.out.ext HEo.out)
    have HE1 := Lib.hid (Ext.trans HE0.out HEo.out)
    clear HB0 HV HE0 HEo
    refine (show Calls Try.prog 23 #[.slice (some ad) ps.length cap, gridV A B D, .int .i64 W, .int .i64 H] wo _ from rLay_c _ ps A B D W H wo HVo.out).mono ?_
    rintro e w2 ⟨hS, hE⟩
    have HB2 := Lib.hid (VRow.ext HBo.out hE)
    have HV2 := Lib.hid (HVo.out.ext hE)
    have HO2 := Lib.hid (HO.out.ext hE)
    have HE2 := Lib.hid (Ext.trans HE1.out hE)
    clear hE HBo HVo HO HE1
    rcases hS with ⟨hno, rfl⟩ | ⟨hyes, o, r, hlo, rfl, hrow⟩
    · exact absurd HOKK.out hno
    · have HYES := Lib.hid hyes
      have HLO := Lib.hid hlo
      have HROW := Lib.hid hrow
      have HGL := Lib.hid (show (grp (offP A B D) (placesL ps W H) o).length ≤ 100000 from Nat.le_trans (grp_le _ _ _) (places_len hyes.1 hyes.2.2.1))
      obtain ⟨LL, hLL⟩ : ∃ LL, LL = grp (offP A B D) (placesL ps W H) o := ⟨_, rfl⟩
      rw [← hLL] at HROW HGL
      have HLL := Lib.hid (fun q (hq : LayO (offP A B D) (placesL ps W H) q) => (layO_one hq hlo).trans hLL.symm)
      obtain ⟨ar, cr, rfl⟩ := row_slice hrow
      rw [← hLL] at HROW ⊢
      obtain ⟨n9, hn9⟩ : ∃ n9, n9 = LL.length := ⟨_, rfl⟩
      have HN9 := Lib.hid (show n9 ≤ 100000 from by rw [hn9]; exact HGL.out)
      rw [← hn9]
      have HNN := Lib.hid hn9
      clear hyes hlo hrow hLL hn9
      unfold two
      go_wp2_with fail
      go_loopw [12] (fun tv wr => ∃ t : Nat, tv = .int .i64 (t : Int) ∧ t ≤ 2 ∧ Ext w2 wr) (fun tv _ => 2 - (intOf tv).toNat)
      case atStart => exact ⟨0, rfl, by omega, Ext.refl _⟩
      case round =>
        rename World => wr
        obtain ⟨t, rfl, ht, hE⟩ := hrel
        have HEt := Lib.hid hE
        clear hE
        by_cases hlt : t < 2
        · have hltz : (t : Int) < 2 := by omega
          have HBr := Lib.hid (VRow.ext HB2.out HEt.out)
          have b0 := VRow.cell HBr.out (k := 0) rfl
          have b1 := VRow.cell HBr.out (k := 1) rfl
          have b2 := VRow.cell HBr.out (k := 2) rfl
          go_wp2_with fail
          clear b0 b1 b2
          refine (show Calls Try.prog 24 #[.slice ao ps.length co, gridV A B D, .int .i64 W, .int .i64 H] wr _ from Lay_c _ ps A B D W H wr (HO2.out.ext HEt.out)).mono ?_
          rintro e w3 ⟨hS, hE⟩
          have HE3 := Lib.hid (Ext.trans HEt.out hE)
          have HW3 := Lib.hid hE
          clear hE
          rcases hS with ⟨hn, _⟩ | ⟨_, q, rq, hq, rfl, hrq⟩
          · exact absurd HYES.out hn
          · rw [HLL.out q hq] at hrq
            obtain ⟨aq, cq, rfl⟩ := row_slice hrq
            have HRQ := Lib.hid hrq
            have HVQ := Lib.hid (show Vecs w3 (.slice aq n9 cq) LL from by rw [HNN.out]; exact vecs_own hrq (by have := HGL.out; omega))
            have HVR := Lib.hid (show Vecs w3 (.slice ar n9 cr) LL from by rw [HNN.out]; exact (vecs_own HROW.out (by have := HGL.out; omega)).ext HE3.out)
            rw [← HNN.out]
            clear hq hrq
            unfold two
            go_wp2_with fail
            refine (same_c (.slice aq n9 cq) (.slice ar n9 cr) LL w3 HVQ.out HVR.out).mono ?_
            rintro e w4 ⟨rfl, hE⟩
            have HE4 := Lib.hid (Ext.trans HE3.out hE)
            have HRQ4 := Lib.hid (ownsRow_ext HRQ.out hE)
            clear hE HRQ HE3 HW3 HVQ HVR
            have hg9 : ∃ gq, 0 < n9 → aq = some ⟨gq, 0, none⟩ ∧ wr.heap.size ≤ gq ∧ CellsI w4 gq n9 := by
              rcases HRQ4.out.2 with ⟨hv9, hx⟩ | ⟨g, cap9, cur, hv9, hg9, _⟩
              · exact ⟨0, fun h => by have := HNN.out; omega⟩
              · injection hv9 with hv9 _ _
                subst hv9
                exact ⟨g, fun _ => ⟨rfl, hg9, by rw [HNN.out]; exact cellsI_of HRQ4.out⟩⟩
            obtain ⟨gq, hgq⟩ := hg9
            have HGQ := Lib.hid hgq
            clear hgq
            go_wp2_with fail
            go_loopw [15] (fun iv wq => ∃ i : Nat, iv = .int .i64 (i : Int) ∧ i ≤ n9 ∧ (0 < n9 → CellsI wq gq n9) ∧ Ext w2 wq) (fun iv _ => n9 - (intOf iv).toNat)
            case atStart => exact ⟨0, rfl, Nat.zero_le _, fun h => (HGQ.out h).2.2, HE4.out⟩
            case round =>
              rename World => wq
              obtain ⟨i, rfl, hi, hC, hE⟩ := hrel
              have HC := Lib.hid hC
              have HEq := Lib.hid hE
              clear hC hE
              by_cases hit : i < n9
              · obtain ⟨rfl, hgl, _⟩ := HGQ.out (by omega)
                have HCQ := Lib.hid (HC.out (by omega))
                obtain ⟨⟨z, hz⟩, hf⟩ := HCQ.out.at (j := i * 2) (by omega)
                have HGL9 := Lib.hid hgl
                have hitz : (i : Int) < (n9 : Int) := by omega
                have hn9b := HN9.out
                clear hgl
                go_wp2_with fail
                exact ⟨⟨i + 1, by simp, by omega, fun _ => HCQ.out.put (i * 2) _, Below.setCell (p := ⟨gq, i * 2, none⟩) HEq.out (Nat.le_trans HEt.out.size HGL9.out) _⟩, by simp [intOf]; omega⟩
              · go_wp2_with fail
                exact ⟨⟨t + 1, by simp, by omega, HEq.out⟩, by simp [intOf]; omega⟩
        · have ht2 : t = 2 := by omega
          subst ht2
          have HOx := Lib.hid (HO2.out.ext HEt.out)
          have HVx := Lib.hid (HV2.out.ext HEt.out)
          have HEx := Lib.hid (Ext.trans HE2.out HEt.out)
          go_wp2_with fail
          refine (same_c _ _ ps _ HOx.out HVx.out).mono ?_
          rintro e w8 ⟨rfl, hE⟩
          have HE8 := Lib.hid (Ext.trans HEx.out hE)
          clear hE
          go_wp2_with fail
          refine (alive_c _).mono ?_
          rintro e w9 ⟨rfl, hE9⟩
          go_wp2_with fail
          go_ret
          exact ⟨rfl, Ext.trans HE8.out hE9⟩
set_option maxHeartbeats 16000000 in
theorem lays_law (v : Value) (ps : List Pt) (A B D W H : Int) (w : World) (hv : Vecs w v ps) (hnl : NilO v) :
    Calls Try.prog 5 #[v, gridV A B D, .int .i64 W, .int .i64 H] w fun e w' => e = .returned (.bool true) ∧ Ext w w' := by
  by_cases h60 : ps.length ≤ 60
  · obtain ⟨a, cap, rfl, hl, hm, hr⟩ := id hv
    cases a with
    | none =>
      have h0 := (hnl _ _ rfl).1
      have hps : ps = [] := List.length_eq_zero_iff.1 h0
      refine lays_none _ ps A B D W H w hv h60 (fun h => ?_) (fun x n c e => by cases e) hnl
      have := h.1
      rw [hps] at this
      exact absurd this (by decide)
    | some ad =>
      by_cases hok : layOk ps A B D W H
      · exact lays_good _ ps A B D W H w hv h60 hok (fun n c e => by cases e) hnl
      · exact lays_bad _ ps A B D W H w hv h60 hok (fun n c e => by cases e) hnl
  · have HV0 := Lib.hid hv
    obtain ⟨a, cap, rfl, hl, hm, hr⟩ := hv
    have hE0 := Ext.alloc (Ext.refl w) (.cells #[.int .i64 A, .int .i64 B, .int .i64 D] 24)
    have HE0 := Lib.hid hE0
    clear hE0 hr HV0
    have Hd := Lib.hid (decide_eq_false h60)
    unfold gridV
    go_enter Try.func5, Try.ntmps5
    go_wp2_with fail
    refine (few_c a ps.length cap _ (by omega)).mono ?_
    rintro e w1 ⟨rfl, rfl⟩
    rw [Hd.out]
    go_wp2_with fail
    refine (alive_c _).mono ?_
    rintro e w6 ⟨rfl, hE⟩
    go_wp2_with fail
    go_ret
    exact ⟨rfl, Ext.trans HE0.out hE⟩
end Go.Proofs.Ytnpebfchojalcaa
