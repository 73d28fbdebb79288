import Derived.Test.YtnoacppfgckohaaV30
import Derived.Test.YtnoacppfgckohaaM16
import Derived.Test.YtnoacppfgckohaaV25
namespace Go.Proofs.Ytnoacppfgckohaa
open Go.RowKit Go.Shelf
attribute [local go_sem] Oper.semAt_some
theorem grow0_c (w : World) : Calls Try.prog 62 #[.slice none 0 0, .int .i64 0] w fun e w' => e = .returned (.slice none 0 0) ∧ w = w' := by
  go_enter Try.func62, Try.ntmps62
  go_wp2
  all_goals go_ret
  all_goals exact ⟨rfl, rfl⟩
set_option maxRecDepth 100000 in
set_option maxHeartbeats 2000000 in
theorem concat0_c (B b1 o1 c1 b2 o2 c2 : Nat) (w : World) (hB : VRow w B 22 [.slice (some ⟨b1, o1, none⟩) 0 c1, .slice (some ⟨b2, o2, none⟩) 0 c2]) :
    Calls Try.prog 44 #[.slice (some ⟨B, 0, none⟩) 2 2] w fun e w' => ∃ v, e = .returned v ∧ w'.ownsRow w.heap.size 31 2 v 0 [] ∧ Ext w w' := by
  have HB := Lib.hid hB
  have hBl := VRow.lt hB
  clear hB
  go_enter Try.func44, Try.ntmps44
  go_wp2_with fail
  go_loopw [11, 3] (fun i s wr => wr = w ∧ s = .int .i64 0 ∧ ∃ k : Nat, k ≤ 2 ∧ i = .int .i64 k) (fun i _ _ => 2 - (intOf i).toNat)
  case atStart => exact ⟨rfl, rfl, 0, by omega, rfl⟩
  case round =>
    obtain ⟨hww, rfl, k, hk, rfl⟩ := hrel
    have hww := hww.symm
    subst hww
    by_cases h2 : k = 2
    · subst h2
      go_wp2_with fail
      refine (grow0_c w).mono ?_
      rintro e w2 ⟨rfl, rfl⟩
      obtain ⟨i0, hi, hz0, hz1, hz2⟩ := info_parts info31
      have HI := Lib.hid hi
      have HZ0 := Lib.hid hz0
      have HZ1 := Lib.hid hz1
      have HZ2 := Lib.hid hz2
      clear hi hz0 hz1 hz2
      go_wp2_with fail
      go_loopw [27, 6] (fun i s w3 => Ext w w3 ∧ w3.ownsRow w.heap.size 31 2 s 0 [] ∧ ∃ k : Nat, k ≤ 2 ∧ i = .int .i64 k) (fun i _ _ => 2 - (intOf i).toNat)
      case atStart => exact ⟨Ext.refl _, World.ownsRow_nil _ _ _ _, 0, by omega, rfl⟩
      case round =>
        obtain ⟨hE3, hO3, k, hk, rfl⟩ := hrel
        have HE3 := Lib.hid hE3
        have HO3 := Lib.hid hO3
        clear hE3 hO3
        by_cases h0 : k = 0
        · subst h0
          have q0 := VRow.cell (VRow.ext HB.out HE3.out) (k := 0) rfl
          have hlt := VRow.lt (VRow.ext HB.out HE3.out)
          go_wp2_with (at_builtin; refine wpList_append_own _ rfl _ _ 22 rfl w.heap.size 31 i0 (.agg #[.int .i64 0, .int .i64 0]) 2 16 Try.underlying22 HI.out HZ0.out HZ1.out HZ2.out rfl (by decide) _ _ _ rfl HO3.out ⟨b1, o1, none⟩ 0 c1 [] rfl rfl (fun j u h => by simp at h) (fun u h => by simp at h) (by unfold maxLen; omega) (by omega) HE3.out.size ?_; intro v' w' hown' hgrow hnil; have HO4 := Lib.hid hown'; have HG4 := Lib.hid hgrow; clear hown' hgrow hnil)
          refine ⟨⟨Below.grown HE3.out HG4.out HE3.out.size (fun j e => own_block HO3.out e), HO4.out, 1, by omega, by simp⟩, by simp [intOf]⟩
        · by_cases h1 : k = 1
          · subst h1
            have q0 := VRow.cell (VRow.ext HB.out HE3.out) (k := 1) rfl
            have hlt := VRow.lt (VRow.ext HB.out HE3.out)
            go_wp2_with (at_builtin; refine wpList_append_own _ rfl _ _ 22 rfl w.heap.size 31 i0 (.agg #[.int .i64 0, .int .i64 0]) 2 16 Try.underlying22 HI.out HZ0.out HZ1.out HZ2.out rfl (by decide) _ _ _ rfl HO3.out ⟨b2, o2, none⟩ 0 c2 [] rfl rfl (fun j u h => by simp at h) (fun u h => by simp at h) (by unfold maxLen; omega) (by omega) HE3.out.size ?_; intro v' w' hown' hgrow hnil; have HO4 := Lib.hid hown'; have HG4 := Lib.hid hgrow; clear hown' hgrow hnil)
            refine ⟨⟨Below.grown HE3.out HG4.out HE3.out.size (fun j e => own_block HO3.out e), HO4.out, 2, by omega, by simp⟩, by simp [intOf]⟩
          · obtain rfl : k = 2 := by omega
            go_wp2_with fail
            go_ret
            exact ⟨_, rfl, HO3.out, HE3.out⟩
    · by_cases h0 : k = 0
      · subst h0
        have q0 := VRow.cell HB.out (k := 0) rfl
        go_wp2
        exact ⟨⟨trivial, rfl, 1, by omega, by simp⟩, by simp [intOf]⟩
      · obtain rfl : k = 1 := by omega
        have q1 := VRow.cell HB.out (k := 1) rfl
        go_wp2
        exact ⟨⟨trivial, rfl, 2, by omega, by simp⟩, by simp [intOf]⟩
theorem concat_any (B b1 o1 c1 b2 o2 c2 : Nat) (ps qs : List Pt) (w : World) (hB : VRow w B 22 [.slice (some ⟨b1, o1, none⟩) ps.length c1, .slice (some ⟨b2, o2, none⟩) qs.length c2]) (h1 : PtsAt w b1 o1 ps) (h2 : PtsAt w b2 o2 qs)
    (hm1 : ps.length ≤ 1000) (hm2 : qs.length ≤ 1000) :
    Calls Try.prog 44 #[.slice (some ⟨B, 0, none⟩) 2 2] w fun e w' => ∃ v, e = .returned v ∧ w'.ownsRow w.heap.size 31 2 v (ps.length + qs.length) (cellsOf (ps ++ qs)) ∧ Ext w w' := by
  by_cases h0 : 0 < ps.length + qs.length
  · exact concat_c B b1 o1 c1 b2 o2 c2 ps qs w hB h1 h2 h0 hm1 hm2
  · obtain rfl : ps = [] := List.length_eq_zero_iff.1 (by omega)
    obtain rfl : qs = [] := List.length_eq_zero_iff.1 (by omega)
    exact concat0_c B b1 o1 c1 b2 o2 c2 w hB
theorem own_held {W W' : World} {base n g : Nat} {v : Value} {xs : List Value} (h : W.ownsRow base 31 2 v n xs) (hH : Held (fun j => j < W.heap.size ∧ j ≠ g) W W') (hg : v.ownBlock ≠ some g) : W'.ownsRow base 31 2 v n xs := by
  refine ⟨h.1, ?_⟩
  rcases h.2 with h | ⟨b, cap, cur, hv, hb, hc, r⟩
  · exact .inl h
  · refine .inr ⟨b, cap, cur, hv, hb, (hH.block b ⟨(Array.getElem?_eq_some_iff.1 hc).1, fun e => hg ?_⟩).trans hc, r⟩
    rw [hv, e]; rfl
theorem bendS_pos {s : List Pt} (h : s ≠ []) : 0 < (bendS s).length := by
  rw [← List.dropLast_concat_getLast h, bendS_snoc]
  simp
set_option maxRecDepth 100000 in
set_option maxHeartbeats 4000000 in
theorem hull_c (v : Value) (ps : List Pt) (w : World) (hv : Vecs w v ps) (hw : nearP ps) (hn : ps.length ≤ 200) :
    Calls Try.prog 28 #[v] w fun e w' => ∃ r s, e = .returned r ∧ s.Perm ps ∧ s.Pairwise leP ∧ Vecs w' r (hullP s) ∧ Ext w w' := by
  by_cases h0 : ps.length = 0
  · obtain ⟨a, cap, rfl, hl, hm, _⟩ := hv.at
    have e0 : ps = [] := List.length_eq_zero_iff.1 h0
    subst e0
    clear hv hw
    go_enter Try.func28, Try.ntmps28
    go_wp2
    go_ret
    exact ⟨_, [], rfl, List.Perm.refl _, List.Pairwise.nil, nil_vecs _, Ext.refl _⟩
  · obtain ⟨b, o, cap, rfl, hl, hm, hp⟩ := vecs_some hv (by omega)
    have HP := Lib.hid hp
    have HW := Lib.hid hw
    clear hv hp hw
    go_enter Try.func28, Try.ntmps28
    go_wp2_with fail
    refine (clone_c b o cap ps w HP.out (by omega) (by omega)).mono ?_
    rintro e w2 ⟨cv, rfl, hO, hE2⟩
    obtain ⟨g, cg, rfl, hg1, hg2, hcg, hcg2⟩ := own_form hO (by omega)
    have hsort := sortH_c g cg _ _ ps w2 hO rfl (fun _ _ => trivial) (by omega)
    have HE2 := Lib.hid hE2
    clear hO hE2
    go_wp2_with fail
    refine hsort.mono ?_
    rintro e w3 ⟨rfl, s, hperm, hpw, hO3, hH3⟩
    have HE3 := Lib.hid (held_ext hH3 HE2.out hg1)
    have hsl : s.length = ps.length := hperm.length_eq
    have HV3 := Lib.hid (show Vecs w3 (.slice (some ⟨g, 0, none⟩) ps.length cg) s from vecs_own (base := w.heap.size) (by rw [hsl]; exact hO3) (by omega))
    have HWS := Lib.hid (show wideP s from fun q hq => by have := HW.out q (hperm.mem_iff.1 hq); omega)
    have HWR := Lib.hid (show wideP s.reverse from fun q hq => HWS.out q (List.mem_reverse.1 hq))
    have HPM := Lib.hid hperm
    have HPW := Lib.hid (show s.Pairwise leP from hpw)
    have HO3 := Lib.hid hO3
    have hs0 : s ≠ [] := fun e => h0 (by rw [← hsl, e]; rfl)
    have hb1 := bendS_pos hs0
    have hb2 := bendS_pos (s := s.reverse) (by simpa using hs0)
    have hg3 : g < w3.heap.size := by
      rcases own_form HO3.out (by omega) with ⟨g', cap', e, h1, h2, _⟩
      injection e with e _ _
      injection e with e
      injection e with e
      omega
    have Hsl := Lib.hid hsl
    have hbl1 := (bendS_mem s s (List.prefix_refl _)).2
    have hbl2 := (bendS_mem s.reverse s.reverse (List.prefix_refl _)).2
    rw [List.length_reverse] at hbl2
    clear hsort hperm hpw hO3 hH3 HW hs0 HP
    go_wp2_with fail
    refine (bend_c _ s w3 HV3.out HWS.out (by omega)).mono ?_
    rintro e w4 ⟨r1, rfl, hO4, hE4⟩
    obtain ⟨g1, c1, rfl, hr1, hr1b, hc1, hc1b⟩ := own_form hO4 hb1
    have HO4 := Lib.hid hO4
    have HE4 := Lib.hid (Ext.trans HE3.out hE4)
    have HO34 := Lib.hid (ownsRow_ext HO3.out hE4)
    clear hO4 hE4
    go_wp2_with fail
    refine (reverse_c g cg _ _ s w4 HO34.out Hsl.out).mono ?_
    rintro e w5 ⟨rfl, hO5, hH5⟩
    have HO1 := Lib.hid (own_held HO4.out hH5 (show (some g1 : Option Nat) ≠ some g from fun e => by injection e with e; omega))
    have HV5 := Lib.hid (show Vecs w5 (.slice (some ⟨g, 0, none⟩) ps.length cg) s.reverse from vecs_own (base := w.heap.size) (by rw [List.length_reverse, hsl]; exact hO5) (by rw [List.length_reverse]; omega))
    have HE5 := Lib.hid (held_ext hH5 HE4.out hg1)
    clear hO5 hH5 HO34 HO4 HO3
    go_wp2_with fail
    refine (bend_c _ s.reverse w5 HV5.out HWR.out (by rw [List.length_reverse]; omega)).mono ?_
    rintro e w6 ⟨r2, rfl, hO6, hE6⟩
    obtain ⟨g2, c2, rfl, hr2, hr2b, hc2, hc2b⟩ := own_form hO6 hb2
    have hE6' := Ext.trans HE5.out hE6
    have HE6 := Lib.hid hE6'
    have HP1 := Lib.hid (own_pts (qs := (bendS s).reverse) (ownsRow_ext HO1.out hE6) (by simp) (by rw [List.length_reverse]; omega))
    have HP2 := Lib.hid (own_pts (qs := (bendS s.reverse).reverse) hO6 (by simp) (by rw [List.length_reverse]; omega))
    have HH := Lib.hid (show hullP s = (bendS s).reverse.take ((bendS s).length - 1) ++ (bendS s.reverse).reverse.take ((bendS s.reverse).length - 1) by
      unfold hullP
      rw [List.dropLast_eq_take, List.dropLast_eq_take, List.length_reverse, List.length_reverse])
    have HL1 := Lib.hid (show ((bendS s).reverse.take ((bendS s).length - 1)).length = (bendS s).length - 1 by rw [List.length_take, List.length_reverse]; omega)
    have HL2 := Lib.hid (show ((bendS s.reverse).reverse.take ((bendS s.reverse).length - 1)).length = (bendS s.reverse).length - 1 by rw [List.length_take, List.length_reverse]; omega)
    clear hO6 hE6 hE6' HO1 HV5 HV3 HE2 HE3 HE4 HE5 HWS HWR
    generalize (bendS s).reverse = A at *
    generalize (bendS s.reverse).reverse = B at *
    generalize hn1 : (bendS s).length = n1 at *
    generalize hn2 : (bendS s.reverse).length = n2 at *
    obtain ⟨m1, hm1⟩ : ∃ m1, m1 = n1 - 1 := ⟨_, rfl⟩
    obtain ⟨m2, hm2⟩ : ∃ m2, m2 = n2 - 1 := ⟨_, rfl⟩
    rw [← hm1, ← hm2] at HH
    rw [← hm1] at HL1
    rw [← hm2] at HL2
    have hc1' : m1 ≤ c1 := by omega
    have hc2' : m2 ≤ c2 := by omega
    have hm1' : m1 ≤ 200 := by omega
    have hm2' : m2 ≤ 200 := by omega
    have HW1 := Lib.hid (show IntKind.i64.wrap ((n1 : Int) - 1) = (m1 : Int) by rw [show (n1 : Int) - 1 = (m1 : Int) by omega]; exact IntWalk.i64_in _ (by omega))
    have HW2 := Lib.hid (show IntKind.i64.wrap ((n2 : Int) - 1) = (m2 : Int) by rw [show (n2 : Int) - 1 = (m2 : Int) by omega]; exact IntWalk.i64_in _ (by omega))
    clear hn1 hn2 hm1 hm2
    go_wp2_with fail
    refine wp_region_stable [⟨[], none⟩, ⟨[], none⟩, ⟨[(1, 20)], none⟩, ⟨[(2, 21)], none⟩, ⟨[(0, 19), (3, 22)], none⟩, ⟨[], none⟩, ⟨[], none⟩, ⟨[(6, 25)], none⟩, ⟨[(7, 26)], none⟩, ⟨[(5, 24), (8, 27)], none⟩, ⟨[(4, 23), (9, 28)], none⟩, ⟨[(10, 29)], none⟩, ⟨[(11, 30)], none⟩] (fun x y => Below x.heap.size x y) (MPat [MP.eq (.slice (some ⟨g1, 0, none⟩) n1 c1), MP.eq (.slice (some ⟨g1, 0, none⟩) n1 c1), MP.eq (.int .i64 n1), MP.eq (.int .i64 m1), MP.eq (.slice (some ⟨g1, 0, none⟩) m1 c1), MP.eq (.slice (some ⟨g2, 0, none⟩) n2 c2), MP.eq (.slice (some ⟨g2, 0, none⟩) n2 c2), MP.eq (.int .i64 n2), MP.eq (.int .i64 m2), MP.eq (.slice (some ⟨g2, 0, none⟩) m2 c2), MP.pair (.slice (some ⟨g1, 0, none⟩) m1 c1) (.slice (some ⟨g2, 0, none⟩) m2 c2), MP.own w6.heap.size (m1 + m2) (cellsOf (A.take m1 ++ B.take m2)), MP.own w6.heap.size (m1 + m2) (cellsOf (A.take m1 ++ B.take m2))]) (by kernel_rfl) (fun _ _ _ h k => Ext.trans h k) (fun _ => Below.refl _ _) (fun x => (Below.refl x.heap.size x).drew) (MPat.mono _) (by kernel_rfl) ?obs ?rest
    case obs =>
      refine ⟨?_, ?_, ?_, ?_, ?_, ?_, ?_, ?_, ?_, ?_, ?_, ?_, ?_, trivial⟩
      · intro ev W hf _ _ hst hd
        have e4 : ev (.tmp 4) = .slice (some ⟨g1, 0, none⟩) n1 c1 := hf 4 (by kernel_rfl)
        refine st_value (v := .slice (some ⟨g1, 0, none⟩) n1 c1) ?_ (Below.refl _ _) ?_
        · simp [execOp, go_sem, e4]
        · exact rfl
      · intro ev W hf _ _ hst hd
        have e4 : ev (.tmp 4) = .slice (some ⟨g1, 0, none⟩) n1 c1 := hf 4 (by kernel_rfl)
        refine st_value (v := .slice (some ⟨g1, 0, none⟩) n1 c1) ?_ (Below.refl _ _) ?_
        · simp [execOp, go_sem, e4]
        · exact rfl
      · intro ev W hf _ _ hst hd
        obtain ⟨d20, _⟩ := hd
        have e20 : ev (.tmp 20) = .slice (some ⟨g1, 0, none⟩) n1 c1 := d20
        refine st_value (v := .int .i64 n1) ?_ (Below.refl _ _) ?_
        · simp [go_sem, e20]
        · exact rfl
      · intro ev W hf hcst _ hst hd
        obtain ⟨d21, _⟩ := hd
        have e21 : ev (.tmp 21) = .int .i64 n1 := d21
        refine st_value (v := .int .i64 m1) ?_ (Below.refl _ _) ?_
        · simp [execOp, go_sem, e21, hcst, HW1.out]
        · exact rfl
      · intro ev W hf _ _ hst hd
        obtain ⟨d19, d22, _⟩ := hd
        have e19 : ev (.tmp 19) = .slice (some ⟨g1, 0, none⟩) n1 c1 := d19
        have e22 : ev (.tmp 22) = .int .i64 m1 := d22
        refine st_value (v := .slice (some ⟨g1, 0, none⟩) m1 c1) ?_ (Below.refl _ _) ?_
        · simp [execOp, go_sem, e19, e22, hc1']
        · exact rfl
      · intro ev W hf _ _ hst hd
        have e5 : ev (.tmp 5) = .slice (some ⟨g2, 0, none⟩) n2 c2 := hf 5 (by kernel_rfl)
        refine st_value (v := .slice (some ⟨g2, 0, none⟩) n2 c2) ?_ (Below.refl _ _) ?_
        · simp [execOp, go_sem, e5]
        · exact rfl
      · intro ev W hf _ _ hst hd
        have e5 : ev (.tmp 5) = .slice (some ⟨g2, 0, none⟩) n2 c2 := hf 5 (by kernel_rfl)
        refine st_value (v := .slice (some ⟨g2, 0, none⟩) n2 c2) ?_ (Below.refl _ _) ?_
        · simp [execOp, go_sem, e5]
        · exact rfl
      · intro ev W hf _ _ hst hd
        obtain ⟨d25, _⟩ := hd
        have e25 : ev (.tmp 25) = .slice (some ⟨g2, 0, none⟩) n2 c2 := d25
        refine st_value (v := .int .i64 n2) ?_ (Below.refl _ _) ?_
        · simp [go_sem, e25]
        · exact rfl
      · intro ev W hf hcst _ hst hd
        obtain ⟨d26, _⟩ := hd
        have e26 : ev (.tmp 26) = .int .i64 n2 := d26
        refine st_value (v := .int .i64 m2) ?_ (Below.refl _ _) ?_
        · simp [execOp, go_sem, e26, hcst, HW2.out]
        · exact rfl
      · intro ev W hf _ _ hst hd
        obtain ⟨d24, d27, _⟩ := hd
        have e24 : ev (.tmp 24) = .slice (some ⟨g2, 0, none⟩) n2 c2 := d24
        have e27 : ev (.tmp 27) = .int .i64 m2 := d27
        refine st_value (v := .slice (some ⟨g2, 0, none⟩) m2 c2) ?_ (Below.refl _ _) ?_
        · simp [execOp, go_sem, e24, e27, hc2']
        · exact rfl
      · intro ev W hf _ hfn hst hd
        obtain ⟨d23, d28, _⟩ := hd
        have e23 : ev (.tmp 23) = .slice (some ⟨g1, 0, none⟩) m1 c1 := d23
        have e28 : ev (.tmp 28) = .slice (some ⟨g2, 0, none⟩) m2 c2 := d28
        refine st_new (v := .slice (some ⟨W.heap.size, 0, none⟩) 2 2) (o := .cells #[.slice (some ⟨g1, 0, none⟩) m1 c1, .slice (some ⟨g2, 0, none⟩) m2 c2] 22) ?_ ?_
        · simp [execOp, go_sem, e23, e28]
        · exact ⟨_, rfl, vrow_alloc W [.slice (some ⟨g1, 0, none⟩) m1 c1, .slice (some ⟨g2, 0, none⟩) m2 c2] 22⟩
      · intro ev W hf _ hfn hst hd
        obtain ⟨d29, _⟩ := hd
        obtain ⟨rB, eB, hB⟩ := d29
        have e29 : ev (.tmp 29) = .slice (some ⟨rB, 0, none⟩) 2 2 := eB
        refine st_enter (f := 44) (args := #[.slice (some ⟨rB, 0, none⟩) 2 2]) (by simp [execOp, go_sem, hfn, e29]) ?_
        have h1 := concat_any rB g1 0 c1 g2 0 c2 (A.take m1) (B.take m2) W (by rw [HL1.out, HL2.out]; exact hB) (pts_take (PtsAt.ext HP1.out hst)) (pts_take (PtsAt.ext HP2.out hst)) (by rw [HL1.out]; omega) (by rw [HL2.out]; omega)
        rw [HL1.out, HL2.out] at h1
        refine h1.mono ?_
        rintro e w' ⟨v, rfl, hO, hE⟩
        exact ⟨v, rfl, hE, ownsRow_base hO hst.size⟩
      · intro ev W hf _ hfn hst hd
        obtain ⟨d30, _⟩ := hd
        clear hfn
        exact st_value (v := ev (.tmp 30)) (by simp [execOp, go_sem]) (Below.refl _ _) d30
    case rest =>
      intro vs w7 hl hst hg
      have hx0 : ∀ u, vs[0]? = some u → u = .slice (some ⟨g1, 0, none⟩) n1 c1 := fun u hu => hg 0 u hu
      have hx1 : ∀ u, vs[1]? = some u → u = .slice (some ⟨g1, 0, none⟩) n1 c1 := fun u hu => hg 1 u hu
      have hx2 : ∀ u, vs[2]? = some u → u = .int .i64 n1 := fun u hu => hg 2 u hu
      have hx3 : ∀ u, vs[3]? = some u → u = .int .i64 m1 := fun u hu => hg 3 u hu
      have hx4 : ∀ u, vs[4]? = some u → u = .slice (some ⟨g1, 0, none⟩) m1 c1 := fun u hu => hg 4 u hu
      have hx5 : ∀ u, vs[5]? = some u → u = .slice (some ⟨g2, 0, none⟩) n2 c2 := fun u hu => hg 5 u hu
      have hx6 : ∀ u, vs[6]? = some u → u = .slice (some ⟨g2, 0, none⟩) n2 c2 := fun u hu => hg 6 u hu
      have hx7 : ∀ u, vs[7]? = some u → u = .int .i64 n2 := fun u hu => hg 7 u hu
      have hx8 : ∀ u, vs[8]? = some u → u = .int .i64 m2 := fun u hu => hg 8 u hu
      have hx9 : ∀ u, vs[9]? = some u → u = .slice (some ⟨g2, 0, none⟩) m2 c2 := fun u hu => hg 9 u hu
      have hx10 : ∀ u, vs[10]? = some u → MP.p (MP.pair (.slice (some ⟨g1, 0, none⟩) m1 c1) (.slice (some ⟨g2, 0, none⟩) m2 c2)) u w7 := fun u hu => hg 10 u hu
      have hx11 : ∀ u, vs[11]? = some u → MP.p (MP.own w6.heap.size (m1 + m2) (cellsOf (A.take m1 ++ B.take m2))) u w7 := fun u hu => hg 11 u hu
      have hx12 : ∀ u, vs[12]? = some u → MP.p (MP.own w6.heap.size (m1 + m2) (cellsOf (A.take m1 ++ B.take m2))) u w7 := fun u hu => hg 12 u hu
      have HE3 := Lib.hid hst
      clear hg hst
      obtain ⟨x0, vs0, rfl, hl0⟩ := len_succ hl
      obtain ⟨x1, vs1, rfl, hl1⟩ := len_succ hl0
      obtain ⟨x2, vs2, rfl, hl2⟩ := len_succ hl1
      obtain ⟨x3, vs3, rfl, hl3⟩ := len_succ hl2
      obtain ⟨x4, vs4, rfl, hl4⟩ := len_succ hl3
      obtain ⟨x5, vs5, rfl, hl5⟩ := len_succ hl4
      obtain ⟨x6, vs6, rfl, hl6⟩ := len_succ hl5
      obtain ⟨x7, vs7, rfl, hl7⟩ := len_succ hl6
      obtain ⟨x8, vs8, rfl, hl8⟩ := len_succ hl7
      obtain ⟨x9, vs9, rfl, hl9⟩ := len_succ hl8
      obtain ⟨x10, vs10, rfl, hl10⟩ := len_succ hl9
      obtain ⟨x11, vs11, rfl, hl11⟩ := len_succ hl10
      obtain ⟨x12, vs12, rfl, hl12⟩ := len_succ hl11
      have hnil : vs12 = [] := List.length_eq_zero_iff.1 hl12
      subst hnil
      obtain rfl : x0 = .slice (some ⟨g1, 0, none⟩) n1 c1 := hx0 _ rfl
      obtain rfl : x1 = .slice (some ⟨g1, 0, none⟩) n1 c1 := hx1 _ rfl
      obtain rfl : x2 = .int .i64 n1 := hx2 _ rfl
      obtain rfl : x3 = .int .i64 m1 := hx3 _ rfl
      obtain rfl : x4 = .slice (some ⟨g1, 0, none⟩) m1 c1 := hx4 _ rfl
      obtain rfl : x5 = .slice (some ⟨g2, 0, none⟩) n2 c2 := hx5 _ rfl
      obtain rfl : x6 = .slice (some ⟨g2, 0, none⟩) n2 c2 := hx6 _ rfl
      obtain rfl : x7 = .int .i64 n2 := hx7 _ rfl
      obtain rfl : x8 = .int .i64 m2 := hx8 _ rfl
      obtain rfl : x9 = .slice (some ⟨g2, 0, none⟩) m2 c2 := hx9 _ rfl
      replace hx10 := hx10 _ rfl
      replace hx11 := hx11 _ rfl
      replace hx12 := hx12 _ rfl
      clear hx0 hx1 hx2 hx3 hx4 hx5 hx6 hx7 hx8 hx9
      simp only [putAll, Act.put, List.setIfInBounds_toArray, List.set_cons_zero, List.set_cons_succ]
      have hown := hx12
      have HO := Lib.hid (show w7.ownsRow w6.heap.size 31 2 x12 (m1 + m2) (cellsOf (A.take m1 ++ B.take m2)) from hown)
      clear hx10 hx11 hx12 hown
      go_wp2_with fail
      go_ret
      refine ⟨x12, s, rfl, HPM.out, HPW.out, ?_, Ext.trans HE6.out HE3.out⟩
      rw [HH.out]
      have hl : (A.take m1 ++ B.take m2).length = m1 + m2 := by rw [List.length_append, HL1.out, HL2.out]
      exact vecs_own (base := w6.heap.size) (by rw [hl]; exact HO.out) (by rw [hl]; omega)
end Go.Proofs.Ytnoacppfgckohaa
