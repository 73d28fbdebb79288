import Derived.Test.YtblaipkhmmaenaaG1
import Derived.Test.YtblaipkhmmaenaaStab
import Derived.Test.YtblaipkhmmaenaaL3
namespace Go.Proofs.Ytblaipkhmmaenaa
open Go.RowKit
def BestR (p : Who) (W : World) (v : Value) : Option (List Int) → Prop
  | none => v = .slice none 0 0
  | some x => ∃ g, v = .slice (some ⟨g, 0, none⟩) p.U.length p.U.length ∧ IRow W g 3 x ∧ feasB p x = true
theorem BestR.ext {p : Who} {W W' : World} {v : Value} {o : Option (List Int)} (h : BestR p W v o) (he : Ext W W') : BestR p W' v o := by
  cases o with
  | none => exact h
  | some x =>
    obtain ⟨g, e, hr, hf⟩ := h
    exact ⟨g, e, VRow.ext hr he, hf⟩
theorem best_first {p : Who} {k : Nat} (hs : satB p (vecAt p.U k) = true) (hb : bestK p k = none) : bestK p (k + 1) = some (vecAt p.U k) := by
  simp only [bestK]; rw [if_pos hs, hb]
theorem best_next {p : Who} {k : Nat} {x : List Int} (hs : satB p (vecAt p.U k) = true) (hb : bestK p k = some x) : bestK p (k + 1) = if dotZ p.C (vecAt p.U k) < dotZ p.C x then some (vecAt p.U k) else some x := by
  simp only [bestK]; rw [if_pos hs, hb]
theorem best_no {p : Who} {k : Nat} (hs : satB p (vecAt p.U k) = false) : bestK p (k + 1) = bestK p k := by
  simp only [bestK]; rw [if_neg (by simp [hs])]
theorem feas_vec {p : Who} (hv : whoB p = true) {k : Nat} (hk : k < sizeU p.U) : inBox p.U (vecAt p.U k) ∧ feasB p (vecAt p.U k) = satB p (vecAt p.U k) := by
  have hb := inBox_vecAt p.U k (fun z hz => ((whoP hv).2.2.1 z hz).1) hk
  refine ⟨hb, ?_⟩
  cases hs : satB p (vecAt p.U k) with
  | true => exact feas_of hb hs
  | false => simp [feasB, hs]
set_option maxRecDepth 100000 in
set_option maxHeartbeats 4000000 in
theorem ssolve_c (a b c u : Value) (p : Who) (w : World) (h : WhoAt w a b c u p) :
    Calls Try.prog 12 #[.agg #[a, b, c, u]] w fun e w' => Ext w w' ∧ ((whoB p = false ∧ e = .returned (.tuple #[.slice none 0 0, .int .i64 0, .int .i64 2])) ∨
      (whoB p = true ∧ bestK p (sizeU p.U) = none ∧ e = .returned (.tuple #[.slice none 0 0, .int .i64 0, .int .i64 10])) ∨
      (whoB p = true ∧ ∃ x v, bestK p (sizeU p.U) = some x ∧ e = .returned (.tuple #[v, .int .i64 (dotZ p.C x), .int .i64 0]) ∧ Ints w' v x)) := by
  obtain ⟨h0, h1, h2⟩ := who_box h
  have q0 := VRow.cell h0 (k := 0) rfl
  have q1 := VRow.cell h0 (k := 1) rfl
  have q2 := VRow.cell h0 (k := 2) rfl
  have q3 := VRow.cell h0 (k := 3) rfl
  change (w.alloc (.cells #[a, b, c, u] 25)).cell? _ = _ at q0 q1 q2 q3
  have HV := Lib.hid h0
  have HW := Lib.hid h1
  have HE := Lib.hid h2
  clear h h0 h1 h2
  go_enter Try.func12, Try.ntmps12
  go_wp2_with fail
  clear q0 q1 q2 q3
  generalize w.alloc (.cells #[a, b, c, u] 25) = w1 at *
  generalize hs : w.heap.size = s at *
  refine (svalid_c a b c u p _ HW.out).mono ?_
  rintro e w2 ⟨rfl, hE2⟩
  have HV2 := Lib.hid (VRow.ext HV.out hE2)
  have HW2 := Lib.hid (HW.out.ext hE2)
  have HE2 := Lib.hid (HE.out.trans hE2)
  clear HV HW HE hE2
  cases hw : whoB p
  · have Hw := Lib.hid hw
    clear hw
    go_wp2_with fail
    exact bodyPost_ret (v := .tuple #[.slice none 0 0, .int .i64 0, .int .i64 2]) (by simp [results, Try.results12, go_sem]) rfl ⟨HE2.out, .inl ⟨Hw.out, rfl⟩⟩
  · have Hw := Lib.hid hw
    clear hw
    have hN : sizeU p.U ≤ 32768 := by
      refine Nat.le_trans (sizeU_le p.U (fun z hz => ((whoP Hw.out).2.2.1 z hz).2)) ?_
      exact Nat.pow_le_pow_right (n := 8) (by omega) (show p.U.length ≤ 5 by have := whoP Hw.out; omega)
    go_wp2_with fail
    go_loopw [5, 6] (fun bv i wr => ∃ k : Nat, k ≤ sizeU p.U ∧ i = .int .i64 k ∧ BestR p wr bv (bestK p k) ∧ Ext w2 wr) (fun _ i _ => sizeU p.U - (intOf i).toNat)
    case atStart => exact ⟨0, Nat.zero_le _, rfl, rfl, Ext.refl _⟩
    case round =>
      obtain ⟨k, hk, rfl, hbest, hE⟩ := hrel
      have HB := Lib.hid hbest
      have HEE := Lib.hid hE
      have HV3 := Lib.hid (VRow.ext HV2.out hE)
      have HW3 := Lib.hid (HW2.out.ext hE)
      clear hbest hE
      have q0 := VRow.cell HV3.out (k := 0) rfl
      have q1 := VRow.cell HV3.out (k := 1) rfl
      have q2 := VRow.cell HV3.out (k := 2) rfl
      have q3 := VRow.cell HV3.out (k := 3) rfl
      go_wp2_with fail
      clear q0 q1 q2 q3
      refine (svector_c a b c u p k wr HW3.out Hw.out (by omega)).mono ?_
      rintro e w4 ⟨g, rfl, hrow, hg, hE4⟩
      have HR4 := Lib.hid hrow
      have HE4 := Lib.hid hE4
      have HV4 := Lib.hid (VRow.ext HV3.out hE4)
      have HW4 := Lib.hid (HW3.out.ext hE4)
      have HB4 := Lib.hid (BestR.ext HB.out hE4)
      clear hrow hE4 HV3 HW3 HB
      by_cases hlt : k < sizeU p.U
      · have hdiv : decide (k / sizeU p.U = 0) = true := decide_eq_true (Nat.div_eq_of_lt hlt)
        rw [Nat.mod_eq_of_lt hlt] at HR4
        rw [hdiv]
        clear hdiv
        go_wp2_with fail
        obtain ⟨hbox, hfs⟩ := feas_vec Hw.out hlt
        have HX4 := Lib.hid (IRow.ints' HR4.out (n := p.U.length) (cap := p.U.length) (vecAt_length _ _).symm (by rw [vecAt_length]; exact Nat.le_refl _) (by have := whoP Hw.out; omega))
        have HL : RowKit.Hid (p.C.length ≤ (vecAt p.U k).length) := Lib.hid (by rw [vecAt_length]; have := whoP Hw.out; omega)
        have HD1 := Lib.hid (wrap_small (cost_small Hw.out (inBox_bd _ _ (whoP Hw.out).2.2.1 hbox)))
        cases hsat : satB p (vecAt p.U k)
        · have HF : RowKit.Hid (feasB p (vecAt p.U k) = false) := Lib.hid (hfs.trans hsat)
          have HBK := Lib.hid (best_no hsat)
          clear hfs hbox hsat
          refine wp_region_stable [⟨[], none⟩, ⟨[], none⟩, ⟨[(0, 22), (1, 23)], none⟩, ⟨[(2, 24)], none⟩, ⟨[(3, 25)], some (25, true)⟩, ⟨[(4, 26), (3, 25)], some (25, true)⟩, ⟨[(5, 27), (3, 25)], some (25, true)⟩, ⟨[(6, 28)], some (28, false)⟩, ⟨[(7, 29), (6, 28)], some (28, false)⟩, ⟨[(6, 28)], some (28, false)⟩, ⟨[(8, 30), (9, 31), (6, 28)], some (28, false)⟩, ⟨[(6, 28)], some (28, false)⟩, ⟨[(11, 33), (6, 28)], some (28, false)⟩, ⟨[(6, 28)], some (28, false)⟩, ⟨[(12, 34), (13, 35), (6, 28)], some (28, false)⟩, ⟨[(10, 32), (14, 36), (6, 28)], some (28, false)⟩, ⟨[(6, 28), (15, 37), (3, 25)], some (25, true)⟩, ⟨[(3, 25), (16, 38)], none⟩] (fun x y => Below x.heap.size x y) (MPat [MP.eq (.agg #[a, b, c, u]), MP.eq (.slice (some ⟨g, 0, none⟩) p.U.length p.U.length), MP.eq (.bool false), MP.eq (.bool false), MP.eq (undef), MP.eq (undef), MP.eq (undef), MP.eq (undef), MP.eq (undef), MP.eq (undef), MP.eq (undef), MP.eq (undef), MP.eq (undef), MP.eq (undef), MP.eq (undef), MP.eq (undef), MP.eq (undef), MP.eq (.bool false)]) (by kernel_rfl) (fun _ _ _ h k => Ext.trans h k) (fun _ => Below.refl _ _) (fun x => (Below.refl x.heap.size x).drew) (MPat.mono _) (by kernel_rfl) ?obs ?rest
          case obs =>
            refine ⟨?_, ?_, ?_, ?_, ?_, ?_, ?_, ?_, ?_, ?_, ?_, ?_, ?_, ?_, ?_, ?_, ?_, ?_, trivial⟩
            · intro ev W hf _ _ hst hd
              have e1 : ev (.tmp 1) = .pointer (some ⟨s, 0, none⟩) := hf 1 (by kernel_rfl)
              have kk := VRow.ext HV4.out hst
              have k0 := VRow.cell kk (k := 0) rfl
              have k1 := VRow.cell kk (k := 1) rfl
              have k2 := VRow.cell kk (k := 2) rfl
              have k3 := VRow.cell kk (k := 3) rfl
              refine st_value (v := .agg #[a, b, c, u]) ?_ (Below.refl _ _) ?_
              · simp [execOp, go_sem, e1, k0, k1, k2, k3]
              · exact rfl
            · intro ev W hf _ _ hst hd
              have e7 : ev (.tmp 7) = .slice (some ⟨g, 0, none⟩) p.U.length p.U.length := hf 7 (by kernel_rfl)
              refine st_value (v := .slice (some ⟨g, 0, none⟩) p.U.length p.U.length) ?_ (Below.refl _ _) ?_
              · simp [execOp, go_sem, e7]
              · exact rfl
            · intro ev W hf _ hfn hst hd
              obtain ⟨d22, d23, _⟩ := hd
              have e22 : ev (.tmp 22) = .agg #[a, b, c, u] := d22
              have e23 : ev (.tmp 23) = .slice (some ⟨g, 0, none⟩) p.U.length p.U.length := d23
              refine st_enter (f := 20) (args := #[.agg #[a, b, c, u], .slice (some ⟨g, 0, none⟩) p.U.length p.U.length]) (by simp [execOp, go_sem, hfn, e22, e23]) ?_
              refine (feas2_c a b c u _ p Hw.out (vecAt p.U k) W (HW4.out.ext hst) (HX4.out.ext hst)).mono ?_
              rintro e w' ⟨rfl, hE⟩
              exact ⟨_, rfl, hE, by rw [HF.out]; exact rfl⟩
            · intro ev W hf _ _ hst hd
              obtain ⟨d24, _⟩ := hd
              have e24 : ev (.tmp 24) = .bool false := d24
              refine st_value (v := .bool false) ?_ (Below.refl _ _) ?_
              · simp [execOp, go_sem, e24]
              · exact rfl
            · intro ev W hf _ _ hst hd
              obtain ⟨d25, _⟩ := hd
              have e25 : ev (.tmp 25) = .bool false := d25
              refine ⟨fun hh => ?_, fun _ => rfl⟩
              rw [e25] at hh
              simp at hh
            · intro ev W hf _ _ hst hd
              obtain ⟨d26, d25, _⟩ := hd
              have e25 : ev (.tmp 25) = .bool false := d25
              refine ⟨fun hh => ?_, fun _ => rfl⟩
              rw [e25] at hh
              simp at hh
            · intro ev W hf _ _ hst hd
              obtain ⟨d27, d25, _⟩ := hd
              have e25 : ev (.tmp 25) = .bool false := d25
              refine ⟨fun hh => ?_, fun _ => rfl⟩
              rw [e25] at hh
              simp at hh
            · intro ev W hf _ _ hst hd
              obtain ⟨d28, _⟩ := hd
              have e28 : ev (.tmp 28) = undef := d28
              refine ⟨fun hh => ?_, fun _ => rfl⟩
              rw [e28] at hh
              cases hh
            · intro ev W hf _ _ hst hd
              obtain ⟨d29, d28, _⟩ := hd
              have e28 : ev (.tmp 28) = undef := d28
              refine ⟨fun hh => ?_, fun _ => rfl⟩
              rw [e28] at hh
              cases hh
            · intro ev W hf _ _ hst hd
              obtain ⟨d28, _⟩ := hd
              have e28 : ev (.tmp 28) = undef := d28
              refine ⟨fun hh => ?_, fun _ => rfl⟩
              rw [e28] at hh
              cases hh
            · intro ev W hf _ _ hst hd
              obtain ⟨d30, d31, d28, _⟩ := hd
              have e28 : ev (.tmp 28) = undef := d28
              refine ⟨fun hh => ?_, fun _ => rfl⟩
              rw [e28] at hh
              cases hh
            · intro ev W hf _ _ hst hd
              obtain ⟨d28, _⟩ := hd
              have e28 : ev (.tmp 28) = undef := d28
              refine ⟨fun hh => ?_, fun _ => rfl⟩
              rw [e28] at hh
              cases hh
            · intro ev W hf _ _ hst hd
              obtain ⟨d33, d28, _⟩ := hd
              have e28 : ev (.tmp 28) = undef := d28
              refine ⟨fun hh => ?_, fun _ => rfl⟩
              rw [e28] at hh
              cases hh
            · intro ev W hf _ _ hst hd
              obtain ⟨d28, _⟩ := hd
              have e28 : ev (.tmp 28) = undef := d28
              refine ⟨fun hh => ?_, fun _ => rfl⟩
              rw [e28] at hh
              cases hh
            · intro ev W hf _ _ hst hd
              obtain ⟨d34, d35, d28, _⟩ := hd
              have e28 : ev (.tmp 28) = undef := d28
              refine ⟨fun hh => ?_, fun _ => rfl⟩
              rw [e28] at hh
              cases hh
            · intro ev W hf _ _ hst hd
              obtain ⟨d32, d36, d28, _⟩ := hd
              have e28 : ev (.tmp 28) = undef := d28
              refine ⟨fun hh => ?_, fun _ => rfl⟩
              rw [e28] at hh
              cases hh
            · intro ev W hf _ _ hst hd
              obtain ⟨d28, d37, d25, _⟩ := hd
              have e25 : ev (.tmp 25) = .bool false := d25
              refine ⟨fun hh => ?_, fun _ => rfl⟩
              rw [e25] at hh
              simp at hh
            · intro ev W hf hcst _ hst hd
              obtain ⟨d25, d38, _⟩ := hd
              have e25 : ev (.tmp 25) = .bool false := d25
              have e38 : ev (.tmp 38) = undef := d38
              refine st_value (v := .bool false) ?_ (Below.refl _ _) ?_
              · simp [execOp, go_sem, e25, e38, hcst]
              · exact rfl
          case rest =>
            intro vs w5 hl hst hg9
            have hlast : ∀ u, vs[17]? = some u → u = .bool false := fun u hu => hg9 17 u hu
            have HE5 := Lib.hid hst
            clear hg9 hst
            obtain ⟨x0, vs0, rfl, hl0⟩ := len_succ hl
            obtain ⟨x1, vs1, rfl, hl1⟩ := len_succ hl0
            obtain ⟨x2, vs2, rfl, hl2⟩ := len_succ hl1
            obtain ⟨x3, vs3, rfl, hl3⟩ := len_succ hl2
            obtain ⟨x4, vs4, rfl, hl4⟩ := len_succ hl3
            obtain ⟨x5, vs5, rfl, hl5⟩ := len_succ hl4
            obtain ⟨x6, vs6, rfl, hl6⟩ := len_succ hl5
            obtain ⟨x7, vs7, rfl, hl7⟩ := len_succ hl6
            obtain ⟨x8, vs8, rfl, hl8⟩ := len_succ hl7
            obtain ⟨x9, vs9, rfl, hl9⟩ := len_succ hl8
            obtain ⟨x10, vs10, rfl, hl10⟩ := len_succ hl9
            obtain ⟨x11, vs11, rfl, hl11⟩ := len_succ hl10
            obtain ⟨x12, vs12, rfl, hl12⟩ := len_succ hl11
            obtain ⟨x13, vs13, rfl, hl13⟩ := len_succ hl12
            obtain ⟨x14, vs14, rfl, hl14⟩ := len_succ hl13
            obtain ⟨x15, vs15, rfl, hl15⟩ := len_succ hl14
            obtain ⟨x16, vs16, rfl, hl16⟩ := len_succ hl15
            obtain ⟨x17, vs17, rfl, hl17⟩ := len_succ hl16
            have hnil : vs17 = [] := List.length_eq_zero_iff.1 hl17
            subst hnil
            obtain rfl := hlast _ rfl
            clear hlast
            simp only [putAll, Act.put, List.setIfInBounds_toArray, List.set_cons_zero, List.set_cons_succ]
            go_wp2_with fail
            exact ⟨⟨k + 1, by omega, by go_num, by rw [HBK.out]; exact HB4.out.ext HE5.out, (HEE.out.trans HE4.out).trans HE5.out⟩, by simp [intOf]; omega⟩
        · have HF : RowKit.Hid (feasB p (vecAt p.U k) = true) := Lib.hid (hfs.trans hsat)
          cases hbk : bestK p k with
          | none =>
            rw [hbk] at HB4
            have hu5 := HB4.out
            simp only [BestR] at hu5
            subst hu5
            have HBK := Lib.hid (best_first hsat hbk)
            clear hfs hbox hsat hbk HB4
            refine wp_region_stable [⟨[], none⟩, ⟨[], none⟩, ⟨[(0, 22), (1, 23)], none⟩, ⟨[(2, 24)], none⟩, ⟨[(3, 25)], some (25, true)⟩, ⟨[(4, 26), (3, 25)], some (25, true)⟩, ⟨[(5, 27), (3, 25)], some (25, true)⟩, ⟨[(6, 28)], some (28, false)⟩, ⟨[(7, 29), (6, 28)], some (28, false)⟩, ⟨[(6, 28)], some (28, false)⟩, ⟨[(8, 30), (9, 31), (6, 28)], some (28, false)⟩, ⟨[(6, 28)], some (28, false)⟩, ⟨[(11, 33), (6, 28)], some (28, false)⟩, ⟨[(6, 28)], some (28, false)⟩, ⟨[(12, 34), (13, 35), (6, 28)], some (28, false)⟩, ⟨[(10, 32), (14, 36), (6, 28)], some (28, false)⟩, ⟨[(6, 28), (15, 37), (3, 25)], some (25, true)⟩, ⟨[(3, 25), (16, 38)], none⟩] (fun x y => Below x.heap.size x y) (MPat [MP.eq (.agg #[a, b, c, u]), MP.eq (.slice (some ⟨g, 0, none⟩) p.U.length p.U.length), MP.eq (.bool true), MP.eq (.bool true), MP.eq (.slice none 0 0), MP.eq (.bool true), MP.eq (.bool true), MP.eq (undef), MP.eq (undef), MP.eq (undef), MP.eq (undef), MP.eq (undef), MP.eq (undef), MP.eq (undef), MP.eq (undef), MP.eq (undef), MP.eq (.bool true), MP.eq (.bool true)]) (by kernel_rfl) (fun _ _ _ h k => Ext.trans h k) (fun _ => Below.refl _ _) (fun x => (Below.refl x.heap.size x).drew) (MPat.mono _) (by kernel_rfl) ?obs ?rest
            case obs =>
              refine ⟨?_, ?_, ?_, ?_, ?_, ?_, ?_, ?_, ?_, ?_, ?_, ?_, ?_, ?_, ?_, ?_, ?_, ?_, trivial⟩
              · intro ev W hf _ _ hst hd
                have e1 : ev (.tmp 1) = .pointer (some ⟨s, 0, none⟩) := hf 1 (by kernel_rfl)
                have kk := VRow.ext HV4.out hst
                have k0 := VRow.cell kk (k := 0) rfl
                have k1 := VRow.cell kk (k := 1) rfl
                have k2 := VRow.cell kk (k := 2) rfl
                have k3 := VRow.cell kk (k := 3) rfl
                refine st_value (v := .agg #[a, b, c, u]) ?_ (Below.refl _ _) ?_
                · simp [execOp, go_sem, e1, k0, k1, k2, k3]
                · exact rfl
              · intro ev W hf _ _ hst hd
                have e7 : ev (.tmp 7) = .slice (some ⟨g, 0, none⟩) p.U.length p.U.length := hf 7 (by kernel_rfl)
                refine st_value (v := .slice (some ⟨g, 0, none⟩) p.U.length p.U.length) ?_ (Below.refl _ _) ?_
                · simp [execOp, go_sem, e7]
                · exact rfl
              · intro ev W hf _ hfn hst hd
                obtain ⟨d22, d23, _⟩ := hd
                have e22 : ev (.tmp 22) = .agg #[a, b, c, u] := d22
                have e23 : ev (.tmp 23) = .slice (some ⟨g, 0, none⟩) p.U.length p.U.length := d23
                refine st_enter (f := 20) (args := #[.agg #[a, b, c, u], .slice (some ⟨g, 0, none⟩) p.U.length p.U.length]) (by simp [execOp, go_sem, hfn, e22, e23]) ?_
                refine (feas2_c a b c u _ p Hw.out (vecAt p.U k) W (HW4.out.ext hst) (HX4.out.ext hst)).mono ?_
                rintro e w' ⟨rfl, hE⟩
                exact ⟨_, rfl, hE, by rw [HF.out]; exact rfl⟩
              · intro ev W hf _ _ hst hd
                obtain ⟨d24, _⟩ := hd
                have e24 : ev (.tmp 24) = .bool true := d24
                refine st_value (v := .bool true) ?_ (Below.refl _ _) ?_
                · simp [execOp, go_sem, e24]
                · exact rfl
              · intro ev W hf _ _ hst hd
                obtain ⟨d25, _⟩ := hd
                have e5 : ev (.tmp 5) = .slice none 0 0 := hf 5 (by kernel_rfl)
                have e25 : ev (.tmp 25) = .bool true := d25
                refine ⟨fun _ => ?_, fun hne => absurd e25 hne⟩
                refine st_value (v := .slice none 0 0) ?_ (Below.refl _ _) ?_
                · simp [execOp, go_sem, e5]
                · exact rfl
              · intro ev W hf hcst _ hst hd
                obtain ⟨d26, d25, _⟩ := hd
                have e26 : ev (.tmp 26) = .slice none 0 0 := d26
                have e25 : ev (.tmp 25) = .bool true := d25
                refine ⟨fun _ => ?_, fun hne => absurd e25 hne⟩
                have hnil := Go.Lib.run_eql_slice_nil W 23 3 (none) (0) (0) (0) (0) Try.underlying23
                refine st_value (v := .bool true) ?_ (Below.refl _ _) ?_
                · simp [execOp, go_sem, e26, hcst, hnil]
                · exact rfl
              · intro ev W hf _ _ hst hd
                obtain ⟨d27, d25, _⟩ := hd
                have e27 : ev (.tmp 27) = .bool true := d27
                have e25 : ev (.tmp 25) = .bool true := d25
                refine ⟨fun _ => ?_, fun hne => absurd e25 hne⟩
                refine st_value (v := .bool true) ?_ (Below.refl _ _) ?_
                · simp [execOp, go_sem, e27]
                · exact rfl
              · intro ev W hf _ _ hst hd
                obtain ⟨d28, _⟩ := hd
                have e28 : ev (.tmp 28) = .bool true := d28
                refine ⟨fun hh => ?_, fun _ => rfl⟩
                rw [e28] at hh
                simp at hh
              · intro ev W hf _ _ hst hd
                obtain ⟨d29, d28, _⟩ := hd
                have e28 : ev (.tmp 28) = .bool true := d28
                refine ⟨fun hh => ?_, fun _ => rfl⟩
                rw [e28] at hh
                simp at hh
              · intro ev W hf _ _ hst hd
                obtain ⟨d28, _⟩ := hd
                have e28 : ev (.tmp 28) = .bool true := d28
                refine ⟨fun hh => ?_, fun _ => rfl⟩
                rw [e28] at hh
                simp at hh
              · intro ev W hf _ _ hst hd
                obtain ⟨d30, d31, d28, _⟩ := hd
                have e28 : ev (.tmp 28) = .bool true := d28
                refine ⟨fun hh => ?_, fun _ => rfl⟩
                rw [e28] at hh
                simp at hh
              · intro ev W hf _ _ hst hd
                obtain ⟨d28, _⟩ := hd
                have e28 : ev (.tmp 28) = .bool true := d28
                refine ⟨fun hh => ?_, fun _ => rfl⟩
                rw [e28] at hh
                simp at hh
              · intro ev W hf _ _ hst hd
                obtain ⟨d33, d28, _⟩ := hd
                have e28 : ev (.tmp 28) = .bool true := d28
                refine ⟨fun hh => ?_, fun _ => rfl⟩
                rw [e28] at hh
                simp at hh
              · intro ev W hf _ _ hst hd
                obtain ⟨d28, _⟩ := hd
                have e28 : ev (.tmp 28) = .bool true := d28
                refine ⟨fun hh => ?_, fun _ => rfl⟩
                rw [e28] at hh
                simp at hh
              · intro ev W hf _ _ hst hd
                obtain ⟨d34, d35, d28, _⟩ := hd
                have e28 : ev (.tmp 28) = .bool true := d28
                refine ⟨fun hh => ?_, fun _ => rfl⟩
                rw [e28] at hh
                simp at hh
              · intro ev W hf _ _ hst hd
                obtain ⟨d32, d36, d28, _⟩ := hd
                have e28 : ev (.tmp 28) = .bool true := d28
                refine ⟨fun hh => ?_, fun _ => rfl⟩
                rw [e28] at hh
                simp at hh
              · intro ev W hf hcst _ hst hd
                obtain ⟨d28, d37, d25, _⟩ := hd
                have e28 : ev (.tmp 28) = .bool true := d28
                have e37 : ev (.tmp 37) = undef := d37
                have e25 : ev (.tmp 25) = .bool true := d25
                refine ⟨fun _ => ?_, fun hne => absurd e25 hne⟩
                refine st_value (v := .bool true) ?_ (Below.refl _ _) ?_
                · simp [execOp, go_sem, e28, e37, hcst]
                · exact rfl
              · intro ev W hf hcst _ hst hd
                obtain ⟨d25, d38, _⟩ := hd
                have e25 : ev (.tmp 25) = .bool true := d25
                have e38 : ev (.tmp 38) = .bool true := d38
                refine st_value (v := .bool true) ?_ (Below.refl _ _) ?_
                · simp [execOp, go_sem, e25, e38, hcst]
                · exact rfl
            case rest =>
              intro vs w5 hl hst hg9
              have hlast : ∀ u, vs[17]? = some u → u = .bool true := fun u hu => hg9 17 u hu
              have HE5 := Lib.hid hst
              clear hg9 hst
              obtain ⟨x0, vs0, rfl, hl0⟩ := len_succ hl
              obtain ⟨x1, vs1, rfl, hl1⟩ := len_succ hl0
              obtain ⟨x2, vs2, rfl, hl2⟩ := len_succ hl1
              obtain ⟨x3, vs3, rfl, hl3⟩ := len_succ hl2
              obtain ⟨x4, vs4, rfl, hl4⟩ := len_succ hl3
              obtain ⟨x5, vs5, rfl, hl5⟩ := len_succ hl4
              obtain ⟨x6, vs6, rfl, hl6⟩ := len_succ hl5
              obtain ⟨x7, vs7, rfl, hl7⟩ := len_succ hl6
              obtain ⟨x8, vs8, rfl, hl8⟩ := len_succ hl7
              obtain ⟨x9, vs9, rfl, hl9⟩ := len_succ hl8
              obtain ⟨x10, vs10, rfl, hl10⟩ := len_succ hl9
              obtain ⟨x11, vs11, rfl, hl11⟩ := len_succ hl10
              obtain ⟨x12, vs12, rfl, hl12⟩ := len_succ hl11
              obtain ⟨x13, vs13, rfl, hl13⟩ := len_succ hl12
              obtain ⟨x14, vs14, rfl, hl14⟩ := len_succ hl13
              obtain ⟨x15, vs15, rfl, hl15⟩ := len_succ hl14
              obtain ⟨x16, vs16, rfl, hl16⟩ := len_succ hl15
              obtain ⟨x17, vs17, rfl, hl17⟩ := len_succ hl16
              have hnil : vs17 = [] := List.length_eq_zero_iff.1 hl17
              subst hnil
              obtain rfl := hlast _ rfl
              clear hlast
              simp only [putAll, Act.put, List.setIfInBounds_toArray, List.set_cons_zero, List.set_cons_succ]
              go_wp2_with fail
              exact ⟨⟨k + 1, by omega, by go_num, by rw [HBK.out]; exact ⟨g, rfl, VRow.ext HR4.out HE5.out, HF.out⟩, (HEE.out.trans HE4.out).trans HE5.out⟩, by simp [intOf]; omega⟩
          | some xb =>
            rw [hbk] at HB4
            obtain ⟨g2, hu5, hr2, hf2⟩ := HB4.out
            subst hu5
            have HBK := Lib.hid (best_next hsat hbk)
            obtain ⟨hb2, _, hl2⟩ := feas_in hf2
            have HX2 := Lib.hid (IRow.ints' hr2 (n := p.U.length) (cap := p.U.length) hl2.symm (by rw [hl2]; exact Nat.le_refl _) (by have := whoP Hw.out; omega))
            have HL2 : RowKit.Hid (p.C.length ≤ xb.length) := Lib.hid (by rw [hl2]; have := whoP Hw.out; omega)
            have HD2 := Lib.hid (wrap_small (cost_small Hw.out (inBox_bd _ _ (whoP Hw.out).2.2.1 hb2)))
            have HR2 := Lib.hid hr2
            have HF2 := Lib.hid hf2
            clear hfs hbox hsat hbk HB4 hr2 hf2 hb2 hl2
            refine wp_region_stable [⟨[], none⟩, ⟨[], none⟩, ⟨[(0, 22), (1, 23)], none⟩, ⟨[(2, 24)], none⟩, ⟨[(3, 25)], some (25, true)⟩, ⟨[(4, 26), (3, 25)], some (25, true)⟩, ⟨[(5, 27), (3, 25)], some (25, true)⟩, ⟨[(6, 28)], some (28, false)⟩, ⟨[(7, 29), (6, 28)], some (28, false)⟩, ⟨[(6, 28)], some (28, false)⟩, ⟨[(8, 30), (9, 31), (6, 28)], some (28, false)⟩, ⟨[(6, 28)], some (28, false)⟩, ⟨[(11, 33), (6, 28)], some (28, false)⟩, ⟨[(6, 28)], some (28, false)⟩, ⟨[(12, 34), (13, 35), (6, 28)], some (28, false)⟩, ⟨[(10, 32), (14, 36), (6, 28)], some (28, false)⟩, ⟨[(6, 28), (15, 37), (3, 25)], some (25, true)⟩, ⟨[(3, 25), (16, 38)], none⟩] (fun x y => Below x.heap.size x y) (MPat [MP.eq (.agg #[a, b, c, u]), MP.eq (.slice (some ⟨g, 0, none⟩) p.U.length p.U.length), MP.eq (.bool true), MP.eq (.bool true), MP.eq (.slice (some ⟨g2, 0, none⟩) p.U.length p.U.length), MP.eq (.bool false), MP.eq (.bool false), MP.eq (.pointer (some ⟨s, 2, none⟩)), MP.eq (c), MP.eq (.slice (some ⟨g, 0, none⟩) p.U.length p.U.length), MP.eq (.int .i64 (dotZ p.C (vecAt p.U k))), MP.eq (.pointer (some ⟨s, 2, none⟩)), MP.eq (c), MP.eq (.slice (some ⟨g2, 0, none⟩) p.U.length p.U.length), MP.eq (.int .i64 (dotZ p.C xb)), MP.eq (.bool (decide (dotZ p.C (vecAt p.U k) < dotZ p.C xb))), MP.eq (.bool (decide (dotZ p.C (vecAt p.U k) < dotZ p.C xb))), MP.eq (.bool (decide (dotZ p.C (vecAt p.U k) < dotZ p.C xb)))]) (by kernel_rfl) (fun _ _ _ h k => Ext.trans h k) (fun _ => Below.refl _ _) (fun x => (Below.refl x.heap.size x).drew) (MPat.mono _) (by kernel_rfl) ?obs ?rest
            case obs =>
              refine ⟨?_, ?_, ?_, ?_, ?_, ?_, ?_, ?_, ?_, ?_, ?_, ?_, ?_, ?_, ?_, ?_, ?_, ?_, trivial⟩
              · intro ev W hf _ _ hst hd
                have e1 : ev (.tmp 1) = .pointer (some ⟨s, 0, none⟩) := hf 1 (by kernel_rfl)
                have kk := VRow.ext HV4.out hst
                have k0 := VRow.cell kk (k := 0) rfl
                have k1 := VRow.cell kk (k := 1) rfl
                have k2 := VRow.cell kk (k := 2) rfl
                have k3 := VRow.cell kk (k := 3) rfl
                refine st_value (v := .agg #[a, b, c, u]) ?_ (Below.refl _ _) ?_
                · simp [execOp, go_sem, e1, k0, k1, k2, k3]
                · exact rfl
              · intro ev W hf _ _ hst hd
                have e7 : ev (.tmp 7) = .slice (some ⟨g, 0, none⟩) p.U.length p.U.length := hf 7 (by kernel_rfl)
                refine st_value (v := .slice (some ⟨g, 0, none⟩) p.U.length p.U.length) ?_ (Below.refl _ _) ?_
                · simp [execOp, go_sem, e7]
                · exact rfl
              · intro ev W hf _ hfn hst hd
                obtain ⟨d22, d23, _⟩ := hd
                have e22 : ev (.tmp 22) = .agg #[a, b, c, u] := d22
                have e23 : ev (.tmp 23) = .slice (some ⟨g, 0, none⟩) p.U.length p.U.length := d23
                refine st_enter (f := 20) (args := #[.agg #[a, b, c, u], .slice (some ⟨g, 0, none⟩) p.U.length p.U.length]) (by simp [execOp, go_sem, hfn, e22, e23]) ?_
                refine (feas2_c a b c u _ p Hw.out (vecAt p.U k) W (HW4.out.ext hst) (HX4.out.ext hst)).mono ?_
                rintro e w' ⟨rfl, hE⟩
                exact ⟨_, rfl, hE, by rw [HF.out]; exact rfl⟩
              · intro ev W hf _ _ hst hd
                obtain ⟨d24, _⟩ := hd
                have e24 : ev (.tmp 24) = .bool true := d24
                refine st_value (v := .bool true) ?_ (Below.refl _ _) ?_
                · simp [execOp, go_sem, e24]
                · exact rfl
              · intro ev W hf _ _ hst hd
                obtain ⟨d25, _⟩ := hd
                have e5 : ev (.tmp 5) = .slice (some ⟨g2, 0, none⟩) p.U.length p.U.length := hf 5 (by kernel_rfl)
                have e25 : ev (.tmp 25) = .bool true := d25
                refine ⟨fun _ => ?_, fun hne => absurd e25 hne⟩
                refine st_value (v := .slice (some ⟨g2, 0, none⟩) p.U.length p.U.length) ?_ (Below.refl _ _) ?_
                · simp [execOp, go_sem, e5]
                · exact rfl
              · intro ev W hf hcst _ hst hd
                obtain ⟨d26, d25, _⟩ := hd
                have e26 : ev (.tmp 26) = .slice (some ⟨g2, 0, none⟩) p.U.length p.U.length := d26
                have e25 : ev (.tmp 25) = .bool true := d25
                refine ⟨fun _ => ?_, fun hne => absurd e25 hne⟩
                have hnil := Go.Lib.run_eql_slice_nil W 23 3 (some ⟨g2, 0, none⟩) (p.U.length) (p.U.length) (0) (0) Try.underlying23
                refine st_value (v := .bool false) ?_ (Below.refl _ _) ?_
                · simp [execOp, go_sem, e26, hcst, hnil]
                · exact rfl
              · intro ev W hf _ _ hst hd
                obtain ⟨d27, d25, _⟩ := hd
                have e27 : ev (.tmp 27) = .bool false := d27
                have e25 : ev (.tmp 25) = .bool true := d25
                refine ⟨fun _ => ?_, fun hne => absurd e25 hne⟩
                refine st_value (v := .bool false) ?_ (Below.refl _ _) ?_
                · simp [execOp, go_sem, e27]
                · exact rfl
              · intro ev W hf _ _ hst hd
                obtain ⟨d28, _⟩ := hd
                have e1 : ev (.tmp 1) = .pointer (some ⟨s, 0, none⟩) := hf 1 (by kernel_rfl)
                have e28 : ev (.tmp 28) = .bool false := d28
                refine ⟨fun _ => ?_, fun hne => absurd e28 hne⟩
                refine st_value (v := .pointer (some ⟨s, 2, none⟩)) ?_ (Below.refl _ _) ?_
                · simp [execOp, go_sem, e1]
                · exact rfl
              · intro ev W hf _ _ hst hd
                obtain ⟨d29, d28, _⟩ := hd
                have e29 : ev (.tmp 29) = .pointer (some ⟨s, 2, none⟩) := d29
                have e28 : ev (.tmp 28) = .bool false := d28
                refine ⟨fun _ => ?_, fun hne => absurd e28 hne⟩
                have kk := VRow.ext HV4.out hst
                have k2 := VRow.cell kk (k := 2) rfl
                refine st_value (v := c) ?_ (Below.refl _ _) ?_
                · simp [execOp, go_sem, e29, k2]
                · exact rfl
              · intro ev W hf _ _ hst hd
                obtain ⟨d28, _⟩ := hd
                have e7 : ev (.tmp 7) = .slice (some ⟨g, 0, none⟩) p.U.length p.U.length := hf 7 (by kernel_rfl)
                have e28 : ev (.tmp 28) = .bool false := d28
                refine ⟨fun _ => ?_, fun hne => absurd e28 hne⟩
                refine st_value (v := .slice (some ⟨g, 0, none⟩) p.U.length p.U.length) ?_ (Below.refl _ _) ?_
                · simp [execOp, go_sem, e7]
                · exact rfl
              · intro ev W hf _ hfn hst hd
                obtain ⟨d30, d31, d28, _⟩ := hd
                have e30 : ev (.tmp 30) = c := d30
                have e31 : ev (.tmp 31) = .slice (some ⟨g, 0, none⟩) p.U.length p.U.length := d31
                have e28 : ev (.tmp 28) = .bool false := d28
                refine ⟨fun _ => ?_, fun hne => absurd e28 hne⟩
                refine st_enter (f := 25) (args := #[c, .slice (some ⟨g, 0, none⟩) p.U.length p.U.length]) (by simp [execOp, go_sem, hfn, e30, e31]) ?_
                refine (sdot_c _ _ p.C (vecAt p.U k) W (HW4.out.ext hst).1.2.2 (HX4.out.ext hst) HL.out).mono ?_
                rintro e w' ⟨rfl, n9, rfl⟩
                rw [HD1.out]
                exact ⟨_, rfl, below_drewN (Below.refl _ _) n9, rfl⟩
              · intro ev W hf _ _ hst hd
                obtain ⟨d28, _⟩ := hd
                have e1 : ev (.tmp 1) = .pointer (some ⟨s, 0, none⟩) := hf 1 (by kernel_rfl)
                have e28 : ev (.tmp 28) = .bool false := d28
                refine ⟨fun _ => ?_, fun hne => absurd e28 hne⟩
                refine st_value (v := .pointer (some ⟨s, 2, none⟩)) ?_ (Below.refl _ _) ?_
                · simp [execOp, go_sem, e1]
                · exact rfl
              · intro ev W hf _ _ hst hd
                obtain ⟨d33, d28, _⟩ := hd
                have e33 : ev (.tmp 33) = .pointer (some ⟨s, 2, none⟩) := d33
                have e28 : ev (.tmp 28) = .bool false := d28
                refine ⟨fun _ => ?_, fun hne => absurd e28 hne⟩
                have kk := VRow.ext HV4.out hst
                have k2 := VRow.cell kk (k := 2) rfl
                refine st_value (v := c) ?_ (Below.refl _ _) ?_
                · simp [execOp, go_sem, e33, k2]
                · exact rfl
              · intro ev W hf _ _ hst hd
                obtain ⟨d28, _⟩ := hd
                have e5 : ev (.tmp 5) = .slice (some ⟨g2, 0, none⟩) p.U.length p.U.length := hf 5 (by kernel_rfl)
                have e28 : ev (.tmp 28) = .bool false := d28
                refine ⟨fun _ => ?_, fun hne => absurd e28 hne⟩
                refine st_value (v := .slice (some ⟨g2, 0, none⟩) p.U.length p.U.length) ?_ (Below.refl _ _) ?_
                · simp [execOp, go_sem, e5]
                · exact rfl
              · intro ev W hf _ hfn hst hd
                obtain ⟨d34, d35, d28, _⟩ := hd
                have e34 : ev (.tmp 34) = c := d34
                have e35 : ev (.tmp 35) = .slice (some ⟨g2, 0, none⟩) p.U.length p.U.length := d35
                have e28 : ev (.tmp 28) = .bool false := d28
                refine ⟨fun _ => ?_, fun hne => absurd e28 hne⟩
                refine st_enter (f := 25) (args := #[c, .slice (some ⟨g2, 0, none⟩) p.U.length p.U.length]) (by simp [execOp, go_sem, hfn, e34, e35]) ?_
                refine (sdot_c _ _ p.C xb W (HW4.out.ext hst).1.2.2 (HX2.out.ext hst) HL2.out).mono ?_
                rintro e w' ⟨rfl, n9, rfl⟩
                rw [HD2.out]
                exact ⟨_, rfl, below_drewN (Below.refl _ _) n9, rfl⟩
              · intro ev W hf _ _ hst hd
                obtain ⟨d32, d36, d28, _⟩ := hd
                have e32 : ev (.tmp 32) = .int .i64 (dotZ p.C (vecAt p.U k)) := d32
                have e36 : ev (.tmp 36) = .int .i64 (dotZ p.C xb) := d36
                have e28 : ev (.tmp 28) = .bool false := d28
                refine ⟨fun _ => ?_, fun hne => absurd e28 hne⟩
                refine st_value (v := .bool (decide (dotZ p.C (vecAt p.U k) < dotZ p.C xb))) ?_ (Below.refl _ _) ?_
                · simp [execOp, go_sem, e32, e36]
                · exact rfl
              · intro ev W hf hcst _ hst hd
                obtain ⟨d28, d37, d25, _⟩ := hd
                have e28 : ev (.tmp 28) = .bool false := d28
                have e37 : ev (.tmp 37) = .bool (decide (dotZ p.C (vecAt p.U k) < dotZ p.C xb)) := d37
                have e25 : ev (.tmp 25) = .bool true := d25
                refine ⟨fun _ => ?_, fun hne => absurd e25 hne⟩
                refine st_value (v := .bool (decide (dotZ p.C (vecAt p.U k) < dotZ p.C xb))) ?_ (Below.refl _ _) ?_
                · simp [execOp, go_sem, e28, e37, hcst]
                · exact rfl
              · intro ev W hf hcst _ hst hd
                obtain ⟨d25, d38, _⟩ := hd
                have e25 : ev (.tmp 25) = .bool true := d25
                have e38 : ev (.tmp 38) = .bool (decide (dotZ p.C (vecAt p.U k) < dotZ p.C xb)) := d38
                refine st_value (v := .bool (decide (dotZ p.C (vecAt p.U k) < dotZ p.C xb))) ?_ (Below.refl _ _) ?_
                · simp [execOp, go_sem, e25, e38, hcst]
                · exact rfl
            case rest =>
              intro vs w5 hl hst hg9
              have hlast : ∀ u, vs[17]? = some u → u = .bool (decide (dotZ p.C (vecAt p.U k) < dotZ p.C xb)) := fun u hu => hg9 17 u hu
              have HE5 := Lib.hid hst
              clear hg9 hst
              obtain ⟨x0, vs0, rfl, hl0⟩ := len_succ hl
              obtain ⟨x1, vs1, rfl, hl1⟩ := len_succ hl0
              obtain ⟨x2, vs2, rfl, hl2⟩ := len_succ hl1
              obtain ⟨x3, vs3, rfl, hl3⟩ := len_succ hl2
              obtain ⟨x4, vs4, rfl, hl4⟩ := len_succ hl3
              obtain ⟨x5, vs5, rfl, hl5⟩ := len_succ hl4
              obtain ⟨x6, vs6, rfl, hl6⟩ := len_succ hl5
              obtain ⟨x7, vs7, rfl, hl7⟩ := len_succ hl6
              obtain ⟨x8, vs8, rfl, hl8⟩ := len_succ hl7
              obtain ⟨x9, vs9, rfl, hl9⟩ := len_succ hl8
              obtain ⟨x10, vs10, rfl, hl10⟩ := len_succ hl9
              obtain ⟨x11, vs11, rfl, hl11⟩ := len_succ hl10
              obtain ⟨x12, vs12, rfl, hl12⟩ := len_succ hl11
              obtain ⟨x13, vs13, rfl, hl13⟩ := len_succ hl12
              obtain ⟨x14, vs14, rfl, hl14⟩ := len_succ hl13
              obtain ⟨x15, vs15, rfl, hl15⟩ := len_succ hl14
              obtain ⟨x16, vs16, rfl, hl16⟩ := len_succ hl15
              obtain ⟨x17, vs17, rfl, hl17⟩ := len_succ hl16
              have hnil : vs17 = [] := List.length_eq_zero_iff.1 hl17
              subst hnil
              obtain rfl := hlast _ rfl
              clear hlast
              simp only [putAll, Act.put, List.setIfInBounds_toArray, List.set_cons_zero, List.set_cons_succ]
              by_cases hlss : dotZ p.C (vecAt p.U k) < dotZ p.C xb
              · have HLS := Lib.hid hlss
                go_wp2_with fail
                exact ⟨⟨k + 1, by omega, by go_num, by rw [HBK.out, if_pos HLS.out]; exact ⟨g, rfl, VRow.ext HR4.out HE5.out, HF.out⟩, (HEE.out.trans HE4.out).trans HE5.out⟩, by simp [intOf]; omega⟩
              · have HLS := Lib.hid hlss
                go_wp2_with fail
                exact ⟨⟨k + 1, by omega, by go_num, by rw [HBK.out, if_neg (Int.not_lt.2 (by have := HLS.out; omega))]; exact ⟨g2, rfl, VRow.ext HR2.out HE5.out, HF2.out⟩, (HEE.out.trans HE4.out).trans HE5.out⟩, by simp [intOf]; omega⟩
      · have hke : k = sizeU p.U := by omega
        subst hke
        have hdiv : decide (sizeU p.U / sizeU p.U = 0) = false := decide_eq_false (by rw [Nat.div_self (sizeU_pos _)]; omega)
        rw [hdiv]
        clear hdiv
        cases hbk : bestK p (sizeU p.U) with
        | none =>
          rw [hbk] at HB4
          have hu5 := HB4.out
          simp only [BestR] at hu5
          subst hu5
          have hnil := Go.Lib.run_eql_slice_nil (P := Try.prog) w4 23 3 none 0 0 0 0 Try.underlying23
          have HBK := Lib.hid hbk
          clear hbk HB4
          go_wp2_with fail
          exact bodyPost_ret (v := .tuple #[.slice none 0 0, .int .i64 0, .int .i64 10]) (by simp [results, Try.results12, go_sem]) rfl ⟨(HE2.out.trans HEE.out).trans HE4.out, .inr (.inl ⟨Hw.out, HBK.out, rfl⟩)⟩
        | some xb =>
          rw [hbk] at HB4
          obtain ⟨g2, hu5, hr2, hf2⟩ := HB4.out
          subst hu5
          have hnil := Go.Lib.run_eql_slice_nil (P := Try.prog) w4 23 3 (some ⟨g2, 0, none⟩) p.U.length p.U.length 0 0 Try.underlying23
          have HBK := Lib.hid hbk
          obtain ⟨hb2, _, hl2⟩ := feas_in hf2
          have hX2 := IRow.ints' hr2 (n := p.U.length) (cap := p.U.length) hl2.symm (by rw [hl2]; exact Nat.le_refl _) (by have := whoP Hw.out; omega)
          have HX2 := Lib.hid hX2
          have HD2 := Lib.hid (wrap_small (cost_small Hw.out (inBox_bd _ _ (whoP Hw.out).2.2.1 hb2)))
          have HL2 : RowKit.Hid (p.C.length ≤ xb.length) := Lib.hid (by rw [hl2]; have := whoP Hw.out; omega)
          have q2 := VRow.cell HV4.out (k := 2) rfl
          clear hbk HB4 hr2 hf2 hb2 hl2 hX2
          go_wp2_with fail
          refine (sdot_c _ _ p.C xb w4 HW4.out.1.2.2 HX2.out HL2.out).mono ?_
          rintro e w5 ⟨rfl, n9, rfl⟩
          rw [HD2.out]
          go_wp2_with fail
          exact bodyPost_ret (v := .tuple #[.slice (some ⟨g2, 0, none⟩) p.U.length p.U.length, .int .i64 (dotZ p.C xb), .int .i64 0]) (by simp [results, Try.results12, go_sem]) rfl ⟨below_drewN ((HE2.out.trans HEE.out).trans HE4.out) n9, .inr (.inr ⟨Hw.out, xb, _, HBK.out, rfl, HX2.out.ext (below_drewN (Ext.refl w4) n9)⟩)⟩
end Go.Proofs.Ytblaipkhmmaenaa
