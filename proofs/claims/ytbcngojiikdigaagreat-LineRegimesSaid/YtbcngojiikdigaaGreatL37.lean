import Derived.Test.YtbcngojiikdigaaGreatL36
namespace Go.Proofs.YtbcngojiikdigaaGreat
set_option maxRecDepth 100000
open Go.RowKit Go.Shelf
/-- rows in memory of their own behind a bound -/
def Sheet (base : Nat) (w : World) (r : Value) (n : Nat) : Prop :=
  ∃ C vs, base ≤ C ∧ r = .slice (some ⟨C, 0, none⟩) n n ∧ VRow w C 23 vs ∧ vs.length = n ∧ ∀ i, i < n → ∃ R us, base ≤ R ∧ vs[i]? = some (.slice (some ⟨R, 0, none⟩) n n) ∧ VRow w R 3 us ∧ us.length = n
theorem NewMat.sheet {base n : Nat} {w : World} {r : Value} {M : MF} (h : NewMat base w r 3 23 n M) : Sheet base w r n := by
  obtain ⟨C, vs, h1, h2, h3, h4, h5⟩ := h
  refine ⟨C, vs, h1, h2, h3, h4, fun i hi => ?_⟩
  obtain ⟨R, h6, h7, us, h8, h9, _⟩ := h5 i hi
  obtain ⟨x, hx⟩ := getElem?_len (show i < vs.length by omega)
  have hc := VRow.cell h3 hx
  rw [h7] at hc
  injection hc with hc
  subst hc
  exact ⟨R, us, by omega, hx, h8, h9⟩
theorem Sheet.ext {base n : Nat} {w w' : World} {r : Value} (h : Sheet base w r n) (he : Ext w w') : Sheet base w' r n := by
  obtain ⟨C, vs, h1, h2, h3, h4, h5⟩ := h
  refine ⟨C, vs, h1, h2, VRow.ext h3 he, h4, fun i hi => ?_⟩
  obtain ⟨R, us, h6, h7, h8, h9⟩ := h5 i hi
  exact ⟨R, us, h6, h7, VRow.ext h8 he, h9⟩
theorem vrow_type {w : World} {g t t' : Nat} {vs vs' : List Value} (h : VRow w g t vs) (h' : VRow w g t' vs') : t = t' := by
  unfold VRow at *
  rw [h] at h'
  injection h' with h'
  injection h'
theorem Sheet.put {base n R : Nat} {w : World} {r : Value} {us : List Value} (h : Sheet base w r n) (hR : VRow w R 3 us) (hl : us.length = n) (j : Nat) (x : Value) : Sheet base (w.setCell ⟨R, j, none⟩ x) r n := by
  obtain ⟨C, vs, h1, h2, h3, h4, h5⟩ := h
  have hCR : C ≠ R := by
    rintro rfl
    exact absurd (vrow_type h3 hR) (by decide)
  refine ⟨C, vs, h1, h2, VRow.setOther h3 (a := ⟨R, j, none⟩) hCR _, h4, fun i hi => ?_⟩
  obtain ⟨R', us', h6, h7, h8, h9⟩ := h5 i hi
  by_cases e : R' = R
  · subst e
    exact ⟨R', us'.set j x, h6, h7, VRow.set h8 j x, by simp [h9]⟩
  · exact ⟨R', us', h6, h7, VRow.setOther h8 (a := ⟨R, j, none⟩) e _, h9⟩
theorem Sheet.row {base n C : Nat} {w : World} (h : Sheet base w (.slice (some ⟨C, 0, none⟩) n n) n) {i : Nat} (hi : i < n) : ∃ R us, base ≤ R ∧ w.cell? ⟨C, i, none⟩ = some (.slice (some ⟨R, 0, none⟩) n n) ∧ VRow w R 3 us ∧ us.length = n := by
  obtain ⟨C', vs, h1, h2, h3, h4, h5⟩ := h
  simp only [Value.slice.injEq, Option.some.injEq, Addr.mk.injEq] at h2
  obtain ⟨⟨rfl, _⟩, _⟩ := h2
  obtain ⟨R, us, h6, h7, h8, h9⟩ := h5 i hi
  exact ⟨R, us, h6, VRow.cell h3 h7, h8, h9⟩
def SpoilOk (base : Nat) (w : World) (p : Value) : Prop := p = .slice none 0 0 ∨ ∃ n, n ≤ 6 ∧ Sheet base w p n
set_option maxHeartbeats 4000000 in
theorem spoil_c (p : Value) (base : Nat) (w : World) (hp : SpoilOk base w p) : Calls Tryz.prog 14 #[p] w fun e w' => (∃ v, e = .returned v) ∧ Below base w w' := by
  rcases hp with rfl | ⟨n, hn, hS⟩
  · go_enter Tryz.func14, Tryz.ntmps14
    go_wp2_with fail
    go_loopw [2] (fun i wr => i = .int .i64 0 ∧ wr = w) (fun _ _ => 0)
    case atStart => exact ⟨rfl, rfl⟩
    case round =>
      obtain ⟨rfl, rfl⟩ := hrel
      go_wp2_with fail
      go_end0
      exact ⟨⟨_, rfl⟩, Below.refl _ _⟩
  · obtain ⟨C, hpC⟩ : ∃ C, p = .slice (some ⟨C, 0, none⟩) n n := by obtain ⟨C, vs, _, h, _⟩ := hS; exact ⟨C, h⟩
    subst hpC
    have HS := Lib.hid hS
    clear hS
    go_enter Tryz.func14, Tryz.ntmps14
    go_wp2_with fail
    go_loopw [2] (fun i wr => ∃ k : Nat, i = .int .i64 (k : Int) ∧ k ≤ n ∧ Sheet base wr (.slice (some ⟨C, 0, none⟩) n n) n ∧ Below base w wr) (fun i _ => n - (intOf i).toNat)
    case atStart => exact ⟨0, rfl, Nat.zero_le _, HS.out, Below.refl _ _⟩
    case round =>
      rename World => wr
      obtain ⟨k, rfl, hk, hS, hB⟩ := hrel
      have HS := Lib.hid hS
      have HB := Lib.hid hB
      clear hS hB
      by_cases hlt : k < n
      · go_wp2_with fail
        go_loopw [3] (fun i wq => ∃ j : Nat, i = .int .i64 (j : Int) ∧ j ≤ n ∧ Sheet base wq (.slice (some ⟨C, 0, none⟩) n n) n ∧ Below base w wq) (fun i _ => n - (intOf i).toNat)
        case atStart => exact ⟨0, rfl, Nat.zero_le _, HS.out, HB.out⟩
        case round =>
          rename World => wq
          obtain ⟨j, rfl, hj, hS, hB⟩ := hrel
          obtain ⟨R, us, hbR, c1, hR, hul⟩ := hS.row hlt
          have HSq := Lib.hid hS
          have HBq := Lib.hid hB
          have HR := Lib.hid hR
          have hcb := cell_lt c1
          clear hS hB
          by_cases hjl : j < n
          · obtain ⟨u0, hu0⟩ := getElem?_len (show j < us.length by omega)
            have m0 := VRow.cell hR hu0
            have f0 := VRow.frozen hR j none
            have hcb2 := cell_lt m0
            have HUL := Lib.hid hul
            clear hu0 hR hul
            go_wp2_with fail
            exact ⟨⟨j + 1, by simp, by omega, HSq.out.put HR.out HUL.out j _, Below.setCell (p := ⟨R, j, none⟩) HBq.out hbR _⟩, by simp [intOf]; omega⟩
          · obtain rfl : j = n := by omega
            clear hR hul
            go_wp2_with fail
            exact ⟨⟨k + 1, by simp, by omega, HSq.out, HBq.out⟩, by simp [intOf]; omega⟩
      · obtain rfl : k = n := by omega
        go_wp2_with fail
        go_end0
        exact ⟨⟨_, rfl⟩, HB.out⟩
set_option maxHeartbeats 8000000 in
theorem RRun_c (u v : Value) (xs : List (List Int)) (x : List Int) (k : Int) (w : World) (hu : Rows2 w u xs) (hlx : ∀ r ∈ xs, r.length ≤ 1000000) (hv : Ints w v x) (hl : x.length ≤ 1000000) (hxl : xs.length ≤ 1000000) :
    Calls Tryz.prog 18 #[u, v, .int .i64 k] w fun e w' => RunS xs x k e w' ∧ Ext w w' := by
  have HU := Lib.hid hu
  have HV := Lib.hid hv
  have HM := Lib.hid (rmatrix_c u xs w hu hlx)
  obtain ⟨a1, c1, rfl, hl1, hm1, _⟩ := hu.at
  obtain ⟨a2, c2, rfl, hl2, hm2, hrx⟩ := hv.at
  have HRX := Lib.hid hrx
  clear hu hlx hv hrx
  have HF := Lib.hid (fun (w' : World) (h : (matB xs && countB k && vecB x xs.length) = false) => (show RunS xs x k (two (.slice none 0 0) (.int .i64 2)) w' from .inl ⟨h, rfl⟩))
  cases hx : matB xs with
  | false =>
    have HS := Lib.hid (fun w' => HF.out w' (by rw [hx]; rfl))
    rw [hx] at HM
    clear hx HF
    go_enter Tryz.func18, Tryz.ntmps18
    go_wp2_with fail
    refine HM.out.mono ?_
    rintro e w1 ⟨rfl, hE⟩
    have HE := Lib.hid hE
    clear hE
    go_wp2_with fail
    go_ret2
    exact ⟨HS.out _, HE.out⟩
  | true =>
    rw [hx] at HM
    by_cases h0 : k < 0
    · have HS := Lib.hid (fun w' => HF.out w' (by rw [hx]; unfold countB; rw [decide_eq_false (by omega)]; rfl))
      clear hx HF
      go_enter Tryz.func18, Tryz.ntmps18
      go_wp2_with fail
      refine HM.out.mono ?_
      rintro e w1 ⟨rfl, hE⟩
      have HE := Lib.hid hE
      clear hE
      go_wp2_with fail
      go_ret2
      exact ⟨HS.out _, HE.out⟩
    · by_cases h1 : 1048576 < k
      · have HS := Lib.hid (fun w' => HF.out w' (by rw [hx]; unfold countB; rw [decide_eq_false (show ¬ k ≤ 1048576 by omega)]; simp))
        clear hx HF
        go_enter Tryz.func18, Tryz.ntmps18
        go_wp2_with fail
        refine HM.out.mono ?_
        rintro e w1 ⟨rfl, hE⟩
        have HE := Lib.hid hE
        clear hE
        go_wp2_with fail
        go_ret2
        exact ⟨HS.out _, HE.out⟩
      · have hcK : countB k = true := by unfold countB; rw [decide_eq_true (by omega), decide_eq_true (by omega)]; rfl
        by_cases hlen : x.length = xs.length
        · obtain ⟨k0, rfl⟩ : ∃ k0 : Nat, k = (k0 : Int) := ⟨k.toNat, by omega⟩
          have hb : ((x.length : Int) != (xs.length : Int)) = false := by rw [hlen]; simp
          have HX := Lib.hid hx
          have HK := Lib.hid hcK
          have HOX := Lib.hid (matB_ok hx)
          have hn := HOX.out.1
          obtain ⟨y0, hy0⟩ := getElem?_len (show 0 < x.length by omega)
          obtain ⟨xb, xo, rfl, _⟩ := HRX.out 0 y0 hy0
          clear hy0
          have HLEN := Lib.hid hlen
          have hlenle : x.length ≤ xs.length := by omega
          have hlenge : xs.length ≤ x.length := by omega
          clear hx hcK hlen
          go_enter Tryz.func18, Tryz.ntmps18
          go_wp2_with fail
          refine HM.out.mono ?_
          rintro e w1 ⟨rfl, hE⟩
          have HE := Lib.hid hE
          clear hE
          go_wp2_with fail
          go_loopw [8] (fun i wr => ∃ j : Nat, j ≤ x.length ∧ i = .int .i64 j ∧ (x.take j).all vecE = true ∧ Ext w wr) (fun i _ => x.length - (intOf i).toNat)
          case atStart => exact ⟨0, Nat.zero_le _, rfl, rfl, HE.out⟩
          case round =>
            rename World => wr
            obtain ⟨j, hj, rfl, ht, hE⟩ := hrel
            have Ht := Lib.hid ht
            have HE := Lib.hid hE
            clear ht hE
            by_cases hjl : j < x.length
            · obtain ⟨y, hy⟩ := getElem?_len hjl
              obtain ⟨b2, o2, e2, c2⟩ := HRX.out j y hy
              simp only [Option.some.injEq, Addr.mk.injEq, and_true] at e2
              obtain ⟨rfl, rfl⟩ := e2
              replace c2 := Ext.cell HE.out c2
              have hcb2 := cell_lt c2
              cases he : vecE y with
              | true =>
                have HN := Lib.hid (all_take_succ hy Ht.out he)
                have HI := Lib.hid (show y = -1152921504606846976 ∨ (-1125899906842624 ≤ y ∧ y ≤ 562949953421312) from by simpa [vecE] using he)
                clear hy he
                rcases HI.out with hi | ⟨hi1, hi2⟩
                · subst hi
                  go_wp2_with fail
                  exact ⟨⟨j + 1, by omega, by simp, HN.out, HE.out⟩, by simp [intOf]; omega⟩
                · have hb : (y != -1152921504606846976) = true := by rw [bne_iff_ne]; omega
                  go_wp2_with fail
                  exact ⟨⟨j + 1, by omega, by simp, HN.out, HE.out⟩, by simp [intOf]; omega⟩
              | false =>
                have HS := Lib.hid (fun w' => HF.out w' (by
                  unfold vecB
                  rw [List.any_eq_true.2 ⟨y, List.mem_of_getElem? hy, by simp [he]⟩]
                  simp))
                have hne : y ≠ -1152921504606846976 ∧ ¬ (-1125899906842624 ≤ y ∧ y ≤ 562949953421312) := by
                  constructor
                  · rintro rfl; simp [vecE] at he
                  · intro h; simp [vecE, h.1, h.2] at he
                have hb : (y != -1152921504606846976) = true := by rw [bne_iff_ne]; exact hne.1
                clear hy he
                by_cases hlo : y < -1125899906842624
                · clear hne
                  go_wp2_with fail
                  go_ret2
                  exact ⟨HS.out _, HE.out⟩
                · have hhi : 562949953421312 < y := by omega
                  clear hne
                  go_wp2_with fail
                  go_ret2
                  exact ⟨HS.out _, HE.out⟩
            · have HVA := Lib.hid (all_done (by omega) Ht.out)
              have HVB := Lib.hid (show vecB x xs.length = true from by
                unfold vecB
                rw [decide_eq_true HLEN.out]
                have h := HVA.out
                rw [List.all_eq_not_any_not] at h
                simpa using h)
              have HOV := Lib.hid (vecB_ok HVB.out)
              have hxn : ¬ (j : Int) < (x.length : Int) := by omega
              go_wp2_with fail
              refine (raised_c xs.length (entF xs) hn.1 hn.2 HOX.out.2.2 k0 _ wr (by omega) (rows_mat (HU.out.ext HE.out) HOX.out.2.1 hn.1)).mono ?_
              rintro e w3 ⟨p, rfl, hp, hE⟩
              have HE3 := Lib.hid (Ext.trans HE.out hE)
              obtain ⟨pb, po, pc, rfl, hp1, hp2, hp3⟩ := hp
              have HP := Lib.hid hp3
              have HX3 := Lib.hid (show ∀ t, t < xs.length → w.cell? ⟨xb, xo + t, none⟩ = some (iv (startF x t)) from by
                obtain ⟨b', o', c', ex, _, _, hx3⟩ := ints_vec HV.out HLEN.out hn.1
                simp only [Value.slice.injEq, Option.some.injEq, Addr.mk.injEq] at ex
                obtain ⟨⟨rfl, rfl, _⟩, _⟩ := ex
                exact hx3)
              have HYB := Lib.hid (show ∀ i, i < xs.length → ∀ t, t ≤ xs.length → bdE KB (es (fun j => ep (pwF xs.length (entF xs) k0 i j) (startF x j)) t) from fun i hi t ht => bdE_es fun j hj => (bdE_ep (bdF_pw HOX.out.2.2 k0 i hi j (by omega)) (HOV.out.2 j (by omega))).mono (by unfold KB; omega))
              have HMB := Lib.hid (show ∀ i, i < xs.length → ∀ j, j < xs.length → bdE KB (ep (pwF xs.length (entF xs) k0 i j) (startF x j)) from fun i hi j hj => (bdE_ep (bdF_pw HOX.out.2.2 k0 i hi j hj) (HOV.out.2 j hj)).mono (by unfold KB; omega))
              have HPB := Lib.hid (show bdF KB xs.length (pwF xs.length (entF xs) k0) from (bdF_pw HOX.out.2.2 k0).mono (by unfold KB; omega))
              have HSB := Lib.hid (show ∀ j, j < xs.length → bdE KB (startF x j) from fun j hj => (HOV.out.2 j hj).mono (by unfold KB; omega))
              have HRL := Lib.hid (show runL xs x k0 = listV xs.length (vecF xs.length (pwF xs.length (entF xs) k0) (startF x)) from rfl)
              clear hE hp3
              generalize hPP : pwF xs.length (entF xs) k0 = PP at *
              generalize hXX : startF x = XX at *
              clear hPP hXX
              go_wp2_with fail
              go_loopw [11, 10] (fun iv' ov wq => ∃ i : Nat, iv' = .int .i64 (i : Int) ∧ i ≤ xs.length ∧ RowOwn w3.heap.size wq ov i (vecF xs.length PP XX) ∧ Ext w3 wq) (fun iv' _ _ => xs.length - (intOf iv').toNat)
              case atStart => exact ⟨0, rfl, Nat.zero_le _, ⟨rfl, .inl ⟨rfl, rfl⟩⟩, Ext.refl _⟩
              case round =>
                rename World => wq
                obtain ⟨i, rfl, hi, hR, hEq⟩ := hrel
                obtain ⟨sa, sc, rfl⟩ := own_slice hR
                have HR := Lib.hid hR
                have HEq := Lib.hid hEq
                clear hR hEq
                have hwq := HEq.out.size
                by_cases hil : i < xs.length
                · have hix : (i : Int) < (x.length : Int) := by omega
                  go_wp2_with fail
                  go_loopw [13, 12] (fun tv bv wt => ∃ t : Nat, tv = .int .i64 (t : Int) ∧ t ≤ xs.length ∧ bv = iv (es (fun j => ep (PP i j) (XX j)) t) ∧ Ext wq wt) (fun tv _ _ => xs.length - (intOf tv).toNat)
                  case atStart => exact ⟨0, rfl, Nat.zero_le _, rfl, Ext.refl _⟩
                  case round =>
                    rename World => wt
                    obtain ⟨t, rfl, ht, rfl, hEt⟩ := hrel
                    have HEt := Lib.hid hEt
                    clear hEt
                    have HES := Lib.hid (show es (fun j => ep (PP i j) (XX j)) (t + 1) = em (es (fun j => ep (PP i j) (XX j)) t) (ep (PP i t) (XX t)) from rfl)
                    by_cases htl : t < xs.length
                    · have htx : (t : Int) < (x.length : Int) := by omega
                      have htx2 : t < x.length := by omega
                      obtain ⟨ru, ca, hra⟩ := HP.out i hil
                      obtain ⟨rb, ro, rc, rfl, hr1, hr2, hr3⟩ := hra
                      have HC1 := Lib.hid (Ext.cell (Ext.trans HEq.out HEt.out) ca)
                      have HC2 := Lib.hid (Ext.cell (Ext.trans HEq.out HEt.out) (hr3 t htl))
                      have HC3 := Lib.hid (Ext.cell (Ext.trans HE3.out (Ext.trans HEq.out HEt.out)) (HX3.out t htl))
                      have HB1 := Lib.hid (HYB.out i hil t ht)
                      have HB2 := Lib.hid (HMB.out i hil t htl)
                      have HPL := Lib.hid (fun W => rplus_c (PP i t) (XX t) W (HPB.out i hil t htl) (HSB.out t htl))
                      clear ca hr3
                      obtain ⟨es1, he1⟩ : ∃ e, e = es (fun j => ep (PP i j) (XX j)) (t + 1) := ⟨_, rfl⟩
                      rw [← he1] at HES
                      have HQ1 := Lib.hid he1
                      clear he1
                      generalize es (fun j => ep (PP i j) (XX j)) t = es0 at *
                      generalize ep (PP i t) (XX t) = pz at *
                      generalize PP i t = akt at *
                      generalize XX t = btj at *
                      have HMX := Lib.hid (val_em_max HB1.out HB2.out)
                      go_wp2_with fail
                      refine wp_region_stable_last [⟨[], none⟩, ⟨[], none⟩, ⟨[], none⟩, ⟨[(1, 74), (2, 75)], none⟩, ⟨[(3, 76)], none⟩, ⟨[], none⟩, ⟨[(4, 77), (5, 78)], none⟩, ⟨[(6, 79)], none⟩, ⟨[], none⟩, ⟨[], none⟩, ⟨[(8, 81), (9, 82)], none⟩, ⟨[(10, 83)], none⟩, ⟨[(7, 80), (11, 84)], none⟩, ⟨[(0, 73), (12, 85)], none⟩] (fun x y => Below x.heap.size x y) (MPat [MP.eq (iv es0), MP.eq (.slice (some ⟨pb, po, none⟩) xs.length pc), MP.eq (.int .i64 (i : Int)), MP.eq (.pointer (some ⟨pb, po + i, none⟩)), MP.eq (.slice (some ⟨rb, ro, none⟩) xs.length rc), MP.eq (.int .i64 (t : Int)), MP.eq (.pointer (some ⟨rb, ro + t, none⟩)), MP.eq (iv akt), MP.eq (.slice (some ⟨xb, xo, none⟩) x.length c2), MP.eq (.int .i64 (t : Int)), MP.eq (.pointer (some ⟨xb, xo + t, none⟩)), MP.eq (iv btj), MP.eq (iv pz), MP.eq (iv es1)]) rfl (by kernel_rfl) (fun _ _ _ h k => Ext.trans h k) (fun _ => Below.refl _ _) (fun x => (Below.refl x.heap.size x).drew) (MPat.mono _) (by kernel_rfl) (by kernel_rfl) (by kernel_rfl) ?obs ?rest
                      case obs =>
                        refine ⟨?_, ?_, ?_, ?_, ?_, ?_, ?_, ?_, ?_, ?_, ?_, ?_, ?_, ?_, trivial⟩
                        · intro ev W hf _ _ hst hd
                          have e12 : ev (.tmp 12) = iv es0 := hf 12 (by kernel_rfl)
                          refine st_value (v := iv es0) ?_ (Below.refl _ _) ?_
                          · simp [execOp, go_sem, e12]
                          · exact rfl
                        · intro ev W hf _ _ hst hd
                          have e9 : ev (.tmp 9) = .slice (some ⟨pb, po, none⟩) xs.length pc := hf 9 (by kernel_rfl)
                          refine st_value (v := .slice (some ⟨pb, po, none⟩) xs.length pc) ?_ (Below.refl _ _) ?_
                          · simp [execOp, go_sem, e9]
                          · exact rfl
                        · intro ev W hf _ _ hst hd
                          have e11 : ev (.tmp 11) = .int .i64 (i : Int) := hf 11 (by kernel_rfl)
                          refine st_value (v := .int .i64 (i : Int)) ?_ (Below.refl _ _) ?_
                          · simp [execOp, go_sem, e11]
                          · exact rfl
                        · intro ev W hf _ _ hst hd
                          obtain ⟨d74, d75, _⟩ := hd
                          have e74 : ev (.tmp 74) = .slice (some ⟨pb, po, none⟩) xs.length pc := d74
                          have e75 : ev (.tmp 75) = .int .i64 (i : Int) := d75
                          refine st_value (v := .pointer (some ⟨pb, po + i, none⟩)) ?_ (Below.refl _ _) ?_
                          · simp [execOp, go_sem, e74, e75, hil]
                          · exact rfl
                        · intro ev W hf _ _ hst hd
                          obtain ⟨d76, _⟩ := hd
                          have e76 : ev (.tmp 76) = .pointer (some ⟨pb, po + i, none⟩) := d76
                          have q0 := Ext.cell hst HC1.out
                          refine st_value (v := .slice (some ⟨rb, ro, none⟩) xs.length rc) ?_ (Below.refl _ _) ?_
                          · simp [execOp, go_sem, e76, q0]
                          · exact rfl
                        · intro ev W hf _ _ hst hd
                          have e13 : ev (.tmp 13) = .int .i64 (t : Int) := hf 13 (by kernel_rfl)
                          refine st_value (v := .int .i64 (t : Int)) ?_ (Below.refl _ _) ?_
                          · simp [execOp, go_sem, e13]
                          · exact rfl
                        · intro ev W hf _ _ hst hd
                          obtain ⟨d77, d78, _⟩ := hd
                          have e77 : ev (.tmp 77) = .slice (some ⟨rb, ro, none⟩) xs.length rc := d77
                          have e78 : ev (.tmp 78) = .int .i64 (t : Int) := d78
                          refine st_value (v := .pointer (some ⟨rb, ro + t, none⟩)) ?_ (Below.refl _ _) ?_
                          · simp [execOp, go_sem, e77, e78, htl]
                          · exact rfl
                        · intro ev W hf _ _ hst hd
                          obtain ⟨d79, _⟩ := hd
                          have e79 : ev (.tmp 79) = .pointer (some ⟨rb, ro + t, none⟩) := d79
                          have q0 := Ext.cell hst HC2.out
                          refine st_value (v := iv akt) ?_ (Below.refl _ _) ?_
                          · simp [execOp, go_sem, e79, q0]
                          · exact rfl
                        · intro ev W hf _ _ hst hd
                          have e1 : ev (.tmp 1) = .slice (some ⟨xb, xo, none⟩) x.length c2 := hf 1 (by kernel_rfl)
                          refine st_value (v := .slice (some ⟨xb, xo, none⟩) x.length c2) ?_ (Below.refl _ _) ?_
                          · simp [execOp, go_sem, e1]
                          · exact rfl
                        · intro ev W hf _ _ hst hd
                          have e13 : ev (.tmp 13) = .int .i64 (t : Int) := hf 13 (by kernel_rfl)
                          refine st_value (v := .int .i64 (t : Int)) ?_ (Below.refl _ _) ?_
                          · simp [execOp, go_sem, e13]
                          · exact rfl
                        · intro ev W hf _ _ hst hd
                          obtain ⟨d81, d82, _⟩ := hd
                          have e81 : ev (.tmp 81) = .slice (some ⟨xb, xo, none⟩) x.length c2 := d81
                          have e82 : ev (.tmp 82) = .int .i64 (t : Int) := d82
                          refine st_value (v := .pointer (some ⟨xb, xo + t, none⟩)) ?_ (Below.refl _ _) ?_
                          · simp [execOp, go_sem, e81, e82, htx2]
                          · exact rfl
                        · intro ev W hf _ _ hst hd
                          obtain ⟨d83, _⟩ := hd
                          have e83 : ev (.tmp 83) = .pointer (some ⟨xb, xo + t, none⟩) := d83
                          have q0 := Ext.cell hst HC3.out
                          refine st_value (v := iv btj) ?_ (Below.refl _ _) ?_
                          · simp [execOp, go_sem, e83, q0]
                          · exact rfl
                        · intro ev W hf _ hfn hst hd
                          obtain ⟨d80, d84, _⟩ := hd
                          have e80 : ev (.tmp 80) = iv akt := d80
                          have e84 : ev (.tmp 84) = iv btj := d84
                          refine st_call (f := 56) (args := #[iv akt, iv btj]) (by simp [execOp, go_sem, hfn, e80, e84]) (HPL.out W) (fun _ _ => rfl)
                        · intro ev W hf _ _ hst hd
                          obtain ⟨d73, d85, _⟩ := hd
                          have e73 : ev (.tmp 73) = iv es0 := d73
                          have e85 : ev (.tmp 85) = iv pz := d85
                          refine st_value (v := iv es1) ?_ (Below.refl _ _) ?_
                          · rw [HES.out]; simp [go_sem, e73, e85, HMX.out]
                          · exact rfl
                      case rest =>
                        intro vs w3x hl hst hg
                        have HE3' := Lib.hid hst
                        have hus : vs = [iv es0, .slice (some ⟨pb, po, none⟩) xs.length pc, .int .i64 (i : Int), .pointer (some ⟨pb, po + i, none⟩), .slice (some ⟨rb, ro, none⟩) xs.length rc, .int .i64 (t : Int), .pointer (some ⟨rb, ro + t, none⟩), iv akt, .slice (some ⟨xb, xo, none⟩) x.length c2, .int .i64 (t : Int), .pointer (some ⟨xb, xo + t, none⟩), iv btj, iv pz, iv es1] := list_of hl (fun i u hu => by
                          match i, hu with
                          | 0, hu => exact (congrArg some (hg 0 u hu)).symm
                          | 1, hu => exact (congrArg some (hg 1 u hu)).symm
                          | 2, hu => exact (congrArg some (hg 2 u hu)).symm
                          | 3, hu => exact (congrArg some (hg 3 u hu)).symm
                          | 4, hu => exact (congrArg some (hg 4 u hu)).symm
                          | 5, hu => exact (congrArg some (hg 5 u hu)).symm
                          | 6, hu => exact (congrArg some (hg 6 u hu)).symm
                          | 7, hu => exact (congrArg some (hg 7 u hu)).symm
                          | 8, hu => exact (congrArg some (hg 8 u hu)).symm
                          | 9, hu => exact (congrArg some (hg 9 u hu)).symm
                          | 10, hu => exact (congrArg some (hg 10 u hu)).symm
                          | 11, hu => exact (congrArg some (hg 11 u hu)).symm
                          | 12, hu => exact (congrArg some (hg 12 u hu)).symm
                          | 13, hu => exact (congrArg some (hg 13 u hu)).symm
                          | n + 14, hu => exact absurd (lt_len hu) (by rw [hl]; simp))
                        clear hg hst hl
                        subst hus
                        simp only [putAll, Act.put, List.dropLast, List.setIfInBounds_toArray, List.set_cons_zero, List.set_cons_succ]
                        go_wp2_with fail
                        exact ⟨⟨t + 1, by simp, by omega, by rw [HQ1.out], Ext.trans HEt.out HE3'.out⟩, by simp [intOf]; omega⟩
                    · obtain rfl : t = xs.length := by omega
                      have htx : ¬ (xs.length : Int) < (x.length : Int) := by omega
                      have HRS := Lib.hid (listV_succ i (vecF xs.length PP XX))
                      have hlen2 : (listV i (vecF xs.length PP XX)).length = i := listV_len _ _
                      have hwt := HEt.out.size
                      obtain ⟨i0, hi0, hz0, hz1, hz2⟩ := info_parts info3x23
                      have HI := Lib.hid hi0
                      have HZ0 := Lib.hid hz0
                      have HZ1 := Lib.hid hz1
                      have HZ2 := Lib.hid hz2
                      clear hi0 hz0 hz1 hz2
                      obtain ⟨zz, hzz⟩ : ∃ zz, zz = val (es (fun j => ep (PP i j) (XX j)) xs.length) := ⟨_, rfl⟩
                      unfold iv
                      rw [← hzz]
                      have HZZ := Lib.hid (show zz = val (vecF xs.length PP XX i) from hzz)
                      clear hzz
                      have hob : ∀ x, Value.ownBlock (.slice sa i sc) = some x → w3.heap.size ≤ x := fun x hx => own_block HR.out hx
                      have HOWN := Lib.hid (ownsRow_ext HR.out (Ext.alloc HEt.out (.cells #[.int .i64 zz] 3)))
                      go_wp2_with (at_builtin; (refine wpList_append_own _ rfl _ _ 23 rfl w3.heap.size 3 i0 (.int .i64 0) 1 8 Tryz.underlying23 HI.out HZ0.out HZ1.out HZ2.out rfl (by decide) _ _ _ rfl HOWN.out ⟨wt.heap.size, 0, none⟩ 1 1 [.int .i64 zz] rfl rfl (fun j u h => cell_one_new wt _ 3 j u h) (by simp [Value.oneCell']) (by unfold maxLen; omega) (by omega) (by simp; omega) ?_; intro v' w' hown' hgrow hnil; have HO10 := Lib.hid hown'; have HG10 := Lib.hid hgrow; clear hown' hgrow hnil))
                      refine ⟨⟨i + 1, by simp, by omega, ?_, Below.grown (Ext.alloc (Ext.trans HEq.out HEt.out) (.cells #[.int .i64 zz] 3)) HG10.out (by simp; omega) (fun x e => hob x e)⟩, by simp [intOf]; omega⟩
                      unfold RowOwn
                      rw [HRS.out, List.map_append]
                      show w'.ownsRow w3.heap.size 3 1 v' (i + 1) _
                      have h := HO10.out
                      rw [HZZ.out] at h
                      exact h
                · obtain rfl : i = xs.length := by omega
                  have hix : ¬ (xs.length : Int) < (x.length : Int) := by omega
                  have hR := HR.out
                  unfold RowOwn at hR
                  rw [← HRL.out] at hR
                  have HRN := Lib.hid (show (runL xs x k0).length = xs.length from by rw [HRL.out]; exact listV_len _ _)
                  have HYI := Lib.hid (show Ints wq (.slice sa xs.length sc) (runL xs x k0) from own_ints2 (by rw [HRN.out]; exact hR) (by rw [HRN.out]; omega))
                  obtain ⟨ya, yc, ey, hyc, hym, hyr⟩ := HYI.out.at
                  simp only [Value.slice.injEq] at ey
                  obtain ⟨rfl, ey2, rfl⟩ := ey
                  clear ey2
                  have HYR := Lib.hid hyr
                  clear hR hyr
                  generalize hrun : runL xs x k0 = rr at *
                  have HRUN := Lib.hid hrun
                  clear hrun
                  go_wp2_with fail
                  go_loopw [14] (fun jv wt => ∃ j : Nat, j ≤ xs.length ∧ jv = .int .i64 j ∧ (rr.take j).all resE = true ∧ Ext wq wt) (fun jv _ => xs.length - (intOf jv).toNat)
                  case atStart => exact ⟨0, Nat.zero_le _, rfl, rfl, Ext.refl _⟩
                  case round =>
                    rename World => wt
                    obtain ⟨j', hj', rfl, ht', hEt⟩ := hrel
                    have Ht' := Lib.hid ht'
                    have HEt := Lib.hid hEt
                    clear ht' hEt
                    by_cases hjl' : j' < xs.length
                    · have hjx' : (j' : Int) < (x.length : Int) := by omega
                      obtain ⟨y, hy⟩ := getElem?_len (show j' < rr.length by rw [HRN.out]; exact hjl')
                      obtain ⟨b2, o2, rfl, c2'⟩ := HYR.out j' y hy
                      replace c2' := Ext.cell HEt.out c2'
                      have hcb2 := cell_lt c2'
                      cases he : resE y with
                      | true =>
                        have HN := Lib.hid (all_take_succ hy Ht'.out he)
                        have HI := Lib.hid (show y = -1152921504606846976 ∨ (-1125899906842624 ≤ y ∧ y ≤ 1125899906842624) from by simpa [resE] using he)
                        clear hy he
                        rcases HI.out with hi2 | ⟨hi1, hi2⟩
                        · subst hi2
                          go_wp2_with fail
                          exact ⟨⟨j' + 1, by omega, by simp, HN.out, HEt.out⟩, by simp [intOf]; omega⟩
                        · have hb : (y != -1152921504606846976) = true := by rw [bne_iff_ne]; omega
                          go_wp2_with fail
                          exact ⟨⟨j' + 1, by omega, by simp, HN.out, HEt.out⟩, by simp [intOf]; omega⟩
                      | false =>
                        have HS := Lib.hid (fun w' => (show RunS xs x (k0 : Int) (two (.slice none 0 0) (.int .i64 4)) w' from .inr (.inl ⟨HX.out, HK.out, HVB.out, by rw [Int.toNat_natCast, HRUN.out]; exact List.any_eq_true.2 ⟨y, List.mem_of_getElem? hy, by simp [he]⟩, rfl⟩)))
                        have hne : y ≠ -1152921504606846976 ∧ ¬ (-1125899906842624 ≤ y ∧ y ≤ 1125899906842624) := by
                          constructor
                          · rintro rfl; simp [resE] at he
                          · intro h; simp [resE, h.1, h.2] at he
                        have hb : (y != -1152921504606846976) = true := by rw [bne_iff_ne]; exact hne.1
                        clear hy he
                        by_cases hlo : y < -1125899906842624
                        · clear hne
                          go_wp2_with fail
                          go_ret2
                          exact ⟨HS.out _, Ext.trans HE3.out (Ext.trans HEq.out HEt.out)⟩
                        · have hhi : 1125899906842624 < y := by omega
                          clear hne
                          go_wp2_with fail
                          go_ret2
                          exact ⟨HS.out _, Ext.trans HE3.out (Ext.trans HEq.out HEt.out)⟩
                    · have hjx' : ¬ (j' : Int) < (x.length : Int) := by omega
                      have HAL := Lib.hid (all_done (by rw [HRN.out]; omega) Ht'.out)
                      have HS := Lib.hid (show RunS xs x (k0 : Int) (two (.slice sa xs.length sc) (.int .i64 0)) wt from .inr (.inr ⟨HX.out, HK.out, HVB.out, by
                        rw [Int.toNat_natCast, HRUN.out]
                        have h := HAL.out
                        rw [List.all_eq_not_any_not] at h
                        simpa using h, _, rfl, by rw [Int.toNat_natCast, HRUN.out]; exact HYI.out.ext HEt.out⟩))
                      go_wp2_with fail
                      go_ret2
                      exact ⟨HS.out, Ext.trans HE3.out (Ext.trans HEq.out HEt.out)⟩
        · have hb : ((x.length : Int) != (xs.length : Int)) = true := by rw [bne_iff_ne]; omega
          have HS := Lib.hid (fun w' => HF.out w' (by rw [hx, hcK]; unfold vecB; rw [decide_eq_false hlen]; simp))
          clear hx HF hlen
          go_enter Tryz.func18, Tryz.ntmps18
          go_wp2_with fail
          refine HM.out.mono ?_
          rintro e w1 ⟨rfl, hE⟩
          have HE := Lib.hid hE
          clear hE
          go_wp2_with fail
          go_ret2
          exact ⟨HS.out _, HE.out⟩
end Go.Proofs.YtbcngojiikdigaaGreat
