import Derived.Test.YtbcngojiikdigaaGreatL33
namespace Go.Proofs.YtbcngojiikdigaaGreat
set_option maxRecDepth 100000
open Go.RowKit Go.Shelf
theorem two_ints {e : Ending} {base : Nat} {xs ys : List (List Int)} {w' : World} (h : MultS base xs ys e w') : ∃ r z, e = two r (.int .i64 z) := by
  rcases h with ⟨_, h⟩ | ⟨_, _, _, r, h, _⟩
  · exact ⟨_, _, h⟩
  · exact ⟨_, _, h⟩
theorem run_two {e : Ending} {xs : List (List Int)} {x : List Int} {k : Int} {w' : World} (h : RunS xs x k e w') : ∃ r z, e = two r (.int .i64 z) := by
  rcases h with ⟨_, h⟩ | ⟨_, _, _, _, h⟩ | ⟨_, _, _, _, r, h, _⟩
  · exact ⟨_, _, h⟩
  · exact ⟨_, _, h⟩
  · exact ⟨_, _, h⟩
theorem countB_nat {m : Nat} (h : m ≤ 1048576) : countB (m : Int) = true := by
  simp only [countB, Bool.and_eq_true, decide_eq_true_eq]; omega
theorem list_short {n : Nat} {A : MF} (h : n ≤ 6) : ∀ r ∈ listM n A, r.length ≤ 1000000 := fun r hr => by rw [listM_row hr]; omega
/-- the product of three, either way -/
theorem assoc_rows {A B C : List (List Int)} (hA : matB A = true) (hB : matB B = true) (hC : matB C = true) (h1 : A.length = B.length) (h2 : B.length = C.length) :
    listM A.length (mulF A.length (entF (listM A.length (mulF A.length (entF A) (entF B)))) (entF C)) = listM A.length (mulF A.length (entF A) (entF (listM A.length (mulF A.length (entF B) (entF C))))) := by
  have bA := (matB_ok hA).2.2
  have bB := (matB_ok hB).2.2
  have bC := (matB_ok hC).2.2
  rw [← h2, ← h1] at bC
  rw [← h1] at bB
  refine listM_congr ?_
  have e1 := entF_list ((bdF_mul bA bB).mono (by unfold KB; omega))
  have e2 := entF_list ((bdF_mul bB bC).mono (by unfold KB; omega))
  exact ((mulF_congr e1 (eqF.refl _ _)).trans (by rw [mulF_assoc]; exact eqF.refl _ _)).trans (mulF_congr (eqF.refl _ _) e2.symm)
theorem vecF_congr {n : Nat} {A B : MF} {x y : Nat → E} (h : eqF n A B) (hx : ∀ i, i < n → x i = y i) : ∀ i, i < n → vecF n A x i = vecF n B y i := fun i hi => es_congr fun j hj => by rw [h i hi j hj, hx j hj]
/-- a run goes on where one stopped -/
theorem run_run {xs : List (List Int)} {x : List Int} {m k : Nat} (hX : matB xs = true) (hx : vecB x xs.length = true) (hm : m ≤ 1048576) : runL xs (runL xs x m) k = runL xs x (m + k) := by
  have bX := (matB_ok hX).2.2
  have bx := (vecB_ok hx).2
  have e1 : ∀ i, i < xs.length → startF (runL xs x m) i = vecF xs.length (pwF xs.length (entF xs) m) (startF x) i := fun i hi => by
    unfold startF runL
    rw [List.getD_eq_getElem?_getD, listV_at _ hi]
    refine unv_val (bdE_es fun j hj => (bdE_ep (bdF_pw bX m i hi j hj) (bx j hj)).mono ?_)
    unfold KB; omega
  show listV xs.length (vecF xs.length (pwF xs.length (entF xs) k) (startF (runL xs x m))) = listV xs.length (vecF xs.length (pwF xs.length (entF xs) (m + k)) (startF x))
  refine listV_congr fun i hi => ?_
  rw [vecF_congr (eqF.refl _ _) e1 i hi, ← vecF_mul]
  refine vecF_congr ?_ (fun _ _ => rfl) i hi
  rw [Nat.add_comm]
  exact (pwF_add _ _ _ _).symm
set_option maxHeartbeats 16000000 in
theorem algebra_c (ua ub uc ux : Value) (A B C : List (List Int)) (x : List Int) (j k : Int) (w : World) (hA : Rows2 w ua A) (hB : Rows2 w ub B) (hC : Rows2 w uc C) (hx : Ints w ux x) (hj : 0 ≤ j ∧ j ≤ 65535) (hk : 0 ≤ k ∧ k ≤ 65535) :
    Calls Tryz.prog 7 #[ua, ub, uc, ux, .int .u16 j, .int .u16 k] w fun e w' => e = .returned (.bool true) ∧ Ext w w' := by
  have HA := Lib.hid hA
  have HB := Lib.hid hB
  have HC := Lib.hid hC
  have HX := Lib.hid hx
  have HFA := Lib.hid (fun W (h : Ext w W) => few_c ua A W (Rows2.ext hA h))
  have HFB := Lib.hid (fun W (h : Ext w W) => few_c ub B W (Rows2.ext hB h))
  have HFC := Lib.hid (fun W (h : Ext w W) => few_c uc C W (Rows2.ext hC h))
  obtain ⟨aa, ca, rfl, _, _, _⟩ := hA.at
  obtain ⟨ab, cb, rfl, _, _, _⟩ := hB.at
  obtain ⟨ac, cc, rfl, _, _, _⟩ := hC.at
  obtain ⟨ax, cx, rfl, hxc, hxm, _⟩ := hx.at
  clear hA hB hC hx
  cases hfa : few20 A with
  | false =>
    rw [hfa] at HFA
    clear hfa
    go_enter Tryz.func7, Tryz.ntmps7
    go_wp2_with fail
    refine (HFA.out _ (Ext.refl _)).mono ?_
    rintro e w1 ⟨rfl, hE⟩
    have HE := Lib.hid hE
    clear hE
    go_wp2_with fail
    refine (alive_c w1).mono ?_
    rintro e wz ⟨rfl, hE⟩
    have HEz := Lib.hid (Ext.trans HE.out hE)
    clear hE
    go_wp2_with fail
    go_ret
    exact ⟨rfl, HEz.out⟩
  | true =>
    have HLA := Lib.hid (few20_ok hfa).2
    have hlA := (few20_ok hfa).1
    rw [hfa] at HFA
    clear hfa
    cases hfb : few20 B with
    | false =>
      rw [hfb] at HFB
      clear hfb
      go_enter Tryz.func7, Tryz.ntmps7
      go_wp2_with fail
      refine (HFA.out _ (Ext.refl _)).mono ?_
      rintro e w1 ⟨rfl, hE⟩
      have HE1 := Lib.hid hE
      clear hE
      go_wp2_with fail
      refine (HFB.out _ HE1.out).mono ?_
      rintro e w2 ⟨rfl, hE⟩
      have HE := Lib.hid (Ext.trans HE1.out hE)
      clear hE
      go_wp2_with fail
      refine (alive_c w2).mono ?_
      rintro e wz ⟨rfl, hE⟩
      have HEz := Lib.hid (Ext.trans HE.out hE)
      clear hE
      go_wp2_with fail
      go_ret
      exact ⟨rfl, HEz.out⟩
    | true =>
      have HLB := Lib.hid (few20_ok hfb).2
      have hlB := (few20_ok hfb).1
      rw [hfb] at HFB
      clear hfb
      cases hfc : few20 C with
      | false =>
        rw [hfc] at HFC
        clear hfc
        go_enter Tryz.func7, Tryz.ntmps7
        go_wp2_with fail
        refine (HFA.out _ (Ext.refl _)).mono ?_
        rintro e w1 ⟨rfl, hE⟩
        have HE1 := Lib.hid hE
        clear hE
        go_wp2_with fail
        refine (HFB.out _ HE1.out).mono ?_
        rintro e w2 ⟨rfl, hE⟩
        have HE2 := Lib.hid (Ext.trans HE1.out hE)
        clear hE
        go_wp2_with fail
        refine (HFC.out _ HE2.out).mono ?_
        rintro e w3 ⟨rfl, hE⟩
        have HE := Lib.hid (Ext.trans HE2.out hE)
        clear hE
        go_wp2_with fail
        refine (alive_c w3).mono ?_
        rintro e wz ⟨rfl, hE⟩
        have HEz := Lib.hid (Ext.trans HE.out hE)
        clear hE
        go_wp2_with fail
        go_ret
        exact ⟨rfl, HEz.out⟩
      | true =>
        have HLC := Lib.hid (few20_ok hfc).2
        have hlC := (few20_ok hfc).1
        rw [hfc] at HFC
        clear hfc
        by_cases hlx : 20 < x.length
        · have hlz : (20 : Int) < (x.length : Int) := by omega
          go_enter Tryz.func7, Tryz.ntmps7
          go_wp2_with fail
          refine (HFA.out _ (Ext.refl _)).mono ?_
          rintro e w1 ⟨rfl, hE⟩
          have HE1 := Lib.hid hE
          clear hE
          go_wp2_with fail
          refine (HFB.out _ HE1.out).mono ?_
          rintro e w2 ⟨rfl, hE⟩
          have HE2 := Lib.hid (Ext.trans HE1.out hE)
          clear hE
          go_wp2_with fail
          refine (HFC.out _ HE2.out).mono ?_
          rintro e w3 ⟨rfl, hE⟩
          have HE := Lib.hid (Ext.trans HE2.out hE)
          clear hE
          go_wp2_with fail
          refine (alive_c w3).mono ?_
          rintro e wz ⟨rfl, hE⟩
          have HEz := Lib.hid (Ext.trans HE.out hE)
          clear hE
          go_wp2_with fail
          go_ret
          exact ⟨rfl, HEz.out⟩
        · have hlz : ¬ (20 : Int) < (x.length : Int) := by omega
          obtain ⟨m, hm⟩ : ∃ m : Nat, j % 1000 = (m : Int) := ⟨(j % 1000).toNat, by omega⟩
          obtain ⟨q0, hq0⟩ : ∃ q0 : Nat, k % 1000 = (q0 : Int) := ⟨(k % 1000).toNat, by omega⟩
          have hm9 : m ≤ 999 := by omega
          have hq9 : q0 ≤ 999 := by omega
          go_enter Tryz.func7, Tryz.ntmps7
          go_wp2_with fail
          refine (HFA.out _ (Ext.refl _)).mono ?_
          rintro e w1 ⟨rfl, hE⟩
          have HE1 := Lib.hid hE
          clear hE
          go_wp2_with fail
          refine (HFB.out _ HE1.out).mono ?_
          rintro e w2 ⟨rfl, hE⟩
          have HE2 := Lib.hid (Ext.trans HE1.out hE)
          clear hE
          go_wp2_with fail
          refine (HFC.out _ HE2.out).mono ?_
          rintro e w3 ⟨rfl, hE⟩
          have HE3 := Lib.hid (Ext.trans HE2.out hE)
          clear hE
          go_wp2_with fail
          refine (Multiply_c _ _ A B w3 (Rows2.ext HA.out HE3.out) (Rows2.ext HB.out HE3.out) HLA.out HLB.out).mono ?_
          rintro e w4 ⟨hS, hE⟩
          have HE4 := Lib.hid (Ext.trans HE3.out hE)
          clear hE
          have hM2 := Multiply_c _ _ B C w4 (Rows2.ext HB.out HE4.out) (Rows2.ext HC.out HE4.out) HLB.out HLC.out
          have HM2 := Lib.hid hM2
          clear hM2
          rcases hS with ⟨_, rfl⟩ | ⟨hmA, hmB, hAB, p1, rfl, hp⟩
          · unfold two
            go_wp2_with fail
            refine HM2.out.mono ?_
            rintro e w5 ⟨hS, hE⟩
            obtain ⟨r5, z5, rfl⟩ := two_ints hS
            have HE5 := Lib.hid (Ext.trans HE4.out hE)
            clear hE hS
            unfold two
            go_wp2_with fail
            cases hma : matB A with
            | false =>
              have HPF := Lib.hid (fun (z : Int) W (h : Ext w W) => (Power_c _ A z W (Rows2.ext HA.out h) HLA.out).mono (R' := fun e w' => e = two (.slice none 0 0) (.int .i64 2) ∧ Ext W w') (fun e w' hh => ⟨(by
                rcases hh.1 with ⟨_, h⟩ | ⟨h, _⟩
                · exact h
                · rw [hma] at h; cases h), hh.2⟩))
              clear hma
              refine (HPF.out _ _ HE5.out).mono ?_
              rintro e y1 ⟨rfl, hE⟩
              have HE1 := Lib.hid (Ext.trans HE5.out hE)
              clear hE
              unfold two at *
              go_wp2_with fail
              refine (HPF.out _ _ HE1.out).mono ?_
              rintro e y2 ⟨rfl, hE⟩
              have HE2 := Lib.hid (Ext.trans HE1.out hE)
              clear hE
              go_wp2_with fail
              refine (HPF.out _ _ HE2.out).mono ?_
              rintro e y3 ⟨rfl, hE⟩
              have HE3 := Lib.hid (Ext.trans HE2.out hE)
              clear hE
              go_wp2_with fail
              refine (alive_c y3).mono ?_
              rintro e wz ⟨rfl, hE⟩
              have HEz := Lib.hid (Ext.trans HE3.out hE)
              clear hE
              go_wp2_with fail
              go_ret
              exact ⟨rfl, HEz.out⟩
            | true =>
              have HMA := Lib.hid hma
              have HOA := Lib.hid (matB_ok hma)
              have hn := HOA.out.1
              have HPT := Lib.hid (fun (z : Nat) W (h : Ext w W) (hz : z ≤ 1048576) => (Power_c _ A (z : Int) W (Rows2.ext HA.out h) HLA.out).mono (R' := fun e w' => (∃ r, e = two r (.int .i64 0) ∧ NewMat W.heap.size w' r 3 23 A.length (pwF A.length (entF A) z)) ∧ Ext W w') (fun e w' hh => ⟨(by
                rcases hh.1 with ⟨h, _⟩ | ⟨_, _, r, h1, h2⟩
                · rw [hma, countB_nat hz] at h; cases h
                · rw [Int.toNat_natCast] at h2
                  exact ⟨r, h1, h2⟩), hh.2⟩))
              clear hma
              refine (HPT.out _ _ HE5.out (by omega)).mono ?_
              rintro e y1 ⟨⟨p, rfl, hp⟩, hE⟩
              have HE1 := Lib.hid (Ext.trans HE5.out hE)
              have HP1 := Lib.hid (hp.mat (by omega))
              clear hE hp
              unfold two at *
              go_wp2_with fail
              refine (HPT.out _ _ HE1.out (by omega)).mono ?_
              rintro e y2 ⟨⟨q, rfl, hq⟩, hE⟩
              have HE2 := Lib.hid (Ext.trans HE1.out hE)
              have HP2 := Lib.hid (HP1.out.ext hE)
              have HQ2 := Lib.hid (hq.mat (by omega))
              clear hE hq
              go_wp2_with fail
              rw [show ((m : Int) + (q0 : Int)) = ((m + q0 : Nat) : Int) by omega]
              refine (HPT.out _ _ HE2.out (by omega)).mono ?_
              rintro e y3 ⟨⟨s, rfl, hs⟩, hE⟩
              have HE3 := Lib.hid (Ext.trans HE2.out hE)
              have HP3 := Lib.hid (HP2.out.ext hE)
              have HQ3 := Lib.hid (HQ2.out.ext hE)
              have HS3 := Lib.hid (hs.mat (by omega))
              clear hE hs
              have HSQ := Lib.hid (fun W v (P : MF) (h : MatAt W v A.length P) => (square_c v (listM A.length P) A.length W (mat_rows h) (by omega) (list_short (by omega)) (by rw [listM_len]; omega)).mono (R' := fun e w' => e = .returned (.bool true) ∧ Ext W w') (fun e w' hh => ⟨(by rw [hh.1, sqB_list]), hh.2⟩))
              go_wp2_with fail
              refine (HSQ.out _ _ _ HP3.out).mono ?_
              rintro e y4 ⟨rfl, hE⟩
              have HE4 := Lib.hid (Ext.trans HE3.out hE)
              have HP4 := Lib.hid (HP3.out.ext hE)
              have HQ4 := Lib.hid (HQ3.out.ext hE)
              have HS4 := Lib.hid (HS3.out.ext hE)
              clear hE
              go_wp2_with fail
              refine (HSQ.out _ _ _ HQ4.out).mono ?_
              rintro e y5 ⟨rfl, hE⟩
              have HE5 := Lib.hid (Ext.trans HE4.out hE)
              have HP5 := Lib.hid (HP4.out.ext hE)
              have HQ5 := Lib.hid (HQ4.out.ext hE)
              have HS5 := Lib.hid (HS4.out.ext hE)
              clear hE
              go_wp2_with fail
              refine (product_c _ _ A.length _ _ y5 hn.1 hn.2 HP5.out HQ5.out ((bdF_pw HOA.out.2.2 m).mono (by unfold KB; omega)) ((bdF_pw HOA.out.2.2 q0).mono (by unfold KB; omega)) (fun i hi j' hj' t ht => (bdE_ep (bdF_pw HOA.out.2.2 m i hi t ht) (bdF_pw HOA.out.2.2 q0 t ht j' hj')).mono (by unfold KB; omega))).mono ?_
              rintro e y6 ⟨pr, rfl, hpr, hE⟩
              have HE6 := Lib.hid (Ext.trans HE5.out hE)
              have HS6 := Lib.hid (HS5.out.ext hE)
              have HPR := Lib.hid hpr
              clear hE hpr
              go_wp2_with fail
              refine (rows_c _ _ _ _ y6 (mat_rows HS6.out) HPR.out).mono ?_
              rintro e y7 ⟨rfl, hE⟩
              have HE7 := Lib.hid (Ext.trans HE6.out hE)
              clear hE
              rw [decide_eq_true (listM_congr (pwF_add A.length (entF A) m q0))]
              go_wp2_with fail
              have HL20 := Lib.hid (show x.length ≤ 1000000 from by omega)
              refine (Run_c _ _ A x (m : Int) y7 (Rows2.ext HA.out HE7.out) HLA.out (Ints.ext HX.out HE7.out) HL20.out (by omega)).mono ?_
              rintro e y8 ⟨hR, hE⟩
              have HE8 := Lib.hid (Ext.trans HE7.out hE)
              clear hE
              rcases hR with ⟨_, rfl⟩ | ⟨_, _, _, _, rfl⟩ | ⟨_, _, hvb, _, y, rfl, hy⟩
              · unfold two
                go_wp2_with fail
                refine (alive_c y8).mono ?_
                rintro e wz ⟨rfl, hE⟩
                have HEz := Lib.hid (Ext.trans HE8.out hE)
                clear hE
                go_wp2_with fail
                go_ret
                exact ⟨rfl, HEz.out⟩
              · unfold two
                go_wp2_with fail
                refine (alive_c y8).mono ?_
                rintro e wz ⟨rfl, hE⟩
                have HEz := Lib.hid (Ext.trans HE8.out hE)
                clear hE
                go_wp2_with fail
                go_ret
                exact ⟨rfl, HEz.out⟩
              · unfold two
                rw [Int.toNat_natCast] at hy
                have HY := Lib.hid hy
                have HVB := Lib.hid hvb
                have hyl : (runL A x m).length ≤ 1000000 := by unfold runL; rw [listV_len]; omega
                have HYL := Lib.hid hyl
                clear hy hvb hyl
                go_wp2_with fail
                refine (Run_c _ _ A (runL A x m) (q0 : Int) y8 (Rows2.ext HA.out HE8.out) HLA.out HY.out HYL.out (by omega)).mono ?_
                rintro e y9 ⟨hR2, hE⟩
                have HE9 := Lib.hid (Ext.trans HE8.out hE)
                clear hE
                have hR3 := Run_c _ _ A x ((m + q0 : Nat) : Int) y9 (Rows2.ext HA.out HE9.out) HLA.out (Ints.ext HX.out HE9.out) HL20.out (by omega)
                have HR3 := Lib.hid hR3
                clear hR3
                rcases hR2 with ⟨_, rfl⟩ | ⟨_, _, _, _, rfl⟩ | ⟨_, _, _, _, z, rfl, hz⟩
                · unfold two
                  go_wp2_with fail
                  rw [show ((m : Int) + (q0 : Int)) = ((m + q0 : Nat) : Int) by omega]
                  refine HR3.out.mono ?_
                  rintro e ya ⟨hR3, hE⟩
                  obtain ⟨r9, z9, rfl⟩ := run_two hR3
                  have HEa := Lib.hid (Ext.trans HE9.out hE)
                  clear hE hR3
                  unfold two
                  go_wp2_with fail
                  refine (alive_c ya).mono ?_
                  rintro e wz ⟨rfl, hE⟩
                  have HEz := Lib.hid (Ext.trans HEa.out hE)
                  clear hE
                  go_wp2_with fail
                  go_ret
                  exact ⟨rfl, HEz.out⟩
                · unfold two
                  go_wp2_with fail
                  rw [show ((m : Int) + (q0 : Int)) = ((m + q0 : Nat) : Int) by omega]
                  refine HR3.out.mono ?_
                  rintro e ya ⟨hR3, hE⟩
                  obtain ⟨r9, z9, rfl⟩ := run_two hR3
                  have HEa := Lib.hid (Ext.trans HE9.out hE)
                  clear hE hR3
                  unfold two
                  go_wp2_with fail
                  refine (alive_c ya).mono ?_
                  rintro e wz ⟨rfl, hE⟩
                  have HEz := Lib.hid (Ext.trans HEa.out hE)
                  clear hE
                  go_wp2_with fail
                  go_ret
                  exact ⟨rfl, HEz.out⟩
                · unfold two
                  rw [Int.toNat_natCast] at hz
                  have HZ := Lib.hid hz
                  clear hz
                  go_wp2_with fail
                  rw [show ((m : Int) + (q0 : Int)) = ((m + q0 : Nat) : Int) by omega]
                  refine HR3.out.mono ?_
                  rintro e ya ⟨hR3, hE⟩
                  have HEa := Lib.hid (Ext.trans HE9.out hE)
                  have HZa := Lib.hid (Ints.ext HZ.out hE)
                  clear hE
                  rcases hR3 with ⟨_, rfl⟩ | ⟨_, _, _, _, rfl⟩ | ⟨_, _, _, _, v9, rfl, hv9⟩
                  · unfold two
                    go_wp2_with fail
                    refine (alive_c ya).mono ?_
                    rintro e wz ⟨rfl, hE⟩
                    have HEz := Lib.hid (Ext.trans HEa.out hE)
                    clear hE
                    go_wp2_with fail
                    go_ret
                    exact ⟨rfl, HEz.out⟩
                  · unfold two
                    go_wp2_with fail
                    refine (alive_c ya).mono ?_
                    rintro e wz ⟨rfl, hE⟩
                    have HEz := Lib.hid (Ext.trans HEa.out hE)
                    clear hE
                    go_wp2_with fail
                    go_ret
                    exact ⟨rfl, HEz.out⟩
                  · unfold two
                    rw [Int.toNat_natCast] at hv9
                    have HV9 := Lib.hid hv9
                    clear hv9
                    go_wp2_with fail
                    refine (same_c _ _ _ _ ya HZa.out HV9.out).mono ?_
                    rintro e yb ⟨rfl, hE⟩
                    have HEb := Lib.hid (Ext.trans HEa.out hE)
                    clear hE
                    rw [decide_eq_true (run_run HMA.out HVB.out (by omega))]
                    go_wp2_with fail
                    refine (alive_c yb).mono ?_
                    rintro e wz ⟨rfl, hE⟩
                    have HEz := Lib.hid (Ext.trans HEb.out hE)
                    clear hE
                    go_wp2_with fail
                    go_ret
                    exact ⟨rfl, HEz.out⟩
          · have HMA0 := Lib.hid hmA
            have HMB0 := Lib.hid hmB
            have HAB := Lib.hid hAB
            have hnA := (matB_ok hmA).1
            have HP4 := Lib.hid (hp.mat (by omega))
            clear hmA hmB hAB hp
            unfold two
            go_wp2_with fail
            refine HM2.out.mono ?_
            rintro e w5 ⟨hS, hE⟩
            have HE5 := Lib.hid (Ext.trans HE4.out hE)
            have HP5 := Lib.hid (HP4.out.ext hE)
            clear hE
            rcases hS with ⟨_, rfl⟩ | ⟨_, hmC, hBC, q1, rfl, hq⟩
            · unfold two
              go_wp2_with fail
              cases hma : matB A with
              | false =>
                have HPF := Lib.hid (fun (z : Int) W (h : Ext w W) => (Power_c _ A z W (Rows2.ext HA.out h) HLA.out).mono (R' := fun e w' => e = two (.slice none 0 0) (.int .i64 2) ∧ Ext W w') (fun e w' hh => ⟨(by
                  rcases hh.1 with ⟨_, h⟩ | ⟨h, _⟩
                  · exact h
                  · rw [hma] at h; cases h), hh.2⟩))
                clear hma
                refine (HPF.out _ _ HE5.out).mono ?_
                rintro e y1 ⟨rfl, hE⟩
                have HE1 := Lib.hid (Ext.trans HE5.out hE)
                clear hE
                unfold two at *
                go_wp2_with fail
                refine (HPF.out _ _ HE1.out).mono ?_
                rintro e y2 ⟨rfl, hE⟩
                have HE2 := Lib.hid (Ext.trans HE1.out hE)
                clear hE
                go_wp2_with fail
                refine (HPF.out _ _ HE2.out).mono ?_
                rintro e y3 ⟨rfl, hE⟩
                have HE3 := Lib.hid (Ext.trans HE2.out hE)
                clear hE
                go_wp2_with fail
                refine (alive_c y3).mono ?_
                rintro e wz ⟨rfl, hE⟩
                have HEz := Lib.hid (Ext.trans HE3.out hE)
                clear hE
                go_wp2_with fail
                go_ret
                exact ⟨rfl, HEz.out⟩
              | true =>
                have HMA := Lib.hid hma
                have HOA := Lib.hid (matB_ok hma)
                have hn := HOA.out.1
                have HPT := Lib.hid (fun (z : Nat) W (h : Ext w W) (hz : z ≤ 1048576) => (Power_c _ A (z : Int) W (Rows2.ext HA.out h) HLA.out).mono (R' := fun e w' => (∃ r, e = two r (.int .i64 0) ∧ NewMat W.heap.size w' r 3 23 A.length (pwF A.length (entF A) z)) ∧ Ext W w') (fun e w' hh => ⟨(by
                  rcases hh.1 with ⟨h, _⟩ | ⟨_, _, r, h1, h2⟩
                  · rw [hma, countB_nat hz] at h; cases h
                  · rw [Int.toNat_natCast] at h2
                    exact ⟨r, h1, h2⟩), hh.2⟩))
                clear hma
                refine (HPT.out _ _ HE5.out (by omega)).mono ?_
                rintro e y1 ⟨⟨p, rfl, hp⟩, hE⟩
                have HE1 := Lib.hid (Ext.trans HE5.out hE)
                have HP1 := Lib.hid (hp.mat (by omega))
                clear hE hp
                unfold two at *
                go_wp2_with fail
                refine (HPT.out _ _ HE1.out (by omega)).mono ?_
                rintro e y2 ⟨⟨q, rfl, hq⟩, hE⟩
                have HE2 := Lib.hid (Ext.trans HE1.out hE)
                have HP2 := Lib.hid (HP1.out.ext hE)
                have HQ2 := Lib.hid (hq.mat (by omega))
                clear hE hq
                go_wp2_with fail
                rw [show ((m : Int) + (q0 : Int)) = ((m + q0 : Nat) : Int) by omega]
                refine (HPT.out _ _ HE2.out (by omega)).mono ?_
                rintro e y3 ⟨⟨s, rfl, hs⟩, hE⟩
                have HE3 := Lib.hid (Ext.trans HE2.out hE)
                have HP3 := Lib.hid (HP2.out.ext hE)
                have HQ3 := Lib.hid (HQ2.out.ext hE)
                have HS3 := Lib.hid (hs.mat (by omega))
                clear hE hs
                have HSQ := Lib.hid (fun W v (P : MF) (h : MatAt W v A.length P) => (square_c v (listM A.length P) A.length W (mat_rows h) (by omega) (list_short (by omega)) (by rw [listM_len]; omega)).mono (R' := fun e w' => e = .returned (.bool true) ∧ Ext W w') (fun e w' hh => ⟨(by rw [hh.1, sqB_list]), hh.2⟩))
                go_wp2_with fail
                refine (HSQ.out _ _ _ HP3.out).mono ?_
                rintro e y4 ⟨rfl, hE⟩
                have HE4 := Lib.hid (Ext.trans HE3.out hE)
                have HP4 := Lib.hid (HP3.out.ext hE)
                have HQ4 := Lib.hid (HQ3.out.ext hE)
                have HS4 := Lib.hid (HS3.out.ext hE)
                clear hE
                go_wp2_with fail
                refine (HSQ.out _ _ _ HQ4.out).mono ?_
                rintro e y5 ⟨rfl, hE⟩
                have HE5 := Lib.hid (Ext.trans HE4.out hE)
                have HP5 := Lib.hid (HP4.out.ext hE)
                have HQ5 := Lib.hid (HQ4.out.ext hE)
                have HS5 := Lib.hid (HS4.out.ext hE)
                clear hE
                go_wp2_with fail
                refine (product_c _ _ A.length _ _ y5 hn.1 hn.2 HP5.out HQ5.out ((bdF_pw HOA.out.2.2 m).mono (by unfold KB; omega)) ((bdF_pw HOA.out.2.2 q0).mono (by unfold KB; omega)) (fun i hi j' hj' t ht => (bdE_ep (bdF_pw HOA.out.2.2 m i hi t ht) (bdF_pw HOA.out.2.2 q0 t ht j' hj')).mono (by unfold KB; omega))).mono ?_
                rintro e y6 ⟨pr, rfl, hpr, hE⟩
                have HE6 := Lib.hid (Ext.trans HE5.out hE)
                have HS6 := Lib.hid (HS5.out.ext hE)
                have HPR := Lib.hid hpr
                clear hE hpr
                go_wp2_with fail
                refine (rows_c _ _ _ _ y6 (mat_rows HS6.out) HPR.out).mono ?_
                rintro e y7 ⟨rfl, hE⟩
                have HE7 := Lib.hid (Ext.trans HE6.out hE)
                clear hE
                rw [decide_eq_true (listM_congr (pwF_add A.length (entF A) m q0))]
                go_wp2_with fail
                have HL20 := Lib.hid (show x.length ≤ 1000000 from by omega)
                refine (Run_c _ _ A x (m : Int) y7 (Rows2.ext HA.out HE7.out) HLA.out (Ints.ext HX.out HE7.out) HL20.out (by omega)).mono ?_
                rintro e y8 ⟨hR, hE⟩
                have HE8 := Lib.hid (Ext.trans HE7.out hE)
                clear hE
                rcases hR with ⟨_, rfl⟩ | ⟨_, _, _, _, rfl⟩ | ⟨_, _, hvb, _, y, rfl, hy⟩
                · unfold two
                  go_wp2_with fail
                  refine (alive_c y8).mono ?_
                  rintro e wz ⟨rfl, hE⟩
                  have HEz := Lib.hid (Ext.trans HE8.out hE)
                  clear hE
                  go_wp2_with fail
                  go_ret
                  exact ⟨rfl, HEz.out⟩
                · unfold two
                  go_wp2_with fail
                  refine (alive_c y8).mono ?_
                  rintro e wz ⟨rfl, hE⟩
                  have HEz := Lib.hid (Ext.trans HE8.out hE)
                  clear hE
                  go_wp2_with fail
                  go_ret
                  exact ⟨rfl, HEz.out⟩
                · unfold two
                  rw [Int.toNat_natCast] at hy
                  have HY := Lib.hid hy
                  have HVB := Lib.hid hvb
                  have hyl : (runL A x m).length ≤ 1000000 := by unfold runL; rw [listV_len]; omega
                  have HYL := Lib.hid hyl
                  clear hy hvb hyl
                  go_wp2_with fail
                  refine (Run_c _ _ A (runL A x m) (q0 : Int) y8 (Rows2.ext HA.out HE8.out) HLA.out HY.out HYL.out (by omega)).mono ?_
                  rintro e y9 ⟨hR2, hE⟩
                  have HE9 := Lib.hid (Ext.trans HE8.out hE)
                  clear hE
                  have hR3 := Run_c _ _ A x ((m + q0 : Nat) : Int) y9 (Rows2.ext HA.out HE9.out) HLA.out (Ints.ext HX.out HE9.out) HL20.out (by omega)
                  have HR3 := Lib.hid hR3
                  clear hR3
                  rcases hR2 with ⟨_, rfl⟩ | ⟨_, _, _, _, rfl⟩ | ⟨_, _, _, _, z, rfl, hz⟩
                  · unfold two
                    go_wp2_with fail
                    rw [show ((m : Int) + (q0 : Int)) = ((m + q0 : Nat) : Int) by omega]
                    refine HR3.out.mono ?_
                    rintro e ya ⟨hR3, hE⟩
                    obtain ⟨r9, z9, rfl⟩ := run_two hR3
                    have HEa := Lib.hid (Ext.trans HE9.out hE)
                    clear hE hR3
                    unfold two
                    go_wp2_with fail
                    refine (alive_c ya).mono ?_
                    rintro e wz ⟨rfl, hE⟩
                    have HEz := Lib.hid (Ext.trans HEa.out hE)
                    clear hE
                    go_wp2_with fail
                    go_ret
                    exact ⟨rfl, HEz.out⟩
                  · unfold two
                    go_wp2_with fail
                    rw [show ((m : Int) + (q0 : Int)) = ((m + q0 : Nat) : Int) by omega]
                    refine HR3.out.mono ?_
                    rintro e ya ⟨hR3, hE⟩
                    obtain ⟨r9, z9, rfl⟩ := run_two hR3
                    have HEa := Lib.hid (Ext.trans HE9.out hE)
                    clear hE hR3
                    unfold two
                    go_wp2_with fail
                    refine (alive_c ya).mono ?_
                    rintro e wz ⟨rfl, hE⟩
                    have HEz := Lib.hid (Ext.trans HEa.out hE)
                    clear hE
                    go_wp2_with fail
                    go_ret
                    exact ⟨rfl, HEz.out⟩
                  · unfold two
                    rw [Int.toNat_natCast] at hz
                    have HZ := Lib.hid hz
                    clear hz
                    go_wp2_with fail
                    rw [show ((m : Int) + (q0 : Int)) = ((m + q0 : Nat) : Int) by omega]
                    refine HR3.out.mono ?_
                    rintro e ya ⟨hR3, hE⟩
                    have HEa := Lib.hid (Ext.trans HE9.out hE)
                    have HZa := Lib.hid (Ints.ext HZ.out hE)
                    clear hE
                    rcases hR3 with ⟨_, rfl⟩ | ⟨_, _, _, _, rfl⟩ | ⟨_, _, _, _, v9, rfl, hv9⟩
                    · unfold two
                      go_wp2_with fail
                      refine (alive_c ya).mono ?_
                      rintro e wz ⟨rfl, hE⟩
                      have HEz := Lib.hid (Ext.trans HEa.out hE)
                      clear hE
                      go_wp2_with fail
                      go_ret
                      exact ⟨rfl, HEz.out⟩
                    · unfold two
                      go_wp2_with fail
                      refine (alive_c ya).mono ?_
                      rintro e wz ⟨rfl, hE⟩
                      have HEz := Lib.hid (Ext.trans HEa.out hE)
                      clear hE
                      go_wp2_with fail
                      go_ret
                      exact ⟨rfl, HEz.out⟩
                    · unfold two
                      rw [Int.toNat_natCast] at hv9
                      have HV9 := Lib.hid hv9
                      clear hv9
                      go_wp2_with fail
                      refine (same_c _ _ _ _ ya HZa.out HV9.out).mono ?_
                      rintro e yb ⟨rfl, hE⟩
                      have HEb := Lib.hid (Ext.trans HEa.out hE)
                      clear hE
                      rw [decide_eq_true (run_run HMA.out HVB.out (by omega))]
                      go_wp2_with fail
                      refine (alive_c yb).mono ?_
                      rintro e wz ⟨rfl, hE⟩
                      have HEz := Lib.hid (Ext.trans HEb.out hE)
                      clear hE
                      go_wp2_with fail
                      go_ret
                      exact ⟨rfl, HEz.out⟩
            · rw [← HAB.out] at hq
              have HMC0 := Lib.hid hmC
              have HBC := Lib.hid hBC
              have HQ5 := Lib.hid (hq.mat (by omega))
              clear hmC hBC hq
              unfold two
              go_wp2_with fail
              refine (within_c _ _ w5 (mat_rows HP5.out) (list_short (by omega)) (by rw [listM_len]; omega)).mono ?_
              rintro e w6 ⟨rfl, hE⟩
              have HE6 := Lib.hid (Ext.trans HE5.out hE)
              have HP6 := Lib.hid (HP5.out.ext hE)
              have HQ6 := Lib.hid (HQ5.out.ext hE)
              clear hE
              cases hwp : withB (listM A.length (mulF A.length (entF A) (entF B))) with
              | false =>
                clear hwp
                go_wp2_with fail
                cases hma : matB A with
                | false =>
                  have HPF := Lib.hid (fun (z : Int) W (h : Ext w W) => (Power_c _ A z W (Rows2.ext HA.out h) HLA.out).mono (R' := fun e w' => e = two (.slice none 0 0) (.int .i64 2) ∧ Ext W w') (fun e w' hh => ⟨(by
                    rcases hh.1 with ⟨_, h⟩ | ⟨h, _⟩
                    · exact h
                    · rw [hma] at h; cases h), hh.2⟩))
                  clear hma
                  refine (HPF.out _ _ HE6.out).mono ?_
                  rintro e y1 ⟨rfl, hE⟩
                  have HE1 := Lib.hid (Ext.trans HE6.out hE)
                  clear hE
                  unfold two at *
                  go_wp2_with fail
                  refine (HPF.out _ _ HE1.out).mono ?_
                  rintro e y2 ⟨rfl, hE⟩
                  have HE2 := Lib.hid (Ext.trans HE1.out hE)
                  clear hE
                  go_wp2_with fail
                  refine (HPF.out _ _ HE2.out).mono ?_
                  rintro e y3 ⟨rfl, hE⟩
                  have HE3 := Lib.hid (Ext.trans HE2.out hE)
                  clear hE
                  go_wp2_with fail
                  refine (alive_c y3).mono ?_
                  rintro e wz ⟨rfl, hE⟩
                  have HEz := Lib.hid (Ext.trans HE3.out hE)
                  clear hE
                  go_wp2_with fail
                  go_ret
                  exact ⟨rfl, HEz.out⟩
                | true =>
                  have HMA := Lib.hid hma
                  have HOA := Lib.hid (matB_ok hma)
                  have hn := HOA.out.1
                  have HPT := Lib.hid (fun (z : Nat) W (h : Ext w W) (hz : z ≤ 1048576) => (Power_c _ A (z : Int) W (Rows2.ext HA.out h) HLA.out).mono (R' := fun e w' => (∃ r, e = two r (.int .i64 0) ∧ NewMat W.heap.size w' r 3 23 A.length (pwF A.length (entF A) z)) ∧ Ext W w') (fun e w' hh => ⟨(by
                    rcases hh.1 with ⟨h, _⟩ | ⟨_, _, r, h1, h2⟩
                    · rw [hma, countB_nat hz] at h; cases h
                    · rw [Int.toNat_natCast] at h2
                      exact ⟨r, h1, h2⟩), hh.2⟩))
                  clear hma
                  refine (HPT.out _ _ HE6.out (by omega)).mono ?_
                  rintro e y1 ⟨⟨p, rfl, hp⟩, hE⟩
                  have HE1 := Lib.hid (Ext.trans HE6.out hE)
                  have HP1 := Lib.hid (hp.mat (by omega))
                  clear hE hp
                  unfold two at *
                  go_wp2_with fail
                  refine (HPT.out _ _ HE1.out (by omega)).mono ?_
                  rintro e y2 ⟨⟨q, rfl, hq⟩, hE⟩
                  have HE2 := Lib.hid (Ext.trans HE1.out hE)
                  have HP2 := Lib.hid (HP1.out.ext hE)
                  have HQ2 := Lib.hid (hq.mat (by omega))
                  clear hE hq
                  go_wp2_with fail
                  rw [show ((m : Int) + (q0 : Int)) = ((m + q0 : Nat) : Int) by omega]
                  refine (HPT.out _ _ HE2.out (by omega)).mono ?_
                  rintro e y3 ⟨⟨s, rfl, hs⟩, hE⟩
                  have HE3 := Lib.hid (Ext.trans HE2.out hE)
                  have HP3 := Lib.hid (HP2.out.ext hE)
                  have HQ3 := Lib.hid (HQ2.out.ext hE)
                  have HS3 := Lib.hid (hs.mat (by omega))
                  clear hE hs
                  have HSQ := Lib.hid (fun W v (P : MF) (h : MatAt W v A.length P) => (square_c v (listM A.length P) A.length W (mat_rows h) (by omega) (list_short (by omega)) (by rw [listM_len]; omega)).mono (R' := fun e w' => e = .returned (.bool true) ∧ Ext W w') (fun e w' hh => ⟨(by rw [hh.1, sqB_list]), hh.2⟩))
                  go_wp2_with fail
                  refine (HSQ.out _ _ _ HP3.out).mono ?_
                  rintro e y4 ⟨rfl, hE⟩
                  have HE4 := Lib.hid (Ext.trans HE3.out hE)
                  have HP4 := Lib.hid (HP3.out.ext hE)
                  have HQ4 := Lib.hid (HQ3.out.ext hE)
                  have HS4 := Lib.hid (HS3.out.ext hE)
                  clear hE
                  go_wp2_with fail
                  refine (HSQ.out _ _ _ HQ4.out).mono ?_
                  rintro e y5 ⟨rfl, hE⟩
                  have HE5 := Lib.hid (Ext.trans HE4.out hE)
                  have HP5 := Lib.hid (HP4.out.ext hE)
                  have HQ5 := Lib.hid (HQ4.out.ext hE)
                  have HS5 := Lib.hid (HS4.out.ext hE)
                  clear hE
                  go_wp2_with fail
                  refine (product_c _ _ A.length _ _ y5 hn.1 hn.2 HP5.out HQ5.out ((bdF_pw HOA.out.2.2 m).mono (by unfold KB; omega)) ((bdF_pw HOA.out.2.2 q0).mono (by unfold KB; omega)) (fun i hi j' hj' t ht => (bdE_ep (bdF_pw HOA.out.2.2 m i hi t ht) (bdF_pw HOA.out.2.2 q0 t ht j' hj')).mono (by unfold KB; omega))).mono ?_
                  rintro e y6 ⟨pr, rfl, hpr, hE⟩
                  have HE6 := Lib.hid (Ext.trans HE5.out hE)
                  have HS6 := Lib.hid (HS5.out.ext hE)
                  have HPR := Lib.hid hpr
                  clear hE hpr
                  go_wp2_with fail
                  refine (rows_c _ _ _ _ y6 (mat_rows HS6.out) HPR.out).mono ?_
                  rintro e y7 ⟨rfl, hE⟩
                  have HE7 := Lib.hid (Ext.trans HE6.out hE)
                  clear hE
                  rw [decide_eq_true (listM_congr (pwF_add A.length (entF A) m q0))]
                  go_wp2_with fail
                  have HL20 := Lib.hid (show x.length ≤ 1000000 from by omega)
                  refine (Run_c _ _ A x (m : Int) y7 (Rows2.ext HA.out HE7.out) HLA.out (Ints.ext HX.out HE7.out) HL20.out (by omega)).mono ?_
                  rintro e y8 ⟨hR, hE⟩
                  have HE8 := Lib.hid (Ext.trans HE7.out hE)
                  clear hE
                  rcases hR with ⟨_, rfl⟩ | ⟨_, _, _, _, rfl⟩ | ⟨_, _, hvb, _, y, rfl, hy⟩
                  · unfold two
                    go_wp2_with fail
                    refine (alive_c y8).mono ?_
                    rintro e wz ⟨rfl, hE⟩
                    have HEz := Lib.hid (Ext.trans HE8.out hE)
                    clear hE
                    go_wp2_with fail
                    go_ret
                    exact ⟨rfl, HEz.out⟩
                  · unfold two
                    go_wp2_with fail
                    refine (alive_c y8).mono ?_
                    rintro e wz ⟨rfl, hE⟩
                    have HEz := Lib.hid (Ext.trans HE8.out hE)
                    clear hE
                    go_wp2_with fail
                    go_ret
                    exact ⟨rfl, HEz.out⟩
                  · unfold two
                    rw [Int.toNat_natCast] at hy
                    have HY := Lib.hid hy
                    have HVB := Lib.hid hvb
                    have hyl : (runL A x m).length ≤ 1000000 := by unfold runL; rw [listV_len]; omega
                    have HYL := Lib.hid hyl
                    clear hy hvb hyl
                    go_wp2_with fail
                    refine (Run_c _ _ A (runL A x m) (q0 : Int) y8 (Rows2.ext HA.out HE8.out) HLA.out HY.out HYL.out (by omega)).mono ?_
                    rintro e y9 ⟨hR2, hE⟩
                    have HE9 := Lib.hid (Ext.trans HE8.out hE)
                    clear hE
                    have hR3 := Run_c _ _ A x ((m + q0 : Nat) : Int) y9 (Rows2.ext HA.out HE9.out) HLA.out (Ints.ext HX.out HE9.out) HL20.out (by omega)
                    have HR3 := Lib.hid hR3
                    clear hR3
                    rcases hR2 with ⟨_, rfl⟩ | ⟨_, _, _, _, rfl⟩ | ⟨_, _, _, _, z, rfl, hz⟩
                    · unfold two
                      go_wp2_with fail
                      rw [show ((m : Int) + (q0 : Int)) = ((m + q0 : Nat) : Int) by omega]
                      refine HR3.out.mono ?_
                      rintro e ya ⟨hR3, hE⟩
                      obtain ⟨r9, z9, rfl⟩ := run_two hR3
                      have HEa := Lib.hid (Ext.trans HE9.out hE)
                      clear hE hR3
                      unfold two
                      go_wp2_with fail
                      refine (alive_c ya).mono ?_
                      rintro e wz ⟨rfl, hE⟩
                      have HEz := Lib.hid (Ext.trans HEa.out hE)
                      clear hE
                      go_wp2_with fail
                      go_ret
                      exact ⟨rfl, HEz.out⟩
                    · unfold two
                      go_wp2_with fail
                      rw [show ((m : Int) + (q0 : Int)) = ((m + q0 : Nat) : Int) by omega]
                      refine HR3.out.mono ?_
                      rintro e ya ⟨hR3, hE⟩
                      obtain ⟨r9, z9, rfl⟩ := run_two hR3
                      have HEa := Lib.hid (Ext.trans HE9.out hE)
                      clear hE hR3
                      unfold two
                      go_wp2_with fail
                      refine (alive_c ya).mono ?_
                      rintro e wz ⟨rfl, hE⟩
                      have HEz := Lib.hid (Ext.trans HEa.out hE)
                      clear hE
                      go_wp2_with fail
                      go_ret
                      exact ⟨rfl, HEz.out⟩
                    · unfold two
                      rw [Int.toNat_natCast] at hz
                      have HZ := Lib.hid hz
                      clear hz
                      go_wp2_with fail
                      rw [show ((m : Int) + (q0 : Int)) = ((m + q0 : Nat) : Int) by omega]
                      refine HR3.out.mono ?_
                      rintro e ya ⟨hR3, hE⟩
                      have HEa := Lib.hid (Ext.trans HE9.out hE)
                      have HZa := Lib.hid (Ints.ext HZ.out hE)
                      clear hE
                      rcases hR3 with ⟨_, rfl⟩ | ⟨_, _, _, _, rfl⟩ | ⟨_, _, _, _, v9, rfl, hv9⟩
                      · unfold two
                        go_wp2_with fail
                        refine (alive_c ya).mono ?_
                        rintro e wz ⟨rfl, hE⟩
                        have HEz := Lib.hid (Ext.trans HEa.out hE)
                        clear hE
                        go_wp2_with fail
                        go_ret
                        exact ⟨rfl, HEz.out⟩
                      · unfold two
                        go_wp2_with fail
                        refine (alive_c ya).mono ?_
                        rintro e wz ⟨rfl, hE⟩
                        have HEz := Lib.hid (Ext.trans HEa.out hE)
                        clear hE
                        go_wp2_with fail
                        go_ret
                        exact ⟨rfl, HEz.out⟩
                      · unfold two
                        rw [Int.toNat_natCast] at hv9
                        have HV9 := Lib.hid hv9
                        clear hv9
                        go_wp2_with fail
                        refine (same_c _ _ _ _ ya HZa.out HV9.out).mono ?_
                        rintro e yb ⟨rfl, hE⟩
                        have HEb := Lib.hid (Ext.trans HEa.out hE)
                        clear hE
                        rw [decide_eq_true (run_run HMA.out HVB.out (by omega))]
                        go_wp2_with fail
                        refine (alive_c yb).mono ?_
                        rintro e wz ⟨rfl, hE⟩
                        have HEz := Lib.hid (Ext.trans HEb.out hE)
                        clear hE
                        go_wp2_with fail
                        go_ret
                        exact ⟨rfl, HEz.out⟩
              | true =>
                have HWP := Lib.hid hwp
                clear hwp
                go_wp2_with fail
                refine (within_c _ _ w6 (mat_rows HQ6.out) (list_short (by omega)) (by rw [listM_len]; omega)).mono ?_
                rintro e w7 ⟨rfl, hE⟩
                have HE7 := Lib.hid (Ext.trans HE6.out hE)
                have HP7 := Lib.hid (HP6.out.ext hE)
                have HQ7 := Lib.hid (HQ6.out.ext hE)
                clear hE
                cases hwq : withB (listM A.length (mulF A.length (entF B) (entF C))) with
                | false =>
                  clear hwq
                  go_wp2_with fail
                  cases hma : matB A with
                  | false =>
                    have HPF := Lib.hid (fun (z : Int) W (h : Ext w W) => (Power_c _ A z W (Rows2.ext HA.out h) HLA.out).mono (R' := fun e w' => e = two (.slice none 0 0) (.int .i64 2) ∧ Ext W w') (fun e w' hh => ⟨(by
                      rcases hh.1 with ⟨_, h⟩ | ⟨h, _⟩
                      · exact h
                      · rw [hma] at h; cases h), hh.2⟩))
                    clear hma
                    refine (HPF.out _ _ HE7.out).mono ?_
                    rintro e y1 ⟨rfl, hE⟩
                    have HE1 := Lib.hid (Ext.trans HE7.out hE)
                    clear hE
                    unfold two at *
                    go_wp2_with fail
                    refine (HPF.out _ _ HE1.out).mono ?_
                    rintro e y2 ⟨rfl, hE⟩
                    have HE2 := Lib.hid (Ext.trans HE1.out hE)
                    clear hE
                    go_wp2_with fail
                    refine (HPF.out _ _ HE2.out).mono ?_
                    rintro e y3 ⟨rfl, hE⟩
                    have HE3 := Lib.hid (Ext.trans HE2.out hE)
                    clear hE
                    go_wp2_with fail
                    refine (alive_c y3).mono ?_
                    rintro e wz ⟨rfl, hE⟩
                    have HEz := Lib.hid (Ext.trans HE3.out hE)
                    clear hE
                    go_wp2_with fail
                    go_ret
                    exact ⟨rfl, HEz.out⟩
                  | true =>
                    have HMA := Lib.hid hma
                    have HOA := Lib.hid (matB_ok hma)
                    have hn := HOA.out.1
                    have HPT := Lib.hid (fun (z : Nat) W (h : Ext w W) (hz : z ≤ 1048576) => (Power_c _ A (z : Int) W (Rows2.ext HA.out h) HLA.out).mono (R' := fun e w' => (∃ r, e = two r (.int .i64 0) ∧ NewMat W.heap.size w' r 3 23 A.length (pwF A.length (entF A) z)) ∧ Ext W w') (fun e w' hh => ⟨(by
                      rcases hh.1 with ⟨h, _⟩ | ⟨_, _, r, h1, h2⟩
                      · rw [hma, countB_nat hz] at h; cases h
                      · rw [Int.toNat_natCast] at h2
                        exact ⟨r, h1, h2⟩), hh.2⟩))
                    clear hma
                    refine (HPT.out _ _ HE7.out (by omega)).mono ?_
                    rintro e y1 ⟨⟨p, rfl, hp⟩, hE⟩
                    have HE1 := Lib.hid (Ext.trans HE7.out hE)
                    have HP1 := Lib.hid (hp.mat (by omega))
                    clear hE hp
                    unfold two at *
                    go_wp2_with fail
                    refine (HPT.out _ _ HE1.out (by omega)).mono ?_
                    rintro e y2 ⟨⟨q, rfl, hq⟩, hE⟩
                    have HE2 := Lib.hid (Ext.trans HE1.out hE)
                    have HP2 := Lib.hid (HP1.out.ext hE)
                    have HQ2 := Lib.hid (hq.mat (by omega))
                    clear hE hq
                    go_wp2_with fail
                    rw [show ((m : Int) + (q0 : Int)) = ((m + q0 : Nat) : Int) by omega]
                    refine (HPT.out _ _ HE2.out (by omega)).mono ?_
                    rintro e y3 ⟨⟨s, rfl, hs⟩, hE⟩
                    have HE3 := Lib.hid (Ext.trans HE2.out hE)
                    have HP3 := Lib.hid (HP2.out.ext hE)
                    have HQ3 := Lib.hid (HQ2.out.ext hE)
                    have HS3 := Lib.hid (hs.mat (by omega))
                    clear hE hs
                    have HSQ := Lib.hid (fun W v (P : MF) (h : MatAt W v A.length P) => (square_c v (listM A.length P) A.length W (mat_rows h) (by omega) (list_short (by omega)) (by rw [listM_len]; omega)).mono (R' := fun e w' => e = .returned (.bool true) ∧ Ext W w') (fun e w' hh => ⟨(by rw [hh.1, sqB_list]), hh.2⟩))
                    go_wp2_with fail
                    refine (HSQ.out _ _ _ HP3.out).mono ?_
                    rintro e y4 ⟨rfl, hE⟩
                    have HE4 := Lib.hid (Ext.trans HE3.out hE)
                    have HP4 := Lib.hid (HP3.out.ext hE)
                    have HQ4 := Lib.hid (HQ3.out.ext hE)
                    have HS4 := Lib.hid (HS3.out.ext hE)
                    clear hE
                    go_wp2_with fail
                    refine (HSQ.out _ _ _ HQ4.out).mono ?_
                    rintro e y5 ⟨rfl, hE⟩
                    have HE5 := Lib.hid (Ext.trans HE4.out hE)
                    have HP5 := Lib.hid (HP4.out.ext hE)
                    have HQ5 := Lib.hid (HQ4.out.ext hE)
                    have HS5 := Lib.hid (HS4.out.ext hE)
                    clear hE
                    go_wp2_with fail
                    refine (product_c _ _ A.length _ _ y5 hn.1 hn.2 HP5.out HQ5.out ((bdF_pw HOA.out.2.2 m).mono (by unfold KB; omega)) ((bdF_pw HOA.out.2.2 q0).mono (by unfold KB; omega)) (fun i hi j' hj' t ht => (bdE_ep (bdF_pw HOA.out.2.2 m i hi t ht) (bdF_pw HOA.out.2.2 q0 t ht j' hj')).mono (by unfold KB; omega))).mono ?_
                    rintro e y6 ⟨pr, rfl, hpr, hE⟩
                    have HE6 := Lib.hid (Ext.trans HE5.out hE)
                    have HS6 := Lib.hid (HS5.out.ext hE)
                    have HPR := Lib.hid hpr
                    clear hE hpr
                    go_wp2_with fail
                    refine (rows_c _ _ _ _ y6 (mat_rows HS6.out) HPR.out).mono ?_
                    rintro e y7 ⟨rfl, hE⟩
                    have HE7 := Lib.hid (Ext.trans HE6.out hE)
                    clear hE
                    rw [decide_eq_true (listM_congr (pwF_add A.length (entF A) m q0))]
                    go_wp2_with fail
                    have HL20 := Lib.hid (show x.length ≤ 1000000 from by omega)
                    refine (Run_c _ _ A x (m : Int) y7 (Rows2.ext HA.out HE7.out) HLA.out (Ints.ext HX.out HE7.out) HL20.out (by omega)).mono ?_
                    rintro e y8 ⟨hR, hE⟩
                    have HE8 := Lib.hid (Ext.trans HE7.out hE)
                    clear hE
                    rcases hR with ⟨_, rfl⟩ | ⟨_, _, _, _, rfl⟩ | ⟨_, _, hvb, _, y, rfl, hy⟩
                    · unfold two
                      go_wp2_with fail
                      refine (alive_c y8).mono ?_
                      rintro e wz ⟨rfl, hE⟩
                      have HEz := Lib.hid (Ext.trans HE8.out hE)
                      clear hE
                      go_wp2_with fail
                      go_ret
                      exact ⟨rfl, HEz.out⟩
                    · unfold two
                      go_wp2_with fail
                      refine (alive_c y8).mono ?_
                      rintro e wz ⟨rfl, hE⟩
                      have HEz := Lib.hid (Ext.trans HE8.out hE)
                      clear hE
                      go_wp2_with fail
                      go_ret
                      exact ⟨rfl, HEz.out⟩
                    · unfold two
                      rw [Int.toNat_natCast] at hy
                      have HY := Lib.hid hy
                      have HVB := Lib.hid hvb
                      have hyl : (runL A x m).length ≤ 1000000 := by unfold runL; rw [listV_len]; omega
                      have HYL := Lib.hid hyl
                      clear hy hvb hyl
                      go_wp2_with fail
                      refine (Run_c _ _ A (runL A x m) (q0 : Int) y8 (Rows2.ext HA.out HE8.out) HLA.out HY.out HYL.out (by omega)).mono ?_
                      rintro e y9 ⟨hR2, hE⟩
                      have HE9 := Lib.hid (Ext.trans HE8.out hE)
                      clear hE
                      have hR3 := Run_c _ _ A x ((m + q0 : Nat) : Int) y9 (Rows2.ext HA.out HE9.out) HLA.out (Ints.ext HX.out HE9.out) HL20.out (by omega)
                      have HR3 := Lib.hid hR3
                      clear hR3
                      rcases hR2 with ⟨_, rfl⟩ | ⟨_, _, _, _, rfl⟩ | ⟨_, _, _, _, z, rfl, hz⟩
                      · unfold two
                        go_wp2_with fail
                        rw [show ((m : Int) + (q0 : Int)) = ((m + q0 : Nat) : Int) by omega]
                        refine HR3.out.mono ?_
                        rintro e ya ⟨hR3, hE⟩
                        obtain ⟨r9, z9, rfl⟩ := run_two hR3
                        have HEa := Lib.hid (Ext.trans HE9.out hE)
                        clear hE hR3
                        unfold two
                        go_wp2_with fail
                        refine (alive_c ya).mono ?_
                        rintro e wz ⟨rfl, hE⟩
                        have HEz := Lib.hid (Ext.trans HEa.out hE)
                        clear hE
                        go_wp2_with fail
                        go_ret
                        exact ⟨rfl, HEz.out⟩
                      · unfold two
                        go_wp2_with fail
                        rw [show ((m : Int) + (q0 : Int)) = ((m + q0 : Nat) : Int) by omega]
                        refine HR3.out.mono ?_
                        rintro e ya ⟨hR3, hE⟩
                        obtain ⟨r9, z9, rfl⟩ := run_two hR3
                        have HEa := Lib.hid (Ext.trans HE9.out hE)
                        clear hE hR3
                        unfold two
                        go_wp2_with fail
                        refine (alive_c ya).mono ?_
                        rintro e wz ⟨rfl, hE⟩
                        have HEz := Lib.hid (Ext.trans HEa.out hE)
                        clear hE
                        go_wp2_with fail
                        go_ret
                        exact ⟨rfl, HEz.out⟩
                      · unfold two
                        rw [Int.toNat_natCast] at hz
                        have HZ := Lib.hid hz
                        clear hz
                        go_wp2_with fail
                        rw [show ((m : Int) + (q0 : Int)) = ((m + q0 : Nat) : Int) by omega]
                        refine HR3.out.mono ?_
                        rintro e ya ⟨hR3, hE⟩
                        have HEa := Lib.hid (Ext.trans HE9.out hE)
                        have HZa := Lib.hid (Ints.ext HZ.out hE)
                        clear hE
                        rcases hR3 with ⟨_, rfl⟩ | ⟨_, _, _, _, rfl⟩ | ⟨_, _, _, _, v9, rfl, hv9⟩
                        · unfold two
                          go_wp2_with fail
                          refine (alive_c ya).mono ?_
                          rintro e wz ⟨rfl, hE⟩
                          have HEz := Lib.hid (Ext.trans HEa.out hE)
                          clear hE
                          go_wp2_with fail
                          go_ret
                          exact ⟨rfl, HEz.out⟩
                        · unfold two
                          go_wp2_with fail
                          refine (alive_c ya).mono ?_
                          rintro e wz ⟨rfl, hE⟩
                          have HEz := Lib.hid (Ext.trans HEa.out hE)
                          clear hE
                          go_wp2_with fail
                          go_ret
                          exact ⟨rfl, HEz.out⟩
                        · unfold two
                          rw [Int.toNat_natCast] at hv9
                          have HV9 := Lib.hid hv9
                          clear hv9
                          go_wp2_with fail
                          refine (same_c _ _ _ _ ya HZa.out HV9.out).mono ?_
                          rintro e yb ⟨rfl, hE⟩
                          have HEb := Lib.hid (Ext.trans HEa.out hE)
                          clear hE
                          rw [decide_eq_true (run_run HMA.out HVB.out (by omega))]
                          go_wp2_with fail
                          refine (alive_c yb).mono ?_
                          rintro e wz ⟨rfl, hE⟩
                          have HEz := Lib.hid (Ext.trans HEb.out hE)
                          clear hE
                          go_wp2_with fail
                          go_ret
                          exact ⟨rfl, HEz.out⟩
                | true =>
                  have HWQ := Lib.hid hwq
                  clear hwq
                  go_wp2_with fail
                  refine (Multiply_c _ _ _ C w7 (mat_rows HP7.out) (Rows2.ext HC.out HE7.out) (list_short (by omega)) HLC.out).mono ?_
                  rintro e w8 ⟨hS, hE⟩
                  have HE8 := Lib.hid (Ext.trans HE7.out hE)
                  have HQ8 := Lib.hid (HQ7.out.ext hE)
                  clear hE
                  have hwA := mat_within hnA.1 hnA.2 HWP.out
                  have hwB := mat_within hnA.1 hnA.2 HWQ.out
                  rcases hS with ⟨h, _⟩ | ⟨hz1, hz2, hz3, l1, rfl, hl⟩
                  · rw [hwA, HMC0.out, listM_len, HAB.out, HBC.out, decide_eq_true rfl] at h
                    cases h
                  rw [listM_len] at hl
                  have HL8 := Lib.hid (hl.mat (by omega))
                  have HWB := Lib.hid hwB
                  clear hl hwA hwB hz1 hz2 hz3
                  unfold two
                  go_wp2_with fail
                  refine (Multiply_c _ _ A _ w8 (Rows2.ext HA.out HE8.out) (mat_rows HQ8.out) HLA.out (list_short (by omega))).mono ?_
                  rintro e w9 ⟨hS, hE⟩
                  have HE9 := Lib.hid (Ext.trans HE8.out hE)
                  have HL9 := Lib.hid (HL8.out.ext hE)
                  clear hE
                  rcases hS with ⟨h, _⟩ | ⟨hz1, hz2, hz3, r1, rfl, hr⟩
                  · rw [HMA0.out, HWB.out, listM_len, decide_eq_true rfl] at h
                    cases h
                  have HR9 := Lib.hid (hr.mat (by omega))
                  clear hr hz1 hz2 hz3
                  unfold two
                  go_wp2_with fail
                  refine (rows_c _ _ _ _ w9 (mat_rows HL9.out) (mat_rows HR9.out)).mono ?_
                  rintro e w10 ⟨rfl, hE⟩
                  have HE10 := Lib.hid (Ext.trans HE9.out hE)
                  clear hE
                  rw [decide_eq_true (assoc_rows HMA0.out HMB0.out HMC0.out HAB.out HBC.out)]
                  go_wp2_with fail
                  cases hma : matB A with
                  | false =>
                    have HPF := Lib.hid (fun (z : Int) W (h : Ext w W) => (Power_c _ A z W (Rows2.ext HA.out h) HLA.out).mono (R' := fun e w' => e = two (.slice none 0 0) (.int .i64 2) ∧ Ext W w') (fun e w' hh => ⟨(by
                      rcases hh.1 with ⟨_, h⟩ | ⟨h, _⟩
                      · exact h
                      · rw [hma] at h; cases h), hh.2⟩))
                    clear hma
                    refine (HPF.out _ _ HE10.out).mono ?_
                    rintro e y1 ⟨rfl, hE⟩
                    have HE1 := Lib.hid (Ext.trans HE10.out hE)
                    clear hE
                    unfold two at *
                    go_wp2_with fail
                    refine (HPF.out _ _ HE1.out).mono ?_
                    rintro e y2 ⟨rfl, hE⟩
                    have HE2 := Lib.hid (Ext.trans HE1.out hE)
                    clear hE
                    go_wp2_with fail
                    refine (HPF.out _ _ HE2.out).mono ?_
                    rintro e y3 ⟨rfl, hE⟩
                    have HE3 := Lib.hid (Ext.trans HE2.out hE)
                    clear hE
                    go_wp2_with fail
                    refine (alive_c y3).mono ?_
                    rintro e wz ⟨rfl, hE⟩
                    have HEz := Lib.hid (Ext.trans HE3.out hE)
                    clear hE
                    go_wp2_with fail
                    go_ret
                    exact ⟨rfl, HEz.out⟩
                  | true =>
                    have HMA := Lib.hid hma
                    have HOA := Lib.hid (matB_ok hma)
                    have hn := HOA.out.1
                    have HPT := Lib.hid (fun (z : Nat) W (h : Ext w W) (hz : z ≤ 1048576) => (Power_c _ A (z : Int) W (Rows2.ext HA.out h) HLA.out).mono (R' := fun e w' => (∃ r, e = two r (.int .i64 0) ∧ NewMat W.heap.size w' r 3 23 A.length (pwF A.length (entF A) z)) ∧ Ext W w') (fun e w' hh => ⟨(by
                      rcases hh.1 with ⟨h, _⟩ | ⟨_, _, r, h1, h2⟩
                      · rw [hma, countB_nat hz] at h; cases h
                      · rw [Int.toNat_natCast] at h2
                        exact ⟨r, h1, h2⟩), hh.2⟩))
                    clear hma
                    refine (HPT.out _ _ HE10.out (by omega)).mono ?_
                    rintro e y1 ⟨⟨p, rfl, hp⟩, hE⟩
                    have HE1 := Lib.hid (Ext.trans HE10.out hE)
                    have HP1 := Lib.hid (hp.mat (by omega))
                    clear hE hp
                    unfold two at *
                    go_wp2_with fail
                    refine (HPT.out _ _ HE1.out (by omega)).mono ?_
                    rintro e y2 ⟨⟨q, rfl, hq⟩, hE⟩
                    have HE2 := Lib.hid (Ext.trans HE1.out hE)
                    have HP2 := Lib.hid (HP1.out.ext hE)
                    have HQ2 := Lib.hid (hq.mat (by omega))
                    clear hE hq
                    go_wp2_with fail
                    rw [show ((m : Int) + (q0 : Int)) = ((m + q0 : Nat) : Int) by omega]
                    refine (HPT.out _ _ HE2.out (by omega)).mono ?_
                    rintro e y3 ⟨⟨s, rfl, hs⟩, hE⟩
                    have HE3 := Lib.hid (Ext.trans HE2.out hE)
                    have HP3 := Lib.hid (HP2.out.ext hE)
                    have HQ3 := Lib.hid (HQ2.out.ext hE)
                    have HS3 := Lib.hid (hs.mat (by omega))
                    clear hE hs
                    have HSQ := Lib.hid (fun W v (P : MF) (h : MatAt W v A.length P) => (square_c v (listM A.length P) A.length W (mat_rows h) (by omega) (list_short (by omega)) (by rw [listM_len]; omega)).mono (R' := fun e w' => e = .returned (.bool true) ∧ Ext W w') (fun e w' hh => ⟨(by rw [hh.1, sqB_list]), hh.2⟩))
                    go_wp2_with fail
                    refine (HSQ.out _ _ _ HP3.out).mono ?_
                    rintro e y4 ⟨rfl, hE⟩
                    have HE4 := Lib.hid (Ext.trans HE3.out hE)
                    have HP4 := Lib.hid (HP3.out.ext hE)
                    have HQ4 := Lib.hid (HQ3.out.ext hE)
                    have HS4 := Lib.hid (HS3.out.ext hE)
                    clear hE
                    go_wp2_with fail
                    refine (HSQ.out _ _ _ HQ4.out).mono ?_
                    rintro e y5 ⟨rfl, hE⟩
                    have HE5 := Lib.hid (Ext.trans HE4.out hE)
                    have HP5 := Lib.hid (HP4.out.ext hE)
                    have HQ5 := Lib.hid (HQ4.out.ext hE)
                    have HS5 := Lib.hid (HS4.out.ext hE)
                    clear hE
                    go_wp2_with fail
                    refine (product_c _ _ A.length _ _ y5 hn.1 hn.2 HP5.out HQ5.out ((bdF_pw HOA.out.2.2 m).mono (by unfold KB; omega)) ((bdF_pw HOA.out.2.2 q0).mono (by unfold KB; omega)) (fun i hi j' hj' t ht => (bdE_ep (bdF_pw HOA.out.2.2 m i hi t ht) (bdF_pw HOA.out.2.2 q0 t ht j' hj')).mono (by unfold KB; omega))).mono ?_
                    rintro e y6 ⟨pr, rfl, hpr, hE⟩
                    have HE6 := Lib.hid (Ext.trans HE5.out hE)
                    have HS6 := Lib.hid (HS5.out.ext hE)
                    have HPR := Lib.hid hpr
                    clear hE hpr
                    go_wp2_with fail
                    refine (rows_c _ _ _ _ y6 (mat_rows HS6.out) HPR.out).mono ?_
                    rintro e y7 ⟨rfl, hE⟩
                    have HE7 := Lib.hid (Ext.trans HE6.out hE)
                    clear hE
                    rw [decide_eq_true (listM_congr (pwF_add A.length (entF A) m q0))]
                    go_wp2_with fail
                    have HL20 := Lib.hid (show x.length ≤ 1000000 from by omega)
                    refine (Run_c _ _ A x (m : Int) y7 (Rows2.ext HA.out HE7.out) HLA.out (Ints.ext HX.out HE7.out) HL20.out (by omega)).mono ?_
                    rintro e y8 ⟨hR, hE⟩
                    have HE8 := Lib.hid (Ext.trans HE7.out hE)
                    clear hE
                    rcases hR with ⟨_, rfl⟩ | ⟨_, _, _, _, rfl⟩ | ⟨_, _, hvb, _, y, rfl, hy⟩
                    · unfold two
                      go_wp2_with fail
                      refine (alive_c y8).mono ?_
                      rintro e wz ⟨rfl, hE⟩
                      have HEz := Lib.hid (Ext.trans HE8.out hE)
                      clear hE
                      go_wp2_with fail
                      go_ret
                      exact ⟨rfl, HEz.out⟩
                    · unfold two
                      go_wp2_with fail
                      refine (alive_c y8).mono ?_
                      rintro e wz ⟨rfl, hE⟩
                      have HEz := Lib.hid (Ext.trans HE8.out hE)
                      clear hE
                      go_wp2_with fail
                      go_ret
                      exact ⟨rfl, HEz.out⟩
                    · unfold two
                      rw [Int.toNat_natCast] at hy
                      have HY := Lib.hid hy
                      have HVB := Lib.hid hvb
                      have hyl : (runL A x m).length ≤ 1000000 := by unfold runL; rw [listV_len]; omega
                      have HYL := Lib.hid hyl
                      clear hy hvb hyl
                      go_wp2_with fail
                      refine (Run_c _ _ A (runL A x m) (q0 : Int) y8 (Rows2.ext HA.out HE8.out) HLA.out HY.out HYL.out (by omega)).mono ?_
                      rintro e y9 ⟨hR2, hE⟩
                      have HE9 := Lib.hid (Ext.trans HE8.out hE)
                      clear hE
                      have hR3 := Run_c _ _ A x ((m + q0 : Nat) : Int) y9 (Rows2.ext HA.out HE9.out) HLA.out (Ints.ext HX.out HE9.out) HL20.out (by omega)
                      have HR3 := Lib.hid hR3
                      clear hR3
                      rcases hR2 with ⟨_, rfl⟩ | ⟨_, _, _, _, rfl⟩ | ⟨_, _, _, _, z, rfl, hz⟩
                      · unfold two
                        go_wp2_with fail
                        rw [show ((m : Int) + (q0 : Int)) = ((m + q0 : Nat) : Int) by omega]
                        refine HR3.out.mono ?_
                        rintro e ya ⟨hR3, hE⟩
                        obtain ⟨r9, z9, rfl⟩ := run_two hR3
                        have HEa := Lib.hid (Ext.trans HE9.out hE)
                        clear hE hR3
                        unfold two
                        go_wp2_with fail
                        refine (alive_c ya).mono ?_
                        rintro e wz ⟨rfl, hE⟩
                        have HEz := Lib.hid (Ext.trans HEa.out hE)
                        clear hE
                        go_wp2_with fail
                        go_ret
                        exact ⟨rfl, HEz.out⟩
                      · unfold two
                        go_wp2_with fail
                        rw [show ((m : Int) + (q0 : Int)) = ((m + q0 : Nat) : Int) by omega]
                        refine HR3.out.mono ?_
                        rintro e ya ⟨hR3, hE⟩
                        obtain ⟨r9, z9, rfl⟩ := run_two hR3
                        have HEa := Lib.hid (Ext.trans HE9.out hE)
                        clear hE hR3
                        unfold two
                        go_wp2_with fail
                        refine (alive_c ya).mono ?_
                        rintro e wz ⟨rfl, hE⟩
                        have HEz := Lib.hid (Ext.trans HEa.out hE)
                        clear hE
                        go_wp2_with fail
                        go_ret
                        exact ⟨rfl, HEz.out⟩
                      · unfold two
                        rw [Int.toNat_natCast] at hz
                        have HZ := Lib.hid hz
                        clear hz
                        go_wp2_with fail
                        rw [show ((m : Int) + (q0 : Int)) = ((m + q0 : Nat) : Int) by omega]
                        refine HR3.out.mono ?_
                        rintro e ya ⟨hR3, hE⟩
                        have HEa := Lib.hid (Ext.trans HE9.out hE)
                        have HZa := Lib.hid (Ints.ext HZ.out hE)
                        clear hE
                        rcases hR3 with ⟨_, rfl⟩ | ⟨_, _, _, _, rfl⟩ | ⟨_, _, _, _, v9, rfl, hv9⟩
                        · unfold two
                          go_wp2_with fail
                          refine (alive_c ya).mono ?_
                          rintro e wz ⟨rfl, hE⟩
                          have HEz := Lib.hid (Ext.trans HEa.out hE)
                          clear hE
                          go_wp2_with fail
                          go_ret
                          exact ⟨rfl, HEz.out⟩
                        · unfold two
                          go_wp2_with fail
                          refine (alive_c ya).mono ?_
                          rintro e wz ⟨rfl, hE⟩
                          have HEz := Lib.hid (Ext.trans HEa.out hE)
                          clear hE
                          go_wp2_with fail
                          go_ret
                          exact ⟨rfl, HEz.out⟩
                        · unfold two
                          rw [Int.toNat_natCast] at hv9
                          have HV9 := Lib.hid hv9
                          clear hv9
                          go_wp2_with fail
                          refine (same_c _ _ _ _ ya HZa.out HV9.out).mono ?_
                          rintro e yb ⟨rfl, hE⟩
                          have HEb := Lib.hid (Ext.trans HEa.out hE)
                          clear hE
                          rw [decide_eq_true (run_run HMA.out HVB.out (by omega))]
                          go_wp2_with fail
                          refine (alive_c yb).mono ?_
                          rintro e wz ⟨rfl, hE⟩
                          have HEz := Lib.hid (Ext.trans HEb.out hE)
                          clear hE
                          go_wp2_with fail
                          go_ret
                          exact ⟨rfl, HEz.out⟩
end Go.Proofs.YtbcngojiikdigaaGreat
