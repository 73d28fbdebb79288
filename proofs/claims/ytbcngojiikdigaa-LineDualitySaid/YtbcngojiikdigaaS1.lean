import Derived.Test.YtbcngojiikdigaaL33
import Derived.Test.YtbcngojiikdigaaM3
namespace Go.Proofs.Ytbcngojiikdigaa
set_option maxRecDepth 100000
open Go.RowKit Go.Shelf
theorem two_inj {a b c d : Value} (h : two a b = two c d) : a = c ∧ b = d := by simpa [two] using h
/-- what Star gives -/
def StarS (base : Nat) (xs : List (List Int)) (e : Ending) (w' : World) : Prop :=
  (matB xs = false ∧ e = two (.slice none 0 0) (.int .i64 2)) ∨
  (matB xs = true ∧ ∃ p q, spF xs.length (entF xs) = some (p, q) ∧ 0 < p ∧ e = two (.slice none 0 0) (.int .i64 11)) ∨
  (matB xs = true ∧ (∀ p q, spF xs.length (entF xs) = some (p, q) → p ≤ 0) ∧ ∃ r, e = two r (.int .i64 0) ∧ NewMat base w' r 3 30 xs.length (closF xs.length (entF xs)))
set_option maxHeartbeats 4000000 in
theorem Star_c (u : Value) (xs : List (List Int)) (w : World) (hu : Rows2 w u xs) (hlx : ∀ r ∈ xs, r.length ≤ 1000000) :
    Calls Try.prog 14 #[u] w fun e w' => StarS w.heap.size xs e w' ∧ Ext w w' := by
  have HU := Lib.hid hu
  have HM := Lib.hid (isMatrix_c u xs w hu hlx)
  obtain ⟨a1, c1, rfl, hl1, hm1, _⟩ := hu.at
  clear hu hlx
  cases hx : matB xs with
  | false =>
    have HS := Lib.hid (fun w' => (show StarS w.heap.size xs (two (.slice none 0 0) (.int .i64 2)) w' from .inl ⟨hx, rfl⟩))
    rw [hx] at HM
    clear hx
    go_enter Try.func14, Try.ntmps14
    go_wp2_with fail
    refine HM.out.mono ?_
    rintro e w1 ⟨rfl, hE⟩
    have HE := Lib.hid hE
    clear hE
    go_wp2_with fail
    go_ret2
    exact ⟨HS.out _, HE.out⟩
  | true =>
    have HOX := Lib.hid (matB_ok hx)
    have hn := HOX.out.1
    have HX := Lib.hid hx
    rw [hx] at HM
    clear hx
    go_enter Try.func14, Try.ntmps14
    go_wp2_with fail
    refine HM.out.mono ?_
    rintro e w1 ⟨rfl, hE⟩
    have HE := Lib.hid hE
    clear hE
    go_wp2_with fail
    refine (spans_c _ xs.length (entF xs) w1 hn.1 hn.2 (rows_mat (HU.out.ext HE.out) HOX.out.2.1 hn.1)).mono ?_
    rintro e w3 ⟨r1, rfl, hr1, hE⟩
    have HE3 := Lib.hid (Ext.trans HE.out hE)
    have HR1 := Lib.hid (hr1.mat (by omega))
    clear hE hr1
    go_wp2_with fail
    refine (speed_c _ xs.length _ w3 hn.1 hn.2 HR1.out HOX.out.2.2).mono ?_
    rintro e w5 ⟨rfl, hE⟩
    have HE5 := Lib.hid (Ext.trans HE3.out hE)
    clear hE
    cases hs : spF xs.length (entF xs) with
    | none =>
      have HS := Lib.hid (fun w' r (h : NewMat w.heap.size w' r 3 30 xs.length (closF xs.length (entF xs))) => (show StarS w.heap.size xs (two r (.int .i64 0)) w' from .inr (.inr ⟨HX.out, fun p q e => (by rw [hs] at e; cases e), r, rfl, h⟩)))
      have HEa := Lib.hid (Ext.alloc (Ext.refl w5) (.cells #[.int .i64 0, .int .i64 0] 26))
      have HPa := Lib.hid (show VRow (w5.alloc (.cells #[.int .i64 0, .int .i64 0] 26)) _ _ _ from vrow_alloc w5 [.int .i64 0, .int .i64 0] 26)
      clear hs
      simp only [speedV]
      go_wp2_with fail
      generalize w5.alloc (.cells #[.int .i64 0, .int .i64 0] 26) = w6 at *
      have HE6 := Lib.hid (Ext.trans HE5.out HEa.out)
      refine (spans_c _ xs.length (entF xs) w6 hn.1 hn.2 (rows_mat (HU.out.ext HE6.out) HOX.out.2.1 hn.1)).mono ?_
      rintro e w7 ⟨r7, rfl, hr7, hE⟩
      have HE7 := Lib.hid (Ext.trans HE6.out hE)
      have HR7 := Lib.hid (hr7.mat (by omega))
      clear hE hr7
      go_wp2_with fail
      refine (closure_c _ xs.length (entF xs) 1000 w7 hn.1 hn.2 HR7.out HOX.out.2.2 (by omega) (by unfold KB; omega)).mono ?_
      rintro e w8 ⟨r8, rfl, hr8, hE⟩
      have HE8 := Lib.hid (Ext.trans HE7.out hE)
      have HR8 := Lib.hid (hr8.mat (by omega))
      clear hE hr8
      go_wp2_with fail
      refine (ints_c _ xs.length _ w8 hn.1 hn.2 HR8.out).mono ?_
      rintro e w9 ⟨r9, rfl, hr9, hE⟩
      have HE9 := Lib.hid (Ext.trans HE8.out hE)
      have HR9 := Lib.hid (hr9.mono HE8.out.size)
      clear hE hr9
      go_wp2_with fail
      go_ret2
      exact ⟨HS.out _ _ HR9.out, HE9.out⟩
    | some pq =>
      obtain ⟨p, q⟩ := pq
      have HEa := Lib.hid (Ext.alloc (Ext.refl w5) (.cells #[.int .i64 p, .int .i64 q] 26))
      have hPa := (show VRow (w5.alloc (.cells #[.int .i64 p, .int .i64 q] 26)) _ _ _ from vrow_alloc w5 [.int .i64 p, .int .i64 q] 26)
      have c0 := VRow.cell hPa (k := 0) rfl
      clear hPa
      by_cases hp : 0 < p
      · have HS := Lib.hid (fun w' => (show StarS w.heap.size xs (two (.slice none 0 0) (.int .i64 11)) w' from .inr (.inl ⟨HX.out, p, q, hs, hp, rfl⟩)))
        clear hs
        simp only [speedV]
        go_wp2_with fail
        go_ret2
        exact ⟨HS.out _, Ext.trans HE5.out HEa.out⟩
      · have HS := Lib.hid (fun w' r (h : NewMat w.heap.size w' r 3 30 xs.length (closF xs.length (entF xs))) => (show StarS w.heap.size xs (two r (.int .i64 0)) w' from .inr (.inr ⟨HX.out, fun p' q' e => (by rw [hs] at e; injection e with e; injection e with e1 e2; omega), r, rfl, h⟩)))
        clear hs
        simp only [speedV]
        go_wp2_with fail
        clear c0
        generalize w5.alloc (.cells #[.int .i64 p, .int .i64 q] 26) = w6 at *
        have HE6 := Lib.hid (Ext.trans HE5.out HEa.out)
        refine (spans_c _ xs.length (entF xs) w6 hn.1 hn.2 (rows_mat (HU.out.ext HE6.out) HOX.out.2.1 hn.1)).mono ?_
        rintro e w7 ⟨r7, rfl, hr7, hE⟩
        have HE7 := Lib.hid (Ext.trans HE6.out hE)
        have HR7 := Lib.hid (hr7.mat (by omega))
        clear hE hr7
        go_wp2_with fail
        refine (closure_c _ xs.length (entF xs) 1000 w7 hn.1 hn.2 HR7.out HOX.out.2.2 (by omega) (by unfold KB; omega)).mono ?_
        rintro e w8 ⟨r8, rfl, hr8, hE⟩
        have HE8 := Lib.hid (Ext.trans HE7.out hE)
        have HR8 := Lib.hid (hr8.mat (by omega))
        clear hE hr8
        go_wp2_with fail
        refine (ints_c _ xs.length _ w8 hn.1 hn.2 HR8.out).mono ?_
        rintro e w9 ⟨r9, rfl, hr9, hE⟩
        have HE9 := Lib.hid (Ext.trans HE8.out hE)
        have HR9 := Lib.hid (hr9.mono HE8.out.size)
        clear hE hr9
        go_wp2_with fail
        go_ret2
        exact ⟨HS.out _ _ HR9.out, HE9.out⟩
/-- the star of a line without a cycle above 0 -/
theorem clos_star {n : Nat} (A : MF) (hn : 1 ≤ n) : eqF n (closF n A) (smF n A n) := by
  have h := clos_sum n A (n - 1)
  rw [show n - 1 + 1 = n by omega] at h
  exact h
theorem clos_idem {n : Nat} {A : MF} (hn : 1 ≤ n) (h : NoPos n A) : eqF n (mulF n (closF n A) (closF n A)) (closF n A) :=
  ((mulF_congr (clos_star A hn) (clos_star A hn)).trans (star_idem hn h)).trans (clos_star A hn).symm
theorem clos_eq {n : Nat} {A : MF} (hn : 1 ≤ n) (h : NoPos n A) {i j : Nat} (hi : i < n) (hj : j < n) : closF n A i j = em (mulF n A (closF n A) i j) (oneF i j) := by
  rw [clos_star A hn i hi j hj, star_eq hn h hi hj, mulF_congr (eqF.refl n A) (clos_star A hn) i hi j hj]
theorem clos_bd {n : Nat} {A : MF} (hn : n ≤ 6) (bA : bdF 1000 n A) : bdF 6000 n (closF n A) := by
  have h : bdF (1000 * ((n - 1 : Nat) : Int)) n (closF n A) := bdF_pw (bdF_add ((bdF_one n).mono (by decide)) bA) (n - 1)
  exact h.mono (by omega)
theorem val_max0 {x : E} (hx : bdE KB x) : val (em x (some 0)) = if val x < 0 then 0 else val x := val_em_max hx (fun y hy => by injection hy with hy; subst hy; unfold KB; omega)
/-- the product as a matrix -/
theorem product_m (u v : Value) (n : Nat) (A B : MF) (w : World) (hn1 : 1 ≤ n) (hn : n ≤ 6) (hA : MatAt w u n A) (hB : MatAt w v n B) (bA : bdF KB n A) (bB : bdF KB n B) (bM : ∀ i, i < n → ∀ j, j < n → ∀ k, k < n → bdE KB (ep (A i k) (B k j))) :
    Calls Try.prog 17 #[u, v] w fun e w' => ∃ r, e = .returned r ∧ MatAt w' r n (mulF n A B) ∧ Ext w w' :=
  (product_c u v n A B w hn1 hn hA hB bA bB bM).mono fun e w' h => by
    obtain ⟨r, h1, h2, h3⟩ := h
    refine ⟨r, h1, ?_, h3⟩
    have h4 := rows_mat h2 (fun r hr => by rw [listM_len, listM_row hr]) (by rw [listM_len]; exact hn1)
    rw [listM_len] at h4
    exact h4.congr (entF_list fun i hi j hj => bdE_es fun t ht => bM i hi j hj t ht)
theorem list_short {n : Nat} {A : MF} (h : n ≤ 6) : ∀ r ∈ listM n A, r.length ≤ 1000000 := fun r hr => by rw [listM_row hr]; omega
set_option maxHeartbeats 16000000 in
theorem star_c (ua : Value) (A : List (List Int)) (w : World) (hA : Rows2 w ua A) : Calls Try.prog 4 #[ua] w fun e w' => e = .returned (.bool true) ∧ Ext w w' := by
  have HA := Lib.hid hA
  have HFA := Lib.hid (few_c ua A w hA)
  obtain ⟨aa, ca, rfl, _, _, _⟩ := hA.at
  clear hA
  cases hfa : few20 A with
  | false =>
    rw [hfa] at HFA
    clear hfa
    go_enter Try.func4, Try.ntmps4
    go_wp2_with fail
    refine HFA.out.mono ?_
    rintro e w1 ⟨rfl, hE⟩
    have HE := Lib.hid hE
    clear hE
    go_wp2_with fail
    refine (alive_c w1).mono ?_
    rintro e wz ⟨rfl, hE⟩
    have HEz := Lib.hid (Ext.trans HE.out hE)
    clear hE
    go_wp2_with fail
    go_ret
    exact ⟨rfl, HEz.out⟩
  | true =>
    have HLA := Lib.hid (few20_ok hfa).2
    have hlA := (few20_ok hfa).1
    rw [hfa] at HFA
    clear hfa
    go_enter Try.func4, Try.ntmps4
    go_wp2_with fail
    refine HFA.out.mono ?_
    rintro e w1 ⟨rfl, hE⟩
    have HE1 := Lib.hid hE
    clear hE
    go_wp2_with fail
    refine (Star_c _ A w1 (Rows2.ext HA.out HE1.out) HLA.out).mono ?_
    rintro e w2 ⟨hS, hE⟩
    have HE2 := Lib.hid (Ext.trans HE1.out hE)
    clear hE
    have HSP := Lib.hid (fun W (h : Ext w W) => Speed_c _ A W (Rows2.ext HA.out h) HLA.out)
    rcases hS with ⟨hm, rfl⟩ | ⟨hm, p, q, hs, hp, rfl⟩ | ⟨hm, hs, r, rfl, hr⟩
    · rw [show speedZ A = (0, 0, 2) from by unfold speedZ; rw [hm]; rfl] at HSP
      clear hm
      unfold two at *
      go_wp2_with fail
      refine (HSP.out _ HE2.out).mono ?_
      rintro e w3 ⟨rfl, hE⟩
      have HE3 := Lib.hid (Ext.alloc (Ext.trans HE2.out hE) (.cells #[.int .i64 0, .int .i64 0] 26))
      clear hE
      go_wp2_with fail
      generalize w3.alloc (.cells #[.int .i64 0, .int .i64 0] 26) = w4 at *
      refine (alive_c w4).mono ?_
      rintro e wz ⟨rfl, hE⟩
      have HEz := Lib.hid (Ext.trans HE3.out hE)
      clear hE
      go_wp2_with fail
      go_ret
      exact ⟨rfl, HEz.out⟩
    · rw [show speedZ A = (p, q, 0) from by unfold speedZ; rw [hm, hs]; rfl] at HSP
      clear hm hs
      unfold two at *
      go_wp2_with fail
      refine (HSP.out _ HE2.out).mono ?_
      rintro e w3 ⟨rfl, hE⟩
      have HE3 := Lib.hid (Ext.alloc (Ext.trans HE2.out hE) (.cells #[.int .i64 p, .int .i64 q] 26))
      have hPa := (show VRow (w3.alloc (.cells #[.int .i64 p, .int .i64 q] 26)) _ _ _ from vrow_alloc w3 [.int .i64 p, .int .i64 q] 26)
      have c0 := VRow.cell hPa (k := 0) rfl
      clear hE hPa
      go_wp2_with fail
      clear c0
      generalize w3.alloc (.cells #[.int .i64 p, .int .i64 q] 26) = w4 at *
      refine (alive_c w4).mono ?_
      rintro e wz ⟨rfl, hE⟩
      have HEz := Lib.hid (Ext.trans HE3.out hE)
      clear hE
      go_wp2_with fail
      go_ret
      exact ⟨rfl, HEz.out⟩
    · have HOA := Lib.hid (matB_ok hm)
      have hn := HOA.out.1
      have HNP := Lib.hid (sp_noPos hs)
      have HR2 := Lib.hid (hr.mat (by omega))
      clear hr
      cases hsp : spF A.length (entF A) with
      | none =>
        rw [show speedZ A = (0, 0, 10) from by unfold speedZ; rw [hm, hsp]; rfl] at HSP
        clear hm hs hsp
        unfold two at *
        go_wp2_with fail
        refine (HSP.out _ HE2.out).mono ?_
        rintro e w3 ⟨rfl, hE⟩
        have HE3 := Lib.hid (Ext.alloc (Ext.trans HE2.out hE) (.cells #[.int .i64 0, .int .i64 0] 26))
        have HR3 := Lib.hid (HR2.out.ext (Ext.alloc hE (.cells #[.int .i64 0, .int .i64 0] 26)))
        clear hE
        go_wp2_with fail
        generalize w3.alloc (.cells #[.int .i64 0, .int .i64 0] 26) = w4 at *
        have HCB := Lib.hid (clos_bd hn.2 HOA.out.2.2)
        have HCE := Lib.hid (fun i j hi hj => clos_eq hn.1 HNP.out (i := i) (j := j) hi hj)
        have HCI := Lib.hid (clos_idem hn.1 HNP.out)
        have HPB := Lib.hid (show bdF KB A.length (mulF A.length (entF A) (closF A.length (entF A))) from (bdF_mul HOA.out.2.2 (clos_bd hn.2 HOA.out.2.2)).mono (by unfold KB; omega))
        generalize hSS : closF A.length (entF A) = S at *
        clear hSS
        refine (square_c r (listM A.length S) A.length w4 (mat_rows HR3.out) (by omega) (list_short (by omega)) (by rw [listM_len]; omega)).mono ?_
        rintro e w5 ⟨rfl, hE⟩
        have HE5 := Lib.hid (Ext.trans HE3.out hE)
        have HR5 := Lib.hid (HR3.out.ext hE)
        clear hE
        rw [sqB_list]
        go_wp2_with fail
        refine (product_c _ _ A.length S S w5 hn.1 hn.2 HR5.out HR5.out (HCB.out.mono (by decide)) (HCB.out.mono (by decide)) (fun i hi j hj t ht => (bdE_ep (HCB.out i hi t ht) (HCB.out t ht j hj)).mono (by decide))).mono ?_
        rintro e w6 ⟨pr, rfl, hpr, hE⟩
        have HE6 := Lib.hid (Ext.trans HE5.out hE)
        have HR6 := Lib.hid (HR5.out.ext hE)
        have HPR := Lib.hid hpr
        clear hE hpr
        go_wp2_with fail
        refine (rows_c _ _ _ _ w6 HPR.out (mat_rows HR6.out)).mono ?_
        rintro e w7 ⟨rfl, hE⟩
        have HE7 := Lib.hid (Ext.trans HE6.out hE)
        have HR7 := Lib.hid (HR6.out.ext hE)
        clear hE
        rw [decide_eq_true (listM_congr HCI.out)]
        go_wp2_with fail
        refine (product_m _ _ A.length (entF A) S w7 hn.1 hn.2 (rows_mat (Rows2.ext HA.out HE7.out) HOA.out.2.1 hn.1) HR7.out (HOA.out.2.2.mono (by decide)) (HCB.out.mono (by decide)) (fun i hi j hj t ht => (bdE_ep (HOA.out.2.2 i hi t ht) (HCB.out t ht j hj)).mono (by decide))).mono ?_
        rintro e w8 ⟨qv, rfl, hq, hE⟩
        have HE8 := Lib.hid (Ext.trans HE7.out hE)
        have HR8 := Lib.hid (HR7.out.ext hE)
        obtain ⟨qb, qo, qc, rfl, hq1, hq2, hq3⟩ := hq
        have HQ3 := Lib.hid hq3
        obtain ⟨sb, so, sc, rfl, hs1, hs2, hs3⟩ := HR8.out
        have HS3 := Lib.hid hs3
        clear hE hq3 hs3
        go_wp2_with fail
        go_loopw [8] (fun iv' wr => ∃ i : Nat, iv' = .int .i64 (i : Int) ∧ i ≤ A.length ∧ Ext w8 wr) (fun iv' _ => A.length - (intOf iv').toNat)
        case atStart => exact ⟨0, rfl, Nat.zero_le _, Ext.refl _⟩
        case round =>
          rename World => wr
          obtain ⟨i, rfl, hi, hE⟩ := hrel
          have HEr := Lib.hid hE
          clear hE
          by_cases hil : i < A.length
          · go_wp2_with fail
            go_loopw [9] (fun jv wq => ∃ j : Nat, jv = .int .i64 (j : Int) ∧ j ≤ A.length ∧ Ext w8 wq) (fun jv _ => A.length - (intOf jv).toNat)
            case atStart => exact ⟨0, rfl, Nat.zero_le _, HEr.out⟩
            case round =>
              rename World => wq
              obtain ⟨j, rfl, hj, hE⟩ := hrel
              have HEq := Lib.hid hE
              clear hE
              by_cases hjl : j < A.length
              · obtain ⟨u1, c1, hu1⟩ := HQ3.out i hil
                obtain ⟨u2, c2, hu2⟩ := HS3.out i hil
                obtain ⟨b1, o1, d1, rfl, _, _, h1⟩ := hu1
                obtain ⟨b2, o2, d2, rfl, _, _, h2⟩ := hu2
                have g1 := Ext.cell HEq.out (h1 j hjl)
                have g2 := Ext.cell HEq.out (h2 j hjl)
                replace c1 := Ext.cell HEq.out c1
                replace c2 := Ext.cell HEq.out c2
                have k1 := cell_lt c1
                have k2 := cell_lt c2
                have k3 := cell_lt g1
                have k4 := cell_lt g2
                have HCX := Lib.hid (HCE.out i j hil hjl)
                have HZB := Lib.hid (HPB.out i hil j hjl)
                generalize mulF A.length (entF A) S i j = z at *
                generalize S i j = sz at *
                unfold iv at g1 g2
                clear h1 h2
                by_cases hij : i = j
                · have hb : ((i : Int) == (j : Int)) = true := by rw [hij]; simp
                  have HV := Lib.hid (show val sz = if val z < 0 then 0 else val z from by rw [HCX.out, hij, show oneF j j = some 0 from by unfold oneF; rw [if_pos rfl]]; exact val_max0 HZB.out)
                  have hij1 : i ≤ j := by omega
                  have hij2 : j ≤ i := by omega
                  clear hij
                  generalize val z = zi at *
                  generalize val sz = si at *
                  rcases Int.lt_trichotomy zi 0 with hz | hz | hz
                  · have hs0 : si = 0 := by rw [HV.out, if_pos hz]
                    subst hs0
                    go_wp2_with fail
                    exact ⟨⟨j + 1, by simp, by omega, HEq.out⟩, by simp [intOf]; omega⟩
                  · subst hz
                    have hs0 : si = 0 := by rw [HV.out]; simp
                    subst hs0
                    go_wp2_with fail
                    exact ⟨⟨j + 1, by simp, by omega, HEq.out⟩, by simp [intOf]; omega⟩
                  · have hs0 : si = zi := by rw [HV.out, if_neg (by omega)]
                    subst hs0
                    have hbb : (si != si) = false := by simp
                    go_wp2_with fail
                    exact ⟨⟨j + 1, by simp, by omega, HEq.out⟩, by simp [intOf]; omega⟩
                · have hb : ((i : Int) == (j : Int)) = false := by rw [beq_eq_false_iff_ne]; omega
                  have hs0 : val sz = val z := by rw [HCX.out, show oneF i j = none from by unfold oneF; rw [if_neg hij], em_none]
                  clear hij
                  generalize val z = zi at *
                  generalize val sz = si at *
                  subst hs0
                  have hbb : (si != si) = false := by simp
                  go_wp2_with fail
                  exact ⟨⟨j + 1, by simp, by omega, HEq.out⟩, by simp [intOf]; omega⟩
              · obtain rfl : j = A.length := by omega
                go_wp2_with fail
                exact ⟨⟨i + 1, by simp, by omega, HEq.out⟩, by simp [intOf]; omega⟩
          · obtain rfl : i = A.length := by omega
            have HEz0 := Lib.hid (Ext.trans HE8.out HEr.out)
            go_wp2_with fail
            refine (alive_c wr).mono ?_
            rintro e wz ⟨rfl, hE⟩
            have HEz := Lib.hid (Ext.trans HEz0.out hE)
            clear hE
            go_wp2_with fail
            go_ret
            exact ⟨rfl, HEz.out⟩
      | some pq =>
        obtain ⟨p, q⟩ := pq
        have hp : ¬ 0 < p := by have := hs p q hsp; omega
        rw [show speedZ A = (p, q, 0) from by unfold speedZ; rw [hm, hsp]; rfl] at HSP
        clear hm hs hsp
        unfold two at *
        go_wp2_with fail
        refine (HSP.out _ HE2.out).mono ?_
        rintro e w3 ⟨rfl, hE⟩
        have HE3 := Lib.hid (Ext.alloc (Ext.trans HE2.out hE) (.cells #[.int .i64 p, .int .i64 q] 26))
        have HR3 := Lib.hid (HR2.out.ext (Ext.alloc hE (.cells #[.int .i64 p, .int .i64 q] 26)))
        have hPa := (show VRow (w3.alloc (.cells #[.int .i64 p, .int .i64 q] 26)) _ _ _ from vrow_alloc w3 [.int .i64 p, .int .i64 q] 26)
        have c0 := VRow.cell hPa (k := 0) rfl
        clear hE hPa
        go_wp2_with fail
        clear c0
        generalize w3.alloc (.cells #[.int .i64 p, .int .i64 q] 26) = w4 at *
        have HCB := Lib.hid (clos_bd hn.2 HOA.out.2.2)
        have HCE := Lib.hid (fun i j hi hj => clos_eq hn.1 HNP.out (i := i) (j := j) hi hj)
        have HCI := Lib.hid (clos_idem hn.1 HNP.out)
        have HPB := Lib.hid (show bdF KB A.length (mulF A.length (entF A) (closF A.length (entF A))) from (bdF_mul HOA.out.2.2 (clos_bd hn.2 HOA.out.2.2)).mono (by unfold KB; omega))
        generalize hSS : closF A.length (entF A) = S at *
        clear hSS
        refine (square_c r (listM A.length S) A.length w4 (mat_rows HR3.out) (by omega) (list_short (by omega)) (by rw [listM_len]; omega)).mono ?_
        rintro e w5 ⟨rfl, hE⟩
        have HE5 := Lib.hid (Ext.trans HE3.out hE)
        have HR5 := Lib.hid (HR3.out.ext hE)
        clear hE
        rw [sqB_list]
        go_wp2_with fail
        refine (product_c _ _ A.length S S w5 hn.1 hn.2 HR5.out HR5.out (HCB.out.mono (by decide)) (HCB.out.mono (by decide)) (fun i hi j hj t ht => (bdE_ep (HCB.out i hi t ht) (HCB.out t ht j hj)).mono (by decide))).mono ?_
        rintro e w6 ⟨pr, rfl, hpr, hE⟩
        have HE6 := Lib.hid (Ext.trans HE5.out hE)
        have HR6 := Lib.hid (HR5.out.ext hE)
        have HPR := Lib.hid hpr
        clear hE hpr
        go_wp2_with fail
        refine (rows_c _ _ _ _ w6 HPR.out (mat_rows HR6.out)).mono ?_
        rintro e w7 ⟨rfl, hE⟩
        have HE7 := Lib.hid (Ext.trans HE6.out hE)
        have HR7 := Lib.hid (HR6.out.ext hE)
        clear hE
        rw [decide_eq_true (listM_congr HCI.out)]
        go_wp2_with fail
        refine (product_m _ _ A.length (entF A) S w7 hn.1 hn.2 (rows_mat (Rows2.ext HA.out HE7.out) HOA.out.2.1 hn.1) HR7.out (HOA.out.2.2.mono (by decide)) (HCB.out.mono (by decide)) (fun i hi j hj t ht => (bdE_ep (HOA.out.2.2 i hi t ht) (HCB.out t ht j hj)).mono (by decide))).mono ?_
        rintro e w8 ⟨qv, rfl, hq, hE⟩
        have HE8 := Lib.hid (Ext.trans HE7.out hE)
        have HR8 := Lib.hid (HR7.out.ext hE)
        obtain ⟨qb, qo, qc, rfl, hq1, hq2, hq3⟩ := hq
        have HQ3 := Lib.hid hq3
        obtain ⟨sb, so, sc, rfl, hs1, hs2, hs3⟩ := HR8.out
        have HS3 := Lib.hid hs3
        clear hE hq3 hs3
        go_wp2_with fail
        go_loopw [8] (fun iv' wr => ∃ i : Nat, iv' = .int .i64 (i : Int) ∧ i ≤ A.length ∧ Ext w8 wr) (fun iv' _ => A.length - (intOf iv').toNat)
        case atStart => exact ⟨0, rfl, Nat.zero_le _, Ext.refl _⟩
        case round =>
          rename World => wr
          obtain ⟨i, rfl, hi, hE⟩ := hrel
          have HEr := Lib.hid hE
          clear hE
          by_cases hil : i < A.length
          · go_wp2_with fail
            go_loopw [9] (fun jv wq => ∃ j : Nat, jv = .int .i64 (j : Int) ∧ j ≤ A.length ∧ Ext w8 wq) (fun jv _ => A.length - (intOf jv).toNat)
            case atStart => exact ⟨0, rfl, Nat.zero_le _, HEr.out⟩
            case round =>
              rename World => wq
              obtain ⟨j, rfl, hj, hE⟩ := hrel
              have HEq := Lib.hid hE
              clear hE
              by_cases hjl : j < A.length
              · obtain ⟨u1, c1, hu1⟩ := HQ3.out i hil
                obtain ⟨u2, c2, hu2⟩ := HS3.out i hil
                obtain ⟨b1, o1, d1, rfl, _, _, h1⟩ := hu1
                obtain ⟨b2, o2, d2, rfl, _, _, h2⟩ := hu2
                have g1 := Ext.cell HEq.out (h1 j hjl)
                have g2 := Ext.cell HEq.out (h2 j hjl)
                replace c1 := Ext.cell HEq.out c1
                replace c2 := Ext.cell HEq.out c2
                have k1 := cell_lt c1
                have k2 := cell_lt c2
                have k3 := cell_lt g1
                have k4 := cell_lt g2
                have HCX := Lib.hid (HCE.out i j hil hjl)
                have HZB := Lib.hid (HPB.out i hil j hjl)
                generalize mulF A.length (entF A) S i j = z at *
                generalize S i j = sz at *
                unfold iv at g1 g2
                clear h1 h2
                by_cases hij : i = j
                · have hb : ((i : Int) == (j : Int)) = true := by rw [hij]; simp
                  have HV := Lib.hid (show val sz = if val z < 0 then 0 else val z from by rw [HCX.out, hij, show oneF j j = some 0 from by unfold oneF; rw [if_pos rfl]]; exact val_max0 HZB.out)
                  have hij1 : i ≤ j := by omega
                  have hij2 : j ≤ i := by omega
                  clear hij
                  generalize val z = zi at *
                  generalize val sz = si at *
                  rcases Int.lt_trichotomy zi 0 with hz | hz | hz
                  · have hs0 : si = 0 := by rw [HV.out, if_pos hz]
                    subst hs0
                    go_wp2_with fail
                    exact ⟨⟨j + 1, by simp, by omega, HEq.out⟩, by simp [intOf]; omega⟩
                  · subst hz
                    have hs0 : si = 0 := by rw [HV.out]; simp
                    subst hs0
                    go_wp2_with fail
                    exact ⟨⟨j + 1, by simp, by omega, HEq.out⟩, by simp [intOf]; omega⟩
                  · have hs0 : si = zi := by rw [HV.out, if_neg (by omega)]
                    subst hs0
                    have hbb : (si != si) = false := by simp
                    go_wp2_with fail
                    exact ⟨⟨j + 1, by simp, by omega, HEq.out⟩, by simp [intOf]; omega⟩
                · have hb : ((i : Int) == (j : Int)) = false := by rw [beq_eq_false_iff_ne]; omega
                  have hs0 : val sz = val z := by rw [HCX.out, show oneF i j = none from by unfold oneF; rw [if_neg hij], em_none]
                  clear hij
                  generalize val z = zi at *
                  generalize val sz = si at *
                  subst hs0
                  have hbb : (si != si) = false := by simp
                  go_wp2_with fail
                  exact ⟨⟨j + 1, by simp, by omega, HEq.out⟩, by simp [intOf]; omega⟩
              · obtain rfl : j = A.length := by omega
                go_wp2_with fail
                exact ⟨⟨i + 1, by simp, by omega, HEq.out⟩, by simp [intOf]; omega⟩
          · obtain rfl : i = A.length := by omega
            have HEz0 := Lib.hid (Ext.trans HE8.out HEr.out)
            go_wp2_with fail
            refine (alive_c wr).mono ?_
            rintro e wz ⟨rfl, hE⟩
            have HEz := Lib.hid (Ext.trans HEz0.out hE)
            clear hE
            go_wp2_with fail
            go_ret
            exact ⟨rfl, HEz.out⟩
end Go.Proofs.Ytbcngojiikdigaa
