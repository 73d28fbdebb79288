import Derived.Test.YtbcngojiikdigaaGreatL15
namespace Go.Proofs.YtbcngojiikdigaaGreat
set_option maxRecDepth 100000
open Go.RowKit Go.Shelf
def two (a b : Value) : Ending := .returned (.tuple #[a, b])
/-- what Multiply gives -/
def MultS (base : Nat) (xs ys : List (List Int)) (e : Ending) (w' : World) : Prop :=
  ((matB xs && matB ys && decide (xs.length = ys.length)) = false ∧ e = two (.slice none 0 0) (.int .i64 2)) ∨
  (matB xs = true ∧ matB ys = true ∧ xs.length = ys.length ∧ ∃ r, e = two r (.int .i64 0) ∧ NewMat base w' r 3 23 xs.length (mulF xs.length (entF xs) (entF ys)))
set_option maxHeartbeats 4000000 in
theorem Multiply_c (u v : Value) (xs ys : List (List Int)) (w : World) (hu : Rows2 w u xs) (hv : Rows2 w v ys) (hlx : ∀ r ∈ xs, r.length ≤ 1000000) (hly : ∀ r ∈ ys, r.length ≤ 1000000) :
    Calls Tryz.prog 11 #[u, v] w fun e w' => MultS w.heap.size xs ys e w' ∧ Ext w w' := by
  have HU := Lib.hid hu
  have HV := Lib.hid hv
  have HM := Lib.hid (fun W (h : Ext w W) => isMatrix_c u xs W (hu.ext h) hlx)
  have HN := Lib.hid (fun W (h : Ext w W) => isMatrix_c v ys W (hv.ext h) hly)
  obtain ⟨a1, c1, rfl, hl1, hm1, _⟩ := hu.at
  obtain ⟨a2, c2, rfl, hl2, hm2, _⟩ := hv.at
  clear hu hv hlx hly
  have HF := Lib.hid (fun (w' : World) (h : (matB xs && matB ys && decide (xs.length = ys.length)) = false) => (show MultS w.heap.size xs ys (two (.slice none 0 0) (.int .i64 2)) w' from .inl ⟨h, rfl⟩))
  cases hx : matB xs with
  | false =>
    have HS := Lib.hid (fun w' => HF.out w' (by rw [hx]; rfl))
    rw [hx] at HM
    clear hx HF
    go_enter Tryz.func11, Tryz.ntmps11
    go_wp2_with fail
    refine (HM.out _ (Ext.refl _)).mono ?_
    rintro e w1 ⟨rfl, hE⟩
    have HE := Lib.hid hE
    clear hE
    go_wp2_with fail
    go_ret2
    exact ⟨HS.out _, HE.out⟩
  | true =>
    cases hy : matB ys with
    | false =>
      have HS := Lib.hid (fun w' => HF.out w' (by rw [hx, hy]; rfl))
      rw [hx] at HM
      rw [hy] at HN
      clear hx hy HF
      go_enter Tryz.func11, Tryz.ntmps11
      go_wp2_with fail
      refine (HM.out _ (Ext.refl _)).mono ?_
      rintro e w1 ⟨rfl, hE⟩
      have HE := Lib.hid hE
      clear hE
      go_wp2_with fail
      refine (HN.out _ HE.out).mono ?_
      rintro e w2 ⟨rfl, hE⟩
      have HE2 := Lib.hid (Ext.trans HE.out hE)
      clear hE
      go_wp2_with fail
      go_ret2
      exact ⟨HS.out _, HE2.out⟩
    | true =>
      by_cases hl : xs.length = ys.length
      · have HOX := Lib.hid (matB_ok hx)
        have HOY := Lib.hid (matB_ok hy)
        have HS := Lib.hid (fun (r : Value) (w' : World) (h : NewMat w.heap.size w' r 3 23 xs.length (mulF xs.length (entF xs) (entF ys))) => (show MultS w.heap.size xs ys (two r (.int .i64 0)) w' from .inr ⟨hx, hy, hl, r, rfl, h⟩))
        rw [hx] at HM
        rw [hy] at HN
        have HL := Lib.hid hl
        have hb : ((xs.length : Int) != (ys.length : Int)) = false := by rw [hl]; simp
        have hn := HOX.out.1
        clear hx hy HF hl
        go_enter Tryz.func11, Tryz.ntmps11
        go_wp2_with fail
        refine (HM.out _ (Ext.refl _)).mono ?_
        rintro e w1 ⟨rfl, hE⟩
        have HE := Lib.hid hE
        clear hE
        go_wp2_with fail
        refine (HN.out _ HE.out).mono ?_
        rintro e w2 ⟨rfl, hE⟩
        have HE2 := Lib.hid (Ext.trans HE.out hE)
        clear hE
        go_wp2_with fail
        refine (spans_c _ xs.length (entF xs) w2 hn.1 hn.2 (rows_mat (HU.out.ext HE2.out) HOX.out.2.1 hn.1)).mono ?_
        rintro e w3 ⟨r1, rfl, hr1, hE⟩
        have HE3 := Lib.hid (Ext.trans HE2.out hE)
        have HR1 := Lib.hid (hr1.mat (by omega))
        clear hE hr1
        go_wp2_with fail
        refine (spans_c _ ys.length (entF ys) w3 HOY.out.1.1 HOY.out.1.2 (rows_mat (HV.out.ext HE3.out) HOY.out.2.1 HOY.out.1.1)).mono ?_
        rintro e w4 ⟨r2, rfl, hr2, hE⟩
        have HE4 := Lib.hid (Ext.trans HE3.out hE)
        have hR2 := hr2.mat (by have := HOY.out.1.2; omega)
        have bY := HOY.out.2.2
        rw [← HL.out] at hR2 bY
        have HR2 := Lib.hid hR2
        have HR1 := Lib.hid (HR1.out.ext hE)
        have HBY := Lib.hid bY
        clear hE hr2 hR2 bY
        go_wp2_with fail
        refine (mtimes_c _ _ xs.length _ _ w4 hn.1 hn.2 HR1.out HR2.out (HOX.out.2.2.mono (by decide)) (HBY.out.mono (by decide)) (fun i hi j hj k hk => (bdE_ep (HOX.out.2.2 i hi k hk) (HBY.out k hk j hj)).mono (by decide))).mono ?_
        rintro e w5 ⟨r3, rfl, hr3, hE⟩
        have HE5 := Lib.hid (Ext.trans HE4.out hE)
        have HR3 := Lib.hid (hr3.mat (by omega))
        clear hE hr3
        go_wp2_with fail
        refine (ints_c _ xs.length _ w5 hn.1 hn.2 HR3.out).mono ?_
        rintro e w6 ⟨r4, rfl, hr4, hE⟩
        have HE6 := Lib.hid (Ext.trans HE5.out hE)
        have HR4 := Lib.hid (hr4.mono HE5.out.size)
        clear hE hr4
        go_wp2_with fail
        go_ret2
        exact ⟨HS.out _ _ HR4.out, HE6.out⟩
      · have HS := Lib.hid (fun w' => HF.out w' (by rw [hx, hy, decide_eq_false hl]; rfl))
        rw [hx] at HM
        rw [hy] at HN
        have hb : ((xs.length : Int) != (ys.length : Int)) = true := by rw [bne_iff_ne]; omega
        clear hx hy HF hl
        go_enter Tryz.func11, Tryz.ntmps11
        go_wp2_with fail
        refine (HM.out _ (Ext.refl _)).mono ?_
        rintro e w1 ⟨rfl, hE⟩
        have HE := Lib.hid hE
        clear hE
        go_wp2_with fail
        refine (HN.out _ HE.out).mono ?_
        rintro e w2 ⟨rfl, hE⟩
        have HE2 := Lib.hid (Ext.trans HE.out hE)
        clear hE
        go_wp2_with fail
        go_ret2
        exact ⟨HS.out _, HE2.out⟩
end Go.Proofs.YtbcngojiikdigaaGreat
