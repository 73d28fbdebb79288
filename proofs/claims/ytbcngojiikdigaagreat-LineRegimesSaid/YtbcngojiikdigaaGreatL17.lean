import Derived.Test.YtbcngojiikdigaaGreatL16
namespace Go.Proofs.YtbcngojiikdigaaGreat
set_option maxRecDepth 100000
open Go.RowKit Go.Shelf
def countB (k : Int) : Bool := decide (0 ≤ k) && decide (k ≤ 1048576)
theorem isCount_c (k : Int) (w : World) : Calls Tryz.prog 45 #[.int .i64 k] w fun e w' => e = .returned (.bool (countB k)) ∧ Ext w w' := by
  by_cases h0 : 0 ≤ k
  · by_cases h1 : k ≤ 1048576
    · rw [show countB k = true by simp [countB, h0, h1]]
      go_enter Tryz.func45, Tryz.ntmps45
      go_wp2_with fail
      go_ret
      exact ⟨rfl, Ext.refl _⟩
    · rw [show countB k = false by simp [countB, h1]]
      go_enter Tryz.func45, Tryz.ntmps45
      go_wp2_with fail
      go_ret
      exact ⟨rfl, Ext.refl _⟩
  · rw [show countB k = false by simp [countB, h0]]
    go_enter Tryz.func45, Tryz.ntmps45
    go_wp2_with fail
    go_ret
    exact ⟨rfl, Ext.refl _⟩
/-- what Power gives -/
def PowS (base : Nat) (xs : List (List Int)) (k : Int) (e : Ending) (w' : World) : Prop :=
  ((matB xs && countB k) = false ∧ e = two (.slice none 0 0) (.int .i64 2)) ∨
  (matB xs = true ∧ countB k = true ∧ ∃ r, e = two r (.int .i64 0) ∧ NewMat base w' r 3 23 xs.length (pwF xs.length (entF xs) k.toNat))
set_option maxHeartbeats 4000000 in
theorem Power_c (u : Value) (xs : List (List Int)) (k : Int) (w : World) (hu : Rows2 w u xs) (hlx : ∀ r ∈ xs, r.length ≤ 1000000) :
    Calls Tryz.prog 15 #[u, .int .i64 k] w fun e w' => PowS w.heap.size xs k e w' ∧ Ext w w' := by
  have HU := Lib.hid hu
  have HM := Lib.hid (fun W (h : Ext w W) => isMatrix_c u xs W (hu.ext h) hlx)
  have HN := Lib.hid (fun W => isCount_c k W)
  obtain ⟨a1, c1, rfl, hl1, hm1, _⟩ := hu.at
  clear hu hlx
  have HF := Lib.hid (fun (w' : World) (h : (matB xs && countB k) = false) => (show PowS w.heap.size xs k (two (.slice none 0 0) (.int .i64 2)) w' from .inl ⟨h, rfl⟩))
  cases hx : matB xs with
  | false =>
    have HS := Lib.hid (fun w' => HF.out w' (by rw [hx]; rfl))
    rw [hx] at HM
    clear hx HF
    go_enter Tryz.func15, Tryz.ntmps15
    go_wp2_with fail
    refine (HM.out _ (Ext.refl _)).mono ?_
    rintro e w1 ⟨rfl, hE⟩
    have HE := Lib.hid hE
    clear hE
    go_wp2_with fail
    go_ret2
    exact ⟨HS.out _, HE.out⟩
  | true =>
    cases hk : countB k with
    | false =>
      have HS := Lib.hid (fun w' => HF.out w' (by rw [hx, hk]; rfl))
      rw [hx] at HM
      rw [hk] at HN
      clear hx hk HF
      go_enter Tryz.func15, Tryz.ntmps15
      go_wp2_with fail
      refine (HM.out _ (Ext.refl _)).mono ?_
      rintro e w1 ⟨rfl, hE⟩
      have HE := Lib.hid hE
      clear hE
      go_wp2_with fail
      refine (HN.out _).mono ?_
      rintro e w2 ⟨rfl, hE⟩
      have HE2 := Lib.hid (Ext.trans HE.out hE)
      clear hE
      go_wp2_with fail
      go_ret2
      exact ⟨HS.out _, HE2.out⟩
    | true =>
      have HOX := Lib.hid (matB_ok hx)
      have hk2 := hk
      simp only [countB, Bool.and_eq_true, decide_eq_true_eq] at hk2
      obtain ⟨m, rfl⟩ : ∃ m : Nat, k = (m : Int) := ⟨k.toNat, by omega⟩
      have HS := Lib.hid (fun (r : Value) (w' : World) (h : NewMat w.heap.size w' r 3 23 xs.length (pwF xs.length (entF xs) m)) => (show PowS w.heap.size xs (m : Int) (two r (.int .i64 0)) w' from .inr ⟨hx, hk, r, rfl, by rw [Int.toNat_natCast]; exact h⟩))
      rw [hx] at HM
      rw [hk] at HN
      have hn := HOX.out.1
      have hm : m ≤ 1048576 := by omega
      clear hx hk HF hk2
      go_enter Tryz.func15, Tryz.ntmps15
      go_wp2_with fail
      refine (HM.out _ (Ext.refl _)).mono ?_
      rintro e w1 ⟨rfl, hE⟩
      have HE := Lib.hid hE
      clear hE
      go_wp2_with fail
      refine (HN.out _).mono ?_
      rintro e w2 ⟨rfl, hE⟩
      have HE2 := Lib.hid (Ext.trans HE.out hE)
      clear hE
      go_wp2_with fail
      refine (spans_c _ xs.length (entF xs) w2 hn.1 hn.2 (rows_mat (HU.out.ext HE2.out) HOX.out.2.1 hn.1)).mono ?_
      rintro e w3 ⟨r1, rfl, hr1, hE⟩
      have HE3 := Lib.hid (Ext.trans HE2.out hE)
      have HR1 := Lib.hid (hr1.mat (by omega))
      clear hE hr1
      go_wp2_with fail
      refine (mpower_c _ xs.length m _ 1000 w3 hn.1 hn.2 (by omega) HR1.out HOX.out.2.2 (by decide) (by unfold KB; omega)).mono ?_
      rintro e w5 ⟨r3, rfl, hr3, hE⟩
      have HE5 := Lib.hid (Ext.trans HE3.out hE)
      have HR3 := Lib.hid (hr3.mat (by omega))
      clear hE hr3
      go_wp2_with fail
      refine (ints_c _ xs.length _ w5 hn.1 hn.2 HR3.out).mono ?_
      rintro e w6 ⟨r4, rfl, hr4, hE⟩
      have HE6 := Lib.hid (Ext.trans HE5.out hE)
      have HR4 := Lib.hid (hr4.mono HE5.out.size)
      clear hE hr4
      go_wp2_with fail
      go_ret2
      exact ⟨HS.out _ _ HR4.out, HE6.out⟩
end Go.Proofs.YtbcngojiikdigaaGreat
