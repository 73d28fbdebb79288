import Derived.Test.YtbcngojiikdigaaGreatL20
namespace Go.Proofs.YtbcngojiikdigaaGreat
set_option maxRecDepth 100000
open Go.RowKit Go.Shelf
theorem speed_results {g : Nat} {W : World} {a b c : Int} (h : VRow W g 38 [.int .i64 a, .int .i64 b]) (tmps : Array Value) (h4 : tmps.getD 2 undef = .pointer (some ⟨g, 0, none⟩)) (h5 : tmps.getD 3 undef = .int .i64 c) : (results Tryz.f20 tmps).run Tryz.prog W = .ok (.tuple #[.agg #[.int .i64 a, .int .i64 b], .int .i64 c]) W := by
  have c0 := VRow.cell h (k := 0) rfl
  have c1 := VRow.cell h (k := 1) rfl
  rw [results_cell_tmp rfl, h4, h5]
  go_simp
/-- what Speed gives: num, den, the error -/
def speedZ (xs : List (List Int)) : Int × Int × Int :=
  if matB xs then match spF xs.length (entF xs) with
    | none => (0, 0, 10)
    | some (p, q) => (p, q, 0)
  else (0, 0, 2)
set_option maxHeartbeats 4000000 in
theorem Speed_c (u : Value) (xs : List (List Int)) (w : World) (hu : Rows2 w u xs) (hlx : ∀ r ∈ xs, r.length ≤ 1000000) :
    Calls Tryz.prog 20 #[u] w fun e w' => e = two (.agg #[.int .i64 (speedZ xs).1, .int .i64 (speedZ xs).2.1]) (.int .i64 (speedZ xs).2.2) ∧ Ext w w' := by
  have HU := Lib.hid hu
  have HM := Lib.hid (fun W (h : Ext w W) => isMatrix_c u xs W (hu.ext h) hlx)
  obtain ⟨a1, c1, rfl, hl1, hm1, _⟩ := hu.at
  clear hu hlx
  have HE0 := Lib.hid (Ext.alloc (Ext.refl w) (.cells #[.int .i64 0, .int .i64 0] 38))
  have HP0 := Lib.hid (show VRow (w.alloc (.cells #[.int .i64 0, .int .i64 0] 38)) _ _ _ from vrow_alloc w [.int .i64 0, .int .i64 0] 38)
  have HZ := Lib.hid (show speedZ xs = speedZ xs from rfl)
  obtain ⟨⟨z1, z2, z3⟩, hz⟩ : ∃ z, z = speedZ xs := ⟨_, rfl⟩
  rw [← hz]
  simp only
  unfold speedZ at hz
  have hwD : w.heap.size ≤ w.heap.size := Nat.le_refl _
  cases hx : matB xs with
  | false =>
    rw [hx] at HM hz
    simp only [Bool.false_eq_true, if_false, Prod.mk.injEq] at hz
    obtain ⟨rfl, rfl, rfl⟩ := hz
    clear hx HZ
    go_enter Tryz.func20, Tryz.ntmps20
    go_wp2_with fail
    generalize w.alloc (.cells #[.int .i64 0, .int .i64 0] 38) = w0 at *
    refine (HM.out _ HE0.out).mono ?_
    rintro e w1 ⟨rfl, hE⟩
    have HE := Lib.hid (Ext.trans HE0.out hE)
    have HP := Lib.hid (VRow.ext HP0.out hE)
    have m0 := VRow.cell HP.out (k := 0) rfl
    have m1 := VRow.cell HP.out (k := 1) rfl
    have f0 := VRow.frozen HP.out 0 none
    have f1 := VRow.frozen HP.out 1 none
    clear hE
    go_wp2_with fail
    (try simp only [Exit.inBlock, Exit.then])
    refine bodyPost_ret (speed_results (VRow.set (VRow.set HP.out 0 (.int .i64 0)) 1 (.int .i64 0)) _ rfl rfl) rfl ?_
    exact ⟨rfl, Below.setCell (p := ⟨w.heap.size, 1, none⟩) (Below.setCell (p := ⟨w.heap.size, 0, none⟩) HE.out hwD _) hwD _⟩
  | true =>
    have HOX := Lib.hid (matB_ok hx)
    have hn := HOX.out.1
    rw [hx] at HM hz
    simp only [if_true] at hz
    clear hx HZ
    go_enter Tryz.func20, Tryz.ntmps20
    go_wp2_with fail
    generalize w.alloc (.cells #[.int .i64 0, .int .i64 0] 38) = w0 at *
    refine (HM.out _ HE0.out).mono ?_
    rintro e w1 ⟨rfl, hE⟩
    have HE := Lib.hid (Ext.trans HE0.out hE)
    have HP := Lib.hid (VRow.ext HP0.out hE)
    clear hE
    go_wp2_with fail
    refine (spans_c _ xs.length (entF xs) w1 hn.1 hn.2 (rows_mat (HU.out.ext HE.out) HOX.out.2.1 hn.1)).mono ?_
    rintro e w3 ⟨r1, rfl, hr1, hE⟩
    have HE3 := Lib.hid (Ext.trans HE.out hE)
    have HP3 := Lib.hid (VRow.ext HP.out hE)
    have HR1 := Lib.hid (hr1.mat (by omega))
    clear hE hr1
    go_wp2_with fail
    refine (speed_c _ xs.length _ w3 hn.1 hn.2 HR1.out HOX.out.2.2).mono ?_
    rintro e w5 ⟨rfl, hE⟩
    have HE5 := Lib.hid (Ext.trans HE3.out hE)
    have HP5 := Lib.hid (VRow.ext HP3.out hE)
    clear hE
    cases hs : spF xs.length (entF xs) with
    | none =>
      rw [hs] at hz
      simp only [Prod.mk.injEq] at hz
      obtain ⟨rfl, rfl, rfl⟩ := hz
      clear hs
      simp only [speedV]
      have HP6 := Lib.hid (VRow.alloc HP5.out (.cells #[.int .i64 0, .int .i64 0] 38))
      have HE6 := Lib.hid (Ext.alloc HE5.out (.cells #[.int .i64 0, .int .i64 0] 38))
      have m0 := VRow.cell HP6.out (k := 0) rfl
      have m1 := VRow.cell HP6.out (k := 1) rfl
      have f0 := VRow.frozen HP6.out 0 none
      have f1 := VRow.frozen HP6.out 1 none
      go_wp2_with fail
      (try simp only [Exit.inBlock, Exit.then])
      refine bodyPost_ret (speed_results (VRow.set (VRow.set HP6.out 0 (.int .i64 0)) 1 (.int .i64 0)) _ rfl rfl) rfl ?_
      exact ⟨rfl, Below.setCell (p := ⟨w.heap.size, 1, none⟩) (Below.setCell (p := ⟨w.heap.size, 0, none⟩) HE6.out hwD _) hwD _⟩
    | some pq =>
      obtain ⟨p, q⟩ := pq
      rw [hs] at hz
      simp only [Prod.mk.injEq] at hz
      obtain ⟨rfl, rfl, rfl⟩ := hz
      clear hs
      simp only [speedV]
      have HP6 := Lib.hid (VRow.alloc HP5.out (.cells #[.int .i64 z1, .int .i64 z2] 38))
      have HE6 := Lib.hid (Ext.alloc HE5.out (.cells #[.int .i64 z1, .int .i64 z2] 38))
      have HQ6 := Lib.hid (show VRow (w5.alloc (.cells #[.int .i64 z1, .int .i64 z2] 38)) _ _ _ from vrow_alloc w5 [.int .i64 z1, .int .i64 z2] 38)
      have c0 := VRow.cell HQ6.out (k := 0) rfl
      have c1 := VRow.cell HQ6.out (k := 1) rfl
      have m0 := VRow.cell HP6.out (k := 0) rfl
      have m1 := VRow.cell HP6.out (k := 1) rfl
      have f0 := VRow.frozen HP6.out 0 none
      have f1 := VRow.frozen HP6.out 1 none
      go_wp2_with fail
      (try simp only [Exit.inBlock, Exit.then])
      refine bodyPost_ret (speed_results (VRow.set (VRow.set HP6.out 0 (.int .i64 z1)) 1 (.int .i64 z2)) _ rfl rfl) rfl ?_
      exact ⟨rfl, Below.setCell (p := ⟨w.heap.size, 1, none⟩) (Below.setCell (p := ⟨w.heap.size, 0, none⟩) HE6.out hwD _) hwD _⟩
end Go.Proofs.YtbcngojiikdigaaGreat
