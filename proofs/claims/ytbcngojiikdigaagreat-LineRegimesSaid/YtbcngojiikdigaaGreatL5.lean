import Derived.Test.YtbcngojiikdigaaGreatL4
namespace Go.Proofs.YtbcngojiikdigaaGreat
set_option maxRecDepth 100000
open Go.RowKit Go.Shelf
set_option maxHeartbeats 1000000 in
theorem trace_c (u : Value) (n : Nat) (A : MF) (w : World) (hn : n ≤ 6) (hA : MatAt w u n A) (bA : bdF KB n A) :
    Calls Tryz.prog 88 #[u] w fun e w' => e = .returned (iv (es (fun i => A i i) n)) ∧ Ext w w' := by
  have HA := Lib.hid hA
  have HBA := Lib.hid bA
  obtain ⟨ub, uo, uc, rfl, hu1, hu2, _⟩ := hA
  clear bA
  have hE := Ext.alloc (Ext.refl w) (.cells #[.slice (some ⟨ub, uo, none⟩) n uc] 53)
  have HP := Lib.hid (show VRow (w.alloc (.cells #[.slice (some ⟨ub, uo, none⟩) n uc] 53)) _ _ _ from vrow_alloc w [.slice (some ⟨ub, uo, none⟩) n uc] 53)
  have HE := Lib.hid hE
  clear hE
  go_enter Tryz.func88, Tryz.ntmps88
  go_wp2_with fail
  generalize w.alloc (.cells #[.slice (some ⟨ub, uo, none⟩) n uc] 53) = w1 at *
  refine (sumD_c _ n (fun i => A i i) w1 hn (fun i hi => HBA.out i hi i hi) fun k hk W hW => trace1_c w.heap.size n k _ A W hk (HA.out.ext (Ext.trans HE.out hW)) (VRow.cell (VRow.ext HP.out hW) (k := 0) rfl)).mono ?_
  rintro e w2 ⟨rfl, hE⟩
  have HE2 := Lib.hid (Ext.trans HE.out hE)
  clear hE
  go_wp2_with fail
  go_ret
  exact ⟨rfl, HE2.out⟩
/-- a list of numbers in memory of its own -/
def NewVec (base : Nat) (w : World) (v : Value) (t n : Nat) (x : Nat → E) : Prop := ∃ R, base ≤ R ∧ v = .slice (some ⟨R, 0, none⟩) n n ∧ ERow w R t n x
theorem NewVec.vec {base : Nat} {w : World} {v : Value} {t n : Nat} {x : Nat → E} (h : NewVec base w v t n x) (hn : n ≤ 9223372036854775807) : VecAt w v n x := by
  obtain ⟨R, _, rfl, h2⟩ := h
  exact h2.vec hn
set_option maxHeartbeats 4000000 in
theorem mof_c (u v : Value) (n : Nat) (A : MF) (x : Nat → E) (w : World) (hn1 : 1 ≤ n) (hn : n ≤ 6) (hA : MatAt w u n A) (hx : VecAt w v n x) (bA : bdF KB n A) (bx : ∀ i, i < n → bdE KB (x i)) (bM : ∀ i, i < n → ∀ j, j < n → bdE KB (ep (A i j) (x j))) :
    Calls Tryz.prog 50 #[u, v] w fun e w' => ∃ r, e = .returned r ∧ NewVec w.heap.size w' r 56 n (vecF n A x) ∧ Ext w w' := by
  have HX := Lib.hid hx
  have HBA := Lib.hid bA
  have HBX := Lib.hid bx
  have HBM := Lib.hid bM
  obtain ⟨ub, uo, uc, rfl, hu1, hu2, hu3⟩ := hA
  have HA := Lib.hid hu3
  obtain ⟨vb, vo, vc, rfl, hv1, hv2, _⟩ := hx
  clear bA bx bM hu3
  have hmk := run_make_row n (by omega)
  have s1 : (w.alloc (.cells #[.slice (some ⟨vb, vo, none⟩) n vc] 62)).heap.size = w.heap.size + 1 := by simp
  have p1 := vrow_rep (w.alloc (.cells #[.slice (some ⟨vb, vo, none⟩) n vc] 62)) (.int .i64 0) n 56
  rw [s1] at p1
  have HP0 := Lib.hid (show VRow ((w.alloc (.cells #[.slice (some ⟨vb, vo, none⟩) n vc] 62)).alloc (.cells (Array.replicate n (.int .i64 0)) 56)) _ _ _ from (vrow_alloc w [.slice (some ⟨vb, vo, none⟩) n vc] 62).alloc (.cells (Array.replicate n (.int .i64 0)) 56))
  have HP1 := Lib.hid (show VRow ((w.alloc (.cells #[.slice (some ⟨vb, vo, none⟩) n vc] 62)).alloc (.cells (Array.replicate n (.int .i64 0)) 56)) _ _ _ from p1)
  have HE := Lib.hid (Ext.alloc (Ext.alloc (Ext.refl w) (.cells #[.slice (some ⟨vb, vo, none⟩) n vc] 62)) (.cells (Array.replicate n (.int .i64 0)) 56))
  clear p1
  go_enter Tryz.func50, Tryz.ntmps50
  go_wp2_with fail
  clear hmk s1
  generalize (w.alloc (.cells #[.slice (some ⟨vb, vo, none⟩) n vc] 62)).alloc (.cells (Array.replicate n (.int .i64 0)) 56) = w1 at *
  obtain ⟨R, hR⟩ : ∃ C, C = w.heap.size + 1 := ⟨_, rfl⟩
  obtain ⟨Pb, hPb⟩ : ∃ P, P = w.heap.size := ⟨_, rfl⟩
  rw [← hR, ← hPb]
  rw [← hPb] at HP0
  rw [← hR] at HP1
  have hCP : Pb < R := by omega
  have hwP : w.heap.size ≤ Pb := by omega
  clear hR hPb
  go_loopw [13] (fun i wr => ∃ (k : Nat) (us : List Value), i = .int .i64 k ∧ k ≤ n ∧ VRow wr Pb 62 [.slice (some ⟨vb, vo, none⟩) n vc] ∧ VRow wr R 56 us ∧ RowTo (vecF n A x) n k us ∧ Ext w wr) (fun i _ => n - (intOf i).toNat)
  case atStart => exact ⟨0, _, rfl, Nat.zero_le _, HP0.out, HP1.out, ⟨by simp, fun i h => by omega⟩, HE.out⟩
  case round =>
    rename World => wr
    obtain ⟨k, us, rfl, hk, hP0, hus, hst, hE⟩ := hrel
    have HP0 := Lib.hid hP0
    have HUS := Lib.hid hus
    have HST := Lib.hid hst
    have HE := Lib.hid hE
    clear hP0 hus hst hE
    by_cases hlt : k < n
    · obtain ⟨u, c1, ⟨rb, ro, rc, rfl, hr1, hr2, hr3⟩⟩ := HA.out k hlt
      have HR3 := Lib.hid hr3
      replace c1 := Ext.cell HE.out c1
      have hcb := cell_lt c1
      obtain ⟨z, hz⟩ : ∃ z, z = vecF n A x k := ⟨_, rfl⟩
      have HPUT := Lib.hid (show RowTo (vecF n A x) n (k + 1) (us.set k (iv z)) from by rw [hz]; exact rowTo_put HST.out hlt)
      have HZ := Lib.hid hz
      have hRl := VRow.lt HUS.out
      have HQ := Lib.hid (show VRow (wr.alloc (.cells #[.slice (some ⟨rb, ro, none⟩) n rc] 62)) _ _ _ from vrow_alloc wr [.slice (some ⟨rb, ro, none⟩) n rc] 62)
      have HQE := Lib.hid (Ext.alloc (Ext.refl wr) (.cells #[.slice (some ⟨rb, ro, none⟩) n rc] 62))
      clear hr3 hz
      go_wp2_with fail
      generalize wr.alloc (.cells #[.slice (some ⟨rb, ro, none⟩) n rc] 62) = wq at *
      have HQW := Lib.hid (Ext.trans HE.out HQE.out)
      clear c1
      refine (sumO_c _ _ n (fun j => ep (A k j) (x j)) wq hn (fun j hj => HBM.out k hlt j hj) fun j hj W hW => of1_c wr.heap.size Pb n j _ _ (A k) x W hj ⟨rb, ro, rc, rfl, hr1, hr2, fun i hi => Ext.cell (Ext.trans HQW.out hW) (HR3.out i hi)⟩ (HX.out.ext (Ext.trans HQW.out hW)) (VRow.cell (VRow.ext HQ.out hW) (k := 0) rfl) (VRow.cell (VRow.ext HP0.out (Ext.trans HQE.out hW)) (k := 0) rfl) (HBA.out k hlt j hj) (HBX.out j hj)).mono ?_
      rintro e w5 ⟨rfl, hE5⟩
      rw [show es (fun j => ep (A k j) (x j)) n = z from HZ.out.symm]
      have hU := VRow.ext HUS.out (Ext.trans HQE.out hE5)
      have HU := Lib.hid hU
      obtain ⟨u0, hu0⟩ := getElem?_len (show k < us.length by rw [HST.out.1]; exact hlt)
      have m0 := VRow.cell hU hu0
      have f0 := VRow.frozen hU k none
      have HE5 := Lib.hid (Ext.trans HQW.out hE5)
      have HP5 := Lib.hid (VRow.ext HP0.out (Ext.trans HQE.out hE5))
      clear hu0 hU hE5
      go_wp2_with fail
      refine ⟨⟨k + 1, _, by simp, by omega, VRow.setOther HP5.out (a := ⟨R, k, none⟩) (by show Pb ≠ R; omega) _, VRow.set HU.out k (iv z), HPUT.out, Below.setCell (p := ⟨R, k, none⟩) HE5.out (by show w.heap.size ≤ R; omega) _⟩, by simp [intOf]; omega⟩
    · obtain rfl : k = n := by omega
      go_wp2_with fail
      go_ret
      exact ⟨_, rfl, ⟨R, by omega, rfl, us, HUS.out, HST.out⟩, HE.out⟩
end Go.Proofs.YtbcngojiikdigaaGreat
