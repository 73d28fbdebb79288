import Derived.Test.YtbcngojiikdigaaGreatW5
import Derived.Test.YtbcngojiikdigaaGreatL22
namespace Go.Proofs.YtbcngojiikdigaaGreat
set_option maxRecDepth 100000
open Go.RowKit Go.Shelf
/-- are two vectors the same? -/
def eqVB (n : Nat) (x y : Nat → E) : Bool := (List.range n).all fun i => decide (x i = y i)
theorem eqVB_true {n : Nat} {x y : Nat → E} (h : ∀ i, i < n → x i = y i) : eqVB n x y = true := by
  unfold eqVB
  rw [List.all_eq_true]
  intro i hi
  rw [List.mem_range] at hi
  simpa using h i hi
theorem eqVB_of {n : Nat} {x y : Nat → E} (h : eqVB n x y = true) : ∀ i, i < n → x i = y i := by
  unfold eqVB at h
  rw [List.all_eq_true] at h
  intro i hi
  have := h i (List.mem_range.2 hi)
  simpa using this
theorem eqVB_false {n k : Nat} {x y : Nat → E} (hk : k < n) (h : x k ≠ y k) : eqVB n x y = false := by
  rw [Bool.eq_false_iff]
  exact fun e => h (eqVB_of e k hk)
def eqMB (n : Nat) (A B : MF) : Bool := (List.range n).all fun i => eqVB n (A i) (B i)
theorem eqMB_true {n : Nat} {A B : MF} (h : ∀ i, i < n → eqVB n (A i) (B i) = true) : eqMB n A B = true := by
  unfold eqMB
  rw [List.all_eq_true]
  intro i hi
  exact h i (List.mem_range.1 hi)
theorem eqMB_false {n k : Nat} {A B : MF} (hk : k < n) (h : eqVB n (A k) (B k) = false) : eqMB n A B = false := by
  rw [Bool.eq_false_iff]
  intro e
  unfold eqMB at e
  rw [List.all_eq_true] at e
  rw [e k (List.mem_range.2 hk)] at h
  cases h
theorem eqMB_iff {n : Nat} {A B : MF} : eqMB n A B = true ↔ eqF n A B := by
  constructor
  · intro e i hi
    unfold eqMB at e
    rw [List.all_eq_true] at e
    exact eqVB_of (e i (List.mem_range.2 hi))
  · intro e
    exact eqMB_true fun i hi => eqVB_true (e i hi)
theorem val_ne {x y : E} (hx : bdE KB x) (hy : bdE KB y) (h : x ≠ y) : (val x != val y) = true := by
  rw [bne_iff_ne]
  exact fun e => h (val_inj (by unfold KB; decide) hx hy e)
set_option maxHeartbeats 1000000 in
theorem equal_c (u v : Value) (n : Nat) (x y : Nat → E) (w : World) (hn : n ≤ 1000) (hu : VecAt w u n x) (hv : VecAt w v n y) (bx : ∀ i, i < n → bdE KB (x i)) (by' : ∀ i, i < n → bdE KB (y i)) :
    Calls Tryz.prog 128 #[u, v] w fun e w' => e = .returned (.bool (eqVB n x y)) ∧ Ext w w' := by
  obtain ⟨rb, ro, rc, rfl, hr1, hr2, hr3⟩ := hu
  obtain ⟨sb, so, sc, rfl, hs1, hs2, hs3⟩ := hv
  have HX := Lib.hid hr3
  have HY := Lib.hid hs3
  have HBX := Lib.hid bx
  have HBY := Lib.hid by'
  clear hr3 hs3 bx by'
  have hnn : ((n : Int) != (n : Int)) = false := by simp
  go_enter Tryz.func128, Tryz.ntmps128
  go_wp2_with fail
  go_loopw [13] (fun i wr => ∃ k : Nat, i = .int .i64 (k : Int) ∧ k ≤ n ∧ (∀ j, j < k → x j = y j) ∧ Ext w wr) (fun i _ => n - (intOf i).toNat)
  case atStart => exact ⟨0, rfl, Nat.zero_le _, fun j h => by omega, Ext.refl _⟩
  case round =>
    rename World => wr
    obtain ⟨k, rfl, hk, hall, hE⟩ := hrel
    have HE := Lib.hid hE
    have HA := Lib.hid hall
    clear hE hall
    by_cases hlt : k < n
    · have c1 := Ext.cell HE.out (HX.out k hlt)
      have c2 := Ext.cell HE.out (HY.out k hlt)
      have hcb := cell_lt c1
      have hcb2 := cell_lt c2
      by_cases he : x k = y k
      · have hb : (val (x k) != val (y k)) = false := by rw [he]; simp
        have HN := Lib.hid (show ∀ j, j < k + 1 → x j = y j from fun j hj => by
          by_cases e : j = k
          · subst e; exact he
          · exact HA.out j (by omega))
        clear he
        generalize x k = xk at *
        generalize y k = yk at *
        go_wp2_with fail
        go_quiet (fail)
        go_wp2_with fail
        exact ⟨⟨k + 1, by simp, by omega, HN.out, ext_drewN HE.out _⟩, by simp [intOf]; omega⟩
      · have hb := val_ne (HBX.out k hlt) (HBY.out k hlt) he
        have HF := Lib.hid (eqVB_false hlt he)
        clear he
        generalize x k = xk at *
        generalize y k = yk at *
        go_wp2_with fail
        go_quiet (fail)
        go_wp2_with fail
        go_ret
        exact ⟨ret_bool HF.out.symm, ext_drewN HE.out _⟩
    · obtain rfl : k = n := by omega
      have HF := Lib.hid (eqVB_true HA.out)
      go_wp2_with fail
      go_ret
      exact ⟨ret_bool HF.out.symm, HE.out⟩
set_option maxHeartbeats 1000000 in
theorem equals2_c (u v : Value) (n : Nat) (A B : MF) (w : World) (hn : n ≤ 1000) (hu : MatAt w u n A) (hv : MatAt w v n B) (bA : bdF KB n A) (bB : bdF KB n B) :
    Calls Tryz.prog 127 #[u, v, .func (.func 128) #[] #[]] w fun e w' => e = .returned (.bool (eqMB n A B)) ∧ Ext w w' := by
  obtain ⟨rb, ro, rc, rfl, hr1, hr2, hr3⟩ := hu
  obtain ⟨sb, so, sc, rfl, hs1, hs2, hs3⟩ := hv
  have HX := Lib.hid hr3
  have HY := Lib.hid hs3
  have HBX := Lib.hid bA
  have HBY := Lib.hid bB
  clear hr3 hs3 bA bB
  have hnn : ((n : Int) != (n : Int)) = false := by simp
  go_enter Tryz.func127, Tryz.ntmps127
  go_wp2_with fail
  go_loopw [17] (fun i wr => ∃ k : Nat, i = .int .i64 (k : Int) ∧ k ≤ n ∧ (∀ j, j < k → eqVB n (A j) (B j) = true) ∧ Ext w wr) (fun i _ => n - (intOf i).toNat)
  case atStart => exact ⟨0, rfl, Nat.zero_le _, fun j h => by omega, Ext.refl _⟩
  case round =>
    rename World => wr
    obtain ⟨k, rfl, hk, hall, hE⟩ := hrel
    have HE := Lib.hid hE
    have HA := Lib.hid hall
    clear hE hall
    by_cases hlt : k < n
    · obtain ⟨u1, c1, hu1⟩ := HX.out k hlt
      obtain ⟨u2, c2, hu2⟩ := HY.out k hlt
      replace c1 := Ext.cell HE.out c1
      replace c2 := Ext.cell HE.out c2
      have hcb := cell_lt c1
      have hcb2 := cell_lt c2
      have HC := Lib.hid (equal_c u1 u2 n (A k) (B k) wr hn (hu1.ext HE.out) (hu2.ext HE.out) (fun i hi => HBX.out k hlt i hi) (fun i hi => HBY.out k hlt i hi))
      obtain ⟨a1, o1, d1, rfl, _⟩ := hu1
      obtain ⟨a2, o2, d2, rfl, _⟩ := hu2
      cases hz : eqVB n (A k) (B k) with
      | true =>
        rw [hz] at HC
        have HN := Lib.hid (show ∀ j, j < k + 1 → eqVB n (A j) (B j) = true from fun j hj => by
          by_cases e : j = k
          · subst e; exact hz
          · exact HA.out j (by omega))
        clear hz
        go_wp2_with fail
        refine HC.out.mono ?_
        rintro e w2 ⟨rfl, hE2⟩
        have HE2 := Lib.hid (Ext.trans HE.out hE2)
        clear hE2 c1 c2
        go_wp2_with fail
        exact ⟨⟨k + 1, by simp, by omega, HN.out, HE2.out⟩, by simp [intOf]; omega⟩
      | false =>
        rw [hz] at HC
        have HF := Lib.hid (eqMB_false hlt hz)
        clear hz
        go_wp2_with fail
        refine HC.out.mono ?_
        rintro e w2 ⟨rfl, hE2⟩
        have HE2 := Lib.hid (Ext.trans HE.out hE2)
        clear hE2 c1 c2
        go_wp2_with fail
        go_ret
        exact ⟨ret_bool HF.out.symm, HE2.out⟩
    · obtain rfl : k = n := by omega
      have HF := Lib.hid (eqMB_true HA.out)
      go_wp2_with fail
      go_ret
      exact ⟨ret_bool HF.out.symm, HE.out⟩
set_option maxHeartbeats 1000000 in
theorem equals_c (u v : Value) (n : Nat) (A B : MF) (w : World) (hn : n ≤ 1000) (hu : MatAt w u n A) (hv : MatAt w v n B) (bA : bdF KB n A) (bB : bdF KB n B) :
    Calls Tryz.prog 107 #[u, v] w fun e w' => e = .returned (.bool (eqMB n A B)) ∧ Ext w w' := by
  have HC := Lib.hid (equals2_c u v n A B w hn hu hv bA bB)
  obtain ⟨a1, c1, rfl⟩ := hu.len
  obtain ⟨a2, c2, rfl⟩ := hv.len
  clear hu hv bA bB
  generalize eqMB n A B = z at *
  go_enter Tryz.func107, Tryz.ntmps107
  go_wp2_with fail
  refine HC.out.mono ?_
  rintro e w2 ⟨rfl, hE2⟩
  have HE2 := Lib.hid hE2
  clear hE2
  go_wp2_with fail
  go_ret
  exact ⟨rfl, HE2.out⟩
end Go.Proofs.YtbcngojiikdigaaGreat
