import Derived.Test.YtbcngojiikdigaaGreatL8
namespace Go.Proofs.YtbcngojiikdigaaGreat
set_option maxRecDepth 100000
open Go.RowKit Go.Shelf
theorem MatAt.len {w : World} {v : Value} {n : Nat} {M : MF} (h : MatAt w v n M) : ∃ a c, v = .slice (some a) n c := by
  obtain ⟨b, o, cap, h1, _⟩ := h
  exact ⟨_, _, h1⟩
theorem pw_bd {K : Int} {n : Nat} {A : MF} (hA : bdF K n A) (hK : 0 ≤ K) {m k0 : Nat} (hm : m ≤ k0) (hk : K * (k0 : Int) ≤ KB) : bdF KB n (pwF n A m) := by
  refine (bdF_pw hA m).mono (Int.le_trans ?_ hk)
  exact Int.mul_le_mul_of_nonneg_left (by omega) hK
theorem pw_bd2 {K : Int} {n : Nat} {A : MF} (hA : bdF K n A) (hK : 0 ≤ K) {r s k0 : Nat} (hm : r + s ≤ k0) (hk : K * (k0 : Int) ≤ KB) : ∀ i, i < n → ∀ j, j < n → ∀ k, k < n → bdE KB (ep (pwF n A r i k) (pwF n A s k j)) := fun i hi j hj k hkk => by
  refine (bdE_ep (bdF_pw hA r i hi k hkk) (bdF_pw hA s k hkk j hj)).mono (Int.le_trans ?_ hk)
  rw [← Int.mul_add]
  exact Int.mul_le_mul_of_nonneg_left (by omega) hK
set_option maxHeartbeats 4000000 in
theorem mpower_c (u : Value) (n k0 : Nat) (A : MF) (K : Int) (w : World) (hn1 : 1 ≤ n) (hn : n ≤ 6) (hk0 : k0 ≤ 1048576000) (hA : MatAt w u n A) (bA : bdF K n A) (hK : 0 ≤ K) (hKk : K * ((2 * k0 : Nat) : Int) ≤ KB) :
    Calls Tryz.prog 46 #[u, .int .i64 (k0 : Int)] w fun e w' => ∃ r, e = .returned r ∧ NewMat w.heap.size w' r 56 62 n (pwF n A k0) ∧ Ext w w' := by
  have HA := Lib.hid hA
  have HBA := Lib.hid bA
  have HKK := Lib.hid hKk
  obtain ⟨ua, uc, rfl⟩ := hA.len
  clear hA bA hKk
  go_enter Tryz.func46, Tryz.ntmps46
  go_wp2_with fail
  refine (identity_c n w hn1 hn).mono ?_
  rintro e w1 ⟨r1, rfl, hr1, hE1⟩
  have HR1 := Lib.hid hr1
  have HE1 := Lib.hid hE1
  clear hr1 hE1
  go_wp2_with fail
  go_loopw [1, 5, 6] (fun kv rv sv wr => ∃ k r s : Nat, kv = .int .i64 (k : Int) ∧ (r + s * k = k0 ∧ 1 ≤ s ∧ k ≤ k0) ∧ NewMat w.heap.size wr rv 56 62 n (pwF n A r) ∧ MatAt wr sv n (pwF n A s) ∧ Ext w wr) (fun kv _ _ _ => (intOf kv).toNat)
  case atStart => exact ⟨k0, 0, 1, rfl, ⟨by omega, by omega, by omega⟩, HR1.out, (HA.out.ext HE1.out).congr (one_mulF n A).symm, HE1.out⟩
  case round =>
    rename World => wr
    obtain ⟨k, r, s, rfl, ⟨hrs, hs1, hkk⟩, hr, hs, hE⟩ := hrel
    have HR := Lib.hid hr
    have HS := Lib.hid hs
    have HE := Lib.hid hE
    have HRS := Lib.hid hrs
    clear hr hs hE hrs HR1 HE1
    by_cases hk : k = 0
    · subst hk
      go_wp2_with fail
      go_ret
      have h := HRS.out
      simp only [Nat.mul_zero, Nat.add_zero] at h
      have h2 := HR.out
      rw [h] at h2
      exact ⟨_, rfl, h2, HE.out⟩
    · have hkp : (0 : Int) < (k : Int) := by omega
      have hkN : 0 < k := by omega
      have hsr : r + s ≤ k0 := by
        have h := HRS.out
        have := Nat.le_mul_of_pos_right s hkN
        omega
      obtain ⟨q, hq⟩ : ∃ q, q = k / 2 := ⟨_, rfl⟩
      have hqz : (k : Int) / 2 = (q : Int) := by omega
      have hqk : q < k := by omega
      have hqk0 : q ≤ k0 := by omega
      have HBR := Lib.hid (pw_bd HBA.out hK (m := r) (k0 := 2 * k0) (by omega) HKK.out)
      have HBS := Lib.hid (pw_bd HBA.out hK (m := s) (k0 := 2 * k0) (by omega) HKK.out)
      have HBRS := Lib.hid (pw_bd2 HBA.out hK (r := r) (s := s) (k0 := 2 * k0) (by omega) HKK.out)
      have HBSS := Lib.hid (pw_bd2 HBA.out hK (r := s) (s := s) (k0 := 2 * k0) (by omega) HKK.out)
      have HRM := Lib.hid (HR.out.mat (by omega))
      obtain ⟨sa, sc, rfl⟩ := HS.out.len
      by_cases hod : k % 2 = 1
      · have hoz : (k : Int) % 2 = 1 := by omega
        have HQ := Lib.hid (show r + s + (s + s) * q = k0 from by
          have h := HRS.out
          have e : k = 2 * q + 1 := by omega
          rw [e] at h
          rw [← h]
          grind)
        clear hq hod
        go_wp2_with fail
        refine (mtimes_c _ _ n _ _ wr hn1 hn HRM.out HS.out HBR.out HBS.out HBRS.out).mono ?_
        rintro e w2 ⟨r2, rfl, hr2, hE2⟩
        have HR2 := Lib.hid ((hr2.mono HE.out.size).congr (pwF_add n A r s).symm)
        have HE2 := Lib.hid (Ext.trans HE.out hE2)
        have HS2 := Lib.hid (HS.out.ext hE2)
        clear hr2 hE2
        go_wp2_with fail
        refine (mtimes_c _ _ n _ _ w2 hn1 hn HS2.out HS2.out HBS.out HBS.out HBSS.out).mono ?_
        rintro e w3 ⟨s2, rfl, hs2, hE3⟩
        have HS3 := Lib.hid ((hs2.mat (by omega)).congr (pwF_add n A s s).symm)
        have HE3 := Lib.hid (Ext.trans HE2.out hE3)
        have HR3 := Lib.hid (HR2.out.ext hE3)
        clear hs2 hE3
        go_wp2_with fail
        exact ⟨⟨q, r + s, s + s, rfl, ⟨HQ.out, by omega, hqk0⟩, HR3.out, HS3.out, HE3.out⟩, by simp [intOf]; omega⟩
      · have hoz : (k : Int) % 2 = 0 := by omega
        have HQ := Lib.hid (show r + (s + s) * q = k0 from by
          have h := HRS.out
          have e : k = 2 * q := by omega
          rw [e] at h
          rw [← h]
          grind)
        clear hq hod
        go_wp2_with fail
        refine (mtimes_c _ _ n _ _ wr hn1 hn HS.out HS.out HBS.out HBS.out HBSS.out).mono ?_
        rintro e w3 ⟨s2, rfl, hs2, hE3⟩
        have HS3 := Lib.hid ((hs2.mat (by omega)).congr (pwF_add n A s s).symm)
        have HE3 := Lib.hid (Ext.trans HE.out hE3)
        have HR3 := Lib.hid (HR.out.ext hE3)
        clear hs2 hE3
        go_wp2_with fail
        exact ⟨⟨q, r, s + s, rfl, ⟨HQ.out, by omega, hqk0⟩, HR3.out, HS3.out, HE3.out⟩, by simp [intOf]; omega⟩
/-- what a closure is: the power of the identity and the matrix -/
def closF (n : Nat) (A : MF) : MF := pwF n (addF oneF A) (n - 1)
theorem bdF_add {K : Int} {n : Nat} {A B : MF} (hA : bdF K n A) (hB : bdF K n B) : bdF K n (addF A B) := fun i hi j hj => bdE_em (hA i hi j hj) (hB i hi j hj)
set_option maxHeartbeats 1000000 in
theorem closure_c (u : Value) (n : Nat) (A : MF) (K : Int) (w : World) (hn1 : 1 ≤ n) (hn : n ≤ 6) (hA : MatAt w u n A) (bA : bdF K n A) (hK : 0 ≤ K) (hKk : K * 12 ≤ KB) :
    Calls Tryz.prog 64 #[u] w fun e w' => ∃ r, e = .returned r ∧ NewMat w.heap.size w' r 56 62 n (closF n A) ∧ Ext w w' := by
  have HA := Lib.hid hA
  have HBA := Lib.hid bA
  obtain ⟨ua, uc, rfl⟩ := hA.len
  have hKB : K ≤ KB := by unfold KB at *; omega
  have hn6 : (n : Int) - 1 = ((n - 1 : Nat) : Int) := by omega
  have HN := Lib.hid hn6
  clear hA bA hn6
  go_enter Tryz.func64, Tryz.ntmps64
  go_wp2_with fail
  refine (identity_c n w hn1 hn).mono ?_
  rintro e w1 ⟨r1, rfl, hr1, hE1⟩
  have HR1 := Lib.hid hr1
  have HE1 := Lib.hid hE1
  clear hr1 hE1
  go_wp2_with fail
  refine (mplus_c _ _ n _ _ w1 hn1 hn (HR1.out.mat (by omega)) (HA.out.ext HE1.out) ((bdF_one n).mono (by unfold KB; omega)) (HBA.out.mono hKB)).mono ?_
  rintro e w2 ⟨r2, rfl, hr2, hE2⟩
  have HR2 := Lib.hid hr2
  have HE2 := Lib.hid (Ext.trans HE1.out hE2)
  clear hr2 hE2
  go_wp2_with fail
  rw [HN.out]
  refine (mpower_c _ n (n - 1) _ K w2 hn1 hn (by omega) (HR2.out.mat (by omega)) (bdF_add ((bdF_one n).mono hK) HBA.out) hK (Int.le_trans (Int.mul_le_mul_of_nonneg_left (by omega) hK) hKk)).mono ?_
  rintro e w3 ⟨r3, rfl, hr3, hE3⟩
  have HR3 := Lib.hid (hr3.mono HE2.out.size)
  have HE3 := Lib.hid (Ext.trans HE2.out hE3)
  clear hr3 hE3
  go_wp2_with fail
  go_ret
  exact ⟨_, rfl, HR3.out, HE3.out⟩
end Go.Proofs.YtbcngojiikdigaaGreat
