import Derived.Test.YtbcngojiikdigaaGreatL17
namespace Go.Proofs.YtbcngojiikdigaaGreat
set_option maxRecDepth 100000
open Go.RowKit Go.Shelf
/-- the first k vertices that lie on a closed walk with the sum 0 -/
def critL (n : Nat) (B : MF) (k : Nat) : List Nat := (List.range k).filter (fun i => zB (mulF n B (closF n B) i i))
theorem critL_succ (n : Nat) (B : MF) (k : Nat) : critL n B (k + 1) = critL n B k ++ (if zB (mulF n B (closF n B) k k) then [k] else []) := by
  unfold critL
  rw [List.range_succ, List.filter_append]
  congr 1
  simp only [List.filter_cons, List.filter_nil]
theorem critL_len (n : Nat) (B : MF) (k : Nat) : (critL n B k).length ≤ k := by
  unfold critL
  have := List.length_filter_le (fun i => zB (mulF n B (closF n B) i i)) (List.range k)
  simpa using this
def natsV (l : List Nat) : List Value := l.map (fun i : Nat => Value.int .i64 (i : Int))
theorem cell_one_new (W : World) (x : Value) (t : TypeId) (j : Nat) (u : Value) (h : [x][j]? = some u) : (W.alloc (.cells #[x] t)).cell? ((⟨W.heap.size, 0, none⟩ : Addr).add j) = some u := by
  match j, h with
  | 0, h => injection h with h; subst h; exact VRow.cell (vrow_alloc W [x] t) (k := 0) rfl
set_option maxHeartbeats 4000000 in
theorem critical_c (u : Value) (n : Nat) (B : MF) (K : Int) (w : World) (hn1 : 1 ≤ n) (hn : n ≤ 6) (hB : MatAt w u n B) (bB : bdF K n B) (hK : 0 ≤ K) (hK2 : K ≤ 1000000) :
    Calls Tryz.prog 62 #[u] w fun e w' => ∃ v, e = .returned v ∧ w'.ownsRow w.heap.size 3 1 v (critL n B n).length (natsV (critL n B n)) ∧ Ext w w' := by
  have HB := Lib.hid hB
  have HBB := Lib.hid bB
  obtain ⟨ua, uc, rfl⟩ := hB.len
  obtain ⟨i0, hi, hz0, hz1, hz2⟩ := info_parts info3x23
  have HI := Lib.hid hi
  have HZ0 := Lib.hid hz0
  have HZ1 := Lib.hid hz1
  have HZ2 := Lib.hid hz2
  have hbc : bdF (K * 6) n (closF n B) := by
    refine (bdF_pw (bdF_add ((bdF_one n).mono hK) bB) (n - 1)).mono ?_
    exact Int.mul_le_mul_of_nonneg_left (by omega) hK
  have HBC := Lib.hid hbc
  clear hB bB hi hz0 hz1 hz2 hbc
  go_enter Tryz.func62, Tryz.ntmps62
  go_wp2_with fail
  refine (closure_c _ n B K w hn1 hn HB.out HBB.out hK (by unfold KB; omega)).mono ?_
  rintro e w1 ⟨r1, rfl, hr1, hE⟩
  have HE1 := Lib.hid hE
  have HR1 := Lib.hid (hr1.mat (by omega))
  clear hE hr1
  go_wp2_with fail
  refine (mtimes_c _ _ n _ _ w1 hn1 hn (HB.out.ext HE1.out) HR1.out (HBB.out.mono (by unfold KB; omega)) (HBC.out.mono (by unfold KB; omega)) (fun i hi j hj k hk => (bdE_ep (HBB.out i hi k hk) (HBC.out k hk j hj)).mono (by unfold KB; omega))).mono ?_
  rintro e w2 ⟨r2, rfl, hr2, hE⟩
  have HE2 := Lib.hid (Ext.trans HE1.out hE)
  have HR2 := Lib.hid (hr2.mat (by omega))
  clear hE hr2
  go_wp2_with fail
  refine (loops_c _ n _ w2 hn1 hn HR2.out).mono ?_
  rintro e w3 ⟨r3, rfl, ⟨R, hR1, rfl, hR2⟩, hE⟩
  have HE3 := Lib.hid (Ext.trans HE2.out hE)
  have hRl : R < w3.heap.size := by obtain ⟨_, h, _⟩ := hR2; exact VRow.lt h
  have HRR := Lib.hid hR2
  have hw3 := HE3.out.size
  clear hE hR2
  go_wp2_with fail
  go_loopw [3, 12] (fun lv kv wr => ∃ k : Nat, kv = .int .i64 (k : Int) ∧ k ≤ n ∧ wr.ownsRow w3.heap.size 3 1 lv (critL n B k).length (natsV (critL n B k)) ∧ Ext w3 wr) (fun _ kv _ => n - (intOf kv).toNat)
  case atStart => exact ⟨0, rfl, Nat.zero_le _, ⟨by simp [natsV], .inl ⟨rfl, by simp [critL]⟩⟩, Ext.refl _⟩
  case round =>
    rename World => wr
    obtain ⟨k, rfl, hk, hown, hE⟩ := hrel
    obtain ⟨la, lc, rfl⟩ := own_slice hown
    have HO := Lib.hid hown
    have HE := Lib.hid hE
    clear hown hE
    by_cases hlt : k < n
    · have c1 : wr.cell? ⟨R, k, none⟩ = some (.bool (zB (mulF n B (closF n B) k k))) := by
        obtain ⟨vs, h1, h2, h3⟩ := HRR.out
        exact Ext.cell HE.out (VRow.cell h1 (h3 k hlt))
      have hcb := cell_lt c1
      have hlen := critL_len n B k
      have HSU := Lib.hid (critL_succ n B k)
      cases hz : zB (mulF n B (closF n B) k k) with
      | false =>
        rw [hz] at c1 HSU
        have HSU := Lib.hid (show critL n B (k + 1) = critL n B k by have h := HSU.out; simpa using h)
        clear hz
        go_wp2_with fail
        exact ⟨⟨k + 1, by simp, by omega, by rw [HSU.out]; exact HO.out, HE.out⟩, by simp [intOf]; omega⟩
      | true =>
        rw [hz] at c1 HSU
        have HSU := Lib.hid (show critL n B (k + 1) = critL n B k ++ [k] by have h := HSU.out; simpa using h)
        have hsz := HE.out.size
        have hob : ∀ j, Value.ownBlock (.slice la (critL n B k).length lc) = some j → w3.heap.size ≤ j := fun j hj => own_block HO.out hj
        clear hz
        go_wp2_with (at_builtin; (refine wpList_append_own _ rfl _ _ 23 rfl w3.heap.size 3 i0 (.int .i64 0) 1 8 Tryz.underlying23 HI.out HZ0.out HZ1.out HZ2.out rfl (by decide) _ _ _ rfl (ownsRow_ext HO.out (Ext.alloc (Ext.refl wr) (.cells #[.int .i64 (k : Int)] 3))) ⟨wr.heap.size, 0, none⟩ 1 1 [.int .i64 (k : Int)] rfl rfl (fun j u h => cell_one_new wr _ 3 j u h) (by simp [Value.oneCell']) (by unfold maxLen; omega) (by omega) (by simp; omega) ?_; intro v' w' hown' hgrow hnil; have HO10 := Lib.hid hown'; have HG10 := Lib.hid hgrow; clear hown' hgrow hnil))
        have HE10 := Lib.hid (show Ext w3 w' from Below.grown (Ext.alloc HE.out (.cells #[.int .i64 (k : Int)] 3)) HG10.out (by have := HE.out.size; simp; omega) (fun j e => hob j e))
        refine ⟨⟨k + 1, by simp, by omega, ?_, HE10.out⟩, by simp [intOf]; omega⟩
        rw [HSU.out]
        have h := HO10.out
        simpa [natsV] using h
    · obtain rfl : k = n := by omega
      go_wp2_with fail
      go_ret
      refine ⟨_, rfl, ?_, Ext.trans HE3.out HE.out⟩
      obtain ⟨h1, h2⟩ := HO.out
      refine ⟨h1, ?_⟩
      rcases h2 with h2 | ⟨g, cap, cur, h3, h4, h5⟩
      · exact .inl h2
      · exact .inr ⟨g, cap, cur, h3, by omega, h5⟩
end Go.Proofs.YtbcngojiikdigaaGreat
