import Derived.Test.YtbcngojiikdigaaGreatL5
import Derived.Laws.CopyOwn
namespace Go.Proofs.YtbcngojiikdigaaGreat
set_option maxRecDepth 100000
open Go.RowKit Go.Shelf
theorem mul64_c (n : Nat) (w : World) (hn : n ≤ 6) : Calls Tryz.prog 137 #[.int .u64 1, .int .u64 (n : Int)] w fun e w' => e = .returned (.tuple #[.int .u64 0, .int .u64 (n : Int)]) ∧ w = w' := by
  have h : n = 0 ∨ n = 1 ∨ n = 2 ∨ n = 3 ∨ n = 4 ∨ n = 5 ∨ n = 6 := by omega
  rcases h with rfl | rfl | rfl | rfl | rfl | rfl | rfl
  all_goals simp only [Int.cast_ofNat_Int]
  all_goals go_enter Tryz.func137, Tryz.ntmps137
  all_goals go_wp2_with fail
  all_goals go_ret2
  all_goals exact ⟨rfl, rfl⟩
theorem mul_c (n : Nat) (w : World) (hn : n ≤ 6) : Calls Tryz.prog 130 #[.int .u64 1, .int .u64 (n : Int)] w fun e w' => e = .returned (.tuple #[.int .u64 0, .int .u64 (n : Int)]) ∧ w = w' := by
  go_enter Tryz.func130, Tryz.ntmps130
  go_wp2_with fail
  refine (mul64_c n w hn).mono ?_
  rintro e w' ⟨rfl, rfl⟩
  go_wp2_with fail
  go_ret2
  exact ⟨rfl, rfl⟩
theorem size56 : (Tryz.prog.info? 56).map (·.size) = some 1 := by kernel_rfl
theorem splice_rep (n m : Nat) (x z : Value) (c : Nat) (hc : c = Nat.min m (n - m)) (hm : m ≤ n) :
    splice (List.replicate m x ++ List.replicate (n - m) z) m (List.replicate c x) = List.replicate (m + c) x ++ List.replicate (n - (m + c)) z := by
  have hcn : c ≤ n - m := by rw [hc]; exact Nat.min_le_right _ _
  unfold splice
  rw [List.take_left' (by simp), List.drop_append]
  simp only [List.length_replicate, List.drop_replicate]
  rw [show m - (m + c) = 0 by omega, show n - m - (m + c - m) = n - (m + c) by omega]
  simp [← List.append_assoc, List.replicate_append_replicate]
set_option maxHeartbeats 4000000 in
theorem repeat_c (X xc n : Nat) (w : World) (hn1 : 1 ≤ n) (hn : n ≤ 6) (hxc : 1 ≤ xc) (hxm : xc ≤ 1000) (hX : w.cell? ⟨X, 0, none⟩ = some (iv none)) :
    Calls Tryz.prog 114 #[.slice (some ⟨X, 0, none⟩) 1 xc, .int .i64 (n : Int)] w fun e w' => e = .returned (.slice (some ⟨w.heap.size, 0, none⟩) n n) ∧ VRow w' w.heap.size 56 (List.replicate n (iv none)) ∧ Ext w w' := by
  have HX := Lib.hid hX
  have hmk := run_make_row n (by omega)
  have HP := Lib.hid (vrow_rep w (Value.int IntKind.i64 0) n 56)
  have HE := Lib.hid (Ext.alloc (Ext.refl w) (.cells (Array.replicate n (Value.int IntKind.i64 0)) 56))
  have hXl := cell_lt hX
  have hcp := run_copy_row (P := Tryz.prog) (w.alloc (.cells (Array.replicate n (Value.int IntKind.i64 0)) 56)) 62 62 3 56 w.heap.size 0 n n ⟨X, 0, none⟩ 1 xc (Array.replicate n (Value.int IntKind.i64 0)) 56 [iv none] Tryz.underlying62 size56
    (by have h := HP.out; unfold VRow at h; rw [List.toArray_replicate] at h; exact h) (Nat.min_eq_left hn1).symm (fun j v h => by
      match j, h with
      | 0, h => injection h with h; subst h; exact Ext.cell HE.out hX) (by simp; omega) (by simp [Value.oneCell'])
  have hrow : (w.alloc (.cells (Array.replicate n (Value.int IntKind.i64 0)) 56)).setRow w.heap.size ((Array.replicate n (Value.int .i64 0)).toList.take 0 ++ [iv none] ++ (Array.replicate n (Value.int .i64 0)).toList.drop (0 + [iv none].length)).toArray = (w.alloc (.cells (Array.replicate n (Value.int IntKind.i64 0)) 56)).setRow w.heap.size (iv none :: List.replicate (n - 1) (Value.int IntKind.i64 0)).toArray := by
    congr 2
    simp
  rw [hrow] at hcp
  have HQ := Lib.hid (show VRow ((w.alloc (.cells (Array.replicate n (Value.int IntKind.i64 0)) 56)).setRow w.heap.size (iv none :: List.replicate (n - 1) (Value.int IntKind.i64 0)).toArray) w.heap.size 56 (List.replicate 1 (iv none) ++ List.replicate (n - 1) (Value.int IntKind.i64 0)) from by
    have h := HP.out
    exact setRow_heap _ _ _ _ 56 _ h)
  have HEQ := Lib.hid (below_setRow HE.out (Nat.le_refl _) (iv none :: List.replicate (n - 1) (Value.int IntKind.i64 0)).toArray)
  have hgi : goInt ([iv none] : List Value).length = .int .i64 1 := rfl
  rw [hgi] at hcp
  clear hX hrow hgi
  go_enter Tryz.func114, Tryz.ntmps114
  go_wp2_with fail
  refine (mul_c n w hn).mono ?_
  rintro e w' ⟨rfl, rfl⟩
  go_wp2_with fail
  clear hmk hcp
  generalize (w.alloc (.cells (Array.replicate n (Value.int IntKind.i64 0)) 56)).setRow w.heap.size (iv none :: List.replicate (n - 1) (Value.int IntKind.i64 0)).toArray = w1 at *
  obtain ⟨R, hR⟩ : ∃ R, R = w.heap.size := ⟨_, rfl⟩
  rw [← hR]
  rw [← hR] at HQ
  have hRw : w.heap.size ≤ R := by omega
  have HRR := Lib.hid hR
  clear hR
  go_loopw [8] (fun i wr => ∃ m : Nat, i = .int .i64 m ∧ 1 ≤ m ∧ m ≤ n ∧ VRow wr R 56 (List.replicate m (iv none) ++ List.replicate (n - m) (Value.int IntKind.i64 0)) ∧ Ext w wr) (fun i _ => n - (intOf i).toNat)
  case atStart => exact ⟨1, rfl, Nat.le_refl _, hn1, HQ.out, HEQ.out⟩
  case round =>
    rename World => wr
    obtain ⟨m, rfl, hm1, hm, hrow, hE⟩ := hrel
    have HR := Lib.hid hrow
    have HEr := Lib.hid hE
    clear hrow hE
    by_cases hlt : m < n
    · obtain ⟨c, hc⟩ : ∃ c, c = Nat.min m (n - m) := ⟨_, rfl⟩
      have hc1 : 1 ≤ c := by rw [hc]; exact Nat.le_min.2 ⟨hm1, by omega⟩
      have hc2 : c ≤ n - m := by rw [hc]; exact Nat.min_le_right _ _
      have hc3 : c ≤ m := by rw [hc]; exact Nat.min_le_left _ _
      have hnm : ¬ n = m := by omega
      have hcp : Sem.run Tryz.prog (Builtin.copy_ #[62, 62] 3 #[.slice (some ⟨R, m, none⟩) (n - m) (n - m), .slice (some ⟨R, 0, none⟩) m n]) wr.drew = .ok (.int .i64 (c : Int)) (wr.drew.setRow R (List.replicate (m + c) (iv none) ++ List.replicate (n - (m + c)) (Value.int IntKind.i64 0)).toArray) := by
        have h := run_copy_row (P := Tryz.prog) wr.drew 62 62 3 56 R m (n - m) (n - m) ⟨R, 0, none⟩ m n (List.replicate m (iv none) ++ List.replicate (n - m) (Value.int IntKind.i64 0)).toArray 56 (List.replicate c (iv none)) Tryz.underlying62 size56
          HR.out (by rw [List.length_replicate]; exact hc) (fun j v h => by
            rw [List.getElem?_replicate] at h
            split at h
            · rename_i hj
              injection h with h
              subst h
              have h9 := VRow.cell HR.out (k := j) (x := iv none) (by rw [List.getElem?_append_left (by simp; omega), List.getElem?_replicate, if_pos (by omega)])
              have e : (⟨R, 0, none⟩ : Addr).add j = ⟨R, j, none⟩ := by unfold Addr.add; cases j <;> simp
              rw [e]; exact h9
            · cases h) (by simp; omega) (by intro v hv; rw [List.mem_replicate] at hv; rw [hv.2]; rfl)
        rw [h]
        have hs := splice_rep n m (iv none) (Value.int IntKind.i64 0) c hc hm
        unfold splice at hs
        rw [List.length_replicate]
        rw [List.length_replicate, ← List.append_assoc] at hs
        rw [show (List.replicate m (iv none) ++ List.replicate (n - m) (Value.int .i64 0)).toArray.toList = List.replicate m (iv none) ++ List.replicate (n - m) (Value.int .i64 0) from rfl, hs]
        rfl
      have HNR := Lib.hid (show VRow (wr.drew.setRow R (List.replicate (m + c) (iv none) ++ List.replicate (n - (m + c)) (Value.int IntKind.i64 0)).toArray) R 56 (List.replicate (m + c) (iv none) ++ List.replicate (n - (m + c)) (Value.int IntKind.i64 0)) from setRow_heap _ _ _ _ 56 _ HR.out)
      have HNE := Lib.hid (show Ext w (wr.drew.setRow R (List.replicate (m + c) (iv none) ++ List.replicate (n - (m + c)) (Value.int IntKind.i64 0)).toArray) from below_setRow (Ext.drew HEr.out) hRw _)
      clear hc
      go_wp2_with fail
      go_region
      go_wp2
      exact ⟨⟨m + c, by simp, by omega, by omega, HNR.out, HNE.out⟩, by simp [intOf]; omega⟩
    · obtain rfl : m = n := by omega
      go_wp2_with fail
      go_ret
      have h := HR.out
      rw [Nat.sub_self] at h
      rw [← HRR.out]
      exact ⟨rfl, by simpa using h, HEr.out⟩
end Go.Proofs.YtbcngojiikdigaaGreat
