import Derived.Test.YtbcngojiikdigaaGreatL30
namespace Go.Proofs.YtbcngojiikdigaaGreat
set_option maxRecDepth 100000
open Go.RowKit Go.Shelf
def listV (n : Nat) (x : Nat → E) : List Int := (List.range n).map fun j => val (x j)
def listM (n : Nat) (A : MF) : List (List Int) := (List.range n).map fun i => listV n (A i)
theorem listV_len (n : Nat) (x : Nat → E) : (listV n x).length = n := by simp [listV]
theorem listM_len (n : Nat) (A : MF) : (listM n A).length = n := by simp [listM]
theorem listV_at {n i : Nat} (x : Nat → E) (hi : i < n) : (listV n x)[i]? = some (val (x i)) := by simp [listV, hi]
theorem listM_at {n i : Nat} (A : MF) (hi : i < n) : (listM n A)[i]? = some (listV n (A i)) := by simp [listM, hi]
theorem listM_row {n : Nat} {A : MF} {r : List Int} (h : r ∈ listM n A) : r.length = n := by
  simp only [listM, List.mem_map] at h
  obtain ⟨i, _, rfl⟩ := h
  exact listV_len n _
theorem listV_congr {n : Nat} {x y : Nat → E} (h : ∀ i, i < n → x i = y i) : listV n x = listV n y := by
  unfold listV
  exact List.map_congr_left fun i hi => by rw [h i (List.mem_range.1 hi)]
theorem listM_congr {n : Nat} {A B : MF} (h : eqF n A B) : listM n A = listM n B := by
  unfold listM
  exact List.map_congr_left fun i hi => listV_congr (h i (List.mem_range.1 hi))
theorem vec_ints {w : World} {v : Value} {n : Nat} {x : Nat → E} (h : VecAt w v n x) : Ints w v (listV n x) := by
  obtain ⟨b, o, cap, rfl, h1, h2, h3⟩ := h
  refine ⟨some ⟨b, o, none⟩, cap, by rw [listV_len], by rw [listV_len]; exact h1, h2, .inr ⟨b, o, rfl, fun k u hk => ?_⟩⟩
  have hl := lt_len hk
  rw [List.length_map, listV_len] at hl
  rw [List.getElem?_map, listV_at x hl] at hk
  injection hk with hk
  subst hk
  exact h3 k hl
theorem mat_rows {w : World} {v : Value} {n : Nat} {A : MF} (h : MatAt w v n A) : Rows2 w v (listM n A) := by
  obtain ⟨b, o, cap, rfl, h1, h2, h3⟩ := h
  obtain ⟨f, hf⟩ : ∃ f : Nat → Value, ∀ i, i < n → w.cell? ⟨b, o + i, none⟩ = some (f i) ∧ VecAt w (f i) n (A i) :=
    ⟨fun i => if h : i < n then Classical.choose (h3 i h) else undef, fun i hi => by simp only [hi, dif_pos]; exact Classical.choose_spec (h3 i hi)⟩
  refine ⟨some ⟨b, o, none⟩, cap, (List.range n).map f, by rw [listM_len], by rw [listM_len]; exact h1, h2, .inr ⟨b, o, rfl, fun k u hk => ?_⟩, by simp [listM_len], fun k u x hu hx => ?_⟩
  · have hl := lt_len hk
    simp at hl
    simp [hl] at hk
    subst hk
    exact (hf k hl).1
  · have hl := lt_len hu
    simp at hl
    simp [hl] at hu
    rw [listM_at A hl] at hx
    injection hx with hx
    subst hu hx
    exact vec_ints (hf k hl).2
theorem unv_val {x : E} (h : bdE KB x) : unv (val x) = x := by
  cases x with
  | none => rfl
  | some a =>
    have := h a rfl
    show (if a = NV then none else some a) = some a
    rw [if_neg (by unfold KB at this; unfold NV; omega)]
theorem entF_list {n : Nat} {A : MF} (h : bdF KB n A) : eqF n (entF (listM n A)) A := fun i hi j hj => by
  unfold entF
  rw [show (listM n A).getD i [] = listV n (A i) from by rw [List.getD_eq_getElem?_getD, listM_at A hi]; rfl]
  rw [List.getD_eq_getElem?_getD, listV_at (A i) hj]
  exact unv_val (h i hi j hj)
theorem list_ent {xs : List (List Int)} (hl : ∀ r ∈ xs, r.length = xs.length) : listM xs.length (entF xs) = xs := by
  apply List.ext_getElem?
  intro i
  by_cases hi : i < xs.length
  · rw [listM_at _ hi]
    obtain ⟨r, hr⟩ := getElem?_len hi
    rw [hr]
    congr 1
    have hrl := hl r (List.mem_of_getElem? hr)
    apply List.ext_getElem?
    intro j
    by_cases hj : j < xs.length
    · rw [listV_at _ hj]
      obtain ⟨y, hy⟩ := getElem?_len (show j < r.length by omega)
      rw [hy]
      unfold entF
      rw [val_unv, show xs.getD i [] = r from by rw [List.getD_eq_getElem?_getD, hr]; rfl]
      rw [List.getD_eq_getElem?_getD, hy]; rfl
    · rw [List.getElem?_eq_none (by rw [listV_len]; omega), List.getElem?_eq_none (by omega)]
  · rw [List.getElem?_eq_none (by rw [listM_len]; omega), List.getElem?_eq_none (by omega)]
/-- may all these be entries? -/
def withB (xs : List (List Int)) : Bool := xs.all (fun r => r.all entB)
theorem mat_within {n : Nat} {A : MF} (h1 : 1 ≤ n) (h6 : n ≤ 6) (h : withB (listM n A) = true) : matB (listM n A) = true := by
  simp only [withB, List.all_eq_true] at h
  simp only [matB, listM_len, Bool.and_eq_true, decide_eq_true_eq, Bool.not_eq_true']
  refine ⟨⟨h1, h6⟩, ?_⟩
  rw [Bool.eq_false_iff]
  intro e
  obtain ⟨r, hr, hb⟩ := List.any_eq_true.1 e
  simp only [badR, listM_row hr, ne_eq, not_true_eq_false, decide_false, Bool.false_or] at hb
  obtain ⟨x, hx, hb⟩ := List.any_eq_true.1 hb
  rw [h r hr x hx] at hb
  cases hb
set_option maxHeartbeats 4000000 in
theorem within_c (u : Value) (xs : List (List Int)) (w : World) (hx : Rows2 w u xs) (hlx : ∀ r ∈ xs, r.length ≤ 1000000) (_hl : xs.length ≤ 1000000) :
    Calls Tryz.prog 36 #[u] w fun e w' => e = .returned (.bool (withB xs)) ∧ Ext w w' := by
  obtain ⟨ax, cx, rfl, hxc, hxm, hrx⟩ := hx.at
  have HX := Lib.hid hrx
  have HLX := Lib.hid hlx
  clear hx hrx hlx
  go_enter Tryz.func36, Tryz.ntmps36
  go_wp2_with fail
  go_loopw [3] (fun i wr => ∃ k : Nat, k ≤ xs.length ∧ i = .int .i64 k ∧ (xs.take k).all (fun r => r.all entB) = true ∧ Ext w wr) (fun i _ => xs.length - (intOf i).toNat)
  case atStart => exact ⟨0, Nat.zero_le _, rfl, rfl, Ext.refl _⟩
  case round =>
    rename World => wr
    obtain ⟨k, hk, rfl, ht, hE⟩ := hrel
    have Ht := Lib.hid ht
    have HE := Lib.hid hE
    clear ht hE
    by_cases hlt : k < xs.length
    · obtain ⟨r, hr⟩ := getElem?_len hlt
      obtain ⟨b, o, u, rfl, c1, hu⟩ := HX.out k r hr
      replace c1 := Ext.cell HE.out c1
      have hcb := cell_lt c1
      have hrl := HLX.out r (List.mem_of_getElem? hr)
      obtain ⟨ar, cr, rfl, hrc, hrm, hrr⟩ := hu.at
      have HRR := Lib.hid hrr
      have HR := Lib.hid hr
      clear hr hrr hu
      have HC1 := Lib.hid c1
      clear c1
      go_wp2_with fail
      go_loopw [4] (fun i wq => ∃ j : Nat, j ≤ r.length ∧ i = .int .i64 j ∧ (r.take j).all entB = true ∧ Ext wr wq) (fun i _ => r.length - (intOf i).toNat)
      case atStart => exact ⟨0, Nat.zero_le _, rfl, rfl, Ext.refl _⟩
      case round =>
        rename World => wq
        obtain ⟨j, hj, rfl, hjt, hEq⟩ := hrel
        have Hjt := Lib.hid hjt
        have HEq := Lib.hid hEq
        clear hjt hEq
        have c1 := Ext.cell HEq.out HC1.out
        by_cases hjl : j < r.length
        · obtain ⟨x, hx⟩ := getElem?_len hjl
          obtain ⟨b2, o2, rfl, c2⟩ := HRR.out j x hx
          replace c2 := Ext.cell (Ext.trans HE.out HEq.out) c2
          have hcb2 := cell_lt c2
          cases he : entB x with
          | true =>
            have HN := Lib.hid (all_take_succ hx Hjt.out he)
            have HI := Lib.hid (show x = -1152921504606846976 ∨ (-1000 ≤ x ∧ x ≤ 1000) from by simpa [entB] using he)
            clear hx he
            rcases HI.out with hi | ⟨hi1, hi2⟩
            · subst hi
              go_wp2_with fail
              exact ⟨⟨j + 1, by omega, by simp, HN.out, HEq.out⟩, by simp [intOf]; omega⟩
            · have hb : (x != -1152921504606846976) = true := by rw [bne_iff_ne]; omega
              go_wp2_with fail
              exact ⟨⟨j + 1, by omega, by simp, HN.out, HEq.out⟩, by simp [intOf]; omega⟩
          | false =>
            have HF := Lib.hid (show withB xs = false from by
              unfold withB
              exact all_false HR.out (all_false hx he))
            have hne : x ≠ -1152921504606846976 ∧ ¬ (-1000 ≤ x ∧ x ≤ 1000) := by
              constructor
              · rintro rfl; simp [entB] at he
              · intro h; simp [entB, h.1, h.2] at he
            have hb : (x != -1152921504606846976) = true := by rw [bne_iff_ne]; exact hne.1
            clear hx he
            by_cases hlo : x < -1000
            · clear hne
              go_wp2_with fail
              go_ret
              exact ⟨ret_bool HF.out.symm, Ext.trans HE.out HEq.out⟩
            · have hhi : 1000 < x := by omega
              clear hne
              go_wp2_with fail
              go_ret
              exact ⟨ret_bool HF.out.symm, Ext.trans HE.out HEq.out⟩
        · have HN := Lib.hid (all_take_succ (p := fun r => r.all entB) HR.out Ht.out (all_done (by omega) Hjt.out))
          obtain rfl : j = r.length := by omega
          go_wp2_with fail
          exact ⟨⟨k + 1, by omega, by simp, HN.out, Ext.trans HE.out HEq.out⟩, by simp [intOf]; omega⟩
    · have HF := Lib.hid (show withB xs = true by unfold withB; rw [all_done (by omega) Ht.out])
      go_wp2_with fail
      go_ret
      exact ⟨ret_bool HF.out.symm, HE.out⟩
/-- has a list of rows n rows of n? -/
def sqB (xs : List (List Int)) (n : Nat) : Bool := xs.all (fun r => decide (r.length = n)) && decide (xs.length = n)
theorem sqB_list (n : Nat) (A : MF) : sqB (listM n A) n = true := by
  simp only [sqB, listM_len, decide_true, Bool.and_true, List.all_eq_true, decide_eq_true_eq]
  exact fun r hr => listM_row hr
set_option maxHeartbeats 2000000 in
theorem square_c (u : Value) (xs : List (List Int)) (n : Nat) (w : World) (hx : Rows2 w u xs) (hn : n ≤ 1000000) (hlx : ∀ r ∈ xs, r.length ≤ 1000000) (_hl : xs.length ≤ 1000000) :
    Calls Tryz.prog 37 #[u, .int .i64 (n : Int)] w fun e w' => e = .returned (.bool (sqB xs n)) ∧ Ext w w' := by
  obtain ⟨ax, cx, rfl, hxc, hxm, hrx⟩ := hx.at
  have HX := Lib.hid hrx
  have HLX := Lib.hid hlx
  clear hx hrx hlx
  go_enter Tryz.func37, Tryz.ntmps37
  go_wp2_with fail
  go_loopw [5] (fun i wr => ∃ k : Nat, k ≤ xs.length ∧ i = .int .i64 k ∧ (xs.take k).all (fun r => decide (r.length = n)) = true ∧ Ext w wr) (fun i _ => xs.length - (intOf i).toNat)
  case atStart => exact ⟨0, Nat.zero_le _, rfl, rfl, Ext.refl _⟩
  case round =>
    rename World => wr
    obtain ⟨k, hk, rfl, ht, hE⟩ := hrel
    have Ht := Lib.hid ht
    have HE := Lib.hid hE
    clear ht hE
    by_cases hlt : k < xs.length
    · obtain ⟨r, hr⟩ := getElem?_len hlt
      obtain ⟨b, o, u, rfl, c1, hu⟩ := HX.out k r hr
      replace c1 := Ext.cell HE.out c1
      have hcb := cell_lt c1
      have hrl := HLX.out r (List.mem_of_getElem? hr)
      obtain ⟨ar, cr, rfl, hrc, hrm, hrr⟩ := hu.at
      by_cases he : r.length = n
      · have hb : ((r.length : Int) != (n : Int)) = false := by rw [he]; simp
        have HN := Lib.hid (all_take_succ (p := fun r => decide (r.length = n)) hr Ht.out (decide_eq_true he))
        clear hr hrr he
        go_wp2_with fail
        exact ⟨⟨k + 1, by omega, by simp, HN.out, HE.out⟩, by simp [intOf]; omega⟩
      · have hb : ((r.length : Int) != (n : Int)) = true := by rw [bne_iff_ne]; omega
        have HF := Lib.hid (show sqB xs n = false by unfold sqB; rw [all_false hr (by simpa using he)]; simp)
        clear hr hrr he
        go_wp2_with fail
        go_ret
        exact ⟨ret_bool HF.out.symm, HE.out⟩
    · have HA := Lib.hid (all_done (by omega) Ht.out)
      by_cases he : xs.length = n
      · have hb : ((xs.length : Int) == (n : Int)) = true := by rw [he]; simp
        have HF := Lib.hid (show sqB xs n = true by unfold sqB; rw [HA.out, decide_eq_true he]; rfl)
        clear he
        go_wp2_with fail
        go_ret
        exact ⟨ret_bool HF.out.symm, HE.out⟩
      · have hb : ((xs.length : Int) == (n : Int)) = false := by rw [beq_eq_false_iff_ne]; omega
        have HF := Lib.hid (show sqB xs n = false by unfold sqB; rw [decide_eq_false he]; simp)
        clear he
        go_wp2_with fail
        go_ret
        exact ⟨ret_bool HF.out.symm, HE.out⟩
end Go.Proofs.YtbcngojiikdigaaGreat
