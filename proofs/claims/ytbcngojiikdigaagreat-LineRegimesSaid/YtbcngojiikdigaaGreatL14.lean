import Derived.Test.YtbcngojiikdigaaGreatL13
namespace Go.Proofs.YtbcngojiikdigaaGreat
set_option maxRecDepth 100000
open Go.RowKit Go.Shelf
/-- may this be an entry? -/
def entB (x : Int) : Bool := decide (x = -1152921504606846976) || (decide (-1000 ≤ x) && decide (x ≤ 1000))
theorem outside_c (x : Int) (w : World) : Calls Tryz.prog 77 #[.int .i64 x] w fun e w' => e = .returned (.bool (!entB x)) ∧ Ext w w' := by
  by_cases h0 : x = -1152921504606846976
  · subst h0
    rw [show (!entB (-1152921504606846976)) = false by decide]
    go_enter Tryz.func77, Tryz.ntmps77
    go_wp2_with fail
    go_ret
    exact ⟨rfl, Ext.refl _⟩
  · have hb : (x != -1152921504606846976) = true := by rw [bne_iff_ne]; exact h0
    by_cases h1 : x < -1000
    · rw [show (!entB x) = true by simp [entB, h0]; omega]
      clear h0
      go_enter Tryz.func77, Tryz.ntmps77
      go_wp2_with fail
      go_ret
      exact ⟨rfl, Ext.refl _⟩
    · by_cases h2 : 1000 < x
      · rw [show (!entB x) = true by simp [entB, h0]; omega]
        clear h0
        go_enter Tryz.func77, Tryz.ntmps77
        go_wp2_with fail
        go_ret
        exact ⟨rfl, Ext.refl _⟩
      · rw [show (!entB x) = false by simp [entB]; omega]
        clear h0
        go_enter Tryz.func77, Tryz.ntmps77
        go_wp2_with fail
        go_ret
        exact ⟨rfl, Ext.refl _⟩
set_option maxHeartbeats 1000000 in
theorem index_i (v : Value) (xs : List (Int)) (p : Int → Bool) (w : World) (hl : xs.length ≤ 1000000) (hx : Ints w v xs)
    (hf : ∀ x, x ∈ xs → ∀ W, Ext w W → Calls Tryz.prog 77 #[.int .i64 x] W fun e w' => e = .returned (.bool (p x)) ∧ Ext W w') :
    Calls Tryz.prog 87 #[v, .func (.func 77) #[] #[]] w fun e w' => ∃ i : Int, e = .returned (.int .i64 i) ∧ decide (0 ≤ i) = xs.any p ∧ Ext w w' := by
  have HF := Lib.hid hf
  obtain ⟨av, cap, rfl, hl1, hm1, hxr⟩ := hx.at
  have HX := Lib.hid hxr
  clear hf hx hxr
  go_enter Tryz.func87, Tryz.ntmps87
  go_wp2_with fail
  go_loopw [8] (fun i wr => ∃ k : Nat, i = .int .i64 (k : Int) ∧ k ≤ xs.length ∧ (∀ j, j < k → ∀ x, xs[j]? = some x → p x = false) ∧ Ext w wr) (fun i _ => xs.length - (intOf i).toNat)
  case atStart => exact ⟨0, rfl, Nat.zero_le _, fun j h => by omega, Ext.refl _⟩
  case round =>
    rename World => wr
    obtain ⟨k, rfl, hk, hno, hE⟩ := hrel
    have HE := Lib.hid hE
    have HNO := Lib.hid hno
    clear hE hno
    by_cases hlt : k < xs.length
    · obtain ⟨x, hx⟩ := getElem?_len hlt
      obtain ⟨b3, o3, rfl, c3⟩ := HX.out k x hx
      replace c3 := Ext.cell HE.out c3
      have hcb := cell_lt c3
      have HC := Lib.hid (HF.out x (List.mem_of_getElem? hx) wr HE.out)
      have HXK := Lib.hid hx
      clear hx
      cases hp : p x with
      | true =>
        have HA := Lib.hid (show xs.any p = true from List.any_eq_true.2 ⟨x, List.mem_of_getElem? HXK.out, hp⟩)
        rw [hp] at HC
        clear hp
        go_wp2_with fail
        refine HC.out.mono ?_
        rintro e w2 ⟨rfl, hE2⟩
        have HE2 := Lib.hid (Ext.trans HE.out hE2)
        clear hE2
        go_wp2_with fail
        go_ret
        exact ⟨_, rfl, by rw [HA.out]; simp, HE2.out⟩
      | false =>
        have HN2 := Lib.hid (show ∀ j, j < k + 1 → ∀ y, xs[j]? = some y → p y = false from fun j hj y hy => by
          by_cases e : j = k
          · subst e; rw [HXK.out] at hy; injection hy with hy; subst hy; exact hp
          · exact HNO.out j (by omega) y hy)
        rw [hp] at HC
        clear hp
        go_wp2_with fail
        refine HC.out.mono ?_
        rintro e w2 ⟨rfl, hE2⟩
        have HE2 := Lib.hid (Ext.trans HE.out hE2)
        clear hE2 c3
        go_wp2_with fail
        exact ⟨⟨k + 1, by simp, by omega, HN2.out, HE2.out⟩, by simp [intOf]; omega⟩
    · obtain rfl : k = xs.length := by omega
      have HA := Lib.hid (show xs.any p = false from by
        rw [Bool.eq_false_iff]
        intro ha
        obtain ⟨x, hm, hx⟩ := List.any_eq_true.1 ha
        obtain ⟨j, hj⟩ := List.mem_iff_getElem?.1 hm
        rw [HNO.out j (lt_len hj) x hj] at hx
        cases hx)
      go_wp2_with fail
      go_ret
      exact ⟨-1, rfl, by rw [HA.out]; rfl, HE.out⟩
set_option maxHeartbeats 1000000 in
theorem contains_i (v : Value) (xs : List (Int)) (p : Int → Bool) (w : World) (hl : xs.length ≤ 1000000) (hx : Ints w v xs)
    (hf : ∀ x, x ∈ xs → ∀ W, Ext w W → Calls Tryz.prog 77 #[.int .i64 x] W fun e w' => e = .returned (.bool (p x)) ∧ Ext W w') :
    Calls Tryz.prog 55 #[v, .func (.func 77) #[] #[]] w fun e w' => e = .returned (.bool (xs.any p)) ∧ Ext w w' := by
  have HC := Lib.hid (index_i v xs p w hl hx hf)
  generalize xs.any p = z at *
  clear hf hx
  go_enter Tryz.func55, Tryz.ntmps55
  go_wp2_with fail
  refine HC.out.mono ?_
  rintro e w2 ⟨i, rfl, hi, hE⟩
  have HI := Lib.hid hi
  have HE := Lib.hid hE
  clear hi hE
  go_wp2_with fail
  go_ret
  exact ⟨ret_bool HI.out, HE.out⟩
set_option maxHeartbeats 1000000 in
theorem index_r (p0 p1 : Value) (v : Value) (xs : List (List Int)) (p : List Int → Bool) (w : World) (hl : xs.length ≤ 1000000) (hx : Rows2 w v xs)
    (hf : ∀ x, x ∈ xs → ∀ W u, Ext w W → Ints W u x → Calls Tryz.prog 79 #[u, p0, p1] W fun e w' => e = .returned (.bool (p x)) ∧ Ext W w') :
    Calls Tryz.prog 109 #[v, .func (.func 79) #[] #[p0, p1]] w fun e w' => ∃ i : Int, e = .returned (.int .i64 i) ∧ decide (0 ≤ i) = xs.any p ∧ Ext w w' := by
  have HF := Lib.hid hf
  obtain ⟨av, cap, rfl, hl1, hm1, hxr⟩ := hx.at
  have HX := Lib.hid hxr
  clear hf hx hxr
  go_enter Tryz.func109, Tryz.ntmps109
  go_wp2_with fail
  go_loopw [8] (fun i wr => ∃ k : Nat, i = .int .i64 (k : Int) ∧ k ≤ xs.length ∧ (∀ j, j < k → ∀ x, xs[j]? = some x → p x = false) ∧ Ext w wr) (fun i _ => xs.length - (intOf i).toNat)
  case atStart => exact ⟨0, rfl, Nat.zero_le _, fun j h => by omega, Ext.refl _⟩
  case round =>
    rename World => wr
    obtain ⟨k, rfl, hk, hno, hE⟩ := hrel
    have HE := Lib.hid hE
    have HNO := Lib.hid hno
    clear hE hno
    by_cases hlt : k < xs.length
    · obtain ⟨x, hx⟩ := getElem?_len hlt
      obtain ⟨b3, o3, u3, rfl, c3, hu3⟩ := HX.out k x hx
      replace c3 := Ext.cell HE.out c3
      have hcb := cell_lt c3
      have HC := Lib.hid (HF.out x (List.mem_of_getElem? hx) wr u3 HE.out (hu3.ext HE.out))
      obtain ⟨a3, cc3, rfl, _⟩ := hu3.at
      have HXK := Lib.hid hx
      clear hx
      cases hp : p x with
      | true =>
        have HA := Lib.hid (show xs.any p = true from List.any_eq_true.2 ⟨x, List.mem_of_getElem? HXK.out, hp⟩)
        rw [hp] at HC
        clear hp
        go_wp2_with fail
        refine HC.out.mono ?_
        rintro e w2 ⟨rfl, hE2⟩
        have HE2 := Lib.hid (Ext.trans HE.out hE2)
        clear hE2
        go_wp2_with fail
        go_ret
        exact ⟨_, rfl, by rw [HA.out]; simp, HE2.out⟩
      | false =>
        have HN2 := Lib.hid (show ∀ j, j < k + 1 → ∀ y, xs[j]? = some y → p y = false from fun j hj y hy => by
          by_cases e : j = k
          · subst e; rw [HXK.out] at hy; injection hy with hy; subst hy; exact hp
          · exact HNO.out j (by omega) y hy)
        rw [hp] at HC
        clear hp
        go_wp2_with fail
        refine HC.out.mono ?_
        rintro e w2 ⟨rfl, hE2⟩
        have HE2 := Lib.hid (Ext.trans HE.out hE2)
        clear hE2 c3
        go_wp2_with fail
        exact ⟨⟨k + 1, by simp, by omega, HN2.out, HE2.out⟩, by simp [intOf]; omega⟩
    · obtain rfl : k = xs.length := by omega
      have HA := Lib.hid (show xs.any p = false from by
        rw [Bool.eq_false_iff]
        intro ha
        obtain ⟨x, hm, hx⟩ := List.any_eq_true.1 ha
        obtain ⟨j, hj⟩ := List.mem_iff_getElem?.1 hm
        rw [HNO.out j (lt_len hj) x hj] at hx
        cases hx)
      go_wp2_with fail
      go_ret
      exact ⟨-1, rfl, by rw [HA.out]; rfl, HE.out⟩
set_option maxHeartbeats 1000000 in
theorem contains_r (p0 p1 : Value) (v : Value) (xs : List (List Int)) (p : List Int → Bool) (w : World) (hl : xs.length ≤ 1000000) (hx : Rows2 w v xs)
    (hf : ∀ x, x ∈ xs → ∀ W u, Ext w W → Ints W u x → Calls Tryz.prog 79 #[u, p0, p1] W fun e w' => e = .returned (.bool (p x)) ∧ Ext W w') :
    Calls Tryz.prog 78 #[v, .func (.func 79) #[] #[p0, p1]] w fun e w' => e = .returned (.bool (xs.any p)) ∧ Ext w w' := by
  have HC := Lib.hid (index_r p0 p1 v xs p w hl hx hf)
  generalize xs.any p = z at *
  clear hf hx
  go_enter Tryz.func78, Tryz.ntmps78
  go_wp2_with fail
  refine HC.out.mono ?_
  rintro e w2 ⟨i, rfl, hi, hE⟩
  have HI := Lib.hid hi
  have HE := Lib.hid hE
  clear hi hE
  go_wp2_with fail
  go_ret
  exact ⟨ret_bool HI.out, HE.out⟩
/-- is a row none of a matrix of m rows? -/
def badR (m : Nat) (r : List Int) : Bool := decide (r.length ≠ m) || r.any (fun x => !entB x)
set_option maxHeartbeats 1000000 in
theorem isMatrix2_c (P1 P3 : Nat) (u v : Value) (r : List Int) (xs : List (List Int)) (w : World) (hr : Ints w u r) (hlr : r.length ≤ 1000000) (hx : Rows2 w v xs) (h1 : w.cell? ⟨P1, 0, none⟩ = some v) (h3 : w.cell? ⟨P3, 0, none⟩ = some (.func (.func 77) #[] #[])) :
    Calls Tryz.prog 79 #[u, .pointer (some ⟨P1, 0, none⟩), .pointer (some ⟨P3, 0, none⟩)] w fun e w' => e = .returned (.bool (badR xs.length r)) ∧ Ext w w' := by
  have HC := Lib.hid (contains_i u r (fun x => !entB x) w hlr hr fun x _ W _ => outside_c x W)
  obtain ⟨a1, c1, rfl, hl1, hm1, _⟩ := hr.at
  obtain ⟨a2, c2, rfl, hl2, hm2, _⟩ := hx.at
  have HB := Lib.hid (show badR xs.length r = (decide (r.length ≠ xs.length) || r.any (fun x => !entB x)) from rfl)
  generalize badR xs.length r = z at *
  generalize r.any (fun x => !entB x) = y at *
  clear hr hx
  by_cases hl : r.length = xs.length
  · have hb : ((r.length : Int) != (xs.length : Int)) = false := by rw [hl]; simp
    have HL := Lib.hid hl
    clear hl
    go_enter Tryz.func79, Tryz.ntmps79
    go_wp2_with fail
    refine HC.out.mono ?_
    rintro e w2 ⟨rfl, hE⟩
    have HE := Lib.hid hE
    clear hE
    go_wp2_with fail
    go_ret
    exact ⟨ret_bool (by rw [HB.out, decide_eq_false (by simp [HL.out])]; simp), HE.out⟩
  · have hb : ((r.length : Int) != (xs.length : Int)) = true := by rw [bne_iff_ne]; omega
    have HL := Lib.hid hl
    clear hl
    go_enter Tryz.func79, Tryz.ntmps79
    go_wp2_with fail
    go_ret
    exact ⟨ret_bool (by rw [HB.out, decide_eq_true HL.out]; simp), Ext.refl _⟩
def matB (xs : List (List Int)) : Bool := decide (1 ≤ xs.length) && decide (xs.length ≤ 6) && !(xs.any (badR xs.length))
set_option maxHeartbeats 1000000 in
theorem isMatrix_c (v : Value) (xs : List (List Int)) (w : World) (hx : Rows2 w v xs) (hlr : ∀ r ∈ xs, r.length ≤ 1000000) :
    Calls Tryz.prog 39 #[v] w fun e w' => e = .returned (.bool (matB xs)) ∧ Ext w w' := by
  have HX := Lib.hid hx
  have HLR := Lib.hid hlr
  obtain ⟨a, cap, rfl, hl1, hm1, _⟩ := hx.at
  clear hx hlr
  have HE1 := Lib.hid (Ext.alloc (Ext.refl w) (.cells #[.slice a xs.length cap] 22))
  have HP1 := Lib.hid (show VRow (w.alloc (.cells #[.slice a xs.length cap] 22)) _ _ _ from vrow_alloc w [.slice a xs.length cap] 22)
  have c0 := VRow.cell HP1.out (k := 0) rfl
  by_cases h1 : xs.length < 1
  · have HB := Lib.hid (show matB xs = false by unfold matB; rw [decide_eq_false (by omega)]; rfl)
    have h1z : (xs.length : Int) < 1 := by omega
    generalize matB xs = z at *
    go_enter Tryz.func39, Tryz.ntmps39
    go_wp2_with fail
    go_ret
    exact ⟨ret_bool HB.out.symm, HE1.out⟩
  · by_cases h6 : 6 < xs.length
    · have HB := Lib.hid (show matB xs = false by unfold matB; rw [decide_eq_false (show ¬ xs.length ≤ 6 by omega)]; simp)
      have h1z : ¬ (xs.length : Int) < 1 := by omega
      have h6z : 6 < (xs.length : Int) := by omega
      generalize matB xs = z at *
      go_enter Tryz.func39, Tryz.ntmps39
      go_wp2_with fail
      go_ret
      exact ⟨ret_bool HB.out.symm, HE1.out⟩
    · have HB := Lib.hid (show matB xs = !(xs.any (badR xs.length)) by unfold matB; rw [decide_eq_true (by omega), decide_eq_true (by omega)]; rfl)
      have h1z : ¬ (xs.length : Int) < 1 := by omega
      have h6z : ¬ 6 < (xs.length : Int) := by omega
      have hn6 : xs.length ≤ 6 := by omega
      generalize matB xs = z at *
      have s1 : (w.alloc (.cells #[.slice a xs.length cap] 22)).heap.size = w.heap.size + 1 := by simp
      have hE2 := Ext.alloc HE1.out (.cells #[.nilFunc] 57)
      have p3 := vrow_alloc (w.alloc (.cells #[.slice a xs.length cap] 22)) [.nilFunc] 57
      rw [s1] at p3
      have hp3 := (show VRow ((w.alloc (.cells #[.slice a xs.length cap] 22)).alloc (.cells #[.nilFunc] 57)) _ _ _ from p3)
      have hp2 := (show VRow ((w.alloc (.cells #[.slice a xs.length cap] 22)).alloc (.cells #[.nilFunc] 57)) _ _ _ from VRow.alloc HP1.out (.cells #[.nilFunc] 57))
      have m0 := VRow.cell hp3 (k := 0) rfl
      have f0 := VRow.frozen hp3 0 none
      have hst : Sem.run Tryz.prog (store ⟨w.heap.size + 1, 0, none⟩ (.func (.func 77) #[] #[])) ((w.alloc (.cells #[.slice a xs.length cap] 22)).alloc (.cells #[.nilFunc] 57)) = .ok () (((w.alloc (.cells #[.slice a xs.length cap] 22)).alloc (.cells #[.nilFunc] 57)).setCell ⟨w.heap.size + 1, 0, none⟩ (.func (.func 77) #[] #[])) := by
        rw [run_store Tryz.prog _ _ _ _ rfl, m0]
        simp [f0]
      have HE2 := Lib.hid (Ext.alloc HE1.out (.cells #[.func (.func 77) #[] #[]] 57))
      have p4 := vrow_alloc (w.alloc (.cells #[.slice a xs.length cap] 22)) [.func (.func 77) #[] #[]] 57
      rw [s1] at p4
      have HP3 := Lib.hid (show VRow ((w.alloc (.cells #[.slice a xs.length cap] 22)).alloc (.cells #[.func (.func 77) #[] #[]] 57)) _ _ _ from p4)
      have HP2 := Lib.hid (show VRow ((w.alloc (.cells #[.slice a xs.length cap] 22)).alloc (.cells #[.func (.func 77) #[] #[]] 57)) _ _ _ from VRow.alloc HP1.out (.cells #[.func (.func 77) #[] #[]] 57))
      have c2 := VRow.cell HP2.out (k := 0) rfl
      clear p3 p4 hp3 hp2 hE2
      go_enter Tryz.func39, Tryz.ntmps39
      go_wp2_with fail
      clear c0 c2 m0 f0 hst
      generalize (w.alloc (.cells #[.slice a xs.length cap] 22)).alloc (.cells #[.func (.func 77) #[] #[]] 57) = w2 at *
      refine (contains_r (.pointer (some ⟨w.heap.size, 0, none⟩)) (.pointer (some ⟨w.heap.size + 1, 0, none⟩)) _ xs (badR xs.length) w2 (by omega) (HX.out.ext HE2.out) fun r hr W u hW hu => isMatrix2_c w.heap.size (w.heap.size + 1) u _ r xs W hu (HLR.out r hr) (HX.out.ext (Ext.trans HE2.out hW)) (VRow.cell (VRow.ext HP2.out hW) (k := 0) rfl) (VRow.cell (VRow.ext HP3.out hW) (k := 0) rfl)).mono ?_
      rintro e w3 ⟨rfl, hE⟩
      have HE3 := Lib.hid (Ext.trans HE2.out hE)
      clear hE
      go_wp2_with fail
      go_ret
      exact ⟨ret_bool HB.out.symm, HE3.out⟩
end Go.Proofs.YtbcngojiikdigaaGreat
