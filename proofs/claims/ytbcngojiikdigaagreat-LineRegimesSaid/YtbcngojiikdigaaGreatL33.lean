import Derived.Test.YtbcngojiikdigaaGreatL32
namespace Go.Proofs.YtbcngojiikdigaaGreat
set_option maxRecDepth 100000
open Go.RowKit Go.Shelf
/-- may this be a number of a start? -/
def vecE (x : Int) : Bool := decide (x = -1152921504606846976) || (decide (-1125899906842624 ≤ x) && decide (x ≤ 562949953421312))
/-- may this be a number of a result? -/
def resE (x : Int) : Bool := decide (x = -1152921504606846976) || (decide (-1125899906842624 ≤ x) && decide (x ≤ 1125899906842624))
theorem outsideV_c (x : Int) (w : World) : Calls Tryz.prog 85 #[.int .i64 x] w fun e w' => e = .returned (.bool (!vecE x)) ∧ Ext w w' := by
  by_cases h0 : x = -1152921504606846976
  · subst h0
    rw [show (!vecE (-1152921504606846976)) = false by decide]
    go_enter Tryz.func85, Tryz.ntmps85
    go_wp2_with fail
    go_ret
    exact ⟨rfl, Ext.refl _⟩
  · have hb : (x != -1152921504606846976) = true := by rw [bne_iff_ne]; exact h0
    by_cases h1 : x < -1125899906842624
    · rw [show (!vecE x) = true by simp [vecE, h0]; omega]
      clear h0
      go_enter Tryz.func85, Tryz.ntmps85
      go_wp2_with fail
      go_ret
      exact ⟨rfl, Ext.refl _⟩
    · by_cases h2 : 562949953421312 < x
      · rw [show (!vecE x) = true by simp [vecE, h0]; omega]
        clear h0
        go_enter Tryz.func85, Tryz.ntmps85
        go_wp2_with fail
        go_ret
        exact ⟨rfl, Ext.refl _⟩
      · rw [show (!vecE x) = false by simp [vecE]; omega]
        clear h0
        go_enter Tryz.func85, Tryz.ntmps85
        go_wp2_with fail
        go_ret
        exact ⟨rfl, Ext.refl _⟩
theorem outsideR_c (x : Int) (w : World) : Calls Tryz.prog 54 #[.int .i64 x] w fun e w' => e = .returned (.bool (!resE x)) ∧ Ext w w' := by
  by_cases h0 : x = -1152921504606846976
  · subst h0
    rw [show (!resE (-1152921504606846976)) = false by decide]
    go_enter Tryz.func54, Tryz.ntmps54
    go_wp2_with fail
    go_ret
    exact ⟨rfl, Ext.refl _⟩
  · have hb : (x != -1152921504606846976) = true := by rw [bne_iff_ne]; exact h0
    by_cases h1 : x < -1125899906842624
    · rw [show (!resE x) = true by simp [resE, h0]; omega]
      clear h0
      go_enter Tryz.func54, Tryz.ntmps54
      go_wp2_with fail
      go_ret
      exact ⟨rfl, Ext.refl _⟩
    · by_cases h2 : 1125899906842624 < x
      · rw [show (!resE x) = true by simp [resE, h0]; omega]
        clear h0
        go_enter Tryz.func54, Tryz.ntmps54
        go_wp2_with fail
        go_ret
        exact ⟨rfl, Ext.refl _⟩
      · rw [show (!resE x) = false by simp [resE]; omega]
        clear h0
        go_enter Tryz.func54, Tryz.ntmps54
        go_wp2_with fail
        go_ret
        exact ⟨rfl, Ext.refl _⟩
set_option maxHeartbeats 1000000 in
theorem index_iV (v : Value) (xs : List (Int)) (p : Int → Bool) (w : World) (hl : xs.length ≤ 1000000) (hx : Ints w v xs)
    (hf : ∀ x, x ∈ xs → ∀ W, Ext w W → Calls Tryz.prog 85 #[.int .i64 x] W fun e w' => e = .returned (.bool (p x)) ∧ Ext W w') :
    Calls Tryz.prog 87 #[v, .func (.func 85) #[] #[]] w fun e w' => ∃ i : Int, e = .returned (.int .i64 i) ∧ decide (0 ≤ i) = xs.any p ∧ Ext w w' := by
  have HF := Lib.hid hf
  obtain ⟨av, cap, rfl, hl1, hm1, hxr⟩ := hx.at
  have HX := Lib.hid hxr
  clear hf hx hxr
  go_enter Tryz.func87, Tryz.ntmps87
  go_wp2_with fail
  go_loopw [8] (fun i wr => ∃ k : Nat, i = .int .i64 (k : Int) ∧ k ≤ xs.length ∧ (∀ j, j < k → ∀ x, xs[j]? = some x → p x = false) ∧ Ext w wr) (fun i _ => xs.length - (intOf i).toNat)
  case atStart => exact ⟨0, rfl, Nat.zero_le _, fun j h => by omega, Ext.refl _⟩
  case round =>
    rename World => wr
    obtain ⟨k, rfl, hk, hno, hE⟩ := hrel
    have HE := Lib.hid hE
    have HNO := Lib.hid hno
    clear hE hno
    by_cases hlt : k < xs.length
    · obtain ⟨x, hx⟩ := getElem?_len hlt
      obtain ⟨b3, o3, rfl, c3⟩ := HX.out k x hx
      replace c3 := Ext.cell HE.out c3
      have hcb := cell_lt c3
      have HC := Lib.hid (HF.out x (List.mem_of_getElem? hx) wr HE.out)
      have HXK := Lib.hid hx
      clear hx
      cases hp : p x with
      | true =>
        have HA := Lib.hid (show xs.any p = true from List.any_eq_true.2 ⟨x, List.mem_of_getElem? HXK.out, hp⟩)
        rw [hp] at HC
        clear hp
        go_wp2_with fail
        refine HC.out.mono ?_
        rintro e w2 ⟨rfl, hE2⟩
        have HE2 := Lib.hid (Ext.trans HE.out hE2)
        clear hE2
        go_wp2_with fail
        go_ret
        exact ⟨_, rfl, by rw [HA.out]; simp, HE2.out⟩
      | false =>
        have HN2 := Lib.hid (show ∀ j, j < k + 1 → ∀ y, xs[j]? = some y → p y = false from fun j hj y hy => by
          by_cases e : j = k
          · subst e; rw [HXK.out] at hy; injection hy with hy; subst hy; exact hp
          · exact HNO.out j (by omega) y hy)
        rw [hp] at HC
        clear hp
        go_wp2_with fail
        refine HC.out.mono ?_
        rintro e w2 ⟨rfl, hE2⟩
        have HE2 := Lib.hid (Ext.trans HE.out hE2)
        clear hE2 c3
        go_wp2_with fail
        exact ⟨⟨k + 1, by simp, by omega, HN2.out, HE2.out⟩, by simp [intOf]; omega⟩
    · obtain rfl : k = xs.length := by omega
      have HA := Lib.hid (show xs.any p = false from by
        rw [Bool.eq_false_iff]
        intro ha
        obtain ⟨x, hm, hx⟩ := List.any_eq_true.1 ha
        obtain ⟨j, hj⟩ := List.mem_iff_getElem?.1 hm
        rw [HNO.out j (lt_len hj) x hj] at hx
        cases hx)
      go_wp2_with fail
      go_ret
      exact ⟨-1, rfl, by rw [HA.out]; rfl, HE.out⟩
set_option maxHeartbeats 1000000 in
theorem contains_iV (v : Value) (xs : List (Int)) (p : Int → Bool) (w : World) (hl : xs.length ≤ 1000000) (hx : Ints w v xs)
    (hf : ∀ x, x ∈ xs → ∀ W, Ext w W → Calls Tryz.prog 85 #[.int .i64 x] W fun e w' => e = .returned (.bool (p x)) ∧ Ext W w') :
    Calls Tryz.prog 55 #[v, .func (.func 85) #[] #[]] w fun e w' => e = .returned (.bool (xs.any p)) ∧ Ext w w' := by
  have HC := Lib.hid (index_iV v xs p w hl hx hf)
  generalize xs.any p = z at *
  clear hf hx
  go_enter Tryz.func55, Tryz.ntmps55
  go_wp2_with fail
  refine HC.out.mono ?_
  rintro e w2 ⟨i, rfl, hi, hE⟩
  have HI := Lib.hid hi
  have HE := Lib.hid hE
  clear hi hE
  go_wp2_with fail
  go_ret
  exact ⟨ret_bool HI.out, HE.out⟩
set_option maxHeartbeats 1000000 in
theorem index_iR (v : Value) (xs : List (Int)) (p : Int → Bool) (w : World) (hl : xs.length ≤ 1000000) (hx : Ints w v xs)
    (hf : ∀ x, x ∈ xs → ∀ W, Ext w W → Calls Tryz.prog 54 #[.int .i64 x] W fun e w' => e = .returned (.bool (p x)) ∧ Ext W w') :
    Calls Tryz.prog 87 #[v, .func (.func 54) #[] #[]] w fun e w' => ∃ i : Int, e = .returned (.int .i64 i) ∧ decide (0 ≤ i) = xs.any p ∧ Ext w w' := by
  have HF := Lib.hid hf
  obtain ⟨av, cap, rfl, hl1, hm1, hxr⟩ := hx.at
  have HX := Lib.hid hxr
  clear hf hx hxr
  go_enter Tryz.func87, Tryz.ntmps87
  go_wp2_with fail
  go_loopw [8] (fun i wr => ∃ k : Nat, i = .int .i64 (k : Int) ∧ k ≤ xs.length ∧ (∀ j, j < k → ∀ x, xs[j]? = some x → p x = false) ∧ Ext w wr) (fun i _ => xs.length - (intOf i).toNat)
  case atStart => exact ⟨0, rfl, Nat.zero_le _, fun j h => by omega, Ext.refl _⟩
  case round =>
    rename World => wr
    obtain ⟨k, rfl, hk, hno, hE⟩ := hrel
    have HE := Lib.hid hE
    have HNO := Lib.hid hno
    clear hE hno
    by_cases hlt : k < xs.length
    · obtain ⟨x, hx⟩ := getElem?_len hlt
      obtain ⟨b3, o3, rfl, c3⟩ := HX.out k x hx
      replace c3 := Ext.cell HE.out c3
      have hcb := cell_lt c3
      have HC := Lib.hid (HF.out x (List.mem_of_getElem? hx) wr HE.out)
      have HXK := Lib.hid hx
      clear hx
      cases hp : p x with
      | true =>
        have HA := Lib.hid (show xs.any p = true from List.any_eq_true.2 ⟨x, List.mem_of_getElem? HXK.out, hp⟩)
        rw [hp] at HC
        clear hp
        go_wp2_with fail
        refine HC.out.mono ?_
        rintro e w2 ⟨rfl, hE2⟩
        have HE2 := Lib.hid (Ext.trans HE.out hE2)
        clear hE2
        go_wp2_with fail
        go_ret
        exact ⟨_, rfl, by rw [HA.out]; simp, HE2.out⟩
      | false =>
        have HN2 := Lib.hid (show ∀ j, j < k + 1 → ∀ y, xs[j]? = some y → p y = false from fun j hj y hy => by
          by_cases e : j = k
          · subst e; rw [HXK.out] at hy; injection hy with hy; subst hy; exact hp
          · exact HNO.out j (by omega) y hy)
        rw [hp] at HC
        clear hp
        go_wp2_with fail
        refine HC.out.mono ?_
        rintro e w2 ⟨rfl, hE2⟩
        have HE2 := Lib.hid (Ext.trans HE.out hE2)
        clear hE2 c3
        go_wp2_with fail
        exact ⟨⟨k + 1, by simp, by omega, HN2.out, HE2.out⟩, by simp [intOf]; omega⟩
    · obtain rfl : k = xs.length := by omega
      have HA := Lib.hid (show xs.any p = false from by
        rw [Bool.eq_false_iff]
        intro ha
        obtain ⟨x, hm, hx⟩ := List.any_eq_true.1 ha
        obtain ⟨j, hj⟩ := List.mem_iff_getElem?.1 hm
        rw [HNO.out j (lt_len hj) x hj] at hx
        cases hx)
      go_wp2_with fail
      go_ret
      exact ⟨-1, rfl, by rw [HA.out]; rfl, HE.out⟩
set_option maxHeartbeats 1000000 in
theorem contains_iR (v : Value) (xs : List (Int)) (p : Int → Bool) (w : World) (hl : xs.length ≤ 1000000) (hx : Ints w v xs)
    (hf : ∀ x, x ∈ xs → ∀ W, Ext w W → Calls Tryz.prog 54 #[.int .i64 x] W fun e w' => e = .returned (.bool (p x)) ∧ Ext W w') :
    Calls Tryz.prog 55 #[v, .func (.func 54) #[] #[]] w fun e w' => e = .returned (.bool (xs.any p)) ∧ Ext w w' := by
  have HC := Lib.hid (index_iR v xs p w hl hx hf)
  generalize xs.any p = z at *
  clear hf hx
  go_enter Tryz.func55, Tryz.ntmps55
  go_wp2_with fail
  refine HC.out.mono ?_
  rintro e w2 ⟨i, rfl, hi, hE⟩
  have HI := Lib.hid hi
  have HE := Lib.hid hE
  clear hi hE
  go_wp2_with fail
  go_ret
  exact ⟨ret_bool HI.out, HE.out⟩
/-- is this a start for n machines? -/
def vecB (x : List Int) (n : Nat) : Bool := decide (x.length = n) && !(x.any (fun z => !vecE z))
set_option maxHeartbeats 1000000 in
theorem isVector_c (v : Value) (x : List Int) (n : Nat) (w : World) (hx : Ints w v x) (hl : x.length ≤ 1000000) (hn : n ≤ 1000000) :
    Calls Tryz.prog 48 #[v, .int .i64 (n : Int)] w fun e w' => e = .returned (.bool (vecB x n)) ∧ Ext w w' := by
  have HC := Lib.hid (fun W (h : Ext w W) => contains_iV v x (fun z => !vecE z) W hl (hx.ext h) fun z _ W' _ => outsideV_c z W')
  have HB := Lib.hid (show vecB x n = (decide (x.length = n) && !(x.any (fun z => !vecE z))) from rfl)
  obtain ⟨a1, c1, rfl, _, _, _⟩ := hx.at
  generalize x.any (fun z => !vecE z) = y at *
  generalize vecB x n = z at *
  clear hx
  by_cases he : x.length = n
  · have hb : ((x.length : Int) == (n : Int)) = true := by rw [he]; simp
    have HB := Lib.hid (show z = !y from by rw [HB.out, decide_eq_true he]; rfl)
    clear he
    go_enter Tryz.func48, Tryz.ntmps48
    go_wp2_with fail
    refine (HC.out _ (Ext.refl _)).mono ?_
    rintro e w2 ⟨rfl, hE⟩
    have HE := Lib.hid hE
    clear hE
    go_wp2_with fail
    go_ret
    exact ⟨ret_bool HB.out.symm, HE.out⟩
  · have hb : ((x.length : Int) == (n : Int)) = false := by rw [beq_eq_false_iff_ne]; omega
    have HB := Lib.hid (show z = false from by rw [HB.out, decide_eq_false he]; rfl)
    clear he
    go_enter Tryz.func48, Tryz.ntmps48
    go_wp2_with fail
    go_ret
    exact ⟨ret_bool HB.out.symm, Ext.refl _⟩
/-- a start's numbers -/
def startF (x : List Int) : Nat → E := fun j => unv (x.getD j 0)
/-- what a run comes to -/
def runL (xs : List (List Int)) (x : List Int) (k : Nat) : List Int := listV xs.length (vecF xs.length (pwF xs.length (entF xs) k) (startF x))
theorem vecB_ok {x : List Int} {n : Nat} (h : vecB x n = true) : x.length = n ∧ ∀ i, i < n → bdE 1125899906842624 (startF x i) := by
  simp only [vecB, Bool.and_eq_true, decide_eq_true_eq, Bool.not_eq_true'] at h
  refine ⟨h.1, fun i hi y hy => ?_⟩
  obtain ⟨z, hz⟩ := getElem?_len (show i < x.length by omega)
  have hv : vecE z = true := by
    cases he : vecE z with
    | true => rfl
    | false => rw [List.any_eq_true.2 ⟨z, List.mem_of_getElem? hz, by simp [he]⟩] at h; cases h.2
  unfold startF at hy
  rw [List.getD_eq_getElem?_getD, hz] at hy
  change (if z = NV then none else some z) = some y at hy
  split at hy
  · cases hy
  · rename_i hne
    injection hy with hy
    subst hy
    simp only [vecE, Bool.or_eq_true, Bool.and_eq_true, decide_eq_true_eq] at hv
    rcases hv with e | e
    · exact absurd e hne
    · omega
theorem countB_ok {k : Int} (h : countB k = true) : 0 ≤ k ∧ k ≤ 1048576 := by simpa [countB] using h
/-- what Run gives -/
def RunS (xs : List (List Int)) (x : List Int) (k : Int) (e : Ending) (w' : World) : Prop :=
  ((matB xs && countB k && vecB x xs.length) = false ∧ e = two (.slice none 0 0) (.int .i64 2)) ∨
  (matB xs = true ∧ countB k = true ∧ vecB x xs.length = true ∧ (runL xs x k.toNat).any (fun z => !resE z) = true ∧ e = two (.slice none 0 0) (.int .i64 4)) ∨
  (matB xs = true ∧ countB k = true ∧ vecB x xs.length = true ∧ (runL xs x k.toNat).any (fun z => !resE z) = false ∧ ∃ r, e = two r (.int .i64 0) ∧ Ints w' r (runL xs x k.toNat))
set_option maxHeartbeats 4000000 in
theorem Run_c (u v : Value) (xs : List (List Int)) (x : List Int) (k : Int) (w : World) (hu : Rows2 w u xs) (hlx : ∀ r ∈ xs, r.length ≤ 1000000) (hv : Ints w v x) (hl : x.length ≤ 1000000) (hxl : xs.length ≤ 1000000) :
    Calls Tryz.prog 17 #[u, v, .int .i64 k] w fun e w' => RunS xs x k e w' ∧ Ext w w' := by
  have HU := Lib.hid hu
  have HV := Lib.hid hv
  have HM := Lib.hid (isMatrix_c u xs w hu hlx)
  have HN := Lib.hid (fun W => isCount_c k W)
  have HW := Lib.hid (fun W (h : Ext w W) => isVector_c v x xs.length W (hv.ext h) hl hxl)
  obtain ⟨a1, c1, rfl, hl1, hm1, _⟩ := hu.at
  obtain ⟨a2, c2, rfl, hl2, hm2, _⟩ := hv.at
  clear hu hlx hv
  have HF := Lib.hid (fun (w' : World) (h : (matB xs && countB k && vecB x xs.length) = false) => (show RunS xs x k (two (.slice none 0 0) (.int .i64 2)) w' from .inl ⟨h, rfl⟩))
  cases hx : matB xs with
  | false =>
    have HS := Lib.hid (fun w' => HF.out w' (by rw [hx]; rfl))
    rw [hx] at HM
    clear hx HF
    go_enter Tryz.func17, Tryz.ntmps17
    go_wp2_with fail
    refine HM.out.mono ?_
    rintro e w1 ⟨rfl, hE⟩
    have HE := Lib.hid hE
    clear hE
    go_wp2_with fail
    go_ret2
    exact ⟨HS.out _, HE.out⟩
  | true =>
    cases hk : countB k with
    | false =>
      have HS := Lib.hid (fun w' => HF.out w' (by rw [hx, hk]; rfl))
      rw [hx] at HM
      rw [hk] at HN
      clear hx hk HF
      go_enter Tryz.func17, Tryz.ntmps17
      go_wp2_with fail
      refine HM.out.mono ?_
      rintro e w1 ⟨rfl, hE⟩
      have HE := Lib.hid hE
      clear hE
      go_wp2_with fail
      refine (HN.out _).mono ?_
      rintro e w2 ⟨rfl, hE⟩
      have HE2 := Lib.hid (Ext.trans HE.out hE)
      clear hE
      go_wp2_with fail
      go_ret2
      exact ⟨HS.out _, HE2.out⟩
    | true =>
      cases hvb : vecB x xs.length with
      | false =>
        have HS := Lib.hid (fun w' => HF.out w' (by rw [hx, hk, hvb]; rfl))
        rw [hx] at HM
        rw [hk] at HN
        rw [hvb] at HW
        clear hx hk hvb HF
        go_enter Tryz.func17, Tryz.ntmps17
        go_wp2_with fail
        refine HM.out.mono ?_
        rintro e w1 ⟨rfl, hE⟩
        have HE := Lib.hid hE
        clear hE
        go_wp2_with fail
        refine (HN.out _).mono ?_
        rintro e w2 ⟨rfl, hE⟩
        have HE2 := Lib.hid (Ext.trans HE.out hE)
        clear hE
        go_wp2_with fail
        refine (HW.out _ HE2.out).mono ?_
        rintro e w3 ⟨rfl, hE⟩
        have HE3 := Lib.hid (Ext.trans HE2.out hE)
        clear hE
        go_wp2_with fail
        go_ret2
        exact ⟨HS.out _, HE3.out⟩
      | true =>
        have HOX := Lib.hid (matB_ok hx)
        have HOV := Lib.hid (vecB_ok hvb)
        have hn := HOX.out.1
        have hkb := countB_ok hk
        have HX := Lib.hid hx
        have HK := Lib.hid hk
        have HVB := Lib.hid hvb
        obtain ⟨k0, rfl⟩ : ∃ k0 : Nat, k = (k0 : Int) := ⟨k.toNat, by omega⟩
        rw [hx] at HM
        rw [hk] at HN
        rw [hvb] at HW
        have HYB := Lib.hid (show ∀ i, i < xs.length → bdE KB (vecF xs.length (pwF xs.length (entF xs) k0) (startF x) i) from fun i hi => bdE_es fun j hj => (bdE_ep (bdF_pw HOX.out.2.2 k0 i hi j hj) (HOV.out.2 j hj)).mono (by unfold KB; omega))
        have HMB := Lib.hid (show ∀ i, i < xs.length → ∀ j, j < xs.length → bdE KB (ep (pwF xs.length (entF xs) k0 i j) (startF x j)) from fun i hi j hj => (bdE_ep (bdF_pw HOX.out.2.2 k0 i hi j hj) (HOV.out.2 j hj)).mono (by unfold KB; omega))
        have HPB := Lib.hid (show bdF KB xs.length (pwF xs.length (entF xs) k0) from (bdF_pw HOX.out.2.2 k0).mono (by unfold KB; omega))
        have HSB := Lib.hid (show ∀ j, j < xs.length → bdE KB (startF x j) from fun j hj => (HOV.out.2 j hj).mono (by unfold KB; omega))
        have HRL := Lib.hid (show runL xs x k0 = listV xs.length (vecF xs.length (pwF xs.length (entF xs) k0) (startF x)) from rfl)
        clear hx hk hvb HF
        go_enter Tryz.func17, Tryz.ntmps17
        go_wp2_with fail
        refine HM.out.mono ?_
        rintro e w1 ⟨rfl, hE⟩
        have HE := Lib.hid hE
        clear hE
        go_wp2_with fail
        refine (HN.out _).mono ?_
        rintro e w2 ⟨rfl, hE⟩
        have HE2 := Lib.hid (Ext.trans HE.out hE)
        clear hE
        go_wp2_with fail
        refine (HW.out _ HE2.out).mono ?_
        rintro e w3 ⟨rfl, hE⟩
        have HE3 := Lib.hid (Ext.trans HE2.out hE)
        clear hE
        go_wp2_with fail
        refine (spans_c _ xs.length (entF xs) w3 hn.1 hn.2 (rows_mat (HU.out.ext HE3.out) HOX.out.2.1 hn.1)).mono ?_
        rintro e w4 ⟨r4, rfl, hr4, hE⟩
        have HE4 := Lib.hid (Ext.trans HE3.out hE)
        have HR4 := Lib.hid (hr4.mat (by omega))
        clear hE hr4
        go_wp2_with fail
        refine (mpower_c _ xs.length k0 (entF xs) 1000 w4 hn.1 hn.2 (by omega) HR4.out HOX.out.2.2 (by omega) (by unfold KB; omega)).mono ?_
        rintro e w5 ⟨r5, rfl, hr5, hE⟩
        have HE5 := Lib.hid (Ext.trans HE4.out hE)
        have HR5 := Lib.hid (hr5.mat (by omega))
        clear hE hr5
        go_wp2_with fail
        refine (lspan_c _ xs.length (startF x) (startF x) w5 hn.1 hn.2 (ints_vec (HV.out.ext HE5.out) HOV.out.1 hn.1) fun i _ W _ => calls_same (toSpan_c (startF x i) W)).mono ?_
        rintro e w6 ⟨r6, rfl, hr6, hE⟩
        have HE6 := Lib.hid (Ext.trans HE5.out hE)
        have HR6 := Lib.hid (hr6.vec (by omega))
        have HR5 := Lib.hid (HR5.out.ext hE)
        clear hE hr6
        go_wp2_with fail
        refine (mof_c _ _ xs.length _ (startF x) w6 hn.1 hn.2 HR5.out HR6.out HPB.out HSB.out HMB.out).mono ?_
        rintro e w7 ⟨r7, rfl, hr7, hE⟩
        have HE7 := Lib.hid (Ext.trans HE6.out hE)
        have HR7 := Lib.hid (hr7.vec (by omega))
        clear hE hr7
        go_wp2_with fail
        refine (lint_c _ xs.length _ _ w7 hn.1 hn.2 HR7.out fun i _ W _ => calls_same (toInt_c _ W)).mono ?_
        rintro e w8 ⟨r8, rfl, hr8, hE⟩
        have HE8 := Lib.hid (Ext.trans HE7.out hE)
        have HR8 := Lib.hid (show Ints w8 r8 (runL xs x k0) from vec_ints (hr8.vec (by omega)))
        obtain ⟨a8, c8, rfl, _⟩ := HR8.out.at
        clear hE hr8
        have HRN := Lib.hid (show (runL xs x k0).length = xs.length from listV_len _ _)
        go_wp2_with fail
        refine (contains_iR _ (runL xs x k0) (fun z => !resE z) w8 (by rw [HRN.out]; omega) HR8.out fun z _ W _ => outsideR_c z W).mono ?_
        rintro e w9 ⟨rfl, hE⟩
        have HE9 := Lib.hid (Ext.trans HE8.out hE)
        have HR9 := Lib.hid (HR8.out.ext hE)
        clear hE
        cases hz : (runL xs x k0).any (fun z => !resE z) with
        | true =>
          have HS := Lib.hid (fun w' => (show RunS xs x (k0 : Int) (two (.slice none 0 0) (.int .i64 4)) w' from .inr (.inl ⟨HX.out, HK.out, HVB.out, by rw [Int.toNat_natCast]; exact hz, rfl⟩)))
          clear hz
          go_wp2_with fail
          go_ret2
          exact ⟨HS.out _, HE9.out⟩
        | false =>
          have HS := Lib.hid (fun w' r (h : Ints w' r (runL xs x k0)) => (show RunS xs x (k0 : Int) (two r (.int .i64 0)) w' from .inr (.inr ⟨HX.out, HK.out, HVB.out, by rw [Int.toNat_natCast]; exact hz, r, rfl, by rw [Int.toNat_natCast]; exact h⟩)))
          clear hz
          go_wp2_with fail
          go_ret2
          exact ⟨HS.out _ _ HR9.out, HE9.out⟩
end Go.Proofs.YtbcngojiikdigaaGreat
