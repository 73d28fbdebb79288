import Derived.Test.YtbcngojiikdigaaGreatL23
namespace Go.Proofs.YtbcngojiikdigaaGreat
set_option maxRecDepth 100000
open Go.RowKit Go.Shelf
/-- is there none among the first n? -/
def noneB (n : Nat) (x : Nat → E) : Bool := (List.range n).any fun i => !(wB (x i))
theorem noneB_true {n k : Nat} {x : Nat → E} (hk : k < n) (h : wB (x k) = false) : noneB n x = true := by
  unfold noneB
  rw [List.any_eq_true]
  exact ⟨k, List.mem_range.2 hk, by rw [h]; rfl⟩
theorem noneB_false {n : Nat} {x : Nat → E} (h : ∀ k, k < n → wB (x k) = true) : noneB n x = false := by
  rw [Bool.eq_false_iff]
  intro e
  unfold noneB at e
  obtain ⟨k, hk, he⟩ := List.any_eq_true.1 e
  rw [h k (List.mem_range.1 hk)] at he
  cases he
def noneMB (n : Nat) (A : MF) : Bool := (List.range n).any fun i => noneB n (A i)
theorem noneMB_true {n k : Nat} {A : MF} (hk : k < n) (h : noneB n (A k) = true) : noneMB n A = true := by
  unfold noneMB
  rw [List.any_eq_true]
  exact ⟨k, List.mem_range.2 hk, h⟩
theorem noneMB_false {n : Nat} {A : MF} (h : ∀ k, k < n → noneB n (A k) = false) : noneMB n A = false := by
  rw [Bool.eq_false_iff]
  intro e
  unfold noneMB at e
  obtain ⟨k, hk, he⟩ := List.any_eq_true.1 e
  rw [h k (List.mem_range.1 hk)] at he
  cases he
set_option maxHeartbeats 1000000 in
theorem windex_c (v : Value) (n : Nat) (x : Nat → E) (w : World) (hn : n ≤ 1000) (hx : WVecAt w v n x) :
    Calls Tryz.prog 126 #[v, .bool false] w fun e w' => ∃ i : Int, e = .returned (.int .i64 i) ∧ decide (0 ≤ i) = noneB n x ∧ Ext w w' := by
  obtain ⟨rb, ro, rc, rfl, hr1, hr2, hr3⟩ := hx
  have HX := Lib.hid hr3
  clear hr3
  go_enter Tryz.func126, Tryz.ntmps126
  go_wp2_with fail
  go_loopw [8] (fun i wr => ∃ k : Nat, i = .int .i64 (k : Int) ∧ k ≤ n ∧ (∀ j, j < k → wB (x j) = true) ∧ Ext w wr) (fun i _ => n - (intOf i).toNat)
  case atStart => exact ⟨0, rfl, Nat.zero_le _, fun j h => by omega, Ext.refl _⟩
  case round =>
    rename World => wr
    obtain ⟨k, rfl, hk, hall, hE⟩ := hrel
    have HE := Lib.hid hE
    have HA := Lib.hid hall
    clear hE hall
    by_cases hlt : k < n
    · have c1 := Ext.cell HE.out (HX.out k hlt)
      have hcb := cell_lt c1
      unfold bv at c1
      cases hz : wB (x k) with
      | false =>
        rw [hz] at c1
        have HF := Lib.hid (noneB_true hlt hz)
        clear hz
        go_wp2_with fail
        go_ret
        exact ⟨_, rfl, by rw [HF.out]; simp, HE.out⟩
      | true =>
        rw [hz] at c1
        have HN := Lib.hid (show ∀ j, j < k + 1 → wB (x j) = true from fun j hj => by
          by_cases e : j = k
          · subst e; exact hz
          · exact HA.out j (by omega))
        clear hz
        go_wp2_with fail
        exact ⟨⟨k + 1, by simp, by omega, HN.out, HE.out⟩, by simp [intOf]; omega⟩
    · obtain rfl : k = n := by omega
      have HF := Lib.hid (noneB_false HA.out)
      go_wp2_with fail
      go_ret
      exact ⟨-1, rfl, by rw [HF.out]; rfl, HE.out⟩
set_option maxHeartbeats 1000000 in
theorem wcontains_c (v : Value) (n : Nat) (x : Nat → E) (w : World) (hn : n ≤ 1000) (hx : WVecAt w v n x) :
    Calls Tryz.prog 103 #[v, .bool false] w fun e w' => e = .returned (.bool (noneB n x)) ∧ Ext w w' := by
  have HC := Lib.hid (windex_c v n x w hn hx)
  generalize noneB n x = z at *
  clear hx
  go_enter Tryz.func103, Tryz.ntmps103
  go_wp2_with fail
  refine HC.out.mono ?_
  rintro e w2 ⟨i, rfl, hi, hE⟩
  have HI := Lib.hid hi
  have HE := Lib.hid hE
  clear hi hE
  go_wp2_with fail
  go_ret
  exact ⟨ret_bool HI.out, HE.out⟩
set_option maxHeartbeats 1000000 in
theorem connected2_c (v : Value) (n : Nat) (x : Nat → E) (w : World) (hn : n ≤ 1000) (hx : WVecAt w v n x) :
    Calls Tryz.prog 102 #[v] w fun e w' => e = .returned (.bool (noneB n x)) ∧ Ext w w' := by
  have HC := Lib.hid (wcontains_c v n x w hn hx)
  generalize noneB n x = z at *
  clear hx
  go_enter Tryz.func102, Tryz.ntmps102
  go_wp2_with fail
  refine HC.out.mono ?_
  rintro e w2 ⟨rfl, hE⟩
  have HE := Lib.hid hE
  clear hE
  go_wp2_with fail
  go_ret
  exact ⟨rfl, HE.out⟩
set_option maxHeartbeats 1000000 in
theorem windexf_c (v : Value) (n : Nat) (A : MF) (w : World) (hn : n ≤ 1000) (hx : WMatAt w v n A) :
    Calls Tryz.prog 122 #[v, .func (.func 102) #[] #[]] w fun e w' => ∃ i : Int, e = .returned (.int .i64 i) ∧ decide (0 ≤ i) = noneMB n A ∧ Ext w w' := by
  obtain ⟨rb, ro, rc, rfl, hr1, hr2, hr3⟩ := hx
  have HX := Lib.hid hr3
  clear hr3
  go_enter Tryz.func122, Tryz.ntmps122
  go_wp2_with fail
  go_loopw [8] (fun i wr => ∃ k : Nat, i = .int .i64 (k : Int) ∧ k ≤ n ∧ (∀ j, j < k → noneB n (A j) = false) ∧ Ext w wr) (fun i _ => n - (intOf i).toNat)
  case atStart => exact ⟨0, rfl, Nat.zero_le _, fun j h => by omega, Ext.refl _⟩
  case round =>
    rename World => wr
    obtain ⟨k, rfl, hk, hall, hE⟩ := hrel
    have HE := Lib.hid hE
    have HA := Lib.hid hall
    clear hE hall
    by_cases hlt : k < n
    · obtain ⟨u1, c1, hu1⟩ := HX.out k hlt
      replace c1 := Ext.cell HE.out c1
      have hcb := cell_lt c1
      have HC := Lib.hid (connected2_c u1 n (A k) wr hn (hu1.ext HE.out))
      obtain ⟨a1, o1, d1, rfl, _⟩ := hu1
      cases hz : noneB n (A k) with
      | true =>
        rw [hz] at HC
        have HF := Lib.hid (noneMB_true hlt hz)
        clear hz
        go_wp2_with fail
        refine HC.out.mono ?_
        rintro e w2 ⟨rfl, hE2⟩
        have HE2 := Lib.hid (Ext.trans HE.out hE2)
        clear hE2 c1
        go_wp2_with fail
        go_ret
        exact ⟨_, rfl, by rw [HF.out]; simp, HE2.out⟩
      | false =>
        rw [hz] at HC
        have HN := Lib.hid (show ∀ j, j < k + 1 → noneB n (A j) = false from fun j hj => by
          by_cases e : j = k
          · subst e; exact hz
          · exact HA.out j (by omega))
        clear hz
        go_wp2_with fail
        refine HC.out.mono ?_
        rintro e w2 ⟨rfl, hE2⟩
        have HE2 := Lib.hid (Ext.trans HE.out hE2)
        clear hE2 c1
        go_wp2_with fail
        exact ⟨⟨k + 1, by simp, by omega, HN.out, HE2.out⟩, by simp [intOf]; omega⟩
    · obtain rfl : k = n := by omega
      have HF := Lib.hid (noneMB_false HA.out)
      go_wp2_with fail
      go_ret
      exact ⟨-1, rfl, by rw [HF.out]; rfl, HE.out⟩
set_option maxHeartbeats 1000000 in
theorem wcontainsf_c (v : Value) (n : Nat) (A : MF) (w : World) (hn : n ≤ 1000) (hx : WMatAt w v n A) :
    Calls Tryz.prog 100 #[v, .func (.func 102) #[] #[]] w fun e w' => e = .returned (.bool (noneMB n A)) ∧ Ext w w' := by
  have HC := Lib.hid (windexf_c v n A w hn hx)
  generalize noneMB n A = z at *
  clear hx
  go_enter Tryz.func100, Tryz.ntmps100
  go_wp2_with fail
  refine HC.out.mono ?_
  rintro e w2 ⟨i, rfl, hi, hE⟩
  have HI := Lib.hid hi
  have HE := Lib.hid hE
  clear hi hE
  go_wp2_with fail
  go_ret
  exact ⟨ret_bool HI.out, HE.out⟩
def arcF (A : MF) : MF := fun i j => arcE (A i j)
theorem arcF_bd (n : Nat) (A : MF) : bdF 0 n (arcF A) := fun i _ j _ y hy => by
  unfold arcF arcE at hy
  split at hy
  · cases hy
  · injection hy with hy; omega
/-- is there a walk from every vertex to every other one? -/
def connB (n : Nat) (A : MF) : Bool := !noneMB n (closF n (arcF A))
set_option maxHeartbeats 1000000 in
theorem connected_c (v : Value) (n : Nat) (A : MF) (w : World) (hn1 : 1 ≤ n) (hn : n ≤ 6) (hx : MatAt w v n A) (bA : bdF KB n A) :
    Calls Tryz.prog 68 #[v] w fun e w' => e = .returned (.bool (connB n A)) ∧ Ext w w' := by
  have HX := Lib.hid hx
  have HBA := Lib.hid bA
  have HZ := Lib.hid (show connB n A = !noneMB n (closF n (arcF A)) from rfl)
  generalize connB n A = z at *
  obtain ⟨va, vc, rfl⟩ := hx.len
  clear hx bA
  go_enter Tryz.func68, Tryz.ntmps68
  go_wp2_with fail
  refine (rway_c _ n A (arcF A) w hn1 hn HX.out fun i hi j hj W _ => arc_c (A i j) W (HBA.out i hi j hj)).mono ?_
  rintro e w2 ⟨r, rfl, hr, hE⟩
  have HR := Lib.hid (hr.mat (by omega))
  have HE := Lib.hid hE
  obtain ⟨ra, rc, rfl⟩ := (hr.mat (by omega)).len
  clear hr hE
  go_wp2_with fail
  refine (wclosure_c _ n (arcF A) 0 w2 hn1 hn HR.out (arcF_bd n A) (Int.le_refl _) (by unfold KB; omega)).mono ?_
  rintro e w3 ⟨r3, rfl, hr, hE3⟩
  have HR3 := Lib.hid (hr.mat (by omega))
  have HE3 := Lib.hid (Ext.trans HE.out hE3)
  obtain ⟨ra3, rc3, rfl⟩ := (hr.mat (by omega)).len
  clear hr hE3
  go_wp2_with fail
  refine (wcontainsf_c _ n _ w3 (by omega) HR3.out).mono ?_
  rintro e w4 ⟨rfl, hE4⟩
  have HE4 := Lib.hid (Ext.trans HE3.out hE4)
  clear hE4
  generalize noneMB n (closF n (arcF A)) = z2 at *
  go_wp2_with fail
  go_ret
  exact ⟨ret_bool HZ.out.symm, HE4.out⟩
/-- what repeating gives -/
def RepeatS (base : Nat) (xs : List (List Int)) (e : Ending) (w' : World) : Prop :=
  (matB xs = false ∧ e = two (.slice none 0 0) (.int .i64 2)) ∨
  (matB xs = true ∧ spF xs.length (entF xs) = none ∧ e = two (.slice none 0 0) (.int .i64 10)) ∨
  (matB xs = true ∧ ∃ p q, spF xs.length (entF xs) = some (p, q) ∧ connB xs.length (lvF p q (entF xs)) = false ∧ e = two (.slice none 0 0) (.int .i64 10)) ∨
  (matB xs = true ∧ ∃ p q r, spF xs.length (entF xs) = some (p, q) ∧ connB xs.length (lvF p q (entF xs)) = true ∧ e = two r (.int .i64 0) ∧ NewMat base w' r 56 62 xs.length (lvF p q (entF xs)))
set_option maxHeartbeats 4000000 in
theorem repeating_c (u : Value) (xs : List (List Int)) (w : World) (hu : Rows2 w u xs) (hlx : ∀ r ∈ xs, r.length ≤ 1000000) :
    Calls Tryz.prog 70 #[u] w fun e w' => RepeatS w.heap.size xs e w' ∧ Ext w w' := by
  have HL := Lib.hid (leveled_c u xs w hu hlx)
  obtain ⟨a1, c1, rfl, hl1, hm1, _⟩ := hu.at
  clear hu hlx
  go_enter Tryz.func70, Tryz.ntmps70
  go_wp2_with fail
  refine HL.out.mono ?_
  rintro e w1 ⟨hS, hE⟩
  have HE := Lib.hid hE
  clear hE
  rcases hS with ⟨hm, rfl⟩ | ⟨hm, hs, rfl⟩ | ⟨hm, p, q, r, hs, rfl, hr⟩
  · have HS := Lib.hid (fun w' => (show RepeatS w.heap.size xs (two (.slice none 0 0) (.int .i64 2)) w' from .inl ⟨hm, rfl⟩))
    clear hm
    unfold two
    go_wp2_with fail
    go_ret2
    exact ⟨HS.out _, HE.out⟩
  · have HS := Lib.hid (fun w' => (show RepeatS w.heap.size xs (two (.slice none 0 0) (.int .i64 10)) w' from .inr (.inl ⟨hm, hs, rfl⟩)))
    clear hm hs
    unfold two
    go_wp2_with fail
    go_ret2
    exact ⟨HS.out _, HE.out⟩
  · have hn := (matB_ok hm).1
    have hb := spF_bd (matB_ok hm).2.2 hn.2 hs
    have HB := Lib.hid (lvF_bd (matB_ok hm).2.2 hb.1 hb.2)
    have HR := Lib.hid hr
    have HM := Lib.hid hm
    have HSP := Lib.hid hs
    obtain ⟨ra, rc, rfl⟩ := (hr.mat (by omega)).len
    clear hr hm hs hb
    have HC := Lib.hid (connected_c _ xs.length (lvF p q (entF xs)) w1 hn.1 hn.2 (HR.out.mat (by omega)) (HB.out.mono (by unfold KB; omega)))
    unfold two
    cases hc : connB xs.length (lvF p q (entF xs)) with
    | false =>
      rw [hc] at HC
      have HS := Lib.hid (fun w' => (show RepeatS w.heap.size xs (two (.slice none 0 0) (.int .i64 10)) w' from .inr (.inr (.inl ⟨HM.out, p, q, HSP.out, hc, rfl⟩))))
      clear hc
      go_wp2_with fail
      refine HC.out.mono ?_
      rintro e w3 ⟨rfl, hE3⟩
      have HE3 := Lib.hid (Ext.trans HE.out hE3)
      clear hE3
      go_wp2_with fail
      go_ret2
      exact ⟨HS.out _, HE3.out⟩
    | true =>
      rw [hc] at HC
      have HS := Lib.hid (fun w' (h : NewMat w.heap.size w' (.slice (some ra) xs.length rc) 56 62 xs.length (lvF p q (entF xs))) => (show RepeatS w.heap.size xs (two (.slice (some ra) xs.length rc) (.int .i64 0)) w' from .inr (.inr (.inr ⟨HM.out, p, q, _, HSP.out, hc, rfl, h⟩))))
      clear hc
      go_wp2_with fail
      refine HC.out.mono ?_
      rintro e w3 ⟨rfl, hE3⟩
      have HE3 := Lib.hid (Ext.trans HE.out hE3)
      have HR3 := Lib.hid (HR.out.ext hE3)
      clear hE3
      go_wp2_with fail
      go_ret2
      exact ⟨HS.out _ HR3.out, HE3.out⟩
end Go.Proofs.YtbcngojiikdigaaGreat
