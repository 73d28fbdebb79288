import Derived.Test.YtnpebfchojalcaaD2
namespace Go.Proofs.Ytnpebfchojalcaa
set_option maxRecDepth 100000
open Go.RowKit Go.Shelf Go.Maps
theorem rowsN_mem2 {A B D : Int} (hD : 1 ≤ D) : ∀ (f : Nat) (x : Int) (p : Pt), p ∈ rowsN A B D f x → leastZ p.1 ≤ p.2 := by
  intro f
  induction f with
  | zero => intro x p h; simp [rowsN] at h
  | succ f ih =>
    intro x p h
    simp only [rowsN] at h
    split at h
    · rcases List.mem_append.1 h with h | h
      · rw [List.mem_map] at h
        obtain ⟨y, hy, rfl⟩ := h
        have h1 := colN_mem hD _ _ _ hy
        have h2 := firstZ_bd (A := A) (B := B) (x := x) hD
        show leastZ x ≤ y
        omega
      · exact ih _ _ h
    · simp at h
theorem near_all : (List.range 12).all (fun x => (List.range 23).all fun j => decide ((j : Int) - 11 < leastZ (x : Int)) || decide (((x : Int), (j : Int) - 11) ∈ nearL 1 0 1)) = true := by decide +kernel
theorem near_one {A B D : Int} (hg : gridOk A B D) {p : Pt} (h : p ∈ nearL A B D) : p ∈ nearL 1 0 1 := by
  have h1 := nearL_mem hg h
  have hg' := hg
  unfold gridOk at hg'
  have h2 := rowsN_mem2 (show 1 ≤ D by omega) _ _ _ h
  have ha := near_all
  rw [List.all_eq_true] at ha
  have hb := ha p.1.toNat (by rw [List.mem_range]; omega)
  rw [List.all_eq_true] at hb
  have hc := hb (p.2 + 11).toNat (by rw [List.mem_range]; omega)
  rw [show ((p.1.toNat : Nat) : Int) = p.1 by omega, show (((p.2 + 11).toNat : Nat) : Int) - 11 = p.2 by omega] at hc
  simp only [Bool.or_eq_true, decide_eq_true_eq] at hc
  rcases hc with hc | hc
  · omega
  · exact hc
theorem avoid_iff {ps : List Pt} {A B D : Int} (hg : gridOk A B D) : avoidB (collL ps 1 0 1) A B D = true ↔ collL ps A B D = [] := by
  unfold avoidB
  rw [List.all_eq_true]
  constructor
  · intro h
    unfold collL
    rw [List.filter_eq_nil_iff]
    intro p hp hc
    have := h p hp
    simp only [decide_eq_true_eq] at this
    exact this (List.mem_filter.2 ⟨near_one hg hp, hc⟩)
  · intro h p hp
    simp only [decide_eq_true_eq]
    intro hm
    unfold collL at h
    rw [List.filter_eq_nil_iff] at h
    exact h p hp (List.mem_filter.1 hm).2
def gridB (A B D : Int) : Bool := decide (1 ≤ A) && decide (A ≤ 400) && decide (1 ≤ D) && decide (D ≤ 400) && decide (0 ≤ B) && decide (B < D)
theorem gridB_iff {A B D : Int} : gridB A B D = true ↔ (1 ≤ A ∧ A ≤ 400 ∧ 1 ≤ D ∧ D ≤ 400 ∧ 0 ≤ B ∧ B < D) := by
  simp only [gridB, Bool.and_eq_true, decide_eq_true_eq]
  omega
theorem gridB_ok {A B D : Int} (h : gridB A B D = true) : gridOk A B D := by
  rw [gridB_iff] at h
  unfold gridOk
  omega
theorem gridB_false {A B D : Int} (h : ¬ (1 ≤ A ∧ A ≤ 400 ∧ 1 ≤ D ∧ D ≤ 400 ∧ 0 ≤ B ∧ B < D)) : gridB A B D = false := by
  rw [Bool.eq_false_iff]; intro h2; exact h (gridB_iff.1 h2)
theorem isGrid_c (A B D : Int) (w : World) : Calls Try.prog 42 #[gridV A B D] w fun e w' => e = .returned (.bool (gridB A B D)) ∧ Ext w w' := by
  have hE := Lib.hid (Ext.alloc (Ext.refl w) (.cells #[.int .i64 A, .int .i64 B, .int .i64 D] 24))
  unfold gridV
  by_cases h1 : 1 ≤ A
  · by_cases h2 : A ≤ 400
    · by_cases h3 : 1 ≤ D
      · by_cases h4 : D ≤ 400
        · by_cases h5 : 0 ≤ B
          · by_cases h6 : B < D
            · rw [show gridB A B D = true from gridB_iff.2 ⟨h1, h2, h3, h4, h5, h6⟩]
              go_enter Try.func42, Try.ntmps42
              go_wp2
              go_ret
              exact ⟨rfl, hE.out⟩
            · rw [gridB_false (fun h => h6 h.2.2.2.2.2)]
              go_enter Try.func42, Try.ntmps42
              go_wp2
              go_ret
              exact ⟨rfl, hE.out⟩
          · rw [gridB_false (fun h => h5 h.2.2.2.2.1)]
            go_enter Try.func42, Try.ntmps42
            go_wp2
            go_ret
            exact ⟨rfl, hE.out⟩
        · rw [gridB_false (fun h => h4 h.2.2.2.1)]
          go_enter Try.func42, Try.ntmps42
          go_wp2
          go_ret
          exact ⟨rfl, hE.out⟩
      · rw [gridB_false (fun h => h3 h.2.2.1)]
        go_enter Try.func42, Try.ntmps42
        go_wp2
        go_ret
        exact ⟨rfl, hE.out⟩
    · rw [gridB_false (fun h => h2 h.2.1)]
      go_enter Try.func42, Try.ntmps42
      go_wp2
      go_ret
      exact ⟨rfl, hE.out⟩
  · rw [gridB_false (fun h => h1 h.1)]
    go_enter Try.func42, Try.ntmps42
    go_wp2
    go_ret
    exact ⟨rfl, hE.out⟩
theorem setD_size {ks : List Pt} (hk : ∀ q ∈ ks, nearPt q) : (Maps.size (setD ks) = 0) ↔ ks = [] := by
  constructor
  · intro h
    cases ks with
    | nil => rfl
    | cons p r =>
      have hh := setD_has hk (hk p List.mem_cons_self)
      rw [decide_eq_true (show p ∈ p :: r from List.mem_cons_self)] at hh
      obtain ⟨es, he⟩ : IsMap (setD (p :: r)) := (tidy_setOf _ _ (fun x hx => by rw [List.mem_map] at hx; obtain ⟨q, _, rfl⟩ := hx; exact keyL_lit q)).isMap
      rw [he] at hh h
      rw [has_eq] at hh
      rw [size_eq] at h
      have : es = [] := List.length_eq_zero_iff.1 h
      rw [this] at hh
      simp at hh
  · rintro rfl
    rfl
def admR (ps : List Pt) (A B D : Int) : Ending := if blankB ps = true ∧ gridB A B D = true then two (.bool (decide (collL ps A B D = []))) (.int .i64 0) else two (.bool false) (.int .i64 2)
set_option maxHeartbeats 1000000 in
theorem Admissible_c (v : Value) (ps : List Pt) (A B D : Int) (w : World) (hv : Vecs w v ps) :
    Calls Try.prog 16 #[v, gridV A B D] w fun e w' => e = admR ps A B D ∧ Ext w w' := by
  obtain ⟨a, cap, rfl, hl, hm, _⟩ := hv.at
  have hE0 := Ext.alloc (Ext.refl w) (.cells #[.int .i64 A, .int .i64 B, .int .i64 D] 24)
  have HV := Lib.hid (hv.ext hE0)
  have HE0 := Lib.hid hE0
  have HB := Lib.hid (show VRow (w.alloc (.cells #[.int .i64 A, .int .i64 B, .int .i64 D] 24)) _ _ _ from vrow_alloc w [.int .i64 A, .int .i64 B, .int .i64 D] 24)
  clear hv hE0
  cases hf : blankB ps with
  | false =>
    have HR := Lib.hid (show admR ps A B D = two (.bool false) (.int .i64 2) by simp [admR, hf])
    generalize admR ps A B D = R at *
    have Hf := Lib.hid hf
    clear hf
    unfold gridV
    go_enter Try.func16, Try.ntmps16
    go_wp2_with fail
    refine (isBlank_c _ ps _ HV.out).mono ?_
    rintro e w2 ⟨rfl, hE⟩
    rw [Hf.out]
    go_wp2_with fail
    go_ret2
    exact ⟨HR.out.symm, Ext.trans HE0.out hE⟩
  | true =>
    cases hg : gridB A B D with
    | false =>
      have HR := Lib.hid (show admR ps A B D = two (.bool false) (.int .i64 2) by simp [admR, hg])
      generalize admR ps A B D = R at *
      have Hf := Lib.hid hf
      have Hg := Lib.hid hg
      clear hf hg
      unfold gridV
      go_enter Try.func16, Try.ntmps16
      go_wp2_with fail
      refine (isBlank_c _ ps _ HV.out).mono ?_
      rintro e w2 ⟨rfl, hE⟩
      rw [Hf.out]
      have hb := VRow.ext HB.out hE
      have b0 := VRow.cell hb (k := 0) rfl
      have b1 := VRow.cell hb (k := 1) rfl
      have b2 := VRow.cell hb (k := 2) rfl
      go_wp2_with fail
      clear b0 b1 b2
      refine (show Calls Try.prog 42 #[gridV A B D] w2 _ from isGrid_c A B D w2).mono ?_
      rintro e w3 ⟨rfl, hE3⟩
      rw [Hg.out]
      go_wp2_with fail
      go_ret2
      exact ⟨HR.out.symm, Ext.trans HE0.out (Ext.trans hE hE3)⟩
    | true =>
      have HR := Lib.hid (show admR ps A B D = two (.bool (decide (collL ps A B D = []))) (.int .i64 0) by simp [admR, hf, hg])
      generalize admR ps A B D = R at *
      have Hf := Lib.hid hf
      have Hg := Lib.hid hg
      have HGO := Lib.hid (gridB_ok hg)
      clear hf hg
      unfold gridV
      go_enter Try.func16, Try.ntmps16
      go_wp2_with fail
      refine (isBlank_c _ ps _ HV.out).mono ?_
      rintro e w2 ⟨rfl, hE⟩
      rw [Hf.out]
      have hb := VRow.ext HB.out hE
      have b0 := VRow.cell hb (k := 0) rfl
      have b1 := VRow.cell hb (k := 1) rfl
      have b2 := VRow.cell hb (k := 2) rfl
      go_wp2_with fail
      clear b0 b1 b2
      refine (show Calls Try.prog 42 #[gridV A B D] w2 _ from isGrid_c A B D w2).mono ?_
      rintro e w3 ⟨rfl, hE3⟩
      rw [Hg.out]
      have hb3 := VRow.ext hb hE3
      have HV3 := Lib.hid (HV.out.ext (Ext.trans hE hE3))
      have HE3 := Lib.hid (Ext.trans HE0.out (Ext.trans hE hE3))
      have b0 := VRow.cell hb3 (k := 0) rfl
      have b1 := VRow.cell hb3 (k := 1) rfl
      have b2 := VRow.cell hb3 (k := 2) rfl
      clear hE hE3 hb hb3
      go_wp2_with fail
      clear b0 b1 b2
      refine (show Calls Try.prog 43 #[.slice a ps.length cap, gridV A B D] w3 _ from collisions_c _ ps A B D w3 HV3.out Hf.out HGO.out).mono ?_
      rintro e w4 ⟨b, rfl, hB4, _, hE4⟩
      have HB4 := Lib.hid hB4
      have HE4 := Lib.hid (Ext.trans HE3.out hE4)
      have HSZ := Lib.hid (setD_size (ks := collL ps A B D) (fun q hq => near_pt (nearL_mem HGO.out (List.mem_filter.1 hq).1)))
      clear hB4 hE4 HE3
      go_wp2_with (refine wpList_len_own _ rfl _ 71 rfl 31 4 Try.underlying71 (plainElem Try.prog 4) b (collL ps A B D).length (setD (collL ps A B D)) rfl HB4.out ?_)
      go_ret2
      refine ⟨?_, HE4.out⟩
      rw [HR.out]
      unfold two
      congr 4
      by_cases h : collL ps A B D = []
      · rw [decide_eq_true h, HSZ.out.2 h]; rfl
      · have : Maps.size (setD (collL ps A B D)) ≠ 0 := fun h2 => h (HSZ.out.1 h2)
        rw [decide_eq_false h]
        simp
        omega
end Go.Proofs.Ytnpebfchojalcaa
