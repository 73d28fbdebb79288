import Derived.Test.YtnpebfchojalcaaC1
namespace Go.Proofs.Ytnpebfchojalcaa
set_option maxRecDepth 100000
open Go.RowKit Go.Shelf
/-- The reader's test of a side. -/
def sideB (n : Int) : Bool := decide (1 ≤ n) && decide (n ≤ 100)
theorem side_ok {n : Int} (h1 : 1 ≤ n) (h2 : n ≤ 100) : sideB n = true := by simp [sideB, h1, h2]
theorem side_low {n : Int} (h1 : ¬ 1 ≤ n) : sideB n = false := by simp [sideB, h1]
theorem side_high {n : Int} (h2 : ¬ n ≤ 100) : sideB n = false := by simp [sideB, h2]
theorem sheet_sides (x y : Int) : sheetB x y = (sideB x && sideB y) := by
  simp only [sheetB, sideB, Bool.and_assoc]
theorem rsheet_c (x : Int) (w : World) : Calls Try.prog 64 #[.int .i64 x] w fun e w' => e = .returned (.bool (sideB x)) ∧ w = w' := by
  by_cases h1 : 1 ≤ x
  · by_cases h2 : x ≤ 100
    · rw [side_ok h1 h2]
      go_enter Try.func64, Try.ntmps64
      go_wp2
      go_ret
      exact ⟨rfl, rfl⟩
    · rw [side_high h2]
      go_enter Try.func64, Try.ntmps64
      go_wp2
      go_ret
      exact ⟨rfl, rfl⟩
  · rw [side_low h1]
    go_enter Try.func64, Try.ntmps64
    go_wp2
    go_ret
    exact ⟨rfl, rfl⟩
set_option maxHeartbeats 1000000 in
theorem rorder_c (x y : Int) (v : Value) (ts : List It) (w : World) (hv : Items w v ts) : Calls Try.prog 29 #[.int .i64 x, .int .i64 y, v] w fun e w' => e = .returned (.int .i64 (ordZ x y ts)) ∧ Ext w w' := by
  obtain ⟨a, cap, rfl, hl, hm, hr⟩ := hv.at
  have HR := Lib.hid hr
  clear hv hr
  cases hx : sideB x with
  | false =>
    have HO := Lib.hid (show ordZ x y ts = 2 by simp [ordZ, sheet_sides, hx])
    generalize ordZ x y ts = z at *
    have Hx := Lib.hid hx
    clear hx
    go_enter Try.func29, Try.ntmps29
    go_wp2_with fail
    refine (rsheet_c x _).mono ?_
    rintro e w3 ⟨rfl, rfl⟩
    rw [Hx.out]
    go_wp2_with fail
    go_ret
    exact ⟨ret_int HO.out.symm, Ext.refl _⟩
  | true =>
    cases hy : sideB y with
    | false =>
      have HO := Lib.hid (show ordZ x y ts = 2 by simp [ordZ, sheet_sides, hx, hy])
      generalize ordZ x y ts = z at *
      have Hx := Lib.hid hx
      have Hy := Lib.hid hy
      clear hx hy
      go_enter Try.func29, Try.ntmps29
      go_wp2_with fail
      refine (rsheet_c x _).mono ?_
      rintro e w3 ⟨rfl, rfl⟩
      rw [Hx.out]
      go_wp2_with fail
      refine (rsheet_c y _).mono ?_
      rintro e w3 ⟨rfl, rfl⟩
      rw [Hy.out]
      go_wp2_with fail
      go_ret
      exact ⟨ret_int HO.out.symm, Ext.refl _⟩
    | true =>
      by_cases hn : 10 < ts.length
      · have HO := Lib.hid (show ordZ x y ts = 3 by simp [ordZ, sheet_sides, hx, hy, hn])
        generalize ordZ x y ts = z at *
        have Hx := Lib.hid hx
        have Hy := Lib.hid hy
        clear hx hy
        go_enter Try.func29, Try.ntmps29
        go_wp2_with fail
        refine (rsheet_c x _).mono ?_
        rintro e w3 ⟨rfl, rfl⟩
        rw [Hx.out]
        go_wp2_with fail
        refine (rsheet_c y _).mono ?_
        rintro e w3 ⟨rfl, rfl⟩
        rw [Hy.out]
        go_wp2_with fail
        go_ret
        exact ⟨ret_int HO.out.symm, Ext.refl _⟩
      · have HO := Lib.hid (show ordZ x y ts = if ts.all itemB = true then 0 else 2 by simp [ordZ, sheet_sides, hx, hy, hn])
        generalize ordZ x y ts = z at *
        have Hx := Lib.hid hx
        have Hy := Lib.hid hy
        clear hx hy
        go_enter Try.func29, Try.ntmps29
        go_wp2_with fail
        refine (rsheet_c x _).mono ?_
        rintro e w3 ⟨rfl, rfl⟩
        rw [Hx.out]
        go_wp2_with fail
        refine (rsheet_c y _).mono ?_
        rintro e w3 ⟨rfl, rfl⟩
        rw [Hy.out]
        go_wp2_with fail
        go_loopw [7] (fun i wr => ∃ k : Nat, k ≤ ts.length ∧ (ts.take k).all itemB = true ∧ i = .int .i64 k ∧ Ext w wr) (fun i _ => ts.length - (intOf i).toNat)
        case atStart => exact ⟨0, Nat.zero_le _, rfl, rfl, Ext.refl _⟩
        case round =>
          obtain ⟨k, hk, hall, rfl, hE⟩ := hrel
          have Hall := Lib.hid hall
          have HE := Lib.hid hE
          clear hall hE
          by_cases hlt : k < ts.length
          · obtain ⟨t, ht⟩ := getElem?_len hlt
            obtain ⟨b, o, rfl, hc0, hc1, hc2⟩ := HR.out k t ht
            replace hc0 := Ext.cell HE.out hc0
            replace hc1 := Ext.cell HE.out hc1
            replace hc2 := Ext.cell HE.out hc2
            have Ht := Lib.hid ht
            have hbs := cell_lt hc0
            clear ht
            obtain ⟨t1, t2, t3⟩ := t
            simp only at hc0 hc1 hc2
            cases h1 : sideB t1 with
            | false =>
              have HI := Lib.hid (show itemB (t1, t2, t3) = false by simp [itemB, sheet_sides, h1])
              have H1 := Lib.hid h1
              clear h1
              go_wp2_with fail
              refine (rsheet_c t1 _).mono ?_
              rintro e w3 ⟨rfl, rfl⟩
              rw [H1.out]
              go_wp2_with fail
              go_ret
              exact ⟨ret_int (by rw [HO.out, all_false Ht.out HI.out]; rfl), HE.out⟩
            | true =>
              cases h2 : sideB t2 with
              | false =>
                have HI := Lib.hid (show itemB (t1, t2, t3) = false by simp [itemB, sheet_sides, h2])
                have H1 := Lib.hid h1
                have H2 := Lib.hid h2
                clear h1 h2
                go_wp2_with fail
                refine (rsheet_c t1 _).mono ?_
                rintro e w3 ⟨rfl, rfl⟩
                rw [H1.out]
                go_wp2_with fail
                refine (rsheet_c t2 _).mono ?_
                rintro e w3 ⟨rfl, rfl⟩
                rw [H2.out]
                go_wp2_with fail
                go_ret
                exact ⟨ret_int (by rw [HO.out, all_false Ht.out HI.out]; rfl), HE.out⟩
              | true =>
                by_cases h3 : t3 < 1
                · have HI := Lib.hid (show itemB (t1, t2, t3) = false by simp only [itemB]; rw [decide_eq_false (show ¬ 1 ≤ t3 by omega)]; simp)
                  have H1 := Lib.hid h1
                  have H2 := Lib.hid h2
                  clear h1 h2
                  go_wp2_with fail
                  refine (rsheet_c t1 _).mono ?_
                  rintro e w3 ⟨rfl, rfl⟩
                  rw [H1.out]
                  go_wp2_with fail
                  refine (rsheet_c t2 _).mono ?_
                  rintro e w3 ⟨rfl, rfl⟩
                  rw [H2.out]
                  go_wp2_with fail
                  go_ret
                  exact ⟨ret_int (by rw [HO.out, all_false Ht.out HI.out]; rfl), HE.out⟩
                · by_cases h4 : 1048576 < t3
                  · have HI := Lib.hid (show itemB (t1, t2, t3) = false by simp only [itemB]; rw [decide_eq_false (show ¬ t3 ≤ 1048576 by omega)]; simp)
                    have H1 := Lib.hid h1
                    have H2 := Lib.hid h2
                    clear h1 h2
                    go_wp2_with fail
                    refine (rsheet_c t1 _).mono ?_
                    rintro e w3 ⟨rfl, rfl⟩
                    rw [H1.out]
                    go_wp2_with fail
                    refine (rsheet_c t2 _).mono ?_
                    rintro e w3 ⟨rfl, rfl⟩
                    rw [H2.out]
                    go_wp2_with fail
                    go_ret
                    exact ⟨ret_int (by rw [HO.out, all_false Ht.out HI.out]; rfl), HE.out⟩
                  · have HI := Lib.hid (show itemB (t1, t2, t3) = true by simp only [itemB, sheet_sides]; rw [h1, h2, decide_eq_true (show 1 ≤ t3 by omega), decide_eq_true (show t3 ≤ 1048576 by omega)]; rfl)
                    have H1 := Lib.hid h1
                    have H2 := Lib.hid h2
                    clear h1 h2
                    go_wp2_with fail
                    refine (rsheet_c t1 _).mono ?_
                    rintro e w3 ⟨rfl, rfl⟩
                    rw [H1.out]
                    go_wp2_with fail
                    refine (rsheet_c t2 _).mono ?_
                    rintro e w3 ⟨rfl, rfl⟩
                    rw [H2.out]
                    go_wp2_with fail
                    exact ⟨⟨k + 1, by omega, all_take_succ Ht.out Hall.out HI.out, by simp, HE.out⟩, by simp [intOf]; omega⟩
          · obtain rfl : k = ts.length := by omega
            go_wp2_with fail
            go_ret
            exact ⟨ret_int (by rw [HO.out, all_done (Nat.le_refl _) Hall.out]; rfl), HE.out⟩
end Go.Proofs.Ytnpebfchojalcaa
