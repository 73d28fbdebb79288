import Derived.Test.YtnpebfchojalcaaV14
import Derived.Test.YtnpebfchojalcaaQ1
namespace Go.Proofs.Ytnpebfchojalcaa
set_option maxRecDepth 100000
open Go.RowKit Go.Shelf
/-- the cells of items -/
def TripAt (w : World) (b off : Nat) (ts : List It) : Prop := ∀ (k : Nat) (t : It), ts[k]? = some t → w.cell? ⟨b, off + k * 3, none⟩ = some (.int .i64 t.1) ∧ w.cell? ⟨b, off + k * 3 + 1, none⟩ = some (.int .i64 t.2.1) ∧ w.cell? ⟨b, off + k * 3 + 2, none⟩ = some (.int .i64 t.2.2)
/-- A slice that reads as these items. -/
def Items (w : World) (v : Value) (ts : List It) : Prop :=
  ∃ a cap, v = .slice a ts.length cap ∧ ts.length ≤ cap ∧ cap ≤ 9223372036854775807 ∧ (ts = [] ∨ ∃ b off, a = some ⟨b, off, none⟩ ∧ TripAt w b off ts)
theorem TripAt.ext {w w' : World} {b off : Nat} {ts : List It} (h : TripAt w b off ts) (he : Ext w w') : TripAt w' b off ts := fun k p hk => ⟨Ext.cell he (h k p hk).1, Ext.cell he (h k p hk).2.1, Ext.cell he (h k p hk).2.2⟩
theorem Items.ext {w w' : World} {v : Value} {ts : List It} (h : Items w v ts) (he : Ext w w') : Items w' v ts := by
  obtain ⟨a, cap, hv, hl, hm, hr⟩ := h
  refine ⟨a, cap, hv, hl, hm, ?_⟩
  rcases hr with hr | ⟨b, off, ha, hc⟩
  · exact .inl hr
  · exact .inr ⟨b, off, ha, hc.ext he⟩
theorem Items.at {w : World} {v : Value} {ts : List It} (h : Items w v ts) : ∃ a cap, v = .slice a ts.length cap ∧ ts.length ≤ cap ∧ cap ≤ 9223372036854775807 ∧
    ∀ (k : Nat) (t : It), ts[k]? = some t → ∃ b off, a = some ⟨b, off, none⟩ ∧ w.cell? ⟨b, off + k * 3, none⟩ = some (.int .i64 t.1) ∧ w.cell? ⟨b, off + k * 3 + 1, none⟩ = some (.int .i64 t.2.1) ∧ w.cell? ⟨b, off + k * 3 + 2, none⟩ = some (.int .i64 t.2.2) := by
  obtain ⟨a, cap, hv, hl, hm, hr⟩ := h
  refine ⟨a, cap, hv, hl, hm, fun k p hk => ?_⟩
  rcases hr with hr | ⟨b, off, ha, hc⟩
  · subst hr; simp at hk
  · exact ⟨b, off, ha, hc k p hk⟩
def sheetB (w h : Int) : Bool := decide (1 ≤ w) && decide (w ≤ 100) && decide (1 ≤ h) && decide (h ≤ 100)
theorem sheet_in {w h : Int} (e : sheetB w h = true) : 1 ≤ w ∧ w ≤ 100 ∧ 1 ≤ h ∧ h ≤ 100 := by
  simp only [sheetB, Bool.and_eq_true, decide_eq_true_eq] at e
  omega
theorem sheet_out {w h : Int} (e : ¬ (1 ≤ w ∧ w ≤ 100 ∧ 1 ≤ h ∧ h ≤ 100)) : sheetB w h = false := by
  rw [Bool.eq_false_iff]; intro h; exact e (sheet_in h)
theorem sheet_ok {w h : Int} (e : 1 ≤ w ∧ w ≤ 100 ∧ 1 ≤ h ∧ h ≤ 100) : sheetB w h = true := by
  simp only [sheetB, Bool.and_eq_true, decide_eq_true_eq]
  omega
theorem isSheet_c (x y : Int) (w : World) : Calls Try.prog 57 #[.int .i64 x, .int .i64 y] w fun e w' => e = .returned (.bool (sheetB x y)) ∧ w = w' := by
  by_cases h1 : 1 ≤ x
  · by_cases h2 : x ≤ 100
    · by_cases h3 : 1 ≤ y
      · by_cases h4 : y ≤ 100
        · rw [sheet_ok ⟨h1, h2, h3, h4⟩]
          go_enter Try.func57, Try.ntmps57
          go_wp2
          go_ret
          exact ⟨rfl, rfl⟩
        · rw [sheet_out (fun h => h4 h.2.2.2)]
          go_enter Try.func57, Try.ntmps57
          go_wp2
          go_ret
          exact ⟨rfl, rfl⟩
      · rw [sheet_out (fun h => h3 h.2.2.1)]
        go_enter Try.func57, Try.ntmps57
        go_wp2
        go_ret
        exact ⟨rfl, rfl⟩
    · rw [sheet_out (fun h => h2 h.2.1)]
      go_enter Try.func57, Try.ntmps57
      go_wp2
      go_ret
      exact ⟨rfl, rfl⟩
  · rw [sheet_out (fun h => h1 h.1)]
    go_enter Try.func57, Try.ntmps57
    go_wp2
    go_ret
    exact ⟨rfl, rfl⟩
def itemB (t : It) : Bool := sheetB t.1 t.2.1 && decide (1 ≤ t.2.2) && decide (t.2.2 ≤ 1048576)
def ordZ (x y : Int) (ts : List It) : Int := if sheetB x y = false then 2 else if 10 < ts.length then 3 else if ts.all itemB = true then 0 else 2
set_option maxHeartbeats 1000000 in
theorem order_c (x y : Int) (v : Value) (ts : List It) (w : World) (hv : Items w v ts) : Calls Try.prog 61 #[.int .i64 x, .int .i64 y, v] w fun e w' => e = .returned (.int .i64 (ordZ x y ts)) ∧ Ext w w' := by
  obtain ⟨a, cap, rfl, hl, hm, hr⟩ := hv.at
  have HR := Lib.hid hr
  clear hv hr
  cases hs : sheetB x y with
  | false =>
    have HO := Lib.hid (show ordZ x y ts = 2 by simp [ordZ, hs])
    generalize ordZ x y ts = z at *
    have Hs := Lib.hid hs
    clear hs
    go_enter Try.func61, Try.ntmps61
    go_wp2_with fail
    refine (isSheet_c x y w).mono ?_
    rintro e w2 ⟨rfl, rfl⟩
    rw [Hs.out]
    go_wp2_with fail
    go_ret
    exact ⟨ret_int HO.out.symm, Ext.refl _⟩
  | true =>
    by_cases hn : 10 < ts.length
    · have HO := Lib.hid (show ordZ x y ts = 3 by simp [ordZ, hs, hn])
      generalize ordZ x y ts = z at *
      have Hs := Lib.hid hs
      clear hs
      go_enter Try.func61, Try.ntmps61
      go_wp2_with fail
      refine (isSheet_c x y w).mono ?_
      rintro e w2 ⟨rfl, rfl⟩
      rw [Hs.out]
      go_wp2_with fail
      go_ret
      exact ⟨ret_int HO.out.symm, Ext.refl _⟩
    · have HO := Lib.hid (show ordZ x y ts = if ts.all itemB = true then 0 else 2 by simp [ordZ, hs, hn])
      generalize ordZ x y ts = z at *
      have Hs := Lib.hid hs
      clear hs
      go_enter Try.func61, Try.ntmps61
      go_wp2_with fail
      refine (isSheet_c x y w).mono ?_
      rintro e w2 ⟨rfl, rfl⟩
      rw [Hs.out]
      go_wp2_with fail
      go_loopw [18] (fun i wr => ∃ k : Nat, k ≤ ts.length ∧ (ts.take k).all itemB = true ∧ i = .int .i64 k ∧ Ext w wr) (fun i _ => ts.length - (intOf i).toNat)
      case atStart => exact ⟨0, Nat.zero_le _, rfl, rfl, Ext.refl _⟩
      case round =>
        obtain ⟨k, hk, hall, rfl, hE⟩ := hrel
        have Hall := Lib.hid hall
        have HE := Lib.hid hE
        clear hall hE
        by_cases hlt : k < ts.length
        · obtain ⟨t, ht⟩ := getElem?_len hlt
          obtain ⟨b, o, rfl, hc0, hc1, hc2⟩ := HR.out k t ht
          replace hc0 := Ext.cell HE.out hc0
          replace hc1 := Ext.cell HE.out hc1
          replace hc2 := Ext.cell HE.out hc2
          have Ht := Lib.hid ht
          have hbs := cell_lt hc0
          clear ht
          obtain ⟨t1, t2, t3⟩ := t
          simp only at hc0 hc1 hc2
          go_wp2_with fail
          have hE2 := Ext.alloc HE.out (.cells #[.int .i64 t1, .int .i64 t2, .int .i64 t3] 53)
          have HE2 := Lib.hid hE2
          clear hE2 hc0 hc1 hc2
          refine (isSheet_c t1 t2 _).mono ?_
          rintro e w3 ⟨rfl, rfl⟩
          cases hsh : sheetB t1 t2 with
          | false =>
            have HI := Lib.hid (show itemB (t1, t2, t3) = false by simp [itemB, hsh])
            have Hsh := Lib.hid hsh
            clear hsh
            go_wp2_with fail
            go_ret
            exact ⟨ret_int (by rw [HO.out, all_false Ht.out HI.out]; rfl), HE2.out⟩
          | true =>
            have Hsh := Lib.hid hsh
            by_cases h1 : t3 < 1
            · have HI := Lib.hid (show itemB (t1, t2, t3) = false by simp only [itemB]; rw [decide_eq_false (show ¬ 1 ≤ t3 by omega)]; simp)
              clear hsh
              go_wp2_with fail
              go_ret
              exact ⟨ret_int (by rw [HO.out, all_false Ht.out HI.out]; rfl), HE2.out⟩
            · by_cases h2 : 1048576 < t3
              · have HI := Lib.hid (show itemB (t1, t2, t3) = false by simp only [itemB]; rw [decide_eq_false (show ¬ t3 ≤ 1048576 by omega)]; simp)
                clear hsh
                go_wp2_with fail
                go_ret
                exact ⟨ret_int (by rw [HO.out, all_false Ht.out HI.out]; rfl), HE2.out⟩
              · have HI := Lib.hid (show itemB (t1, t2, t3) = true by simp only [itemB]; rw [hsh, decide_eq_true (show 1 ≤ t3 by omega), decide_eq_true (show t3 ≤ 1048576 by omega)]; rfl)
                clear hsh
                go_wp2_with fail
                exact ⟨⟨k + 1, by omega, all_take_succ Ht.out Hall.out HI.out, by simp, HE2.out⟩, by simp [intOf]; omega⟩
        · obtain rfl : k = ts.length := by omega
          go_wp2_with fail
          go_ret
          exact ⟨ret_int (by rw [HO.out, all_done (Nat.le_refl _) Hall.out]; rfl), HE.out⟩
end Go.Proofs.Ytnpebfchojalcaa
