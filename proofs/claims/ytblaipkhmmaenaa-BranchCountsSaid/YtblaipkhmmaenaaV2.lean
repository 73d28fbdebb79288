import Derived.Test.YtblaipkhmmaenaaM3
import Derived.Test.YtblaipkhmmaenaaD2
import Derived.Test.YtblaipkhmmaenaaB6
import Derived.Test.YtblaipkhmmaenaaL4
import Derived.Test.YtblaipkhmmaenaaM4
import Derived.Deep.AppendLies
import Derived.Deep.RegionLaw
namespace Go.Proofs.Ytblaipkhmmaenaa
open Go.RowKit
def MoreI (p : Who) (w6 : World) (sa sb sc : Value) (k : Nat) (vu : Value) (W : World) : Prop :=
  VRow W w6.heap.size 25 [sa, sb, sc, vu] ∧ W.ownsRow (w6.heap.size + 1) 3 1 vu k (((moreU p.U).take k).map (.int .i64)) ∧ Ext w6 W ∧ w6.heap.size + 1 ≤ W.heap.size
theorem new_one (W : World) (x : Value) (t : TypeId) : ∀ j u, [x][j]? = some u → (W.alloc (.cells #[x] t)).cell? ((⟨W.heap.size, 0, none⟩ : Addr).add j) = some u := by
  intro j u hj
  match j, hj with
  | 0, hj =>
    simp only [List.getElem?_cons_zero, Option.some.injEq] at hj
    subst hj
    exact VRow.cell (vrow_alloc W [x] t) (k := 0) rfl
  | j + 1, hj => simp at hj
theorem grow_keep {w W : World} {m n : Nat} {v : Value} {xs vs : List Value} (hown : W.ownsRow (m + 1) 3 1 v n xs) (hg : W.grownBy w v.ownBlock) (hv : VRow W m 25 vs) : VRow w m 25 vs :=
  hv.grown hg (fun e => by have := hown.lt m e.symm; omega)
theorem grow_ext {w0 w W : World} {n : Nat} {v : Value} {xs : List Value} (hown : W.ownsRow (w0.heap.size + 1) 3 1 v n xs) (hg : W.grownBy w v.ownBlock) (he : Ext w0 W) (hs : w0.heap.size ≤ W.heap.size) : Ext w0 w :=
  Below.grown he hg hs (fun k e => by have := hown.lt k e; omega)
theorem more_step {p : Who} {w6 w8 : World} {sa sb sc vu x : Value} {k : Nat} {z : Int} (hz : p.U[k]? = some z) (hv : VRow w8 w6.heap.size 25 [sa, sb, sc, vu])
    (ho : w8.ownsRow (w6.heap.size + 1) 3 1 x (k + 1) (((moreU p.U).take k).map (Value.int .i64) ++ [.int .i64 (if 7 < z + 1 then 7 else z + 1)])) (he : Ext w6 w8) :
    MoreI p w6 sa sb sc (k + 1) x (w8.setCell ⟨w6.heap.size, 3, none⟩ x) := by
  have e : (moreU p.U)[k]? = some (if 7 < z + 1 then 7 else z + 1) := by
    simp only [moreU, List.getElem?_map, hz, Option.map_some, Option.some.injEq]
    split <;> omega
  refine ⟨VRow.set hv 3 x, ?_, Below.setCell he (Nat.le_refl _) x, ?_⟩
  · rw [take_succ_get e, List.map_append]
    exact ownsRow_setCell_below ho (Nat.lt_succ_self _) x
  · have := hv.lt
    simp
    omega
set_option maxRecDepth 100000 in
set_option maxHeartbeats 4000000 in
theorem counts_c (a b c u : Value) (l r : Int) (p : Who) (w : World) (h : WhoAt w a b c u p) :
    Calls Try.prog 8 #[.agg #[a, b, c, u], .int .i64 l, .int .i64 r] w fun e w' => e = .returned (.bool true) ∧ Ext w w' := by
  obtain ⟨aa, ca, rfl, hac, ham, _⟩ := h.1.1.at
  obtain ⟨ab, cb, rfl, hbc, hbm, _⟩ := h.1.2.1.at
  obtain ⟨ac, cc, rfl, hcc, hcm, _⟩ := h.1.2.2.at
  obtain ⟨au, cu, rfl, huc, hum, _⟩ := h.2.at
  dsimp only at *
  obtain ⟨h0, h1, h2⟩ := who_box h
  have q0 := VRow.cell h0 (k := 0) rfl
  have q1 := VRow.cell h0 (k := 1) rfl
  have q2 := VRow.cell h0 (k := 2) rfl
  have q3 := VRow.cell h0 (k := 3) rfl
  change (w.alloc (.cells #[.slice aa p.A.length ca, .slice ab p.B.length cb, .slice ac p.C.length cc, .slice au p.U.length cu] 25)).cell? _ = _ at q0 q1 q2 q3
  have HV := Lib.hid h0
  have HW := Lib.hid h1
  have HE := Lib.hid h2
  clear h h0 h1 h2
  go_enter Try.func8, Try.ntmps8
  go_wp2_with fail
  clear q0 q1 q2 q3
  generalize w.alloc (.cells #[.slice aa p.A.length ca, .slice ab p.B.length cb, .slice ac p.C.length cc, .slice au p.U.length cu] 25) = w1 at *
  refine (light_c _ _ _ _ p _ HW.out).mono ?_
  rintro e w2 ⟨rfl, hE2⟩
  have HV2 := Lib.hid (VRow.ext HV.out hE2)
  have HW2 := Lib.hid (HW.out.ext hE2)
  have HE2 := Lib.hid (HE.out.trans hE2)
  clear HV HW HE hE2
  cases hl : lightB p
  · clear hl
    go_wp2_with fail
    refine (alive_c _).mono ?_
    rintro e w3 ⟨rfl, hE3⟩
    have HE3 := Lib.hid (HE2.out.trans hE3)
    clear hE3
    go_wp2_with fail
    go_ret
    exact ⟨rfl, HE3.out⟩
  clear hl
  have q0 := VRow.cell HV2.out (k := 0) rfl
  have q1 := VRow.cell HV2.out (k := 1) rfl
  have q2 := VRow.cell HV2.out (k := 2) rfl
  have q3 := VRow.cell HV2.out (k := 3) rfl
  go_wp2_with fail
  clear q0 q1 q2 q3
  refine (svalid_c _ _ _ _ p _ HW2.out).mono ?_
  rintro e w3 ⟨rfl, hE3⟩
  have HV3 := Lib.hid (VRow.ext HV2.out hE3)
  have HW3 := Lib.hid (HW2.out.ext hE3)
  have HE3 := Lib.hid (HE2.out.trans hE3)
  clear HV2 HW2 HE2 hE3
  cases hw : whoB p
  · clear hw
    go_wp2_with fail
    refine (alive_c _).mono ?_
    rintro e w4 ⟨rfl, hE4⟩
    have HE4 := Lib.hid (HE3.out.trans hE4)
    clear hE4
    go_wp2_with fail
    go_ret
    exact ⟨rfl, HE4.out⟩
  have Hw := Lib.hid hw
  clear hw
  have q0 := VRow.cell HV3.out (k := 0) rfl
  have q1 := VRow.cell HV3.out (k := 1) rfl
  have q2 := VRow.cell HV3.out (k := 2) rfl
  have q3 := VRow.cell HV3.out (k := 3) rfl
  rcases Int.lt_trichotomy l r with hlr | hlr | hlr
  · have hle : l ≤ r := by omega
    go_wp2_with fail
    clear q0 q1 q2 q3
    refine (count_c _ _ _ _ l p _ HW3.out).mono ?_
    rintro e w4 ⟨hE4, ⟨h, _⟩ | ⟨_, rfl⟩⟩
    · rw [Hw.out] at h; cases h
    have HV4 := Lib.hid (VRow.ext HV3.out hE4)
    have HW4 := Lib.hid (HW3.out.ext hE4)
    have HE4 := Lib.hid (HE3.out.trans hE4)
    clear HV3 HW3 HE3 hE4
    have q0 := VRow.cell HV4.out (k := 0) rfl
    have q1 := VRow.cell HV4.out (k := 1) rfl
    have q2 := VRow.cell HV4.out (k := 2) rfl
    have q3 := VRow.cell HV4.out (k := 3) rfl
    go_wp2_with fail
    clear q0 q1 q2 q3
    refine (count_c _ _ _ _ r p _ HW4.out).mono ?_
    rintro e w5 ⟨hE5, ⟨h, _⟩ | ⟨_, rfl⟩⟩
    · rw [Hw.out] at h; cases h
    have HV5 := Lib.hid (VRow.ext HV4.out hE5)
    have HW5 := Lib.hid (HW4.out.ext hE5)
    have HE5 := Lib.hid (HE4.out.trans hE5)
    clear HV4 HW4 HE4 hE5
    have q0 := VRow.cell HV5.out (k := 0) rfl
    have q1 := VRow.cell HV5.out (k := 1) rfl
    have q2 := VRow.cell HV5.out (k := 2) rfl
    have q3 := VRow.cell HV5.out (k := 3) rfl
    go_wp2_with fail
    clear q0 q1 q2 q3
    refine (solve_c _ _ _ _ p _ HW5.out).mono ?_
    rintro e w6 ⟨hE6, hS⟩
    have HV6 := Lib.hid (VRow.ext HV5.out hE6)
    have HW6 := Lib.hid (HW5.out.ext hE6)
    have HE6 := Lib.hid (HE5.out.trans hE6)
    clear HV5 HW5 HE5 hE6
    have hX0 : ¬ ((countK p l (sizeU p.U) : Nat) : Int) < 0 := by omega
    have hXY : ¬ ((countK p r (sizeU p.U) : Nat) : Int) < ((countK p l (sizeU p.U) : Nat) : Int) := by
      have := countK_mono (p := p) hle (sizeU p.U)
      omega
    rcases hS with ⟨h, _⟩ | ⟨_, hb, rfl⟩ | ⟨_, x, vx, hb, rfl, _⟩
    · rw [Hw.out] at h; cases h
    · have hc := count_none hb r
      have hc2 := count_none hb l
      rw [hc2] at hX0 hXY
      try rw [hc] at hXY
      rw [hc2]
      try rw [hc]
      clear hb hc hc2
      go_wp2_with fail
      refine (alive_c _).mono ?_
      rintro e w7 ⟨rfl, hE7⟩
      have HE7 := Lib.hid (HE6.out.trans hE7)
      clear hE7
      go_wp2_with fail
      go_ret
      exact ⟨rfl, HE7.out⟩
    have hb1 := count_best hb l
    have hb2 := count_best hb r
    have hm := count_more Hw.out r
    have g1 : 0 < countK p l (sizeU p.U) ↔ dotZ p.C x ≤ l := hb1
    have g2 : (!decide (0 < countK p r (sizeU p.U)) == decide (dotZ p.C x ≤ r)) = false := by
      by_cases h : dotZ p.C x ≤ r
      · simp [h, hb2.2 h]
      · simp [h, (not_congr hb2).2 h]
    clear hb hb1 hb2
    have HM := Lib.hid hm
    clear hm
    generalize dotZ p.C x = bc at *
    generalize countK p l (sizeU p.U) = X at *
    generalize countK p r (sizeU p.U) = Y at *
    have q0 := VRow.cell HV6.out (k := 0) rfl
    have q1 := VRow.cell HV6.out (k := 1) rfl
    have q2 := VRow.cell HV6.out (k := 2) rfl
    have q3 := VRow.cell HV6.out (k := 3) rfl
    go_wp2_with fail
    have hm0 := vrow_alloc w6 [.slice aa p.A.length ca, .slice ab p.B.length cb, .slice ac p.C.length cc, .slice none 0 0] 25
    have hmE := Ext.alloc (Ext.refl w6) (.cells #[.slice aa p.A.length ca, .slice ab p.B.length cb, .slice ac p.C.length cc, .slice none 0 0] 25)
    have hmS : (w6.alloc (.cells #[.slice aa p.A.length ca, .slice ab p.B.length cb, .slice ac p.C.length cc, .slice none 0 0] 25)).heap.size = w6.heap.size + 1 := by simp
    change VRow (w6.alloc (.cells #[.slice aa p.A.length ca, .slice ab p.B.length cb, .slice ac p.C.length cc, .slice none 0 0] 25)) _ _ _ at hm0
    have HM0 := Lib.hid hm0
    have HME := Lib.hid hmE
    clear q0 q1 q2 q3 hm0 hmE g1 g2 hX0 hXY
    generalize w6.alloc (.cells #[.slice aa p.A.length ca, .slice ab p.B.length cb, .slice ac p.C.length cc, .slice none 0 0] 25) = w7 at *
    have hU5 : p.U.length ≤ 5 := by have := whoP Hw.out; omega
    go_loopw [17] (fun i wr => ∃ (k : Nat) (vu : Value), k ≤ p.U.length ∧ i = .int .i64 k ∧ MoreI p w6 (.slice aa p.A.length ca) (.slice ab p.B.length cb) (.slice ac p.C.length cc) k vu wr) (fun i _ => p.U.length - (intOf i).toNat)
    case atStart => exact ⟨0, _, Nat.zero_le _, rfl, HM0.out, World.ownsRow_nil _ _ _ _, HME.out, by omega⟩
    case round =>
      obtain ⟨k, vu, hk, rfl, hm1, hm2, hm3, hm4⟩ := hrel
      by_cases hlt : k < p.U.length
      · have HB := VRow.ext HV6.out hm3
        have q3 := VRow.cell HB (k := 3) rfl
        have m3 := VRow.cell hm1 (k := 3) rfl
        have mf := VRow.frozen hm1 3 none
        obtain ⟨_, _, e4, _, _, hru⟩ := (HW6.out.2.ext hm3).at
        simp only [Value.slice.injEq] at e4
        obtain ⟨rfl, _, rfl⟩ := e4
        obtain ⟨z, hz⟩ := getElem?_len hlt
        obtain ⟨bz, oz, rfl, hcz⟩ := hru k z hz
        have hz7 := (whoP Hw.out).2.2.1 z (List.mem_of_getElem? hz)
        have hwz : IntKind.i64.wrap (z + 1) = z + 1 := by simp [IntKind.wrap, IntKind.signed, IntKind.bits]; omega
        have hi1 : (k : Int) < (p.U.length : Int) := by omega
        have HM1 := Lib.hid hm1
        have HM2 := Lib.hid hm2
        have HM3 := Lib.hid hm3
        have HZ := Lib.hid hz
        obtain ⟨i0, hi, hz0, hz1, hz2⟩ := info_parts Try.info3
        clear hm1 hm2 hm3 hru HB hz
        have hbase9 : ∀ o : Obj, w6.heap.size + 1 ≤ (wr.alloc o).drew.heap.size := fun o => by show _ ≤ (wr.alloc o).heap.size; rw [World.size_alloc]; omega
        have hl91 : w6.heap.size < wr.heap.size := by omega
        have hl92 : w.heap.size < wr.heap.size := cell_lt q3
        have hl93 : bz < wr.heap.size := cell_lt hcz
        have hmax9 : k + 1 ≤ maxLen := by unfold maxLen; omega
        have hby9 : (k + 1) * 8 ≤ 140737488355328 := by omega
        have hone9 : ∀ y : Int, ∀ u ∈ [Value.int .i64 y], u.oneCell' = true := fun y u hu => by simp only [List.mem_singleton] at hu; subst hu; rfl
        have hnew9 : ∀ x : Value, ∀ j u, [x][j]? = some u → (wr.alloc (.cells #[x] 3)).drew.cell? ((⟨wr.heap.size, 0, none⟩ : Addr).add j) = some u := fun x => new_one wr x 3
        have hown9 : ∀ o : Obj, (wr.alloc o).drew.ownsRow (w6.heap.size + 1) 3 1 vu k (((moreU p.U).take k).map (.int .i64)) := fun o => World.ownsRow.alloc (w := wr) HM2.out o
        go_wp2_with fail
        go_region_law (refine step_append_lies _ rfl (.tmp 103) (.tmp 111) 23 rfl (w6.heap.size + 1) 3 i0 (.int .i64 0) 1 8 Try.underlying23 hi hz0 hz1 hz2 rfl Nat.one_pos vu k _ rfl (hown9 _) ⟨wr.heap.size, 0, none⟩ 1 1 [.int .i64 (if 7 < z + 1 then 7 else z + 1)] rfl rfl (hnew9 _) (hone9 _) Nat.one_pos hmax9 hby9 (hbase9 _) _ rfl ?_; intro g cap w8 hown8 hgrow hat hlt8; have v8 := grow_keep (hown9 _) hgrow (VRow.drew (VRow.alloc HM1.out _)); have e8 := grow_ext (hown9 _) hgrow (Below.drew (Ext.alloc HM3.out _)) (Nat.le_of_succ_le (hbase9 _)); have m38 := VRow.cell v8 (k := 3) rfl; have mf8 := VRow.frozen v8 3 none; have HO8 := Lib.hid hown8; have HV8 := Lib.hid v8; have HE8 := Lib.hid e8; clear hown8 hgrow hat v8 e8)
        all_goals ((go_wp2_with fail) <;> first | exact ⟨⟨k + 1, by omega, by go_num, Value.slice (some ⟨g, 0, none⟩) (k + 1) cap, more_step HZ.out HV8.out HO8.out HE8.out⟩, by simp [intOf]; omega⟩ | exact ⟨⟨k + 1, Value.slice (some ⟨g, 0, none⟩) (k + 1) cap, by omega, by go_num, more_step HZ.out HV8.out HO8.out HE8.out⟩, by simp [intOf]; omega⟩ | exact ⟨⟨k + 1, by omega, Value.slice (some ⟨g, 0, none⟩) (k + 1) cap, by go_num, more_step HZ.out HV8.out HO8.out HE8.out⟩, by simp [intOf]; omega⟩ | exact ⟨⟨Value.slice (some ⟨g, 0, none⟩) (k + 1) cap, k + 1, by omega, by go_num, more_step HZ.out HV8.out HO8.out HE8.out⟩, by simp [intOf]; omega⟩)
      · have hke : k = p.U.length := by omega
        subst hke
        rw [List.take_of_length_le (by simp [moreU])] at hm2
        have HB := VRow.ext HV6.out hm3
        have q0 := VRow.cell HB (k := 0) rfl
        have q1 := VRow.cell HB (k := 1) rfl
        have q2 := VRow.cell HB (k := 2) rfl
        have q3 := VRow.cell HB (k := 3) rfl
        have m0 := VRow.cell hm1 (k := 0) rfl
        have m1 := VRow.cell hm1 (k := 1) rfl
        have m2 := VRow.cell hm1 (k := 2) rfl
        have m3 := VRow.cell hm1 (k := 3) rfl
        have mf0 := VRow.frozen hm1 0 none
        have mf1 := VRow.frozen hm1 1 none
        have HM1 := Lib.hid hm1
        have HM2 := Lib.hid hm2
        have HM3 := Lib.hid hm3
        clear hm1 hm2 hm3 HB
        have hAB : p.B.length = p.A.length := (rows_len Hw.out).2
        by_cases hA : 0 < p.A.length
        · have hAi : (0 : Int) < (p.A.length : Int) := by omega
          have hBi : (1 : Int) ≤ (p.B.length : Int) := by omega
          have hAi1 : (1 : Int) ≤ (p.A.length : Int) := by omega
          have hBn : 1 ≤ p.B.length := by omega
          have hAn : 1 ≤ p.A.length := by omega
          have hBc : 1 ≤ cb := by omega
          have hAc : 1 ≤ ca := by omega
          have hSW : ∀ x y, Ext w6 ((wr.setCell ⟨w6.heap.size, 0, none⟩ x).setCell ⟨w6.heap.size, 1, none⟩ y) := fun x y => Below.setCell (p := ⟨w6.heap.size, 1, none⟩) (Below.setCell (p := ⟨w6.heap.size, 0, none⟩) HM3.out (Nat.le_refl _) x) (Nat.le_refl _) y
          have hAW : ∀ x y, Rows2 ((wr.setCell ⟨w6.heap.size, 0, none⟩ x).setCell ⟨w6.heap.size, 1, none⟩ y) (.slice aa p.A.length ca) p.A := fun x y => HW6.out.1.1.ext (hSW x y)
          have hBW : ∀ x y, Ints ((wr.setCell ⟨w6.heap.size, 0, none⟩ x).setCell ⟨w6.heap.size, 1, none⟩ y) (.slice ab p.A.length cb) p.B := fun x y => by have := HW6.out.1.2.1.ext (hSW x y); rw [← hAB]; exact this
          have hCW : ∀ x y, Ints ((wr.setCell ⟨w6.heap.size, 0, none⟩ x).setCell ⟨w6.heap.size, 1, none⟩ y) (.slice ac p.C.length cc) p.C := fun x y => HW6.out.1.2.2.ext (hSW x y)
          have hUW : ∀ x y, Ints ((wr.setCell ⟨w6.heap.size, 0, none⟩ x).setCell ⟨w6.heap.size, 1, none⟩ y) vu (moreU p.U) := fun x y => own_ints (ownsRow_setCell_below (ownsRow_setCell_below HM2.out (Nat.lt_succ_self _) x) (Nat.lt_succ_self _) y)
          have hEW : ∀ x y, Ext w ((wr.setCell ⟨w6.heap.size, 0, none⟩ x).setCell ⟨w6.heap.size, 1, none⟩ y) := fun x y => HE6.out.trans (hSW x y)
          have hYZ := Int.ofNat_le.2 HM.out
          have HAW := Lib.hid hAW
          have HBW := Lib.hid hBW
          have HCW := Lib.hid hCW
          have HUW := Lib.hid hUW
          have HEWW := Lib.hid hEW
          have hBA : 0 < p.B.length := by omega
          clear hSW hAW hBW hCW hUW hEW
          go_wp2_with fail
          all_goals (refine (count_c _ _ _ _ _ (morep p) _ ⟨⟨by first | exact rows_tail (HAW.out _ _) hA | exact rows_tail0 (HAW.out _ _) (by omega), by first | exact ints_tail (HBW.out _ _) hBA | exact ints_tail0 (HBW.out _ _) (by omega), HCW.out _ _⟩, HUW.out _ _⟩).mono ?_; rintro e w9 ⟨hE9, ⟨h9, _⟩ | ⟨_, rfl⟩⟩; rw [who_more Hw.out] at h9; cases h9; have HE9 := Lib.hid ((HEWW.out _ _).trans hE9); clear hE9; go_wp2_with fail; refine (alive_c _).mono ?_; rintro e w10 ⟨rfl, hE10⟩; have HE10 := Lib.hid (HE9.out.trans hE10); clear hE10; go_wp2_with fail; go_ret; exact ⟨rfl, HE10.out⟩)
        · have hAi : ¬ (0 : Int) < (p.A.length : Int) := by omega
          have hA0 : p.A = [] := List.length_eq_zero_iff.1 (by omega)
          have hB0 : p.B = [] := List.length_eq_zero_iff.1 (by omega)
          have hWM : WhoAt wr (.slice aa p.A.length ca) (.slice ab p.B.length cb) (.slice ac p.C.length cc) vu (morep p) := by
            refine ⟨⟨?_, ?_, HW6.out.1.2.2.ext HM3.out⟩, own_ints HM2.out⟩
            · have this : Rows2 wr _ p.A := HW6.out.1.1.ext HM3.out
              show Rows2 wr _ p.A.tail
              rw [hA0] at this ⊢
              exact this
            · have this : Ints wr _ p.B := HW6.out.1.2.1.ext HM3.out
              show Ints wr _ p.B.tail
              rw [hB0] at this ⊢
              exact this
          have hYZ := Int.ofNat_le.2 HM.out
          have HWM := Lib.hid hWM
          have HEW := HE6.out.trans HM3.out
          clear hWM hA0 hB0 hAB hA
          go_wp2_with fail
          refine (count_c _ _ _ _ _ (morep p) _ HWM.out).mono ?_
          (rintro e w9 ⟨hE9, ⟨h9, _⟩ | ⟨_, rfl⟩⟩; rw [who_more Hw.out] at h9; cases h9; have HE9 := Lib.hid (HEW.trans hE9); clear hE9; go_wp2_with fail; refine (alive_c _).mono ?_; rintro e w10 ⟨rfl, hE10⟩; have HE10 := Lib.hid (HE9.out.trans hE10); clear hE10; go_wp2_with fail; go_ret; exact ⟨rfl, HE10.out⟩)
  · subst hlr
    have hle : l ≤ l := by omega
    go_wp2_with fail
    clear q0 q1 q2 q3
    refine (count_c _ _ _ _ l p _ HW3.out).mono ?_
    rintro e w4 ⟨hE4, ⟨h, _⟩ | ⟨_, rfl⟩⟩
    · rw [Hw.out] at h; cases h
    have HV4 := Lib.hid (VRow.ext HV3.out hE4)
    have HW4 := Lib.hid (HW3.out.ext hE4)
    have HE4 := Lib.hid (HE3.out.trans hE4)
    clear HV3 HW3 HE3 hE4
    have q0 := VRow.cell HV4.out (k := 0) rfl
    have q1 := VRow.cell HV4.out (k := 1) rfl
    have q2 := VRow.cell HV4.out (k := 2) rfl
    have q3 := VRow.cell HV4.out (k := 3) rfl
    go_wp2_with fail
    clear q0 q1 q2 q3
    refine (count_c _ _ _ _ l p _ HW4.out).mono ?_
    rintro e w5 ⟨hE5, ⟨h, _⟩ | ⟨_, rfl⟩⟩
    · rw [Hw.out] at h; cases h
    have HV5 := Lib.hid (VRow.ext HV4.out hE5)
    have HW5 := Lib.hid (HW4.out.ext hE5)
    have HE5 := Lib.hid (HE4.out.trans hE5)
    clear HV4 HW4 HE4 hE5
    have q0 := VRow.cell HV5.out (k := 0) rfl
    have q1 := VRow.cell HV5.out (k := 1) rfl
    have q2 := VRow.cell HV5.out (k := 2) rfl
    have q3 := VRow.cell HV5.out (k := 3) rfl
    go_wp2_with fail
    clear q0 q1 q2 q3
    refine (solve_c _ _ _ _ p _ HW5.out).mono ?_
    rintro e w6 ⟨hE6, hS⟩
    have HV6 := Lib.hid (VRow.ext HV5.out hE6)
    have HW6 := Lib.hid (HW5.out.ext hE6)
    have HE6 := Lib.hid (HE5.out.trans hE6)
    clear HV5 HW5 HE5 hE6
    have hX0 : ¬ ((countK p l (sizeU p.U) : Nat) : Int) < 0 := by omega
    have hXY : ¬ ((countK p l (sizeU p.U) : Nat) : Int) < ((countK p l (sizeU p.U) : Nat) : Int) := by
      have := countK_mono (p := p) hle (sizeU p.U)
      omega
    rcases hS with ⟨h, _⟩ | ⟨_, hb, rfl⟩ | ⟨_, x, vx, hb, rfl, _⟩
    · rw [Hw.out] at h; cases h
    · have hc := count_none hb l
      have hc2 := count_none hb l
      rw [hc2] at hX0 hXY
      try rw [hc] at hXY
      rw [hc2]
      try rw [hc]
      clear hb hc hc2
      go_wp2_with fail
      refine (alive_c _).mono ?_
      rintro e w7 ⟨rfl, hE7⟩
      have HE7 := Lib.hid (HE6.out.trans hE7)
      clear hE7
      go_wp2_with fail
      go_ret
      exact ⟨rfl, HE7.out⟩
    have hb1 := count_best hb l
    have hb2 := count_best hb l
    have hm := count_more Hw.out l
    have g1 : 0 < countK p l (sizeU p.U) ↔ dotZ p.C x ≤ l := hb1
    have g2 : (!decide (0 < countK p l (sizeU p.U)) == decide (dotZ p.C x ≤ l)) = false := by
      by_cases h : dotZ p.C x ≤ l
      · simp [h, hb2.2 h]
      · simp [h, (not_congr hb2).2 h]
    clear hb hb1 hb2
    have HM := Lib.hid hm
    clear hm
    generalize dotZ p.C x = bc at *
    generalize countK p l (sizeU p.U) = X at *
    have q0 := VRow.cell HV6.out (k := 0) rfl
    have q1 := VRow.cell HV6.out (k := 1) rfl
    have q2 := VRow.cell HV6.out (k := 2) rfl
    have q3 := VRow.cell HV6.out (k := 3) rfl
    go_wp2_with fail
    have hm0 := vrow_alloc w6 [.slice aa p.A.length ca, .slice ab p.B.length cb, .slice ac p.C.length cc, .slice none 0 0] 25
    have hmE := Ext.alloc (Ext.refl w6) (.cells #[.slice aa p.A.length ca, .slice ab p.B.length cb, .slice ac p.C.length cc, .slice none 0 0] 25)
    have hmS : (w6.alloc (.cells #[.slice aa p.A.length ca, .slice ab p.B.length cb, .slice ac p.C.length cc, .slice none 0 0] 25)).heap.size = w6.heap.size + 1 := by simp
    change VRow (w6.alloc (.cells #[.slice aa p.A.length ca, .slice ab p.B.length cb, .slice ac p.C.length cc, .slice none 0 0] 25)) _ _ _ at hm0
    have HM0 := Lib.hid hm0
    have HME := Lib.hid hmE
    clear q0 q1 q2 q3 hm0 hmE g1 g2 hX0 hXY
    generalize w6.alloc (.cells #[.slice aa p.A.length ca, .slice ab p.B.length cb, .slice ac p.C.length cc, .slice none 0 0] 25) = w7 at *
    have hU5 : p.U.length ≤ 5 := by have := whoP Hw.out; omega
    go_loopw [17] (fun i wr => ∃ (k : Nat) (vu : Value), k ≤ p.U.length ∧ i = .int .i64 k ∧ MoreI p w6 (.slice aa p.A.length ca) (.slice ab p.B.length cb) (.slice ac p.C.length cc) k vu wr) (fun i _ => p.U.length - (intOf i).toNat)
    case atStart => exact ⟨0, _, Nat.zero_le _, rfl, HM0.out, World.ownsRow_nil _ _ _ _, HME.out, by omega⟩
    case round =>
      obtain ⟨k, vu, hk, rfl, hm1, hm2, hm3, hm4⟩ := hrel
      by_cases hlt : k < p.U.length
      · have HB := VRow.ext HV6.out hm3
        have q3 := VRow.cell HB (k := 3) rfl
        have m3 := VRow.cell hm1 (k := 3) rfl
        have mf := VRow.frozen hm1 3 none
        obtain ⟨_, _, e4, _, _, hru⟩ := (HW6.out.2.ext hm3).at
        simp only [Value.slice.injEq] at e4
        obtain ⟨rfl, _, rfl⟩ := e4
        obtain ⟨z, hz⟩ := getElem?_len hlt
        obtain ⟨bz, oz, rfl, hcz⟩ := hru k z hz
        have hz7 := (whoP Hw.out).2.2.1 z (List.mem_of_getElem? hz)
        have hwz : IntKind.i64.wrap (z + 1) = z + 1 := by simp [IntKind.wrap, IntKind.signed, IntKind.bits]; omega
        have hi1 : (k : Int) < (p.U.length : Int) := by omega
        have HM1 := Lib.hid hm1
        have HM2 := Lib.hid hm2
        have HM3 := Lib.hid hm3
        have HZ := Lib.hid hz
        obtain ⟨i0, hi, hz0, hz1, hz2⟩ := info_parts Try.info3
        clear hm1 hm2 hm3 hru HB hz
        have hbase9 : ∀ o : Obj, w6.heap.size + 1 ≤ (wr.alloc o).drew.heap.size := fun o => by show _ ≤ (wr.alloc o).heap.size; rw [World.size_alloc]; omega
        have hl91 : w6.heap.size < wr.heap.size := by omega
        have hl92 : w.heap.size < wr.heap.size := cell_lt q3
        have hl93 : bz < wr.heap.size := cell_lt hcz
        have hmax9 : k + 1 ≤ maxLen := by unfold maxLen; omega
        have hby9 : (k + 1) * 8 ≤ 140737488355328 := by omega
        have hone9 : ∀ y : Int, ∀ u ∈ [Value.int .i64 y], u.oneCell' = true := fun y u hu => by simp only [List.mem_singleton] at hu; subst hu; rfl
        have hnew9 : ∀ x : Value, ∀ j u, [x][j]? = some u → (wr.alloc (.cells #[x] 3)).drew.cell? ((⟨wr.heap.size, 0, none⟩ : Addr).add j) = some u := fun x => new_one wr x 3
        have hown9 : ∀ o : Obj, (wr.alloc o).drew.ownsRow (w6.heap.size + 1) 3 1 vu k (((moreU p.U).take k).map (.int .i64)) := fun o => World.ownsRow.alloc (w := wr) HM2.out o
        go_wp2_with fail
        go_region_law (refine step_append_lies _ rfl (.tmp 103) (.tmp 111) 23 rfl (w6.heap.size + 1) 3 i0 (.int .i64 0) 1 8 Try.underlying23 hi hz0 hz1 hz2 rfl Nat.one_pos vu k _ rfl (hown9 _) ⟨wr.heap.size, 0, none⟩ 1 1 [.int .i64 (if 7 < z + 1 then 7 else z + 1)] rfl rfl (hnew9 _) (hone9 _) Nat.one_pos hmax9 hby9 (hbase9 _) _ rfl ?_; intro g cap w8 hown8 hgrow hat hlt8; have v8 := grow_keep (hown9 _) hgrow (VRow.drew (VRow.alloc HM1.out _)); have e8 := grow_ext (hown9 _) hgrow (Below.drew (Ext.alloc HM3.out _)) (Nat.le_of_succ_le (hbase9 _)); have m38 := VRow.cell v8 (k := 3) rfl; have mf8 := VRow.frozen v8 3 none; have HO8 := Lib.hid hown8; have HV8 := Lib.hid v8; have HE8 := Lib.hid e8; clear hown8 hgrow hat v8 e8)
        all_goals ((go_wp2_with fail) <;> first | exact ⟨⟨k + 1, by omega, by go_num, Value.slice (some ⟨g, 0, none⟩) (k + 1) cap, more_step HZ.out HV8.out HO8.out HE8.out⟩, by simp [intOf]; omega⟩ | exact ⟨⟨k + 1, Value.slice (some ⟨g, 0, none⟩) (k + 1) cap, by omega, by go_num, more_step HZ.out HV8.out HO8.out HE8.out⟩, by simp [intOf]; omega⟩ | exact ⟨⟨k + 1, by omega, Value.slice (some ⟨g, 0, none⟩) (k + 1) cap, by go_num, more_step HZ.out HV8.out HO8.out HE8.out⟩, by simp [intOf]; omega⟩ | exact ⟨⟨Value.slice (some ⟨g, 0, none⟩) (k + 1) cap, k + 1, by omega, by go_num, more_step HZ.out HV8.out HO8.out HE8.out⟩, by simp [intOf]; omega⟩)
      · have hke : k = p.U.length := by omega
        subst hke
        rw [List.take_of_length_le (by simp [moreU])] at hm2
        have HB := VRow.ext HV6.out hm3
        have q0 := VRow.cell HB (k := 0) rfl
        have q1 := VRow.cell HB (k := 1) rfl
        have q2 := VRow.cell HB (k := 2) rfl
        have q3 := VRow.cell HB (k := 3) rfl
        have m0 := VRow.cell hm1 (k := 0) rfl
        have m1 := VRow.cell hm1 (k := 1) rfl
        have m2 := VRow.cell hm1 (k := 2) rfl
        have m3 := VRow.cell hm1 (k := 3) rfl
        have mf0 := VRow.frozen hm1 0 none
        have mf1 := VRow.frozen hm1 1 none
        have HM1 := Lib.hid hm1
        have HM2 := Lib.hid hm2
        have HM3 := Lib.hid hm3
        clear hm1 hm2 hm3 HB
        have hAB : p.B.length = p.A.length := (rows_len Hw.out).2
        by_cases hA : 0 < p.A.length
        · have hAi : (0 : Int) < (p.A.length : Int) := by omega
          have hBi : (1 : Int) ≤ (p.B.length : Int) := by omega
          have hAi1 : (1 : Int) ≤ (p.A.length : Int) := by omega
          have hBn : 1 ≤ p.B.length := by omega
          have hAn : 1 ≤ p.A.length := by omega
          have hBc : 1 ≤ cb := by omega
          have hAc : 1 ≤ ca := by omega
          have hSW : ∀ x y, Ext w6 ((wr.setCell ⟨w6.heap.size, 0, none⟩ x).setCell ⟨w6.heap.size, 1, none⟩ y) := fun x y => Below.setCell (p := ⟨w6.heap.size, 1, none⟩) (Below.setCell (p := ⟨w6.heap.size, 0, none⟩) HM3.out (Nat.le_refl _) x) (Nat.le_refl _) y
          have hAW : ∀ x y, Rows2 ((wr.setCell ⟨w6.heap.size, 0, none⟩ x).setCell ⟨w6.heap.size, 1, none⟩ y) (.slice aa p.A.length ca) p.A := fun x y => HW6.out.1.1.ext (hSW x y)
          have hBW : ∀ x y, Ints ((wr.setCell ⟨w6.heap.size, 0, none⟩ x).setCell ⟨w6.heap.size, 1, none⟩ y) (.slice ab p.A.length cb) p.B := fun x y => by have := HW6.out.1.2.1.ext (hSW x y); rw [← hAB]; exact this
          have hCW : ∀ x y, Ints ((wr.setCell ⟨w6.heap.size, 0, none⟩ x).setCell ⟨w6.heap.size, 1, none⟩ y) (.slice ac p.C.length cc) p.C := fun x y => HW6.out.1.2.2.ext (hSW x y)
          have hUW : ∀ x y, Ints ((wr.setCell ⟨w6.heap.size, 0, none⟩ x).setCell ⟨w6.heap.size, 1, none⟩ y) vu (moreU p.U) := fun x y => own_ints (ownsRow_setCell_below (ownsRow_setCell_below HM2.out (Nat.lt_succ_self _) x) (Nat.lt_succ_self _) y)
          have hEW : ∀ x y, Ext w ((wr.setCell ⟨w6.heap.size, 0, none⟩ x).setCell ⟨w6.heap.size, 1, none⟩ y) := fun x y => HE6.out.trans (hSW x y)
          have hYZ := Int.ofNat_le.2 HM.out
          have HAW := Lib.hid hAW
          have HBW := Lib.hid hBW
          have HCW := Lib.hid hCW
          have HUW := Lib.hid hUW
          have HEWW := Lib.hid hEW
          have hBA : 0 < p.B.length := by omega
          clear hSW hAW hBW hCW hUW hEW
          go_wp2_with fail
          all_goals (refine (count_c _ _ _ _ _ (morep p) _ ⟨⟨by first | exact rows_tail (HAW.out _ _) hA | exact rows_tail0 (HAW.out _ _) (by omega), by first | exact ints_tail (HBW.out _ _) hBA | exact ints_tail0 (HBW.out _ _) (by omega), HCW.out _ _⟩, HUW.out _ _⟩).mono ?_; rintro e w9 ⟨hE9, ⟨h9, _⟩ | ⟨_, rfl⟩⟩; rw [who_more Hw.out] at h9; cases h9; have HE9 := Lib.hid ((HEWW.out _ _).trans hE9); clear hE9; go_wp2_with fail; refine (alive_c _).mono ?_; rintro e w10 ⟨rfl, hE10⟩; have HE10 := Lib.hid (HE9.out.trans hE10); clear hE10; go_wp2_with fail; go_ret; exact ⟨rfl, HE10.out⟩)
        · have hAi : ¬ (0 : Int) < (p.A.length : Int) := by omega
          have hA0 : p.A = [] := List.length_eq_zero_iff.1 (by omega)
          have hB0 : p.B = [] := List.length_eq_zero_iff.1 (by omega)
          have hWM : WhoAt wr (.slice aa p.A.length ca) (.slice ab p.B.length cb) (.slice ac p.C.length cc) vu (morep p) := by
            refine ⟨⟨?_, ?_, HW6.out.1.2.2.ext HM3.out⟩, own_ints HM2.out⟩
            · have this : Rows2 wr _ p.A := HW6.out.1.1.ext HM3.out
              show Rows2 wr _ p.A.tail
              rw [hA0] at this ⊢
              exact this
            · have this : Ints wr _ p.B := HW6.out.1.2.1.ext HM3.out
              show Ints wr _ p.B.tail
              rw [hB0] at this ⊢
              exact this
          have hYZ := Int.ofNat_le.2 HM.out
          have HWM := Lib.hid hWM
          have HEW := HE6.out.trans HM3.out
          clear hWM hA0 hB0 hAB hA
          go_wp2_with fail
          refine (count_c _ _ _ _ _ (morep p) _ HWM.out).mono ?_
          (rintro e w9 ⟨hE9, ⟨h9, _⟩ | ⟨_, rfl⟩⟩; rw [who_more Hw.out] at h9; cases h9; have HE9 := Lib.hid (HEW.trans hE9); clear hE9; go_wp2_with fail; refine (alive_c _).mono ?_; rintro e w10 ⟨rfl, hE10⟩; have HE10 := Lib.hid (HE9.out.trans hE10); clear hE10; go_wp2_with fail; go_ret; exact ⟨rfl, HE10.out⟩)
  · have hle : r ≤ l := by omega
    go_wp2_with fail
    clear q0 q1 q2 q3
    refine (count_c _ _ _ _ r p _ HW3.out).mono ?_
    rintro e w4 ⟨hE4, ⟨h, _⟩ | ⟨_, rfl⟩⟩
    · rw [Hw.out] at h; cases h
    have HV4 := Lib.hid (VRow.ext HV3.out hE4)
    have HW4 := Lib.hid (HW3.out.ext hE4)
    have HE4 := Lib.hid (HE3.out.trans hE4)
    clear HV3 HW3 HE3 hE4
    have q0 := VRow.cell HV4.out (k := 0) rfl
    have q1 := VRow.cell HV4.out (k := 1) rfl
    have q2 := VRow.cell HV4.out (k := 2) rfl
    have q3 := VRow.cell HV4.out (k := 3) rfl
    go_wp2_with fail
    clear q0 q1 q2 q3
    refine (count_c _ _ _ _ l p _ HW4.out).mono ?_
    rintro e w5 ⟨hE5, ⟨h, _⟩ | ⟨_, rfl⟩⟩
    · rw [Hw.out] at h; cases h
    have HV5 := Lib.hid (VRow.ext HV4.out hE5)
    have HW5 := Lib.hid (HW4.out.ext hE5)
    have HE5 := Lib.hid (HE4.out.trans hE5)
    clear HV4 HW4 HE4 hE5
    have q0 := VRow.cell HV5.out (k := 0) rfl
    have q1 := VRow.cell HV5.out (k := 1) rfl
    have q2 := VRow.cell HV5.out (k := 2) rfl
    have q3 := VRow.cell HV5.out (k := 3) rfl
    go_wp2_with fail
    clear q0 q1 q2 q3
    refine (solve_c _ _ _ _ p _ HW5.out).mono ?_
    rintro e w6 ⟨hE6, hS⟩
    have HV6 := Lib.hid (VRow.ext HV5.out hE6)
    have HW6 := Lib.hid (HW5.out.ext hE6)
    have HE6 := Lib.hid (HE5.out.trans hE6)
    clear HV5 HW5 HE5 hE6
    have hX0 : ¬ ((countK p r (sizeU p.U) : Nat) : Int) < 0 := by omega
    have hXY : ¬ ((countK p l (sizeU p.U) : Nat) : Int) < ((countK p r (sizeU p.U) : Nat) : Int) := by
      have := countK_mono (p := p) hle (sizeU p.U)
      omega
    rcases hS with ⟨h, _⟩ | ⟨_, hb, rfl⟩ | ⟨_, x, vx, hb, rfl, _⟩
    · rw [Hw.out] at h; cases h
    · have hc := count_none hb l
      have hc2 := count_none hb r
      rw [hc2] at hX0 hXY
      try rw [hc] at hXY
      rw [hc2]
      try rw [hc]
      clear hb hc hc2
      go_wp2_with fail
      refine (alive_c _).mono ?_
      rintro e w7 ⟨rfl, hE7⟩
      have HE7 := Lib.hid (HE6.out.trans hE7)
      clear hE7
      go_wp2_with fail
      go_ret
      exact ⟨rfl, HE7.out⟩
    have hb1 := count_best hb r
    have hb2 := count_best hb l
    have hm := count_more Hw.out l
    have g1 : 0 < countK p r (sizeU p.U) ↔ dotZ p.C x ≤ r := hb1
    have g2 : (!decide (0 < countK p l (sizeU p.U)) == decide (dotZ p.C x ≤ l)) = false := by
      by_cases h : dotZ p.C x ≤ l
      · simp [h, hb2.2 h]
      · simp [h, (not_congr hb2).2 h]
    clear hb hb1 hb2
    have HM := Lib.hid hm
    clear hm
    generalize dotZ p.C x = bc at *
    generalize countK p r (sizeU p.U) = X at *
    generalize countK p l (sizeU p.U) = Y at *
    have q0 := VRow.cell HV6.out (k := 0) rfl
    have q1 := VRow.cell HV6.out (k := 1) rfl
    have q2 := VRow.cell HV6.out (k := 2) rfl
    have q3 := VRow.cell HV6.out (k := 3) rfl
    go_wp2_with fail
    have hm0 := vrow_alloc w6 [.slice aa p.A.length ca, .slice ab p.B.length cb, .slice ac p.C.length cc, .slice none 0 0] 25
    have hmE := Ext.alloc (Ext.refl w6) (.cells #[.slice aa p.A.length ca, .slice ab p.B.length cb, .slice ac p.C.length cc, .slice none 0 0] 25)
    have hmS : (w6.alloc (.cells #[.slice aa p.A.length ca, .slice ab p.B.length cb, .slice ac p.C.length cc, .slice none 0 0] 25)).heap.size = w6.heap.size + 1 := by simp
    change VRow (w6.alloc (.cells #[.slice aa p.A.length ca, .slice ab p.B.length cb, .slice ac p.C.length cc, .slice none 0 0] 25)) _ _ _ at hm0
    have HM0 := Lib.hid hm0
    have HME := Lib.hid hmE
    clear q0 q1 q2 q3 hm0 hmE g1 g2 hX0 hXY
    generalize w6.alloc (.cells #[.slice aa p.A.length ca, .slice ab p.B.length cb, .slice ac p.C.length cc, .slice none 0 0] 25) = w7 at *
    have hU5 : p.U.length ≤ 5 := by have := whoP Hw.out; omega
    go_loopw [17] (fun i wr => ∃ (k : Nat) (vu : Value), k ≤ p.U.length ∧ i = .int .i64 k ∧ MoreI p w6 (.slice aa p.A.length ca) (.slice ab p.B.length cb) (.slice ac p.C.length cc) k vu wr) (fun i _ => p.U.length - (intOf i).toNat)
    case atStart => exact ⟨0, _, Nat.zero_le _, rfl, HM0.out, World.ownsRow_nil _ _ _ _, HME.out, by omega⟩
    case round =>
      obtain ⟨k, vu, hk, rfl, hm1, hm2, hm3, hm4⟩ := hrel
      by_cases hlt : k < p.U.length
      · have HB := VRow.ext HV6.out hm3
        have q3 := VRow.cell HB (k := 3) rfl
        have m3 := VRow.cell hm1 (k := 3) rfl
        have mf := VRow.frozen hm1 3 none
        obtain ⟨_, _, e4, _, _, hru⟩ := (HW6.out.2.ext hm3).at
        simp only [Value.slice.injEq] at e4
        obtain ⟨rfl, _, rfl⟩ := e4
        obtain ⟨z, hz⟩ := getElem?_len hlt
        obtain ⟨bz, oz, rfl, hcz⟩ := hru k z hz
        have hz7 := (whoP Hw.out).2.2.1 z (List.mem_of_getElem? hz)
        have hwz : IntKind.i64.wrap (z + 1) = z + 1 := by simp [IntKind.wrap, IntKind.signed, IntKind.bits]; omega
        have hi1 : (k : Int) < (p.U.length : Int) := by omega
        have HM1 := Lib.hid hm1
        have HM2 := Lib.hid hm2
        have HM3 := Lib.hid hm3
        have HZ := Lib.hid hz
        obtain ⟨i0, hi, hz0, hz1, hz2⟩ := info_parts Try.info3
        clear hm1 hm2 hm3 hru HB hz
        have hbase9 : ∀ o : Obj, w6.heap.size + 1 ≤ (wr.alloc o).drew.heap.size := fun o => by show _ ≤ (wr.alloc o).heap.size; rw [World.size_alloc]; omega
        have hl91 : w6.heap.size < wr.heap.size := by omega
        have hl92 : w.heap.size < wr.heap.size := cell_lt q3
        have hl93 : bz < wr.heap.size := cell_lt hcz
        have hmax9 : k + 1 ≤ maxLen := by unfold maxLen; omega
        have hby9 : (k + 1) * 8 ≤ 140737488355328 := by omega
        have hone9 : ∀ y : Int, ∀ u ∈ [Value.int .i64 y], u.oneCell' = true := fun y u hu => by simp only [List.mem_singleton] at hu; subst hu; rfl
        have hnew9 : ∀ x : Value, ∀ j u, [x][j]? = some u → (wr.alloc (.cells #[x] 3)).drew.cell? ((⟨wr.heap.size, 0, none⟩ : Addr).add j) = some u := fun x => new_one wr x 3
        have hown9 : ∀ o : Obj, (wr.alloc o).drew.ownsRow (w6.heap.size + 1) 3 1 vu k (((moreU p.U).take k).map (.int .i64)) := fun o => World.ownsRow.alloc (w := wr) HM2.out o
        go_wp2_with fail
        go_region_law (refine step_append_lies _ rfl (.tmp 103) (.tmp 111) 23 rfl (w6.heap.size + 1) 3 i0 (.int .i64 0) 1 8 Try.underlying23 hi hz0 hz1 hz2 rfl Nat.one_pos vu k _ rfl (hown9 _) ⟨wr.heap.size, 0, none⟩ 1 1 [.int .i64 (if 7 < z + 1 then 7 else z + 1)] rfl rfl (hnew9 _) (hone9 _) Nat.one_pos hmax9 hby9 (hbase9 _) _ rfl ?_; intro g cap w8 hown8 hgrow hat hlt8; have v8 := grow_keep (hown9 _) hgrow (VRow.drew (VRow.alloc HM1.out _)); have e8 := grow_ext (hown9 _) hgrow (Below.drew (Ext.alloc HM3.out _)) (Nat.le_of_succ_le (hbase9 _)); have m38 := VRow.cell v8 (k := 3) rfl; have mf8 := VRow.frozen v8 3 none; have HO8 := Lib.hid hown8; have HV8 := Lib.hid v8; have HE8 := Lib.hid e8; clear hown8 hgrow hat v8 e8)
        all_goals ((go_wp2_with fail) <;> first | exact ⟨⟨k + 1, by omega, by go_num, Value.slice (some ⟨g, 0, none⟩) (k + 1) cap, more_step HZ.out HV8.out HO8.out HE8.out⟩, by simp [intOf]; omega⟩ | exact ⟨⟨k + 1, Value.slice (some ⟨g, 0, none⟩) (k + 1) cap, by omega, by go_num, more_step HZ.out HV8.out HO8.out HE8.out⟩, by simp [intOf]; omega⟩ | exact ⟨⟨k + 1, by omega, Value.slice (some ⟨g, 0, none⟩) (k + 1) cap, by go_num, more_step HZ.out HV8.out HO8.out HE8.out⟩, by simp [intOf]; omega⟩ | exact ⟨⟨Value.slice (some ⟨g, 0, none⟩) (k + 1) cap, k + 1, by omega, by go_num, more_step HZ.out HV8.out HO8.out HE8.out⟩, by simp [intOf]; omega⟩)
      · have hke : k = p.U.length := by omega
        subst hke
        rw [List.take_of_length_le (by simp [moreU])] at hm2
        have HB := VRow.ext HV6.out hm3
        have q0 := VRow.cell HB (k := 0) rfl
        have q1 := VRow.cell HB (k := 1) rfl
        have q2 := VRow.cell HB (k := 2) rfl
        have q3 := VRow.cell HB (k := 3) rfl
        have m0 := VRow.cell hm1 (k := 0) rfl
        have m1 := VRow.cell hm1 (k := 1) rfl
        have m2 := VRow.cell hm1 (k := 2) rfl
        have m3 := VRow.cell hm1 (k := 3) rfl
        have mf0 := VRow.frozen hm1 0 none
        have mf1 := VRow.frozen hm1 1 none
        have HM1 := Lib.hid hm1
        have HM2 := Lib.hid hm2
        have HM3 := Lib.hid hm3
        clear hm1 hm2 hm3 HB
        have hAB : p.B.length = p.A.length := (rows_len Hw.out).2
        by_cases hA : 0 < p.A.length
        · have hAi : (0 : Int) < (p.A.length : Int) := by omega
          have hBi : (1 : Int) ≤ (p.B.length : Int) := by omega
          have hAi1 : (1 : Int) ≤ (p.A.length : Int) := by omega
          have hBn : 1 ≤ p.B.length := by omega
          have hAn : 1 ≤ p.A.length := by omega
          have hBc : 1 ≤ cb := by omega
          have hAc : 1 ≤ ca := by omega
          have hSW : ∀ x y, Ext w6 ((wr.setCell ⟨w6.heap.size, 0, none⟩ x).setCell ⟨w6.heap.size, 1, none⟩ y) := fun x y => Below.setCell (p := ⟨w6.heap.size, 1, none⟩) (Below.setCell (p := ⟨w6.heap.size, 0, none⟩) HM3.out (Nat.le_refl _) x) (Nat.le_refl _) y
          have hAW : ∀ x y, Rows2 ((wr.setCell ⟨w6.heap.size, 0, none⟩ x).setCell ⟨w6.heap.size, 1, none⟩ y) (.slice aa p.A.length ca) p.A := fun x y => HW6.out.1.1.ext (hSW x y)
          have hBW : ∀ x y, Ints ((wr.setCell ⟨w6.heap.size, 0, none⟩ x).setCell ⟨w6.heap.size, 1, none⟩ y) (.slice ab p.A.length cb) p.B := fun x y => by have := HW6.out.1.2.1.ext (hSW x y); rw [← hAB]; exact this
          have hCW : ∀ x y, Ints ((wr.setCell ⟨w6.heap.size, 0, none⟩ x).setCell ⟨w6.heap.size, 1, none⟩ y) (.slice ac p.C.length cc) p.C := fun x y => HW6.out.1.2.2.ext (hSW x y)
          have hUW : ∀ x y, Ints ((wr.setCell ⟨w6.heap.size, 0, none⟩ x).setCell ⟨w6.heap.size, 1, none⟩ y) vu (moreU p.U) := fun x y => own_ints (ownsRow_setCell_below (ownsRow_setCell_below HM2.out (Nat.lt_succ_self _) x) (Nat.lt_succ_self _) y)
          have hEW : ∀ x y, Ext w ((wr.setCell ⟨w6.heap.size, 0, none⟩ x).setCell ⟨w6.heap.size, 1, none⟩ y) := fun x y => HE6.out.trans (hSW x y)
          have hYZ := Int.ofNat_le.2 HM.out
          have HAW := Lib.hid hAW
          have HBW := Lib.hid hBW
          have HCW := Lib.hid hCW
          have HUW := Lib.hid hUW
          have HEWW := Lib.hid hEW
          have hBA : 0 < p.B.length := by omega
          clear hSW hAW hBW hCW hUW hEW
          go_wp2_with fail
          all_goals (refine (count_c _ _ _ _ _ (morep p) _ ⟨⟨by first | exact rows_tail (HAW.out _ _) hA | exact rows_tail0 (HAW.out _ _) (by omega), by first | exact ints_tail (HBW.out _ _) hBA | exact ints_tail0 (HBW.out _ _) (by omega), HCW.out _ _⟩, HUW.out _ _⟩).mono ?_; rintro e w9 ⟨hE9, ⟨h9, _⟩ | ⟨_, rfl⟩⟩; rw [who_more Hw.out] at h9; cases h9; have HE9 := Lib.hid ((HEWW.out _ _).trans hE9); clear hE9; go_wp2_with fail; refine (alive_c _).mono ?_; rintro e w10 ⟨rfl, hE10⟩; have HE10 := Lib.hid (HE9.out.trans hE10); clear hE10; go_wp2_with fail; go_ret; exact ⟨rfl, HE10.out⟩)
        · have hAi : ¬ (0 : Int) < (p.A.length : Int) := by omega
          have hA0 : p.A = [] := List.length_eq_zero_iff.1 (by omega)
          have hB0 : p.B = [] := List.length_eq_zero_iff.1 (by omega)
          have hWM : WhoAt wr (.slice aa p.A.length ca) (.slice ab p.B.length cb) (.slice ac p.C.length cc) vu (morep p) := by
            refine ⟨⟨?_, ?_, HW6.out.1.2.2.ext HM3.out⟩, own_ints HM2.out⟩
            · have this : Rows2 wr _ p.A := HW6.out.1.1.ext HM3.out
              show Rows2 wr _ p.A.tail
              rw [hA0] at this ⊢
              exact this
            · have this : Ints wr _ p.B := HW6.out.1.2.1.ext HM3.out
              show Ints wr _ p.B.tail
              rw [hB0] at this ⊢
              exact this
          have hYZ := Int.ofNat_le.2 HM.out
          have HWM := Lib.hid hWM
          have HEW := HE6.out.trans HM3.out
          clear hWM hA0 hB0 hAB hA
          go_wp2_with fail
          refine (count_c _ _ _ _ _ (morep p) _ HWM.out).mono ?_
          (rintro e w9 ⟨hE9, ⟨h9, _⟩ | ⟨_, rfl⟩⟩; rw [who_more Hw.out] at h9; cases h9; have HE9 := Lib.hid (HEW.trans hE9); clear hE9; go_wp2_with fail; refine (alive_c _).mono ?_; rintro e w10 ⟨rfl, hE10⟩; have HE10 := Lib.hid (HE9.out.trans hE10); clear hE10; go_wp2_with fail; go_ret; exact ⟨rfl, HE10.out⟩)
end Go.Proofs.Ytblaipkhmmaenaa
