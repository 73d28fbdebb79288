import Derived.Test.YtbcngojiikdigaaGreatL37
namespace Go.Proofs.YtbcngojiikdigaaGreat
set_option maxRecDepth 100000
open Go.RowKit Go.Shelf
theorem two_inj {a b c d : Value} (h : two a b = two c d) : a = c ∧ b = d := by simpa [two] using h
theorem int_inj {a b : Int} (h : Value.int .i64 a = Value.int .i64 b) : a = b := by injection h
theorem rows_none (w : World) : Rows2 w (.slice none 0 0) [] := ⟨none, 0, [], rfl, Nat.le_refl _, by omega, .inl rfl, rfl, fun k u x hu => by simp at hu⟩
theorem ints_none (w : World) : Ints w (.slice none 0 0) [] := ⟨none, 0, rfl, Nat.le_refl _, by omega, .inl rfl⟩
theorem mult_two {e : Ending} {base : Nat} {xs ys : List (List Int)} {w' : World} (h : MultS base xs ys e w') : ∃ r z, e = two r (.int .i64 z) := by
  rcases h with ⟨_, h⟩ | ⟨_, _, _, r, h, _⟩
  · exact ⟨_, _, h⟩
  · exact ⟨_, _, h⟩
theorem rmult_two {e : Ending} {xs ys : List (List Int)} {w' : World} (h : RMultS xs ys e w') : ∃ r z, e = two r (.int .i64 z) := by
  rcases h with ⟨_, h⟩ | ⟨_, _, _, r, h, _⟩
  · exact ⟨_, _, h⟩
  · exact ⟨_, _, h⟩
theorem pow_two {e : Ending} {base : Nat} {xs : List (List Int)} {k : Int} {w' : World} (h : PowS base xs k e w') : ∃ r z, e = two r (.int .i64 z) := by
  rcases h with ⟨_, h⟩ | ⟨_, _, r, h, _⟩
  · exact ⟨_, _, h⟩
  · exact ⟨_, _, h⟩
theorem rpow_two {e : Ending} {xs : List (List Int)} {k : Int} {w' : World} (h : RPowS xs k e w') : ∃ r z, e = two r (.int .i64 z) := by
  rcases h with ⟨_, h⟩ | ⟨_, _, r, h, _⟩
  · exact ⟨_, _, h⟩
  · exact ⟨_, _, h⟩
theorem run2_two {e : Ending} {xs : List (List Int)} {x : List Int} {k : Int} {w' : World} (h : RunS xs x k e w') : ∃ r z, e = two r (.int .i64 z) := by
  rcases h with ⟨_, h⟩ | ⟨_, _, _, _, h⟩ | ⟨_, _, _, _, r, h, _⟩
  · exact ⟨_, _, h⟩
  · exact ⟨_, _, h⟩
  · exact ⟨_, _, h⟩
theorem mult_both {base : Nat} {xs ys : List (List Int)} {p q : Value} {z z2 : Int} {w1 w2 : World} (h1 : MultS base xs ys (two p (.int .i64 z)) w1) (h2 : RMultS xs ys (two q (.int .i64 z2)) w2) (he : Ext w1 w2) :
    z2 = z ∧ ∃ L, Rows2 w2 p L ∧ Rows2 w2 q L ∧ SpoilOk base w2 p := by
  rcases h1 with ⟨h1, e1⟩ | ⟨m1, m2, m3, r, e1, hr⟩
  · obtain ⟨rfl, f1⟩ := two_inj e1
    rcases h2 with ⟨h2, e2⟩ | ⟨m1, m2, m3, _⟩
    · obtain ⟨rfl, f2⟩ := two_inj e2
      exact ⟨by rw [int_inj f1, int_inj f2], [], rows_none _, rows_none _, .inl rfl⟩
    · rw [m1, m2, decide_eq_true m3] at h1; cases h1
  · obtain ⟨rfl, f1⟩ := two_inj e1
    rcases h2 with ⟨h2, e2⟩ | ⟨_, _, _, r2, e2, hr2⟩
    · rw [m1, m2, decide_eq_true m3] at h2; cases h2
    · obtain ⟨rfl, f2⟩ := two_inj e2
      have hn := (matB_ok m1).1
      exact ⟨by rw [int_inj f1, int_inj f2], _, Rows2.ext (mat_rows (hr.mat (by omega))) he, mat_rows hr2, .inr ⟨_, hn.2, hr.sheet.ext he⟩⟩
theorem pow_both {base : Nat} {xs : List (List Int)} {k : Int} {p q : Value} {z z2 : Int} {w1 w2 : World} (h1 : PowS base xs k (two p (.int .i64 z)) w1) (h2 : RPowS xs k (two q (.int .i64 z2)) w2) (he : Ext w1 w2) :
    z2 = z ∧ ∃ L, Rows2 w2 p L ∧ Rows2 w2 q L ∧ SpoilOk base w2 p := by
  rcases h1 with ⟨h1, e1⟩ | ⟨m1, m2, r, e1, hr⟩
  · obtain ⟨rfl, f1⟩ := two_inj e1
    rcases h2 with ⟨h2, e2⟩ | ⟨m1, m2, _⟩
    · obtain ⟨rfl, f2⟩ := two_inj e2
      exact ⟨by rw [int_inj f1, int_inj f2], [], rows_none _, rows_none _, .inl rfl⟩
    · rw [m1, m2] at h1; cases h1
  · obtain ⟨rfl, f1⟩ := two_inj e1
    rcases h2 with ⟨h2, e2⟩ | ⟨_, _, r2, e2, hr2⟩
    · rw [m1, m2] at h2; cases h2
    · obtain ⟨rfl, f2⟩ := two_inj e2
      have hn := (matB_ok m1).1
      exact ⟨by rw [int_inj f1, int_inj f2], _, Rows2.ext (mat_rows (hr.mat (by omega))) he, mat_rows hr2, .inr ⟨_, hn.2, hr.sheet.ext he⟩⟩
theorem run_both {xs : List (List Int)} {x : List Int} {k : Int} {p q : Value} {z z2 : Int} {w1 w2 : World} (h1 : RunS xs x k (two p (.int .i64 z)) w1) (h2 : RunS xs x k (two q (.int .i64 z2)) w2) (he : Ext w1 w2) :
    z2 = z ∧ ∃ L, Ints w2 p L ∧ Ints w2 q L := by
  rcases h1 with ⟨h1, e1⟩ | ⟨m1, m2, m3, o1, e1⟩ | ⟨m1, m2, m3, o1, r, e1, hr⟩
  · obtain ⟨rfl, f1⟩ := two_inj e1
    rcases h2 with ⟨h2, e2⟩ | ⟨m1, m2, m3, _⟩ | ⟨m1, m2, m3, _⟩
    · obtain ⟨rfl, f2⟩ := two_inj e2
      exact ⟨by rw [int_inj f1, int_inj f2], [], ints_none _, ints_none _⟩
    · rw [m1, m2, m3] at h1; cases h1
    · rw [m1, m2, m3] at h1; cases h1
  · obtain ⟨rfl, f1⟩ := two_inj e1
    rcases h2 with ⟨h2, e2⟩ | ⟨_, _, _, o2, e2⟩ | ⟨_, _, _, o2, _⟩
    · rw [m1, m2, m3] at h2; cases h2
    · obtain ⟨rfl, f2⟩ := two_inj e2
      exact ⟨by rw [int_inj f1, int_inj f2], [], ints_none _, ints_none _⟩
    · rw [o1] at o2; cases o2
  · obtain ⟨rfl, f1⟩ := two_inj e1
    rcases h2 with ⟨h2, e2⟩ | ⟨_, _, _, o2, e2⟩ | ⟨_, _, _, o2, r2, e2, hr2⟩
    · rw [m1, m2, m3] at h2; cases h2
    · rw [o1] at o2; cases o2
    · obtain ⟨rfl, f2⟩ := two_inj e2
      exact ⟨by rw [int_inj f1, int_inj f2], _, hr.ext he, hr2⟩
theorem ext_below {W0 w w' : World} {base : Nat} (h : Ext W0 w) (k : Below base w w') (hb : W0.heap.size ≤ base) : Ext W0 w' := Below.trans h (Below.mono k hb)
theorem RowsN.ext {w w' : World} {v : Value} {xs : List (List Int)} (h : RowsN w v xs) (he : Ext w w') : RowsN w' v xs := Reads.ext (R := IntsN) (fun _ _ _ _ hh hhe => IntsN.ext hh hhe) h he
theorem few20_le {xs : List (List Int)} (h : few20 xs = true) : ∀ r ∈ xs, r.length ≤ 1000 := by
  simp only [few20, Bool.and_eq_true, decide_eq_true_eq, List.all_eq_true] at h
  exact fun r hr => by have := h.2 r hr; omega
set_option maxHeartbeats 16000000 in
theorem powers_c (ua ub ux : Value) (A B : List (List Int)) (x : List Int) (k : Int) (w : World) (hA : RowsN w ua A) (hB : RowsN w ub B) (hx : IntsN w ux x) :
    Calls Tryz.prog 3 #[ua, ub, ux, .int .i64 k] w fun e w' => e = .returned (.bool true) ∧ Ext w w' := by
  have HA := Lib.hid hA
  have HB := Lib.hid hB
  have HX := Lib.hid hx
  have HAR := Lib.hid hA.rows
  have HBR := Lib.hid hB.rows
  have HFA := Lib.hid (fun W (h : Ext w W) => few_c ua A W (Rows2.ext hA.rows h))
  have HFB := Lib.hid (fun W (h : Ext w W) => few_c ub B W (Rows2.ext hB.rows h))
  obtain ⟨aa, ca, rfl, _, _, _⟩ := hA.at
  obtain ⟨ab, cb, rfl, _, _, _⟩ := hB.at
  obtain ⟨ax, cx, rfl, hxc, hxm, _⟩ := hx.1.at
  clear hA hB hx
  cases hfa : few20 A with
  | false =>
    rw [hfa] at HFA
    clear hfa
    go_enter Tryz.func3, Tryz.ntmps3
    go_wp2_with fail
    refine (HFA.out _ (Ext.refl _)).mono ?_
    rintro e w1 ⟨rfl, hE⟩
    have HE := Lib.hid hE
    clear hE
    go_wp2_with fail
    refine (alive_c w1).mono ?_
    rintro e wz ⟨rfl, hE⟩
    have HEz := Lib.hid (Ext.trans HE.out hE)
    clear hE
    go_wp2_with fail
    go_ret
    exact ⟨rfl, HEz.out⟩
  | true =>
    have HLA := Lib.hid (few20_ok hfa).2
    have HLA1 := Lib.hid (few20_le hfa)
    have hlA := (few20_ok hfa).1
    rw [hfa] at HFA
    clear hfa
    cases hfb : few20 B with
    | false =>
      rw [hfb] at HFB
      clear hfb
      go_enter Tryz.func3, Tryz.ntmps3
      go_wp2_with fail
      refine (HFA.out _ (Ext.refl _)).mono ?_
      rintro e w1 ⟨rfl, hE⟩
      have HE1 := Lib.hid hE
      clear hE
      go_wp2_with fail
      refine (HFB.out _ HE1.out).mono ?_
      rintro e w2 ⟨rfl, hE⟩
      have HE := Lib.hid (Ext.trans HE1.out hE)
      clear hE
      go_wp2_with fail
      refine (alive_c w2).mono ?_
      rintro e wz ⟨rfl, hE⟩
      have HEz := Lib.hid (Ext.trans HE.out hE)
      clear hE
      go_wp2_with fail
      go_ret
      exact ⟨rfl, HEz.out⟩
    | true =>
      have HLB := Lib.hid (few20_ok hfb).2
      have HLB1 := Lib.hid (few20_le hfb)
      have hlB := (few20_ok hfb).1
      rw [hfb] at HFB
      clear hfb
      by_cases hlx : 20 < x.length
      · have hlz : (20 : Int) < (x.length : Int) := by omega
        go_enter Tryz.func3, Tryz.ntmps3
        go_wp2_with fail
        refine (HFA.out _ (Ext.refl _)).mono ?_
        rintro e w1 ⟨rfl, hE⟩
        have HE1 := Lib.hid hE
        clear hE
        go_wp2_with fail
        refine (HFB.out _ HE1.out).mono ?_
        rintro e w2 ⟨rfl, hE⟩
        have HE := Lib.hid (Ext.trans HE1.out hE)
        clear hE
        go_wp2_with fail
        refine (alive_c w2).mono ?_
        rintro e wz ⟨rfl, hE⟩
        have HEz := Lib.hid (Ext.trans HE.out hE)
        clear hE
        go_wp2_with fail
        go_ret
        exact ⟨rfl, HEz.out⟩
      · have hlz : ¬ (20 : Int) < (x.length : Int) := by omega
        go_enter Tryz.func3, Tryz.ntmps3
        go_wp2_with fail
        refine (HFA.out _ (Ext.refl _)).mono ?_
        rintro e w1 ⟨rfl, hE⟩
        have HE1 := Lib.hid hE
        clear hE
        go_wp2_with fail
        refine (HFB.out _ HE1.out).mono ?_
        rintro e w2 ⟨rfl, hE⟩
        have HE2 := Lib.hid (Ext.trans HE1.out hE)
        clear hE
        go_wp2_with fail
        refine (copied_c _ A w2 (HA.out.ext HE2.out) (by omega) HLA1.out).mono ?_
        rintro e w3 ⟨c, rfl, hc, hE⟩
        have HE3 := Lib.hid (Ext.trans HE2.out hE)
        have HC3 := Lib.hid hc
        clear hE hc
        go_wp2_with fail
        refine (copied_c _ B w3 (HB.out.ext HE3.out) (by omega) HLB1.out).mono ?_
        rintro e w4 ⟨d, rfl, hd, hE⟩
        have HE4 := Lib.hid (Ext.trans HE3.out hE)
        have HC4 := Lib.hid (Rows2.ext HC3.out hE)
        have HD4 := Lib.hid hd
        clear hE hd
        have hEa := Ext.alloc (Ext.refl w4) (.cells #[] 3)
        have HXa := Lib.hid (HX.out.ext (Ext.trans HE4.out hEa))
        have HOA := Lib.hid (World.ownsRow_made (base := w4.heap.size) (e := 3) (size := 1) w4 #[] 0 (Nat.le_refl _) (by unfold maxLen; omega) rfl)
        clear hEa
        go_wp2_with (at_builtin; (refine wpList_append_ints rfl _ _ rfl w4.heap.size _ rfl HOA.out _ x rfl HXa.out (by omega) (by simp) ?_; intro y w5 hown hgrow; have HO5 := Lib.hid hown; have HE5 := Lib.hid (show Ext w4 w5 from Below.grown (Ext.alloc (Ext.refl w4) (.cells #[] 3)) hgrow (by simp) (fun x e => Nat.le_of_eq (Option.some.inj e))); clear hown hgrow))
        have HC5 := Lib.hid (Rows2.ext HC4.out HE5.out)
        have HD5 := Lib.hid (Rows2.ext HD4.out HE5.out)
        have HY5 := Lib.hid (own_ints2 HO5.out (by omega))
        have HW5 := Lib.hid (Ext.trans HE4.out HE5.out)
        have HL6 := Lib.hid (show x.length ≤ 1000000 from by omega)
        clear HO5 HOA HXa
        refine (Multiply_c _ _ A B w5 HC5.out HD5.out HLA.out HLB.out).mono ?_
        rintro e w6 ⟨hS1, hE⟩
        have HE6 := Lib.hid hE
        obtain ⟨p, z, rfl⟩ := mult_two hS1
        have HS1 := Lib.hid hS1
        clear hE hS1
        unfold two
        go_wp2_with fail
        refine (RMultiply_c _ _ A B w6 (Rows2.ext HAR.out (Ext.trans HW5.out HE6.out)) (Rows2.ext HBR.out (Ext.trans HW5.out HE6.out)) HLA.out HLB.out).mono ?_
        rintro e w7 ⟨hS2, hE⟩
        obtain ⟨q, z2, rfl⟩ := rmult_two hS2
        obtain ⟨hz, L, hp, hq, hsp⟩ := mult_both HS1.out hS2 hE
        subst hz
        have HE7 := Lib.hid (Ext.trans HE6.out hE)
        have HP7 := Lib.hid hp
        have HQ7 := Lib.hid hq
        have HSP7 := Lib.hid hsp
        have hzz : (z2 != z2) = false := by simp
        clear hE hS2 hp hq hsp HS1
        unfold two
        go_wp2_with fail
        refine (rows_c _ _ L L w7 HP7.out HQ7.out).mono ?_
        rintro e w8 ⟨rfl, hE⟩
        have HE8 := Lib.hid (Ext.trans HE7.out hE)
        have HSP8 := Lib.hid (show SpoilOk w5.heap.size w8 p from by
          rcases HSP7.out with h | ⟨n, h1, h2⟩
          · exact .inl h
          · exact .inr ⟨n, h1, h2.ext hE⟩)
        rw [decide_eq_true rfl]
        clear hE hzz
        go_wp2_with fail
        refine (spoil_c p w5.heap.size w8 HSP8.out).mono ?_
        rintro e w9 ⟨⟨_, rfl⟩, hB⟩
        have HE9 := Lib.hid (ext_below HE8.out hB (Nat.le_refl _))
        clear hB
        go_wp2_with fail
        refine (Power_c _ A k w9 (Rows2.ext HC5.out HE9.out) HLA.out).mono ?_
        rintro e v1 ⟨hS1, hE⟩
        have HF1 := Lib.hid hE
        obtain ⟨p2, y1, rfl⟩ := pow_two hS1
        have HS1 := Lib.hid hS1
        clear hE hS1
        unfold two
        go_wp2_with fail
        refine (RPower_c _ A k v1 (Rows2.ext HAR.out (Ext.trans HW5.out (Ext.trans HE9.out HF1.out))) HLA.out).mono ?_
        rintro e v2 ⟨hS2, hE⟩
        obtain ⟨q2, y2, rfl⟩ := rpow_two hS2
        obtain ⟨hz, L2, hp, hq, hsp⟩ := pow_both HS1.out hS2 hE
        subst hz
        have HF2 := Lib.hid (Ext.trans HF1.out hE)
        have HP2 := Lib.hid hp
        have HQ2 := Lib.hid hq
        have HSP2 := Lib.hid hsp
        have hzz : (y2 != y2) = false := by simp
        clear hE hS2 hp hq hsp HS1
        unfold two
        go_wp2_with fail
        refine (rows_c _ _ L2 L2 v2 HP2.out HQ2.out).mono ?_
        rintro e v3 ⟨rfl, hE⟩
        have HF3 := Lib.hid (Ext.trans HF2.out hE)
        have HSP3 := Lib.hid (show SpoilOk w9.heap.size v3 p2 from by
          rcases HSP2.out with h | ⟨n, h1, h2⟩
          · exact .inl h
          · exact .inr ⟨n, h1, h2.ext hE⟩)
        rw [decide_eq_true rfl]
        clear hE hzz
        go_wp2_with fail
        refine (spoil_c p2 w9.heap.size v3 HSP3.out).mono ?_
        rintro e v4 ⟨⟨_, rfl⟩, hB⟩
        have HF4 := Lib.hid (Ext.trans HE9.out (ext_below HF3.out hB (Nat.le_refl _)))
        clear hB
        go_wp2_with fail
        refine (Run_c _ _ A x k v4 (Rows2.ext HC5.out HF4.out) HLA.out (Ints.ext HY5.out HF4.out) HL6.out (by omega)).mono ?_
        rintro e v5 ⟨hS1, hE⟩
        have HF5 := Lib.hid (Ext.trans HF4.out hE)
        obtain ⟨p3, x1, rfl⟩ := run2_two hS1
        have HS1 := Lib.hid hS1
        clear hE hS1
        unfold two
        go_wp2_with fail
        refine (RRun_c _ _ A x k v5 (Rows2.ext HAR.out (Ext.trans HW5.out HF5.out)) HLA.out (Ints.ext HX.out.1 (Ext.trans HW5.out HF5.out)) HL6.out (by omega)).mono ?_
        rintro e v6 ⟨hS2, hE⟩
        obtain ⟨q3, x2, rfl⟩ := run2_two hS2
        obtain ⟨hz, L3, hp, hq⟩ := run_both HS1.out hS2 hE
        subst hz
        have HF6 := Lib.hid (Ext.trans HF5.out hE)
        have HP3 := Lib.hid hp
        have HQ3 := Lib.hid hq
        have hzz : (x2 == x2) = true := by simp
        clear hE hS2 hp hq HS1
        unfold two
        go_wp2_with fail
        refine (same_c _ _ L3 L3 v6 HP3.out HQ3.out).mono ?_
        rintro e v7 ⟨rfl, hE⟩
        have HF7 := Lib.hid (Ext.trans HF6.out hE)
        rw [decide_eq_true rfl]
        clear hE hzz
        go_wp2_with fail
        refine (rows_c _ _ A A v7 (Rows2.ext HC5.out HF7.out) (Rows2.ext HAR.out (Ext.trans HW5.out HF7.out))).mono ?_
        rintro e v8 ⟨rfl, hE⟩
        have HF8 := Lib.hid (Ext.trans HF7.out hE)
        rw [decide_eq_true rfl]
        clear hE
        go_wp2_with fail
        refine (rows_c _ _ B B v8 (Rows2.ext HD5.out HF8.out) (Rows2.ext HBR.out (Ext.trans HW5.out HF8.out))).mono ?_
        rintro e v9 ⟨rfl, hE⟩
        have HF9 := Lib.hid (Ext.trans HF8.out hE)
        rw [decide_eq_true rfl]
        clear hE
        go_wp2_with fail
        refine (same_c _ _ x x v9 (Ints.ext HY5.out HF9.out) (Ints.ext HX.out.1 (Ext.trans HW5.out HF9.out))).mono ?_
        rintro e v10 ⟨rfl, hE⟩
        have HFt := Lib.hid (Ext.trans HW5.out (Ext.trans HF9.out hE))
        rw [decide_eq_true rfl]
        clear hE
        go_wp2_with fail
        refine (alive_c v10).mono ?_
        rintro e wz ⟨rfl, hE⟩
        have HEz := Lib.hid (Ext.trans HFt.out hE)
        clear hE
        go_wp2_with fail
        go_ret
        exact ⟨rfl, HEz.out⟩
end Go.Proofs.YtbcngojiikdigaaGreat
