import Derived.Test.YtnpebfchojalcaaJ4
import Derived.Test.YtnpebfchojalcaaS5
import Derived.Test.YtnpebfchojalcaaE1
namespace Go.Proofs.Ytnpebfchojalcaa
set_option maxRecDepth 100000
open Go.RowKit Go.Shelf
theorem itCells_length : ∀ ts : List It, (itCells ts).length = ts.length * 3 := by
  intro ts
  induction ts with
  | nil => rfl
  | cons t r ih => simp only [itCells, List.length_cons, ih]; omega
theorem itCells_get : ∀ (ts : List It) (j : Nat) (u : Value), (itCells ts)[j]? = some u → ∃ (k : Nat) (t : It), ts[k]? = some t ∧ ((j = k * 3 ∧ u = .int .i64 t.1) ∨ (j = k * 3 + 1 ∧ u = .int .i64 t.2.1) ∨ (j = k * 3 + 2 ∧ u = .int .i64 t.2.2)) := by
  intro ts
  induction ts with
  | nil => intro j u h; simp [itCells] at h
  | cons a r ih =>
    intro j u h
    match j, h with
    | 0, h => simp [itCells] at h; exact ⟨0, a, rfl, .inl ⟨rfl, h.symm⟩⟩
    | 1, h => simp [itCells] at h; exact ⟨0, a, rfl, .inr (.inl ⟨rfl, h.symm⟩)⟩
    | 2, h => simp [itCells] at h; exact ⟨0, a, rfl, .inr (.inr ⟨rfl, h.symm⟩)⟩
    | j + 3, h =>
      obtain ⟨k, q, hk, hh⟩ := ih j u (by simpa [itCells] using h)
      refine ⟨k + 1, q, by simpa using hk, ?_⟩
      rcases hh with ⟨a, b⟩ | ⟨a, b⟩ | ⟨a, b⟩
      · exact .inl ⟨by omega, b⟩
      · exact .inr (.inl ⟨by omega, b⟩)
      · exact .inr (.inr ⟨by omega, b⟩)
theorem trip_cells {w : World} {b o : Nat} {ts : List It} (h : TripAt w b o ts) (j : Nat) (u : Value) (hj : (itCells ts)[j]? = some u) : w.cell? ((⟨b, o, none⟩ : Addr).add j) = some u := by
  obtain ⟨k, q, hk, hh⟩ := itCells_get ts j u hj
  obtain ⟨h1, h2, h3⟩ := h k q hk
  rw [add_addr]
  rcases hh with ⟨rfl, rfl⟩ | ⟨rfl, rfl⟩ | ⟨rfl, rfl⟩
  · exact h1
  · exact h2
  · exact h3
theorem itCells_one {ts : List It} : ∀ u ∈ itCells ts, u.oneCell' = true := by
  intro u hu
  obtain ⟨j, hj⟩ := List.mem_iff_getElem?.1 hu
  obtain ⟨k, q, hk, hh⟩ := itCells_get ts j u hj
  rcases hh with ⟨_, rfl⟩ | ⟨_, rfl⟩ | ⟨_, rfl⟩ <;> rfl
theorem items_some {w : World} {ad : Addr} {n cap : Nat} {ts : List It} (h : Items w (.slice (some ad) n cap) ts) : n = ts.length ∧ ∀ (j : Nat) (u : Value), (itCells ts)[j]? = some u → w.cell? (ad.add j) = some u := by
  obtain ⟨a, c, e, _, _, hr⟩ := h
  injection e with e1 e2 e3
  refine ⟨e2, ?_⟩
  rcases hr with rfl | ⟨b, o, rfl, hp⟩
  · intro j u hj; simp [itCells] at hj
  · injection e1 with e1
    subst e1
    exact fun j u hj => trip_cells hp j u hj
theorem best_pair {ts : List It} {x y : Int} {e1 : Ending} {w1 : World} (h1 : BestS ts x y e1 w1) :
    ∃ (b : Int) (P : List Ct) (a1 : Option Addr) (c1 : Nat) (er : Int), e1 = three (.int .i64 b) (.slice a1 P.length c1) (.int .i64 er) ∧ Vecs w1 (.slice a1 P.length c1) P ∧
      ∀ e2 w2, BestS ts x y e2 w2 → ∃ (a2 : Option Addr) (c2 : Nat), e2 = three (.int .i64 b) (.slice a2 P.length c2) (.int .i64 er) ∧ Vecs w2 (.slice a2 P.length c2) P := by
  rcases h1 with ⟨h0, rfl⟩ | ⟨h0, v', rfl, hp⟩
  · refine ⟨0, [], none, 0, ordZ x y ts, rfl, ⟨none, 0, rfl, Nat.le_refl _, by omega, .inl rfl⟩, fun e2 w2 h2 => ?_⟩
    rcases h2 with ⟨_, rfl⟩ | ⟨h3, _⟩
    · exact ⟨none, 0, rfl, none, 0, rfl, Nat.le_refl _, by omega, .inl rfl⟩
    · exact absurd h3 h0
  · obtain ⟨a1, c1, rfl, _⟩ := hp.at
    refine ⟨_, _, a1, c1, 0, rfl, hp, fun e2 w2 h2 => ?_⟩
    rcases h2 with ⟨h3, _⟩ | ⟨_, v2, rfl, hp2⟩
    · exact absurd h0 h3
    · obtain ⟨a2, c2, rfl, _⟩ := hp2.at
      exact ⟨a2, c2, rfl, hp2⟩
set_option maxHeartbeats 16000000 in
theorem cuts_law (x y : Int) (u : Value) (ts : List It) (w : World) (hu : Items w u ts) (hsl : u = .slice none 0 0 ∨ ∃ ad n cap, u = .slice (some ad) n cap) :
    Calls Try.prog 7 #[.int .i64 x, .int .i64 y, u] w fun e w' => e = .returned (.bool true) ∧ Ext w w' := by
  obtain ⟨i0, hi, hz0, hz1, hz2⟩ := info_parts info53
  have HI := Lib.hid hi
  have HZ0 := Lib.hid hz0
  have HZ1 := Lib.hid hz1
  have HZ2 := Lib.hid hz2
  have HU := Lib.hid hu
  clear hu hi hz0 hz1 hz2
  rcases hsl with rfl | ⟨ad, nn, cap, rfl⟩
  · have hn0 : ts = [] := by
      obtain ⟨ap, cp, e, _⟩ := HU.out
      simp only [Value.slice.injEq] at e
      exact List.length_eq_zero_iff.1 e.2.1.symm
    subst hn0
    by_cases ho : ordZ x y ([] : List It) = 0
    · obtain ⟨⟨hx1, hx2, hy1, hy2⟩, _, _⟩ := ord_ok ho
      have HO := Lib.hid ho
      clear ho
      go_enter Try.func7, Try.ntmps7
      go_wp2_with fail
      refine (rorder_c x y _ ([] : List It) w HU.out).mono ?_
      rintro e w1 ⟨rfl, hE1⟩
      rw [HO.out]
      have HE1 := Lib.hid hE1
      clear hE1
      by_cases hx4 : 40 < x
      · skip
        go_wp2_with fail
        refine (alive_c w1).mono ?_
        rintro e w2 ⟨rfl, hE⟩
        go_wp2_with fail
        go_ret
        exact ⟨rfl, Ext.trans HE1.out hE⟩
      · by_cases hy4 : 40 < y
        · skip
          go_wp2_with fail
          refine (alive_c w1).mono ?_
          rintro e w2 ⟨rfl, hE⟩
          go_wp2_with fail
          go_ret
          exact ⟨rfl, Ext.trans HE1.out hE⟩
        · skip
          have HE := Lib.hid (Ext.alloc (Ext.refl w1) (.cells #[] 53))
          have HO := Lib.hid (show (w1.alloc (.cells #[] 53)).ownsRow w1.heap.size 53 3 (.slice (some ⟨w1.heap.size, 0, none⟩) 0 0) 0 [] from World.ownsRow_made w1 #[] 0 (Nat.le_refl _) (by decide) rfl)
          go_wp2_with (at_builtin; refine wpList_append_own_none rfl _ _ 41 rfl w1.heap.size 53 i0 3 Try.underlying41 HI.out _ 0 [] rfl HO.out rfl ?_)
          have HEO := Lib.hid (Ext.trans HE1.out HE.out)
          have HVO : RowKit.Hid (Items (w1.alloc (.cells #[] 53)) (.slice (some ⟨w1.heap.size, 0, none⟩) 0 0) []) := Lib.hid ⟨_, 0, rfl, Nat.le_refl _, by omega, .inl rfl⟩
          generalize w1.alloc (.cells #[] 53) = wo at *
          refine (Best_c x y _ ([] : List It) wo HVO.out).mono ?_
          rintro e w2 ⟨hS, hE2⟩
          obtain ⟨b, P, a3, c3, er, rfl, hi1, hnext⟩ := best_pair hS
          have HI1 := Lib.hid hi1
          have HN := Lib.hid hnext
          have HE2 := Lib.hid (Ext.trans HEO.out hE2)
          have HVO2 := Lib.hid (HVO.out.ext hE2)
          clear hS hi1 hnext hE2
          simp only [three]
          go_wp2_with fail
          refine (rBest_c x y _ ([] : List It) w2 (HU.out.ext HE2.out)).mono ?_
          rintro e w3 ⟨hS, hE3⟩
          obtain ⟨a4, c4, rfl, hi2⟩ := HN.out e w3 hS
          have HI1 := Lib.hid (HI1.out.ext hE3)
          have HI2 := Lib.hid hi2
          have HE3 := Lib.hid (Ext.trans HE2.out hE3)
          have HVO3 := Lib.hid (HVO2.out.ext hE3)
          clear hS hi2 hE3
          simp only [three]
          go_wp2_with fail
          refine (cuts_c _ _ P P w3 HI1.out HI2.out).mono ?_
          rintro e w4 ⟨rfl, hE4⟩
          rw [decide_eq_true (rfl : P = P)]
          have HE4 := Lib.hid (Ext.trans HE3.out hE4)
          have HVO4 := Lib.hid (HVO3.out.ext hE4)
          clear hE4
          go_wp2_with fail
          go_loopw [14] (fun i wr => i = .int .i64 0 ∧ Ext w4 wr) (fun _ _ => 0)
          case atStart => exact ⟨rfl, Ext.refl _⟩
          case round =>
            obtain ⟨rfl, hE⟩ := hrel
            have HEr := Lib.hid hE
            clear hE
            go_wp2_with fail
            refine (alive_c _).mono ?_
            rintro e w6 ⟨rfl, hE6⟩
            go_wp2_with fail
            go_ret
            exact ⟨rfl, Ext.trans HE4.out (Ext.trans HEr.out hE6)⟩
    · have HO := Lib.hid (rorder_c x y _ ([] : List It) w HU.out)
      have hz0 : (ordZ x y ([] : List It) == 0) = false := by rw [beq_eq_false_iff_ne]; exact ho
      generalize hzz : ordZ x y ([] : List It) = z at *
      clear hzz
      go_enter Try.func7, Try.ntmps7
      go_wp2_with fail
      refine HO.out.mono ?_
      rintro e w1 ⟨rfl, hE1⟩
      have HE1 := Lib.hid hE1
      clear hE1
      have HE := Lib.hid (Ext.alloc (Ext.refl w1) (.cells #[] 53))
      have HO := Lib.hid (show (w1.alloc (.cells #[] 53)).ownsRow w1.heap.size 53 3 (.slice (some ⟨w1.heap.size, 0, none⟩) 0 0) 0 [] from World.ownsRow_made w1 #[] 0 (Nat.le_refl _) (by decide) rfl)
      go_wp2_with (at_builtin; refine wpList_append_own_none rfl _ _ 41 rfl w1.heap.size 53 i0 3 Try.underlying41 HI.out _ 0 [] rfl HO.out rfl ?_)
      have HEO := Lib.hid (Ext.trans HE1.out HE.out)
      have HVO : RowKit.Hid (Items (w1.alloc (.cells #[] 53)) (.slice (some ⟨w1.heap.size, 0, none⟩) 0 0) []) := Lib.hid ⟨_, 0, rfl, Nat.le_refl _, by omega, .inl rfl⟩
      generalize w1.alloc (.cells #[] 53) = wo at *
      refine (Best_c x y _ ([] : List It) wo HVO.out).mono ?_
      rintro e w2 ⟨hS, hE2⟩
      obtain ⟨b, P, a3, c3, er, rfl, hi1, hnext⟩ := best_pair hS
      have HI1 := Lib.hid hi1
      have HN := Lib.hid hnext
      have HE2 := Lib.hid (Ext.trans HEO.out hE2)
      have HVO2 := Lib.hid (HVO.out.ext hE2)
      clear hS hi1 hnext hE2
      simp only [three]
      go_wp2_with fail
      refine (rBest_c x y _ ([] : List It) w2 (HU.out.ext HE2.out)).mono ?_
      rintro e w3 ⟨hS, hE3⟩
      obtain ⟨a4, c4, rfl, hi2⟩ := HN.out e w3 hS
      have HI1 := Lib.hid (HI1.out.ext hE3)
      have HI2 := Lib.hid hi2
      have HE3 := Lib.hid (Ext.trans HE2.out hE3)
      have HVO3 := Lib.hid (HVO2.out.ext hE3)
      clear hS hi2 hE3
      simp only [three]
      go_wp2_with fail
      refine (cuts_c _ _ P P w3 HI1.out HI2.out).mono ?_
      rintro e w4 ⟨rfl, hE4⟩
      rw [decide_eq_true (rfl : P = P)]
      have HE4 := Lib.hid (Ext.trans HE3.out hE4)
      have HVO4 := Lib.hid (HVO3.out.ext hE4)
      clear hE4
      go_wp2_with fail
      go_loopw [14] (fun i wr => i = .int .i64 0 ∧ Ext w4 wr) (fun _ _ => 0)
      case atStart => exact ⟨rfl, Ext.refl _⟩
      case round =>
        obtain ⟨rfl, hE⟩ := hrel
        have HEr := Lib.hid hE
        clear hE
        go_wp2_with fail
        refine (alive_c _).mono ?_
        rintro e w6 ⟨rfl, hE6⟩
        go_wp2_with fail
        go_ret
        exact ⟨rfl, Ext.trans HE4.out (Ext.trans HEr.out hE6)⟩
  · obtain ⟨hnn, hcells⟩ := items_some HU.out
    subst hnn
    have HC := Lib.hid hcells
    clear hcells
    obtain ⟨hir0, hcp1, hcp2, hir⟩ : True ∧ ts.length ≤ cap ∧ cap ≤ 9223372036854775807 ∧ ∀ (k : Nat) (t : It), ts[k]? = some t → ∃ b off, some ad = some ⟨b, off, none⟩ ∧ w.cell? ⟨b, off + k * 3, none⟩ = some (.int .i64 t.1) ∧ w.cell? ⟨b, off + k * 3 + 1, none⟩ = some (.int .i64 t.2.1) ∧ w.cell? ⟨b, off + k * 3 + 2, none⟩ = some (.int .i64 t.2.2) := by
      obtain ⟨ap, cp, e, h1, h2, h3⟩ := HU.out.at
      injection e with e1 e2 e3
      subst e1 e3
      exact ⟨trivial, h1, h2, h3⟩
    have HIR := Lib.hid hir
    clear hir
    by_cases hn : 30 < ts.length
    · go_enter Try.func7, Try.ntmps7
      go_wp2_with fail
      refine (alive_c w).mono ?_
      rintro e w2 ⟨rfl, hE⟩
      go_wp2_with fail
      go_ret
      exact ⟨rfl, hE⟩
    · skip
      by_cases ho : ordZ x y ts = 0
      · obtain ⟨⟨hx1, hx2, hy1, hy2⟩, _, _⟩ := ord_ok ho
        have HO := Lib.hid ho
        clear ho
        go_enter Try.func7, Try.ntmps7
        go_wp2_with fail
        refine (rorder_c x y _ ts w HU.out).mono ?_
        rintro e w1 ⟨rfl, hE1⟩
        rw [HO.out]
        have HE1 := Lib.hid hE1
        clear hE1
        by_cases hx4 : 40 < x
        · skip
          go_wp2_with fail
          refine (alive_c w1).mono ?_
          rintro e w2 ⟨rfl, hE⟩
          go_wp2_with fail
          go_ret
          exact ⟨rfl, Ext.trans HE1.out hE⟩
        · by_cases hy4 : 40 < y
          · skip
            go_wp2_with fail
            refine (alive_c w1).mono ?_
            rintro e w2 ⟨rfl, hE⟩
            go_wp2_with fail
            go_ret
            exact ⟨rfl, Ext.trans HE1.out hE⟩
          · skip
            have HE := Lib.hid (Ext.alloc (Ext.refl w1) (.cells #[] 53))
            have HO := Lib.hid (show (w1.alloc (.cells #[] 53)).ownsRow w1.heap.size 53 3 (.slice (some ⟨w1.heap.size, 0, none⟩) 0 0) 0 [] from World.ownsRow_made w1 #[] 0 (Nat.le_refl _) (by decide) rfl)
            go_wp2_with (at_builtin; refine wpList_append_own _ rfl _ _ 41 rfl w1.heap.size 53 i0 (.agg #[.int .i64 0, .int .i64 0, .int .i64 0]) 3 24 Try.underlying41 HI.out HZ0.out HZ1.out HZ2.out rfl (by decide) _ _ _ rfl HO.out ad ts.length cap (itCells ts) rfl (itCells_length ts) (fun j u hj => Ext.cell HE.out (Ext.cell HE1.out (HC.out j u hj))) itCells_one (by unfold maxLen; omega) (by omega) HE.out.size ?_; intro v' wo hown' hgrow hnil; have HO4 := Lib.hid hown'; have HG4 := Lib.hid hgrow; obtain ⟨aw, cw, rfl⟩ := own_slice hown'; clear hown' hgrow hnil)
            have HVO := Lib.hid (show Items wo _ ts from items_own (base := w1.heap.size) (by have h := HO4.out; rw [Nat.zero_add, List.nil_append] at h; exact h) (by omega))
            have HEO := Lib.hid (show Ext w wo from Ext.trans HE1.out (Below.grown HE.out HG4.out HE.out.size (fun j e => own_block HO.out e)))
            (try simp only [Nat.zero_add])
            clear HO4 HG4
            refine (Best_c x y _ ts wo HVO.out).mono ?_
            rintro e w2 ⟨hS, hE2⟩
            obtain ⟨b, P, a3, c3, er, rfl, hi1, hnext⟩ := best_pair hS
            have HI1 := Lib.hid hi1
            have HN := Lib.hid hnext
            have HE2 := Lib.hid (Ext.trans HEO.out hE2)
            have HVO2 := Lib.hid (HVO.out.ext hE2)
            clear hS hi1 hnext hE2
            simp only [three]
            go_wp2_with fail
            refine (rBest_c x y _ ts w2 (HU.out.ext HE2.out)).mono ?_
            rintro e w3 ⟨hS, hE3⟩
            obtain ⟨a4, c4, rfl, hi2⟩ := HN.out e w3 hS
            have HI1 := Lib.hid (HI1.out.ext hE3)
            have HI2 := Lib.hid hi2
            have HE3 := Lib.hid (Ext.trans HE2.out hE3)
            have HVO3 := Lib.hid (HVO2.out.ext hE3)
            clear hS hi2 hE3
            simp only [three]
            go_wp2_with fail
            refine (cuts_c _ _ P P w3 HI1.out HI2.out).mono ?_
            rintro e w4 ⟨rfl, hE4⟩
            rw [decide_eq_true (rfl : P = P)]
            have HE4 := Lib.hid (Ext.trans HE3.out hE4)
            have HVO4 := Lib.hid (HVO3.out.ext hE4)
            clear hE4
            go_wp2_with fail
            obtain ⟨ao, co, ho1, _, _, hor⟩ := HVO4.out.at
            have HOR := Lib.hid hor
            injection ho1 with ho1 _ ho2
            subst ho1 ho2
            clear hor
            go_loopw [14] (fun i wr => ∃ k : Nat, i = .int .i64 k ∧ k ≤ ts.length ∧ Ext w4 wr) (fun i _ => ts.length - (intOf i).toNat)
            case atStart => exact ⟨0, rfl, Nat.zero_le _, Ext.refl _⟩
            case round =>
              obtain ⟨k, rfl, hk, hE⟩ := hrel
              have HEr := Lib.hid hE
              clear hE
              by_cases hlt : k < ts.length
              · obtain ⟨t, ht⟩ := getElem?_len hlt
                obtain ⟨b1, o1, rfl, c0, c1, c2⟩ := HOR.out k t ht
                obtain ⟨b2, o2, e2, d0, d1, d2⟩ := HIR.out k t ht
                injection e2 with e2
                subst e2
                replace c0 := Ext.cell HEr.out c0
                replace c1 := Ext.cell HEr.out c1
                replace c2 := Ext.cell HEr.out c2
                replace d0 := Ext.cell (Ext.trans HE4.out HEr.out) d0
                replace d1 := Ext.cell (Ext.trans HE4.out HEr.out) d1
                replace d2 := Ext.cell (Ext.trans HE4.out HEr.out) d2
                obtain ⟨t1, t2, t3⟩ := t
                simp only at c0 c1 c2 d0 d1 d2
                clear ht
                go_wp2_with fail
                go_quiet (fail)
                go_wp2
                all_goals exact ⟨⟨k + 1, by simp, by omega, ext_drewN HEr.out _⟩, by simp [intOf]; omega⟩
              · obtain rfl : k = ts.length := by omega
                go_wp2_with fail
                refine (alive_c _).mono ?_
                rintro e w6 ⟨rfl, hE6⟩
                go_wp2_with fail
                go_ret
                exact ⟨rfl, Ext.trans HE4.out (Ext.trans HEr.out hE6)⟩
      · have HO := Lib.hid (rorder_c x y _ ts w HU.out)
        have hz0 : (ordZ x y ts == 0) = false := by rw [beq_eq_false_iff_ne]; exact ho
        generalize hzz : ordZ x y ts = z at *
        clear hzz
        go_enter Try.func7, Try.ntmps7
        go_wp2_with fail
        refine HO.out.mono ?_
        rintro e w1 ⟨rfl, hE1⟩
        have HE1 := Lib.hid hE1
        clear hE1
        have HE := Lib.hid (Ext.alloc (Ext.refl w1) (.cells #[] 53))
        have HO := Lib.hid (show (w1.alloc (.cells #[] 53)).ownsRow w1.heap.size 53 3 (.slice (some ⟨w1.heap.size, 0, none⟩) 0 0) 0 [] from World.ownsRow_made w1 #[] 0 (Nat.le_refl _) (by decide) rfl)
        go_wp2_with (at_builtin; refine wpList_append_own _ rfl _ _ 41 rfl w1.heap.size 53 i0 (.agg #[.int .i64 0, .int .i64 0, .int .i64 0]) 3 24 Try.underlying41 HI.out HZ0.out HZ1.out HZ2.out rfl (by decide) _ _ _ rfl HO.out ad ts.length cap (itCells ts) rfl (itCells_length ts) (fun j u hj => Ext.cell HE.out (Ext.cell HE1.out (HC.out j u hj))) itCells_one (by unfold maxLen; omega) (by omega) HE.out.size ?_; intro v' wo hown' hgrow hnil; have HO4 := Lib.hid hown'; have HG4 := Lib.hid hgrow; obtain ⟨aw, cw, rfl⟩ := own_slice hown'; clear hown' hgrow hnil)
        have HVO := Lib.hid (show Items wo _ ts from items_own (base := w1.heap.size) (by have h := HO4.out; rw [Nat.zero_add, List.nil_append] at h; exact h) (by omega))
        have HEO := Lib.hid (show Ext w wo from Ext.trans HE1.out (Below.grown HE.out HG4.out HE.out.size (fun j e => own_block HO.out e)))
        (try simp only [Nat.zero_add])
        clear HO4 HG4
        refine (Best_c x y _ ts wo HVO.out).mono ?_
        rintro e w2 ⟨hS, hE2⟩
        obtain ⟨b, P, a3, c3, er, rfl, hi1, hnext⟩ := best_pair hS
        have HI1 := Lib.hid hi1
        have HN := Lib.hid hnext
        have HE2 := Lib.hid (Ext.trans HEO.out hE2)
        have HVO2 := Lib.hid (HVO.out.ext hE2)
        clear hS hi1 hnext hE2
        simp only [three]
        go_wp2_with fail
        refine (rBest_c x y _ ts w2 (HU.out.ext HE2.out)).mono ?_
        rintro e w3 ⟨hS, hE3⟩
        obtain ⟨a4, c4, rfl, hi2⟩ := HN.out e w3 hS
        have HI1 := Lib.hid (HI1.out.ext hE3)
        have HI2 := Lib.hid hi2
        have HE3 := Lib.hid (Ext.trans HE2.out hE3)
        have HVO3 := Lib.hid (HVO2.out.ext hE3)
        clear hS hi2 hE3
        simp only [three]
        go_wp2_with fail
        refine (cuts_c _ _ P P w3 HI1.out HI2.out).mono ?_
        rintro e w4 ⟨rfl, hE4⟩
        rw [decide_eq_true (rfl : P = P)]
        have HE4 := Lib.hid (Ext.trans HE3.out hE4)
        have HVO4 := Lib.hid (HVO3.out.ext hE4)
        clear hE4
        go_wp2_with fail
        obtain ⟨ao, co, ho1, _, _, hor⟩ := HVO4.out.at
        have HOR := Lib.hid hor
        injection ho1 with ho1 _ ho2
        subst ho1 ho2
        clear hor
        go_loopw [14] (fun i wr => ∃ k : Nat, i = .int .i64 k ∧ k ≤ ts.length ∧ Ext w4 wr) (fun i _ => ts.length - (intOf i).toNat)
        case atStart => exact ⟨0, rfl, Nat.zero_le _, Ext.refl _⟩
        case round =>
          obtain ⟨k, rfl, hk, hE⟩ := hrel
          have HEr := Lib.hid hE
          clear hE
          by_cases hlt : k < ts.length
          · obtain ⟨t, ht⟩ := getElem?_len hlt
            obtain ⟨b1, o1, rfl, c0, c1, c2⟩ := HOR.out k t ht
            obtain ⟨b2, o2, e2, d0, d1, d2⟩ := HIR.out k t ht
            injection e2 with e2
            subst e2
            replace c0 := Ext.cell HEr.out c0
            replace c1 := Ext.cell HEr.out c1
            replace c2 := Ext.cell HEr.out c2
            replace d0 := Ext.cell (Ext.trans HE4.out HEr.out) d0
            replace d1 := Ext.cell (Ext.trans HE4.out HEr.out) d1
            replace d2 := Ext.cell (Ext.trans HE4.out HEr.out) d2
            obtain ⟨t1, t2, t3⟩ := t
            simp only at c0 c1 c2 d0 d1 d2
            clear ht
            go_wp2_with fail
            go_quiet (fail)
            go_wp2
            all_goals exact ⟨⟨k + 1, by simp, by omega, ext_drewN HEr.out _⟩, by simp [intOf]; omega⟩
          · obtain rfl : k = ts.length := by omega
            go_wp2_with fail
            refine (alive_c _).mono ?_
            rintro e w6 ⟨rfl, hE6⟩
            go_wp2_with fail
            go_ret
            exact ⟨rfl, Ext.trans HE4.out (Ext.trans HEr.out hE6)⟩
end Go.Proofs.Ytnpebfchojalcaa
