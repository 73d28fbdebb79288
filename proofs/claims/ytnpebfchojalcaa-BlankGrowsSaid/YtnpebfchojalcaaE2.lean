import Derived.Test.YtnpebfchojalcaaE1
namespace Go.Proofs.Ytnpebfchojalcaa
set_option maxRecDepth 100000
open Go.RowKit Go.Shelf
/-- the two lists in the making -/
structure Two (B : Nat) (wr : World) (u v : Value) (k : Nat) (xs ys : List It) : Prop where
  o1 : wr.ownsRow B 53 3 u k (itCells xs)
  o2 : wr.ownsRow B 53 3 v k (itCells ys)
  ne : ∀ g, u.ownBlock = some g → v.ownBlock ≠ some g
theorem own_grown {A B : World} {base : Nat} {e : TypeId} {n sz : Nat} {v : Value} {xs : List Value} {row : Option Nat} (h : A.ownsRow base e sz v n xs) (hg : A.grownBy B row) (hne : ∀ g, v.ownBlock = some g → some g ≠ row) : B.ownsRow base e sz v n xs := by
  refine ⟨h.1, ?_⟩
  rcases h.2 with h | ⟨g, cap, cur, hv, hb, hc, r⟩
  · exact .inl h
  · exact .inr ⟨g, cap, cur, hv, hb, (hg.block g (Array.getElem?_eq_some_iff.1 hc).1 (hne g (by rw [hv]; rfl))).trans hc, r⟩
set_option maxHeartbeats 8000000 in
theorem grows_law (x y : Int) (v : Value) (ts : List It) (cu mo : Int) (w : World) (hv : Items w v ts) (hcu : 0 ≤ cu ∧ cu ≤ 255) (hmo : 0 ≤ mo ∧ mo ≤ 255) :
    Calls Try.prog 13 #[.int .i64 x, .int .i64 y, v, .int .u8 cu, .int .u8 mo] w fun e w' => e = .returned (.bool true) ∧ Ext w w' := by
  obtain ⟨a, cap, rfl, hl, hm, hr⟩ := hv.at
  have HV := Lib.hid hv
  have HR := Lib.hid hr
  clear hv hr
  by_cases hn : 30 < ts.length
  · go_enter Try.func13, Try.ntmps13
    go_wp2_with fail
    refine (alive_c w).mono ?_
    rintro e w2 ⟨rfl, hE⟩
    go_wp2_with fail
    go_ret
    exact ⟨rfl, hE⟩
  · by_cases ho : ordZ x y ts = 0
    · obtain ⟨⟨hx1, hx2, hy1, hy2⟩, hn10, hok⟩ := ord_ok ho
      obtain ⟨W, rfl⟩ : ∃ W : Nat, x = (W : Int) := ⟨x.toNat, by omega⟩
      obtain ⟨H, rfl⟩ : ∃ H : Nat, y = (H : Int) := ⟨y.toNat, by omega⟩
      obtain ⟨m9, hm9⟩ : ∃ m9, m9 = mo % 9 := ⟨_, rfl⟩
      have h9 : 0 ≤ m9 ∧ m9 ≤ 8 := by omega
      obtain ⟨hdall, hdge⟩ := dear_all h9.1 hok
      have HO := Lib.hid ho
      have HOK := Lib.hid hok
      have HM9 := Lib.hid hm9
      have HDA := Lib.hid hdall
      have HDG := Lib.hid hdge
      clear ho hok hm9 hdall hdge
      go_enter Try.func13, Try.ntmps13
      go_wp2_with fail
      refine (Best_c (W : Int) (H : Int) _ ts w HV.out).mono ?_
      rintro e w1 ⟨hS, hE1⟩
      obtain ⟨p1, rfl, _⟩ := best_val hS HO.out
      rw [show (W : Int).toNat = W from Int.toNat_natCast W, show (H : Int).toNat = H from Int.toNat_natCast H]
      have hbv := bestV_small HOK.out (w := W) (g := H) (by omega) (by omega)
      have HBV := Lib.hid (show bestV ts W H = bestV ts W H from rfl)
      obtain ⟨V, hV⟩ : ∃ V, V = bestV ts W H := ⟨_, rfl⟩
      rw [← hV] at hbv ⊢
      have HV0 := Lib.hid hV
      have HE1 := Lib.hid hE1
      clear hS hE1 hV HBV
      simp only [three]
      go_wp2_with fail
      go_loopw [14, 15, 16] (fun u q i wr => ∃ k : Nat, i = .int .i64 k ∧ k ≤ ts.length ∧ Two w1.heap.size wr u q k ((ts.take k).map turnIt) ((ts.take k).map (dearIt m9)) ∧ Ext w1 wr) (fun _ _ i _ => ts.length - (intOf i).toNat)
      case atStart => exact ⟨0, rfl, Nat.zero_le _, ⟨⟨rfl, .inl ⟨rfl, rfl⟩⟩, ⟨rfl, .inl ⟨rfl, rfl⟩⟩, fun g h => by cases h⟩, Ext.refl _⟩
      case round =>
        obtain ⟨k, rfl, hk, hTwo, hE⟩ := hrel
        obtain ⟨a1, c1, rfl⟩ := own_slice hTwo.o1
        obtain ⟨a2, c2, rfl⟩ := own_slice hTwo.o2
        have HT2 := Lib.hid hTwo
        have HEr := Lib.hid hE
        clear hTwo hE
        have hwr := HEr.out.size
        by_cases hlt : k < ts.length
        · obtain ⟨t, ht⟩ := getElem?_len hlt
          obtain ⟨b, o, rfl, hc0, hc1, hc2⟩ := HR.out k t ht
          have HC0 := Lib.hid (fun (X : World) (h : Ext w1 X) => Ext.cell h (Ext.cell HE1.out hc0))
          have HC1 := Lib.hid (fun (X : World) (h : Ext w1 X) => Ext.cell h (Ext.cell HE1.out hc1))
          have HC2 := Lib.hid (fun (X : World) (h : Ext w1 X) => Ext.cell h (Ext.cell HE1.out hc2))
          have HTA1 := Lib.hid (show itCells ((ts.take (k + 1)).map turnIt) = itCells ((ts.take k).map turnIt) ++ [.int .i64 t.2.1, .int .i64 t.1, .int .i64 t.2.2] by rw [take_succ_get ht, List.map_append, itCells_append]; rfl)
          have HTA2 := Lib.hid (show itCells ((ts.take (k + 1)).map (dearIt m9)) = itCells ((ts.take k).map (dearIt m9)) ++ [.int .i64 t.1, .int .i64 t.2.1, .int .i64 (dearIt m9 t).2.2] by rw [take_succ_get ht, List.map_append, itCells_append]; rfl)
          have HDV := Lib.hid (show (dearIt m9 t).2.2 = if 1048576 < t.2.2 + m9 then 1048576 else t.2.2 + m9 from rfl)
          have hti : itemB t = true := by have h := HOK.out; rw [List.all_eq_true] at h; exact h t (List.mem_of_getElem? ht)
          have hti2 : 1 ≤ t.2.2 ∧ t.2.2 ≤ 1048576 := by
            simp only [itemB, Bool.and_eq_true, decide_eq_true_eq] at hti
            exact ⟨hti.1.2, hti.2⟩
          clear hc0 hc1 hc2 ht hti
          obtain ⟨t1, t2, t3⟩ := t
          dsimp only at HC0 HC1 HC2 HTA1 HTA2 HDV hti2
          generalize (dearIt m9 (t1, t2, t3)).2.2 = dv at *
          have HRM := Lib.hid (show mo.tmod 9 = m9 by rw [HM9.out, Int.tmod_eq_emod_of_nonneg hmo.1])
          have HW8 := Lib.hid (show IntKind.u8.wrap m9 = m9 by simp [IntKind.wrap, IntKind.signed, IntKind.bits]; omega)
          have HW64 := Lib.hid (show IntKind.i64.wrap m9 = m9 from IntWalk.i64_in _ (by omega))
          have HAD := Lib.hid (show IntKind.i64.wrap (t3 + m9) = t3 + m9 from IntWalk.i64_in _ (by omega))
          obtain ⟨i0, hi, hz0, hz1, hz2⟩ := info_parts info53
          have HI := Lib.hid hi
          have HZ0 := Lib.hid hz0
          have HZ1 := Lib.hid hz1
          have HZ2 := Lib.hid hz2
          clear hi hz0 hz1 hz2
          go_wp2_with fail
          refine (wpIn_wide (n := 9)).1 ?_
          refine wpIn_region_stable_last2 Open.wide [⟨[], none⟩, ⟨[], none⟩, ⟨[], none⟩, ⟨[(1, 55), (2, 56)], none⟩, ⟨[(3, 57)], none⟩, ⟨[(4, 58)], none⟩, ⟨[], none⟩, ⟨[], none⟩, ⟨[(6, 60), (7, 61)], none⟩, ⟨[(8, 62)], none⟩, ⟨[(9, 63)], none⟩, ⟨[], none⟩, ⟨[], none⟩, ⟨[(11, 65), (12, 66)], none⟩, ⟨[(13, 67)], none⟩, ⟨[(14, 68)], none⟩, ⟨[(5, 59), (10, 64), (15, 69)], none⟩, ⟨[(16, 70)], none⟩] (fun x y => Below x.heap.size x y) (MPat [MP.eq (.slice a1 k c1), MP.eq (.slice (some ⟨b, o, none⟩) ts.length cap), MP.eq (.int .i64 (k : Int)), MP.eq (.pointer (some ⟨b, o + k * 3, none⟩)), MP.eq (.pointer (some ⟨b, o + k * 3 + 1, none⟩)), MP.eq (.int .i64 t2), MP.eq (.slice (some ⟨b, o, none⟩) ts.length cap), MP.eq (.int .i64 (k : Int)), MP.eq (.pointer (some ⟨b, o + k * 3, none⟩)), MP.eq (.pointer (some ⟨b, o + k * 3, none⟩)), MP.eq (.int .i64 t1), MP.eq (.slice (some ⟨b, o, none⟩) ts.length cap), MP.eq (.int .i64 (k : Int)), MP.eq (.pointer (some ⟨b, o + k * 3, none⟩)), MP.eq (.pointer (some ⟨b, o + k * 3 + 2, none⟩)), MP.eq (.int .i64 t3), MP.eq (.agg #[.int .i64 t2, .int .i64 t1, .int .i64 t3]), MP.item wr.heap.size t2 t1 t3]) rfl (by kernel_rfl) (fun _ _ _ h k => Ext.trans h k) (fun _ => Below.refl _ _) (fun x => (Below.refl x.heap.size x).drew) (MPat.mono _) (by kernel_rfl) (by kernel_rfl) (by kernel_rfl) (by kernel_rfl) (by kernel_rfl) (by kernel_rfl) ?obs ?rest
          case obs =>
            refine ⟨?_, ?_, ?_, ?_, ?_, ?_, ?_, ?_, ?_, ?_, ?_, ?_, ?_, ?_, ?_, ?_, ?_, ?_, trivial⟩
            · intro ev W5 hf _ _ hst hd
              have e14 : ev (.tmp 14) = .slice a1 k c1 := hf 14 (by kernel_rfl)
              refine st_value (v := .slice a1 k c1) ?_ (Below.refl _ _) ?_
              · simp [execOp, go_sem, e14]
              · exact rfl
            · intro ev W5 hf _ _ hst hd
              have e2 : ev (.tmp 2) = .slice (some ⟨b, o, none⟩) ts.length cap := hf 2 (by kernel_rfl)
              refine st_value (v := .slice (some ⟨b, o, none⟩) ts.length cap) ?_ (Below.refl _ _) ?_
              · simp [execOp, go_sem, e2]
              · exact rfl
            · intro ev W5 hf _ _ hst hd
              have e16 : ev (.tmp 16) = .int .i64 (k : Int) := hf 16 (by kernel_rfl)
              refine st_value (v := .int .i64 (k : Int)) ?_ (Below.refl _ _) ?_
              · simp [execOp, go_sem, e16]
              · exact rfl
            · intro ev W5 hf _ _ hst hd
              obtain ⟨d55, d56, _⟩ := hd
              have e55 : ev (.tmp 55) = .slice (some ⟨b, o, none⟩) ts.length cap := d55
              have e56 : ev (.tmp 56) = .int .i64 (k : Int) := d56
              refine st_value (v := .pointer (some ⟨b, o + k * 3, none⟩)) ?_ (Below.refl _ _) ?_
              · simp [execOp, go_sem, e55, e56, hlt]
              · exact rfl
            · intro ev W5 hf _ _ hst hd
              obtain ⟨d57, _⟩ := hd
              have e57 : ev (.tmp 57) = .pointer (some ⟨b, o + k * 3, none⟩) := d57
              refine st_value (v := .pointer (some ⟨b, o + k * 3 + 1, none⟩)) ?_ (Below.refl _ _) ?_
              · simp [execOp, go_sem, e57]
              · exact rfl
            · intro ev W5 hf _ _ hst hd
              obtain ⟨d58, _⟩ := hd
              have e58 : ev (.tmp 58) = .pointer (some ⟨b, o + k * 3 + 1, none⟩) := d58
              have q0 := HC1.out W5 (Ext.trans HEr.out hst)
              refine st_value (v := .int .i64 t2) ?_ (Below.refl _ _) ?_
              · simp [execOp, go_sem, e58, q0]
              · exact rfl
            · intro ev W5 hf _ _ hst hd
              have e2 : ev (.tmp 2) = .slice (some ⟨b, o, none⟩) ts.length cap := hf 2 (by kernel_rfl)
              refine st_value (v := .slice (some ⟨b, o, none⟩) ts.length cap) ?_ (Below.refl _ _) ?_
              · simp [execOp, go_sem, e2]
              · exact rfl
            · intro ev W5 hf _ _ hst hd
              have e16 : ev (.tmp 16) = .int .i64 (k : Int) := hf 16 (by kernel_rfl)
              refine st_value (v := .int .i64 (k : Int)) ?_ (Below.refl _ _) ?_
              · simp [execOp, go_sem, e16]
              · exact rfl
            · intro ev W5 hf _ _ hst hd
              obtain ⟨d60, d61, _⟩ := hd
              have e60 : ev (.tmp 60) = .slice (some ⟨b, o, none⟩) ts.length cap := d60
              have e61 : ev (.tmp 61) = .int .i64 (k : Int) := d61
              refine st_value (v := .pointer (some ⟨b, o + k * 3, none⟩)) ?_ (Below.refl _ _) ?_
              · simp [execOp, go_sem, e60, e61, hlt]
              · exact rfl
            · intro ev W5 hf _ _ hst hd
              obtain ⟨d62, _⟩ := hd
              have e62 : ev (.tmp 62) = .pointer (some ⟨b, o + k * 3, none⟩) := d62
              refine st_value (v := .pointer (some ⟨b, o + k * 3, none⟩)) ?_ (Below.refl _ _) ?_
              · simp [execOp, go_sem, e62]
              · exact rfl
            · intro ev W5 hf _ _ hst hd
              obtain ⟨d63, _⟩ := hd
              have e63 : ev (.tmp 63) = .pointer (some ⟨b, o + k * 3, none⟩) := d63
              have q0 := HC0.out W5 (Ext.trans HEr.out hst)
              refine st_value (v := .int .i64 t1) ?_ (Below.refl _ _) ?_
              · simp [execOp, go_sem, e63, q0]
              · exact rfl
            · intro ev W5 hf _ _ hst hd
              have e2 : ev (.tmp 2) = .slice (some ⟨b, o, none⟩) ts.length cap := hf 2 (by kernel_rfl)
              refine st_value (v := .slice (some ⟨b, o, none⟩) ts.length cap) ?_ (Below.refl _ _) ?_
              · simp [execOp, go_sem, e2]
              · exact rfl
            · intro ev W5 hf _ _ hst hd
              have e16 : ev (.tmp 16) = .int .i64 (k : Int) := hf 16 (by kernel_rfl)
              refine st_value (v := .int .i64 (k : Int)) ?_ (Below.refl _ _) ?_
              · simp [execOp, go_sem, e16]
              · exact rfl
            · intro ev W5 hf _ _ hst hd
              obtain ⟨d65, d66, _⟩ := hd
              have e65 : ev (.tmp 65) = .slice (some ⟨b, o, none⟩) ts.length cap := d65
              have e66 : ev (.tmp 66) = .int .i64 (k : Int) := d66
              refine st_value (v := .pointer (some ⟨b, o + k * 3, none⟩)) ?_ (Below.refl _ _) ?_
              · simp [execOp, go_sem, e65, e66, hlt]
              · exact rfl
            · intro ev W5 hf _ _ hst hd
              obtain ⟨d67, _⟩ := hd
              have e67 : ev (.tmp 67) = .pointer (some ⟨b, o + k * 3, none⟩) := d67
              refine st_value (v := .pointer (some ⟨b, o + k * 3 + 2, none⟩)) ?_ (Below.refl _ _) ?_
              · simp [execOp, go_sem, e67]
              · exact rfl
            · intro ev W5 hf _ _ hst hd
              obtain ⟨d68, _⟩ := hd
              have e68 : ev (.tmp 68) = .pointer (some ⟨b, o + k * 3 + 2, none⟩) := d68
              have q0 := HC2.out W5 (Ext.trans HEr.out hst)
              refine st_value (v := .int .i64 t3) ?_ (Below.refl _ _) ?_
              · simp [execOp, go_sem, e68, q0]
              · exact rfl
            · intro ev W5 hf _ _ hst hd
              obtain ⟨d59, d64, d69, _⟩ := hd
              have e59 : ev (.tmp 59) = .int .i64 t2 := d59
              have e64 : ev (.tmp 64) = .int .i64 t1 := d64
              have e69 : ev (.tmp 69) = .int .i64 t3 := d69
              refine st_value (v := .agg #[.int .i64 t2, .int .i64 t1, .int .i64 t3]) ?_ (Below.refl _ _) ?_
              · simp [execOp, go_sem, e59, e64, e69]
              · exact rfl
            · intro ev W5 hf _ hfn hst hd
              obtain ⟨d70, _⟩ := hd
              have e70 : ev (.tmp 70) = .agg #[.int .i64 t2, .int .i64 t1, .int .i64 t3] := d70
              refine st_new (v := .slice (some ⟨W5.heap.size, 0, none⟩) 1 1) (o := .cells #[.int .i64 t2, .int .i64 t1, .int .i64 t3] 53) ?_ ?_
              · simp [execOp, go_sem, e70]
              · exact ⟨_, rfl, vrow_alloc W5 [.int .i64 t2, .int .i64 t1, .int .i64 t3] 53, hst.size⟩
          case rest =>
            intro vs w3 hl hst hg
            obtain ⟨r1, et, ht, hts⟩ : ∃ r, vs[17]? = some (.slice (some ⟨r, 0, none⟩) 1 1) ∧ VRow w3 r 53 [.int .i64 t2, .int .i64 t1, .int .i64 t3] ∧ wr.heap.size ≤ r := by
              have hu : vs[17]? = some (vs[17]'(by rw [hl]; decide)) := List.getElem?_eq_getElem _
              obtain ⟨r, he, h1, h2⟩ := hg 17 _ hu
              exact ⟨r, by rw [hu, he], h1, h2⟩
            have HST := Lib.hid hst
            have HNEW := Lib.hid ht
            have hvs : vs = [.slice a1 k c1, .slice (some ⟨b, o, none⟩) ts.length cap, .int .i64 (k : Int), .pointer (some ⟨b, o + k * 3, none⟩), .pointer (some ⟨b, o + k * 3 + 1, none⟩), .int .i64 t2, .slice (some ⟨b, o, none⟩) ts.length cap, .int .i64 (k : Int), .pointer (some ⟨b, o + k * 3, none⟩), .pointer (some ⟨b, o + k * 3, none⟩), .int .i64 t1, .slice (some ⟨b, o, none⟩) ts.length cap, .int .i64 (k : Int), .pointer (some ⟨b, o + k * 3, none⟩), .pointer (some ⟨b, o + k * 3 + 2, none⟩), .int .i64 t3, .agg #[.int .i64 t2, .int .i64 t1, .int .i64 t3], .slice (some ⟨r1, 0, none⟩) 1 1] := list_of hl (fun i u hu => by
              match i, hu with
              | 0, hu => exact (congrArg some (hg 0 u hu)).symm
              | 1, hu => exact (congrArg some (hg 1 u hu)).symm
              | 2, hu => exact (congrArg some (hg 2 u hu)).symm
              | 3, hu => exact (congrArg some (hg 3 u hu)).symm
              | 4, hu => exact (congrArg some (hg 4 u hu)).symm
              | 5, hu => exact (congrArg some (hg 5 u hu)).symm
              | 6, hu => exact (congrArg some (hg 6 u hu)).symm
              | 7, hu => exact (congrArg some (hg 7 u hu)).symm
              | 8, hu => exact (congrArg some (hg 8 u hu)).symm
              | 9, hu => exact (congrArg some (hg 9 u hu)).symm
              | 10, hu => exact (congrArg some (hg 10 u hu)).symm
              | 11, hu => exact (congrArg some (hg 11 u hu)).symm
              | 12, hu => exact (congrArg some (hg 12 u hu)).symm
              | 13, hu => exact (congrArg some (hg 13 u hu)).symm
              | 14, hu => exact (congrArg some (hg 14 u hu)).symm
              | 15, hu => exact (congrArg some (hg 15 u hu)).symm
              | 16, hu => exact (congrArg some (hg 16 u hu)).symm
              | 17, hu => exact et.symm.trans hu
              | n + 18, hu => exact absurd (lt_len hu) (by rw [hl]; simp))
            clear hg hst ht et hl
            subst hvs
            simp only [putAll, Act.put, List.dropLast, List.setIfInBounds_toArray, List.set_cons_zero, List.set_cons_succ]
            have HT3 := Lib.hid (ownsRow_ext HT2.out.o1 HST.out)
            have HD3 := Lib.hid (ownsRow_ext HT2.out.o2 HST.out)
            have hs3 := HST.out.size
            refine operIn_append_own _ _ _ 41 rfl w1.heap.size 53 i0 (.agg #[.int .i64 0, .int .i64 0, .int .i64 0]) 3 24 Try.underlying41 HI.out HZ0.out HZ1.out HZ2.out rfl (by decide) _ _ _ rfl HT3.out ⟨r1, 0, none⟩ 1 1 [.int .i64 t2, .int .i64 t1, .int .i64 t3] rfl rfl (fun j u h => three_cells HNEW.out j u h) (by simp [Value.oneCell']) (by unfold maxLen; omega) (by omega) (by omega) ?_
            intro v4 w4 hown4 hgrow4 hat4
            obtain ⟨a4, c4, rfl⟩ := own_slice hown4
            have HO4 := Lib.hid hown4
            have HG4 := Lib.hid hgrow4
            have HA4 := Lib.hid hat4
            clear hown4 hgrow4 hat4
            have HD4 := Lib.hid (own_grown HD3.out HG4.out (fun g hg e => HT2.out.ne g e.symm hg))
            have HE4 := Lib.hid (Below.trans (Ext.trans HEr.out HST.out) (own_below HT3.out HG4.out (by omega)))
            have HNE4 := Lib.hid (show ∀ g, (Value.slice a4 (k + 1) c4).ownBlock = some g → (Value.slice a2 k c2).ownBlock ≠ some g from fun g hg hd => by
              rcases HA4.out with e | e
              · exact HT2.out.ne g (e.symm.trans hg) hd
              · rw [hg] at e
                injection e with e
                have := own_lt HD3.out hd
                omega)
            have hw4 := HE4.out.size
            clear HT3 HG4 HA4 HD3 HST HNEW hts
            gi_wp2
            go_wp2_with fail
            refine (wpIn_wide (n := 9)).1 ?_
            refine wpIn_region_stable_last2 Open.wide [⟨[], none⟩, ⟨[], none⟩, ⟨[], none⟩, ⟨[(1, 74), (2, 75)], none⟩, ⟨[(3, 76)], none⟩, ⟨[(4, 77)], none⟩, ⟨[], none⟩, ⟨[], none⟩, ⟨[(6, 79), (7, 80)], none⟩, ⟨[(8, 81)], none⟩, ⟨[(9, 82)], none⟩, ⟨[], none⟩, ⟨[], none⟩, ⟨[(11, 84), (12, 85)], none⟩, ⟨[(13, 86)], none⟩, ⟨[(14, 87)], none⟩, ⟨[], none⟩, ⟨[(16, 89)], none⟩, ⟨[(17, 90)], none⟩, ⟨[(15, 88), (18, 91)], none⟩, ⟨[(19, 92)], none⟩, ⟨[(5, 78), (10, 83), (20, 93)], none⟩, ⟨[(21, 94)], none⟩] (fun x y => Below x.heap.size x y) (MPat [MP.eq (.slice a2 k c2), MP.eq (.slice (some ⟨b, o, none⟩) ts.length cap), MP.eq (.int .i64 (k : Int)), MP.eq (.pointer (some ⟨b, o + k * 3, none⟩)), MP.eq (.pointer (some ⟨b, o + k * 3, none⟩)), MP.eq (.int .i64 t1), MP.eq (.slice (some ⟨b, o, none⟩) ts.length cap), MP.eq (.int .i64 (k : Int)), MP.eq (.pointer (some ⟨b, o + k * 3, none⟩)), MP.eq (.pointer (some ⟨b, o + k * 3 + 1, none⟩)), MP.eq (.int .i64 t2), MP.eq (.slice (some ⟨b, o, none⟩) ts.length cap), MP.eq (.int .i64 (k : Int)), MP.eq (.pointer (some ⟨b, o + k * 3, none⟩)), MP.eq (.pointer (some ⟨b, o + k * 3 + 2, none⟩)), MP.eq (.int .i64 t3), MP.eq (.int .u8 mo), MP.eq (.int .u8 m9), MP.eq (.int .i64 m9), MP.eq (.int .i64 (t3 + m9)), MP.eq (.int .i64 dv), MP.eq (.agg #[.int .i64 t1, .int .i64 t2, .int .i64 dv]), MP.item w4.heap.size t1 t2 dv]) rfl (by kernel_rfl) (fun _ _ _ h k => Ext.trans h k) (fun _ => Below.refl _ _) (fun x => (Below.refl x.heap.size x).drew) (MPat.mono _) (by kernel_rfl) (by kernel_rfl) (by kernel_rfl) (by kernel_rfl) (by kernel_rfl) (by kernel_rfl) ?obs2 ?rest2
            case obs2 =>
              refine ⟨?_, ?_, ?_, ?_, ?_, ?_, ?_, ?_, ?_, ?_, ?_, ?_, ?_, ?_, ?_, ?_, ?_, ?_, ?_, ?_, ?_, ?_, ?_, trivial⟩
              · intro ev W5 hf _ _ hst hd
                have e15 : ev (.tmp 15) = .slice a2 k c2 := hf 15 (by kernel_rfl)
                refine st_value (v := .slice a2 k c2) ?_ (Below.refl _ _) ?_
                · simp [execOp, go_sem, e15]
                · exact rfl
              · intro ev W5 hf _ _ hst hd
                have e2 : ev (.tmp 2) = .slice (some ⟨b, o, none⟩) ts.length cap := hf 2 (by kernel_rfl)
                refine st_value (v := .slice (some ⟨b, o, none⟩) ts.length cap) ?_ (Below.refl _ _) ?_
                · simp [execOp, go_sem, e2]
                · exact rfl
              · intro ev W5 hf _ _ hst hd
                have e16 : ev (.tmp 16) = .int .i64 (k : Int) := hf 16 (by kernel_rfl)
                refine st_value (v := .int .i64 (k : Int)) ?_ (Below.refl _ _) ?_
                · simp [execOp, go_sem, e16]
                · exact rfl
              · intro ev W5 hf _ _ hst hd
                obtain ⟨d74, d75, _⟩ := hd
                have e74 : ev (.tmp 74) = .slice (some ⟨b, o, none⟩) ts.length cap := d74
                have e75 : ev (.tmp 75) = .int .i64 (k : Int) := d75
                refine st_value (v := .pointer (some ⟨b, o + k * 3, none⟩)) ?_ (Below.refl _ _) ?_
                · simp [execOp, go_sem, e74, e75, hlt]
                · exact rfl
              · intro ev W5 hf _ _ hst hd
                obtain ⟨d76, _⟩ := hd
                have e76 : ev (.tmp 76) = .pointer (some ⟨b, o + k * 3, none⟩) := d76
                refine st_value (v := .pointer (some ⟨b, o + k * 3, none⟩)) ?_ (Below.refl _ _) ?_
                · simp [execOp, go_sem, e76]
                · exact rfl
              · intro ev W5 hf _ _ hst hd
                obtain ⟨d77, _⟩ := hd
                have e77 : ev (.tmp 77) = .pointer (some ⟨b, o + k * 3, none⟩) := d77
                have q0 := HC0.out W5 (Ext.trans HE4.out hst)
                refine st_value (v := .int .i64 t1) ?_ (Below.refl _ _) ?_
                · simp [execOp, go_sem, e77, q0]
                · exact rfl
              · intro ev W5 hf _ _ hst hd
                have e2 : ev (.tmp 2) = .slice (some ⟨b, o, none⟩) ts.length cap := hf 2 (by kernel_rfl)
                refine st_value (v := .slice (some ⟨b, o, none⟩) ts.length cap) ?_ (Below.refl _ _) ?_
                · simp [execOp, go_sem, e2]
                · exact rfl
              · intro ev W5 hf _ _ hst hd
                have e16 : ev (.tmp 16) = .int .i64 (k : Int) := hf 16 (by kernel_rfl)
                refine st_value (v := .int .i64 (k : Int)) ?_ (Below.refl _ _) ?_
                · simp [execOp, go_sem, e16]
                · exact rfl
              · intro ev W5 hf _ _ hst hd
                obtain ⟨d79, d80, _⟩ := hd
                have e79 : ev (.tmp 79) = .slice (some ⟨b, o, none⟩) ts.length cap := d79
                have e80 : ev (.tmp 80) = .int .i64 (k : Int) := d80
                refine st_value (v := .pointer (some ⟨b, o + k * 3, none⟩)) ?_ (Below.refl _ _) ?_
                · simp [execOp, go_sem, e79, e80, hlt]
                · exact rfl
              · intro ev W5 hf _ _ hst hd
                obtain ⟨d81, _⟩ := hd
                have e81 : ev (.tmp 81) = .pointer (some ⟨b, o + k * 3, none⟩) := d81
                refine st_value (v := .pointer (some ⟨b, o + k * 3 + 1, none⟩)) ?_ (Below.refl _ _) ?_
                · simp [execOp, go_sem, e81]
                · exact rfl
              · intro ev W5 hf _ _ hst hd
                obtain ⟨d82, _⟩ := hd
                have e82 : ev (.tmp 82) = .pointer (some ⟨b, o + k * 3 + 1, none⟩) := d82
                have q0 := HC1.out W5 (Ext.trans HE4.out hst)
                refine st_value (v := .int .i64 t2) ?_ (Below.refl _ _) ?_
                · simp [execOp, go_sem, e82, q0]
                · exact rfl
              · intro ev W5 hf _ _ hst hd
                have e2 : ev (.tmp 2) = .slice (some ⟨b, o, none⟩) ts.length cap := hf 2 (by kernel_rfl)
                refine st_value (v := .slice (some ⟨b, o, none⟩) ts.length cap) ?_ (Below.refl _ _) ?_
                · simp [execOp, go_sem, e2]
                · exact rfl
              · intro ev W5 hf _ _ hst hd
                have e16 : ev (.tmp 16) = .int .i64 (k : Int) := hf 16 (by kernel_rfl)
                refine st_value (v := .int .i64 (k : Int)) ?_ (Below.refl _ _) ?_
                · simp [execOp, go_sem, e16]
                · exact rfl
              · intro ev W5 hf _ _ hst hd
                obtain ⟨d84, d85, _⟩ := hd
                have e84 : ev (.tmp 84) = .slice (some ⟨b, o, none⟩) ts.length cap := d84
                have e85 : ev (.tmp 85) = .int .i64 (k : Int) := d85
                refine st_value (v := .pointer (some ⟨b, o + k * 3, none⟩)) ?_ (Below.refl _ _) ?_
                · simp [execOp, go_sem, e84, e85, hlt]
                · exact rfl
              · intro ev W5 hf _ _ hst hd
                obtain ⟨d86, _⟩ := hd
                have e86 : ev (.tmp 86) = .pointer (some ⟨b, o + k * 3, none⟩) := d86
                refine st_value (v := .pointer (some ⟨b, o + k * 3 + 2, none⟩)) ?_ (Below.refl _ _) ?_
                · simp [execOp, go_sem, e86]
                · exact rfl
              · intro ev W5 hf _ _ hst hd
                obtain ⟨d87, _⟩ := hd
                have e87 : ev (.tmp 87) = .pointer (some ⟨b, o + k * 3 + 2, none⟩) := d87
                have q0 := HC2.out W5 (Ext.trans HE4.out hst)
                refine st_value (v := .int .i64 t3) ?_ (Below.refl _ _) ?_
                · simp [execOp, go_sem, e87, q0]
                · exact rfl
              · intro ev W5 hf _ _ hst hd
                have e4 : ev (.tmp 4) = .int .u8 mo := hf 4 (by kernel_rfl)
                refine st_value (v := .int .u8 mo) ?_ (Below.refl _ _) ?_
                · simp [execOp, go_sem, e4]
                · exact rfl
              · intro ev W5 hf hcst _ hst hd
                obtain ⟨d89, _⟩ := hd
                have e89 : ev (.tmp 89) = .int .u8 mo := d89
                refine st_value (v := .int .u8 m9) ?_ (Below.refl _ _) ?_
                · simp [execOp, go_sem, e89, hcst, HRM.out, HW8.out]
                · exact rfl
              · intro ev W5 hf _ _ hst hd
                obtain ⟨d90, _⟩ := hd
                have e90 : ev (.tmp 90) = .int .u8 m9 := d90
                refine st_value (v := .int .i64 m9) ?_ (Below.refl _ _) ?_
                · simp [execOp, go_sem, e90, HW64.out]
                · exact rfl
              · intro ev W5 hf _ _ hst hd
                obtain ⟨d88, d91, _⟩ := hd
                have e88 : ev (.tmp 88) = .int .i64 t3 := d88
                have e91 : ev (.tmp 91) = .int .i64 m9 := d91
                refine st_value (v := .int .i64 (t3 + m9)) ?_ (Below.refl _ _) ?_
                · simp [execOp, go_sem, e88, e91, HAD.out]
                · exact rfl
              · intro ev W5 hf hcst _ hst hd
                obtain ⟨d92, _⟩ := hd
                have e92 : ev (.tmp 92) = .int .i64 (t3 + m9) := d92
                refine st_value (v := .int .i64 dv) ?_ (Below.refl _ _) ?_
                · simp [execOp, go_sem, e92, hcst, HDV.out]
                · exact rfl
              · intro ev W5 hf _ _ hst hd
                obtain ⟨d78, d83, d93, _⟩ := hd
                have e78 : ev (.tmp 78) = .int .i64 t1 := d78
                have e83 : ev (.tmp 83) = .int .i64 t2 := d83
                have e93 : ev (.tmp 93) = .int .i64 dv := d93
                refine st_value (v := .agg #[.int .i64 t1, .int .i64 t2, .int .i64 dv]) ?_ (Below.refl _ _) ?_
                · simp [execOp, go_sem, e78, e83, e93]
                · exact rfl
              · intro ev W5 hf _ hfn hst hd
                obtain ⟨d94, _⟩ := hd
                have e94 : ev (.tmp 94) = .agg #[.int .i64 t1, .int .i64 t2, .int .i64 dv] := d94
                refine st_new (v := .slice (some ⟨W5.heap.size, 0, none⟩) 1 1) (o := .cells #[.int .i64 t1, .int .i64 t2, .int .i64 dv] 53) ?_ ?_
                · simp [execOp, go_sem, e94]
                · exact ⟨_, rfl, vrow_alloc W5 [.int .i64 t1, .int .i64 t2, .int .i64 dv] 53, hst.size⟩
            case rest2 =>
              intro vs w5 hl hst hg
              obtain ⟨r2, et, ht, hts⟩ : ∃ r, vs[22]? = some (.slice (some ⟨r, 0, none⟩) 1 1) ∧ VRow w5 r 53 [.int .i64 t1, .int .i64 t2, .int .i64 dv] ∧ w4.heap.size ≤ r := by
                have hu : vs[22]? = some (vs[22]'(by rw [hl]; decide)) := List.getElem?_eq_getElem _
                obtain ⟨r, he, h1, h2⟩ := hg 22 _ hu
                exact ⟨r, by rw [hu, he], h1, h2⟩
              have HST := Lib.hid hst
              have HNEW := Lib.hid ht
              have hvs : vs = [.slice a2 k c2, .slice (some ⟨b, o, none⟩) ts.length cap, .int .i64 (k : Int), .pointer (some ⟨b, o + k * 3, none⟩), .pointer (some ⟨b, o + k * 3, none⟩), .int .i64 t1, .slice (some ⟨b, o, none⟩) ts.length cap, .int .i64 (k : Int), .pointer (some ⟨b, o + k * 3, none⟩), .pointer (some ⟨b, o + k * 3 + 1, none⟩), .int .i64 t2, .slice (some ⟨b, o, none⟩) ts.length cap, .int .i64 (k : Int), .pointer (some ⟨b, o + k * 3, none⟩), .pointer (some ⟨b, o + k * 3 + 2, none⟩), .int .i64 t3, .int .u8 mo, .int .u8 m9, .int .i64 m9, .int .i64 (t3 + m9), .int .i64 dv, .agg #[.int .i64 t1, .int .i64 t2, .int .i64 dv], .slice (some ⟨r2, 0, none⟩) 1 1] := list_of hl (fun i u hu => by
                match i, hu with
                | 0, hu => exact (congrArg some (hg 0 u hu)).symm
                | 1, hu => exact (congrArg some (hg 1 u hu)).symm
                | 2, hu => exact (congrArg some (hg 2 u hu)).symm
                | 3, hu => exact (congrArg some (hg 3 u hu)).symm
                | 4, hu => exact (congrArg some (hg 4 u hu)).symm
                | 5, hu => exact (congrArg some (hg 5 u hu)).symm
                | 6, hu => exact (congrArg some (hg 6 u hu)).symm
                | 7, hu => exact (congrArg some (hg 7 u hu)).symm
                | 8, hu => exact (congrArg some (hg 8 u hu)).symm
                | 9, hu => exact (congrArg some (hg 9 u hu)).symm
                | 10, hu => exact (congrArg some (hg 10 u hu)).symm
                | 11, hu => exact (congrArg some (hg 11 u hu)).symm
                | 12, hu => exact (congrArg some (hg 12 u hu)).symm
                | 13, hu => exact (congrArg some (hg 13 u hu)).symm
                | 14, hu => exact (congrArg some (hg 14 u hu)).symm
                | 15, hu => exact (congrArg some (hg 15 u hu)).symm
                | 16, hu => exact (congrArg some (hg 16 u hu)).symm
                | 17, hu => exact (congrArg some (hg 17 u hu)).symm
                | 18, hu => exact (congrArg some (hg 18 u hu)).symm
                | 19, hu => exact (congrArg some (hg 19 u hu)).symm
                | 20, hu => exact (congrArg some (hg 20 u hu)).symm
                | 21, hu => exact (congrArg some (hg 21 u hu)).symm
                | 22, hu => exact et.symm.trans hu
                | n + 23, hu => exact absurd (lt_len hu) (by rw [hl]; simp))
              clear hg hst ht et hl
              subst hvs
              simp only [putAll, Act.put, List.dropLast, List.setIfInBounds_toArray, List.set_cons_zero, List.set_cons_succ]
              have HT5 := Lib.hid (ownsRow_ext HO4.out HST.out)
              have HD5 := Lib.hid (ownsRow_ext HD4.out HST.out)
              have hs5 := HST.out.size
              refine operIn_append_own _ _ _ 41 rfl w1.heap.size 53 i0 (.agg #[.int .i64 0, .int .i64 0, .int .i64 0]) 3 24 Try.underlying41 HI.out HZ0.out HZ1.out HZ2.out rfl (by decide) _ _ _ rfl HD5.out ⟨r2, 0, none⟩ 1 1 [.int .i64 t1, .int .i64 t2, .int .i64 dv] rfl rfl (fun j u h => three_cells HNEW.out j u h) (by simp [Value.oneCell']) (by unfold maxLen; omega) (by omega) (by omega) ?_
              intro v6 w6 hown6 hgrow6 hat6
              obtain ⟨a6, c6, rfl⟩ := own_slice hown6
              have HO6 := Lib.hid hown6
              have HG6 := Lib.hid hgrow6
              have HA6 := Lib.hid hat6
              clear hown6 hgrow6 hat6
              have HT6 := Lib.hid (own_grown HT5.out HG6.out (fun g hg e => HNE4.out g hg e.symm))
              have HE6 := Lib.hid (Below.trans (Ext.trans HE4.out HST.out) (own_below HD5.out HG6.out (by omega)))
              have HNE6 := Lib.hid (show ∀ g, (Value.slice a4 (k + 1) c4).ownBlock = some g → (Value.slice a6 (k + 1) c6).ownBlock ≠ some g from fun g hg hd => by
                rcases HA6.out with e | e
                · exact HNE4.out g hg (e.symm.trans hd)
                · rw [hd] at e
                  injection e with e
                  have := own_lt HT5.out hg
                  omega)
              gi_wp2
              go_wp2_with fail
              refine ⟨⟨k + 1, by simp, by omega, ⟨by rw [HTA1.out]; exact HT6.out, by rw [HTA2.out]; exact HO6.out, HNE6.out⟩, HE6.out⟩, by simp [intOf]; omega⟩
        · obtain rfl : k = ts.length := by omega
          have hIt : Items wr (.slice a1 ts.length c1) (ts.map turnIt) := items_own (by rw [List.length_map]; have h := HT2.out.o1; rw [List.take_length] at h; exact h) (by rw [List.length_map]; omega)
          have hId : Items wr (.slice a2 ts.length c2) (ts.map (dearIt m9)) := items_own (by rw [List.length_map]; have h := HT2.out.o2; rw [List.take_length] at h; exact h) (by rw [List.length_map]; omega)
          have HIT := Lib.hid hIt
          have HID := Lib.hid hId
          have HVr := Lib.hid (HV.out.ext (Ext.trans HE1.out HEr.out))
          have HEW := Lib.hid (Ext.trans HE1.out HEr.out)
          clear hIt hId HT2
          go_wp2_with fail
          refine (show Calls Try.prog 30 #[.int .i64 (H : Int), .int .i64 (W : Int), .slice a1 ts.length c1] wr _ from Best_c (H : Int) (W : Int) _ (ts.map turnIt) wr HIT.out).mono ?_
          rintro e w2 ⟨hS, hE2⟩
          obtain ⟨p2, rfl, _⟩ := best_val hS (ord_zero ⟨hy1, hy2, hx1, hx2⟩ (by rw [List.length_map]; exact hn10) (turn_all HOK.out))
          rw [Int.toNat_natCast, Int.toNat_natCast, bestV_turn, ← HV0.out]
          have HID2 := Lib.hid (HID.out.ext hE2)
          have HV2 := Lib.hid (HVr.out.ext hE2)
          have HE2 := Lib.hid (Ext.trans HEW.out hE2)
          clear hS hE2 HIT HID HVr HEW
          simp only [three]
          go_wp2_with fail
          refine (show Calls Try.prog 30 #[.int .i64 (W : Int), .int .i64 (H : Int), .slice a2 ts.length c2] w2 _ from Best_c (W : Int) (H : Int) _ (ts.map (dearIt m9)) w2 HID2.out).mono ?_
          rintro e w3 ⟨hS, hE3⟩
          obtain ⟨p3, rfl, _⟩ := best_val hS (ord_zero ⟨hx1, hx2, hy1, hy2⟩ (by rw [List.length_map]; exact hn10) HDA.out)
          rw [Int.toNat_natCast, Int.toNat_natCast]
          have hbd := bestV_dear HDG.out W H
          rw [← HV0.out] at hbd
          have hbd2 := (bestV_small HDA.out (w := W) (g := H) (by omega) (by omega)).2
          generalize bestV (ts.map (dearIt m9)) W H = bd at *
          have HV3 := Lib.hid (HV2.out.ext hE3)
          have HE3 := Lib.hid (Ext.trans HE2.out hE3)
          clear hS hE3 HID2 HV2 HE2 HDA HDG
          obtain ⟨Wc, hWc, hWc1, hWc2⟩ : ∃ Wc : Nat, (if (100 : Int) < (W : Int) + mo % 3 then (100 : Int) else (W : Int) + mo % 3) = (Wc : Int) ∧ W ≤ Wc ∧ Wc ≤ 100 := by
            by_cases h : (100 : Int) < (W : Int) + mo % 3
            · exact ⟨100, by rw [if_pos h]; rfl, by omega, by omega⟩
            · exact ⟨((W : Int) + mo % 3).toNat, by rw [if_neg h]; omega, by omega, by omega⟩
          obtain ⟨Hc, hHc, hHc1, hHc2⟩ : ∃ Hc : Nat, (if (100 : Int) < (H : Int) + mo / 3 % 3 then (100 : Int) else (H : Int) + mo / 3 % 3) = (Hc : Int) ∧ H ≤ Hc ∧ Hc ≤ 100 := by
            by_cases h : (100 : Int) < (H : Int) + mo / 3 % 3
            · exact ⟨100, by rw [if_pos h]; rfl, by omega, by omega⟩
            · exact ⟨((H : Int) + mo / 3 % 3).toNat, by rw [if_neg h]; omega, by omega, by omega⟩
          have hm3 : 0 ≤ mo % 3 ∧ mo % 3 ≤ 2 := by omega
          have hm4 : 0 ≤ mo / 3 % 3 ∧ mo / 3 % 3 ≤ 2 := by omega
          have hm5 : 0 ≤ mo / 3 ∧ mo / 3 ≤ 85 := by omega
          simp only [three]
          go_wp2_with fail
          clear hWc hHc
          refine (show Calls Try.prog 30 #[.int .i64 (Wc : Int), .int .i64 (Hc : Int), .slice a ts.length cap] w3 _ from Best_c (Wc : Int) (Hc : Int) _ ts w3 HV3.out).mono ?_
          rintro e w4 ⟨hS, hE4⟩
          obtain ⟨p4, rfl, _⟩ := best_val hS (ord_zero ⟨by omega, by omega, by omega, by omega⟩ hn10 HOK.out)
          rw [Int.toNat_natCast, Int.toNat_natCast]
          have hbc : V ≤ bestV ts Wc Hc := by
            have h1 := bestV_mono_w (items := ts) (w := W) (h := H) (by omega) (Wc - W)
            have h2 := bestV_mono_h (items := ts) (w := W + (Wc - W)) (h := H) (by omega) (Hc - H)
            rw [show W + (Wc - W) = Wc by omega] at h1 h2
            rw [show H + (Hc - H) = Hc by omega] at h2
            have := HV0.out
            omega
          have hbc2 := (bestV_small HOK.out (w := Wc) (g := Hc) hWc2 hHc2).2
          generalize bestV ts Wc Hc = bc at *
          have HV4 := Lib.hid (HV3.out.ext hE4)
          have HE4 := Lib.hid (Ext.trans HE3.out hE4)
          clear hS hE4 HV3 HE3 hm3 hm4 hm5 hWc1 hWc2 hHc1 hHc2
          simp only [three]
          by_cases hw2 : W < 2
          · go_wp2_with fail
            refine (alive_c w4).mono ?_
            rintro e w5 ⟨rfl, hE5⟩
            go_wp2_with fail
            go_ret
            exact ⟨rfl, Ext.trans HE4.out hE5⟩
          · have hr1 : 0 ≤ cu % ((W : Int) - 1) := Int.emod_nonneg _ (by omega)
            have hr2 : cu % ((W : Int) - 1) < (W : Int) - 1 := Int.emod_lt_of_pos _ (by omega)
            obtain ⟨X, hX, hX1, hX2⟩ : ∃ X : Nat, 1 + cu % ((W : Int) - 1) = (X : Int) ∧ 1 ≤ X ∧ X < W := ⟨(1 + cu % ((W : Int) - 1)).toNat, by omega, by omega, by omega⟩
            have hwn : (W : Int) - 1 ≠ 0 := by omega
            go_wp2_with fail
            clear hX hr1 hr2 hwn
            refine (show Calls Try.prog 30 #[.int .i64 (X : Int), .int .i64 (H : Int), .slice a ts.length cap] w4 _ from Best_c (X : Int) (H : Int) _ ts w4 HV4.out).mono ?_
            rintro e w5 ⟨hS, hE5⟩
            obtain ⟨p5, rfl, _⟩ := best_val hS (ord_zero ⟨by omega, by omega, hy1, hy2⟩ hn10 HOK.out)
            rw [Int.toNat_natCast, Int.toNat_natCast]
            have hsum := bestV_wide (items := ts) (h := H) hX1 hX2
            rw [← HV0.out] at hsum
            have hn5 := bestV_nonneg ts X H
            have hn6 := bestV_nonneg ts (W - X) H
            generalize bestV ts X H = bl at *
            have HV5 := Lib.hid (HV4.out.ext hE5)
            have HE5 := Lib.hid (Ext.trans HE4.out hE5)
            clear hS hE5 HV4 HE4
            simp only [three]
            go_wp2_with fail
            refine (show Calls Try.prog 30 #[.int .i64 ((W : Int) - (X : Int)), .int .i64 (H : Int), .slice a ts.length cap] w5 _ from Best_c ((W : Int) - (X : Int)) (H : Int) _ ts w5 HV5.out).mono ?_
            rintro e w6 ⟨hS, hE6⟩
            obtain ⟨p6, rfl, _⟩ := best_val hS (ord_zero ⟨by omega, by omega, hy1, hy2⟩ hn10 HOK.out)
            rw [Int.toNat_natCast, show ((W : Int) - (X : Int)).toNat = W - X by omega]
            generalize bestV ts (W - X) H = br at *
            have HE6 := Lib.hid (Ext.trans HE5.out hE6)
            clear hS hE6 HV5 HE5
            simp only [three]
            go_wp2_with fail
            refine (alive_c w6).mono ?_
            rintro e w7 ⟨rfl, hE7⟩
            go_wp2_with fail
            go_ret
            exact ⟨rfl, Ext.trans HE6.out hE7⟩
    · have HO := Lib.hid ho
      clear ho
      go_enter Try.func13, Try.ntmps13
      go_wp2_with fail
      refine (Best_c x y _ ts w HV.out).mono ?_
      rintro e w1 ⟨hS, hE1⟩
      have he := best_err hS HO.out
      subst he
      have hz : (ordZ x y ts != 0) = true := by simp [HO.out]
      generalize ordZ x y ts = z at *
      clear hS
      simp only [three]
      go_wp2_with fail
      refine (alive_c w1).mono ?_
      rintro e w2 ⟨rfl, hE⟩
      go_wp2_with fail
      go_ret
      exact ⟨rfl, Ext.trans hE1 hE⟩
end Go.Proofs.Ytnpebfchojalcaa
