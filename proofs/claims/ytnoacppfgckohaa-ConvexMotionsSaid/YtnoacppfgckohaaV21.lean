import Derived.Test.YtnoacppfgckohaaV20
import Derived.Test.YtnoacppfgckohaaM3
namespace Go.Proofs.Ytnoacppfgckohaa
open Go.RowKit Go.Shelf
structure AlikeP (ps qs ms bs : List Pt) : Prop where
  vp : validB ps = true
  vq : validB qs = true
  va : validB ms = true
  vb : validB bs = true
  area : areaZ ms = areaZ ps
  ring : ringZ ms = ringZ ps
  over : overlapB ms bs = overlapB ps qs
  inside : ms.any (outB bs) = ps.any (outB qs)
set_option maxRecDepth 100000 in
set_option maxHeartbeats 1000000 in
theorem alike_c (u v x y : Value) (ps qs ms bs : List Pt) (w : World) (hu : Vecs w u ps) (hv : Vecs w v qs) (hx : Vecs w x ms) (hy : Vecs w y bs) (h : AlikeP ps qs ms bs) :
    Calls Try.prog 24 #[u, v, x, y] w fun e w' => e = .returned (.bool true) ∧ Ext w w' := by
  have HU := Lib.hid hu
  have HV := Lib.hid hv
  have HX := Lib.hid hx
  have HY := Lib.hid hy
  obtain ⟨a1, c1, rfl, _, _, _⟩ := hu.at
  obtain ⟨a2, c2, rfl, _, _, _⟩ := hv.at
  obtain ⟨a3, c3, rfl, _, _, _⟩ := hx.at
  obtain ⟨a4, c4, rfl, _, _, _⟩ := hy.at
  have R1 := Lib.hid (show areaR ps = two (.int .i64 (areaZ ps)) (.int .i64 0) by unfold areaR; rw [if_pos h.vp])
  have R2 := Lib.hid (show areaR ms = two (.int .i64 (areaZ ps)) (.int .i64 0) by unfold areaR; rw [if_pos h.va, h.area])
  have R3 := Lib.hid (show pointsR ps = three (.int .i64 ((areaZ ps - ringZ ps + 2).tdiv 2)) (.int .i64 (ringZ ps)) (.int .i64 0) by unfold pointsR; rw [if_pos h.vp])
  have R4 := Lib.hid (show pointsR ms = three (.int .i64 ((areaZ ps - ringZ ps + 2).tdiv 2)) (.int .i64 (ringZ ps)) (.int .i64 0) by unfold pointsR; rw [if_pos h.va, h.area, h.ring])
  have R5 := Lib.hid (show overlapR ps qs = two (.bool (overlapB ps qs)) (.int .i64 0) by unfold overlapR; rw [if_pos ⟨h.vp, h.vq⟩])
  have R6 := Lib.hid (show overlapR ms bs = two (.bool (overlapB ps qs)) (.int .i64 0) by unfold overlapR; rw [if_pos ⟨h.va, h.vb⟩, h.over])
  have R7 := Lib.hid (show insideR ps qs = two (.bool (!ps.any (outB qs))) (.int .i64 0) by unfold insideR; rw [if_pos ⟨h.vp, h.vq⟩])
  have R8 := Lib.hid (show insideR ms bs = two (.bool (!ps.any (outB qs))) (.int .i64 0) by unfold insideR; rw [if_pos ⟨h.va, h.vb⟩, h.inside])
  clear hu hv hx hy h
  generalize areaZ ps = A at *
  generalize (A - ringZ ps + 2).tdiv 2 = N at *
  generalize ringZ ps = B at *
  generalize overlapB ps qs = O at *
  generalize (!ps.any (outB qs)) = J at *
  go_enter Try.func24, Try.ntmps24
  go_wp2_with fail
  refine (Area_c _ ps w HU.out).mono ?_
  rintro e w1 ⟨rfl, hE1⟩
  rw [R1.out]
  simp only [two]
  have HE1 := Lib.hid hE1
  clear hE1
  go_wp2_with fail
  refine (Area_c _ ms w1 (HX.out.ext HE1.out)).mono ?_
  rintro e w2 ⟨rfl, hE⟩
  rw [R2.out]
  simp only [two]
  have HE2 := Lib.hid (Ext.trans HE1.out hE)
  clear hE
  go_wp2_with fail
  refine (Points_c _ ps w2 (HU.out.ext HE2.out)).mono ?_
  rintro e w3 ⟨rfl, hE⟩
  rw [R3.out]
  simp only [three]
  have HE3 := Lib.hid (Ext.trans HE2.out hE)
  clear hE
  go_wp2_with fail
  refine (Points_c _ ms w3 (HX.out.ext HE3.out)).mono ?_
  rintro e w4 ⟨rfl, hE⟩
  rw [R4.out]
  simp only [three]
  have HE4 := Lib.hid (Ext.trans HE3.out hE)
  clear hE
  have hA : (A != A) = false := by simp
  have hN : (N != N) = false := by simp
  have hBB : (B != B) = false := by simp
  go_wp2_with fail
  refine (Overlap_c _ _ ps qs w4 (HU.out.ext HE4.out) (HV.out.ext HE4.out)).mono ?_
  rintro e w5 ⟨rfl, hE⟩
  rw [R5.out]
  simp only [two]
  have HE5 := Lib.hid (Ext.trans HE4.out hE)
  clear hE
  go_wp2_with fail
  refine (Overlap_c _ _ ms bs w5 (HX.out.ext HE5.out) (HY.out.ext HE5.out)).mono ?_
  rintro e w6 ⟨rfl, hE⟩
  rw [R6.out]
  simp only [two]
  have HE6 := Lib.hid (Ext.trans HE5.out hE)
  clear hE
  go_wp2_with fail
  refine (Inside_c _ _ ps qs w6 (HU.out.ext HE6.out) (HV.out.ext HE6.out)).mono ?_
  rintro e w7 ⟨rfl, hE⟩
  rw [R7.out]
  simp only [two]
  have HE7 := Lib.hid (Ext.trans HE6.out hE)
  clear hE
  go_wp2_with fail
  refine (Inside_c _ _ ms bs w7 (HX.out.ext HE7.out) (HY.out.ext HE7.out)).mono ?_
  rintro e w8 ⟨rfl, hE⟩
  rw [R8.out]
  simp only [two]
  have HE8 := Lib.hid (Ext.trans HE7.out hE)
  clear hE
  go_wp2
  all_goals go_ret
  all_goals exact ⟨ret_bool (by simp), HE8.out⟩
theorem alike_moved {ps qs : List Pt} {v : Pt} (h1 : validB ps = true) (h2 : validB qs = true) (f1 : (movedP ps v).any farP = false) (f2 : (movedP qs v).any farP = false) : AlikeP ps qs (movedP ps v) (movedP qs v) :=
  ⟨h1, h2, valid_moved h1 f1, valid_moved h2 f2, area_moved ps v, ring_moved ps v, overlap_moved v (by have := (valid_near h1).2; omega) (by have := (valid_near h2).2; omega), inside_moved ps qs v⟩
theorem alike_flip {ps qs : List Pt} (h1 : validB ps = true) (h2 : validB qs = true) : AlikeP ps qs (flipP ps) (flipP qs) := by
  have n1 := (valid_near h1).2
  have n2 := (valid_near h2).2
  exact ⟨h1, h2, valid_flip h1, valid_flip h2, area_flip (by omega), ring_flip (by omega), overlap_flip (by omega) (by omega), inside_flip (by omega)⟩
theorem move_ok (ps : List Pt) (x y : Int) (u : Value) : ∃ r er, moveR ps x y u = two r (.int .i64 er) ∧ (er = 0 → validB ps = true ∧ farB x y = false ∧ (movedP ps (x, y)).any farP = false ∧ r = u) := by
  unfold moveR
  by_cases hb : validB ps = true ∧ farB x y = false
  · rw [if_pos hb]
    unfold limR
    cases hf : (movedP ps (x, y)).any farP with
    | true => exact ⟨_, 4, rfl, fun h => by cases h⟩
    | false =>
      by_cases h32 : 32 < (movedP ps (x, y)).length
      · rw [if_neg (by decide), if_pos h32]; exact ⟨_, 8, rfl, fun h => by cases h⟩
      · rw [if_neg (by decide), if_neg h32]; exact ⟨_, 0, rfl, fun _ => ⟨hb.1, hb.2, rfl, rfl⟩⟩
  · rw [if_neg hb]; exact ⟨_, 2, rfl, fun h => by cases h⟩
theorem flip_ok (ps : List Pt) (u : Value) : ∃ r er, flipR ps u = two r (.int .i64 er) ∧ (er = 0 → validB ps = true ∧ r = u) := by
  unfold flipR
  cases hb : validB ps with
  | true => rw [if_pos rfl]; exact ⟨_, 0, rfl, fun _ => ⟨rfl, rfl⟩⟩
  | false => rw [if_neg (by decide)]; exact ⟨_, 2, rfl, fun h => by cases h⟩
set_option maxRecDepth 100000 in
set_option maxHeartbeats 4000000 in
theorem motions_law (u v : Value) (ps qs : List Pt) (x y : Int) (w : World) (hu : Vecs w u ps) (hv : Vecs w v qs) :
    Calls Try.prog 7 #[u, v, vecV x y] w fun e w' => e = .returned (.bool true) ∧ Ext w w' := by
  obtain ⟨a1, c1, rfl, hl1, hm1, _⟩ := hu.at
  obtain ⟨a2, c2, rfl, hl2, hm2, _⟩ := hv.at
  have hE0 := Ext.alloc (Ext.refl w) (.cells #[.int .i64 x, .int .i64 y] 31)
  have HU := Lib.hid (hu.ext hE0)
  have HV := Lib.hid (hv.ext hE0)
  have HE0 := Lib.hid hE0
  have HB := Lib.hid (show VRow (w.alloc (.cells #[.int .i64 x, .int .i64 y] 31)) _ _ _ from vrow_alloc w [.int .i64 x, .int .i64 y] 31)
  have hsb : w.heap.size < (w.alloc (.cells #[.int .i64 x, .int .i64 y] 31)).heap.size := by simp
  clear hu hv hE0
  go_enter Try.func7, Try.ntmps7
  go_wp2_with fail
  generalize w.alloc (.cells #[.int .i64 x, .int .i64 y] 31) = w1 at *
  refine (few_c _ _ _ w1 (by omega)).mono ?_
  rintro e w2 ⟨rfl, rfl⟩
  by_cases hf1 : ps.length ≤ 300
  · rw [decide_eq_true hf1]
    go_wp2_with fail
    refine (few_c _ _ _ w1 (by omega)).mono ?_
    rintro e w2 ⟨rfl, rfl⟩
    by_cases hf2 : qs.length ≤ 300
    · rw [decide_eq_true hf2]
      have b0 := VRow.cell HB.out (k := 0) rfl
      have b1 := VRow.cell HB.out (k := 1) rfl
      go_wp2_with fail
      clear b0 b1
      refine (show Calls Try.prog 23 #[.slice a1 ps.length c1, vecV x y] w1 _ from (Move_c _ ps x y w1 HU.out).mono ?_)
      rintro e w3 ⟨um, rfl, hum, hE3⟩
      obtain ⟨rm, er, hR, hok⟩ := move_ok ps x y um
      rw [hR]
      simp only [two]
      have HUM := Lib.hid hum
      have HOK := Lib.hid hok
      have HE3 := Lib.hid hE3
      have hB3 := VRow.ext HB.out hE3
      have b0 := VRow.cell hB3 (k := 0) rfl
      have b1 := VRow.cell hB3 (k := 1) rfl
      clear hR hum hok hE3 hB3
      go_wp2_with fail
      clear b0 b1
      refine (show Calls Try.prog 23 #[.slice a2 qs.length c2, vecV x y] w3 _ from (Move_c _ qs x y w3 (HV.out.ext HE3.out)).mono ?_)
      rintro e w4 ⟨vm, rfl, hvm, hE4⟩
      obtain ⟨sm, fr, hR, hok⟩ := move_ok qs x y vm
      rw [hR]
      simp only [two]
      have HVM := Lib.hid hvm
      have HOK2 := Lib.hid hok
      have HE4 := Lib.hid (Ext.trans HE3.out hE4)
      have HE34 := Lib.hid hE4
      clear hR hvm hok hE4
      by_cases k1 : er = 0
      · by_cases k2 : fr = 0
        · obtain ⟨vp, fx, nf1, e1⟩ := HOK.out k1
          obtain ⟨vq, _, nf2, e2⟩ := HOK2.out k2
          subst e1 e2 k1 k2
          have HX := Lib.hid ((HUM.out vp fx).ext HE34.out)
          have HY := Lib.hid (HVM.out vq fx)
          have HAL := Lib.hid (alike_moved vp vq nf1 nf2)
          clear vp vq fx nf1 nf2
          go_wp2_with fail
          refine (alike_c _ _ _ _ ps qs (movedP ps (x, y)) (movedP qs (x, y)) w4 (HU.out.ext HE4.out) (HV.out.ext HE4.out) HX.out HY.out HAL.out).mono ?_
          rintro e w5 ⟨rfl, hE⟩
          have HE5 := Lib.hid (Ext.trans HE4.out hE)
          clear hE HX HY HAL
          go_wp2_with fail
          refine (Flip_c _ ps w5 (HU.out.ext HE5.out)).mono ?_
          rintro e wf ⟨uf, rfl, huf, hE⟩
          obtain ⟨rf, ef, hR, hokf⟩ := flip_ok ps uf
          rw [hR]
          simp only [two]
          have HUF := Lib.hid huf
          have HOKF := Lib.hid hokf
          have HEF := Lib.hid (Ext.trans HE5.out hE)
          clear hR huf hokf hE
          go_wp2_with fail
          refine (Flip_c _ qs wf (HV.out.ext HEF.out)).mono ?_
          rintro e wg ⟨ug, rfl, hug, hE⟩
          obtain ⟨rg, eg, hR, hokg⟩ := flip_ok qs ug
          rw [hR]
          simp only [two]
          have HUG := Lib.hid hug
          have HOKG := Lib.hid hokg
          have HEG := Lib.hid (Ext.trans HEF.out hE)
          have HFG := Lib.hid hE
          clear hR hug hokg hE
          by_cases g1 : ef = 0
          · by_cases g2 : eg = 0
            · obtain ⟨vp, e1⟩ := HOKF.out g1
              obtain ⟨vq, e2⟩ := HOKG.out g2
              subst e1 e2 g1 g2
              have HX := Lib.hid ((HUF.out vp).ext HFG.out)
              have HY := Lib.hid (HUG.out vq)
              have HAL := Lib.hid (alike_flip vp vq)
              clear vp vq
              go_wp2_with fail
              refine (alike_c _ _ _ _ ps qs (flipP ps) (flipP qs) wg (HU.out.ext HEG.out) (HV.out.ext HEG.out) HX.out HY.out HAL.out).mono ?_
              rintro e wh ⟨rfl, hE⟩
              have HEH := Lib.hid (Ext.trans HEG.out hE)
              clear hE
              go_wp2_with fail
              refine (alive_c wh).mono ?_
              rintro e wi ⟨rfl, hE2⟩
              go_wp2
              all_goals go_ret
              all_goals exact ⟨ret_bool (by simp), Ext.trans HE0.out (Ext.trans HEH.out hE2)⟩
            · subst g1
              go_wp2_with fail
              refine (alive_c wg).mono ?_
              rintro e wi ⟨rfl, hE2⟩
              go_wp2
              all_goals go_ret
              all_goals exact ⟨ret_bool (by simp), Ext.trans HE0.out (Ext.trans HEG.out hE2)⟩
          · go_wp2_with fail
            refine (alive_c wg).mono ?_
            rintro e wi ⟨rfl, hE2⟩
            go_wp2
            all_goals go_ret
            all_goals exact ⟨ret_bool (by simp), Ext.trans HE0.out (Ext.trans HEG.out hE2)⟩
        · subst k1
          go_wp2_with fail
          refine (Flip_c _ ps w4 (HU.out.ext HE4.out)).mono ?_
          rintro e wf ⟨uf, rfl, huf, hE⟩
          obtain ⟨rf, ef, hR, hokf⟩ := flip_ok ps uf
          rw [hR]
          simp only [two]
          have HUF := Lib.hid huf
          have HOKF := Lib.hid hokf
          have HEF := Lib.hid (Ext.trans HE4.out hE)
          clear hR huf hokf hE
          go_wp2_with fail
          refine (Flip_c _ qs wf (HV.out.ext HEF.out)).mono ?_
          rintro e wg ⟨ug, rfl, hug, hE⟩
          obtain ⟨rg, eg, hR, hokg⟩ := flip_ok qs ug
          rw [hR]
          simp only [two]
          have HUG := Lib.hid hug
          have HOKG := Lib.hid hokg
          have HEG := Lib.hid (Ext.trans HEF.out hE)
          have HFG := Lib.hid hE
          clear hR hug hokg hE
          by_cases g1 : ef = 0
          · by_cases g2 : eg = 0
            · obtain ⟨vp, e1⟩ := HOKF.out g1
              obtain ⟨vq, e2⟩ := HOKG.out g2
              subst e1 e2 g1 g2
              have HX := Lib.hid ((HUF.out vp).ext HFG.out)
              have HY := Lib.hid (HUG.out vq)
              have HAL := Lib.hid (alike_flip vp vq)
              clear vp vq
              go_wp2_with fail
              refine (alike_c _ _ _ _ ps qs (flipP ps) (flipP qs) wg (HU.out.ext HEG.out) (HV.out.ext HEG.out) HX.out HY.out HAL.out).mono ?_
              rintro e wh ⟨rfl, hE⟩
              have HEH := Lib.hid (Ext.trans HEG.out hE)
              clear hE
              go_wp2_with fail
              refine (alive_c wh).mono ?_
              rintro e wi ⟨rfl, hE2⟩
              go_wp2
              all_goals go_ret
              all_goals exact ⟨ret_bool (by simp), Ext.trans HE0.out (Ext.trans HEH.out hE2)⟩
            · subst g1
              go_wp2_with fail
              refine (alive_c wg).mono ?_
              rintro e wi ⟨rfl, hE2⟩
              go_wp2
              all_goals go_ret
              all_goals exact ⟨ret_bool (by simp), Ext.trans HE0.out (Ext.trans HEG.out hE2)⟩
          · go_wp2_with fail
            refine (alive_c wg).mono ?_
            rintro e wi ⟨rfl, hE2⟩
            go_wp2
            all_goals go_ret
            all_goals exact ⟨ret_bool (by simp), Ext.trans HE0.out (Ext.trans HEG.out hE2)⟩
      · skip
        go_wp2_with fail
        refine (Flip_c _ ps w4 (HU.out.ext HE4.out)).mono ?_
        rintro e wf ⟨uf, rfl, huf, hE⟩
        obtain ⟨rf, ef, hR, hokf⟩ := flip_ok ps uf
        rw [hR]
        simp only [two]
        have HUF := Lib.hid huf
        have HOKF := Lib.hid hokf
        have HEF := Lib.hid (Ext.trans HE4.out hE)
        clear hR huf hokf hE
        go_wp2_with fail
        refine (Flip_c _ qs wf (HV.out.ext HEF.out)).mono ?_
        rintro e wg ⟨ug, rfl, hug, hE⟩
        obtain ⟨rg, eg, hR, hokg⟩ := flip_ok qs ug
        rw [hR]
        simp only [two]
        have HUG := Lib.hid hug
        have HOKG := Lib.hid hokg
        have HEG := Lib.hid (Ext.trans HEF.out hE)
        have HFG := Lib.hid hE
        clear hR hug hokg hE
        by_cases g1 : ef = 0
        · by_cases g2 : eg = 0
          · obtain ⟨vp, e1⟩ := HOKF.out g1
            obtain ⟨vq, e2⟩ := HOKG.out g2
            subst e1 e2 g1 g2
            have HX := Lib.hid ((HUF.out vp).ext HFG.out)
            have HY := Lib.hid (HUG.out vq)
            have HAL := Lib.hid (alike_flip vp vq)
            clear vp vq
            go_wp2_with fail
            refine (alike_c _ _ _ _ ps qs (flipP ps) (flipP qs) wg (HU.out.ext HEG.out) (HV.out.ext HEG.out) HX.out HY.out HAL.out).mono ?_
            rintro e wh ⟨rfl, hE⟩
            have HEH := Lib.hid (Ext.trans HEG.out hE)
            clear hE
            go_wp2_with fail
            refine (alive_c wh).mono ?_
            rintro e wi ⟨rfl, hE2⟩
            go_wp2
            all_goals go_ret
            all_goals exact ⟨ret_bool (by simp), Ext.trans HE0.out (Ext.trans HEH.out hE2)⟩
          · subst g1
            go_wp2_with fail
            refine (alive_c wg).mono ?_
            rintro e wi ⟨rfl, hE2⟩
            go_wp2
            all_goals go_ret
            all_goals exact ⟨ret_bool (by simp), Ext.trans HE0.out (Ext.trans HEG.out hE2)⟩
        · go_wp2_with fail
          refine (alive_c wg).mono ?_
          rintro e wi ⟨rfl, hE2⟩
          go_wp2
          all_goals go_ret
          all_goals exact ⟨ret_bool (by simp), Ext.trans HE0.out (Ext.trans HEG.out hE2)⟩
    · rw [decide_eq_false hf2]
      go_wp2_with fail
      refine (alive_c w1).mono ?_
      rintro e w2 ⟨rfl, hE⟩
      go_wp2
      go_ret
      exact ⟨rfl, Ext.trans HE0.out hE⟩
  · rw [decide_eq_false hf1]
    go_wp2_with fail
    refine (alive_c w1).mono ?_
    rintro e w2 ⟨rfl, hE⟩
    go_wp2
    go_ret
    exact ⟨rfl, Ext.trans HE0.out hE⟩
end Go.Proofs.Ytnoacppfgckohaa
