import Derived.Test.YtbdppephmlkbaaaV16
namespace Go.Proofs.Ytbdppephmlkbaaa
set_option maxRecDepth 100000
open Go.RowKit Go.Shelf
theorem minK_mem {qs : List Pt} (hn : 0 < qs.length) : ∀ k, k < qs.length → minK qs k ∈ qs := by
  have hf : ∀ j, j < qs.length → fromP qs j ∈ qs := fun j hj => by unfold fromP; rw [List.getD_eq_getElem?_getD, List.getElem?_eq_getElem hj]; exact List.getElem_mem _
  intro k
  induction k with
  | zero => intro _; exact hf 0 hn
  | succ k ih =>
    intro hk
    simp only [minK]
    split
    · exact hf _ hk
    · exact ih (by omega)
theorem minP_mem {qs : List Pt} (hn : 0 < qs.length) : minP qs ∈ qs := minK_mem hn _ (by omega)
theorem idxK_lt {m : Pt} {qs : List Pt} (h : m ∈ qs) : idxK m qs < qs.length ∧ qs[idxK m qs]? = some m := by
  induction qs with
  | nil => cases h
  | cons a r ih =>
    unfold idxK
    by_cases ha : a = m
    · rw [if_pos ha]; exact ⟨by simp, by simp [ha]⟩
    · rw [if_neg ha]
      have hr : m ∈ r := by
        rcases List.mem_cons.1 h with h | h
        · exact absurd h.symm ha
        · exact h
      obtain ⟨h1, h2⟩ := ih hr
      exact ⟨by simp; omega, by simpa using h2⟩
def turnP (fs : List Pt) : List Pt := fs.drop (idxK (minP fs) fs) ++ fs.take (idxK (minP fs) fs)
def flipP (ps : List Pt) : List Pt := turnP (ps.map negP)
def flipR (ps : List Pt) (u : Value) : Ending := if validB ps = true then two u (.int .i64 0) else two (.slice none 0 0) (.int .i64 2)
def MP.own (base n : Nat) (xs : List Value) : MP := ⟨fun v W => W.ownsRow base 32 2 v n xs, fun _ _ _ h hh => ownsRow_ext hh h⟩
def MP.pair (v1 v2 : Value) : MP := ⟨fun v W => ∃ r, v = .slice (some ⟨r, 0, none⟩) 2 2 ∧ VRow W r 22 [v1, v2], fun _ _ _ h hh => by
  obtain ⟨r, e, h1⟩ := hh
  exact ⟨r, e, VRow.ext h1 h⟩⟩
theorem ownsRow_base {A : World} {b c : Nat} {e : TypeId} {n sz : Nat} {v : Value} {xs : List Value} (h : A.ownsRow b e sz v n xs) (hb : c ≤ b) : A.ownsRow c e sz v n xs := by
  refine ⟨h.1, ?_⟩
  rcases h.2 with h | ⟨g, cap, cur, hv, hg, r⟩
  · exact .inl h
  · exact .inr ⟨g, cap, cur, hv, by omega, r⟩
theorem prow_pts {w : World} {g : Nat} {qs : List Pt} (h : PRow w g qs) : PtsAt w g 0 qs := fun k q hk => by
  obtain ⟨h1, h2⟩ := cellsOf_at qs k q hk
  rw [Nat.zero_add]
  exact ⟨VRow.cell h h1, VRow.cell h h2⟩
theorem pts_drop {w : World} {g s : Nat} {qs : List Pt} (h : PtsAt w g 0 qs) : PtsAt w g (s * 2) (qs.drop s) := fun k q hk => by
  rw [List.getElem?_drop] at hk
  obtain ⟨h1, h2⟩ := h _ q hk
  rw [show s * 2 + k * 2 = 0 + (s + k) * 2 by omega]
  exact ⟨h1, h2⟩
theorem pts_take {w : World} {g s : Nat} {qs : List Pt} (h : PtsAt w g 0 qs) : PtsAt w g 0 (qs.take s) := fun k q hk => by
  rw [List.getElem?_take] at hk
  split at hk
  · exact h k q hk
  · cases hk
set_option maxRecDepth 100000 in
set_option maxHeartbeats 2000000 in
theorem Flip_u (v : Value) (ps : List Pt) (w : World) (hv : Vecs w v ps) :
    Calls Try.prog 26 #[v] w fun e w' => ∃ u, e = flipR ps u ∧ (validB ps = true → w'.ownsRow w.heap.size 32 2 u (flipP ps).length (cellsOf (flipP ps))) ∧ Ext w w' := by
  obtain ⟨a, cap, rfl, hl, hm, _⟩ := hv.at
  have HV := Lib.hid hv
  clear hv
  cases hf : validB ps with
  | false =>
    have HR := Lib.hid (show flipR ps (.slice none 0 0) = two (.slice none 0 0) (.int .i64 2) by simp [flipR, hf])
    have Hf := Lib.hid hf
    clear hf
    go_enter Try.func26, Try.ntmps26
    go_wp2_with fail
    refine (valid_c _ ps _ HV.out).mono ?_
    rintro e w2 ⟨rfl, hE⟩
    rw [Hf.out]
    go_wp2_with fail
    go_ret2
    exact ⟨_, HR.out.symm, fun h => (by cases h), hE⟩
  | true =>
    have HR := Lib.hid (show ∀ u, flipR ps u = two u (.int .i64 0) from fun u => by simp [flipR, hf])
    have Hf := Lib.hid hf
    have hn := (valid_near hf).2
    have HN := Lib.hid (valid_near hf).1
    clear hf
    have HMK := Lib.hid (run_make_pts ps.length (by omega))
    go_enter Try.func26, Try.ntmps26
    go_wp2_with fail
    refine (valid_c _ ps _ HV.out).mono ?_
    rintro e w3 ⟨rfl, hE3⟩
    rw [Hf.out]
    have HE3 := Lib.hid hE3
    clear hE3
    have hmk := HMK.out w3
    go_wp2_with fail
    clear hmk
    have hr0 := vrow_alloc w3 (cellsOf (List.replicate ps.length (0, 0))) 32
    have hE4 := Ext.alloc (Ext.refl w3) (.cells (cellsOf (List.replicate ps.length (0, 0))).toArray 32)
    go_loopw [16] (fun i wr => ∃ (k : Nat) (qs : List Pt), k ≤ ps.length ∧ qs.length = ps.length ∧ (∀ j, j < k → qs[j]? = ps[j]?.map negP) ∧ i = .int .i64 k ∧ PRow wr w3.heap.size qs ∧ Ext w3 wr) (fun i _ => ps.length - (intOf i).toNat)
    case atStart => exact ⟨0, _, Nat.zero_le _, by simp, fun j hj => by omega, rfl, hr0, hE4⟩
    case round =>
      clear hr0
      obtain ⟨k, qs, hk, hql, hq, rfl, hr, hE5⟩ := hrel
      have HQ := Lib.hid hq
      have HRW := Lib.hid hr
      have HE5 := Lib.hid hE5
      have Hql := Lib.hid hql
      clear hq hr hE5 hql
      by_cases hlt : k < ps.length
      · have HV5 := HV.out.ext (Ext.trans HE3.out HE5.out)
        obtain ⟨a', cap', e, _, _, hra⟩ := HV5.at
        have e : a = a' ∧ cap = cap' := by injection e with e1 e2 e3; exact ⟨e1, e3⟩
        obtain ⟨rfl, rfl⟩ := e
        obtain ⟨q, hq⟩ := getElem?_len hlt
        obtain ⟨b, o, rfl, c0, c1⟩ := hra k q hq
        have hqn := HN.out q (List.mem_of_getElem? hq)
        have HQN := Lib.hid (show fine q.1 ∧ fine q.2 by unfold fine; omega)
        have Hq := Lib.hid hq
        have hg3 := VRow.lt HRW.out
        clear hq hqn hra HV5
        go_wp2_with fail
        clear c0 c1
        refine (show Calls Try.prog 61 #[vecV q.1 q.2] _ _ from (opposite_c q.1 q.2 _ HQN.out.1 HQN.out.2).mono ?_)
        rintro e w6 ⟨rfl, hE6⟩
        have HE6 := Lib.hid (Ext.trans (Ext.alloc (Ext.refl wr) (.cells #[.int .i64 q.1, .int .i64 q.2] 32)) hE6)
        have HR6 := Lib.hid (VRow.ext HRW.out HE6.out)
        obtain ⟨cx, cy, d0, d1⟩ := PRow.at (show PRow w6 _ qs from HR6.out) (show k < qs.length by rw [Hql.out]; exact hlt)
        have f0 := VRow.frozen HR6.out (k * 2) none
        have f1 := VRow.frozen HR6.out (k * 2 + 1) none
        clear hE6
        go_wp2_with fail
        refine ⟨⟨k + 1, _, by omega, by rw [List.length_set]; exact Hql.out, set_done (f := negP) Hql.out hlt HQ.out Hq.out, by simp, PRow.put (show PRow w6 _ qs from HR6.out) k (negP q), ?_⟩, by simp [intOf]; omega⟩
        exact Below.setCell (p := ⟨w3.heap.size, k * 2 + 1, none⟩) (Below.setCell (p := ⟨w3.heap.size, k * 2, none⟩) (Ext.trans HE5.out HE6.out) (Nat.le_refl _) _) (Nat.le_refl _) _
      · obtain rfl : k = ps.length := by omega
        have hqs := all_map Hql.out HQ.out
        have HQS := Lib.hid hqs
        have hvx := PRow.vecs HRW.out Hql.out.symm (by rw [Hql.out]; omega)
        have HVX := Lib.hid hvx
        have hq0 : 0 < qs.length := by rw [Hql.out]; omega
        have Hmem := Lib.hid (minP_mem hq0)
        have Hq0 := Lib.hid hq0
        clear hqs hvx hq0
        go_wp2_with fail
        refine (min_c _ qs _ HVX.out Hq0.out (by rw [Hql.out]; omega)).mono ?_
        rintro e w6 ⟨rfl, hE6⟩
        have HE6 := Lib.hid hE6
        clear hE6
        go_wp2_with fail
        refine (idx_c _ qs (minP qs) _ (HVX.out.ext HE6.out) Hmem.out).mono ?_
        rintro e w7 ⟨rfl, hE7⟩
        have HE7 := Lib.hid (Ext.trans HE6.out hE7)
        have hsn := (idxK_lt Hmem.out).1
        rw [Hql.out] at hsn
        have HTP := Lib.hid (show turnP qs = qs.drop (idxK (minP qs) qs) ++ qs.take (idxK (minP qs) qs) from rfl)
        clear hE7
        generalize idxK (minP qs) qs = s at *
        have HP7 := Lib.hid (show PtsAt w7 w3.heap.size 0 qs from prow_pts (VRow.ext HRW.out HE7.out))
        have hdl : (qs.drop s).length = ps.length - s := by rw [List.length_drop, Hql.out]
        have htl : (qs.take s).length = s := by rw [List.length_take, Hql.out]; omega
        have HDL := Lib.hid hdl
        have HTL := Lib.hid htl
        clear hdl htl
        obtain ⟨g, hg⟩ : ∃ g, g = w3.heap.size := ⟨_, rfl⟩
        rw [← hg] at HP7 ⊢
        have Hg := Lib.hid hg
        clear hg
        have hsn2 : s ≤ ps.length := by omega
        go_wp2_with fail
        refine wp_region_stable [⟨[], none⟩, ⟨[], none⟩, ⟨[(0, 31), (1, 32)], none⟩, ⟨[], none⟩, ⟨[], none⟩, ⟨[(3, 34), (4, 35)], none⟩, ⟨[(2, 33), (5, 36)], none⟩, ⟨[(6, 37)], none⟩, ⟨[(7, 38)], none⟩, ⟨[], none⟩] (fun x y => Below x.heap.size x y) (MPat [MP.eq (.slice (some ⟨g, 0, none⟩) ps.length ps.length), MP.eq (.int .i64 s), MP.eq (.slice (some ⟨g, s * 2, none⟩) (ps.length - s) (ps.length - s)), MP.eq (.slice (some ⟨g, 0, none⟩) ps.length ps.length), MP.eq (.int .i64 s), MP.eq (.slice (some ⟨g, 0, none⟩) s ps.length), MP.pair (.slice (some ⟨g, s * 2, none⟩) (ps.length - s) (ps.length - s)) (.slice (some ⟨g, 0, none⟩) s ps.length), MP.own w7.heap.size (ps.length - s + s) (cellsOf (qs.drop s ++ qs.take s)), MP.own w7.heap.size (ps.length - s + s) (cellsOf (qs.drop s ++ qs.take s)), MP.eq (.int .i64 0)]) (by kernel_rfl) (fun _ _ _ h k => Ext.trans h k) (fun _ => Below.refl _ _) (fun x => (Below.refl x.heap.size x).drew) (MPat.mono _) (by kernel_rfl) ?obs ?rest
        case obs =>
          refine ⟨?_, ?_, ?_, ?_, ?_, ?_, ?_, ?_, ?_, ?_, trivial⟩
          · intro ev W hf _ _ hst hd
            have e4 : ev (.tmp 4) = .slice (some ⟨g, 0, none⟩) ps.length ps.length := hf 4 (by kernel_rfl)
            refine st_value (v := .slice (some ⟨g, 0, none⟩) ps.length ps.length) ?_ (Below.refl _ _) ?_
            · simp [execOp, go_sem, e4]
            · exact rfl
          · intro ev W hf _ _ hst hd
            have e7 : ev (.tmp 7) = .int .i64 s := hf 7 (by kernel_rfl)
            refine st_value (v := .int .i64 s) ?_ (Below.refl _ _) ?_
            · simp [execOp, go_sem, e7]
            · exact rfl
          · intro ev W hf _ _ hst hd
            obtain ⟨d31, d32, _⟩ := hd
            have e31 : ev (.tmp 31) = .slice (some ⟨g, 0, none⟩) ps.length ps.length := d31
            have e32 : ev (.tmp 32) = .int .i64 s := d32
            refine st_value (v := .slice (some ⟨g, s * 2, none⟩) (ps.length - s) (ps.length - s)) ?_ (Below.refl _ _) ?_
            · (simp [execOp, go_sem, e31, e32, hsn2]; omega)
            · exact rfl
          · intro ev W hf _ _ hst hd
            have e4 : ev (.tmp 4) = .slice (some ⟨g, 0, none⟩) ps.length ps.length := hf 4 (by kernel_rfl)
            refine st_value (v := .slice (some ⟨g, 0, none⟩) ps.length ps.length) ?_ (Below.refl _ _) ?_
            · simp [execOp, go_sem, e4]
            · exact rfl
          · intro ev W hf _ _ hst hd
            have e7 : ev (.tmp 7) = .int .i64 s := hf 7 (by kernel_rfl)
            refine st_value (v := .int .i64 s) ?_ (Below.refl _ _) ?_
            · simp [execOp, go_sem, e7]
            · exact rfl
          · intro ev W hf _ _ hst hd
            obtain ⟨d34, d35, _⟩ := hd
            have e34 : ev (.tmp 34) = .slice (some ⟨g, 0, none⟩) ps.length ps.length := d34
            have e35 : ev (.tmp 35) = .int .i64 s := d35
            refine st_value (v := .slice (some ⟨g, 0, none⟩) s ps.length) ?_ (Below.refl _ _) ?_
            · simp [execOp, go_sem, e34, e35, hsn2]
            · exact rfl
          · intro ev W hf _ hfn hst hd
            obtain ⟨d33, d36, _⟩ := hd
            have e33 : ev (.tmp 33) = .slice (some ⟨g, s * 2, none⟩) (ps.length - s) (ps.length - s) := d33
            have e36 : ev (.tmp 36) = .slice (some ⟨g, 0, none⟩) s ps.length := d36
            refine st_new (v := .slice (some ⟨W.heap.size, 0, none⟩) 2 2) (o := .cells #[.slice (some ⟨g, s * 2, none⟩) (ps.length - s) (ps.length - s), .slice (some ⟨g, 0, none⟩) s ps.length] 22) ?_ ?_
            · simp [execOp, go_sem, e33, e36]
            · exact ⟨_, rfl, vrow_alloc W [.slice (some ⟨g, s * 2, none⟩) (ps.length - s) (ps.length - s), .slice (some ⟨g, 0, none⟩) s ps.length] 22⟩
          · intro ev W hf _ hfn hst hd
            obtain ⟨d37, _⟩ := hd
            obtain ⟨rB, eB, hB⟩ := d37
            have e37 : ev (.tmp 37) = .slice (some ⟨rB, 0, none⟩) 2 2 := eB
            refine st_enter (f := 65) (args := #[.slice (some ⟨rB, 0, none⟩) 2 2]) (by simp [execOp, go_sem, hfn, e37]) ?_
            have h1 := concat_c rB g (s * 2) (ps.length - s) g 0 ps.length (qs.drop s) (qs.take s) W (by rw [HDL.out, HTL.out]; exact hB) (pts_drop (PtsAt.ext HP7.out hst)) (pts_take (PtsAt.ext HP7.out hst)) (by rw [HDL.out, HTL.out]; omega) (by rw [HDL.out]; omega) (by rw [HTL.out]; omega)
            rw [HDL.out, HTL.out] at h1
            refine h1.mono ?_
            rintro e w' ⟨v, rfl, hO, hE⟩
            exact ⟨v, rfl, hE, ownsRow_base hO hst.size⟩
          · intro ev W hf _ hfn hst hd
            obtain ⟨d38, _⟩ := hd
            clear hfn
            exact st_value (v := ev (.tmp 38)) (by simp [execOp, go_sem]) (Below.refl _ _) d38
          · intro ev W hf hcst _ hst hd
            refine st_value (v := .int .i64 0) ?_ (Below.refl _ _) ?_
            · simp [execOp, go_sem, hcst]
            · exact rfl
        case rest =>
          intro vs w3 hl hst hg
          have hx0 : ∀ u, vs[0]? = some u → u = .slice (some ⟨g, 0, none⟩) ps.length ps.length := fun u hu => hg 0 u hu
          have hx1 : ∀ u, vs[1]? = some u → u = .int .i64 s := fun u hu => hg 1 u hu
          have hx2 : ∀ u, vs[2]? = some u → u = .slice (some ⟨g, s * 2, none⟩) (ps.length - s) (ps.length - s) := fun u hu => hg 2 u hu
          have hx3 : ∀ u, vs[3]? = some u → u = .slice (some ⟨g, 0, none⟩) ps.length ps.length := fun u hu => hg 3 u hu
          have hx4 : ∀ u, vs[4]? = some u → u = .int .i64 s := fun u hu => hg 4 u hu
          have hx5 : ∀ u, vs[5]? = some u → u = .slice (some ⟨g, 0, none⟩) s ps.length := fun u hu => hg 5 u hu
          have hx6 : ∀ u, vs[6]? = some u → MP.p (MP.pair (.slice (some ⟨g, s * 2, none⟩) (ps.length - s) (ps.length - s)) (.slice (some ⟨g, 0, none⟩) s ps.length)) u w3 := fun u hu => hg 6 u hu
          have hx7 : ∀ u, vs[7]? = some u → MP.p (MP.own w7.heap.size (ps.length - s + s) (cellsOf (qs.drop s ++ qs.take s))) u w3 := fun u hu => hg 7 u hu
          have hx8 : ∀ u, vs[8]? = some u → MP.p (MP.own w7.heap.size (ps.length - s + s) (cellsOf (qs.drop s ++ qs.take s))) u w3 := fun u hu => hg 8 u hu
          have hx9 : ∀ u, vs[9]? = some u → u = .int .i64 0 := fun u hu => hg 9 u hu
          have HE3' := Lib.hid hst
          clear hg hst
          obtain ⟨x0, vs0, rfl, hl0⟩ := len_succ hl
          obtain ⟨x1, vs1, rfl, hl1⟩ := len_succ hl0
          obtain ⟨x2, vs2, rfl, hl2⟩ := len_succ hl1
          obtain ⟨x3, vs3, rfl, hl3⟩ := len_succ hl2
          obtain ⟨x4, vs4, rfl, hl4⟩ := len_succ hl3
          obtain ⟨x5, vs5, rfl, hl5⟩ := len_succ hl4
          obtain ⟨x6, vs6, rfl, hl6⟩ := len_succ hl5
          obtain ⟨x7, vs7, rfl, hl7⟩ := len_succ hl6
          obtain ⟨x8, vs8, rfl, hl8⟩ := len_succ hl7
          obtain ⟨x9, vs9, rfl, hl9⟩ := len_succ hl8
          have hnil : vs9 = [] := List.length_eq_zero_iff.1 hl9
          subst hnil
          obtain rfl : x0 = .slice (some ⟨g, 0, none⟩) ps.length ps.length := hx0 _ rfl
          obtain rfl : x1 = .int .i64 s := hx1 _ rfl
          obtain rfl : x2 = .slice (some ⟨g, s * 2, none⟩) (ps.length - s) (ps.length - s) := hx2 _ rfl
          obtain rfl : x3 = .slice (some ⟨g, 0, none⟩) ps.length ps.length := hx3 _ rfl
          obtain rfl : x4 = .int .i64 s := hx4 _ rfl
          obtain rfl : x5 = .slice (some ⟨g, 0, none⟩) s ps.length := hx5 _ rfl
          replace hx6 := hx6 _ rfl
          replace hx7 := hx7 _ rfl
          replace hx8 := hx8 _ rfl
          obtain rfl : x9 = .int .i64 0 := hx9 _ rfl
          clear hx0 hx1 hx2 hx3 hx4 hx5 hx9
          simp only [putAll, Act.put, List.setIfInBounds_toArray, List.set_cons_zero, List.set_cons_succ]
          have hown := hx8
          have HO := Lib.hid (show w3.ownsRow w7.heap.size 32 2 x8 (ps.length - s + s) (cellsOf (qs.drop s ++ qs.take s)) from hown)
          clear hx6 hx7 hx8 hown
          go_wp2_with fail
          go_ret2
          refine ⟨x8, (HR.out x8).symm, fun _ => ?_, Ext.trans HE3.out ?_⟩
          · have e : flipP ps = qs.drop s ++ qs.take s := by unfold flipP; rw [← HQS.out, HTP.out]
            rw [e]
            have hl : (qs.drop s ++ qs.take s).length = ps.length - s + s := by rw [List.length_append, HDL.out, HTL.out]
            rw [hl]
            exact ownsRow_base HO.out (by have := HE3.out.size; have := HE5.out.size; have := HE7.out.size; omega)
          · exact Ext.trans HE5.out (Ext.trans HE7.out HE3'.out)
theorem flip_size {ps : List Pt} (h : validB ps = true) : (flipP ps).length = ps.length := by
  have hn := (valid_near h).2
  have h0 : 0 < (ps.map negP).length := by rw [List.length_map]; omega
  have := (idxK_lt (minP_mem h0)).1
  unfold flipP turnP
  rw [List.length_append, List.length_drop, List.length_take]
  rw [List.length_map] at *
  omega
theorem Flip_c (v : Value) (ps : List Pt) (w : World) (hv : Vecs w v ps) :
    Calls Try.prog 26 #[v] w fun e w' => ∃ u, e = flipR ps u ∧ (validB ps = true → Vecs w' u (flipP ps)) ∧ Ext w w' :=
  (Flip_u v ps w hv).mono fun _ _ ⟨u, e, h, hE⟩ => ⟨u, e, fun h1 => vecs_own (h h1) (by have := (valid_near h1).2.2; have := flip_size h1; omega), hE⟩
end Go.Proofs.Ytbdppephmlkbaaa
