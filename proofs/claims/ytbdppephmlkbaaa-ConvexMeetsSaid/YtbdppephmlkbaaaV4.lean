import Derived.Test.YtbdppephmlkbaaaV3
namespace Go.Proofs.Ytbdppephmlkbaaa
set_option maxRecDepth 100000
open Go.RowKit Go.Shelf
attribute [local go_sem] Oper.semAt_some
theorem Rem_bound (a b : Int) (hb : b ≠ 0) : (a.tmod b).natAbs < b.natAbs := by
  rw [Int.natAbs_tmod]
  exact Nat.mod_lt _ (by omega)
theorem gcd_tmod (c d : Int) : Int.gcd d (c.tmod d) = Int.gcd c d := by
  unfold Int.gcd
  rw [Int.natAbs_tmod, Nat.gcd_comm c.natAbs d.natAbs, Nat.gcd_rec d.natAbs c.natAbs, Nat.gcd_comm]
set_option maxHeartbeats 400000 in
theorem divisor_c (a b : Int) (w : World) (ha : fine a) (hb : fine b) :
    Calls Try.prog 57 #[.int .i64 a, .int .i64 b] w fun e w' => e = .returned (.int .i64 (Int.gcd a b)) ∧ Ext w w' := by
  unfold fine at *
  go_enter Try.func57, Try.ntmps57
  go_wp2
  go_loopw [0, 1] (fun s t wr => ∃ c d : Int, s = .int .i64 c ∧ t = .int .i64 d ∧ -1000000 < c ∧ c ≤ 1000000 ∧ -1000000 < d ∧ d ≤ 1000000 ∧ Int.gcd c d = Int.gcd a b ∧ ∃ n, wr = w.drewN n) (fun s t _ => (intOf t).natAbs)
  case atStart => exact ⟨a, b, rfl, rfl, by omega, by omega, by omega, by omega, rfl, 0, rfl⟩
  case round =>
    obtain ⟨c, d, rfl, rfl, h1, h2, h3, h4, hg, n, rfl⟩ := hrel
    have Hg := Lib.hid hg
    clear hg
    by_cases hd : d = 0
    · subst hd
      have h0 : ((0 : Int) != 0) = false := rfl
      rcases Int.lt_trichotomy c 0 with hc | hc | hc
      · have hm : c < -c := by omega
        have hE : Ext w (w.drewN n) := ⟨rfl, rfl, rfl, Nat.le_refl _, fun _ _ => rfl⟩
        go_wp2
        all_goals go_ret
        all_goals refine ⟨ret_int ?_, hE⟩
        all_goals rw [← Hg.out]; simp; omega
      · subst hc
        have hE : Ext w (w.drewN n) := ⟨rfl, rfl, rfl, Nat.le_refl _, fun _ _ => rfl⟩
        go_wp2
        all_goals go_ret
        all_goals refine ⟨ret_int ?_, hE⟩
        all_goals rw [← Hg.out]; simp
      · have hm : -c < c := by omega
        have hE : Ext w (w.drewN n) := ⟨rfl, rfl, rfl, Nat.le_refl _, fun _ _ => rfl⟩
        go_wp2
        all_goals go_ret
        all_goals refine ⟨ret_int ?_, hE⟩
        all_goals rw [← Hg.out]; simp; omega
    · have hd' : (d != 0) = true := by simpa using hd
      have hd2 : (d == 0) = false := by simpa using hd
      have hb := Rem_bound c d hd
      have hlo : -1000000 < c.tmod d := by omega
      have hhi : c.tmod d ≤ 1000000 := by omega
      have Hg2 := Lib.hid (gcd_tmod c d)
      have Hb := Lib.hid hb
      clear hb
      have hw : IntKind.i64.wrap (c.tmod d) = c.tmod d := IntWalk.i64_in _ (by omega)
      go_wp2
      go_quiet (fail)
      clear hw
      go_wp2
      refine ⟨⟨d, c.tmod d, rfl, rfl, by omega, by omega, by omega, by omega, by rw [Hg2.out, Hg.out], _, World.drewN_drewN _ _ _⟩, Hb.out⟩
def sideK (ps : List Pt) (x y : Int) (k : Nat) : Int := crossZ (stepP ps k).1 (stepP ps k).2 (x - (fromP ps k).1) (y - (fromP ps k).2)
def placeK (ps : List Pt) (x y : Int) : Nat → Int
  | 0 => 1
  | k + 1 => min (placeK ps x y k) (sgnZ (sideK ps x y k) 0)
def placeZ (ps : List Pt) (x y : Int) : Int := placeK ps x y ps.length
theorem sgnZ_bd (a b : Int) : -1 ≤ sgnZ a b ∧ sgnZ a b ≤ 1 := by unfold sgnZ; split <;> (try split) <;> omega
theorem placeK_bd (ps : List Pt) (x y : Int) : ∀ k, -1 ≤ placeK ps x y k ∧ placeK ps x y k ≤ 1 := by
  intro k
  induction k with
  | zero => simp [placeK]
  | succ k ih =>
    have := sgnZ_bd (sideK ps x y k) 0
    simp only [placeK]
    omega
theorem body_end2 {w W2 W3 : World} {t t2 : TypeId} {s2 g : Nat} {o x : Value} {us : List Value} (hE : Ext w W2) (hE3 : Ext W2 W3) (hM : VRow W2 g t [o]) (hU : VRow W2 w.heap.size t2 us) (hg : g = w.heap.size + 1) (h2 : w.heap.size + 2 < s2) (_ : s2 + 1 < W2.heap.size) :
    Held (fun j => (j < w.heap.size ∨ j = w.heap.size + 2) ∨ j = s2 ∨ j = s2 + 1) W2 (W3.setCell ⟨g, 0, none⟩ x) ∧ VRow (W3.setCell ⟨g, 0, none⟩ x) g t [x] ∧ VRow (W3.setCell ⟨g, 0, none⟩ x) w.heap.size t2 us ∧ Ext w (W3.setCell ⟨g, 0, none⟩ x) :=
  ⟨Held.trans (Held.ext hE3 (fun j hj => by omega)) (Held.set _ _ _ (fun j hj => by show j ≠ g; omega)), VRow.set (VRow.ext hM hE3) 0 x, VRow.setOther (VRow.ext hU hE3) (by show w.heap.size ≠ g; omega) _, Below.setCell (p := ⟨g, 0, none⟩) (Ext.trans hE hE3) (by show w.heap.size ≤ g; omega) _⟩
set_option maxRecDepth 100000 in
set_option maxHeartbeats 2000000 in
theorem place_c (v : Value) (ps : List Pt) (x y : Int) (w : World) (hv : Vecs w v ps) (hw : wideP ps) (hn : ps.length ≤ 1000) (hx : -10000 ≤ x ∧ x ≤ 10000) (hy : -10000 ≤ y ∧ y ≤ 10000) :
    Calls Try.prog 53 #[v, vecV x y] w fun e w' => e = .returned (.int .i64 (placeZ ps x y)) ∧ Ext w w' := by
  obtain ⟨a, cap, rfl, hl, hm, _⟩ := hv.at
  have HV := Lib.hid hv
  have HW := Lib.hid hw
  have HX := Lib.hid hx
  have HY := Lib.hid hy
  clear hv hw hx hy
  refine calls_marks Try.func53 rfl ?_
  simp only [Try.ntmps53, List.size_toArray, List.length_cons, List.length_nil, Nat.reduceAdd, Nat.reduceSub, Array.replicate_succ, Array.replicate_zero, List.push_toArray, List.append_toArray, List.nil_append, List.cons_append]
  go_wp2_with fail
  refine (edges_c a ps.length cap _).mono ?_
  rintro e w2 ⟨rfl, rfl⟩
  have hp1 := VRow.alloc (VRow.alloc (vrow_alloc w [.int .i64 x, .int .i64 y] 32) (.cells #[.int .i64 1] 3)) (.cells #[.slice a ps.length cap] 22)
  have hr1 := VRow.alloc (vrow_alloc (w.alloc (.cells #[.int .i64 x, .int .i64 y] 32)) [.int .i64 1] 3) (.cells #[.slice a ps.length cap] 22)
  have hb1 := vrow_alloc ((w.alloc (.cells #[.int .i64 x, .int .i64 y] 32)).alloc (.cells #[.int .i64 1] 3)) [.slice a ps.length cap] 22
  have hE := Ext.alloc (Ext.alloc (Ext.alloc (Ext.refl w) (.cells #[.int .i64 x, .int .i64 y] 32)) (.cells #[.int .i64 1] 3)) (.cells #[.slice a ps.length cap] 22)
  change VRow (((w.alloc (.cells #[.int .i64 x, .int .i64 y] 32)).alloc (.cells #[.int .i64 1] 3)).alloc (.cells #[.slice a ps.length cap] 22)) _ _ _ at hp1 hr1 hb1
  have hsz : (((w.alloc (.cells #[.int .i64 x, .int .i64 y] 32)).alloc (.cells #[.int .i64 1] 3)).alloc (.cells #[.slice a ps.length cap] 22)).heap.size = w.heap.size + 3 := by simp
  have hsb : ((w.alloc (.cells #[.int .i64 x, .int .i64 y] 32)).alloc (.cells #[.int .i64 1] 3)).heap.size = w.heap.size + 2 := by simp
  have hsc : (w.alloc (.cells #[.int .i64 x, .int .i64 y] 32)).heap.size = w.heap.size + 1 := by simp
  rw [hsb] at hb1
  rw [hsc] at hr1
  have HP := Lib.hid hp1
  have HR := Lib.hid hr1
  have HB := Lib.hid hb1
  have HE := Lib.hid hE
  clear hp1 hr1 hb1 hE
  go_wp2_with fail
  clear hsb hsc
  generalize ((w.alloc (.cells #[.int .i64 x, .int .i64 y] 32)).alloc (.cells #[.int .i64 1] 3)).alloc (.cells #[.slice a ps.length cap] 22) = w2 at *
  refine (wpIn_wide (n := 9)).1 ?_
  refine wpIn_range_c (gf := 83) (lb := #[.pointer (some ⟨w.heap.size + 1 + 1, 0, none⟩)]) rfl (enters_of Try.func83 (by kernel_rfl) rfl) ps.length (fun j => j < w.heap.size ∨ j = w.heap.size + 2) (fun k => #[.agg (edgeA ps k)]) (fun j hj => by omega) (fun _ => rfl)
    (edges_iter (w.heap.size + 2) (.slice a ps.length cap) ps _ w2 (fun W hH => ⟨VRow.cell (Held.vrow hH (.inr rfl) HB.out) (k := 0) rfl, HV.out.below (fun j hj => (hH.block j (.inl hj)).trans (HE.out.block j hj))⟩) (fun j hj => by omega) HW.out (by omega))
    (fun k W => VRow W (w.heap.size + 1) 3 [.int .i64 (placeK ps x y k)] ∧ VRow W w.heap.size 32 [.int .i64 x, .int .i64 y] ∧ Ext w W) (fun _ _ => False) ?_ (fun _ _ _ h => h.elim) ⟨HR.out, HP.out, HE.out⟩ ?round ?done (fun _ _ _ h => h.elim)
  · rintro k A B ⟨h1, h2, h3⟩ hb
    exact ⟨Keeps.vrow hb h1, Keeps.vrow hb h2, Keeps.below hb h3 (by omega)⟩
  case round =>
    rintro l k W K ⟨h1, h3, h2⟩ hk hlt hK
    simp only [edgeA]
    gi_wp2_with fail
    refine hK _ _ (fun W2 hB hlt2 => ?_) (Held.ext (Ext.alloc (Ext.refl W) _) (fun j hj => by omega))
    have hb1 := VRow.alloc h1 (.cells (edgeA ps k) 62)
    have hb3 := VRow.alloc h3 (.cells (edgeA ps k) 62)
    have hb2 := edge_row (ps := ps) (k := k) W
    have hE1 := Ext.alloc h2 (.cells (edgeA ps k) 62)
    have HM := Lib.hid (Keeps.vrow hB hb1)
    have HP2 := Lib.hid (Keeps.vrow hB hb3)
    have HN := Lib.hid (Keeps.vrow hB hb2)
    have HE2 := Lib.hid (Keeps.below hB hE1 (by omega))
    have HF := Lib.hid (step_fine HW.out hk)
    have hw1 := HW.out (fromP ps k) (by unfold fromP; rw [List.getD_eq_getElem?_getD, List.getElem?_eq_getElem hk]; exact List.getElem_mem _)
    have HF2 := Lib.hid (show fine x ∧ fine y ∧ fine (x - (fromP ps k).1) ∧ fine (y - (fromP ps k).2) by have h1 := HX.out; have h2 := HY.out; unfold fine; omega)
    clear hb1 hb2 hb3 hE1 hK hB hw1 h1 h3 h2
    have hpb := placeK_bd ps x y k
    have hsg := sgnZ_bd (sideK ps x y k) 0
    have hpk : placeK ps x y (k + 1) = min (placeK ps x y k) (sgnZ (sideK ps x y k) 0) := rfl
    generalize placeK ps x y (k + 1) = pk1 at *
    generalize placeK ps x y k = pk at *
    gi_wp2_with fail
    refine wpIn_region_stable_last (Open.inRound Open.wide l) [⟨[], none⟩, ⟨[], none⟩, ⟨[], none⟩, ⟨[(1, 11), (2, 12)], none⟩, ⟨[(3, 13)], none⟩, ⟨[(0, 10), (4, 14)], none⟩] (fun x y => Below x.heap.size x y) (MPat [MP.eq (.int .i64 pk), MP.eq (.agg #[.int .i64 (fromP ps k).1, .int .i64 (fromP ps k).2, .int .i64 (stepP ps k).1, .int .i64 (stepP ps k).2]), MP.eq (vecV x y), MP.eq (.int .i64 (sideK ps x y k)), MP.eq (.int .i64 (sgnZ (sideK ps x y k) 0)), MP.eq (.int .i64 pk1)]) rfl (by kernel_rfl) (fun _ _ _ h k => Ext.trans h k) (fun _ => Below.refl _ _) (fun x => (Below.refl x.heap.size x).drew) (MPat.mono _) (by kernel_rfl) (by kernel_rfl) (by kernel_rfl) (by kernel_rfl) ?obs ?rest
    case obs =>
      refine ⟨?_, ?_, ?_, ?_, ?_, ?_, trivial⟩
      · intro ev W5 hf _ _ hst hd
        have e5 : ev (.tmp 5) = .pointer (some ⟨w.heap.size + 1, 0, none⟩) := hf 5 (by kernel_rfl)
        have kk := VRow.ext HM.out hst
        have k0 := VRow.cell kk (k := 0) rfl
        refine st_value (v := .int .i64 pk) ?_ (Below.refl _ _) ?_
        · simp [execOp, go_sem, e5, k0]
        · exact rfl
      · intro ev W5 hf _ _ hst hd
        have e6 : ev (.tmp 6) = .pointer (some ⟨W.heap.size, 0, none⟩) := hf 6 (by kernel_rfl)
        have kk := VRow.ext HN.out hst
        have k0 := VRow.cell kk (k := 0) rfl
        have k1 := VRow.cell kk (k := 1) rfl
        have k2 := VRow.cell kk (k := 2) rfl
        have k3 := VRow.cell kk (k := 3) rfl
        refine st_value (v := .agg #[.int .i64 (fromP ps k).1, .int .i64 (fromP ps k).2, .int .i64 (stepP ps k).1, .int .i64 (stepP ps k).2]) ?_ (Below.refl _ _) ?_
        · simp [execOp, go_sem, e6, k0, k1, k2, k3]
        · exact rfl
      · intro ev W5 hf _ _ hst hd
        have e3 : ev (.tmp 3) = .pointer (some ⟨w.heap.size, 0, none⟩) := hf 3 (by kernel_rfl)
        have kk := VRow.ext HP2.out hst
        have k0 := VRow.cell kk (k := 0) rfl
        have k1 := VRow.cell kk (k := 1) rfl
        refine st_value (v := vecV x y) ?_ (Below.refl _ _) ?_
        · simp [execOp, go_sem, e3, k0, k1]
        · exact rfl
      · intro ev W5 hf _ hfn hst hd
        obtain ⟨d11, d12, _⟩ := hd
        have e11 : ev (.tmp 11) = .agg #[.int .i64 (fromP ps k).1, .int .i64 (fromP ps k).2, .int .i64 (stepP ps k).1, .int .i64 (stepP ps k).2] := d11
        have e12 : ev (.tmp 12) = vecV x y := d12
        refine st_call (f := 81) (args := #[.agg #[.int .i64 (fromP ps k).1, .int .i64 (fromP ps k).2, .int .i64 (stepP ps k).1, .int .i64 (stepP ps k).2], vecV x y]) (by simp [execOp, go_sem, hfn, e11, e12]) (side_c _ _ _ _ x y W5 HF.out.1 HF.out.2.1 HF.out.2.2.2.2.1 HF.out.2.2.2.2.2 HF2.out.1 HF2.out.2.1 HF2.out.2.2.1 HF2.out.2.2.2) (fun _ _ => rfl)
      · intro ev W5 hf hcst hfn hst hd
        obtain ⟨d13, _⟩ := hd
        have e13 : ev (.tmp 13) = .int .i64 (sideK ps x y k) := d13
        refine st_call (f := 80) (args := #[.int .i64 (sideK ps x y k), .int .i64 0]) (by simp [execOp, go_sem, hfn, e13, hcst]) (calls_same (compare_c _ 0 W5)) (fun _ _ => rfl)
      · intro ev W5 hf _ _ hst hd
        obtain ⟨d10, d14, _⟩ := hd
        have e10 : ev (.tmp 10) = .int .i64 pk := d10
        have e14 : ev (.tmp 14) = .int .i64 (sgnZ (sideK ps x y k) 0) := d14
        refine st_value (v := .int .i64 pk1) ?_ (Below.refl _ _) ?_
        · (obtain ⟨sg, hsg2⟩ : ∃ sg, sg = (sgnZ (sideK ps x y k) 0) := ⟨_, rfl⟩; rw [← hsg2] at e14 hpk hsg; simp [go_sem, e10, e14]; rw [hpk]; split <;> omega)
        · exact rfl
    case rest =>
      intro vs w3 hl hst hg
      have hx0 : ∀ u, vs[0]? = some u → u = .int .i64 pk := fun u hu => hg 0 u hu
      have hx1 : ∀ u, vs[1]? = some u → u = .agg #[.int .i64 (fromP ps k).1, .int .i64 (fromP ps k).2, .int .i64 (stepP ps k).1, .int .i64 (stepP ps k).2] := fun u hu => hg 1 u hu
      have hx2 : ∀ u, vs[2]? = some u → u = vecV x y := fun u hu => hg 2 u hu
      have hx3 : ∀ u, vs[3]? = some u → u = .int .i64 (sideK ps x y k) := fun u hu => hg 3 u hu
      have hx4 : ∀ u, vs[4]? = some u → u = .int .i64 (sgnZ (sideK ps x y k) 0) := fun u hu => hg 4 u hu
      have hx5 : ∀ u, vs[5]? = some u → u = .int .i64 pk1 := fun u hu => hg 5 u hu
      have HE3 := Lib.hid hst
      clear hg hst
      obtain ⟨x0, vs0, rfl, hl0⟩ := len_succ hl
      obtain ⟨x1, vs1, rfl, hl1⟩ := len_succ hl0
      obtain ⟨x2, vs2, rfl, hl2⟩ := len_succ hl1
      obtain ⟨x3, vs3, rfl, hl3⟩ := len_succ hl2
      obtain ⟨x4, vs4, rfl, hl4⟩ := len_succ hl3
      obtain ⟨x5, vs5, rfl, hl5⟩ := len_succ hl4
      have hnil : vs5 = [] := List.length_eq_zero_iff.1 hl5
      subst hnil
      obtain rfl : x0 = .int .i64 pk := hx0 _ rfl
      obtain rfl : x1 = .agg #[.int .i64 (fromP ps k).1, .int .i64 (fromP ps k).2, .int .i64 (stepP ps k).1, .int .i64 (stepP ps k).2] := hx1 _ rfl
      obtain rfl : x2 = vecV x y := hx2 _ rfl
      obtain rfl : x3 = .int .i64 (sideK ps x y k) := hx3 _ rfl
      obtain rfl : x4 = .int .i64 (sgnZ (sideK ps x y k) 0) := hx4 _ rfl
      obtain rfl : x5 = .int .i64 pk1 := hx5 _ rfl
      clear hx0 hx1 hx2 hx3 hx4 hx5
      simp only [putAll, Act.put, List.dropLast, List.setIfInBounds_toArray, List.set_cons_zero, List.set_cons_succ]
      have m0 := VRow.cell (VRow.ext HM.out HE3.out) (k := 0) rfl
      have f0 := VRow.frozen (VRow.ext HM.out HE3.out) 0 none
      gi_wp2_with fail
      exact body_end2 HE2.out HE3.out HM.out HP2.out rfl (by omega) (by omega)
  case done =>
    rintro W ⟨h1, _, h2⟩ hD
    have m0 := VRow.cell h1 (k := 0) rfl
    dsimp only
    go_wp2_with fail
    exact marks_end hD h2 (by omega) (fun _ => results_tmp rfl _ _ _) rfl
end Go.Proofs.Ytbdppephmlkbaaa
