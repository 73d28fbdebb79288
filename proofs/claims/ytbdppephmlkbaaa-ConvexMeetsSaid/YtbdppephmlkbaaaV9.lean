import Derived.Test.YtbdppephmlkbaaaV8
namespace Go.Proofs.Ytbdppephmlkbaaa
set_option maxRecDepth 100000
open Go.RowKit Go.Shelf
attribute [local go_sem] Oper.semAt_some
def gcdK (ps : List Pt) (k : Nat) : Int := (Int.gcd (stepP ps k).1 (stepP ps k).2 : Nat)
def ringK (ps : List Pt) : Nat → Int
  | 0 => 0
  | k + 1 => ringK ps k + gcdK ps k
def ringZ (ps : List Pt) : Int := ringK ps ps.length
theorem gcdK_bd {ps : List Pt} (h : wideP ps) {k : Nat} (hk : k < ps.length) : 0 ≤ gcdK ps k ∧ gcdK ps k ≤ 100000 := by
  obtain ⟨_, _, _, _, h5, h6⟩ := step_fine h hk
  unfold gcdK
  unfold fine at h5 h6
  by_cases h0 : (stepP ps k).1 = 0
  · rw [h0, Int.gcd_zero_left]; omega
  · have := Nat.le_of_dvd (show 0 < (stepP ps k).1.natAbs by omega) (Nat.gcd_dvd_left (stepP ps k).1.natAbs (stepP ps k).2.natAbs)
    unfold Int.gcd
    omega
theorem ringK_bd {ps : List Pt} (h : wideP ps) : ∀ (k : Nat), k ≤ ps.length → 0 ≤ ringK ps k ∧ ringK ps k ≤ 100000 * (k : Int) := by
  intro k
  induction k with
  | zero => intro _; simp [ringK]
  | succ k ih =>
    intro hk
    have h1 := ih (by omega)
    have h2 := gcdK_bd h (show k < ps.length by omega)
    simp only [ringK]
    omega
theorem tdiv2 (x : Int) (h1 : -1000000000000 ≤ x) (h2 : x ≤ 1000000000000) : -1000000000000 ≤ x.tdiv 2 ∧ x.tdiv 2 ≤ 1000000000000 := by
  have h3 := Int.natAbs_tdiv x 2
  change _ = x.natAbs / 2 at h3
  generalize x.tdiv 2 = zq at *
  omega
theorem grow_at {A B : World} {o : Obj} {j : Nat} (e : A.heap[j]? = some o) (h : Ext A B) : B.heap[j]? = some o := (h.block _ (Array.getElem?_eq_some_iff.1 e).1).trans e
def three (a b c : Value) : Ending := .returned (.tuple #[a, b, c])
def pointsR (ps : List Pt) : Ending := if validB ps = true then three (.int .i64 ((areaZ ps - ringZ ps + 2).tdiv 2)) (.int .i64 (ringZ ps)) (.int .i64 0) else three (.int .i64 0) (.int .i64 0) (.int .i64 2)
set_option maxRecDepth 100000 in
set_option maxHeartbeats 2000000 in
theorem Points_c (v : Value) (ps : List Pt) (w0 : World) (hv : Vecs w0 v ps) :
    Calls Try.prog 22 #[v] w0 fun e w' => e = pointsR ps ∧ Ext w0 w' := by
  obtain ⟨a, cap, rfl, hl, hm, _⟩ := hv.at
  have HV0 := Lib.hid hv
  clear hv
  cases hf : validB ps with
  | false =>
    have HR := Lib.hid (show pointsR ps = three (.int .i64 0) (.int .i64 0) (.int .i64 2) by simp [pointsR, hf])
    generalize pointsR ps = R at *
    have Hf := Lib.hid hf
    clear hf
    refine calls_marks Try.func22 rfl ?_
    simp only [Try.ntmps22, List.size_toArray, List.length_cons, List.length_nil, Nat.reduceAdd, Nat.reduceSub, Array.replicate_succ, Array.replicate_zero, List.push_toArray, List.append_toArray, List.nil_append, List.cons_append]
    go_wp2_with fail
    refine (valid_c _ ps _ HV0.out).mono ?_
    rintro e w2 ⟨rfl, hE⟩
    rw [Hf.out]
    go_wp2
    exact ⟨_, results_tmp3 (t := 2) (u := 3) (v := 4) rfl _ _ _, HR.out.symm, hE⟩
  | true =>
    have HR := Lib.hid (show pointsR ps = three (.int .i64 ((areaZ ps - ringZ ps + 2).tdiv 2)) (.int .i64 (ringZ ps)) (.int .i64 0) by simp [pointsR, hf])
    generalize pointsR ps = R at *
    have Hf := Lib.hid hf
    clear hf
    refine calls_marks Try.func22 rfl ?_
    simp only [Try.ntmps22, List.size_toArray, List.length_cons, List.length_nil, Nat.reduceAdd, Nat.reduceSub, Array.replicate_succ, Array.replicate_zero, List.push_toArray, List.append_toArray, List.nil_append, List.cons_append]
    go_wp2_with fail
    refine (valid_c _ ps _ HV0.out).mono ?_
    rintro e w ⟨rfl, hE0⟩
    rw [Hf.out]
    have HV := Lib.hid (HV0.out.ext hE0)
    have HE0 := Lib.hid hE0
    have HW := Lib.hid (valid_wide Hf.out)
    have hn : ps.length ≤ 32 := (valid_near Hf.out).2.2
    clear hE0 HV0
    go_wp2_with fail
    have hr0 := vrow_alloc w [.int .i64 0] 3
    refine (edges_c a ps.length cap _).mono ?_
    rintro e w2 ⟨rfl, rfl⟩
    have hr1 := VRow.alloc hr0 (.cells #[.slice a ps.length cap] 22)
    have hb1 := vrow_alloc (w.alloc (.cells #[.int .i64 0] 3)) [.slice a ps.length cap] 22
    change VRow ((w.alloc (.cells #[.int .i64 0] 3)).alloc (.cells #[.slice a ps.length cap] 22)) _ _ _ at hr1 hb1
    have hE := Ext.alloc (Ext.alloc (Ext.refl w) (.cells #[.int .i64 0] 3)) (.cells #[.slice a ps.length cap] 22)
    have hsz : ((w.alloc (.cells #[.int .i64 0] 3)).alloc (.cells #[.slice a ps.length cap] 22)).heap.size = w.heap.size + 2 := by simp
    have hsb : (w.alloc (.cells #[.int .i64 0] 3)).heap.size = w.heap.size + 1 := by simp
    rw [hsb] at hb1
    have HR1 := Lib.hid hr1
    have HB := Lib.hid hb1
    have HE := Lib.hid hE
    clear hr0 hr1 hb1 hE
    go_wp2_with fail
    clear hsb
    generalize (w.alloc (.cells #[.int .i64 0] 3)).alloc (.cells #[.slice a ps.length cap] 22) = w2 at *
    refine (wpIn_wide (n := 9)).1 ?_
    refine wpIn_range_c (gf := 83) (lb := #[.pointer (some ⟨w.heap.size + 1, 0, none⟩)]) rfl (enters_of Try.func83 (by kernel_rfl) rfl) ps.length (fun j => j < w.heap.size ∨ j = w.heap.size + 1) (fun k => #[.agg (edgeA ps k)]) (fun j hj => by omega) (fun _ => rfl)
      (edges_iter (w.heap.size + 1) (.slice a ps.length cap) ps _ w2 (fun W hH => ⟨VRow.cell (Held.vrow hH (.inr rfl) HB.out) (k := 0) rfl, HV.out.below (fun j hj => (hH.block j (.inl hj)).trans (HE.out.block j hj))⟩) (fun j hj => by omega) HW.out (by omega))
      (fun k W => VRow W w.heap.size 3 [.int .i64 (ringK ps k)] ∧ Ext w W) (fun _ _ => False) ?_ (fun _ _ _ h => h.elim) ⟨HR1.out, HE.out⟩ ?round ?done (fun _ _ _ h => h.elim)
    · rintro k A B ⟨h1, h2⟩ hb
      exact ⟨Keeps.vrow hb h1, Keeps.below hb h2 (by omega)⟩
    case round =>
      rintro l k W K ⟨h1, h2⟩ hk hlt hK
      simp only [edgeA]
      gi_wp2_with fail
      refine hK _ _ (fun W2 hB hlt2 => ?_) (Held.ext (Ext.alloc (Ext.refl W) _) (fun j hj => by omega))
      have hb1 := VRow.alloc h1 (.cells (edgeA ps k) 62)
      have hb2 := edge_row (ps := ps) (k := k) W
      have hE1 := Ext.alloc h2 (.cells (edgeA ps k) 62)
      have HM := Lib.hid (Keeps.vrow hB hb1)
      have HN := Lib.hid (Keeps.vrow hB hb2)
      have HE2 := Lib.hid (Keeps.below hB hE1 (by omega))
      have HF := Lib.hid (step_fine HW.out hk)
      have hA := ringK_bd HW.out k (by omega)
      have hC := gcdK_bd HW.out hk
      have HAC := Lib.hid (show IntKind.i64.wrap (ringK ps k + gcdK ps k) = ringK ps k + gcdK ps k from IntWalk.i64_in _ (by omega))
      clear hb1 hb2 hE1 hK hB hA hC
      gi_wp2_with fail
      refine wpIn_region_stable_last (Open.inRound Open.wide l) [⟨[], none⟩, ⟨[], none⟩, ⟨[(1, 14)], none⟩, ⟨[(2, 15)], none⟩, ⟨[], none⟩, ⟨[(4, 17)], none⟩, ⟨[(5, 18)], none⟩, ⟨[(3, 16), (6, 19)], none⟩, ⟨[(0, 13), (7, 20)], none⟩] (fun x y => Below x.heap.size x y) (MPat [MP.eq (.int .i64 (ringK ps k)), MP.eq (.pointer (some ⟨W.heap.size, 2, none⟩)), MP.eq (.pointer (some ⟨W.heap.size, 2, none⟩)), MP.eq (.int .i64 (stepP ps k).1), MP.eq (.pointer (some ⟨W.heap.size, 2, none⟩)), MP.eq (.pointer (some ⟨W.heap.size, 3, none⟩)), MP.eq (.int .i64 (stepP ps k).2), MP.eq (.int .i64 (gcdK ps k)), MP.eq (.int .i64 (ringK ps k + gcdK ps k))]) rfl (by kernel_rfl) (fun _ _ _ h k => Ext.trans h k) (fun _ => Below.refl _ _) (fun x => (Below.refl x.heap.size x).drew) (MPat.mono _) (by kernel_rfl) (by kernel_rfl) (by kernel_rfl) (by kernel_rfl) ?obs ?rest
      case obs =>
        refine ⟨?_, ?_, ?_, ?_, ?_, ?_, ?_, ?_, ?_, trivial⟩
        · intro ev W5 hf _ _ hst hd
          have e5 : ev (.tmp 5) = .pointer (some ⟨w.heap.size, 0, none⟩) := hf 5 (by kernel_rfl)
          have kk := VRow.ext HM.out hst
          have k0 := VRow.cell kk (k := 0) rfl
          refine st_value (v := .int .i64 (ringK ps k)) ?_ (Below.refl _ _) ?_
          · simp [execOp, go_sem, e5, k0]
          · exact rfl
        · intro ev W5 hf _ _ hst hd
          have e6 : ev (.tmp 6) = .pointer (some ⟨W.heap.size, 0, none⟩) := hf 6 (by kernel_rfl)
          refine st_value (v := .pointer (some ⟨W.heap.size, 2, none⟩)) ?_ (Below.refl _ _) ?_
          · simp [execOp, go_sem, e6]
          · exact rfl
        · intro ev W5 hf _ _ hst hd
          obtain ⟨d14, _⟩ := hd
          have e14 : ev (.tmp 14) = .pointer (some ⟨W.heap.size, 2, none⟩) := d14
          refine st_value (v := .pointer (some ⟨W.heap.size, 2, none⟩)) ?_ (Below.refl _ _) ?_
          · simp [execOp, go_sem, e14]
          · exact rfl
        · intro ev W5 hf _ _ hst hd
          obtain ⟨d15, _⟩ := hd
          have e15 : ev (.tmp 15) = .pointer (some ⟨W.heap.size, 2, none⟩) := d15
          have kk := VRow.ext HN.out hst
          have k2 := VRow.cell kk (k := 2) rfl
          refine st_value (v := .int .i64 (stepP ps k).1) ?_ (Below.refl _ _) ?_
          · simp [execOp, go_sem, e15, k2]
          · exact rfl
        · intro ev W5 hf _ _ hst hd
          have e6 : ev (.tmp 6) = .pointer (some ⟨W.heap.size, 0, none⟩) := hf 6 (by kernel_rfl)
          refine st_value (v := .pointer (some ⟨W.heap.size, 2, none⟩)) ?_ (Below.refl _ _) ?_
          · simp [execOp, go_sem, e6]
          · exact rfl
        · intro ev W5 hf _ _ hst hd
          obtain ⟨d17, _⟩ := hd
          have e17 : ev (.tmp 17) = .pointer (some ⟨W.heap.size, 2, none⟩) := d17
          refine st_value (v := .pointer (some ⟨W.heap.size, 3, none⟩)) ?_ (Below.refl _ _) ?_
          · simp [execOp, go_sem, e17]
          · exact rfl
        · intro ev W5 hf _ _ hst hd
          obtain ⟨d18, _⟩ := hd
          have e18 : ev (.tmp 18) = .pointer (some ⟨W.heap.size, 3, none⟩) := d18
          have kk := VRow.ext HN.out hst
          have k3 := VRow.cell kk (k := 3) rfl
          refine st_value (v := .int .i64 (stepP ps k).2) ?_ (Below.refl _ _) ?_
          · simp [execOp, go_sem, e18, k3]
          · exact rfl
        · intro ev W5 hf _ hfn hst hd
          obtain ⟨d16, d19, _⟩ := hd
          have e16 : ev (.tmp 16) = .int .i64 (stepP ps k).1 := d16
          have e19 : ev (.tmp 19) = .int .i64 (stepP ps k).2 := d19
          refine st_call (f := 57) (args := #[.int .i64 (stepP ps k).1, .int .i64 (stepP ps k).2]) (by simp [execOp, go_sem, hfn, e16, e19]) (divisor_c _ _ W5 HF.out.2.2.2.2.1 HF.out.2.2.2.2.2) (fun _ _ => rfl)
        · intro ev W5 hf _ _ hst hd
          obtain ⟨d13, d20, _⟩ := hd
          have e13 : ev (.tmp 13) = .int .i64 (ringK ps k) := d13
          have e20 : ev (.tmp 20) = .int .i64 (gcdK ps k) := d20
          refine st_value (v := .int .i64 (ringK ps k + gcdK ps k)) ?_ (Below.refl _ _) ?_
          · simp [execOp, go_sem, e13, e20, HAC.out]
          · exact rfl
      case rest =>
        intro vs w3 hl hst hg
        have hx0 : ∀ u, vs[0]? = some u → u = .int .i64 (ringK ps k) := fun u hu => hg 0 u hu
        have hx1 : ∀ u, vs[1]? = some u → u = .pointer (some ⟨W.heap.size, 2, none⟩) := fun u hu => hg 1 u hu
        have hx2 : ∀ u, vs[2]? = some u → u = .pointer (some ⟨W.heap.size, 2, none⟩) := fun u hu => hg 2 u hu
        have hx3 : ∀ u, vs[3]? = some u → u = .int .i64 (stepP ps k).1 := fun u hu => hg 3 u hu
        have hx4 : ∀ u, vs[4]? = some u → u = .pointer (some ⟨W.heap.size, 2, none⟩) := fun u hu => hg 4 u hu
        have hx5 : ∀ u, vs[5]? = some u → u = .pointer (some ⟨W.heap.size, 3, none⟩) := fun u hu => hg 5 u hu
        have hx6 : ∀ u, vs[6]? = some u → u = .int .i64 (stepP ps k).2 := fun u hu => hg 6 u hu
        have hx7 : ∀ u, vs[7]? = some u → u = .int .i64 (gcdK ps k) := fun u hu => hg 7 u hu
        have hx8 : ∀ u, vs[8]? = some u → u = .int .i64 (ringK ps k + gcdK ps k) := fun u hu => hg 8 u hu
        have HE3 := Lib.hid hst
        clear hg hst
        obtain ⟨x0, vs0, rfl, hl0⟩ := len_succ hl
        obtain ⟨x1, vs1, rfl, hl1⟩ := len_succ hl0
        obtain ⟨x2, vs2, rfl, hl2⟩ := len_succ hl1
        obtain ⟨x3, vs3, rfl, hl3⟩ := len_succ hl2
        obtain ⟨x4, vs4, rfl, hl4⟩ := len_succ hl3
        obtain ⟨x5, vs5, rfl, hl5⟩ := len_succ hl4
        obtain ⟨x6, vs6, rfl, hl6⟩ := len_succ hl5
        obtain ⟨x7, vs7, rfl, hl7⟩ := len_succ hl6
        obtain ⟨x8, vs8, rfl, hl8⟩ := len_succ hl7
        have hnil : vs8 = [] := List.length_eq_zero_iff.1 hl8
        subst hnil
        obtain rfl : x0 = .int .i64 (ringK ps k) := hx0 _ rfl
        obtain rfl : x1 = .pointer (some ⟨W.heap.size, 2, none⟩) := hx1 _ rfl
        obtain rfl : x2 = .pointer (some ⟨W.heap.size, 2, none⟩) := hx2 _ rfl
        obtain rfl : x3 = .int .i64 (stepP ps k).1 := hx3 _ rfl
        obtain rfl : x4 = .pointer (some ⟨W.heap.size, 2, none⟩) := hx4 _ rfl
        obtain rfl : x5 = .pointer (some ⟨W.heap.size, 3, none⟩) := hx5 _ rfl
        obtain rfl : x6 = .int .i64 (stepP ps k).2 := hx6 _ rfl
        obtain rfl : x7 = .int .i64 (gcdK ps k) := hx7 _ rfl
        obtain rfl : x8 = .int .i64 (ringK ps k + gcdK ps k) := hx8 _ rfl
        clear hx0 hx1 hx2 hx3 hx4 hx5 hx6 hx7 hx8
        simp only [putAll, Act.put, List.dropLast, List.setIfInBounds_toArray, List.set_cons_zero, List.set_cons_succ]
        have m0 := VRow.cell (VRow.ext HM.out HE3.out) (k := 0) rfl
        have f0 := VRow.frozen (VRow.ext HM.out HE3.out) 0 none
        gi_wp2_with fail
        exact body_end HE2.out HE3.out HM.out (by omega) (by omega)
    case done =>
      rintro W ⟨h1, h2⟩ hD
      have hA := areaK_bd HW.out ps.length (Nat.le_refl _)
      have hC := ringK_bd HW.out ps.length (Nat.le_refl _)
      have HM := Lib.hid h1
      have HE2 := Lib.hid h2
      have HD := Lib.hid hD
      clear h1 h2 hD
      change _ ≤ areaZ ps ∧ areaZ ps ≤ _ at hA
      change _ ≤ ringZ ps ∧ ringZ ps ≤ _ at hC
      change RowKit.Hid (VRow W w.heap.size 3 [.int .i64 (ringZ ps)]) at HM
      have HAA := Lib.hid (show areaZ ps = areaZ ps from rfl)
      have HRR := Lib.hid (show ringZ ps = ringZ ps from rfl)
      generalize hza : areaZ ps = za at *
      generalize ringZ ps = zr at *
      have Hza := Lib.hid hza
      clear hza HAA HRR
      have W1 := Lib.hid (show IntKind.i64.wrap (za - zr) = za - zr from IntWalk.i64_in _ (by omega))
      have W2 := Lib.hid (show IntKind.i64.wrap (za - zr + 2) = za - zr + 2 from IntWalk.i64_in _ (by omega))
      have W3 := Lib.hid (show IntKind.i64.wrap ((za - zr + 2).tdiv 2) = (za - zr + 2).tdiv 2 from IntWalk.i64_in _ (by
        have := tdiv2 (za - zr + 2) (by omega) (by omega)
        omega))
      clear hA hC
      dsimp only
      go_wp2_with fail
      refine wp_region_stable [⟨[], none⟩, ⟨[(0, 22)], none⟩, ⟨[], none⟩, ⟨[(1, 23), (2, 24)], none⟩, ⟨[(3, 25)], none⟩, ⟨[(4, 26)], none⟩, ⟨[], none⟩, ⟨[(5, 27)], none⟩, ⟨[(6, 28)], none⟩, ⟨[], none⟩] (fun x y => Below x.heap.size x y) (MPat [MP.eq (.slice a ps.length cap), MP.eq (.int .i64 za), MP.eq (.int .i64 zr), MP.eq (.int .i64 (za - zr)), MP.eq (.int .i64 (za - zr + 2)), MP.eq (.int .i64 ((za - zr + 2).tdiv 2)), MP.eq (.int .i64 zr), MP.eq (.int .i64 ((za - zr + 2).tdiv 2)), MP.eq (.int .i64 zr), MP.eq (.int .i64 0)]) (by kernel_rfl) (fun _ _ _ h k => Ext.trans h k) (fun _ => Below.refl _ _) (fun x => (Below.refl x.heap.size x).drew) (MPat.mono _) (by kernel_rfl) ?obs ?rest
      case obs =>
        refine ⟨?_, ?_, ?_, ?_, ?_, ?_, ?_, ?_, ?_, ?_, trivial⟩
        · intro ev W5 hf _ _ hst hd
          have e0 : ev (.tmp 0) = .slice a ps.length cap := hf 0 (by kernel_rfl)
          refine st_value (v := .slice a ps.length cap) ?_ (Below.refl _ _) ?_
          · simp [execOp, go_sem, e0]
          · exact rfl
        · intro ev W5 hf _ hfn hst hd
          obtain ⟨d22, _⟩ := hd
          have e22 : ev (.tmp 22) = .slice a ps.length cap := d22
          refine st_call (f := 51) (args := #[.slice a ps.length cap]) (by simp [execOp, go_sem, hfn, e22]) (by rw [← Hza.out]; exact area_c _ ps W5 (HV.out.ext (Ext.trans HE2.out hst)) HW.out (by omega)) (fun _ _ => rfl)
        · intro ev W5 hf _ _ hst hd
          have e5 : ev (.tmp 5) = .pointer (some ⟨w.heap.size, 0, none⟩) := hf 5 (by kernel_rfl)
          have kk := VRow.ext HM.out hst
          have k0 := VRow.cell kk (k := 0) rfl
          refine st_value (v := .int .i64 zr) ?_ (Below.refl _ _) ?_
          · simp [execOp, go_sem, e5, k0]
          · exact rfl
        · intro ev W5 hf _ _ hst hd
          obtain ⟨d23, d24, _⟩ := hd
          have e23 : ev (.tmp 23) = .int .i64 za := d23
          have e24 : ev (.tmp 24) = .int .i64 zr := d24
          refine st_value (v := .int .i64 (za - zr)) ?_ (Below.refl _ _) ?_
          · simp [execOp, go_sem, e23, e24, W1.out]
          · exact rfl
        · intro ev W5 hf hcst _ hst hd
          obtain ⟨d25, _⟩ := hd
          have e25 : ev (.tmp 25) = .int .i64 (za - zr) := d25
          refine st_value (v := .int .i64 (za - zr + 2)) ?_ (Below.refl _ _) ?_
          · simp [execOp, go_sem, e25, hcst, W2.out]
          · exact rfl
        · intro ev W5 hf hcst _ hst hd
          obtain ⟨d26, _⟩ := hd
          have e26 : ev (.tmp 26) = .int .i64 (za - zr + 2) := d26
          refine st_value (v := .int .i64 ((za - zr + 2).tdiv 2)) ?_ (Below.refl _ _) ?_
          · simp [execOp, go_sem, e26, hcst, W3.out]
          · exact rfl
        · intro ev W5 hf _ _ hst hd
          have e5 : ev (.tmp 5) = .pointer (some ⟨w.heap.size, 0, none⟩) := hf 5 (by kernel_rfl)
          have kk := VRow.ext HM.out hst
          have k0 := VRow.cell kk (k := 0) rfl
          refine st_value (v := .int .i64 zr) ?_ (Below.refl _ _) ?_
          · simp [execOp, go_sem, e5, k0]
          · exact rfl
        · intro ev W5 hf _ _ hst hd
          obtain ⟨d27, _⟩ := hd
          have e27 : ev (.tmp 27) = .int .i64 ((za - zr + 2).tdiv 2) := d27
          refine st_value (v := .int .i64 ((za - zr + 2).tdiv 2)) ?_ (Below.refl _ _) ?_
          · simp [execOp, go_sem, e27]
          · exact rfl
        · intro ev W5 hf _ _ hst hd
          obtain ⟨d28, _⟩ := hd
          have e28 : ev (.tmp 28) = .int .i64 zr := d28
          refine st_value (v := .int .i64 zr) ?_ (Below.refl _ _) ?_
          · simp [execOp, go_sem, e28]
          · exact rfl
        · intro ev W5 hf hcst _ hst hd
          refine st_value (v := .int .i64 0) ?_ (Below.refl _ _) ?_
          · simp [execOp, go_sem, hcst]
          · exact rfl
      case rest =>
        intro vs w3 hl hst hg
        have hx0 : ∀ u, vs[0]? = some u → u = .slice a ps.length cap := fun u hu => hg 0 u hu
        have hx1 : ∀ u, vs[1]? = some u → u = .int .i64 za := fun u hu => hg 1 u hu
        have hx2 : ∀ u, vs[2]? = some u → u = .int .i64 zr := fun u hu => hg 2 u hu
        have hx3 : ∀ u, vs[3]? = some u → u = .int .i64 (za - zr) := fun u hu => hg 3 u hu
        have hx4 : ∀ u, vs[4]? = some u → u = .int .i64 (za - zr + 2) := fun u hu => hg 4 u hu
        have hx5 : ∀ u, vs[5]? = some u → u = .int .i64 ((za - zr + 2).tdiv 2) := fun u hu => hg 5 u hu
        have hx6 : ∀ u, vs[6]? = some u → u = .int .i64 zr := fun u hu => hg 6 u hu
        have hx7 : ∀ u, vs[7]? = some u → u = .int .i64 ((za - zr + 2).tdiv 2) := fun u hu => hg 7 u hu
        have hx8 : ∀ u, vs[8]? = some u → u = .int .i64 zr := fun u hu => hg 8 u hu
        have hx9 : ∀ u, vs[9]? = some u → u = .int .i64 0 := fun u hu => hg 9 u hu
        have HE3 := Lib.hid hst
        clear hg hst
        obtain ⟨x0, vs0, rfl, hl0⟩ := len_succ hl
        obtain ⟨x1, vs1, rfl, hl1⟩ := len_succ hl0
        obtain ⟨x2, vs2, rfl, hl2⟩ := len_succ hl1
        obtain ⟨x3, vs3, rfl, hl3⟩ := len_succ hl2
        obtain ⟨x4, vs4, rfl, hl4⟩ := len_succ hl3
        obtain ⟨x5, vs5, rfl, hl5⟩ := len_succ hl4
        obtain ⟨x6, vs6, rfl, hl6⟩ := len_succ hl5
        obtain ⟨x7, vs7, rfl, hl7⟩ := len_succ hl6
        obtain ⟨x8, vs8, rfl, hl8⟩ := len_succ hl7
        obtain ⟨x9, vs9, rfl, hl9⟩ := len_succ hl8
        have hnil : vs9 = [] := List.length_eq_zero_iff.1 hl9
        subst hnil
        obtain rfl : x0 = .slice a ps.length cap := hx0 _ rfl
        obtain rfl : x1 = .int .i64 za := hx1 _ rfl
        obtain rfl : x2 = .int .i64 zr := hx2 _ rfl
        obtain rfl : x3 = .int .i64 (za - zr) := hx3 _ rfl
        obtain rfl : x4 = .int .i64 (za - zr + 2) := hx4 _ rfl
        obtain rfl : x5 = .int .i64 ((za - zr + 2).tdiv 2) := hx5 _ rfl
        obtain rfl : x6 = .int .i64 zr := hx6 _ rfl
        obtain rfl : x7 = .int .i64 ((za - zr + 2).tdiv 2) := hx7 _ rfl
        obtain rfl : x8 = .int .i64 zr := hx8 _ rfl
        obtain rfl : x9 = .int .i64 0 := hx9 _ rfl
        clear hx0 hx1 hx2 hx3 hx4 hx5 hx6 hx7 hx8 hx9
        simp only [putAll, Act.put, List.setIfInBounds_toArray, List.set_cons_zero, List.set_cons_succ]
        go_wp2_with fail
        refine ⟨by simp, .inl ⟨_, _, rfl, run_takeDeferred (grow_at HD.out HE3.out), _, results_tmp3 (t := 2) (u := 3) (v := 4) rfl _ _ _, HR.out.symm, ?_⟩⟩
        exact Ext.trans HE0.out (Below.trans (Ext.trans HE2.out HE3.out) ⟨rfl, rfl, rfl, by simp, fun j hj => World.putObj_heap_other (by omega)⟩)
end Go.Proofs.Ytbdppephmlkbaaa
