import Derived.Test.YtnpebfchojalcaaV13
import Derived.Laws.StructEq
namespace Go.Proofs.Ytnpebfchojalcaa
open Go.RowKit Go.Shelf
def overlapB (ps qs : List Pt) : Bool := ((List.range (ps.length + qs.length)).find? (sepAt ps qs)).isNone
def overlapR (ps qs : List Pt) : Ending := if validB ps = true ∧ validB qs = true then two (.bool (overlapB ps qs)) (.int .i64 0) else two (.bool false) (.int .i64 2)
set_option maxHeartbeats 400000 in
theorem Overlap_c (u v : Value) (ps qs : List Pt) (w : World) (hu : Vecs w u ps) (hv : Vecs w v qs) :
    Calls Try.prog 36 #[u, v] w fun e w' => e = overlapR ps qs ∧ Ext w w' := by
  obtain ⟨a, cap, rfl, hl, hm, _⟩ := hu.at
  obtain ⟨a2, cap2, rfl, hl2, hm2, _⟩ := hv.at
  have HU := Lib.hid hu
  have HV := Lib.hid hv
  clear hu hv
  obtain ⟨x, y, er, ov, h1, h2, h3⟩ : ∃ (x y er : Int) (ov : Bool), sepR ps qs = two (vecV x y) (.int .i64 er) ∧ overlapR ps qs = two (.bool ov) (.int .i64 (if er = 2 then 2 else 0)) ∧ ((er = 2 ∧ ov = false) ∨ (er ≠ 2 ∧ ov = decide (er = 10))) := by
    unfold sepR overlapR overlapB
    by_cases hb : validB ps = true ∧ validB qs = true
    · rw [if_pos hb, if_pos hb]
      cases hfd : (List.range (ps.length + qs.length)).find? (sepAt ps qs) with
      | none => exact ⟨0, 0, 10, true, rfl, rfl, .inr ⟨by decide, rfl⟩⟩
      | some k => exact ⟨_, _, 0, false, rfl, rfl, .inr ⟨by decide, rfl⟩⟩
    · rw [if_neg hb, if_neg hb]
      exact ⟨0, 0, 2, false, rfl, rfl, .inl ⟨rfl, rfl⟩⟩
  have H1 := Lib.hid h1
  have H2 := Lib.hid h2
  clear h1 h2
  generalize overlapR ps qs = R at *
  have HX := Lib.hid (show Calls Try.prog 81 #[.slice a ps.length cap, .slice a2 qs.length cap2] w fun e w' => e = two (vecV x y) (.int .i64 er) ∧ Ext w w' by rw [← H1.out]; exact Separate_c _ _ ps qs w HU.out HV.out)
  by_cases h4 : er = 2
  · subst h4
    obtain rfl : ov = false := by rcases h3 with h | h; exact h.2; exact absurd rfl h.1
    clear h3
    go_enter Try.func36, Try.ntmps36
    go_wp2_with fail
    refine HX.out.mono ?_
    rintro e w2 ⟨rfl, hE⟩
    simp only [two]
    have HE := Lib.hid hE
    clear hE
    go_wp2
    go_ret2
    exact ⟨by rw [H2.out]; rfl, Ext.alloc HE.out _⟩
  · obtain rfl : ov = decide (er = 10) := by rcases h3 with h | h; exact absurd h.1 h4; exact h.2
    clear h3
    have H3 := Lib.hid (show R = two (.bool (decide (er = 10))) (.int .i64 0) by rw [H2.out, if_neg h4])
    clear H2
    by_cases h10 : er = 10
    · subst h10
      go_enter Try.func36, Try.ntmps36
      go_wp2_with fail
      refine HX.out.mono ?_
      rintro e w2 ⟨rfl, hE⟩
      simp only [two]
      have HE := Lib.hid hE
      clear hE
      go_wp2
      go_ret2
      exact ⟨by rw [H3.out]; rfl, Ext.alloc HE.out _⟩
    · go_enter Try.func36, Try.ntmps36
      go_wp2_with fail
      refine HX.out.mono ?_
      rintro e w2 ⟨rfl, hE⟩
      simp only [two]
      have HE := Lib.hid hE
      clear hE
      go_wp2
      go_ret2
      exact ⟨by rw [H3.out, decide_eq_false h10]; simp [two, h10], Ext.alloc HE.out _⟩
def heightP (a b : Pt) : Int := heightZ a.1 a.2 b.1 b.2
def minK (qs : List Pt) : Nat → Pt
  | 0 => fromP qs 0
  | k + 1 => if heightP (fromP qs (k + 1)) (minK qs k) < 0 then fromP qs (k + 1) else minK qs k
def minP (qs : List Pt) : Pt := minK qs (qs.length - 1)
set_option maxRecDepth 100000 in
set_option maxHeartbeats 1000000 in
theorem min_c (v : Value) (qs : List Pt) (w : World) (hv : Vecs w v qs) (hn : 0 < qs.length) (hm : qs.length ≤ 1000000) :
    Calls Try.prog 74 #[v, .func (.func 75) #[] #[]] w fun e w' => e = .returned (vecV (minP qs).1 (minP qs).2) ∧ Ext w w' := by
  obtain ⟨a, cap, rfl, hl, hmx, hr⟩ := hv.at
  obtain ⟨p0, hp0⟩ := getElem?_len hn
  obtain ⟨b, o, rfl, c0, c1⟩ := hr 0 p0 hp0
  have hE0 := Ext.alloc (Ext.refl w) (.cells #[.int .i64 0, .int .i64 0] 31)
  have HR := Lib.hid (show ∀ (k : Nat) (p : Pt), qs[k]? = some p → w.cell? ⟨b, o + k * 2, none⟩ = some (.int .i64 p.1) ∧ w.cell? ⟨b, o + k * 2 + 1, none⟩ = some (.int .i64 p.2) from fun k p hk => by
    obtain ⟨b', o', e, h1, h2⟩ := hr k p hk
    obtain ⟨rfl, rfl⟩ : b = b' ∧ o = o' := by injection e with e; injection e with e1 e2; exact ⟨e1, e2⟩
    exact ⟨h1, h2⟩)
  have HF0 := Lib.hid (fromP_of hp0)
  have d0 : (w.alloc (.cells #[.int .i64 0, .int .i64 0] 31)).cell? ⟨b, o, none⟩ = some (.int .i64 p0.1) := by have := Ext.cell hE0 c0; simpa using this
  have d1 : (w.alloc (.cells #[.int .i64 0, .int .i64 0] 31)).cell? ⟨b, o + 1, none⟩ = some (.int .i64 p0.2) := by have := Ext.cell hE0 c1; simpa using this
  have hblt := cell_lt c0
  clear hv hr c0 c1 hp0
  go_enter Try.func74, Try.ntmps74
  go_wp2_with fail
  clear d0 d1
  have hs1 : (w.alloc (.cells #[.int .i64 0, .int .i64 0] 31)).heap.size = w.heap.size + 1 := by simp
  have hra := VRow.alloc (vrow_alloc w [.int .i64 0, .int .i64 0] 31) (.cells #[.int .i64 p0.1, .int .i64 p0.2] 31)
  have hrb := vrow_alloc (w.alloc (.cells #[.int .i64 0, .int .i64 0] 31)) [.int .i64 p0.1, .int .i64 p0.2] 31
  rw [hs1] at hrb
  go_loopw [6] (fun i wr => ∃ k : Nat, k + 1 ≤ qs.length ∧ i = .int .i64 ((k + 1 : Nat) : Int) ∧ VRow wr (w.heap.size + 1) 31 [.int .i64 (minK qs k).1, .int .i64 (minK qs k).2] ∧ VRow wr w.heap.size 31 [.int .i64 0, .int .i64 0] ∧ Ext w wr) (fun i _ => qs.length - (intOf i).toNat)
  case atStart => exact ⟨0, by omega, rfl, by simp only [minK, HF0.out]; exact hrb, hra, Ext.alloc hE0 _⟩
  case round =>
    clear hra hrb
    obtain ⟨k, hk, rfl, hM, hA, hE⟩ := hrel
    have HM := Lib.hid hM
    have HA := Lib.hid hA
    have HE := Lib.hid hE
    clear hM hA hE hE0
    obtain ⟨j, hj⟩ : ∃ j, j = k + 1 := ⟨_, rfl⟩
    rw [← hj] at hk ⊢
    by_cases hlt : j < qs.length
    · obtain ⟨q, hq⟩ := getElem?_len hlt
      obtain ⟨hc0, hc1⟩ := HR.out j q hq
      have HC := Lib.hid (show wr.cell? _ = _ ∧ wr.cell? _ = _ from ⟨Ext.cell HE.out hc0, Ext.cell HE.out hc1⟩)
      have HS := Lib.hid (show minK qs j = if heightP q (minK qs k) < 0 then q else minK qs k by rw [hj]; simp only [minK]; rw [← hj, fromP_of hq])
      clear hq hc0 hc1
      obtain ⟨m, hmm⟩ : ∃ m, m = minK qs k := ⟨_, rfl⟩
      rw [← hmm] at HM HS
      obtain ⟨z, hz⟩ : ∃ z, z = heightP q m := ⟨_, rfl⟩
      rw [← hz] at HS
      have HZ := Lib.hid hz
      have HMM := Lib.hid hmm
      have Hj := Lib.hid hj
      clear hz hmm hj
      go_wp2_with fail
      by_cases hneg : z < 0
      · skip
        refine wp_region_stable [⟨[], none⟩, ⟨[], none⟩, ⟨[], none⟩, ⟨[(1, 21), (2, 22)], none⟩, ⟨[(3, 23)], none⟩, ⟨[], none⟩, ⟨[(0, 20), (4, 24), (5, 25)], none⟩, ⟨[(6, 26)], none⟩] (fun x y => Below x.heap.size x y) (MPat [MP.eq (.func (.func 75) #[] #[]), MP.eq (.slice (some ⟨b, o, none⟩) qs.length cap), MP.eq (.int .i64 j), MP.eq (.pointer (some ⟨b, o + j * 2, none⟩)), MP.eq (vecV q.1 q.2), MP.eq (vecV m.1 m.2), MP.eq (.int .i64 z), MP.eq (.bool true)]) (by kernel_rfl) (fun _ _ _ h k => Ext.trans h k) (fun _ => Below.refl _ _) (fun x => (Below.refl x.heap.size x).drew) (MPat.mono _) (by kernel_rfl) ?obs ?rest
        case obs =>
          refine ⟨?_, ?_, ?_, ?_, ?_, ?_, ?_, ?_, trivial⟩
          · intro ev W hf _ _ hst hd
            have e1 : ev (.tmp 1) = .func (.func 75) #[] #[] := hf 1 (by kernel_rfl)
            refine st_value (v := .func (.func 75) #[] #[]) ?_ (Below.refl _ _) ?_
            · simp [execOp, go_sem, e1]
            · exact rfl
          · intro ev W hf _ _ hst hd
            have e0 : ev (.tmp 0) = .slice (some ⟨b, o, none⟩) qs.length cap := hf 0 (by kernel_rfl)
            refine st_value (v := .slice (some ⟨b, o, none⟩) qs.length cap) ?_ (Below.refl _ _) ?_
            · simp [execOp, go_sem, e0]
            · exact rfl
          · intro ev W hf _ _ hst hd
            have e6 : ev (.tmp 6) = .int .i64 j := hf 6 (by kernel_rfl)
            refine st_value (v := .int .i64 j) ?_ (Below.refl _ _) ?_
            · simp [execOp, go_sem, e6]
            · exact rfl
          · intro ev W hf _ _ hst hd
            obtain ⟨d21, d22, _⟩ := hd
            have e21 : ev (.tmp 21) = .slice (some ⟨b, o, none⟩) qs.length cap := d21
            have e22 : ev (.tmp 22) = .int .i64 j := d22
            refine st_value (v := .pointer (some ⟨b, o + j * 2, none⟩)) ?_ (Below.refl _ _) ?_
            · simp [execOp, go_sem, e21, e22, hlt]
            · exact rfl
          · intro ev W hf _ _ hst hd
            obtain ⟨d23, _⟩ := hd
            have e23 : ev (.tmp 23) = .pointer (some ⟨b, o + j * 2, none⟩) := d23
            have k0 := Ext.cell hst HC.out.1
            have k1 := Ext.cell hst HC.out.2
            refine st_value (v := vecV q.1 q.2) ?_ (Below.refl _ _) ?_
            · simp [execOp, go_sem, e23, k0, k1]
            · exact rfl
          · intro ev W hf _ _ hst hd
            have e5 : ev (.tmp 5) = .pointer (some ⟨w.heap.size + 1, 0, none⟩) := hf 5 (by kernel_rfl)
            have kk := VRow.ext HM.out hst
            have k0 := VRow.cell kk (k := 0) rfl
            have k1 := VRow.cell kk (k := 1) rfl
            refine st_value (v := vecV m.1 m.2) ?_ (Below.refl _ _) ?_
            · simp [execOp, go_sem, e5, k0, k1]
            · exact rfl
          · intro ev W hf _ hfn hst hd
            obtain ⟨d20, d24, d25, _⟩ := hd
            have e20 : ev (.tmp 20) = .func (.func 75) #[] #[] := d20
            have e24 : ev (.tmp 24) = vecV q.1 q.2 := d24
            have e25 : ev (.tmp 25) = vecV m.1 m.2 := d25
            clear hfn
            refine st_call (f := 75) (args := #[vecV q.1 q.2, vecV m.1 m.2]) (by simp [execOp, go_sem, e20, e24, e25]) (by rw [HZ.out]; exact byHeight_c q.1 q.2 m.1 m.2 W) (fun _ _ => rfl)
          · intro ev W hf hcst _ hst hd
            obtain ⟨d26, _⟩ := hd
            have e26 : ev (.tmp 26) = .int .i64 z := d26
            refine st_value (v := .bool true) ?_ (Below.refl _ _) ?_
            · simp [execOp, go_sem, e26, hcst, hneg]
            · exact rfl
        case rest =>
          intro vs w3 hl hst hg
          have hx0 : ∀ u, vs[0]? = some u → u = .func (.func 75) #[] #[] := fun u hu => hg 0 u hu
          have hx1 : ∀ u, vs[1]? = some u → u = .slice (some ⟨b, o, none⟩) qs.length cap := fun u hu => hg 1 u hu
          have hx2 : ∀ u, vs[2]? = some u → u = .int .i64 j := fun u hu => hg 2 u hu
          have hx3 : ∀ u, vs[3]? = some u → u = .pointer (some ⟨b, o + j * 2, none⟩) := fun u hu => hg 3 u hu
          have hx4 : ∀ u, vs[4]? = some u → u = vecV q.1 q.2 := fun u hu => hg 4 u hu
          have hx5 : ∀ u, vs[5]? = some u → u = vecV m.1 m.2 := fun u hu => hg 5 u hu
          have hx6 : ∀ u, vs[6]? = some u → u = .int .i64 z := fun u hu => hg 6 u hu
          have hx7 : ∀ u, vs[7]? = some u → u = .bool true := fun u hu => hg 7 u hu
          have HE3 := Lib.hid hst
          clear hg hst
          obtain ⟨x0, vs0, rfl, hl0⟩ := len_succ hl
          obtain ⟨x1, vs1, rfl, hl1⟩ := len_succ hl0
          obtain ⟨x2, vs2, rfl, hl2⟩ := len_succ hl1
          obtain ⟨x3, vs3, rfl, hl3⟩ := len_succ hl2
          obtain ⟨x4, vs4, rfl, hl4⟩ := len_succ hl3
          obtain ⟨x5, vs5, rfl, hl5⟩ := len_succ hl4
          obtain ⟨x6, vs6, rfl, hl6⟩ := len_succ hl5
          obtain ⟨x7, vs7, rfl, hl7⟩ := len_succ hl6
          have hnil : vs7 = [] := List.length_eq_zero_iff.1 hl7
          subst hnil
          obtain rfl : x0 = .func (.func 75) #[] #[] := hx0 _ rfl
          obtain rfl : x1 = .slice (some ⟨b, o, none⟩) qs.length cap := hx1 _ rfl
          obtain rfl : x2 = .int .i64 j := hx2 _ rfl
          obtain rfl : x3 = .pointer (some ⟨b, o + j * 2, none⟩) := hx3 _ rfl
          obtain rfl : x4 = vecV q.1 q.2 := hx4 _ rfl
          obtain rfl : x5 = vecV m.1 m.2 := hx5 _ rfl
          obtain rfl : x6 = .int .i64 z := hx6 _ rfl
          obtain rfl : x7 = .bool true := hx7 _ rfl
          clear hx0 hx1 hx2 hx3 hx4 hx5 hx6 hx7
          simp only [putAll, Act.put, List.setIfInBounds_toArray, List.set_cons_zero, List.set_cons_succ]
          have hm3 := VRow.ext HM.out HE3.out
          have c0 := Ext.cell HE3.out HC.out.1
          have c1 := Ext.cell HE3.out HC.out.2
          have m0 := VRow.cell hm3 (k := 0) rfl
          have m1 := VRow.cell hm3 (k := 1) rfl
          have f0 := VRow.frozen hm3 0 none
          have f1 := VRow.frozen hm3 1 none
          have HM3 := Lib.hid hm3
          clear hm3
          go_wp2
          have hj := Hj.out
          refine ⟨⟨k + 1, by omega, by congr 1; omega, ?_, VRow.setOther (VRow.setOther (VRow.ext HA.out HE3.out) (by simp) _) (by simp) _, ?_⟩, by simp [intOf]; omega⟩
          · have e := HS.out
            rw [if_pos hneg, hj] at e
            rw [e]
            exact VRow.set (VRow.set HM3.out 0 _) 1 _
          · exact Below.setCell (p := ⟨w.heap.size + 1, 1, none⟩) (Below.setCell (p := ⟨w.heap.size + 1, 0, none⟩) (Ext.trans HE.out HE3.out) (by show _ ≤ w.heap.size + 1; omega) _) (by show _ ≤ w.heap.size + 1; omega) _
      · skip
        refine wp_region_stable [⟨[], none⟩, ⟨[], none⟩, ⟨[], none⟩, ⟨[(1, 21), (2, 22)], none⟩, ⟨[(3, 23)], none⟩, ⟨[], none⟩, ⟨[(0, 20), (4, 24), (5, 25)], none⟩, ⟨[(6, 26)], none⟩] (fun x y => Below x.heap.size x y) (MPat [MP.eq (.func (.func 75) #[] #[]), MP.eq (.slice (some ⟨b, o, none⟩) qs.length cap), MP.eq (.int .i64 j), MP.eq (.pointer (some ⟨b, o + j * 2, none⟩)), MP.eq (vecV q.1 q.2), MP.eq (vecV m.1 m.2), MP.eq (.int .i64 z), MP.eq (.bool false)]) (by kernel_rfl) (fun _ _ _ h k => Ext.trans h k) (fun _ => Below.refl _ _) (fun x => (Below.refl x.heap.size x).drew) (MPat.mono _) (by kernel_rfl) ?obs ?rest
        case obs =>
          refine ⟨?_, ?_, ?_, ?_, ?_, ?_, ?_, ?_, trivial⟩
          · intro ev W hf _ _ hst hd
            have e1 : ev (.tmp 1) = .func (.func 75) #[] #[] := hf 1 (by kernel_rfl)
            refine st_value (v := .func (.func 75) #[] #[]) ?_ (Below.refl _ _) ?_
            · simp [execOp, go_sem, e1]
            · exact rfl
          · intro ev W hf _ _ hst hd
            have e0 : ev (.tmp 0) = .slice (some ⟨b, o, none⟩) qs.length cap := hf 0 (by kernel_rfl)
            refine st_value (v := .slice (some ⟨b, o, none⟩) qs.length cap) ?_ (Below.refl _ _) ?_
            · simp [execOp, go_sem, e0]
            · exact rfl
          · intro ev W hf _ _ hst hd
            have e6 : ev (.tmp 6) = .int .i64 j := hf 6 (by kernel_rfl)
            refine st_value (v := .int .i64 j) ?_ (Below.refl _ _) ?_
            · simp [execOp, go_sem, e6]
            · exact rfl
          · intro ev W hf _ _ hst hd
            obtain ⟨d21, d22, _⟩ := hd
            have e21 : ev (.tmp 21) = .slice (some ⟨b, o, none⟩) qs.length cap := d21
            have e22 : ev (.tmp 22) = .int .i64 j := d22
            refine st_value (v := .pointer (some ⟨b, o + j * 2, none⟩)) ?_ (Below.refl _ _) ?_
            · simp [execOp, go_sem, e21, e22, hlt]
            · exact rfl
          · intro ev W hf _ _ hst hd
            obtain ⟨d23, _⟩ := hd
            have e23 : ev (.tmp 23) = .pointer (some ⟨b, o + j * 2, none⟩) := d23
            have k0 := Ext.cell hst HC.out.1
            have k1 := Ext.cell hst HC.out.2
            refine st_value (v := vecV q.1 q.2) ?_ (Below.refl _ _) ?_
            · simp [execOp, go_sem, e23, k0, k1]
            · exact rfl
          · intro ev W hf _ _ hst hd
            have e5 : ev (.tmp 5) = .pointer (some ⟨w.heap.size + 1, 0, none⟩) := hf 5 (by kernel_rfl)
            have kk := VRow.ext HM.out hst
            have k0 := VRow.cell kk (k := 0) rfl
            have k1 := VRow.cell kk (k := 1) rfl
            refine st_value (v := vecV m.1 m.2) ?_ (Below.refl _ _) ?_
            · simp [execOp, go_sem, e5, k0, k1]
            · exact rfl
          · intro ev W hf _ hfn hst hd
            obtain ⟨d20, d24, d25, _⟩ := hd
            have e20 : ev (.tmp 20) = .func (.func 75) #[] #[] := d20
            have e24 : ev (.tmp 24) = vecV q.1 q.2 := d24
            have e25 : ev (.tmp 25) = vecV m.1 m.2 := d25
            clear hfn
            refine st_call (f := 75) (args := #[vecV q.1 q.2, vecV m.1 m.2]) (by simp [execOp, go_sem, e20, e24, e25]) (by rw [HZ.out]; exact byHeight_c q.1 q.2 m.1 m.2 W) (fun _ _ => rfl)
          · intro ev W hf hcst _ hst hd
            obtain ⟨d26, _⟩ := hd
            have e26 : ev (.tmp 26) = .int .i64 z := d26
            refine st_value (v := .bool false) ?_ (Below.refl _ _) ?_
            · simp [execOp, go_sem, e26, hcst, hneg]
            · exact rfl
        case rest =>
          intro vs w3 hl hst hg
          have hx0 : ∀ u, vs[0]? = some u → u = .func (.func 75) #[] #[] := fun u hu => hg 0 u hu
          have hx1 : ∀ u, vs[1]? = some u → u = .slice (some ⟨b, o, none⟩) qs.length cap := fun u hu => hg 1 u hu
          have hx2 : ∀ u, vs[2]? = some u → u = .int .i64 j := fun u hu => hg 2 u hu
          have hx3 : ∀ u, vs[3]? = some u → u = .pointer (some ⟨b, o + j * 2, none⟩) := fun u hu => hg 3 u hu
          have hx4 : ∀ u, vs[4]? = some u → u = vecV q.1 q.2 := fun u hu => hg 4 u hu
          have hx5 : ∀ u, vs[5]? = some u → u = vecV m.1 m.2 := fun u hu => hg 5 u hu
          have hx6 : ∀ u, vs[6]? = some u → u = .int .i64 z := fun u hu => hg 6 u hu
          have hx7 : ∀ u, vs[7]? = some u → u = .bool false := fun u hu => hg 7 u hu
          have HE3 := Lib.hid hst
          clear hg hst
          obtain ⟨x0, vs0, rfl, hl0⟩ := len_succ hl
          obtain ⟨x1, vs1, rfl, hl1⟩ := len_succ hl0
          obtain ⟨x2, vs2, rfl, hl2⟩ := len_succ hl1
          obtain ⟨x3, vs3, rfl, hl3⟩ := len_succ hl2
          obtain ⟨x4, vs4, rfl, hl4⟩ := len_succ hl3
          obtain ⟨x5, vs5, rfl, hl5⟩ := len_succ hl4
          obtain ⟨x6, vs6, rfl, hl6⟩ := len_succ hl5
          obtain ⟨x7, vs7, rfl, hl7⟩ := len_succ hl6
          have hnil : vs7 = [] := List.length_eq_zero_iff.1 hl7
          subst hnil
          obtain rfl : x0 = .func (.func 75) #[] #[] := hx0 _ rfl
          obtain rfl : x1 = .slice (some ⟨b, o, none⟩) qs.length cap := hx1 _ rfl
          obtain rfl : x2 = .int .i64 j := hx2 _ rfl
          obtain rfl : x3 = .pointer (some ⟨b, o + j * 2, none⟩) := hx3 _ rfl
          obtain rfl : x4 = vecV q.1 q.2 := hx4 _ rfl
          obtain rfl : x5 = vecV m.1 m.2 := hx5 _ rfl
          obtain rfl : x6 = .int .i64 z := hx6 _ rfl
          obtain rfl : x7 = .bool false := hx7 _ rfl
          clear hx0 hx1 hx2 hx3 hx4 hx5 hx6 hx7
          simp only [putAll, Act.put, List.setIfInBounds_toArray, List.set_cons_zero, List.set_cons_succ]
          go_wp2
          have hj := Hj.out
          refine ⟨⟨k + 1, by omega, by congr 1; omega, ?_, VRow.ext HA.out HE3.out, Ext.trans HE.out HE3.out⟩, by simp [intOf]; omega⟩
          have e := HS.out
          rw [if_neg hneg, hj] at e
          rw [e]
          exact VRow.ext HM.out HE3.out
    · have hjn : j = qs.length := by omega
      have m0 := VRow.cell HM.out (k := 0) rfl
      have m1 := VRow.cell HM.out (k := 1) rfl
      have a0 := VRow.cell HA.out (k := 0) rfl
      have a1 := VRow.cell HA.out (k := 1) rfl
      have f0 := VRow.frozen HA.out 0 none
      have f1 := VRow.frozen HA.out 1 none
      have Hj := Lib.hid hj
      clear hj
      go_wp2_with fail
      have hA2 := VRow.set (VRow.set HA.out 0 (.int .i64 (minK qs k).1)) 1 (.int .i64 (minK qs k).2)
      have b0 := VRow.cell hA2 (k := 0) rfl
      have b1 := VRow.cell hA2 (k := 1) rfl
      have hE2 := Below.setCell (p := ⟨w.heap.size, 1, none⟩) (Below.setCell (p := ⟨w.heap.size, 0, none⟩) HE.out (Nat.le_refl _) (.int .i64 (minK qs k).1)) (Nat.le_refl _) (.int .i64 (minK qs k).2)
      generalize ((wr.setCell ⟨w.heap.size, 0, none⟩ (.int .i64 (minK qs k).1)).setCell ⟨w.heap.size, 1, none⟩ (.int .i64 (minK qs k).2)) = w9 at *
      (try simp only [Exit.inBlock, Exit.then])
      refine bodyPost_ret (by rw [results_cell1 rfl]; go_simp; rfl) rfl ?_
      have hkn : k = qs.length - 1 := by have := Hj.out; omega
      exact ⟨by unfold minP; rw [← hkn], hE2⟩
end Go.Proofs.Ytnpebfchojalcaa
