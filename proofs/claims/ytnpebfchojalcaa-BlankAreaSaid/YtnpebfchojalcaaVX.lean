import Derived.Test.YtnpebfchojalcaaV14
import Derived.Test.YtnpebfchojalcaaN0
import Derived.Lib.AppendZerosOnto
namespace Go.Proofs.Ytnpebfchojalcaa
set_option maxRecDepth 100000
open Go.RowKit Go.Shelf
set_option maxRecDepth 100000 in
set_option maxHeartbeats 1000000 in
theorem idx_c (v : Value) (qs : List Pt) (m : Pt) (w : World) (hv : Vecs w v qs) (hm : m ∈ qs) :
    Calls Try.prog 73 #[v, vecV m.1 m.2] w fun e w' => e = .returned (.int .i64 (idxK m qs : Nat)) ∧ Ext w w' := by
  obtain ⟨a, cap, rfl, hl, hmx, hr⟩ := hv.at
  have hE0 := Ext.alloc (Ext.refl w) (.cells #[.int .i64 m.1, .int .i64 m.2] 31)
  have HR := Lib.hid hr
  have HB := Lib.hid (show VRow (w.alloc (.cells #[.int .i64 m.1, .int .i64 m.2] 31)) _ _ _ from vrow_alloc w [.int .i64 m.1, .int .i64 m.2] 31)
  have HE0 := Lib.hid hE0
  have HMem := Lib.hid hm
  clear hv hr hm hE0
  go_enter Try.func73, Try.ntmps73
  go_wp2_with fail
  generalize w.alloc (.cells #[.int .i64 m.1, .int .i64 m.2] 31) = w1 at *
  go_loopw [8] (fun i wr => ∃ k : Nat, k ≤ qs.length ∧ (∀ j q, j < k → qs[j]? = some q → q ≠ m) ∧ i = .int .i64 k ∧ Ext w1 wr) (fun i _ => qs.length - (intOf i).toNat)
  case atStart => exact ⟨0, Nat.zero_le _, fun j q hj => by omega, rfl, Ext.refl _⟩
  case round =>
    obtain ⟨k, hk, hall, rfl, hE⟩ := hrel
    have Hall := Lib.hid hall
    have HE := Lib.hid hE
    clear hall hE
    by_cases hlt : k < qs.length
    · obtain ⟨q, hq⟩ := getElem?_len hlt
      obtain ⟨b, o, rfl, c0, c1⟩ := HR.out k q hq
      have HC := Lib.hid (show wr.cell? _ = _ ∧ wr.cell? _ = _ from ⟨Ext.cell (Ext.trans HE0.out HE.out) c0, Ext.cell (Ext.trans HE0.out HE.out) c1⟩)
      have HM := Lib.hid (VRow.ext HB.out HE.out)
      have Hq := Lib.hid hq
      clear hq c0 c1
      by_cases heq : q = m
      · have Heq := Lib.hid heq
        clear heq
        go_wp2_with fail
        refine wp_region_stable [⟨[], none⟩, ⟨[], none⟩, ⟨[], none⟩, ⟨[(1, 12), (2, 13)], none⟩, ⟨[(3, 14)], none⟩, ⟨[(0, 11), (4, 15)], none⟩] (fun x y => Below x.heap.size x y) (MPat [MP.eq (vecV m.1 m.2), MP.eq (.slice (some ⟨b, o, none⟩) qs.length cap), MP.eq (.int .i64 k), MP.eq (.pointer (some ⟨b, o + k * 2, none⟩)), MP.eq (vecV q.1 q.2), MP.eq (.bool true)]) (by kernel_rfl) (fun _ _ _ h k => Ext.trans h k) (fun _ => Below.refl _ _) (fun x => (Below.refl x.heap.size x).drew) (MPat.mono _) (by kernel_rfl) ?obs ?rest
        case obs =>
          refine ⟨?_, ?_, ?_, ?_, ?_, ?_, trivial⟩
          · intro ev W hf _ _ hst hd
            have e3 : ev (.tmp 3) = .pointer (some ⟨w.heap.size, 0, none⟩) := hf 3 (by kernel_rfl)
            have kk := VRow.ext HM.out hst
            have k0 := VRow.cell kk (k := 0) rfl
            have k1 := VRow.cell kk (k := 1) rfl
            refine st_value (v := vecV m.1 m.2) ?_ (Below.refl _ _) ?_
            · simp [execOp, go_sem, e3, k0, k1]
            · exact rfl
          · intro ev W hf _ _ hst hd
            have e0 : ev (.tmp 0) = .slice (some ⟨b, o, none⟩) qs.length cap := hf 0 (by kernel_rfl)
            refine st_value (v := .slice (some ⟨b, o, none⟩) qs.length cap) ?_ (Below.refl _ _) ?_
            · simp [execOp, go_sem, e0]
            · exact rfl
          · intro ev W hf _ _ hst hd
            have e5 : ev (.tmp 5) = .int .i64 k := hf 5 (by kernel_rfl)
            refine st_value (v := .int .i64 k) ?_ (Below.refl _ _) ?_
            · simp [execOp, go_sem, e5]
            · exact rfl
          · intro ev W hf _ _ hst hd
            obtain ⟨d12, d13, _⟩ := hd
            have e12 : ev (.tmp 12) = .slice (some ⟨b, o, none⟩) qs.length cap := d12
            have e13 : ev (.tmp 13) = .int .i64 k := d13
            refine st_value (v := .pointer (some ⟨b, o + k * 2, none⟩)) ?_ (Below.refl _ _) ?_
            · simp [execOp, go_sem, e12, e13, hlt]
            · exact rfl
          · intro ev W hf _ _ hst hd
            obtain ⟨d14, _⟩ := hd
            have e14 : ev (.tmp 14) = .pointer (some ⟨b, o + k * 2, none⟩) := d14
            have k0 := Ext.cell hst HC.out.1
            have k1 := Ext.cell hst HC.out.2
            refine st_value (v := vecV q.1 q.2) ?_ (Below.refl _ _) ?_
            · simp [execOp, go_sem, e14, k0, k1]
            · exact rfl
          · intro ev W hf _ _ hst hd
            obtain ⟨d11, d15, _⟩ := hd
            have e11 : ev (.tmp 11) = vecV m.1 m.2 := d11
            have e15 : ev (.tmp 15) = vecV q.1 q.2 := d15
            have g1 : m.1 = q.1 := by rw [Heq.out]
            have g2 : m.2 = q.2 := by rw [Heq.out]
            refine st_value (v := .bool true) ?_ (Below.refl _ _) ?_
            · simp [execOp, go_sem, e11, e15, g1, g2]
            · exact rfl
        case rest =>
          intro vs w3 hl hst hg
          have hx0 : ∀ u, vs[0]? = some u → u = vecV m.1 m.2 := fun u hu => hg 0 u hu
          have hx1 : ∀ u, vs[1]? = some u → u = .slice (some ⟨b, o, none⟩) qs.length cap := fun u hu => hg 1 u hu
          have hx2 : ∀ u, vs[2]? = some u → u = .int .i64 k := fun u hu => hg 2 u hu
          have hx3 : ∀ u, vs[3]? = some u → u = .pointer (some ⟨b, o + k * 2, none⟩) := fun u hu => hg 3 u hu
          have hx4 : ∀ u, vs[4]? = some u → u = vecV q.1 q.2 := fun u hu => hg 4 u hu
          have hx5 : ∀ u, vs[5]? = some u → u = .bool true := fun u hu => hg 5 u hu
          have HE3 := Lib.hid hst
          clear hg hst
          obtain ⟨x0, vs0, rfl, hl0⟩ := len_succ hl
          obtain ⟨x1, vs1, rfl, hl1⟩ := len_succ hl0
          obtain ⟨x2, vs2, rfl, hl2⟩ := len_succ hl1
          obtain ⟨x3, vs3, rfl, hl3⟩ := len_succ hl2
          obtain ⟨x4, vs4, rfl, hl4⟩ := len_succ hl3
          obtain ⟨x5, vs5, rfl, hl5⟩ := len_succ hl4
          have hnil : vs5 = [] := List.length_eq_zero_iff.1 hl5
          subst hnil
          obtain rfl : x0 = vecV m.1 m.2 := hx0 _ rfl
          obtain rfl : x1 = .slice (some ⟨b, o, none⟩) qs.length cap := hx1 _ rfl
          obtain rfl : x2 = .int .i64 k := hx2 _ rfl
          obtain rfl : x3 = .pointer (some ⟨b, o + k * 2, none⟩) := hx3 _ rfl
          obtain rfl : x4 = vecV q.1 q.2 := hx4 _ rfl
          obtain rfl : x5 = .bool true := hx5 _ rfl
          clear hx0 hx1 hx2 hx3 hx4 hx5
          simp only [putAll, Act.put, List.setIfInBounds_toArray, List.set_cons_zero, List.set_cons_succ]
          go_wp2
          go_ret
          exact ⟨by rw [idxK_at Hall.out (by rw [Hq.out, Heq.out])]; rfl, Ext.trans HE0.out (Ext.trans HE.out HE3.out)⟩
      · have hb : (m.1 == q.1 && m.2 == q.2) = false := by
          rw [Bool.eq_false_iff]
          intro h
          simp at h
          exact heq (by obtain ⟨a1, a2⟩ := q; obtain ⟨b1, b2⟩ := m; simp at h ⊢; exact ⟨h.1.symm, h.2.symm⟩)
        have HNE := Lib.hid (show m.1 = q.1 → ¬ m.2 = q.2 from fun g1 g2 => by rw [g1, g2] at hb; simp at hb)
        have Heq := Lib.hid heq
        clear hb heq
        go_wp2_with fail
        refine wp_region_stable [⟨[], none⟩, ⟨[], none⟩, ⟨[], none⟩, ⟨[(1, 12), (2, 13)], none⟩, ⟨[(3, 14)], none⟩, ⟨[(0, 11), (4, 15)], none⟩] (fun x y => Below x.heap.size x y) (MPat [MP.eq (vecV m.1 m.2), MP.eq (.slice (some ⟨b, o, none⟩) qs.length cap), MP.eq (.int .i64 k), MP.eq (.pointer (some ⟨b, o + k * 2, none⟩)), MP.eq (vecV q.1 q.2), MP.eq (.bool false)]) (by kernel_rfl) (fun _ _ _ h k => Ext.trans h k) (fun _ => Below.refl _ _) (fun x => (Below.refl x.heap.size x).drew) (MPat.mono _) (by kernel_rfl) ?obs ?rest
        case obs =>
          refine ⟨?_, ?_, ?_, ?_, ?_, ?_, trivial⟩
          · intro ev W hf _ _ hst hd
            have e3 : ev (.tmp 3) = .pointer (some ⟨w.heap.size, 0, none⟩) := hf 3 (by kernel_rfl)
            have kk := VRow.ext HM.out hst
            have k0 := VRow.cell kk (k := 0) rfl
            have k1 := VRow.cell kk (k := 1) rfl
            refine st_value (v := vecV m.1 m.2) ?_ (Below.refl _ _) ?_
            · simp [execOp, go_sem, e3, k0, k1]
            · exact rfl
          · intro ev W hf _ _ hst hd
            have e0 : ev (.tmp 0) = .slice (some ⟨b, o, none⟩) qs.length cap := hf 0 (by kernel_rfl)
            refine st_value (v := .slice (some ⟨b, o, none⟩) qs.length cap) ?_ (Below.refl _ _) ?_
            · simp [execOp, go_sem, e0]
            · exact rfl
          · intro ev W hf _ _ hst hd
            have e5 : ev (.tmp 5) = .int .i64 k := hf 5 (by kernel_rfl)
            refine st_value (v := .int .i64 k) ?_ (Below.refl _ _) ?_
            · simp [execOp, go_sem, e5]
            · exact rfl
          · intro ev W hf _ _ hst hd
            obtain ⟨d12, d13, _⟩ := hd
            have e12 : ev (.tmp 12) = .slice (some ⟨b, o, none⟩) qs.length cap := d12
            have e13 : ev (.tmp 13) = .int .i64 k := d13
            refine st_value (v := .pointer (some ⟨b, o + k * 2, none⟩)) ?_ (Below.refl _ _) ?_
            · simp [execOp, go_sem, e12, e13, hlt]
            · exact rfl
          · intro ev W hf _ _ hst hd
            obtain ⟨d14, _⟩ := hd
            have e14 : ev (.tmp 14) = .pointer (some ⟨b, o + k * 2, none⟩) := d14
            have k0 := Ext.cell hst HC.out.1
            have k1 := Ext.cell hst HC.out.2
            refine st_value (v := vecV q.1 q.2) ?_ (Below.refl _ _) ?_
            · simp [execOp, go_sem, e14, k0, k1]
            · exact rfl
          · intro ev W hf _ _ hst hd
            obtain ⟨d11, d15, _⟩ := hd
            have e11 : ev (.tmp 11) = vecV m.1 m.2 := d11
            have e15 : ev (.tmp 15) = vecV q.1 q.2 := d15
            refine st_value (v := .bool false) ?_ (Below.refl _ _) ?_
            · (simp [execOp, go_sem, e11, e15]; exact HNE.out)
            · exact rfl
        case rest =>
          intro vs w3 hl hst hg
          have hx0 : ∀ u, vs[0]? = some u → u = vecV m.1 m.2 := fun u hu => hg 0 u hu
          have hx1 : ∀ u, vs[1]? = some u → u = .slice (some ⟨b, o, none⟩) qs.length cap := fun u hu => hg 1 u hu
          have hx2 : ∀ u, vs[2]? = some u → u = .int .i64 k := fun u hu => hg 2 u hu
          have hx3 : ∀ u, vs[3]? = some u → u = .pointer (some ⟨b, o + k * 2, none⟩) := fun u hu => hg 3 u hu
          have hx4 : ∀ u, vs[4]? = some u → u = vecV q.1 q.2 := fun u hu => hg 4 u hu
          have hx5 : ∀ u, vs[5]? = some u → u = .bool false := fun u hu => hg 5 u hu
          have HE3 := Lib.hid hst
          clear hg hst
          obtain ⟨x0, vs0, rfl, hl0⟩ := len_succ hl
          obtain ⟨x1, vs1, rfl, hl1⟩ := len_succ hl0
          obtain ⟨x2, vs2, rfl, hl2⟩ := len_succ hl1
          obtain ⟨x3, vs3, rfl, hl3⟩ := len_succ hl2
          obtain ⟨x4, vs4, rfl, hl4⟩ := len_succ hl3
          obtain ⟨x5, vs5, rfl, hl5⟩ := len_succ hl4
          have hnil : vs5 = [] := List.length_eq_zero_iff.1 hl5
          subst hnil
          obtain rfl : x0 = vecV m.1 m.2 := hx0 _ rfl
          obtain rfl : x1 = .slice (some ⟨b, o, none⟩) qs.length cap := hx1 _ rfl
          obtain rfl : x2 = .int .i64 k := hx2 _ rfl
          obtain rfl : x3 = .pointer (some ⟨b, o + k * 2, none⟩) := hx3 _ rfl
          obtain rfl : x4 = vecV q.1 q.2 := hx4 _ rfl
          obtain rfl : x5 = .bool false := hx5 _ rfl
          clear hx0 hx1 hx2 hx3 hx4 hx5
          simp only [putAll, Act.put, List.setIfInBounds_toArray, List.set_cons_zero, List.set_cons_succ]
          go_wp2
          refine ⟨⟨k + 1, by omega, fun j q' hj hq' => ?_, by simp, Ext.trans HE.out HE3.out⟩, by simp [intOf]; omega⟩
          by_cases hjk : j = k
          · subst hjk; have h2 := Hq.out; rw [hq'] at h2; injection h2 with h2; rw [h2]; exact Heq.out
          · exact Hall.out j q' (by omega) hq'
    · exfalso
      have hkn : k = qs.length := by omega
      obtain ⟨j, hj⟩ := List.mem_iff_getElem?.1 HMem.out
      exact Hall.out j m (by have := lt_len hj; omega) hj rfl
end Go.Proofs.Ytnpebfchojalcaa

namespace Go.Proofs.Ytnpebfchojalcaa
set_option maxRecDepth 100000
open Go.RowKit Go.Shelf
theorem drew_ext (w : World) : Ext w w.drew := Below.drew (Ext.refl w)
theorem zeroCells_size (n : Nat) : (Builtin.zeroCells (Value.agg #[.int .i64 0, .int .i64 0]).cells n).size = n * 2 := by
  unfold Builtin.zeroCells
  rw [Array.size_map, Array.size_range]
  rfl
set_option maxHeartbeats 1000000 in
theorem grow_c (n : Nat) (w : World) (h0 : 0 < n) (hn : n ≤ 100000) :
    Calls Try.prog 104 #[.slice none 0 0, .int .i64 n] w fun e w' => ∃ v, e = .returned v ∧ w'.ownsRow w.heap.size 31 2 v 0 [] ∧ Ext w w' := by
  obtain ⟨i0, hi, hz, hs, hb⟩ := info_parts info31
  have h1 : ¬ ((n : Int) < 0) := by omega
  have h4 : (n : Int) > 0 := by omega
  have hr : ∀ ty, (Builtin.append_ #[22, 3] ty #[.slice none 0 0, .int .i64 (n : Int)]).run Try.prog w = .ok (.slice (some ⟨w.heap.size, 0, none⟩) (0 + n) (grownCap w (0 + n) 0 31))
        (w.drew.alloc (.cells ((#[] : Array Value) ++ Builtin.zeroCells (Value.agg #[.int .i64 0, .int .i64 0]).cells n ++ Builtin.zeroCells (Value.agg #[.int .i64 0, .int .i64 0]).cells (grownCap w (0 + n) 0 31 - (0 + n))) 31)) := fun ty =>
    Lib.run_append_grow_zeros w 22 3 ty 31 i0 _ .i64 .i64 Try.underlying22 Try.underlying3 hi hz none 0 0 [] (by rw [hs]; exact run_firstCells_none _ 2 0 0 0) n h0 (by omega) (by omega) (by omega) (by rw [hb]; omega) (growslice_fits (by omega) (by rw [hb]; omega))
  have hG := grownCap_ge w (0 + n) 0 31
  have hG2 := grownCap_le_maxLen w (0 + n) 0 31 (by unfold maxLen; omega)
  generalize grownCap w (0 + n) 0 31 = G at *
  generalize hc : ((#[] : Array Value) ++ Builtin.zeroCells (Value.agg #[.int .i64 0, .int .i64 0]).cells n ++ Builtin.zeroCells (Value.agg #[.int .i64 0, .int .i64 0]).cells (G - (0 + n))) = cs at *
  have HC := Lib.hid (show cs.size = G * 2 by rw [← hc, Array.size_append, Array.size_append, zeroCells_size, zeroCells_size]; simp; omega)
  rw [Nat.zero_add] at hr hG
  have HR := Lib.hid hr
  have HG2 := Lib.hid hG2
  have hG3 : G ≤ 9223372036854775807 := by unfold maxLen at hG2; omega
  clear hc hi hz hs hb hr hG2
  go_enter Try.func104, Try.ntmps104
  go_wp2_with (at_builtin; refine Lib.wpList_append_run _ rfl _ _ _ _ rfl _ _ rfl rfl _ _ (HR.out _) ?_)
  all_goals go_ret
  all_goals exact ⟨_, rfl, World.ownsRow_made w.drew cs G (Nat.le_refl _) HG2.out HC.out, Ext.alloc (drew_ext w) _⟩
theorem cellsOf_getv : ∀ (qs : List Pt) (j : Nat) (u : Value), (cellsOf qs)[j]? = some u → ∃ (k : Nat) (q : Pt), qs[k]? = some q ∧ ((j = k * 2 ∧ u = .int .i64 q.1) ∨ (j = k * 2 + 1 ∧ u = .int .i64 q.2)) := by
  intro qs
  induction qs with
  | nil => intro j u h; simp [cellsOf] at h
  | cons a r ih =>
    intro j u h
    match j, h with
    | 0, h => simp [cellsOf] at h; exact ⟨0, a, rfl, .inl ⟨rfl, h.symm⟩⟩
    | 1, h => simp [cellsOf] at h; exact ⟨0, a, rfl, .inr ⟨rfl, h.symm⟩⟩
    | j + 2, h =>
      obtain ⟨k, q, hk, hh⟩ := ih j u (by simpa [cellsOf] using h)
      exact ⟨k + 1, q, by simpa using hk, hh.imp (fun ⟨a, b⟩ => ⟨by omega, b⟩) (fun ⟨a, b⟩ => ⟨by omega, b⟩)⟩
theorem add_addrv (b o j : Nat) : (⟨b, o, none⟩ : Addr).add j = ⟨b, o + j, none⟩ := by
  unfold Addr.add
  cases j with
  | zero => rfl
  | succ j => simp
theorem cellsOf_onev {qs : List Pt} : ∀ u ∈ cellsOf qs, u.oneCell' = true := by
  intro u hu
  obtain ⟨j, hj⟩ := List.mem_iff_getElem?.1 hu
  obtain ⟨k, q, hk, hh⟩ := cellsOf_getv qs j u hj
  rcases hh with ⟨_, rfl⟩ | ⟨_, rfl⟩ <;> rfl
theorem ptsv_cells {w : World} {b o : Nat} {qs : List Pt} (h : PtsAt w b o qs) (j : Nat) (u : Value) (hj : (cellsOf qs)[j]? = some u) : w.cell? ((⟨b, o, none⟩ : Addr).add j) = some u := by
  obtain ⟨k, q, hk, hh⟩ := cellsOf_getv qs j u hj
  obtain ⟨h1, h2⟩ := h k q hk
  rw [add_addrv]
  rcases hh with ⟨rfl, rfl⟩ | ⟨rfl, rfl⟩
  · exact h1
  · exact h2
set_option maxRecDepth 100000 in
set_option maxHeartbeats 2000000 in
theorem concat_c (B b1 o1 c1 b2 o2 c2 : Nat) (ps qs : List Pt) (w : World) (hB : VRow w B 22 [.slice (some ⟨b1, o1, none⟩) ps.length c1, .slice (some ⟨b2, o2, none⟩) qs.length c2]) (h1 : PtsAt w b1 o1 ps) (h2 : PtsAt w b2 o2 qs)
    (hn : 0 < ps.length + qs.length) (hm1 : ps.length ≤ 1000) (hm2 : qs.length ≤ 1000) :
    Calls Try.prog 76 #[.slice (some ⟨B, 0, none⟩) 2 2] w fun e w' => ∃ v, e = .returned v ∧ w'.ownsRow w.heap.size 31 2 v (ps.length + qs.length) (cellsOf (ps ++ qs)) ∧ Ext w w' := by
  have HB := Lib.hid hB
  have H1 := Lib.hid h1
  have H2 := Lib.hid h2
  have hBl := VRow.lt hB
  clear hB h1 h2
  go_enter Try.func76, Try.ntmps76
  go_wp2_with fail
  go_loopw [11, 3] (fun i s wr => wr = w ∧ ((i = .int .i64 0 ∧ s = .int .i64 0) ∨ (i = .int .i64 1 ∧ s = .int .i64 ps.length) ∨ (i = .int .i64 2 ∧ s = .int .i64 ((ps.length + qs.length : Nat) : Int)))) (fun i _ _ => 2 - (intOf i).toNat)
  case atStart => exact ⟨rfl, .inl ⟨rfl, rfl⟩⟩
  case round =>
    obtain ⟨hww, hcase⟩ := hrel
    have hww := hww.symm
    subst hww
    rcases hcase with ⟨rfl, rfl⟩ | ⟨rfl, rfl⟩ | ⟨rfl, rfl⟩
    · have q0 := VRow.cell HB.out (k := 0) rfl
      go_wp2
      exact ⟨⟨trivial, .inr (.inl ⟨rfl, by simp⟩)⟩, by simp [intOf]⟩
    · have q1 := VRow.cell HB.out (k := 1) rfl
      go_wp2
      exact ⟨⟨trivial, .inr (.inr ⟨rfl, by simp⟩)⟩, by simp [intOf]⟩
    · obtain ⟨N, hN⟩ : ∃ N, N = ps.length + qs.length := ⟨_, rfl⟩
      have HN := Lib.hid hN
      rw [← hN] at hn ⊢
      have hN2 : N ≤ 2000 := by omega
      clear hN
      go_wp2_with fail
      refine (grow_c N w hn (by omega)).mono ?_
      rintro e w2 ⟨v, rfl, hO, hE⟩
      have HO := Lib.hid hO
      have HE := Lib.hid hE
      clear hO hE
      obtain ⟨i0, hi, hz0, hz1, hz2⟩ := info_parts info31
      have HI := Lib.hid hi
      have HZ0 := Lib.hid hz0
      have HZ1 := Lib.hid hz1
      have HZ2 := Lib.hid hz2
      clear hi hz0 hz1 hz2
      go_wp2_with fail
      go_loopw [27, 6] (fun i s w3 => Ext w w3 ∧ ((i = .int .i64 0 ∧ w3.ownsRow w.heap.size 31 2 s 0 []) ∨ (i = .int .i64 1 ∧ w3.ownsRow w.heap.size 31 2 s (0 + ps.length) ([] ++ cellsOf ps)) ∨ (i = .int .i64 2 ∧ w3.ownsRow w.heap.size 31 2 s (0 + ps.length + qs.length) ([] ++ cellsOf ps ++ cellsOf qs)))) (fun i _ _ => 2 - (intOf i).toNat)
      case atStart => exact ⟨HE.out, .inl ⟨rfl, HO.out⟩⟩
      case round =>
        obtain ⟨hE3, hcase⟩ := hrel
        have HE3 := Lib.hid hE3
        clear hE3
        rcases hcase with ⟨rfl, hO3⟩ | ⟨rfl, hO3⟩ | ⟨rfl, hO3⟩
        · have HO3 := Lib.hid hO3
          clear hO3
          have q0 := VRow.cell (VRow.ext HB.out HE3.out) (k := 0) rfl
          have hlt := VRow.lt (VRow.ext HB.out HE3.out)
          go_wp2_with (at_builtin; refine wpList_append_own _ rfl _ _ 22 rfl w.heap.size 31 i0 (.agg #[.int .i64 0, .int .i64 0]) 2 16 Try.underlying22 HI.out HZ0.out HZ1.out HZ2.out rfl (by decide) _ _ _ rfl HO3.out ⟨b1, o1, none⟩ ps.length c1 (cellsOf ps) rfl (cellsOf_length ps) (ptsv_cells (PtsAt.ext H1.out HE3.out)) cellsOf_onev (by unfold maxLen; omega) (by omega) HE3.out.size ?_; intro v' w' hown' hgrow hnil; have HO4 := Lib.hid hown'; have HG4 := Lib.hid hgrow; clear hown' hgrow hnil)
          refine ⟨⟨Below.grown HE3.out HG4.out HE3.out.size (fun j e => own_block HO3.out e), .inr (.inl ⟨rfl, HO4.out⟩)⟩, by simp [intOf]⟩
        · have HO3 := Lib.hid hO3
          clear hO3
          have q0 := VRow.cell (VRow.ext HB.out HE3.out) (k := 1) rfl
          have hlt := VRow.lt (VRow.ext HB.out HE3.out)
          go_wp2_with (at_builtin; refine wpList_append_own _ rfl _ _ 22 rfl w.heap.size 31 i0 (.agg #[.int .i64 0, .int .i64 0]) 2 16 Try.underlying22 HI.out HZ0.out HZ1.out HZ2.out rfl (by decide) _ _ _ rfl HO3.out ⟨b2, o2, none⟩ qs.length c2 (cellsOf qs) rfl (cellsOf_length qs) (ptsv_cells (PtsAt.ext H2.out HE3.out)) cellsOf_onev (by unfold maxLen; omega) (by omega) HE3.out.size ?_; intro v' w' hown' hgrow hnil; have HO4 := Lib.hid hown'; have HG4 := Lib.hid hgrow; clear hown' hgrow hnil)
          refine ⟨⟨Below.grown HE3.out HG4.out HE3.out.size (fun j e => own_block HO3.out e), .inr (.inr ⟨rfl, HO4.out⟩)⟩, by simp [intOf]⟩
        · have HO3 := Lib.hid hO3
          clear hO3
          go_wp2_with fail
          go_ret
          have h := HO3.out
          rw [Nat.zero_add, List.nil_append, ← cellsOf_append] at h
          exact ⟨_, rfl, h, HE3.out⟩
end Go.Proofs.Ytnpebfchojalcaa

namespace Go.Proofs.Ytnpebfchojalcaa
set_option maxRecDepth 100000
open Go.RowKit Go.Shelf
def MP.own (base n : Nat) (xs : List Value) : MP := ⟨fun v W => W.ownsRow base 31 2 v n xs, fun _ _ _ h hh => ownsRow_ext hh h⟩
def MP.pair (v1 v2 : Value) : MP := ⟨fun v W => ∃ r, v = .slice (some ⟨r, 0, none⟩) 2 2 ∧ VRow W r 22 [v1, v2], fun _ _ _ h hh => by
  obtain ⟨r, e, h1⟩ := hh
  exact ⟨r, e, VRow.ext h1 h⟩⟩
theorem ownsRow_base {A : World} {b c : Nat} {e : TypeId} {n sz : Nat} {v : Value} {xs : List Value} (h : A.ownsRow b e sz v n xs) (hb : c ≤ b) : A.ownsRow c e sz v n xs := by
  refine ⟨h.1, ?_⟩
  rcases h.2 with h | ⟨g, cap, cur, hv, hg, r⟩
  · exact .inl h
  · exact .inr ⟨g, cap, cur, hv, by omega, r⟩
theorem prow_pts {w : World} {g : Nat} {qs : List Pt} (h : PRow w g qs) : PtsAt w g 0 qs := fun k q hk => by
  obtain ⟨h1, h2⟩ := cellsOf_at qs k q hk
  rw [Nat.zero_add]
  exact ⟨VRow.cell h h1, VRow.cell h h2⟩
theorem pts_drop {w : World} {g s : Nat} {qs : List Pt} (h : PtsAt w g 0 qs) : PtsAt w g (s * 2) (qs.drop s) := fun k q hk => by
  rw [List.getElem?_drop] at hk
  obtain ⟨h1, h2⟩ := h _ q hk
  rw [show s * 2 + k * 2 = 0 + (s + k) * 2 by omega]
  exact ⟨h1, h2⟩
theorem pts_take {w : World} {g s : Nat} {qs : List Pt} (h : PtsAt w g 0 qs) : PtsAt w g 0 (qs.take s) := fun k q hk => by
  rw [List.getElem?_take] at hk
  split at hk
  · exact h k q hk
  · cases hk
set_option maxRecDepth 100000 in
set_option maxHeartbeats 2000000 in
theorem Flip_c (v : Value) (ps : List Pt) (w : World) (hv : Vecs w v ps) :
    Calls Try.prog 33 #[v] w fun e w' => ∃ u, e = flipR ps u ∧ (validB ps = true → Vecs w' u (flipP ps)) ∧ Ext w w' := by
  obtain ⟨a, cap, rfl, hl, hm, _⟩ := hv.at
  have HV := Lib.hid hv
  clear hv
  cases hf : validB ps with
  | false =>
    have HR := Lib.hid (show flipR ps (.slice none 0 0) = two (.slice none 0 0) (.int .i64 2) by simp [flipR, hf])
    have Hf := Lib.hid hf
    clear hf
    go_enter Try.func33, Try.ntmps33
    go_wp2_with fail
    refine (valid_c _ ps _ HV.out).mono ?_
    rintro e w2 ⟨rfl, hE⟩
    rw [Hf.out]
    go_wp2_with fail
    go_ret2
    exact ⟨_, HR.out.symm, fun h => (by cases h), hE⟩
  | true =>
    have HR := Lib.hid (show ∀ u, flipR ps u = two u (.int .i64 0) from fun u => by simp [flipR, hf])
    have Hf := Lib.hid hf
    have hn := (valid_near hf).2
    have HN := Lib.hid (valid_near hf).1
    clear hf
    have HMK := Lib.hid (run_make_pts ps.length (by omega))
    go_enter Try.func33, Try.ntmps33
    go_wp2_with fail
    refine (valid_c _ ps _ HV.out).mono ?_
    rintro e w3 ⟨rfl, hE3⟩
    rw [Hf.out]
    have HE3 := Lib.hid hE3
    clear hE3
    have hmk := HMK.out w3
    go_wp2_with fail
    clear hmk
    have hr0 := vrow_alloc w3 (cellsOf (List.replicate ps.length (0, 0))) 31
    have hE4 := Ext.alloc (Ext.refl w3) (.cells (cellsOf (List.replicate ps.length (0, 0))).toArray 31)
    go_loopw [16] (fun i wr => ∃ (k : Nat) (qs : List Pt), k ≤ ps.length ∧ qs.length = ps.length ∧ (∀ j, j < k → qs[j]? = ps[j]?.map negP) ∧ i = .int .i64 k ∧ PRow wr w3.heap.size qs ∧ Ext w3 wr) (fun i _ => ps.length - (intOf i).toNat)
    case atStart => exact ⟨0, _, Nat.zero_le _, by simp, fun j hj => by omega, rfl, hr0, hE4⟩
    case round =>
      clear hr0
      obtain ⟨k, qs, hk, hql, hq, rfl, hr, hE5⟩ := hrel
      have HQ := Lib.hid hq
      have HRW := Lib.hid hr
      have HE5 := Lib.hid hE5
      have Hql := Lib.hid hql
      clear hq hr hE5 hql
      by_cases hlt : k < ps.length
      · have HV5 := HV.out.ext (Ext.trans HE3.out HE5.out)
        obtain ⟨a', cap', e, _, _, hra⟩ := HV5.at
        have e : a = a' ∧ cap = cap' := by injection e with e1 e2 e3; exact ⟨e1, e3⟩
        obtain ⟨rfl, rfl⟩ := e
        obtain ⟨q, hq⟩ := getElem?_len hlt
        obtain ⟨b, o, rfl, c0, c1⟩ := hra k q hq
        have hqn := HN.out q (List.mem_of_getElem? hq)
        have HQN := Lib.hid (show fine q.1 ∧ fine q.2 by unfold fine; omega)
        have Hq := Lib.hid hq
        have hg3 := VRow.lt HRW.out
        clear hq hqn hra HV5
        go_wp2_with fail
        clear c0 c1
        refine (show Calls Try.prog 72 #[vecV q.1 q.2] _ _ from (opposite_c q.1 q.2 _ HQN.out.1 HQN.out.2).mono ?_)
        rintro e w6 ⟨rfl, hE6⟩
        have HE6 := Lib.hid (Ext.trans (Ext.alloc (Ext.refl wr) (.cells #[.int .i64 q.1, .int .i64 q.2] 31)) hE6)
        have HR6 := Lib.hid (VRow.ext HRW.out HE6.out)
        obtain ⟨cx, cy, d0, d1⟩ := PRow.at (show PRow w6 _ qs from HR6.out) (show k < qs.length by rw [Hql.out]; exact hlt)
        have f0 := VRow.frozen HR6.out (k * 2) none
        have f1 := VRow.frozen HR6.out (k * 2 + 1) none
        clear hE6
        go_wp2_with fail
        refine ⟨⟨k + 1, _, by omega, by rw [List.length_set]; exact Hql.out, set_done (f := negP) Hql.out hlt HQ.out Hq.out, by simp, PRow.put (show PRow w6 _ qs from HR6.out) k (negP q), ?_⟩, by simp [intOf]; omega⟩
        exact Below.setCell (p := ⟨w3.heap.size, k * 2 + 1, none⟩) (Below.setCell (p := ⟨w3.heap.size, k * 2, none⟩) (Ext.trans HE5.out HE6.out) (Nat.le_refl _) _) (Nat.le_refl _) _
      · obtain rfl : k = ps.length := by omega
        have hqs := all_map Hql.out HQ.out
        have HQS := Lib.hid hqs
        have hvx := PRow.vecs HRW.out Hql.out.symm (by rw [Hql.out]; omega)
        have HVX := Lib.hid hvx
        have hq0 : 0 < qs.length := by rw [Hql.out]; omega
        have Hmem := Lib.hid (minP_mem hq0)
        have Hq0 := Lib.hid hq0
        clear hqs hvx hq0
        go_wp2_with fail
        refine (min_c _ qs _ HVX.out Hq0.out (by rw [Hql.out]; omega)).mono ?_
        rintro e w6 ⟨rfl, hE6⟩
        have HE6 := Lib.hid hE6
        clear hE6
        go_wp2_with fail
        refine (idx_c _ qs (minP qs) _ (HVX.out.ext HE6.out) Hmem.out).mono ?_
        rintro e w7 ⟨rfl, hE7⟩
        have HE7 := Lib.hid (Ext.trans HE6.out hE7)
        have hsn := (idxK_lt Hmem.out).1
        rw [Hql.out] at hsn
        have HTP := Lib.hid (show turnP qs = qs.drop (idxK (minP qs) qs) ++ qs.take (idxK (minP qs) qs) from rfl)
        clear hE7
        generalize idxK (minP qs) qs = s at *
        have HP7 := Lib.hid (show PtsAt w7 w3.heap.size 0 qs from prow_pts (VRow.ext HRW.out HE7.out))
        have hdl : (qs.drop s).length = ps.length - s := by rw [List.length_drop, Hql.out]
        have htl : (qs.take s).length = s := by rw [List.length_take, Hql.out]; omega
        have HDL := Lib.hid hdl
        have HTL := Lib.hid htl
        clear hdl htl
        obtain ⟨g, hg⟩ : ∃ g, g = w3.heap.size := ⟨_, rfl⟩
        rw [← hg] at HP7 ⊢
        have Hg := Lib.hid hg
        clear hg
        have hsn2 : s ≤ ps.length := by omega
        go_wp2_with fail
        refine wp_region_stable [⟨[], none⟩, ⟨[], none⟩, ⟨[(0, 31), (1, 32)], none⟩, ⟨[], none⟩, ⟨[], none⟩, ⟨[(3, 34), (4, 35)], none⟩, ⟨[(2, 33), (5, 36)], none⟩, ⟨[(6, 37)], none⟩, ⟨[(7, 38)], none⟩, ⟨[], none⟩] (fun x y => Below x.heap.size x y) (MPat [MP.eq (.slice (some ⟨g, 0, none⟩) ps.length ps.length), MP.eq (.int .i64 s), MP.eq (.slice (some ⟨g, s * 2, none⟩) (ps.length - s) (ps.length - s)), MP.eq (.slice (some ⟨g, 0, none⟩) ps.length ps.length), MP.eq (.int .i64 s), MP.eq (.slice (some ⟨g, 0, none⟩) s ps.length), MP.pair (.slice (some ⟨g, s * 2, none⟩) (ps.length - s) (ps.length - s)) (.slice (some ⟨g, 0, none⟩) s ps.length), MP.own w7.heap.size (ps.length - s + s) (cellsOf (qs.drop s ++ qs.take s)), MP.own w7.heap.size (ps.length - s + s) (cellsOf (qs.drop s ++ qs.take s)), MP.eq (.int .i64 0)]) (by kernel_rfl) (fun _ _ _ h k => Ext.trans h k) (fun _ => Below.refl _ _) (fun x => (Below.refl x.heap.size x).drew) (MPat.mono _) (by kernel_rfl) ?obs ?rest
        case obs =>
          refine ⟨?_, ?_, ?_, ?_, ?_, ?_, ?_, ?_, ?_, ?_, trivial⟩
          · intro ev W hf _ _ hst hd
            have e4 : ev (.tmp 4) = .slice (some ⟨g, 0, none⟩) ps.length ps.length := hf 4 (by kernel_rfl)
            refine st_value (v := .slice (some ⟨g, 0, none⟩) ps.length ps.length) ?_ (Below.refl _ _) ?_
            · simp [execOp, go_sem, e4]
            · exact rfl
          · intro ev W hf _ _ hst hd
            have e7 : ev (.tmp 7) = .int .i64 s := hf 7 (by kernel_rfl)
            refine st_value (v := .int .i64 s) ?_ (Below.refl _ _) ?_
            · simp [execOp, go_sem, e7]
            · exact rfl
          · intro ev W hf _ _ hst hd
            obtain ⟨d31, d32, _⟩ := hd
            have e31 : ev (.tmp 31) = .slice (some ⟨g, 0, none⟩) ps.length ps.length := d31
            have e32 : ev (.tmp 32) = .int .i64 s := d32
            refine st_value (v := .slice (some ⟨g, s * 2, none⟩) (ps.length - s) (ps.length - s)) ?_ (Below.refl _ _) ?_
            · (simp [execOp, go_sem, e31, e32, hsn2]; omega)
            · exact rfl
          · intro ev W hf _ _ hst hd
            have e4 : ev (.tmp 4) = .slice (some ⟨g, 0, none⟩) ps.length ps.length := hf 4 (by kernel_rfl)
            refine st_value (v := .slice (some ⟨g, 0, none⟩) ps.length ps.length) ?_ (Below.refl _ _) ?_
            · simp [execOp, go_sem, e4]
            · exact rfl
          · intro ev W hf _ _ hst hd
            have e7 : ev (.tmp 7) = .int .i64 s := hf 7 (by kernel_rfl)
            refine st_value (v := .int .i64 s) ?_ (Below.refl _ _) ?_
            · simp [execOp, go_sem, e7]
            · exact rfl
          · intro ev W hf _ _ hst hd
            obtain ⟨d34, d35, _⟩ := hd
            have e34 : ev (.tmp 34) = .slice (some ⟨g, 0, none⟩) ps.length ps.length := d34
            have e35 : ev (.tmp 35) = .int .i64 s := d35
            refine st_value (v := .slice (some ⟨g, 0, none⟩) s ps.length) ?_ (Below.refl _ _) ?_
            · simp [execOp, go_sem, e34, e35, hsn2]
            · exact rfl
          · intro ev W hf _ hfn hst hd
            obtain ⟨d33, d36, _⟩ := hd
            have e33 : ev (.tmp 33) = .slice (some ⟨g, s * 2, none⟩) (ps.length - s) (ps.length - s) := d33
            have e36 : ev (.tmp 36) = .slice (some ⟨g, 0, none⟩) s ps.length := d36
            refine st_new (v := .slice (some ⟨W.heap.size, 0, none⟩) 2 2) (o := .cells #[.slice (some ⟨g, s * 2, none⟩) (ps.length - s) (ps.length - s), .slice (some ⟨g, 0, none⟩) s ps.length] 22) ?_ ?_
            · simp [execOp, go_sem, e33, e36]
            · exact ⟨_, rfl, vrow_alloc W [.slice (some ⟨g, s * 2, none⟩) (ps.length - s) (ps.length - s), .slice (some ⟨g, 0, none⟩) s ps.length] 22⟩
          · intro ev W hf _ hfn hst hd
            obtain ⟨d37, _⟩ := hd
            obtain ⟨rB, eB, hB⟩ := d37
            have e37 : ev (.tmp 37) = .slice (some ⟨rB, 0, none⟩) 2 2 := eB
            refine st_enter (f := 76) (args := #[.slice (some ⟨rB, 0, none⟩) 2 2]) (by simp [execOp, go_sem, hfn, e37]) ?_
            have h1 := concat_c rB g (s * 2) (ps.length - s) g 0 ps.length (qs.drop s) (qs.take s) W (by rw [HDL.out, HTL.out]; exact hB) (pts_drop (PtsAt.ext HP7.out hst)) (pts_take (PtsAt.ext HP7.out hst)) (by rw [HDL.out, HTL.out]; omega) (by rw [HDL.out]; omega) (by rw [HTL.out]; omega)
            rw [HDL.out, HTL.out] at h1
            refine h1.mono ?_
            rintro e w' ⟨v, rfl, hO, hE⟩
            exact ⟨v, rfl, hE, ownsRow_base hO hst.size⟩
          · intro ev W hf _ hfn hst hd
            obtain ⟨d38, _⟩ := hd
            clear hfn
            exact st_value (v := ev (.tmp 38)) (by simp [execOp, go_sem]) (Below.refl _ _) d38
          · intro ev W hf hcst _ hst hd
            refine st_value (v := .int .i64 0) ?_ (Below.refl _ _) ?_
            · simp [execOp, go_sem, hcst]
            · exact rfl
        case rest =>
          intro vs w3 hl hst hg
          have hx0 : ∀ u, vs[0]? = some u → u = .slice (some ⟨g, 0, none⟩) ps.length ps.length := fun u hu => hg 0 u hu
          have hx1 : ∀ u, vs[1]? = some u → u = .int .i64 s := fun u hu => hg 1 u hu
          have hx2 : ∀ u, vs[2]? = some u → u = .slice (some ⟨g, s * 2, none⟩) (ps.length - s) (ps.length - s) := fun u hu => hg 2 u hu
          have hx3 : ∀ u, vs[3]? = some u → u = .slice (some ⟨g, 0, none⟩) ps.length ps.length := fun u hu => hg 3 u hu
          have hx4 : ∀ u, vs[4]? = some u → u = .int .i64 s := fun u hu => hg 4 u hu
          have hx5 : ∀ u, vs[5]? = some u → u = .slice (some ⟨g, 0, none⟩) s ps.length := fun u hu => hg 5 u hu
          have hx6 : ∀ u, vs[6]? = some u → MP.p (MP.pair (.slice (some ⟨g, s * 2, none⟩) (ps.length - s) (ps.length - s)) (.slice (some ⟨g, 0, none⟩) s ps.length)) u w3 := fun u hu => hg 6 u hu
          have hx7 : ∀ u, vs[7]? = some u → MP.p (MP.own w7.heap.size (ps.length - s + s) (cellsOf (qs.drop s ++ qs.take s))) u w3 := fun u hu => hg 7 u hu
          have hx8 : ∀ u, vs[8]? = some u → MP.p (MP.own w7.heap.size (ps.length - s + s) (cellsOf (qs.drop s ++ qs.take s))) u w3 := fun u hu => hg 8 u hu
          have hx9 : ∀ u, vs[9]? = some u → u = .int .i64 0 := fun u hu => hg 9 u hu
          have HE3' := Lib.hid hst
          clear hg hst
          obtain ⟨x0, vs0, rfl, hl0⟩ := len_succ hl
          obtain ⟨x1, vs1, rfl, hl1⟩ := len_succ hl0
          obtain ⟨x2, vs2, rfl, hl2⟩ := len_succ hl1
          obtain ⟨x3, vs3, rfl, hl3⟩ := len_succ hl2
          obtain ⟨x4, vs4, rfl, hl4⟩ := len_succ hl3
          obtain ⟨x5, vs5, rfl, hl5⟩ := len_succ hl4
          obtain ⟨x6, vs6, rfl, hl6⟩ := len_succ hl5
          obtain ⟨x7, vs7, rfl, hl7⟩ := len_succ hl6
          obtain ⟨x8, vs8, rfl, hl8⟩ := len_succ hl7
          obtain ⟨x9, vs9, rfl, hl9⟩ := len_succ hl8
          have hnil : vs9 = [] := List.length_eq_zero_iff.1 hl9
          subst hnil
          obtain rfl : x0 = .slice (some ⟨g, 0, none⟩) ps.length ps.length := hx0 _ rfl
          obtain rfl : x1 = .int .i64 s := hx1 _ rfl
          obtain rfl : x2 = .slice (some ⟨g, s * 2, none⟩) (ps.length - s) (ps.length - s) := hx2 _ rfl
          obtain rfl : x3 = .slice (some ⟨g, 0, none⟩) ps.length ps.length := hx3 _ rfl
          obtain rfl : x4 = .int .i64 s := hx4 _ rfl
          obtain rfl : x5 = .slice (some ⟨g, 0, none⟩) s ps.length := hx5 _ rfl
          replace hx6 := hx6 _ rfl
          replace hx7 := hx7 _ rfl
          replace hx8 := hx8 _ rfl
          obtain rfl : x9 = .int .i64 0 := hx9 _ rfl
          clear hx0 hx1 hx2 hx3 hx4 hx5 hx9
          simp only [putAll, Act.put, List.setIfInBounds_toArray, List.set_cons_zero, List.set_cons_succ]
          have hown := hx8
          have HO := Lib.hid (show w3.ownsRow w7.heap.size 31 2 x8 (ps.length - s + s) (cellsOf (qs.drop s ++ qs.take s)) from hown)
          clear hx6 hx7 hx8 hown
          go_wp2_with fail
          go_ret2
          refine ⟨x8, (HR.out x8).symm, fun _ => ?_, Ext.trans HE3.out ?_⟩
          · have e : flipP ps = qs.drop s ++ qs.take s := by unfold flipP; rw [← HQS.out, HTP.out]
            rw [e]
            have hl : (qs.drop s ++ qs.take s).length = ps.length - s + s := by rw [List.length_append, HDL.out, HTL.out]
            exact vecs_own (base := w7.heap.size) (by rw [hl]; exact HO.out) (by rw [hl]; omega)
          · exact Ext.trans HE5.out (Ext.trans HE7.out HE3'.out)
end Go.Proofs.Ytnpebfchojalcaa

namespace Go.Proofs.Ytnpebfchojalcaa
set_option maxRecDepth 100000
open Go.RowKit Go.Shelf
set_option maxHeartbeats 400000 in
theorem plus_w (a b c d : Int) (w : World) (ha : wideZ a) (hb : wideZ b) (hc : wideZ c) (hd : wideZ d) :
    Calls Try.prog 80 #[vecV a b, vecV c d] w fun e w' => e = .returned (vecV (a + c) (b + d)) ∧ Ext w w' := by
  unfold wideZ at *
  go_enter Try.func80, Try.ntmps80
  go_wp2
  all_goals ((try simp only [Exit.inBlock, Exit.then]); refine bodyPost_ret (by rw [results_cell1 rfl]; go_simp; rfl) rfl ?_)
  all_goals exact ⟨rfl, by (repeat' (first | exact Below.refl _ _ | refine Below.drew ?_ | refine Below.alloc ?_ (by simp <;> omega) _ | refine Below.setCell ?_ (by simp <;> omega) _))⟩
/-- what the sort does to a row of one's own -/
def SortC (f : FuncId) (lt : Pt → Pt → Prop) (ok : Pt → Prop) : Prop := ∀ (g cap base n : Nat) (ds : List Pt) (W : World), W.ownsRow base 31 2 (.slice (some ⟨g, 0, none⟩) n cap) n (cellsOf ds) → ds.length = n → (∀ q ∈ ds, ok q) → n ≤ 1000 →
  Calls Try.prog 105 #[.slice (some ⟨g, 0, none⟩) n cap, .func (.func f) #[] #[]] W fun e w' => e = .returned (.tuple #[]) ∧ ∃ ds', ds'.Perm ds ∧ ds'.Pairwise (fun a b => ¬ lt b a) ∧ w'.ownsRow base 31 2 (.slice (some ⟨g, 0, none⟩) n cap) n (cellsOf ds') ∧ Held (fun j => j < W.heap.size ∧ j ≠ g) W w'
theorem vecs_somev {w : World} {v : Value} {qs : List Pt} (h : Vecs w v qs) (hn : 0 < qs.length) : ∃ b o cap, v = .slice (some ⟨b, o, none⟩) qs.length cap ∧ qs.length ≤ cap ∧ cap ≤ 9223372036854775807 ∧ PtsAt w b o qs := by
  obtain ⟨a, cap, hv, hl, hm, hr⟩ := h
  rcases hr with hr | ⟨b, off, ha, hc⟩
  · subst hr; simp at hn
  · subst ha; exact ⟨b, off, cap, hv, hl, hm, hc⟩
theorem own_form {W : World} {base n : Nat} {v : Value} {xs : List Value} (h : W.ownsRow base 31 2 v n xs) (hn : 0 < n) : ∃ g cap, v = .slice (some ⟨g, 0, none⟩) n cap ∧ base ≤ g ∧ g < W.heap.size ∧ n ≤ cap ∧ cap ≤ 9223372036854775807 := by
  rcases h.2 with ⟨_, h0⟩ | ⟨g, cap, cur, hv, hg, hc, hnc, hm, _⟩
  · omega
  · exact ⟨g, cap, hv, hg, (Array.getElem?_eq_some_iff.1 hc).1, hnc, by unfold maxLen at hm; omega⟩
theorem own_put {W : World} {t n : Nat} {base : Nat} {v : Value} {xs : List Value} (h : W.ownsRow base 31 2 v n xs) (hb : t < base) (x y : Value) : ((W.setCell ⟨t, 0, none⟩ x).setCell ⟨t, 1, none⟩ y).ownsRow base 31 2 v n xs := by
  refine ⟨h.1, ?_⟩
  rcases h.2 with h | ⟨g, cap, cur, hv, hg, hc, r⟩
  · exact .inl h
  · exact .inr ⟨g, cap, cur, hv, hg, ((Below.heap_setCell _ _ _ _ (by show g ≠ t; omega)).trans (Below.heap_setCell _ _ _ _ (by show g ≠ t; omega))).trans hc, r⟩
theorem own_pts {W : World} {base n g cap : Nat} {qs : List Pt} (h : W.ownsRow base 31 2 (.slice (some ⟨g, 0, none⟩) n cap) n (cellsOf qs)) (hn : n = qs.length) (hm : qs.length ≤ 1000000) : PtsAt W g 0 qs := by
  subst hn
  have hv := vecs_own h hm
  obtain ⟨a, c, e, _, _, hr⟩ := hv
  rcases hr with hr | ⟨b, o, ha, hc⟩
  · subst hr; intro k q hk; simp at hk
  · subst ha
    injection e with e1 e2 e3
    injection e1 with e1
    injection e1 with e1 e4
    subst e1 e4
    exact hc
theorem held_ext {w A B : World} {g : Nat} (h : Held (fun j => j < A.heap.size ∧ j ≠ g) A B) (he : Ext w A) (hg : w.heap.size ≤ g) : Ext w B :=
  Below.trans he ⟨h.os, h.tape, h.output, h.size, fun j hj => h.block j ⟨Nat.lt_of_lt_of_le hj he.size, by omega⟩⟩
set_option maxRecDepth 100000 in
set_option maxHeartbeats 4000000 in
theorem sum_c (hS : SortC 102 ltA okA) (u v : Value) (ps qs : List Pt) (w : World) (hu : Vecs w u ps) (hv : Vecs w v qs) (h1 : validB ps = true) (h2 : validB qs = true) :
    Calls Try.prog 78 #[u, v] w fun e w' => ∃ r ds, e = .returned r ∧ ds.Perm (stepsOf ps ++ stepsOf qs) ∧ ds.Pairwise (fun a b => ¬ ltA b a) ∧ Vecs w' r (walkK (addP (fromP qs 0) (fromP ps 0)) ds ds.length).1 ∧ Ext w w' := by
  obtain ⟨a, cap, rfl, hl, hm, hr1⟩ := hu.at
  obtain ⟨a2, cap2, rfl, hl2, hm2, hr2⟩ := hv.at
  have hn1 := (valid_near h1).2
  have hn2 := (valid_near h2).2
  have HN1 := Lib.hid (valid_near h1).1
  have HN2 := Lib.hid (valid_near h2).1
  have HK1 := Lib.hid (steps_ok h1)
  have HK2 := Lib.hid (steps_ok h2)
  have HW1 := Lib.hid (valid_wide h1)
  have HW2 := Lib.hid (valid_wide h2)
  have HU := Lib.hid hu
  have HV := Lib.hid hv
  have HS := Lib.hid hS
  obtain ⟨p0, hp0⟩ := getElem?_len (show 0 < ps.length by omega)
  obtain ⟨q0, hq0⟩ := getElem?_len (show 0 < qs.length by omega)
  obtain ⟨bp, op, rfl, cp0, cp1⟩ := hr1 0 p0 hp0
  obtain ⟨bq, oq, rfl, cq0, cq1⟩ := hr2 0 q0 hq0
  have HCP := Lib.hid (show w.cell? ⟨bp, op, none⟩ = some (.int .i64 p0.1) ∧ w.cell? ⟨bp, op + 1, none⟩ = some (.int .i64 p0.2) by exact ⟨by simpa using cp0, by simpa using cp1⟩)
  have HCQ := Lib.hid (show w.cell? ⟨bq, oq, none⟩ = some (.int .i64 q0.1) ∧ w.cell? ⟨bq, oq + 1, none⟩ = some (.int .i64 q0.2) by exact ⟨by simpa using cq0, by simpa using cq1⟩)
  have HP0 := Lib.hid (fromP_of hp0)
  have HQ0 := Lib.hid (fromP_of hq0)
  have hbp := (valid_near h1).1 p0 (List.mem_of_getElem? hp0)
  have hbq := (valid_near h2).1 q0 (List.mem_of_getElem? hq0)
  have hlp : ¬ ps = [] := by rintro rfl; simp at hn1
  have hlq : ¬ qs = [] := by rintro rfl; simp at hn2
  clear hu hv hS h1 h2 hr1 hr2 cp0 cp1 cq0 cq1 hp0 hq0
  go_enter Try.func78, Try.ntmps78
  go_wp2_with fail
  refine (steps_c _ ps w HU.out HW1.out (by omega)).mono ?_
  rintro e w2 ⟨s1, rfl, hs1, hE2⟩
  have HS1 := Lib.hid hs1
  have HE2 := Lib.hid hE2
  clear hs1 hE2
  go_wp2_with fail
  refine (steps_c _ qs w2 (HV.out.ext HE2.out) HW2.out (by omega)).mono ?_
  rintro e w3 ⟨s2, rfl, hs2, hE3⟩
  have HS2 := Lib.hid hs2
  have HS13 := Lib.hid (HS1.out.ext hE3)
  have HE3 := Lib.hid (Ext.trans HE2.out hE3)
  clear hs2 hE3 HS1
  obtain ⟨b1, o1, c1, rfl, hx1, hy1, hp1⟩ := vecs_somev HS13.out (by rw [stepsOf_length]; omega)
  obtain ⟨b2, o2, c2, rfl, hx2, hy2, hp2⟩ := vecs_somev HS2.out (by rw [stepsOf_length]; omega)
  have HP1 := Lib.hid hp1
  have HP2 := Lib.hid hp2
  clear hp1 hp2 HS13 HS2
  go_wp2_with fail
  have hE4 := Ext.alloc (Ext.refl w3) (.cells #[.slice (some ⟨b1, o1, none⟩) (stepsOf ps).length c1, .slice (some ⟨b2, o2, none⟩) (stepsOf qs).length c2] 22)
  have hconc := concat_c w3.heap.size b1 o1 c1 b2 o2 c2 (stepsOf ps) (stepsOf qs) (w3.alloc (.cells #[.slice (some ⟨b1, o1, none⟩) (stepsOf ps).length c1, .slice (some ⟨b2, o2, none⟩) (stepsOf qs).length c2] 22)) (vrow_alloc w3 _ 22) (HP1.out.ext hE4) (HP2.out.ext hE4) (by rw [stepsOf_length]; omega) (by rw [stepsOf_length]; omega) (by rw [stepsOf_length]; omega)
  have hN : (stepsOf ps).length + (stepsOf qs).length = (stepsOf ps ++ stepsOf qs).length := by simp
  rw [hN] at hconc
  have hN64 : (stepsOf ps ++ stepsOf qs).length ≤ 64 := by rw [List.length_append, stepsOf_length, stepsOf_length]; omega
  have hN6 : 0 < (stepsOf ps ++ stepsOf qs).length := by rw [List.length_append, stepsOf_length, stepsOf_length]; omega
  have HOK := Lib.hid (show ∀ q ∈ stepsOf ps ++ stepsOf qs, (-2000 ≤ q.1 ∧ q.1 ≤ 2000 ∧ -2000 ≤ q.2 ∧ q.2 ≤ 2000) ∧ okA q from fun q hq => by
    rcases List.mem_append.1 hq with h | h
    · exact HK1.out q h
    · exact HK2.out q h)
  clear HK1 HK2 hN
  generalize hall : stepsOf ps ++ stepsOf qs = all at *
  have HALL := Lib.hid hall
  clear hall
  refine hconc.mono ?_
  rintro e w4 ⟨av, rfl, hO, hE5⟩
  obtain ⟨g, cg, rfl, hg1, hg2, hcg, hcg2⟩ := own_form hO hN6
  have HO := Lib.hid hO
  have HE4 := Lib.hid (Ext.trans HE3.out (Ext.trans hE4 hE5))
  have hgw : w.heap.size ≤ g := by have := HE3.out.size; have := hE4.size; omega
  clear hconc hO hE5
  have hsort := HS.out g cg _ _ all w4 HO.out rfl (fun q hq => (HOK.out q hq).2) (by omega)
  clear hE4
  go_wp2_with fail
  refine hsort.mono ?_
  rintro e w5 ⟨rfl, ds, hperm, hpw, hO5, hH5⟩
  have hdl : ds.length = all.length := hperm.length_eq
  have HDK := Lib.hid (show ∀ q ∈ ds, (-2000 ≤ q.1 ∧ q.1 ≤ 2000 ∧ -2000 ≤ q.2 ∧ q.2 ≤ 2000) ∧ okA q from fun q hq => HOK.out q (hperm.mem_iff.1 hq))
  have HE5 := Lib.hid (held_ext hH5 HE4.out hgw)
  have hg5 := own_form hO5 hN6
  have HPT := Lib.hid (own_pts hO5 hdl.symm (by omega))
  have HPerm := Lib.hid hperm
  have Hpw := Lib.hid hpw
  clear hsort hperm hpw hO5 hH5 HO HOK HS
  rw [← hdl] at hN64 hN6 ⊢
  generalize all.length = N at *
  subst hdl
  go_wp2_with fail
  have HE5b := Lib.hid (HE5.out)
  have HCP5 := Lib.hid (show w5.cell? ⟨bp, op, none⟩ = some (.int .i64 p0.1) ∧ w5.cell? ⟨bp, op + 1, none⟩ = some (.int .i64 p0.2) from ⟨Ext.cell HE5.out HCP.out.1, Ext.cell HE5.out HCP.out.2⟩)
  have HCQ5 := Lib.hid (show w5.cell? ⟨bq, oq, none⟩ = some (.int .i64 q0.1) ∧ w5.cell? ⟨bq, oq + 1, none⟩ = some (.int .i64 q0.2) from ⟨Ext.cell HE5.out HCQ.out.1, Ext.cell HE5.out HCQ.out.2⟩)
  have hpl : 0 < ps.length := by omega
  have hql : 0 < qs.length := by omega
  have HF := Lib.hid (show fine p0.1 ∧ fine p0.2 ∧ fine q0.1 ∧ fine q0.2 by unfold fine; omega)
  refine wp_region_stable_last [⟨[], none⟩, ⟨[(0, 18)], none⟩, ⟨[(1, 19)], none⟩, ⟨[], none⟩, ⟨[(3, 21)], none⟩, ⟨[(4, 22)], none⟩, ⟨[(2, 20), (5, 23)], none⟩, ⟨[], none⟩] (fun x y => Below x.heap.size x y) (MPat [MP.eq (.slice (some ⟨bp, op, none⟩) ps.length cap), MP.eq (.pointer (some ⟨bp, op, none⟩)), MP.eq (vecV p0.1 p0.2), MP.eq (.slice (some ⟨bq, oq, none⟩) qs.length cap2), MP.eq (.pointer (some ⟨bq, oq, none⟩)), MP.eq (vecV q0.1 q0.2), MP.eq (vecV (p0.1 + q0.1) (p0.2 + q0.2)), MP.ptr w5.heap.size]) rfl (by kernel_rfl) (fun _ _ _ h k => Ext.trans h k) (fun _ => Below.refl _ _) (fun x => (Below.refl x.heap.size x).drew) (MPat.mono _) (by kernel_rfl) (by kernel_rfl) (by kernel_rfl) ?obs ?rest
  case obs =>
    refine ⟨?_, ?_, ?_, ?_, ?_, ?_, ?_, ?_, trivial⟩
    · intro ev W hf _ _ hst hd
      have e0 : ev (.tmp 0) = .slice (some ⟨bp, op, none⟩) ps.length cap := hf 0 (by kernel_rfl)
      refine st_value (v := .slice (some ⟨bp, op, none⟩) ps.length cap) ?_ (Below.refl _ _) ?_
      · simp [execOp, go_sem, e0]
      · exact rfl
    · intro ev W hf hcst _ hst hd
      obtain ⟨d18, _⟩ := hd
      have e18 : ev (.tmp 18) = .slice (some ⟨bp, op, none⟩) ps.length cap := d18
      refine st_value (v := .pointer (some ⟨bp, op, none⟩)) ?_ (Below.refl _ _) ?_
      · simp [execOp, go_sem, e18, hcst, hpl]
      · exact rfl
    · intro ev W hf _ _ hst hd
      obtain ⟨d19, _⟩ := hd
      have e19 : ev (.tmp 19) = .pointer (some ⟨bp, op, none⟩) := d19
      have k0 := Ext.cell hst HCP5.out.1
      have k1 := Ext.cell hst HCP5.out.2
      refine st_value (v := vecV p0.1 p0.2) ?_ (Below.refl _ _) ?_
      · simp [execOp, go_sem, e19, k0, k1]
      · exact rfl
    · intro ev W hf _ _ hst hd
      have e1 : ev (.tmp 1) = .slice (some ⟨bq, oq, none⟩) qs.length cap2 := hf 1 (by kernel_rfl)
      refine st_value (v := .slice (some ⟨bq, oq, none⟩) qs.length cap2) ?_ (Below.refl _ _) ?_
      · simp [execOp, go_sem, e1]
      · exact rfl
    · intro ev W hf hcst _ hst hd
      obtain ⟨d21, _⟩ := hd
      have e21 : ev (.tmp 21) = .slice (some ⟨bq, oq, none⟩) qs.length cap2 := d21
      refine st_value (v := .pointer (some ⟨bq, oq, none⟩)) ?_ (Below.refl _ _) ?_
      · simp [execOp, go_sem, e21, hcst, hql]
      · exact rfl
    · intro ev W hf _ _ hst hd
      obtain ⟨d22, _⟩ := hd
      have e22 : ev (.tmp 22) = .pointer (some ⟨bq, oq, none⟩) := d22
      have k0 := Ext.cell hst HCQ5.out.1
      have k1 := Ext.cell hst HCQ5.out.2
      refine st_value (v := vecV q0.1 q0.2) ?_ (Below.refl _ _) ?_
      · simp [execOp, go_sem, e22, k0, k1]
      · exact rfl
    · intro ev W hf _ hfn hst hd
      obtain ⟨d20, d23, _⟩ := hd
      have e20 : ev (.tmp 20) = vecV p0.1 p0.2 := d20
      have e23 : ev (.tmp 23) = vecV q0.1 q0.2 := d23
      refine st_call (f := 80) (args := #[vecV p0.1 p0.2, vecV q0.1 q0.2]) (by simp [execOp, go_sem, hfn, e20, e23]) (plus_c p0.1 p0.2 q0.1 q0.2 W HF.out.1 HF.out.2.1 HF.out.2.2.1 HF.out.2.2.2) (fun _ _ => rfl)
    · intro ev W hf _ hfn hst hd
      refine st_new (v := .pointer (some ⟨W.heap.size, 0, none⟩)) (o := .cells #[.int .i64 0, .int .i64 0] 31) ?_ ?_
      · simp [execOp, go_sem]
      · exact ⟨_, rfl, vrow_alloc W [.int .i64 0, .int .i64 0] 31, by have := hst.size; omega⟩
  case rest =>
    intro vs w6 hl hst hg
    obtain ⟨t, et, ht, hts⟩ : ∃ t, vs[7]? = some (.pointer (some ⟨t, 0, none⟩)) ∧ VRow w6 t 31 [.int .i64 0, .int .i64 0] ∧ w5.heap.size ≤ t := by
      have hu : vs[7]? = some (vs[7]'(by rw [hl]; decide)) := List.getElem?_eq_getElem _
      obtain ⟨t, he, h1, h2⟩ := hg 7 _ hu
      exact ⟨t, by rw [hu, he], h1, h2⟩
    have hx0 : ∀ u, vs[0]? = some u → u = .slice (some ⟨bp, op, none⟩) ps.length cap := fun u hu => hg 0 u hu
    have hx1 : ∀ u, vs[1]? = some u → u = .pointer (some ⟨bp, op, none⟩) := fun u hu => hg 1 u hu
    have hx2 : ∀ u, vs[2]? = some u → u = vecV p0.1 p0.2 := fun u hu => hg 2 u hu
    have hx3 : ∀ u, vs[3]? = some u → u = .slice (some ⟨bq, oq, none⟩) qs.length cap2 := fun u hu => hg 3 u hu
    have hx4 : ∀ u, vs[4]? = some u → u = .pointer (some ⟨bq, oq, none⟩) := fun u hu => hg 4 u hu
    have hx5 : ∀ u, vs[5]? = some u → u = vecV q0.1 q0.2 := fun u hu => hg 5 u hu
    have hx6 : ∀ u, vs[6]? = some u → u = vecV (p0.1 + q0.1) (p0.2 + q0.2) := fun u hu => hg 6 u hu
    have HE6 := Lib.hid hst
    have HT := Lib.hid ht
    clear hg hst ht
    obtain ⟨x0, vs0, rfl, hl0⟩ := len_succ hl
    obtain ⟨x1, vs1, rfl, hl1⟩ := len_succ hl0
    obtain ⟨x2, vs2, rfl, hl2⟩ := len_succ hl1
    obtain ⟨x3, vs3, rfl, hl3⟩ := len_succ hl2
    obtain ⟨x4, vs4, rfl, hl4⟩ := len_succ hl3
    obtain ⟨x5, vs5, rfl, hl5⟩ := len_succ hl4
    obtain ⟨x6, vs6, rfl, hl6⟩ := len_succ hl5
    obtain ⟨x7, vs7, rfl, hl7⟩ := len_succ hl6
    have hnil : vs7 = [] := List.length_eq_zero_iff.1 hl7
    subst hnil
    simp only [List.getElem?_cons_succ, List.getElem?_cons_zero, Option.some.injEq] at et
    subst et
    obtain rfl : x0 = .slice (some ⟨bp, op, none⟩) ps.length cap := hx0 _ rfl
    obtain rfl : x1 = .pointer (some ⟨bp, op, none⟩) := hx1 _ rfl
    obtain rfl : x2 = vecV p0.1 p0.2 := hx2 _ rfl
    obtain rfl : x3 = .slice (some ⟨bq, oq, none⟩) qs.length cap2 := hx3 _ rfl
    obtain rfl : x4 = .pointer (some ⟨bq, oq, none⟩) := hx4 _ rfl
    obtain rfl : x5 = vecV q0.1 q0.2 := hx5 _ rfl
    obtain rfl : x6 = vecV (p0.1 + q0.1) (p0.2 + q0.2) := hx6 _ rfl
    clear hx0 hx1 hx2 hx3 hx4 hx5 hx6
    simp only [putAll, Act.put, List.dropLast, List.setIfInBounds_toArray, List.set_cons_zero, List.set_cons_succ]
    have m0 := VRow.cell HT.out (k := 0) rfl
    have m1 := VRow.cell HT.out (k := 1) rfl
    have f0 := VRow.frozen HT.out 0 none
    have f1 := VRow.frozen HT.out 1 none
    go_wp2_with fail
    clear m0 m1 f0 f1
    obtain ⟨hv7, hE7⟩ := vec_put HE6.out HT.out hts (.int .i64 (p0.1 + q0.1)) (.int .i64 (p0.2 + q0.2))
    have htl := VRow.lt hv7
    generalize (w6.setCell ⟨t, 0, none⟩ (.int .i64 (p0.1 + q0.1))).setCell ⟨t, 1, none⟩ (.int .i64 (p0.2 + q0.2)) = w7 at *
    obtain ⟨A, hA⟩ : ∃ A : Pt, A = addP (fromP qs 0) (fromP ps 0) := ⟨_, rfl⟩
    have hA2 : A = (p0.1 + q0.1, p0.2 + q0.2) := by rw [hA, HP0.out, HQ0.out]; rfl
    have hAb : -4000 ≤ A.1 ∧ A.1 ≤ 4000 ∧ -4000 ≤ A.2 ∧ A.2 ≤ 4000 := by rw [hA2]; show -4000 ≤ p0.1 + q0.1 ∧ p0.1 + q0.1 ≤ 4000 ∧ -4000 ≤ p0.2 + q0.2 ∧ p0.2 + q0.2 ≤ 4000; omega
    have hv7 : VRow w7 t 31 [.int .i64 A.1, .int .i64 A.2] := by rw [hA2]; exact hv7
    have HAA := Lib.hid hA
    have HWB := Lib.hid (walk_bd (m := 2000) hAb (fun q hq => (HDK.out q hq).1))
    have HWL := Lib.hid (walk_len A ds)
    clear hA hA2 hAb
    clear hpl hql hbp hbq hlp hlq hn1 hn2 hx1 hy1 hx2 hy2 HCP HCQ HCP5 HCQ5 HP0 HQ0 HF HE6 HT HU HV HW1 HW2 HN1 HN2 HE2 HE3 HP1 HP2 HE5b HE4 hm hm2 hl hl2
    go_loopw [27, 7] (fun i s wr => ∃ k : Nat, k ≤ ds.length ∧ i = .int .i64 k ∧ wr.ownsRow (t + 1) 31 2 s (walkK A ds k).1.length (cellsOf (walkK A ds k).1) ∧ VRow wr t 31 [.int .i64 (walkK A ds k).2.1, .int .i64 (walkK A ds k).2.2] ∧ Ext w5 wr) (fun i _ _ => ds.length - (intOf i).toNat)
    case atStart => exact ⟨0, Nat.zero_le _, rfl, ⟨rfl, .inl ⟨rfl, rfl⟩⟩, hv7, hE7⟩
    case round =>
      obtain ⟨k, hk, rfl, hO, hT, hE⟩ := hrel
      have HO := Lib.hid hO
      have HTT := Lib.hid hT
      have HE := Lib.hid hE
      have htw := VRow.lt hT
      clear hO hT hE
      by_cases hlt : k < ds.length
      · obtain ⟨q, hq⟩ := getElem?_len hlt
        obtain ⟨hc0, hc1⟩ := (PtsAt.ext HPT.out HE.out) k q hq
        rw [Nat.zero_add] at hc0 hc1
        have HDQ := Lib.hid (HDK.out q (List.mem_of_getElem? hq))
        have HFQ := Lib.hid (fromP_of hq)
        have hgl := cell_lt hc0
        go_wp2_with fail
        clear hc0 hc1 hq
        have HB := Lib.hid (vrow_alloc wr [.int .i64 q.1, .int .i64 q.2] 31)
        change RowKit.Hid (VRow (wr.alloc (.cells #[.int .i64 q.1, .int .i64 q.2] 31)) _ _ _) at HB
        have HE8 := Lib.hid (Ext.trans HE.out (Ext.alloc (Ext.refl wr) (.cells #[.int .i64 q.1, .int .i64 q.2] 31)))
        have HT8 := Lib.hid (VRow.alloc HTT.out (.cells #[.int .i64 q.1, .int .i64 q.2] 31))
        have HO8 := Lib.hid (ownsRow_ext HO.out (Ext.alloc (Ext.refl wr) (.cells #[.int .i64 q.1, .int .i64 q.2] 31)))
        have hs8 : (wr.alloc (.cells #[.int .i64 q.1, .int .i64 q.2] 31)).heap.size = wr.heap.size + 1 := by simp
        have hwb := HWB.out k hk
        have hwl := HWL.out k
        have HWK := Lib.hid (show walkK A ds (k + 1) = (if k = 0 ∨ angP (fromP ds (k - 1)) (fromP ds k) ≠ 0 then (walkK A ds k).1 ++ [(walkK A ds k).2] else (walkK A ds k).1, addP (fromP ds k) (walkK A ds k).2) from rfl)
        have hobl0 : ∀ j, u7.ownBlock = some j → t + 1 ≤ j ∧ j < wr.heap.size := fun j hj => World.ownsRow.lt HO.out j hj
        clear HO HTT HE
        generalize wr.alloc (.cells #[.int .i64 q.1, .int .i64 q.2] 31) = w8 at *
        generalize hwk : walkK A ds k = wk at *
        obtain ⟨l, at_⟩ := wk
        clear hwk
        obtain ⟨r9, hr9⟩ : ∃ r, r = wr.heap.size := ⟨_, rfl⟩
        rw [← hr9] at HB hs8 hobl0 ⊢
        have HOBL := Lib.hid hobl0
        clear hobl0
        have htr : t ≠ r9 := by omega
        have htr2 : t < r9 := by omega
        dsimp only at hwb hwl HO8 HT8 HWK
        have hwz : wideZ at_.1 ∧ wideZ at_.2 ∧ wideZ q.1 ∧ wideZ q.2 := by have := HDQ.out.1; unfold wideZ; omega
        have HWZ := Lib.hid hwz
        have hsr : w8.heap.size = r9 + 1 := by rw [hs8]
        clear hwz hwb hr9 hs8
        by_cases hk0 : k = 0
        · have HS := Lib.hid (show walkK A ds (k + 1) = (l ++ [at_], addP q at_) by rw [HWK.out, if_pos (.inl hk0), HFQ.out])
          clear HWK
          have hk0' : (k : Int) = 0 := by omega
          refine wp_region_stable [⟨[], none⟩, ⟨[(0, 32)], none⟩, ⟨[(1, 33)], none⟩, ⟨[(2, 34)], some (34, false)⟩, ⟨[(2, 34)], some (34, false)⟩, ⟨[(4, 36), (2, 34)], some (34, false)⟩, ⟨[(3, 35), (5, 37), (2, 34)], some (34, false)⟩, ⟨[(6, 38), (2, 34)], some (34, false)⟩, ⟨[(2, 34)], some (34, false)⟩, ⟨[(7, 39), (8, 40), (2, 34)], some (34, false)⟩, ⟨[(9, 41), (2, 34)], some (34, false)⟩, ⟨[(2, 34), (10, 42)], none⟩] (fun x y => Below x.heap.size x y) (MPat [MP.eq (.int .i64 k), MP.eq (.bool true), MP.eq (.bool true), MP.eq (undef), MP.eq (undef), MP.eq (undef), MP.eq (undef), MP.eq (undef), MP.eq (undef), MP.eq (undef), MP.eq (undef), MP.eq (.bool true)]) (by kernel_rfl) (fun _ _ _ h k => Ext.trans h k) (fun _ => Below.refl _ _) (fun x => (Below.refl x.heap.size x).drew) (MPat.mono _) (by kernel_rfl) ?obs ?rest
          case obs =>
            refine ⟨?_, ?_, ?_, ?_, ?_, ?_, ?_, ?_, ?_, ?_, ?_, ?_, trivial⟩
            · intro ev W hf _ _ hst hd
              have e8 : ev (.tmp 8) = .int .i64 k := hf 8 (by kernel_rfl)
              refine st_value (v := .int .i64 k) ?_ (Below.refl _ _) ?_
              · simp [execOp, go_sem, e8]
              · exact rfl
            · intro ev W hf hcst _ hst hd
              obtain ⟨d32, _⟩ := hd
              have e32 : ev (.tmp 32) = .int .i64 k := d32
              refine st_value (v := .bool true) ?_ (Below.refl _ _) ?_
              · simp [execOp, go_sem, e32, hcst, hk0']
              · exact rfl
            · intro ev W hf _ _ hst hd
              obtain ⟨d33, _⟩ := hd
              have e33 : ev (.tmp 33) = .bool true := d33
              refine st_value (v := .bool true) ?_ (Below.refl _ _) ?_
              · simp [execOp, go_sem, e33]
              · exact rfl
            · intro ev W hf _ _ hst hd
              obtain ⟨d34, _⟩ := hd
              have e34 : ev (.tmp 34) = .bool true := d34
              refine ⟨fun hh => ?_, fun _ => rfl⟩
              rw [e34] at hh
              simp at hh
            · intro ev W hf _ _ hst hd
              obtain ⟨d34, _⟩ := hd
              have e34 : ev (.tmp 34) = .bool true := d34
              refine ⟨fun hh => ?_, fun _ => rfl⟩
              rw [e34] at hh
              simp at hh
            · intro ev W hf _ _ hst hd
              obtain ⟨d36, d34, _⟩ := hd
              have e34 : ev (.tmp 34) = .bool true := d34
              refine ⟨fun hh => ?_, fun _ => rfl⟩
              rw [e34] at hh
              simp at hh
            · intro ev W hf _ _ hst hd
              obtain ⟨d35, d37, d34, _⟩ := hd
              have e34 : ev (.tmp 34) = .bool true := d34
              refine ⟨fun hh => ?_, fun _ => rfl⟩
              rw [e34] at hh
              simp at hh
            · intro ev W hf _ _ hst hd
              obtain ⟨d38, d34, _⟩ := hd
              have e34 : ev (.tmp 34) = .bool true := d34
              refine ⟨fun hh => ?_, fun _ => rfl⟩
              rw [e34] at hh
              simp at hh
            · intro ev W hf _ _ hst hd
              obtain ⟨d34, _⟩ := hd
              have e34 : ev (.tmp 34) = .bool true := d34
              refine ⟨fun hh => ?_, fun _ => rfl⟩
              rw [e34] at hh
              simp at hh
            · intro ev W hf _ _ hst hd
              obtain ⟨d39, d40, d34, _⟩ := hd
              have e34 : ev (.tmp 34) = .bool true := d34
              refine ⟨fun hh => ?_, fun _ => rfl⟩
              rw [e34] at hh
              simp at hh
            · intro ev W hf _ _ hst hd
              obtain ⟨d41, d34, _⟩ := hd
              have e34 : ev (.tmp 34) = .bool true := d34
              refine ⟨fun hh => ?_, fun _ => rfl⟩
              rw [e34] at hh
              simp at hh
            · intro ev W hf hcst _ hst hd
              obtain ⟨d34, d42, _⟩ := hd
              have e34 : ev (.tmp 34) = .bool true := d34
              have e42 : ev (.tmp 42) = undef := d42
              refine st_value (v := .bool true) ?_ (Below.refl _ _) ?_
              · simp [execOp, go_sem, e34, e42, hcst]
              · exact rfl
          case rest =>
            intro vs w3 hl hst hg
            have hx0 : ∀ u, vs[0]? = some u → u = .int .i64 k := fun u hu => hg 0 u hu
            have hx1 : ∀ u, vs[1]? = some u → u = .bool true := fun u hu => hg 1 u hu
            have hx2 : ∀ u, vs[2]? = some u → u = .bool true := fun u hu => hg 2 u hu
            have hx3 : ∀ u, vs[3]? = some u → u = undef := fun u hu => hg 3 u hu
            have hx4 : ∀ u, vs[4]? = some u → u = undef := fun u hu => hg 4 u hu
            have hx5 : ∀ u, vs[5]? = some u → u = undef := fun u hu => hg 5 u hu
            have hx6 : ∀ u, vs[6]? = some u → u = undef := fun u hu => hg 6 u hu
            have hx7 : ∀ u, vs[7]? = some u → u = undef := fun u hu => hg 7 u hu
            have hx8 : ∀ u, vs[8]? = some u → u = undef := fun u hu => hg 8 u hu
            have hx9 : ∀ u, vs[9]? = some u → u = undef := fun u hu => hg 9 u hu
            have hx10 : ∀ u, vs[10]? = some u → u = undef := fun u hu => hg 10 u hu
            have hx11 : ∀ u, vs[11]? = some u → u = .bool true := fun u hu => hg 11 u hu
            have HE3 := Lib.hid hst
            clear hg hst
            obtain ⟨x0, vs0, rfl, hl0⟩ := len_succ hl
            obtain ⟨x1, vs1, rfl, hl1⟩ := len_succ hl0
            obtain ⟨x2, vs2, rfl, hl2⟩ := len_succ hl1
            obtain ⟨x3, vs3, rfl, hl3⟩ := len_succ hl2
            obtain ⟨x4, vs4, rfl, hl4⟩ := len_succ hl3
            obtain ⟨x5, vs5, rfl, hl5⟩ := len_succ hl4
            obtain ⟨x6, vs6, rfl, hl6⟩ := len_succ hl5
            obtain ⟨x7, vs7, rfl, hl7⟩ := len_succ hl6
            obtain ⟨x8, vs8, rfl, hl8⟩ := len_succ hl7
            obtain ⟨x9, vs9, rfl, hl9⟩ := len_succ hl8
            obtain ⟨x10, vs10, rfl, hl10⟩ := len_succ hl9
            obtain ⟨x11, vs11, rfl, hl11⟩ := len_succ hl10
            have hnil : vs11 = [] := List.length_eq_zero_iff.1 hl11
            subst hnil
            obtain rfl : x0 = .int .i64 k := hx0 _ rfl
            obtain rfl : x1 = .bool true := hx1 _ rfl
            obtain rfl : x2 = .bool true := hx2 _ rfl
            obtain rfl : x3 = undef := hx3 _ rfl
            obtain rfl : x4 = undef := hx4 _ rfl
            obtain rfl : x5 = undef := hx5 _ rfl
            obtain rfl : x6 = undef := hx6 _ rfl
            obtain rfl : x7 = undef := hx7 _ rfl
            obtain rfl : x8 = undef := hx8 _ rfl
            obtain rfl : x9 = undef := hx9 _ rfl
            obtain rfl : x10 = undef := hx10 _ rfl
            obtain rfl : x11 = .bool true := hx11 _ rfl
            clear hx0 hx1 hx2 hx3 hx4 hx5 hx6 hx7 hx8 hx9 hx10 hx11
            simp only [putAll, Act.put, List.setIfInBounds_toArray, List.set_cons_zero, List.set_cons_succ]
            have hT9 := VRow.ext HT8.out HE3.out
            have hB9 := VRow.ext HB.out HE3.out
            have hO9 := ownsRow_ext HO8.out HE3.out
            have hsz9 := HE3.out.size
            have HE39 := Lib.hid (Ext.trans HE8.out HE3.out)
            have m0 := VRow.cell hT9 (k := 0) rfl
            have m1 := VRow.cell hT9 (k := 1) rfl
            have HT39 := Lib.hid hT9
            have HB39 := Lib.hid hB9
            have HO39 := Lib.hid hO9
            clear hT9 hB9 hO9
            obtain ⟨i0, hi, hz0_, hz1, hz2⟩ := info_parts info31
            have HI := Lib.hid hi
            have HZ0 := Lib.hid hz0_
            have HZ1 := Lib.hid hz1
            have HZ2 := Lib.hid hz2
            clear hi hz0_ hz1 hz2
            have hob : ∀ j, u7.ownBlock = some j → t + 1 ≤ j := fun j hj => own_block HO39.out hj
            have hobr : ∀ j, u7.ownBlock = some j → j ≠ r9 := fun j hj => by have := (HOBL.out j hj).2; omega
            go_wp2_with (at_builtin; (refine wpList_append_own _ rfl _ _ 22 rfl (t + 1) 31 i0 (.agg #[.int .i64 0, .int .i64 0]) 2 16 Try.underlying22 HI.out HZ0.out HZ1.out HZ2.out rfl (by decide) _ _ _ rfl (ownsRow_ext HO39.out (Ext.alloc (Ext.refl w3) (.cells #[.int .i64 at_.1, .int .i64 at_.2] 31))) ⟨w3.heap.size, 0, none⟩ 1 1 [.int .i64 at_.1, .int .i64 at_.2] rfl rfl (fun j u h => cell_two_new w3 _ _ 31 j u h) (by simp [Value.oneCell']) (by unfold maxLen; omega) (by omega) (by simp; omega) ?_; intro v' w' hown' hgrow hnil; obtain ⟨g', cap', rfl⟩ := ownsRow_succ hown'; have HO9 := Lib.hid hown'; have HG9 := Lib.hid hgrow; have hm1 := VRow.grown (VRow.alloc HT39.out (.cells #[.int .i64 at_.1, .int .i64 at_.2] 31)) hgrow (fun e => by have := hob _ e.symm; omega); have hb1 := VRow.grown (VRow.alloc HB39.out (.cells #[.int .i64 at_.1, .int .i64 at_.2] 31)) hgrow (fun e => hobr _ e.symm rfl); clear m0 m1; have m0 := VRow.cell hm1 (k := 0) rfl; have m1 := VRow.cell hm1 (k := 1) rfl; have d0 := VRow.cell hb1 (k := 0) rfl; have d1 := VRow.cell hb1 (k := 1) rfl; have HT9 := Lib.hid hm1; clear hown' hgrow hm1 hb1 hnil))
            have HGG := Lib.hid HG9.out
            have HE9 := Lib.hid (show Ext w5 w' from Below.grown (Ext.alloc HE39.out (.cells #[.int .i64 at_.1, .int .i64 at_.2] 31)) HG9.out (by have := HE39.out.size; simp; omega) (fun j e => by have := hob j e; omega))
            have hce : cellsOf l ++ [.int .i64 at_.1, .int .i64 at_.2] = cellsOf (l ++ [at_]) := by rw [cellsOf_append]; rfl
            have HO9b := HO9.out
            rw [hce] at HO9b
            clear HO9
            have HO9 := Lib.hid HO9b
            clear HO9b hce
            refine (show Calls Try.prog 80 #[vecV at_.1 at_.2, vecV q.1 q.2] _ _ from (plus_w at_.1 at_.2 q.1 q.2 _ HWZ.out.1 HWZ.out.2.1 HWZ.out.2.2.1 HWZ.out.2.2.2).mono ?_)
            rintro e wz ⟨rfl, hEz⟩
            have HTz := Lib.hid (VRow.ext HT9.out hEz)
            have HOz := Lib.hid (ownsRow_ext HO9.out hEz)
            have HEz := Lib.hid (Ext.trans HE9.out hEz)
            clear hEz m0 m1 d0 d1
            have m0 := VRow.cell HTz.out (k := 0) rfl
            have m1 := VRow.cell HTz.out (k := 1) rfl
            have f0 := VRow.frozen HTz.out 0 none
            have f1 := VRow.frozen HTz.out 1 none
            go_wp2_with fail
            obtain ⟨hvz, hEy⟩ := vec_put HEz.out HTz.out hts (.int .i64 (at_.1 + q.1)) (.int .i64 (at_.2 + q.2))
            refine ⟨⟨k + 1, by omega, by (try simp) <;> (try omega), ?_, ?_, hEy⟩, by (try simp [intOf]) <;> (try omega)⟩
            · rw [HS.out]
              show World.ownsRow _ (t + 1) 31 2 _ (l ++ [at_]).length (cellsOf (l ++ [at_]))
              rw [show (l ++ [at_]).length = l.length + 1 by simp]
              exact own_put HOz.out (Nat.lt_succ_self t) _ _
            · rw [HS.out]
              exact hvz
        · obtain ⟨j, hj⟩ : ∃ j, k = j + 1 := ⟨k - 1, by omega⟩
          obtain ⟨p, hp⟩ := getElem?_len (show j < ds.length by omega)
          have hjl := lt_len hp
          have HCJ := Lib.hid (show w8.cell? ⟨g, j * 2, none⟩ = some (.int .i64 p.1) ∧ w8.cell? ⟨g, j * 2 + 1, none⟩ = some (.int .i64 p.2) by have := (PtsAt.ext HPT.out HE8.out) j p hp; rwa [Nat.zero_add] at this)
          have HDP := Lib.hid (HDK.out p (List.mem_of_getElem? hp))
          have HW1 := Lib.hid (show IntKind.i64.wrap ((k : Int) - 1) = (j : Int) by rw [show (k : Int) - 1 = (j : Int) by omega]; exact IntWalk.i64_in _ (by omega))
          obtain ⟨z, hz⟩ : ∃ z, z = angleZ p.1 p.2 q.1 q.2 := ⟨_, rfl⟩
          have HZ := Lib.hid hz
          have HANG := Lib.hid (show angP (fromP ds (k - 1)) (fromP ds k) = z by rw [hj, Nat.add_sub_cancel, fromP_of hp, ← hj, HFQ.out, hz]; rfl)
          clear hz hp
          have Hj := Lib.hid hj
          clear hj
          by_cases hz0 : z = 0
          · have HS := Lib.hid (show walkK A ds (k + 1) = (l, addP q at_) by rw [HWK.out, if_neg (by rw [HANG.out]; simp [hk0, hz0]), HFQ.out])
            clear HWK
            refine wp_region_stable [⟨[], none⟩, ⟨[(0, 32)], none⟩, ⟨[(1, 33)], none⟩, ⟨[(2, 34)], some (34, false)⟩, ⟨[(2, 34)], some (34, false)⟩, ⟨[(4, 36), (2, 34)], some (34, false)⟩, ⟨[(3, 35), (5, 37), (2, 34)], some (34, false)⟩, ⟨[(6, 38), (2, 34)], some (34, false)⟩, ⟨[(2, 34)], some (34, false)⟩, ⟨[(7, 39), (8, 40), (2, 34)], some (34, false)⟩, ⟨[(9, 41), (2, 34)], some (34, false)⟩, ⟨[(2, 34), (10, 42)], none⟩] (fun x y => Below x.heap.size x y) (MPat [MP.eq (.int .i64 k), MP.eq (.bool false), MP.eq (.bool false), MP.eq (.slice (some ⟨g, 0, none⟩) ds.length cg), MP.eq (.int .i64 k), MP.eq (.int .i64 j), MP.eq (.pointer (some ⟨g, j * 2, none⟩)), MP.eq (vecV p.1 p.2), MP.eq (vecV q.1 q.2), MP.eq (.int .i64 z), MP.eq (.bool false), MP.eq (.bool false)]) (by kernel_rfl) (fun _ _ _ h k => Ext.trans h k) (fun _ => Below.refl _ _) (fun x => (Below.refl x.heap.size x).drew) (MPat.mono _) (by kernel_rfl) ?obs ?rest
            case obs =>
              refine ⟨?_, ?_, ?_, ?_, ?_, ?_, ?_, ?_, ?_, ?_, ?_, ?_, trivial⟩
              · intro ev W hf _ _ hst hd
                have e8 : ev (.tmp 8) = .int .i64 k := hf 8 (by kernel_rfl)
                refine st_value (v := .int .i64 k) ?_ (Below.refl _ _) ?_
                · simp [execOp, go_sem, e8]
                · exact rfl
              · intro ev W hf hcst _ hst hd
                obtain ⟨d32, _⟩ := hd
                have e32 : ev (.tmp 32) = .int .i64 k := d32
                refine st_value (v := .bool false) ?_ (Below.refl _ _) ?_
                · simp [execOp, go_sem, e32, hcst, hk0]
                · exact rfl
              · intro ev W hf _ _ hst hd
                obtain ⟨d33, _⟩ := hd
                have e33 : ev (.tmp 33) = .bool false := d33
                refine st_value (v := .bool false) ?_ (Below.refl _ _) ?_
                · simp [execOp, go_sem, e33]
                · exact rfl
              · intro ev W hf _ _ hst hd
                obtain ⟨d34, _⟩ := hd
                have e5 : ev (.tmp 5) = .slice (some ⟨g, 0, none⟩) ds.length cg := hf 5 (by kernel_rfl)
                have e34 : ev (.tmp 34) = .bool false := d34
                refine ⟨fun _ => ?_, fun hne => absurd e34 hne⟩
                refine st_value (v := .slice (some ⟨g, 0, none⟩) ds.length cg) ?_ (Below.refl _ _) ?_
                · simp [execOp, go_sem, e5]
                · exact rfl
              · intro ev W hf _ _ hst hd
                obtain ⟨d34, _⟩ := hd
                have e8 : ev (.tmp 8) = .int .i64 k := hf 8 (by kernel_rfl)
                have e34 : ev (.tmp 34) = .bool false := d34
                refine ⟨fun _ => ?_, fun hne => absurd e34 hne⟩
                refine st_value (v := .int .i64 k) ?_ (Below.refl _ _) ?_
                · simp [execOp, go_sem, e8]
                · exact rfl
              · intro ev W hf hcst _ hst hd
                obtain ⟨d36, d34, _⟩ := hd
                have e36 : ev (.tmp 36) = .int .i64 k := d36
                have e34 : ev (.tmp 34) = .bool false := d34
                refine ⟨fun _ => ?_, fun hne => absurd e34 hne⟩
                refine st_value (v := .int .i64 j) ?_ (Below.refl _ _) ?_
                · simp [execOp, go_sem, e36, hcst, HW1.out]
                · exact rfl
              · intro ev W hf _ _ hst hd
                obtain ⟨d35, d37, d34, _⟩ := hd
                have e35 : ev (.tmp 35) = .slice (some ⟨g, 0, none⟩) ds.length cg := d35
                have e37 : ev (.tmp 37) = .int .i64 j := d37
                have e34 : ev (.tmp 34) = .bool false := d34
                refine ⟨fun _ => ?_, fun hne => absurd e34 hne⟩
                refine st_value (v := .pointer (some ⟨g, j * 2, none⟩)) ?_ (Below.refl _ _) ?_
                · simp [execOp, go_sem, e35, e37, hjl]
                · exact rfl
              · intro ev W hf _ _ hst hd
                obtain ⟨d38, d34, _⟩ := hd
                have e38 : ev (.tmp 38) = .pointer (some ⟨g, j * 2, none⟩) := d38
                have e34 : ev (.tmp 34) = .bool false := d34
                refine ⟨fun _ => ?_, fun hne => absurd e34 hne⟩
                have k0 := Ext.cell hst HCJ.out.1
                have k1 := Ext.cell hst HCJ.out.2
                refine st_value (v := vecV p.1 p.2) ?_ (Below.refl _ _) ?_
                · simp [execOp, go_sem, e38, k0, k1]
                · exact rfl
              · intro ev W hf _ _ hst hd
                obtain ⟨d34, _⟩ := hd
                have e9 : ev (.tmp 9) = .pointer (some ⟨r9, 0, none⟩) := hf 9 (by kernel_rfl)
                have e34 : ev (.tmp 34) = .bool false := d34
                refine ⟨fun _ => ?_, fun hne => absurd e34 hne⟩
                have kk := VRow.ext HB.out hst
                have k0 := VRow.cell kk (k := 0) rfl
                have k1 := VRow.cell kk (k := 1) rfl
                refine st_value (v := vecV q.1 q.2) ?_ (Below.refl _ _) ?_
                · simp [execOp, go_sem, e9, k0, k1]
                · exact rfl
              · intro ev W hf _ hfn hst hd
                obtain ⟨d39, d40, d34, _⟩ := hd
                have e39 : ev (.tmp 39) = vecV p.1 p.2 := d39
                have e40 : ev (.tmp 40) = vecV q.1 q.2 := d40
                have e34 : ev (.tmp 34) = .bool false := d34
                refine ⟨fun _ => ?_, fun hne => absurd e34 hne⟩
                refine st_call (f := 102) (args := #[vecV p.1 p.2, vecV q.1 q.2]) (by simp [execOp, go_sem, hfn, e39, e40]) (by rw [HZ.out]; exact byAngle_c p.1 p.2 q.1 q.2 W HDP.out.2.1 HDP.out.2.2.1 HDQ.out.2.1 HDQ.out.2.2.1) (fun _ _ => rfl)
              · intro ev W hf hcst _ hst hd
                obtain ⟨d41, d34, _⟩ := hd
                have e41 : ev (.tmp 41) = .int .i64 z := d41
                have e34 : ev (.tmp 34) = .bool false := d34
                refine ⟨fun _ => ?_, fun hne => absurd e34 hne⟩
                refine st_value (v := .bool false) ?_ (Below.refl _ _) ?_
                · simp [execOp, go_sem, e41, hcst, hz0]
                · exact rfl
              · intro ev W hf hcst _ hst hd
                obtain ⟨d34, d42, _⟩ := hd
                have e34 : ev (.tmp 34) = .bool false := d34
                have e42 : ev (.tmp 42) = .bool false := d42
                refine st_value (v := .bool false) ?_ (Below.refl _ _) ?_
                · simp [execOp, go_sem, e34, e42, hcst]
                · exact rfl
            case rest =>
              intro vs w3 hl hst hg
              have hx0 : ∀ u, vs[0]? = some u → u = .int .i64 k := fun u hu => hg 0 u hu
              have hx1 : ∀ u, vs[1]? = some u → u = .bool false := fun u hu => hg 1 u hu
              have hx2 : ∀ u, vs[2]? = some u → u = .bool false := fun u hu => hg 2 u hu
              have hx3 : ∀ u, vs[3]? = some u → u = .slice (some ⟨g, 0, none⟩) ds.length cg := fun u hu => hg 3 u hu
              have hx4 : ∀ u, vs[4]? = some u → u = .int .i64 k := fun u hu => hg 4 u hu
              have hx5 : ∀ u, vs[5]? = some u → u = .int .i64 j := fun u hu => hg 5 u hu
              have hx6 : ∀ u, vs[6]? = some u → u = .pointer (some ⟨g, j * 2, none⟩) := fun u hu => hg 6 u hu
              have hx7 : ∀ u, vs[7]? = some u → u = vecV p.1 p.2 := fun u hu => hg 7 u hu
              have hx8 : ∀ u, vs[8]? = some u → u = vecV q.1 q.2 := fun u hu => hg 8 u hu
              have hx9 : ∀ u, vs[9]? = some u → u = .int .i64 z := fun u hu => hg 9 u hu
              have hx10 : ∀ u, vs[10]? = some u → u = .bool false := fun u hu => hg 10 u hu
              have hx11 : ∀ u, vs[11]? = some u → u = .bool false := fun u hu => hg 11 u hu
              have HE3 := Lib.hid hst
              clear hg hst
              obtain ⟨x0, vs0, rfl, hl0⟩ := len_succ hl
              obtain ⟨x1, vs1, rfl, hl1⟩ := len_succ hl0
              obtain ⟨x2, vs2, rfl, hl2⟩ := len_succ hl1
              obtain ⟨x3, vs3, rfl, hl3⟩ := len_succ hl2
              obtain ⟨x4, vs4, rfl, hl4⟩ := len_succ hl3
              obtain ⟨x5, vs5, rfl, hl5⟩ := len_succ hl4
              obtain ⟨x6, vs6, rfl, hl6⟩ := len_succ hl5
              obtain ⟨x7, vs7, rfl, hl7⟩ := len_succ hl6
              obtain ⟨x8, vs8, rfl, hl8⟩ := len_succ hl7
              obtain ⟨x9, vs9, rfl, hl9⟩ := len_succ hl8
              obtain ⟨x10, vs10, rfl, hl10⟩ := len_succ hl9
              obtain ⟨x11, vs11, rfl, hl11⟩ := len_succ hl10
              have hnil : vs11 = [] := List.length_eq_zero_iff.1 hl11
              subst hnil
              obtain rfl : x0 = .int .i64 k := hx0 _ rfl
              obtain rfl : x1 = .bool false := hx1 _ rfl
              obtain rfl : x2 = .bool false := hx2 _ rfl
              obtain rfl : x3 = .slice (some ⟨g, 0, none⟩) ds.length cg := hx3 _ rfl
              obtain rfl : x4 = .int .i64 k := hx4 _ rfl
              obtain rfl : x5 = .int .i64 j := hx5 _ rfl
              obtain rfl : x6 = .pointer (some ⟨g, j * 2, none⟩) := hx6 _ rfl
              obtain rfl : x7 = vecV p.1 p.2 := hx7 _ rfl
              obtain rfl : x8 = vecV q.1 q.2 := hx8 _ rfl
              obtain rfl : x9 = .int .i64 z := hx9 _ rfl
              obtain rfl : x10 = .bool false := hx10 _ rfl
              obtain rfl : x11 = .bool false := hx11 _ rfl
              clear hx0 hx1 hx2 hx3 hx4 hx5 hx6 hx7 hx8 hx9 hx10 hx11
              simp only [putAll, Act.put, List.setIfInBounds_toArray, List.set_cons_zero, List.set_cons_succ]
              have HT9 := Lib.hid (VRow.ext HT8.out HE3.out)
              have hB9 := VRow.ext HB.out HE3.out
              have HO9 := Lib.hid (ownsRow_ext HO8.out HE3.out)
              have HE9 := Lib.hid (Ext.trans HE8.out HE3.out)
              have m0 := VRow.cell HT9.out (k := 0) rfl
              have m1 := VRow.cell HT9.out (k := 1) rfl
              have d0 := VRow.cell hB9 (k := 0) rfl
              have d1 := VRow.cell hB9 (k := 1) rfl
              clear hB9
              go_wp2_with fail
              refine (show Calls Try.prog 80 #[vecV at_.1 at_.2, vecV q.1 q.2] _ _ from (plus_w at_.1 at_.2 q.1 q.2 _ HWZ.out.1 HWZ.out.2.1 HWZ.out.2.2.1 HWZ.out.2.2.2).mono ?_)
              rintro e wz ⟨rfl, hEz⟩
              have HTz := Lib.hid (VRow.ext HT9.out hEz)
              have HOz := Lib.hid (ownsRow_ext HO9.out hEz)
              have HEz := Lib.hid (Ext.trans HE9.out hEz)
              clear hEz m0 m1 d0 d1
              have m0 := VRow.cell HTz.out (k := 0) rfl
              have m1 := VRow.cell HTz.out (k := 1) rfl
              have f0 := VRow.frozen HTz.out 0 none
              have f1 := VRow.frozen HTz.out 1 none
              go_wp2_with fail
              obtain ⟨hvz, hEy⟩ := vec_put HEz.out HTz.out hts (.int .i64 (at_.1 + q.1)) (.int .i64 (at_.2 + q.2))
              refine ⟨⟨k + 1, by omega, by (try simp) <;> (try omega), ?_, ?_, hEy⟩, by (try simp [intOf]) <;> (try omega)⟩
              · rw [HS.out]
                exact own_put HOz.out (Nat.lt_succ_self t) _ _
              · rw [HS.out]
                exact hvz
          · have HS := Lib.hid (show walkK A ds (k + 1) = (l ++ [at_], addP q at_) by rw [HWK.out, if_pos (.inr (by rw [HANG.out]; exact hz0)), HFQ.out])
            clear HWK
            refine wp_region_stable [⟨[], none⟩, ⟨[(0, 32)], none⟩, ⟨[(1, 33)], none⟩, ⟨[(2, 34)], some (34, false)⟩, ⟨[(2, 34)], some (34, false)⟩, ⟨[(4, 36), (2, 34)], some (34, false)⟩, ⟨[(3, 35), (5, 37), (2, 34)], some (34, false)⟩, ⟨[(6, 38), (2, 34)], some (34, false)⟩, ⟨[(2, 34)], some (34, false)⟩, ⟨[(7, 39), (8, 40), (2, 34)], some (34, false)⟩, ⟨[(9, 41), (2, 34)], some (34, false)⟩, ⟨[(2, 34), (10, 42)], none⟩] (fun x y => Below x.heap.size x y) (MPat [MP.eq (.int .i64 k), MP.eq (.bool false), MP.eq (.bool false), MP.eq (.slice (some ⟨g, 0, none⟩) ds.length cg), MP.eq (.int .i64 k), MP.eq (.int .i64 j), MP.eq (.pointer (some ⟨g, j * 2, none⟩)), MP.eq (vecV p.1 p.2), MP.eq (vecV q.1 q.2), MP.eq (.int .i64 z), MP.eq (.bool true), MP.eq (.bool true)]) (by kernel_rfl) (fun _ _ _ h k => Ext.trans h k) (fun _ => Below.refl _ _) (fun x => (Below.refl x.heap.size x).drew) (MPat.mono _) (by kernel_rfl) ?obs ?rest
            case obs =>
              refine ⟨?_, ?_, ?_, ?_, ?_, ?_, ?_, ?_, ?_, ?_, ?_, ?_, trivial⟩
              · intro ev W hf _ _ hst hd
                have e8 : ev (.tmp 8) = .int .i64 k := hf 8 (by kernel_rfl)
                refine st_value (v := .int .i64 k) ?_ (Below.refl _ _) ?_
                · simp [execOp, go_sem, e8]
                · exact rfl
              · intro ev W hf hcst _ hst hd
                obtain ⟨d32, _⟩ := hd
                have e32 : ev (.tmp 32) = .int .i64 k := d32
                refine st_value (v := .bool false) ?_ (Below.refl _ _) ?_
                · simp [execOp, go_sem, e32, hcst, hk0]
                · exact rfl
              · intro ev W hf _ _ hst hd
                obtain ⟨d33, _⟩ := hd
                have e33 : ev (.tmp 33) = .bool false := d33
                refine st_value (v := .bool false) ?_ (Below.refl _ _) ?_
                · simp [execOp, go_sem, e33]
                · exact rfl
              · intro ev W hf _ _ hst hd
                obtain ⟨d34, _⟩ := hd
                have e5 : ev (.tmp 5) = .slice (some ⟨g, 0, none⟩) ds.length cg := hf 5 (by kernel_rfl)
                have e34 : ev (.tmp 34) = .bool false := d34
                refine ⟨fun _ => ?_, fun hne => absurd e34 hne⟩
                refine st_value (v := .slice (some ⟨g, 0, none⟩) ds.length cg) ?_ (Below.refl _ _) ?_
                · simp [execOp, go_sem, e5]
                · exact rfl
              · intro ev W hf _ _ hst hd
                obtain ⟨d34, _⟩ := hd
                have e8 : ev (.tmp 8) = .int .i64 k := hf 8 (by kernel_rfl)
                have e34 : ev (.tmp 34) = .bool false := d34
                refine ⟨fun _ => ?_, fun hne => absurd e34 hne⟩
                refine st_value (v := .int .i64 k) ?_ (Below.refl _ _) ?_
                · simp [execOp, go_sem, e8]
                · exact rfl
              · intro ev W hf hcst _ hst hd
                obtain ⟨d36, d34, _⟩ := hd
                have e36 : ev (.tmp 36) = .int .i64 k := d36
                have e34 : ev (.tmp 34) = .bool false := d34
                refine ⟨fun _ => ?_, fun hne => absurd e34 hne⟩
                refine st_value (v := .int .i64 j) ?_ (Below.refl _ _) ?_
                · simp [execOp, go_sem, e36, hcst, HW1.out]
                · exact rfl
              · intro ev W hf _ _ hst hd
                obtain ⟨d35, d37, d34, _⟩ := hd
                have e35 : ev (.tmp 35) = .slice (some ⟨g, 0, none⟩) ds.length cg := d35
                have e37 : ev (.tmp 37) = .int .i64 j := d37
                have e34 : ev (.tmp 34) = .bool false := d34
                refine ⟨fun _ => ?_, fun hne => absurd e34 hne⟩
                refine st_value (v := .pointer (some ⟨g, j * 2, none⟩)) ?_ (Below.refl _ _) ?_
                · simp [execOp, go_sem, e35, e37, hjl]
                · exact rfl
              · intro ev W hf _ _ hst hd
                obtain ⟨d38, d34, _⟩ := hd
                have e38 : ev (.tmp 38) = .pointer (some ⟨g, j * 2, none⟩) := d38
                have e34 : ev (.tmp 34) = .bool false := d34
                refine ⟨fun _ => ?_, fun hne => absurd e34 hne⟩
                have k0 := Ext.cell hst HCJ.out.1
                have k1 := Ext.cell hst HCJ.out.2
                refine st_value (v := vecV p.1 p.2) ?_ (Below.refl _ _) ?_
                · simp [execOp, go_sem, e38, k0, k1]
                · exact rfl
              · intro ev W hf _ _ hst hd
                obtain ⟨d34, _⟩ := hd
                have e9 : ev (.tmp 9) = .pointer (some ⟨r9, 0, none⟩) := hf 9 (by kernel_rfl)
                have e34 : ev (.tmp 34) = .bool false := d34
                refine ⟨fun _ => ?_, fun hne => absurd e34 hne⟩
                have kk := VRow.ext HB.out hst
                have k0 := VRow.cell kk (k := 0) rfl
                have k1 := VRow.cell kk (k := 1) rfl
                refine st_value (v := vecV q.1 q.2) ?_ (Below.refl _ _) ?_
                · simp [execOp, go_sem, e9, k0, k1]
                · exact rfl
              · intro ev W hf _ hfn hst hd
                obtain ⟨d39, d40, d34, _⟩ := hd
                have e39 : ev (.tmp 39) = vecV p.1 p.2 := d39
                have e40 : ev (.tmp 40) = vecV q.1 q.2 := d40
                have e34 : ev (.tmp 34) = .bool false := d34
                refine ⟨fun _ => ?_, fun hne => absurd e34 hne⟩
                refine st_call (f := 102) (args := #[vecV p.1 p.2, vecV q.1 q.2]) (by simp [execOp, go_sem, hfn, e39, e40]) (by rw [HZ.out]; exact byAngle_c p.1 p.2 q.1 q.2 W HDP.out.2.1 HDP.out.2.2.1 HDQ.out.2.1 HDQ.out.2.2.1) (fun _ _ => rfl)
              · intro ev W hf hcst _ hst hd
                obtain ⟨d41, d34, _⟩ := hd
                have e41 : ev (.tmp 41) = .int .i64 z := d41
                have e34 : ev (.tmp 34) = .bool false := d34
                refine ⟨fun _ => ?_, fun hne => absurd e34 hne⟩
                refine st_value (v := .bool true) ?_ (Below.refl _ _) ?_
                · simp [execOp, go_sem, e41, hcst, hz0]
                · exact rfl
              · intro ev W hf hcst _ hst hd
                obtain ⟨d34, d42, _⟩ := hd
                have e34 : ev (.tmp 34) = .bool false := d34
                have e42 : ev (.tmp 42) = .bool true := d42
                refine st_value (v := .bool true) ?_ (Below.refl _ _) ?_
                · simp [execOp, go_sem, e34, e42, hcst]
                · exact rfl
            case rest =>
              intro vs w3 hl hst hg
              have hx0 : ∀ u, vs[0]? = some u → u = .int .i64 k := fun u hu => hg 0 u hu
              have hx1 : ∀ u, vs[1]? = some u → u = .bool false := fun u hu => hg 1 u hu
              have hx2 : ∀ u, vs[2]? = some u → u = .bool false := fun u hu => hg 2 u hu
              have hx3 : ∀ u, vs[3]? = some u → u = .slice (some ⟨g, 0, none⟩) ds.length cg := fun u hu => hg 3 u hu
              have hx4 : ∀ u, vs[4]? = some u → u = .int .i64 k := fun u hu => hg 4 u hu
              have hx5 : ∀ u, vs[5]? = some u → u = .int .i64 j := fun u hu => hg 5 u hu
              have hx6 : ∀ u, vs[6]? = some u → u = .pointer (some ⟨g, j * 2, none⟩) := fun u hu => hg 6 u hu
              have hx7 : ∀ u, vs[7]? = some u → u = vecV p.1 p.2 := fun u hu => hg 7 u hu
              have hx8 : ∀ u, vs[8]? = some u → u = vecV q.1 q.2 := fun u hu => hg 8 u hu
              have hx9 : ∀ u, vs[9]? = some u → u = .int .i64 z := fun u hu => hg 9 u hu
              have hx10 : ∀ u, vs[10]? = some u → u = .bool true := fun u hu => hg 10 u hu
              have hx11 : ∀ u, vs[11]? = some u → u = .bool true := fun u hu => hg 11 u hu
              have HE3 := Lib.hid hst
              clear hg hst
              obtain ⟨x0, vs0, rfl, hl0⟩ := len_succ hl
              obtain ⟨x1, vs1, rfl, hl1⟩ := len_succ hl0
              obtain ⟨x2, vs2, rfl, hl2⟩ := len_succ hl1
              obtain ⟨x3, vs3, rfl, hl3⟩ := len_succ hl2
              obtain ⟨x4, vs4, rfl, hl4⟩ := len_succ hl3
              obtain ⟨x5, vs5, rfl, hl5⟩ := len_succ hl4
              obtain ⟨x6, vs6, rfl, hl6⟩ := len_succ hl5
              obtain ⟨x7, vs7, rfl, hl7⟩ := len_succ hl6
              obtain ⟨x8, vs8, rfl, hl8⟩ := len_succ hl7
              obtain ⟨x9, vs9, rfl, hl9⟩ := len_succ hl8
              obtain ⟨x10, vs10, rfl, hl10⟩ := len_succ hl9
              obtain ⟨x11, vs11, rfl, hl11⟩ := len_succ hl10
              have hnil : vs11 = [] := List.length_eq_zero_iff.1 hl11
              subst hnil
              obtain rfl : x0 = .int .i64 k := hx0 _ rfl
              obtain rfl : x1 = .bool false := hx1 _ rfl
              obtain rfl : x2 = .bool false := hx2 _ rfl
              obtain rfl : x3 = .slice (some ⟨g, 0, none⟩) ds.length cg := hx3 _ rfl
              obtain rfl : x4 = .int .i64 k := hx4 _ rfl
              obtain rfl : x5 = .int .i64 j := hx5 _ rfl
              obtain rfl : x6 = .pointer (some ⟨g, j * 2, none⟩) := hx6 _ rfl
              obtain rfl : x7 = vecV p.1 p.2 := hx7 _ rfl
              obtain rfl : x8 = vecV q.1 q.2 := hx8 _ rfl
              obtain rfl : x9 = .int .i64 z := hx9 _ rfl
              obtain rfl : x10 = .bool true := hx10 _ rfl
              obtain rfl : x11 = .bool true := hx11 _ rfl
              clear hx0 hx1 hx2 hx3 hx4 hx5 hx6 hx7 hx8 hx9 hx10 hx11
              simp only [putAll, Act.put, List.setIfInBounds_toArray, List.set_cons_zero, List.set_cons_succ]
              have hT9 := VRow.ext HT8.out HE3.out
              have hB9 := VRow.ext HB.out HE3.out
              have hO9 := ownsRow_ext HO8.out HE3.out
              have hsz9 := HE3.out.size
              have HE39 := Lib.hid (Ext.trans HE8.out HE3.out)
              have m0 := VRow.cell hT9 (k := 0) rfl
              have m1 := VRow.cell hT9 (k := 1) rfl
              have HT39 := Lib.hid hT9
              have HB39 := Lib.hid hB9
              have HO39 := Lib.hid hO9
              clear hT9 hB9 hO9
              obtain ⟨i0, hi, hz0_, hz1, hz2⟩ := info_parts info31
              have HI := Lib.hid hi
              have HZ0 := Lib.hid hz0_
              have HZ1 := Lib.hid hz1
              have HZ2 := Lib.hid hz2
              clear hi hz0_ hz1 hz2
              have hob : ∀ j, u7.ownBlock = some j → t + 1 ≤ j := fun j hj => own_block HO39.out hj
              have hobr : ∀ j, u7.ownBlock = some j → j ≠ r9 := fun j hj => by have := (HOBL.out j hj).2; omega
              go_wp2_with (at_builtin; (refine wpList_append_own _ rfl _ _ 22 rfl (t + 1) 31 i0 (.agg #[.int .i64 0, .int .i64 0]) 2 16 Try.underlying22 HI.out HZ0.out HZ1.out HZ2.out rfl (by decide) _ _ _ rfl (ownsRow_ext HO39.out (Ext.alloc (Ext.refl w3) (.cells #[.int .i64 at_.1, .int .i64 at_.2] 31))) ⟨w3.heap.size, 0, none⟩ 1 1 [.int .i64 at_.1, .int .i64 at_.2] rfl rfl (fun j u h => cell_two_new w3 _ _ 31 j u h) (by simp [Value.oneCell']) (by unfold maxLen; omega) (by omega) (by simp; omega) ?_; intro v' w' hown' hgrow hnil; obtain ⟨g', cap', rfl⟩ := ownsRow_succ hown'; have HO9 := Lib.hid hown'; have HG9 := Lib.hid hgrow; have hm1 := VRow.grown (VRow.alloc HT39.out (.cells #[.int .i64 at_.1, .int .i64 at_.2] 31)) hgrow (fun e => by have := hob _ e.symm; omega); have hb1 := VRow.grown (VRow.alloc HB39.out (.cells #[.int .i64 at_.1, .int .i64 at_.2] 31)) hgrow (fun e => hobr _ e.symm rfl); clear m0 m1; have m0 := VRow.cell hm1 (k := 0) rfl; have m1 := VRow.cell hm1 (k := 1) rfl; have d0 := VRow.cell hb1 (k := 0) rfl; have d1 := VRow.cell hb1 (k := 1) rfl; have HT9 := Lib.hid hm1; clear hown' hgrow hm1 hb1 hnil))
              have HGG := Lib.hid HG9.out
              have HE9 := Lib.hid (show Ext w5 w' from Below.grown (Ext.alloc HE39.out (.cells #[.int .i64 at_.1, .int .i64 at_.2] 31)) HG9.out (by have := HE39.out.size; simp; omega) (fun j e => by have := hob j e; omega))
              have hce : cellsOf l ++ [.int .i64 at_.1, .int .i64 at_.2] = cellsOf (l ++ [at_]) := by rw [cellsOf_append]; rfl
              have HO9b := HO9.out
              rw [hce] at HO9b
              clear HO9
              have HO9 := Lib.hid HO9b
              clear HO9b hce
              refine (show Calls Try.prog 80 #[vecV at_.1 at_.2, vecV q.1 q.2] _ _ from (plus_w at_.1 at_.2 q.1 q.2 _ HWZ.out.1 HWZ.out.2.1 HWZ.out.2.2.1 HWZ.out.2.2.2).mono ?_)
              rintro e wz ⟨rfl, hEz⟩
              have HTz := Lib.hid (VRow.ext HT9.out hEz)
              have HOz := Lib.hid (ownsRow_ext HO9.out hEz)
              have HEz := Lib.hid (Ext.trans HE9.out hEz)
              clear hEz m0 m1 d0 d1
              have m0 := VRow.cell HTz.out (k := 0) rfl
              have m1 := VRow.cell HTz.out (k := 1) rfl
              have f0 := VRow.frozen HTz.out 0 none
              have f1 := VRow.frozen HTz.out 1 none
              go_wp2_with fail
              obtain ⟨hvz, hEy⟩ := vec_put HEz.out HTz.out hts (.int .i64 (at_.1 + q.1)) (.int .i64 (at_.2 + q.2))
              refine ⟨⟨k + 1, by omega, by (try simp) <;> (try omega), ?_, ?_, hEy⟩, by (try simp [intOf]) <;> (try omega)⟩
              · rw [HS.out]
                show World.ownsRow _ (t + 1) 31 2 _ (l ++ [at_]).length (cellsOf (l ++ [at_]))
                rw [show (l ++ [at_]).length = l.length + 1 by simp]
                exact own_put HOz.out (Nat.lt_succ_self t) _ _
              · rw [HS.out]
                exact hvz
      · obtain rfl : k = ds.length := by omega
        go_wp2_with fail
        go_ret
        refine ⟨_, ds, rfl, by rw [HALL.out]; exact HPerm.out, Hpw.out, ?_, Ext.trans HE5.out HE.out⟩
        rw [← HAA.out]
        have hwl := HWL.out ds.length
        exact vecs_own HO.out (by omega)
end Go.Proofs.Ytnpebfchojalcaa
