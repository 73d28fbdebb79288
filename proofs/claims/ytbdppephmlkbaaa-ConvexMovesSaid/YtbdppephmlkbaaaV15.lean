import Derived.Test.YtbdppephmlkbaaaV14
namespace Go.Proofs.Ytbdppephmlkbaaa
set_option maxRecDepth 100000
open Go.RowKit Go.Shelf
def idxK (m : Pt) : List Pt → Nat
  | [] => 0
  | q :: r => if q = m then 0 else idxK m r + 1
theorem idxK_at {m : Pt} : ∀ {qs : List Pt} {k : Nat}, (∀ j q, j < k → qs[j]? = some q → q ≠ m) → qs[k]? = some m → idxK m qs = k := by
  intro qs
  induction qs with
  | nil => intro k _ h; simp at h
  | cons a r ih =>
    intro k h hk
    cases k with
    | zero => simp at hk; simp [idxK, hk]
    | succ k =>
      have h0 := h 0 a (by omega) rfl
      rw [idxK, if_neg h0, ih (k := k) (fun j q hj hq => h (j + 1) q (by omega) (by simpa using hq)) (by simpa using hk)]
set_option maxRecDepth 100000 in
set_option maxHeartbeats 1000000 in
theorem idx_c (v : Value) (qs : List Pt) (m : Pt) (w : World) (hv : Vecs w v qs) (hm : m ∈ qs) :
    Calls Try.prog 62 #[v, vecV m.1 m.2] w fun e w' => e = .returned (.int .i64 (idxK m qs : Nat)) ∧ Ext w w' := by
  obtain ⟨a, cap, rfl, hl, hmx, hr⟩ := hv.at
  have hE0 := Ext.alloc (Ext.refl w) (.cells #[.int .i64 m.1, .int .i64 m.2] 32)
  have HR := Lib.hid hr
  have HB := Lib.hid (show VRow (w.alloc (.cells #[.int .i64 m.1, .int .i64 m.2] 32)) _ _ _ from vrow_alloc w [.int .i64 m.1, .int .i64 m.2] 32)
  have HE0 := Lib.hid hE0
  have HMem := Lib.hid hm
  clear hv hr hm hE0
  go_enter Try.func62, Try.ntmps62
  go_wp2_with fail
  generalize w.alloc (.cells #[.int .i64 m.1, .int .i64 m.2] 32) = w1 at *
  go_loopw [8] (fun i wr => ∃ k : Nat, k ≤ qs.length ∧ (∀ j q, j < k → qs[j]? = some q → q ≠ m) ∧ i = .int .i64 k ∧ Ext w1 wr) (fun i _ => qs.length - (intOf i).toNat)
  case atStart => exact ⟨0, Nat.zero_le _, fun j q hj => by omega, rfl, Ext.refl _⟩
  case round =>
    obtain ⟨k, hk, hall, rfl, hE⟩ := hrel
    have Hall := Lib.hid hall
    have HE := Lib.hid hE
    clear hall hE
    by_cases hlt : k < qs.length
    · obtain ⟨q, hq⟩ := getElem?_len hlt
      obtain ⟨b, o, rfl, c0, c1⟩ := HR.out k q hq
      have HC := Lib.hid (show wr.cell? _ = _ ∧ wr.cell? _ = _ from ⟨Ext.cell (Ext.trans HE0.out HE.out) c0, Ext.cell (Ext.trans HE0.out HE.out) c1⟩)
      have HM := Lib.hid (VRow.ext HB.out HE.out)
      have Hq := Lib.hid hq
      clear hq c0 c1
      by_cases heq : q = m
      · have Heq := Lib.hid heq
        clear heq
        go_wp2_with fail
        refine wp_region_stable [⟨[], none⟩, ⟨[], none⟩, ⟨[], none⟩, ⟨[(1, 12), (2, 13)], none⟩, ⟨[(3, 14)], none⟩, ⟨[(0, 11), (4, 15)], none⟩] (fun x y => Below x.heap.size x y) (MPat [MP.eq (vecV m.1 m.2), MP.eq (.slice (some ⟨b, o, none⟩) qs.length cap), MP.eq (.int .i64 k), MP.eq (.pointer (some ⟨b, o + k * 2, none⟩)), MP.eq (vecV q.1 q.2), MP.eq (.bool true)]) (by kernel_rfl) (fun _ _ _ h k => Ext.trans h k) (fun _ => Below.refl _ _) (fun x => (Below.refl x.heap.size x).drew) (MPat.mono _) (by kernel_rfl) ?obs ?rest
        case obs =>
          refine ⟨?_, ?_, ?_, ?_, ?_, ?_, trivial⟩
          · intro ev W hf _ _ hst hd
            have e3 : ev (.tmp 3) = .pointer (some ⟨w.heap.size, 0, none⟩) := hf 3 (by kernel_rfl)
            have kk := VRow.ext HM.out hst
            have k0 := VRow.cell kk (k := 0) rfl
            have k1 := VRow.cell kk (k := 1) rfl
            refine st_value (v := vecV m.1 m.2) ?_ (Below.refl _ _) ?_
            · simp [execOp, go_sem, e3, k0, k1]
            · exact rfl
          · intro ev W hf _ _ hst hd
            have e0 : ev (.tmp 0) = .slice (some ⟨b, o, none⟩) qs.length cap := hf 0 (by kernel_rfl)
            refine st_value (v := .slice (some ⟨b, o, none⟩) qs.length cap) ?_ (Below.refl _ _) ?_
            · simp [execOp, go_sem, e0]
            · exact rfl
          · intro ev W hf _ _ hst hd
            have e5 : ev (.tmp 5) = .int .i64 k := hf 5 (by kernel_rfl)
            refine st_value (v := .int .i64 k) ?_ (Below.refl _ _) ?_
            · simp [execOp, go_sem, e5]
            · exact rfl
          · intro ev W hf _ _ hst hd
            obtain ⟨d12, d13, _⟩ := hd
            have e12 : ev (.tmp 12) = .slice (some ⟨b, o, none⟩) qs.length cap := d12
            have e13 : ev (.tmp 13) = .int .i64 k := d13
            refine st_value (v := .pointer (some ⟨b, o + k * 2, none⟩)) ?_ (Below.refl _ _) ?_
            · simp [execOp, go_sem, e12, e13, hlt]
            · exact rfl
          · intro ev W hf _ _ hst hd
            obtain ⟨d14, _⟩ := hd
            have e14 : ev (.tmp 14) = .pointer (some ⟨b, o + k * 2, none⟩) := d14
            have k0 := Ext.cell hst HC.out.1
            have k1 := Ext.cell hst HC.out.2
            refine st_value (v := vecV q.1 q.2) ?_ (Below.refl _ _) ?_
            · simp [execOp, go_sem, e14, k0, k1]
            · exact rfl
          · intro ev W hf _ _ hst hd
            obtain ⟨d11, d15, _⟩ := hd
            have e11 : ev (.tmp 11) = vecV m.1 m.2 := d11
            have e15 : ev (.tmp 15) = vecV q.1 q.2 := d15
            have g1 : m.1 = q.1 := by rw [Heq.out]
            have g2 : m.2 = q.2 := by rw [Heq.out]
            refine st_value (v := .bool true) ?_ (Below.refl _ _) ?_
            · simp [execOp, go_sem, e11, e15, g1, g2]
            · exact rfl
        case rest =>
          intro vs w3 hl hst hg
          have hx0 : ∀ u, vs[0]? = some u → u = vecV m.1 m.2 := fun u hu => hg 0 u hu
          have hx1 : ∀ u, vs[1]? = some u → u = .slice (some ⟨b, o, none⟩) qs.length cap := fun u hu => hg 1 u hu
          have hx2 : ∀ u, vs[2]? = some u → u = .int .i64 k := fun u hu => hg 2 u hu
          have hx3 : ∀ u, vs[3]? = some u → u = .pointer (some ⟨b, o + k * 2, none⟩) := fun u hu => hg 3 u hu
          have hx4 : ∀ u, vs[4]? = some u → u = vecV q.1 q.2 := fun u hu => hg 4 u hu
          have hx5 : ∀ u, vs[5]? = some u → u = .bool true := fun u hu => hg 5 u hu
          have HE3 := Lib.hid hst
          clear hg hst
          obtain ⟨x0, vs0, rfl, hl0⟩ := len_succ hl
          obtain ⟨x1, vs1, rfl, hl1⟩ := len_succ hl0
          obtain ⟨x2, vs2, rfl, hl2⟩ := len_succ hl1
          obtain ⟨x3, vs3, rfl, hl3⟩ := len_succ hl2
          obtain ⟨x4, vs4, rfl, hl4⟩ := len_succ hl3
          obtain ⟨x5, vs5, rfl, hl5⟩ := len_succ hl4
          have hnil : vs5 = [] := List.length_eq_zero_iff.1 hl5
          subst hnil
          obtain rfl : x0 = vecV m.1 m.2 := hx0 _ rfl
          obtain rfl : x1 = .slice (some ⟨b, o, none⟩) qs.length cap := hx1 _ rfl
          obtain rfl : x2 = .int .i64 k := hx2 _ rfl
          obtain rfl : x3 = .pointer (some ⟨b, o + k * 2, none⟩) := hx3 _ rfl
          obtain rfl : x4 = vecV q.1 q.2 := hx4 _ rfl
          obtain rfl : x5 = .bool true := hx5 _ rfl
          clear hx0 hx1 hx2 hx3 hx4 hx5
          simp only [putAll, Act.put, List.setIfInBounds_toArray, List.set_cons_zero, List.set_cons_succ]
          go_wp2
          go_ret
          exact ⟨by rw [idxK_at Hall.out (by rw [Hq.out, Heq.out])]; rfl, Ext.trans HE0.out (Ext.trans HE.out HE3.out)⟩
      · have hb : (m.1 == q.1 && m.2 == q.2) = false := by
          rw [Bool.eq_false_iff]
          intro h
          simp at h
          exact heq (by obtain ⟨a1, a2⟩ := q; obtain ⟨b1, b2⟩ := m; simp at h ⊢; exact ⟨h.1.symm, h.2.symm⟩)
        have HNE := Lib.hid (show m.1 = q.1 → ¬ m.2 = q.2 from fun g1 g2 => by rw [g1, g2] at hb; simp at hb)
        have Heq := Lib.hid heq
        clear hb heq
        go_wp2_with fail
        refine wp_region_stable [⟨[], none⟩, ⟨[], none⟩, ⟨[], none⟩, ⟨[(1, 12), (2, 13)], none⟩, ⟨[(3, 14)], none⟩, ⟨[(0, 11), (4, 15)], none⟩] (fun x y => Below x.heap.size x y) (MPat [MP.eq (vecV m.1 m.2), MP.eq (.slice (some ⟨b, o, none⟩) qs.length cap), MP.eq (.int .i64 k), MP.eq (.pointer (some ⟨b, o + k * 2, none⟩)), MP.eq (vecV q.1 q.2), MP.eq (.bool false)]) (by kernel_rfl) (fun _ _ _ h k => Ext.trans h k) (fun _ => Below.refl _ _) (fun x => (Below.refl x.heap.size x).drew) (MPat.mono _) (by kernel_rfl) ?obs ?rest
        case obs =>
          refine ⟨?_, ?_, ?_, ?_, ?_, ?_, trivial⟩
          · intro ev W hf _ _ hst hd
            have e3 : ev (.tmp 3) = .pointer (some ⟨w.heap.size, 0, none⟩) := hf 3 (by kernel_rfl)
            have kk := VRow.ext HM.out hst
            have k0 := VRow.cell kk (k := 0) rfl
            have k1 := VRow.cell kk (k := 1) rfl
            refine st_value (v := vecV m.1 m.2) ?_ (Below.refl _ _) ?_
            · simp [execOp, go_sem, e3, k0, k1]
            · exact rfl
          · intro ev W hf _ _ hst hd
            have e0 : ev (.tmp 0) = .slice (some ⟨b, o, none⟩) qs.length cap := hf 0 (by kernel_rfl)
            refine st_value (v := .slice (some ⟨b, o, none⟩) qs.length cap) ?_ (Below.refl _ _) ?_
            · simp [execOp, go_sem, e0]
            · exact rfl
          · intro ev W hf _ _ hst hd
            have e5 : ev (.tmp 5) = .int .i64 k := hf 5 (by kernel_rfl)
            refine st_value (v := .int .i64 k) ?_ (Below.refl _ _) ?_
            · simp [execOp, go_sem, e5]
            · exact rfl
          · intro ev W hf _ _ hst hd
            obtain ⟨d12, d13, _⟩ := hd
            have e12 : ev (.tmp 12) = .slice (some ⟨b, o, none⟩) qs.length cap := d12
            have e13 : ev (.tmp 13) = .int .i64 k := d13
            refine st_value (v := .pointer (some ⟨b, o + k * 2, none⟩)) ?_ (Below.refl _ _) ?_
            · simp [execOp, go_sem, e12, e13, hlt]
            · exact rfl
          · intro ev W hf _ _ hst hd
            obtain ⟨d14, _⟩ := hd
            have e14 : ev (.tmp 14) = .pointer (some ⟨b, o + k * 2, none⟩) := d14
            have k0 := Ext.cell hst HC.out.1
            have k1 := Ext.cell hst HC.out.2
            refine st_value (v := vecV q.1 q.2) ?_ (Below.refl _ _) ?_
            · simp [execOp, go_sem, e14, k0, k1]
            · exact rfl
          · intro ev W hf _ _ hst hd
            obtain ⟨d11, d15, _⟩ := hd
            have e11 : ev (.tmp 11) = vecV m.1 m.2 := d11
            have e15 : ev (.tmp 15) = vecV q.1 q.2 := d15
            refine st_value (v := .bool false) ?_ (Below.refl _ _) ?_
            · (simp [execOp, go_sem, e11, e15]; exact HNE.out)
            · exact rfl
        case rest =>
          intro vs w3 hl hst hg
          have hx0 : ∀ u, vs[0]? = some u → u = vecV m.1 m.2 := fun u hu => hg 0 u hu
          have hx1 : ∀ u, vs[1]? = some u → u = .slice (some ⟨b, o, none⟩) qs.length cap := fun u hu => hg 1 u hu
          have hx2 : ∀ u, vs[2]? = some u → u = .int .i64 k := fun u hu => hg 2 u hu
          have hx3 : ∀ u, vs[3]? = some u → u = .pointer (some ⟨b, o + k * 2, none⟩) := fun u hu => hg 3 u hu
          have hx4 : ∀ u, vs[4]? = some u → u = vecV q.1 q.2 := fun u hu => hg 4 u hu
          have hx5 : ∀ u, vs[5]? = some u → u = .bool false := fun u hu => hg 5 u hu
          have HE3 := Lib.hid hst
          clear hg hst
          obtain ⟨x0, vs0, rfl, hl0⟩ := len_succ hl
          obtain ⟨x1, vs1, rfl, hl1⟩ := len_succ hl0
          obtain ⟨x2, vs2, rfl, hl2⟩ := len_succ hl1
          obtain ⟨x3, vs3, rfl, hl3⟩ := len_succ hl2
          obtain ⟨x4, vs4, rfl, hl4⟩ := len_succ hl3
          obtain ⟨x5, vs5, rfl, hl5⟩ := len_succ hl4
          have hnil : vs5 = [] := List.length_eq_zero_iff.1 hl5
          subst hnil
          obtain rfl : x0 = vecV m.1 m.2 := hx0 _ rfl
          obtain rfl : x1 = .slice (some ⟨b, o, none⟩) qs.length cap := hx1 _ rfl
          obtain rfl : x2 = .int .i64 k := hx2 _ rfl
          obtain rfl : x3 = .pointer (some ⟨b, o + k * 2, none⟩) := hx3 _ rfl
          obtain rfl : x4 = vecV q.1 q.2 := hx4 _ rfl
          obtain rfl : x5 = .bool false := hx5 _ rfl
          clear hx0 hx1 hx2 hx3 hx4 hx5
          simp only [putAll, Act.put, List.setIfInBounds_toArray, List.set_cons_zero, List.set_cons_succ]
          go_wp2
          refine ⟨⟨k + 1, by omega, fun j q' hj hq' => ?_, by simp, Ext.trans HE.out HE3.out⟩, by simp [intOf]; omega⟩
          by_cases hjk : j = k
          · subst hjk; have h2 := Hq.out; rw [hq'] at h2; injection h2 with h2; rw [h2]; exact Heq.out
          · exact Hall.out j q' (by omega) hq'
    · exfalso
      have hkn : k = qs.length := by omega
      obtain ⟨j, hj⟩ := List.mem_iff_getElem?.1 HMem.out
      exact Hall.out j m (by have := lt_len hj; omega) hj rfl
end Go.Proofs.Ytbdppephmlkbaaa
