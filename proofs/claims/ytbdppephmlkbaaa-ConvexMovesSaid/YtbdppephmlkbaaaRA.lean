import Derived.Test.YtbdppephmlkbaaaR4a
import Derived.Test.YtbdppephmlkbaaaMA
import Derived.Laws.StructEq
import Derived.Test.YtbdppephmlkbaaaR2a
namespace Go.Proofs.Ytbdppephmlkbaaa
set_option maxRecDepth 100000
open Go.RowKit Go.Shelf
attribute [local go_sem] Oper.semAt_some
/-! The reference's wrapping. -/
set_option maxHeartbeats 1000000 in
theorem rfar_c (a b c d : Int) (w : World) (ha : -10000 ≤ a ∧ a ≤ 10000) (hb : -10000 ≤ b ∧ b ≤ 10000) (hc : -10000 ≤ c ∧ c ≤ 10000) (hd : -10000 ≤ d ∧ d ≤ 10000) :
    Calls Try.prog 78 #[vecV a b, vecV c d] w fun e w' => e = .returned (.int .i64 (farZ (a, b) (c, d))) ∧ Ext w w' := by
  have m1 := mul_20 (a := a - c) (b := a - c) (by omega) (by omega)
  have m2 := mul_20 (a := b - d) (b := b - d) (by omega) (by omega)
  have e1 : wrap64 (a - c) = a - c := by unfold wrap64; omega
  have e2 : wrap64 (b - d) = b - d := by unfold wrap64; omega
  have e3 : wrap64 ((a - c) * (a - c)) = (a - c) * (a - c) := by unfold wrap64; omega
  have e4 : wrap64 ((b - d) * (b - d)) = (b - d) * (b - d) := by unfold wrap64; omega
  have e5 : wrap64 ((a - c) * (a - c) + (b - d) * (b - d)) = (a - c) * (a - c) + (b - d) * (b - d) := by unfold wrap64; omega
  clear ha hb hc hd m1 m2
  go_enter Try.func78, Try.ntmps78
  go_wp2
  all_goals go_ret
  all_goals exact ⟨ret_int (by first | rfl | simp [farZ, e1, e2, e3, e4, e5]), by (repeat' (first | exact Below.refl _ _ | refine Below.drew ?_ | refine Below.alloc ?_ (by simp <;> omega) _ | refine Below.setCell ?_ (by simp <;> omega) _))⟩
theorem veq_t (a b : Int) (w : World) : Sem.run Try.prog (binOp .eql 32 (.agg #[.int .i64 a, .int .i64 b]) (.agg #[.int .i64 a, .int .i64 b])) w = .ok (.bool true) w := by
  simp [go_sem]
theorem veq_f (a b c d : Int) (h : ¬ (a = c ∧ b = d)) (w : World) : Sem.run Try.prog (binOp .eql 32 (.agg #[.int .i64 a, .int .i64 b]) (.agg #[.int .i64 c, .int .i64 d])) w = .ok (.bool false) w := by
  by_cases hx : a = c
  · subst hx
    have hy : (b == d) = false := beq_eq_false_iff_ne.2 (fun e => h ⟨rfl, e⟩)
    simp [go_sem, hy]
  · have hx : (a == c) = false := beq_eq_false_iff_ne.2 hx
    simp [go_sem, hx]
theorem pt_ne {p q : Pt} (h : p ≠ q) : ¬ (p.1 = q.1 ∧ p.2 = q.2) := fun e => h (Prod.ext e.1 e.2)
theorem next_bd {l : List Pt} {a : Pt} {L : Int} (hb : ∀ q, q ∈ l → (-L ≤ q.1 ∧ q.1 ≤ L) ∧ (-L ≤ q.2 ∧ q.2 ≤ L)) (ha : (-L ≤ a.1 ∧ a.1 ≤ L) ∧ (-L ≤ a.2 ∧ a.2 ≤ L)) {i : Nat} (hi : i ≤ l.length) : (-L ≤ (nextK l a i).1 ∧ (nextK l a i).1 ≤ L) ∧ (-L ≤ (nextK l a i).2 ∧ (nextK l a i).2 ≤ L) := by
  rcases next_mem (l := l) (a := a) i hi with h | ⟨h, _⟩
  · rw [h]; exact ha
  · exact hb _ h
end Go.Proofs.Ytbdppephmlkbaaa

namespace Go.Proofs.Ytbdppephmlkbaaa
set_option maxRecDepth 100000
open Go.RowKit Go.Shelf
attribute [local go_sem] Oper.semAt_some
/-! The reference's wrapping. -/

def lenOf : Value → Nat
  | .slice _ n _ => n
  | _ => 0
theorem own_mono2 {w : World} {base c n : Nat} {v : Value} {xs : List Value} (h : w.ownsRow base 32 2 v n xs) (hc : c ≤ base) : w.ownsRow c 32 2 v n xs := by
  refine ⟨h.1, ?_⟩
  rcases h.2 with h | ⟨g, cap, cur, hv, hb, r⟩
  · exact .inl h
  · exact .inr ⟨g, cap, cur, hv, by omega, r⟩
theorem own_slice2 {w : World} {base : Nat} {e : TypeId} {sz n : Nat} {v : Value} {xs : List Value} (h : w.ownsRow base e sz v n xs) : ∃ a cap, v = .slice a n cap := by
  rcases h.2 with ⟨h, h0⟩ | ⟨g', cap, cur, hv, _⟩
  · exact ⟨none, 0, by rw [h, h0]⟩
  · exact ⟨_, _, hv⟩
theorem wrapL_len (l : List Pt) (a : Pt) (K : Nat) : (wrapL l a K).length = K := by simp [wrapL]
theorem wrapL_at (l : List Pt) (a : Pt) {K i : Nat} (hi : i < K) : fromP (wrapL l a K) i = wrapK l a i := by
  unfold fromP wrapL
  rw [List.getD_eq_getElem?_getD, List.getElem?_map, List.getElem?_range hi]; rfl
theorem wrapK_bd {l : List Pt} {a : Pt} {L : Int} (hb : ∀ q, q ∈ l → (-L ≤ q.1 ∧ q.1 ≤ L) ∧ (-L ≤ q.2 ∧ q.2 ≤ L)) (ha : (-L ≤ a.1 ∧ a.1 ≤ L) ∧ (-L ≤ a.2 ∧ a.2 ≤ L)) : ∀ k, (-L ≤ (wrapK l a k).1 ∧ (wrapK l a k).1 ≤ L) ∧ (-L ≤ (wrapK l a k).2 ∧ (wrapK l a k).2 ≤ L) := by
  intro k
  induction k with
  | zero => exact ha
  | succ k ih => exact next_bd hb ih (Nat.le_refl _)
set_option maxHeartbeats 16000000 in
theorem wrap_c (v : Value) (ps : List Pt) (w : World) (hv : Vecs w v ps) (hb : ∀ q, q ∈ ps → (-4000 ≤ q.1 ∧ q.1 ≤ 4000) ∧ (-4000 ≤ q.2 ∧ q.2 ≤ 4000)) (h1 : 1 ≤ ps.length) (h2 : ps.length ≤ 2000) :
    Calls Try.prog 43 #[v] w fun e w' => ∃ r K, e = .returned r ∧ WrapEnd ps (lowK ps (ps.length - 1)) K ∧ w'.ownsRow w.heap.size 32 2 r K (cellsOf (wrapL ps (lowK ps (ps.length - 1)) K)) ∧ Ext w w' := by
  obtain ⟨b, o, cap, rfl, hl, hm, hc⟩ := vecs_cells hv h1
  have HC := Lib.hid hc
  have HPB := Lib.hid (fun (k : Nat) (hk : k < ps.length) => hb _ (from_in hk))
  have HLB := Lib.hid (fun (k : Nat) (hk : k < ps.length) => hb _ (low_least k hk).1)
  have HWB := Lib.hid (wrapK_bd hb (hb _ (low_all h1).1))
  have HNB0 := Lib.hid (fun (x : Pt) (hx : (-4000 ≤ x.1 ∧ x.1 ≤ 4000) ∧ (-4000 ≤ x.2 ∧ x.2 ≤ 4000)) (i : Nat) (hi : i ≤ ps.length) => next_bd hb hx hi)
  obtain ⟨i0, hi0, hz0, hz1, hz2⟩ := info_parts info31
  have HI := Lib.hid hi0
  have HZ0 := Lib.hid hz0
  have HZ1 := Lib.hid hz1
  have HZ2 := Lib.hid hz2
  obtain ⟨n, hnn⟩ : ∃ n, n = ps.length := ⟨_, rfl⟩
  have hn : 1 ≤ n ∧ n ≤ 2000 := by omega
  rw [← hnn] at HC HPB HLB HWB HNB0 hl ⊢
  have HN := Lib.hid hnn
  clear hv hc hb h1 h2 hnn hi0 hz0 hz1 hz2
  obtain ⟨a, ha⟩ : ∃ a, a = lowK ps (n - 1) := ⟨_, rfl⟩
  rw [← ha] at HWB ⊢
  have HAL := Lib.hid ha
  clear ha
  have hzn : ((n : Int) == 0) = false := beq_eq_false_iff_ne.2 (by omega)
  have hn0 : 0 < n := by omega
  obtain ⟨c1, c2⟩ := HC.out 0 (by omega)
  rw [Nat.zero_mul, Nat.add_zero] at c1 c2
  obtain ⟨x0, hx0⟩ : ∃ x, x = (fromP ps 0).1 := ⟨_, rfl⟩
  obtain ⟨y0, hy0⟩ : ∃ x, x = (fromP ps 0).2 := ⟨_, rfl⟩
  rw [← hx0] at c1
  rw [← hy0] at c2
  have HX0 := Lib.hid hx0
  have HY0 := Lib.hid hy0
  clear hx0 hy0
  have HV0 := Lib.hid (show VRow (w.alloc (.cells #[.int .i64 x0, .int .i64 y0] 32)) _ _ _ from vrow_alloc w [.int .i64 x0, .int .i64 y0] 32)
  have HE0 := Lib.hid (Ext.alloc (Ext.refl w) (.cells #[.int .i64 x0, .int .i64 y0] 32))
  go_enter Try.func43, Try.ntmps43
  go_wp2_with fail
  clear c1 c2 hzn
  obtain ⟨g, hg⟩ : ∃ g, g = w.heap.size := ⟨_, rfl⟩
  rw [← hg] at HV0 ⊢
  have HG := Lib.hid hg
  clear hg
  generalize w.alloc (.cells #[.int .i64 x0, .int .i64 y0] 32) = w0 at *
  go_loopw [4] (fun iv wr => ∃ i : Nat, iv = .int .i64 ((i : Int) + 1) ∧ i + 1 ≤ n ∧ VRow wr g 32 [.int .i64 (lowK ps i).1, .int .i64 (lowK ps i).2] ∧ Ext w wr) (fun iv _ => n + 1 - (intOf iv).toNat)
  case atStart => exact ⟨0, rfl, by omega, by show VRow w0 g 32 [.int .i64 (fromP ps 0).1, .int .i64 (fromP ps 0).2]; rw [← HX0.out, ← HY0.out]; exact HV0.out, HE0.out⟩
  case round =>
    rename World => wr
    obtain ⟨i, rfl, hi, hV, hE⟩ := hrel
    have HV := Lib.hid hV
    have HE := Lib.hid hE
    clear hV hE
    have HGS := Lib.hid (show g < wr.heap.size from VRow.lt HV.out)
    by_cases hil : i + 1 < n
    · obtain ⟨c1, c2⟩ := HC.out (i + 1) hil
      have C1 := Lib.hid (Ext.cell HE.out c1)
      have C2 := Lib.hid (Ext.cell HE.out c2)
      have HLS := Lib.hid (show lowK ps (i + 1) = if (fromP ps (i + 1)).2 < (lowK ps i).2 ∨ ((fromP ps (i + 1)).2 = (lowK ps i).2 ∧ (fromP ps (i + 1)).1 < (lowK ps i).1) then fromP ps (i + 1) else lowK ps i from rfl)
      have hi1a : (i : Int) + 1 < (n : Int) := by omega
      have hi1b : ¬ (i : Int) + 1 < 0 := by omega
      obtain ⟨q, hq⟩ : ∃ q, q = fromP ps (i + 1) := ⟨_, rfl⟩
      obtain ⟨l, hl2⟩ : ∃ l, l = lowK ps i := ⟨_, rfl⟩
      rw [← hq] at C1 C2 HLS
      rw [← hl2] at HV HLS
      clear hq hl2 c1 c2
      have HLW := Lib.hid (fun W => lower_c q.1 q.2 l.1 l.2 W)
      cases hlb : lowB q.1 q.2 l.1 l.2 with
      | true =>
        have HS := Lib.hid (show (lowK ps (i + 1)).1 = q.1 ∧ (lowK ps (i + 1)).2 = q.2 from by
          rw [HLS.out, if_pos (show q.2 < l.2 ∨ (q.2 = l.2 ∧ q.1 < l.1) from by simpa [lowB] using hlb)]; exact ⟨rfl, rfl⟩)
        rw [hlb] at HLW
        clear hlb HLS
        generalize q.1 = qx at *
        generalize q.2 = qy at *
        generalize l.1 = lx at *
        generalize l.2 = ly at *
        go_wp2_with fail
        refine wp_region_stable [⟨[], none⟩, ⟨[], none⟩, ⟨[(0, 22), (1, 23)], none⟩, ⟨[(2, 24)], none⟩, ⟨[], none⟩, ⟨[(3, 25), (4, 26)], none⟩] (fun x y => Below x.heap.size x y) (MPat [MP.eq (.slice (some ⟨b, o, none⟩) n cap), MP.eq (.int .i64 ((i : Int) + 1)), MP.eq (.pointer (some ⟨b, o + (i + 1) * 2, none⟩)), MP.eq (vecV qx qy), MP.eq (vecV lx ly), MP.eq (.bool true)]) (by kernel_rfl) (fun _ _ _ h k => Ext.trans h k) (fun _ => Below.refl _ _) (fun x => (Below.refl x.heap.size x).drew) (MPat.mono _) (by kernel_rfl) ?obs ?rest
        case obs =>
          refine ⟨?_, ?_, ?_, ?_, ?_, ?_, trivial⟩
          · intro ev W hf _ _ hst hd
            have e0 : ev (.tmp 0) = .slice (some ⟨b, o, none⟩) n cap := hf 0 (by kernel_rfl)
            refine st_value (v := .slice (some ⟨b, o, none⟩) n cap) ?_ (Below.refl _ _) ?_
            · simp [execOp, go_sem, e0]
            · exact rfl
          · intro ev W hf _ _ hst hd
            have e4 : ev (.tmp 4) = .int .i64 ((i : Int) + 1) := hf 4 (by kernel_rfl)
            refine st_value (v := .int .i64 ((i : Int) + 1)) ?_ (Below.refl _ _) ?_
            · simp [execOp, go_sem, e4]
            · exact rfl
          · intro ev W hf _ _ hst hd
            obtain ⟨d22, d23, _⟩ := hd
            have e22 : ev (.tmp 22) = .slice (some ⟨b, o, none⟩) n cap := d22
            have e23 : ev (.tmp 23) = .int .i64 ((i : Int) + 1) := d23
            refine st_value (v := .pointer (some ⟨b, o + (i + 1) * 2, none⟩)) ?_ (Below.refl _ _) ?_
            · simp [execOp, go_sem, e22, e23, hi1a, hi1b]
            · exact rfl
          · intro ev W hf _ _ hst hd
            obtain ⟨d24, _⟩ := hd
            have e24 : ev (.tmp 24) = .pointer (some ⟨b, o + (i + 1) * 2, none⟩) := d24
            have q0 := Ext.cell hst C1.out
            have q1 := Ext.cell hst C2.out
            refine st_value (v := vecV qx qy) ?_ (Below.refl _ _) ?_
            · simp [execOp, go_sem, e24, q0, q1, vecV]
            · exact rfl
          · intro ev W hf _ _ hst hd
            have e3 : ev (.tmp 3) = .pointer (some ⟨g, 0, none⟩) := hf 3 (by kernel_rfl)
            have q0 := VRow.cell (VRow.ext HV.out hst) (k := 0) rfl
            have q1 := VRow.cell (VRow.ext HV.out hst) (k := 1) rfl
            refine st_value (v := vecV lx ly) ?_ (Below.refl _ _) ?_
            · simp [execOp, go_sem, e3, q0, q1, vecV]
            · exact rfl
          · intro ev W hf _ hfn hst hd
            obtain ⟨d25, d26, _⟩ := hd
            have e25 : ev (.tmp 25) = vecV qx qy := d25
            have e26 : ev (.tmp 26) = vecV lx ly := d26
            refine st_call (f := 49) (args := #[vecV qx qy, vecV lx ly]) (by simp [execOp, go_sem, hfn, e25, e26]) (HLW.out W) (fun _ _ => rfl)
        case rest =>
          intro vs w3 hl hst hg
          have HE3 := Lib.hid hst
          have hvs : vs = [.slice (some ⟨b, o, none⟩) n cap, .int .i64 ((i : Int) + 1), .pointer (some ⟨b, o + (i + 1) * 2, none⟩), vecV qx qy, vecV lx ly, .bool true] := list_of hl (fun i u hu => by
            match i, hu with
            | 0, hu => exact (congrArg some (hg 0 u hu)).symm
            | 1, hu => exact (congrArg some (hg 1 u hu)).symm
            | 2, hu => exact (congrArg some (hg 2 u hu)).symm
            | 3, hu => exact (congrArg some (hg 3 u hu)).symm
            | 4, hu => exact (congrArg some (hg 4 u hu)).symm
            | 5, hu => exact (congrArg some (hg 5 u hu)).symm
            | n + 6, hu => exact absurd (lt_len hu) (by rw [hl]; simp))
          clear hg hst hl
          subst hvs
          simp only [putAll, Act.put, List.dropLast, List.setIfInBounds_toArray, List.set_cons_zero, List.set_cons_succ]
          have HE4 := Lib.hid (Ext.trans HE.out HE3.out)
          have c1 := Ext.cell HE3.out C1.out
          have c2 := Ext.cell HE3.out C2.out
          have k1 := cell_lt c1
          have HVx := Lib.hid (VRow.ext HV.out HE3.out)
          have n0 := VRow.cell HVx.out (k := 0) rfl
          have n1 := VRow.cell HVx.out (k := 1) rfl
          have f0 := VRow.frozen HVx.out 0 none
          have f1 := VRow.frozen HVx.out 1 none
          have HP := Lib.hid (vec_put HE4.out HVx.out (Nat.le_of_eq HG.out.symm) (.int .i64 qx) (.int .i64 qy))
          clear HE3
          go_wp2_with fail
          exact ⟨⟨i + 1, by simp, by omega, by rw [HS.out.1, HS.out.2]; exact HP.out.1, HP.out.2⟩, by simp [intOf]; omega⟩
      | false =>
        have hnl : ¬ (q.2 < l.2 ∨ (q.2 = l.2 ∧ q.1 < l.1)) := fun h => by
          have h2 : lowB q.1 q.2 l.1 l.2 = true := by simpa [lowB] using h
          rw [hlb] at h2
          cases h2
        have HS := Lib.hid (show (lowK ps (i + 1)).1 = l.1 ∧ (lowK ps (i + 1)).2 = l.2 from by rw [HLS.out, if_neg hnl]; exact ⟨rfl, rfl⟩)
        clear hnl
        rw [hlb] at HLW
        clear hlb HLS
        generalize q.1 = qx at *
        generalize q.2 = qy at *
        generalize l.1 = lx at *
        generalize l.2 = ly at *
        go_wp2_with fail
        refine wp_region_stable [⟨[], none⟩, ⟨[], none⟩, ⟨[(0, 22), (1, 23)], none⟩, ⟨[(2, 24)], none⟩, ⟨[], none⟩, ⟨[(3, 25), (4, 26)], none⟩] (fun x y => Below x.heap.size x y) (MPat [MP.eq (.slice (some ⟨b, o, none⟩) n cap), MP.eq (.int .i64 ((i : Int) + 1)), MP.eq (.pointer (some ⟨b, o + (i + 1) * 2, none⟩)), MP.eq (vecV qx qy), MP.eq (vecV lx ly), MP.eq (.bool false)]) (by kernel_rfl) (fun _ _ _ h k => Ext.trans h k) (fun _ => Below.refl _ _) (fun x => (Below.refl x.heap.size x).drew) (MPat.mono _) (by kernel_rfl) ?obs ?rest
        case obs =>
          refine ⟨?_, ?_, ?_, ?_, ?_, ?_, trivial⟩
          · intro ev W hf _ _ hst hd
            have e0 : ev (.tmp 0) = .slice (some ⟨b, o, none⟩) n cap := hf 0 (by kernel_rfl)
            refine st_value (v := .slice (some ⟨b, o, none⟩) n cap) ?_ (Below.refl _ _) ?_
            · simp [execOp, go_sem, e0]
            · exact rfl
          · intro ev W hf _ _ hst hd
            have e4 : ev (.tmp 4) = .int .i64 ((i : Int) + 1) := hf 4 (by kernel_rfl)
            refine st_value (v := .int .i64 ((i : Int) + 1)) ?_ (Below.refl _ _) ?_
            · simp [execOp, go_sem, e4]
            · exact rfl
          · intro ev W hf _ _ hst hd
            obtain ⟨d22, d23, _⟩ := hd
            have e22 : ev (.tmp 22) = .slice (some ⟨b, o, none⟩) n cap := d22
            have e23 : ev (.tmp 23) = .int .i64 ((i : Int) + 1) := d23
            refine st_value (v := .pointer (some ⟨b, o + (i + 1) * 2, none⟩)) ?_ (Below.refl _ _) ?_
            · simp [execOp, go_sem, e22, e23, hi1a, hi1b]
            · exact rfl
          · intro ev W hf _ _ hst hd
            obtain ⟨d24, _⟩ := hd
            have e24 : ev (.tmp 24) = .pointer (some ⟨b, o + (i + 1) * 2, none⟩) := d24
            have q0 := Ext.cell hst C1.out
            have q1 := Ext.cell hst C2.out
            refine st_value (v := vecV qx qy) ?_ (Below.refl _ _) ?_
            · simp [execOp, go_sem, e24, q0, q1, vecV]
            · exact rfl
          · intro ev W hf _ _ hst hd
            have e3 : ev (.tmp 3) = .pointer (some ⟨g, 0, none⟩) := hf 3 (by kernel_rfl)
            have q0 := VRow.cell (VRow.ext HV.out hst) (k := 0) rfl
            have q1 := VRow.cell (VRow.ext HV.out hst) (k := 1) rfl
            refine st_value (v := vecV lx ly) ?_ (Below.refl _ _) ?_
            · simp [execOp, go_sem, e3, q0, q1, vecV]
            · exact rfl
          · intro ev W hf _ hfn hst hd
            obtain ⟨d25, d26, _⟩ := hd
            have e25 : ev (.tmp 25) = vecV qx qy := d25
            have e26 : ev (.tmp 26) = vecV lx ly := d26
            refine st_call (f := 49) (args := #[vecV qx qy, vecV lx ly]) (by simp [execOp, go_sem, hfn, e25, e26]) (HLW.out W) (fun _ _ => rfl)
        case rest =>
          intro vs w3 hl hst hg
          have HE3 := Lib.hid hst
          have hvs : vs = [.slice (some ⟨b, o, none⟩) n cap, .int .i64 ((i : Int) + 1), .pointer (some ⟨b, o + (i + 1) * 2, none⟩), vecV qx qy, vecV lx ly, .bool false] := list_of hl (fun i u hu => by
            match i, hu with
            | 0, hu => exact (congrArg some (hg 0 u hu)).symm
            | 1, hu => exact (congrArg some (hg 1 u hu)).symm
            | 2, hu => exact (congrArg some (hg 2 u hu)).symm
            | 3, hu => exact (congrArg some (hg 3 u hu)).symm
            | 4, hu => exact (congrArg some (hg 4 u hu)).symm
            | 5, hu => exact (congrArg some (hg 5 u hu)).symm
            | n + 6, hu => exact absurd (lt_len hu) (by rw [hl]; simp))
          clear hg hst hl
          subst hvs
          simp only [putAll, Act.put, List.dropLast, List.setIfInBounds_toArray, List.set_cons_zero, List.set_cons_succ]
          go_wp2_with fail
          exact ⟨⟨i + 1, by simp, by omega, by rw [HS.out.1, HS.out.2]; exact VRow.ext HV.out HE3.out, Ext.trans HE.out HE3.out⟩, by simp [intOf]; omega⟩
    · have hi1a : ¬ (i : Int) + 1 < (n : Int) := by omega
      have hin : i = n - 1 := by omega
      rw [hin, ← HAL.out] at HV
      clear hin
      have l0 := VRow.cell HV.out (k := 0) rfl
      have l1 := VRow.cell HV.out (k := 1) rfl
      have HEa := Lib.hid (Ext.alloc (Ext.refl wr) (.cells #[.int .i64 a.1, .int .i64 a.2] 32))
      have HVa := Lib.hid (VRow.ext HV.out HEa.out)
      have HOa := Lib.hid (show (wr.alloc (.cells #[.int .i64 a.1, .int .i64 a.2] 32)).ownsRow (g + 1) 32 2 (.slice (some ⟨wr.heap.size, 0, none⟩) 1 1) 1 (cellsOf (wrapL ps a 1)) from
        ⟨rfl, .inr ⟨wr.heap.size, 1, #[.int .i64 a.1, .int .i64 a.2], rfl, by have := HGS.out; omega, (vrow_alloc wr [.int .i64 a.1, .int .i64 a.2] 32), Nat.le_refl _, by unfold maxLen; omega, rfl, rfl⟩⟩)
      go_wp2_with fail
      clear l0 l1
      have HEw := Lib.hid (Ext.trans HE.out HEa.out)
      generalize wr.alloc (.cells #[.int .i64 a.1, .int .i64 a.2] 32) = w1 at *
      go_loopw [5] (fun ov wr => ∃ m : Nat, lenOf ov = m + 1 ∧ m + 1 ≤ n + 1 ∧ wr.ownsRow (g + 1) 32 2 ov (m + 1) (cellsOf (wrapL ps a (m + 1))) ∧ VRow wr g 32 [.int .i64 a.1, .int .i64 a.2] ∧ (∀ k, 1 ≤ k → k < m + 1 → wrapK ps a k ≠ a ∧ wrapK ps a k ≠ wrapK ps a (k - 1)) ∧ Ext w wr) (fun ov _ => n + 5 - lenOf ov)
      case atStart => exact ⟨0, rfl, by omega, HOa.out, HVa.out, fun k h1 h2 => by omega, HEw.out⟩
      case round =>
        clear HV HE HVa HOa HEw HGS
        rename World => wr
        obtain ⟨m, _, hm2, hO, hV, hon, hE⟩ := hrel
        obtain ⟨oa, oc, rfl⟩ := own_slice2 hO
        have HO := Lib.hid hO
        have HV := Lib.hid hV
        have HON := Lib.hid hon
        have HE := Lib.hid hE
        have HGS := Lib.hid (show g < wr.heap.size from VRow.lt hV)
        have hvs := vecs_own (qs := wrapL ps a (m + 1)) (base := g + 1) (by rw [wrapL_len]; exact hO) (by rw [wrapL_len]; omega)
        clear hO hV hon hE
        by_cases hmn : m + 1 ≤ n
        · obtain ⟨ob, oo, oc', hsl, hoc1, hoc2, hcells⟩ := vecs_cells hvs (by rw [wrapL_len]; omega)
          rw [wrapL_len] at hsl hcells hoc1
          simp only [Value.slice.injEq, true_and] at hsl
          obtain ⟨rfl, rfl⟩ := hsl
          obtain ⟨c1, c2⟩ := hcells m (by omega)
          rw [wrapL_at ps a (show m < m + 1 by omega)] at c1 c2
          have k1 := cell_lt c1
          have hatb := HWB.out m
          obtain ⟨at_, hat⟩ : ∃ at_, at_ = wrapK ps a m := ⟨_, rfl⟩
          rw [← hat] at c1 c2 hatb
          have HAT := Lib.hid hat
          have HAB := Lib.hid hatb
          have HNB := Lib.hid (fun (i : Nat) (hi : i ≤ n) => HNB0.out at_ hatb i hi)
          clear hat hvs hcells hatb
          have hmz : (m : Int) + 1 ≤ (n : Int) := by omega
          have HEW := Lib.hid (Ext.alloc (Ext.alloc (Ext.refl wr) (.cells #[.int .i64 at_.1, .int .i64 at_.2] 32)) (.cells #[.int .i64 at_.1, .int .i64 at_.2] 32))
          have hsA : (wr.alloc (.cells #[.int .i64 at_.1, .int .i64 at_.2] 32)).heap.size = wr.heap.size + 1 := by simp
          have VA0 := Lib.hid (show VRow ((wr.alloc (.cells #[.int .i64 at_.1, .int .i64 at_.2] 32)).alloc (.cells #[.int .i64 at_.1, .int .i64 at_.2] 32)) wr.heap.size 32 [.int .i64 at_.1, .int .i64 at_.2] from (vrow_alloc wr [.int .i64 at_.1, .int .i64 at_.2] 32).alloc _)
          have VN0 := Lib.hid (show VRow ((wr.alloc (.cells #[.int .i64 at_.1, .int .i64 at_.2] 32)).alloc (.cells #[.int .i64 at_.1, .int .i64 at_.2] 32)) (wr.heap.size + 1) 32 [.int .i64 (nextK ps at_ 0).1, .int .i64 (nextK ps at_ 0).2] from by
            have h := vrow_alloc (wr.alloc (.cells #[.int .i64 at_.1, .int .i64 at_.2] 32)) [.int .i64 at_.1, .int .i64 at_.2] 32
            rw [hsA] at h
            exact h)
          have b0 := VRow.cell (vrow_alloc wr [.int .i64 at_.1, .int .i64 at_.2] 32) (k := 0) rfl
          have b1 := VRow.cell (vrow_alloc wr [.int .i64 at_.1, .int .i64 at_.2] 32) (k := 1) rfl
          go_wp2_with fail
          clear c1 c2 k1 b0 b1 hsA
          obtain ⟨A, hA⟩ : ∃ A, A = wr.heap.size := ⟨_, rfl⟩
          obtain ⟨N, hNn⟩ : ∃ N, N = A + 1 := ⟨_, rfl⟩
          rw [← hA] at VA0 VN0 ⊢
          rw [← hNn] at VN0 ⊢
          have HWN := Lib.hid (show wr.heap.size ≤ N by omega)
          have HAN := Lib.hid (show A ≠ N by omega)
          clear hA hNn
          generalize (wr.alloc (.cells #[.int .i64 at_.1, .int .i64 at_.2] 32)).alloc (.cells #[.int .i64 at_.1, .int .i64 at_.2] 32) = w2 at *
          go_loopw [8] (fun iv wq => ∃ i : Nat, iv = .int .i64 (i : Int) ∧ i ≤ n ∧ VRow wq N 32 [.int .i64 (nextK ps at_ i).1, .int .i64 (nextK ps at_ i).2] ∧ VRow wq A 32 [.int .i64 at_.1, .int .i64 at_.2] ∧ Ext wr wq) (fun iv _ => n - (intOf iv).toNat)
          case atStart => exact ⟨0, rfl, Nat.zero_le _, VN0.out, VA0.out, HEW.out⟩
          case round =>
            rename World => wq
            obtain ⟨i, rfl, hi, hVN, hVA, hE⟩ := hrel
            have VN := Lib.hid hVN
            have VA := Lib.hid hVA
            have HEq := Lib.hid hE
            clear hVN hVA hE
            by_cases hil : i < n
            · have hilz : (i : Int) < (n : Int) := by omega
              obtain ⟨c1, c2⟩ := HC.out i hil
              have C1 := Lib.hid (Ext.cell (Ext.trans HE.out HEq.out) c1)
              have C2 := Lib.hid (Ext.cell (Ext.trans HE.out HEq.out) c2)
              have hqb := HPB.out i hil
              have hnb := HNB.out i hi
              have hatb := HAB.out
              have HST := Lib.hid (show nextK ps at_ (i + 1) = stepN at_ (nextK ps at_ i) (fromP ps i) from rfl)
              have HTW := Lib.hid (fun W => twice_c at_.1 at_.2 (nextK ps at_ i).1 (nextK ps at_ i).2 (fromP ps i).1 (fromP ps i).2 W (by omega) (by omega) (by omega) (by omega) (by omega) (by omega))
              have HF1 := Lib.hid (fun W => rfar_c at_.1 at_.2 (fromP ps i).1 (fromP ps i).2 W (by omega) (by omega) (by omega) (by omega))
              have HF2 := Lib.hid (fun W => rfar_c at_.1 at_.2 (nextK ps at_ i).1 (nextK ps at_ i).2 W (by omega) (by omega) (by omega) (by omega))
              obtain ⟨q, hq⟩ : ∃ q, q = fromP ps i := ⟨_, rfl⟩
              obtain ⟨nx, hnx⟩ : ∃ nx, nx = nextK ps at_ i := ⟨_, rfl⟩
              rw [← hq] at C1 C2 HST HTW HF1
              rw [← hnx] at VN HST HTW HF2
              obtain ⟨T, hT⟩ : ∃ T, T = triP at_ nx q := ⟨_, rfl⟩
              obtain ⟨F1, hF1⟩ : ∃ F, F = farZ at_ q := ⟨_, rfl⟩
              obtain ⟨F2, hF2⟩ : ∃ F, F = farZ at_ nx := ⟨_, rfl⟩
              rw [twi_tri, ← hT] at HTW
              have HF1 := Lib.hid (fun W => (show Calls Try.prog 78 #[vecV at_.1 at_.2, vecV q.1 q.2] W fun e w' => e = .returned (.int .i64 F1) ∧ Ext W w' from by rw [hF1]; exact HF1.out W))
              have HF2 := Lib.hid (fun W => (show Calls Try.prog 78 #[vecV at_.1 at_.2, vecV nx.1 nx.2] W fun e w' => e = .returned (.int .i64 F2) ∧ Ext W w' from by rw [hF2]; exact HF2.out W))
              unfold stepN at HST
              rw [← hT, ← hF1, ← hF2] at HST
              clear hq hnx hT hF1 hF2 c1 c2 hqb hnb
              by_cases hqa : q = at_
              · have HS := Lib.hid (show (nextK ps at_ (i + 1)).1 = nx.1 ∧ (nextK ps at_ (i + 1)).2 = nx.2 from by rw [HST.out, if_pos hqa]; exact ⟨rfl, rfl⟩)
                have HQA := Lib.hid (show ∀ W, Sem.run Try.prog (binOp .eql 32 (.agg #[.int .i64 q.1, .int .i64 q.2]) (.agg #[.int .i64 at_.1, .int .i64 at_.2])) W = .ok (.bool true) W from fun W => by rw [hqa]; exact veq_t _ _ W)
                clear hqa
                generalize q.1 = qx at *
                generalize q.2 = qy at *
                generalize nx.1 = nxx at *
                generalize nx.2 = nxy at *
                generalize at_.1 = ax at *
                generalize at_.2 = ay at *
                go_wp2_with fail
                refine wp_region_stable [⟨[], none⟩, ⟨[], none⟩, ⟨[(0, 52), (1, 53)], none⟩, ⟨[(2, 54)], none⟩, ⟨[], none⟩, ⟨[(3, 55), (4, 56)], none⟩] (fun x y => Below x.heap.size x y) (MPat [MP.eq (.slice (some ⟨b, o, none⟩) n cap), MP.eq (.int .i64 (i : Int)), MP.eq (.pointer (some ⟨b, o + i * 2, none⟩)), MP.eq (vecV qx qy), MP.eq (vecV ax ay), MP.eq (.bool true)]) (by kernel_rfl) (fun _ _ _ h k => Ext.trans h k) (fun _ => Below.refl _ _) (fun x => (Below.refl x.heap.size x).drew) (MPat.mono _) (by kernel_rfl) ?obs ?rest
                case obs =>
                  refine ⟨?_, ?_, ?_, ?_, ?_, ?_, trivial⟩
                  · intro ev W hf _ _ hst hd
                    have e0 : ev (.tmp 0) = .slice (some ⟨b, o, none⟩) n cap := hf 0 (by kernel_rfl)
                    refine st_value (v := .slice (some ⟨b, o, none⟩) n cap) ?_ (Below.refl _ _) ?_
                    · simp [execOp, go_sem, e0]
                    · exact rfl
                  · intro ev W hf _ _ hst hd
                    have e8 : ev (.tmp 8) = .int .i64 (i : Int) := hf 8 (by kernel_rfl)
                    refine st_value (v := .int .i64 (i : Int)) ?_ (Below.refl _ _) ?_
                    · simp [execOp, go_sem, e8]
                    · exact rfl
                  · intro ev W hf _ _ hst hd
                    obtain ⟨d52, d53, _⟩ := hd
                    have e52 : ev (.tmp 52) = .slice (some ⟨b, o, none⟩) n cap := d52
                    have e53 : ev (.tmp 53) = .int .i64 (i : Int) := d53
                    refine st_value (v := .pointer (some ⟨b, o + i * 2, none⟩)) ?_ (Below.refl _ _) ?_
                    · simp [execOp, go_sem, e52, e53, hil]
                    · exact rfl
                  · intro ev W hf _ _ hst hd
                    obtain ⟨d54, _⟩ := hd
                    have e54 : ev (.tmp 54) = .pointer (some ⟨b, o + i * 2, none⟩) := d54
                    have q0 := Ext.cell hst C1.out
                    have q1 := Ext.cell hst C2.out
                    refine st_value (v := vecV qx qy) ?_ (Below.refl _ _) ?_
                    · simp [execOp, go_sem, e54, q0, q1, vecV]
                    · exact rfl
                  · intro ev W hf _ _ hst hd
                    have e6 : ev (.tmp 6) = .pointer (some ⟨A, 0, none⟩) := hf 6 (by kernel_rfl)
                    have q0 := VRow.cell (VRow.ext VA.out hst) (k := 0) rfl
                    have q1 := VRow.cell (VRow.ext VA.out hst) (k := 1) rfl
                    refine st_value (v := vecV ax ay) ?_ (Below.refl _ _) ?_
                    · simp [execOp, go_sem, e6, q0, q1, vecV]
                    · exact rfl
                  · intro ev W hf _ _ hst hd
                    obtain ⟨d55, d56, _⟩ := hd
                    have e55 : ev (.tmp 55) = vecV qx qy := d55
                    have e56 : ev (.tmp 56) = vecV ax ay := d56
                    refine st_value (v := .bool true) ?_ (Below.refl _ _) ?_
                    · simp [execOp, go_sem, e55, e56, HQA.out, vecV]
                    · exact rfl
                case rest =>
                  intro vs w3 hl hst hg
                  have HE3 := Lib.hid hst
                  have hvs : vs = [.slice (some ⟨b, o, none⟩) n cap, .int .i64 (i : Int), .pointer (some ⟨b, o + i * 2, none⟩), vecV qx qy, vecV ax ay, .bool true] := list_of hl (fun i u hu => by
                    match i, hu with
                    | 0, hu => exact (congrArg some (hg 0 u hu)).symm
                    | 1, hu => exact (congrArg some (hg 1 u hu)).symm
                    | 2, hu => exact (congrArg some (hg 2 u hu)).symm
                    | 3, hu => exact (congrArg some (hg 3 u hu)).symm
                    | 4, hu => exact (congrArg some (hg 4 u hu)).symm
                    | 5, hu => exact (congrArg some (hg 5 u hu)).symm
                    | n + 6, hu => exact absurd (lt_len hu) (by rw [hl]; simp))
                  clear hg hst hl
                  subst hvs
                  simp only [putAll, Act.put, List.dropLast, List.setIfInBounds_toArray, List.set_cons_zero, List.set_cons_succ]
                  have C1 := Lib.hid (Ext.cell HE3.out C1.out)
                  have C2 := Lib.hid (Ext.cell HE3.out C2.out)
                  have VN := Lib.hid (VRow.ext VN.out HE3.out)
                  have VA := Lib.hid (VRow.ext VA.out HE3.out)
                  have HEq := Lib.hid (Ext.trans HEq.out HE3.out)
                  clear HE3
                  go_wp2_with fail
                  exact ⟨⟨i + 1, by simp, by omega, by rw [HS.out.1, HS.out.2]; exact VN.out, VA.out, HEq.out⟩, by simp [intOf]; omega⟩
              · have HS0 := Lib.hid (show nextK ps at_ (i + 1) = if nx = at_ ∨ T < 0 ∨ (T = 0 ∧ F2 < F1) then q else nx from by rw [HST.out, if_neg hqa])
                have HQA := Lib.hid (fun W => veq_f q.1 q.2 at_.1 at_.2 (pt_ne hqa) W)
                clear hqa
                by_cases hna : nx = at_
                · have HS := Lib.hid (show (nextK ps at_ (i + 1)).1 = q.1 ∧ (nextK ps at_ (i + 1)).2 = q.2 from by rw [HS0.out, if_pos (.inl hna)]; exact ⟨rfl, rfl⟩)
                  have HNA := Lib.hid (fun W => (show Sem.run Try.prog (binOp .eql 32 (.agg #[.int .i64 nx.1, .int .i64 nx.2]) (.agg #[.int .i64 at_.1, .int .i64 at_.2])) W = .ok (.bool true) W from by rw [hna]; exact veq_t _ _ W))
                  clear hna HS0
                  generalize q.1 = qx at *
                  generalize q.2 = qy at *
                  generalize nx.1 = nxx at *
                  generalize nx.2 = nxy at *
                  generalize at_.1 = ax at *
                  generalize at_.2 = ay at *
                  go_wp2_with fail
                  refine wp_region_stable [⟨[], none⟩, ⟨[], none⟩, ⟨[(0, 52), (1, 53)], none⟩, ⟨[(2, 54)], none⟩, ⟨[], none⟩, ⟨[(3, 55), (4, 56)], none⟩] (fun x y => Below x.heap.size x y) (MPat [MP.eq (.slice (some ⟨b, o, none⟩) n cap), MP.eq (.int .i64 (i : Int)), MP.eq (.pointer (some ⟨b, o + i * 2, none⟩)), MP.eq (vecV qx qy), MP.eq (vecV ax ay), MP.eq (.bool false)]) (by kernel_rfl) (fun _ _ _ h k => Ext.trans h k) (fun _ => Below.refl _ _) (fun x => (Below.refl x.heap.size x).drew) (MPat.mono _) (by kernel_rfl) ?obs ?rest
                  case obs =>
                    refine ⟨?_, ?_, ?_, ?_, ?_, ?_, trivial⟩
                    · intro ev W hf _ _ hst hd
                      have e0 : ev (.tmp 0) = .slice (some ⟨b, o, none⟩) n cap := hf 0 (by kernel_rfl)
                      refine st_value (v := .slice (some ⟨b, o, none⟩) n cap) ?_ (Below.refl _ _) ?_
                      · simp [execOp, go_sem, e0]
                      · exact rfl
                    · intro ev W hf _ _ hst hd
                      have e8 : ev (.tmp 8) = .int .i64 (i : Int) := hf 8 (by kernel_rfl)
                      refine st_value (v := .int .i64 (i : Int)) ?_ (Below.refl _ _) ?_
                      · simp [execOp, go_sem, e8]
                      · exact rfl
                    · intro ev W hf _ _ hst hd
                      obtain ⟨d52, d53, _⟩ := hd
                      have e52 : ev (.tmp 52) = .slice (some ⟨b, o, none⟩) n cap := d52
                      have e53 : ev (.tmp 53) = .int .i64 (i : Int) := d53
                      refine st_value (v := .pointer (some ⟨b, o + i * 2, none⟩)) ?_ (Below.refl _ _) ?_
                      · simp [execOp, go_sem, e52, e53, hil]
                      · exact rfl
                    · intro ev W hf _ _ hst hd
                      obtain ⟨d54, _⟩ := hd
                      have e54 : ev (.tmp 54) = .pointer (some ⟨b, o + i * 2, none⟩) := d54
                      have q0 := Ext.cell hst C1.out
                      have q1 := Ext.cell hst C2.out
                      refine st_value (v := vecV qx qy) ?_ (Below.refl _ _) ?_
                      · simp [execOp, go_sem, e54, q0, q1, vecV]
                      · exact rfl
                    · intro ev W hf _ _ hst hd
                      have e6 : ev (.tmp 6) = .pointer (some ⟨A, 0, none⟩) := hf 6 (by kernel_rfl)
                      have q0 := VRow.cell (VRow.ext VA.out hst) (k := 0) rfl
                      have q1 := VRow.cell (VRow.ext VA.out hst) (k := 1) rfl
                      refine st_value (v := vecV ax ay) ?_ (Below.refl _ _) ?_
                      · simp [execOp, go_sem, e6, q0, q1, vecV]
                      · exact rfl
                    · intro ev W hf _ _ hst hd
                      obtain ⟨d55, d56, _⟩ := hd
                      have e55 : ev (.tmp 55) = vecV qx qy := d55
                      have e56 : ev (.tmp 56) = vecV ax ay := d56
                      refine st_value (v := .bool false) ?_ (Below.refl _ _) ?_
                      · simp [execOp, go_sem, e55, e56, HQA.out, vecV]
                      · exact rfl
                  case rest =>
                    intro vs w3 hl hst hg
                    have HE3 := Lib.hid hst
                    have hvs : vs = [.slice (some ⟨b, o, none⟩) n cap, .int .i64 (i : Int), .pointer (some ⟨b, o + i * 2, none⟩), vecV qx qy, vecV ax ay, .bool false] := list_of hl (fun i u hu => by
                      match i, hu with
                      | 0, hu => exact (congrArg some (hg 0 u hu)).symm
                      | 1, hu => exact (congrArg some (hg 1 u hu)).symm
                      | 2, hu => exact (congrArg some (hg 2 u hu)).symm
                      | 3, hu => exact (congrArg some (hg 3 u hu)).symm
                      | 4, hu => exact (congrArg some (hg 4 u hu)).symm
                      | 5, hu => exact (congrArg some (hg 5 u hu)).symm
                      | n + 6, hu => exact absurd (lt_len hu) (by rw [hl]; simp))
                    clear hg hst hl
                    subst hvs
                    simp only [putAll, Act.put, List.dropLast, List.setIfInBounds_toArray, List.set_cons_zero, List.set_cons_succ]
                    have C1 := Lib.hid (Ext.cell HE3.out C1.out)
                    have C2 := Lib.hid (Ext.cell HE3.out C2.out)
                    have VN := Lib.hid (VRow.ext VN.out HE3.out)
                    have VA := Lib.hid (VRow.ext VA.out HE3.out)
                    have HEq := Lib.hid (Ext.trans HEq.out HE3.out)
                    clear HE3
                    go_wp2_with fail
                    refine wp_region_stable_last [⟨[], none⟩, ⟨[], none⟩, ⟨[], none⟩, ⟨[], none⟩, ⟨[(2, 60), (3, 61)], none⟩, ⟨[(4, 62)], none⟩, ⟨[(0, 58), (1, 59), (5, 63)], none⟩] (fun x y => Below x.heap.size x y) (MPat [MP.eq (vecV ax ay), MP.eq (vecV nxx nxy), MP.eq (.slice (some ⟨b, o, none⟩) n cap), MP.eq (.int .i64 (i : Int)), MP.eq (.pointer (some ⟨b, o + i * 2, none⟩)), MP.eq (vecV qx qy), MP.eq (.int .i64 T)]) rfl (by kernel_rfl) (fun _ _ _ h k => Ext.trans h k) (fun _ => Below.refl _ _) (fun x => (Below.refl x.heap.size x).drew) (MPat.mono _) (by kernel_rfl) (by kernel_rfl) (by kernel_rfl) ?obs ?rest
                    case obs =>
                      refine ⟨?_, ?_, ?_, ?_, ?_, ?_, ?_, trivial⟩
                      · intro ev W hf _ _ hst hd
                        have e6 : ev (.tmp 6) = .pointer (some ⟨A, 0, none⟩) := hf 6 (by kernel_rfl)
                        have q0 := VRow.cell (VRow.ext VA.out hst) (k := 0) rfl
                        have q1 := VRow.cell (VRow.ext VA.out hst) (k := 1) rfl
                        refine st_value (v := vecV ax ay) ?_ (Below.refl _ _) ?_
                        · simp [execOp, go_sem, e6, q0, q1, vecV]
                        · exact rfl
                      · intro ev W hf _ _ hst hd
                        have e7 : ev (.tmp 7) = .pointer (some ⟨N, 0, none⟩) := hf 7 (by kernel_rfl)
                        have q0 := VRow.cell (VRow.ext VN.out hst) (k := 0) rfl
                        have q1 := VRow.cell (VRow.ext VN.out hst) (k := 1) rfl
                        refine st_value (v := vecV nxx nxy) ?_ (Below.refl _ _) ?_
                        · simp [execOp, go_sem, e7, q0, q1, vecV]
                        · exact rfl
                      · intro ev W hf _ _ hst hd
                        have e0 : ev (.tmp 0) = .slice (some ⟨b, o, none⟩) n cap := hf 0 (by kernel_rfl)
                        refine st_value (v := .slice (some ⟨b, o, none⟩) n cap) ?_ (Below.refl _ _) ?_
                        · simp [execOp, go_sem, e0]
                        · exact rfl
                      · intro ev W hf _ _ hst hd
                        have e8 : ev (.tmp 8) = .int .i64 (i : Int) := hf 8 (by kernel_rfl)
                        refine st_value (v := .int .i64 (i : Int)) ?_ (Below.refl _ _) ?_
                        · simp [execOp, go_sem, e8]
                        · exact rfl
                      · intro ev W hf _ _ hst hd
                        obtain ⟨d60, d61, _⟩ := hd
                        have e60 : ev (.tmp 60) = .slice (some ⟨b, o, none⟩) n cap := d60
                        have e61 : ev (.tmp 61) = .int .i64 (i : Int) := d61
                        refine st_value (v := .pointer (some ⟨b, o + i * 2, none⟩)) ?_ (Below.refl _ _) ?_
                        · simp [execOp, go_sem, e60, e61, hil]
                        · exact rfl
                      · intro ev W hf _ _ hst hd
                        obtain ⟨d62, _⟩ := hd
                        have e62 : ev (.tmp 62) = .pointer (some ⟨b, o + i * 2, none⟩) := d62
                        have q0 := Ext.cell hst C1.out
                        have q1 := Ext.cell hst C2.out
                        refine st_value (v := vecV qx qy) ?_ (Below.refl _ _) ?_
                        · simp [execOp, go_sem, e62, q0, q1, vecV]
                        · exact rfl
                      · intro ev W hf _ hfn hst hd
                        obtain ⟨d58, d59, d63, _⟩ := hd
                        have e58 : ev (.tmp 58) = vecV ax ay := d58
                        have e59 : ev (.tmp 59) = vecV nxx nxy := d59
                        have e63 : ev (.tmp 63) = vecV qx qy := d63
                        refine st_call (f := 50) (args := #[vecV ax ay, vecV nxx nxy, vecV qx qy]) (by simp [execOp, go_sem, hfn, e58, e59, e63]) (HTW.out W) (fun _ _ => rfl)
                    case rest =>
                      intro vs w3 hl hst hg
                      have HE3 := Lib.hid hst
                      have hvs : vs = [vecV ax ay, vecV nxx nxy, .slice (some ⟨b, o, none⟩) n cap, .int .i64 (i : Int), .pointer (some ⟨b, o + i * 2, none⟩), vecV qx qy, .int .i64 T] := list_of hl (fun i u hu => by
                        match i, hu with
                        | 0, hu => exact (congrArg some (hg 0 u hu)).symm
                        | 1, hu => exact (congrArg some (hg 1 u hu)).symm
                        | 2, hu => exact (congrArg some (hg 2 u hu)).symm
                        | 3, hu => exact (congrArg some (hg 3 u hu)).symm
                        | 4, hu => exact (congrArg some (hg 4 u hu)).symm
                        | 5, hu => exact (congrArg some (hg 5 u hu)).symm
                        | 6, hu => exact (congrArg some (hg 6 u hu)).symm
                        | n + 7, hu => exact absurd (lt_len hu) (by rw [hl]; simp))
                      clear hg hst hl
                      subst hvs
                      simp only [putAll, Act.put, List.dropLast, List.setIfInBounds_toArray, List.set_cons_zero, List.set_cons_succ]
                      have C1 := Lib.hid (Ext.cell HE3.out C1.out)
                      have C2 := Lib.hid (Ext.cell HE3.out C2.out)
                      have VN := Lib.hid (VRow.ext VN.out HE3.out)
                      have VA := Lib.hid (VRow.ext VA.out HE3.out)
                      have HEq := Lib.hid (Ext.trans HEq.out HE3.out)
                      clear HE3
                      go_wp2_with fail
                      refine wp_region_stable [⟨[], none⟩, ⟨[], none⟩, ⟨[(0, 65), (1, 66)], none⟩, ⟨[(2, 67)], none⟩, ⟨[(3, 68)], some (68, false)⟩, ⟨[(4, 69), (3, 68)], some (68, false)⟩, ⟨[(3, 68), (5, 70)], none⟩, ⟨[(6, 71)], none⟩, ⟨[(7, 72)], some (72, false)⟩, ⟨[(8, 73), (7, 72)], some (72, false)⟩, ⟨[(9, 74), (7, 72)], some (72, false)⟩, ⟨[(10, 75)], some (75, true)⟩, ⟨[(10, 75)], some (75, true)⟩, ⟨[(10, 75)], some (75, true)⟩, ⟨[(12, 77), (13, 78), (10, 75)], some (75, true)⟩, ⟨[(14, 79), (10, 75)], some (75, true)⟩, ⟨[(11, 76), (15, 80), (10, 75)], some (75, true)⟩, ⟨[(10, 75)], some (75, true)⟩, ⟨[(10, 75)], some (75, true)⟩, ⟨[(17, 82), (18, 83), (10, 75)], some (75, true)⟩, ⟨[(16, 81), (19, 84), (10, 75)], some (75, true)⟩, ⟨[(10, 75), (20, 85), (7, 72)], some (72, false)⟩, ⟨[(7, 72), (21, 86)], none⟩] (fun x y => Below x.heap.size x y) (MPat [MP.eq (vecV nxx nxy), MP.eq (vecV ax ay), MP.eq (.bool true), MP.eq (.bool true), MP.eq (undef), MP.eq (undef), MP.eq (.bool true), MP.eq (.bool true), MP.eq (undef), MP.eq (undef), MP.eq (undef), MP.eq (undef), MP.eq (undef), MP.eq (undef), MP.eq (undef), MP.eq (undef), MP.eq (undef), MP.eq (undef), MP.eq (undef), MP.eq (undef), MP.eq (undef), MP.eq (undef), MP.eq (.bool true)]) (by kernel_rfl) (fun _ _ _ h k => Ext.trans h k) (fun _ => Below.refl _ _) (fun x => (Below.refl x.heap.size x).drew) (MPat.mono _) (by kernel_rfl) ?obs ?rest
                      case obs =>
                        refine ⟨?_, ?_, ?_, ?_, ?_, ?_, ?_, ?_, ?_, ?_, ?_, ?_, ?_, ?_, ?_, ?_, ?_, ?_, ?_, ?_, ?_, ?_, ?_, trivial⟩
                        · intro ev W hf _ _ hst hd
                          have e7 : ev (.tmp 7) = .pointer (some ⟨N, 0, none⟩) := hf 7 (by kernel_rfl)
                          have q0 := VRow.cell (VRow.ext VN.out hst) (k := 0) rfl
                          have q1 := VRow.cell (VRow.ext VN.out hst) (k := 1) rfl
                          refine st_value (v := vecV nxx nxy) ?_ (Below.refl _ _) ?_
                          · simp [execOp, go_sem, e7, q0, q1, vecV]
                          · exact rfl
                        · intro ev W hf _ _ hst hd
                          have e6 : ev (.tmp 6) = .pointer (some ⟨A, 0, none⟩) := hf 6 (by kernel_rfl)
                          have q0 := VRow.cell (VRow.ext VA.out hst) (k := 0) rfl
                          have q1 := VRow.cell (VRow.ext VA.out hst) (k := 1) rfl
                          refine st_value (v := vecV ax ay) ?_ (Below.refl _ _) ?_
                          · simp [execOp, go_sem, e6, q0, q1, vecV]
                          · exact rfl
                        · intro ev W hf _ _ hst hd
                          obtain ⟨d65, d66, _⟩ := hd
                          have e65 : ev (.tmp 65) = vecV nxx nxy := d65
                          have e66 : ev (.tmp 66) = vecV ax ay := d66
                          refine st_value (v := .bool true) ?_ (Below.refl _ _) ?_
                          · simp [execOp, go_sem, e65, e66, HNA.out, vecV]
                          · exact rfl
                        · intro ev W hf _ _ hst hd
                          obtain ⟨d67, _⟩ := hd
                          have e67 : ev (.tmp 67) = .bool true := d67
                          refine st_value (v := .bool true) ?_ (Below.refl _ _) ?_
                          · simp [execOp, go_sem, e67]
                          · exact rfl
                        · intro ev W hf _ _ hst hd
                          obtain ⟨d68, _⟩ := hd
                          have e68 : ev (.tmp 68) = .bool true := d68
                          refine ⟨fun hh => ?_, fun _ => rfl⟩
                          rw [e68] at hh
                          simp at hh
                        · intro ev W hf _ _ hst hd
                          obtain ⟨d69, d68, _⟩ := hd
                          have e68 : ev (.tmp 68) = .bool true := d68
                          refine ⟨fun hh => ?_, fun _ => rfl⟩
                          rw [e68] at hh
                          simp at hh
                        · intro ev W hf hcst _ hst hd
                          obtain ⟨d68, d70, _⟩ := hd
                          have e68 : ev (.tmp 68) = .bool true := d68
                          have e70 : ev (.tmp 70) = undef := d70
                          refine st_value (v := .bool true) ?_ (Below.refl _ _) ?_
                          · simp [execOp, go_sem, e68, e70, hcst]
                          · exact rfl
                        · intro ev W hf _ _ hst hd
                          obtain ⟨d71, _⟩ := hd
                          have e71 : ev (.tmp 71) = .bool true := d71
                          refine st_value (v := .bool true) ?_ (Below.refl _ _) ?_
                          · simp [execOp, go_sem, e71]
                          · exact rfl
                        · intro ev W hf _ _ hst hd
                          obtain ⟨d72, _⟩ := hd
                          have e72 : ev (.tmp 72) = .bool true := d72
                          refine ⟨fun hh => ?_, fun _ => rfl⟩
                          rw [e72] at hh
                          simp at hh
                        · intro ev W hf _ _ hst hd
                          obtain ⟨d73, d72, _⟩ := hd
                          have e72 : ev (.tmp 72) = .bool true := d72
                          refine ⟨fun hh => ?_, fun _ => rfl⟩
                          rw [e72] at hh
                          simp at hh
                        · intro ev W hf _ _ hst hd
                          obtain ⟨d74, d72, _⟩ := hd
                          have e72 : ev (.tmp 72) = .bool true := d72
                          refine ⟨fun hh => ?_, fun _ => rfl⟩
                          rw [e72] at hh
                          simp at hh
                        · intro ev W hf _ _ hst hd
                          obtain ⟨d75, _⟩ := hd
                          have e75 : ev (.tmp 75) = undef := d75
                          refine ⟨fun hh => ?_, fun _ => rfl⟩
                          rw [e75] at hh
                          cases hh
                        · intro ev W hf _ _ hst hd
                          obtain ⟨d75, _⟩ := hd
                          have e75 : ev (.tmp 75) = undef := d75
                          refine ⟨fun hh => ?_, fun _ => rfl⟩
                          rw [e75] at hh
                          cases hh
                        · intro ev W hf _ _ hst hd
                          obtain ⟨d75, _⟩ := hd
                          have e75 : ev (.tmp 75) = undef := d75
                          refine ⟨fun hh => ?_, fun _ => rfl⟩
                          rw [e75] at hh
                          cases hh
                        · intro ev W hf _ _ hst hd
                          obtain ⟨d77, d78, d75, _⟩ := hd
                          have e75 : ev (.tmp 75) = undef := d75
                          refine ⟨fun hh => ?_, fun _ => rfl⟩
                          rw [e75] at hh
                          cases hh
                        · intro ev W hf _ _ hst hd
                          obtain ⟨d79, d75, _⟩ := hd
                          have e75 : ev (.tmp 75) = undef := d75
                          refine ⟨fun hh => ?_, fun _ => rfl⟩
                          rw [e75] at hh
                          cases hh
                        · intro ev W hf _ _ hst hd
                          obtain ⟨d76, d80, d75, _⟩ := hd
                          have e75 : ev (.tmp 75) = undef := d75
                          refine ⟨fun hh => ?_, fun _ => rfl⟩
                          rw [e75] at hh
                          cases hh
                        · intro ev W hf _ _ hst hd
                          obtain ⟨d75, _⟩ := hd
                          have e75 : ev (.tmp 75) = undef := d75
                          refine ⟨fun hh => ?_, fun _ => rfl⟩
                          rw [e75] at hh
                          cases hh
                        · intro ev W hf _ _ hst hd
                          obtain ⟨d75, _⟩ := hd
                          have e75 : ev (.tmp 75) = undef := d75
                          refine ⟨fun hh => ?_, fun _ => rfl⟩
                          rw [e75] at hh
                          cases hh
                        · intro ev W hf _ _ hst hd
                          obtain ⟨d82, d83, d75, _⟩ := hd
                          have e75 : ev (.tmp 75) = undef := d75
                          refine ⟨fun hh => ?_, fun _ => rfl⟩
                          rw [e75] at hh
                          cases hh
                        · intro ev W hf _ _ hst hd
                          obtain ⟨d81, d84, d75, _⟩ := hd
                          have e75 : ev (.tmp 75) = undef := d75
                          refine ⟨fun hh => ?_, fun _ => rfl⟩
                          rw [e75] at hh
                          cases hh
                        · intro ev W hf _ _ hst hd
                          obtain ⟨d75, d85, d72, _⟩ := hd
                          have e72 : ev (.tmp 72) = .bool true := d72
                          refine ⟨fun hh => ?_, fun _ => rfl⟩
                          rw [e72] at hh
                          simp at hh
                        · intro ev W hf hcst _ hst hd
                          obtain ⟨d72, d86, _⟩ := hd
                          have e72 : ev (.tmp 72) = .bool true := d72
                          have e86 : ev (.tmp 86) = undef := d86
                          refine st_value (v := .bool true) ?_ (Below.refl _ _) ?_
                          · simp [execOp, go_sem, e72, e86, hcst]
                          · exact rfl
                      case rest =>
                        intro vs w3 hl hst hg
                        have HE3 := Lib.hid hst
                        have hvs : vs = [vecV nxx nxy, vecV ax ay, .bool true, .bool true, undef, undef, .bool true, .bool true, undef, undef, undef, undef, undef, undef, undef, undef, undef, undef, undef, undef, undef, undef, .bool true] := list_of hl (fun i u hu => by
                          match i, hu with
                          | 0, hu => exact (congrArg some (hg 0 u hu)).symm
                          | 1, hu => exact (congrArg some (hg 1 u hu)).symm
                          | 2, hu => exact (congrArg some (hg 2 u hu)).symm
                          | 3, hu => exact (congrArg some (hg 3 u hu)).symm
                          | 4, hu => exact (congrArg some (hg 4 u hu)).symm
                          | 5, hu => exact (congrArg some (hg 5 u hu)).symm
                          | 6, hu => exact (congrArg some (hg 6 u hu)).symm
                          | 7, hu => exact (congrArg some (hg 7 u hu)).symm
                          | 8, hu => exact (congrArg some (hg 8 u hu)).symm
                          | 9, hu => exact (congrArg some (hg 9 u hu)).symm
                          | 10, hu => exact (congrArg some (hg 10 u hu)).symm
                          | 11, hu => exact (congrArg some (hg 11 u hu)).symm
                          | 12, hu => exact (congrArg some (hg 12 u hu)).symm
                          | 13, hu => exact (congrArg some (hg 13 u hu)).symm
                          | 14, hu => exact (congrArg some (hg 14 u hu)).symm
                          | 15, hu => exact (congrArg some (hg 15 u hu)).symm
                          | 16, hu => exact (congrArg some (hg 16 u hu)).symm
                          | 17, hu => exact (congrArg some (hg 17 u hu)).symm
                          | 18, hu => exact (congrArg some (hg 18 u hu)).symm
                          | 19, hu => exact (congrArg some (hg 19 u hu)).symm
                          | 20, hu => exact (congrArg some (hg 20 u hu)).symm
                          | 21, hu => exact (congrArg some (hg 21 u hu)).symm
                          | 22, hu => exact (congrArg some (hg 22 u hu)).symm
                          | n + 23, hu => exact absurd (lt_len hu) (by rw [hl]; simp))
                        clear hg hst hl
                        subst hvs
                        simp only [putAll, Act.put, List.dropLast, List.setIfInBounds_toArray, List.set_cons_zero, List.set_cons_succ]
                        have C1 := Lib.hid (Ext.cell HE3.out C1.out)
                        have C2 := Lib.hid (Ext.cell HE3.out C2.out)
                        have VN := Lib.hid (VRow.ext VN.out HE3.out)
                        have VA := Lib.hid (VRow.ext VA.out HE3.out)
                        have HEq := Lib.hid (Ext.trans HEq.out HE3.out)
                        clear HE3
                        have c1 := C1.out
                        have c2 := C2.out
                        have k1 := cell_lt c1
                        have n0 := VRow.cell VN.out (k := 0) rfl
                        have n1 := VRow.cell VN.out (k := 1) rfl
                        have f0 := VRow.frozen VN.out 0 none
                        have f1 := VRow.frozen VN.out 1 none
                        have HP := Lib.hid (vec_put HEq.out VN.out HWN.out (.int .i64 qx) (.int .i64 qy))
                        have HVA5 := Lib.hid ((VRow.setOther VA.out (a := ⟨N, 0, none⟩) HAN.out (.int .i64 qx)).setOther (a := ⟨N, 1, none⟩) HAN.out (.int .i64 qy))
                        go_wp2_with fail
                        exact ⟨⟨i + 1, by simp, by omega, by rw [HS.out.1, HS.out.2]; exact HP.out.1, HVA5.out, HP.out.2⟩, by simp [intOf]; omega⟩
                · have HNA := Lib.hid (fun W => veq_f nx.1 nx.2 at_.1 at_.2 (pt_ne hna) W)
                  rcases Int.lt_trichotomy T 0 with hT | hT | hT
                  · have HS := Lib.hid (show (nextK ps at_ (i + 1)).1 = q.1 ∧ (nextK ps at_ (i + 1)).2 = q.2 from by rw [HS0.out, if_pos (.inr (.inl hT))]; exact ⟨rfl, rfl⟩)
                    have HT1 := Lib.hid (show decide (T < 0) = true from decide_eq_true hT)
                    clear hna HS0 hT
                    generalize q.1 = qx at *
                    generalize q.2 = qy at *
                    generalize nx.1 = nxx at *
                    generalize nx.2 = nxy at *
                    generalize at_.1 = ax at *
                    generalize at_.2 = ay at *
                    go_wp2_with fail
                    refine wp_region_stable [⟨[], none⟩, ⟨[], none⟩, ⟨[(0, 52), (1, 53)], none⟩, ⟨[(2, 54)], none⟩, ⟨[], none⟩, ⟨[(3, 55), (4, 56)], none⟩] (fun x y => Below x.heap.size x y) (MPat [MP.eq (.slice (some ⟨b, o, none⟩) n cap), MP.eq (.int .i64 (i : Int)), MP.eq (.pointer (some ⟨b, o + i * 2, none⟩)), MP.eq (vecV qx qy), MP.eq (vecV ax ay), MP.eq (.bool false)]) (by kernel_rfl) (fun _ _ _ h k => Ext.trans h k) (fun _ => Below.refl _ _) (fun x => (Below.refl x.heap.size x).drew) (MPat.mono _) (by kernel_rfl) ?obs ?rest
                    case obs =>
                      refine ⟨?_, ?_, ?_, ?_, ?_, ?_, trivial⟩
                      · intro ev W hf _ _ hst hd
                        have e0 : ev (.tmp 0) = .slice (some ⟨b, o, none⟩) n cap := hf 0 (by kernel_rfl)
                        refine st_value (v := .slice (some ⟨b, o, none⟩) n cap) ?_ (Below.refl _ _) ?_
                        · simp [execOp, go_sem, e0]
                        · exact rfl
                      · intro ev W hf _ _ hst hd
                        have e8 : ev (.tmp 8) = .int .i64 (i : Int) := hf 8 (by kernel_rfl)
                        refine st_value (v := .int .i64 (i : Int)) ?_ (Below.refl _ _) ?_
                        · simp [execOp, go_sem, e8]
                        · exact rfl
                      · intro ev W hf _ _ hst hd
                        obtain ⟨d52, d53, _⟩ := hd
                        have e52 : ev (.tmp 52) = .slice (some ⟨b, o, none⟩) n cap := d52
                        have e53 : ev (.tmp 53) = .int .i64 (i : Int) := d53
                        refine st_value (v := .pointer (some ⟨b, o + i * 2, none⟩)) ?_ (Below.refl _ _) ?_
                        · simp [execOp, go_sem, e52, e53, hil]
                        · exact rfl
                      · intro ev W hf _ _ hst hd
                        obtain ⟨d54, _⟩ := hd
                        have e54 : ev (.tmp 54) = .pointer (some ⟨b, o + i * 2, none⟩) := d54
                        have q0 := Ext.cell hst C1.out
                        have q1 := Ext.cell hst C2.out
                        refine st_value (v := vecV qx qy) ?_ (Below.refl _ _) ?_
                        · simp [execOp, go_sem, e54, q0, q1, vecV]
                        · exact rfl
                      · intro ev W hf _ _ hst hd
                        have e6 : ev (.tmp 6) = .pointer (some ⟨A, 0, none⟩) := hf 6 (by kernel_rfl)
                        have q0 := VRow.cell (VRow.ext VA.out hst) (k := 0) rfl
                        have q1 := VRow.cell (VRow.ext VA.out hst) (k := 1) rfl
                        refine st_value (v := vecV ax ay) ?_ (Below.refl _ _) ?_
                        · simp [execOp, go_sem, e6, q0, q1, vecV]
                        · exact rfl
                      · intro ev W hf _ _ hst hd
                        obtain ⟨d55, d56, _⟩ := hd
                        have e55 : ev (.tmp 55) = vecV qx qy := d55
                        have e56 : ev (.tmp 56) = vecV ax ay := d56
                        refine st_value (v := .bool false) ?_ (Below.refl _ _) ?_
                        · simp [execOp, go_sem, e55, e56, HQA.out, vecV]
                        · exact rfl
                    case rest =>
                      intro vs w3 hl hst hg
                      have HE3 := Lib.hid hst
                      have hvs : vs = [.slice (some ⟨b, o, none⟩) n cap, .int .i64 (i : Int), .pointer (some ⟨b, o + i * 2, none⟩), vecV qx qy, vecV ax ay, .bool false] := list_of hl (fun i u hu => by
                        match i, hu with
                        | 0, hu => exact (congrArg some (hg 0 u hu)).symm
                        | 1, hu => exact (congrArg some (hg 1 u hu)).symm
                        | 2, hu => exact (congrArg some (hg 2 u hu)).symm
                        | 3, hu => exact (congrArg some (hg 3 u hu)).symm
                        | 4, hu => exact (congrArg some (hg 4 u hu)).symm
                        | 5, hu => exact (congrArg some (hg 5 u hu)).symm
                        | n + 6, hu => exact absurd (lt_len hu) (by rw [hl]; simp))
                      clear hg hst hl
                      subst hvs
                      simp only [putAll, Act.put, List.dropLast, List.setIfInBounds_toArray, List.set_cons_zero, List.set_cons_succ]
                      have C1 := Lib.hid (Ext.cell HE3.out C1.out)
                      have C2 := Lib.hid (Ext.cell HE3.out C2.out)
                      have VN := Lib.hid (VRow.ext VN.out HE3.out)
                      have VA := Lib.hid (VRow.ext VA.out HE3.out)
                      have HEq := Lib.hid (Ext.trans HEq.out HE3.out)
                      clear HE3
                      go_wp2_with fail
                      refine wp_region_stable_last [⟨[], none⟩, ⟨[], none⟩, ⟨[], none⟩, ⟨[], none⟩, ⟨[(2, 60), (3, 61)], none⟩, ⟨[(4, 62)], none⟩, ⟨[(0, 58), (1, 59), (5, 63)], none⟩] (fun x y => Below x.heap.size x y) (MPat [MP.eq (vecV ax ay), MP.eq (vecV nxx nxy), MP.eq (.slice (some ⟨b, o, none⟩) n cap), MP.eq (.int .i64 (i : Int)), MP.eq (.pointer (some ⟨b, o + i * 2, none⟩)), MP.eq (vecV qx qy), MP.eq (.int .i64 T)]) rfl (by kernel_rfl) (fun _ _ _ h k => Ext.trans h k) (fun _ => Below.refl _ _) (fun x => (Below.refl x.heap.size x).drew) (MPat.mono _) (by kernel_rfl) (by kernel_rfl) (by kernel_rfl) ?obs ?rest
                      case obs =>
                        refine ⟨?_, ?_, ?_, ?_, ?_, ?_, ?_, trivial⟩
                        · intro ev W hf _ _ hst hd
                          have e6 : ev (.tmp 6) = .pointer (some ⟨A, 0, none⟩) := hf 6 (by kernel_rfl)
                          have q0 := VRow.cell (VRow.ext VA.out hst) (k := 0) rfl
                          have q1 := VRow.cell (VRow.ext VA.out hst) (k := 1) rfl
                          refine st_value (v := vecV ax ay) ?_ (Below.refl _ _) ?_
                          · simp [execOp, go_sem, e6, q0, q1, vecV]
                          · exact rfl
                        · intro ev W hf _ _ hst hd
                          have e7 : ev (.tmp 7) = .pointer (some ⟨N, 0, none⟩) := hf 7 (by kernel_rfl)
                          have q0 := VRow.cell (VRow.ext VN.out hst) (k := 0) rfl
                          have q1 := VRow.cell (VRow.ext VN.out hst) (k := 1) rfl
                          refine st_value (v := vecV nxx nxy) ?_ (Below.refl _ _) ?_
                          · simp [execOp, go_sem, e7, q0, q1, vecV]
                          · exact rfl
                        · intro ev W hf _ _ hst hd
                          have e0 : ev (.tmp 0) = .slice (some ⟨b, o, none⟩) n cap := hf 0 (by kernel_rfl)
                          refine st_value (v := .slice (some ⟨b, o, none⟩) n cap) ?_ (Below.refl _ _) ?_
                          · simp [execOp, go_sem, e0]
                          · exact rfl
                        · intro ev W hf _ _ hst hd
                          have e8 : ev (.tmp 8) = .int .i64 (i : Int) := hf 8 (by kernel_rfl)
                          refine st_value (v := .int .i64 (i : Int)) ?_ (Below.refl _ _) ?_
                          · simp [execOp, go_sem, e8]
                          · exact rfl
                        · intro ev W hf _ _ hst hd
                          obtain ⟨d60, d61, _⟩ := hd
                          have e60 : ev (.tmp 60) = .slice (some ⟨b, o, none⟩) n cap := d60
                          have e61 : ev (.tmp 61) = .int .i64 (i : Int) := d61
                          refine st_value (v := .pointer (some ⟨b, o + i * 2, none⟩)) ?_ (Below.refl _ _) ?_
                          · simp [execOp, go_sem, e60, e61, hil]
                          · exact rfl
                        · intro ev W hf _ _ hst hd
                          obtain ⟨d62, _⟩ := hd
                          have e62 : ev (.tmp 62) = .pointer (some ⟨b, o + i * 2, none⟩) := d62
                          have q0 := Ext.cell hst C1.out
                          have q1 := Ext.cell hst C2.out
                          refine st_value (v := vecV qx qy) ?_ (Below.refl _ _) ?_
                          · simp [execOp, go_sem, e62, q0, q1, vecV]
                          · exact rfl
                        · intro ev W hf _ hfn hst hd
                          obtain ⟨d58, d59, d63, _⟩ := hd
                          have e58 : ev (.tmp 58) = vecV ax ay := d58
                          have e59 : ev (.tmp 59) = vecV nxx nxy := d59
                          have e63 : ev (.tmp 63) = vecV qx qy := d63
                          refine st_call (f := 50) (args := #[vecV ax ay, vecV nxx nxy, vecV qx qy]) (by simp [execOp, go_sem, hfn, e58, e59, e63]) (HTW.out W) (fun _ _ => rfl)
                      case rest =>
                        intro vs w3 hl hst hg
                        have HE3 := Lib.hid hst
                        have hvs : vs = [vecV ax ay, vecV nxx nxy, .slice (some ⟨b, o, none⟩) n cap, .int .i64 (i : Int), .pointer (some ⟨b, o + i * 2, none⟩), vecV qx qy, .int .i64 T] := list_of hl (fun i u hu => by
                          match i, hu with
                          | 0, hu => exact (congrArg some (hg 0 u hu)).symm
                          | 1, hu => exact (congrArg some (hg 1 u hu)).symm
                          | 2, hu => exact (congrArg some (hg 2 u hu)).symm
                          | 3, hu => exact (congrArg some (hg 3 u hu)).symm
                          | 4, hu => exact (congrArg some (hg 4 u hu)).symm
                          | 5, hu => exact (congrArg some (hg 5 u hu)).symm
                          | 6, hu => exact (congrArg some (hg 6 u hu)).symm
                          | n + 7, hu => exact absurd (lt_len hu) (by rw [hl]; simp))
                        clear hg hst hl
                        subst hvs
                        simp only [putAll, Act.put, List.dropLast, List.setIfInBounds_toArray, List.set_cons_zero, List.set_cons_succ]
                        have C1 := Lib.hid (Ext.cell HE3.out C1.out)
                        have C2 := Lib.hid (Ext.cell HE3.out C2.out)
                        have VN := Lib.hid (VRow.ext VN.out HE3.out)
                        have VA := Lib.hid (VRow.ext VA.out HE3.out)
                        have HEq := Lib.hid (Ext.trans HEq.out HE3.out)
                        clear HE3
                        go_wp2_with fail
                        refine wp_region_stable [⟨[], none⟩, ⟨[], none⟩, ⟨[(0, 65), (1, 66)], none⟩, ⟨[(2, 67)], none⟩, ⟨[(3, 68)], some (68, false)⟩, ⟨[(4, 69), (3, 68)], some (68, false)⟩, ⟨[(3, 68), (5, 70)], none⟩, ⟨[(6, 71)], none⟩, ⟨[(7, 72)], some (72, false)⟩, ⟨[(8, 73), (7, 72)], some (72, false)⟩, ⟨[(9, 74), (7, 72)], some (72, false)⟩, ⟨[(10, 75)], some (75, true)⟩, ⟨[(10, 75)], some (75, true)⟩, ⟨[(10, 75)], some (75, true)⟩, ⟨[(12, 77), (13, 78), (10, 75)], some (75, true)⟩, ⟨[(14, 79), (10, 75)], some (75, true)⟩, ⟨[(11, 76), (15, 80), (10, 75)], some (75, true)⟩, ⟨[(10, 75)], some (75, true)⟩, ⟨[(10, 75)], some (75, true)⟩, ⟨[(17, 82), (18, 83), (10, 75)], some (75, true)⟩, ⟨[(16, 81), (19, 84), (10, 75)], some (75, true)⟩, ⟨[(10, 75), (20, 85), (7, 72)], some (72, false)⟩, ⟨[(7, 72), (21, 86)], none⟩] (fun x y => Below x.heap.size x y) (MPat [MP.eq (vecV nxx nxy), MP.eq (vecV ax ay), MP.eq (.bool false), MP.eq (.bool false), MP.eq (.int .i64 T), MP.eq (.bool true), MP.eq (.bool true), MP.eq (.bool true), MP.eq (undef), MP.eq (undef), MP.eq (undef), MP.eq (undef), MP.eq (undef), MP.eq (undef), MP.eq (undef), MP.eq (undef), MP.eq (undef), MP.eq (undef), MP.eq (undef), MP.eq (undef), MP.eq (undef), MP.eq (undef), MP.eq (.bool true)]) (by kernel_rfl) (fun _ _ _ h k => Ext.trans h k) (fun _ => Below.refl _ _) (fun x => (Below.refl x.heap.size x).drew) (MPat.mono _) (by kernel_rfl) ?obs ?rest
                        case obs =>
                          refine ⟨?_, ?_, ?_, ?_, ?_, ?_, ?_, ?_, ?_, ?_, ?_, ?_, ?_, ?_, ?_, ?_, ?_, ?_, ?_, ?_, ?_, ?_, ?_, trivial⟩
                          · intro ev W hf _ _ hst hd
                            have e7 : ev (.tmp 7) = .pointer (some ⟨N, 0, none⟩) := hf 7 (by kernel_rfl)
                            have q0 := VRow.cell (VRow.ext VN.out hst) (k := 0) rfl
                            have q1 := VRow.cell (VRow.ext VN.out hst) (k := 1) rfl
                            refine st_value (v := vecV nxx nxy) ?_ (Below.refl _ _) ?_
                            · simp [execOp, go_sem, e7, q0, q1, vecV]
                            · exact rfl
                          · intro ev W hf _ _ hst hd
                            have e6 : ev (.tmp 6) = .pointer (some ⟨A, 0, none⟩) := hf 6 (by kernel_rfl)
                            have q0 := VRow.cell (VRow.ext VA.out hst) (k := 0) rfl
                            have q1 := VRow.cell (VRow.ext VA.out hst) (k := 1) rfl
                            refine st_value (v := vecV ax ay) ?_ (Below.refl _ _) ?_
                            · simp [execOp, go_sem, e6, q0, q1, vecV]
                            · exact rfl
                          · intro ev W hf _ _ hst hd
                            obtain ⟨d65, d66, _⟩ := hd
                            have e65 : ev (.tmp 65) = vecV nxx nxy := d65
                            have e66 : ev (.tmp 66) = vecV ax ay := d66
                            refine st_value (v := .bool false) ?_ (Below.refl _ _) ?_
                            · simp [execOp, go_sem, e65, e66, HNA.out, vecV]
                            · exact rfl
                          · intro ev W hf _ _ hst hd
                            obtain ⟨d67, _⟩ := hd
                            have e67 : ev (.tmp 67) = .bool false := d67
                            refine st_value (v := .bool false) ?_ (Below.refl _ _) ?_
                            · simp [execOp, go_sem, e67]
                            · exact rfl
                          · intro ev W hf _ _ hst hd
                            obtain ⟨d68, _⟩ := hd
                            have e9 : ev (.tmp 9) = .int .i64 T := hf 9 (by kernel_rfl)
                            have e68 : ev (.tmp 68) = .bool false := d68
                            refine ⟨fun _ => ?_, fun hne => absurd e68 hne⟩
                            refine st_value (v := .int .i64 T) ?_ (Below.refl _ _) ?_
                            · simp [execOp, go_sem, e9]
                            · exact rfl
                          · intro ev W hf hcst _ hst hd
                            obtain ⟨d69, d68, _⟩ := hd
                            have e69 : ev (.tmp 69) = .int .i64 T := d69
                            have e68 : ev (.tmp 68) = .bool false := d68
                            refine ⟨fun _ => ?_, fun hne => absurd e68 hne⟩
                            refine st_value (v := .bool true) ?_ (Below.refl _ _) ?_
                            · simp [execOp, go_sem, e69, hcst, HT1.out]
                            · exact rfl
                          · intro ev W hf hcst _ hst hd
                            obtain ⟨d68, d70, _⟩ := hd
                            have e68 : ev (.tmp 68) = .bool false := d68
                            have e70 : ev (.tmp 70) = .bool true := d70
                            refine st_value (v := .bool true) ?_ (Below.refl _ _) ?_
                            · simp [execOp, go_sem, e68, e70, hcst]
                            · exact rfl
                          · intro ev W hf _ _ hst hd
                            obtain ⟨d71, _⟩ := hd
                            have e71 : ev (.tmp 71) = .bool true := d71
                            refine st_value (v := .bool true) ?_ (Below.refl _ _) ?_
                            · simp [execOp, go_sem, e71]
                            · exact rfl
                          · intro ev W hf _ _ hst hd
                            obtain ⟨d72, _⟩ := hd
                            have e72 : ev (.tmp 72) = .bool true := d72
                            refine ⟨fun hh => ?_, fun _ => rfl⟩
                            rw [e72] at hh
                            simp at hh
                          · intro ev W hf _ _ hst hd
                            obtain ⟨d73, d72, _⟩ := hd
                            have e72 : ev (.tmp 72) = .bool true := d72
                            refine ⟨fun hh => ?_, fun _ => rfl⟩
                            rw [e72] at hh
                            simp at hh
                          · intro ev W hf _ _ hst hd
                            obtain ⟨d74, d72, _⟩ := hd
                            have e72 : ev (.tmp 72) = .bool true := d72
                            refine ⟨fun hh => ?_, fun _ => rfl⟩
                            rw [e72] at hh
                            simp at hh
                          · intro ev W hf _ _ hst hd
                            obtain ⟨d75, _⟩ := hd
                            have e75 : ev (.tmp 75) = undef := d75
                            refine ⟨fun hh => ?_, fun _ => rfl⟩
                            rw [e75] at hh
                            cases hh
                          · intro ev W hf _ _ hst hd
                            obtain ⟨d75, _⟩ := hd
                            have e75 : ev (.tmp 75) = undef := d75
                            refine ⟨fun hh => ?_, fun _ => rfl⟩
                            rw [e75] at hh
                            cases hh
                          · intro ev W hf _ _ hst hd
                            obtain ⟨d75, _⟩ := hd
                            have e75 : ev (.tmp 75) = undef := d75
                            refine ⟨fun hh => ?_, fun _ => rfl⟩
                            rw [e75] at hh
                            cases hh
                          · intro ev W hf _ _ hst hd
                            obtain ⟨d77, d78, d75, _⟩ := hd
                            have e75 : ev (.tmp 75) = undef := d75
                            refine ⟨fun hh => ?_, fun _ => rfl⟩
                            rw [e75] at hh
                            cases hh
                          · intro ev W hf _ _ hst hd
                            obtain ⟨d79, d75, _⟩ := hd
                            have e75 : ev (.tmp 75) = undef := d75
                            refine ⟨fun hh => ?_, fun _ => rfl⟩
                            rw [e75] at hh
                            cases hh
                          · intro ev W hf _ _ hst hd
                            obtain ⟨d76, d80, d75, _⟩ := hd
                            have e75 : ev (.tmp 75) = undef := d75
                            refine ⟨fun hh => ?_, fun _ => rfl⟩
                            rw [e75] at hh
                            cases hh
                          · intro ev W hf _ _ hst hd
                            obtain ⟨d75, _⟩ := hd
                            have e75 : ev (.tmp 75) = undef := d75
                            refine ⟨fun hh => ?_, fun _ => rfl⟩
                            rw [e75] at hh
                            cases hh
                          · intro ev W hf _ _ hst hd
                            obtain ⟨d75, _⟩ := hd
                            have e75 : ev (.tmp 75) = undef := d75
                            refine ⟨fun hh => ?_, fun _ => rfl⟩
                            rw [e75] at hh
                            cases hh
                          · intro ev W hf _ _ hst hd
                            obtain ⟨d82, d83, d75, _⟩ := hd
                            have e75 : ev (.tmp 75) = undef := d75
                            refine ⟨fun hh => ?_, fun _ => rfl⟩
                            rw [e75] at hh
                            cases hh
                          · intro ev W hf _ _ hst hd
                            obtain ⟨d81, d84, d75, _⟩ := hd
                            have e75 : ev (.tmp 75) = undef := d75
                            refine ⟨fun hh => ?_, fun _ => rfl⟩
                            rw [e75] at hh
                            cases hh
                          · intro ev W hf _ _ hst hd
                            obtain ⟨d75, d85, d72, _⟩ := hd
                            have e72 : ev (.tmp 72) = .bool true := d72
                            refine ⟨fun hh => ?_, fun _ => rfl⟩
                            rw [e72] at hh
                            simp at hh
                          · intro ev W hf hcst _ hst hd
                            obtain ⟨d72, d86, _⟩ := hd
                            have e72 : ev (.tmp 72) = .bool true := d72
                            have e86 : ev (.tmp 86) = undef := d86
                            refine st_value (v := .bool true) ?_ (Below.refl _ _) ?_
                            · simp [execOp, go_sem, e72, e86, hcst]
                            · exact rfl
                        case rest =>
                          intro vs w3 hl hst hg
                          have HE3 := Lib.hid hst
                          have hvs : vs = [vecV nxx nxy, vecV ax ay, .bool false, .bool false, .int .i64 T, .bool true, .bool true, .bool true, undef, undef, undef, undef, undef, undef, undef, undef, undef, undef, undef, undef, undef, undef, .bool true] := list_of hl (fun i u hu => by
                            match i, hu with
                            | 0, hu => exact (congrArg some (hg 0 u hu)).symm
                            | 1, hu => exact (congrArg some (hg 1 u hu)).symm
                            | 2, hu => exact (congrArg some (hg 2 u hu)).symm
                            | 3, hu => exact (congrArg some (hg 3 u hu)).symm
                            | 4, hu => exact (congrArg some (hg 4 u hu)).symm
                            | 5, hu => exact (congrArg some (hg 5 u hu)).symm
                            | 6, hu => exact (congrArg some (hg 6 u hu)).symm
                            | 7, hu => exact (congrArg some (hg 7 u hu)).symm
                            | 8, hu => exact (congrArg some (hg 8 u hu)).symm
                            | 9, hu => exact (congrArg some (hg 9 u hu)).symm
                            | 10, hu => exact (congrArg some (hg 10 u hu)).symm
                            | 11, hu => exact (congrArg some (hg 11 u hu)).symm
                            | 12, hu => exact (congrArg some (hg 12 u hu)).symm
                            | 13, hu => exact (congrArg some (hg 13 u hu)).symm
                            | 14, hu => exact (congrArg some (hg 14 u hu)).symm
                            | 15, hu => exact (congrArg some (hg 15 u hu)).symm
                            | 16, hu => exact (congrArg some (hg 16 u hu)).symm
                            | 17, hu => exact (congrArg some (hg 17 u hu)).symm
                            | 18, hu => exact (congrArg some (hg 18 u hu)).symm
                            | 19, hu => exact (congrArg some (hg 19 u hu)).symm
                            | 20, hu => exact (congrArg some (hg 20 u hu)).symm
                            | 21, hu => exact (congrArg some (hg 21 u hu)).symm
                            | 22, hu => exact (congrArg some (hg 22 u hu)).symm
                            | n + 23, hu => exact absurd (lt_len hu) (by rw [hl]; simp))
                          clear hg hst hl
                          subst hvs
                          simp only [putAll, Act.put, List.dropLast, List.setIfInBounds_toArray, List.set_cons_zero, List.set_cons_succ]
                          have C1 := Lib.hid (Ext.cell HE3.out C1.out)
                          have C2 := Lib.hid (Ext.cell HE3.out C2.out)
                          have VN := Lib.hid (VRow.ext VN.out HE3.out)
                          have VA := Lib.hid (VRow.ext VA.out HE3.out)
                          have HEq := Lib.hid (Ext.trans HEq.out HE3.out)
                          clear HE3
                          have c1 := C1.out
                          have c2 := C2.out
                          have k1 := cell_lt c1
                          have n0 := VRow.cell VN.out (k := 0) rfl
                          have n1 := VRow.cell VN.out (k := 1) rfl
                          have f0 := VRow.frozen VN.out 0 none
                          have f1 := VRow.frozen VN.out 1 none
                          have HP := Lib.hid (vec_put HEq.out VN.out HWN.out (.int .i64 qx) (.int .i64 qy))
                          have HVA5 := Lib.hid ((VRow.setOther VA.out (a := ⟨N, 0, none⟩) HAN.out (.int .i64 qx)).setOther (a := ⟨N, 1, none⟩) HAN.out (.int .i64 qy))
                          go_wp2_with fail
                          exact ⟨⟨i + 1, by simp, by omega, by rw [HS.out.1, HS.out.2]; exact HP.out.1, HVA5.out, HP.out.2⟩, by simp [intOf]; omega⟩
                  · subst hT
                    by_cases hF : F2 < F1
                    · have HS := Lib.hid (show (nextK ps at_ (i + 1)).1 = q.1 ∧ (nextK ps at_ (i + 1)).2 = q.2 from by rw [HS0.out, if_pos (.inr (.inr ⟨rfl, hF⟩))]; exact ⟨rfl, rfl⟩)
                      have HT1 := Lib.hid (show decide ((0 : Int) < 0) = false from rfl)
                      have HT2 := Lib.hid (show ((0 : Int) == 0) = true from rfl)
                      have HFF := Lib.hid (show decide (F2 < F1) = true from decide_eq_true hF)
                      clear hna HS0 hF
                      generalize q.1 = qx at *
                      generalize q.2 = qy at *
                      generalize nx.1 = nxx at *
                      generalize nx.2 = nxy at *
                      generalize at_.1 = ax at *
                      generalize at_.2 = ay at *
                      go_wp2_with fail
                      refine wp_region_stable [⟨[], none⟩, ⟨[], none⟩, ⟨[(0, 52), (1, 53)], none⟩, ⟨[(2, 54)], none⟩, ⟨[], none⟩, ⟨[(3, 55), (4, 56)], none⟩] (fun x y => Below x.heap.size x y) (MPat [MP.eq (.slice (some ⟨b, o, none⟩) n cap), MP.eq (.int .i64 (i : Int)), MP.eq (.pointer (some ⟨b, o + i * 2, none⟩)), MP.eq (vecV qx qy), MP.eq (vecV ax ay), MP.eq (.bool false)]) (by kernel_rfl) (fun _ _ _ h k => Ext.trans h k) (fun _ => Below.refl _ _) (fun x => (Below.refl x.heap.size x).drew) (MPat.mono _) (by kernel_rfl) ?obs ?rest
                      case obs =>
                        refine ⟨?_, ?_, ?_, ?_, ?_, ?_, trivial⟩
                        · intro ev W hf _ _ hst hd
                          have e0 : ev (.tmp 0) = .slice (some ⟨b, o, none⟩) n cap := hf 0 (by kernel_rfl)
                          refine st_value (v := .slice (some ⟨b, o, none⟩) n cap) ?_ (Below.refl _ _) ?_
                          · simp [execOp, go_sem, e0]
                          · exact rfl
                        · intro ev W hf _ _ hst hd
                          have e8 : ev (.tmp 8) = .int .i64 (i : Int) := hf 8 (by kernel_rfl)
                          refine st_value (v := .int .i64 (i : Int)) ?_ (Below.refl _ _) ?_
                          · simp [execOp, go_sem, e8]
                          · exact rfl
                        · intro ev W hf _ _ hst hd
                          obtain ⟨d52, d53, _⟩ := hd
                          have e52 : ev (.tmp 52) = .slice (some ⟨b, o, none⟩) n cap := d52
                          have e53 : ev (.tmp 53) = .int .i64 (i : Int) := d53
                          refine st_value (v := .pointer (some ⟨b, o + i * 2, none⟩)) ?_ (Below.refl _ _) ?_
                          · simp [execOp, go_sem, e52, e53, hil]
                          · exact rfl
                        · intro ev W hf _ _ hst hd
                          obtain ⟨d54, _⟩ := hd
                          have e54 : ev (.tmp 54) = .pointer (some ⟨b, o + i * 2, none⟩) := d54
                          have q0 := Ext.cell hst C1.out
                          have q1 := Ext.cell hst C2.out
                          refine st_value (v := vecV qx qy) ?_ (Below.refl _ _) ?_
                          · simp [execOp, go_sem, e54, q0, q1, vecV]
                          · exact rfl
                        · intro ev W hf _ _ hst hd
                          have e6 : ev (.tmp 6) = .pointer (some ⟨A, 0, none⟩) := hf 6 (by kernel_rfl)
                          have q0 := VRow.cell (VRow.ext VA.out hst) (k := 0) rfl
                          have q1 := VRow.cell (VRow.ext VA.out hst) (k := 1) rfl
                          refine st_value (v := vecV ax ay) ?_ (Below.refl _ _) ?_
                          · simp [execOp, go_sem, e6, q0, q1, vecV]
                          · exact rfl
                        · intro ev W hf _ _ hst hd
                          obtain ⟨d55, d56, _⟩ := hd
                          have e55 : ev (.tmp 55) = vecV qx qy := d55
                          have e56 : ev (.tmp 56) = vecV ax ay := d56
                          refine st_value (v := .bool false) ?_ (Below.refl _ _) ?_
                          · simp [execOp, go_sem, e55, e56, HQA.out, vecV]
                          · exact rfl
                      case rest =>
                        intro vs w3 hl hst hg
                        have HE3 := Lib.hid hst
                        have hvs : vs = [.slice (some ⟨b, o, none⟩) n cap, .int .i64 (i : Int), .pointer (some ⟨b, o + i * 2, none⟩), vecV qx qy, vecV ax ay, .bool false] := list_of hl (fun i u hu => by
                          match i, hu with
                          | 0, hu => exact (congrArg some (hg 0 u hu)).symm
                          | 1, hu => exact (congrArg some (hg 1 u hu)).symm
                          | 2, hu => exact (congrArg some (hg 2 u hu)).symm
                          | 3, hu => exact (congrArg some (hg 3 u hu)).symm
                          | 4, hu => exact (congrArg some (hg 4 u hu)).symm
                          | 5, hu => exact (congrArg some (hg 5 u hu)).symm
                          | n + 6, hu => exact absurd (lt_len hu) (by rw [hl]; simp))
                        clear hg hst hl
                        subst hvs
                        simp only [putAll, Act.put, List.dropLast, List.setIfInBounds_toArray, List.set_cons_zero, List.set_cons_succ]
                        have C1 := Lib.hid (Ext.cell HE3.out C1.out)
                        have C2 := Lib.hid (Ext.cell HE3.out C2.out)
                        have VN := Lib.hid (VRow.ext VN.out HE3.out)
                        have VA := Lib.hid (VRow.ext VA.out HE3.out)
                        have HEq := Lib.hid (Ext.trans HEq.out HE3.out)
                        clear HE3
                        go_wp2_with fail
                        refine wp_region_stable_last [⟨[], none⟩, ⟨[], none⟩, ⟨[], none⟩, ⟨[], none⟩, ⟨[(2, 60), (3, 61)], none⟩, ⟨[(4, 62)], none⟩, ⟨[(0, 58), (1, 59), (5, 63)], none⟩] (fun x y => Below x.heap.size x y) (MPat [MP.eq (vecV ax ay), MP.eq (vecV nxx nxy), MP.eq (.slice (some ⟨b, o, none⟩) n cap), MP.eq (.int .i64 (i : Int)), MP.eq (.pointer (some ⟨b, o + i * 2, none⟩)), MP.eq (vecV qx qy), MP.eq (.int .i64 0)]) rfl (by kernel_rfl) (fun _ _ _ h k => Ext.trans h k) (fun _ => Below.refl _ _) (fun x => (Below.refl x.heap.size x).drew) (MPat.mono _) (by kernel_rfl) (by kernel_rfl) (by kernel_rfl) ?obs ?rest
                        case obs =>
                          refine ⟨?_, ?_, ?_, ?_, ?_, ?_, ?_, trivial⟩
                          · intro ev W hf _ _ hst hd
                            have e6 : ev (.tmp 6) = .pointer (some ⟨A, 0, none⟩) := hf 6 (by kernel_rfl)
                            have q0 := VRow.cell (VRow.ext VA.out hst) (k := 0) rfl
                            have q1 := VRow.cell (VRow.ext VA.out hst) (k := 1) rfl
                            refine st_value (v := vecV ax ay) ?_ (Below.refl _ _) ?_
                            · simp [execOp, go_sem, e6, q0, q1, vecV]
                            · exact rfl
                          · intro ev W hf _ _ hst hd
                            have e7 : ev (.tmp 7) = .pointer (some ⟨N, 0, none⟩) := hf 7 (by kernel_rfl)
                            have q0 := VRow.cell (VRow.ext VN.out hst) (k := 0) rfl
                            have q1 := VRow.cell (VRow.ext VN.out hst) (k := 1) rfl
                            refine st_value (v := vecV nxx nxy) ?_ (Below.refl _ _) ?_
                            · simp [execOp, go_sem, e7, q0, q1, vecV]
                            · exact rfl
                          · intro ev W hf _ _ hst hd
                            have e0 : ev (.tmp 0) = .slice (some ⟨b, o, none⟩) n cap := hf 0 (by kernel_rfl)
                            refine st_value (v := .slice (some ⟨b, o, none⟩) n cap) ?_ (Below.refl _ _) ?_
                            · simp [execOp, go_sem, e0]
                            · exact rfl
                          · intro ev W hf _ _ hst hd
                            have e8 : ev (.tmp 8) = .int .i64 (i : Int) := hf 8 (by kernel_rfl)
                            refine st_value (v := .int .i64 (i : Int)) ?_ (Below.refl _ _) ?_
                            · simp [execOp, go_sem, e8]
                            · exact rfl
                          · intro ev W hf _ _ hst hd
                            obtain ⟨d60, d61, _⟩ := hd
                            have e60 : ev (.tmp 60) = .slice (some ⟨b, o, none⟩) n cap := d60
                            have e61 : ev (.tmp 61) = .int .i64 (i : Int) := d61
                            refine st_value (v := .pointer (some ⟨b, o + i * 2, none⟩)) ?_ (Below.refl _ _) ?_
                            · simp [execOp, go_sem, e60, e61, hil]
                            · exact rfl
                          · intro ev W hf _ _ hst hd
                            obtain ⟨d62, _⟩ := hd
                            have e62 : ev (.tmp 62) = .pointer (some ⟨b, o + i * 2, none⟩) := d62
                            have q0 := Ext.cell hst C1.out
                            have q1 := Ext.cell hst C2.out
                            refine st_value (v := vecV qx qy) ?_ (Below.refl _ _) ?_
                            · simp [execOp, go_sem, e62, q0, q1, vecV]
                            · exact rfl
                          · intro ev W hf _ hfn hst hd
                            obtain ⟨d58, d59, d63, _⟩ := hd
                            have e58 : ev (.tmp 58) = vecV ax ay := d58
                            have e59 : ev (.tmp 59) = vecV nxx nxy := d59
                            have e63 : ev (.tmp 63) = vecV qx qy := d63
                            refine st_call (f := 50) (args := #[vecV ax ay, vecV nxx nxy, vecV qx qy]) (by simp [execOp, go_sem, hfn, e58, e59, e63]) (HTW.out W) (fun _ _ => rfl)
                        case rest =>
                          intro vs w3 hl hst hg
                          have HE3 := Lib.hid hst
                          have hvs : vs = [vecV ax ay, vecV nxx nxy, .slice (some ⟨b, o, none⟩) n cap, .int .i64 (i : Int), .pointer (some ⟨b, o + i * 2, none⟩), vecV qx qy, .int .i64 0] := list_of hl (fun i u hu => by
                            match i, hu with
                            | 0, hu => exact (congrArg some (hg 0 u hu)).symm
                            | 1, hu => exact (congrArg some (hg 1 u hu)).symm
                            | 2, hu => exact (congrArg some (hg 2 u hu)).symm
                            | 3, hu => exact (congrArg some (hg 3 u hu)).symm
                            | 4, hu => exact (congrArg some (hg 4 u hu)).symm
                            | 5, hu => exact (congrArg some (hg 5 u hu)).symm
                            | 6, hu => exact (congrArg some (hg 6 u hu)).symm
                            | n + 7, hu => exact absurd (lt_len hu) (by rw [hl]; simp))
                          clear hg hst hl
                          subst hvs
                          simp only [putAll, Act.put, List.dropLast, List.setIfInBounds_toArray, List.set_cons_zero, List.set_cons_succ]
                          have C1 := Lib.hid (Ext.cell HE3.out C1.out)
                          have C2 := Lib.hid (Ext.cell HE3.out C2.out)
                          have VN := Lib.hid (VRow.ext VN.out HE3.out)
                          have VA := Lib.hid (VRow.ext VA.out HE3.out)
                          have HEq := Lib.hid (Ext.trans HEq.out HE3.out)
                          clear HE3
                          go_wp2_with fail
                          refine wp_region_stable [⟨[], none⟩, ⟨[], none⟩, ⟨[(0, 65), (1, 66)], none⟩, ⟨[(2, 67)], none⟩, ⟨[(3, 68)], some (68, false)⟩, ⟨[(4, 69), (3, 68)], some (68, false)⟩, ⟨[(3, 68), (5, 70)], none⟩, ⟨[(6, 71)], none⟩, ⟨[(7, 72)], some (72, false)⟩, ⟨[(8, 73), (7, 72)], some (72, false)⟩, ⟨[(9, 74), (7, 72)], some (72, false)⟩, ⟨[(10, 75)], some (75, true)⟩, ⟨[(10, 75)], some (75, true)⟩, ⟨[(10, 75)], some (75, true)⟩, ⟨[(12, 77), (13, 78), (10, 75)], some (75, true)⟩, ⟨[(14, 79), (10, 75)], some (75, true)⟩, ⟨[(11, 76), (15, 80), (10, 75)], some (75, true)⟩, ⟨[(10, 75)], some (75, true)⟩, ⟨[(10, 75)], some (75, true)⟩, ⟨[(17, 82), (18, 83), (10, 75)], some (75, true)⟩, ⟨[(16, 81), (19, 84), (10, 75)], some (75, true)⟩, ⟨[(10, 75), (20, 85), (7, 72)], some (72, false)⟩, ⟨[(7, 72), (21, 86)], none⟩] (fun x y => Below x.heap.size x y) (MPat [MP.eq (vecV nxx nxy), MP.eq (vecV ax ay), MP.eq (.bool false), MP.eq (.bool false), MP.eq (.int .i64 0), MP.eq (.bool false), MP.eq (.bool false), MP.eq (.bool false), MP.eq (.int .i64 0), MP.eq (.bool true), MP.eq (.bool true), MP.eq (vecV ax ay), MP.eq (.slice (some ⟨b, o, none⟩) n cap), MP.eq (.int .i64 (i : Int)), MP.eq (.pointer (some ⟨b, o + i * 2, none⟩)), MP.eq (vecV qx qy), MP.eq (.int .i64 F1), MP.eq (vecV ax ay), MP.eq (vecV nxx nxy), MP.eq (.int .i64 F2), MP.eq (.bool true), MP.eq (.bool true), MP.eq (.bool true)]) (by kernel_rfl) (fun _ _ _ h k => Ext.trans h k) (fun _ => Below.refl _ _) (fun x => (Below.refl x.heap.size x).drew) (MPat.mono _) (by kernel_rfl) ?obs ?rest
                          case obs =>
                            refine ⟨?_, ?_, ?_, ?_, ?_, ?_, ?_, ?_, ?_, ?_, ?_, ?_, ?_, ?_, ?_, ?_, ?_, ?_, ?_, ?_, ?_, ?_, ?_, trivial⟩
                            · intro ev W hf _ _ hst hd
                              have e7 : ev (.tmp 7) = .pointer (some ⟨N, 0, none⟩) := hf 7 (by kernel_rfl)
                              have q0 := VRow.cell (VRow.ext VN.out hst) (k := 0) rfl
                              have q1 := VRow.cell (VRow.ext VN.out hst) (k := 1) rfl
                              refine st_value (v := vecV nxx nxy) ?_ (Below.refl _ _) ?_
                              · simp [execOp, go_sem, e7, q0, q1, vecV]
                              · exact rfl
                            · intro ev W hf _ _ hst hd
                              have e6 : ev (.tmp 6) = .pointer (some ⟨A, 0, none⟩) := hf 6 (by kernel_rfl)
                              have q0 := VRow.cell (VRow.ext VA.out hst) (k := 0) rfl
                              have q1 := VRow.cell (VRow.ext VA.out hst) (k := 1) rfl
                              refine st_value (v := vecV ax ay) ?_ (Below.refl _ _) ?_
                              · simp [execOp, go_sem, e6, q0, q1, vecV]
                              · exact rfl
                            · intro ev W hf _ _ hst hd
                              obtain ⟨d65, d66, _⟩ := hd
                              have e65 : ev (.tmp 65) = vecV nxx nxy := d65
                              have e66 : ev (.tmp 66) = vecV ax ay := d66
                              refine st_value (v := .bool false) ?_ (Below.refl _ _) ?_
                              · simp [execOp, go_sem, e65, e66, HNA.out, vecV]
                              · exact rfl
                            · intro ev W hf _ _ hst hd
                              obtain ⟨d67, _⟩ := hd
                              have e67 : ev (.tmp 67) = .bool false := d67
                              refine st_value (v := .bool false) ?_ (Below.refl _ _) ?_
                              · simp [execOp, go_sem, e67]
                              · exact rfl
                            · intro ev W hf _ _ hst hd
                              obtain ⟨d68, _⟩ := hd
                              have e9 : ev (.tmp 9) = .int .i64 0 := hf 9 (by kernel_rfl)
                              have e68 : ev (.tmp 68) = .bool false := d68
                              refine ⟨fun _ => ?_, fun hne => absurd e68 hne⟩
                              refine st_value (v := .int .i64 0) ?_ (Below.refl _ _) ?_
                              · simp [execOp, go_sem, e9]
                              · exact rfl
                            · intro ev W hf hcst _ hst hd
                              obtain ⟨d69, d68, _⟩ := hd
                              have e69 : ev (.tmp 69) = .int .i64 0 := d69
                              have e68 : ev (.tmp 68) = .bool false := d68
                              refine ⟨fun _ => ?_, fun hne => absurd e68 hne⟩
                              refine st_value (v := .bool false) ?_ (Below.refl _ _) ?_
                              · simp [execOp, go_sem, e69, hcst, HT1.out]
                              · exact rfl
                            · intro ev W hf hcst _ hst hd
                              obtain ⟨d68, d70, _⟩ := hd
                              have e68 : ev (.tmp 68) = .bool false := d68
                              have e70 : ev (.tmp 70) = .bool false := d70
                              refine st_value (v := .bool false) ?_ (Below.refl _ _) ?_
                              · simp [execOp, go_sem, e68, e70, hcst]
                              · exact rfl
                            · intro ev W hf _ _ hst hd
                              obtain ⟨d71, _⟩ := hd
                              have e71 : ev (.tmp 71) = .bool false := d71
                              refine st_value (v := .bool false) ?_ (Below.refl _ _) ?_
                              · simp [execOp, go_sem, e71]
                              · exact rfl
                            · intro ev W hf _ _ hst hd
                              obtain ⟨d72, _⟩ := hd
                              have e9 : ev (.tmp 9) = .int .i64 0 := hf 9 (by kernel_rfl)
                              have e72 : ev (.tmp 72) = .bool false := d72
                              refine ⟨fun _ => ?_, fun hne => absurd e72 hne⟩
                              refine st_value (v := .int .i64 0) ?_ (Below.refl _ _) ?_
                              · simp [execOp, go_sem, e9]
                              · exact rfl
                            · intro ev W hf hcst _ hst hd
                              obtain ⟨d73, d72, _⟩ := hd
                              have e73 : ev (.tmp 73) = .int .i64 0 := d73
                              have e72 : ev (.tmp 72) = .bool false := d72
                              refine ⟨fun _ => ?_, fun hne => absurd e72 hne⟩
                              refine st_value (v := .bool true) ?_ (Below.refl _ _) ?_
                              · simp [execOp, go_sem, e73, hcst, HT2.out]
                              · exact rfl
                            · intro ev W hf _ _ hst hd
                              obtain ⟨d74, d72, _⟩ := hd
                              have e74 : ev (.tmp 74) = .bool true := d74
                              have e72 : ev (.tmp 72) = .bool false := d72
                              refine ⟨fun _ => ?_, fun hne => absurd e72 hne⟩
                              refine st_value (v := .bool true) ?_ (Below.refl _ _) ?_
                              · simp [execOp, go_sem, e74]
                              · exact rfl
                            · intro ev W hf _ _ hst hd
                              obtain ⟨d75, _⟩ := hd
                              have e6 : ev (.tmp 6) = .pointer (some ⟨A, 0, none⟩) := hf 6 (by kernel_rfl)
                              have e75 : ev (.tmp 75) = .bool true := d75
                              refine ⟨fun _ => ?_, fun hne => absurd e75 hne⟩
                              have q0 := VRow.cell (VRow.ext VA.out hst) (k := 0) rfl
                              have q1 := VRow.cell (VRow.ext VA.out hst) (k := 1) rfl
                              refine st_value (v := vecV ax ay) ?_ (Below.refl _ _) ?_
                              · simp [execOp, go_sem, e6, q0, q1, vecV]
                              · exact rfl
                            · intro ev W hf _ _ hst hd
                              obtain ⟨d75, _⟩ := hd
                              have e0 : ev (.tmp 0) = .slice (some ⟨b, o, none⟩) n cap := hf 0 (by kernel_rfl)
                              have e75 : ev (.tmp 75) = .bool true := d75
                              refine ⟨fun _ => ?_, fun hne => absurd e75 hne⟩
                              refine st_value (v := .slice (some ⟨b, o, none⟩) n cap) ?_ (Below.refl _ _) ?_
                              · simp [execOp, go_sem, e0]
                              · exact rfl
                            · intro ev W hf _ _ hst hd
                              obtain ⟨d75, _⟩ := hd
                              have e8 : ev (.tmp 8) = .int .i64 (i : Int) := hf 8 (by kernel_rfl)
                              have e75 : ev (.tmp 75) = .bool true := d75
                              refine ⟨fun _ => ?_, fun hne => absurd e75 hne⟩
                              refine st_value (v := .int .i64 (i : Int)) ?_ (Below.refl _ _) ?_
                              · simp [execOp, go_sem, e8]
                              · exact rfl
                            · intro ev W hf _ _ hst hd
                              obtain ⟨d77, d78, d75, _⟩ := hd
                              have e77 : ev (.tmp 77) = .slice (some ⟨b, o, none⟩) n cap := d77
                              have e78 : ev (.tmp 78) = .int .i64 (i : Int) := d78
                              have e75 : ev (.tmp 75) = .bool true := d75
                              refine ⟨fun _ => ?_, fun hne => absurd e75 hne⟩
                              refine st_value (v := .pointer (some ⟨b, o + i * 2, none⟩)) ?_ (Below.refl _ _) ?_
                              · simp [execOp, go_sem, e77, e78, hil]
                              · exact rfl
                            · intro ev W hf _ _ hst hd
                              obtain ⟨d79, d75, _⟩ := hd
                              have e79 : ev (.tmp 79) = .pointer (some ⟨b, o + i * 2, none⟩) := d79
                              have e75 : ev (.tmp 75) = .bool true := d75
                              refine ⟨fun _ => ?_, fun hne => absurd e75 hne⟩
                              have q0 := Ext.cell hst C1.out
                              have q1 := Ext.cell hst C2.out
                              refine st_value (v := vecV qx qy) ?_ (Below.refl _ _) ?_
                              · simp [execOp, go_sem, e79, q0, q1, vecV]
                              · exact rfl
                            · intro ev W hf _ hfn hst hd
                              obtain ⟨d76, d80, d75, _⟩ := hd
                              have e76 : ev (.tmp 76) = vecV ax ay := d76
                              have e80 : ev (.tmp 80) = vecV qx qy := d80
                              have e75 : ev (.tmp 75) = .bool true := d75
                              refine ⟨fun _ => ?_, fun hne => absurd e75 hne⟩
                              refine st_call (f := 78) (args := #[vecV ax ay, vecV qx qy]) (by simp [execOp, go_sem, hfn, e76, e80]) (HF1.out W) (fun _ _ => rfl)
                            · intro ev W hf _ _ hst hd
                              obtain ⟨d75, _⟩ := hd
                              have e6 : ev (.tmp 6) = .pointer (some ⟨A, 0, none⟩) := hf 6 (by kernel_rfl)
                              have e75 : ev (.tmp 75) = .bool true := d75
                              refine ⟨fun _ => ?_, fun hne => absurd e75 hne⟩
                              have q0 := VRow.cell (VRow.ext VA.out hst) (k := 0) rfl
                              have q1 := VRow.cell (VRow.ext VA.out hst) (k := 1) rfl
                              refine st_value (v := vecV ax ay) ?_ (Below.refl _ _) ?_
                              · simp [execOp, go_sem, e6, q0, q1, vecV]
                              · exact rfl
                            · intro ev W hf _ _ hst hd
                              obtain ⟨d75, _⟩ := hd
                              have e7 : ev (.tmp 7) = .pointer (some ⟨N, 0, none⟩) := hf 7 (by kernel_rfl)
                              have e75 : ev (.tmp 75) = .bool true := d75
                              refine ⟨fun _ => ?_, fun hne => absurd e75 hne⟩
                              have q0 := VRow.cell (VRow.ext VN.out hst) (k := 0) rfl
                              have q1 := VRow.cell (VRow.ext VN.out hst) (k := 1) rfl
                              refine st_value (v := vecV nxx nxy) ?_ (Below.refl _ _) ?_
                              · simp [execOp, go_sem, e7, q0, q1, vecV]
                              · exact rfl
                            · intro ev W hf _ hfn hst hd
                              obtain ⟨d82, d83, d75, _⟩ := hd
                              have e82 : ev (.tmp 82) = vecV ax ay := d82
                              have e83 : ev (.tmp 83) = vecV nxx nxy := d83
                              have e75 : ev (.tmp 75) = .bool true := d75
                              refine ⟨fun _ => ?_, fun hne => absurd e75 hne⟩
                              refine st_call (f := 78) (args := #[vecV ax ay, vecV nxx nxy]) (by simp [execOp, go_sem, hfn, e82, e83]) (HF2.out W) (fun _ _ => rfl)
                            · intro ev W hf _ _ hst hd
                              obtain ⟨d81, d84, d75, _⟩ := hd
                              have e81 : ev (.tmp 81) = .int .i64 F1 := d81
                              have e84 : ev (.tmp 84) = .int .i64 F2 := d84
                              have e75 : ev (.tmp 75) = .bool true := d75
                              refine ⟨fun _ => ?_, fun hne => absurd e75 hne⟩
                              refine st_value (v := .bool true) ?_ (Below.refl _ _) ?_
                              · simp [execOp, go_sem, e81, e84, HFF.out]
                              · exact rfl
                            · intro ev W hf hcst _ hst hd
                              obtain ⟨d75, d85, d72, _⟩ := hd
                              have e75 : ev (.tmp 75) = .bool true := d75
                              have e85 : ev (.tmp 85) = .bool true := d85
                              have e72 : ev (.tmp 72) = .bool false := d72
                              refine ⟨fun _ => ?_, fun hne => absurd e72 hne⟩
                              refine st_value (v := .bool true) ?_ (Below.refl _ _) ?_
                              · simp [execOp, go_sem, e75, e85, hcst]
                              · exact rfl
                            · intro ev W hf hcst _ hst hd
                              obtain ⟨d72, d86, _⟩ := hd
                              have e72 : ev (.tmp 72) = .bool false := d72
                              have e86 : ev (.tmp 86) = .bool true := d86
                              refine st_value (v := .bool true) ?_ (Below.refl _ _) ?_
                              · simp [execOp, go_sem, e72, e86, hcst]
                              · exact rfl
                          case rest =>
                            intro vs w3 hl hst hg
                            have HE3 := Lib.hid hst
                            have hvs : vs = [vecV nxx nxy, vecV ax ay, .bool false, .bool false, .int .i64 0, .bool false, .bool false, .bool false, .int .i64 0, .bool true, .bool true, vecV ax ay, .slice (some ⟨b, o, none⟩) n cap, .int .i64 (i : Int), .pointer (some ⟨b, o + i * 2, none⟩), vecV qx qy, .int .i64 F1, vecV ax ay, vecV nxx nxy, .int .i64 F2, .bool true, .bool true, .bool true] := list_of hl (fun i u hu => by
                              match i, hu with
                              | 0, hu => exact (congrArg some (hg 0 u hu)).symm
                              | 1, hu => exact (congrArg some (hg 1 u hu)).symm
                              | 2, hu => exact (congrArg some (hg 2 u hu)).symm
                              | 3, hu => exact (congrArg some (hg 3 u hu)).symm
                              | 4, hu => exact (congrArg some (hg 4 u hu)).symm
                              | 5, hu => exact (congrArg some (hg 5 u hu)).symm
                              | 6, hu => exact (congrArg some (hg 6 u hu)).symm
                              | 7, hu => exact (congrArg some (hg 7 u hu)).symm
                              | 8, hu => exact (congrArg some (hg 8 u hu)).symm
                              | 9, hu => exact (congrArg some (hg 9 u hu)).symm
                              | 10, hu => exact (congrArg some (hg 10 u hu)).symm
                              | 11, hu => exact (congrArg some (hg 11 u hu)).symm
                              | 12, hu => exact (congrArg some (hg 12 u hu)).symm
                              | 13, hu => exact (congrArg some (hg 13 u hu)).symm
                              | 14, hu => exact (congrArg some (hg 14 u hu)).symm
                              | 15, hu => exact (congrArg some (hg 15 u hu)).symm
                              | 16, hu => exact (congrArg some (hg 16 u hu)).symm
                              | 17, hu => exact (congrArg some (hg 17 u hu)).symm
                              | 18, hu => exact (congrArg some (hg 18 u hu)).symm
                              | 19, hu => exact (congrArg some (hg 19 u hu)).symm
                              | 20, hu => exact (congrArg some (hg 20 u hu)).symm
                              | 21, hu => exact (congrArg some (hg 21 u hu)).symm
                              | 22, hu => exact (congrArg some (hg 22 u hu)).symm
                              | n + 23, hu => exact absurd (lt_len hu) (by rw [hl]; simp))
                            clear hg hst hl
                            subst hvs
                            simp only [putAll, Act.put, List.dropLast, List.setIfInBounds_toArray, List.set_cons_zero, List.set_cons_succ]
                            have C1 := Lib.hid (Ext.cell HE3.out C1.out)
                            have C2 := Lib.hid (Ext.cell HE3.out C2.out)
                            have VN := Lib.hid (VRow.ext VN.out HE3.out)
                            have VA := Lib.hid (VRow.ext VA.out HE3.out)
                            have HEq := Lib.hid (Ext.trans HEq.out HE3.out)
                            clear HE3
                            have c1 := C1.out
                            have c2 := C2.out
                            have k1 := cell_lt c1
                            have n0 := VRow.cell VN.out (k := 0) rfl
                            have n1 := VRow.cell VN.out (k := 1) rfl
                            have f0 := VRow.frozen VN.out 0 none
                            have f1 := VRow.frozen VN.out 1 none
                            have HP := Lib.hid (vec_put HEq.out VN.out HWN.out (.int .i64 qx) (.int .i64 qy))
                            have HVA5 := Lib.hid ((VRow.setOther VA.out (a := ⟨N, 0, none⟩) HAN.out (.int .i64 qx)).setOther (a := ⟨N, 1, none⟩) HAN.out (.int .i64 qy))
                            go_wp2_with fail
                            exact ⟨⟨i + 1, by simp, by omega, by rw [HS.out.1, HS.out.2]; exact HP.out.1, HVA5.out, HP.out.2⟩, by simp [intOf]; omega⟩
                    · have HS := Lib.hid (show (nextK ps at_ (i + 1)).1 = nx.1 ∧ (nextK ps at_ (i + 1)).2 = nx.2 from by rw [HS0.out, if_neg (fun h => h.elim hna fun h => h.elim (fun h => absurd h (by decide)) fun h => hF h.2)]; exact ⟨rfl, rfl⟩)
                      have HT1 := Lib.hid (show decide ((0 : Int) < 0) = false from rfl)
                      have HT2 := Lib.hid (show ((0 : Int) == 0) = true from rfl)
                      have HFF := Lib.hid (show decide (F2 < F1) = false from decide_eq_false hF)
                      clear hna HS0 hF
                      generalize q.1 = qx at *
                      generalize q.2 = qy at *
                      generalize nx.1 = nxx at *
                      generalize nx.2 = nxy at *
                      generalize at_.1 = ax at *
                      generalize at_.2 = ay at *
                      go_wp2_with fail
                      refine wp_region_stable [⟨[], none⟩, ⟨[], none⟩, ⟨[(0, 52), (1, 53)], none⟩, ⟨[(2, 54)], none⟩, ⟨[], none⟩, ⟨[(3, 55), (4, 56)], none⟩] (fun x y => Below x.heap.size x y) (MPat [MP.eq (.slice (some ⟨b, o, none⟩) n cap), MP.eq (.int .i64 (i : Int)), MP.eq (.pointer (some ⟨b, o + i * 2, none⟩)), MP.eq (vecV qx qy), MP.eq (vecV ax ay), MP.eq (.bool false)]) (by kernel_rfl) (fun _ _ _ h k => Ext.trans h k) (fun _ => Below.refl _ _) (fun x => (Below.refl x.heap.size x).drew) (MPat.mono _) (by kernel_rfl) ?obs ?rest
                      case obs =>
                        refine ⟨?_, ?_, ?_, ?_, ?_, ?_, trivial⟩
                        · intro ev W hf _ _ hst hd
                          have e0 : ev (.tmp 0) = .slice (some ⟨b, o, none⟩) n cap := hf 0 (by kernel_rfl)
                          refine st_value (v := .slice (some ⟨b, o, none⟩) n cap) ?_ (Below.refl _ _) ?_
                          · simp [execOp, go_sem, e0]
                          · exact rfl
                        · intro ev W hf _ _ hst hd
                          have e8 : ev (.tmp 8) = .int .i64 (i : Int) := hf 8 (by kernel_rfl)
                          refine st_value (v := .int .i64 (i : Int)) ?_ (Below.refl _ _) ?_
                          · simp [execOp, go_sem, e8]
                          · exact rfl
                        · intro ev W hf _ _ hst hd
                          obtain ⟨d52, d53, _⟩ := hd
                          have e52 : ev (.tmp 52) = .slice (some ⟨b, o, none⟩) n cap := d52
                          have e53 : ev (.tmp 53) = .int .i64 (i : Int) := d53
                          refine st_value (v := .pointer (some ⟨b, o + i * 2, none⟩)) ?_ (Below.refl _ _) ?_
                          · simp [execOp, go_sem, e52, e53, hil]
                          · exact rfl
                        · intro ev W hf _ _ hst hd
                          obtain ⟨d54, _⟩ := hd
                          have e54 : ev (.tmp 54) = .pointer (some ⟨b, o + i * 2, none⟩) := d54
                          have q0 := Ext.cell hst C1.out
                          have q1 := Ext.cell hst C2.out
                          refine st_value (v := vecV qx qy) ?_ (Below.refl _ _) ?_
                          · simp [execOp, go_sem, e54, q0, q1, vecV]
                          · exact rfl
                        · intro ev W hf _ _ hst hd
                          have e6 : ev (.tmp 6) = .pointer (some ⟨A, 0, none⟩) := hf 6 (by kernel_rfl)
                          have q0 := VRow.cell (VRow.ext VA.out hst) (k := 0) rfl
                          have q1 := VRow.cell (VRow.ext VA.out hst) (k := 1) rfl
                          refine st_value (v := vecV ax ay) ?_ (Below.refl _ _) ?_
                          · simp [execOp, go_sem, e6, q0, q1, vecV]
                          · exact rfl
                        · intro ev W hf _ _ hst hd
                          obtain ⟨d55, d56, _⟩ := hd
                          have e55 : ev (.tmp 55) = vecV qx qy := d55
                          have e56 : ev (.tmp 56) = vecV ax ay := d56
                          refine st_value (v := .bool false) ?_ (Below.refl _ _) ?_
                          · simp [execOp, go_sem, e55, e56, HQA.out, vecV]
                          · exact rfl
                      case rest =>
                        intro vs w3 hl hst hg
                        have HE3 := Lib.hid hst
                        have hvs : vs = [.slice (some ⟨b, o, none⟩) n cap, .int .i64 (i : Int), .pointer (some ⟨b, o + i * 2, none⟩), vecV qx qy, vecV ax ay, .bool false] := list_of hl (fun i u hu => by
                          match i, hu with
                          | 0, hu => exact (congrArg some (hg 0 u hu)).symm
                          | 1, hu => exact (congrArg some (hg 1 u hu)).symm
                          | 2, hu => exact (congrArg some (hg 2 u hu)).symm
                          | 3, hu => exact (congrArg some (hg 3 u hu)).symm
                          | 4, hu => exact (congrArg some (hg 4 u hu)).symm
                          | 5, hu => exact (congrArg some (hg 5 u hu)).symm
                          | n + 6, hu => exact absurd (lt_len hu) (by rw [hl]; simp))
                        clear hg hst hl
                        subst hvs
                        simp only [putAll, Act.put, List.dropLast, List.setIfInBounds_toArray, List.set_cons_zero, List.set_cons_succ]
                        have C1 := Lib.hid (Ext.cell HE3.out C1.out)
                        have C2 := Lib.hid (Ext.cell HE3.out C2.out)
                        have VN := Lib.hid (VRow.ext VN.out HE3.out)
                        have VA := Lib.hid (VRow.ext VA.out HE3.out)
                        have HEq := Lib.hid (Ext.trans HEq.out HE3.out)
                        clear HE3
                        go_wp2_with fail
                        refine wp_region_stable_last [⟨[], none⟩, ⟨[], none⟩, ⟨[], none⟩, ⟨[], none⟩, ⟨[(2, 60), (3, 61)], none⟩, ⟨[(4, 62)], none⟩, ⟨[(0, 58), (1, 59), (5, 63)], none⟩] (fun x y => Below x.heap.size x y) (MPat [MP.eq (vecV ax ay), MP.eq (vecV nxx nxy), MP.eq (.slice (some ⟨b, o, none⟩) n cap), MP.eq (.int .i64 (i : Int)), MP.eq (.pointer (some ⟨b, o + i * 2, none⟩)), MP.eq (vecV qx qy), MP.eq (.int .i64 0)]) rfl (by kernel_rfl) (fun _ _ _ h k => Ext.trans h k) (fun _ => Below.refl _ _) (fun x => (Below.refl x.heap.size x).drew) (MPat.mono _) (by kernel_rfl) (by kernel_rfl) (by kernel_rfl) ?obs ?rest
                        case obs =>
                          refine ⟨?_, ?_, ?_, ?_, ?_, ?_, ?_, trivial⟩
                          · intro ev W hf _ _ hst hd
                            have e6 : ev (.tmp 6) = .pointer (some ⟨A, 0, none⟩) := hf 6 (by kernel_rfl)
                            have q0 := VRow.cell (VRow.ext VA.out hst) (k := 0) rfl
                            have q1 := VRow.cell (VRow.ext VA.out hst) (k := 1) rfl
                            refine st_value (v := vecV ax ay) ?_ (Below.refl _ _) ?_
                            · simp [execOp, go_sem, e6, q0, q1, vecV]
                            · exact rfl
                          · intro ev W hf _ _ hst hd
                            have e7 : ev (.tmp 7) = .pointer (some ⟨N, 0, none⟩) := hf 7 (by kernel_rfl)
                            have q0 := VRow.cell (VRow.ext VN.out hst) (k := 0) rfl
                            have q1 := VRow.cell (VRow.ext VN.out hst) (k := 1) rfl
                            refine st_value (v := vecV nxx nxy) ?_ (Below.refl _ _) ?_
                            · simp [execOp, go_sem, e7, q0, q1, vecV]
                            · exact rfl
                          · intro ev W hf _ _ hst hd
                            have e0 : ev (.tmp 0) = .slice (some ⟨b, o, none⟩) n cap := hf 0 (by kernel_rfl)
                            refine st_value (v := .slice (some ⟨b, o, none⟩) n cap) ?_ (Below.refl _ _) ?_
                            · simp [execOp, go_sem, e0]
                            · exact rfl
                          · intro ev W hf _ _ hst hd
                            have e8 : ev (.tmp 8) = .int .i64 (i : Int) := hf 8 (by kernel_rfl)
                            refine st_value (v := .int .i64 (i : Int)) ?_ (Below.refl _ _) ?_
                            · simp [execOp, go_sem, e8]
                            · exact rfl
                          · intro ev W hf _ _ hst hd
                            obtain ⟨d60, d61, _⟩ := hd
                            have e60 : ev (.tmp 60) = .slice (some ⟨b, o, none⟩) n cap := d60
                            have e61 : ev (.tmp 61) = .int .i64 (i : Int) := d61
                            refine st_value (v := .pointer (some ⟨b, o + i * 2, none⟩)) ?_ (Below.refl _ _) ?_
                            · simp [execOp, go_sem, e60, e61, hil]
                            · exact rfl
                          · intro ev W hf _ _ hst hd
                            obtain ⟨d62, _⟩ := hd
                            have e62 : ev (.tmp 62) = .pointer (some ⟨b, o + i * 2, none⟩) := d62
                            have q0 := Ext.cell hst C1.out
                            have q1 := Ext.cell hst C2.out
                            refine st_value (v := vecV qx qy) ?_ (Below.refl _ _) ?_
                            · simp [execOp, go_sem, e62, q0, q1, vecV]
                            · exact rfl
                          · intro ev W hf _ hfn hst hd
                            obtain ⟨d58, d59, d63, _⟩ := hd
                            have e58 : ev (.tmp 58) = vecV ax ay := d58
                            have e59 : ev (.tmp 59) = vecV nxx nxy := d59
                            have e63 : ev (.tmp 63) = vecV qx qy := d63
                            refine st_call (f := 50) (args := #[vecV ax ay, vecV nxx nxy, vecV qx qy]) (by simp [execOp, go_sem, hfn, e58, e59, e63]) (HTW.out W) (fun _ _ => rfl)
                        case rest =>
                          intro vs w3 hl hst hg
                          have HE3 := Lib.hid hst
                          have hvs : vs = [vecV ax ay, vecV nxx nxy, .slice (some ⟨b, o, none⟩) n cap, .int .i64 (i : Int), .pointer (some ⟨b, o + i * 2, none⟩), vecV qx qy, .int .i64 0] := list_of hl (fun i u hu => by
                            match i, hu with
                            | 0, hu => exact (congrArg some (hg 0 u hu)).symm
                            | 1, hu => exact (congrArg some (hg 1 u hu)).symm
                            | 2, hu => exact (congrArg some (hg 2 u hu)).symm
                            | 3, hu => exact (congrArg some (hg 3 u hu)).symm
                            | 4, hu => exact (congrArg some (hg 4 u hu)).symm
                            | 5, hu => exact (congrArg some (hg 5 u hu)).symm
                            | 6, hu => exact (congrArg some (hg 6 u hu)).symm
                            | n + 7, hu => exact absurd (lt_len hu) (by rw [hl]; simp))
                          clear hg hst hl
                          subst hvs
                          simp only [putAll, Act.put, List.dropLast, List.setIfInBounds_toArray, List.set_cons_zero, List.set_cons_succ]
                          have C1 := Lib.hid (Ext.cell HE3.out C1.out)
                          have C2 := Lib.hid (Ext.cell HE3.out C2.out)
                          have VN := Lib.hid (VRow.ext VN.out HE3.out)
                          have VA := Lib.hid (VRow.ext VA.out HE3.out)
                          have HEq := Lib.hid (Ext.trans HEq.out HE3.out)
                          clear HE3
                          go_wp2_with fail
                          refine wp_region_stable [⟨[], none⟩, ⟨[], none⟩, ⟨[(0, 65), (1, 66)], none⟩, ⟨[(2, 67)], none⟩, ⟨[(3, 68)], some (68, false)⟩, ⟨[(4, 69), (3, 68)], some (68, false)⟩, ⟨[(3, 68), (5, 70)], none⟩, ⟨[(6, 71)], none⟩, ⟨[(7, 72)], some (72, false)⟩, ⟨[(8, 73), (7, 72)], some (72, false)⟩, ⟨[(9, 74), (7, 72)], some (72, false)⟩, ⟨[(10, 75)], some (75, true)⟩, ⟨[(10, 75)], some (75, true)⟩, ⟨[(10, 75)], some (75, true)⟩, ⟨[(12, 77), (13, 78), (10, 75)], some (75, true)⟩, ⟨[(14, 79), (10, 75)], some (75, true)⟩, ⟨[(11, 76), (15, 80), (10, 75)], some (75, true)⟩, ⟨[(10, 75)], some (75, true)⟩, ⟨[(10, 75)], some (75, true)⟩, ⟨[(17, 82), (18, 83), (10, 75)], some (75, true)⟩, ⟨[(16, 81), (19, 84), (10, 75)], some (75, true)⟩, ⟨[(10, 75), (20, 85), (7, 72)], some (72, false)⟩, ⟨[(7, 72), (21, 86)], none⟩] (fun x y => Below x.heap.size x y) (MPat [MP.eq (vecV nxx nxy), MP.eq (vecV ax ay), MP.eq (.bool false), MP.eq (.bool false), MP.eq (.int .i64 0), MP.eq (.bool false), MP.eq (.bool false), MP.eq (.bool false), MP.eq (.int .i64 0), MP.eq (.bool true), MP.eq (.bool true), MP.eq (vecV ax ay), MP.eq (.slice (some ⟨b, o, none⟩) n cap), MP.eq (.int .i64 (i : Int)), MP.eq (.pointer (some ⟨b, o + i * 2, none⟩)), MP.eq (vecV qx qy), MP.eq (.int .i64 F1), MP.eq (vecV ax ay), MP.eq (vecV nxx nxy), MP.eq (.int .i64 F2), MP.eq (.bool false), MP.eq (.bool false), MP.eq (.bool false)]) (by kernel_rfl) (fun _ _ _ h k => Ext.trans h k) (fun _ => Below.refl _ _) (fun x => (Below.refl x.heap.size x).drew) (MPat.mono _) (by kernel_rfl) ?obs ?rest
                          case obs =>
                            refine ⟨?_, ?_, ?_, ?_, ?_, ?_, ?_, ?_, ?_, ?_, ?_, ?_, ?_, ?_, ?_, ?_, ?_, ?_, ?_, ?_, ?_, ?_, ?_, trivial⟩
                            · intro ev W hf _ _ hst hd
                              have e7 : ev (.tmp 7) = .pointer (some ⟨N, 0, none⟩) := hf 7 (by kernel_rfl)
                              have q0 := VRow.cell (VRow.ext VN.out hst) (k := 0) rfl
                              have q1 := VRow.cell (VRow.ext VN.out hst) (k := 1) rfl
                              refine st_value (v := vecV nxx nxy) ?_ (Below.refl _ _) ?_
                              · simp [execOp, go_sem, e7, q0, q1, vecV]
                              · exact rfl
                            · intro ev W hf _ _ hst hd
                              have e6 : ev (.tmp 6) = .pointer (some ⟨A, 0, none⟩) := hf 6 (by kernel_rfl)
                              have q0 := VRow.cell (VRow.ext VA.out hst) (k := 0) rfl
                              have q1 := VRow.cell (VRow.ext VA.out hst) (k := 1) rfl
                              refine st_value (v := vecV ax ay) ?_ (Below.refl _ _) ?_
                              · simp [execOp, go_sem, e6, q0, q1, vecV]
                              · exact rfl
                            · intro ev W hf _ _ hst hd
                              obtain ⟨d65, d66, _⟩ := hd
                              have e65 : ev (.tmp 65) = vecV nxx nxy := d65
                              have e66 : ev (.tmp 66) = vecV ax ay := d66
                              refine st_value (v := .bool false) ?_ (Below.refl _ _) ?_
                              · simp [execOp, go_sem, e65, e66, HNA.out, vecV]
                              · exact rfl
                            · intro ev W hf _ _ hst hd
                              obtain ⟨d67, _⟩ := hd
                              have e67 : ev (.tmp 67) = .bool false := d67
                              refine st_value (v := .bool false) ?_ (Below.refl _ _) ?_
                              · simp [execOp, go_sem, e67]
                              · exact rfl
                            · intro ev W hf _ _ hst hd
                              obtain ⟨d68, _⟩ := hd
                              have e9 : ev (.tmp 9) = .int .i64 0 := hf 9 (by kernel_rfl)
                              have e68 : ev (.tmp 68) = .bool false := d68
                              refine ⟨fun _ => ?_, fun hne => absurd e68 hne⟩
                              refine st_value (v := .int .i64 0) ?_ (Below.refl _ _) ?_
                              · simp [execOp, go_sem, e9]
                              · exact rfl
                            · intro ev W hf hcst _ hst hd
                              obtain ⟨d69, d68, _⟩ := hd
                              have e69 : ev (.tmp 69) = .int .i64 0 := d69
                              have e68 : ev (.tmp 68) = .bool false := d68
                              refine ⟨fun _ => ?_, fun hne => absurd e68 hne⟩
                              refine st_value (v := .bool false) ?_ (Below.refl _ _) ?_
                              · simp [execOp, go_sem, e69, hcst, HT1.out]
                              · exact rfl
                            · intro ev W hf hcst _ hst hd
                              obtain ⟨d68, d70, _⟩ := hd
                              have e68 : ev (.tmp 68) = .bool false := d68
                              have e70 : ev (.tmp 70) = .bool false := d70
                              refine st_value (v := .bool false) ?_ (Below.refl _ _) ?_
                              · simp [execOp, go_sem, e68, e70, hcst]
                              · exact rfl
                            · intro ev W hf _ _ hst hd
                              obtain ⟨d71, _⟩ := hd
                              have e71 : ev (.tmp 71) = .bool false := d71
                              refine st_value (v := .bool false) ?_ (Below.refl _ _) ?_
                              · simp [execOp, go_sem, e71]
                              · exact rfl
                            · intro ev W hf _ _ hst hd
                              obtain ⟨d72, _⟩ := hd
                              have e9 : ev (.tmp 9) = .int .i64 0 := hf 9 (by kernel_rfl)
                              have e72 : ev (.tmp 72) = .bool false := d72
                              refine ⟨fun _ => ?_, fun hne => absurd e72 hne⟩
                              refine st_value (v := .int .i64 0) ?_ (Below.refl _ _) ?_
                              · simp [execOp, go_sem, e9]
                              · exact rfl
                            · intro ev W hf hcst _ hst hd
                              obtain ⟨d73, d72, _⟩ := hd
                              have e73 : ev (.tmp 73) = .int .i64 0 := d73
                              have e72 : ev (.tmp 72) = .bool false := d72
                              refine ⟨fun _ => ?_, fun hne => absurd e72 hne⟩
                              refine st_value (v := .bool true) ?_ (Below.refl _ _) ?_
                              · simp [execOp, go_sem, e73, hcst, HT2.out]
                              · exact rfl
                            · intro ev W hf _ _ hst hd
                              obtain ⟨d74, d72, _⟩ := hd
                              have e74 : ev (.tmp 74) = .bool true := d74
                              have e72 : ev (.tmp 72) = .bool false := d72
                              refine ⟨fun _ => ?_, fun hne => absurd e72 hne⟩
                              refine st_value (v := .bool true) ?_ (Below.refl _ _) ?_
                              · simp [execOp, go_sem, e74]
                              · exact rfl
                            · intro ev W hf _ _ hst hd
                              obtain ⟨d75, _⟩ := hd
                              have e6 : ev (.tmp 6) = .pointer (some ⟨A, 0, none⟩) := hf 6 (by kernel_rfl)
                              have e75 : ev (.tmp 75) = .bool true := d75
                              refine ⟨fun _ => ?_, fun hne => absurd e75 hne⟩
                              have q0 := VRow.cell (VRow.ext VA.out hst) (k := 0) rfl
                              have q1 := VRow.cell (VRow.ext VA.out hst) (k := 1) rfl
                              refine st_value (v := vecV ax ay) ?_ (Below.refl _ _) ?_
                              · simp [execOp, go_sem, e6, q0, q1, vecV]
                              · exact rfl
                            · intro ev W hf _ _ hst hd
                              obtain ⟨d75, _⟩ := hd
                              have e0 : ev (.tmp 0) = .slice (some ⟨b, o, none⟩) n cap := hf 0 (by kernel_rfl)
                              have e75 : ev (.tmp 75) = .bool true := d75
                              refine ⟨fun _ => ?_, fun hne => absurd e75 hne⟩
                              refine st_value (v := .slice (some ⟨b, o, none⟩) n cap) ?_ (Below.refl _ _) ?_
                              · simp [execOp, go_sem, e0]
                              · exact rfl
                            · intro ev W hf _ _ hst hd
                              obtain ⟨d75, _⟩ := hd
                              have e8 : ev (.tmp 8) = .int .i64 (i : Int) := hf 8 (by kernel_rfl)
                              have e75 : ev (.tmp 75) = .bool true := d75
                              refine ⟨fun _ => ?_, fun hne => absurd e75 hne⟩
                              refine st_value (v := .int .i64 (i : Int)) ?_ (Below.refl _ _) ?_
                              · simp [execOp, go_sem, e8]
                              · exact rfl
                            · intro ev W hf _ _ hst hd
                              obtain ⟨d77, d78, d75, _⟩ := hd
                              have e77 : ev (.tmp 77) = .slice (some ⟨b, o, none⟩) n cap := d77
                              have e78 : ev (.tmp 78) = .int .i64 (i : Int) := d78
                              have e75 : ev (.tmp 75) = .bool true := d75
                              refine ⟨fun _ => ?_, fun hne => absurd e75 hne⟩
                              refine st_value (v := .pointer (some ⟨b, o + i * 2, none⟩)) ?_ (Below.refl _ _) ?_
                              · simp [execOp, go_sem, e77, e78, hil]
                              · exact rfl
                            · intro ev W hf _ _ hst hd
                              obtain ⟨d79, d75, _⟩ := hd
                              have e79 : ev (.tmp 79) = .pointer (some ⟨b, o + i * 2, none⟩) := d79
                              have e75 : ev (.tmp 75) = .bool true := d75
                              refine ⟨fun _ => ?_, fun hne => absurd e75 hne⟩
                              have q0 := Ext.cell hst C1.out
                              have q1 := Ext.cell hst C2.out
                              refine st_value (v := vecV qx qy) ?_ (Below.refl _ _) ?_
                              · simp [execOp, go_sem, e79, q0, q1, vecV]
                              · exact rfl
                            · intro ev W hf _ hfn hst hd
                              obtain ⟨d76, d80, d75, _⟩ := hd
                              have e76 : ev (.tmp 76) = vecV ax ay := d76
                              have e80 : ev (.tmp 80) = vecV qx qy := d80
                              have e75 : ev (.tmp 75) = .bool true := d75
                              refine ⟨fun _ => ?_, fun hne => absurd e75 hne⟩
                              refine st_call (f := 78) (args := #[vecV ax ay, vecV qx qy]) (by simp [execOp, go_sem, hfn, e76, e80]) (HF1.out W) (fun _ _ => rfl)
                            · intro ev W hf _ _ hst hd
                              obtain ⟨d75, _⟩ := hd
                              have e6 : ev (.tmp 6) = .pointer (some ⟨A, 0, none⟩) := hf 6 (by kernel_rfl)
                              have e75 : ev (.tmp 75) = .bool true := d75
                              refine ⟨fun _ => ?_, fun hne => absurd e75 hne⟩
                              have q0 := VRow.cell (VRow.ext VA.out hst) (k := 0) rfl
                              have q1 := VRow.cell (VRow.ext VA.out hst) (k := 1) rfl
                              refine st_value (v := vecV ax ay) ?_ (Below.refl _ _) ?_
                              · simp [execOp, go_sem, e6, q0, q1, vecV]
                              · exact rfl
                            · intro ev W hf _ _ hst hd
                              obtain ⟨d75, _⟩ := hd
                              have e7 : ev (.tmp 7) = .pointer (some ⟨N, 0, none⟩) := hf 7 (by kernel_rfl)
                              have e75 : ev (.tmp 75) = .bool true := d75
                              refine ⟨fun _ => ?_, fun hne => absurd e75 hne⟩
                              have q0 := VRow.cell (VRow.ext VN.out hst) (k := 0) rfl
                              have q1 := VRow.cell (VRow.ext VN.out hst) (k := 1) rfl
                              refine st_value (v := vecV nxx nxy) ?_ (Below.refl _ _) ?_
                              · simp [execOp, go_sem, e7, q0, q1, vecV]
                              · exact rfl
                            · intro ev W hf _ hfn hst hd
                              obtain ⟨d82, d83, d75, _⟩ := hd
                              have e82 : ev (.tmp 82) = vecV ax ay := d82
                              have e83 : ev (.tmp 83) = vecV nxx nxy := d83
                              have e75 : ev (.tmp 75) = .bool true := d75
                              refine ⟨fun _ => ?_, fun hne => absurd e75 hne⟩
                              refine st_call (f := 78) (args := #[vecV ax ay, vecV nxx nxy]) (by simp [execOp, go_sem, hfn, e82, e83]) (HF2.out W) (fun _ _ => rfl)
                            · intro ev W hf _ _ hst hd
                              obtain ⟨d81, d84, d75, _⟩ := hd
                              have e81 : ev (.tmp 81) = .int .i64 F1 := d81
                              have e84 : ev (.tmp 84) = .int .i64 F2 := d84
                              have e75 : ev (.tmp 75) = .bool true := d75
                              refine ⟨fun _ => ?_, fun hne => absurd e75 hne⟩
                              refine st_value (v := .bool false) ?_ (Below.refl _ _) ?_
                              · simp [execOp, go_sem, e81, e84, HFF.out]
                              · exact rfl
                            · intro ev W hf hcst _ hst hd
                              obtain ⟨d75, d85, d72, _⟩ := hd
                              have e75 : ev (.tmp 75) = .bool true := d75
                              have e85 : ev (.tmp 85) = .bool false := d85
                              have e72 : ev (.tmp 72) = .bool false := d72
                              refine ⟨fun _ => ?_, fun hne => absurd e72 hne⟩
                              refine st_value (v := .bool false) ?_ (Below.refl _ _) ?_
                              · simp [execOp, go_sem, e75, e85, hcst]
                              · exact rfl
                            · intro ev W hf hcst _ hst hd
                              obtain ⟨d72, d86, _⟩ := hd
                              have e72 : ev (.tmp 72) = .bool false := d72
                              have e86 : ev (.tmp 86) = .bool false := d86
                              refine st_value (v := .bool false) ?_ (Below.refl _ _) ?_
                              · simp [execOp, go_sem, e72, e86, hcst]
                              · exact rfl
                          case rest =>
                            intro vs w3 hl hst hg
                            have HE3 := Lib.hid hst
                            have hvs : vs = [vecV nxx nxy, vecV ax ay, .bool false, .bool false, .int .i64 0, .bool false, .bool false, .bool false, .int .i64 0, .bool true, .bool true, vecV ax ay, .slice (some ⟨b, o, none⟩) n cap, .int .i64 (i : Int), .pointer (some ⟨b, o + i * 2, none⟩), vecV qx qy, .int .i64 F1, vecV ax ay, vecV nxx nxy, .int .i64 F2, .bool false, .bool false, .bool false] := list_of hl (fun i u hu => by
                              match i, hu with
                              | 0, hu => exact (congrArg some (hg 0 u hu)).symm
                              | 1, hu => exact (congrArg some (hg 1 u hu)).symm
                              | 2, hu => exact (congrArg some (hg 2 u hu)).symm
                              | 3, hu => exact (congrArg some (hg 3 u hu)).symm
                              | 4, hu => exact (congrArg some (hg 4 u hu)).symm
                              | 5, hu => exact (congrArg some (hg 5 u hu)).symm
                              | 6, hu => exact (congrArg some (hg 6 u hu)).symm
                              | 7, hu => exact (congrArg some (hg 7 u hu)).symm
                              | 8, hu => exact (congrArg some (hg 8 u hu)).symm
                              | 9, hu => exact (congrArg some (hg 9 u hu)).symm
                              | 10, hu => exact (congrArg some (hg 10 u hu)).symm
                              | 11, hu => exact (congrArg some (hg 11 u hu)).symm
                              | 12, hu => exact (congrArg some (hg 12 u hu)).symm
                              | 13, hu => exact (congrArg some (hg 13 u hu)).symm
                              | 14, hu => exact (congrArg some (hg 14 u hu)).symm
                              | 15, hu => exact (congrArg some (hg 15 u hu)).symm
                              | 16, hu => exact (congrArg some (hg 16 u hu)).symm
                              | 17, hu => exact (congrArg some (hg 17 u hu)).symm
                              | 18, hu => exact (congrArg some (hg 18 u hu)).symm
                              | 19, hu => exact (congrArg some (hg 19 u hu)).symm
                              | 20, hu => exact (congrArg some (hg 20 u hu)).symm
                              | 21, hu => exact (congrArg some (hg 21 u hu)).symm
                              | 22, hu => exact (congrArg some (hg 22 u hu)).symm
                              | n + 23, hu => exact absurd (lt_len hu) (by rw [hl]; simp))
                            clear hg hst hl
                            subst hvs
                            simp only [putAll, Act.put, List.dropLast, List.setIfInBounds_toArray, List.set_cons_zero, List.set_cons_succ]
                            have C1 := Lib.hid (Ext.cell HE3.out C1.out)
                            have C2 := Lib.hid (Ext.cell HE3.out C2.out)
                            have VN := Lib.hid (VRow.ext VN.out HE3.out)
                            have VA := Lib.hid (VRow.ext VA.out HE3.out)
                            have HEq := Lib.hid (Ext.trans HEq.out HE3.out)
                            clear HE3
                            go_wp2_with fail
                            exact ⟨⟨i + 1, by simp, by omega, by rw [HS.out.1, HS.out.2]; exact VN.out, VA.out, HEq.out⟩, by simp [intOf]; omega⟩
                  · have HS := Lib.hid (show (nextK ps at_ (i + 1)).1 = nx.1 ∧ (nextK ps at_ (i + 1)).2 = nx.2 from by rw [HS0.out, if_neg (fun h => h.elim hna fun h => h.elim (fun h => by omega) fun h => by omega)]; exact ⟨rfl, rfl⟩)
                    have HT1 := Lib.hid (show decide (T < 0) = false from decide_eq_false (by omega))
                    have HT2 := Lib.hid (show (T == 0) = false from beq_eq_false_iff_ne.2 (by omega))
                    clear hna HS0 hT
                    generalize q.1 = qx at *
                    generalize q.2 = qy at *
                    generalize nx.1 = nxx at *
                    generalize nx.2 = nxy at *
                    generalize at_.1 = ax at *
                    generalize at_.2 = ay at *
                    go_wp2_with fail
                    refine wp_region_stable [⟨[], none⟩, ⟨[], none⟩, ⟨[(0, 52), (1, 53)], none⟩, ⟨[(2, 54)], none⟩, ⟨[], none⟩, ⟨[(3, 55), (4, 56)], none⟩] (fun x y => Below x.heap.size x y) (MPat [MP.eq (.slice (some ⟨b, o, none⟩) n cap), MP.eq (.int .i64 (i : Int)), MP.eq (.pointer (some ⟨b, o + i * 2, none⟩)), MP.eq (vecV qx qy), MP.eq (vecV ax ay), MP.eq (.bool false)]) (by kernel_rfl) (fun _ _ _ h k => Ext.trans h k) (fun _ => Below.refl _ _) (fun x => (Below.refl x.heap.size x).drew) (MPat.mono _) (by kernel_rfl) ?obs ?rest
                    case obs =>
                      refine ⟨?_, ?_, ?_, ?_, ?_, ?_, trivial⟩
                      · intro ev W hf _ _ hst hd
                        have e0 : ev (.tmp 0) = .slice (some ⟨b, o, none⟩) n cap := hf 0 (by kernel_rfl)
                        refine st_value (v := .slice (some ⟨b, o, none⟩) n cap) ?_ (Below.refl _ _) ?_
                        · simp [execOp, go_sem, e0]
                        · exact rfl
                      · intro ev W hf _ _ hst hd
                        have e8 : ev (.tmp 8) = .int .i64 (i : Int) := hf 8 (by kernel_rfl)
                        refine st_value (v := .int .i64 (i : Int)) ?_ (Below.refl _ _) ?_
                        · simp [execOp, go_sem, e8]
                        · exact rfl
                      · intro ev W hf _ _ hst hd
                        obtain ⟨d52, d53, _⟩ := hd
                        have e52 : ev (.tmp 52) = .slice (some ⟨b, o, none⟩) n cap := d52
                        have e53 : ev (.tmp 53) = .int .i64 (i : Int) := d53
                        refine st_value (v := .pointer (some ⟨b, o + i * 2, none⟩)) ?_ (Below.refl _ _) ?_
                        · simp [execOp, go_sem, e52, e53, hil]
                        · exact rfl
                      · intro ev W hf _ _ hst hd
                        obtain ⟨d54, _⟩ := hd
                        have e54 : ev (.tmp 54) = .pointer (some ⟨b, o + i * 2, none⟩) := d54
                        have q0 := Ext.cell hst C1.out
                        have q1 := Ext.cell hst C2.out
                        refine st_value (v := vecV qx qy) ?_ (Below.refl _ _) ?_
                        · simp [execOp, go_sem, e54, q0, q1, vecV]
                        · exact rfl
                      · intro ev W hf _ _ hst hd
                        have e6 : ev (.tmp 6) = .pointer (some ⟨A, 0, none⟩) := hf 6 (by kernel_rfl)
                        have q0 := VRow.cell (VRow.ext VA.out hst) (k := 0) rfl
                        have q1 := VRow.cell (VRow.ext VA.out hst) (k := 1) rfl
                        refine st_value (v := vecV ax ay) ?_ (Below.refl _ _) ?_
                        · simp [execOp, go_sem, e6, q0, q1, vecV]
                        · exact rfl
                      · intro ev W hf _ _ hst hd
                        obtain ⟨d55, d56, _⟩ := hd
                        have e55 : ev (.tmp 55) = vecV qx qy := d55
                        have e56 : ev (.tmp 56) = vecV ax ay := d56
                        refine st_value (v := .bool false) ?_ (Below.refl _ _) ?_
                        · simp [execOp, go_sem, e55, e56, HQA.out, vecV]
                        · exact rfl
                    case rest =>
                      intro vs w3 hl hst hg
                      have HE3 := Lib.hid hst
                      have hvs : vs = [.slice (some ⟨b, o, none⟩) n cap, .int .i64 (i : Int), .pointer (some ⟨b, o + i * 2, none⟩), vecV qx qy, vecV ax ay, .bool false] := list_of hl (fun i u hu => by
                        match i, hu with
                        | 0, hu => exact (congrArg some (hg 0 u hu)).symm
                        | 1, hu => exact (congrArg some (hg 1 u hu)).symm
                        | 2, hu => exact (congrArg some (hg 2 u hu)).symm
                        | 3, hu => exact (congrArg some (hg 3 u hu)).symm
                        | 4, hu => exact (congrArg some (hg 4 u hu)).symm
                        | 5, hu => exact (congrArg some (hg 5 u hu)).symm
                        | n + 6, hu => exact absurd (lt_len hu) (by rw [hl]; simp))
                      clear hg hst hl
                      subst hvs
                      simp only [putAll, Act.put, List.dropLast, List.setIfInBounds_toArray, List.set_cons_zero, List.set_cons_succ]
                      have C1 := Lib.hid (Ext.cell HE3.out C1.out)
                      have C2 := Lib.hid (Ext.cell HE3.out C2.out)
                      have VN := Lib.hid (VRow.ext VN.out HE3.out)
                      have VA := Lib.hid (VRow.ext VA.out HE3.out)
                      have HEq := Lib.hid (Ext.trans HEq.out HE3.out)
                      clear HE3
                      go_wp2_with fail
                      refine wp_region_stable_last [⟨[], none⟩, ⟨[], none⟩, ⟨[], none⟩, ⟨[], none⟩, ⟨[(2, 60), (3, 61)], none⟩, ⟨[(4, 62)], none⟩, ⟨[(0, 58), (1, 59), (5, 63)], none⟩] (fun x y => Below x.heap.size x y) (MPat [MP.eq (vecV ax ay), MP.eq (vecV nxx nxy), MP.eq (.slice (some ⟨b, o, none⟩) n cap), MP.eq (.int .i64 (i : Int)), MP.eq (.pointer (some ⟨b, o + i * 2, none⟩)), MP.eq (vecV qx qy), MP.eq (.int .i64 T)]) rfl (by kernel_rfl) (fun _ _ _ h k => Ext.trans h k) (fun _ => Below.refl _ _) (fun x => (Below.refl x.heap.size x).drew) (MPat.mono _) (by kernel_rfl) (by kernel_rfl) (by kernel_rfl) ?obs ?rest
                      case obs =>
                        refine ⟨?_, ?_, ?_, ?_, ?_, ?_, ?_, trivial⟩
                        · intro ev W hf _ _ hst hd
                          have e6 : ev (.tmp 6) = .pointer (some ⟨A, 0, none⟩) := hf 6 (by kernel_rfl)
                          have q0 := VRow.cell (VRow.ext VA.out hst) (k := 0) rfl
                          have q1 := VRow.cell (VRow.ext VA.out hst) (k := 1) rfl
                          refine st_value (v := vecV ax ay) ?_ (Below.refl _ _) ?_
                          · simp [execOp, go_sem, e6, q0, q1, vecV]
                          · exact rfl
                        · intro ev W hf _ _ hst hd
                          have e7 : ev (.tmp 7) = .pointer (some ⟨N, 0, none⟩) := hf 7 (by kernel_rfl)
                          have q0 := VRow.cell (VRow.ext VN.out hst) (k := 0) rfl
                          have q1 := VRow.cell (VRow.ext VN.out hst) (k := 1) rfl
                          refine st_value (v := vecV nxx nxy) ?_ (Below.refl _ _) ?_
                          · simp [execOp, go_sem, e7, q0, q1, vecV]
                          · exact rfl
                        · intro ev W hf _ _ hst hd
                          have e0 : ev (.tmp 0) = .slice (some ⟨b, o, none⟩) n cap := hf 0 (by kernel_rfl)
                          refine st_value (v := .slice (some ⟨b, o, none⟩) n cap) ?_ (Below.refl _ _) ?_
                          · simp [execOp, go_sem, e0]
                          · exact rfl
                        · intro ev W hf _ _ hst hd
                          have e8 : ev (.tmp 8) = .int .i64 (i : Int) := hf 8 (by kernel_rfl)
                          refine st_value (v := .int .i64 (i : Int)) ?_ (Below.refl _ _) ?_
                          · simp [execOp, go_sem, e8]
                          · exact rfl
                        · intro ev W hf _ _ hst hd
                          obtain ⟨d60, d61, _⟩ := hd
                          have e60 : ev (.tmp 60) = .slice (some ⟨b, o, none⟩) n cap := d60
                          have e61 : ev (.tmp 61) = .int .i64 (i : Int) := d61
                          refine st_value (v := .pointer (some ⟨b, o + i * 2, none⟩)) ?_ (Below.refl _ _) ?_
                          · simp [execOp, go_sem, e60, e61, hil]
                          · exact rfl
                        · intro ev W hf _ _ hst hd
                          obtain ⟨d62, _⟩ := hd
                          have e62 : ev (.tmp 62) = .pointer (some ⟨b, o + i * 2, none⟩) := d62
                          have q0 := Ext.cell hst C1.out
                          have q1 := Ext.cell hst C2.out
                          refine st_value (v := vecV qx qy) ?_ (Below.refl _ _) ?_
                          · simp [execOp, go_sem, e62, q0, q1, vecV]
                          · exact rfl
                        · intro ev W hf _ hfn hst hd
                          obtain ⟨d58, d59, d63, _⟩ := hd
                          have e58 : ev (.tmp 58) = vecV ax ay := d58
                          have e59 : ev (.tmp 59) = vecV nxx nxy := d59
                          have e63 : ev (.tmp 63) = vecV qx qy := d63
                          refine st_call (f := 50) (args := #[vecV ax ay, vecV nxx nxy, vecV qx qy]) (by simp [execOp, go_sem, hfn, e58, e59, e63]) (HTW.out W) (fun _ _ => rfl)
                      case rest =>
                        intro vs w3 hl hst hg
                        have HE3 := Lib.hid hst
                        have hvs : vs = [vecV ax ay, vecV nxx nxy, .slice (some ⟨b, o, none⟩) n cap, .int .i64 (i : Int), .pointer (some ⟨b, o + i * 2, none⟩), vecV qx qy, .int .i64 T] := list_of hl (fun i u hu => by
                          match i, hu with
                          | 0, hu => exact (congrArg some (hg 0 u hu)).symm
                          | 1, hu => exact (congrArg some (hg 1 u hu)).symm
                          | 2, hu => exact (congrArg some (hg 2 u hu)).symm
                          | 3, hu => exact (congrArg some (hg 3 u hu)).symm
                          | 4, hu => exact (congrArg some (hg 4 u hu)).symm
                          | 5, hu => exact (congrArg some (hg 5 u hu)).symm
                          | 6, hu => exact (congrArg some (hg 6 u hu)).symm
                          | n + 7, hu => exact absurd (lt_len hu) (by rw [hl]; simp))
                        clear hg hst hl
                        subst hvs
                        simp only [putAll, Act.put, List.dropLast, List.setIfInBounds_toArray, List.set_cons_zero, List.set_cons_succ]
                        have C1 := Lib.hid (Ext.cell HE3.out C1.out)
                        have C2 := Lib.hid (Ext.cell HE3.out C2.out)
                        have VN := Lib.hid (VRow.ext VN.out HE3.out)
                        have VA := Lib.hid (VRow.ext VA.out HE3.out)
                        have HEq := Lib.hid (Ext.trans HEq.out HE3.out)
                        clear HE3
                        go_wp2_with fail
                        refine wp_region_stable [⟨[], none⟩, ⟨[], none⟩, ⟨[(0, 65), (1, 66)], none⟩, ⟨[(2, 67)], none⟩, ⟨[(3, 68)], some (68, false)⟩, ⟨[(4, 69), (3, 68)], some (68, false)⟩, ⟨[(3, 68), (5, 70)], none⟩, ⟨[(6, 71)], none⟩, ⟨[(7, 72)], some (72, false)⟩, ⟨[(8, 73), (7, 72)], some (72, false)⟩, ⟨[(9, 74), (7, 72)], some (72, false)⟩, ⟨[(10, 75)], some (75, true)⟩, ⟨[(10, 75)], some (75, true)⟩, ⟨[(10, 75)], some (75, true)⟩, ⟨[(12, 77), (13, 78), (10, 75)], some (75, true)⟩, ⟨[(14, 79), (10, 75)], some (75, true)⟩, ⟨[(11, 76), (15, 80), (10, 75)], some (75, true)⟩, ⟨[(10, 75)], some (75, true)⟩, ⟨[(10, 75)], some (75, true)⟩, ⟨[(17, 82), (18, 83), (10, 75)], some (75, true)⟩, ⟨[(16, 81), (19, 84), (10, 75)], some (75, true)⟩, ⟨[(10, 75), (20, 85), (7, 72)], some (72, false)⟩, ⟨[(7, 72), (21, 86)], none⟩] (fun x y => Below x.heap.size x y) (MPat [MP.eq (vecV nxx nxy), MP.eq (vecV ax ay), MP.eq (.bool false), MP.eq (.bool false), MP.eq (.int .i64 T), MP.eq (.bool false), MP.eq (.bool false), MP.eq (.bool false), MP.eq (.int .i64 T), MP.eq (.bool false), MP.eq (.bool false), MP.eq (undef), MP.eq (undef), MP.eq (undef), MP.eq (undef), MP.eq (undef), MP.eq (undef), MP.eq (undef), MP.eq (undef), MP.eq (undef), MP.eq (undef), MP.eq (.bool false), MP.eq (.bool false)]) (by kernel_rfl) (fun _ _ _ h k => Ext.trans h k) (fun _ => Below.refl _ _) (fun x => (Below.refl x.heap.size x).drew) (MPat.mono _) (by kernel_rfl) ?obs ?rest
                        case obs =>
                          refine ⟨?_, ?_, ?_, ?_, ?_, ?_, ?_, ?_, ?_, ?_, ?_, ?_, ?_, ?_, ?_, ?_, ?_, ?_, ?_, ?_, ?_, ?_, ?_, trivial⟩
                          · intro ev W hf _ _ hst hd
                            have e7 : ev (.tmp 7) = .pointer (some ⟨N, 0, none⟩) := hf 7 (by kernel_rfl)
                            have q0 := VRow.cell (VRow.ext VN.out hst) (k := 0) rfl
                            have q1 := VRow.cell (VRow.ext VN.out hst) (k := 1) rfl
                            refine st_value (v := vecV nxx nxy) ?_ (Below.refl _ _) ?_
                            · simp [execOp, go_sem, e7, q0, q1, vecV]
                            · exact rfl
                          · intro ev W hf _ _ hst hd
                            have e6 : ev (.tmp 6) = .pointer (some ⟨A, 0, none⟩) := hf 6 (by kernel_rfl)
                            have q0 := VRow.cell (VRow.ext VA.out hst) (k := 0) rfl
                            have q1 := VRow.cell (VRow.ext VA.out hst) (k := 1) rfl
                            refine st_value (v := vecV ax ay) ?_ (Below.refl _ _) ?_
                            · simp [execOp, go_sem, e6, q0, q1, vecV]
                            · exact rfl
                          · intro ev W hf _ _ hst hd
                            obtain ⟨d65, d66, _⟩ := hd
                            have e65 : ev (.tmp 65) = vecV nxx nxy := d65
                            have e66 : ev (.tmp 66) = vecV ax ay := d66
                            refine st_value (v := .bool false) ?_ (Below.refl _ _) ?_
                            · simp [execOp, go_sem, e65, e66, HNA.out, vecV]
                            · exact rfl
                          · intro ev W hf _ _ hst hd
                            obtain ⟨d67, _⟩ := hd
                            have e67 : ev (.tmp 67) = .bool false := d67
                            refine st_value (v := .bool false) ?_ (Below.refl _ _) ?_
                            · simp [execOp, go_sem, e67]
                            · exact rfl
                          · intro ev W hf _ _ hst hd
                            obtain ⟨d68, _⟩ := hd
                            have e9 : ev (.tmp 9) = .int .i64 T := hf 9 (by kernel_rfl)
                            have e68 : ev (.tmp 68) = .bool false := d68
                            refine ⟨fun _ => ?_, fun hne => absurd e68 hne⟩
                            refine st_value (v := .int .i64 T) ?_ (Below.refl _ _) ?_
                            · simp [execOp, go_sem, e9]
                            · exact rfl
                          · intro ev W hf hcst _ hst hd
                            obtain ⟨d69, d68, _⟩ := hd
                            have e69 : ev (.tmp 69) = .int .i64 T := d69
                            have e68 : ev (.tmp 68) = .bool false := d68
                            refine ⟨fun _ => ?_, fun hne => absurd e68 hne⟩
                            refine st_value (v := .bool false) ?_ (Below.refl _ _) ?_
                            · simp [execOp, go_sem, e69, hcst, HT1.out]
                            · exact rfl
                          · intro ev W hf hcst _ hst hd
                            obtain ⟨d68, d70, _⟩ := hd
                            have e68 : ev (.tmp 68) = .bool false := d68
                            have e70 : ev (.tmp 70) = .bool false := d70
                            refine st_value (v := .bool false) ?_ (Below.refl _ _) ?_
                            · simp [execOp, go_sem, e68, e70, hcst]
                            · exact rfl
                          · intro ev W hf _ _ hst hd
                            obtain ⟨d71, _⟩ := hd
                            have e71 : ev (.tmp 71) = .bool false := d71
                            refine st_value (v := .bool false) ?_ (Below.refl _ _) ?_
                            · simp [execOp, go_sem, e71]
                            · exact rfl
                          · intro ev W hf _ _ hst hd
                            obtain ⟨d72, _⟩ := hd
                            have e9 : ev (.tmp 9) = .int .i64 T := hf 9 (by kernel_rfl)
                            have e72 : ev (.tmp 72) = .bool false := d72
                            refine ⟨fun _ => ?_, fun hne => absurd e72 hne⟩
                            refine st_value (v := .int .i64 T) ?_ (Below.refl _ _) ?_
                            · simp [execOp, go_sem, e9]
                            · exact rfl
                          · intro ev W hf hcst _ hst hd
                            obtain ⟨d73, d72, _⟩ := hd
                            have e73 : ev (.tmp 73) = .int .i64 T := d73
                            have e72 : ev (.tmp 72) = .bool false := d72
                            refine ⟨fun _ => ?_, fun hne => absurd e72 hne⟩
                            refine st_value (v := .bool false) ?_ (Below.refl _ _) ?_
                            · simp [execOp, go_sem, e73, hcst, HT2.out]
                            · exact rfl
                          · intro ev W hf _ _ hst hd
                            obtain ⟨d74, d72, _⟩ := hd
                            have e74 : ev (.tmp 74) = .bool false := d74
                            have e72 : ev (.tmp 72) = .bool false := d72
                            refine ⟨fun _ => ?_, fun hne => absurd e72 hne⟩
                            refine st_value (v := .bool false) ?_ (Below.refl _ _) ?_
                            · simp [execOp, go_sem, e74]
                            · exact rfl
                          · intro ev W hf _ _ hst hd
                            obtain ⟨d75, _⟩ := hd
                            have e75 : ev (.tmp 75) = .bool false := d75
                            refine ⟨fun hh => ?_, fun _ => rfl⟩
                            rw [e75] at hh
                            simp at hh
                          · intro ev W hf _ _ hst hd
                            obtain ⟨d75, _⟩ := hd
                            have e75 : ev (.tmp 75) = .bool false := d75
                            refine ⟨fun hh => ?_, fun _ => rfl⟩
                            rw [e75] at hh
                            simp at hh
                          · intro ev W hf _ _ hst hd
                            obtain ⟨d75, _⟩ := hd
                            have e75 : ev (.tmp 75) = .bool false := d75
                            refine ⟨fun hh => ?_, fun _ => rfl⟩
                            rw [e75] at hh
                            simp at hh
                          · intro ev W hf _ _ hst hd
                            obtain ⟨d77, d78, d75, _⟩ := hd
                            have e75 : ev (.tmp 75) = .bool false := d75
                            refine ⟨fun hh => ?_, fun _ => rfl⟩
                            rw [e75] at hh
                            simp at hh
                          · intro ev W hf _ _ hst hd
                            obtain ⟨d79, d75, _⟩ := hd
                            have e75 : ev (.tmp 75) = .bool false := d75
                            refine ⟨fun hh => ?_, fun _ => rfl⟩
                            rw [e75] at hh
                            simp at hh
                          · intro ev W hf _ _ hst hd
                            obtain ⟨d76, d80, d75, _⟩ := hd
                            have e75 : ev (.tmp 75) = .bool false := d75
                            refine ⟨fun hh => ?_, fun _ => rfl⟩
                            rw [e75] at hh
                            simp at hh
                          · intro ev W hf _ _ hst hd
                            obtain ⟨d75, _⟩ := hd
                            have e75 : ev (.tmp 75) = .bool false := d75
                            refine ⟨fun hh => ?_, fun _ => rfl⟩
                            rw [e75] at hh
                            simp at hh
                          · intro ev W hf _ _ hst hd
                            obtain ⟨d75, _⟩ := hd
                            have e75 : ev (.tmp 75) = .bool false := d75
                            refine ⟨fun hh => ?_, fun _ => rfl⟩
                            rw [e75] at hh
                            simp at hh
                          · intro ev W hf _ _ hst hd
                            obtain ⟨d82, d83, d75, _⟩ := hd
                            have e75 : ev (.tmp 75) = .bool false := d75
                            refine ⟨fun hh => ?_, fun _ => rfl⟩
                            rw [e75] at hh
                            simp at hh
                          · intro ev W hf _ _ hst hd
                            obtain ⟨d81, d84, d75, _⟩ := hd
                            have e75 : ev (.tmp 75) = .bool false := d75
                            refine ⟨fun hh => ?_, fun _ => rfl⟩
                            rw [e75] at hh
                            simp at hh
                          · intro ev W hf hcst _ hst hd
                            obtain ⟨d75, d85, d72, _⟩ := hd
                            have e75 : ev (.tmp 75) = .bool false := d75
                            have e85 : ev (.tmp 85) = undef := d85
                            have e72 : ev (.tmp 72) = .bool false := d72
                            refine ⟨fun _ => ?_, fun hne => absurd e72 hne⟩
                            refine st_value (v := .bool false) ?_ (Below.refl _ _) ?_
                            · simp [execOp, go_sem, e75, e85, hcst]
                            · exact rfl
                          · intro ev W hf hcst _ hst hd
                            obtain ⟨d72, d86, _⟩ := hd
                            have e72 : ev (.tmp 72) = .bool false := d72
                            have e86 : ev (.tmp 86) = .bool false := d86
                            refine st_value (v := .bool false) ?_ (Below.refl _ _) ?_
                            · simp [execOp, go_sem, e72, e86, hcst]
                            · exact rfl
                        case rest =>
                          intro vs w3 hl hst hg
                          have HE3 := Lib.hid hst
                          have hvs : vs = [vecV nxx nxy, vecV ax ay, .bool false, .bool false, .int .i64 T, .bool false, .bool false, .bool false, .int .i64 T, .bool false, .bool false, undef, undef, undef, undef, undef, undef, undef, undef, undef, undef, .bool false, .bool false] := list_of hl (fun i u hu => by
                            match i, hu with
                            | 0, hu => exact (congrArg some (hg 0 u hu)).symm
                            | 1, hu => exact (congrArg some (hg 1 u hu)).symm
                            | 2, hu => exact (congrArg some (hg 2 u hu)).symm
                            | 3, hu => exact (congrArg some (hg 3 u hu)).symm
                            | 4, hu => exact (congrArg some (hg 4 u hu)).symm
                            | 5, hu => exact (congrArg some (hg 5 u hu)).symm
                            | 6, hu => exact (congrArg some (hg 6 u hu)).symm
                            | 7, hu => exact (congrArg some (hg 7 u hu)).symm
                            | 8, hu => exact (congrArg some (hg 8 u hu)).symm
                            | 9, hu => exact (congrArg some (hg 9 u hu)).symm
                            | 10, hu => exact (congrArg some (hg 10 u hu)).symm
                            | 11, hu => exact (congrArg some (hg 11 u hu)).symm
                            | 12, hu => exact (congrArg some (hg 12 u hu)).symm
                            | 13, hu => exact (congrArg some (hg 13 u hu)).symm
                            | 14, hu => exact (congrArg some (hg 14 u hu)).symm
                            | 15, hu => exact (congrArg some (hg 15 u hu)).symm
                            | 16, hu => exact (congrArg some (hg 16 u hu)).symm
                            | 17, hu => exact (congrArg some (hg 17 u hu)).symm
                            | 18, hu => exact (congrArg some (hg 18 u hu)).symm
                            | 19, hu => exact (congrArg some (hg 19 u hu)).symm
                            | 20, hu => exact (congrArg some (hg 20 u hu)).symm
                            | 21, hu => exact (congrArg some (hg 21 u hu)).symm
                            | 22, hu => exact (congrArg some (hg 22 u hu)).symm
                            | n + 23, hu => exact absurd (lt_len hu) (by rw [hl]; simp))
                          clear hg hst hl
                          subst hvs
                          simp only [putAll, Act.put, List.dropLast, List.setIfInBounds_toArray, List.set_cons_zero, List.set_cons_succ]
                          have C1 := Lib.hid (Ext.cell HE3.out C1.out)
                          have C2 := Lib.hid (Ext.cell HE3.out C2.out)
                          have VN := Lib.hid (VRow.ext VN.out HE3.out)
                          have VA := Lib.hid (VRow.ext VA.out HE3.out)
                          have HEq := Lib.hid (Ext.trans HEq.out HE3.out)
                          clear HE3
                          go_wp2_with fail
                          exact ⟨⟨i + 1, by simp, by omega, by rw [HS.out.1, HS.out.2]; exact VN.out, VA.out, HEq.out⟩, by simp [intOf]; omega⟩
            · have hilz : ¬ (i : Int) < (n : Int) := by omega
              have hin : i = n := by omega
              have HNX := Lib.hid (show nextK ps at_ i = wrapK ps a (m + 1) from by rw [hin, HN.out, HAT.out]; rfl)
              clear hin
              rw [HNX.out] at VN
              obtain ⟨nx, hnx⟩ : ∃ nx, nx = wrapK ps a (m + 1) := ⟨_, rfl⟩
              rw [← hnx] at VN
              have HNXE := Lib.hid hnx
              clear hnx
              have HVq := Lib.hid (VRow.ext HV.out HEq.out)
              have l0 := VRow.cell HVq.out (k := 0) rfl
              have l1 := VRow.cell HVq.out (k := 1) rfl
              have n0 := VRow.cell VN.out (k := 0) rfl
              have n1 := VRow.cell VN.out (k := 1) rfl
              have a0 := VRow.cell VA.out (k := 0) rfl
              have a1 := VRow.cell VA.out (k := 1) rfl
              have HOq := Lib.hid (ownsRow_ext HO.out HEq.out)
              by_cases hna : nx = a
              · have HEND := Lib.hid (show WrapEnd ps a (m + 1) from ⟨by omega, by rw [← HN.out]; omega, HON.out, .inr (.inl (by rw [← HNXE.out]; exact hna))⟩)
                have heq := fun W => (show Sem.run Try.prog (binOp .eql 32 (.agg #[.int .i64 nx.1, .int .i64 nx.2]) (.agg #[.int .i64 a.1, .int .i64 a.2])) W = .ok (.bool true) W from by rw [hna]; exact veq_t _ _ W)
                clear hna
                go_wp2_with fail
                go_ret
                exact ⟨_, rfl, _, HEND.out, own_mono2 HOq.out (by have := HG.out; omega), Ext.trans HE.out HEq.out⟩
              · have heq := fun W => veq_f nx.1 nx.2 a.1 a.2 (pt_ne hna) W
                by_cases hnt : nx = at_
                · have HEND := Lib.hid (show WrapEnd ps a (m + 1) from ⟨by omega, by rw [← HN.out]; omega, HON.out, .inr (.inr (by rw [← HNXE.out, hnt, HAT.out]; rfl))⟩)
                  have heq2 := fun W => (show Sem.run Try.prog (binOp .eql 32 (.agg #[.int .i64 nx.1, .int .i64 nx.2]) (.agg #[.int .i64 at_.1, .int .i64 at_.2])) W = .ok (.bool true) W from by rw [hnt]; exact veq_t _ _ W)
                  clear hna hnt
                  go_wp2_with fail
                  go_ret
                  exact ⟨_, rfl, _, HEND.out, own_mono2 HOq.out (by have := HG.out; omega), Ext.trans HE.out HEq.out⟩
                · have heq2 := fun W => veq_f nx.1 nx.2 at_.1 at_.2 (pt_ne hnt) W
                  have HON2 := Lib.hid (show ∀ k, 1 ≤ k → k < m + 1 + 1 → wrapK ps a k ≠ a ∧ wrapK ps a k ≠ wrapK ps a (k - 1) from fun k h1 h2 => by
                    by_cases e : k = m + 1
                    · rw [e, ← HNXE.out]
                      exact ⟨hna, by rw [show m + 1 - 1 = m by omega, ← HAT.out]; exact hnt⟩
                    · exact HON.out k h1 (by omega))
                  have HWL := Lib.hid (show cellsOf (wrapL ps a (m + 1 + 1)) = cellsOf (wrapL ps a (m + 1)) ++ [.int .i64 nx.1, .int .i64 nx.2] from by
                    rw [show wrapL ps a (m + 1 + 1) = wrapL ps a (m + 1) ++ [wrapK ps a (m + 1)] by unfold wrapL; rw [List.range_succ, List.map_append]; rfl, cellsOf_append, ← HNXE.out]; rfl)
                  have hEa := Ext.alloc HEq.out (.cells #[.int .i64 nx.1, .int .i64 nx.2] 32)
                  have HOW := Lib.hid (ownsRow_ext HO.out hEa)
                  have HEa := Lib.hid hEa
                  have HVa := Lib.hid (VRow.ext HV.out hEa)
                  have hgs := HGS.out
                  have hwq := HEq.out.size
                  have hob : ∀ x, Value.ownBlock (.slice (some ⟨ob, oo, none⟩) (m + 1) oc) = some x → g + 1 ≤ x := fun x hx => own_block HO.out hx
                  clear hna hnt hEa
                  generalize nx.1 = n1x at *
                  generalize nx.2 = n1y at *
                  go_wp2_with (at_builtin; (refine wpList_append_own _ rfl _ _ 22 rfl (g + 1) 32 i0 (.agg #[.int .i64 0, .int .i64 0]) 2 16 Try.underlying22 HI.out HZ0.out HZ1.out HZ2.out rfl (by decide) _ _ _ rfl HOW.out ⟨wq.heap.size, 0, none⟩ 1 1 [.int .i64 n1x, .int .i64 n1y] rfl rfl (fun j u h => cell_two_new wq _ _ 32 j u h) (by simp [Value.oneCell']) (by unfold maxLen; omega) (by omega) (by simp; omega) ?_; intro v' w' hown' hgrow hnil; have HO10 := Lib.hid hown'; have HG10 := Lib.hid hgrow; clear hown' hgrow hnil))
                  obtain ⟨va, vc, rfl⟩ := own_slice2 HO10.out
                  have hsz := HG10.out.size
                  refine ⟨⟨m + 1, rfl, by omega, ?_, VRow.grown HVa.out HG10.out (fun e => ?_), HON2.out, Below.grown (Ext.trans HE.out HEa.out) HG10.out (by have := HG.out; have := HE.out.size; have := HEa.out.size; omega) (fun x e => by have := hob x e; have := HG.out; omega)⟩, by simp [lenOf]; omega⟩
                  · rw [HWL.out]; exact HO10.out
                  · have := hob g e.symm; omega
        · have HEND := Lib.hid (show WrapEnd ps a (m + 1) from ⟨by omega, by rw [← HN.out]; omega, HON.out, .inl (by rw [← HN.out]; omega)⟩)
          have hmz : ¬ (m : Int) + 1 ≤ (n : Int) := by omega
          clear hvs
          go_wp2_with fail
          go_ret
          exact ⟨_, rfl, _, HEND.out, own_mono2 HO.out (by have := HG.out; omega), HE.out⟩
end Go.Proofs.Ytbdppephmlkbaaa

namespace Go.Proofs.Ytbdppephmlkbaaa
set_option maxRecDepth 100000
open Go.RowKit Go.Shelf
attribute [local go_sem] Oper.semAt_some
/-! The reference's result and Hull. -/
theorem nil_own2 (w : World) (c : Nat) : w.ownsRow c 32 2 (.slice none 0 0) ([] : List Pt).length (cellsOf []) := ⟨rfl, .inl ⟨rfl, rfl⟩⟩
/-- what result gives -/
def resV (v : Value) (ps : List Pt) : Ending := if ps.any farP = true then two (.slice none 0 0) (.int .i64 4) else if 32 < ps.length then two (.slice none 0 0) (.int .i64 8) else two v (.int .i64 0)
theorem any_far {ps : List Pt} {k : Nat} (hk : k < ps.length) (h : farB (fromP ps k).1 (fromP ps k).2 = true) : ps.any farP = true := by
  obtain ⟨q, hq⟩ := getElem?_len hk
  exact any_at hq (by rw [fromP_of hq] at h; exact h)
set_option maxHeartbeats 4000000 in
theorem result_c (v : Value) (ps : List Pt) (w : World) (hv : Vecs w v ps) (h1 : 1 ≤ ps.length) :
    Calls Try.prog 44 #[v] w fun e w' => e = resV v ps ∧ Ext w w' := by
  obtain ⟨b, o, cap, rfl, hl, hm, hc⟩ := vecs_cells hv h1
  have HC := Lib.hid hc
  obtain ⟨n, hn⟩ : ∃ n, n = ps.length := ⟨_, rfl⟩
  rw [← hn] at HC hl ⊢
  have HN := Lib.hid hn
  clear hv hc hn h1
  go_enter Try.func44, Try.ntmps44
  go_wp2_with fail
  go_loopw [4] (fun iv wr => ∃ k : Nat, iv = .int .i64 (k : Int) ∧ k ≤ n ∧ (∀ j, j < k → farB (fromP ps j).1 (fromP ps j).2 = false) ∧ Ext w wr) (fun iv _ => n - (intOf iv).toNat)
  case atStart => exact ⟨0, rfl, Nat.zero_le _, fun j hj => by omega, Ext.refl _⟩
  case round =>
    rename World => wr
    obtain ⟨k, rfl, hk, hall, hE⟩ := hrel
    have HALL := Lib.hid hall
    have HE := Lib.hid hE
    clear hall hE
    by_cases hlt : k < n
    · obtain ⟨c1, c2⟩ := HC.out k hlt
      have c1 := Ext.cell HE.out c1
      have c2 := Ext.cell HE.out c2
      have k1 := cell_lt c1
      obtain ⟨x, hx⟩ : ∃ x, x = (fromP ps k).1 := ⟨_, rfl⟩
      obtain ⟨y, hy⟩ : ∃ y, y = (fromP ps k).2 := ⟨_, rfl⟩
      rw [← hx] at c1
      rw [← hy] at c2
      have HX := Lib.hid hx
      have HY := Lib.hid hy
      clear hx hy
      have hkz : (k : Int) < (n : Int) := by omega
      go_wp2_with fail
      refine (good_c x y _).mono ?_
      rintro e w2 ⟨rfl, hE⟩
      have HE2 := Lib.hid (Ext.trans HE.out hE)
      clear hE c1 c2 k1
      cases hf : farB x y with
      | true =>
        have HF := Lib.hid (show ps.any farP = true from any_far (k := k) (by have := HN.out; omega) (by rw [← HX.out, ← HY.out]; exact hf))
        clear hf
        go_wp2_with fail
        go_ret2
        exact ⟨(show resV _ ps = _ from if_pos HF.out).symm, HE2.out⟩
      | false =>
        have HT := Lib.hid (show ∀ j, j < k + 1 → farB (fromP ps j).1 (fromP ps j).2 = false from fun j hj => by
          by_cases e : j = k
          · rw [e, ← HX.out, ← HY.out]; exact hf
          · exact HALL.out j (by omega))
        clear hf
        go_wp2_with fail
        exact ⟨⟨k + 1, by simp, by omega, HT.out, HE2.out⟩, by simp [intOf]; omega⟩
    · have hkz : ¬ (k : Int) < (n : Int) := by omega
      have HNF := Lib.hid (near_from (ps := ps) fun j hj => HALL.out j (by have := HN.out; omega))
      clear hlt
      have hn := HN.out
      by_cases h32 : 32 < n
      · have h32z : 32 < (n : Int) := by omega
        have HR := Lib.hid (show resV (.slice (some ⟨b, o, none⟩) n cap) ps = two (.slice none 0 0) (.int .i64 8) from by unfold resV; rw [if_neg (by rw [HNF.out]; decide), if_pos (by omega)])
        clear hn
        go_wp2_with fail
        go_ret2
        exact ⟨HR.out.symm, HE.out⟩
      · have h32z : ¬ 32 < (n : Int) := by omega
        have HR := Lib.hid (show resV (.slice (some ⟨b, o, none⟩) n cap) ps = two (.slice (some ⟨b, o, none⟩) n cap) (.int .i64 0) from by unfold resV; rw [if_neg (by rw [HNF.out]; decide), if_neg (by omega)])
        clear hn
        go_wp2_with fail
        go_ret2
        exact ⟨HR.out.symm, HE.out⟩

theorem wrap0_c (v : Value) (w : World) (hv : Vecs w v []) :
    Calls Try.prog 43 #[v] w fun e w' => e = .returned (.slice none 0 0) ∧ Ext w w' := by
  obtain ⟨a, cap, rfl, hl, hm, _⟩ := hv.at
  clear hv
  go_enter Try.func43, Try.ntmps43
  go_wp2_with fail
  go_ret
  exact ⟨rfl, Ext.refl _⟩
theorem wrap_in {ps : List Pt} {K : Nat} (h1 : 1 ≤ ps.length) (w : WrapEnd ps (lowK ps (ps.length - 1)) K) : ∀ k, wrapK ps (lowK ps (ps.length - 1)) k ∈ ps := by
  intro k
  induction k with
  | zero => exact (low_all h1).1
  | succ k ih =>
    show nextK ps (wrapK ps _ k) ps.length ∈ ps
    rcases next_mem (l := ps) (a := wrapK ps (lowK ps (ps.length - 1)) k) ps.length (Nat.le_refl _) with e | e
    · rw [e]; exact ih
    · exact e.1
/-- what the reference's Hull answers -/
def RHullS (ps : List Pt) (er : Int) (hs : List Pt) : Prop :=
  (200 < ps.length ∧ er = 3 ∧ hs = []) ∨ (ps.length ≤ 200 ∧ ps.any farP = true ∧ er = 2 ∧ hs = []) ∨
  (ps.length ≤ 200 ∧ ps.any farP = false ∧ ((ps = [] ∧ er = 10 ∧ hs = []) ∨ ∃ K, 1 ≤ ps.length ∧ WrapEnd ps (lowK ps (ps.length - 1)) K ∧
    ((K < 3 ∧ er = 10 ∧ hs = []) ∨ (3 ≤ K ∧ 32 < K ∧ er = 8 ∧ hs = []) ∨ (3 ≤ K ∧ K ≤ 32 ∧ er = 0 ∧ hs = wrapL ps (lowK ps (ps.length - 1)) K))))
set_option maxHeartbeats 4000000 in
theorem rHull_c (v : Value) (ps : List Pt) (w : World) (hv : Vecs w v ps) :
    Calls Try.prog 11 #[v] w fun e w' => ∃ r er hs, e = two r (.int .i64 er) ∧ RHullS ps er hs ∧ w'.ownsRow w.heap.size 32 2 r hs.length (cellsOf hs) ∧ Ext w w' := by
  by_cases h0 : ps = []
  · subst h0
    have HV := Lib.hid hv
    obtain ⟨a, cap, rfl, hl, hm, _⟩ := hv.at
    clear hv
    go_enter Try.func11, Try.ntmps11
    go_wp2_with fail
    go_loopw [4] (fun iv wr => iv = .int .i64 0 ∧ wr = w) (fun iv _ => 0)
    case atStart => exact ⟨rfl, rfl⟩
    case round =>
      rename World => wr
      obtain ⟨rfl, rfl⟩ := hrel
      go_wp2_with fail
      refine (wrap0_c _ _ HV.out).mono ?_
      rintro e w2 ⟨rfl, hE⟩
      have HE2 := Lib.hid hE
      clear hE
      go_wp2_with fail
      go_ret2
      exact ⟨_, 10, [], rfl, .inr (.inr ⟨by decide, rfl, .inl ⟨rfl, rfl, rfl⟩⟩), nil_own2 _ _, HE2.out⟩
  have h1 : 1 ≤ ps.length := by
    cases ps with
    | nil => exact absurd rfl h0
    | cons _ _ => simp
  have HV := Lib.hid hv
  obtain ⟨b, o, cap, rfl, hl, hm, hc⟩ := vecs_cells hv h1
  have HC := Lib.hid hc
  obtain ⟨n, hn⟩ : ∃ n, n = ps.length := ⟨_, rfl⟩
  rw [← hn] at HC hl h1 HV ⊢
  have HN := Lib.hid hn
  clear hv hc hn h0
  by_cases h2 : 200 < n
  · have h2z : 200 < (n : Int) := by omega
    go_enter Try.func11, Try.ntmps11
    go_wp2_with fail
    go_ret2
    exact ⟨_, 3, [], rfl, .inl ⟨by have := HN.out; omega, rfl, rfl⟩, nil_own2 _ _, Ext.refl _⟩
  have h2z : ¬ 200 < (n : Int) := by omega
  go_enter Try.func11, Try.ntmps11
  go_wp2_with fail
  clear h2z
  go_loopw [4] (fun iv wr => ∃ k : Nat, iv = .int .i64 (k : Int) ∧ k ≤ n ∧ (∀ j, j < k → farB (fromP ps j).1 (fromP ps j).2 = false) ∧ Ext w wr) (fun iv _ => n - (intOf iv).toNat)
  case atStart => exact ⟨0, rfl, Nat.zero_le _, fun j hj => by omega, Ext.refl _⟩
  case round =>
    rename World => wr
    obtain ⟨k, rfl, hk, hall, hE⟩ := hrel
    have HALL := Lib.hid hall
    have HE := Lib.hid hE
    clear hall hE
    by_cases hlt : k < n
    · obtain ⟨c1, c2⟩ := HC.out k hlt
      have c1 := Ext.cell HE.out c1
      have c2 := Ext.cell HE.out c2
      have k1 := cell_lt c1
      obtain ⟨x, hx⟩ : ∃ x, x = (fromP ps k).1 := ⟨_, rfl⟩
      obtain ⟨y, hy⟩ : ∃ y, y = (fromP ps k).2 := ⟨_, rfl⟩
      rw [← hx] at c1
      rw [← hy] at c2
      have HX := Lib.hid hx
      have HY := Lib.hid hy
      clear hx hy
      have hkz : (k : Int) < (n : Int) := by omega
      go_wp2_with fail
      refine (good_c x y _).mono ?_
      rintro e w2 ⟨rfl, hE⟩
      have HE2 := Lib.hid (Ext.trans HE.out hE)
      clear hE c1 c2 k1
      cases hf : farB x y with
      | true =>
        have HF := Lib.hid (show ps.any farP = true from any_far (k := k) (by have := HN.out; omega) (by rw [← HX.out, ← HY.out]; exact hf))
        clear hf
        go_wp2_with fail
        go_ret2
        exact ⟨_, 2, [], rfl, .inr (.inl ⟨by have := HN.out; omega, HF.out, rfl, rfl⟩), nil_own2 _ _, HE2.out⟩
      | false =>
        have HT := Lib.hid (show ∀ j, j < k + 1 → farB (fromP ps j).1 (fromP ps j).2 = false from fun j hj => by
          by_cases e : j = k
          · rw [e, ← HX.out, ← HY.out]; exact hf
          · exact HALL.out j (by omega))
        clear hf
        go_wp2_with fail
        exact ⟨⟨k + 1, by simp, by omega, HT.out, HE2.out⟩, by simp [intOf]; omega⟩
    · have hkz : ¬ (k : Int) < (n : Int) := by omega
      have HNF := Lib.hid (near_from (ps := ps) fun j hj => HALL.out j (by have := HN.out; omega))
      clear hlt
      go_wp2_with fail
      refine (wrap_c _ ps _ (HV.out.ext HE.out) (fun q hq => by have := near_of HNF.out q hq; omega) (by have := HN.out; omega) (by have := HN.out; omega)).mono ?_
      rintro e w2 ⟨r, K, rfl, hW, hO, hE⟩
      have HW := Lib.hid hW
      have hK := hW.max
      have hn := HN.out
      have HR := Lib.hid (vecs_own (base := wr.heap.size) (by rw [wrapL_len]; exact hO) (by rw [wrapL_len]; omega))
      have HO := Lib.hid (own_mono2 hO HE.out.size)
      have HE2 := Lib.hid (Ext.trans HE.out hE)
      have HP := Lib.hid (show 1 ≤ ps.length ∧ ps.length ≤ 200 by omega)
      obtain ⟨a3, c3, rfl⟩ := own_slice2 hO
      clear hE hO hW hn
      by_cases hk3 : K < 3
      · have hk3z : (K : Int) < 3 := by omega
        go_wp2_with fail
        go_ret2
        exact ⟨_, 10, [], rfl, .inr (.inr ⟨HP.out.2, HNF.out, .inr ⟨K, HP.out.1, HW.out, .inl ⟨hk3, rfl, rfl⟩⟩⟩), nil_own2 _ _, HE2.out⟩
      · have hk3z : ¬ (K : Int) < 3 := by omega
        go_wp2_with fail
        refine (result_c _ _ _ HR.out (by rw [wrapL_len]; omega)).mono ?_
        rintro e w3 ⟨rfl, hE⟩
        have HE3 := Lib.hid (Ext.trans HE2.out hE)
        have HR3 := Lib.hid (ownsRow_ext HO.out hE)
        have hnf : (wrapL ps (lowK ps (ps.length - 1)) K).any farP = false := by
          rw [Bool.eq_false_iff]
          intro h
          obtain ⟨q, hq, hf⟩ := List.any_eq_true.1 h
          obtain ⟨k, _, rfl⟩ := List.mem_map.1 hq
          have := List.any_eq_false.1 HNF.out _ (wrap_in HP.out.1 HW.out k)
          exact this hf
        clear hE
        by_cases h32 : 32 < K
        · rw [show resV (.slice a3 K c3) (wrapL ps (lowK ps (ps.length - 1)) K) = two (.slice none 0 0) (.int .i64 8) from by unfold resV; rw [if_neg (by rw [hnf]; decide), if_pos (by rw [wrapL_len]; exact h32)]]
          unfold two
          clear hnf
          go_wp2_with fail
          go_ret2
          exact ⟨_, 8, [], rfl, .inr (.inr ⟨HP.out.2, HNF.out, .inr ⟨K, HP.out.1, HW.out, .inr (.inl ⟨by omega, h32, rfl, rfl⟩)⟩⟩), nil_own2 _ _, HE3.out⟩
        · rw [show resV (.slice a3 K c3) (wrapL ps (lowK ps (ps.length - 1)) K) = two (.slice a3 K c3) (.int .i64 0) from by unfold resV; rw [if_neg (by rw [hnf]; decide), if_neg (by rw [wrapL_len]; exact h32)]]
          unfold two
          clear hnf
          go_wp2_with fail
          go_ret2
          exact ⟨_, 0, _, rfl, .inr (.inr ⟨HP.out.2, HNF.out, .inr ⟨K, HP.out.1, HW.out, .inr (.inr ⟨by omega, by omega, rfl, rfl⟩)⟩⟩), by rw [wrapL_len]; exact HR3.out, HE3.out⟩

end Go.Proofs.Ytbdppephmlkbaaa
