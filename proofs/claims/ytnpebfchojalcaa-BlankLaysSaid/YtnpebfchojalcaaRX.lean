import Derived.Test.YtnpebfchojalcaaR19
import Derived.Test.YtnpebfchojalcaaMY
import Derived.Test.YtnpebfchojalcaaV14
import Derived.Laws.StructEq
namespace Go.Proofs.Ytnpebfchojalcaa
set_option maxRecDepth 100000
open Go.RowKit Go.Shelf
attribute [local go_sem] Oper.semAt_some
/-! The reference's place. -/
/-! The reference's area. -/
theorem twi_tri (a b z : Pt) : twiZ a.1 a.2 b.1 b.2 z.1 z.2 = triP a b z := rfl
theorem twi_side (ps : List Pt) (z : Pt) (k : Nat) : twiZ (fromP ps k).1 (fromP ps k).2 (toP ps k).1 (toP ps k).2 z.1 z.2 = sideK ps z.1 z.2 k := tri_side ps z k
set_option maxHeartbeats 4000000 in
theorem rplace_l (v : Value) (ps : List Pt) (x y : Int) (w : World) (hv : Vecs w v ps) (hn : nearF ps) (h3 : 3 ≤ ps.length) (h32 : ps.length ≤ 64) (hxy : -10000 ≤ x ∧ x ≤ 10000 ∧ -10000 ≤ y ∧ y ≤ 10000) :
    Calls Try.prog 131 #[v, vecV x y] w fun e w' => e = .returned (.int .i64 (placeZ ps x y)) ∧ Ext w w' := by
  obtain ⟨b, o, cap, rfl, hl, hm, hc⟩ := vecs_cells hv (by omega)
  have HC := Lib.hid hc
  have HNR := Lib.hid (fun (k : Nat) (hk : k < ps.length) => from_nearF hn hk)
  have HE1 := Lib.hid (Ext.alloc (Ext.refl w) (.cells #[.int .i64 x, .int .i64 y] 31))
  have HV1 := Lib.hid (show VRow (w.alloc (.cells #[.int .i64 x, .int .i64 y] 31)) _ _ _ from vrow_alloc w [.int .i64 x, .int .i64 y] 31)
  obtain ⟨n, hnn⟩ : ∃ n, n = ps.length := ⟨_, rfl⟩
  have hn3 : 3 ≤ n ∧ n ≤ 64 := by omega
  have HFIN := Lib.hid (show placeK ps x y n = placeZ ps x y from by rw [hnn]; rfl)
  rw [← hnn] at HC HNR hl ⊢
  have HN := Lib.hid hnn
  clear hv hc hn h3 h32 hnn
  go_enter Try.func131, Try.ntmps131
  go_wp2_with fail
  obtain ⟨g, hg⟩ : ∃ g, g = w.heap.size := ⟨_, rfl⟩
  rw [← hg] at HV1 ⊢
  obtain ⟨w1, hw1⟩ : ∃ w1, w1 = w.alloc (.cells #[.int .i64 x, .int .i64 y] 31) := ⟨_, rfl⟩
  rw [← hw1] at HV1 HE1 ⊢
  clear hg hw1
  go_loopw [6, 5] (fun iv sv wr => ∃ i : Nat, iv = .int .i64 (i : Int) ∧ i ≤ n ∧ sv = .int .i64 (placeK ps x y i) ∧ (∀ q, q < i → 0 ≤ sideK ps x y q) ∧ Ext w1 wr) (fun iv _ _ => n - (intOf iv).toNat)
  case atStart => exact ⟨0, rfl, Nat.zero_le _, rfl, fun q hq => by omega, Ext.refl _⟩
  case round =>
    rename World => wr
    obtain ⟨i, rfl, hi, rfl, hall, hE⟩ := hrel
    have HALL := Lib.hid hall
    have HE := Lib.hid (Ext.trans HE1.out hE)
    have HEw := Lib.hid hE
    have HV := Lib.hid (VRow.ext HV1.out hE)
    clear hall hE
    by_cases hil : i < n
    · obtain ⟨j, hj⟩ : ∃ j, j = (i + 1) % n := ⟨_, rfl⟩
      have hjn : j < n := by rw [hj]; exact Nat.mod_lt _ (by omega)
      have hjm : ((i : Int) + 1) % (n : Int) = (j : Int) := by rw [hj, Int.natCast_emod, Int.natCast_add]; rfl
      have hjt : ((i : Int) + 1).tmod (n : Int) = (j : Int) := by rw [Int.tmod_eq_emod_of_nonneg (by omega)]; exact hjm
      have hjw : IntKind.i64.wrap (j : Int) = (j : Int) := IntWalk.i64_in _ (by omega)
      have hnz : ¬ n = 0 := by omega
      obtain ⟨c1, c2⟩ := HC.out i hil
      obtain ⟨c3, c4⟩ := HC.out j hjn
      have b0 := HNR.out i hil
      have b1 := HNR.out j hjn
      have HTS := Lib.hid (show twiZ (fromP ps i).1 (fromP ps i).2 (fromP ps j).1 (fromP ps j).2 x y = sideK ps x y i from by
        have h := twi_side ps (x, y) i
        rw [to_from, show (i + 1) % ps.length = j by rw [← HN.out, hj]] at h
        exact h)
      have HPS := Lib.hid (show placeK ps x y (i + 1) = min (placeK ps x y i) (sgnZ (sideK ps x y i) 0) from rfl)
      have HPK := Lib.hid (show 0 ≤ placeK ps x y i ∧ placeK ps x y i ≤ 1 from by
        have h := placeK_bd ps x y i
        refine ⟨?_, h.2⟩
        rcases Int.lt_or_le (placeK ps x y i) 0 with hneg | hpos
        · obtain ⟨q, hq, h2⟩ := (placeK_neg ps x y i).1 hneg
          have := HALL.out q hq
          omega
        · exact hpos)
      obtain ⟨T, hT⟩ : ∃ T, T = sideK ps x y i := ⟨_, rfl⟩
      rw [← hT] at HTS
      have HT := Lib.hid hT
      have HTW := Lib.hid (fun W => twice_c (fromP ps i).1 (fromP ps i).2 (fromP ps j).1 (fromP ps j).2 x y W (by omega) (by omega) (by omega) (by omega) (by omega) (by omega))
      rw [HTS.out] at HTW
      clear hT b0 b1 HTS hj
      generalize (fromP ps i).1 = x0 at *
      generalize (fromP ps i).2 = y0 at *
      generalize (fromP ps j).1 = x1 at *
      generalize (fromP ps j).2 = y1 at *
      have C1 := Lib.hid (Ext.cell HE.out c1)
      have C2 := Lib.hid (Ext.cell HE.out c2)
      have C3 := Lib.hid (Ext.cell HE.out c3)
      have C4 := Lib.hid (Ext.cell HE.out c4)
      have hilz : (i : Int) < (n : Int) := by omega
      have hi1 : IntKind.i64.wrap ((i : Int) + 1) = (i : Int) + 1 := IntWalk.i64_in _ (by omega)
      clear c1 c2 c3 c4
      go_wp2_with fail
      refine wp_region_stable_last [⟨[], none⟩, ⟨[], none⟩, ⟨[(0, 14), (1, 15)], none⟩, ⟨[(2, 16)], none⟩, ⟨[], none⟩, ⟨[], none⟩, ⟨[(5, 19)], none⟩, ⟨[], none⟩, ⟨[(7, 21)], none⟩, ⟨[(6, 20), (8, 22)], none⟩, ⟨[(4, 18), (9, 23)], none⟩, ⟨[(10, 24)], none⟩, ⟨[], none⟩, ⟨[(3, 17), (11, 25), (12, 26)], none⟩] (fun x y => Below x.heap.size x y) (MPat [MP.eq (.slice (some ⟨b, o, none⟩) n cap), MP.eq (.int .i64 (i : Int)), MP.eq (.pointer (some ⟨b, o + i * 2, none⟩)), MP.eq (vecV x0 y0), MP.eq (.slice (some ⟨b, o, none⟩) n cap), MP.eq (.int .i64 (i : Int)), MP.eq (.int .i64 ((i : Int) + 1)), MP.eq (.slice (some ⟨b, o, none⟩) n cap), MP.eq (.int .i64 (n : Int)), MP.eq (.int .i64 (j : Int)), MP.eq (.pointer (some ⟨b, o + j * 2, none⟩)), MP.eq (vecV x1 y1), MP.eq (vecV x y), MP.eq (.int .i64 T)]) rfl (by kernel_rfl) (fun _ _ _ h k => Ext.trans h k) (fun _ => Below.refl _ _) (fun x => (Below.refl x.heap.size x).drew) (MPat.mono _) (by kernel_rfl) (by kernel_rfl) (by kernel_rfl) ?obs ?rest
      case obs =>
        refine ⟨?_, ?_, ?_, ?_, ?_, ?_, ?_, ?_, ?_, ?_, ?_, ?_, ?_, ?_, trivial⟩
        · intro ev W hf _ _ hst hd
          have e0 : ev (.tmp 0) = .slice (some ⟨b, o, none⟩) n cap := hf 0 (by kernel_rfl)
          exact st_value (v := .slice (some ⟨b, o, none⟩) n cap) (by simp [execOp, go_sem, e0]) (Below.refl _ _) rfl
        · intro ev W hf _ _ hst hd
          have e6 : ev (.tmp 6) = .int .i64 (i : Int) := hf 6 (by kernel_rfl)
          exact st_value (v := .int .i64 (i : Int)) (by simp [execOp, go_sem, e6]) (Below.refl _ _) rfl
        · rintro ev W hf _ _ hst ⟨d14, d15, _⟩
          have e14 : ev (.tmp 14) = .slice (some ⟨b, o, none⟩) n cap := d14
          have e15 : ev (.tmp 15) = .int .i64 (i : Int) := d15
          exact st_value (v := .pointer (some ⟨b, o + i * 2, none⟩)) (by simp [execOp, go_sem, e14, e15, hil]) (Below.refl _ _) rfl
        · rintro ev W hf _ _ hst ⟨d16, _⟩
          have e16 : ev (.tmp 16) = .pointer (some ⟨b, o + i * 2, none⟩) := d16
          have q0 := Ext.cell hst C1.out
          have q1 := Ext.cell hst C2.out
          exact st_value (v := vecV x0 y0) (by simp [execOp, go_sem, e16, q0, q1, vecV]) (Below.refl _ _) rfl
        · intro ev W hf _ _ hst hd
          have e0 : ev (.tmp 0) = .slice (some ⟨b, o, none⟩) n cap := hf 0 (by kernel_rfl)
          exact st_value (v := .slice (some ⟨b, o, none⟩) n cap) (by simp [execOp, go_sem, e0]) (Below.refl _ _) rfl
        · intro ev W hf _ _ hst hd
          have e6 : ev (.tmp 6) = .int .i64 (i : Int) := hf 6 (by kernel_rfl)
          exact st_value (v := .int .i64 (i : Int)) (by simp [execOp, go_sem, e6]) (Below.refl _ _) rfl
        · rintro ev W hf hcst _ hst ⟨d19, _⟩
          have e19 : ev (.tmp 19) = .int .i64 (i : Int) := d19
          exact st_value (v := .int .i64 ((i : Int) + 1)) (by simp [execOp, go_sem, e19, hcst, hi1]) (Below.refl _ _) rfl
        · intro ev W hf _ _ hst hd
          have e0 : ev (.tmp 0) = .slice (some ⟨b, o, none⟩) n cap := hf 0 (by kernel_rfl)
          exact st_value (v := .slice (some ⟨b, o, none⟩) n cap) (by simp [execOp, go_sem, e0]) (Below.refl _ _) rfl
        · rintro ev W hf _ _ hst ⟨d21, _⟩
          have e21 : ev (.tmp 21) = .slice (some ⟨b, o, none⟩) n cap := d21
          exact st_value (v := .int .i64 (n : Int)) (by simp [execOp, go_sem, e21]) (Below.refl _ _) rfl
        · rintro ev W hf _ _ hst ⟨d20, d22, _⟩
          have e20 : ev (.tmp 20) = .int .i64 ((i : Int) + 1) := d20
          have e22 : ev (.tmp 22) = .int .i64 (n : Int) := d22
          exact st_value (v := .int .i64 (j : Int)) (by simp [execOp, go_sem, e20, e22, hnz, hjm, hjt, hjw]) (Below.refl _ _) rfl
        · rintro ev W hf _ _ hst ⟨d18, d23, _⟩
          have e18 : ev (.tmp 18) = .slice (some ⟨b, o, none⟩) n cap := d18
          have e23 : ev (.tmp 23) = .int .i64 (j : Int) := d23
          exact st_value (v := .pointer (some ⟨b, o + j * 2, none⟩)) (by simp [execOp, go_sem, e18, e23, hjn]) (Below.refl _ _) rfl
        · rintro ev W hf _ _ hst ⟨d24, _⟩
          have e24 : ev (.tmp 24) = .pointer (some ⟨b, o + j * 2, none⟩) := d24
          have q0 := Ext.cell hst C3.out
          have q1 := Ext.cell hst C4.out
          exact st_value (v := vecV x1 y1) (by simp [execOp, go_sem, e24, q0, q1, vecV]) (Below.refl _ _) rfl
        · intro ev W hf _ _ hst hd
          have e3 : ev (.tmp 3) = .pointer (some ⟨g, 0, none⟩) := hf 3 (by kernel_rfl)
          have q0 := VRow.cell (VRow.ext HV.out hst) (k := 0) rfl
          have q1 := VRow.cell (VRow.ext HV.out hst) (k := 1) rfl
          exact st_value (v := vecV x y) (by simp [execOp, go_sem, e3, q0, q1, vecV]) (Below.refl _ _) rfl
        · rintro ev W hf _ hfn hst ⟨d17, d25, d26, _⟩
          have e17 : ev (.tmp 17) = vecV x0 y0 := d17
          have e25 : ev (.tmp 25) = vecV x1 y1 := d25
          have e26 : ev (.tmp 26) = vecV x y := d26
          refine st_call (f := 118) (args := #[vecV x0 y0, vecV x1 y1, vecV x y]) (by simp [execOp, go_sem, hfn, e17, e25, e26]) (HTW.out W) (fun _ _ => rfl)
      case rest =>
        intro vs w3 hl hst hg
        have HE3 := Lib.hid hst
        have hvs : vs = [.slice (some ⟨b, o, none⟩) n cap, .int .i64 (i : Int), .pointer (some ⟨b, o + i * 2, none⟩), vecV x0 y0, .slice (some ⟨b, o, none⟩) n cap, .int .i64 (i : Int), .int .i64 ((i : Int) + 1), .slice (some ⟨b, o, none⟩) n cap, .int .i64 (n : Int), .int .i64 (j : Int), .pointer (some ⟨b, o + j * 2, none⟩), vecV x1 y1, vecV x y, .int .i64 T] := vs_all hl hg
        clear hg hst hl
        subst hvs
        simp only [putAll, Act.put, List.dropLast, List.setIfInBounds_toArray, List.set_cons_zero, List.set_cons_succ]
        rcases Int.lt_trichotomy T 0 with hT | hT | hT
        · have HF := Lib.hid (show placeZ ps x y = -1 from place_out (k := i) (by have := HN.out; omega) (by rw [← HT.out]; exact hT))
          go_wp2_with fail
          go_ret
          exact ⟨ret_int HF.out.symm, Ext.trans HE.out HE3.out⟩
        · subst hT
          have HS := Lib.hid (show placeK ps x y (i + 1) = 0 from by
            have h1 := HPS.out
            rw [← HT.out] at h1
            rw [h1, show sgnZ 0 0 = 0 from rfl]
            have h2 := HPK.out
            omega)
          have HA := Lib.hid (show ∀ q, q < i + 1 → 0 ≤ sideK ps x y q from fun q hq => by
            by_cases e : q = i
            · rw [e, ← HT.out]; exact Int.le_refl _
            · exact HALL.out q (by omega))
          have h00 : (0 == (0 : Int)) = true := rfl
          go_wp2_with fail
          exact ⟨⟨i + 1, by simp, by omega, by rw [HS.out], HA.out, Ext.trans HEw.out HE3.out⟩, by simp [intOf]; omega⟩
        · have HS := Lib.hid (show placeK ps x y (i + 1) = placeK ps x y i from by
            have h1 := HPS.out
            rw [← HT.out] at h1
            rw [h1]
            have h3 : sgnZ T 0 = 1 := by unfold sgnZ; rw [if_neg (by omega), if_pos (by omega)]
            rw [h3]
            have h2 := HPK.out
            omega)
          have HA := Lib.hid (show ∀ q, q < i + 1 → 0 ≤ sideK ps x y q from fun q hq => by
            by_cases e : q = i
            · rw [e, ← HT.out]; omega
            · exact HALL.out q (by omega))
          have hT0 : (T == 0) = false := beq_eq_false_iff_ne.2 (by omega)
          have hTn : ¬ T < 0 := by omega
          go_wp2_with fail
          exact ⟨⟨i + 1, by simp, by omega, by rw [HS.out], HA.out, Ext.trans HEw.out HE3.out⟩, by simp [intOf]; omega⟩
    · have hilz : ¬ (i : Int) < (n : Int) := by omega
      have hin : i = n := by omega
      have HIN := Lib.hid hin
      clear hin
      go_wp2_with fail
      go_ret
      exact ⟨ret_int (by rw [HIN.out, HFIN.out]), HE.out⟩
end Go.Proofs.Ytnpebfchojalcaa

namespace Go.Proofs.Ytnpebfchojalcaa
set_option maxRecDepth 100000
open Go.RowKit Go.Shelf
attribute [local go_sem] Oper.semAt_some
/-! The reference's wrapping. -/
set_option maxHeartbeats 1000000 in
theorem rfar_c (a b c d : Int) (w : World) (ha : -10000 ≤ a ∧ a ≤ 10000) (hb : -10000 ≤ b ∧ b ≤ 10000) (hc : -10000 ≤ c ∧ c ≤ 10000) (hd : -10000 ≤ d ∧ d ≤ 10000) :
    Calls Try.prog 150 #[vecV a b, vecV c d] w fun e w' => e = .returned (.int .i64 (farZ (a, b) (c, d))) ∧ Ext w w' := by
  have m1 := mul_20 (a := a - c) (b := a - c) (by omega) (by omega)
  have m2 := mul_20 (a := b - d) (b := b - d) (by omega) (by omega)
  have e1 : wrap64 (a - c) = a - c := by unfold wrap64; omega
  have e2 : wrap64 (b - d) = b - d := by unfold wrap64; omega
  have e3 : wrap64 ((a - c) * (a - c)) = (a - c) * (a - c) := by unfold wrap64; omega
  have e4 : wrap64 ((b - d) * (b - d)) = (b - d) * (b - d) := by unfold wrap64; omega
  have e5 : wrap64 ((a - c) * (a - c) + (b - d) * (b - d)) = (a - c) * (a - c) + (b - d) * (b - d) := by unfold wrap64; omega
  clear ha hb hc hd m1 m2
  go_enter Try.func150, Try.ntmps150
  go_wp2
  all_goals go_ret
  all_goals exact ⟨ret_int (by first | rfl | simp [farZ, e1, e2, e3, e4, e5]), by (repeat' (first | exact Below.refl _ _ | refine Below.drew ?_ | refine Below.alloc ?_ (by simp <;> omega) _ | refine Below.setCell ?_ (by simp <;> omega) _))⟩
theorem veq_t (a b : Int) (w : World) : Sem.run Try.prog (binOp .eql 31 (.agg #[.int .i64 a, .int .i64 b]) (.agg #[.int .i64 a, .int .i64 b])) w = .ok (.bool true) w := by
  simp [go_sem]
theorem veq_f (a b c d : Int) (h : ¬ (a = c ∧ b = d)) (w : World) : Sem.run Try.prog (binOp .eql 31 (.agg #[.int .i64 a, .int .i64 b]) (.agg #[.int .i64 c, .int .i64 d])) w = .ok (.bool false) w := by
  by_cases hx : a = c
  · subst hx
    have hy : (b == d) = false := beq_eq_false_iff_ne.2 (fun e => h ⟨rfl, e⟩)
    simp [go_sem, hy]
  · have hx : (a == c) = false := beq_eq_false_iff_ne.2 hx
    simp [go_sem, hx]
theorem pt_ne {p q : Pt} (h : p ≠ q) : ¬ (p.1 = q.1 ∧ p.2 = q.2) := fun e => h (Prod.ext e.1 e.2)
theorem next_bd {l : List Pt} {a : Pt} {L : Int} (hb : ∀ q, q ∈ l → (-L ≤ q.1 ∧ q.1 ≤ L) ∧ (-L ≤ q.2 ∧ q.2 ≤ L)) (ha : (-L ≤ a.1 ∧ a.1 ≤ L) ∧ (-L ≤ a.2 ∧ a.2 ≤ L)) {i : Nat} (hi : i ≤ l.length) : (-L ≤ (nextK l a i).1 ∧ (nextK l a i).1 ≤ L) ∧ (-L ≤ (nextK l a i).2 ∧ (nextK l a i).2 ≤ L) := by
  rcases next_mem (l := l) (a := a) i hi with h | ⟨h, _⟩
  · rw [h]; exact ha
  · exact hb _ h
end Go.Proofs.Ytnpebfchojalcaa

namespace Go.Proofs.Ytnpebfchojalcaa
set_option maxRecDepth 100000
open Go.RowKit Go.Shelf
attribute [local go_sem] Oper.semAt_some
/-! The reference's wrapping. -/

def lenOf : Value → Nat
  | .slice _ n _ => n
  | _ => 0
theorem own_mono2 {w : World} {base c n : Nat} {v : Value} {xs : List Value} (h : w.ownsRow base 31 2 v n xs) (hc : c ≤ base) : w.ownsRow c 31 2 v n xs := by
  refine ⟨h.1, ?_⟩
  rcases h.2 with h | ⟨g, cap, cur, hv, hb, r⟩
  · exact .inl h
  · exact .inr ⟨g, cap, cur, hv, by omega, r⟩
theorem own_slice2 {w : World} {base : Nat} {e : TypeId} {sz n : Nat} {v : Value} {xs : List Value} (h : w.ownsRow base e sz v n xs) : ∃ a cap, v = .slice a n cap := by
  rcases h.2 with ⟨h, h0⟩ | ⟨g', cap, cur, hv, _⟩
  · exact ⟨none, 0, by rw [h, h0]⟩
  · exact ⟨_, _, hv⟩
theorem wrapL_len (l : List Pt) (a : Pt) (K : Nat) : (wrapL l a K).length = K := by simp [wrapL]
theorem wrapL_at (l : List Pt) (a : Pt) {K i : Nat} (hi : i < K) : fromP (wrapL l a K) i = wrapK l a i := by
  unfold fromP wrapL
  rw [List.getD_eq_getElem?_getD, List.getElem?_map, List.getElem?_range hi]; rfl
theorem wrapK_bd {l : List Pt} {a : Pt} {L : Int} (hb : ∀ q, q ∈ l → (-L ≤ q.1 ∧ q.1 ≤ L) ∧ (-L ≤ q.2 ∧ q.2 ≤ L)) (ha : (-L ≤ a.1 ∧ a.1 ≤ L) ∧ (-L ≤ a.2 ∧ a.2 ≤ L)) : ∀ k, (-L ≤ (wrapK l a k).1 ∧ (wrapK l a k).1 ≤ L) ∧ (-L ≤ (wrapK l a k).2 ∧ (wrapK l a k).2 ≤ L) := by
  intro k
  induction k with
  | zero => exact ha
  | succ k ih => exact next_bd hb ih (Nat.le_refl _)
set_option maxHeartbeats 16000000 in
theorem wrap_c (v : Value) (ps : List Pt) (w : World) (hv : Vecs w v ps) (hb : ∀ q, q ∈ ps → (-4000 ≤ q.1 ∧ q.1 ≤ 4000) ∧ (-4000 ≤ q.2 ∧ q.2 ≤ 4000)) (h1 : 1 ≤ ps.length) (h2 : ps.length ≤ 2000) :
    Calls Try.prog 144 #[v] w fun e w' => ∃ r K, e = .returned r ∧ WrapEnd ps (lowK ps (ps.length - 1)) K ∧ w'.ownsRow w.heap.size 31 2 r K (cellsOf (wrapL ps (lowK ps (ps.length - 1)) K)) ∧ Ext w w' := by
  obtain ⟨b, o, cap, rfl, hl, hm, hc⟩ := vecs_cells hv h1
  have HC := Lib.hid hc
  have HPB := Lib.hid (fun (k : Nat) (hk : k < ps.length) => hb _ (from_in hk))
  have HLB := Lib.hid (fun (k : Nat) (hk : k < ps.length) => hb _ (low_least k hk).1)
  have HWB := Lib.hid (wrapK_bd hb (hb _ (low_all h1).1))
  have HNB0 := Lib.hid (fun (x : Pt) (hx : (-4000 ≤ x.1 ∧ x.1 ≤ 4000) ∧ (-4000 ≤ x.2 ∧ x.2 ≤ 4000)) (i : Nat) (hi : i ≤ ps.length) => next_bd hb hx hi)
  obtain ⟨i0, hi0, hz0, hz1, hz2⟩ := info_parts info31
  have HI := Lib.hid hi0
  have HZ0 := Lib.hid hz0
  have HZ1 := Lib.hid hz1
  have HZ2 := Lib.hid hz2
  obtain ⟨n, hnn⟩ : ∃ n, n = ps.length := ⟨_, rfl⟩
  have hn : 1 ≤ n ∧ n ≤ 2000 := by omega
  rw [← hnn] at HC HPB HLB HWB HNB0 hl ⊢
  have HN := Lib.hid hnn
  clear hv hc hb h1 h2 hnn hi0 hz0 hz1 hz2
  obtain ⟨a, ha⟩ : ∃ a, a = lowK ps (n - 1) := ⟨_, rfl⟩
  rw [← ha] at HWB ⊢
  have HAL := Lib.hid ha
  clear ha
  have hzn : ((n : Int) == 0) = false := beq_eq_false_iff_ne.2 (by omega)
  have hn0 : 0 < n := by omega
  obtain ⟨c1, c2⟩ := HC.out 0 (by omega)
  rw [Nat.zero_mul, Nat.add_zero] at c1 c2
  obtain ⟨x0, hx0⟩ : ∃ x, x = (fromP ps 0).1 := ⟨_, rfl⟩
  obtain ⟨y0, hy0⟩ : ∃ x, x = (fromP ps 0).2 := ⟨_, rfl⟩
  rw [← hx0] at c1
  rw [← hy0] at c2
  have HX0 := Lib.hid hx0
  have HY0 := Lib.hid hy0
  clear hx0 hy0
  have HV0 := Lib.hid (show VRow (w.alloc (.cells #[.int .i64 x0, .int .i64 y0] 31)) _ _ _ from vrow_alloc w [.int .i64 x0, .int .i64 y0] 31)
  have HE0 := Lib.hid (Ext.alloc (Ext.refl w) (.cells #[.int .i64 x0, .int .i64 y0] 31))
  go_enter Try.func144, Try.ntmps144
  go_wp2_with fail
  clear c1 c2 hzn
  obtain ⟨g, hg⟩ : ∃ g, g = w.heap.size := ⟨_, rfl⟩
  rw [← hg] at HV0 ⊢
  have HG := Lib.hid hg
  clear hg
  generalize w.alloc (.cells #[.int .i64 x0, .int .i64 y0] 31) = w0 at *
  go_loopw [4] (fun iv wr => ∃ i : Nat, iv = .int .i64 ((i : Int) + 1) ∧ i + 1 ≤ n ∧ VRow wr g 31 [.int .i64 (lowK ps i).1, .int .i64 (lowK ps i).2] ∧ Ext w wr) (fun iv _ => n + 1 - (intOf iv).toNat)
  case atStart => exact ⟨0, rfl, by omega, by show VRow w0 g 31 [.int .i64 (fromP ps 0).1, .int .i64 (fromP ps 0).2]; rw [← HX0.out, ← HY0.out]; exact HV0.out, HE0.out⟩
  case round =>
    rename World => wr
    obtain ⟨i, rfl, hi, hV, hE⟩ := hrel
    have HV := Lib.hid hV
    have HE := Lib.hid hE
    clear hV hE
    have HGS := Lib.hid (show g < wr.heap.size from VRow.lt HV.out)
    by_cases hil : i + 1 < n
    · obtain ⟨c1, c2⟩ := HC.out (i + 1) hil
      have C1 := Lib.hid (Ext.cell HE.out c1)
      have C2 := Lib.hid (Ext.cell HE.out c2)
      have HLS := Lib.hid (show lowK ps (i + 1) = if (fromP ps (i + 1)).2 < (lowK ps i).2 ∨ ((fromP ps (i + 1)).2 = (lowK ps i).2 ∧ (fromP ps (i + 1)).1 < (lowK ps i).1) then fromP ps (i + 1) else lowK ps i from rfl)
      have hi1a : (i : Int) + 1 < (n : Int) := by omega
      have hi1b : ¬ (i : Int) + 1 < 0 := by omega
      obtain ⟨q, hq⟩ : ∃ q, q = fromP ps (i + 1) := ⟨_, rfl⟩
      obtain ⟨l, hl2⟩ : ∃ l, l = lowK ps i := ⟨_, rfl⟩
      rw [← hq] at C1 C2 HLS
      rw [← hl2] at HV HLS
      clear hq hl2 c1 c2
      have HLW := Lib.hid (fun W => lower_c q.1 q.2 l.1 l.2 W)
      cases hlb : lowB q.1 q.2 l.1 l.2 with
      | true =>
        have HS := Lib.hid (show (lowK ps (i + 1)).1 = q.1 ∧ (lowK ps (i + 1)).2 = q.2 from by
          rw [HLS.out, if_pos (show q.2 < l.2 ∨ (q.2 = l.2 ∧ q.1 < l.1) from by simpa [lowB] using hlb)]; exact ⟨rfl, rfl⟩)
        rw [hlb] at HLW
        clear hlb HLS
        generalize q.1 = qx at *
        generalize q.2 = qy at *
        generalize l.1 = lx at *
        generalize l.2 = ly at *
        go_wp2_with fail
        refine wp_region_stable [⟨[], none⟩, ⟨[], none⟩, ⟨[(0, 22), (1, 23)], none⟩, ⟨[(2, 24)], none⟩, ⟨[], none⟩, ⟨[(3, 25), (4, 26)], none⟩] (fun x y => Below x.heap.size x y) (MPat [MP.eq (.slice (some ⟨b, o, none⟩) n cap), MP.eq (.int .i64 ((i : Int) + 1)), MP.eq (.pointer (some ⟨b, o + (i + 1) * 2, none⟩)), MP.eq (vecV qx qy), MP.eq (vecV lx ly), MP.eq (.bool true)]) (by kernel_rfl) (fun _ _ _ h k => Ext.trans h k) (fun _ => Below.refl _ _) (fun x => (Below.refl x.heap.size x).drew) (MPat.mono _) (by kernel_rfl) ?obs ?rest
        case obs =>
          refine ⟨?_, ?_, ?_, ?_, ?_, ?_, trivial⟩
          · intro ev W hf _ _ hst hd
            have e0 : ev (.tmp 0) = .slice (some ⟨b, o, none⟩) n cap := hf 0 (by kernel_rfl)
            exact st_value (v := .slice (some ⟨b, o, none⟩) n cap) (by simp [execOp, go_sem, e0]) (Below.refl _ _) rfl
          · intro ev W hf _ _ hst hd
            have e4 : ev (.tmp 4) = .int .i64 ((i : Int) + 1) := hf 4 (by kernel_rfl)
            exact st_value (v := .int .i64 ((i : Int) + 1)) (by simp [execOp, go_sem, e4]) (Below.refl _ _) rfl
          · rintro ev W hf _ _ hst ⟨d22, d23, _⟩
            have e22 : ev (.tmp 22) = .slice (some ⟨b, o, none⟩) n cap := d22
            have e23 : ev (.tmp 23) = .int .i64 ((i : Int) + 1) := d23
            exact st_value (v := .pointer (some ⟨b, o + (i + 1) * 2, none⟩)) (by simp [execOp, go_sem, e22, e23, hi1a, hi1b]) (Below.refl _ _) rfl
          · rintro ev W hf _ _ hst ⟨d24, _⟩
            have e24 : ev (.tmp 24) = .pointer (some ⟨b, o + (i + 1) * 2, none⟩) := d24
            have q0 := Ext.cell hst C1.out
            have q1 := Ext.cell hst C2.out
            exact st_value (v := vecV qx qy) (by simp [execOp, go_sem, e24, q0, q1, vecV]) (Below.refl _ _) rfl
          · intro ev W hf _ _ hst hd
            have e3 : ev (.tmp 3) = .pointer (some ⟨g, 0, none⟩) := hf 3 (by kernel_rfl)
            have q0 := VRow.cell (VRow.ext HV.out hst) (k := 0) rfl
            have q1 := VRow.cell (VRow.ext HV.out hst) (k := 1) rfl
            exact st_value (v := vecV lx ly) (by simp [execOp, go_sem, e3, q0, q1, vecV]) (Below.refl _ _) rfl
          · rintro ev W hf _ hfn hst ⟨d25, d26, _⟩
            have e25 : ev (.tmp 25) = vecV qx qy := d25
            have e26 : ev (.tmp 26) = vecV lx ly := d26
            refine st_call (f := 117) (args := #[vecV qx qy, vecV lx ly]) (by simp [execOp, go_sem, hfn, e25, e26]) (HLW.out W) (fun _ _ => rfl)
        case rest =>
          intro vs w3 hl hst hg
          have HE3 := Lib.hid hst
          have hvs : vs = [.slice (some ⟨b, o, none⟩) n cap, .int .i64 ((i : Int) + 1), .pointer (some ⟨b, o + (i + 1) * 2, none⟩), vecV qx qy, vecV lx ly, .bool true] := vs_all hl hg
          clear hg hst hl
          subst hvs
          simp only [putAll, Act.put, List.dropLast, List.setIfInBounds_toArray, List.set_cons_zero, List.set_cons_succ]
          have HE4 := Lib.hid (Ext.trans HE.out HE3.out)
          have c1 := Ext.cell HE3.out C1.out
          have c2 := Ext.cell HE3.out C2.out
          have k1 := cell_lt c1
          have HVx := Lib.hid (VRow.ext HV.out HE3.out)
          have n0 := VRow.cell HVx.out (k := 0) rfl
          have n1 := VRow.cell HVx.out (k := 1) rfl
          have f0 := VRow.frozen HVx.out 0 none
          have f1 := VRow.frozen HVx.out 1 none
          have HP := Lib.hid (vec_put HE4.out HVx.out (Nat.le_of_eq HG.out.symm) (.int .i64 qx) (.int .i64 qy))
          clear HE3
          go_wp2_with fail
          exact ⟨⟨i + 1, by simp, by omega, by rw [HS.out.1, HS.out.2]; exact HP.out.1, HP.out.2⟩, by simp [intOf]; omega⟩
      | false =>
        have hnl : ¬ (q.2 < l.2 ∨ (q.2 = l.2 ∧ q.1 < l.1)) := fun h => by
          have h2 : lowB q.1 q.2 l.1 l.2 = true := by simpa [lowB] using h
          rw [hlb] at h2
          cases h2
        have HS := Lib.hid (show (lowK ps (i + 1)).1 = l.1 ∧ (lowK ps (i + 1)).2 = l.2 from by rw [HLS.out, if_neg hnl]; exact ⟨rfl, rfl⟩)
        clear hnl
        rw [hlb] at HLW
        clear hlb HLS
        generalize q.1 = qx at *
        generalize q.2 = qy at *
        generalize l.1 = lx at *
        generalize l.2 = ly at *
        go_wp2_with fail
        refine wp_region_stable [⟨[], none⟩, ⟨[], none⟩, ⟨[(0, 22), (1, 23)], none⟩, ⟨[(2, 24)], none⟩, ⟨[], none⟩, ⟨[(3, 25), (4, 26)], none⟩] (fun x y => Below x.heap.size x y) (MPat [MP.eq (.slice (some ⟨b, o, none⟩) n cap), MP.eq (.int .i64 ((i : Int) + 1)), MP.eq (.pointer (some ⟨b, o + (i + 1) * 2, none⟩)), MP.eq (vecV qx qy), MP.eq (vecV lx ly), MP.eq (.bool false)]) (by kernel_rfl) (fun _ _ _ h k => Ext.trans h k) (fun _ => Below.refl _ _) (fun x => (Below.refl x.heap.size x).drew) (MPat.mono _) (by kernel_rfl) ?obs ?rest
        case obs =>
          refine ⟨?_, ?_, ?_, ?_, ?_, ?_, trivial⟩
          · intro ev W hf _ _ hst hd
            have e0 : ev (.tmp 0) = .slice (some ⟨b, o, none⟩) n cap := hf 0 (by kernel_rfl)
            exact st_value (v := .slice (some ⟨b, o, none⟩) n cap) (by simp [execOp, go_sem, e0]) (Below.refl _ _) rfl
          · intro ev W hf _ _ hst hd
            have e4 : ev (.tmp 4) = .int .i64 ((i : Int) + 1) := hf 4 (by kernel_rfl)
            exact st_value (v := .int .i64 ((i : Int) + 1)) (by simp [execOp, go_sem, e4]) (Below.refl _ _) rfl
          · rintro ev W hf _ _ hst ⟨d22, d23, _⟩
            have e22 : ev (.tmp 22) = .slice (some ⟨b, o, none⟩) n cap := d22
            have e23 : ev (.tmp 23) = .int .i64 ((i : Int) + 1) := d23
            exact st_value (v := .pointer (some ⟨b, o + (i + 1) * 2, none⟩)) (by simp [execOp, go_sem, e22, e23, hi1a, hi1b]) (Below.refl _ _) rfl
          · rintro ev W hf _ _ hst ⟨d24, _⟩
            have e24 : ev (.tmp 24) = .pointer (some ⟨b, o + (i + 1) * 2, none⟩) := d24
            have q0 := Ext.cell hst C1.out
            have q1 := Ext.cell hst C2.out
            exact st_value (v := vecV qx qy) (by simp [execOp, go_sem, e24, q0, q1, vecV]) (Below.refl _ _) rfl
          · intro ev W hf _ _ hst hd
            have e3 : ev (.tmp 3) = .pointer (some ⟨g, 0, none⟩) := hf 3 (by kernel_rfl)
            have q0 := VRow.cell (VRow.ext HV.out hst) (k := 0) rfl
            have q1 := VRow.cell (VRow.ext HV.out hst) (k := 1) rfl
            exact st_value (v := vecV lx ly) (by simp [execOp, go_sem, e3, q0, q1, vecV]) (Below.refl _ _) rfl
          · rintro ev W hf _ hfn hst ⟨d25, d26, _⟩
            have e25 : ev (.tmp 25) = vecV qx qy := d25
            have e26 : ev (.tmp 26) = vecV lx ly := d26
            refine st_call (f := 117) (args := #[vecV qx qy, vecV lx ly]) (by simp [execOp, go_sem, hfn, e25, e26]) (HLW.out W) (fun _ _ => rfl)
        case rest =>
          intro vs w3 hl hst hg
          have HE3 := Lib.hid hst
          have hvs : vs = [.slice (some ⟨b, o, none⟩) n cap, .int .i64 ((i : Int) + 1), .pointer (some ⟨b, o + (i + 1) * 2, none⟩), vecV qx qy, vecV lx ly, .bool false] := vs_all hl hg
          clear hg hst hl
          subst hvs
          simp only [putAll, Act.put, List.dropLast, List.setIfInBounds_toArray, List.set_cons_zero, List.set_cons_succ]
          go_wp2_with fail
          exact ⟨⟨i + 1, by simp, by omega, by rw [HS.out.1, HS.out.2]; exact VRow.ext HV.out HE3.out, Ext.trans HE.out HE3.out⟩, by simp [intOf]; omega⟩
    · have hi1a : ¬ (i : Int) + 1 < (n : Int) := by omega
      have hin : i = n - 1 := by omega
      rw [hin, ← HAL.out] at HV
      clear hin
      have l0 := VRow.cell HV.out (k := 0) rfl
      have l1 := VRow.cell HV.out (k := 1) rfl
      have HEa := Lib.hid (Ext.alloc (Ext.refl wr) (.cells #[.int .i64 a.1, .int .i64 a.2] 31))
      have HVa := Lib.hid (VRow.ext HV.out HEa.out)
      have HOa := Lib.hid (show (wr.alloc (.cells #[.int .i64 a.1, .int .i64 a.2] 31)).ownsRow (g + 1) 31 2 (.slice (some ⟨wr.heap.size, 0, none⟩) 1 1) 1 (cellsOf (wrapL ps a 1)) from
        ⟨rfl, .inr ⟨wr.heap.size, 1, #[.int .i64 a.1, .int .i64 a.2], rfl, by have := HGS.out; omega, (vrow_alloc wr [.int .i64 a.1, .int .i64 a.2] 31), Nat.le_refl _, by unfold maxLen; omega, rfl, rfl⟩⟩)
      go_wp2_with fail
      clear l0 l1
      have HEw := Lib.hid (Ext.trans HE.out HEa.out)
      generalize wr.alloc (.cells #[.int .i64 a.1, .int .i64 a.2] 31) = w1 at *
      go_loopw [5] (fun ov wr => ∃ m : Nat, lenOf ov = m + 1 ∧ m + 1 ≤ n + 1 ∧ wr.ownsRow (g + 1) 31 2 ov (m + 1) (cellsOf (wrapL ps a (m + 1))) ∧ VRow wr g 31 [.int .i64 a.1, .int .i64 a.2] ∧ (∀ k, 1 ≤ k → k < m + 1 → wrapK ps a k ≠ a ∧ wrapK ps a k ≠ wrapK ps a (k - 1)) ∧ Ext w wr) (fun ov _ => n + 5 - lenOf ov)
      case atStart => exact ⟨0, rfl, by omega, HOa.out, HVa.out, fun k h1 h2 => by omega, HEw.out⟩
      case round =>
        clear HV HE HVa HOa HEw HGS
        rename World => wr
        obtain ⟨m, _, hm2, hO, hV, hon, hE⟩ := hrel
        obtain ⟨oa, oc, rfl⟩ := own_slice2 hO
        have HO := Lib.hid hO
        have HV := Lib.hid hV
        have HON := Lib.hid hon
        have HE := Lib.hid hE
        have HGS := Lib.hid (show g < wr.heap.size from VRow.lt hV)
        have hvs := vecs_own (qs := wrapL ps a (m + 1)) (base := g + 1) (by rw [wrapL_len]; exact hO) (by rw [wrapL_len]; omega)
        clear hO hV hon hE
        by_cases hmn : m + 1 ≤ n
        · obtain ⟨ob, oo, oc', hsl, hoc1, hoc2, hcells⟩ := vecs_cells hvs (by rw [wrapL_len]; omega)
          rw [wrapL_len] at hsl hcells hoc1
          simp only [Value.slice.injEq, true_and] at hsl
          obtain ⟨rfl, rfl⟩ := hsl
          obtain ⟨c1, c2⟩ := hcells m (by omega)
          rw [wrapL_at ps a (show m < m + 1 by omega)] at c1 c2
          have k1 := cell_lt c1
          have hatb := HWB.out m
          obtain ⟨at_, hat⟩ : ∃ at_, at_ = wrapK ps a m := ⟨_, rfl⟩
          rw [← hat] at c1 c2 hatb
          have HAT := Lib.hid hat
          have HAB := Lib.hid hatb
          have HNB := Lib.hid (fun (i : Nat) (hi : i ≤ n) => HNB0.out at_ hatb i hi)
          clear hat hvs hcells hatb
          have hmz : (m : Int) + 1 ≤ (n : Int) := by omega
          have HEW := Lib.hid (Ext.alloc (Ext.alloc (Ext.refl wr) (.cells #[.int .i64 at_.1, .int .i64 at_.2] 31)) (.cells #[.int .i64 at_.1, .int .i64 at_.2] 31))
          have hsA : (wr.alloc (.cells #[.int .i64 at_.1, .int .i64 at_.2] 31)).heap.size = wr.heap.size + 1 := by simp
          have VA0 := Lib.hid (show VRow ((wr.alloc (.cells #[.int .i64 at_.1, .int .i64 at_.2] 31)).alloc (.cells #[.int .i64 at_.1, .int .i64 at_.2] 31)) wr.heap.size 31 [.int .i64 at_.1, .int .i64 at_.2] from (vrow_alloc wr [.int .i64 at_.1, .int .i64 at_.2] 31).alloc _)
          have VN0 := Lib.hid (show VRow ((wr.alloc (.cells #[.int .i64 at_.1, .int .i64 at_.2] 31)).alloc (.cells #[.int .i64 at_.1, .int .i64 at_.2] 31)) (wr.heap.size + 1) 31 [.int .i64 (nextK ps at_ 0).1, .int .i64 (nextK ps at_ 0).2] from by
            have h := vrow_alloc (wr.alloc (.cells #[.int .i64 at_.1, .int .i64 at_.2] 31)) [.int .i64 at_.1, .int .i64 at_.2] 31
            rw [hsA] at h
            exact h)
          have b0 := VRow.cell (vrow_alloc wr [.int .i64 at_.1, .int .i64 at_.2] 31) (k := 0) rfl
          have b1 := VRow.cell (vrow_alloc wr [.int .i64 at_.1, .int .i64 at_.2] 31) (k := 1) rfl
          go_wp2_with fail
          clear c1 c2 k1 b0 b1 hsA
          obtain ⟨A, hA⟩ : ∃ A, A = wr.heap.size := ⟨_, rfl⟩
          obtain ⟨N, hNn⟩ : ∃ N, N = A + 1 := ⟨_, rfl⟩
          rw [← hA] at VA0 VN0 ⊢
          rw [← hNn] at VN0 ⊢
          have HWN := Lib.hid (show wr.heap.size ≤ N by omega)
          have HAN := Lib.hid (show A ≠ N by omega)
          clear hA hNn
          generalize (wr.alloc (.cells #[.int .i64 at_.1, .int .i64 at_.2] 31)).alloc (.cells #[.int .i64 at_.1, .int .i64 at_.2] 31) = w2 at *
          go_loopw [8] (fun iv wq => ∃ i : Nat, iv = .int .i64 (i : Int) ∧ i ≤ n ∧ VRow wq N 31 [.int .i64 (nextK ps at_ i).1, .int .i64 (nextK ps at_ i).2] ∧ VRow wq A 31 [.int .i64 at_.1, .int .i64 at_.2] ∧ Ext wr wq) (fun iv _ => n - (intOf iv).toNat)
          case atStart => exact ⟨0, rfl, Nat.zero_le _, VN0.out, VA0.out, HEW.out⟩
          case round =>
            rename World => wq
            obtain ⟨i, rfl, hi, hVN, hVA, hE⟩ := hrel
            have VN := Lib.hid hVN
            have VA := Lib.hid hVA
            have HEq := Lib.hid hE
            clear hVN hVA hE
            by_cases hil : i < n
            · have hilz : (i : Int) < (n : Int) := by omega
              obtain ⟨c1, c2⟩ := HC.out i hil
              have C1 := Lib.hid (Ext.cell (Ext.trans HE.out HEq.out) c1)
              have C2 := Lib.hid (Ext.cell (Ext.trans HE.out HEq.out) c2)
              have hqb := HPB.out i hil
              have hnb := HNB.out i hi
              have hatb := HAB.out
              have HST := Lib.hid (show nextK ps at_ (i + 1) = stepN at_ (nextK ps at_ i) (fromP ps i) from rfl)
              have HTW := Lib.hid (fun W => twice_c at_.1 at_.2 (nextK ps at_ i).1 (nextK ps at_ i).2 (fromP ps i).1 (fromP ps i).2 W (by omega) (by omega) (by omega) (by omega) (by omega) (by omega))
              have HF1 := Lib.hid (fun W => rfar_c at_.1 at_.2 (fromP ps i).1 (fromP ps i).2 W (by omega) (by omega) (by omega) (by omega))
              have HF2 := Lib.hid (fun W => rfar_c at_.1 at_.2 (nextK ps at_ i).1 (nextK ps at_ i).2 W (by omega) (by omega) (by omega) (by omega))
              obtain ⟨q, hq⟩ : ∃ q, q = fromP ps i := ⟨_, rfl⟩
              obtain ⟨nx, hnx⟩ : ∃ nx, nx = nextK ps at_ i := ⟨_, rfl⟩
              rw [← hq] at C1 C2 HST HTW HF1
              rw [← hnx] at VN HST HTW HF2
              obtain ⟨T, hT⟩ : ∃ T, T = triP at_ nx q := ⟨_, rfl⟩
              obtain ⟨F1, hF1⟩ : ∃ F, F = farZ at_ q := ⟨_, rfl⟩
              obtain ⟨F2, hF2⟩ : ∃ F, F = farZ at_ nx := ⟨_, rfl⟩
              rw [twi_tri, ← hT] at HTW
              have HF1 := Lib.hid (fun W => (show Calls Try.prog 150 #[vecV at_.1 at_.2, vecV q.1 q.2] W fun e w' => e = .returned (.int .i64 F1) ∧ Ext W w' from by rw [hF1]; exact HF1.out W))
              have HF2 := Lib.hid (fun W => (show Calls Try.prog 150 #[vecV at_.1 at_.2, vecV nx.1 nx.2] W fun e w' => e = .returned (.int .i64 F2) ∧ Ext W w' from by rw [hF2]; exact HF2.out W))
              unfold stepN at HST
              rw [← hT, ← hF1, ← hF2] at HST
              clear hq hnx hT hF1 hF2 c1 c2 hqb hnb
              by_cases hqa : q = at_
              · have HS := Lib.hid (show (nextK ps at_ (i + 1)).1 = nx.1 ∧ (nextK ps at_ (i + 1)).2 = nx.2 from by rw [HST.out, if_pos hqa]; exact ⟨rfl, rfl⟩)
                have HQA := Lib.hid (show ∀ W, Sem.run Try.prog (binOp .eql 31 (.agg #[.int .i64 q.1, .int .i64 q.2]) (.agg #[.int .i64 at_.1, .int .i64 at_.2])) W = .ok (.bool true) W from fun W => by rw [hqa]; exact veq_t _ _ W)
                clear hqa
                generalize q.1 = qx at *
                generalize q.2 = qy at *
                generalize nx.1 = nxx at *
                generalize nx.2 = nxy at *
                generalize at_.1 = ax at *
                generalize at_.2 = ay at *
                go_wp2_with fail
                refine wp_region_stable [⟨[], none⟩, ⟨[], none⟩, ⟨[(0, 52), (1, 53)], none⟩, ⟨[(2, 54)], none⟩, ⟨[], none⟩, ⟨[(3, 55), (4, 56)], none⟩] (fun x y => Below x.heap.size x y) (MPat [MP.eq (.slice (some ⟨b, o, none⟩) n cap), MP.eq (.int .i64 (i : Int)), MP.eq (.pointer (some ⟨b, o + i * 2, none⟩)), MP.eq (vecV qx qy), MP.eq (vecV ax ay), MP.eq (.bool true)]) (by kernel_rfl) (fun _ _ _ h k => Ext.trans h k) (fun _ => Below.refl _ _) (fun x => (Below.refl x.heap.size x).drew) (MPat.mono _) (by kernel_rfl) ?obs ?rest
                case obs =>
                  refine ⟨?_, ?_, ?_, ?_, ?_, ?_, trivial⟩
                  · intro ev W hf _ _ hst hd
                    have e0 : ev (.tmp 0) = .slice (some ⟨b, o, none⟩) n cap := hf 0 (by kernel_rfl)
                    exact st_value (v := .slice (some ⟨b, o, none⟩) n cap) (by simp [execOp, go_sem, e0]) (Below.refl _ _) rfl
                  · intro ev W hf _ _ hst hd
                    have e8 : ev (.tmp 8) = .int .i64 (i : Int) := hf 8 (by kernel_rfl)
                    exact st_value (v := .int .i64 (i : Int)) (by simp [execOp, go_sem, e8]) (Below.refl _ _) rfl
                  · rintro ev W hf _ _ hst ⟨d52, d53, _⟩
                    have e52 : ev (.tmp 52) = .slice (some ⟨b, o, none⟩) n cap := d52
                    have e53 : ev (.tmp 53) = .int .i64 (i : Int) := d53
                    exact st_value (v := .pointer (some ⟨b, o + i * 2, none⟩)) (by simp [execOp, go_sem, e52, e53, hil]) (Below.refl _ _) rfl
                  · rintro ev W hf _ _ hst ⟨d54, _⟩
                    have e54 : ev (.tmp 54) = .pointer (some ⟨b, o + i * 2, none⟩) := d54
                    have q0 := Ext.cell hst C1.out
                    have q1 := Ext.cell hst C2.out
                    exact st_value (v := vecV qx qy) (by simp [execOp, go_sem, e54, q0, q1, vecV]) (Below.refl _ _) rfl
                  · intro ev W hf _ _ hst hd
                    have e6 : ev (.tmp 6) = .pointer (some ⟨A, 0, none⟩) := hf 6 (by kernel_rfl)
                    have q0 := VRow.cell (VRow.ext VA.out hst) (k := 0) rfl
                    have q1 := VRow.cell (VRow.ext VA.out hst) (k := 1) rfl
                    exact st_value (v := vecV ax ay) (by simp [execOp, go_sem, e6, q0, q1, vecV]) (Below.refl _ _) rfl
                  · rintro ev W hf _ _ hst ⟨d55, d56, _⟩
                    have e55 : ev (.tmp 55) = vecV qx qy := d55
                    have e56 : ev (.tmp 56) = vecV ax ay := d56
                    exact st_value (v := .bool true) (by simp [execOp, go_sem, e55, e56, HQA.out, vecV]) (Below.refl _ _) rfl
                case rest =>
                  intro vs w3 hl hst hg
                  have HE3 := Lib.hid hst
                  have hvs : vs = [.slice (some ⟨b, o, none⟩) n cap, .int .i64 (i : Int), .pointer (some ⟨b, o + i * 2, none⟩), vecV qx qy, vecV ax ay, .bool true] := vs_all hl hg
                  clear hg hst hl
                  subst hvs
                  simp only [putAll, Act.put, List.dropLast, List.setIfInBounds_toArray, List.set_cons_zero, List.set_cons_succ]
                  have C1 := Lib.hid (Ext.cell HE3.out C1.out)
                  have C2 := Lib.hid (Ext.cell HE3.out C2.out)
                  have VN := Lib.hid (VRow.ext VN.out HE3.out)
                  have VA := Lib.hid (VRow.ext VA.out HE3.out)
                  have HEq := Lib.hid (Ext.trans HEq.out HE3.out)
                  clear HE3
                  go_wp2_with fail
                  exact ⟨⟨i + 1, by simp, by omega, by rw [HS.out.1, HS.out.2]; exact VN.out, VA.out, HEq.out⟩, by simp [intOf]; omega⟩
              · have HS0 := Lib.hid (show nextK ps at_ (i + 1) = if nx = at_ ∨ T < 0 ∨ (T = 0 ∧ F2 < F1) then q else nx from by rw [HST.out, if_neg hqa])
                have HQA := Lib.hid (fun W => veq_f q.1 q.2 at_.1 at_.2 (pt_ne hqa) W)
                clear hqa
                by_cases hna : nx = at_
                · have HS := Lib.hid (show (nextK ps at_ (i + 1)).1 = q.1 ∧ (nextK ps at_ (i + 1)).2 = q.2 from by rw [HS0.out, if_pos (.inl hna)]; exact ⟨rfl, rfl⟩)
                  have HNA := Lib.hid (fun W => (show Sem.run Try.prog (binOp .eql 31 (.agg #[.int .i64 nx.1, .int .i64 nx.2]) (.agg #[.int .i64 at_.1, .int .i64 at_.2])) W = .ok (.bool true) W from by rw [hna]; exact veq_t _ _ W))
                  clear hna HS0
                  generalize q.1 = qx at *
                  generalize q.2 = qy at *
                  generalize nx.1 = nxx at *
                  generalize nx.2 = nxy at *
                  generalize at_.1 = ax at *
                  generalize at_.2 = ay at *
                  go_wp2_with fail
                  refine wp_region_stable [⟨[], none⟩, ⟨[], none⟩, ⟨[(0, 52), (1, 53)], none⟩, ⟨[(2, 54)], none⟩, ⟨[], none⟩, ⟨[(3, 55), (4, 56)], none⟩] (fun x y => Below x.heap.size x y) (MPat [MP.eq (.slice (some ⟨b, o, none⟩) n cap), MP.eq (.int .i64 (i : Int)), MP.eq (.pointer (some ⟨b, o + i * 2, none⟩)), MP.eq (vecV qx qy), MP.eq (vecV ax ay), MP.eq (.bool false)]) (by kernel_rfl) (fun _ _ _ h k => Ext.trans h k) (fun _ => Below.refl _ _) (fun x => (Below.refl x.heap.size x).drew) (MPat.mono _) (by kernel_rfl) ?obs ?rest
                  case obs =>
                    refine ⟨?_, ?_, ?_, ?_, ?_, ?_, trivial⟩
                    · intro ev W hf _ _ hst hd
                      have e0 : ev (.tmp 0) = .slice (some ⟨b, o, none⟩) n cap := hf 0 (by kernel_rfl)
                      exact st_value (v := .slice (some ⟨b, o, none⟩) n cap) (by simp [execOp, go_sem, e0]) (Below.refl _ _) rfl
                    · intro ev W hf _ _ hst hd
                      have e8 : ev (.tmp 8) = .int .i64 (i : Int) := hf 8 (by kernel_rfl)
                      exact st_value (v := .int .i64 (i : Int)) (by simp [execOp, go_sem, e8]) (Below.refl _ _) rfl
                    · rintro ev W hf _ _ hst ⟨d52, d53, _⟩
                      have e52 : ev (.tmp 52) = .slice (some ⟨b, o, none⟩) n cap := d52
                      have e53 : ev (.tmp 53) = .int .i64 (i : Int) := d53
                      exact st_value (v := .pointer (some ⟨b, o + i * 2, none⟩)) (by simp [execOp, go_sem, e52, e53, hil]) (Below.refl _ _) rfl
                    · rintro ev W hf _ _ hst ⟨d54, _⟩
                      have e54 : ev (.tmp 54) = .pointer (some ⟨b, o + i * 2, none⟩) := d54
                      have q0 := Ext.cell hst C1.out
                      have q1 := Ext.cell hst C2.out
                      exact st_value (v := vecV qx qy) (by simp [execOp, go_sem, e54, q0, q1, vecV]) (Below.refl _ _) rfl
                    · intro ev W hf _ _ hst hd
                      have e6 : ev (.tmp 6) = .pointer (some ⟨A, 0, none⟩) := hf 6 (by kernel_rfl)
                      have q0 := VRow.cell (VRow.ext VA.out hst) (k := 0) rfl
                      have q1 := VRow.cell (VRow.ext VA.out hst) (k := 1) rfl
                      exact st_value (v := vecV ax ay) (by simp [execOp, go_sem, e6, q0, q1, vecV]) (Below.refl _ _) rfl
                    · rintro ev W hf _ _ hst ⟨d55, d56, _⟩
                      have e55 : ev (.tmp 55) = vecV qx qy := d55
                      have e56 : ev (.tmp 56) = vecV ax ay := d56
                      exact st_value (v := .bool false) (by simp [execOp, go_sem, e55, e56, HQA.out, vecV]) (Below.refl _ _) rfl
                  case rest =>
                    intro vs w3 hl hst hg
                    have HE3 := Lib.hid hst
                    have hvs : vs = [.slice (some ⟨b, o, none⟩) n cap, .int .i64 (i : Int), .pointer (some ⟨b, o + i * 2, none⟩), vecV qx qy, vecV ax ay, .bool false] := vs_all hl hg
                    clear hg hst hl
                    subst hvs
                    simp only [putAll, Act.put, List.dropLast, List.setIfInBounds_toArray, List.set_cons_zero, List.set_cons_succ]
                    have C1 := Lib.hid (Ext.cell HE3.out C1.out)
                    have C2 := Lib.hid (Ext.cell HE3.out C2.out)
                    have VN := Lib.hid (VRow.ext VN.out HE3.out)
                    have VA := Lib.hid (VRow.ext VA.out HE3.out)
                    have HEq := Lib.hid (Ext.trans HEq.out HE3.out)
                    clear HE3
                    go_wp2_with fail
                    refine wp_region_stable_last [⟨[], none⟩, ⟨[], none⟩, ⟨[], none⟩, ⟨[], none⟩, ⟨[(2, 60), (3, 61)], none⟩, ⟨[(4, 62)], none⟩, ⟨[(0, 58), (1, 59), (5, 63)], none⟩] (fun x y => Below x.heap.size x y) (MPat [MP.eq (vecV ax ay), MP.eq (vecV nxx nxy), MP.eq (.slice (some ⟨b, o, none⟩) n cap), MP.eq (.int .i64 (i : Int)), MP.eq (.pointer (some ⟨b, o + i * 2, none⟩)), MP.eq (vecV qx qy), MP.eq (.int .i64 T)]) rfl (by kernel_rfl) (fun _ _ _ h k => Ext.trans h k) (fun _ => Below.refl _ _) (fun x => (Below.refl x.heap.size x).drew) (MPat.mono _) (by kernel_rfl) (by kernel_rfl) (by kernel_rfl) ?obs ?rest
                    case obs =>
                      refine ⟨?_, ?_, ?_, ?_, ?_, ?_, ?_, trivial⟩
                      · intro ev W hf _ _ hst hd
                        have e6 : ev (.tmp 6) = .pointer (some ⟨A, 0, none⟩) := hf 6 (by kernel_rfl)
                        have q0 := VRow.cell (VRow.ext VA.out hst) (k := 0) rfl
                        have q1 := VRow.cell (VRow.ext VA.out hst) (k := 1) rfl
                        exact st_value (v := vecV ax ay) (by simp [execOp, go_sem, e6, q0, q1, vecV]) (Below.refl _ _) rfl
                      · intro ev W hf _ _ hst hd
                        have e7 : ev (.tmp 7) = .pointer (some ⟨N, 0, none⟩) := hf 7 (by kernel_rfl)
                        have q0 := VRow.cell (VRow.ext VN.out hst) (k := 0) rfl
                        have q1 := VRow.cell (VRow.ext VN.out hst) (k := 1) rfl
                        exact st_value (v := vecV nxx nxy) (by simp [execOp, go_sem, e7, q0, q1, vecV]) (Below.refl _ _) rfl
                      · intro ev W hf _ _ hst hd
                        have e0 : ev (.tmp 0) = .slice (some ⟨b, o, none⟩) n cap := hf 0 (by kernel_rfl)
                        exact st_value (v := .slice (some ⟨b, o, none⟩) n cap) (by simp [execOp, go_sem, e0]) (Below.refl _ _) rfl
                      · intro ev W hf _ _ hst hd
                        have e8 : ev (.tmp 8) = .int .i64 (i : Int) := hf 8 (by kernel_rfl)
                        exact st_value (v := .int .i64 (i : Int)) (by simp [execOp, go_sem, e8]) (Below.refl _ _) rfl
                      · rintro ev W hf _ _ hst ⟨d60, d61, _⟩
                        have e60 : ev (.tmp 60) = .slice (some ⟨b, o, none⟩) n cap := d60
                        have e61 : ev (.tmp 61) = .int .i64 (i : Int) := d61
                        exact st_value (v := .pointer (some ⟨b, o + i * 2, none⟩)) (by simp [execOp, go_sem, e60, e61, hil]) (Below.refl _ _) rfl
                      · rintro ev W hf _ _ hst ⟨d62, _⟩
                        have e62 : ev (.tmp 62) = .pointer (some ⟨b, o + i * 2, none⟩) := d62
                        have q0 := Ext.cell hst C1.out
                        have q1 := Ext.cell hst C2.out
                        exact st_value (v := vecV qx qy) (by simp [execOp, go_sem, e62, q0, q1, vecV]) (Below.refl _ _) rfl
                      · rintro ev W hf _ hfn hst ⟨d58, d59, d63, _⟩
                        have e58 : ev (.tmp 58) = vecV ax ay := d58
                        have e59 : ev (.tmp 59) = vecV nxx nxy := d59
                        have e63 : ev (.tmp 63) = vecV qx qy := d63
                        refine st_call (f := 118) (args := #[vecV ax ay, vecV nxx nxy, vecV qx qy]) (by simp [execOp, go_sem, hfn, e58, e59, e63]) (HTW.out W) (fun _ _ => rfl)
                    case rest =>
                      intro vs w3 hl hst hg
                      have HE3 := Lib.hid hst
                      have hvs : vs = [vecV ax ay, vecV nxx nxy, .slice (some ⟨b, o, none⟩) n cap, .int .i64 (i : Int), .pointer (some ⟨b, o + i * 2, none⟩), vecV qx qy, .int .i64 T] := vs_all hl hg
                      clear hg hst hl
                      subst hvs
                      simp only [putAll, Act.put, List.dropLast, List.setIfInBounds_toArray, List.set_cons_zero, List.set_cons_succ]
                      have C1 := Lib.hid (Ext.cell HE3.out C1.out)
                      have C2 := Lib.hid (Ext.cell HE3.out C2.out)
                      have VN := Lib.hid (VRow.ext VN.out HE3.out)
                      have VA := Lib.hid (VRow.ext VA.out HE3.out)
                      have HEq := Lib.hid (Ext.trans HEq.out HE3.out)
                      clear HE3
                      go_wp2_with fail
                      refine wp_region_stable [⟨[], none⟩, ⟨[], none⟩, ⟨[(0, 65), (1, 66)], none⟩, ⟨[(2, 67)], none⟩, ⟨[(3, 68)], some (68, false)⟩, ⟨[(4, 69), (3, 68)], some (68, false)⟩, ⟨[(3, 68), (5, 70)], none⟩, ⟨[(6, 71)], none⟩, ⟨[(7, 72)], some (72, false)⟩, ⟨[(8, 73), (7, 72)], some (72, false)⟩, ⟨[(9, 74), (7, 72)], some (72, false)⟩, ⟨[(10, 75)], some (75, true)⟩, ⟨[(10, 75)], some (75, true)⟩, ⟨[(10, 75)], some (75, true)⟩, ⟨[(12, 77), (13, 78), (10, 75)], some (75, true)⟩, ⟨[(14, 79), (10, 75)], some (75, true)⟩, ⟨[(11, 76), (15, 80), (10, 75)], some (75, true)⟩, ⟨[(10, 75)], some (75, true)⟩, ⟨[(10, 75)], some (75, true)⟩, ⟨[(17, 82), (18, 83), (10, 75)], some (75, true)⟩, ⟨[(16, 81), (19, 84), (10, 75)], some (75, true)⟩, ⟨[(10, 75), (20, 85), (7, 72)], some (72, false)⟩, ⟨[(7, 72), (21, 86)], none⟩] (fun x y => Below x.heap.size x y) (MPat [MP.eq (vecV nxx nxy), MP.eq (vecV ax ay), MP.eq (.bool true), MP.eq (.bool true), MP.eq (undef), MP.eq (undef), MP.eq (.bool true), MP.eq (.bool true), MP.eq (undef), MP.eq (undef), MP.eq (undef), MP.eq (undef), MP.eq (undef), MP.eq (undef), MP.eq (undef), MP.eq (undef), MP.eq (undef), MP.eq (undef), MP.eq (undef), MP.eq (undef), MP.eq (undef), MP.eq (undef), MP.eq (.bool true)]) (by kernel_rfl) (fun _ _ _ h k => Ext.trans h k) (fun _ => Below.refl _ _) (fun x => (Below.refl x.heap.size x).drew) (MPat.mono _) (by kernel_rfl) ?obs ?rest
                      case obs =>
                        refine ⟨?_, ?_, ?_, ?_, ?_, ?_, ?_, ?_, ?_, ?_, ?_, ?_, ?_, ?_, ?_, ?_, ?_, ?_, ?_, ?_, ?_, ?_, ?_, trivial⟩
                        · intro ev W hf _ _ hst hd
                          have e7 : ev (.tmp 7) = .pointer (some ⟨N, 0, none⟩) := hf 7 (by kernel_rfl)
                          have q0 := VRow.cell (VRow.ext VN.out hst) (k := 0) rfl
                          have q1 := VRow.cell (VRow.ext VN.out hst) (k := 1) rfl
                          exact st_value (v := vecV nxx nxy) (by simp [execOp, go_sem, e7, q0, q1, vecV]) (Below.refl _ _) rfl
                        · intro ev W hf _ _ hst hd
                          have e6 : ev (.tmp 6) = .pointer (some ⟨A, 0, none⟩) := hf 6 (by kernel_rfl)
                          have q0 := VRow.cell (VRow.ext VA.out hst) (k := 0) rfl
                          have q1 := VRow.cell (VRow.ext VA.out hst) (k := 1) rfl
                          exact st_value (v := vecV ax ay) (by simp [execOp, go_sem, e6, q0, q1, vecV]) (Below.refl _ _) rfl
                        · rintro ev W hf _ _ hst ⟨d65, d66, _⟩
                          have e65 : ev (.tmp 65) = vecV nxx nxy := d65
                          have e66 : ev (.tmp 66) = vecV ax ay := d66
                          exact st_value (v := .bool true) (by simp [execOp, go_sem, e65, e66, HNA.out, vecV]) (Below.refl _ _) rfl
                        · rintro ev W hf _ _ hst ⟨d67, _⟩
                          have e67 : ev (.tmp 67) = .bool true := d67
                          exact st_value (v := .bool true) (by simp [execOp, go_sem, e67]) (Below.refl _ _) rfl
                        · rintro ev W hf _ _ hst ⟨d68, _⟩
                          have e68 : ev (.tmp 68) = .bool true := d68
                          exact ⟨fun hh => by simp [e68] at hh, fun _ => rfl⟩
                        · rintro ev W hf _ _ hst ⟨d69, d68, _⟩
                          have e68 : ev (.tmp 68) = .bool true := d68
                          exact ⟨fun hh => by simp [e68] at hh, fun _ => rfl⟩
                        · rintro ev W hf hcst _ hst ⟨d68, d70, _⟩
                          have e68 : ev (.tmp 68) = .bool true := d68
                          have e70 : ev (.tmp 70) = undef := d70
                          exact st_value (v := .bool true) (by simp [execOp, go_sem, e68, e70, hcst]) (Below.refl _ _) rfl
                        · rintro ev W hf _ _ hst ⟨d71, _⟩
                          have e71 : ev (.tmp 71) = .bool true := d71
                          exact st_value (v := .bool true) (by simp [execOp, go_sem, e71]) (Below.refl _ _) rfl
                        · rintro ev W hf _ _ hst ⟨d72, _⟩
                          have e72 : ev (.tmp 72) = .bool true := d72
                          exact ⟨fun hh => by simp [e72] at hh, fun _ => rfl⟩
                        · rintro ev W hf _ _ hst ⟨d73, d72, _⟩
                          have e72 : ev (.tmp 72) = .bool true := d72
                          exact ⟨fun hh => by simp [e72] at hh, fun _ => rfl⟩
                        · rintro ev W hf _ _ hst ⟨d74, d72, _⟩
                          have e72 : ev (.tmp 72) = .bool true := d72
                          exact ⟨fun hh => by simp [e72] at hh, fun _ => rfl⟩
                        · rintro ev W hf _ _ hst ⟨d75, _⟩
                          have e75 : ev (.tmp 75) = undef := d75
                          refine ⟨fun hh => ?_, fun _ => rfl⟩
                          rw [e75] at hh
                          cases hh
                        · rintro ev W hf _ _ hst ⟨d75, _⟩
                          have e75 : ev (.tmp 75) = undef := d75
                          refine ⟨fun hh => ?_, fun _ => rfl⟩
                          rw [e75] at hh
                          cases hh
                        · rintro ev W hf _ _ hst ⟨d75, _⟩
                          have e75 : ev (.tmp 75) = undef := d75
                          refine ⟨fun hh => ?_, fun _ => rfl⟩
                          rw [e75] at hh
                          cases hh
                        · rintro ev W hf _ _ hst ⟨d77, d78, d75, _⟩
                          have e75 : ev (.tmp 75) = undef := d75
                          refine ⟨fun hh => ?_, fun _ => rfl⟩
                          rw [e75] at hh
                          cases hh
                        · rintro ev W hf _ _ hst ⟨d79, d75, _⟩
                          have e75 : ev (.tmp 75) = undef := d75
                          refine ⟨fun hh => ?_, fun _ => rfl⟩
                          rw [e75] at hh
                          cases hh
                        · rintro ev W hf _ _ hst ⟨d76, d80, d75, _⟩
                          have e75 : ev (.tmp 75) = undef := d75
                          refine ⟨fun hh => ?_, fun _ => rfl⟩
                          rw [e75] at hh
                          cases hh
                        · rintro ev W hf _ _ hst ⟨d75, _⟩
                          have e75 : ev (.tmp 75) = undef := d75
                          refine ⟨fun hh => ?_, fun _ => rfl⟩
                          rw [e75] at hh
                          cases hh
                        · rintro ev W hf _ _ hst ⟨d75, _⟩
                          have e75 : ev (.tmp 75) = undef := d75
                          refine ⟨fun hh => ?_, fun _ => rfl⟩
                          rw [e75] at hh
                          cases hh
                        · rintro ev W hf _ _ hst ⟨d82, d83, d75, _⟩
                          have e75 : ev (.tmp 75) = undef := d75
                          refine ⟨fun hh => ?_, fun _ => rfl⟩
                          rw [e75] at hh
                          cases hh
                        · rintro ev W hf _ _ hst ⟨d81, d84, d75, _⟩
                          have e75 : ev (.tmp 75) = undef := d75
                          refine ⟨fun hh => ?_, fun _ => rfl⟩
                          rw [e75] at hh
                          cases hh
                        · rintro ev W hf _ _ hst ⟨d75, d85, d72, _⟩
                          have e72 : ev (.tmp 72) = .bool true := d72
                          exact ⟨fun hh => by simp [e72] at hh, fun _ => rfl⟩
                        · rintro ev W hf hcst _ hst ⟨d72, d86, _⟩
                          have e72 : ev (.tmp 72) = .bool true := d72
                          have e86 : ev (.tmp 86) = undef := d86
                          exact st_value (v := .bool true) (by simp [execOp, go_sem, e72, e86, hcst]) (Below.refl _ _) rfl
                      case rest =>
                        intro vs w3 hl hst hg
                        have HE3 := Lib.hid hst
                        have hvs : vs = [vecV nxx nxy, vecV ax ay, .bool true, .bool true, undef, undef, .bool true, .bool true, undef, undef, undef, undef, undef, undef, undef, undef, undef, undef, undef, undef, undef, undef, .bool true] := vs_all hl hg
                        clear hg hst hl
                        subst hvs
                        simp only [putAll, Act.put, List.dropLast, List.setIfInBounds_toArray, List.set_cons_zero, List.set_cons_succ]
                        have C1 := Lib.hid (Ext.cell HE3.out C1.out)
                        have C2 := Lib.hid (Ext.cell HE3.out C2.out)
                        have VN := Lib.hid (VRow.ext VN.out HE3.out)
                        have VA := Lib.hid (VRow.ext VA.out HE3.out)
                        have HEq := Lib.hid (Ext.trans HEq.out HE3.out)
                        clear HE3
                        have c1 := C1.out
                        have c2 := C2.out
                        have k1 := cell_lt c1
                        have n0 := VRow.cell VN.out (k := 0) rfl
                        have n1 := VRow.cell VN.out (k := 1) rfl
                        have f0 := VRow.frozen VN.out 0 none
                        have f1 := VRow.frozen VN.out 1 none
                        have HP := Lib.hid (vec_put HEq.out VN.out HWN.out (.int .i64 qx) (.int .i64 qy))
                        have HVA5 := Lib.hid ((VRow.setOther VA.out (a := ⟨N, 0, none⟩) HAN.out (.int .i64 qx)).setOther (a := ⟨N, 1, none⟩) HAN.out (.int .i64 qy))
                        go_wp2_with fail
                        exact ⟨⟨i + 1, by simp, by omega, by rw [HS.out.1, HS.out.2]; exact HP.out.1, HVA5.out, HP.out.2⟩, by simp [intOf]; omega⟩
                · have HNA := Lib.hid (fun W => veq_f nx.1 nx.2 at_.1 at_.2 (pt_ne hna) W)
                  rcases Int.lt_trichotomy T 0 with hT | hT | hT
                  · have HS := Lib.hid (show (nextK ps at_ (i + 1)).1 = q.1 ∧ (nextK ps at_ (i + 1)).2 = q.2 from by rw [HS0.out, if_pos (.inr (.inl hT))]; exact ⟨rfl, rfl⟩)
                    have HT1 := Lib.hid (show decide (T < 0) = true from decide_eq_true hT)
                    clear hna HS0 hT
                    generalize q.1 = qx at *
                    generalize q.2 = qy at *
                    generalize nx.1 = nxx at *
                    generalize nx.2 = nxy at *
                    generalize at_.1 = ax at *
                    generalize at_.2 = ay at *
                    go_wp2_with fail
                    refine wp_region_stable [⟨[], none⟩, ⟨[], none⟩, ⟨[(0, 52), (1, 53)], none⟩, ⟨[(2, 54)], none⟩, ⟨[], none⟩, ⟨[(3, 55), (4, 56)], none⟩] (fun x y => Below x.heap.size x y) (MPat [MP.eq (.slice (some ⟨b, o, none⟩) n cap), MP.eq (.int .i64 (i : Int)), MP.eq (.pointer (some ⟨b, o + i * 2, none⟩)), MP.eq (vecV qx qy), MP.eq (vecV ax ay), MP.eq (.bool false)]) (by kernel_rfl) (fun _ _ _ h k => Ext.trans h k) (fun _ => Below.refl _ _) (fun x => (Below.refl x.heap.size x).drew) (MPat.mono _) (by kernel_rfl) ?obs ?rest
                    case obs =>
                      refine ⟨?_, ?_, ?_, ?_, ?_, ?_, trivial⟩
                      · intro ev W hf _ _ hst hd
                        have e0 : ev (.tmp 0) = .slice (some ⟨b, o, none⟩) n cap := hf 0 (by kernel_rfl)
                        exact st_value (v := .slice (some ⟨b, o, none⟩) n cap) (by simp [execOp, go_sem, e0]) (Below.refl _ _) rfl
                      · intro ev W hf _ _ hst hd
                        have e8 : ev (.tmp 8) = .int .i64 (i : Int) := hf 8 (by kernel_rfl)
                        exact st_value (v := .int .i64 (i : Int)) (by simp [execOp, go_sem, e8]) (Below.refl _ _) rfl
                      · rintro ev W hf _ _ hst ⟨d52, d53, _⟩
                        have e52 : ev (.tmp 52) = .slice (some ⟨b, o, none⟩) n cap := d52
                        have e53 : ev (.tmp 53) = .int .i64 (i : Int) := d53
                        exact st_value (v := .pointer (some ⟨b, o + i * 2, none⟩)) (by simp [execOp, go_sem, e52, e53, hil]) (Below.refl _ _) rfl
                      · rintro ev W hf _ _ hst ⟨d54, _⟩
                        have e54 : ev (.tmp 54) = .pointer (some ⟨b, o + i * 2, none⟩) := d54
                        have q0 := Ext.cell hst C1.out
                        have q1 := Ext.cell hst C2.out
                        exact st_value (v := vecV qx qy) (by simp [execOp, go_sem, e54, q0, q1, vecV]) (Below.refl _ _) rfl
                      · intro ev W hf _ _ hst hd
                        have e6 : ev (.tmp 6) = .pointer (some ⟨A, 0, none⟩) := hf 6 (by kernel_rfl)
                        have q0 := VRow.cell (VRow.ext VA.out hst) (k := 0) rfl
                        have q1 := VRow.cell (VRow.ext VA.out hst) (k := 1) rfl
                        exact st_value (v := vecV ax ay) (by simp [execOp, go_sem, e6, q0, q1, vecV]) (Below.refl _ _) rfl
                      · rintro ev W hf _ _ hst ⟨d55, d56, _⟩
                        have e55 : ev (.tmp 55) = vecV qx qy := d55
                        have e56 : ev (.tmp 56) = vecV ax ay := d56
                        exact st_value (v := .bool false) (by simp [execOp, go_sem, e55, e56, HQA.out, vecV]) (Below.refl _ _) rfl
                    case rest =>
                      intro vs w3 hl hst hg
                      have HE3 := Lib.hid hst
                      have hvs : vs = [.slice (some ⟨b, o, none⟩) n cap, .int .i64 (i : Int), .pointer (some ⟨b, o + i * 2, none⟩), vecV qx qy, vecV ax ay, .bool false] := vs_all hl hg
                      clear hg hst hl
                      subst hvs
                      simp only [putAll, Act.put, List.dropLast, List.setIfInBounds_toArray, List.set_cons_zero, List.set_cons_succ]
                      have C1 := Lib.hid (Ext.cell HE3.out C1.out)
                      have C2 := Lib.hid (Ext.cell HE3.out C2.out)
                      have VN := Lib.hid (VRow.ext VN.out HE3.out)
                      have VA := Lib.hid (VRow.ext VA.out HE3.out)
                      have HEq := Lib.hid (Ext.trans HEq.out HE3.out)
                      clear HE3
                      go_wp2_with fail
                      refine wp_region_stable_last [⟨[], none⟩, ⟨[], none⟩, ⟨[], none⟩, ⟨[], none⟩, ⟨[(2, 60), (3, 61)], none⟩, ⟨[(4, 62)], none⟩, ⟨[(0, 58), (1, 59), (5, 63)], none⟩] (fun x y => Below x.heap.size x y) (MPat [MP.eq (vecV ax ay), MP.eq (vecV nxx nxy), MP.eq (.slice (some ⟨b, o, none⟩) n cap), MP.eq (.int .i64 (i : Int)), MP.eq (.pointer (some ⟨b, o + i * 2, none⟩)), MP.eq (vecV qx qy), MP.eq (.int .i64 T)]) rfl (by kernel_rfl) (fun _ _ _ h k => Ext.trans h k) (fun _ => Below.refl _ _) (fun x => (Below.refl x.heap.size x).drew) (MPat.mono _) (by kernel_rfl) (by kernel_rfl) (by kernel_rfl) ?obs ?rest
                      case obs =>
                        refine ⟨?_, ?_, ?_, ?_, ?_, ?_, ?_, trivial⟩
                        · intro ev W hf _ _ hst hd
                          have e6 : ev (.tmp 6) = .pointer (some ⟨A, 0, none⟩) := hf 6 (by kernel_rfl)
                          have q0 := VRow.cell (VRow.ext VA.out hst) (k := 0) rfl
                          have q1 := VRow.cell (VRow.ext VA.out hst) (k := 1) rfl
                          exact st_value (v := vecV ax ay) (by simp [execOp, go_sem, e6, q0, q1, vecV]) (Below.refl _ _) rfl
                        · intro ev W hf _ _ hst hd
                          have e7 : ev (.tmp 7) = .pointer (some ⟨N, 0, none⟩) := hf 7 (by kernel_rfl)
                          have q0 := VRow.cell (VRow.ext VN.out hst) (k := 0) rfl
                          have q1 := VRow.cell (VRow.ext VN.out hst) (k := 1) rfl
                          exact st_value (v := vecV nxx nxy) (by simp [execOp, go_sem, e7, q0, q1, vecV]) (Below.refl _ _) rfl
                        · intro ev W hf _ _ hst hd
                          have e0 : ev (.tmp 0) = .slice (some ⟨b, o, none⟩) n cap := hf 0 (by kernel_rfl)
                          exact st_value (v := .slice (some ⟨b, o, none⟩) n cap) (by simp [execOp, go_sem, e0]) (Below.refl _ _) rfl
                        · intro ev W hf _ _ hst hd
                          have e8 : ev (.tmp 8) = .int .i64 (i : Int) := hf 8 (by kernel_rfl)
                          exact st_value (v := .int .i64 (i : Int)) (by simp [execOp, go_sem, e8]) (Below.refl _ _) rfl
                        · rintro ev W hf _ _ hst ⟨d60, d61, _⟩
                          have e60 : ev (.tmp 60) = .slice (some ⟨b, o, none⟩) n cap := d60
                          have e61 : ev (.tmp 61) = .int .i64 (i : Int) := d61
                          exact st_value (v := .pointer (some ⟨b, o + i * 2, none⟩)) (by simp [execOp, go_sem, e60, e61, hil]) (Below.refl _ _) rfl
                        · rintro ev W hf _ _ hst ⟨d62, _⟩
                          have e62 : ev (.tmp 62) = .pointer (some ⟨b, o + i * 2, none⟩) := d62
                          have q0 := Ext.cell hst C1.out
                          have q1 := Ext.cell hst C2.out
                          exact st_value (v := vecV qx qy) (by simp [execOp, go_sem, e62, q0, q1, vecV]) (Below.refl _ _) rfl
                        · rintro ev W hf _ hfn hst ⟨d58, d59, d63, _⟩
                          have e58 : ev (.tmp 58) = vecV ax ay := d58
                          have e59 : ev (.tmp 59) = vecV nxx nxy := d59
                          have e63 : ev (.tmp 63) = vecV qx qy := d63
                          refine st_call (f := 118) (args := #[vecV ax ay, vecV nxx nxy, vecV qx qy]) (by simp [execOp, go_sem, hfn, e58, e59, e63]) (HTW.out W) (fun _ _ => rfl)
                      case rest =>
                        intro vs w3 hl hst hg
                        have HE3 := Lib.hid hst
                        have hvs : vs = [vecV ax ay, vecV nxx nxy, .slice (some ⟨b, o, none⟩) n cap, .int .i64 (i : Int), .pointer (some ⟨b, o + i * 2, none⟩), vecV qx qy, .int .i64 T] := vs_all hl hg
                        clear hg hst hl
                        subst hvs
                        simp only [putAll, Act.put, List.dropLast, List.setIfInBounds_toArray, List.set_cons_zero, List.set_cons_succ]
                        have C1 := Lib.hid (Ext.cell HE3.out C1.out)
                        have C2 := Lib.hid (Ext.cell HE3.out C2.out)
                        have VN := Lib.hid (VRow.ext VN.out HE3.out)
                        have VA := Lib.hid (VRow.ext VA.out HE3.out)
                        have HEq := Lib.hid (Ext.trans HEq.out HE3.out)
                        clear HE3
                        go_wp2_with fail
                        refine wp_region_stable [⟨[], none⟩, ⟨[], none⟩, ⟨[(0, 65), (1, 66)], none⟩, ⟨[(2, 67)], none⟩, ⟨[(3, 68)], some (68, false)⟩, ⟨[(4, 69), (3, 68)], some (68, false)⟩, ⟨[(3, 68), (5, 70)], none⟩, ⟨[(6, 71)], none⟩, ⟨[(7, 72)], some (72, false)⟩, ⟨[(8, 73), (7, 72)], some (72, false)⟩, ⟨[(9, 74), (7, 72)], some (72, false)⟩, ⟨[(10, 75)], some (75, true)⟩, ⟨[(10, 75)], some (75, true)⟩, ⟨[(10, 75)], some (75, true)⟩, ⟨[(12, 77), (13, 78), (10, 75)], some (75, true)⟩, ⟨[(14, 79), (10, 75)], some (75, true)⟩, ⟨[(11, 76), (15, 80), (10, 75)], some (75, true)⟩, ⟨[(10, 75)], some (75, true)⟩, ⟨[(10, 75)], some (75, true)⟩, ⟨[(17, 82), (18, 83), (10, 75)], some (75, true)⟩, ⟨[(16, 81), (19, 84), (10, 75)], some (75, true)⟩, ⟨[(10, 75), (20, 85), (7, 72)], some (72, false)⟩, ⟨[(7, 72), (21, 86)], none⟩] (fun x y => Below x.heap.size x y) (MPat [MP.eq (vecV nxx nxy), MP.eq (vecV ax ay), MP.eq (.bool false), MP.eq (.bool false), MP.eq (.int .i64 T), MP.eq (.bool true), MP.eq (.bool true), MP.eq (.bool true), MP.eq (undef), MP.eq (undef), MP.eq (undef), MP.eq (undef), MP.eq (undef), MP.eq (undef), MP.eq (undef), MP.eq (undef), MP.eq (undef), MP.eq (undef), MP.eq (undef), MP.eq (undef), MP.eq (undef), MP.eq (undef), MP.eq (.bool true)]) (by kernel_rfl) (fun _ _ _ h k => Ext.trans h k) (fun _ => Below.refl _ _) (fun x => (Below.refl x.heap.size x).drew) (MPat.mono _) (by kernel_rfl) ?obs ?rest
                        case obs =>
                          refine ⟨?_, ?_, ?_, ?_, ?_, ?_, ?_, ?_, ?_, ?_, ?_, ?_, ?_, ?_, ?_, ?_, ?_, ?_, ?_, ?_, ?_, ?_, ?_, trivial⟩
                          · intro ev W hf _ _ hst hd
                            have e7 : ev (.tmp 7) = .pointer (some ⟨N, 0, none⟩) := hf 7 (by kernel_rfl)
                            have q0 := VRow.cell (VRow.ext VN.out hst) (k := 0) rfl
                            have q1 := VRow.cell (VRow.ext VN.out hst) (k := 1) rfl
                            exact st_value (v := vecV nxx nxy) (by simp [execOp, go_sem, e7, q0, q1, vecV]) (Below.refl _ _) rfl
                          · intro ev W hf _ _ hst hd
                            have e6 : ev (.tmp 6) = .pointer (some ⟨A, 0, none⟩) := hf 6 (by kernel_rfl)
                            have q0 := VRow.cell (VRow.ext VA.out hst) (k := 0) rfl
                            have q1 := VRow.cell (VRow.ext VA.out hst) (k := 1) rfl
                            exact st_value (v := vecV ax ay) (by simp [execOp, go_sem, e6, q0, q1, vecV]) (Below.refl _ _) rfl
                          · rintro ev W hf _ _ hst ⟨d65, d66, _⟩
                            have e65 : ev (.tmp 65) = vecV nxx nxy := d65
                            have e66 : ev (.tmp 66) = vecV ax ay := d66
                            exact st_value (v := .bool false) (by simp [execOp, go_sem, e65, e66, HNA.out, vecV]) (Below.refl _ _) rfl
                          · rintro ev W hf _ _ hst ⟨d67, _⟩
                            have e67 : ev (.tmp 67) = .bool false := d67
                            exact st_value (v := .bool false) (by simp [execOp, go_sem, e67]) (Below.refl _ _) rfl
                          · rintro ev W hf _ _ hst ⟨d68, _⟩
                            have e9 : ev (.tmp 9) = .int .i64 T := hf 9 (by kernel_rfl)
                            have e68 : ev (.tmp 68) = .bool false := d68
                            refine ⟨fun _ => ?_, fun hne => absurd e68 hne⟩
                            exact st_value (v := .int .i64 T) (by simp [execOp, go_sem, e9]) (Below.refl _ _) rfl
                          · rintro ev W hf hcst _ hst ⟨d69, d68, _⟩
                            have e69 : ev (.tmp 69) = .int .i64 T := d69
                            have e68 : ev (.tmp 68) = .bool false := d68
                            refine ⟨fun _ => ?_, fun hne => absurd e68 hne⟩
                            exact st_value (v := .bool true) (by simp [execOp, go_sem, e69, hcst, HT1.out]) (Below.refl _ _) rfl
                          · rintro ev W hf hcst _ hst ⟨d68, d70, _⟩
                            have e68 : ev (.tmp 68) = .bool false := d68
                            have e70 : ev (.tmp 70) = .bool true := d70
                            exact st_value (v := .bool true) (by simp [execOp, go_sem, e68, e70, hcst]) (Below.refl _ _) rfl
                          · rintro ev W hf _ _ hst ⟨d71, _⟩
                            have e71 : ev (.tmp 71) = .bool true := d71
                            exact st_value (v := .bool true) (by simp [execOp, go_sem, e71]) (Below.refl _ _) rfl
                          · rintro ev W hf _ _ hst ⟨d72, _⟩
                            have e72 : ev (.tmp 72) = .bool true := d72
                            exact ⟨fun hh => by simp [e72] at hh, fun _ => rfl⟩
                          · rintro ev W hf _ _ hst ⟨d73, d72, _⟩
                            have e72 : ev (.tmp 72) = .bool true := d72
                            exact ⟨fun hh => by simp [e72] at hh, fun _ => rfl⟩
                          · rintro ev W hf _ _ hst ⟨d74, d72, _⟩
                            have e72 : ev (.tmp 72) = .bool true := d72
                            exact ⟨fun hh => by simp [e72] at hh, fun _ => rfl⟩
                          · rintro ev W hf _ _ hst ⟨d75, _⟩
                            have e75 : ev (.tmp 75) = undef := d75
                            refine ⟨fun hh => ?_, fun _ => rfl⟩
                            rw [e75] at hh
                            cases hh
                          · rintro ev W hf _ _ hst ⟨d75, _⟩
                            have e75 : ev (.tmp 75) = undef := d75
                            refine ⟨fun hh => ?_, fun _ => rfl⟩
                            rw [e75] at hh
                            cases hh
                          · rintro ev W hf _ _ hst ⟨d75, _⟩
                            have e75 : ev (.tmp 75) = undef := d75
                            refine ⟨fun hh => ?_, fun _ => rfl⟩
                            rw [e75] at hh
                            cases hh
                          · rintro ev W hf _ _ hst ⟨d77, d78, d75, _⟩
                            have e75 : ev (.tmp 75) = undef := d75
                            refine ⟨fun hh => ?_, fun _ => rfl⟩
                            rw [e75] at hh
                            cases hh
                          · rintro ev W hf _ _ hst ⟨d79, d75, _⟩
                            have e75 : ev (.tmp 75) = undef := d75
                            refine ⟨fun hh => ?_, fun _ => rfl⟩
                            rw [e75] at hh
                            cases hh
                          · rintro ev W hf _ _ hst ⟨d76, d80, d75, _⟩
                            have e75 : ev (.tmp 75) = undef := d75
                            refine ⟨fun hh => ?_, fun _ => rfl⟩
                            rw [e75] at hh
                            cases hh
                          · rintro ev W hf _ _ hst ⟨d75, _⟩
                            have e75 : ev (.tmp 75) = undef := d75
                            refine ⟨fun hh => ?_, fun _ => rfl⟩
                            rw [e75] at hh
                            cases hh
                          · rintro ev W hf _ _ hst ⟨d75, _⟩
                            have e75 : ev (.tmp 75) = undef := d75
                            refine ⟨fun hh => ?_, fun _ => rfl⟩
                            rw [e75] at hh
                            cases hh
                          · rintro ev W hf _ _ hst ⟨d82, d83, d75, _⟩
                            have e75 : ev (.tmp 75) = undef := d75
                            refine ⟨fun hh => ?_, fun _ => rfl⟩
                            rw [e75] at hh
                            cases hh
                          · rintro ev W hf _ _ hst ⟨d81, d84, d75, _⟩
                            have e75 : ev (.tmp 75) = undef := d75
                            refine ⟨fun hh => ?_, fun _ => rfl⟩
                            rw [e75] at hh
                            cases hh
                          · rintro ev W hf _ _ hst ⟨d75, d85, d72, _⟩
                            have e72 : ev (.tmp 72) = .bool true := d72
                            exact ⟨fun hh => by simp [e72] at hh, fun _ => rfl⟩
                          · rintro ev W hf hcst _ hst ⟨d72, d86, _⟩
                            have e72 : ev (.tmp 72) = .bool true := d72
                            have e86 : ev (.tmp 86) = undef := d86
                            exact st_value (v := .bool true) (by simp [execOp, go_sem, e72, e86, hcst]) (Below.refl _ _) rfl
                        case rest =>
                          intro vs w3 hl hst hg
                          have HE3 := Lib.hid hst
                          have hvs : vs = [vecV nxx nxy, vecV ax ay, .bool false, .bool false, .int .i64 T, .bool true, .bool true, .bool true, undef, undef, undef, undef, undef, undef, undef, undef, undef, undef, undef, undef, undef, undef, .bool true] := vs_all hl hg
                          clear hg hst hl
                          subst hvs
                          simp only [putAll, Act.put, List.dropLast, List.setIfInBounds_toArray, List.set_cons_zero, List.set_cons_succ]
                          have C1 := Lib.hid (Ext.cell HE3.out C1.out)
                          have C2 := Lib.hid (Ext.cell HE3.out C2.out)
                          have VN := Lib.hid (VRow.ext VN.out HE3.out)
                          have VA := Lib.hid (VRow.ext VA.out HE3.out)
                          have HEq := Lib.hid (Ext.trans HEq.out HE3.out)
                          clear HE3
                          have c1 := C1.out
                          have c2 := C2.out
                          have k1 := cell_lt c1
                          have n0 := VRow.cell VN.out (k := 0) rfl
                          have n1 := VRow.cell VN.out (k := 1) rfl
                          have f0 := VRow.frozen VN.out 0 none
                          have f1 := VRow.frozen VN.out 1 none
                          have HP := Lib.hid (vec_put HEq.out VN.out HWN.out (.int .i64 qx) (.int .i64 qy))
                          have HVA5 := Lib.hid ((VRow.setOther VA.out (a := ⟨N, 0, none⟩) HAN.out (.int .i64 qx)).setOther (a := ⟨N, 1, none⟩) HAN.out (.int .i64 qy))
                          go_wp2_with fail
                          exact ⟨⟨i + 1, by simp, by omega, by rw [HS.out.1, HS.out.2]; exact HP.out.1, HVA5.out, HP.out.2⟩, by simp [intOf]; omega⟩
                  · subst hT
                    by_cases hF : F2 < F1
                    · have HS := Lib.hid (show (nextK ps at_ (i + 1)).1 = q.1 ∧ (nextK ps at_ (i + 1)).2 = q.2 from by rw [HS0.out, if_pos (.inr (.inr ⟨rfl, hF⟩))]; exact ⟨rfl, rfl⟩)
                      have HT1 := Lib.hid (show decide ((0 : Int) < 0) = false from rfl)
                      have HT2 := Lib.hid (show ((0 : Int) == 0) = true from rfl)
                      have HFF := Lib.hid (show decide (F2 < F1) = true from decide_eq_true hF)
                      clear hna HS0 hF
                      generalize q.1 = qx at *
                      generalize q.2 = qy at *
                      generalize nx.1 = nxx at *
                      generalize nx.2 = nxy at *
                      generalize at_.1 = ax at *
                      generalize at_.2 = ay at *
                      go_wp2_with fail
                      refine wp_region_stable [⟨[], none⟩, ⟨[], none⟩, ⟨[(0, 52), (1, 53)], none⟩, ⟨[(2, 54)], none⟩, ⟨[], none⟩, ⟨[(3, 55), (4, 56)], none⟩] (fun x y => Below x.heap.size x y) (MPat [MP.eq (.slice (some ⟨b, o, none⟩) n cap), MP.eq (.int .i64 (i : Int)), MP.eq (.pointer (some ⟨b, o + i * 2, none⟩)), MP.eq (vecV qx qy), MP.eq (vecV ax ay), MP.eq (.bool false)]) (by kernel_rfl) (fun _ _ _ h k => Ext.trans h k) (fun _ => Below.refl _ _) (fun x => (Below.refl x.heap.size x).drew) (MPat.mono _) (by kernel_rfl) ?obs ?rest
                      case obs =>
                        refine ⟨?_, ?_, ?_, ?_, ?_, ?_, trivial⟩
                        · intro ev W hf _ _ hst hd
                          have e0 : ev (.tmp 0) = .slice (some ⟨b, o, none⟩) n cap := hf 0 (by kernel_rfl)
                          exact st_value (v := .slice (some ⟨b, o, none⟩) n cap) (by simp [execOp, go_sem, e0]) (Below.refl _ _) rfl
                        · intro ev W hf _ _ hst hd
                          have e8 : ev (.tmp 8) = .int .i64 (i : Int) := hf 8 (by kernel_rfl)
                          exact st_value (v := .int .i64 (i : Int)) (by simp [execOp, go_sem, e8]) (Below.refl _ _) rfl
                        · rintro ev W hf _ _ hst ⟨d52, d53, _⟩
                          have e52 : ev (.tmp 52) = .slice (some ⟨b, o, none⟩) n cap := d52
                          have e53 : ev (.tmp 53) = .int .i64 (i : Int) := d53
                          exact st_value (v := .pointer (some ⟨b, o + i * 2, none⟩)) (by simp [execOp, go_sem, e52, e53, hil]) (Below.refl _ _) rfl
                        · rintro ev W hf _ _ hst ⟨d54, _⟩
                          have e54 : ev (.tmp 54) = .pointer (some ⟨b, o + i * 2, none⟩) := d54
                          have q0 := Ext.cell hst C1.out
                          have q1 := Ext.cell hst C2.out
                          exact st_value (v := vecV qx qy) (by simp [execOp, go_sem, e54, q0, q1, vecV]) (Below.refl _ _) rfl
                        · intro ev W hf _ _ hst hd
                          have e6 : ev (.tmp 6) = .pointer (some ⟨A, 0, none⟩) := hf 6 (by kernel_rfl)
                          have q0 := VRow.cell (VRow.ext VA.out hst) (k := 0) rfl
                          have q1 := VRow.cell (VRow.ext VA.out hst) (k := 1) rfl
                          exact st_value (v := vecV ax ay) (by simp [execOp, go_sem, e6, q0, q1, vecV]) (Below.refl _ _) rfl
                        · rintro ev W hf _ _ hst ⟨d55, d56, _⟩
                          have e55 : ev (.tmp 55) = vecV qx qy := d55
                          have e56 : ev (.tmp 56) = vecV ax ay := d56
                          exact st_value (v := .bool false) (by simp [execOp, go_sem, e55, e56, HQA.out, vecV]) (Below.refl _ _) rfl
                      case rest =>
                        intro vs w3 hl hst hg
                        have HE3 := Lib.hid hst
                        have hvs : vs = [.slice (some ⟨b, o, none⟩) n cap, .int .i64 (i : Int), .pointer (some ⟨b, o + i * 2, none⟩), vecV qx qy, vecV ax ay, .bool false] := vs_all hl hg
                        clear hg hst hl
                        subst hvs
                        simp only [putAll, Act.put, List.dropLast, List.setIfInBounds_toArray, List.set_cons_zero, List.set_cons_succ]
                        have C1 := Lib.hid (Ext.cell HE3.out C1.out)
                        have C2 := Lib.hid (Ext.cell HE3.out C2.out)
                        have VN := Lib.hid (VRow.ext VN.out HE3.out)
                        have VA := Lib.hid (VRow.ext VA.out HE3.out)
                        have HEq := Lib.hid (Ext.trans HEq.out HE3.out)
                        clear HE3
                        go_wp2_with fail
                        refine wp_region_stable_last [⟨[], none⟩, ⟨[], none⟩, ⟨[], none⟩, ⟨[], none⟩, ⟨[(2, 60), (3, 61)], none⟩, ⟨[(4, 62)], none⟩, ⟨[(0, 58), (1, 59), (5, 63)], none⟩] (fun x y => Below x.heap.size x y) (MPat [MP.eq (vecV ax ay), MP.eq (vecV nxx nxy), MP.eq (.slice (some ⟨b, o, none⟩) n cap), MP.eq (.int .i64 (i : Int)), MP.eq (.pointer (some ⟨b, o + i * 2, none⟩)), MP.eq (vecV qx qy), MP.eq (.int .i64 0)]) rfl (by kernel_rfl) (fun _ _ _ h k => Ext.trans h k) (fun _ => Below.refl _ _) (fun x => (Below.refl x.heap.size x).drew) (MPat.mono _) (by kernel_rfl) (by kernel_rfl) (by kernel_rfl) ?obs ?rest
                        case obs =>
                          refine ⟨?_, ?_, ?_, ?_, ?_, ?_, ?_, trivial⟩
                          · intro ev W hf _ _ hst hd
                            have e6 : ev (.tmp 6) = .pointer (some ⟨A, 0, none⟩) := hf 6 (by kernel_rfl)
                            have q0 := VRow.cell (VRow.ext VA.out hst) (k := 0) rfl
                            have q1 := VRow.cell (VRow.ext VA.out hst) (k := 1) rfl
                            exact st_value (v := vecV ax ay) (by simp [execOp, go_sem, e6, q0, q1, vecV]) (Below.refl _ _) rfl
                          · intro ev W hf _ _ hst hd
                            have e7 : ev (.tmp 7) = .pointer (some ⟨N, 0, none⟩) := hf 7 (by kernel_rfl)
                            have q0 := VRow.cell (VRow.ext VN.out hst) (k := 0) rfl
                            have q1 := VRow.cell (VRow.ext VN.out hst) (k := 1) rfl
                            exact st_value (v := vecV nxx nxy) (by simp [execOp, go_sem, e7, q0, q1, vecV]) (Below.refl _ _) rfl
                          · intro ev W hf _ _ hst hd
                            have e0 : ev (.tmp 0) = .slice (some ⟨b, o, none⟩) n cap := hf 0 (by kernel_rfl)
                            exact st_value (v := .slice (some ⟨b, o, none⟩) n cap) (by simp [execOp, go_sem, e0]) (Below.refl _ _) rfl
                          · intro ev W hf _ _ hst hd
                            have e8 : ev (.tmp 8) = .int .i64 (i : Int) := hf 8 (by kernel_rfl)
                            exact st_value (v := .int .i64 (i : Int)) (by simp [execOp, go_sem, e8]) (Below.refl _ _) rfl
                          · rintro ev W hf _ _ hst ⟨d60, d61, _⟩
                            have e60 : ev (.tmp 60) = .slice (some ⟨b, o, none⟩) n cap := d60
                            have e61 : ev (.tmp 61) = .int .i64 (i : Int) := d61
                            exact st_value (v := .pointer (some ⟨b, o + i * 2, none⟩)) (by simp [execOp, go_sem, e60, e61, hil]) (Below.refl _ _) rfl
                          · rintro ev W hf _ _ hst ⟨d62, _⟩
                            have e62 : ev (.tmp 62) = .pointer (some ⟨b, o + i * 2, none⟩) := d62
                            have q0 := Ext.cell hst C1.out
                            have q1 := Ext.cell hst C2.out
                            exact st_value (v := vecV qx qy) (by simp [execOp, go_sem, e62, q0, q1, vecV]) (Below.refl _ _) rfl
                          · rintro ev W hf _ hfn hst ⟨d58, d59, d63, _⟩
                            have e58 : ev (.tmp 58) = vecV ax ay := d58
                            have e59 : ev (.tmp 59) = vecV nxx nxy := d59
                            have e63 : ev (.tmp 63) = vecV qx qy := d63
                            refine st_call (f := 118) (args := #[vecV ax ay, vecV nxx nxy, vecV qx qy]) (by simp [execOp, go_sem, hfn, e58, e59, e63]) (HTW.out W) (fun _ _ => rfl)
                        case rest =>
                          intro vs w3 hl hst hg
                          have HE3 := Lib.hid hst
                          have hvs : vs = [vecV ax ay, vecV nxx nxy, .slice (some ⟨b, o, none⟩) n cap, .int .i64 (i : Int), .pointer (some ⟨b, o + i * 2, none⟩), vecV qx qy, .int .i64 0] := vs_all hl hg
                          clear hg hst hl
                          subst hvs
                          simp only [putAll, Act.put, List.dropLast, List.setIfInBounds_toArray, List.set_cons_zero, List.set_cons_succ]
                          have C1 := Lib.hid (Ext.cell HE3.out C1.out)
                          have C2 := Lib.hid (Ext.cell HE3.out C2.out)
                          have VN := Lib.hid (VRow.ext VN.out HE3.out)
                          have VA := Lib.hid (VRow.ext VA.out HE3.out)
                          have HEq := Lib.hid (Ext.trans HEq.out HE3.out)
                          clear HE3
                          go_wp2_with fail
                          refine wp_region_stable [⟨[], none⟩, ⟨[], none⟩, ⟨[(0, 65), (1, 66)], none⟩, ⟨[(2, 67)], none⟩, ⟨[(3, 68)], some (68, false)⟩, ⟨[(4, 69), (3, 68)], some (68, false)⟩, ⟨[(3, 68), (5, 70)], none⟩, ⟨[(6, 71)], none⟩, ⟨[(7, 72)], some (72, false)⟩, ⟨[(8, 73), (7, 72)], some (72, false)⟩, ⟨[(9, 74), (7, 72)], some (72, false)⟩, ⟨[(10, 75)], some (75, true)⟩, ⟨[(10, 75)], some (75, true)⟩, ⟨[(10, 75)], some (75, true)⟩, ⟨[(12, 77), (13, 78), (10, 75)], some (75, true)⟩, ⟨[(14, 79), (10, 75)], some (75, true)⟩, ⟨[(11, 76), (15, 80), (10, 75)], some (75, true)⟩, ⟨[(10, 75)], some (75, true)⟩, ⟨[(10, 75)], some (75, true)⟩, ⟨[(17, 82), (18, 83), (10, 75)], some (75, true)⟩, ⟨[(16, 81), (19, 84), (10, 75)], some (75, true)⟩, ⟨[(10, 75), (20, 85), (7, 72)], some (72, false)⟩, ⟨[(7, 72), (21, 86)], none⟩] (fun x y => Below x.heap.size x y) (MPat [MP.eq (vecV nxx nxy), MP.eq (vecV ax ay), MP.eq (.bool false), MP.eq (.bool false), MP.eq (.int .i64 0), MP.eq (.bool false), MP.eq (.bool false), MP.eq (.bool false), MP.eq (.int .i64 0), MP.eq (.bool true), MP.eq (.bool true), MP.eq (vecV ax ay), MP.eq (.slice (some ⟨b, o, none⟩) n cap), MP.eq (.int .i64 (i : Int)), MP.eq (.pointer (some ⟨b, o + i * 2, none⟩)), MP.eq (vecV qx qy), MP.eq (.int .i64 F1), MP.eq (vecV ax ay), MP.eq (vecV nxx nxy), MP.eq (.int .i64 F2), MP.eq (.bool true), MP.eq (.bool true), MP.eq (.bool true)]) (by kernel_rfl) (fun _ _ _ h k => Ext.trans h k) (fun _ => Below.refl _ _) (fun x => (Below.refl x.heap.size x).drew) (MPat.mono _) (by kernel_rfl) ?obs ?rest
                          case obs =>
                            refine ⟨?_, ?_, ?_, ?_, ?_, ?_, ?_, ?_, ?_, ?_, ?_, ?_, ?_, ?_, ?_, ?_, ?_, ?_, ?_, ?_, ?_, ?_, ?_, trivial⟩
                            · intro ev W hf _ _ hst hd
                              have e7 : ev (.tmp 7) = .pointer (some ⟨N, 0, none⟩) := hf 7 (by kernel_rfl)
                              have q0 := VRow.cell (VRow.ext VN.out hst) (k := 0) rfl
                              have q1 := VRow.cell (VRow.ext VN.out hst) (k := 1) rfl
                              exact st_value (v := vecV nxx nxy) (by simp [execOp, go_sem, e7, q0, q1, vecV]) (Below.refl _ _) rfl
                            · intro ev W hf _ _ hst hd
                              have e6 : ev (.tmp 6) = .pointer (some ⟨A, 0, none⟩) := hf 6 (by kernel_rfl)
                              have q0 := VRow.cell (VRow.ext VA.out hst) (k := 0) rfl
                              have q1 := VRow.cell (VRow.ext VA.out hst) (k := 1) rfl
                              exact st_value (v := vecV ax ay) (by simp [execOp, go_sem, e6, q0, q1, vecV]) (Below.refl _ _) rfl
                            · rintro ev W hf _ _ hst ⟨d65, d66, _⟩
                              have e65 : ev (.tmp 65) = vecV nxx nxy := d65
                              have e66 : ev (.tmp 66) = vecV ax ay := d66
                              exact st_value (v := .bool false) (by simp [execOp, go_sem, e65, e66, HNA.out, vecV]) (Below.refl _ _) rfl
                            · rintro ev W hf _ _ hst ⟨d67, _⟩
                              have e67 : ev (.tmp 67) = .bool false := d67
                              exact st_value (v := .bool false) (by simp [execOp, go_sem, e67]) (Below.refl _ _) rfl
                            · rintro ev W hf _ _ hst ⟨d68, _⟩
                              have e9 : ev (.tmp 9) = .int .i64 0 := hf 9 (by kernel_rfl)
                              have e68 : ev (.tmp 68) = .bool false := d68
                              refine ⟨fun _ => ?_, fun hne => absurd e68 hne⟩
                              exact st_value (v := .int .i64 0) (by simp [execOp, go_sem, e9]) (Below.refl _ _) rfl
                            · rintro ev W hf hcst _ hst ⟨d69, d68, _⟩
                              have e69 : ev (.tmp 69) = .int .i64 0 := d69
                              have e68 : ev (.tmp 68) = .bool false := d68
                              refine ⟨fun _ => ?_, fun hne => absurd e68 hne⟩
                              exact st_value (v := .bool false) (by simp [execOp, go_sem, e69, hcst, HT1.out]) (Below.refl _ _) rfl
                            · rintro ev W hf hcst _ hst ⟨d68, d70, _⟩
                              have e68 : ev (.tmp 68) = .bool false := d68
                              have e70 : ev (.tmp 70) = .bool false := d70
                              exact st_value (v := .bool false) (by simp [execOp, go_sem, e68, e70, hcst]) (Below.refl _ _) rfl
                            · rintro ev W hf _ _ hst ⟨d71, _⟩
                              have e71 : ev (.tmp 71) = .bool false := d71
                              exact st_value (v := .bool false) (by simp [execOp, go_sem, e71]) (Below.refl _ _) rfl
                            · rintro ev W hf _ _ hst ⟨d72, _⟩
                              have e9 : ev (.tmp 9) = .int .i64 0 := hf 9 (by kernel_rfl)
                              have e72 : ev (.tmp 72) = .bool false := d72
                              refine ⟨fun _ => ?_, fun hne => absurd e72 hne⟩
                              exact st_value (v := .int .i64 0) (by simp [execOp, go_sem, e9]) (Below.refl _ _) rfl
                            · rintro ev W hf hcst _ hst ⟨d73, d72, _⟩
                              have e73 : ev (.tmp 73) = .int .i64 0 := d73
                              have e72 : ev (.tmp 72) = .bool false := d72
                              refine ⟨fun _ => ?_, fun hne => absurd e72 hne⟩
                              exact st_value (v := .bool true) (by simp [execOp, go_sem, e73, hcst, HT2.out]) (Below.refl _ _) rfl
                            · rintro ev W hf _ _ hst ⟨d74, d72, _⟩
                              have e74 : ev (.tmp 74) = .bool true := d74
                              have e72 : ev (.tmp 72) = .bool false := d72
                              refine ⟨fun _ => ?_, fun hne => absurd e72 hne⟩
                              exact st_value (v := .bool true) (by simp [execOp, go_sem, e74]) (Below.refl _ _) rfl
                            · rintro ev W hf _ _ hst ⟨d75, _⟩
                              have e6 : ev (.tmp 6) = .pointer (some ⟨A, 0, none⟩) := hf 6 (by kernel_rfl)
                              have e75 : ev (.tmp 75) = .bool true := d75
                              refine ⟨fun _ => ?_, fun hne => absurd e75 hne⟩
                              have q0 := VRow.cell (VRow.ext VA.out hst) (k := 0) rfl
                              have q1 := VRow.cell (VRow.ext VA.out hst) (k := 1) rfl
                              exact st_value (v := vecV ax ay) (by simp [execOp, go_sem, e6, q0, q1, vecV]) (Below.refl _ _) rfl
                            · rintro ev W hf _ _ hst ⟨d75, _⟩
                              have e0 : ev (.tmp 0) = .slice (some ⟨b, o, none⟩) n cap := hf 0 (by kernel_rfl)
                              have e75 : ev (.tmp 75) = .bool true := d75
                              refine ⟨fun _ => ?_, fun hne => absurd e75 hne⟩
                              exact st_value (v := .slice (some ⟨b, o, none⟩) n cap) (by simp [execOp, go_sem, e0]) (Below.refl _ _) rfl
                            · rintro ev W hf _ _ hst ⟨d75, _⟩
                              have e8 : ev (.tmp 8) = .int .i64 (i : Int) := hf 8 (by kernel_rfl)
                              have e75 : ev (.tmp 75) = .bool true := d75
                              refine ⟨fun _ => ?_, fun hne => absurd e75 hne⟩
                              exact st_value (v := .int .i64 (i : Int)) (by simp [execOp, go_sem, e8]) (Below.refl _ _) rfl
                            · rintro ev W hf _ _ hst ⟨d77, d78, d75, _⟩
                              have e77 : ev (.tmp 77) = .slice (some ⟨b, o, none⟩) n cap := d77
                              have e78 : ev (.tmp 78) = .int .i64 (i : Int) := d78
                              have e75 : ev (.tmp 75) = .bool true := d75
                              refine ⟨fun _ => ?_, fun hne => absurd e75 hne⟩
                              exact st_value (v := .pointer (some ⟨b, o + i * 2, none⟩)) (by simp [execOp, go_sem, e77, e78, hil]) (Below.refl _ _) rfl
                            · rintro ev W hf _ _ hst ⟨d79, d75, _⟩
                              have e79 : ev (.tmp 79) = .pointer (some ⟨b, o + i * 2, none⟩) := d79
                              have e75 : ev (.tmp 75) = .bool true := d75
                              refine ⟨fun _ => ?_, fun hne => absurd e75 hne⟩
                              have q0 := Ext.cell hst C1.out
                              have q1 := Ext.cell hst C2.out
                              exact st_value (v := vecV qx qy) (by simp [execOp, go_sem, e79, q0, q1, vecV]) (Below.refl _ _) rfl
                            · rintro ev W hf _ hfn hst ⟨d76, d80, d75, _⟩
                              have e76 : ev (.tmp 76) = vecV ax ay := d76
                              have e80 : ev (.tmp 80) = vecV qx qy := d80
                              have e75 : ev (.tmp 75) = .bool true := d75
                              refine ⟨fun _ => ?_, fun hne => absurd e75 hne⟩
                              refine st_call (f := 150) (args := #[vecV ax ay, vecV qx qy]) (by simp [execOp, go_sem, hfn, e76, e80]) (HF1.out W) (fun _ _ => rfl)
                            · rintro ev W hf _ _ hst ⟨d75, _⟩
                              have e6 : ev (.tmp 6) = .pointer (some ⟨A, 0, none⟩) := hf 6 (by kernel_rfl)
                              have e75 : ev (.tmp 75) = .bool true := d75
                              refine ⟨fun _ => ?_, fun hne => absurd e75 hne⟩
                              have q0 := VRow.cell (VRow.ext VA.out hst) (k := 0) rfl
                              have q1 := VRow.cell (VRow.ext VA.out hst) (k := 1) rfl
                              exact st_value (v := vecV ax ay) (by simp [execOp, go_sem, e6, q0, q1, vecV]) (Below.refl _ _) rfl
                            · rintro ev W hf _ _ hst ⟨d75, _⟩
                              have e7 : ev (.tmp 7) = .pointer (some ⟨N, 0, none⟩) := hf 7 (by kernel_rfl)
                              have e75 : ev (.tmp 75) = .bool true := d75
                              refine ⟨fun _ => ?_, fun hne => absurd e75 hne⟩
                              have q0 := VRow.cell (VRow.ext VN.out hst) (k := 0) rfl
                              have q1 := VRow.cell (VRow.ext VN.out hst) (k := 1) rfl
                              exact st_value (v := vecV nxx nxy) (by simp [execOp, go_sem, e7, q0, q1, vecV]) (Below.refl _ _) rfl
                            · rintro ev W hf _ hfn hst ⟨d82, d83, d75, _⟩
                              have e82 : ev (.tmp 82) = vecV ax ay := d82
                              have e83 : ev (.tmp 83) = vecV nxx nxy := d83
                              have e75 : ev (.tmp 75) = .bool true := d75
                              refine ⟨fun _ => ?_, fun hne => absurd e75 hne⟩
                              refine st_call (f := 150) (args := #[vecV ax ay, vecV nxx nxy]) (by simp [execOp, go_sem, hfn, e82, e83]) (HF2.out W) (fun _ _ => rfl)
                            · rintro ev W hf _ _ hst ⟨d81, d84, d75, _⟩
                              have e81 : ev (.tmp 81) = .int .i64 F1 := d81
                              have e84 : ev (.tmp 84) = .int .i64 F2 := d84
                              have e75 : ev (.tmp 75) = .bool true := d75
                              refine ⟨fun _ => ?_, fun hne => absurd e75 hne⟩
                              exact st_value (v := .bool true) (by simp [execOp, go_sem, e81, e84, HFF.out]) (Below.refl _ _) rfl
                            · rintro ev W hf hcst _ hst ⟨d75, d85, d72, _⟩
                              have e75 : ev (.tmp 75) = .bool true := d75
                              have e85 : ev (.tmp 85) = .bool true := d85
                              have e72 : ev (.tmp 72) = .bool false := d72
                              refine ⟨fun _ => ?_, fun hne => absurd e72 hne⟩
                              exact st_value (v := .bool true) (by simp [execOp, go_sem, e75, e85, hcst]) (Below.refl _ _) rfl
                            · rintro ev W hf hcst _ hst ⟨d72, d86, _⟩
                              have e72 : ev (.tmp 72) = .bool false := d72
                              have e86 : ev (.tmp 86) = .bool true := d86
                              exact st_value (v := .bool true) (by simp [execOp, go_sem, e72, e86, hcst]) (Below.refl _ _) rfl
                          case rest =>
                            intro vs w3 hl hst hg
                            have HE3 := Lib.hid hst
                            have hvs : vs = [vecV nxx nxy, vecV ax ay, .bool false, .bool false, .int .i64 0, .bool false, .bool false, .bool false, .int .i64 0, .bool true, .bool true, vecV ax ay, .slice (some ⟨b, o, none⟩) n cap, .int .i64 (i : Int), .pointer (some ⟨b, o + i * 2, none⟩), vecV qx qy, .int .i64 F1, vecV ax ay, vecV nxx nxy, .int .i64 F2, .bool true, .bool true, .bool true] := vs_all hl hg
                            clear hg hst hl
                            subst hvs
                            simp only [putAll, Act.put, List.dropLast, List.setIfInBounds_toArray, List.set_cons_zero, List.set_cons_succ]
                            have C1 := Lib.hid (Ext.cell HE3.out C1.out)
                            have C2 := Lib.hid (Ext.cell HE3.out C2.out)
                            have VN := Lib.hid (VRow.ext VN.out HE3.out)
                            have VA := Lib.hid (VRow.ext VA.out HE3.out)
                            have HEq := Lib.hid (Ext.trans HEq.out HE3.out)
                            clear HE3
                            have c1 := C1.out
                            have c2 := C2.out
                            have k1 := cell_lt c1
                            have n0 := VRow.cell VN.out (k := 0) rfl
                            have n1 := VRow.cell VN.out (k := 1) rfl
                            have f0 := VRow.frozen VN.out 0 none
                            have f1 := VRow.frozen VN.out 1 none
                            have HP := Lib.hid (vec_put HEq.out VN.out HWN.out (.int .i64 qx) (.int .i64 qy))
                            have HVA5 := Lib.hid ((VRow.setOther VA.out (a := ⟨N, 0, none⟩) HAN.out (.int .i64 qx)).setOther (a := ⟨N, 1, none⟩) HAN.out (.int .i64 qy))
                            go_wp2_with fail
                            exact ⟨⟨i + 1, by simp, by omega, by rw [HS.out.1, HS.out.2]; exact HP.out.1, HVA5.out, HP.out.2⟩, by simp [intOf]; omega⟩
                    · have HS := Lib.hid (show (nextK ps at_ (i + 1)).1 = nx.1 ∧ (nextK ps at_ (i + 1)).2 = nx.2 from by rw [HS0.out, if_neg (fun h => h.elim hna fun h => h.elim (fun h => absurd h (by decide)) fun h => hF h.2)]; exact ⟨rfl, rfl⟩)
                      have HT1 := Lib.hid (show decide ((0 : Int) < 0) = false from rfl)
                      have HT2 := Lib.hid (show ((0 : Int) == 0) = true from rfl)
                      have HFF := Lib.hid (show decide (F2 < F1) = false from decide_eq_false hF)
                      clear hna HS0 hF
                      generalize q.1 = qx at *
                      generalize q.2 = qy at *
                      generalize nx.1 = nxx at *
                      generalize nx.2 = nxy at *
                      generalize at_.1 = ax at *
                      generalize at_.2 = ay at *
                      go_wp2_with fail
                      refine wp_region_stable [⟨[], none⟩, ⟨[], none⟩, ⟨[(0, 52), (1, 53)], none⟩, ⟨[(2, 54)], none⟩, ⟨[], none⟩, ⟨[(3, 55), (4, 56)], none⟩] (fun x y => Below x.heap.size x y) (MPat [MP.eq (.slice (some ⟨b, o, none⟩) n cap), MP.eq (.int .i64 (i : Int)), MP.eq (.pointer (some ⟨b, o + i * 2, none⟩)), MP.eq (vecV qx qy), MP.eq (vecV ax ay), MP.eq (.bool false)]) (by kernel_rfl) (fun _ _ _ h k => Ext.trans h k) (fun _ => Below.refl _ _) (fun x => (Below.refl x.heap.size x).drew) (MPat.mono _) (by kernel_rfl) ?obs ?rest
                      case obs =>
                        refine ⟨?_, ?_, ?_, ?_, ?_, ?_, trivial⟩
                        · intro ev W hf _ _ hst hd
                          have e0 : ev (.tmp 0) = .slice (some ⟨b, o, none⟩) n cap := hf 0 (by kernel_rfl)
                          exact st_value (v := .slice (some ⟨b, o, none⟩) n cap) (by simp [execOp, go_sem, e0]) (Below.refl _ _) rfl
                        · intro ev W hf _ _ hst hd
                          have e8 : ev (.tmp 8) = .int .i64 (i : Int) := hf 8 (by kernel_rfl)
                          exact st_value (v := .int .i64 (i : Int)) (by simp [execOp, go_sem, e8]) (Below.refl _ _) rfl
                        · rintro ev W hf _ _ hst ⟨d52, d53, _⟩
                          have e52 : ev (.tmp 52) = .slice (some ⟨b, o, none⟩) n cap := d52
                          have e53 : ev (.tmp 53) = .int .i64 (i : Int) := d53
                          exact st_value (v := .pointer (some ⟨b, o + i * 2, none⟩)) (by simp [execOp, go_sem, e52, e53, hil]) (Below.refl _ _) rfl
                        · rintro ev W hf _ _ hst ⟨d54, _⟩
                          have e54 : ev (.tmp 54) = .pointer (some ⟨b, o + i * 2, none⟩) := d54
                          have q0 := Ext.cell hst C1.out
                          have q1 := Ext.cell hst C2.out
                          exact st_value (v := vecV qx qy) (by simp [execOp, go_sem, e54, q0, q1, vecV]) (Below.refl _ _) rfl
                        · intro ev W hf _ _ hst hd
                          have e6 : ev (.tmp 6) = .pointer (some ⟨A, 0, none⟩) := hf 6 (by kernel_rfl)
                          have q0 := VRow.cell (VRow.ext VA.out hst) (k := 0) rfl
                          have q1 := VRow.cell (VRow.ext VA.out hst) (k := 1) rfl
                          exact st_value (v := vecV ax ay) (by simp [execOp, go_sem, e6, q0, q1, vecV]) (Below.refl _ _) rfl
                        · rintro ev W hf _ _ hst ⟨d55, d56, _⟩
                          have e55 : ev (.tmp 55) = vecV qx qy := d55
                          have e56 : ev (.tmp 56) = vecV ax ay := d56
                          exact st_value (v := .bool false) (by simp [execOp, go_sem, e55, e56, HQA.out, vecV]) (Below.refl _ _) rfl
                      case rest =>
                        intro vs w3 hl hst hg
                        have HE3 := Lib.hid hst
                        have hvs : vs = [.slice (some ⟨b, o, none⟩) n cap, .int .i64 (i : Int), .pointer (some ⟨b, o + i * 2, none⟩), vecV qx qy, vecV ax ay, .bool false] := vs_all hl hg
                        clear hg hst hl
                        subst hvs
                        simp only [putAll, Act.put, List.dropLast, List.setIfInBounds_toArray, List.set_cons_zero, List.set_cons_succ]
                        have C1 := Lib.hid (Ext.cell HE3.out C1.out)
                        have C2 := Lib.hid (Ext.cell HE3.out C2.out)
                        have VN := Lib.hid (VRow.ext VN.out HE3.out)
                        have VA := Lib.hid (VRow.ext VA.out HE3.out)
                        have HEq := Lib.hid (Ext.trans HEq.out HE3.out)
                        clear HE3
                        go_wp2_with fail
                        refine wp_region_stable_last [⟨[], none⟩, ⟨[], none⟩, ⟨[], none⟩, ⟨[], none⟩, ⟨[(2, 60), (3, 61)], none⟩, ⟨[(4, 62)], none⟩, ⟨[(0, 58), (1, 59), (5, 63)], none⟩] (fun x y => Below x.heap.size x y) (MPat [MP.eq (vecV ax ay), MP.eq (vecV nxx nxy), MP.eq (.slice (some ⟨b, o, none⟩) n cap), MP.eq (.int .i64 (i : Int)), MP.eq (.pointer (some ⟨b, o + i * 2, none⟩)), MP.eq (vecV qx qy), MP.eq (.int .i64 0)]) rfl (by kernel_rfl) (fun _ _ _ h k => Ext.trans h k) (fun _ => Below.refl _ _) (fun x => (Below.refl x.heap.size x).drew) (MPat.mono _) (by kernel_rfl) (by kernel_rfl) (by kernel_rfl) ?obs ?rest
                        case obs =>
                          refine ⟨?_, ?_, ?_, ?_, ?_, ?_, ?_, trivial⟩
                          · intro ev W hf _ _ hst hd
                            have e6 : ev (.tmp 6) = .pointer (some ⟨A, 0, none⟩) := hf 6 (by kernel_rfl)
                            have q0 := VRow.cell (VRow.ext VA.out hst) (k := 0) rfl
                            have q1 := VRow.cell (VRow.ext VA.out hst) (k := 1) rfl
                            exact st_value (v := vecV ax ay) (by simp [execOp, go_sem, e6, q0, q1, vecV]) (Below.refl _ _) rfl
                          · intro ev W hf _ _ hst hd
                            have e7 : ev (.tmp 7) = .pointer (some ⟨N, 0, none⟩) := hf 7 (by kernel_rfl)
                            have q0 := VRow.cell (VRow.ext VN.out hst) (k := 0) rfl
                            have q1 := VRow.cell (VRow.ext VN.out hst) (k := 1) rfl
                            exact st_value (v := vecV nxx nxy) (by simp [execOp, go_sem, e7, q0, q1, vecV]) (Below.refl _ _) rfl
                          · intro ev W hf _ _ hst hd
                            have e0 : ev (.tmp 0) = .slice (some ⟨b, o, none⟩) n cap := hf 0 (by kernel_rfl)
                            exact st_value (v := .slice (some ⟨b, o, none⟩) n cap) (by simp [execOp, go_sem, e0]) (Below.refl _ _) rfl
                          · intro ev W hf _ _ hst hd
                            have e8 : ev (.tmp 8) = .int .i64 (i : Int) := hf 8 (by kernel_rfl)
                            exact st_value (v := .int .i64 (i : Int)) (by simp [execOp, go_sem, e8]) (Below.refl _ _) rfl
                          · rintro ev W hf _ _ hst ⟨d60, d61, _⟩
                            have e60 : ev (.tmp 60) = .slice (some ⟨b, o, none⟩) n cap := d60
                            have e61 : ev (.tmp 61) = .int .i64 (i : Int) := d61
                            exact st_value (v := .pointer (some ⟨b, o + i * 2, none⟩)) (by simp [execOp, go_sem, e60, e61, hil]) (Below.refl _ _) rfl
                          · rintro ev W hf _ _ hst ⟨d62, _⟩
                            have e62 : ev (.tmp 62) = .pointer (some ⟨b, o + i * 2, none⟩) := d62
                            have q0 := Ext.cell hst C1.out
                            have q1 := Ext.cell hst C2.out
                            exact st_value (v := vecV qx qy) (by simp [execOp, go_sem, e62, q0, q1, vecV]) (Below.refl _ _) rfl
                          · rintro ev W hf _ hfn hst ⟨d58, d59, d63, _⟩
                            have e58 : ev (.tmp 58) = vecV ax ay := d58
                            have e59 : ev (.tmp 59) = vecV nxx nxy := d59
                            have e63 : ev (.tmp 63) = vecV qx qy := d63
                            refine st_call (f := 118) (args := #[vecV ax ay, vecV nxx nxy, vecV qx qy]) (by simp [execOp, go_sem, hfn, e58, e59, e63]) (HTW.out W) (fun _ _ => rfl)
                        case rest =>
                          intro vs w3 hl hst hg
                          have HE3 := Lib.hid hst
                          have hvs : vs = [vecV ax ay, vecV nxx nxy, .slice (some ⟨b, o, none⟩) n cap, .int .i64 (i : Int), .pointer (some ⟨b, o + i * 2, none⟩), vecV qx qy, .int .i64 0] := vs_all hl hg
                          clear hg hst hl
                          subst hvs
                          simp only [putAll, Act.put, List.dropLast, List.setIfInBounds_toArray, List.set_cons_zero, List.set_cons_succ]
                          have C1 := Lib.hid (Ext.cell HE3.out C1.out)
                          have C2 := Lib.hid (Ext.cell HE3.out C2.out)
                          have VN := Lib.hid (VRow.ext VN.out HE3.out)
                          have VA := Lib.hid (VRow.ext VA.out HE3.out)
                          have HEq := Lib.hid (Ext.trans HEq.out HE3.out)
                          clear HE3
                          go_wp2_with fail
                          refine wp_region_stable [⟨[], none⟩, ⟨[], none⟩, ⟨[(0, 65), (1, 66)], none⟩, ⟨[(2, 67)], none⟩, ⟨[(3, 68)], some (68, false)⟩, ⟨[(4, 69), (3, 68)], some (68, false)⟩, ⟨[(3, 68), (5, 70)], none⟩, ⟨[(6, 71)], none⟩, ⟨[(7, 72)], some (72, false)⟩, ⟨[(8, 73), (7, 72)], some (72, false)⟩, ⟨[(9, 74), (7, 72)], some (72, false)⟩, ⟨[(10, 75)], some (75, true)⟩, ⟨[(10, 75)], some (75, true)⟩, ⟨[(10, 75)], some (75, true)⟩, ⟨[(12, 77), (13, 78), (10, 75)], some (75, true)⟩, ⟨[(14, 79), (10, 75)], some (75, true)⟩, ⟨[(11, 76), (15, 80), (10, 75)], some (75, true)⟩, ⟨[(10, 75)], some (75, true)⟩, ⟨[(10, 75)], some (75, true)⟩, ⟨[(17, 82), (18, 83), (10, 75)], some (75, true)⟩, ⟨[(16, 81), (19, 84), (10, 75)], some (75, true)⟩, ⟨[(10, 75), (20, 85), (7, 72)], some (72, false)⟩, ⟨[(7, 72), (21, 86)], none⟩] (fun x y => Below x.heap.size x y) (MPat [MP.eq (vecV nxx nxy), MP.eq (vecV ax ay), MP.eq (.bool false), MP.eq (.bool false), MP.eq (.int .i64 0), MP.eq (.bool false), MP.eq (.bool false), MP.eq (.bool false), MP.eq (.int .i64 0), MP.eq (.bool true), MP.eq (.bool true), MP.eq (vecV ax ay), MP.eq (.slice (some ⟨b, o, none⟩) n cap), MP.eq (.int .i64 (i : Int)), MP.eq (.pointer (some ⟨b, o + i * 2, none⟩)), MP.eq (vecV qx qy), MP.eq (.int .i64 F1), MP.eq (vecV ax ay), MP.eq (vecV nxx nxy), MP.eq (.int .i64 F2), MP.eq (.bool false), MP.eq (.bool false), MP.eq (.bool false)]) (by kernel_rfl) (fun _ _ _ h k => Ext.trans h k) (fun _ => Below.refl _ _) (fun x => (Below.refl x.heap.size x).drew) (MPat.mono _) (by kernel_rfl) ?obs ?rest
                          case obs =>
                            refine ⟨?_, ?_, ?_, ?_, ?_, ?_, ?_, ?_, ?_, ?_, ?_, ?_, ?_, ?_, ?_, ?_, ?_, ?_, ?_, ?_, ?_, ?_, ?_, trivial⟩
                            · intro ev W hf _ _ hst hd
                              have e7 : ev (.tmp 7) = .pointer (some ⟨N, 0, none⟩) := hf 7 (by kernel_rfl)
                              have q0 := VRow.cell (VRow.ext VN.out hst) (k := 0) rfl
                              have q1 := VRow.cell (VRow.ext VN.out hst) (k := 1) rfl
                              exact st_value (v := vecV nxx nxy) (by simp [execOp, go_sem, e7, q0, q1, vecV]) (Below.refl _ _) rfl
                            · intro ev W hf _ _ hst hd
                              have e6 : ev (.tmp 6) = .pointer (some ⟨A, 0, none⟩) := hf 6 (by kernel_rfl)
                              have q0 := VRow.cell (VRow.ext VA.out hst) (k := 0) rfl
                              have q1 := VRow.cell (VRow.ext VA.out hst) (k := 1) rfl
                              exact st_value (v := vecV ax ay) (by simp [execOp, go_sem, e6, q0, q1, vecV]) (Below.refl _ _) rfl
                            · rintro ev W hf _ _ hst ⟨d65, d66, _⟩
                              have e65 : ev (.tmp 65) = vecV nxx nxy := d65
                              have e66 : ev (.tmp 66) = vecV ax ay := d66
                              exact st_value (v := .bool false) (by simp [execOp, go_sem, e65, e66, HNA.out, vecV]) (Below.refl _ _) rfl
                            · rintro ev W hf _ _ hst ⟨d67, _⟩
                              have e67 : ev (.tmp 67) = .bool false := d67
                              exact st_value (v := .bool false) (by simp [execOp, go_sem, e67]) (Below.refl _ _) rfl
                            · rintro ev W hf _ _ hst ⟨d68, _⟩
                              have e9 : ev (.tmp 9) = .int .i64 0 := hf 9 (by kernel_rfl)
                              have e68 : ev (.tmp 68) = .bool false := d68
                              refine ⟨fun _ => ?_, fun hne => absurd e68 hne⟩
                              exact st_value (v := .int .i64 0) (by simp [execOp, go_sem, e9]) (Below.refl _ _) rfl
                            · rintro ev W hf hcst _ hst ⟨d69, d68, _⟩
                              have e69 : ev (.tmp 69) = .int .i64 0 := d69
                              have e68 : ev (.tmp 68) = .bool false := d68
                              refine ⟨fun _ => ?_, fun hne => absurd e68 hne⟩
                              exact st_value (v := .bool false) (by simp [execOp, go_sem, e69, hcst, HT1.out]) (Below.refl _ _) rfl
                            · rintro ev W hf hcst _ hst ⟨d68, d70, _⟩
                              have e68 : ev (.tmp 68) = .bool false := d68
                              have e70 : ev (.tmp 70) = .bool false := d70
                              exact st_value (v := .bool false) (by simp [execOp, go_sem, e68, e70, hcst]) (Below.refl _ _) rfl
                            · rintro ev W hf _ _ hst ⟨d71, _⟩
                              have e71 : ev (.tmp 71) = .bool false := d71
                              exact st_value (v := .bool false) (by simp [execOp, go_sem, e71]) (Below.refl _ _) rfl
                            · rintro ev W hf _ _ hst ⟨d72, _⟩
                              have e9 : ev (.tmp 9) = .int .i64 0 := hf 9 (by kernel_rfl)
                              have e72 : ev (.tmp 72) = .bool false := d72
                              refine ⟨fun _ => ?_, fun hne => absurd e72 hne⟩
                              exact st_value (v := .int .i64 0) (by simp [execOp, go_sem, e9]) (Below.refl _ _) rfl
                            · rintro ev W hf hcst _ hst ⟨d73, d72, _⟩
                              have e73 : ev (.tmp 73) = .int .i64 0 := d73
                              have e72 : ev (.tmp 72) = .bool false := d72
                              refine ⟨fun _ => ?_, fun hne => absurd e72 hne⟩
                              exact st_value (v := .bool true) (by simp [execOp, go_sem, e73, hcst, HT2.out]) (Below.refl _ _) rfl
                            · rintro ev W hf _ _ hst ⟨d74, d72, _⟩
                              have e74 : ev (.tmp 74) = .bool true := d74
                              have e72 : ev (.tmp 72) = .bool false := d72
                              refine ⟨fun _ => ?_, fun hne => absurd e72 hne⟩
                              exact st_value (v := .bool true) (by simp [execOp, go_sem, e74]) (Below.refl _ _) rfl
                            · rintro ev W hf _ _ hst ⟨d75, _⟩
                              have e6 : ev (.tmp 6) = .pointer (some ⟨A, 0, none⟩) := hf 6 (by kernel_rfl)
                              have e75 : ev (.tmp 75) = .bool true := d75
                              refine ⟨fun _ => ?_, fun hne => absurd e75 hne⟩
                              have q0 := VRow.cell (VRow.ext VA.out hst) (k := 0) rfl
                              have q1 := VRow.cell (VRow.ext VA.out hst) (k := 1) rfl
                              exact st_value (v := vecV ax ay) (by simp [execOp, go_sem, e6, q0, q1, vecV]) (Below.refl _ _) rfl
                            · rintro ev W hf _ _ hst ⟨d75, _⟩
                              have e0 : ev (.tmp 0) = .slice (some ⟨b, o, none⟩) n cap := hf 0 (by kernel_rfl)
                              have e75 : ev (.tmp 75) = .bool true := d75
                              refine ⟨fun _ => ?_, fun hne => absurd e75 hne⟩
                              exact st_value (v := .slice (some ⟨b, o, none⟩) n cap) (by simp [execOp, go_sem, e0]) (Below.refl _ _) rfl
                            · rintro ev W hf _ _ hst ⟨d75, _⟩
                              have e8 : ev (.tmp 8) = .int .i64 (i : Int) := hf 8 (by kernel_rfl)
                              have e75 : ev (.tmp 75) = .bool true := d75
                              refine ⟨fun _ => ?_, fun hne => absurd e75 hne⟩
                              exact st_value (v := .int .i64 (i : Int)) (by simp [execOp, go_sem, e8]) (Below.refl _ _) rfl
                            · rintro ev W hf _ _ hst ⟨d77, d78, d75, _⟩
                              have e77 : ev (.tmp 77) = .slice (some ⟨b, o, none⟩) n cap := d77
                              have e78 : ev (.tmp 78) = .int .i64 (i : Int) := d78
                              have e75 : ev (.tmp 75) = .bool true := d75
                              refine ⟨fun _ => ?_, fun hne => absurd e75 hne⟩
                              exact st_value (v := .pointer (some ⟨b, o + i * 2, none⟩)) (by simp [execOp, go_sem, e77, e78, hil]) (Below.refl _ _) rfl
                            · rintro ev W hf _ _ hst ⟨d79, d75, _⟩
                              have e79 : ev (.tmp 79) = .pointer (some ⟨b, o + i * 2, none⟩) := d79
                              have e75 : ev (.tmp 75) = .bool true := d75
                              refine ⟨fun _ => ?_, fun hne => absurd e75 hne⟩
                              have q0 := Ext.cell hst C1.out
                              have q1 := Ext.cell hst C2.out
                              exact st_value (v := vecV qx qy) (by simp [execOp, go_sem, e79, q0, q1, vecV]) (Below.refl _ _) rfl
                            · rintro ev W hf _ hfn hst ⟨d76, d80, d75, _⟩
                              have e76 : ev (.tmp 76) = vecV ax ay := d76
                              have e80 : ev (.tmp 80) = vecV qx qy := d80
                              have e75 : ev (.tmp 75) = .bool true := d75
                              refine ⟨fun _ => ?_, fun hne => absurd e75 hne⟩
                              refine st_call (f := 150) (args := #[vecV ax ay, vecV qx qy]) (by simp [execOp, go_sem, hfn, e76, e80]) (HF1.out W) (fun _ _ => rfl)
                            · rintro ev W hf _ _ hst ⟨d75, _⟩
                              have e6 : ev (.tmp 6) = .pointer (some ⟨A, 0, none⟩) := hf 6 (by kernel_rfl)
                              have e75 : ev (.tmp 75) = .bool true := d75
                              refine ⟨fun _ => ?_, fun hne => absurd e75 hne⟩
                              have q0 := VRow.cell (VRow.ext VA.out hst) (k := 0) rfl
                              have q1 := VRow.cell (VRow.ext VA.out hst) (k := 1) rfl
                              exact st_value (v := vecV ax ay) (by simp [execOp, go_sem, e6, q0, q1, vecV]) (Below.refl _ _) rfl
                            · rintro ev W hf _ _ hst ⟨d75, _⟩
                              have e7 : ev (.tmp 7) = .pointer (some ⟨N, 0, none⟩) := hf 7 (by kernel_rfl)
                              have e75 : ev (.tmp 75) = .bool true := d75
                              refine ⟨fun _ => ?_, fun hne => absurd e75 hne⟩
                              have q0 := VRow.cell (VRow.ext VN.out hst) (k := 0) rfl
                              have q1 := VRow.cell (VRow.ext VN.out hst) (k := 1) rfl
                              exact st_value (v := vecV nxx nxy) (by simp [execOp, go_sem, e7, q0, q1, vecV]) (Below.refl _ _) rfl
                            · rintro ev W hf _ hfn hst ⟨d82, d83, d75, _⟩
                              have e82 : ev (.tmp 82) = vecV ax ay := d82
                              have e83 : ev (.tmp 83) = vecV nxx nxy := d83
                              have e75 : ev (.tmp 75) = .bool true := d75
                              refine ⟨fun _ => ?_, fun hne => absurd e75 hne⟩
                              refine st_call (f := 150) (args := #[vecV ax ay, vecV nxx nxy]) (by simp [execOp, go_sem, hfn, e82, e83]) (HF2.out W) (fun _ _ => rfl)
                            · rintro ev W hf _ _ hst ⟨d81, d84, d75, _⟩
                              have e81 : ev (.tmp 81) = .int .i64 F1 := d81
                              have e84 : ev (.tmp 84) = .int .i64 F2 := d84
                              have e75 : ev (.tmp 75) = .bool true := d75
                              refine ⟨fun _ => ?_, fun hne => absurd e75 hne⟩
                              exact st_value (v := .bool false) (by simp [execOp, go_sem, e81, e84, HFF.out]) (Below.refl _ _) rfl
                            · rintro ev W hf hcst _ hst ⟨d75, d85, d72, _⟩
                              have e75 : ev (.tmp 75) = .bool true := d75
                              have e85 : ev (.tmp 85) = .bool false := d85
                              have e72 : ev (.tmp 72) = .bool false := d72
                              refine ⟨fun _ => ?_, fun hne => absurd e72 hne⟩
                              exact st_value (v := .bool false) (by simp [execOp, go_sem, e75, e85, hcst]) (Below.refl _ _) rfl
                            · rintro ev W hf hcst _ hst ⟨d72, d86, _⟩
                              have e72 : ev (.tmp 72) = .bool false := d72
                              have e86 : ev (.tmp 86) = .bool false := d86
                              exact st_value (v := .bool false) (by simp [execOp, go_sem, e72, e86, hcst]) (Below.refl _ _) rfl
                          case rest =>
                            intro vs w3 hl hst hg
                            have HE3 := Lib.hid hst
                            have hvs : vs = [vecV nxx nxy, vecV ax ay, .bool false, .bool false, .int .i64 0, .bool false, .bool false, .bool false, .int .i64 0, .bool true, .bool true, vecV ax ay, .slice (some ⟨b, o, none⟩) n cap, .int .i64 (i : Int), .pointer (some ⟨b, o + i * 2, none⟩), vecV qx qy, .int .i64 F1, vecV ax ay, vecV nxx nxy, .int .i64 F2, .bool false, .bool false, .bool false] := vs_all hl hg
                            clear hg hst hl
                            subst hvs
                            simp only [putAll, Act.put, List.dropLast, List.setIfInBounds_toArray, List.set_cons_zero, List.set_cons_succ]
                            have C1 := Lib.hid (Ext.cell HE3.out C1.out)
                            have C2 := Lib.hid (Ext.cell HE3.out C2.out)
                            have VN := Lib.hid (VRow.ext VN.out HE3.out)
                            have VA := Lib.hid (VRow.ext VA.out HE3.out)
                            have HEq := Lib.hid (Ext.trans HEq.out HE3.out)
                            clear HE3
                            go_wp2_with fail
                            exact ⟨⟨i + 1, by simp, by omega, by rw [HS.out.1, HS.out.2]; exact VN.out, VA.out, HEq.out⟩, by simp [intOf]; omega⟩
                  · have HS := Lib.hid (show (nextK ps at_ (i + 1)).1 = nx.1 ∧ (nextK ps at_ (i + 1)).2 = nx.2 from by rw [HS0.out, if_neg (fun h => h.elim hna fun h => h.elim (fun h => by omega) fun h => by omega)]; exact ⟨rfl, rfl⟩)
                    have HT1 := Lib.hid (show decide (T < 0) = false from decide_eq_false (by omega))
                    have HT2 := Lib.hid (show (T == 0) = false from beq_eq_false_iff_ne.2 (by omega))
                    clear hna HS0 hT
                    generalize q.1 = qx at *
                    generalize q.2 = qy at *
                    generalize nx.1 = nxx at *
                    generalize nx.2 = nxy at *
                    generalize at_.1 = ax at *
                    generalize at_.2 = ay at *
                    go_wp2_with fail
                    refine wp_region_stable [⟨[], none⟩, ⟨[], none⟩, ⟨[(0, 52), (1, 53)], none⟩, ⟨[(2, 54)], none⟩, ⟨[], none⟩, ⟨[(3, 55), (4, 56)], none⟩] (fun x y => Below x.heap.size x y) (MPat [MP.eq (.slice (some ⟨b, o, none⟩) n cap), MP.eq (.int .i64 (i : Int)), MP.eq (.pointer (some ⟨b, o + i * 2, none⟩)), MP.eq (vecV qx qy), MP.eq (vecV ax ay), MP.eq (.bool false)]) (by kernel_rfl) (fun _ _ _ h k => Ext.trans h k) (fun _ => Below.refl _ _) (fun x => (Below.refl x.heap.size x).drew) (MPat.mono _) (by kernel_rfl) ?obs ?rest
                    case obs =>
                      refine ⟨?_, ?_, ?_, ?_, ?_, ?_, trivial⟩
                      · intro ev W hf _ _ hst hd
                        have e0 : ev (.tmp 0) = .slice (some ⟨b, o, none⟩) n cap := hf 0 (by kernel_rfl)
                        exact st_value (v := .slice (some ⟨b, o, none⟩) n cap) (by simp [execOp, go_sem, e0]) (Below.refl _ _) rfl
                      · intro ev W hf _ _ hst hd
                        have e8 : ev (.tmp 8) = .int .i64 (i : Int) := hf 8 (by kernel_rfl)
                        exact st_value (v := .int .i64 (i : Int)) (by simp [execOp, go_sem, e8]) (Below.refl _ _) rfl
                      · rintro ev W hf _ _ hst ⟨d52, d53, _⟩
                        have e52 : ev (.tmp 52) = .slice (some ⟨b, o, none⟩) n cap := d52
                        have e53 : ev (.tmp 53) = .int .i64 (i : Int) := d53
                        exact st_value (v := .pointer (some ⟨b, o + i * 2, none⟩)) (by simp [execOp, go_sem, e52, e53, hil]) (Below.refl _ _) rfl
                      · rintro ev W hf _ _ hst ⟨d54, _⟩
                        have e54 : ev (.tmp 54) = .pointer (some ⟨b, o + i * 2, none⟩) := d54
                        have q0 := Ext.cell hst C1.out
                        have q1 := Ext.cell hst C2.out
                        exact st_value (v := vecV qx qy) (by simp [execOp, go_sem, e54, q0, q1, vecV]) (Below.refl _ _) rfl
                      · intro ev W hf _ _ hst hd
                        have e6 : ev (.tmp 6) = .pointer (some ⟨A, 0, none⟩) := hf 6 (by kernel_rfl)
                        have q0 := VRow.cell (VRow.ext VA.out hst) (k := 0) rfl
                        have q1 := VRow.cell (VRow.ext VA.out hst) (k := 1) rfl
                        exact st_value (v := vecV ax ay) (by simp [execOp, go_sem, e6, q0, q1, vecV]) (Below.refl _ _) rfl
                      · rintro ev W hf _ _ hst ⟨d55, d56, _⟩
                        have e55 : ev (.tmp 55) = vecV qx qy := d55
                        have e56 : ev (.tmp 56) = vecV ax ay := d56
                        exact st_value (v := .bool false) (by simp [execOp, go_sem, e55, e56, HQA.out, vecV]) (Below.refl _ _) rfl
                    case rest =>
                      intro vs w3 hl hst hg
                      have HE3 := Lib.hid hst
                      have hvs : vs = [.slice (some ⟨b, o, none⟩) n cap, .int .i64 (i : Int), .pointer (some ⟨b, o + i * 2, none⟩), vecV qx qy, vecV ax ay, .bool false] := vs_all hl hg
                      clear hg hst hl
                      subst hvs
                      simp only [putAll, Act.put, List.dropLast, List.setIfInBounds_toArray, List.set_cons_zero, List.set_cons_succ]
                      have C1 := Lib.hid (Ext.cell HE3.out C1.out)
                      have C2 := Lib.hid (Ext.cell HE3.out C2.out)
                      have VN := Lib.hid (VRow.ext VN.out HE3.out)
                      have VA := Lib.hid (VRow.ext VA.out HE3.out)
                      have HEq := Lib.hid (Ext.trans HEq.out HE3.out)
                      clear HE3
                      go_wp2_with fail
                      refine wp_region_stable_last [⟨[], none⟩, ⟨[], none⟩, ⟨[], none⟩, ⟨[], none⟩, ⟨[(2, 60), (3, 61)], none⟩, ⟨[(4, 62)], none⟩, ⟨[(0, 58), (1, 59), (5, 63)], none⟩] (fun x y => Below x.heap.size x y) (MPat [MP.eq (vecV ax ay), MP.eq (vecV nxx nxy), MP.eq (.slice (some ⟨b, o, none⟩) n cap), MP.eq (.int .i64 (i : Int)), MP.eq (.pointer (some ⟨b, o + i * 2, none⟩)), MP.eq (vecV qx qy), MP.eq (.int .i64 T)]) rfl (by kernel_rfl) (fun _ _ _ h k => Ext.trans h k) (fun _ => Below.refl _ _) (fun x => (Below.refl x.heap.size x).drew) (MPat.mono _) (by kernel_rfl) (by kernel_rfl) (by kernel_rfl) ?obs ?rest
                      case obs =>
                        refine ⟨?_, ?_, ?_, ?_, ?_, ?_, ?_, trivial⟩
                        · intro ev W hf _ _ hst hd
                          have e6 : ev (.tmp 6) = .pointer (some ⟨A, 0, none⟩) := hf 6 (by kernel_rfl)
                          have q0 := VRow.cell (VRow.ext VA.out hst) (k := 0) rfl
                          have q1 := VRow.cell (VRow.ext VA.out hst) (k := 1) rfl
                          exact st_value (v := vecV ax ay) (by simp [execOp, go_sem, e6, q0, q1, vecV]) (Below.refl _ _) rfl
                        · intro ev W hf _ _ hst hd
                          have e7 : ev (.tmp 7) = .pointer (some ⟨N, 0, none⟩) := hf 7 (by kernel_rfl)
                          have q0 := VRow.cell (VRow.ext VN.out hst) (k := 0) rfl
                          have q1 := VRow.cell (VRow.ext VN.out hst) (k := 1) rfl
                          exact st_value (v := vecV nxx nxy) (by simp [execOp, go_sem, e7, q0, q1, vecV]) (Below.refl _ _) rfl
                        · intro ev W hf _ _ hst hd
                          have e0 : ev (.tmp 0) = .slice (some ⟨b, o, none⟩) n cap := hf 0 (by kernel_rfl)
                          exact st_value (v := .slice (some ⟨b, o, none⟩) n cap) (by simp [execOp, go_sem, e0]) (Below.refl _ _) rfl
                        · intro ev W hf _ _ hst hd
                          have e8 : ev (.tmp 8) = .int .i64 (i : Int) := hf 8 (by kernel_rfl)
                          exact st_value (v := .int .i64 (i : Int)) (by simp [execOp, go_sem, e8]) (Below.refl _ _) rfl
                        · rintro ev W hf _ _ hst ⟨d60, d61, _⟩
                          have e60 : ev (.tmp 60) = .slice (some ⟨b, o, none⟩) n cap := d60
                          have e61 : ev (.tmp 61) = .int .i64 (i : Int) := d61
                          exact st_value (v := .pointer (some ⟨b, o + i * 2, none⟩)) (by simp [execOp, go_sem, e60, e61, hil]) (Below.refl _ _) rfl
                        · rintro ev W hf _ _ hst ⟨d62, _⟩
                          have e62 : ev (.tmp 62) = .pointer (some ⟨b, o + i * 2, none⟩) := d62
                          have q0 := Ext.cell hst C1.out
                          have q1 := Ext.cell hst C2.out
                          exact st_value (v := vecV qx qy) (by simp [execOp, go_sem, e62, q0, q1, vecV]) (Below.refl _ _) rfl
                        · rintro ev W hf _ hfn hst ⟨d58, d59, d63, _⟩
                          have e58 : ev (.tmp 58) = vecV ax ay := d58
                          have e59 : ev (.tmp 59) = vecV nxx nxy := d59
                          have e63 : ev (.tmp 63) = vecV qx qy := d63
                          refine st_call (f := 118) (args := #[vecV ax ay, vecV nxx nxy, vecV qx qy]) (by simp [execOp, go_sem, hfn, e58, e59, e63]) (HTW.out W) (fun _ _ => rfl)
                      case rest =>
                        intro vs w3 hl hst hg
                        have HE3 := Lib.hid hst
                        have hvs : vs = [vecV ax ay, vecV nxx nxy, .slice (some ⟨b, o, none⟩) n cap, .int .i64 (i : Int), .pointer (some ⟨b, o + i * 2, none⟩), vecV qx qy, .int .i64 T] := vs_all hl hg
                        clear hg hst hl
                        subst hvs
                        simp only [putAll, Act.put, List.dropLast, List.setIfInBounds_toArray, List.set_cons_zero, List.set_cons_succ]
                        have C1 := Lib.hid (Ext.cell HE3.out C1.out)
                        have C2 := Lib.hid (Ext.cell HE3.out C2.out)
                        have VN := Lib.hid (VRow.ext VN.out HE3.out)
                        have VA := Lib.hid (VRow.ext VA.out HE3.out)
                        have HEq := Lib.hid (Ext.trans HEq.out HE3.out)
                        clear HE3
                        go_wp2_with fail
                        refine wp_region_stable [⟨[], none⟩, ⟨[], none⟩, ⟨[(0, 65), (1, 66)], none⟩, ⟨[(2, 67)], none⟩, ⟨[(3, 68)], some (68, false)⟩, ⟨[(4, 69), (3, 68)], some (68, false)⟩, ⟨[(3, 68), (5, 70)], none⟩, ⟨[(6, 71)], none⟩, ⟨[(7, 72)], some (72, false)⟩, ⟨[(8, 73), (7, 72)], some (72, false)⟩, ⟨[(9, 74), (7, 72)], some (72, false)⟩, ⟨[(10, 75)], some (75, true)⟩, ⟨[(10, 75)], some (75, true)⟩, ⟨[(10, 75)], some (75, true)⟩, ⟨[(12, 77), (13, 78), (10, 75)], some (75, true)⟩, ⟨[(14, 79), (10, 75)], some (75, true)⟩, ⟨[(11, 76), (15, 80), (10, 75)], some (75, true)⟩, ⟨[(10, 75)], some (75, true)⟩, ⟨[(10, 75)], some (75, true)⟩, ⟨[(17, 82), (18, 83), (10, 75)], some (75, true)⟩, ⟨[(16, 81), (19, 84), (10, 75)], some (75, true)⟩, ⟨[(10, 75), (20, 85), (7, 72)], some (72, false)⟩, ⟨[(7, 72), (21, 86)], none⟩] (fun x y => Below x.heap.size x y) (MPat [MP.eq (vecV nxx nxy), MP.eq (vecV ax ay), MP.eq (.bool false), MP.eq (.bool false), MP.eq (.int .i64 T), MP.eq (.bool false), MP.eq (.bool false), MP.eq (.bool false), MP.eq (.int .i64 T), MP.eq (.bool false), MP.eq (.bool false), MP.eq (undef), MP.eq (undef), MP.eq (undef), MP.eq (undef), MP.eq (undef), MP.eq (undef), MP.eq (undef), MP.eq (undef), MP.eq (undef), MP.eq (undef), MP.eq (.bool false), MP.eq (.bool false)]) (by kernel_rfl) (fun _ _ _ h k => Ext.trans h k) (fun _ => Below.refl _ _) (fun x => (Below.refl x.heap.size x).drew) (MPat.mono _) (by kernel_rfl) ?obs ?rest
                        case obs =>
                          refine ⟨?_, ?_, ?_, ?_, ?_, ?_, ?_, ?_, ?_, ?_, ?_, ?_, ?_, ?_, ?_, ?_, ?_, ?_, ?_, ?_, ?_, ?_, ?_, trivial⟩
                          · intro ev W hf _ _ hst hd
                            have e7 : ev (.tmp 7) = .pointer (some ⟨N, 0, none⟩) := hf 7 (by kernel_rfl)
                            have q0 := VRow.cell (VRow.ext VN.out hst) (k := 0) rfl
                            have q1 := VRow.cell (VRow.ext VN.out hst) (k := 1) rfl
                            exact st_value (v := vecV nxx nxy) (by simp [execOp, go_sem, e7, q0, q1, vecV]) (Below.refl _ _) rfl
                          · intro ev W hf _ _ hst hd
                            have e6 : ev (.tmp 6) = .pointer (some ⟨A, 0, none⟩) := hf 6 (by kernel_rfl)
                            have q0 := VRow.cell (VRow.ext VA.out hst) (k := 0) rfl
                            have q1 := VRow.cell (VRow.ext VA.out hst) (k := 1) rfl
                            exact st_value (v := vecV ax ay) (by simp [execOp, go_sem, e6, q0, q1, vecV]) (Below.refl _ _) rfl
                          · rintro ev W hf _ _ hst ⟨d65, d66, _⟩
                            have e65 : ev (.tmp 65) = vecV nxx nxy := d65
                            have e66 : ev (.tmp 66) = vecV ax ay := d66
                            exact st_value (v := .bool false) (by simp [execOp, go_sem, e65, e66, HNA.out, vecV]) (Below.refl _ _) rfl
                          · rintro ev W hf _ _ hst ⟨d67, _⟩
                            have e67 : ev (.tmp 67) = .bool false := d67
                            exact st_value (v := .bool false) (by simp [execOp, go_sem, e67]) (Below.refl _ _) rfl
                          · rintro ev W hf _ _ hst ⟨d68, _⟩
                            have e9 : ev (.tmp 9) = .int .i64 T := hf 9 (by kernel_rfl)
                            have e68 : ev (.tmp 68) = .bool false := d68
                            refine ⟨fun _ => ?_, fun hne => absurd e68 hne⟩
                            exact st_value (v := .int .i64 T) (by simp [execOp, go_sem, e9]) (Below.refl _ _) rfl
                          · rintro ev W hf hcst _ hst ⟨d69, d68, _⟩
                            have e69 : ev (.tmp 69) = .int .i64 T := d69
                            have e68 : ev (.tmp 68) = .bool false := d68
                            refine ⟨fun _ => ?_, fun hne => absurd e68 hne⟩
                            exact st_value (v := .bool false) (by simp [execOp, go_sem, e69, hcst, HT1.out]) (Below.refl _ _) rfl
                          · rintro ev W hf hcst _ hst ⟨d68, d70, _⟩
                            have e68 : ev (.tmp 68) = .bool false := d68
                            have e70 : ev (.tmp 70) = .bool false := d70
                            exact st_value (v := .bool false) (by simp [execOp, go_sem, e68, e70, hcst]) (Below.refl _ _) rfl
                          · rintro ev W hf _ _ hst ⟨d71, _⟩
                            have e71 : ev (.tmp 71) = .bool false := d71
                            exact st_value (v := .bool false) (by simp [execOp, go_sem, e71]) (Below.refl _ _) rfl
                          · rintro ev W hf _ _ hst ⟨d72, _⟩
                            have e9 : ev (.tmp 9) = .int .i64 T := hf 9 (by kernel_rfl)
                            have e72 : ev (.tmp 72) = .bool false := d72
                            refine ⟨fun _ => ?_, fun hne => absurd e72 hne⟩
                            exact st_value (v := .int .i64 T) (by simp [execOp, go_sem, e9]) (Below.refl _ _) rfl
                          · rintro ev W hf hcst _ hst ⟨d73, d72, _⟩
                            have e73 : ev (.tmp 73) = .int .i64 T := d73
                            have e72 : ev (.tmp 72) = .bool false := d72
                            refine ⟨fun _ => ?_, fun hne => absurd e72 hne⟩
                            exact st_value (v := .bool false) (by simp [execOp, go_sem, e73, hcst, HT2.out]) (Below.refl _ _) rfl
                          · rintro ev W hf _ _ hst ⟨d74, d72, _⟩
                            have e74 : ev (.tmp 74) = .bool false := d74
                            have e72 : ev (.tmp 72) = .bool false := d72
                            refine ⟨fun _ => ?_, fun hne => absurd e72 hne⟩
                            exact st_value (v := .bool false) (by simp [execOp, go_sem, e74]) (Below.refl _ _) rfl
                          · rintro ev W hf _ _ hst ⟨d75, _⟩
                            have e75 : ev (.tmp 75) = .bool false := d75
                            exact ⟨fun hh => by simp [e75] at hh, fun _ => rfl⟩
                          · rintro ev W hf _ _ hst ⟨d75, _⟩
                            have e75 : ev (.tmp 75) = .bool false := d75
                            exact ⟨fun hh => by simp [e75] at hh, fun _ => rfl⟩
                          · rintro ev W hf _ _ hst ⟨d75, _⟩
                            have e75 : ev (.tmp 75) = .bool false := d75
                            exact ⟨fun hh => by simp [e75] at hh, fun _ => rfl⟩
                          · rintro ev W hf _ _ hst ⟨d77, d78, d75, _⟩
                            have e75 : ev (.tmp 75) = .bool false := d75
                            exact ⟨fun hh => by simp [e75] at hh, fun _ => rfl⟩
                          · rintro ev W hf _ _ hst ⟨d79, d75, _⟩
                            have e75 : ev (.tmp 75) = .bool false := d75
                            exact ⟨fun hh => by simp [e75] at hh, fun _ => rfl⟩
                          · rintro ev W hf _ _ hst ⟨d76, d80, d75, _⟩
                            have e75 : ev (.tmp 75) = .bool false := d75
                            exact ⟨fun hh => by simp [e75] at hh, fun _ => rfl⟩
                          · rintro ev W hf _ _ hst ⟨d75, _⟩
                            have e75 : ev (.tmp 75) = .bool false := d75
                            exact ⟨fun hh => by simp [e75] at hh, fun _ => rfl⟩
                          · rintro ev W hf _ _ hst ⟨d75, _⟩
                            have e75 : ev (.tmp 75) = .bool false := d75
                            exact ⟨fun hh => by simp [e75] at hh, fun _ => rfl⟩
                          · rintro ev W hf _ _ hst ⟨d82, d83, d75, _⟩
                            have e75 : ev (.tmp 75) = .bool false := d75
                            exact ⟨fun hh => by simp [e75] at hh, fun _ => rfl⟩
                          · rintro ev W hf _ _ hst ⟨d81, d84, d75, _⟩
                            have e75 : ev (.tmp 75) = .bool false := d75
                            exact ⟨fun hh => by simp [e75] at hh, fun _ => rfl⟩
                          · rintro ev W hf hcst _ hst ⟨d75, d85, d72, _⟩
                            have e75 : ev (.tmp 75) = .bool false := d75
                            have e85 : ev (.tmp 85) = undef := d85
                            have e72 : ev (.tmp 72) = .bool false := d72
                            refine ⟨fun _ => ?_, fun hne => absurd e72 hne⟩
                            exact st_value (v := .bool false) (by simp [execOp, go_sem, e75, e85, hcst]) (Below.refl _ _) rfl
                          · rintro ev W hf hcst _ hst ⟨d72, d86, _⟩
                            have e72 : ev (.tmp 72) = .bool false := d72
                            have e86 : ev (.tmp 86) = .bool false := d86
                            exact st_value (v := .bool false) (by simp [execOp, go_sem, e72, e86, hcst]) (Below.refl _ _) rfl
                        case rest =>
                          intro vs w3 hl hst hg
                          have HE3 := Lib.hid hst
                          have hvs : vs = [vecV nxx nxy, vecV ax ay, .bool false, .bool false, .int .i64 T, .bool false, .bool false, .bool false, .int .i64 T, .bool false, .bool false, undef, undef, undef, undef, undef, undef, undef, undef, undef, undef, .bool false, .bool false] := vs_all hl hg
                          clear hg hst hl
                          subst hvs
                          simp only [putAll, Act.put, List.dropLast, List.setIfInBounds_toArray, List.set_cons_zero, List.set_cons_succ]
                          have C1 := Lib.hid (Ext.cell HE3.out C1.out)
                          have C2 := Lib.hid (Ext.cell HE3.out C2.out)
                          have VN := Lib.hid (VRow.ext VN.out HE3.out)
                          have VA := Lib.hid (VRow.ext VA.out HE3.out)
                          have HEq := Lib.hid (Ext.trans HEq.out HE3.out)
                          clear HE3
                          go_wp2_with fail
                          exact ⟨⟨i + 1, by simp, by omega, by rw [HS.out.1, HS.out.2]; exact VN.out, VA.out, HEq.out⟩, by simp [intOf]; omega⟩
            · have hilz : ¬ (i : Int) < (n : Int) := by omega
              have hin : i = n := by omega
              have HNX := Lib.hid (show nextK ps at_ i = wrapK ps a (m + 1) from by rw [hin, HN.out, HAT.out]; rfl)
              clear hin
              rw [HNX.out] at VN
              obtain ⟨nx, hnx⟩ : ∃ nx, nx = wrapK ps a (m + 1) := ⟨_, rfl⟩
              rw [← hnx] at VN
              have HNXE := Lib.hid hnx
              clear hnx
              have HVq := Lib.hid (VRow.ext HV.out HEq.out)
              have l0 := VRow.cell HVq.out (k := 0) rfl
              have l1 := VRow.cell HVq.out (k := 1) rfl
              have n0 := VRow.cell VN.out (k := 0) rfl
              have n1 := VRow.cell VN.out (k := 1) rfl
              have a0 := VRow.cell VA.out (k := 0) rfl
              have a1 := VRow.cell VA.out (k := 1) rfl
              have HOq := Lib.hid (ownsRow_ext HO.out HEq.out)
              by_cases hna : nx = a
              · have HEND := Lib.hid (show WrapEnd ps a (m + 1) from ⟨by omega, by rw [← HN.out]; omega, HON.out, .inr (.inl (by rw [← HNXE.out]; exact hna))⟩)
                have heq := fun W => (show Sem.run Try.prog (binOp .eql 31 (.agg #[.int .i64 nx.1, .int .i64 nx.2]) (.agg #[.int .i64 a.1, .int .i64 a.2])) W = .ok (.bool true) W from by rw [hna]; exact veq_t _ _ W)
                clear hna
                go_wp2_with fail
                go_ret
                exact ⟨_, rfl, _, HEND.out, own_mono2 HOq.out (by have := HG.out; omega), Ext.trans HE.out HEq.out⟩
              · have heq := fun W => veq_f nx.1 nx.2 a.1 a.2 (pt_ne hna) W
                by_cases hnt : nx = at_
                · have HEND := Lib.hid (show WrapEnd ps a (m + 1) from ⟨by omega, by rw [← HN.out]; omega, HON.out, .inr (.inr (by rw [← HNXE.out, hnt, HAT.out]; rfl))⟩)
                  have heq2 := fun W => (show Sem.run Try.prog (binOp .eql 31 (.agg #[.int .i64 nx.1, .int .i64 nx.2]) (.agg #[.int .i64 at_.1, .int .i64 at_.2])) W = .ok (.bool true) W from by rw [hnt]; exact veq_t _ _ W)
                  clear hna hnt
                  go_wp2_with fail
                  go_ret
                  exact ⟨_, rfl, _, HEND.out, own_mono2 HOq.out (by have := HG.out; omega), Ext.trans HE.out HEq.out⟩
                · have heq2 := fun W => veq_f nx.1 nx.2 at_.1 at_.2 (pt_ne hnt) W
                  have HON2 := Lib.hid (show ∀ k, 1 ≤ k → k < m + 1 + 1 → wrapK ps a k ≠ a ∧ wrapK ps a k ≠ wrapK ps a (k - 1) from fun k h1 h2 => by
                    by_cases e : k = m + 1
                    · rw [e, ← HNXE.out]
                      exact ⟨hna, by rw [show m + 1 - 1 = m by omega, ← HAT.out]; exact hnt⟩
                    · exact HON.out k h1 (by omega))
                  have HWL := Lib.hid (show cellsOf (wrapL ps a (m + 1 + 1)) = cellsOf (wrapL ps a (m + 1)) ++ [.int .i64 nx.1, .int .i64 nx.2] from by
                    rw [show wrapL ps a (m + 1 + 1) = wrapL ps a (m + 1) ++ [wrapK ps a (m + 1)] by unfold wrapL; rw [List.range_succ, List.map_append]; rfl, cellsOf_append, ← HNXE.out]; rfl)
                  have hEa := Ext.alloc HEq.out (.cells #[.int .i64 nx.1, .int .i64 nx.2] 31)
                  have HOW := Lib.hid (ownsRow_ext HO.out hEa)
                  have HEa := Lib.hid hEa
                  have HVa := Lib.hid (VRow.ext HV.out hEa)
                  have hgs := HGS.out
                  have hwq := HEq.out.size
                  have hob : ∀ x, Value.ownBlock (.slice (some ⟨ob, oo, none⟩) (m + 1) oc) = some x → g + 1 ≤ x := fun x hx => own_block HO.out hx
                  clear hna hnt hEa
                  generalize nx.1 = n1x at *
                  generalize nx.2 = n1y at *
                  go_wp2_with (at_builtin; (refine wpList_append_own _ rfl _ _ 22 rfl (g + 1) 31 i0 (.agg #[.int .i64 0, .int .i64 0]) 2 16 Try.underlying22 HI.out HZ0.out HZ1.out HZ2.out rfl (by decide) _ _ _ rfl HOW.out ⟨wq.heap.size, 0, none⟩ 1 1 [.int .i64 n1x, .int .i64 n1y] rfl rfl (fun j u h => cell_two_new wq _ _ 31 j u h) (by simp [Value.oneCell']) (by unfold maxLen; omega) (by omega) (by simp; omega) ?_; intro v' w' hown' hgrow hnil; have HO10 := Lib.hid hown'; have HG10 := Lib.hid hgrow; clear hown' hgrow hnil))
                  obtain ⟨va, vc, rfl⟩ := own_slice2 HO10.out
                  have hsz := HG10.out.size
                  refine ⟨⟨m + 1, rfl, by omega, ?_, VRow.grown HVa.out HG10.out (fun e => ?_), HON2.out, Below.grown (Ext.trans HE.out HEa.out) HG10.out (by have := HG.out; have := HE.out.size; have := HEa.out.size; omega) (fun x e => by have := hob x e; have := HG.out; omega)⟩, by simp [lenOf]; omega⟩
                  · rw [HWL.out]; exact HO10.out
                  · have := hob g e.symm; omega
        · have HEND := Lib.hid (show WrapEnd ps a (m + 1) from ⟨by omega, by rw [← HN.out]; omega, HON.out, .inl (by rw [← HN.out]; omega)⟩)
          have hmz : ¬ (m : Int) + 1 ≤ (n : Int) := by omega
          clear hvs
          go_wp2_with fail
          go_ret
          exact ⟨_, rfl, _, HEND.out, own_mono2 HO.out (by have := HG.out; omega), HE.out⟩
end Go.Proofs.Ytnpebfchojalcaa
