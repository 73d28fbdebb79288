import Derived.Test.YtnpebfchojalcaaN3a
import Derived.Test.YtnpebfchojalcaaMY
import Derived.Test.YtnpebfchojalcaaG1
import Derived.Test.YtnpebfchojalcaaNW
namespace Go.Proofs.Ytnpebfchojalcaa
set_option maxRecDepth 100000
/-! Two translations of a blank overlap just if one of them by their difference does. -/
/-- with zero strictly inside a polygon every direction has a positive maximum -/
theorem inside_dir {ps : List Pt} (h : Around ps) (h1 : placeZ ps 0 0 = 1) {r : Pt} (hr : r ≠ (0, 0)) : 0 < hiP ps r := by
  obtain ⟨i, hi, e⟩ := hi_at h.rolls hr
  have hs : ∀ j, j < ps.length → 0 < sideK ps 0 0 j := (placeK_one ps 0 0 ps.length).1 h1
  have hpi : prevI ps.length i < ps.length := by unfold prevI; split <;> omega
  have ht : (i + 1) % ps.length < ps.length := Nat.mod_lt _ (by omega)
  have m1 := hi_le h.rolls hr ht
  have m2 := hi_le h.rolls hr hpi
  have s1 := hs i hi
  have s2 := hs _ hpi
  have ep := h.turn i hi
  have k1 := tri_side ps (0, 0) i
  have k2 := tri_side ps (0, 0) (prevI ps.length i)
  rw [prev_to hi, tri_move] at k2
  dsimp only at k1 k2
  rw [← e] at m1 m2 ⊢
  rw [← k1] at s1
  rw [← k2] at s2
  have hr' : ¬ (r.1 = 0 ∧ r.2 = 0) := fun hh => hr (Prod.ext hh.1 hh.2)
  have t1 : toP ps i = fromP ps ((i + 1) % ps.length) := to_from
  rw [← t1] at m1
  unfold stepP at ep
  rw [prev_to hi] at ep
  generalize toP ps i = z at *
  generalize fromP ps (prevI ps.length i) = u at *
  generalize fromP ps i = v at *
  unfold triP at s1
  unfold crossP crossZ at *
  obtain ⟨z1, z2⟩ := z
  obtain ⟨u1, u2⟩ := u
  obtain ⟨v1, v2⟩ := v
  obtain ⟨r1, r2⟩ := r
  dsimp only at *
  clear hs h h1 hr e hi ht hpi k1 k2 t1
  obtain ⟨a1, ha1⟩ : ∃ x, x = v1 - u1 := ⟨_, rfl⟩
  obtain ⟨a2, ha2⟩ : ∃ x, x = v2 - u2 := ⟨_, rfl⟩
  obtain ⟨b1, hb1⟩ : ∃ x, x = z1 - v1 := ⟨_, rfl⟩
  obtain ⟨b2, hb2⟩ : ∃ x, x = z2 - v2 := ⟨_, rfl⟩
  have q1 : 0 < v1 * b2 - v2 * b1 := by rw [hb1, hb2]; grind
  have q2 : 0 < v1 * a2 - v2 * a1 := by rw [ha1, ha2]; grind
  have q3 : 0 < a1 * b2 - a2 * b1 := by rw [ha1, ha2, hb1, hb2]; exact ep
  have q4 : b1 * r2 - b2 * r1 ≤ 0 := by rw [hb1, hb2]; grind
  have q5 : 0 ≤ a1 * r2 - a2 * r1 := by rw [ha1, ha2]; grind
  refine Int.not_le.1 fun hle => hr' ?_
  have i1 : (v1 * r2 - v2 * r1) * (a1 * b2 - a2 * b1) = (v1 * b2 - v2 * b1) * (a1 * r2 - a2 * r1) + (v1 * a2 - v2 * a1) * (-(b1 * r2 - b2 * r1)) := by grind
  have p1 : 0 ≤ (v1 * b2 - v2 * b1) * (a1 * r2 - a2 * r1) := Int.mul_nonneg (by omega) q5
  have p2 : 0 ≤ (v1 * a2 - v2 * a1) * (-(b1 * r2 - b2 * r1)) := Int.mul_nonneg (by omega) (by omega)
  have p3 : (v1 * r2 - v2 * r1) * (a1 * b2 - a2 * b1) ≤ 0 := Int.mul_nonpos_of_nonpos_of_nonneg hle (by omega)
  have p4 : (v1 * b2 - v2 * b1) * (a1 * r2 - a2 * r1) = 0 := by omega
  have p5 : (v1 * a2 - v2 * a1) * (-(b1 * r2 - b2 * r1)) = 0 := by omega
  have z3 : a1 * r2 - a2 * r1 = 0 := (Int.mul_eq_zero.1 p4).resolve_left (by omega)
  have z4 : b1 * r2 - b2 * r1 = 0 := by have := (Int.mul_eq_zero.1 p5).resolve_left (by omega); omega
  have j1 : r1 * (a1 * b2 - a2 * b1) = (a1 * r2 - a2 * r1) * b1 - (b1 * r2 - b2 * r1) * a1 := by grind
  have j2 : r2 * (a1 * b2 - a2 * b1) = (a1 * r2 - a2 * r1) * b2 - (b1 * r2 - b2 * r1) * a2 := by grind
  rw [z3, z4] at j1 j2
  simp only [Int.zero_mul, Int.sub_zero] at j1 j2
  exact ⟨(Int.mul_eq_zero.1 j1).resolve_right (by omega), (Int.mul_eq_zero.1 j2).resolve_right (by omega)⟩
/-- any direction that separates shows that two polygons don't overlap -/
theorem sep_no {ps qs : List Pt} (hp : Around ps) (hq : Around qs) {r : Pt} (hr : r ≠ (0, 0)) (h : sepBy ps qs (rt r)) : overlapB ps qs = false := by
  have hf := around_flip hq
  obtain ⟨ds, hs⟩ := sorted_some hp hf
  cases ho : overlapB ps qs with
  | false => rfl
  | true =>
    have h1 := (place_sum hp hq hs).2 ho
    have h2 := inside_dir (sum_around hp hf hs) h1 hr
    have hm : Merged ps (flipP qs) ds := ⟨hp.rolls, hf.rolls, hs⟩
    rw [hm.hi hr] at h2
    have := (sep_hi hp.rolls hf.rolls hq.rolls.some hr).1 h
    omega
theorem third {n k : Nat} (h3 : 3 ≤ n) (hk : k < n) : ∃ j, j < n ∧ j ≠ k ∧ j ≠ (k + 1) % n := by
  by_cases h : k + 1 < n
  · rw [Nat.mod_eq_of_lt h]
    by_cases h0 : k = 0
    · exact ⟨2, by omega, by omega, by omega⟩
    · exact ⟨0, by omega, by omega, by omega⟩
  · have : k + 1 = n := by omega
    rw [this, Nat.mod_self]
    exact ⟨1, by omega, by omega, by omega⟩
theorem over_self {ps : List Pt} (h : Around ps) : overlapB ps ps = true := by
  have h0 := h.rolls.some
  rw [overlap_true h0 h0]
  have key : ∀ k, k < ps.length → ∃ j, j < ps.length ∧ crossP (fromP ps j) (stepP ps k) < crossP (fromP ps k) (stepP ps k) := fun k hk => by
    obtain ⟨j, hj, h1, h2⟩ := third h.three hk
    have := h.strict_left hk hj h1 h2
    rw [← tri_side ps (fromP ps j) k] at this
    refine ⟨j, hj, ?_⟩
    unfold triP at this
    unfold crossP crossZ stepP
    dsimp only
    grind
  refine ⟨fun k hk hs => ?_, fun k hk hs => ?_⟩
  · obtain ⟨j, hj, hlt⟩ := key k hk
    have := hs k j hk hj
    rw [dirP_rt, dot_rt, dot_rt] at this
    omega
  · obtain ⟨j, hj, hlt⟩ := key k hk
    have := hs j k hj hk
    rw [dirQ_rt, dot_rt, dot_rt] at this
    have hn : ∀ a b : Pt, crossP a (negP b) = -crossP a b := fun a b => by unfold crossP crossZ negP; grind
    rw [hn, hn] at this
    omega
theorem around_moved {ps : List Pt} (h : Around ps) (v : Pt) : Around (movedP ps v) := by
  have hl := moved_length ps v
  refine ⟨by rw [hl]; exact h.three, fun i hi => ?_, fun i hi => ?_⟩
  · rw [hl] at hi ⊢
    have hpi : prevI ps.length i < ps.length := by unfold prevI; split <;> omega
    rw [step_moved v hpi, step_moved v hi]
    exact h.turn i hi
  · rw [hl] at hi
    rw [step_moved v hi, step_moved v (show i < ps.length by omega)]
    exact h.sorted i hi
theorem moved_two (ps : List Pt) (a b : Pt) : movedP (movedP ps (b.1 - a.1, b.2 - a.2)) a = movedP ps b := by
  unfold movedP
  rw [List.map_map]
  refine List.map_congr_left fun q _ => ?_
  unfold addP
  dsimp only [Function.comp]
  refine Prod.ext ?_ ?_
  · dsimp only; omega
  · dsimp only; omega
theorem moved_zero (ps : List Pt) : movedP ps (0, 0) = ps := by
  unfold movedP
  conv => rhs; rw [← List.map_id ps]
  refine List.map_congr_left fun q _ => ?_
  unfold addP
  simp
theorem over_far {ps : List Pt} (hb : blankB ps = true) {d : Pt} (h : ¬ (-12 < d.1 ∧ d.1 < 12 ∧ -12 < d.2 ∧ d.2 < 12)) : overlapB ps (movedP ps d) = false := by
  obtain ⟨hv, hin⟩ := blank_parts hb
  have ha := valid_around hv
  have key : ∀ r : Pt, r ≠ (0, 0) → (∀ p q, p ∈ ps → q ∈ ps → crossP p r ≤ crossP (addP d q) r) → overlapB ps (movedP ps d) = false := fun r hr hk => by
    refine sep_no ha (around_moved ha d) hr fun i j hi hj => ?_
    rw [moved_length] at hj
    rw [dot_rt, dot_rt, show fromP (movedP ps d) j = addP d (fromP ps j) from from_map _ hj]
    exact hk _ _ (from_mem' hi) (from_mem' hj)
  have cc : ∀ p r : Pt, crossP p r = p.1 * r.2 - p.2 * r.1 := fun p r => rfl
  have hc : d.1 ≤ -12 ∨ 12 ≤ d.1 ∨ d.2 ≤ -12 ∨ 12 ≤ d.2 := by omega
  rcases hc with hc | hc | hc | hc
  · refine key (0, -1) (by decide) fun p q hp hq => ?_
    have := hin p hp
    have := hin q hq
    rw [cc, cc]
    unfold addP
    dsimp only
    omega
  · refine key (0, 1) (by decide) fun p q hp hq => ?_
    have := hin p hp
    have := hin q hq
    rw [cc, cc]
    unfold addP
    dsimp only
    omega
  · refine key (1, 0) (by decide) fun p q hp hq => ?_
    have := hin p hp
    have := hin q hq
    rw [cc, cc]
    unfold addP
    dsimp only
    omega
  · refine key (-1, 0) (by decide) fun p q hp hq => ?_
    have := hin p hp
    have := hin q hq
    rw [cc, cc]
    unfold addP
    dsimp only
    omega
/-- two translations of a blank -/
theorem over_pair {ps : List Pt} (hb : blankB ps = true) (a b : Pt) : overlapB (movedP ps a) (movedP ps b) = (hitB ps (b.1 - a.1, b.2 - a.2) || decide ((b.1 - a.1, b.2 - a.2) = ((0, 0) : Pt))) := by
  have ha := valid_around (blank_parts hb).1
  have h0 := ha.rolls.some
  rw [← moved_two ps a b, overlap_moved a h0 (by rw [moved_length]; exact h0)]
  generalize ((b.1 - a.1, b.2 - a.2) : Pt) = d
  by_cases hd : d = (0, 0)
  · subst hd
    rw [moved_zero, over_self ha]
    simp
  · rw [decide_eq_false hd, Bool.or_false]
    unfold hitB
    by_cases hin : -12 < d.1 ∧ d.1 < 12 ∧ -12 < d.2 ∧ d.2 < 12
    · rw [decide_eq_true hin, Bool.true_and]
    · rw [decide_eq_false hin, Bool.false_and]
      exact over_far hb hin
/-- what a blank's move answers -/
theorem move_any {ps : List Pt} (h : blankB ps = true) {v : Pt} (hv : -900 ≤ v.1 ∧ v.1 ≤ 900 ∧ -900 ≤ v.2 ∧ v.2 ≤ 900) : farB v.1 v.2 = false ∧ (∀ u, moveR ps v.1 v.2 u = two u (.int .i64 0)) ∧ validB (movedP ps v) = true := by
  obtain ⟨hva, hin⟩ := blank_parts h
  have hf : farB v.1 v.2 = false := by simp [farB]; omega
  have hmf : (movedP ps v).any farP = false := by
    rw [List.any_eq_false]
    intro q hz
    obtain ⟨r, hr, rfl⟩ := List.mem_map.1 hz
    have := hin r hr
    intro hfar
    simp only [farP, farB, addP, Bool.or_eq_true] at hfar
    rcases hfar with ((hf | hf) | hf) | hf <;> (have := of_decide_eq_true hf; omega)
  have hlen : ¬ 32 < (movedP ps v).length := by rw [moved_length]; have := (valid_near hva).2; omega
  refine ⟨hf, fun u => ?_, valid_moved hva hmf⟩
  unfold moveR
  rw [if_pos ⟨hva, hf⟩]
  unfold limR
  rw [show movedP ps (v.1, v.2) = movedP ps v from rfl, if_neg (by rw [hmf]; decide), if_neg hlen]
end Go.Proofs.Ytnpebfchojalcaa

namespace Go.Proofs.Ytnpebfchojalcaa
set_option maxRecDepth 100000
open Go.RowKit Go.Shelf Go.Maps
theorem few_c (a : Option Addr) (len cap : Nat) (w : World) (h : len ≤ 9223372036854775807) : Calls Try.prog 14 #[.slice a len cap] w fun e w' => e = .returned (.bool (decide (len ≤ 60))) ∧ w = w' := by
  by_cases h3 : len ≤ 60
  · rw [decide_eq_true h3]
    go_enter Try.func14, Try.ntmps14
    go_wp2
    all_goals go_ret
    all_goals exact ⟨ret_bool (by simp; omega), rfl⟩
  · rw [decide_eq_false h3]
    go_enter Try.func14, Try.ntmps14
    go_wp2
    all_goals go_ret
    all_goals exact ⟨ret_bool (by simp; omega), rfl⟩
end Go.Proofs.Ytnpebfchojalcaa

namespace Go.Proofs.Ytnpebfchojalcaa
set_option maxRecDepth 100000
open Go.RowKit Go.Shelf
attribute [local go_sem] Oper.semAt_some
/-! The law of witnesses. -/
set_option maxHeartbeats 2000000 in
theorem collide_w (u : Value) (ps : List Pt) (x y : Int) (w : World) (hu : Vecs w u ps) (hb : blankB ps = true) :
    Calls Try.prog 38 #[u, vecV x y] w fun e w' => e = .returned (.bool (hitB ps (x, y))) ∧ Ext w w' := by
  obtain ⟨a, cap, rfl, hl, hm, _⟩ := hu.at
  have HE1 := Lib.hid (Ext.alloc (Ext.refl w) (.cells #[.int .i64 x, .int .i64 y] 31))
  have HU := Lib.hid (hu.ext HE1.out)
  have HV := Lib.hid (show VRow (w.alloc (.cells #[.int .i64 x, .int .i64 y] 31)) _ _ _ from vrow_alloc w [.int .i64 x, .int .i64 y] 31)
  have b0 := VRow.cell HV.out (k := 0) rfl
  have b1 := VRow.cell HV.out (k := 1) rfl
  by_cases hin : -12 < x ∧ x < 12 ∧ -12 < y ∧ y < 12
  · have HBB := Lib.hid hb
    have HFB := Lib.hid (show farB x y = false from by simp [farB]; omega)
    obtain ⟨hv, hq⟩ := blank_parts hb
    have hmf : (movedP ps (x, y)).any farP = false := by
      rw [List.any_eq_false]
      intro q hz
      obtain ⟨r, hr, rfl⟩ := List.mem_map.1 hz
      have := hq r hr
      intro hfar
      simp only [farP, farB, addP, Bool.or_eq_true] at hfar
      rcases hfar with ((hf | hf) | hf) | hf <;> (have := of_decide_eq_true hf; omega)
    have hmv := valid_moved hv hmf
    have hlen : ¬ 32 < (movedP ps (x, y)).length := by rw [moved_length]; have := (valid_near hv).2; omega
    have HME := Lib.hid (show moveE ps x y = 0 ∧ moveL ps x y = movedP ps (x, y) from by
      have hc : validB ps = true ∧ farB x y = false := ⟨hv, HFB.out⟩
      have hm0 : ¬ (movedP ps (x, y)).any farP = true := by rw [hmf]; decide
      exact ⟨by unfold moveE limE; rw [if_pos hc, if_neg hm0, if_neg hlen], by unfold moveL limL; rw [if_pos hc, if_neg hm0, if_neg hlen]⟩)
    have HOV := Lib.hid (show overlapR ps (movedP ps (x, y)) = two (.bool (overlapB ps (movedP ps (x, y)))) (.int .i64 0) from by unfold overlapR; rw [if_pos ⟨hv, hmv⟩])
    have HHB := Lib.hid (show hitB ps (x, y) = overlapB ps (movedP ps (x, y)) from by unfold hitB; rw [decide_eq_true hin, Bool.true_and])
    have k1 : ¬ x ≤ -12 := by omega
    have k2 : ¬ 12 ≤ x := by omega
    have k3 : ¬ y ≤ -12 := by omega
    have k4 : ¬ 12 ≤ y := by omega
    clear hu hb hv hq hmf hmv hlen hin
    go_enter Try.func38, Try.ntmps38
    go_wp2_with fail
    refine (show Calls Try.prog 82 #[_, vecV x y] _ _ from (rMove_o _ ps x y _ HU.out).mono ?_)
    rintro e w3 ⟨r, rfl, hr, hE⟩
    rw [HME.out.2] at hr
    rw [HME.out.1]
    have HR := Lib.hid hr
    have HU3 := Lib.hid (HU.out.ext hE)
    have HE3 := Lib.hid (Ext.trans HE1.out hE)
    clear b0 b1 hr hE k1 k2 k3 k4
    go_wp2_with fail
    refine (rOverlap_c _ _ ps (movedP ps (x, y)) w3 HU3.out HR.out).mono ?_
    rintro e w4 ⟨he, hE⟩
    rw [HOV.out] at he
    subst he
    have HE4 := Lib.hid (Ext.trans HE3.out hE)
    clear hE
    unfold two
    go_wp2_with fail
    go_ret
    exact ⟨ret_bool HHB.out.symm, HE4.out⟩
  · have HHB := Lib.hid (show hitB ps (x, y) = false from by unfold hitB; rw [decide_eq_false hin, Bool.false_and])
    clear hu
    by_cases k1 : x ≤ -12
    · go_enter Try.func38, Try.ntmps38
      go_wp2_with fail
      go_ret
      exact ⟨ret_bool HHB.out.symm, HE1.out⟩
    · by_cases k2 : 12 ≤ x
      · go_enter Try.func38, Try.ntmps38
        go_wp2_with fail
        go_ret
        exact ⟨ret_bool HHB.out.symm, HE1.out⟩
      · by_cases k3 : y ≤ -12
        · go_enter Try.func38, Try.ntmps38
          go_wp2_with fail
          go_ret
          exact ⟨ret_bool HHB.out.symm, HE1.out⟩
        · have k4 : 12 ≤ y := by omega
          go_enter Try.func38, Try.ntmps38
          go_wp2_with fail
          go_ret
          exact ⟨ret_bool HHB.out.symm, HE1.out⟩
theorem adm_has (ps : List Pt) (A B D : Int) : ∃ (b : Bool) (er : Int), admR ps A B D = two (.bool b) (.int .i64 er) := by
  unfold admR
  split
  · exact ⟨_, _, rfl⟩
  · exact ⟨_, _, rfl⟩
theorem wit_in {ps : List Pt} {A B D : Int} {q : Pt} (hb : blankB ps = true) (hg : gridB A B D = true) (h : FirstW (collL ps A B D) q) : (q ≠ (0, 0) ∧ inB A B D q = true) ∧ (-12 < q.1 ∧ q.1 < 12 ∧ -12 < q.2 ∧ q.2 < 12) ∧ overlapB ps (movedP ps q) = true := by
  obtain ⟨h1, h2, h3⟩ := (coll_mem hb (gridB_ok hg)).1 h.1
  obtain ⟨h4, h5⟩ := (hit_iff _ _).1 h3
  refine ⟨⟨fun e => ?_, inB_iff.2 h2⟩, h4, h5⟩
  rw [e] at h1
  unfold leastZ at h1
  simp at h1
set_option maxHeartbeats 16000000 in
theorem witness_law (v : Value) (ps : List Pt) (A B D ax ay bx by9 : Int) (w : World) (hv : Vecs w v ps) :
    Calls Try.prog 9 #[v, gridV A B D, vecV ax ay, vecV bx by9] w fun e w' => e = .returned (.bool true) ∧ Ext w w' := by
  obtain ⟨a, cap, rfl, hl, hm, _⟩ := hv.at
  have hE0 := Ext.alloc (Ext.alloc (Ext.alloc (Ext.refl w) (.cells #[.int .i64 A, .int .i64 B, .int .i64 D] 24)) (.cells #[.int .i64 ax, .int .i64 ay] 31)) (.cells #[.int .i64 bx, .int .i64 by9] 31)
  have HV0 := Lib.hid (hv.ext hE0)
  have HE0 := Lib.hid hE0
  have HG0 := Lib.hid (show VRow (((w.alloc (.cells #[.int .i64 A, .int .i64 B, .int .i64 D] 24)).alloc (.cells #[.int .i64 ax, .int .i64 ay] 31)).alloc (.cells #[.int .i64 bx, .int .i64 by9] 31)) w.heap.size 24 [.int .i64 A, .int .i64 B, .int .i64 D] from ((vrow_alloc w [.int .i64 A, .int .i64 B, .int .i64 D] 24).alloc _).alloc _)
  have HA0 := Lib.hid (show VRow (((w.alloc (.cells #[.int .i64 A, .int .i64 B, .int .i64 D] 24)).alloc (.cells #[.int .i64 ax, .int .i64 ay] 31)).alloc (.cells #[.int .i64 bx, .int .i64 by9] 31)) (w.heap.size + 1) 31 [.int .i64 ax, .int .i64 ay] from by
    have h := vrow_alloc (w.alloc (.cells #[.int .i64 A, .int .i64 B, .int .i64 D] 24)) [.int .i64 ax, .int .i64 ay] 31
    rw [show (w.alloc (.cells #[.int .i64 A, .int .i64 B, .int .i64 D] 24)).heap.size = w.heap.size + 1 by simp] at h
    exact h.alloc _)
  have HB0 := Lib.hid (show VRow (((w.alloc (.cells #[.int .i64 A, .int .i64 B, .int .i64 D] 24)).alloc (.cells #[.int .i64 ax, .int .i64 ay] 31)).alloc (.cells #[.int .i64 bx, .int .i64 by9] 31)) (w.heap.size + 2) 31 [.int .i64 bx, .int .i64 by9] from by
    have h := vrow_alloc ((w.alloc (.cells #[.int .i64 A, .int .i64 B, .int .i64 D] 24)).alloc (.cells #[.int .i64 ax, .int .i64 ay] 31)) [.int .i64 bx, .int .i64 by9] 31
    rw [show ((w.alloc (.cells #[.int .i64 A, .int .i64 B, .int .i64 D] 24)).alloc (.cells #[.int .i64 ax, .int .i64 ay] 31)).heap.size = w.heap.size + 2 by simp] at h
    exact h)
  clear hv hE0
  by_cases h60 : ps.length ≤ 60
  · have Hd := Lib.hid (decide_eq_true h60)
    unfold gridV
    go_enter Try.func9, Try.ntmps9
    go_wp2_with fail
    refine (few_c a ps.length cap _ (by omega)).mono ?_
    rintro e w1 ⟨rfl, rfl⟩
    rw [Hd.out]
    obtain ⟨g, hg⟩ : ∃ g, g = w.heap.size := ⟨_, rfl⟩
    rw [← hg] at HG0 HA0 HB0 ⊢
    have c0 := VRow.cell HG0.out (k := 0) rfl
    have c1 := VRow.cell HG0.out (k := 1) rfl
    have c2 := VRow.cell HG0.out (k := 2) rfl
    generalize ((w.alloc (.cells #[.int .i64 A, .int .i64 B, .int .i64 D] 24)).alloc (.cells #[.int .i64 ax, .int .i64 ay] 31)).alloc (.cells #[.int .i64 bx, .int .i64 by9] 31) = w1 at *
    clear hg h60
    go_wp2_with fail
    clear c0 c1 c2
    refine (show Calls Try.prog 16 #[.slice a ps.length cap, gridV A B D] w1 _ from Admissible_c _ ps A B D w1 HV0.out).mono ?_
    rintro e w2 ⟨rfl, hE⟩
    have HV2 := Lib.hid (HV0.out.ext hE)
    have HG2 := Lib.hid (VRow.ext HG0.out hE)
    have HA2 := Lib.hid (VRow.ext HA0.out hE)
    have HB2 := Lib.hid (VRow.ext HB0.out hE)
    have HE2 := Lib.hid (Ext.trans HE0.out hE)
    clear HV0 HG0 HA0 HB0 HE0 hE
    obtain ⟨xb, xe, hxa⟩ := adm_has ps A B D
    have HXA := Lib.hid hxa
    rw [hxa]
    clear hxa
    unfold two
    have c0 := VRow.cell HG2.out (k := 0) rfl
    have c1 := VRow.cell HG2.out (k := 1) rfl
    have c2 := VRow.cell HG2.out (k := 2) rfl
    go_wp2_with fail
    clear c0 c1 c2
    refine (show Calls Try.prog 18 #[.slice a ps.length cap, gridV A B D] w2 _ from Witness_c _ ps A B D w2 HV2.out).mono ?_
    rintro e w3 ⟨hW, hE⟩
    have HV3 := Lib.hid (HV2.out.ext hE)
    have HG3 := Lib.hid (VRow.ext HG2.out hE)
    have HA3 := Lib.hid (VRow.ext HA2.out hE)
    have HB3 := Lib.hid (VRow.ext HB2.out hE)
    have HE3 := Lib.hid (Ext.trans HE2.out hE)
    clear HV2 HG2 HA2 HB2 HE2 hE
    have hX := HXA.out
    unfold admR at hX
    unfold WitS two at hW
    rcases hW with ⟨hbg, hc, rfl⟩ | ⟨hbg, q, hq, rfl⟩ | ⟨hbg, rfl⟩
    · rw [if_pos hbg, decide_eq_true hc] at hX
      have HBB := Lib.hid hbg.1
      injection hX with hX
      injection hX with hX
      simp only [Array.mk.injEq, List.cons.injEq, Value.bool.injEq, Value.int.injEq, and_true, true_and] at hX
      obtain ⟨rfl, rfl⟩ := hX
      have HE4 := Lib.hid (Ext.trans HE3.out (Ext.alloc (Ext.refl w3) (.cells #[.int .i64 0, .int .i64 0] 31)))
      have HV4 := Lib.hid (HV3.out.ext (Ext.alloc (Ext.refl w3) (.cells #[.int .i64 0, .int .i64 0] 31)))
      have HA4 := Lib.hid (HA3.out.alloc (.cells #[.int .i64 0, .int .i64 0] 31))
      have HB4 := Lib.hid (HB3.out.alloc (.cells #[.int .i64 0, .int .i64 0] 31))
      clear HXA hbg hc HV3 HG3 HA3 HB3 HE3
      have a0 := VRow.cell HA4.out (k := 0) rfl
      have a1 := VRow.cell HA4.out (k := 1) rfl
      have b0 := VRow.cell HB4.out (k := 0) rfl
      have b1 := VRow.cell HB4.out (k := 1) rfl
      by_cases c0 : ax < -900
      · go_wp2_with fail
        refine (alive_c _).mono ?_
        rintro e w9 ⟨rfl, hE9⟩
        go_wp2_with fail
        go_ret
        exact ⟨rfl, Ext.trans HE4.out hE9⟩
      · skip
        by_cases c1 : 900 < ax
        · go_wp2_with fail
          refine (alive_c _).mono ?_
          rintro e w9 ⟨rfl, hE9⟩
          go_wp2_with fail
          go_ret
          exact ⟨rfl, Ext.trans HE4.out hE9⟩
        · skip
          by_cases c2 : ay < -900
          · go_wp2_with fail
            refine (alive_c _).mono ?_
            rintro e w9 ⟨rfl, hE9⟩
            go_wp2_with fail
            go_ret
            exact ⟨rfl, Ext.trans HE4.out hE9⟩
          · skip
            by_cases c3 : 900 < ay
            · go_wp2_with fail
              refine (alive_c _).mono ?_
              rintro e w9 ⟨rfl, hE9⟩
              go_wp2_with fail
              go_ret
              exact ⟨rfl, Ext.trans HE4.out hE9⟩
            · skip
              by_cases c4 : bx < -900
              · go_wp2_with fail
                refine (alive_c _).mono ?_
                rintro e w9 ⟨rfl, hE9⟩
                go_wp2_with fail
                go_ret
                exact ⟨rfl, Ext.trans HE4.out hE9⟩
              · skip
                by_cases c5 : 900 < bx
                · go_wp2_with fail
                  refine (alive_c _).mono ?_
                  rintro e w9 ⟨rfl, hE9⟩
                  go_wp2_with fail
                  go_ret
                  exact ⟨rfl, Ext.trans HE4.out hE9⟩
                · skip
                  by_cases c6 : by9 < -900
                  · go_wp2_with fail
                    refine (alive_c _).mono ?_
                    rintro e w9 ⟨rfl, hE9⟩
                    go_wp2_with fail
                    go_ret
                    exact ⟨rfl, Ext.trans HE4.out hE9⟩
                  · skip
                    by_cases c7 : 900 < by9
                    · go_wp2_with fail
                      refine (alive_c _).mono ?_
                      rintro e w9 ⟨rfl, hE9⟩
                      go_wp2_with fail
                      go_ret
                      exact ⟨rfl, Ext.trans HE4.out hE9⟩
                    · skip
                      have HFA := Lib.hid (move_any HBB.out (v := (ax, ay)) (by dsimp only; omega))
                      have HFB := Lib.hid (move_any HBB.out (v := (bx, by9)) (by dsimp only; omega))
                      have HOV := Lib.hid (show overlapR (movedP ps (ax, ay)) (movedP ps (bx, by9)) = two (.bool (overlapB (movedP ps (ax, ay)) (movedP ps (bx, by9)))) (.int .i64 0) from by unfold overlapR; rw [if_pos ⟨HFA.out.2.2, HFB.out.2.2⟩])
                      have HOP := Lib.hid (over_pair HBB.out (ax, ay) (bx, by9))
                      have HXW := Lib.hid (IntWalk.i64_in (bx - ax) (by omega))
                      have HYW := Lib.hid (IntWalk.i64_in (by9 - ay) (by omega))
                      have HCC := Lib.hid (show _ ∧ _ ∧ _ ∧ _ ∧ _ ∧ _ ∧ _ ∧ _ from ⟨c0, c1, c2, c3, c4, c5, c6, c7⟩)
                      go_wp2_with fail
                      clear a0 a1 b0 b1 c0 c1 c2 c3 c4 c5 c6 c7
                      refine (show Calls Try.prog 35 #[_, vecV ax ay] _ _ from Move_c _ ps ax ay _ HV4.out).mono ?_
                      rintro e x1 ⟨ua, rfl, hua, hE⟩
                      have hua := hua (blank_parts HBB.out).1 HFA.out.1
                      rw [HFA.out.2.1]
                      have HUA := Lib.hid (show Vecs x1 ua (movedP ps (ax, ay)) from hua)
                      have HV1 := Lib.hid (HV4.out.ext hE)
                      have HA1 := Lib.hid (VRow.ext HA4.out hE)
                      have HB1 := Lib.hid (VRow.ext HB4.out hE)
                      have HE1 := Lib.hid (Ext.trans HE4.out hE)
                      clear hua hE
                      have b0 := VRow.cell HB1.out (k := 0) rfl
                      have b1 := VRow.cell HB1.out (k := 1) rfl
                      unfold two
                      go_wp2_with fail
                      clear b0 b1
                      refine (show Calls Try.prog 35 #[_, vecV bx by9] _ _ from Move_c _ ps bx by9 _ HV1.out).mono ?_
                      rintro e x2 ⟨ub, rfl, hub, hE⟩
                      have hub := hub (blank_parts HBB.out).1 HFB.out.1
                      rw [HFB.out.2.1]
                      have HUB := Lib.hid (show Vecs x2 ub (movedP ps (bx, by9)) from hub)
                      have HUA2 := Lib.hid (HUA.out.ext hE)
                      have HV2 := Lib.hid (HV1.out.ext hE)
                      have HA2 := Lib.hid (VRow.ext HA1.out hE)
                      have HB2 := Lib.hid (VRow.ext HB1.out hE)
                      have HE2 := Lib.hid (Ext.trans HE1.out hE)
                      clear hub hE
                      unfold two
                      go_wp2_with fail
                      refine (Overlap_c _ _ _ _ _ HUA2.out HUB.out).mono ?_
                      rintro e x3 ⟨rfl, hE⟩
                      rw [HOV.out]
                      have HV3 := Lib.hid (HV2.out.ext hE)
                      have HA3 := Lib.hid (VRow.ext HA2.out hE)
                      have HB3 := Lib.hid (VRow.ext HB2.out hE)
                      have HE3 := Lib.hid (Ext.trans HE2.out hE)
                      clear hE
                      have a0 := VRow.cell HA3.out (k := 0) rfl
                      have a1 := VRow.cell HA3.out (k := 1) rfl
                      have b0 := VRow.cell HB3.out (k := 0) rfl
                      have b1 := VRow.cell HB3.out (k := 1) rfl
                      have xw := HXW.out
                      have yw := HYW.out
                      have HE4 := Lib.hid (Ext.trans HE3.out (Ext.alloc (Ext.refl x3) (.cells #[.int .i64 (bx - ax), .int .i64 (by9 - ay)] 31)))
                      have HV4 := Lib.hid (HV3.out.ext (Ext.alloc (Ext.refl x3) (.cells #[.int .i64 (bx - ax), .int .i64 (by9 - ay)] 31)))
                      have HD4 := Lib.hid (show VRow (x3.alloc (.cells #[.int .i64 (bx - ax), .int .i64 (by9 - ay)] 31)) _ _ _ from vrow_alloc x3 [.int .i64 (bx - ax), .int .i64 (by9 - ay)] 31)
                      have d0 := VRow.cell HD4.out (k := 0) rfl
                      have d1 := VRow.cell HD4.out (k := 1) rfl
                      obtain ⟨ob, hob⟩ : ∃ ob, ob = overlapB (movedP ps (ax, ay)) (movedP ps (bx, by9)) := ⟨_, rfl⟩
                      have HOP2 := Lib.hid (hob.trans HOP.out)
                      rw [← hob]
                      clear hob
                      unfold two
                      go_wp2_with fail
                      clear a0 a1 b0 b1 xw yw
                      refine (show Calls Try.prog 38 #[_, vecV (bx - ax) (by9 - ay)] _ _ from collide_w _ ps (bx - ax) (by9 - ay) _ HV4.out HBB.out).mono ?_
                      rintro e x5 ⟨rfl, hE⟩
                      have HE5 := Lib.hid (Ext.trans HE4.out hE)
                      have HD5 := Lib.hid (VRow.ext HD4.out hE)
                      clear hE d0 d1
                      have d0 := VRow.cell HD5.out (k := 0) rfl
                      have d1 := VRow.cell HD5.out (k := 1) rfl
                      have h9 := HOP2.out
                      cases hh : hitB ps (bx - ax, by9 - ay) with
                      | true =>
                        rw [hh, Bool.true_or] at h9
                        subst h9
                        clear hh
                        go_wp2_with fail
                        refine (alive_c _).mono ?_
                        rintro e w9 ⟨rfl, hE9⟩
                        go_wp2_with fail
                        go_ret
                        exact ⟨rfl, Ext.trans HE5.out hE9⟩
                      | false =>
                        rw [hh, Bool.false_or] at h9
                        clear hh
                        by_cases hz : bx - ax = 0 ∧ by9 - ay = 0
                        · rw [decide_eq_true (Prod.ext hz.1 hz.2)] at h9
                          subst h9
                          obtain ⟨z1, z2⟩ := hz
                          rw [z1] at d0
                          rw [z2] at d1
                          clear z1 z2
                          go_wp2_with fail
                          refine (alive_c _).mono ?_
                          rintro e w9 ⟨rfl, hE9⟩
                          go_wp2_with fail
                          go_ret
                          exact ⟨rfl, Ext.trans HE5.out hE9⟩
                        · rw [decide_eq_false (fun h => hz ⟨congrArg Prod.fst h, congrArg Prod.snd h⟩)] at h9
                          subst h9
                          obtain ⟨dx, hdx⟩ : ∃ dx, dx = bx - ax := ⟨_, rfl⟩
                          obtain ⟨dy, hdy⟩ : ∃ dy, dy = by9 - ay := ⟨_, rfl⟩
                          rw [← hdx] at d0 hz
                          rw [← hdy] at d1 hz
                          by_cases z1 : dx = 0
                          · have z2 : ¬ dy = 0 := fun h => hz ⟨z1, h⟩
                            rw [z1] at d0
                            clear z1 hz hdx hdy
                            go_wp2_with fail
                            refine (alive_c _).mono ?_
                            rintro e w9 ⟨rfl, hE9⟩
                            go_wp2_with fail
                            go_ret
                            exact ⟨rfl, Ext.trans HE5.out hE9⟩
                          · clear hz hdx hdy
                            go_wp2_with fail
                            refine (alive_c _).mono ?_
                            rintro e w9 ⟨rfl, hE9⟩
                            go_wp2_with fail
                            go_ret
                            exact ⟨rfl, Ext.trans HE5.out hE9⟩
    · rw [if_pos hbg] at hX
      have HBB := Lib.hid hbg.1
      have HWI := Lib.hid (wit_in hbg.1 hbg.2 hq)
      have HGG := Lib.hid (gridB_ok hbg.2)
      rw [decide_eq_false (fun h => by have := hq.1; rw [h] at this; cases this)] at hX
      injection hX with hX
      injection hX with hX
      simp only [Array.mk.injEq, List.cons.injEq, Value.bool.injEq, Value.int.injEq, and_true, true_and] at hX
      obtain ⟨rfl, rfl⟩ := hX
      obtain ⟨qx, qy⟩ := q
      dsimp only at HWI ⊢
      have HE4 := Lib.hid (Ext.trans HE3.out (Ext.alloc (Ext.refl w3) (.cells #[.int .i64 qx, .int .i64 qy] 31)))
      have HV4 := Lib.hid (HV3.out.ext (Ext.alloc (Ext.refl w3) (.cells #[.int .i64 qx, .int .i64 qy] 31)))
      have HG4 := Lib.hid (HG3.out.alloc (.cells #[.int .i64 qx, .int .i64 qy] 31))
      have HA4 := Lib.hid (HA3.out.alloc (.cells #[.int .i64 qx, .int .i64 qy] 31))
      have HB4 := Lib.hid (HB3.out.alloc (.cells #[.int .i64 qx, .int .i64 qy] 31))
      have HQ4 := Lib.hid (show VRow (w3.alloc (.cells #[.int .i64 qx, .int .i64 qy] 31)) _ _ _ from vrow_alloc w3 [.int .i64 qx, .int .i64 qy] 31)
      clear HXA hbg hq HV3 HG3 HA3 HB3 HE3
      have HQB := Lib.hid (show (-1000 ≤ qx ∧ qx ≤ 1000) ∧ (-1000 ≤ qy ∧ qy ≤ 1000) from by have := HWI.out.2.1; omega)
      have HFQ := Lib.hid (move_any HBB.out (v := (qx, qy)) (by have := HWI.out.2.1; dsimp only at this ⊢; omega))
      have HOQ := Lib.hid (show overlapR ps (movedP ps (qx, qy)) = two (.bool true) (.int .i64 0) from by unfold overlapR; rw [if_pos ⟨(blank_parts HBB.out).1, HFQ.out.2.2⟩, HWI.out.2.2])
      have q0 := VRow.cell HQ4.out (k := 0) rfl
      have q1 := VRow.cell HQ4.out (k := 1) rfl
      go_wp2_with fail
      clear q0 q1
      refine (show Calls Try.prog 35 #[_, vecV qx qy] _ _ from Move_c _ ps qx qy _ HV4.out).mono ?_
      rintro e w5 ⟨uq, rfl, huq, hE⟩
      have huq := huq (blank_parts HBB.out).1 HFQ.out.1
      rw [HFQ.out.2.1]
      have HUQ := Lib.hid (show Vecs w5 uq (movedP ps (qx, qy)) from huq)
      have HV5 := Lib.hid (HV4.out.ext hE)
      have HG5 := Lib.hid (VRow.ext HG4.out hE)
      have HA5 := Lib.hid (VRow.ext HA4.out hE)
      have HB5 := Lib.hid (VRow.ext HB4.out hE)
      have HQ5 := Lib.hid (VRow.ext HQ4.out hE)
      have HE5 := Lib.hid (Ext.trans HE4.out hE)
      clear huq hE HV4 HG4 HA4 HB4 HQ4 HE4
      unfold two
      go_wp2_with fail
      refine (Overlap_c _ _ _ _ _ HV5.out HUQ.out).mono ?_
      rintro e w6 ⟨rfl, hE⟩
      rw [HOQ.out]
      have HV6 := Lib.hid (HV5.out.ext hE)
      have HG6 := Lib.hid (VRow.ext HG5.out hE)
      have HA6 := Lib.hid (VRow.ext HA5.out hE)
      have HB6 := Lib.hid (VRow.ext HB5.out hE)
      have HQ6 := Lib.hid (VRow.ext HQ5.out hE)
      have HE6 := Lib.hid (Ext.trans HE5.out hE)
      clear hE HV5 HG5 HA5 HB5 HQ5 HE5 HUQ
      have hz : ¬ (qx = 0 ∧ qy = 0) := fun h => HWI.out.1.1 (Prod.ext h.1 h.2)
      by_cases z1 : qx = 0
      · subst z1
        have z2 : ¬ qy = 0 := fun h => hz ⟨rfl, h⟩
        clear hz
        have q0 := VRow.cell HQ6.out (k := 0) rfl
        have q1 := VRow.cell HQ6.out (k := 1) rfl
        have c0 := VRow.cell HG6.out (k := 0) rfl
        have c1 := VRow.cell HG6.out (k := 1) rfl
        have c2 := VRow.cell HG6.out (k := 2) rfl
        unfold two
        go_wp2_with fail
        clear q0 q1 c0 c1 c2
        refine (show Calls Try.prog 37 #[gridV A B D, vecV 0 qy] w6 _ from in_c A B D 0 qy w6 HGG.out HQB.out.1 HQB.out.2).mono ?_
        rintro e w7 ⟨rfl, hE⟩
        rw [HWI.out.1.2]
        have HV7 := Lib.hid (HV6.out.ext hE)
        have HA7 := Lib.hid (VRow.ext HA6.out hE)
        have HB7 := Lib.hid (VRow.ext HB6.out hE)
        have HE7 := Lib.hid (Ext.trans HE6.out hE)
        clear hE HV6 HG6 HA6 HB6 HQ6 HE6
        have a0 := VRow.cell HA7.out (k := 0) rfl
        have a1 := VRow.cell HA7.out (k := 1) rfl
        have b0 := VRow.cell HB7.out (k := 0) rfl
        have b1 := VRow.cell HB7.out (k := 1) rfl
        by_cases c0 : ax < -900
        · go_wp2_with fail
          refine (alive_c _).mono ?_
          rintro e w9 ⟨rfl, hE9⟩
          go_wp2_with fail
          go_ret
          exact ⟨rfl, Ext.trans HE7.out hE9⟩
        · skip
          by_cases c1 : 900 < ax
          · go_wp2_with fail
            refine (alive_c _).mono ?_
            rintro e w9 ⟨rfl, hE9⟩
            go_wp2_with fail
            go_ret
            exact ⟨rfl, Ext.trans HE7.out hE9⟩
          · skip
            by_cases c2 : ay < -900
            · go_wp2_with fail
              refine (alive_c _).mono ?_
              rintro e w9 ⟨rfl, hE9⟩
              go_wp2_with fail
              go_ret
              exact ⟨rfl, Ext.trans HE7.out hE9⟩
            · skip
              by_cases c3 : 900 < ay
              · go_wp2_with fail
                refine (alive_c _).mono ?_
                rintro e w9 ⟨rfl, hE9⟩
                go_wp2_with fail
                go_ret
                exact ⟨rfl, Ext.trans HE7.out hE9⟩
              · skip
                by_cases c4 : bx < -900
                · go_wp2_with fail
                  refine (alive_c _).mono ?_
                  rintro e w9 ⟨rfl, hE9⟩
                  go_wp2_with fail
                  go_ret
                  exact ⟨rfl, Ext.trans HE7.out hE9⟩
                · skip
                  by_cases c5 : 900 < bx
                  · go_wp2_with fail
                    refine (alive_c _).mono ?_
                    rintro e w9 ⟨rfl, hE9⟩
                    go_wp2_with fail
                    go_ret
                    exact ⟨rfl, Ext.trans HE7.out hE9⟩
                  · skip
                    by_cases c6 : by9 < -900
                    · go_wp2_with fail
                      refine (alive_c _).mono ?_
                      rintro e w9 ⟨rfl, hE9⟩
                      go_wp2_with fail
                      go_ret
                      exact ⟨rfl, Ext.trans HE7.out hE9⟩
                    · skip
                      by_cases c7 : 900 < by9
                      · go_wp2_with fail
                        refine (alive_c _).mono ?_
                        rintro e w9 ⟨rfl, hE9⟩
                        go_wp2_with fail
                        go_ret
                        exact ⟨rfl, Ext.trans HE7.out hE9⟩
                      · skip
                        have HFA := Lib.hid (move_any HBB.out (v := (ax, ay)) (by dsimp only; omega))
                        have HFB := Lib.hid (move_any HBB.out (v := (bx, by9)) (by dsimp only; omega))
                        have HOV := Lib.hid (show overlapR (movedP ps (ax, ay)) (movedP ps (bx, by9)) = two (.bool (overlapB (movedP ps (ax, ay)) (movedP ps (bx, by9)))) (.int .i64 0) from by unfold overlapR; rw [if_pos ⟨HFA.out.2.2, HFB.out.2.2⟩])
                        have HOP := Lib.hid (over_pair HBB.out (ax, ay) (bx, by9))
                        have HXW := Lib.hid (IntWalk.i64_in (bx - ax) (by omega))
                        have HYW := Lib.hid (IntWalk.i64_in (by9 - ay) (by omega))
                        have HCC := Lib.hid (show _ ∧ _ ∧ _ ∧ _ ∧ _ ∧ _ ∧ _ ∧ _ from ⟨c0, c1, c2, c3, c4, c5, c6, c7⟩)
                        go_wp2_with fail
                        clear a0 a1 b0 b1 c0 c1 c2 c3 c4 c5 c6 c7
                        refine (show Calls Try.prog 35 #[_, vecV ax ay] _ _ from Move_c _ ps ax ay _ HV7.out).mono ?_
                        rintro e x1 ⟨ua, rfl, hua, hE⟩
                        have hua := hua (blank_parts HBB.out).1 HFA.out.1
                        rw [HFA.out.2.1]
                        have HUA := Lib.hid (show Vecs x1 ua (movedP ps (ax, ay)) from hua)
                        have HV1 := Lib.hid (HV7.out.ext hE)
                        have HA1 := Lib.hid (VRow.ext HA7.out hE)
                        have HB1 := Lib.hid (VRow.ext HB7.out hE)
                        have HE1 := Lib.hid (Ext.trans HE7.out hE)
                        clear hua hE
                        have b0 := VRow.cell HB1.out (k := 0) rfl
                        have b1 := VRow.cell HB1.out (k := 1) rfl
                        unfold two
                        go_wp2_with fail
                        clear b0 b1
                        refine (show Calls Try.prog 35 #[_, vecV bx by9] _ _ from Move_c _ ps bx by9 _ HV1.out).mono ?_
                        rintro e x2 ⟨ub, rfl, hub, hE⟩
                        have hub := hub (blank_parts HBB.out).1 HFB.out.1
                        rw [HFB.out.2.1]
                        have HUB := Lib.hid (show Vecs x2 ub (movedP ps (bx, by9)) from hub)
                        have HUA2 := Lib.hid (HUA.out.ext hE)
                        have HV2 := Lib.hid (HV1.out.ext hE)
                        have HA2 := Lib.hid (VRow.ext HA1.out hE)
                        have HB2 := Lib.hid (VRow.ext HB1.out hE)
                        have HE2 := Lib.hid (Ext.trans HE1.out hE)
                        clear hub hE
                        unfold two
                        go_wp2_with fail
                        refine (Overlap_c _ _ _ _ _ HUA2.out HUB.out).mono ?_
                        rintro e x3 ⟨rfl, hE⟩
                        rw [HOV.out]
                        have HV3 := Lib.hid (HV2.out.ext hE)
                        have HA3 := Lib.hid (VRow.ext HA2.out hE)
                        have HB3 := Lib.hid (VRow.ext HB2.out hE)
                        have HE3 := Lib.hid (Ext.trans HE2.out hE)
                        clear hE
                        have a0 := VRow.cell HA3.out (k := 0) rfl
                        have a1 := VRow.cell HA3.out (k := 1) rfl
                        have b0 := VRow.cell HB3.out (k := 0) rfl
                        have b1 := VRow.cell HB3.out (k := 1) rfl
                        have xw := HXW.out
                        have yw := HYW.out
                        have HE4 := Lib.hid (Ext.trans HE3.out (Ext.alloc (Ext.refl x3) (.cells #[.int .i64 (bx - ax), .int .i64 (by9 - ay)] 31)))
                        have HV4 := Lib.hid (HV3.out.ext (Ext.alloc (Ext.refl x3) (.cells #[.int .i64 (bx - ax), .int .i64 (by9 - ay)] 31)))
                        have HD4 := Lib.hid (show VRow (x3.alloc (.cells #[.int .i64 (bx - ax), .int .i64 (by9 - ay)] 31)) _ _ _ from vrow_alloc x3 [.int .i64 (bx - ax), .int .i64 (by9 - ay)] 31)
                        have d0 := VRow.cell HD4.out (k := 0) rfl
                        have d1 := VRow.cell HD4.out (k := 1) rfl
                        obtain ⟨ob, hob⟩ : ∃ ob, ob = overlapB (movedP ps (ax, ay)) (movedP ps (bx, by9)) := ⟨_, rfl⟩
                        have HOP2 := Lib.hid (hob.trans HOP.out)
                        rw [← hob]
                        clear hob
                        unfold two
                        go_wp2_with fail
                        clear a0 a1 b0 b1 xw yw
                        refine (show Calls Try.prog 38 #[_, vecV (bx - ax) (by9 - ay)] _ _ from collide_w _ ps (bx - ax) (by9 - ay) _ HV4.out HBB.out).mono ?_
                        rintro e x5 ⟨rfl, hE⟩
                        have HE5 := Lib.hid (Ext.trans HE4.out hE)
                        have HD5 := Lib.hid (VRow.ext HD4.out hE)
                        clear hE d0 d1
                        have d0 := VRow.cell HD5.out (k := 0) rfl
                        have d1 := VRow.cell HD5.out (k := 1) rfl
                        have h9 := HOP2.out
                        cases hh : hitB ps (bx - ax, by9 - ay) with
                        | true =>
                          rw [hh, Bool.true_or] at h9
                          subst h9
                          clear hh
                          go_wp2_with fail
                          refine (alive_c _).mono ?_
                          rintro e w9 ⟨rfl, hE9⟩
                          go_wp2_with fail
                          go_ret
                          exact ⟨rfl, Ext.trans HE5.out hE9⟩
                        | false =>
                          rw [hh, Bool.false_or] at h9
                          clear hh
                          by_cases hz : bx - ax = 0 ∧ by9 - ay = 0
                          · rw [decide_eq_true (Prod.ext hz.1 hz.2)] at h9
                            subst h9
                            obtain ⟨z1, z2⟩ := hz
                            rw [z1] at d0
                            rw [z2] at d1
                            clear z1 z2
                            go_wp2_with fail
                            refine (alive_c _).mono ?_
                            rintro e w9 ⟨rfl, hE9⟩
                            go_wp2_with fail
                            go_ret
                            exact ⟨rfl, Ext.trans HE5.out hE9⟩
                          · rw [decide_eq_false (fun h => hz ⟨congrArg Prod.fst h, congrArg Prod.snd h⟩)] at h9
                            subst h9
                            obtain ⟨dx, hdx⟩ : ∃ dx, dx = bx - ax := ⟨_, rfl⟩
                            obtain ⟨dy, hdy⟩ : ∃ dy, dy = by9 - ay := ⟨_, rfl⟩
                            rw [← hdx] at d0 hz
                            rw [← hdy] at d1 hz
                            by_cases z1 : dx = 0
                            · have z2 : ¬ dy = 0 := fun h => hz ⟨z1, h⟩
                              rw [z1] at d0
                              clear z1 hz hdx hdy
                              go_wp2_with fail
                              refine (alive_c _).mono ?_
                              rintro e w9 ⟨rfl, hE9⟩
                              go_wp2_with fail
                              go_ret
                              exact ⟨rfl, Ext.trans HE5.out hE9⟩
                            · clear hz hdx hdy
                              go_wp2_with fail
                              refine (alive_c _).mono ?_
                              rintro e w9 ⟨rfl, hE9⟩
                              go_wp2_with fail
                              go_ret
                              exact ⟨rfl, Ext.trans HE5.out hE9⟩
      · clear hz
        have q0 := VRow.cell HQ6.out (k := 0) rfl
        have q1 := VRow.cell HQ6.out (k := 1) rfl
        have c0 := VRow.cell HG6.out (k := 0) rfl
        have c1 := VRow.cell HG6.out (k := 1) rfl
        have c2 := VRow.cell HG6.out (k := 2) rfl
        unfold two
        go_wp2_with fail
        clear q0 q1 c0 c1 c2
        refine (show Calls Try.prog 37 #[gridV A B D, vecV qx qy] w6 _ from in_c A B D qx qy w6 HGG.out HQB.out.1 HQB.out.2).mono ?_
        rintro e w7 ⟨rfl, hE⟩
        rw [HWI.out.1.2]
        have HV7 := Lib.hid (HV6.out.ext hE)
        have HA7 := Lib.hid (VRow.ext HA6.out hE)
        have HB7 := Lib.hid (VRow.ext HB6.out hE)
        have HE7 := Lib.hid (Ext.trans HE6.out hE)
        clear hE HV6 HG6 HA6 HB6 HQ6 HE6
        have a0 := VRow.cell HA7.out (k := 0) rfl
        have a1 := VRow.cell HA7.out (k := 1) rfl
        have b0 := VRow.cell HB7.out (k := 0) rfl
        have b1 := VRow.cell HB7.out (k := 1) rfl
        by_cases c0 : ax < -900
        · go_wp2_with fail
          refine (alive_c _).mono ?_
          rintro e w9 ⟨rfl, hE9⟩
          go_wp2_with fail
          go_ret
          exact ⟨rfl, Ext.trans HE7.out hE9⟩
        · skip
          by_cases c1 : 900 < ax
          · go_wp2_with fail
            refine (alive_c _).mono ?_
            rintro e w9 ⟨rfl, hE9⟩
            go_wp2_with fail
            go_ret
            exact ⟨rfl, Ext.trans HE7.out hE9⟩
          · skip
            by_cases c2 : ay < -900
            · go_wp2_with fail
              refine (alive_c _).mono ?_
              rintro e w9 ⟨rfl, hE9⟩
              go_wp2_with fail
              go_ret
              exact ⟨rfl, Ext.trans HE7.out hE9⟩
            · skip
              by_cases c3 : 900 < ay
              · go_wp2_with fail
                refine (alive_c _).mono ?_
                rintro e w9 ⟨rfl, hE9⟩
                go_wp2_with fail
                go_ret
                exact ⟨rfl, Ext.trans HE7.out hE9⟩
              · skip
                by_cases c4 : bx < -900
                · go_wp2_with fail
                  refine (alive_c _).mono ?_
                  rintro e w9 ⟨rfl, hE9⟩
                  go_wp2_with fail
                  go_ret
                  exact ⟨rfl, Ext.trans HE7.out hE9⟩
                · skip
                  by_cases c5 : 900 < bx
                  · go_wp2_with fail
                    refine (alive_c _).mono ?_
                    rintro e w9 ⟨rfl, hE9⟩
                    go_wp2_with fail
                    go_ret
                    exact ⟨rfl, Ext.trans HE7.out hE9⟩
                  · skip
                    by_cases c6 : by9 < -900
                    · go_wp2_with fail
                      refine (alive_c _).mono ?_
                      rintro e w9 ⟨rfl, hE9⟩
                      go_wp2_with fail
                      go_ret
                      exact ⟨rfl, Ext.trans HE7.out hE9⟩
                    · skip
                      by_cases c7 : 900 < by9
                      · go_wp2_with fail
                        refine (alive_c _).mono ?_
                        rintro e w9 ⟨rfl, hE9⟩
                        go_wp2_with fail
                        go_ret
                        exact ⟨rfl, Ext.trans HE7.out hE9⟩
                      · skip
                        have HFA := Lib.hid (move_any HBB.out (v := (ax, ay)) (by dsimp only; omega))
                        have HFB := Lib.hid (move_any HBB.out (v := (bx, by9)) (by dsimp only; omega))
                        have HOV := Lib.hid (show overlapR (movedP ps (ax, ay)) (movedP ps (bx, by9)) = two (.bool (overlapB (movedP ps (ax, ay)) (movedP ps (bx, by9)))) (.int .i64 0) from by unfold overlapR; rw [if_pos ⟨HFA.out.2.2, HFB.out.2.2⟩])
                        have HOP := Lib.hid (over_pair HBB.out (ax, ay) (bx, by9))
                        have HXW := Lib.hid (IntWalk.i64_in (bx - ax) (by omega))
                        have HYW := Lib.hid (IntWalk.i64_in (by9 - ay) (by omega))
                        have HCC := Lib.hid (show _ ∧ _ ∧ _ ∧ _ ∧ _ ∧ _ ∧ _ ∧ _ from ⟨c0, c1, c2, c3, c4, c5, c6, c7⟩)
                        go_wp2_with fail
                        clear a0 a1 b0 b1 c0 c1 c2 c3 c4 c5 c6 c7
                        refine (show Calls Try.prog 35 #[_, vecV ax ay] _ _ from Move_c _ ps ax ay _ HV7.out).mono ?_
                        rintro e x1 ⟨ua, rfl, hua, hE⟩
                        have hua := hua (blank_parts HBB.out).1 HFA.out.1
                        rw [HFA.out.2.1]
                        have HUA := Lib.hid (show Vecs x1 ua (movedP ps (ax, ay)) from hua)
                        have HV1 := Lib.hid (HV7.out.ext hE)
                        have HA1 := Lib.hid (VRow.ext HA7.out hE)
                        have HB1 := Lib.hid (VRow.ext HB7.out hE)
                        have HE1 := Lib.hid (Ext.trans HE7.out hE)
                        clear hua hE
                        have b0 := VRow.cell HB1.out (k := 0) rfl
                        have b1 := VRow.cell HB1.out (k := 1) rfl
                        unfold two
                        go_wp2_with fail
                        clear b0 b1
                        refine (show Calls Try.prog 35 #[_, vecV bx by9] _ _ from Move_c _ ps bx by9 _ HV1.out).mono ?_
                        rintro e x2 ⟨ub, rfl, hub, hE⟩
                        have hub := hub (blank_parts HBB.out).1 HFB.out.1
                        rw [HFB.out.2.1]
                        have HUB := Lib.hid (show Vecs x2 ub (movedP ps (bx, by9)) from hub)
                        have HUA2 := Lib.hid (HUA.out.ext hE)
                        have HV2 := Lib.hid (HV1.out.ext hE)
                        have HA2 := Lib.hid (VRow.ext HA1.out hE)
                        have HB2 := Lib.hid (VRow.ext HB1.out hE)
                        have HE2 := Lib.hid (Ext.trans HE1.out hE)
                        clear hub hE
                        unfold two
                        go_wp2_with fail
                        refine (Overlap_c _ _ _ _ _ HUA2.out HUB.out).mono ?_
                        rintro e x3 ⟨rfl, hE⟩
                        rw [HOV.out]
                        have HV3 := Lib.hid (HV2.out.ext hE)
                        have HA3 := Lib.hid (VRow.ext HA2.out hE)
                        have HB3 := Lib.hid (VRow.ext HB2.out hE)
                        have HE3 := Lib.hid (Ext.trans HE2.out hE)
                        clear hE
                        have a0 := VRow.cell HA3.out (k := 0) rfl
                        have a1 := VRow.cell HA3.out (k := 1) rfl
                        have b0 := VRow.cell HB3.out (k := 0) rfl
                        have b1 := VRow.cell HB3.out (k := 1) rfl
                        have xw := HXW.out
                        have yw := HYW.out
                        have HE4 := Lib.hid (Ext.trans HE3.out (Ext.alloc (Ext.refl x3) (.cells #[.int .i64 (bx - ax), .int .i64 (by9 - ay)] 31)))
                        have HV4 := Lib.hid (HV3.out.ext (Ext.alloc (Ext.refl x3) (.cells #[.int .i64 (bx - ax), .int .i64 (by9 - ay)] 31)))
                        have HD4 := Lib.hid (show VRow (x3.alloc (.cells #[.int .i64 (bx - ax), .int .i64 (by9 - ay)] 31)) _ _ _ from vrow_alloc x3 [.int .i64 (bx - ax), .int .i64 (by9 - ay)] 31)
                        have d0 := VRow.cell HD4.out (k := 0) rfl
                        have d1 := VRow.cell HD4.out (k := 1) rfl
                        obtain ⟨ob, hob⟩ : ∃ ob, ob = overlapB (movedP ps (ax, ay)) (movedP ps (bx, by9)) := ⟨_, rfl⟩
                        have HOP2 := Lib.hid (hob.trans HOP.out)
                        rw [← hob]
                        clear hob
                        unfold two
                        go_wp2_with fail
                        clear a0 a1 b0 b1 xw yw
                        refine (show Calls Try.prog 38 #[_, vecV (bx - ax) (by9 - ay)] _ _ from collide_w _ ps (bx - ax) (by9 - ay) _ HV4.out HBB.out).mono ?_
                        rintro e x5 ⟨rfl, hE⟩
                        have HE5 := Lib.hid (Ext.trans HE4.out hE)
                        have HD5 := Lib.hid (VRow.ext HD4.out hE)
                        clear hE d0 d1
                        have d0 := VRow.cell HD5.out (k := 0) rfl
                        have d1 := VRow.cell HD5.out (k := 1) rfl
                        have h9 := HOP2.out
                        cases hh : hitB ps (bx - ax, by9 - ay) with
                        | true =>
                          rw [hh, Bool.true_or] at h9
                          subst h9
                          clear hh
                          go_wp2_with fail
                          refine (alive_c _).mono ?_
                          rintro e w9 ⟨rfl, hE9⟩
                          go_wp2_with fail
                          go_ret
                          exact ⟨rfl, Ext.trans HE5.out hE9⟩
                        | false =>
                          rw [hh, Bool.false_or] at h9
                          clear hh
                          by_cases hz : bx - ax = 0 ∧ by9 - ay = 0
                          · rw [decide_eq_true (Prod.ext hz.1 hz.2)] at h9
                            subst h9
                            obtain ⟨z1, z2⟩ := hz
                            rw [z1] at d0
                            rw [z2] at d1
                            clear z1 z2
                            go_wp2_with fail
                            refine (alive_c _).mono ?_
                            rintro e w9 ⟨rfl, hE9⟩
                            go_wp2_with fail
                            go_ret
                            exact ⟨rfl, Ext.trans HE5.out hE9⟩
                          · rw [decide_eq_false (fun h => hz ⟨congrArg Prod.fst h, congrArg Prod.snd h⟩)] at h9
                            subst h9
                            obtain ⟨dx, hdx⟩ : ∃ dx, dx = bx - ax := ⟨_, rfl⟩
                            obtain ⟨dy, hdy⟩ : ∃ dy, dy = by9 - ay := ⟨_, rfl⟩
                            rw [← hdx] at d0 hz
                            rw [← hdy] at d1 hz
                            by_cases z1 : dx = 0
                            · have z2 : ¬ dy = 0 := fun h => hz ⟨z1, h⟩
                              rw [z1] at d0
                              clear z1 hz hdx hdy
                              go_wp2_with fail
                              refine (alive_c _).mono ?_
                              rintro e w9 ⟨rfl, hE9⟩
                              go_wp2_with fail
                              go_ret
                              exact ⟨rfl, Ext.trans HE5.out hE9⟩
                            · clear hz hdx hdy
                              go_wp2_with fail
                              refine (alive_c _).mono ?_
                              rintro e w9 ⟨rfl, hE9⟩
                              go_wp2_with fail
                              go_ret
                              exact ⟨rfl, Ext.trans HE5.out hE9⟩
    · rw [if_neg hbg] at hX
      injection hX with hX
      injection hX with hX
      simp only [Array.mk.injEq, List.cons.injEq, Value.bool.injEq, Value.int.injEq, and_true, true_and] at hX
      obtain ⟨rfl, rfl⟩ := hX
      have HE4 := Lib.hid (Ext.trans HE3.out (Ext.alloc (Ext.refl w3) (.cells #[.int .i64 0, .int .i64 0] 31)))
      clear HXA hbg HV3 HG3 HA3 HB3 HE3
      go_wp2_with fail
      refine (alive_c _).mono ?_
      rintro e w9 ⟨rfl, hE9⟩
      go_wp2_with fail
      go_ret
      exact ⟨rfl, Ext.trans HE4.out hE9⟩
  · have Hd := Lib.hid (decide_eq_false h60)
    unfold gridV
    go_enter Try.func9, Try.ntmps9
    go_wp2_with fail
    refine (few_c a ps.length cap _ (by omega)).mono ?_
    rintro e w1 ⟨rfl, rfl⟩
    rw [Hd.out]
    go_wp2_with fail
    refine (alive_c _).mono ?_
    rintro e w9 ⟨rfl, hE9⟩
    go_wp2_with fail
    go_ret
    exact ⟨rfl, Ext.trans HE0.out hE9⟩
end Go.Proofs.Ytnpebfchojalcaa
