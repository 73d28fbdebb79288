import Derived.Test.YtblaipkhmmaenaaB2
import Derived.Test.YtblaipkhmmaenaaM4
import Derived.Test.YtblaipkhmmaenaaC6
import Derived.Test.YtblaipkhmmaenaaB3
import Derived.Test.YtblaipkhmmaenaaStab3
import Derived.Test.YtblaipkhmmaenaaC9
namespace Go.Proofs.Ytblaipkhmmaenaa
open Go.RowKit
/-- digits to the base 10000, the lowest first -/
def valD : List Int → Int
  | [] => 0
  | d :: ds => d + 10000 * valD ds
def digB (ds : List Int) : Prop := ∀ d ∈ ds, 0 ≤ d ∧ d ≤ 9999
def trimD : List Int → List Int
  | [] => []
  | d :: ds => if trimD ds = [] ∧ d = 0 then [] else d :: trimD ds
theorem digB_tail {d : Int} {ds : List Int} (h : digB (d :: ds)) : digB ds := fun x hx => h x (by simp [hx])
theorem valD_nonneg : ∀ {ds : List Int}, digB ds → 0 ≤ valD ds
  | [], _ => Int.le_refl _
  | d :: ds, h => by
    have := h d (by simp)
    have := valD_nonneg (digB_tail h)
    simp only [valD]; omega
theorem valD_trim : ∀ ds : List Int, valD (trimD ds) = valD ds
  | [] => rfl
  | d :: ds => by
    simp only [trimD]
    have ih := valD_trim ds
    split
    · rename_i h
      rw [h.1] at ih
      simp only [valD] at ih ⊢
      omega
    · simp only [valD, ih]
theorem trimD_sub : ∀ {ds : List Int} {x : Int}, x ∈ trimD ds → x ∈ ds
  | [], _, h => h
  | d :: ds, x, h => by
    simp only [trimD] at h
    split at h
    · simp at h
    · simp only [List.mem_cons] at h ⊢
      rcases h with h | h
      · exact .inl h
      · exact .inr (trimD_sub h)
theorem digB_trim {ds : List Int} (h : digB ds) : digB (trimD ds) := fun x hx => h x (trimD_sub hx)
theorem trimD_length : ∀ ds : List Int, (trimD ds).length ≤ ds.length
  | [] => Nat.le_refl _
  | d :: ds => by
    have := trimD_length ds
    simp only [trimD]
    split <;> simp <;> omega
theorem trimD_idem : ∀ ds : List Int, trimD (trimD ds) = trimD ds
  | [] => rfl
  | d :: ds => by
    have ih := trimD_idem ds
    simp only [trimD]
    split
    · rfl
    · rename_i h
      simp only [trimD, ih]
      rw [if_neg h]
theorem trimD_zero : ∀ {ds : List Int}, (∀ x ∈ ds, x = 0) → trimD ds = []
  | [], _ => rfl
  | d :: ds, h => by
    have h1 := trimD_zero (ds := ds) (fun x hx => h x (by simp [hx]))
    have h2 := h d (by simp)
    simp [trimD, h1, h2]
theorem trimD_nil_of : ∀ {ds : List Int}, trimD ds = [] → ∀ x ∈ ds, x = 0
  | [], _, x, hx => by simp at hx
  | d :: ds, h, x, hx => by
    simp only [trimD] at h
    split at h
    · rename_i h1
      simp only [List.mem_cons] at hx
      rcases hx with rfl | hx
      · exact h1.2
      · exact trimD_nil_of h1.1 x hx
    · simp at h
theorem trimD_take : ∀ {ds : List Int} {m : Nat}, (∀ x ∈ ds.drop m, x = 0) → (m = 0 ∨ ∃ y, ds[m - 1]? = some y ∧ y ≠ 0) → m ≤ ds.length → ds.take m = trimD ds
  | ds, 0, h, _, _ => by
    rw [List.drop_zero] at h
    rw [List.take_zero, trimD_zero h]
  | [], m + 1, _, _, hm => by simp at hm
  | d :: ds, m + 1, h, hy, hm => by
    rw [List.drop_succ_cons] at h
    obtain ⟨y, hy1, hy0⟩ : ∃ y, (d :: ds)[m]? = some y ∧ y ≠ 0 := by
      rcases hy with hy | hy
      · omega
      · exact hy
    rw [List.take_succ_cons]
    have ih := trimD_take (ds := ds) (m := m) h (by
      cases m with
      | zero => exact .inl rfl
      | succ k => exact .inr ⟨y, by simpa using hy1, hy0⟩) (by simpa using hm)
    simp only [trimD]
    rw [if_neg ?_, ih]
    rintro ⟨h1, h2⟩
    cases m with
    | zero =>
      simp only [List.getElem?_cons_zero, Option.some.injEq] at hy1
      exact hy0 (hy1 ▸ h2)
    | succ k =>
      simp only [List.getElem?_cons_succ] at hy1
      exact hy0 (trimD_nil_of h1 y (List.mem_of_getElem? hy1))
set_option maxRecDepth 100000 in
set_option maxHeartbeats 2000000 in
theorem trim_c (v : Value) (ds : List Int) (w : World) (hx : Ints w v ds) (hl : ds.length ≤ 100000) :
    Calls Try.prog 71 #[v] w fun e w' => ∃ v', e = .returned v' ∧ Ints w' v' (trimD ds) ∧ Ext w w' := by
  obtain ⟨i0, hi, hz0, hz1, hz2⟩ := info_parts Try.info3
  obtain ⟨ax, cx, rfl, hxc, hxm, hrx⟩ := hx.at
  have Hrx := Lib.hid hrx
  have Hi := Lib.hid hi
  have Hz0 := Lib.hid hz0
  have Hz1 := Lib.hid hz1
  have Hz2 := Lib.hid hz2
  clear hx hrx hi hz0 hz1 hz2
  go_enter Try.func71, Try.ntmps71
  go_wp2_with fail
  go_loop [3] (fun i => ∃ m : Nat, m ≤ ds.length ∧ i = .int .i64 m ∧ ∀ x ∈ ds.drop m, x = 0) (fun i => (intOf i).toNat)
  case atStart => exact ⟨ds.length, Nat.le_refl _, rfl, fun x hx => by simp at hx⟩
  case round =>
    obtain ⟨m, hm, rfl, hz⟩ := hrel
    by_cases hmore : 0 < m ∧ ds[m - 1]? = some 0
    · obtain ⟨hpos, hget⟩ := hmore
      obtain ⟨b, o, rfl, hc⟩ := Hrx.out (m - 1) 0 hget
      have hp : (0 : Int) < (m : Int) := by omega
      have ej : (m : Int) - 1 = ((m - 1 : Nat) : Int) := by omega
      have hw : IntKind.i64.wrap ((m : Int) - 1) = ((m - 1 : Nat) : Int) := by rw [ej]; exact IntWalk.i64_in _ (by omega)
      have hi1 : ((m - 1 : Nat) : Int) < (ds.length : Int) := by omega
      have HZ : RowKit.Hid (∀ x ∈ ds.drop (m - 1), x = 0) := Lib.hid (by
        rw [drop_at hget, show m - 1 + 1 = m by omega]
        intro x hx
        simp only [List.mem_cons] at hx
        rcases hx with rfl | hx
        · rfl
        · exact hz x hx)
      clear hz hget
      go_wp2_with fail
      exact ⟨⟨m - 1, by omega, rfl, HZ.out⟩, by simp [intOf]; omega⟩
    · have hstop : m = 0 ∨ ∃ y, ds[m - 1]? = some y ∧ y ≠ 0 ∧ 0 < m := by
        by_cases h0 : m = 0
        · exact .inl h0
        · right
          obtain ⟨y, hy⟩ := getElem?_len (show m - 1 < ds.length by omega)
          exact ⟨y, hy, fun e => hmore ⟨by omega, by rw [hy, e]⟩, by omega⟩
      have HT := Lib.hid (trimD_take hz (hstop.imp id (fun ⟨y, h1, h2, _⟩ => ⟨y, h1, h2⟩)) hm)
      clear hz hmore
      rcases hstop with h0 | ⟨y, hy, hy0, hmp⟩
      · have hp : ¬ (0 : Int) < (m : Int) := by omega
        go_wp2_with fail
        go_loopw [4, 5] (fun v i wr => ∃ k : Nat, k ≤ m ∧ i = .int .i64 k ∧ wr.ownsRow w.heap.size 3 1 v k ((ds.take k).map (Value.int .i64)) ∧ Ext w wr) (fun _ i _ => m - (intOf i).toNat)
        case atStart => exact ⟨0, Nat.zero_le _, rfl, World.ownsRow_nil _ _ _ _, Ext.refl w⟩
        case round =>
          obtain ⟨k, hk, rfl, hown, hE⟩ := hrel
          have hka : k = m := by omega
          have hi2 : ¬ (k : Int) < (m : Int) := by omega
          have hints := own_ints hown
          rw [hka, HT.out] at hints
          have HI := Lib.hid hints
          have HE := Lib.hid hE
          clear hown hE hints
          go_wp2
          go_ret
          exact ⟨_, rfl, HI.out, HE.out⟩
      · obtain ⟨b, o, rfl, hc⟩ := Hrx.out _ y hy
        have hp : (0 : Int) < (m : Int) := by omega
        have ej : (m : Int) - 1 = ((m - 1 : Nat) : Int) := by omega
        have hw : IntKind.i64.wrap ((m : Int) - 1) = ((m - 1 : Nat) : Int) := by rw [ej]; exact IntWalk.i64_in _ (by omega)
        have hi1 : ((m - 1 : Nat) : Int) < (ds.length : Int) := by omega
        have hy1 : (y == 0) = false := by simpa using hy0
        clear hy
        go_wp2_with fail
        go_loopw [4, 5] (fun v i wr => ∃ k : Nat, k ≤ m ∧ i = .int .i64 k ∧ wr.ownsRow w.heap.size 3 1 v k ((ds.take k).map (Value.int .i64)) ∧ Ext w wr) (fun _ i _ => m - (intOf i).toNat)
        case atStart => exact ⟨0, Nat.zero_le _, rfl, World.ownsRow_nil _ _ _ _, Ext.refl w⟩
        case round =>
          obtain ⟨k, hk, rfl, hown, hE⟩ := hrel
          by_cases hlt : k < m
          · obtain ⟨x, hxk⟩ := getElem?_len (show k < ds.length by omega)
            obtain ⟨b2, o2, e2, hc⟩ := Hrx.out k x hxk
            simp only [Option.some.injEq, Addr.mk.injEq] at e2
            obtain ⟨rfl, rfl, _⟩ := e2
            have hc' := Ext.cell hE hc
            have hi1 : (k : Int) < (ds.length : Int) := by omega
            have hi2 : (k : Int) < (m : Int) := by omega
            have Hm : RowKit.Hid ((ds.take (k + 1)).map (Value.int .i64) = (ds.take k).map (Value.int .i64) ++ [.int .i64 x]) := Lib.hid (by rw [take_succ_get hxk]; simp)
            have Hown := Lib.hid hown
            have HE := Lib.hid hE
            clear hxk hown hE hc
            have hsz0 := HE.out.size
            go_wp2_with (at_builtin; refine wpList_append_own _ rfl _ _ 23 rfl w.heap.size 3 i0 (.int .i64 0) 1 8 Try.underlying23 Hi.out Hz0.out Hz1.out Hz2.out rfl (by decide) _ _ _ rfl (Hown.out.alloc _) ⟨wr.heap.size, 0, none⟩ 1 1 [.int .i64 x] rfl rfl ?c1 ?c2 ?c3 ?c4 ?c5 ?_)
            case c1 => exact cell_one_new _ _ _
            case c2 => simp [Value.oneCell']
            case c3 => unfold maxLen; omega
            case c4 => omega
            case c5 => simp; omega
            intro v' w1 hown' hgrow _
            rw [← List.map_take, ← Hm.out] at hown'
            have Hown' := Lib.hid hown'
            have HE' := Lib.hid (Below.grown (Ext.alloc HE.out (.cells #[.int .i64 x] 3)) hgrow (by simp; omega) (fun k' hk' => (Hown.out.lt k' hk').1))
            clear hown' hgrow hc'
            go_wp2
            exact ⟨⟨k + 1, by omega, by go_num, Hown'.out, HE'.out⟩, by simp [intOf]; omega⟩
          · have hka : k = m := by omega
            have hi2 : ¬ (k : Int) < (m : Int) := by omega
            have hints := own_ints hown
            rw [hka, HT.out] at hints
            have HI := Lib.hid hints
            have HE := Lib.hid hE
            clear hown hE hints
            go_wp2
            go_ret
            exact ⟨_, rfl, HI.out, HE.out⟩
end Go.Proofs.Ytblaipkhmmaenaa

namespace Go.Proofs.Ytblaipkhmmaenaa
open Go.RowKit
def sgZ (neg : Bool) (x : Int) : Int := if neg = true then -x else x
/-- a big number of at most n digits -/
def BigAt (n : Nat) (w : World) (v : Value) (z : Int) : Prop :=
  ∃ neg dv ds, v = .agg #[.bool neg, dv] ∧ Ints w dv ds ∧ digB ds ∧ trimD ds = ds ∧ (neg = true → ds ≠ []) ∧ ds.length ≤ n ∧ z = sgZ neg (valD ds)
theorem BigAt.ext {n : Nat} {w w' : World} {v : Value} {z : Int} (h : BigAt n w v z) (he : Ext w w') : BigAt n w' v z := by
  obtain ⟨neg, dv, ds, e, hi, r⟩ := h
  exact ⟨neg, dv, ds, e, hi.ext he, r⟩
theorem BigAt.mono {n m : Nat} {w : World} {v : Value} {z : Int} (h : BigAt n w v z) (hm : n ≤ m) : BigAt m w v z := by
  obtain ⟨neg, dv, ds, e, hi, h1, h2, h3, h4, h5⟩ := h
  exact ⟨neg, dv, ds, e, hi, h1, h2, h3, by omega, h5⟩
set_option maxRecDepth 100000 in
set_option maxHeartbeats 2000000 in
theorem whole_c (neg : Bool) (v : Value) (ds : List Int) (n : Nat) (w : World) (hx : Ints w v ds) (hd : digB ds) (hl : ds.length ≤ n) (hn : n ≤ 100000) :
    Calls Try.prog 64 #[.bool neg, v] w fun e w' => ∃ u, e = .returned u ∧ BigAt n w' u (sgZ neg (valD ds)) ∧ Ext w w' := by
  have hE := Ext.alloc (Ext.refl w) (.cells #[.bool false, .slice none 0 0] 89)
  have hb := vrow_alloc w [.bool false, .slice none 0 0] 89
  have HT := Lib.hid (trim_c v ds _ (hx.ext hE) (by omega))
  have HE := Lib.hid hE
  have HB := Lib.hid hb
  have HD := Lib.hid hd
  change Hid (VRow (w.alloc (.cells #[.bool false, .slice none 0 0] 89)) _ _ _) at HB
  clear hE hb hx hd
  go_enter Try.func64, Try.ntmps64
  go_wp2_with fail
  generalize w.alloc (.cells #[.bool false, .slice none 0 0] 89) = w1 at *
  refine HT.out.mono ?_
  rintro e w2 ⟨v2, rfl, hI, hE2⟩
  obtain ⟨a2, c2, e2, _, _, _⟩ := hI.at
  subst e2
  have HI := Lib.hid hI
  have HE2 := Lib.hid (HE.out.trans hE2)
  have hb2 := VRow.ext HB.out hE2
  have m0 := VRow.cell hb2 (k := 0) rfl
  have m1 := VRow.cell hb2 (k := 1) rfl
  have f0 := VRow.frozen hb2 0 none
  have f1 := VRow.frozen hb2 1 none
  have HB2 := Lib.hid hb2
  clear hb2 hI hE2 HB
  have fin : ∀ (b : Bool), (b = true → trimD ds ≠ []) → sgZ b (valD (trimD ds)) = sgZ neg (valD ds) → BigAt n ((w2.setCell ⟨w.heap.size, 0, none⟩ (.bool b)).setCell ⟨w.heap.size, 1, none⟩ (.slice a2 (trimD ds).length c2)) (.agg #[.bool b, .slice a2 (trimD ds).length c2]) (sgZ neg (valD ds)) ∧ Ext w ((w2.setCell ⟨w.heap.size, 0, none⟩ (.bool b)).setCell ⟨w.heap.size, 1, none⟩ (.slice a2 (trimD ds).length c2)) := by
    intro b hb he
    have hnI : noInt w2 w.heap.size := noInt_of HB2.out (by intro z hz x; simp only [List.mem_cons, List.not_mem_nil, or_false] at hz; rcases hz with rfl | rfl <;> simp)
    have ho : Off w.heap.size w2 ((w2.setCell ⟨w.heap.size, 0, none⟩ (.bool b)).setCell ⟨w.heap.size, 1, none⟩ (.slice a2 (trimD ds).length c2)) := Held.trans (held_set w2 w.heap.size 0 _ (fun j hj => hj.2)) (held_set _ w.heap.size 1 _ (fun j hj => hj.2))
    refine ⟨⟨b, _, trimD ds, rfl, HI.out.off ho hnI, digB_trim HD.out, trimD_idem ds, hb, by have := trimD_length ds; omega, he.symm⟩, ?_⟩
    exact Below.setCell (p := ⟨w.heap.size, 1, none⟩) (Below.setCell (p := ⟨w.heap.size, 0, none⟩) HE2.out (Nat.le_refl _) _) (Nat.le_refl _) _
  have FIN := Lib.hid fin
  have HVT := Lib.hid (valD_trim ds)
  clear fin
  cases neg with
  | false =>
    go_wp2_with fail
    obtain ⟨g1, g2⟩ := FIN.out false (fun h => by cases h) (by rw [HVT.out])
    have c0 := VRow.cell (VRow.set (VRow.set HB2.out 0 (.bool false)) 1 (.slice a2 (trimD ds).length c2)) (k := 0) rfl
    have c1 := VRow.cell (VRow.set (VRow.set HB2.out 0 (.bool false)) 1 (.slice a2 (trimD ds).length c2)) (k := 1) rfl
    exact bodyPost_ret (v := .agg #[.bool false, .slice a2 (trimD ds).length c2]) (by simp [results, Try.results64, go_sem, c0, c1]) rfl ⟨_, rfl, g1, g2⟩
  | true =>
    go_wp2_with fail
    have hz : (decide (0 < (trimD ds).length) = true → trimD ds ≠ []) := fun h e => by rw [e] at h; simp at h
    obtain ⟨g1, g2⟩ := FIN.out (decide (0 < (trimD ds).length)) hz (by
      rw [HVT.out]
      by_cases h0 : trimD ds = []
      · have := HVT.out
        rw [h0] at this
        rw [h0, ← this]
        rfl
      · rw [decide_eq_true (List.length_pos_iff.2 h0)])
    have c0 := VRow.cell (VRow.set (VRow.set HB2.out 0 (.bool (decide (0 < (trimD ds).length)))) 1 (.slice a2 (trimD ds).length c2)) (k := 0) rfl
    have c1 := VRow.cell (VRow.set (VRow.set HB2.out 0 (.bool (decide (0 < (trimD ds).length)))) 1 (.slice a2 (trimD ds).length c2)) (k := 1) rfl
    exact bodyPost_ret (v := .agg #[.bool (decide (0 < (trimD ds).length)), .slice a2 (trimD ds).length c2]) (by simp [results, Try.results64, go_sem, c0, c1]) rfl ⟨_, rfl, g1, g2⟩
end Go.Proofs.Ytblaipkhmmaenaa

namespace Go.Proofs.Ytblaipkhmmaenaa
open Go.RowKit
def in64 (n : Int) : Prop := -9223372036854775808 ≤ n ∧ n ≤ 9223372036854775807
theorem valD_append : ∀ (xs ys : List Int), valD (xs ++ ys) = valD xs + 10000 ^ xs.length * valD ys
  | [], ys => by simp [valD]
  | x :: xs, ys => by
    simp only [List.cons_append, valD, valD_append xs ys, List.length_cons, Int.pow_succ]
    rw [Int.mul_add, ← Int.mul_assoc, Int.mul_comm (10000 ^ xs.length) 10000]
    omega
theorem valD_one (x : Int) : valD [x] = x := by simp [valD]
theorem digB_snoc {xs : List Int} {x : Int} (h : digB xs) (hx : 0 ≤ x ∧ x ≤ 9999) : digB (xs ++ [x]) := by
  intro y hy
  simp only [List.mem_append, List.mem_cons, List.not_mem_nil, or_false] at hy
  rcases hy with hy | rfl
  · exact h y hy
  · exact hx
theorem of_step {m : Int} {out : List Int} {Z : Int} {r : Int} (h : Z = valD out + 10000 ^ out.length * (m.natAbs : Int)) (hr : r = ((m.natAbs % 10000 : Nat) : Int)) :
    Z = valD (out ++ [r]) + 10000 ^ (out ++ [r]).length * ((m.tdiv 10000).natAbs : Int) := by
  have e1 : (m.tdiv 10000).natAbs = m.natAbs / 10000 := Int.natAbs_tdiv m 10000
  have e2 : (m.natAbs : Int) = 10000 * ((m.natAbs / 10000 : Nat) : Int) + r := by rw [hr]; omega
  rw [valD_append, valD_one, List.length_append, List.length_singleton, Int.pow_succ, e1, h]
  conv => lhs; rw [e2]
  rw [Int.mul_add, ← Int.mul_assoc]
  omega
theorem of_small {m : Int} {k : Nat} (h : m.natAbs < 10000 ^ (5 - k)) (h0 : m ≠ 0) : k < 5 ∧ (m.tdiv 10000).natAbs < 10000 ^ (5 - (k + 1)) := by
  have hk : k < 5 := by
    by_cases hk : k < 5
    · exact hk
    · rw [show 5 - k = 0 by omega] at h
      simp only [Nat.pow_zero] at h
      omega
  refine ⟨hk, ?_⟩
  have e1 : (m.tdiv 10000).natAbs = m.natAbs / 10000 := Int.natAbs_tdiv m 10000
  rw [e1, Nat.div_lt_iff_lt_mul (by omega), ← Nat.pow_succ]
  rw [show (5 - (k + 1)).succ = 5 - k by omega]
  exact h
theorem big_put {n : Nat} {w : World} {s : Nat} {b c : Bool} {dv x : Value} {z : Int} (h : BigAt n w (.agg #[.bool b, dv]) z) (hr : VRow w s 89 [.bool c, x]) (hx : ∀ y, x ≠ .int .i64 y) :
    BigAt n ((w.setCell ⟨s, 0, none⟩ (.bool b)).setCell ⟨s, 1, none⟩ dv) (.agg #[.bool b, dv]) z ∧ VRow ((w.setCell ⟨s, 0, none⟩ (.bool b)).setCell ⟨s, 1, none⟩ dv) s 89 [.bool b, dv] := by
  have hnI : noInt w s := noInt_of hr (by intro z hz y; simp only [List.mem_cons, List.not_mem_nil, or_false] at hz; rcases hz with rfl | rfl; · simp
                                          · exact hx y)
  have ho : Off s w ((w.setCell ⟨s, 0, none⟩ (.bool b)).setCell ⟨s, 1, none⟩ dv) := Held.trans (held_set w s 0 _ (fun j hj => hj.2)) (held_set _ s 1 _ (fun j hj => hj.2))
  obtain ⟨neg, dv2, ds, e, hi, r⟩ := h
  simp only [Value.agg.injEq] at e
  have e2 : (#[.bool b, dv] : Array Value).toList = #[.bool neg, dv2].toList := by rw [e]
  simp only [List.cons.injEq, Value.bool.injEq, and_true] at e2
  obtain ⟨rfl, rfl⟩ := e2
  exact ⟨⟨b, dv, ds, rfl, hi.off ho hnI, r⟩, VRow.set (VRow.set hr 0 _) 1 _⟩
theorem BigAt.form {n : Nat} {w : World} {v : Value} {z : Int} (h : BigAt n w v z) : ∃ b a l c, v = .agg #[.bool b, .slice a l c] := by
  obtain ⟨neg, dv, ds, e, hi, _⟩ := h
  obtain ⟨a, c, e2, _⟩ := hi
  exact ⟨neg, a, ds.length, c, by rw [e, e2]⟩
set_option maxRecDepth 100000 in
set_option maxHeartbeats 2000000 in
theorem of_c (z : Int) (w : World) (hz : in64 z) : Calls Try.prog 53 #[.int .i64 z] w fun e w' => ∃ u, e = .returned u ∧ BigAt 5 w' u z ∧ Ext w w' := by
  obtain ⟨i0, hi, hz0, hz1, hz2⟩ := info_parts Try.info3
  have Hi := Lib.hid hi
  have Hz0 := Lib.hid hz0
  have Hz1 := Lib.hid hz1
  have Hz2 := Lib.hid hz2
  have hE := Ext.alloc (Ext.refl w) (.cells #[.bool false, .slice none 0 0] 89)
  have hb := vrow_alloc w [.bool false, .slice none 0 0] 89
  have hsz : (w.alloc (.cells #[.bool false, .slice none 0 0] 89)).heap.size = w.heap.size + 1 := by simp
  have HE := Lib.hid hE
  have HB := Lib.hid hb
  have HG := Lib.hid hz
  change Hid (VRow (w.alloc (.cells #[.bool false, .slice none 0 0] 89)) _ _ _) at HB
  clear hE hb hi hz0 hz1 hz2 hz
  go_enter Try.func53, Try.ntmps53
  go_wp2_with fail
  generalize w.alloc (.cells #[.bool false, .slice none 0 0] 89) = w1 at *
  go_loopw [0, 3] (fun nv v wr => ∃ (m : Int) (out : List Int), nv = .int .i64 m ∧ in64 m ∧ wr.ownsRow (w.heap.size + 1) 3 1 v out.length (out.map (Value.int .i64)) ∧ digB out ∧ (z.natAbs : Int) = valD out + 10000 ^ out.length * (m.natAbs : Int) ∧ m.natAbs < 10000 ^ (5 - out.length) ∧ out.length ≤ 5 ∧ Below (w.heap.size + 1) w1 wr ∧ w.heap.size + 1 ≤ wr.heap.size) (fun nv _ _ => (intOf nv).natAbs)
  case atStart =>
    refine ⟨z, [], rfl, HG.out, World.ownsRow_nil _ _ _ _, fun x hx => by simp at hx, by simp [valD], ?_, by simp, Below.refl _ _, by omega⟩
    have := HG.out
    unfold in64 at this
    simp
    omega
  case round =>
    obtain ⟨m, out, rfl, hg, hown, hdig, hval, hsm, hlen, hbel, hsz0⟩ := hrel
    have HDg := Lib.hid hdig
    have HVal := Lib.hid hval
    have HBel := Lib.hid hbel
    have Hown := Lib.hid hown
    have hg2 := hg
    unfold in64 at hg2
    by_cases h0 : m = 0
    · subst h0
      clear hown hdig hval hbel hg hg2 hsm
      go_wp2_with fail
      have hvz : sgZ (decide (z < 0)) (valD out) = z := by
        have h := HVal.out
        simp only [Int.natAbs_zero] at h
        by_cases hn : z < 0
        · rw [decide_eq_true hn]; simp only [sgZ, if_true]; omega
        · rw [decide_eq_false hn]; simp only [sgZ, Bool.false_eq_true, if_false]; omega
      refine (whole_c (decide (z < 0)) u3 out 5 wr (own_ints Hown.out) HDg.out hlen (by omega)).mono ?_
      rintro e w3 ⟨u, rfl, hBig, hE3⟩
      rw [hvz] at hBig
      obtain ⟨b9, a9, l9, c9, rfl⟩ := hBig.form
      have hr3 := VRow.ext (VRow.below HB.out HBel.out (by omega)) hE3
      have m0 := VRow.cell hr3 (k := 0) rfl
      have m1 := VRow.cell hr3 (k := 1) rfl
      have f0 := VRow.frozen hr3 0 none
      have f1 := VRow.frozen hr3 1 none
      have HBig := Lib.hid hBig
      have HR3 := Lib.hid hr3
      have HE3 := Lib.hid (Below.trans HE.out ((HBel.out.mono (show w.heap.size ≤ w.heap.size + 1 by omega)).trans (hE3.mono (show w.heap.size ≤ wr.heap.size by omega))))
      clear hvz hBig hE3 hr3
      go_wp2_with fail
      obtain ⟨g1, g2⟩ := big_put HBig.out HR3.out (by simp)
      have c0 := VRow.cell g2 (k := 0) rfl
      have c1 := VRow.cell g2 (k := 1) rfl
      exact bodyPost_ret (v := .agg #[.bool b9, .slice a9 l9 c9]) (by simp [results, Try.results53, go_sem, c0, c1]) rfl ⟨_, rfl, g1, Below.setCell (p := ⟨w.heap.size, 1, none⟩) (Below.setCell (p := ⟨w.heap.size, 0, none⟩) HE3.out (Nat.le_refl _) _) (Nat.le_refl _) _⟩
    · have HSM := Lib.hid (of_small hsm h0)
      have e1 : (m.tmod 10000).natAbs = m.natAbs % 10000 := Int.natAbs_tmod m 10000
      have e2 : (m.tdiv 10000).natAbs = m.natAbs / 10000 := Int.natAbs_tdiv m 10000
      have hne : (m != 0) = true := by simpa using h0
      have hw1 : IntKind.i64.wrap (m.tmod 10000) = m.tmod 10000 := IntWalk.i64_in _ (by omega)
      have hw2 : IntKind.i64.wrap (-m.tmod 10000) = -m.tmod 10000 := IntWalk.i64_in _ (by omega)
      have hw3 : IntKind.i64.wrap (m.tdiv 10000) = m.tdiv 10000 := IntWalk.i64_in _ (by omega)
      have Hm3 : RowKit.Hid (in64 (m.tdiv 10000)) := Lib.hid (by unfold in64; omega)
      have HL5 := Lib.hid hlen
      clear hown hdig hval hbel hg hsm
      by_cases hr : m.tmod 10000 < 0
      · have HRR : RowKit.Hid (-m.tmod 10000 = ((m.natAbs % 10000 : Nat) : Int)) := Lib.hid (by omega)
        have HR9 : RowKit.Hid (0 ≤ -m.tmod 10000 ∧ -m.tmod 10000 ≤ 9999) := Lib.hid (by omega)
        have HTD : RowKit.Hid ((m.tdiv 10000).natAbs < m.natAbs) := Lib.hid (by omega)
        clear e1 e2
        go_wp2_with (at_builtin; refine wpList_append_own _ rfl _ _ 23 rfl (w.heap.size + 1) 3 i0 (.int .i64 0) 1 8 Try.underlying23 Hi.out Hz0.out Hz1.out Hz2.out rfl (by decide) _ _ _ rfl (Hown.out.alloc _) ⟨wr.heap.size, 0, none⟩ 1 1 [.int .i64 (-m.tmod 10000)] rfl rfl (cell_one_new _ _ _) (by simp [Value.oneCell']) (by unfold maxLen; omega) (by omega) (by simp; omega) ?_)
        intro v' w2 hown' hgrow _
        have Hown' : RowKit.Hid (w2.ownsRow (w.heap.size + 1) 3 1 v' (out ++ [-m.tmod 10000]).length ((out ++ [-m.tmod 10000]).map (Value.int .i64))) := Lib.hid (by rw [List.map_append, List.length_append]; exact hown')
        have HB' := Lib.hid (Below.grown (HBel.out.alloc hsz0 (.cells #[.int .i64 (-m.tmod 10000)] 3)) hgrow (by simp; omega) (fun k' hk' => (Hown.out.lt k' hk').1))
        have hsz9 : w.heap.size + 1 ≤ w2.heap.size := by have := hgrow.size; simp at this; omega
        clear hown' hgrow
        go_wp2
        exact ⟨⟨m.tdiv 10000, out ++ [-m.tmod 10000], rfl, Hm3.out, Hown'.out, digB_snoc HDg.out HR9.out, of_step HVal.out HRR.out, by rw [List.length_append]; exact HSM.out.2, by rw [List.length_append]; have := HSM.out.1; simp; omega, HB'.out, hsz9⟩, by simp only [intOf]; exact HTD.out⟩
      · have HRR : RowKit.Hid (m.tmod 10000 = ((m.natAbs % 10000 : Nat) : Int)) := Lib.hid (by omega)
        have HR9 : RowKit.Hid (0 ≤ m.tmod 10000 ∧ m.tmod 10000 ≤ 9999) := Lib.hid (by omega)
        have HTD : RowKit.Hid ((m.tdiv 10000).natAbs < m.natAbs) := Lib.hid (by omega)
        clear e1 e2
        go_wp2_with (at_builtin; refine wpList_append_own _ rfl _ _ 23 rfl (w.heap.size + 1) 3 i0 (.int .i64 0) 1 8 Try.underlying23 Hi.out Hz0.out Hz1.out Hz2.out rfl (by decide) _ _ _ rfl (Hown.out.alloc _) ⟨wr.heap.size, 0, none⟩ 1 1 [.int .i64 (m.tmod 10000)] rfl rfl (cell_one_new _ _ _) (by simp [Value.oneCell']) (by unfold maxLen; omega) (by omega) (by simp; omega) ?_)
        intro v' w2 hown' hgrow _
        have Hown' : RowKit.Hid (w2.ownsRow (w.heap.size + 1) 3 1 v' (out ++ [m.tmod 10000]).length ((out ++ [m.tmod 10000]).map (Value.int .i64))) := Lib.hid (by rw [List.map_append, List.length_append]; exact hown')
        have HB' := Lib.hid (Below.grown (HBel.out.alloc hsz0 (.cells #[.int .i64 (m.tmod 10000)] 3)) hgrow (by simp; omega) (fun k' hk' => (Hown.out.lt k' hk').1))
        have hsz9 : w.heap.size + 1 ≤ w2.heap.size := by have := hgrow.size; simp at this; omega
        clear hown' hgrow
        go_wp2
        exact ⟨⟨m.tdiv 10000, out ++ [m.tmod 10000], rfl, Hm3.out, Hown'.out, digB_snoc HDg.out HR9.out, of_step HVal.out HRR.out, by rw [List.length_append]; exact HSM.out.2, by rw [List.length_append]; have := HSM.out.1; simp; omega, HB'.out, hsz9⟩, by simp only [intOf]; exact HTD.out⟩
end Go.Proofs.Ytblaipkhmmaenaa

namespace Go.Proofs.Ytblaipkhmmaenaa
open Go.RowKit
theorem pow_pos' (k : Nat) : 0 < (10000 : Int) ^ k := Int.pow_pos (by omega)
theorem valD_lt : ∀ {ds : List Int}, digB ds → valD ds < 10000 ^ ds.length
  | [], _ => by simp [valD]
  | d :: ds, h => by
    have h1 := h d (by simp)
    have h2 := valD_lt (digB_tail h)
    simp only [valD, List.length_cons, Int.pow_succ]
    omega
theorem trimD_snoc0 : ∀ xs : List Int, trimD (xs ++ [0]) = trimD xs
  | [] => rfl
  | x :: xs => by simp only [List.cons_append, trimD, trimD_snoc0 xs]
theorem valD_ge {ds : List Int} (hd : digB ds) (ht : trimD ds = ds) (h0 : ds ≠ []) : 10000 ^ (ds.length - 1) ≤ valD ds := by
  have e := (List.dropLast_concat_getLast h0).symm
  generalize ds.dropLast = xs at e
  generalize ds.getLast h0 = l at e
  subst e
  have hl := hd l (by simp)
  have hl0 : l ≠ 0 := by
    intro e
    subst e
    rw [trimD_snoc0] at ht
    have h1 := trimD_length xs
    have h2 := congrArg List.length ht
    simp at h2
    omega
  rw [valD_append, valD_one, List.length_append, List.length_singleton, Nat.add_sub_cancel]
  have h1 := valD_nonneg (ds := xs) (fun x hx => hd x (by simp [hx]))
  have h2 : (10000 : Int) ^ xs.length * 1 ≤ 10000 ^ xs.length * l := Int.mul_le_mul_of_nonneg_left (by omega) (Int.le_of_lt (pow_pos' _))
  omega
theorem valD_short {a b : List Int} (ha : digB a) (hb : digB b) (ht : trimD b = b) (h : a.length < b.length) : valD a < valD b := by
  have h1 := valD_lt ha
  have h2 := valD_ge hb ht (fun e => by rw [e] at h; simp at h)
  have h3 : (10000 : Int) ^ a.length ≤ 10000 ^ (b.length - 1) := by
    have := Nat.pow_le_pow_right (n := 10000) (by omega) (show a.length ≤ b.length - 1 by omega)
    have e1 : ((10000 ^ a.length : Nat) : Int) = (10000 : Int) ^ a.length := by simp
    have e2 : ((10000 ^ (b.length - 1) : Nat) : Int) = (10000 : Int) ^ (b.length - 1) := by simp
    omega
  omega
theorem valD_at {a b : List Int} {m : Nat} {x y : Int} (ha : digB a) (hb : digB b) (hl : a.length = b.length) (hx : a[m]? = some x) (hy : b[m]? = some y) (hs : a.drop (m + 1) = b.drop (m + 1)) (h : x < y) : valD a < valD b := by
  have ea := split_at hx
  have eb := split_at hy
  have hma := lt_len hx
  have hla : (a.take m).length = m := by simp; omega
  have hlb : (b.take m).length = m := by simp; omega
  have h1 := valD_lt (ds := a.take m) (fun z hz => ha z (List.mem_of_mem_take hz))
  have h2 := valD_nonneg (ds := b.take m) (fun z hz => hb z (List.mem_of_mem_take hz))
  rw [ea, eb, valD_append, valD_append, hla, hlb]
  simp only [valD]
  rw [hs]
  rw [hla] at h1
  have h3 : (10000 : Int) ^ m * (x + 10000 * valD (b.drop (m + 1)) + 1) ≤ 10000 ^ m * (y + 10000 * valD (b.drop (m + 1))) := Int.mul_le_mul_of_nonneg_left (by omega) (Int.le_of_lt (pow_pos' _))
  rw [Int.mul_add _ _ 1, Int.mul_one] at h3
  omega
def cmpZ (x y : Int) : Int := if x < y then -1 else if y < x then 1 else 0
theorem cmpZ_lt {x y : Int} (h : x < y) : cmpZ x y = -1 := by simp [cmpZ, h]
theorem cmpZ_gt {x y : Int} (h : y < x) : cmpZ x y = 1 := by simp [cmpZ, h, show ¬ x < y by omega]
set_option maxRecDepth 100000 in
set_option maxHeartbeats 2000000 in
theorem cmpD_c (u v : Value) (a b : List Int) (w : World) (hx : Ints w u a) (hy : Ints w v b) (ha : digB a) (hb : digB b) (ta : trimD a = a) (tb : trimD b = b) (hn : a.length ≤ 100000) :
    Calls Try.prog 68 #[u, v] w fun e w' => e = .returned (.int .i64 (cmpZ (valD a) (valD b))) ∧ ∃ n, w' = w.drewN n := by
  obtain ⟨ax, cx, rfl, hxc, hxm, hrx⟩ := hx.at
  obtain ⟨ay, cy, rfl, hyc, hym, hry⟩ := hy.at
  have Hrx := Lib.hid hrx
  have Hry := Lib.hid hry
  have HA := Lib.hid ha
  have HB := Lib.hid hb
  have TA := Lib.hid ta
  have TB := Lib.hid tb
  clear hx hy hrx hry ha hb ta tb
  by_cases h1 : a.length < b.length
  · have h1i : (a.length : Int) < (b.length : Int) := by omega
    have HR := Lib.hid (cmpZ_lt (valD_short HA.out HB.out TB.out h1))
    clear h1
    go_enter Try.func68, Try.ntmps68
    go_wp2
    go_ret
    exact ⟨ret_int HR.out.symm, 0, rfl⟩
  · by_cases h2 : b.length < a.length
    · have h1i : ¬ (a.length : Int) < (b.length : Int) := by omega
      have h2i : (b.length : Int) < (a.length : Int) := by omega
      have HR := Lib.hid (cmpZ_gt (valD_short HB.out HA.out TA.out h2))
      clear h1 h2
      go_enter Try.func68, Try.ntmps68
      go_wp2
      go_ret
      exact ⟨ret_int HR.out.symm, 0, rfl⟩
    · have h1i : ¬ (a.length : Int) < (b.length : Int) := by omega
      have h2i : ¬ (b.length : Int) < (a.length : Int) := by omega
      have hl : a.length = b.length := by omega
      have HL := Lib.hid hl
      clear h1 h2 hl
      go_enter Try.func68, Try.ntmps68
      go_wp2_with fail
      clear h1i h2i
      go_loopw [5] (fun i wr => ∃ m : Nat, m ≤ a.length ∧ i = .int .i64 ((m : Int) - 1) ∧ a.drop m = b.drop m ∧ ∃ n, wr = w.drewN n) (fun i _ => (intOf i + 1).toNat)
      case atStart => exact ⟨a.length, Nat.le_refl _, by go_num, by rw [List.drop_length, List.drop_of_length_le (by have := HL.out; omega)], 0, rfl⟩
      case round =>
        obtain ⟨m, hm, rfl, hd, n, rfl⟩ := hrel
        cases m with
        | zero =>
          have HD := Lib.hid hd
          clear hd
          go_wp2_with fail
          go_ret
          have : a = b := by simpa using HD.out
          exact ⟨ret_int (by rw [this]; simp [cmpZ]), n, rfl⟩
        | succ j =>
          have ej : ((j + 1 : Nat) : Int) - 1 = (j : Int) := by omega
          rw [ej]
          clear ej
          obtain ⟨x, hx⟩ := getElem?_len (show j < a.length by omega)
          obtain ⟨y, hy⟩ := getElem?_len (show j < b.length by have := HL.out; omega)
          obtain ⟨b1, o1, rfl, hc1⟩ := Hrx.out j x hx
          obtain ⟨b2, o2, rfl, hc2⟩ := Hry.out j y hy
          have hi1 : (j : Int) < (a.length : Int) := by omega
          have hi2 : (j : Int) < (b.length : Int) := by have := HL.out; omega
          have hwj : IntKind.i64.wrap ((j : Int) - 1) = (j : Int) - 1 := IntWalk.i64_in _ (by omega)
          by_cases h1 : x < y
          · have HR := Lib.hid (cmpZ_lt (valD_at HA.out HB.out HL.out hx hy hd h1))
            clear hx hy hd
            go_wp2_with fail
            go_quiet (fail)
            go_wp2_with fail
            go_ret
            exact ⟨ret_int HR.out.symm, _, (by first | rfl | exact World.drewN_drewN _ _ _)⟩
          · by_cases h2 : y < x
            · have HR := Lib.hid (cmpZ_gt (valD_at HB.out HA.out HL.out.symm hy hx hd.symm h2))
              clear hx hy hd
              go_wp2_with fail
              go_quiet (fail)
              go_wp2_with fail
              go_quiet (fail)
              go_wp2_with fail
              go_ret
              exact ⟨ret_int HR.out.symm, _, (by first | rfl | exact World.drewN_drewN _ _ _ | (simp only [World.drewN_drewN]; rfl))⟩
            · have hxy : x = y := by omega
              have HD : RowKit.Hid (a.drop j = b.drop j) := Lib.hid (by rw [drop_at hx, drop_at hy, hxy, hd])
              clear hx hy hd
              go_wp2_with fail
              go_quiet (fail)
              go_wp2_with fail
              go_quiet (fail)
              go_wp2_with fail
              exact ⟨⟨j, by omega, by go_num, HD.out, _, (by first | rfl | exact World.drewN_drewN _ _ _ | (simp only [World.drewN_drewN]; rfl))⟩, by simp [intOf] <;> omega⟩
end Go.Proofs.Ytblaipkhmmaenaa

namespace Go.Proofs.Ytblaipkhmmaenaa
open Go.RowKit
theorem valD_take_succ (a : List Int) (k : Nat) : valD (a.take (k + 1)) = valD (a.take k) + 10000 ^ k * a.getD k 0 := by
  by_cases h : k < a.length
  · obtain ⟨x, hx⟩ := getElem?_len h
    rw [take_succ_get hx, valD_append, valD_one]
    simp [List.getD, hx, Nat.min_eq_left (Nat.le_of_lt h)]
  · rw [List.take_of_length_le (by omega), List.take_of_length_le (by omega)]
    simp [List.getD, List.getElem?_eq_none (show a.length ≤ k by omega)]
theorem carry_step {k : Nat} {out : List Int} {c s A B x y : Int} (hl : out.length = k) (h : valD out + 10000 ^ k * c = A + B) (hs : s = c + x + y) :
    valD (out ++ [s % 10000]) + 10000 ^ (k + 1) * (s / 10000) = (A + 10000 ^ k * x) + (B + 10000 ^ k * y) := by
  have e : s = 10000 * (s / 10000) + s % 10000 := by omega
  rw [valD_append, valD_one, hl, Int.pow_succ, Int.mul_assoc]
  have e2 : (10000 : Int) ^ k * s = 10000 ^ k * (10000 * (s / 10000)) + 10000 ^ k * (s % 10000) := by rw [← Int.mul_add, ← e]
  have e3 : (10000 : Int) ^ k * s = 10000 ^ k * c + 10000 ^ k * x + 10000 ^ k * y := by rw [hs, Int.mul_add, Int.mul_add]
  omega
set_option maxRecDepth 100000 in
set_option maxHeartbeats 4000000 in
theorem addD_c (u v : Value) (a b : List Int) (w : World) (hx : Ints w u a) (hy : Ints w v b) (ha : digB a) (hb : digB b) (hn : a.length ≤ 100000) (hm : b.length ≤ 100000) :
    Calls Try.prog 72 #[u, v] w fun e w' => ∃ z ds, e = .returned z ∧ Ints w' z ds ∧ digB ds ∧ valD ds = valD a + valD b ∧ ds.length ≤ max a.length b.length + 1 ∧ Ext w w' := by
  obtain ⟨i0, hi, hz0, hz1, hz2⟩ := info_parts Try.info3
  obtain ⟨ax, cx, rfl, hxc, hxm, hrx⟩ := hx.at
  obtain ⟨ay, cy, rfl, hyc, hym, hry⟩ := hy.at
  have Hrx := Lib.hid hrx
  have Hry := Lib.hid hry
  have HA := Lib.hid ha
  have HB := Lib.hid hb
  have Hi := Lib.hid hi
  have Hz0 := Lib.hid hz0
  have Hz1 := Lib.hid hz1
  have Hz2 := Lib.hid hz2
  clear hx hy hrx hry ha hb hi hz0 hz1 hz2
  go_enter Try.func72, Try.ntmps72
  go_wp2_with fail
  go_loopw [5, 6, 7] (fun ov cv i wr => ∃ (k : Nat) (out : List Int) (c : Int), i = .int .i64 k ∧ cv = .int .i64 c ∧ (c = 0 ∨ c = 1) ∧ wr.ownsRow w.heap.size 3 1 ov out.length (out.map (Value.int .i64)) ∧ out.length = k ∧ digB out ∧ valD out + 10000 ^ k * c = valD (a.take k) + valD (b.take k) ∧ k ≤ max a.length b.length + 1 ∧ (k = max a.length b.length + 1 → c = 0) ∧ Ext w wr) (fun _ _ i _ => a.length + b.length + 2 - (intOf i).toNat)
  case atStart => exact ⟨0, [], 0, rfl, rfl, .inl rfl, World.ownsRow_nil _ _ _ _, rfl, fun x hx => by simp at hx, by simp [valD], Nat.zero_le _, fun h => rfl, Ext.refl w⟩
  case round =>
    obtain ⟨k, out, c, rfl, rfl, hc01, hown, hol, hdig, hval, hkM, hlast, hE⟩ := hrel
    have Hown := Lib.hid hown
    have HDg := Lib.hid hdig
    have HVal := Lib.hid hval
    have HE := Lib.hid hE
    have HOL := Lib.hid hol
    have HLast := Lib.hid hlast
    have hsz0 : w.heap.size ≤ wr.heap.size := hE.size
    have hkout : out.length = k := hol
    clear hown hdig hval hE hol hlast
    by_cases h1 : k < a.length
    · by_cases h2 : k < b.length
      · obtain ⟨x, hxk⟩ := getElem?_len h1
        have hx9 := HA.out x (List.mem_of_getElem? hxk)
        have hgx : a.getD k 0 = x := by simp [List.getD, hxk]
        obtain ⟨b1, o1, rfl, hc1⟩ := Hrx.out k x hxk
        have hc1' := Ext.cell HE.out hc1
        have hi1 : (k : Int) < (a.length : Int) := by omega
        obtain ⟨y, hyk⟩ := getElem?_len h2
        have hy9 := HB.out y (List.mem_of_getElem? hyk)
        have hgy : b.getD k 0 = y := by simp [List.getD, hyk]
        obtain ⟨b2, o2, rfl, hc2⟩ := Hry.out k y hyk
        have hc2' := Ext.cell HE.out hc2
        have hi2 : (k : Int) < (b.length : Int) := by omega
        obtain ⟨sm, hsm⟩ : ∃ sm, sm = c + x + y := ⟨_, rfl⟩
        have hsmS : sm = ((c + x) + y) := by omega
        have hsb : 0 ≤ sm ∧ sm ≤ 19999 := by omega
        have HST := Lib.hid (carry_step (x := x) (y := y) HOL.out HVal.out hsm)
        have HT1 := Lib.hid (valD_take_succ a k)
        have HT2 := Lib.hid (valD_take_succ b k)
        rw [hgx] at HT1
        rw [hgy] at HT2
        have hmod : 0 ≤ sm % 10000 ∧ sm % 10000 ≤ 9999 := by omega
        have hdv : sm / 10000 = 0 ∨ sm / 10000 = 1 := by omega
        have hwx : IntKind.i64.wrap (c + x) = c + x := IntWalk.i64_in _ (by omega)
        have hwy : IntKind.i64.wrap (c + x + y) = c + x + y := IntWalk.i64_in _ (by omega)
        have hwm : IntKind.i64.wrap (sm % 10000) = sm % 10000 := IntWalk.i64_in _ (by omega)
        have hwd : IntKind.i64.wrap (sm / 10000) = sm / 10000 := IntWalk.i64_in _ (by omega)
        have hwk : IntKind.i64.wrap ((k : Int) + 1) = (k : Int) + 1 := IntWalk.i64_in _ (by omega)
        rw [hsmS] at hmod hdv hwm hwd HST hsb
        have hs0 : 0 ≤ ((c + x) + y) := hsb.1
        clear hsm hsmS hxk hc1 hyk hc2 hgx hgy
        go_wp2_with (at_builtin; refine wpList_append_own _ rfl _ _ 23 rfl w.heap.size 3 i0 (.int .i64 0) 1 8 Try.underlying23 Hi.out Hz0.out Hz1.out Hz2.out rfl (by decide) _ _ _ rfl (Hown.out.alloc _) ⟨wr.heap.size, 0, none⟩ 1 1 [.int .i64 (((c + x) + y) % 10000)] rfl rfl (cell_one_new _ _ _) (by simp [Value.oneCell']) (by unfold maxLen; omega) (by omega) (by simp; omega) ?_)
        intro v' w2 hown' hgrow _
        have Hown' : RowKit.Hid (w2.ownsRow w.heap.size 3 1 v' (out ++ [((c + x) + y) % 10000]).length ((out ++ [((c + x) + y) % 10000]).map (Value.int .i64))) := Lib.hid (by first | (rw [List.map_append, List.length_append]; exact hown') | (rw [List.map_append, List.length_append, HOL.out]; exact hown'))
        have HE' := Lib.hid (Below.grown (Ext.alloc HE.out (.cells #[.int .i64 (((c + x) + y) % 10000)] 3)) hgrow (by simp; omega) (fun k' hk' => (Hown.out.lt k' hk').1))
        clear hown' hgrow
        go_wp2
        exact ⟨⟨k + 1, out ++ [((c + x) + y) % 10000], ((c + x) + y) / 10000, by go_num, rfl, hdv, Hown'.out, by rw [List.length_append, HOL.out]; rfl, digB_snoc HDg.out hmod, by rw [HST.out, HT1.out, HT2.out], by omega, fun hh => by omega, HE'.out⟩, by simp [intOf]; omega⟩
      · obtain ⟨x, hxk⟩ := getElem?_len h1
        have hx9 := HA.out x (List.mem_of_getElem? hxk)
        have hgx : a.getD k 0 = x := by simp [List.getD, hxk]
        obtain ⟨b1, o1, rfl, hc1⟩ := Hrx.out k x hxk
        have hc1' := Ext.cell HE.out hc1
        have hi1 : (k : Int) < (a.length : Int) := by omega
        have hgy : b.getD k 0 = 0 := by simp [List.getD, List.getElem?_eq_none (show b.length ≤ k by omega)]
        have hi2 : ¬ (k : Int) < (b.length : Int) := by omega
        obtain ⟨sm, hsm⟩ : ∃ sm, sm = c + x + 0 := ⟨_, rfl⟩
        have hsmS : sm = (c + x) := by omega
        have hsb : 0 ≤ sm ∧ sm ≤ 19999 := by omega
        have HST := Lib.hid (carry_step (x := x) (y := 0) HOL.out HVal.out hsm)
        have HT1 := Lib.hid (valD_take_succ a k)
        have HT2 := Lib.hid (valD_take_succ b k)
        rw [hgx] at HT1
        rw [hgy] at HT2
        have hmod : 0 ≤ sm % 10000 ∧ sm % 10000 ≤ 9999 := by omega
        have hdv : sm / 10000 = 0 ∨ sm / 10000 = 1 := by omega
        have hwx : IntKind.i64.wrap (c + x) = c + x := IntWalk.i64_in _ (by omega)
        have hwm : IntKind.i64.wrap (sm % 10000) = sm % 10000 := IntWalk.i64_in _ (by omega)
        have hwd : IntKind.i64.wrap (sm / 10000) = sm / 10000 := IntWalk.i64_in _ (by omega)
        have hwk : IntKind.i64.wrap ((k : Int) + 1) = (k : Int) + 1 := IntWalk.i64_in _ (by omega)
        rw [hsmS] at hmod hdv hwm hwd HST hsb
        have hs0 : 0 ≤ (c + x) := hsb.1
        clear hsm hsmS hxk hc1 hgx hgy
        go_wp2_with (at_builtin; refine wpList_append_own _ rfl _ _ 23 rfl w.heap.size 3 i0 (.int .i64 0) 1 8 Try.underlying23 Hi.out Hz0.out Hz1.out Hz2.out rfl (by decide) _ _ _ rfl (Hown.out.alloc _) ⟨wr.heap.size, 0, none⟩ 1 1 [.int .i64 ((c + x) % 10000)] rfl rfl (cell_one_new _ _ _) (by simp [Value.oneCell']) (by unfold maxLen; omega) (by omega) (by simp; omega) ?_)
        intro v' w2 hown' hgrow _
        have Hown' : RowKit.Hid (w2.ownsRow w.heap.size 3 1 v' (out ++ [(c + x) % 10000]).length ((out ++ [(c + x) % 10000]).map (Value.int .i64))) := Lib.hid (by first | (rw [List.map_append, List.length_append]; exact hown') | (rw [List.map_append, List.length_append, HOL.out]; exact hown'))
        have HE' := Lib.hid (Below.grown (Ext.alloc HE.out (.cells #[.int .i64 ((c + x) % 10000)] 3)) hgrow (by simp; omega) (fun k' hk' => (Hown.out.lt k' hk').1))
        clear hown' hgrow
        go_wp2
        exact ⟨⟨k + 1, out ++ [(c + x) % 10000], (c + x) / 10000, by go_num, rfl, hdv, Hown'.out, by rw [List.length_append, HOL.out]; rfl, digB_snoc HDg.out hmod, by rw [HST.out, HT1.out, HT2.out], by omega, fun hh => by omega, HE'.out⟩, by simp [intOf]; omega⟩
    · by_cases h2 : k < b.length
      · have hgx : a.getD k 0 = 0 := by simp [List.getD, List.getElem?_eq_none (show a.length ≤ k by omega)]
        have hi1 : ¬ (k : Int) < (a.length : Int) := by omega
        obtain ⟨y, hyk⟩ := getElem?_len h2
        have hy9 := HB.out y (List.mem_of_getElem? hyk)
        have hgy : b.getD k 0 = y := by simp [List.getD, hyk]
        obtain ⟨b2, o2, rfl, hc2⟩ := Hry.out k y hyk
        have hc2' := Ext.cell HE.out hc2
        have hi2 : (k : Int) < (b.length : Int) := by omega
        obtain ⟨sm, hsm⟩ : ∃ sm, sm = c + 0 + y := ⟨_, rfl⟩
        have hsmS : sm = (c + y) := by omega
        have hsb : 0 ≤ sm ∧ sm ≤ 19999 := by omega
        have HST := Lib.hid (carry_step (x := 0) (y := y) HOL.out HVal.out hsm)
        have HT1 := Lib.hid (valD_take_succ a k)
        have HT2 := Lib.hid (valD_take_succ b k)
        rw [hgx] at HT1
        rw [hgy] at HT2
        have hmod : 0 ≤ sm % 10000 ∧ sm % 10000 ≤ 9999 := by omega
        have hdv : sm / 10000 = 0 ∨ sm / 10000 = 1 := by omega
        have hwy : IntKind.i64.wrap (c + y) = c + y := IntWalk.i64_in _ (by omega)
        have hwm : IntKind.i64.wrap (sm % 10000) = sm % 10000 := IntWalk.i64_in _ (by omega)
        have hwd : IntKind.i64.wrap (sm / 10000) = sm / 10000 := IntWalk.i64_in _ (by omega)
        have hwk : IntKind.i64.wrap ((k : Int) + 1) = (k : Int) + 1 := IntWalk.i64_in _ (by omega)
        rw [hsmS] at hmod hdv hwm hwd HST hsb
        have hs0 : 0 ≤ (c + y) := hsb.1
        clear hsm hsmS hyk hc2 hgx hgy
        go_wp2_with (at_builtin; refine wpList_append_own _ rfl _ _ 23 rfl w.heap.size 3 i0 (.int .i64 0) 1 8 Try.underlying23 Hi.out Hz0.out Hz1.out Hz2.out rfl (by decide) _ _ _ rfl (Hown.out.alloc _) ⟨wr.heap.size, 0, none⟩ 1 1 [.int .i64 ((c + y) % 10000)] rfl rfl (cell_one_new _ _ _) (by simp [Value.oneCell']) (by unfold maxLen; omega) (by omega) (by simp; omega) ?_)
        intro v' w2 hown' hgrow _
        have Hown' : RowKit.Hid (w2.ownsRow w.heap.size 3 1 v' (out ++ [(c + y) % 10000]).length ((out ++ [(c + y) % 10000]).map (Value.int .i64))) := Lib.hid (by first | (rw [List.map_append, List.length_append]; exact hown') | (rw [List.map_append, List.length_append, HOL.out]; exact hown'))
        have HE' := Lib.hid (Below.grown (Ext.alloc HE.out (.cells #[.int .i64 ((c + y) % 10000)] 3)) hgrow (by simp; omega) (fun k' hk' => (Hown.out.lt k' hk').1))
        clear hown' hgrow
        go_wp2
        exact ⟨⟨k + 1, out ++ [(c + y) % 10000], (c + y) / 10000, by go_num, rfl, hdv, Hown'.out, by rw [List.length_append, HOL.out]; rfl, digB_snoc HDg.out hmod, by rw [HST.out, HT1.out, HT2.out], by omega, fun hh => by omega, HE'.out⟩, by simp [intOf]; omega⟩
      · by_cases h3 : c = 1
        · subst h3
          have hgx : a.getD k 0 = 0 := by simp [List.getD, List.getElem?_eq_none (show a.length ≤ k by omega)]
          have hgy : b.getD k 0 = 0 := by simp [List.getD, List.getElem?_eq_none (show b.length ≤ k by omega)]
          have hi1 : ¬ (k : Int) < (a.length : Int) := by omega
          have hi2 : ¬ (k : Int) < (b.length : Int) := by omega
          have hlst : k ≤ max a.length b.length := by
            by_cases hkk : k = max a.length b.length + 1
            · have := HLast.out hkk; omega
            · omega
          have HST := Lib.hid (carry_step (s := 1) (x := 0) (y := 0) HOL.out HVal.out (by omega))
          have HT1 := Lib.hid (valD_take_succ a k)
          have HT2 := Lib.hid (valD_take_succ b k)
          rw [hgx] at HT1
          rw [hgy] at HT2
          clear hgx hgy
          have hwk : IntKind.i64.wrap ((k : Int) + 1) = (k : Int) + 1 := IntWalk.i64_in _ (by omega)
          go_wp2_with (at_builtin; refine wpList_append_own _ rfl _ _ 23 rfl w.heap.size 3 i0 (.int .i64 0) 1 8 Try.underlying23 Hi.out Hz0.out Hz1.out Hz2.out rfl (by decide) _ _ _ rfl (Hown.out.alloc _) ⟨wr.heap.size, 0, none⟩ 1 1 [.int .i64 1] rfl rfl (cell_one_new _ _ _) (by simp [Value.oneCell']) (by unfold maxLen; omega) (by omega) (by simp; omega) ?_)
          intro v' w2 hown' hgrow _
          have Hown' : RowKit.Hid (w2.ownsRow w.heap.size 3 1 v' (out ++ [(1 : Int)]).length ((out ++ [(1 : Int)]).map (Value.int .i64))) := Lib.hid (by first | (rw [List.map_append, List.length_append]; exact hown') | (rw [List.map_append, List.length_append, HOL.out]; exact hown'))
          have HE' := Lib.hid (Below.grown (Ext.alloc HE.out (.cells #[.int .i64 1] 3)) hgrow (by simp; omega) (fun k' hk' => (Hown.out.lt k' hk').1))
          clear hown' hgrow
          go_wp2
          exact ⟨⟨k + 1, out ++ [1], 0, by go_num, rfl, .inl rfl, Hown'.out, by rw [List.length_append, HOL.out]; rfl, digB_snoc HDg.out (by omega), by rw [HT1.out, HT2.out]; exact HST.out, by omega, fun hh => rfl, HE'.out⟩, by simp [intOf]; omega⟩
        · have hc0 : c = 0 := by omega
          subst hc0
          have hi1 : ¬ (k : Int) < (a.length : Int) := by omega
          have hi2 : ¬ (k : Int) < (b.length : Int) := by omega
          have HI := Lib.hid (own_ints Hown.out)
          have HV2 : RowKit.Hid (valD out = valD a + valD b) := Lib.hid (by
            have := HVal.out
            rw [List.take_of_length_le (by omega), List.take_of_length_le (by omega)] at this
            omega)
          go_wp2_with fail
          go_ret
          exact ⟨_, rfl, out, HI.out, HDg.out, HV2.out, by omega, HE.out⟩
end Go.Proofs.Ytblaipkhmmaenaa

namespace Go.Proofs.Ytblaipkhmmaenaa
open Go.RowKit
theorem borrow_step {k : Nat} {out : List Int} {c d s A B x y : Int} (hl : out.length = k) (h : valD out - 10000 ^ k * c = A - B) (hs : s = x - c - y + 10000 * d) :
    valD (out ++ [s]) - 10000 ^ (k + 1) * d = (A + 10000 ^ k * x) - (B + 10000 ^ k * y) := by
  rw [valD_append, valD_one, hl, Int.pow_succ, Int.mul_assoc, hs]
  have e2 : (10000 : Int) ^ k * (x - c - y + 10000 * d) = 10000 ^ k * x - 10000 ^ k * c - 10000 ^ k * y + 10000 ^ k * (10000 * d) := by
    rw [Int.mul_add, Int.mul_sub, Int.mul_sub]
  omega
theorem borrow_end {n : Nat} {out : List Int} {c A B : Int} (hl : out.length = n) (hd : digB out) (hc : c = 0 ∨ c = 1) (h : valD out - 10000 ^ n * c = A - B) (hAB : B ≤ A) : valD out = A - B := by
  rcases hc with rfl | rfl
  · omega
  · have := valD_lt hd
    rw [hl] at this
    omega
set_option maxRecDepth 100000 in
set_option maxHeartbeats 4000000 in
theorem subD_c (u v : Value) (a b : List Int) (w : World) (hx : Ints w u a) (hy : Ints w v b) (ha : digB a) (hb : digB b) (hn : a.length ≤ 100000) (hm : b.length ≤ a.length) (hAB : valD b ≤ valD a) :
    Calls Try.prog 73 #[u, v] w fun e w' => ∃ z ds, e = .returned z ∧ Ints w' z ds ∧ digB ds ∧ trimD ds = ds ∧ valD ds = valD a - valD b ∧ ds.length ≤ a.length ∧ Ext w w' := by
  obtain ⟨i0, hi, hz0, hz1, hz2⟩ := info_parts Try.info3
  obtain ⟨ax, cx, rfl, hxc, hxm, hrx⟩ := hx.at
  obtain ⟨ay, cy, rfl, hyc, hym, hry⟩ := hy.at
  have Hrx := Lib.hid hrx
  have Hry := Lib.hid hry
  have HA := Lib.hid ha
  have HB := Lib.hid hb
  have Hi := Lib.hid hi
  have Hz0 := Lib.hid hz0
  have Hz1 := Lib.hid hz1
  have Hz2 := Lib.hid hz2
  have HAB := Lib.hid hAB
  clear hx hy hrx hry ha hb hi hz0 hz1 hz2 hAB
  go_enter Try.func73, Try.ntmps73
  go_wp2_with fail
  go_loopw [5, 6, 7] (fun ov cv i wr => ∃ (k : Nat) (out : List Int) (c : Int), i = .int .i64 k ∧ cv = .int .i64 c ∧ (c = 0 ∨ c = 1) ∧ wr.ownsRow w.heap.size 3 1 ov out.length (out.map (Value.int .i64)) ∧ out.length = k ∧ digB out ∧ valD out - 10000 ^ k * c = valD (a.take k) - valD (b.take k) ∧ k ≤ a.length ∧ Ext w wr) (fun _ _ i _ => a.length - (intOf i).toNat)
  case atStart => exact ⟨0, [], 0, rfl, rfl, .inl rfl, World.ownsRow_nil _ _ _ _, rfl, fun x hx => by simp at hx, by simp [valD], Nat.zero_le _, Ext.refl w⟩
  case round =>
    obtain ⟨k, out, c, rfl, rfl, hc01, hown, hol, hdig, hval, hkM, hE⟩ := hrel
    have Hown := Lib.hid hown
    have HDg := Lib.hid hdig
    have HVal := Lib.hid hval
    have HE := Lib.hid hE
    have HOL := Lib.hid hol
    have hsz0 : w.heap.size ≤ wr.heap.size := hE.size
    have hkout : out.length = k := hol
    clear hown hdig hval hE hol
    by_cases h1 : k < a.length
    · obtain ⟨x, hxk⟩ := getElem?_len h1
      have hx9 := HA.out x (List.mem_of_getElem? hxk)
      have hgx : a.getD k 0 = x := by simp [List.getD, hxk]
      obtain ⟨b1, o1, rfl, hc1⟩ := Hrx.out k x hxk
      have hc1' := Ext.cell HE.out hc1
      have hi1 : (k : Int) < (a.length : Int) := by omega
      have hwk : IntKind.i64.wrap ((k : Int) + 1) = (k : Int) + 1 := IntWalk.i64_in _ (by omega)
      have hwx : IntKind.i64.wrap (x - c) = x - c := IntWalk.i64_in _ (by omega)
      have HT1 := Lib.hid (valD_take_succ a k)
      have HT2 := Lib.hid (valD_take_succ b k)
      rw [hgx] at HT1
      by_cases h2 : k < b.length
      · obtain ⟨y, hyk⟩ := getElem?_len h2
        have hy9 := HB.out y (List.mem_of_getElem? hyk)
        have hgy : b.getD k 0 = y := by simp [List.getD, hyk]
        obtain ⟨b2, o2, rfl, hc2⟩ := Hry.out k y hyk
        have hc2' := Ext.cell HE.out hc2
        have hi2 : (k : Int) < (b.length : Int) := by omega
        have hwy : IntKind.i64.wrap (x - c - y) = x - c - y := IntWalk.i64_in _ (by omega)
        by_cases hneg : (x - c - y) < 0
        · have hwp : IntKind.i64.wrap ((x - c - y) + 10000) = ((x - c - y) + 10000) := IntWalk.i64_in _ (by omega)
          have HST := Lib.hid (borrow_step (s := ((x - c - y) + 10000)) (x := x) (y := y) (d := 1) HOL.out HVal.out (by omega))
          have hRb : 0 ≤ ((x - c - y) + 10000) ∧ ((x - c - y) + 10000) ≤ 9999 := by omega
          clear hxk hc1 hyk hc2
          go_wp2_with (at_builtin; refine wpList_append_own _ rfl _ _ 23 rfl w.heap.size 3 i0 (.int .i64 0) 1 8 Try.underlying23 Hi.out Hz0.out Hz1.out Hz2.out rfl (by decide) _ _ _ rfl (Hown.out.alloc _) ⟨wr.heap.size, 0, none⟩ 1 1 [.int .i64 ((x - c - y) + 10000)] rfl rfl (cell_one_new _ _ _) (by simp [Value.oneCell']) (by unfold maxLen; omega) (by omega) (by simp; omega) ?_)
          intro v' w2 hown' hgrow _
          have Hown' : RowKit.Hid (w2.ownsRow w.heap.size 3 1 v' (out ++ [((x - c - y) + 10000)]).length ((out ++ [((x - c - y) + 10000)]).map (Value.int .i64))) := Lib.hid (by first | (rw [List.map_append, List.length_append]; exact hown') | (rw [List.map_append, List.length_append, HOL.out]; exact hown'))
          have HE' := Lib.hid (Below.grown (Ext.alloc HE.out (.cells #[.int .i64 ((x - c - y) + 10000)] 3)) hgrow (by simp; omega) (fun k' hk' => (Hown.out.lt k' hk').1))
          clear hown' hgrow
          go_wp2
          exact ⟨⟨k + 1, out ++ [((x - c - y) + 10000)], 1, by go_num, rfl, .inr rfl, Hown'.out, by rw [List.length_append, HOL.out]; rfl, digB_snoc HDg.out hRb, by rw [HT1.out, HT2.out, hgy]; exact HST.out, by omega, HE'.out⟩, by simp [intOf]; omega⟩
        · have HST := Lib.hid (borrow_step (s := (x - c - y)) (x := x) (y := y) (d := 0) HOL.out HVal.out (by omega))
          have hRb : 0 ≤ (x - c - y) ∧ (x - c - y) ≤ 9999 := by omega
          clear hxk hc1 hyk hc2
          go_wp2_with (at_builtin; refine wpList_append_own _ rfl _ _ 23 rfl w.heap.size 3 i0 (.int .i64 0) 1 8 Try.underlying23 Hi.out Hz0.out Hz1.out Hz2.out rfl (by decide) _ _ _ rfl (Hown.out.alloc _) ⟨wr.heap.size, 0, none⟩ 1 1 [.int .i64 (x - c - y)] rfl rfl (cell_one_new _ _ _) (by simp [Value.oneCell']) (by unfold maxLen; omega) (by omega) (by simp; omega) ?_)
          intro v' w2 hown' hgrow _
          have Hown' : RowKit.Hid (w2.ownsRow w.heap.size 3 1 v' (out ++ [(x - c - y)]).length ((out ++ [(x - c - y)]).map (Value.int .i64))) := Lib.hid (by first | (rw [List.map_append, List.length_append]; exact hown') | (rw [List.map_append, List.length_append, HOL.out]; exact hown'))
          have HE' := Lib.hid (Below.grown (Ext.alloc HE.out (.cells #[.int .i64 (x - c - y)] 3)) hgrow (by simp; omega) (fun k' hk' => (Hown.out.lt k' hk').1))
          clear hown' hgrow
          go_wp2
          exact ⟨⟨k + 1, out ++ [(x - c - y)], 0, by go_num, rfl, .inl rfl, Hown'.out, by rw [List.length_append, HOL.out]; rfl, digB_snoc HDg.out hRb, by rw [HT1.out, HT2.out, hgy]; exact HST.out, by omega, HE'.out⟩, by simp [intOf]; omega⟩
      · have hgy : b.getD k 0 = 0 := by simp [List.getD, List.getElem?_eq_none (show b.length ≤ k by omega)]
        have hi2 : ¬ (k : Int) < (b.length : Int) := by omega
        by_cases hneg : (x - c) < 0
        · have hwp : IntKind.i64.wrap ((x - c) + 10000) = ((x - c) + 10000) := IntWalk.i64_in _ (by omega)
          have HST := Lib.hid (borrow_step (s := ((x - c) + 10000)) (x := x) (y := 0) (d := 1) HOL.out HVal.out (by omega))
          have hRb : 0 ≤ ((x - c) + 10000) ∧ ((x - c) + 10000) ≤ 9999 := by omega
          clear hxk hc1
          go_wp2_with (at_builtin; refine wpList_append_own _ rfl _ _ 23 rfl w.heap.size 3 i0 (.int .i64 0) 1 8 Try.underlying23 Hi.out Hz0.out Hz1.out Hz2.out rfl (by decide) _ _ _ rfl (Hown.out.alloc _) ⟨wr.heap.size, 0, none⟩ 1 1 [.int .i64 ((x - c) + 10000)] rfl rfl (cell_one_new _ _ _) (by simp [Value.oneCell']) (by unfold maxLen; omega) (by omega) (by simp; omega) ?_)
          intro v' w2 hown' hgrow _
          have Hown' : RowKit.Hid (w2.ownsRow w.heap.size 3 1 v' (out ++ [((x - c) + 10000)]).length ((out ++ [((x - c) + 10000)]).map (Value.int .i64))) := Lib.hid (by first | (rw [List.map_append, List.length_append]; exact hown') | (rw [List.map_append, List.length_append, HOL.out]; exact hown'))
          have HE' := Lib.hid (Below.grown (Ext.alloc HE.out (.cells #[.int .i64 ((x - c) + 10000)] 3)) hgrow (by simp; omega) (fun k' hk' => (Hown.out.lt k' hk').1))
          clear hown' hgrow
          go_wp2
          exact ⟨⟨k + 1, out ++ [((x - c) + 10000)], 1, by go_num, rfl, .inr rfl, Hown'.out, by rw [List.length_append, HOL.out]; rfl, digB_snoc HDg.out hRb, by rw [HT1.out, HT2.out, hgy]; exact HST.out, by omega, HE'.out⟩, by simp [intOf]; omega⟩
        · have HST := Lib.hid (borrow_step (s := (x - c)) (x := x) (y := 0) (d := 0) HOL.out HVal.out (by omega))
          have hRb : 0 ≤ (x - c) ∧ (x - c) ≤ 9999 := by omega
          clear hxk hc1
          go_wp2_with (at_builtin; refine wpList_append_own _ rfl _ _ 23 rfl w.heap.size 3 i0 (.int .i64 0) 1 8 Try.underlying23 Hi.out Hz0.out Hz1.out Hz2.out rfl (by decide) _ _ _ rfl (Hown.out.alloc _) ⟨wr.heap.size, 0, none⟩ 1 1 [.int .i64 (x - c)] rfl rfl (cell_one_new _ _ _) (by simp [Value.oneCell']) (by unfold maxLen; omega) (by omega) (by simp; omega) ?_)
          intro v' w2 hown' hgrow _
          have Hown' : RowKit.Hid (w2.ownsRow w.heap.size 3 1 v' (out ++ [(x - c)]).length ((out ++ [(x - c)]).map (Value.int .i64))) := Lib.hid (by first | (rw [List.map_append, List.length_append]; exact hown') | (rw [List.map_append, List.length_append, HOL.out]; exact hown'))
          have HE' := Lib.hid (Below.grown (Ext.alloc HE.out (.cells #[.int .i64 (x - c)] 3)) hgrow (by simp; omega) (fun k' hk' => (Hown.out.lt k' hk').1))
          clear hown' hgrow
          go_wp2
          exact ⟨⟨k + 1, out ++ [(x - c)], 0, by go_num, rfl, .inl rfl, Hown'.out, by rw [List.length_append, HOL.out]; rfl, digB_snoc HDg.out hRb, by rw [HT1.out, HT2.out, hgy]; exact HST.out, by omega, HE'.out⟩, by simp [intOf]; omega⟩
    · have hk : k = a.length := by omega
      have hi1 : ¬ (k : Int) < (a.length : Int) := by omega
      have hints := own_ints Hown.out
      have hv := HVal.out
      rw [List.take_of_length_le (by omega), List.take_of_length_le (by omega)] at hv
      have HV := Lib.hid (borrow_end HOL.out HDg.out hc01 hv HAB.out)
      have HI := Lib.hid hints
      clear hv hints
      go_wp2_with fail
      refine (trim_c _ out _ HI.out (by omega)).mono ?_
      rintro e w3 ⟨v3, rfl, hI3, hE3⟩
      have HR := Lib.hid hI3
      have HE3 := Lib.hid (HE.out.trans hE3)
      clear hI3 hE3
      go_wp2
      go_ret
      exact ⟨_, _, rfl, HR.out, digB_trim HDg.out, trimD_idem _, by rw [valD_trim]; exact HV.out, by have := trimD_length out; omega, HE3.out⟩
end Go.Proofs.Ytblaipkhmmaenaa

namespace Go.Proofs.Ytblaipkhmmaenaa
open Go.RowKit
theorem valD_set : ∀ {os : List Int} {p : Nat} {o : Int}, os[p]? = some o → ∀ v : Int, valD (os.set p v) = valD os + 10000 ^ p * (v - o)
  | [], _, _, h, _ => by simp at h
  | d :: ds, 0, o, h, v => by
    simp only [List.getElem?_cons_zero, Option.some.injEq] at h
    subst h
    simp only [List.set_cons_zero, valD, Int.pow_zero]
    omega
  | d :: ds, p + 1, o, h, v => by
    simp only [List.getElem?_cons_succ] at h
    simp only [List.set_cons_succ, valD, valD_set h v, Int.pow_succ]
    rw [Int.mul_add, ← Int.mul_assoc, Int.mul_comm (10000 ^ p) 10000]
    omega
theorem digB_set {os : List Int} {p : Nat} {v : Int} (h : digB os) (hv : 0 ≤ v ∧ v ≤ 9999) : digB (os.set p v) := by
  intro d hd
  rcases List.mem_or_eq_of_mem_set hd with h1 | h1
  · exact h d h1
  · exact h1 ▸ hv
def MulI (N z : Nat) (os : List Int) (p : Nat) (c Z : Int) : Prop :=
  os.length = N ∧ digB os ∧ (∀ j, z ≤ j → os.getD j 0 = 0) ∧ 0 ≤ c ∧ c ≤ 9999 ∧ valD os + 10000 ^ p * c = Z
theorem mul_step {N z p : Nat} {os : List Int} {c Z o q s : Int} (h : MulI N z os p c Z) (hz : p < z) (ho : os[p]? = some o) (hs : s = o + q + c) (h0 : 0 ≤ s) (h9 : s ≤ 99999999) :
    MulI N z (os.set p (s % 10000)) (p + 1) (s / 10000) (Z + 10000 ^ p * q) := by
  obtain ⟨h1, h2, h3, h4, h5, h6⟩ := h
  refine ⟨by simpa using h1, digB_set h2 (by omega), fun j hj => ?_, by omega, by omega, ?_⟩
  · have := h3 j hj
    simp only [List.getD] at this ⊢
    rw [List.getElem?_set_ne (by omega)]
    exact this
  · rw [valD_set ho, Int.pow_succ, Int.mul_assoc]
    have e : s % 10000 + 10000 * (s / 10000) = s := by omega
    have e2 : (10000 : Int) ^ p * (s % 10000) + 10000 ^ p * (10000 * (s / 10000)) = 10000 ^ p * s := by rw [← Int.mul_add, e]
    have e3 : (10000 : Int) ^ p * s = 10000 ^ p * o + 10000 ^ p * q + 10000 ^ p * c := by rw [hs, Int.mul_add, Int.mul_add]
    rw [Int.mul_sub]
    omega
theorem mul_end {N z q : Nat} {os : List Int} {c Z : Int} (h : MulI N z os z c Z) (hz : z < N) : MulI N (z + 1) (os.set z c) q 0 Z := by
  obtain ⟨h1, h2, h3, h4, h5, h6⟩ := h
  have ho : os[z]? = some 0 := by
    have := h3 z (Nat.le_refl _)
    obtain ⟨o, ho⟩ := getElem?_len (show z < os.length by omega)
    simp only [List.getD, ho, Option.getD_some] at this
    rw [ho, this]
  refine ⟨by simpa using h1, digB_set h2 ⟨h4, h5⟩, fun j hj => ?_, by omega, by omega, ?_⟩
  · have := h3 j (by omega)
    simp only [List.getD] at this ⊢
    rw [List.getElem?_set_ne (by omega)]
    exact this
  · rw [valD_set ho]
    simp only [Int.sub_zero, Int.mul_zero, Int.add_zero]
    exact h6
theorem mul_next {A p x B : Int} : A * B + p * (x * B) = (A + p * x) * B := by rw [Int.add_mul, Int.mul_assoc]
theorem mul_in {i k : Nat} {Z x y V : Int} : Z + (10000 : Int) ^ i * (x * V) + 10000 ^ (i + k) * (x * y) = Z + 10000 ^ i * (x * (V + 10000 ^ k * y)) := by
  rw [Int.pow_add, Int.mul_add x, Int.mul_add, Int.mul_assoc (10000 ^ i), Int.mul_left_comm (10000 ^ k) x y]
  omega
theorem digB_zeros (n : Nat) : digB (List.replicate n 0) := fun d hd => by
  rw [(List.mem_replicate.1 hd).2]; omega
theorem valD_zeros : ∀ n : Nat, valD (List.replicate n 0) = 0
  | 0 => rfl
  | n + 1 => by simp [List.replicate_succ, valD, valD_zeros n]
set_option maxRecDepth 100000 in
set_option maxHeartbeats 4000000 in
theorem mulD_c (u v : Value) (a b : List Int) (w : World) (hx : Ints w u a) (hy : Ints w v b) (ha : digB a) (hb : digB b) (hn : a.length + b.length ≤ 100000) :
    Calls Try.prog 65 #[u, v] w fun e w' => ∃ z ds, e = .returned z ∧ Ints w' z ds ∧ digB ds ∧ trimD ds = ds ∧ valD ds = valD a * valD b ∧ ds.length ≤ a.length + b.length ∧ Ext w w' := by
  obtain ⟨N, hN⟩ : ∃ N, N = a.length + b.length := ⟨_, rfl⟩
  have hmk := run_make_row' (P := Try.prog) 23 3 (.int .i64 0) 8 Try.underlying23 Try.info3 rfl .i64 .i64 N (by omega) (by omega)
  have hmv := irow_made w N 3
  have hEm := Ext.alloc (Ext.refl w) (.cells (madeCells #[.int .i64 0] N) 3)
  obtain ⟨ax, cx, rfl, hxc, hxm, hrx⟩ := hx.at
  obtain ⟨ay, cy, rfl, hyc, hym, hry⟩ := hy.at
  have HX := Lib.hid hx
  have HY := Lib.hid hy
  have HA := Lib.hid ha
  have HB := Lib.hid hb
  have HM := Lib.hid (show IRow (w.alloc (.cells (madeCells #[.int .i64 0] (a.length + b.length)) 3)) w.heap.size 3 (List.replicate N 0) by rw [← hN]; exact hmv)
  have HE := Lib.hid (show Ext w (w.alloc (.cells (madeCells #[.int .i64 0] (a.length + b.length)) 3)) by rw [← hN]; exact hEm)
  have hNe : (N : Int) = (a.length : Int) + (b.length : Int) := by omega
  rw [hNe] at hmk
  clear hx hy hrx hry ha hb hmv hEm
  go_enter Try.func65, Try.ntmps65
  go_wp2_with fail
  clear hmk
  generalize w.alloc (.cells (madeCells #[.int .i64 0] (a.length + b.length)) 3) = w1 at *
  have hsz : w.heap.size ≤ w.heap.size := Nat.le_refl _
  generalize hs : w.heap.size = s at *
  go_loopw [6] (fun i wr => ∃ (k : Nat) (os : List Int), i = .int .i64 k ∧ k ≤ a.length ∧ MulI N (k + b.length) os k 0 (valD (a.take k) * valD b) ∧ IRow wr s 3 os ∧ Ext w wr) (fun i _ => a.length - (intOf i).toNat)
  case atStart => exact ⟨0, List.replicate N 0, rfl, Nat.zero_le _, ⟨by simp, digB_zeros _, fun j _ => by simp only [List.getD, List.getElem?_replicate]; split <;> rfl, by omega, by omega, by simp [valD_zeros, valD]⟩, HM.out, HE.out⟩
  case round =>
    obtain ⟨i, os, rfl, hi, hmu, hrow, hE⟩ := hrel
    by_cases h1 : i < a.length
    · obtain ⟨x, hxi⟩ := getElem?_len h1
      have hx9 := HA.out x (List.mem_of_getElem? hxi)
      have hi1 : (i : Int) < (a.length : Int) := by omega
      have hwi : IntKind.i64.wrap ((i : Int) + 1) = (i : Int) + 1 := IntWalk.i64_in _ (by omega)
      have HT1 : RowKit.Hid (valD (a.take (i + 1)) = valD (a.take i) + 10000 ^ i * x) := Lib.hid (by rw [valD_take_succ]; simp [List.getD, hxi])
      have HXI := Lib.hid hxi
      have HMU := Lib.hid hmu
      have HR := Lib.hid hrow
      have HE := Lib.hid hE
      clear hxi hmu hrow hE
      go_wp2_with fail
      go_loopw [7, 8] (fun cv kv wr => ∃ (k : Nat) (os : List Int) (c : Int), kv = .int .i64 k ∧ cv = .int .i64 c ∧ k ≤ b.length ∧ MulI N (i + b.length) os (i + k) c (valD (a.take i) * valD b + 10000 ^ i * (x * valD (b.take k))) ∧ IRow wr s 3 os ∧ Ext w wr) (fun _ kv _ => b.length - (intOf kv).toNat)
      case atStart => exact ⟨0, os, 0, rfl, rfl, Nat.zero_le _, by simpa [valD] using HMU.out, HR.out, HE.out⟩
      case round =>
        clear HMU HR HE os
        obtain ⟨k, os, c, rfl, rfl, hk, hmu, hrow, hE⟩ := hrel
        have hc09 : 0 ≤ c ∧ c ≤ 9999 := ⟨hmu.2.2.2.1, hmu.2.2.2.2.1⟩
        by_cases h2 : k < b.length
        · obtain ⟨y, hyk⟩ := getElem?_len h2
          have hy9 := HB.out y (List.mem_of_getElem? hyk)
          obtain ⟨_, _, e1, _, _, hr1⟩ := (HX.out.ext hE).at
          simp only [Value.slice.injEq] at e1
          obtain ⟨rfl, _, rfl⟩ := e1
          obtain ⟨b1, o1, rfl, hc1⟩ := hr1 i x HXI.out
          obtain ⟨_, _, e2, _, _, hr2⟩ := (HY.out.ext hE).at
          simp only [Value.slice.injEq] at e2
          obtain ⟨rfl, _, rfl⟩ := e2
          obtain ⟨b2, o2, rfl, hc2⟩ := hr2 k y hyk
          obtain ⟨p, hp⟩ : ∃ p, p = i + k := ⟨_, rfl⟩
          obtain ⟨o, ho⟩ := getElem?_len (show p < os.length by rw [hmu.1]; omega)
          have ho9 := hmu.2.1 o (List.mem_of_getElem? ho)
          have hc3 := IRow.at hrow ho
          have hf := VRow.frozen hrow p none
          have hwp : IntKind.i64.wrap ((i : Int) + (k : Int)) = (p : Int) := by rw [IntWalk.i64_in _ (by omega)]; omega
          have hpN : (p : Int) < (N : Int) := by omega
          have hi2 : (k : Int) < (b.length : Int) := by omega
          have hwk : IntKind.i64.wrap ((k : Int) + 1) = (k : Int) + 1 := IntWalk.i64_in _ (by omega)
          obtain ⟨q, hq⟩ : ∃ q, q = x * y := ⟨_, rfl⟩
          have hq1 : 0 ≤ q := by rw [hq]; exact Int.mul_nonneg hx9.1 hy9.1
          have hq2 : q ≤ 9999 * 9999 := by rw [hq]; exact Int.mul_le_mul hx9.2 hy9.2 hy9.1 (by omega)
          have hwq : IntKind.i64.wrap (x * y) = q := by rw [← hq]; exact IntWalk.i64_in _ (by omega)
          have hwo : IntKind.i64.wrap (o + q) = o + q := IntWalk.i64_in _ (by omega)
          obtain ⟨S, hS⟩ : ∃ S, S = o + q + c := ⟨_, rfl⟩
          have hwS : IntKind.i64.wrap (o + q + c) = S := by rw [← hS]; exact IntWalk.i64_in _ (by omega)
          have hS0 : 0 ≤ S := by omega
          have hS9 : S ≤ 99999999 := by omega
          have hwm : IntKind.i64.wrap (S % 10000) = S % 10000 := IntWalk.i64_in _ (by omega)
          have hwd : IntKind.i64.wrap (S / 10000) = S / 10000 := IntWalk.i64_in _ (by omega)
          have HMU : RowKit.Hid (MulI N (i + b.length) (os.set p (S % 10000)) (i + (k + 1)) (S / 10000) (valD (a.take i) * valD b + 10000 ^ i * (x * valD (b.take (k + 1))))) := Lib.hid (by
            have e := mul_step hmu (by omega) (hp ▸ ho) hS hS0 hS9
            rw [← hp] at e
            have e3 : valD (b.take (k + 1)) = valD (b.take k) + 10000 ^ k * y := by rw [valD_take_succ]; simp [List.getD, hyk]
            rw [e3, ← mul_in (y := y), ← hp, ← hq, show i + (k + 1) = p + 1 by omega]
            exact e)
          have HR := Lib.hid hrow
          have HE := Lib.hid hE
          clear hmu hrow hE hr1 hr2 hyk hp ho hq hS
          go_wp2
          go_quiet (fail)
          go_wp2
          exact ⟨⟨k + 1, os.set p (S % 10000), S / 10000, by go_num, rfl, by omega, HMU.out, IRow.put HR.out p _, Below.setCell (p := ⟨s, p, none⟩) (ext_drewN HE.out _) (by rw [hs]; exact Nat.le_refl _) _⟩, by simp [intOf]; omega⟩
        · have hkb : k = b.length := by omega
          have hi2 : ¬ (k : Int) < (b.length : Int) := by omega
          obtain ⟨p, hp⟩ : ∃ p, p = i + b.length := ⟨_, rfl⟩
          have hwp : IntKind.i64.wrap ((i : Int) + (b.length : Int)) = (p : Int) := by rw [IntWalk.i64_in _ (by omega)]; omega
          have hpN : (p : Int) < (N : Int) := by omega
          obtain ⟨o, ho⟩ := getElem?_len (show p < os.length by rw [hmu.1]; omega)
          have hc3 := IRow.at hrow ho
          have hf := VRow.frozen hrow p none
          have HMU : RowKit.Hid (MulI N (i + 1 + b.length) (os.set p c) (i + 1) 0 (valD (a.take (i + 1)) * valD b)) := Lib.hid (by
            rw [hkb, ← hp, List.take_of_length_le (Nat.le_refl _)] at hmu
            have e := mul_end (q := i + 1) hmu (by omega)
            rw [HT1.out, ← mul_next, show i + 1 + b.length = p + 1 by omega]
            exact e)
          have HR := Lib.hid hrow
          have HE := Lib.hid hE
          clear hmu hrow hE hp ho
          go_wp2_with fail
          exact ⟨⟨i + 1, os.set p c, by go_num, by omega, HMU.out, IRow.put HR.out p _, Below.setCell (p := ⟨s, p, none⟩) HE.out (by rw [hs]; exact Nat.le_refl _) _⟩, by simp [intOf]; omega⟩
    · have hi1 : ¬ (i : Int) < (a.length : Int) := by omega
      have HV : RowKit.Hid (valD os = valD a * valD b) := Lib.hid (by
        have := hmu.2.2.2.2.2
        rw [List.take_of_length_le (by omega)] at this
        simpa using this)
      have HI := Lib.hid (IRow.ints' hrow (n := a.length + b.length) (cap := a.length + b.length) (by rw [hmu.1, hN]) (by rw [hmu.1, hN]; exact Nat.le_refl _) (by omega))
      have HDg := Lib.hid hmu.2.1
      have HL := Lib.hid hmu.1
      have HE := Lib.hid hE
      clear hmu hrow hE
      go_wp2_with fail
      refine (trim_c _ os _ HI.out (by rw [HL.out]; omega)).mono ?_
      rintro e w3 ⟨v3, rfl, hI3, hE3⟩
      have HR := Lib.hid hI3
      have HE3 := Lib.hid (HE.out.trans hE3)
      clear hI3 hE3
      go_wp2
      go_ret
      exact ⟨_, _, rfl, HR.out, digB_trim HDg.out, trimD_idem _, by rw [valD_trim]; exact HV.out, by have := trimD_length os; rw [HL.out] at this; omega, HE3.out⟩
end Go.Proofs.Ytblaipkhmmaenaa

namespace Go.Proofs.Ytblaipkhmmaenaa
open Go.RowKit
def MP.dig (Z : Int) (n : Nat) : MP := ⟨fun v W => ∃ ds, Ints W v ds ∧ digB ds ∧ valD ds = Z ∧ ds.length ≤ n, fun _ _ _ h hh => by
  obtain ⟨ds, h1, h2⟩ := hh
  exact ⟨ds, h1.ext h, h2⟩⟩
def MP.big (n : Nat) (z : Int) : MP := ⟨fun v W => BigAt n W v z, fun _ _ _ h hh => BigAt.ext hh h⟩
theorem sg_same {b : Bool} {x y : Int} : sgZ b (x + y) = sgZ b x + sgZ b y := by cases b <;> simp [sgZ] <;> omega
theorem sg_sub {b : Bool} {x y : Int} : sgZ b (x - y) = sgZ b x + sgZ (!b) y := by cases b <;> simp [sgZ] <;> omega
theorem sg_mul {a b : Bool} {x y : Int} : sgZ (a != b) (x * y) = sgZ a x * sgZ b y := by cases a <;> cases b <;> simp [sgZ, Int.mul_neg, Int.neg_mul]
theorem sg_neg {b : Bool} {x : Int} : sgZ (!b) x = -sgZ b x := by cases b <;> simp [sgZ]
theorem len_le_of_val {a b : List Int} (ha : digB a) (hb : digB b) (tb : trimD b = b) (h : valD b ≤ valD a) : b.length ≤ a.length := by
  by_cases hc : b.length ≤ a.length
  · exact hc
  · exfalso
    have := valD_short ha hb tb (by omega)
    omega
theorem cmpZ_ge {x y : Int} : (0 ≤ cmpZ x y) = (y ≤ x) := by unfold cmpZ; split; · simp; omega
                                                             · split <;> simp <;> omega
set_option maxRecDepth 100000 in
set_option maxHeartbeats 4000000 in
theorem plus_c (n : Nat) (u v : Value) (x y : Int) (w : World) (hx : BigAt n w u x) (hy : BigAt n w v y) (hn : n ≤ 10000) :
    Calls Try.prog 66 #[u, v] w fun e w' => ∃ z, e = .returned z ∧ BigAt (n + 1) w' z (x + y) ∧ Ext w w' := by
  obtain ⟨na, dv, da, rfl, hia, hda, hta, hna, hla, hxe⟩ := hx
  obtain ⟨nb, ev, db, rfl, hib, hdb, htb, hnb, hlb, hye⟩ := hy
  obtain ⟨aa, ca, rfl, _, _, _⟩ := hia.at
  obtain ⟨ab, cb, rfl, _, _, _⟩ := hib.at
  have sz1 : (w.alloc (.cells #[.bool na, .slice aa da.length ca] 89)).heap.size = w.heap.size + 1 := by simp
  have sz2 : ((w.alloc (.cells #[.bool na, .slice aa da.length ca] 89)).alloc (.cells #[.bool nb, .slice ab db.length cb] 89)).heap.size = w.heap.size + 1 + 1 := by simp
  have r0 := ((vrow_alloc w [.bool na, .slice aa da.length ca] 89).alloc (.cells #[.bool nb, .slice ab db.length cb] 89)).alloc (.cells #[.bool false, .slice none 0 0] 89)
  have r1 := (vrow_alloc (w.alloc (.cells #[.bool na, .slice aa da.length ca] 89)) [.bool nb, .slice ab db.length cb] 89).alloc (.cells #[.bool false, .slice none 0 0] 89)
  have r2 := vrow_alloc ((w.alloc (.cells #[.bool na, .slice aa da.length ca] 89)).alloc (.cells #[.bool nb, .slice ab db.length cb] 89)) [.bool false, .slice none 0 0] 89
  rw [sz1] at r1
  rw [sz2] at r2
  have hE := Ext.alloc (Ext.alloc (Ext.alloc (Ext.refl w) (.cells #[.bool na, .slice aa da.length ca] 89)) (.cells #[.bool nb, .slice ab db.length cb] 89)) (.cells #[.bool false, .slice none 0 0] 89)
  have HR0 := Lib.hid r0
  have HR1 := Lib.hid r1
  have HRes := Lib.hid r2
  have HIA := Lib.hid (hia.ext hE)
  have HIB := Lib.hid (hib.ext hE)
  have HE := Lib.hid hE
  have HDA := Lib.hid hda
  have HDB := Lib.hid hdb
  have HTA := Lib.hid hta
  have HTB := Lib.hid htb
  change Hid (VRow (((w.alloc (.cells #[.bool na, .slice aa da.length ca] 89)).alloc (.cells #[.bool nb, .slice ab db.length cb] 89)).alloc (.cells #[.bool false, .slice none 0 0] 89)) _ _ _) at HR0
  change Hid (VRow (((w.alloc (.cells #[.bool na, .slice aa da.length ca] 89)).alloc (.cells #[.bool nb, .slice ab db.length cb] 89)).alloc (.cells #[.bool false, .slice none 0 0] 89)) _ _ _) at HR1
  change Hid (VRow (((w.alloc (.cells #[.bool na, .slice aa da.length ca] 89)).alloc (.cells #[.bool nb, .slice ab db.length cb] 89)).alloc (.cells #[.bool false, .slice none 0 0] 89)) _ _ _) at HRes
  have HXE := Lib.hid hxe
  have HYE := Lib.hid hye
  by_cases hab : na = nb
  · have hq : (na == nb) = true := by simpa using hab
    have HZ : ∀ t, t = valD da + valD db → sgZ na t = x + y := fun t ht => by rw [ht, sg_same, HXE.out, HYE.out, hab]
    have HZ := Lib.hid HZ
    clear r0 r1 r2 hE hia hib hda hdb hta htb hna hnb hxe hye hab sz1 sz2
    go_enter Try.func66, Try.ntmps66
    go_wp2_with fail
    generalize ((w.alloc (.cells #[.bool na, .slice aa da.length ca] 89)).alloc (.cells #[.bool nb, .slice ab db.length cb] 89)).alloc (.cells #[.bool false, .slice none 0 0] 89) = w1 at *
    have hsw : w.heap.size ≤ w.heap.size := Nat.le_refl _
    generalize hs : w.heap.size = s at *
    refine wp_region_stable_last [⟨[], none⟩, ⟨[(0, 10)], none⟩, ⟨[], none⟩, ⟨[(2, 12)], none⟩, ⟨[], none⟩, ⟨[(4, 14)], none⟩, ⟨[(3, 13), (5, 15)], none⟩, ⟨[(1, 11), (6, 16)], none⟩] (fun x y => Below x.heap.size x y) (MPat [MP.eq (.pointer (some ⟨s, 0, none⟩)), MP.eq (.bool na), MP.eq (.pointer (some ⟨s, 1, none⟩)), MP.eq (.slice aa da.length ca), MP.eq (.pointer (some ⟨s + 1, 1, none⟩)), MP.eq (.slice ab db.length cb), MP.dig (valD da + valD db) (n + 1), MP.big (n + 1) (x + y)]) rfl (by kernel_rfl) (fun _ _ _ h k => Ext.trans h k) (fun _ => Below.refl _ _) (fun x => (Below.refl x.heap.size x).drew) (MPat.mono _) (by kernel_rfl) (by kernel_rfl) (by kernel_rfl) ?obs ?rest
    case obs =>
      refine ⟨?_, ?_, ?_, ?_, ?_, ?_, ?_, ?_, trivial⟩
      · intro ev W hf _ _ hst hd
        have e2 : ev (.tmp 2) = .pointer (some ⟨s, 0, none⟩) := hf 2 (by kernel_rfl)
        refine st_value (v := .pointer (some ⟨s, 0, none⟩)) ?_ (Below.refl _ _) ?_
        · simp [execOp, go_sem, e2]
        · exact rfl
      · intro ev W hf _ _ hst hd
        obtain ⟨d10, _⟩ := hd
        have e10 : ev (.tmp 10) = .pointer (some ⟨s, 0, none⟩) := d10
        have kk := VRow.ext HR0.out hst
        have k0 := VRow.cell kk (k := 0) rfl
        refine st_value (v := .bool na) ?_ (Below.refl _ _) ?_
        · simp [execOp, go_sem, e10, k0]
        · exact rfl
      · intro ev W hf _ _ hst hd
        have e2 : ev (.tmp 2) = .pointer (some ⟨s, 0, none⟩) := hf 2 (by kernel_rfl)
        refine st_value (v := .pointer (some ⟨s, 1, none⟩)) ?_ (Below.refl _ _) ?_
        · simp [execOp, go_sem, e2]
        · exact rfl
      · intro ev W hf _ _ hst hd
        obtain ⟨d12, _⟩ := hd
        have e12 : ev (.tmp 12) = .pointer (some ⟨s, 1, none⟩) := d12
        have kk := VRow.ext HR0.out hst
        have k1 := VRow.cell kk (k := 1) rfl
        refine st_value (v := .slice aa da.length ca) ?_ (Below.refl _ _) ?_
        · simp [execOp, go_sem, e12, k1]
        · exact rfl
      · intro ev W hf _ _ hst hd
        have e3 : ev (.tmp 3) = .pointer (some ⟨s + 1, 0, none⟩) := hf 3 (by kernel_rfl)
        refine st_value (v := .pointer (some ⟨s + 1, 1, none⟩)) ?_ (Below.refl _ _) ?_
        · simp [execOp, go_sem, e3]
        · exact rfl
      · intro ev W hf _ _ hst hd
        obtain ⟨d14, _⟩ := hd
        have e14 : ev (.tmp 14) = .pointer (some ⟨s + 1, 1, none⟩) := d14
        have kk := VRow.ext HR1.out hst
        have k1 := VRow.cell kk (k := 1) rfl
        refine st_value (v := .slice ab db.length cb) ?_ (Below.refl _ _) ?_
        · simp [execOp, go_sem, e14, k1]
        · exact rfl
      · intro ev W hf _ hfn hst hd
        obtain ⟨d13, d15, _⟩ := hd
        have e13 : ev (.tmp 13) = .slice aa da.length ca := d13
        have e15 : ev (.tmp 15) = .slice ab db.length cb := d15
        refine st_enter (f := 72) (args := #[.slice aa da.length ca, .slice ab db.length cb]) (by simp [execOp, go_sem, hfn, e13, e15]) ?_
        refine (addD_c _ _ da db W (HIA.out.ext hst) (HIB.out.ext hst) HDA.out HDB.out (by omega) (by omega)).mono ?_
        rintro e w' ⟨z, ds, rfl, h1, h2, h3, h4, h5⟩
        exact ⟨z, rfl, h5, ds, h1, h2, h3, by omega⟩
      · intro ev W hf _ hfn hst hd
        obtain ⟨d11, d16, _⟩ := hd
        have e11 : ev (.tmp 11) = .bool na := d11
        obtain ⟨ds, i1, i2, i3, i4⟩ := d16
        obtain ⟨a9, c9, e9, _, _, _⟩ := i1.at
        have e16 : ev (.tmp 16) = .slice a9 ds.length c9 := e9
        refine st_enter (f := 64) (args := #[.bool na, .slice a9 ds.length c9]) (by simp [execOp, go_sem, hfn, e11, e16]) ?_
        have i5 : Ints W (.slice a9 ds.length c9) ds := e9 ▸ i1
        refine (whole_c na _ ds (n + 1) W i5 i2 i4 (by omega)).mono ?_
        rintro e w' ⟨u, rfl, hB, hE⟩
        exact ⟨_, rfl, hE, by rw [HZ.out _ i3] at hB; exact hB⟩
    case rest =>
      intro vs w3 hl hst hg
      obtain ⟨b9, a9, l9, c9, e7, hBig⟩ : ∃ b9 a9 l9 c9, vs[7]? = some (.agg #[.bool b9, .slice a9 l9 c9]) ∧ BigAt (n + 1) w3 (.agg #[.bool b9, .slice a9 l9 c9]) (x + y) := by
        have hu : vs[7]? = some (vs[7]'(by rw [hl]; decide)) := List.getElem?_eq_getElem _
        have h7 : BigAt (n + 1) w3 _ (x + y) := hg 7 _ hu
        obtain ⟨b, a, l, c, e⟩ := h7.form
        exact ⟨b, a, l, c, by rw [hu, e], by rw [e] at h7; exact h7⟩
      have HE3 := Lib.hid (HE.out.trans hst)
      have hr3 := VRow.ext HRes.out hst
      have HBig := Lib.hid hBig
      clear hg hst hBig
      obtain ⟨x0, vs0, rfl, hl0⟩ := len_succ hl
      obtain ⟨x1, vs1, rfl, hl1⟩ := len_succ hl0
      obtain ⟨x2, vs2, rfl, hl2⟩ := len_succ hl1
      obtain ⟨x3, vs3, rfl, hl3⟩ := len_succ hl2
      obtain ⟨x4, vs4, rfl, hl4⟩ := len_succ hl3
      obtain ⟨x5, vs5, rfl, hl5⟩ := len_succ hl4
      obtain ⟨x6, vs6, rfl, hl6⟩ := len_succ hl5
      obtain ⟨x7, vs7, rfl, hl7⟩ := len_succ hl6
      have hnil : vs7 = [] := List.length_eq_zero_iff.1 hl7
      subst hnil
      simp only [List.getElem?_cons_succ, List.getElem?_cons_zero, Option.some.injEq] at e7
      subst e7
      simp only [putAll, Act.put, List.dropLast, List.setIfInBounds_toArray, List.set_cons_zero, List.set_cons_succ]
      have m0 := VRow.cell hr3 (k := 0) rfl
      have m1 := VRow.cell hr3 (k := 1) rfl
      have f0 := VRow.frozen hr3 0 none
      have f1 := VRow.frozen hr3 1 none
      have HR3 := Lib.hid hr3
      clear hr3
      go_wp2_with fail
      obtain ⟨g1, g2⟩ := big_put HBig.out HR3.out (by simp)
      have c0 := VRow.cell g2 (k := 0) rfl
      have c1 := VRow.cell g2 (k := 1) rfl
      exact bodyPost_ret (v := .agg #[.bool b9, .slice a9 l9 c9]) (by simp [results, Try.results66, go_sem, c0, c1]) rfl ⟨_, rfl, g1, Below.setCell (p := ⟨s + 1 + 1, 1, none⟩) (Below.setCell (p := ⟨s + 1 + 1, 0, none⟩) HE3.out (show w.heap.size ≤ s + 1 + 1 by omega) _) (show w.heap.size ≤ s + 1 + 1 by omega) _⟩
  · have hq : (na == nb) = false := by simpa using hab
    have hnb2 : nb = !na := by cases na <;> cases nb <;> simp_all
    by_cases hAB : valD db ≤ valD da
    · have hc : 0 ≤ cmpZ (valD da) (valD db) := by rw [cmpZ_ge]; exact hAB
      have HZ : ∀ t, t = valD da - valD db → sgZ na t = x + y := fun t ht => by rw [ht, sg_sub, HXE.out, HYE.out, hnb2]
      have HZ := Lib.hid HZ
      have hLL := len_le_of_val hda hdb htb hAB
      have HAB := Lib.hid hAB
      clear r0 r1 r2 hE hia hib hda hdb hta htb hna hnb hxe hye hab sz1 sz2 hnb2 hAB
      go_enter Try.func66, Try.ntmps66
      go_wp2_with fail
      generalize ((w.alloc (.cells #[.bool na, .slice aa da.length ca] 89)).alloc (.cells #[.bool nb, .slice ab db.length cb] 89)).alloc (.cells #[.bool false, .slice none 0 0] 89) = w1 at *
      have hsw : w.heap.size ≤ w.heap.size := Nat.le_refl _
      generalize hs : w.heap.size = s at *
      refine (cmpD_c _ _ da db _ HIA.out HIB.out HDA.out HDB.out HTA.out HTB.out (by omega)).mono ?_
      rintro e w2 ⟨rfl, n9, rfl⟩
      go_wp2_with fail
      have HR0 := Lib.hid (VRow.drewN HR0.out n9)
      have HR1 := Lib.hid (VRow.drewN HR1.out n9)
      have HRes := Lib.hid (VRow.drewN HRes.out n9)
      have HIA := Lib.hid (HIA.out.ext (ext_drewN (Ext.refl _) n9))
      have HIB := Lib.hid (HIB.out.ext (ext_drewN (Ext.refl _) n9))
      have HE := Lib.hid (ext_drewN HE.out n9)
      generalize w1.drewN n9 = w2 at *
      refine wp_region_stable_last [⟨[], none⟩, ⟨[(0, 24)], none⟩, ⟨[], none⟩, ⟨[(2, 26)], none⟩, ⟨[], none⟩, ⟨[(4, 28)], none⟩, ⟨[(3, 27), (5, 29)], none⟩, ⟨[(1, 25), (6, 30)], none⟩] (fun x y => Below x.heap.size x y) (MPat [MP.eq (.pointer (some ⟨s, 0, none⟩)), MP.eq (.bool na), MP.eq (.pointer (some ⟨s, 1, none⟩)), MP.eq (.slice aa da.length ca), MP.eq (.pointer (some ⟨s + 1, 1, none⟩)), MP.eq (.slice ab db.length cb), MP.dig (valD da - valD db) (n + 1), MP.big (n + 1) (x + y)]) rfl (by kernel_rfl) (fun _ _ _ h k => Ext.trans h k) (fun _ => Below.refl _ _) (fun x => (Below.refl x.heap.size x).drew) (MPat.mono _) (by kernel_rfl) (by kernel_rfl) (by kernel_rfl) ?obs ?rest
      case obs =>
        refine ⟨?_, ?_, ?_, ?_, ?_, ?_, ?_, ?_, trivial⟩
        · intro ev W hf _ _ hst hd
          have e2 : ev (.tmp 2) = .pointer (some ⟨s, 0, none⟩) := hf 2 (by kernel_rfl)
          refine st_value (v := .pointer (some ⟨s, 0, none⟩)) ?_ (Below.refl _ _) ?_
          · simp [execOp, go_sem, e2]
          · exact rfl
        · intro ev W hf _ _ hst hd
          obtain ⟨d24, _⟩ := hd
          have e24 : ev (.tmp 24) = .pointer (some ⟨s, 0, none⟩) := d24
          have kk := VRow.ext HR0.out hst
          have k0 := VRow.cell kk (k := 0) rfl
          refine st_value (v := .bool na) ?_ (Below.refl _ _) ?_
          · simp [execOp, go_sem, e24, k0]
          · exact rfl
        · intro ev W hf _ _ hst hd
          have e2 : ev (.tmp 2) = .pointer (some ⟨s, 0, none⟩) := hf 2 (by kernel_rfl)
          refine st_value (v := .pointer (some ⟨s, 1, none⟩)) ?_ (Below.refl _ _) ?_
          · simp [execOp, go_sem, e2]
          · exact rfl
        · intro ev W hf _ _ hst hd
          obtain ⟨d26, _⟩ := hd
          have e26 : ev (.tmp 26) = .pointer (some ⟨s, 1, none⟩) := d26
          have kk := VRow.ext HR0.out hst
          have k1 := VRow.cell kk (k := 1) rfl
          refine st_value (v := .slice aa da.length ca) ?_ (Below.refl _ _) ?_
          · simp [execOp, go_sem, e26, k1]
          · exact rfl
        · intro ev W hf _ _ hst hd
          have e3 : ev (.tmp 3) = .pointer (some ⟨s + 1, 0, none⟩) := hf 3 (by kernel_rfl)
          refine st_value (v := .pointer (some ⟨s + 1, 1, none⟩)) ?_ (Below.refl _ _) ?_
          · simp [execOp, go_sem, e3]
          · exact rfl
        · intro ev W hf _ _ hst hd
          obtain ⟨d28, _⟩ := hd
          have e28 : ev (.tmp 28) = .pointer (some ⟨s + 1, 1, none⟩) := d28
          have kk := VRow.ext HR1.out hst
          have k1 := VRow.cell kk (k := 1) rfl
          refine st_value (v := .slice ab db.length cb) ?_ (Below.refl _ _) ?_
          · simp [execOp, go_sem, e28, k1]
          · exact rfl
        · intro ev W hf _ hfn hst hd
          obtain ⟨d27, d29, _⟩ := hd
          have e27 : ev (.tmp 27) = .slice aa da.length ca := d27
          have e29 : ev (.tmp 29) = .slice ab db.length cb := d29
          refine st_enter (f := 73) (args := #[.slice aa da.length ca, .slice ab db.length cb]) (by simp [execOp, go_sem, hfn, e27, e29]) ?_
          refine (subD_c _ _ da db W (HIA.out.ext hst) (HIB.out.ext hst) HDA.out HDB.out (by omega) hLL HAB.out).mono ?_
          rintro e w' ⟨z, ds, rfl, h1, h2, h2t, h3, h4, h5⟩
          exact ⟨z, rfl, h5, ds, h1, h2, h3, by omega⟩
        · intro ev W hf _ hfn hst hd
          obtain ⟨d25, d30, _⟩ := hd
          have e25 : ev (.tmp 25) = .bool na := d25
          obtain ⟨ds, i1, i2, i3, i4⟩ := d30
          obtain ⟨a9, c9, e9, _, _, _⟩ := i1.at
          have e30 : ev (.tmp 30) = .slice a9 ds.length c9 := e9
          refine st_enter (f := 64) (args := #[.bool na, .slice a9 ds.length c9]) (by simp [execOp, go_sem, hfn, e25, e30]) ?_
          have i5 : Ints W (.slice a9 ds.length c9) ds := e9 ▸ i1
          refine (whole_c na _ ds (n + 1) W i5 i2 i4 (by omega)).mono ?_
          rintro e w' ⟨u, rfl, hB, hE⟩
          exact ⟨_, rfl, hE, by rw [HZ.out _ i3] at hB; exact hB⟩
      case rest =>
        intro vs w3 hl hst hg
        obtain ⟨b9, a9, l9, c9, e7, hBig⟩ : ∃ b9 a9 l9 c9, vs[7]? = some (.agg #[.bool b9, .slice a9 l9 c9]) ∧ BigAt (n + 1) w3 (.agg #[.bool b9, .slice a9 l9 c9]) (x + y) := by
          have hu : vs[7]? = some (vs[7]'(by rw [hl]; decide)) := List.getElem?_eq_getElem _
          have h7 : BigAt (n + 1) w3 _ (x + y) := hg 7 _ hu
          obtain ⟨b, a, l, c, e⟩ := h7.form
          exact ⟨b, a, l, c, by rw [hu, e], by rw [e] at h7; exact h7⟩
        have HE3 := Lib.hid (HE.out.trans hst)
        have hr3 := VRow.ext HRes.out hst
        have HBig := Lib.hid hBig
        clear hg hst hBig
        obtain ⟨x0, vs0, rfl, hl0⟩ := len_succ hl
        obtain ⟨x1, vs1, rfl, hl1⟩ := len_succ hl0
        obtain ⟨x2, vs2, rfl, hl2⟩ := len_succ hl1
        obtain ⟨x3, vs3, rfl, hl3⟩ := len_succ hl2
        obtain ⟨x4, vs4, rfl, hl4⟩ := len_succ hl3
        obtain ⟨x5, vs5, rfl, hl5⟩ := len_succ hl4
        obtain ⟨x6, vs6, rfl, hl6⟩ := len_succ hl5
        obtain ⟨x7, vs7, rfl, hl7⟩ := len_succ hl6
        have hnil : vs7 = [] := List.length_eq_zero_iff.1 hl7
        subst hnil
        simp only [List.getElem?_cons_succ, List.getElem?_cons_zero, Option.some.injEq] at e7
        subst e7
        simp only [putAll, Act.put, List.dropLast, List.setIfInBounds_toArray, List.set_cons_zero, List.set_cons_succ]
        have m0 := VRow.cell hr3 (k := 0) rfl
        have m1 := VRow.cell hr3 (k := 1) rfl
        have f0 := VRow.frozen hr3 0 none
        have f1 := VRow.frozen hr3 1 none
        have HR3 := Lib.hid hr3
        clear hr3
        go_wp2_with fail
        obtain ⟨g1, g2⟩ := big_put HBig.out HR3.out (by simp)
        have c0 := VRow.cell g2 (k := 0) rfl
        have c1 := VRow.cell g2 (k := 1) rfl
        exact bodyPost_ret (v := .agg #[.bool b9, .slice a9 l9 c9]) (by simp [results, Try.results66, go_sem, c0, c1]) rfl ⟨_, rfl, g1, Below.setCell (p := ⟨s + 1 + 1, 1, none⟩) (Below.setCell (p := ⟨s + 1 + 1, 0, none⟩) HE3.out (show w.heap.size ≤ s + 1 + 1 by omega) _) (show w.heap.size ≤ s + 1 + 1 by omega) _⟩
    · have hc : ¬ 0 ≤ cmpZ (valD da) (valD db) := by rw [cmpZ_ge]; exact hAB
      have hna2 : na = !nb := by rw [hnb2]; simp
      have HZ : ∀ t, t = valD db - valD da → sgZ nb t = x + y := fun t ht => by rw [ht, sg_sub, HXE.out, HYE.out, hna2, Int.add_comm]
      have HZ := Lib.hid HZ
      have hLL := len_le_of_val hdb hda hta (by omega)
      have HAB := Lib.hid (show valD da ≤ valD db by omega)
      clear r0 r1 r2 hE hia hib hda hdb hta htb hna hnb hxe hye hab sz1 sz2 hnb2 hna2 hAB
      go_enter Try.func66, Try.ntmps66
      go_wp2_with fail
      generalize ((w.alloc (.cells #[.bool na, .slice aa da.length ca] 89)).alloc (.cells #[.bool nb, .slice ab db.length cb] 89)).alloc (.cells #[.bool false, .slice none 0 0] 89) = w1 at *
      have hsw : w.heap.size ≤ w.heap.size := Nat.le_refl _
      generalize hs : w.heap.size = s at *
      refine (cmpD_c _ _ da db _ HIA.out HIB.out HDA.out HDB.out HTA.out HTB.out (by omega)).mono ?_
      rintro e w2 ⟨rfl, n9, rfl⟩
      go_wp2_with fail
      have HR0 := Lib.hid (VRow.drewN HR0.out n9)
      have HR1 := Lib.hid (VRow.drewN HR1.out n9)
      have HRes := Lib.hid (VRow.drewN HRes.out n9)
      have HIA := Lib.hid (HIA.out.ext (ext_drewN (Ext.refl _) n9))
      have HIB := Lib.hid (HIB.out.ext (ext_drewN (Ext.refl _) n9))
      have HE := Lib.hid (ext_drewN HE.out n9)
      generalize w1.drewN n9 = w2 at *
      refine wp_region_stable_last [⟨[], none⟩, ⟨[(0, 32)], none⟩, ⟨[], none⟩, ⟨[(2, 34)], none⟩, ⟨[], none⟩, ⟨[(4, 36)], none⟩, ⟨[(3, 35), (5, 37)], none⟩, ⟨[(1, 33), (6, 38)], none⟩] (fun x y => Below x.heap.size x y) (MPat [MP.eq (.pointer (some ⟨s + 1, 0, none⟩)), MP.eq (.bool nb), MP.eq (.pointer (some ⟨s + 1, 1, none⟩)), MP.eq (.slice ab db.length cb), MP.eq (.pointer (some ⟨s, 1, none⟩)), MP.eq (.slice aa da.length ca), MP.dig (valD db - valD da) (n + 1), MP.big (n + 1) (x + y)]) rfl (by kernel_rfl) (fun _ _ _ h k => Ext.trans h k) (fun _ => Below.refl _ _) (fun x => (Below.refl x.heap.size x).drew) (MPat.mono _) (by kernel_rfl) (by kernel_rfl) (by kernel_rfl) ?obs ?rest
      case obs =>
        refine ⟨?_, ?_, ?_, ?_, ?_, ?_, ?_, ?_, trivial⟩
        · intro ev W hf _ _ hst hd
          have e3 : ev (.tmp 3) = .pointer (some ⟨s + 1, 0, none⟩) := hf 3 (by kernel_rfl)
          refine st_value (v := .pointer (some ⟨s + 1, 0, none⟩)) ?_ (Below.refl _ _) ?_
          · simp [execOp, go_sem, e3]
          · exact rfl
        · intro ev W hf _ _ hst hd
          obtain ⟨d32, _⟩ := hd
          have e32 : ev (.tmp 32) = .pointer (some ⟨s + 1, 0, none⟩) := d32
          have kk := VRow.ext HR1.out hst
          have k0 := VRow.cell kk (k := 0) rfl
          refine st_value (v := .bool nb) ?_ (Below.refl _ _) ?_
          · simp [execOp, go_sem, e32, k0]
          · exact rfl
        · intro ev W hf _ _ hst hd
          have e3 : ev (.tmp 3) = .pointer (some ⟨s + 1, 0, none⟩) := hf 3 (by kernel_rfl)
          refine st_value (v := .pointer (some ⟨s + 1, 1, none⟩)) ?_ (Below.refl _ _) ?_
          · simp [execOp, go_sem, e3]
          · exact rfl
        · intro ev W hf _ _ hst hd
          obtain ⟨d34, _⟩ := hd
          have e34 : ev (.tmp 34) = .pointer (some ⟨s + 1, 1, none⟩) := d34
          have kk := VRow.ext HR1.out hst
          have k1 := VRow.cell kk (k := 1) rfl
          refine st_value (v := .slice ab db.length cb) ?_ (Below.refl _ _) ?_
          · simp [execOp, go_sem, e34, k1]
          · exact rfl
        · intro ev W hf _ _ hst hd
          have e2 : ev (.tmp 2) = .pointer (some ⟨s, 0, none⟩) := hf 2 (by kernel_rfl)
          refine st_value (v := .pointer (some ⟨s, 1, none⟩)) ?_ (Below.refl _ _) ?_
          · simp [execOp, go_sem, e2]
          · exact rfl
        · intro ev W hf _ _ hst hd
          obtain ⟨d36, _⟩ := hd
          have e36 : ev (.tmp 36) = .pointer (some ⟨s, 1, none⟩) := d36
          have kk := VRow.ext HR0.out hst
          have k1 := VRow.cell kk (k := 1) rfl
          refine st_value (v := .slice aa da.length ca) ?_ (Below.refl _ _) ?_
          · simp [execOp, go_sem, e36, k1]
          · exact rfl
        · intro ev W hf _ hfn hst hd
          obtain ⟨d35, d37, _⟩ := hd
          have e35 : ev (.tmp 35) = .slice ab db.length cb := d35
          have e37 : ev (.tmp 37) = .slice aa da.length ca := d37
          refine st_enter (f := 73) (args := #[.slice ab db.length cb, .slice aa da.length ca]) (by simp [execOp, go_sem, hfn, e35, e37]) ?_
          refine (subD_c _ _ db da W (HIB.out.ext hst) (HIA.out.ext hst) HDB.out HDA.out (by omega) hLL HAB.out).mono ?_
          rintro e w' ⟨z, ds, rfl, h1, h2, h2t, h3, h4, h5⟩
          exact ⟨z, rfl, h5, ds, h1, h2, h3, by omega⟩
        · intro ev W hf _ hfn hst hd
          obtain ⟨d33, d38, _⟩ := hd
          have e33 : ev (.tmp 33) = .bool nb := d33
          obtain ⟨ds, i1, i2, i3, i4⟩ := d38
          obtain ⟨a9, c9, e9, _, _, _⟩ := i1.at
          have e38 : ev (.tmp 38) = .slice a9 ds.length c9 := e9
          refine st_enter (f := 64) (args := #[.bool nb, .slice a9 ds.length c9]) (by simp [execOp, go_sem, hfn, e33, e38]) ?_
          have i5 : Ints W (.slice a9 ds.length c9) ds := e9 ▸ i1
          refine (whole_c nb _ ds (n + 1) W i5 i2 i4 (by omega)).mono ?_
          rintro e w' ⟨u, rfl, hB, hE⟩
          exact ⟨_, rfl, hE, by rw [HZ.out _ i3] at hB; exact hB⟩
      case rest =>
        intro vs w3 hl hst hg
        obtain ⟨b9, a9, l9, c9, e7, hBig⟩ : ∃ b9 a9 l9 c9, vs[7]? = some (.agg #[.bool b9, .slice a9 l9 c9]) ∧ BigAt (n + 1) w3 (.agg #[.bool b9, .slice a9 l9 c9]) (x + y) := by
          have hu : vs[7]? = some (vs[7]'(by rw [hl]; decide)) := List.getElem?_eq_getElem _
          have h7 : BigAt (n + 1) w3 _ (x + y) := hg 7 _ hu
          obtain ⟨b, a, l, c, e⟩ := h7.form
          exact ⟨b, a, l, c, by rw [hu, e], by rw [e] at h7; exact h7⟩
        have HE3 := Lib.hid (HE.out.trans hst)
        have hr3 := VRow.ext HRes.out hst
        have HBig := Lib.hid hBig
        clear hg hst hBig
        obtain ⟨x0, vs0, rfl, hl0⟩ := len_succ hl
        obtain ⟨x1, vs1, rfl, hl1⟩ := len_succ hl0
        obtain ⟨x2, vs2, rfl, hl2⟩ := len_succ hl1
        obtain ⟨x3, vs3, rfl, hl3⟩ := len_succ hl2
        obtain ⟨x4, vs4, rfl, hl4⟩ := len_succ hl3
        obtain ⟨x5, vs5, rfl, hl5⟩ := len_succ hl4
        obtain ⟨x6, vs6, rfl, hl6⟩ := len_succ hl5
        obtain ⟨x7, vs7, rfl, hl7⟩ := len_succ hl6
        have hnil : vs7 = [] := List.length_eq_zero_iff.1 hl7
        subst hnil
        simp only [List.getElem?_cons_succ, List.getElem?_cons_zero, Option.some.injEq] at e7
        subst e7
        simp only [putAll, Act.put, List.dropLast, List.setIfInBounds_toArray, List.set_cons_zero, List.set_cons_succ]
        have m0 := VRow.cell hr3 (k := 0) rfl
        have m1 := VRow.cell hr3 (k := 1) rfl
        have f0 := VRow.frozen hr3 0 none
        have f1 := VRow.frozen hr3 1 none
        have HR3 := Lib.hid hr3
        clear hr3
        go_wp2_with fail
        obtain ⟨g1, g2⟩ := big_put HBig.out HR3.out (by simp)
        have c0 := VRow.cell g2 (k := 0) rfl
        have c1 := VRow.cell g2 (k := 1) rfl
        exact bodyPost_ret (v := .agg #[.bool b9, .slice a9 l9 c9]) (by simp [results, Try.results66, go_sem, c0, c1]) rfl ⟨_, rfl, g1, Below.setCell (p := ⟨s + 1 + 1, 1, none⟩) (Below.setCell (p := ⟨s + 1 + 1, 0, none⟩) HE3.out (show w.heap.size ≤ s + 1 + 1 by omega) _) (show w.heap.size ≤ s + 1 + 1 by omega) _⟩
end Go.Proofs.Ytblaipkhmmaenaa

namespace Go.Proofs.Ytblaipkhmmaenaa
open Go.RowKit
set_option maxRecDepth 100000 in
set_option maxHeartbeats 2000000 in
theorem neg_c (n : Nat) (v : Value) (y : Int) (w : World) (hy : BigAt n w v y) (hn : n ≤ 100000) :
    Calls Try.prog 67 #[v] w fun e w' => ∃ z, e = .returned z ∧ BigAt n w' z (-y) ∧ Ext w w' := by
  obtain ⟨nb, ev, db, rfl, hib, hdb, htb, hnb, hlb, hye⟩ := hy
  obtain ⟨ab, cb, rfl, _, _, _⟩ := hib.at
  have sz1 : (w.alloc (.cells #[.bool nb, .slice ab db.length cb] 89)).heap.size = w.heap.size + 1 := by simp
  have r1 := vrow_alloc (w.alloc (.cells #[.bool nb, .slice ab db.length cb] 89)) [.bool false, .slice none 0 0] 89
  rw [sz1] at r1
  have hE := Ext.alloc (Ext.alloc (Ext.refl w) (.cells #[.bool nb, .slice ab db.length cb] 89)) (.cells #[.bool false, .slice none 0 0] 89)
  have HRes := Lib.hid r1
  have HIB := Lib.hid (hib.ext hE)
  have HE := Lib.hid hE
  have HDB := Lib.hid hdb
  change Hid (VRow ((w.alloc (.cells #[.bool nb, .slice ab db.length cb] 89)).alloc (.cells #[.bool false, .slice none 0 0] 89)) _ _ _) at HRes
  have HZ := Lib.hid (show sgZ (!nb) (valD db) = -y by rw [sg_neg, hye])
  have hsw : w.heap.size ≤ w.heap.size := Nat.le_refl _
  clear r1 hE hib hdb htb hnb hye sz1
  go_enter Try.func67, Try.ntmps67
  go_wp2_with fail
  generalize (w.alloc (.cells #[.bool nb, .slice ab db.length cb] 89)).alloc (.cells #[.bool false, .slice none 0 0] 89) = w1 at *
  generalize hs : w.heap.size = s at *
  refine (whole_c (!nb) _ db n w1 HIB.out HDB.out hlb hn).mono ?_
  rintro e w3 ⟨u, rfl, hBig, hE3⟩
  rw [HZ.out] at hBig
  have hr3 := VRow.ext HRes.out hE3
  obtain ⟨b9, a9, l9, c9, rfl⟩ := hBig.form
  have HE3 := Lib.hid (HE.out.trans hE3)
  have HBig := Lib.hid hBig
  have HR3 := Lib.hid hr3
  have m0 := VRow.cell hr3 (k := 0) rfl
  have m1 := VRow.cell hr3 (k := 1) rfl
  have f0 := VRow.frozen hr3 0 none
  have f1 := VRow.frozen hr3 1 none
  clear hBig hr3 hE3
  go_wp2_with fail
  obtain ⟨g1, g2⟩ := big_put HBig.out HR3.out (by simp)
  have c0 := VRow.cell g2 (k := 0) rfl
  have c1 := VRow.cell g2 (k := 1) rfl
  exact bodyPost_ret (v := .agg #[.bool b9, .slice a9 l9 c9]) (by simp [results, Try.results67, go_sem, c0, c1]) rfl ⟨_, rfl, g1, Below.setCell (p := ⟨s + 1, 1, none⟩) (Below.setCell (p := ⟨s + 1, 0, none⟩) HE3.out (show w.heap.size ≤ s + 1 by omega) _) (show w.heap.size ≤ s + 1 by omega) _⟩
set_option maxRecDepth 100000 in
set_option maxHeartbeats 2000000 in
theorem minus_c (n : Nat) (u v : Value) (x y : Int) (w : World) (hx : BigAt n w u x) (hy : BigAt n w v y) (hn : n ≤ 10000) :
    Calls Try.prog 52 #[u, v] w fun e w' => ∃ z, e = .returned z ∧ BigAt (n + 1) w' z (x - y) ∧ Ext w w' := by
  have HX := Lib.hid hx
  have HY := Lib.hid hy
  obtain ⟨na, dv, da, rfl, hia, hda, hta, hna, hla, hxe⟩ := hx
  obtain ⟨nb, ev, db, rfl, hib, hdb, htb, hnb, hlb, hye⟩ := hy
  obtain ⟨aa, ca, rfl, _, _, _⟩ := hia.at
  obtain ⟨ab, cb, rfl, _, _, _⟩ := hib.at
  have sz1 : (w.alloc (.cells #[.bool na, .slice aa da.length ca] 89)).heap.size = w.heap.size + 1 := by simp
  have sz2 : ((w.alloc (.cells #[.bool na, .slice aa da.length ca] 89)).alloc (.cells #[.bool nb, .slice ab db.length cb] 89)).heap.size = w.heap.size + 1 + 1 := by simp
  have r0 := ((vrow_alloc w [.bool na, .slice aa da.length ca] 89).alloc (.cells #[.bool nb, .slice ab db.length cb] 89)).alloc (.cells #[.bool false, .slice none 0 0] 89)
  have r1 := (vrow_alloc (w.alloc (.cells #[.bool na, .slice aa da.length ca] 89)) [.bool nb, .slice ab db.length cb] 89).alloc (.cells #[.bool false, .slice none 0 0] 89)
  have r2 := vrow_alloc ((w.alloc (.cells #[.bool na, .slice aa da.length ca] 89)).alloc (.cells #[.bool nb, .slice ab db.length cb] 89)) [.bool false, .slice none 0 0] 89
  rw [sz1] at r1
  rw [sz2] at r2
  have hE := Ext.alloc (Ext.alloc (Ext.alloc (Ext.refl w) (.cells #[.bool na, .slice aa da.length ca] 89)) (.cells #[.bool nb, .slice ab db.length cb] 89)) (.cells #[.bool false, .slice none 0 0] 89)
  have HR0 := Lib.hid r0
  have HR1 := Lib.hid r1
  have HRes := Lib.hid r2
  have HIA := Lib.hid (hia.ext hE)
  have HIB := Lib.hid (hib.ext hE)
  have HE := Lib.hid hE
  have HDA := Lib.hid hda
  have HDB := Lib.hid hdb
  have HTA := Lib.hid hta
  have HTB := Lib.hid htb
  change Hid (VRow (((w.alloc (.cells #[.bool na, .slice aa da.length ca] 89)).alloc (.cells #[.bool nb, .slice ab db.length cb] 89)).alloc (.cells #[.bool false, .slice none 0 0] 89)) _ _ _) at HR0
  change Hid (VRow (((w.alloc (.cells #[.bool na, .slice aa da.length ca] 89)).alloc (.cells #[.bool nb, .slice ab db.length cb] 89)).alloc (.cells #[.bool false, .slice none 0 0] 89)) _ _ _) at HR1
  change Hid (VRow (((w.alloc (.cells #[.bool na, .slice aa da.length ca] 89)).alloc (.cells #[.bool nb, .slice ab db.length cb] 89)).alloc (.cells #[.bool false, .slice none 0 0] 89)) _ _ _) at HRes
  have HXE := Lib.hid hxe
  have HYE := Lib.hid hye
  have HBX := Lib.hid (HX.out.ext HE.out)
  have HBY := Lib.hid (HY.out.ext HE.out)
  clear HX HY r0 r1 r2 hE hia hib hda hdb hta htb hna hnb hxe hye sz1 sz2
  go_enter Try.func52, Try.ntmps52
  go_wp2_with fail
  generalize ((w.alloc (.cells #[.bool na, .slice aa da.length ca] 89)).alloc (.cells #[.bool nb, .slice ab db.length cb] 89)).alloc (.cells #[.bool false, .slice none 0 0] 89) = w1 at *
  have hsw : w.heap.size ≤ w.heap.size := Nat.le_refl _
  generalize hs : w.heap.size = s at *
  refine wp_region_stable_last [⟨[], none⟩, ⟨[], none⟩, ⟨[(1, 6)], none⟩, ⟨[(0, 5), (2, 7)], none⟩] (fun x y => Below x.heap.size x y) (MPat [MP.eq (.agg #[.bool na, .slice aa da.length ca]), MP.eq (.agg #[.bool nb, .slice ab db.length cb]), MP.big n (-y), MP.big (n + 1) (x - y)]) rfl (by kernel_rfl) (fun _ _ _ h k => Ext.trans h k) (fun _ => Below.refl _ _) (fun x => (Below.refl x.heap.size x).drew) (MPat.mono _) (by kernel_rfl) (by kernel_rfl) (by kernel_rfl) ?obs ?rest
  case obs =>
    refine ⟨?_, ?_, ?_, ?_, trivial⟩
    · intro ev W hf _ _ hst hd
      have e2 : ev (.tmp 2) = .pointer (some ⟨s, 0, none⟩) := hf 2 (by kernel_rfl)
      have kk := VRow.ext HR0.out hst
      have k0 := VRow.cell kk (k := 0) rfl
      have k1 := VRow.cell kk (k := 1) rfl
      refine st_value (v := .agg #[.bool na, .slice aa da.length ca]) ?_ (Below.refl _ _) ?_
      · simp [execOp, go_sem, e2, k0, k1]
      · exact rfl
    · intro ev W hf _ _ hst hd
      have e3 : ev (.tmp 3) = .pointer (some ⟨s + 1, 0, none⟩) := hf 3 (by kernel_rfl)
      have kk := VRow.ext HR1.out hst
      have k0 := VRow.cell kk (k := 0) rfl
      have k1 := VRow.cell kk (k := 1) rfl
      refine st_value (v := .agg #[.bool nb, .slice ab db.length cb]) ?_ (Below.refl _ _) ?_
      · simp [execOp, go_sem, e3, k0, k1]
      · exact rfl
    · intro ev W hf _ hfn hst hd
      obtain ⟨d6, _⟩ := hd
      have e6 : ev (.tmp 6) = .agg #[.bool nb, .slice ab db.length cb] := d6
      refine st_enter (f := 67) (args := #[.agg #[.bool nb, .slice ab db.length cb]]) (by simp [execOp, go_sem, hfn, e6]) ?_
      refine (neg_c n _ y W (HBY.out.ext hst) (by omega)).mono ?_
      rintro e w' ⟨z, rfl, h1, h2⟩
      exact ⟨_, rfl, h2, h1⟩
    · intro ev W hf _ hfn hst hd
      obtain ⟨d5, d7, _⟩ := hd
      have e5 : ev (.tmp 5) = .agg #[.bool na, .slice aa da.length ca] := d5
      have d7 : BigAt n W (ev (.tmp 7)) (-y) := d7
      obtain ⟨b7, a7, l7, c7, e7⟩ := d7.form
      rw [e7] at d7
      refine st_enter (f := 66) (args := #[.agg #[.bool na, .slice aa da.length ca], .agg #[.bool b7, .slice a7 l7 c7]]) (by simp [execOp, go_sem, hfn, e5, e7]) ?_
      refine (plus_c n _ _ x (-y) W (HBX.out.ext hst) d7 hn).mono ?_
      rintro e w' ⟨z, rfl, h1, h2⟩
      exact ⟨_, rfl, h2, (show BigAt (n + 1) w' z (x - y) from by rw [show x - y = x + -y by omega]; exact h1)⟩
  case rest =>
    intro vs w3 hl hst hg
    obtain ⟨b9, a9, l9, c9, e7, hBig⟩ : ∃ b9 a9 l9 c9, vs[3]? = some (.agg #[.bool b9, .slice a9 l9 c9]) ∧ BigAt (n + 1) w3 (.agg #[.bool b9, .slice a9 l9 c9]) (x - y) := by
      have hu : vs[3]? = some (vs[3]'(by rw [hl]; decide)) := List.getElem?_eq_getElem _
      have h7 : BigAt (n + 1) w3 _ (x - y) := hg 3 _ hu
      obtain ⟨b, a, l, c, e⟩ := h7.form
      exact ⟨b, a, l, c, by rw [hu, e], by rw [e] at h7; exact h7⟩
    have HE3 := Lib.hid (HE.out.trans hst)
    have hr3 := VRow.ext HRes.out hst
    have HBig := Lib.hid hBig
    clear hg hst hBig
    obtain ⟨x0, vs0, rfl, hl0⟩ := len_succ hl
    obtain ⟨x1, vs1, rfl, hl1⟩ := len_succ hl0
    obtain ⟨x2, vs2, rfl, hl2⟩ := len_succ hl1
    obtain ⟨x3, vs3, rfl, hl3⟩ := len_succ hl2
    have hnil : vs3 = [] := List.length_eq_zero_iff.1 hl3
    subst hnil
    simp only [List.getElem?_cons_succ, List.getElem?_cons_zero, Option.some.injEq] at e7
    subst e7
    simp only [putAll, Act.put, List.dropLast, List.setIfInBounds_toArray, List.set_cons_zero, List.set_cons_succ]
    have m0 := VRow.cell hr3 (k := 0) rfl
    have m1 := VRow.cell hr3 (k := 1) rfl
    have f0 := VRow.frozen hr3 0 none
    have f1 := VRow.frozen hr3 1 none
    have HR3 := Lib.hid hr3
    clear hr3
    go_wp2_with fail
    obtain ⟨g1, g2⟩ := big_put HBig.out HR3.out (by simp)
    have c0 := VRow.cell g2 (k := 0) rfl
    have c1 := VRow.cell g2 (k := 1) rfl
    exact bodyPost_ret (v := .agg #[.bool b9, .slice a9 l9 c9]) (by simp [results, Try.results52, go_sem, c0, c1]) rfl ⟨_, rfl, g1, Below.setCell (p := ⟨s + 1 + 1, 1, none⟩) (Below.setCell (p := ⟨s + 1 + 1, 0, none⟩) HE3.out (show w.heap.size ≤ s + 1 + 1 by omega) _) (show w.heap.size ≤ s + 1 + 1 by omega) _⟩
set_option maxRecDepth 100000 in
set_option maxHeartbeats 2000000 in
theorem times_c (n : Nat) (u v : Value) (x y : Int) (w : World) (hx : BigAt n w u x) (hy : BigAt n w v y) (hn : n ≤ 10000) :
    Calls Try.prog 51 #[u, v] w fun e w' => ∃ z, e = .returned z ∧ BigAt (n + n) w' z (x * y) ∧ Ext w w' := by
  obtain ⟨na, dv, da, rfl, hia, hda, hta, hna, hla, hxe⟩ := hx
  obtain ⟨nb, ev, db, rfl, hib, hdb, htb, hnb, hlb, hye⟩ := hy
  obtain ⟨aa, ca, rfl, _, _, _⟩ := hia.at
  obtain ⟨ab, cb, rfl, _, _, _⟩ := hib.at
  have sz1 : (w.alloc (.cells #[.bool na, .slice aa da.length ca] 89)).heap.size = w.heap.size + 1 := by simp
  have sz2 : ((w.alloc (.cells #[.bool na, .slice aa da.length ca] 89)).alloc (.cells #[.bool nb, .slice ab db.length cb] 89)).heap.size = w.heap.size + 1 + 1 := by simp
  have r0 := ((vrow_alloc w [.bool na, .slice aa da.length ca] 89).alloc (.cells #[.bool nb, .slice ab db.length cb] 89)).alloc (.cells #[.bool false, .slice none 0 0] 89)
  have r1 := (vrow_alloc (w.alloc (.cells #[.bool na, .slice aa da.length ca] 89)) [.bool nb, .slice ab db.length cb] 89).alloc (.cells #[.bool false, .slice none 0 0] 89)
  have r2 := vrow_alloc ((w.alloc (.cells #[.bool na, .slice aa da.length ca] 89)).alloc (.cells #[.bool nb, .slice ab db.length cb] 89)) [.bool false, .slice none 0 0] 89
  rw [sz1] at r1
  rw [sz2] at r2
  have hE := Ext.alloc (Ext.alloc (Ext.alloc (Ext.refl w) (.cells #[.bool na, .slice aa da.length ca] 89)) (.cells #[.bool nb, .slice ab db.length cb] 89)) (.cells #[.bool false, .slice none 0 0] 89)
  have HR0 := Lib.hid r0
  have HR1 := Lib.hid r1
  have HRes := Lib.hid r2
  have HIA := Lib.hid (hia.ext hE)
  have HIB := Lib.hid (hib.ext hE)
  have HE := Lib.hid hE
  have HDA := Lib.hid hda
  have HDB := Lib.hid hdb
  have HTA := Lib.hid hta
  have HTB := Lib.hid htb
  change Hid (VRow (((w.alloc (.cells #[.bool na, .slice aa da.length ca] 89)).alloc (.cells #[.bool nb, .slice ab db.length cb] 89)).alloc (.cells #[.bool false, .slice none 0 0] 89)) _ _ _) at HR0
  change Hid (VRow (((w.alloc (.cells #[.bool na, .slice aa da.length ca] 89)).alloc (.cells #[.bool nb, .slice ab db.length cb] 89)).alloc (.cells #[.bool false, .slice none 0 0] 89)) _ _ _) at HR1
  change Hid (VRow (((w.alloc (.cells #[.bool na, .slice aa da.length ca] 89)).alloc (.cells #[.bool nb, .slice ab db.length cb] 89)).alloc (.cells #[.bool false, .slice none 0 0] 89)) _ _ _) at HRes
  have HXE := Lib.hid hxe
  have HYE := Lib.hid hye
  have HZ : ∀ t, t = valD da * valD db → sgZ (na != nb) t = x * y := fun t ht => by rw [ht, sg_mul, HXE.out, HYE.out]
  have HZ := Lib.hid HZ
  clear r0 r1 r2 hE hia hib hda hdb hta htb hna hnb hxe hye sz1 sz2
  go_enter Try.func51, Try.ntmps51
  go_wp2_with fail
  generalize ((w.alloc (.cells #[.bool na, .slice aa da.length ca] 89)).alloc (.cells #[.bool nb, .slice ab db.length cb] 89)).alloc (.cells #[.bool false, .slice none 0 0] 89) = w1 at *
  have hsw : w.heap.size ≤ w.heap.size := Nat.le_refl _
  generalize hs : w.heap.size = s at *
  refine wp_region_stable_last [⟨[], none⟩, ⟨[(0, 5)], none⟩, ⟨[], none⟩, ⟨[(2, 7)], none⟩, ⟨[(1, 6), (3, 8)], none⟩, ⟨[], none⟩, ⟨[(5, 10)], none⟩, ⟨[], none⟩, ⟨[(7, 12)], none⟩, ⟨[(6, 11), (8, 13)], none⟩, ⟨[(4, 9), (9, 14)], none⟩] (fun x y => Below x.heap.size x y) (MPat [MP.eq (.pointer (some ⟨s, 0, none⟩)), MP.eq (.bool na), MP.eq (.pointer (some ⟨s + 1, 0, none⟩)), MP.eq (.bool nb), MP.eq (.bool (na != nb)), MP.eq (.pointer (some ⟨s, 1, none⟩)), MP.eq (.slice aa da.length ca), MP.eq (.pointer (some ⟨s + 1, 1, none⟩)), MP.eq (.slice ab db.length cb), MP.dig (valD da * valD db) (n + n), MP.big (n + n) (x * y)]) rfl (by kernel_rfl) (fun _ _ _ h k => Ext.trans h k) (fun _ => Below.refl _ _) (fun x => (Below.refl x.heap.size x).drew) (MPat.mono _) (by kernel_rfl) (by kernel_rfl) (by kernel_rfl) ?obs ?rest
  case obs =>
    refine ⟨?_, ?_, ?_, ?_, ?_, ?_, ?_, ?_, ?_, ?_, ?_, trivial⟩
    · intro ev W hf _ _ hst hd
      have e2 : ev (.tmp 2) = .pointer (some ⟨s, 0, none⟩) := hf 2 (by kernel_rfl)
      refine st_value (v := .pointer (some ⟨s, 0, none⟩)) ?_ (Below.refl _ _) ?_
      · simp [execOp, go_sem, e2]
      · exact rfl
    · intro ev W hf _ _ hst hd
      obtain ⟨d5, _⟩ := hd
      have e5 : ev (.tmp 5) = .pointer (some ⟨s, 0, none⟩) := d5
      have kk := VRow.ext HR0.out hst
      have k0 := VRow.cell kk (k := 0) rfl
      refine st_value (v := .bool na) ?_ (Below.refl _ _) ?_
      · simp [execOp, go_sem, e5, k0]
      · exact rfl
    · intro ev W hf _ _ hst hd
      have e3 : ev (.tmp 3) = .pointer (some ⟨s + 1, 0, none⟩) := hf 3 (by kernel_rfl)
      refine st_value (v := .pointer (some ⟨s + 1, 0, none⟩)) ?_ (Below.refl _ _) ?_
      · simp [execOp, go_sem, e3]
      · exact rfl
    · intro ev W hf _ _ hst hd
      obtain ⟨d7, _⟩ := hd
      have e7 : ev (.tmp 7) = .pointer (some ⟨s + 1, 0, none⟩) := d7
      have kk := VRow.ext HR1.out hst
      have k0 := VRow.cell kk (k := 0) rfl
      refine st_value (v := .bool nb) ?_ (Below.refl _ _) ?_
      · simp [execOp, go_sem, e7, k0]
      · exact rfl
    · intro ev W hf _ _ hst hd
      obtain ⟨d6, d8, _⟩ := hd
      have e6 : ev (.tmp 6) = .bool na := d6
      have e8 : ev (.tmp 8) = .bool nb := d8
      refine st_value (v := .bool (na != nb)) ?_ (Below.refl _ _) ?_
      · simp [execOp, go_sem, e6, e8]; cases na <;> cases nb <;> rfl
      · exact rfl
    · intro ev W hf _ _ hst hd
      have e2 : ev (.tmp 2) = .pointer (some ⟨s, 0, none⟩) := hf 2 (by kernel_rfl)
      refine st_value (v := .pointer (some ⟨s, 1, none⟩)) ?_ (Below.refl _ _) ?_
      · simp [execOp, go_sem, e2]
      · exact rfl
    · intro ev W hf _ _ hst hd
      obtain ⟨d10, _⟩ := hd
      have e10 : ev (.tmp 10) = .pointer (some ⟨s, 1, none⟩) := d10
      have kk := VRow.ext HR0.out hst
      have k1 := VRow.cell kk (k := 1) rfl
      refine st_value (v := .slice aa da.length ca) ?_ (Below.refl _ _) ?_
      · simp [execOp, go_sem, e10, k1]
      · exact rfl
    · intro ev W hf _ _ hst hd
      have e3 : ev (.tmp 3) = .pointer (some ⟨s + 1, 0, none⟩) := hf 3 (by kernel_rfl)
      refine st_value (v := .pointer (some ⟨s + 1, 1, none⟩)) ?_ (Below.refl _ _) ?_
      · simp [execOp, go_sem, e3]
      · exact rfl
    · intro ev W hf _ _ hst hd
      obtain ⟨d12, _⟩ := hd
      have e12 : ev (.tmp 12) = .pointer (some ⟨s + 1, 1, none⟩) := d12
      have kk := VRow.ext HR1.out hst
      have k1 := VRow.cell kk (k := 1) rfl
      refine st_value (v := .slice ab db.length cb) ?_ (Below.refl _ _) ?_
      · simp [execOp, go_sem, e12, k1]
      · exact rfl
    · intro ev W hf _ hfn hst hd
      obtain ⟨d11, d13, _⟩ := hd
      have e11 : ev (.tmp 11) = .slice aa da.length ca := d11
      have e13 : ev (.tmp 13) = .slice ab db.length cb := d13
      refine st_enter (f := 65) (args := #[.slice aa da.length ca, .slice ab db.length cb]) (by simp [execOp, go_sem, hfn, e11, e13]) ?_
      refine (mulD_c _ _ da db W (HIA.out.ext hst) (HIB.out.ext hst) HDA.out HDB.out (by omega)).mono ?_
      rintro e w' ⟨z, ds, rfl, h1, h2, h2t, h3, h4, h5⟩
      exact ⟨z, rfl, h5, ds, h1, h2, h3, by omega⟩
    · intro ev W hf _ hfn hst hd
      obtain ⟨d9, d14, _⟩ := hd
      have e9 : ev (.tmp 9) = .bool (na != nb) := d9
      obtain ⟨ds, i1, i2, i3, i4⟩ := d14
      obtain ⟨aI, cI, eI, _, _, _⟩ := i1.at
      have e14 : ev (.tmp 14) = .slice aI ds.length cI := eI
      refine st_enter (f := 64) (args := #[.bool (na != nb), .slice aI ds.length cI]) (by simp [execOp, go_sem, hfn, e9, e14]) ?_
      have i5 : Ints W (.slice aI ds.length cI) ds := eI ▸ i1
      refine (whole_c (na != nb) _ ds (n + n) W i5 i2 i4 (by omega)).mono ?_
      rintro e w' ⟨u, rfl, hB, hE⟩
      exact ⟨_, rfl, hE, by rw [HZ.out _ i3] at hB; exact hB⟩
  case rest =>
    intro vs w3 hl hst hg
    obtain ⟨b9, a9, l9, c9, e7, hBig⟩ : ∃ b9 a9 l9 c9, vs[10]? = some (.agg #[.bool b9, .slice a9 l9 c9]) ∧ BigAt (n + n) w3 (.agg #[.bool b9, .slice a9 l9 c9]) (x * y) := by
      have hu : vs[10]? = some (vs[10]'(by rw [hl]; decide)) := List.getElem?_eq_getElem _
      have h7 : BigAt (n + n) w3 _ (x * y) := hg 10 _ hu
      obtain ⟨b, a, l, c, e⟩ := h7.form
      exact ⟨b, a, l, c, by rw [hu, e], by rw [e] at h7; exact h7⟩
    have HE3 := Lib.hid (HE.out.trans hst)
    have hr3 := VRow.ext HRes.out hst
    have HBig := Lib.hid hBig
    clear hg hst hBig
    obtain ⟨x0, vs0, rfl, hl0⟩ := len_succ hl
    obtain ⟨x1, vs1, rfl, hl1⟩ := len_succ hl0
    obtain ⟨x2, vs2, rfl, hl2⟩ := len_succ hl1
    obtain ⟨x3, vs3, rfl, hl3⟩ := len_succ hl2
    obtain ⟨x4, vs4, rfl, hl4⟩ := len_succ hl3
    obtain ⟨x5, vs5, rfl, hl5⟩ := len_succ hl4
    obtain ⟨x6, vs6, rfl, hl6⟩ := len_succ hl5
    obtain ⟨x7, vs7, rfl, hl7⟩ := len_succ hl6
    obtain ⟨x8, vs8, rfl, hl8⟩ := len_succ hl7
    obtain ⟨x9, vs9, rfl, hl9⟩ := len_succ hl8
    obtain ⟨x10, vs10, rfl, hl10⟩ := len_succ hl9
    have hnil : vs10 = [] := List.length_eq_zero_iff.1 hl10
    subst hnil
    simp only [List.getElem?_cons_succ, List.getElem?_cons_zero, Option.some.injEq] at e7
    subst e7
    simp only [putAll, Act.put, List.dropLast, List.setIfInBounds_toArray, List.set_cons_zero, List.set_cons_succ]
    have m0 := VRow.cell hr3 (k := 0) rfl
    have m1 := VRow.cell hr3 (k := 1) rfl
    have f0 := VRow.frozen hr3 0 none
    have f1 := VRow.frozen hr3 1 none
    have HR3 := Lib.hid hr3
    clear hr3
    go_wp2_with fail
    obtain ⟨g1, g2⟩ := big_put HBig.out HR3.out (by simp)
    have c0 := VRow.cell g2 (k := 0) rfl
    have c1 := VRow.cell g2 (k := 1) rfl
    exact bodyPost_ret (v := .agg #[.bool b9, .slice a9 l9 c9]) (by simp [results, Try.results51, go_sem, c0, c1]) rfl ⟨_, rfl, g1, Below.setCell (p := ⟨s + 1 + 1, 1, none⟩) (Below.setCell (p := ⟨s + 1 + 1, 0, none⟩) HE3.out (show w.heap.size ≤ s + 1 + 1 by omega) _) (show w.heap.size ≤ s + 1 + 1 by omega) _⟩
theorem cmpZ_neg (x y : Int) : cmpZ (-x) (-y) = -cmpZ x y := by
  unfold cmpZ
  by_cases h1 : x < y
  · rw [if_neg (show ¬ -x < -y by omega), if_pos (show -y < -x by omega), if_pos h1]; rfl
  · by_cases h2 : y < x
    · rw [if_pos (show -x < -y by omega), if_neg h1, if_pos h2]
    · rw [if_neg (show ¬ -x < -y by omega), if_neg (show ¬ -y < -x by omega), if_neg h1, if_neg h2]; rfl
theorem cmpZ_bd (x y : Int) : -1 ≤ cmpZ x y ∧ cmpZ x y ≤ 1 := by
  unfold cmpZ
  split
  · omega
  · split <;> omega
theorem valD_pos {ds : List Int} (hd : digB ds) (ht : trimD ds = ds) (h0 : ds ≠ []) : 0 < valD ds := by
  have h1 := valD_ge hd ht h0
  have h2 := pow_pos' (ds.length - 1)
  omega
set_option maxRecDepth 100000 in
set_option maxHeartbeats 2000000 in
theorem compare_c (n : Nat) (u v : Value) (x y : Int) (w : World) (hx : BigAt n w u x) (hy : BigAt n w v y) (hn : n ≤ 10000) :
    Calls Try.prog 54 #[u, v] w fun e w' => e = .returned (.int .i64 (cmpZ x y)) ∧ Ext w w' := by
  obtain ⟨na, dv, da, rfl, hia, hda, hta, hna, hla, hxe⟩ := hx
  obtain ⟨nb, ev, db, rfl, hib, hdb, htb, hnb, hlb, hye⟩ := hy
  obtain ⟨aa, ca, rfl, _, _, _⟩ := hia.at
  obtain ⟨ab, cb, rfl, _, _, _⟩ := hib.at
  have hE := Ext.alloc (Ext.alloc (Ext.refl w) (.cells #[.bool na, .slice aa da.length ca] 89)) (.cells #[.bool nb, .slice ab db.length cb] 89)
  have HIA := Lib.hid (hia.ext hE)
  have HIB := Lib.hid (hib.ext hE)
  have HE := Lib.hid hE
  have HDA := Lib.hid hda
  have HDB := Lib.hid hdb
  have HTA := Lib.hid hta
  have HTB := Lib.hid htb
  have sz1 : (w.alloc (.cells #[.bool na, .slice aa da.length ca] 89)).heap.size = w.heap.size + 1 := by simp
  have r0 := (vrow_alloc w [.bool na, .slice aa da.length ca] 89).alloc (.cells #[.bool nb, .slice ab db.length cb] 89)
  have r1 := vrow_alloc (w.alloc (.cells #[.bool na, .slice aa da.length ca] 89)) [.bool nb, .slice ab db.length cb] 89
  rw [sz1] at r1
  have q0 := VRow.cell r0 (k := 0) rfl
  have HR0 := Lib.hid r0
  change Hid (VRow ((w.alloc (.cells #[.bool na, .slice aa da.length ca] 89)).alloc (.cells #[.bool nb, .slice ab db.length cb] 89)) _ _ _) at HR0
  have HVA : RowKit.Hid (0 ≤ valD da ∧ (na = true → 0 < valD da)) := Lib.hid ⟨valD_nonneg hda, fun h => valD_pos hda hta (hna h)⟩
  have HVB : RowKit.Hid (0 ≤ valD db ∧ (nb = true → 0 < valD db)) := Lib.hid ⟨valD_nonneg hdb, fun h => valD_pos hdb htb (hnb h)⟩
  have HXE := Lib.hid hxe
  have HYE := Lib.hid hye
  clear r0 r1 q0 sz1 hE hia hib hda hdb hta htb hna hnb hxe hye
  cases na <;> cases nb
  · go_enter Try.func54, Try.ntmps54
    go_wp2_with fail
    generalize (w.alloc (.cells #[.bool false, .slice aa da.length ca] 89)).alloc (.cells #[.bool false, .slice ab db.length cb] 89) = w1 at *
    generalize hs : w.heap.size = s at *
    refine (cmpD_c _ _ da db _ HIA.out HIB.out HDA.out HDB.out HTA.out HTB.out (by omega)).mono ?_
    rintro e w2 ⟨rfl, n9, rfl⟩
    have kk := VRow.drewN HR0.out n9
    have k0 := VRow.cell kk (k := 0) rfl
    have HE2 := Lib.hid (ext_drewN HE.out n9)
    have HB := cmpZ_bd (valD da) (valD db)
    have HN := Lib.hid (cmpZ_neg (valD da) (valD db))
    have HXY : RowKit.Hid (cmpZ (valD da) (valD db) = cmpZ x y) := Lib.hid (by rw [HXE.out, HYE.out]; simp only [sgZ, Bool.false_eq_true, if_false])
    generalize cmpZ (valD da) (valD db) = c at *
    generalize w1.drewN n9 = w2 at *
    clear kk
    have hwn : IntKind.i64.wrap (-c) = -c := IntWalk.i64_in _ (by omega)
    go_wp2_with fail
    go_ret
    exact ⟨ret_int HXY.out, HE2.out⟩
  · go_enter Try.func54, Try.ntmps54
    go_wp2_with fail
    go_ret
    refine ⟨?_, HE.out⟩
    have h1 := HXE.out
    have h2 := HYE.out
    have h3 := HVA.out
    have h4 := HVB.out
    simp only [sgZ, if_true, Bool.false_eq_true, if_false] at h1 h2
    exact ret_int (by rw [cmpZ_gt (by have := h3.1; have := h4.1; have := h4.2 (by simp); omega)])
  · go_enter Try.func54, Try.ntmps54
    go_wp2_with fail
    go_ret
    refine ⟨?_, HE.out⟩
    have h1 := HXE.out
    have h2 := HYE.out
    have h3 := HVA.out
    have h4 := HVB.out
    simp only [sgZ, if_true, Bool.false_eq_true, if_false] at h1 h2
    exact ret_int (by rw [cmpZ_lt (by have := h3.1; have := h4.1; have := h3.2 (by simp); omega)])
  · go_enter Try.func54, Try.ntmps54
    go_wp2_with fail
    generalize (w.alloc (.cells #[.bool true, .slice aa da.length ca] 89)).alloc (.cells #[.bool true, .slice ab db.length cb] 89) = w1 at *
    generalize hs : w.heap.size = s at *
    refine (cmpD_c _ _ da db _ HIA.out HIB.out HDA.out HDB.out HTA.out HTB.out (by omega)).mono ?_
    rintro e w2 ⟨rfl, n9, rfl⟩
    have kk := VRow.drewN HR0.out n9
    have k0 := VRow.cell kk (k := 0) rfl
    have HE2 := Lib.hid (ext_drewN HE.out n9)
    have HB := cmpZ_bd (valD da) (valD db)
    have HN := Lib.hid (cmpZ_neg (valD da) (valD db))
    have HXY : RowKit.Hid (-cmpZ (valD da) (valD db) = cmpZ x y) := Lib.hid (by rw [HXE.out, HYE.out]; simp only [sgZ, if_true, HN.out])
    generalize cmpZ (valD da) (valD db) = c at *
    generalize w1.drewN n9 = w2 at *
    clear kk
    have hwn : IntKind.i64.wrap (-c) = -c := IntWalk.i64_in _ (by omega)
    go_wp2_with fail
    go_ret
    exact ⟨ret_int HXY.out, HE2.out⟩
end Go.Proofs.Ytblaipkhmmaenaa
