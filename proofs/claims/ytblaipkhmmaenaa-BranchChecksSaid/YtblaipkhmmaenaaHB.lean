import Derived.Test.YtblaipkhmmaenaaC7
import Derived.Test.YtblaipkhmmaenaaE7
import Derived.Test.YtblaipkhmmaenaaB6
import Derived.Laws.AppendOwnNone
import Derived.Test.YtblaipkhmmaenaaHA
import Derived.Test.YtblaipkhmmaenaaM5
import Derived.Test.YtblaipkhmmaenaaD2
namespace Go.Proofs.Ytblaipkhmmaenaa
open Go.RowKit
def shortB (ns : List Nd) : Bool := decide (ns.length ≤ 300) && ns.all fun nd => decide (nd.y.length ≤ 20)
set_option maxHeartbeats 1000000 in
theorem short_c (v : Value) (ns : List Nd) (w : World) (h : NodesAt w v ns) : Calls Try.prog 16 #[v] w fun e w' => e = .returned (.bool (shortB ns)) ∧ w = w' := by
  obtain ⟨a, cap, rfl, hl, hc, hk⟩ := h
  have HK := Lib.hid hk
  clear hk
  go_enter Try.func16, Try.ntmps16
  go_wp2
  go_loop [3] (fun i => ∃ k : Nat, k ≤ ns.length ∧ k ≤ 300 ∧ i = .int .i64 k ∧ (ns.take k).all (fun nd => decide (nd.y.length ≤ 20)) = true) (fun i => ns.length - (intOf i).toNat)
  case atStart => exact ⟨0, Nat.zero_le _, Nat.zero_le _, rfl, rfl⟩
  case round =>
    obtain ⟨k, hk, hk3, rfl, hall⟩ := hrel
    by_cases hlt : k < ns.length
    · by_cases h300 : k < 300
      · obtain ⟨b, o, rfl, hk2⟩ := HK.out (by omega)
        obtain ⟨nd, hnd⟩ := getElem?_len hlt
        obtain ⟨_, _, c2, _, hy⟩ := hk2 k nd hnd
        obtain ⟨ay, cy, ey, hyc, hym, _⟩ := hy.at
        rw [ey] at c2
        have h3 : ¬ (300 : Int) ≤ (k : Int) := by omega
        have hi : (k : Int) < (ns.length : Int) := by omega
        have HN := Lib.hid hnd
        have HA := Lib.hid hall
        clear hk2 hnd hall hy ey
        by_cases h20 : nd.y.length ≤ 20
        · have h20' : ¬ (20 : Int) < (nd.y.length : Int) := by omega
          have H20 := Lib.hid h20
          go_wp2
          exact ⟨⟨k + 1, by omega, by omega, by go_num, all_take_succ HN.out HA.out (decide_eq_true H20.out)⟩, by simp [intOf]; omega⟩
        · have h20' : (20 : Int) < (nd.y.length : Int) := by omega
          have H20 := Lib.hid h20
          go_wp2
          go_ret
          refine ⟨ret_bool ?_, rfl⟩
          have := all_false (p := fun nd : Nd => decide (nd.y.length ≤ 20)) HN.out (decide_eq_false (by have := H20.out; omega))
          simp only [shortB, this, Bool.and_false]
      · have h3 : (300 : Int) ≤ (k : Int) := by omega
        have hi : (k : Int) < (ns.length : Int) := by omega
        clear hall
        go_wp2
        go_ret
        refine ⟨ret_bool ?_, rfl⟩
        have : ¬ ns.length ≤ 300 := by omega
        simp [shortB, this]
    · have hke : k = ns.length := by omega
      have HA := Lib.hid hall
      clear hall
      go_wp2
      go_ret
      refine ⟨ret_bool ?_, rfl⟩
      have h1 := all_done (by omega) HA.out
      have h2 : ns.length ≤ 300 := by omega
      simp only [shortB, h1, h2, decide_true, Bool.true_and]
theorem count_yes {p : Who} {co : Int} {k : Nat} (hs : satB p (vecAt p.U k) = true) (hd : dotZ p.C (vecAt p.U k) ≤ co) : countK p co (k + 1) = countK p co k + 1 := by
  simp only [countK]; rw [if_pos ⟨hs, hd⟩]
theorem count_no {p : Who} {co : Int} {k : Nat} (h : ¬ (satB p (vecAt p.U k) = true ∧ dotZ p.C (vecAt p.U k) ≤ co)) : countK p co (k + 1) = countK p co k := by
  simp only [countK]; rw [if_neg h]; rfl
end Go.Proofs.Ytblaipkhmmaenaa
namespace Go.Proofs.Ytblaipkhmmaenaa
open Go.RowKit
theorem round_up {n d : Int} (hd : 1 ≤ d) : n ≤ d * roundZ n d := by
  have e := Int.mul_tdiv_add_tmod n d
  have hlt := Int.tmod_lt_of_pos n (show 0 < d by omega)
  unfold roundZ
  split
  · rw [Int.mul_add, Int.mul_one]; omega
  · omega
theorem round_ge {n d c : Int} (hd : 1 ≤ d) : c ≤ roundZ n d ↔ (c - 1) * d < n := by
  constructor
  · intro h
    apply Int.lt_of_not_ge
    intro hle
    have := round_le (n := n) (d := d) (v := c - 1) hd (by rw [Int.mul_comm]; exact hle)
    omega
  · intro h
    apply Int.not_lt.1
    intro hlt
    have h1 : roundZ n d ≤ c - 1 := by omega
    have h2 := Int.mul_le_mul_of_nonneg_left h1 (show 0 ≤ d by omega)
    have h3 := round_up (n := n) hd
    rw [Int.mul_comm d (c - 1)] at h2
    omega
theorem boundK_congr {p : Who} {y : List Int} {d : Int} {lo hi lo' hi' costs : List Int} : ∀ k : Nat, (∀ j, j < k → lo.getD j 0 = lo'.getD j 0 ∧ hi.getD j 0 = hi'.getD j 0) → boundK p y d lo hi costs k = boundK p y d lo' hi' costs k
  | 0, _ => rfl
  | k + 1, h => by
    simp only [boundK, partZ]
    rw [boundK_congr k (fun j hj => h j (by omega)), (h k (by omega)).1, (h k (by omega)).2]
theorem sgood_eq {p : Who} {y : List Int} {d : Int} {lo hi lo' hi' : List Int} {f : Bool} {cost : Int} (h : ∀ j, j < p.C.length → lo.getD j 0 = lo'.getD j 0 ∧ hi.getD j 0 = hi'.getD j 0) :
    sgoodB p y d lo hi f cost = goodB p y d lo' hi' (goalsOf p f cost) := by
  unfold sgoodB goodB
  cases hl : leafB p.A.length y d with
  | false => simp
  | true =>
    have hd := (leafP hl).2.1
    have e1 : boundZ p y d lo hi (List.replicate p.C.length 0) = boundZ p y d lo' hi' (List.replicate p.C.length 0) := by
      unfold boundZ
      exact boundK_congr _ (fun j hj => h j (by simpa using hj))
    have e2 : boundZ p y d lo hi p.C = boundZ p y d lo' hi' p.C := by
      unfold boundZ
      exact boundK_congr _ h
    rw [e1, e2]
    have k1 : decide ((1 : Int) ≤ roundZ (boundZ p y d lo' hi' (List.replicate p.C.length 0)) d) = decide (0 < boundZ p y d lo' hi' (List.replicate p.C.length 0)) := by
      rw [decide_eq_decide, round_ge hd]
      simp
    have k2 : decide (cost ≤ roundZ (boundZ p y d lo' hi' p.C) d) = decide ((cost - 1) * d < boundZ p y d lo' hi' p.C) := by
      rw [decide_eq_decide, round_ge hd]
    cases f
    · simp [goalsOf, reachB, k1]
    · simp [goalsOf, reachB, k1, k2]
/-- what tree answers: the node behind the tree, or -1 -/
def treeZ (p : Who) (f : Bool) (cost : Int) (ns : List Nd) : Nat → Int → List Int → List Int → Int
  | 0, _, _, _ => -1
  | n + 1, at', lo, hi =>
    if at' < 0 then -1 else
    match ns[at'.toNat]? with
    | none => -1
    | some nd =>
      if nd.v < 0 then (if sgoodB p nd.y nd.d lo hi f cost = true then at' + 1 else -1)
      else if (lo.length : Int) ≤ nd.v then -1
      else if nd.at' < lo.getD nd.v.toNat 0 then -1
      else if hi.getD nd.v.toNat 0 ≤ nd.at' then -1
      else treeZ p f cost ns n (treeZ p f cost ns n (at' + 1) lo (hi.set nd.v.toNat nd.at')) (lo.set nd.v.toNat (nd.at' + 1)) hi
def spanZ : List Int → List Int → Int
  | l :: ls, h :: hs => (h - l) + spanZ ls hs
  | _, _ => 0
theorem span_hi : ∀ {lo hi : List Int} {j : Nat} {l h x : Int}, lo[j]? = some l → hi[j]? = some h → spanZ lo (hi.set j x) = spanZ lo hi - (h - x)
  | [], _, _, _, _, _, h1, _ => by simp at h1
  | _ :: _, [], _, _, _, _, _, h2 => by simp at h2
  | a :: aa, b :: bs, 0, l, h, x, h1, h2 => by
    simp only [List.getElem?_cons_zero, Option.some.injEq] at h2
    subst h2
    simp only [List.set_cons_zero, spanZ]; omega
  | a :: aa, b :: bs, j + 1, l, h, x, h1, h2 => by
    simp only [List.getElem?_cons_succ] at h1 h2
    simp only [List.set_cons_succ, spanZ, span_hi h1 h2]; omega
theorem span_lo : ∀ {lo hi : List Int} {j : Nat} {l h x : Int}, lo[j]? = some l → hi[j]? = some h → spanZ (lo.set j x) hi = spanZ lo hi - (x - l)
  | [], _, _, _, _, _, h1, _ => by simp at h1
  | _ :: _, [], _, _, _, _, _, h2 => by simp at h2
  | a :: aa, b :: bs, 0, l, h, x, h1, h2 => by
    simp only [List.getElem?_cons_zero, Option.some.injEq] at h1
    subst h1
    simp only [List.set_cons_zero, spanZ]; omega
  | a :: aa, b :: bs, j + 1, l, h, x, h1, h2 => by
    simp only [List.getElem?_cons_succ] at h1 h2
    simp only [List.set_cons_succ, spanZ, span_lo h1 h2]; omega
theorem span_nonneg : ∀ {lo hi : List Int}, (∀ (j : Nat) (l h : Int), lo[j]? = some l → hi[j]? = some h → l ≤ h) → 0 ≤ spanZ lo hi
  | [], _, _ => by simp [spanZ]
  | _ :: _, [], _ => by simp [spanZ]
  | a :: aa, b :: bs, h => by
    have h0 := h 0 a b rfl rfl
    have h1 := span_nonneg (lo := aa) (hi := bs) (fun j l x h1 h2 => h (j + 1) l x (by simpa using h1) (by simpa using h2))
    simp only [spanZ]; omega
theorem treeZ_bd (p : Who) (f : Bool) (cost : Int) (ns : List Nd) : ∀ (n : Nat) (at' : Int) (lo hi : List Int), -1 ≤ treeZ p f cost ns n at' lo hi ∧ treeZ p f cost ns n at' lo hi ≤ ns.length
  | 0, _, _, _ => by simp only [treeZ]; omega
  | n + 1, at', lo, hi => by
    simp only [treeZ]
    split
    · omega
    · split
      · omega
      · rename_i nd hnd
        have := lt_len hnd
        split
        · split <;> omega
        · split
          · omega
          · split
            · omega
            · split
              · omega
              · exact treeZ_bd p f cost ns n _ _ _
/-- a box that a tree may be read for -/
structure BoxP (n : Nat) (lo hi : List Int) : Prop where
  l1 : lo.length = n
  l2 : hi.length = n
  b1 : ∀ x ∈ lo, 0 ≤ x ∧ x ≤ 7
  b2 : ∀ x ∈ hi, 0 ≤ x ∧ x ≤ 7
  le : ∀ (j : Nat) (l h : Int), lo[j]? = some l → hi[j]? = some h → l ≤ h
theorem getElem?_set_cases {xs : List Int} {j k : Nat} {x y : Int} (h : (xs.set j x)[k]? = some y) : (j = k ∧ y = x) ∨ xs[k]? = some y := by
  by_cases e : j = k
  · subst e
    left
    have hlt := lt_len h
    simp only [List.length_set] at hlt
    rw [List.getElem?_set_self hlt] at h
    simp only [Option.some.injEq] at h
    exact ⟨rfl, h.symm⟩
  · right
    rwa [List.getElem?_set_ne e] at h
theorem BoxP.hi {n : Nat} {lo hi : List Int} {j : Nat} {l h x : Int} (hb : BoxP n lo hi) (hl : lo[j]? = some l) (hh : hi[j]? = some h) (h1 : l ≤ x) (h2 : x < h) : BoxP n lo (hi.set j x) ∧ spanZ lo (hi.set j x) < spanZ lo hi := by
  have l7 := hb.b1 l (List.mem_of_getElem? hl)
  have h7 := hb.b2 h (List.mem_of_getElem? hh)
  refine ⟨⟨hb.l1, by simpa using hb.l2, hb.b1, fun y hy => ?_, fun k a b ha hb' => ?_⟩, by rw [span_hi hl hh]; omega⟩
  · rcases List.mem_or_eq_of_mem_set hy with e | e
    · exact hb.b2 y e
    · omega
  · rcases getElem?_set_cases hb' with ⟨rfl, rfl⟩ | e
    · rw [hl] at ha
      simp only [Option.some.injEq] at ha
      omega
    · exact hb.le k a b ha e
theorem BoxP.lo {n : Nat} {lo hi : List Int} {j : Nat} {l h x : Int} (hb : BoxP n lo hi) (hl : lo[j]? = some l) (hh : hi[j]? = some h) (h1 : l ≤ x) (h2 : x < h) : BoxP n (lo.set j (x + 1)) hi ∧ spanZ (lo.set j (x + 1)) hi < spanZ lo hi := by
  have l7 := hb.b1 l (List.mem_of_getElem? hl)
  have h7 := hb.b2 h (List.mem_of_getElem? hh)
  refine ⟨⟨by simpa using hb.l1, hb.l2, fun y hy => ?_, hb.b2, fun k a b ha hb' => ?_⟩, by rw [span_lo hl hh]; omega⟩
  · rcases List.mem_or_eq_of_mem_set hy with e | e
    · exact hb.b1 y e
    · omega
  · rcases getElem?_set_cases ha with ⟨rfl, rfl⟩ | e
    · rw [hh] at hb'
      simp only [Option.some.injEq] at hb'
      omega
    · exact hb.le k a b e hb'
end Go.Proofs.Ytblaipkhmmaenaa

namespace Go.Proofs.Ytblaipkhmmaenaa
open Go.RowKit
theorem treeZ_neg {p : Who} {f : Bool} {cost : Int} {ns : List Nd} {n : Nat} {at' : Int} {lo hi : List Int} (h : at' < 0) : treeZ p f cost ns (n + 1) at' lo hi = -1 := by simp only [treeZ]; rw [if_pos h]
theorem treeZ_end {p : Who} {f : Bool} {cost : Int} {ns : List Nd} {n : Nat} {at' : Int} {lo hi : List Int} (h : (ns.length : Int) ≤ at') : treeZ p f cost ns (n + 1) at' lo hi = -1 := by
  simp only [treeZ]
  rw [if_neg (by omega), List.getElem?_eq_none (by omega)]
theorem treeZ_leaf {p : Who} {f : Bool} {cost : Int} {ns : List Nd} {n k : Nat} {lo hi : List Int} {nd : Nd} (h : ns[k]? = some nd) (hv : nd.v < 0) : treeZ p f cost ns (n + 1) k lo hi = if sgoodB p nd.y nd.d lo hi f cost = true then (k : Int) + 1 else -1 := by
  simp only [treeZ]
  rw [if_neg (by omega), Int.toNat_natCast, h]
  simp only
  rw [if_pos hv]
theorem treeZ_far {p : Who} {f : Bool} {cost : Int} {ns : List Nd} {n k : Nat} {lo hi : List Int} {nd : Nd} (h : ns[k]? = some nd) (hv : ¬ nd.v < 0) (h1 : (lo.length : Int) ≤ nd.v) : treeZ p f cost ns (n + 1) k lo hi = -1 := by
  simp only [treeZ]
  rw [if_neg (by omega), Int.toNat_natCast, h]
  simp only
  rw [if_neg hv, if_pos h1]
theorem treeZ_in {p : Who} {f : Bool} {cost : Int} {ns : List Nd} {n k j : Nat} {lo hi : List Int} {nd : Nd} {l x : Int} (h : ns[k]? = some nd) (hv : nd.v = (j : Int)) (hl : lo[j]? = some l) (hh : hi[j]? = some x) :
    treeZ p f cost ns (n + 1) k lo hi = if nd.at' < l then -1 else if x ≤ nd.at' then -1 else treeZ p f cost ns n (treeZ p f cost ns n ((k : Int) + 1) lo (hi.set j nd.at')) (lo.set j (nd.at' + 1)) hi := by
  have hlt := lt_len hl
  simp only [treeZ]
  rw [if_neg (by omega), Int.toNat_natCast, h]
  simp only
  rw [hv, if_neg (by omega), if_neg (by omega), Int.toNat_natCast]
  simp [List.getD, hl, hh]
set_option maxRecDepth 100000 in
set_option maxHeartbeats 8000000 in
theorem tree_c (a b c u : Value) (pv : Value) (p : Who) (f : Bool) (cost : Int) (ns : List Nd) (hw : whoB p = true) (hcost : in64 cost) (hns : ns.length ≤ 65535) : ∀ (n : Nat) (lv hv : Value) (lo hi : List Int) (at' : Int) (w : World),
    WhoAt w a b c u p → NodesAt w pv ns → Ints w lv lo → Ints w hv hi → BoxP p.C.length lo hi → spanZ lo hi < n → -1 ≤ at' → at' ≤ ns.length →
    Calls Try.prog 29 #[.agg #[a, b, c, u], pv, .int .i64 at', lv, hv, .bool f, .int .i64 cost] w fun e w' => e = .returned (.int .i64 (treeZ p f cost ns n at' lo hi)) ∧ Ext w w'
  | 0, lv, hv, lo, hi, at', w, h, hN, hL, hH, hB, hsp, h1, h2 => by
    have := span_nonneg hB.le
    omega
  | n + 1, lv, hv, lo, hi, at', w, h, hN, hL, hH, hB, hsp, h1, h2 => by
    have ih := tree_c a b c u pv p f cost ns hw hcost hns n
    have hE := Ext.alloc (Ext.refl w) (.cells #[a, b, c, u] 25)
    obtain ⟨al, cl, rfl, hlc, hlm, _⟩ := hL.at
    obtain ⟨ah, ch, rfl, hhc, hhm, _⟩ := hH.at
    have hN0 := hN
    obtain ⟨ap, cp, rfl, hpc, hpm, hpk⟩ := hN0
    by_cases hat : at' < 0
    · have HE := Lib.hid hE
      have HT := Lib.hid (treeZ_neg (p := p) (f := f) (cost := cost) (ns := ns) (n := n) (lo := lo) (hi := hi) hat)
      clear hE hL hH hN hpk ih hB
      go_enter Try.func29, Try.ntmps29
      go_wp2_with fail
      go_ret
      exact ⟨ret_int HT.out.symm, HE.out⟩
    · by_cases hat2 : (ns.length : Int) ≤ at'
      · have HE := Lib.hid hE
        have HT := Lib.hid (treeZ_end (p := p) (f := f) (cost := cost) (ns := ns) (n := n) (lo := lo) (hi := hi) hat2)
        clear hE hL hH hN hpk ih hB
        go_enter Try.func29, Try.ntmps29
        go_wp2_with fail
        go_ret
        exact ⟨ret_int HT.out.symm, HE.out⟩
      · obtain ⟨k, rfl⟩ : ∃ k : Nat, at' = (k : Int) := ⟨at'.toNat, by omega⟩
        obtain ⟨bp, op, rfl, hpk2⟩ := hpk (by omega)
        obtain ⟨nd, hnd⟩ : ∃ nd, ns[k]? = some nd := ⟨ns[k], by simp⟩
        obtain ⟨h0', h1', h2', h3', h5'⟩ := hpk2 k nd hnd
        obtain ⟨nv, na, yv, y, d⟩ := nd
        dsimp only at h0' h1' h2' h3' h5'
        obtain ⟨ay, cy, rfl, hyc, hym, _⟩ := h5'.at
        have q0 := Ext.cell hE h0'
        have q1 := Ext.cell hE h1'
        have q2 := Ext.cell hE h2'
        have q3 := Ext.cell hE h3'
        have hs1 : (w.alloc (.cells #[a, b, c, u] 25)).heap.size = w.heap.size + 1 := by simp
        have hE2 := Ext.alloc hE (.cells #[.int .i64 nv, .int .i64 na, .slice ay y.length cy, .int .i64 d] 40)
        have hm0 := VRow.alloc (vrow_alloc w [a, b, c, u] 25) (.cells #[.int .i64 nv, .int .i64 na, .slice ay y.length cy, .int .i64 d] 40)
        have hn0 := vrow_alloc (w.alloc (.cells #[a, b, c, u] 25)) [.int .i64 nv, .int .i64 na, .slice ay y.length cy, .int .i64 d] 40
        rw [hs1] at hn0
        have HM := Lib.hid hm0
        have HN := Lib.hid hn0
        change Hid (VRow ((w.alloc (.cells #[a, b, c, u] 25)).alloc (.cells #[.int .i64 nv, .int .i64 na, .slice ay y.length cy, .int .i64 d] 40)) _ _ _) at HM
        change Hid (VRow ((w.alloc (.cells #[a, b, c, u] 25)).alloc (.cells #[.int .i64 nv, .int .i64 na, .slice ay y.length cy, .int .i64 d] 40)) _ _ _) at HN
        have HW := Lib.hid (h.ext hE2)
        have HY := Lib.hid (h5'.ext hE2)
        have HNd := Lib.hid (hN.ext hE2)
        have HLo := Lib.hid (hL.ext hE2)
        have HHi := Lib.hid (hH.ext hE2)
        have HE := Lib.hid hE2
        have HB := Lib.hid hB
        have HSP := Lib.hid hsp
        have HND := Lib.hid hnd
        have HIH := Lib.hid ih
        have hki : (k : Int) < (ns.length : Int) := by omega
        clear h hN hL hH hB hsp hnd ih hE hE2 hm0 hn0 hs1 h0' h1' h2' h3' h5' hpk hpk2
        by_cases hv0 : nv < 0
        · go_enter Try.func29, Try.ntmps29
          go_wp2_with fail
          generalize (w.alloc (.cells #[a, b, c, u] 25)).alloc (.cells #[.int .i64 nv, .int .i64 na, .slice ay y.length cy, .int .i64 d] 40) = w1 at *
          refine (sgood_c a b c u _ _ _ nv na d p y lo hi f cost w1 HW.out hw HY.out HLo.out HHi.out HB.out.l1 HB.out.l2 HB.out.b1 HB.out.b2 hcost).mono ?_
          rintro e w2 ⟨rfl, hE2⟩
          have HE2 := Lib.hid (HE.out.trans hE2)
          have HT := Lib.hid (treeZ_leaf (p := p) (f := f) (cost := cost) (n := n) (lo := lo) (hi := hi) HND.out hv0)
          clear hE2
          dsimp only at HT
          have hwk : IntKind.i64.wrap ((k : Int) + 1) = (k : Int) + 1 := IntWalk.i64_in _ (by omega)
          cases hg : sgoodB p y d lo hi f cost with
          | false =>
            rw [hg] at HT
            clear hg
            go_wp2_with fail
            go_ret
            exact ⟨ret_int (by rw [HT.out]; rfl), HE2.out⟩
          | true =>
            rw [hg] at HT
            clear hg
            go_wp2_with fail
            go_ret
            exact ⟨ret_int (by rw [HT.out]; rfl), HE2.out⟩
        · by_cases hfar : (lo.length : Int) ≤ nv
          · have HT := Lib.hid (treeZ_far (p := p) (f := f) (cost := cost) (n := n) (lo := lo) (hi := hi) HND.out hv0 hfar)
            go_enter Try.func29, Try.ntmps29
            go_wp2
            have m0 := VRow.cell HN.out (k := 0) rfl
            generalize (w.alloc (.cells #[a, b, c, u] 25)).alloc (.cells #[.int .i64 nv, .int .i64 na, .slice ay y.length cy, .int .i64 d] 40) = w1 at *
            go_quiet (fail)
            go_wp2
            go_ret
            exact ⟨ret_int HT.out.symm, ext_drewN HE.out _⟩
          · obtain ⟨j, rfl⟩ : ∃ j : Nat, nv = (j : Int) := ⟨nv.toNat, by omega⟩
            obtain ⟨l, hl⟩ := getElem?_len (show j < lo.length by omega)
            obtain ⟨x, hx⟩ := getElem?_len (show j < hi.length by rw [HB.out.l2, ← HB.out.l1]; omega)
            have HT := Lib.hid (treeZ_in (p := p) (f := f) (cost := cost) (n := n) HND.out rfl hl hx)
            obtain ⟨_, _, e5, _, _, hr5⟩ := HLo.out.at
            simp only [Value.slice.injEq] at e5
            obtain ⟨rfl, _, rfl⟩ := e5
            obtain ⟨b7, o7, rfl, hc7⟩ := hr5 j l hl
            obtain ⟨_, _, e6, _, _, hr6⟩ := HHi.out.at
            simp only [Value.slice.injEq] at e6
            obtain ⟨rfl, _, rfl⟩ := e6
            obtain ⟨b8, o8, rfl, hc8⟩ := hr6 j x hx
            have hi8 : (j : Int) < (lo.length : Int) := by omega
            have hi9 : (j : Int) < (hi.length : Int) := by rw [HB.out.l2, ← HB.out.l1]; omega
            have hjl : ¬ lo.length ≤ j := by omega
            have hjh : j < hi.length := by omega
            have m0 := VRow.cell HN.out (k := 0) rfl
            have m1 := VRow.cell HN.out (k := 1) rfl
            have HL9 := Lib.hid hl
            have HX9 := Lib.hid hx
            clear hr5 hr6 hl hx
            dsimp only at HT
            by_cases hA : na < l
            · rw [if_pos hA] at HT
              go_enter Try.func29, Try.ntmps29
              go_wp2
              generalize (w.alloc (.cells #[a, b, c, u] 25)).alloc (.cells #[.int .i64 (j : Int), .int .i64 na, .slice ay y.length cy, .int .i64 d] 40) = w1 at *
              go_quiet (fail)
              go_wp2
              go_ret
              exact ⟨ret_int HT.out.symm, ext_drewN HE.out _⟩
            · rw [if_neg hA] at HT
              by_cases hB9 : x ≤ na
              · rw [if_pos hB9] at HT
                go_enter Try.func29, Try.ntmps29
                go_wp2
                generalize (w.alloc (.cells #[a, b, c, u] 25)).alloc (.cells #[.int .i64 (j : Int), .int .i64 na, .slice ay y.length cy, .int .i64 d] 40) = w1 at *
                go_quiet (fail)
                go_wp2
                go_ret
                exact ⟨ret_int HT.out.symm, ext_drewN HE.out _⟩
              · rw [if_neg hB9] at HT
                go_enter Try.func29, Try.ntmps29
                go_wp2
                generalize (w.alloc (.cells #[a, b, c, u] 25)).alloc (.cells #[.int .i64 (j : Int), .int .i64 na, .slice ay y.length cy, .int .i64 d] 40) = w1 at *
                go_quiet (fail)
                have HB1 := Lib.hid (HB.out.hi HL9.out HX9.out (show l ≤ na by omega) (show na < x by omega))
                have HB2 := Lib.hid (HB.out.lo HL9.out HX9.out (show l ≤ na by omega) (show na < x by omega))
                obtain ⟨T1, hT1⟩ : ∃ T1, T1 = treeZ p f cost ns n ((k : Int) + 1) lo (hi.set j na) := ⟨_, rfl⟩
                obtain ⟨T2, hT2⟩ : ∃ T2, T2 = treeZ p f cost ns n T1 (lo.set j (na + 1)) hi := ⟨_, rfl⟩
                have HT1 := Lib.hid hT1
                have HT2 := Lib.hid hT2
                have HBD : RowKit.Hid (-1 ≤ T1 ∧ T1 ≤ ns.length) := Lib.hid (by rw [hT1]; exact treeZ_bd p f cost ns n _ _ _)
                have hl7 := HB.out.b1 l (List.mem_of_getElem? HL9.out)
                have hx7 := HB.out.b2 x (List.mem_of_getElem? HX9.out)
                have hh7 : lo.length ≤ 7 := by rw [HB.out.l1]; have := (whoP hw).1; omega
                have hh8 : hi.length ≤ 7 := by rw [HB.out.l2]; have := (whoP hw).1; omega
                have hwk : IntKind.i64.wrap ((k : Int) + 1) = (k : Int) + 1 := IntWalk.i64_in _ (by omega)
                have hwn : IntKind.i64.wrap (na + 1) = na + 1 := IntWalk.i64_in _ (by omega)
                clear hT1 hT2
                go_wp2_with fail
                refine wp_region_stable [⟨[], none⟩, ⟨[], none⟩, ⟨[], none⟩, ⟨[(2, 68)], none⟩, ⟨[], none⟩, ⟨[], none⟩, ⟨[], none⟩, ⟨[(6, 72)], none⟩, ⟨[], none⟩, ⟨[(8, 74)], none⟩, ⟨[(5, 71), (7, 73), (9, 75)], none⟩, ⟨[], none⟩, ⟨[], none⟩, ⟨[(0, 66), (1, 67), (3, 69), (4, 70), (10, 76), (11, 77), (12, 78)], none⟩, ⟨[(13, 79)], none⟩] (fun x y => Below x.heap.size x y) (MPat [MP.eq (.agg #[a, b, c, u]), MP.eq (.slice (some ⟨bp, op, none⟩) ns.length cp), MP.eq (.int .i64 k), MP.eq (.int .i64 ((k : Int) + 1)), MP.eq (.slice (some ⟨b7, o7, none⟩) lo.length cl), MP.eq (.slice (some ⟨b8, o8, none⟩) hi.length ch), MP.eq (.pointer (some ⟨w.heap.size + 1, 0, none⟩)), MP.eq (.int .i64 j), MP.eq (.pointer (some ⟨w.heap.size + 1, 1, none⟩)), MP.eq (.int .i64 na), MP.intsR (hi.set j na), MP.eq (.bool f), MP.eq (.int .i64 cost), MP.eq (.int .i64 T1), MP.eq (.int .i64 T1)]) (by kernel_rfl) (fun _ _ _ h k => Ext.trans h k) (fun _ => Below.refl _ _) (fun x => (Below.refl x.heap.size x).drew) (MPat.mono _) (by kernel_rfl) ?obs ?rest
                case obs =>
                  refine ⟨?_, ?_, ?_, ?_, ?_, ?_, ?_, ?_, ?_, ?_, ?_, ?_, ?_, ?_, ?_, trivial⟩
                  · intro ev W hf _ _ hst hd
                    have e7 : ev (.tmp 7) = .pointer (some ⟨w.heap.size, 0, none⟩) := hf 7 (by kernel_rfl)
                    have kk := VRow.ext HM.out (Ext.trans (ext_drewN (Ext.refl w1) _) hst)
                    have k0 := VRow.cell kk (k := 0) rfl
                    have k1 := VRow.cell kk (k := 1) rfl
                    have k2 := VRow.cell kk (k := 2) rfl
                    have k3 := VRow.cell kk (k := 3) rfl
                    refine st_value (v := .agg #[a, b, c, u]) ?_ (Below.refl _ _) ?_
                    · simp [execOp, go_sem, e7, k0, k1, k2, k3]
                    · exact rfl
                  · intro ev W hf _ _ hst hd
                    have e1 : ev (.tmp 1) = .slice (some ⟨bp, op, none⟩) ns.length cp := hf 1 (by kernel_rfl)
                    refine st_value (v := .slice (some ⟨bp, op, none⟩) ns.length cp) ?_ (Below.refl _ _) ?_
                    · simp [execOp, go_sem, e1]
                    · exact rfl
                  · intro ev W hf _ _ hst hd
                    have e2 : ev (.tmp 2) = .int .i64 k := hf 2 (by kernel_rfl)
                    refine st_value (v := .int .i64 k) ?_ (Below.refl _ _) ?_
                    · simp [execOp, go_sem, e2]
                    · exact rfl
                  · intro ev W hf hcst _ hst hd
                    obtain ⟨d68, _⟩ := hd
                    have e68 : ev (.tmp 68) = .int .i64 k := d68
                    refine st_value (v := .int .i64 ((k : Int) + 1)) ?_ (Below.refl _ _) ?_
                    · simp [execOp, go_sem, e68, hcst, hwk]
                    · exact rfl
                  · intro ev W hf _ _ hst hd
                    have e3 : ev (.tmp 3) = .slice (some ⟨b7, o7, none⟩) lo.length cl := hf 3 (by kernel_rfl)
                    refine st_value (v := .slice (some ⟨b7, o7, none⟩) lo.length cl) ?_ (Below.refl _ _) ?_
                    · simp [execOp, go_sem, e3]
                    · exact rfl
                  · intro ev W hf _ _ hst hd
                    have e4 : ev (.tmp 4) = .slice (some ⟨b8, o8, none⟩) hi.length ch := hf 4 (by kernel_rfl)
                    refine st_value (v := .slice (some ⟨b8, o8, none⟩) hi.length ch) ?_ (Below.refl _ _) ?_
                    · simp [execOp, go_sem, e4]
                    · exact rfl
                  · intro ev W hf _ _ hst hd
                    have e15 : ev (.tmp 15) = .pointer (some ⟨w.heap.size + 1, 0, none⟩) := hf 15 (by kernel_rfl)
                    refine st_value (v := .pointer (some ⟨w.heap.size + 1, 0, none⟩)) ?_ (Below.refl _ _) ?_
                    · simp [execOp, go_sem, e15]
                    · exact rfl
                  · intro ev W hf _ _ hst hd
                    obtain ⟨d72, _⟩ := hd
                    have e72 : ev (.tmp 72) = .pointer (some ⟨w.heap.size + 1, 0, none⟩) := d72
                    have kk := VRow.ext HN.out (Ext.trans (ext_drewN (Ext.refl w1) _) hst)
                    have k0 := VRow.cell kk (k := 0) rfl
                    refine st_value (v := .int .i64 j) ?_ (Below.refl _ _) ?_
                    · simp [execOp, go_sem, e72, k0]
                    · exact rfl
                  · intro ev W hf _ _ hst hd
                    have e15 : ev (.tmp 15) = .pointer (some ⟨w.heap.size + 1, 0, none⟩) := hf 15 (by kernel_rfl)
                    refine st_value (v := .pointer (some ⟨w.heap.size + 1, 1, none⟩)) ?_ (Below.refl _ _) ?_
                    · simp [execOp, go_sem, e15]
                    · exact rfl
                  · intro ev W hf _ _ hst hd
                    obtain ⟨d74, _⟩ := hd
                    have e74 : ev (.tmp 74) = .pointer (some ⟨w.heap.size + 1, 1, none⟩) := d74
                    have kk := VRow.ext HN.out (Ext.trans (ext_drewN (Ext.refl w1) _) hst)
                    have k1 := VRow.cell kk (k := 1) rfl
                    refine st_value (v := .int .i64 na) ?_ (Below.refl _ _) ?_
                    · simp [execOp, go_sem, e74, k1]
                    · exact rfl
                  · intro ev W hf _ hfn hst hd
                    obtain ⟨d71, d73, d75, _⟩ := hd
                    have e71 : ev (.tmp 71) = .slice (some ⟨b8, o8, none⟩) hi.length ch := d71
                    have e73 : ev (.tmp 73) = .int .i64 j := d73
                    have e75 : ev (.tmp 75) = .int .i64 na := d75
                    refine st_enter (f := 39) (args := #[.slice (some ⟨b8, o8, none⟩) hi.length ch, .int .i64 j, .int .i64 na]) (by simp [execOp, go_sem, hfn, e71, e73, e75]) ?_
                    refine (with_c _ hi j na W (HHi.out.ext (Ext.trans (ext_drewN (Ext.refl w1) _) hst)) hjh (by omega)).mono ?_
                    rintro e w' ⟨z, rfl, h1, h2⟩
                    exact ⟨_, rfl, h2, h1⟩
                  · intro ev W hf _ _ hst hd
                    have e5 : ev (.tmp 5) = .bool f := hf 5 (by kernel_rfl)
                    refine st_value (v := .bool f) ?_ (Below.refl _ _) ?_
                    · simp [execOp, go_sem, e5]
                    · exact rfl
                  · intro ev W hf _ _ hst hd
                    have e6 : ev (.tmp 6) = .int .i64 cost := hf 6 (by kernel_rfl)
                    refine st_value (v := .int .i64 cost) ?_ (Below.refl _ _) ?_
                    · simp [execOp, go_sem, e6]
                    · exact rfl
                  · intro ev W hf _ hfn hst hd
                    obtain ⟨d66, d67, d69, d70, d76, d77, d78, _⟩ := hd
                    have e66 : ev (.tmp 66) = .agg #[a, b, c, u] := d66
                    have e67 : ev (.tmp 67) = .slice (some ⟨bp, op, none⟩) ns.length cp := d67
                    have e69 : ev (.tmp 69) = .int .i64 ((k : Int) + 1) := d69
                    have e70 : ev (.tmp 70) = .slice (some ⟨b7, o7, none⟩) lo.length cl := d70
                    have e77 : ev (.tmp 77) = .bool f := d77
                    have e78 : ev (.tmp 78) = .int .i64 cost := d78
                    have d76 : Ints W (ev (.tmp 76)) (hi.set j na) := d76
                    obtain ⟨a6, c6, e76, _, _, _⟩ := d76.at
                    rw [e76] at d76
                    refine st_enter (f := 29) (args := #[.agg #[a, b, c, u], .slice (some ⟨bp, op, none⟩) ns.length cp, .int .i64 ((k : Int) + 1), .slice (some ⟨b7, o7, none⟩) lo.length cl, .slice a6 (hi.set j na).length c6, .bool f, .int .i64 cost]) (by simp [execOp, go_sem, hfn, e66, e67, e69, e70, e77, e78, e76]) ?_
                    refine (HIH.out _ _ lo (hi.set j na) ((k : Int) + 1) W (HW.out.ext (Ext.trans (ext_drewN (Ext.refl w1) _) hst)) (HNd.out.ext (Ext.trans (ext_drewN (Ext.refl w1) _) hst)) (HLo.out.ext (Ext.trans (ext_drewN (Ext.refl w1) _) hst)) d76 HB1.out.1 (by have := HB1.out.2; have := HSP.out; omega) (by omega) (by omega)).mono ?_
                    rintro e w' ⟨rfl, hE⟩
                    exact ⟨_, rfl, hE, by rw [← HT1.out]; exact rfl⟩
                  · intro ev W hf _ _ hst hd
                    obtain ⟨d79, _⟩ := hd
                    have e79 : ev (.tmp 79) = .int .i64 T1 := d79
                    refine st_value (v := .int .i64 T1) ?_ (Below.refl _ _) ?_
                    · simp [execOp, go_sem, e79]
                    · exact rfl
                case rest =>
                  intro vs w3 hl hst hg
                  have hlast : ∀ u, vs[14]? = some u → u = .int .i64 T1 := fun u hu => hg 14 u hu
                  have HE3 := Lib.hid (Ext.trans (ext_drewN (Ext.refl w1) _) hst)
                  clear hg hst
                  obtain ⟨x0, vs0, rfl, hl0⟩ := len_succ hl
                  obtain ⟨x1, vs1, rfl, hl1⟩ := len_succ hl0
                  obtain ⟨x2, vs2, rfl, hl2⟩ := len_succ hl1
                  obtain ⟨x3, vs3, rfl, hl3⟩ := len_succ hl2
                  obtain ⟨x4, vs4, rfl, hl4⟩ := len_succ hl3
                  obtain ⟨x5, vs5, rfl, hl5⟩ := len_succ hl4
                  obtain ⟨x6, vs6, rfl, hl6⟩ := len_succ hl5
                  obtain ⟨x7, vs7, rfl, hl7⟩ := len_succ hl6
                  obtain ⟨x8, vs8, rfl, hl8⟩ := len_succ hl7
                  obtain ⟨x9, vs9, rfl, hl9⟩ := len_succ hl8
                  obtain ⟨x10, vs10, rfl, hl10⟩ := len_succ hl9
                  obtain ⟨x11, vs11, rfl, hl11⟩ := len_succ hl10
                  obtain ⟨x12, vs12, rfl, hl12⟩ := len_succ hl11
                  obtain ⟨x13, vs13, rfl, hl13⟩ := len_succ hl12
                  obtain ⟨x14, vs14, rfl, hl14⟩ := len_succ hl13
                  have hnil : vs14 = [] := List.length_eq_zero_iff.1 hl14
                  subst hnil
                  obtain rfl : x14 = .int .i64 T1 := hlast _ rfl
                  clear hlast
                  simp only [putAll, Act.put, List.setIfInBounds_toArray, List.set_cons_zero, List.set_cons_succ]
                  go_wp2_with fail
                  refine wp_region_stable [⟨[], none⟩, ⟨[], none⟩, ⟨[], none⟩, ⟨[], none⟩, ⟨[], none⟩, ⟨[(4, 84)], none⟩, ⟨[], none⟩, ⟨[(6, 86)], none⟩, ⟨[(7, 87)], none⟩, ⟨[(3, 83), (5, 85), (8, 88)], none⟩, ⟨[], none⟩, ⟨[], none⟩, ⟨[], none⟩, ⟨[(0, 80), (1, 81), (2, 82), (9, 89), (10, 90), (11, 91), (12, 92)], none⟩, ⟨[(13, 93)], none⟩] (fun x y => Below x.heap.size x y) (MPat [MP.eq (.agg #[a, b, c, u]), MP.eq (.slice (some ⟨bp, op, none⟩) ns.length cp), MP.eq (.int .i64 T1), MP.eq (.slice (some ⟨b7, o7, none⟩) lo.length cl), MP.eq (.pointer (some ⟨w.heap.size + 1, 0, none⟩)), MP.eq (.int .i64 j), MP.eq (.pointer (some ⟨w.heap.size + 1, 1, none⟩)), MP.eq (.int .i64 na), MP.eq (.int .i64 (na + 1)), MP.intsR (lo.set j (na + 1)), MP.eq (.slice (some ⟨b8, o8, none⟩) hi.length ch), MP.eq (.bool f), MP.eq (.int .i64 cost), MP.eq (.int .i64 T2), MP.eq (.int .i64 T2)]) (by kernel_rfl) (fun _ _ _ h k => Ext.trans h k) (fun _ => Below.refl _ _) (fun x => (Below.refl x.heap.size x).drew) (MPat.mono _) (by kernel_rfl) ?obs ?rest
                  case obs =>
                    refine ⟨?_, ?_, ?_, ?_, ?_, ?_, ?_, ?_, ?_, ?_, ?_, ?_, ?_, ?_, ?_, trivial⟩
                    · intro ev W hf _ _ hst hd
                      have e7 : ev (.tmp 7) = .pointer (some ⟨w.heap.size, 0, none⟩) := hf 7 (by kernel_rfl)
                      have kk := VRow.ext HM.out (Ext.trans HE3.out hst)
                      have k0 := VRow.cell kk (k := 0) rfl
                      have k1 := VRow.cell kk (k := 1) rfl
                      have k2 := VRow.cell kk (k := 2) rfl
                      have k3 := VRow.cell kk (k := 3) rfl
                      refine st_value (v := .agg #[a, b, c, u]) ?_ (Below.refl _ _) ?_
                      · simp [execOp, go_sem, e7, k0, k1, k2, k3]
                      · exact rfl
                    · intro ev W hf _ _ hst hd
                      have e1 : ev (.tmp 1) = .slice (some ⟨bp, op, none⟩) ns.length cp := hf 1 (by kernel_rfl)
                      refine st_value (v := .slice (some ⟨bp, op, none⟩) ns.length cp) ?_ (Below.refl _ _) ?_
                      · simp [execOp, go_sem, e1]
                      · exact rfl
                    · intro ev W hf _ _ hst hd
                      have e16 : ev (.tmp 16) = .int .i64 T1 := hf 16 (by kernel_rfl)
                      refine st_value (v := .int .i64 T1) ?_ (Below.refl _ _) ?_
                      · simp [execOp, go_sem, e16]
                      · exact rfl
                    · intro ev W hf _ _ hst hd
                      have e3 : ev (.tmp 3) = .slice (some ⟨b7, o7, none⟩) lo.length cl := hf 3 (by kernel_rfl)
                      refine st_value (v := .slice (some ⟨b7, o7, none⟩) lo.length cl) ?_ (Below.refl _ _) ?_
                      · simp [execOp, go_sem, e3]
                      · exact rfl
                    · intro ev W hf _ _ hst hd
                      have e15 : ev (.tmp 15) = .pointer (some ⟨w.heap.size + 1, 0, none⟩) := hf 15 (by kernel_rfl)
                      refine st_value (v := .pointer (some ⟨w.heap.size + 1, 0, none⟩)) ?_ (Below.refl _ _) ?_
                      · simp [execOp, go_sem, e15]
                      · exact rfl
                    · intro ev W hf _ _ hst hd
                      obtain ⟨d84, _⟩ := hd
                      have e84 : ev (.tmp 84) = .pointer (some ⟨w.heap.size + 1, 0, none⟩) := d84
                      have kk := VRow.ext HN.out (Ext.trans HE3.out hst)
                      have k0 := VRow.cell kk (k := 0) rfl
                      refine st_value (v := .int .i64 j) ?_ (Below.refl _ _) ?_
                      · simp [execOp, go_sem, e84, k0]
                      · exact rfl
                    · intro ev W hf _ _ hst hd
                      have e15 : ev (.tmp 15) = .pointer (some ⟨w.heap.size + 1, 0, none⟩) := hf 15 (by kernel_rfl)
                      refine st_value (v := .pointer (some ⟨w.heap.size + 1, 1, none⟩)) ?_ (Below.refl _ _) ?_
                      · simp [execOp, go_sem, e15]
                      · exact rfl
                    · intro ev W hf _ _ hst hd
                      obtain ⟨d86, _⟩ := hd
                      have e86 : ev (.tmp 86) = .pointer (some ⟨w.heap.size + 1, 1, none⟩) := d86
                      have kk := VRow.ext HN.out (Ext.trans HE3.out hst)
                      have k1 := VRow.cell kk (k := 1) rfl
                      refine st_value (v := .int .i64 na) ?_ (Below.refl _ _) ?_
                      · simp [execOp, go_sem, e86, k1]
                      · exact rfl
                    · intro ev W hf hcst _ hst hd
                      obtain ⟨d87, _⟩ := hd
                      have e87 : ev (.tmp 87) = .int .i64 na := d87
                      refine st_value (v := .int .i64 (na + 1)) ?_ (Below.refl _ _) ?_
                      · simp [execOp, go_sem, e87, hcst, hwn]
                      · exact rfl
                    · intro ev W hf _ hfn hst hd
                      obtain ⟨d83, d85, d88, _⟩ := hd
                      have e83 : ev (.tmp 83) = .slice (some ⟨b7, o7, none⟩) lo.length cl := d83
                      have e85 : ev (.tmp 85) = .int .i64 j := d85
                      have e88 : ev (.tmp 88) = .int .i64 (na + 1) := d88
                      refine st_enter (f := 39) (args := #[.slice (some ⟨b7, o7, none⟩) lo.length cl, .int .i64 j, .int .i64 (na + 1)]) (by simp [execOp, go_sem, hfn, e83, e85, e88]) ?_
                      refine (with_c _ lo j (na + 1) W (HLo.out.ext (Ext.trans HE3.out hst)) (by omega) (by omega)).mono ?_
                      rintro e w' ⟨z, rfl, h1, h2⟩
                      exact ⟨_, rfl, h2, h1⟩
                    · intro ev W hf _ _ hst hd
                      have e4 : ev (.tmp 4) = .slice (some ⟨b8, o8, none⟩) hi.length ch := hf 4 (by kernel_rfl)
                      refine st_value (v := .slice (some ⟨b8, o8, none⟩) hi.length ch) ?_ (Below.refl _ _) ?_
                      · simp [execOp, go_sem, e4]
                      · exact rfl
                    · intro ev W hf _ _ hst hd
                      have e5 : ev (.tmp 5) = .bool f := hf 5 (by kernel_rfl)
                      refine st_value (v := .bool f) ?_ (Below.refl _ _) ?_
                      · simp [execOp, go_sem, e5]
                      · exact rfl
                    · intro ev W hf _ _ hst hd
                      have e6 : ev (.tmp 6) = .int .i64 cost := hf 6 (by kernel_rfl)
                      refine st_value (v := .int .i64 cost) ?_ (Below.refl _ _) ?_
                      · simp [execOp, go_sem, e6]
                      · exact rfl
                    · intro ev W hf _ hfn hst hd
                      obtain ⟨d80, d81, d82, d89, d90, d91, d92, _⟩ := hd
                      have e80 : ev (.tmp 80) = .agg #[a, b, c, u] := d80
                      have e81 : ev (.tmp 81) = .slice (some ⟨bp, op, none⟩) ns.length cp := d81
                      have e82 : ev (.tmp 82) = .int .i64 T1 := d82
                      have e90 : ev (.tmp 90) = .slice (some ⟨b8, o8, none⟩) hi.length ch := d90
                      have e91 : ev (.tmp 91) = .bool f := d91
                      have e92 : ev (.tmp 92) = .int .i64 cost := d92
                      have d89 : Ints W (ev (.tmp 89)) (lo.set j (na + 1)) := d89
                      obtain ⟨a6, c6, e89, _, _, _⟩ := d89.at
                      rw [e89] at d89
                      refine st_enter (f := 29) (args := #[.agg #[a, b, c, u], .slice (some ⟨bp, op, none⟩) ns.length cp, .int .i64 T1, .slice a6 (lo.set j (na + 1)).length c6, .slice (some ⟨b8, o8, none⟩) hi.length ch, .bool f, .int .i64 cost]) (by simp [execOp, go_sem, hfn, e80, e81, e82, e90, e91, e92, e89]) ?_
                      refine (HIH.out _ _ (lo.set j (na + 1)) hi T1 W (HW.out.ext (Ext.trans HE3.out hst)) (HNd.out.ext (Ext.trans HE3.out hst)) d89 (HHi.out.ext (Ext.trans HE3.out hst)) HB2.out.1 (by have := HB2.out.2; have := HSP.out; omega) HBD.out.1 HBD.out.2).mono ?_
                      rintro e w' ⟨rfl, hE⟩
                      exact ⟨_, rfl, hE, by rw [← HT2.out]; exact rfl⟩
                    · intro ev W hf _ _ hst hd
                      obtain ⟨d93, _⟩ := hd
                      have e93 : ev (.tmp 93) = .int .i64 T2 := d93
                      refine st_value (v := .int .i64 T2) ?_ (Below.refl _ _) ?_
                      · simp [execOp, go_sem, e93]
                      · exact rfl
                  case rest =>
                    intro vs w7 hl hst hg
                    have hlast : ∀ u, vs[14]? = some u → u = .int .i64 T2 := fun u hu => hg 14 u hu
                    have HE7 := Lib.hid (Ext.trans HE.out (Ext.trans HE3.out hst))
                    clear hg hst
                    obtain ⟨x0, vs0, rfl, hl0⟩ := len_succ hl
                    obtain ⟨x1, vs1, rfl, hl1⟩ := len_succ hl0
                    obtain ⟨x2, vs2, rfl, hl2⟩ := len_succ hl1
                    obtain ⟨x3, vs3, rfl, hl3⟩ := len_succ hl2
                    obtain ⟨x4, vs4, rfl, hl4⟩ := len_succ hl3
                    obtain ⟨x5, vs5, rfl, hl5⟩ := len_succ hl4
                    obtain ⟨x6, vs6, rfl, hl6⟩ := len_succ hl5
                    obtain ⟨x7, vs7, rfl, hl7⟩ := len_succ hl6
                    obtain ⟨x8, vs8, rfl, hl8⟩ := len_succ hl7
                    obtain ⟨x9, vs9, rfl, hl9⟩ := len_succ hl8
                    obtain ⟨x10, vs10, rfl, hl10⟩ := len_succ hl9
                    obtain ⟨x11, vs11, rfl, hl11⟩ := len_succ hl10
                    obtain ⟨x12, vs12, rfl, hl12⟩ := len_succ hl11
                    obtain ⟨x13, vs13, rfl, hl13⟩ := len_succ hl12
                    obtain ⟨x14, vs14, rfl, hl14⟩ := len_succ hl13
                    have hnil : vs14 = [] := List.length_eq_zero_iff.1 hl14
                    subst hnil
                    obtain rfl : x14 = .int .i64 T2 := hlast _ rfl
                    clear hlast
                    simp only [putAll, Act.put, List.setIfInBounds_toArray, List.set_cons_zero, List.set_cons_succ]
                    go_wp2_with fail
                    go_ret
                    exact ⟨ret_int (by rw [HT.out, ← HT1.out, ← HT2.out]), HE7.out⟩
end Go.Proofs.Ytblaipkhmmaenaa

namespace Go.Proofs.Ytblaipkhmmaenaa
open Go.RowKit
theorem span_zero : ∀ (U : List Int), (∀ x ∈ U, 0 ≤ x ∧ x ≤ 7) → spanZ (List.replicate U.length 0) U ≤ 7 * U.length
  | [], _ => by simp [spanZ]
  | x :: U, h => by
    have h0 := h x (by simp)
    have h1 := span_zero U (fun y hy => h y (by simp [hy]))
    simp only [List.length_cons, List.replicate_succ, spanZ]
    omega
theorem boxP0 {p : Who} (hw : whoB p = true) : BoxP p.C.length (List.replicate p.U.length 0) p.U ∧ spanZ (List.replicate p.U.length 0) p.U < (36 : Nat) := by
  obtain ⟨h5, hU, hB, _⟩ := whoP hw
  have hb : ∀ x ∈ p.U, 0 ≤ x ∧ x ≤ 7 := fun x hx => hB x hx
  refine ⟨⟨by simpa using hU, hU, fun x hx => by rw [(List.mem_replicate.1 hx).2]; omega, hb, fun j l h hl hh => ?_⟩, ?_⟩
  · have h1 := (List.mem_replicate.1 (List.mem_of_getElem? hl)).2
    have h2 := hb h (List.mem_of_getElem? hh)
    omega
  · have := span_zero p.U hb
    omega
def treeB (p : Who) (f : Bool) (cost : Int) (ns : List Nd) : Bool := decide (treeZ p f cost ns 36 0 (List.replicate p.U.length 0) p.U = ns.length)
set_option maxRecDepth 100000 in
set_option maxHeartbeats 4000000 in
theorem scheck_c (a b c u v : Value) (f : Bool) (cost : Int) (ns : List Nd) (p : Who) (w : World) (h : WhoAt w a b c u p) (hN : NodesAt w v ns) (hcost : in64 cost) :
    Calls Try.prog 18 #[.agg #[a, b, c, u], v, .bool f, .int .i64 cost] w fun e w' => e = chkV (whoB p) ns.length (treeB p f cost ns) ∧ Ext w w' := by
  obtain ⟨au, cu, rfl, huc, hum, _⟩ := h.2.at
  have hN0 := hN
  obtain ⟨ap, cp, rfl, hpc, hpm, hpk⟩ := hN0
  obtain ⟨h0, h1, h2⟩ := who_box h
  have HM := Lib.hid h0
  have HW := Lib.hid h1
  have HE := Lib.hid h2
  have HNd := Lib.hid (hN.ext h2)
  have HC := Lib.hid hcost
  change Hid (VRow (w.alloc (.cells #[a, b, c, .slice au p.U.length cu] 25)) _ _ _) at HM
  have q0 := VRow.cell HM.out (k := 0) rfl
  have q1 := VRow.cell HM.out (k := 1) rfl
  have q2 := VRow.cell HM.out (k := 2) rfl
  have q3 := VRow.cell HM.out (k := 3) rfl
  clear h h0 h1 h2 hN hpk hcost
  go_enter Try.func18, Try.ntmps18
  go_wp2_with fail
  clear q0 q1 q2 q3
  generalize w.alloc (.cells #[a, b, c, .slice au p.U.length cu] 25) = w1 at *
  generalize hs : w.heap.size = s at *
  refine (svalid_c a b c _ p _ HW.out).mono ?_
  rintro e w2 ⟨rfl, hE2⟩
  have HM := Lib.hid (VRow.ext HM.out hE2)
  have HW := Lib.hid (HW.out.ext hE2)
  have HNd := Lib.hid (HNd.out.ext hE2)
  have HE := Lib.hid (HE.out.trans hE2)
  clear hE2
  cases hw : whoB p with
  | false =>
    go_wp2_with fail
    go_ret2
    exact ⟨by simp [chkV, hw], HE.out⟩
  | true =>
    by_cases hbig : (65535 : Int) < (ns.length : Int)
    · go_wp2_with fail
      go_ret2
      have hle : ¬ ns.length ≤ 65535 := by omega
      exact ⟨by simp [chkV, hw, hle], HE.out⟩
    · have hbx := boxP0 hw
      have HBX := Lib.hid hbx
      have Hw := Lib.hid hw
      have hU5 : p.U.length ≤ 5 := by have := whoP hw; omega
      have hmk := run_make_row' (P := Try.prog) 23 3 (.int .i64 0) 8 Try.underlying23 Try.info3 rfl .i64 .i64 p.U.length (by omega) (by omega)
      have HMK := Lib.hid hmk
      obtain ⟨T, hT⟩ : ∃ T, T = treeZ p f cost ns 36 0 (List.replicate p.U.length 0) p.U := ⟨_, rfl⟩
      have HT := Lib.hid hT
      clear hbx hw hmk hT
      go_wp2_with fail
      refine wp_region_stable [⟨[], none⟩, ⟨[], none⟩, ⟨[], none⟩, ⟨[(2, 18)], none⟩, ⟨[(3, 19)], none⟩, ⟨[(4, 20)], none⟩, ⟨[], none⟩, ⟨[(6, 22)], none⟩, ⟨[], none⟩, ⟨[], none⟩, ⟨[(0, 16), (1, 17), (5, 21), (7, 23), (8, 24), (9, 25)], none⟩, ⟨[], none⟩, ⟨[(11, 27)], none⟩, ⟨[(10, 26), (12, 28)], none⟩, ⟨[(13, 29)], none⟩, ⟨[], none⟩] (fun x y => Below x.heap.size x y) (MPat [MP.eq (.agg #[a, b, c, .slice au p.U.length cu]), MP.eq (.slice ap ns.length cp), MP.eq (.pointer (some ⟨s, 3, none⟩)), MP.eq (.slice au p.U.length cu), MP.eq (.int .i64 p.U.length), MP.intsR (List.replicate p.U.length 0), MP.eq (.pointer (some ⟨s, 3, none⟩)), MP.eq (.slice au p.U.length cu), MP.eq (.bool f), MP.eq (.int .i64 cost), MP.eq (.int .i64 T), MP.eq (.slice ap ns.length cp), MP.eq (.int .i64 ns.length), MP.eq (.bool (T == (ns.length : Int))), MP.eq (.bool (T == (ns.length : Int))), MP.eq (.int .i64 0)]) (by kernel_rfl) (fun _ _ _ h k => Ext.trans h k) (fun _ => Below.refl _ _) (fun x => (Below.refl x.heap.size x).drew) (MPat.mono _) (by kernel_rfl) ?obs ?rest
      case obs =>
        refine ⟨?_, ?_, ?_, ?_, ?_, ?_, ?_, ?_, ?_, ?_, ?_, ?_, ?_, ?_, ?_, ?_, trivial⟩
        · intro ev W hf _ _ hst hd
          have e4 : ev (.tmp 4) = .pointer (some ⟨s, 0, none⟩) := hf 4 (by kernel_rfl)
          have kk := VRow.ext HM.out hst
          have k0 := VRow.cell kk (k := 0) rfl
          have k1 := VRow.cell kk (k := 1) rfl
          have k2 := VRow.cell kk (k := 2) rfl
          have k3 := VRow.cell kk (k := 3) rfl
          refine st_value (v := .agg #[a, b, c, .slice au p.U.length cu]) ?_ (Below.refl _ _) ?_
          · simp [execOp, go_sem, e4, k0, k1, k2, k3]
          · exact rfl
        · intro ev W hf _ _ hst hd
          have e1 : ev (.tmp 1) = .slice ap ns.length cp := hf 1 (by kernel_rfl)
          refine st_value (v := .slice ap ns.length cp) ?_ (Below.refl _ _) ?_
          · simp [execOp, go_sem, e1]
          · exact rfl
        · intro ev W hf _ _ hst hd
          have e4 : ev (.tmp 4) = .pointer (some ⟨s, 0, none⟩) := hf 4 (by kernel_rfl)
          refine st_value (v := .pointer (some ⟨s, 3, none⟩)) ?_ (Below.refl _ _) ?_
          · simp [execOp, go_sem, e4]
          · exact rfl
        · intro ev W hf _ _ hst hd
          obtain ⟨d18, _⟩ := hd
          have e18 : ev (.tmp 18) = .pointer (some ⟨s, 3, none⟩) := d18
          have kk := VRow.ext HM.out hst
          have k3 := VRow.cell kk (k := 3) rfl
          refine st_value (v := .slice au p.U.length cu) ?_ (Below.refl _ _) ?_
          · simp [execOp, go_sem, e18, k3]
          · exact rfl
        · intro ev W hf _ _ hst hd
          obtain ⟨d19, _⟩ := hd
          have e19 : ev (.tmp 19) = .slice au p.U.length cu := d19
          refine st_value (v := .int .i64 p.U.length) ?_ (Below.refl _ _) ?_
          · simp [go_sem, e19]
          · exact rfl
        · intro ev W hf _ hfn hst hd
          obtain ⟨d20, _⟩ := hd
          have e20 : ev (.tmp 20) = .int .i64 p.U.length := d20
          have hmk := HMK.out W
          refine st_new (v := .slice (some ⟨W.heap.size, 0, none⟩) p.U.length p.U.length) (o := .cells (madeCells #[.int .i64 0] p.U.length) 3) ?_ ?_
          · simp [execOp, go_sem, e20, hmk]
          · exact IRow.ints' (irow_made W p.U.length 3) (by simp) (by simp) (by omega)
        · intro ev W hf _ _ hst hd
          have e4 : ev (.tmp 4) = .pointer (some ⟨s, 0, none⟩) := hf 4 (by kernel_rfl)
          refine st_value (v := .pointer (some ⟨s, 3, none⟩)) ?_ (Below.refl _ _) ?_
          · simp [execOp, go_sem, e4]
          · exact rfl
        · intro ev W hf _ _ hst hd
          obtain ⟨d22, _⟩ := hd
          have e22 : ev (.tmp 22) = .pointer (some ⟨s, 3, none⟩) := d22
          have kk := VRow.ext HM.out hst
          have k3 := VRow.cell kk (k := 3) rfl
          refine st_value (v := .slice au p.U.length cu) ?_ (Below.refl _ _) ?_
          · simp [execOp, go_sem, e22, k3]
          · exact rfl
        · intro ev W hf _ _ hst hd
          have e2 : ev (.tmp 2) = .bool f := hf 2 (by kernel_rfl)
          refine st_value (v := .bool f) ?_ (Below.refl _ _) ?_
          · simp [execOp, go_sem, e2]
          · exact rfl
        · intro ev W hf _ _ hst hd
          have e3 : ev (.tmp 3) = .int .i64 cost := hf 3 (by kernel_rfl)
          refine st_value (v := .int .i64 cost) ?_ (Below.refl _ _) ?_
          · simp [execOp, go_sem, e3]
          · exact rfl
        · intro ev W hf hcst hfn hst hd
          obtain ⟨d16, d17, d21, d23, d24, d25, _⟩ := hd
          have e16 : ev (.tmp 16) = .agg #[a, b, c, .slice au p.U.length cu] := d16
          have e17 : ev (.tmp 17) = .slice ap ns.length cp := d17
          have e23 : ev (.tmp 23) = .slice au p.U.length cu := d23
          have e24 : ev (.tmp 24) = .bool f := d24
          have e25 : ev (.tmp 25) = .int .i64 cost := d25
          have d21 : Ints W (ev (.tmp 21)) (List.replicate p.U.length 0) := d21
          obtain ⟨a9, c9, e21, _, _, _⟩ := d21.at
          rw [e21] at d21
          refine st_enter (f := 29) (args := #[.agg #[a, b, c, .slice au p.U.length cu], .slice ap ns.length cp, .int .i64 0, .slice a9 (List.replicate p.U.length (0 : Int)).length c9, .slice au p.U.length cu, .bool f, .int .i64 cost]) (by simp [execOp, go_sem, hfn, e16, e17, e23, e24, e25, hcst, e21]) ?_
          refine (tree_c a b c _ _ p f cost ns Hw.out HC.out (by omega) 36 _ _ (List.replicate p.U.length 0) p.U 0 W (HW.out.ext hst) (HNd.out.ext hst) d21 (HW.out.ext hst).2 HBX.out.1 HBX.out.2 (by omega) (by omega)).mono ?_
          rintro e w' ⟨rfl, hE⟩
          exact ⟨_, rfl, hE, by rw [← HT.out]; exact rfl⟩
        · intro ev W hf _ _ hst hd
          have e1 : ev (.tmp 1) = .slice ap ns.length cp := hf 1 (by kernel_rfl)
          refine st_value (v := .slice ap ns.length cp) ?_ (Below.refl _ _) ?_
          · simp [execOp, go_sem, e1]
          · exact rfl
        · intro ev W hf _ _ hst hd
          obtain ⟨d27, _⟩ := hd
          have e27 : ev (.tmp 27) = .slice ap ns.length cp := d27
          refine st_value (v := .int .i64 ns.length) ?_ (Below.refl _ _) ?_
          · simp [go_sem, e27]
          · exact rfl
        · intro ev W hf _ _ hst hd
          obtain ⟨d26, d28, _⟩ := hd
          have e26 : ev (.tmp 26) = .int .i64 T := d26
          have e28 : ev (.tmp 28) = .int .i64 ns.length := d28
          refine st_value (v := .bool (T == (ns.length : Int))) ?_ (Below.refl _ _) ?_
          · simp [execOp, go_sem, e26, e28]
          · exact rfl
        · intro ev W hf _ _ hst hd
          obtain ⟨d29, _⟩ := hd
          have e29 : ev (.tmp 29) = .bool (T == (ns.length : Int)) := d29
          refine st_value (v := .bool (T == (ns.length : Int))) ?_ (Below.refl _ _) ?_
          · simp [execOp, go_sem, e29]
          · exact rfl
        · intro ev W hf hcst _ hst hd
          refine st_value (v := .int .i64 0) ?_ (Below.refl _ _) ?_
          · simp [execOp, go_sem, hcst]
          · exact rfl
      case rest =>
        intro vs w3 hl hst hg
        have hz1 : ∀ u, vs[14]? = some u → u = .bool (T == (ns.length : Int)) := fun u hu => hg 14 u hu
        have hz2 : ∀ u, vs[15]? = some u → u = .int .i64 0 := fun u hu => hg 15 u hu
        have HE3 := Lib.hid (HE.out.trans hst)
        clear hg hst
        obtain ⟨x0, vs0, rfl, hl0⟩ := len_succ hl
        obtain ⟨x1, vs1, rfl, hl1⟩ := len_succ hl0
        obtain ⟨x2, vs2, rfl, hl2⟩ := len_succ hl1
        obtain ⟨x3, vs3, rfl, hl3⟩ := len_succ hl2
        obtain ⟨x4, vs4, rfl, hl4⟩ := len_succ hl3
        obtain ⟨x5, vs5, rfl, hl5⟩ := len_succ hl4
        obtain ⟨x6, vs6, rfl, hl6⟩ := len_succ hl5
        obtain ⟨x7, vs7, rfl, hl7⟩ := len_succ hl6
        obtain ⟨x8, vs8, rfl, hl8⟩ := len_succ hl7
        obtain ⟨x9, vs9, rfl, hl9⟩ := len_succ hl8
        obtain ⟨x10, vs10, rfl, hl10⟩ := len_succ hl9
        obtain ⟨x11, vs11, rfl, hl11⟩ := len_succ hl10
        obtain ⟨x12, vs12, rfl, hl12⟩ := len_succ hl11
        obtain ⟨x13, vs13, rfl, hl13⟩ := len_succ hl12
        obtain ⟨x14, vs14, rfl, hl14⟩ := len_succ hl13
        obtain ⟨x15, vs15, rfl, hl15⟩ := len_succ hl14
        have hnil : vs15 = [] := List.length_eq_zero_iff.1 hl15
        subst hnil
        obtain rfl : x14 = .bool (T == (ns.length : Int)) := hz1 _ rfl
        obtain rfl : x15 = .int .i64 0 := hz2 _ rfl
        clear hz1 hz2
        simp only [putAll, Act.put, List.setIfInBounds_toArray, List.set_cons_zero, List.set_cons_succ]
        go_wp2_with fail
        go_ret2
        have hle : ns.length ≤ 65535 := by omega
        exact ⟨by simp [chkV, treeB, ← HT.out, hle, Hw.out]; rw [Bool.eq_iff_iff]; simp, HE3.out⟩
end Go.Proofs.Ytblaipkhmmaenaa

namespace Go.Proofs.Ytblaipkhmmaenaa
open Go.RowKit
/-- whether the nodes from k on take the boxes away, and end there -/
def accF (p : Who) (gs : List (List Int × Int)) (ns : List Nd) : Nat → Nat → List Bx → Bool
  | 0, _, st => decide (st = [])
  | r + 1, k, st => match ns[k]? with
    | none => false
    | some nd => match stepM p gs st nd with
      | none => false
      | some st' => accF p gs ns r (k + 1) st'
theorem runM_gone {p : Who} {gs : List (List Int × Int)} {st0 : List Bx} {ns : List Nd} {k : Nat} (h : runM p gs st0 ns k = none) : ∀ i, runM p gs st0 ns (k + i) = none
  | 0 => h
  | i + 1 => by
    rw [← Nat.add_assoc]
    simp only [runM, runM_gone h i]
theorem runM_acc {p : Who} {gs : List (List Int × Int)} {st0 : List Bx} {ns : List Nd} : ∀ (r k : Nat) (st : List Bx), k + r = ns.length → runM p gs st0 ns k = some st → decide (runM p gs st0 ns ns.length = some []) = accF p gs ns r k st
  | 0, k, st, hk, h => by
    rw [← hk, Nat.add_zero, h]
    simp [accF]
  | r + 1, k, st, hk, h => by
    obtain ⟨nd, hnd⟩ : ∃ nd, ns[k]? = some nd := ⟨ns[k], by simp⟩
    have hs : runM p gs st0 ns (k + 1) = stepM p gs st nd := by simp only [runM, h, hnd]
    simp only [accF, hnd]
    cases hst : stepM p gs st nd with
    | none =>
      rw [hst] at hs
      have := runM_gone hs r
      rw [show k + 1 + r = ns.length by omega] at this
      simp [this]
    | some st' =>
      rw [hst] at hs
      exact runM_acc r (k + 1) st' (by omega) hs
/-- a padded box and the box of the program's variables -/
structure SameBx (n : Nat) (b : Bx) (lo hi : List Int) : Prop where
  l1 : b.1.length = 5
  l2 : b.2.length = 5
  e1 : ∀ j, j < n → lo.getD j 0 = b.1.getD j 0
  e2 : ∀ j, j < n → hi.getD j 0 = b.2.getD j 0
theorem getD_set {xs ys : List Int} {j i : Nat} {x : Int} (hx : j < xs.length) (hy : j < ys.length) (h : xs.getD i 0 = ys.getD i 0) : (xs.set j x).getD i 0 = (ys.set j x).getD i 0 := by
  by_cases e : j = i
  · subst e
    simp [List.getD, List.getElem?_set_self hx, List.getElem?_set_self hy]
  · simp only [List.getD, List.getElem?_set_ne e] at h ⊢
    exact h
theorem treeZ_low {p : Who} {f : Bool} {cost : Int} {ns : List Nd} {at' : Int} {lo hi : List Int} (h : at' < 0) : ∀ n, treeZ p f cost ns n at' lo hi = -1
  | 0 => rfl
  | _ + 1 => treeZ_neg h
theorem accF_end {p : Who} {gs : List (List Int × Int)} {ns : List Nd} {b : Bx} {rest : List Bx} {k : Nat} (h : ns.length ≤ k) : ∀ r, accF p gs ns r k (b :: rest) = false
  | 0 => by simp [accF]
  | r + 1 => by simp [accF, List.getElem?_eq_none h]
theorem acc_tree {p : Who} {f : Bool} {cost : Int} {ns : List Nd} (hC : p.C.length ≤ 5) : ∀ (n k : Nat) (b : Bx) (rest : List Bx) (lo hi : List Int), k ≤ ns.length → BoxP p.C.length lo hi → spanZ lo hi < n → SameBx p.C.length b lo hi →
    accF p (goalsOf p f cost) ns (ns.length - k) k (b :: rest) = if treeZ p f cost ns n k lo hi < 0 then false else accF p (goalsOf p f cost) ns (ns.length - (treeZ p f cost ns n k lo hi).toNat) (treeZ p f cost ns n k lo hi).toNat rest
  | 0, k, b, rest, lo, hi, _, hB, hs, _ => by
    have := span_nonneg hB.le
    omega
  | n + 1, k, b, rest, lo, hi, hk, hB, hs, hb => by
    by_cases hend : ns.length ≤ k
    · rw [treeZ_end (by omega), accF_end hend]; rfl
    · obtain ⟨nd, hnd⟩ : ∃ nd, ns[k]? = some nd := ⟨ns[k], by simp⟩
      have er : ns.length - k = (ns.length - (k + 1)) + 1 := by omega
      rw [er]
      simp only [accF, hnd, stepM]
      by_cases hv : nd.v < 0
      · rw [if_pos hv, treeZ_leaf hnd hv, sgood_eq (fun j hj => ⟨hb.e1 j hj, hb.e2 j hj⟩)]
        cases goodB p nd.y nd.d b.1 b.2 (goalsOf p f cost)
        · simp
        · simp only [if_true]
          rw [if_neg (by omega), show ((k : Int) + 1).toNat = k + 1 by omega]
      · rw [if_neg hv]
        by_cases hfar : (p.C.length : Int) ≤ nd.v
        · rw [if_pos hfar, treeZ_far hnd hv (by rw [hB.l1]; exact hfar)]; rfl
        · rw [if_neg hfar]
          obtain ⟨j, hj⟩ : ∃ j : Nat, nd.v = (j : Int) := ⟨nd.v.toNat, by omega⟩
          have hjn : j < p.C.length := by omega
          obtain ⟨l, hl⟩ := getElem?_len (show j < lo.length by rw [hB.l1]; exact hjn)
          obtain ⟨x, hx⟩ := getElem?_len (show j < hi.length by rw [hB.l2]; exact hjn)
          have gl : b.1.getD j 0 = l := by rw [← hb.e1 j hjn]; simp [List.getD, hl]
          have gx : b.2.getD j 0 = x := by rw [← hb.e2 j hjn]; simp [List.getD, hx]
          rw [treeZ_in hnd hj hl hx, hj, Int.toNat_natCast]
          simp only [divB, gl, gx]
          by_cases hA : nd.at' < l
          · rw [if_pos hA, decide_eq_false (show ¬ l ≤ nd.at' by omega)]; rfl
          · rw [if_neg hA, decide_eq_true (show l ≤ nd.at' by omega)]
            by_cases hX : x ≤ nd.at'
            · rw [if_pos hX, decide_eq_false (show ¬ nd.at' < x by omega)]; rfl
            · rw [if_neg hX, decide_eq_true (show nd.at' < x by omega)]
              simp only [Bool.and_self, if_true]
              obtain ⟨hB1, hs1⟩ := hB.hi hl hx (show l ≤ nd.at' by omega) (show nd.at' < x by omega)
              obtain ⟨hB2, hs2⟩ := hB.lo hl hx (show l ≤ nd.at' by omega) (show nd.at' < x by omega)
              have hb1 : SameBx p.C.length (b.1, b.2.set j nd.at') lo (hi.set j nd.at') := ⟨hb.l1, by simpa using hb.l2, hb.e1, fun i hi' => getD_set (by rw [hB.l2]; exact hjn) (by rw [hb.l2]; omega) (hb.e2 i hi')⟩
              have hb2 : SameBx p.C.length (b.1.set j (nd.at' + 1), b.2) (lo.set j (nd.at' + 1)) hi := ⟨by simpa using hb.l1, hb.l2, fun i hi' => getD_set (by rw [hB.l1]; exact hjn) (by rw [hb.l1]; omega) (hb.e1 i hi'), hb.e2⟩
              rw [acc_tree hC n (k + 1) _ _ lo (hi.set j nd.at') (by omega) hB1 (by omega) hb1]
              rw [show (((k + 1 : Nat) : Int)) = (k : Int) + 1 by omega]
              obtain ⟨T1, hT1⟩ : ∃ T1, T1 = treeZ p f cost ns n ((k : Int) + 1) lo (hi.set j nd.at') := ⟨_, rfl⟩
              rw [← hT1]
              have hbd := treeZ_bd p f cost ns n ((k : Int) + 1) lo (hi.set j nd.at')
              rw [← hT1] at hbd
              by_cases hneg : T1 < 0
              · rw [if_pos hneg, treeZ_low hneg n]; rfl
              · rw [if_neg hneg, acc_tree hC n T1.toNat _ rest (lo.set j (nd.at' + 1)) hi (by omega) hB2 (by omega) hb2]
                rw [show ((T1.toNat : Nat) : Int) = T1 by omega]
theorem pad_same : ∀ {U : List Int} {j : Nat}, j < U.length → U.length ≤ 5 → U.getD j 0 = (padU U).getD j 0 := by
  intro U j hj h5
  simp only [padU, List.getD]
  rw [List.getElem?_append_left (by omega)]
theorem tree_acc {p : Who} (hw : whoB p = true) (f : Bool) (cost : Int) (ns : List Nd) : treeB p f cost ns = accM p (goalsOf p f cost) ns := by
  obtain ⟨h5, hU, _, _⟩ := whoP hw
  obtain ⟨hB, hs⟩ := boxP0 hw
  have hb : SameBx p.C.length (boxM p) (List.replicate p.U.length 0) p.U := by
    refine ⟨rfl, ?_, fun j hj => ?_, fun j hj => pad_same (by omega) (by omega)⟩
    · simp [boxM, padU]; omega
    · have e1 : (List.replicate p.U.length (0 : Int)).getD j 0 = 0 := by simp only [List.getD, List.getElem?_replicate]; split <;> rfl
      rw [e1]
      have : j < 5 := by omega
      match j, this with
      | 0, _ => rfl
      | 1, _ => rfl
      | 2, _ => rfl
      | 3, _ => rfl
      | 4, _ => rfl
  have e := acc_tree (f := f) (cost := cost) (ns := ns) h5 36 0 (boxM p) [] _ _ (Nat.zero_le _) hB hs hb
  have e2 := runM_acc (p := p) (gs := goalsOf p f cost) (st0 := [boxM p]) (ns := ns) ns.length 0 [boxM p] (by omega) rfl
  unfold treeB accM
  rw [e2, ← Nat.sub_zero ns.length, e]
  simp only [Int.natCast_zero, Nat.sub_zero]
  obtain ⟨T, hT⟩ : ∃ T, T = treeZ p f cost ns 36 0 (List.replicate p.U.length 0) p.U := ⟨_, rfl⟩
  have hbd := treeZ_bd p f cost ns 36 0 (List.replicate p.U.length 0) p.U
  rw [← hT] at hbd ⊢
  by_cases hneg : T < 0
  · rw [if_pos hneg, decide_eq_false (by omega)]
  · rw [if_neg hneg]
    by_cases he : T = ns.length
    · rw [decide_eq_true he, he]
      simp [accF]
    · rw [decide_eq_false he]
      obtain ⟨r, hr⟩ : ∃ r, ns.length - T.toNat = r + 1 := ⟨ns.length - T.toNat - 1, by omega⟩
      rw [hr]
      obtain ⟨nd, hnd⟩ : ∃ nd, ns[T.toNat]? = some nd := ⟨ns[T.toNat]'(by omega), List.getElem?_eq_getElem (by omega)⟩
      simp [accF, hnd, stepM]
end Go.Proofs.Ytblaipkhmmaenaa

namespace Go.Proofs.Ytblaipkhmmaenaa
open Go.RowKit
def flat4 : List Nd → List Value
  | [] => []
  | nd :: ns => .int .i64 nd.v :: .int .i64 nd.at' :: nd.yv :: .int .i64 nd.d :: flat4 ns
theorem flat4_len : ∀ ns : List Nd, (flat4 ns).length = ns.length * 4
  | [] => rfl
  | nd :: ns => by simp only [flat4, List.length_cons, flat4_len ns]; omega
theorem flat4_at : ∀ {ns : List Nd} {k : Nat} {nd : Nd}, ns[k]? = some nd → (flat4 ns)[k * 4]? = some (.int .i64 nd.v) ∧ (flat4 ns)[k * 4 + 1]? = some (.int .i64 nd.at') ∧ (flat4 ns)[k * 4 + 2]? = some nd.yv ∧ (flat4 ns)[k * 4 + 3]? = some (.int .i64 nd.d)
  | [], _, _, h => by simp at h
  | a :: ns, 0, nd, h => by
    simp only [List.getElem?_cons_zero, Option.some.injEq] at h
    subst h
    exact ⟨rfl, rfl, rfl, rfl⟩
  | a :: ns, k + 1, nd, h => by
    simp only [List.getElem?_cons_succ] at h
    obtain ⟨h1, h2, h3, h4⟩ := flat4_at h
    rw [show (k + 1) * 4 = k * 4 + 1 + 1 + 1 + 1 by omega]
    refine ⟨?_, ?_, ?_, ?_⟩
    · simpa only [flat4, List.getElem?_cons_succ] using h1
    · rw [show k * 4 + 1 + 1 + 1 + 1 + 1 = (k * 4 + 1) + 1 + 1 + 1 + 1 by omega]; simpa only [flat4, List.getElem?_cons_succ] using h2
    · rw [show k * 4 + 1 + 1 + 1 + 1 + 2 = (k * 4 + 2) + 1 + 1 + 1 + 1 by omega]; simpa only [flat4, List.getElem?_cons_succ] using h3
    · rw [show k * 4 + 1 + 1 + 1 + 1 + 3 = (k * 4 + 3) + 1 + 1 + 1 + 1 by omega]; simpa only [flat4, List.getElem?_cons_succ] using h4
theorem flat4_inv : ∀ {ns : List Nd} {j : Nat} {u : Value}, (flat4 ns)[j]? = some u → ∃ k nd, ns[k]? = some nd ∧ ((j = k * 4 ∧ u = .int .i64 nd.v) ∨ (j = k * 4 + 1 ∧ u = .int .i64 nd.at') ∨ (j = k * 4 + 2 ∧ u = nd.yv) ∨ (j = k * 4 + 3 ∧ u = .int .i64 nd.d))
  | [], _, _, h => by simp [flat4] at h
  | a :: ns, 0, u, h => by simp [flat4] at h; exact ⟨0, a, rfl, .inl ⟨rfl, h.symm⟩⟩
  | a :: ns, 1, u, h => by simp [flat4] at h; exact ⟨0, a, rfl, .inr (.inl ⟨rfl, h.symm⟩)⟩
  | a :: ns, 2, u, h => by simp [flat4] at h; exact ⟨0, a, rfl, .inr (.inr (.inl ⟨rfl, h.symm⟩))⟩
  | a :: ns, 3, u, h => by simp [flat4] at h; exact ⟨0, a, rfl, .inr (.inr (.inr ⟨rfl, h.symm⟩))⟩
  | a :: ns, j + 4, u, h => by
    have h' : (flat4 ns)[j]? = some u := by simpa only [flat4, List.getElem?_cons_succ] using h
    obtain ⟨k, nd, h1, h2⟩ := flat4_inv h'
    refine ⟨k + 1, nd, by simpa using h1, ?_⟩
    rcases h2 with ⟨h2, h3⟩ | ⟨h2, h3⟩ | ⟨h2, h3⟩ | ⟨h2, h3⟩
    · exact .inl ⟨by omega, h3⟩
    · exact .inr (.inl ⟨by omega, h3⟩)
    · exact .inr (.inr (.inl ⟨by omega, h3⟩))
    · exact .inr (.inr (.inr ⟨by omega, h3⟩))
theorem own4_empty (w : World) (base : Nat) (h : base ≤ w.heap.size) : (w.alloc (.cells #[] 40)).ownsRow base 40 4 (.slice (some ⟨w.heap.size, 0, none⟩) 0 0) 0 [] := by
  refine ⟨by simp, .inr ⟨w.heap.size, 0, #[], rfl, h, ?_, by omega, by simp [maxLen], by simp, by simp⟩⟩
  show (w.heap.push _)[w.heap.size]? = _
  simp
/-- nodes in a slice of the call's own -/
theorem own4_nodes {W : World} {base : Nat} {v : Value} {ns : List Nd} (h : W.ownsRow base 40 4 v ns.length (flat4 ns)) (hv : ¬ v = .slice none 0 0) (hy : ∀ nd ∈ ns, Ints W nd.yv nd.y) : NodesAt W v ns ∧ ∃ g cap, v = .slice (some ⟨g, 0, none⟩) ns.length cap ∧ base ≤ g := by
  rcases h.2 with ⟨h0, _⟩ | ⟨g, cap, cur, hv2, hg, hh, h1, h2, h3, h4⟩
  · exact absurd h0 hv
  · refine ⟨⟨some ⟨g, 0, none⟩, cap, hv2, h1, by unfold maxLen at h2; omega, fun _ => ⟨g, 0, rfl, fun k nd hnd => ?_⟩⟩, g, cap, hv2, hg⟩
    have hc : ∀ (j : Nat) (u : Value), (flat4 ns)[j]? = some u → W.cell? ⟨g, 0 + j, none⟩ = some u := by
      intro j u hu
      have hlt := lt_len hu
      rw [← h4] at hu hlt
      simp only [List.length_take] at hlt
      rw [List.getElem?_take_of_lt (by omega), Array.getElem?_toList] at hu
      rw [Nat.zero_add]
      simp [World.cell?, hh, hu]
    obtain ⟨f1, f2, f3, f4⟩ := flat4_at hnd
    exact ⟨hc _ _ f1, hc _ _ f2, hc _ _ f3, hc _ _ f4, hy nd (List.mem_of_getElem? hnd)⟩
end Go.Proofs.Ytblaipkhmmaenaa

namespace Go.Proofs.Ytblaipkhmmaenaa
open Go.RowKit
theorem Try.info40 : (Try.prog.info? 40).map (fun i => (i.zero, i.size, i.bytes)) = some (some (.agg #[.int .i64 0, .int .i64 0, .slice none 0 0, .int .i64 0]), 4, 48) := by kernel_rfl
set_option maxRecDepth 100000 in
set_option maxHeartbeats 8000000 in
theorem checks_c (a b c u v : Value) (ns : List Nd) (f : Bool) (co : Int) (p : Who) (w : World) (h : WhoAt w a b c u p) (hN : NodesAt w v ns) (hsl : v = .slice none 0 0 ∨ ∃ ad n cap, v = .slice (some ad) n cap) (hco : in64 co) :
    Calls Try.prog 4 #[.agg #[a, b, c, u], v, .bool f, .int .i64 co] w fun e w' => e = .returned (.bool true) ∧ Ext w w' := by
  obtain ⟨h0, h1, h2⟩ := who_box h
  have q0 := VRow.cell h0 (k := 0) rfl
  have q1 := VRow.cell h0 (k := 1) rfl
  have q2 := VRow.cell h0 (k := 2) rfl
  have q3 := VRow.cell h0 (k := 3) rfl
  change (w.alloc (.cells #[a, b, c, u] 25)).cell? _ = _ at q0 q1 q2 q3
  obtain ⟨i0, hi, hz0, hz1, hz2⟩ := info_parts Try.info40
  have Hi := Lib.hid hi
  have Hz0 := Lib.hid hz0
  have Hz1 := Lib.hid hz1
  have Hz2 := Lib.hid hz2
  have HV := Lib.hid h0
  have HW := Lib.hid h1
  have HE := Lib.hid h2
  have HN := Lib.hid (hN.ext h2)
  have HSL := Lib.hid hsl
  have HCO := Lib.hid hco
  clear h h0 h1 h2 hN hsl hco hi hz0 hz1 hz2
  go_enter Try.func4, Try.ntmps4
  go_wp2_with fail
  clear q0 q1 q2 q3
  generalize w.alloc (.cells #[a, b, c, u] 25) = w1 at *
  refine (light_c a b c u p _ HW.out).mono ?_
  rintro e w2 ⟨rfl, hE2⟩
  have HV2 := Lib.hid (VRow.ext HV.out hE2)
  have HW2 := Lib.hid (HW.out.ext hE2)
  have HE2 := Lib.hid (HE.out.trans hE2)
  have HN2 := Lib.hid (HN.out.ext hE2)
  clear HV HW HE HN hE2
  cases hl : lightB p
  · clear hl
    go_wp2_with fail
    refine (alive_c _).mono ?_
    rintro e w3 ⟨rfl, hE3⟩
    have HE3 := Lib.hid (HE2.out.trans hE3)
    clear hE3
    go_wp2_with fail
    go_ret
    exact ⟨rfl, HE3.out⟩
  clear hl
  go_wp2_with fail
  refine (short_c v ns _ HN2.out).mono ?_
  rintro e w3 ⟨rfl, rfl⟩
  cases hsh : shortB ns
  · clear hsh
    go_wp2_with fail
    refine (alive_c _).mono ?_
    rintro e w99 ⟨rfl, hE99⟩
    have HE99 := Lib.hid (HE2.out.trans hE99)
    clear hE99
    go_wp2_with fail
    go_ret
    exact ⟨rfl, HE99.out⟩
  have hns : ns.length ≤ 300 := by
    simp only [shortB, Bool.and_eq_true, decide_eq_true_eq] at hsh
    exact hsh.1
  clear hsh
  have HY : RowKit.Hid (∀ nd ∈ ns, Ints w2 nd.yv nd.y) := Lib.hid (by
    intro nd hnd
    obtain ⟨ap, cp, _, _, _, hk⟩ := HN2.out
    obtain ⟨k, hk2⟩ := List.getElem?_of_mem hnd
    obtain ⟨bp, op, _, hk3⟩ := hk (by have := lt_len hk2; omega)
    exact (hk3 k nd hk2).2.2.2.2)
  have HONE : RowKit.Hid (∀ x ∈ flat4 ns, x.oneCell' = true) := Lib.hid (by
    intro x hx
    obtain ⟨j, hj⟩ := List.getElem?_of_mem hx
    obtain ⟨k, nd, h1, h2⟩ := flat4_inv hj
    obtain ⟨ay, cy, ey, _⟩ := HY.out nd (List.mem_of_getElem? h1)
    rcases h2 with ⟨_, rfl⟩ | ⟨_, rfl⟩ | ⟨_, rfl⟩ | ⟨_, rfl⟩
    · rfl
    · rfl
    · rw [ey]; rfl
    · rfl)
  have hsz2 : w2.heap.size ≤ (w2.alloc (.cells #[] 40)).heap.size := by simp
  have HO0 := Lib.hid (own4_empty w2 w2.heap.size (Nat.le_refl _))
  have HEA := Lib.hid (Ext.alloc (Ext.refl w2) (.cells #[] 40))
  rcases HSL.out with rfl | ⟨ad, nn, cap, rfl⟩
  · have hn0 : ns = [] := by
      obtain ⟨ap, cp, e, _⟩ := HN2.out
      simp only [Value.slice.injEq] at e
      exact List.length_eq_zero_iff.1 e.2.1.symm
    subst hn0
    have HOWN : RowKit.Hid ((w2.alloc (.cells #[] 40)).ownsRow w2.heap.size 40 4 (.slice (some ⟨w2.heap.size, 0, none⟩) ([] : List Nd).length 0) ([] : List Nd).length (flat4 [])) := HO0
    have HEW := HEA
    have q0 := VRow.cell (VRow.ext HV2.out HEA.out) (k := 0) rfl
    have q1 := VRow.cell (VRow.ext HV2.out HEA.out) (k := 1) rfl
    have q2 := VRow.cell (VRow.ext HV2.out HEA.out) (k := 2) rfl
    have q3 := VRow.cell (VRow.ext HV2.out HEA.out) (k := 3) rfl
    go_wp2_with (at_builtin; refine wpList_append_own_none rfl _ _ 35 rfl w2.heap.size 40 i0 4 Try.underlying35 Hi.out _ 0 [] rfl HO0.out rfl ?_)
    clear q0 q1 q2 q3
    generalize w2.alloc (.cells #[] 40) = w3 at *
    have HNO := Lib.hid (own4_nodes HOWN.out (by simp) (fun nd hnd => (HY.out nd hnd).ext HEW.out)).1
    have HN3 := Lib.hid (HN2.out.ext HEW.out)
    have HW3 := Lib.hid (HW2.out.ext HEW.out)
    have HV3 := Lib.hid (VRow.ext HV2.out HEW.out)
    have HE3 := Lib.hid (HE2.out.trans HEW.out)
    clear HOWN
    refine (checkAny_c a b c u _ f co ([] : List Nd) p _ HW3.out HNO.out).mono ?_
    rintro e w4 ⟨rfl, hE4⟩
    have HV4 := Lib.hid (VRow.ext HV3.out hE4)
    have HW4 := Lib.hid (HW3.out.ext hE4)
    have HN4 := Lib.hid (HN3.out.ext hE4)
    have HNO4 := Lib.hid (HNO.out.ext hE4)
    have HE4 := Lib.hid (HE3.out.trans hE4)
    clear HV3 HW3 HN3 HNO HE3 hE4
    have hck : chkV (whoB p) ([] : List Nd).length (accM p (goalsOf p f co) ([] : List Nd)) = .returned (.tuple #[.bool (whoB p && accM p (goalsOf p f co) ([] : List Nd)), .int .i64 (if whoB p = true then 0 else 2)]) := by
      simp [chkV]
    have hck2 : chkV (whoB p) ([] : List Nd).length (treeB p f co ([] : List Nd)) = .returned (.tuple #[.bool (whoB p && accM p (goalsOf p f co) ([] : List Nd)), .int .i64 (if whoB p = true then 0 else 2)]) := by
      rw [← hck]
      cases hw : whoB p with
      | false => simp [chkV]
      | true => rw [tree_acc hw]
    rw [hck]
    have HCK2 := Lib.hid hck2
    clear hck hck2
    generalize (whoB p && accM p (goalsOf p f co) ([] : List Nd)) = B at *
    generalize (if whoB p = true then (0 : Int) else 2) = E at *
    have q0 := VRow.cell HV4.out (k := 0) rfl
    have q1 := VRow.cell HV4.out (k := 1) rfl
    have q2 := VRow.cell HV4.out (k := 2) rfl
    have q3 := VRow.cell HV4.out (k := 3) rfl
    go_wp2_with fail
    clear q0 q1 q2 q3
    refine (scheck_c a b c u _ f co ([] : List Nd) p _ HW4.out HN4.out HCO.out).mono ?_
    rintro e w5 ⟨rfl, hE5⟩
    have HN5 := Lib.hid (HN4.out.ext hE5)
    have HNO5 := Lib.hid (HNO4.out.ext hE5)
    have HE5 := Lib.hid (HE4.out.trans hE5)
    clear HV4 HW4 HN4 HNO4 HE4 hE5
    rw [HCK2.out]
    have hbb : (B != B) = false := by simp
    have hee : (E != E) = false := by simp
    go_wp2_with fail
    clear hbb hee
    go_loopw [14] (fun i wr => ∃ k : Nat, k ≤ ([] : List Nd).length ∧ i = .int .i64 k ∧ ∃ n, wr = w5.drewN n) (fun i _ => ([] : List Nd).length - (intOf i).toNat)
    case atStart => exact ⟨0, Nat.zero_le _, rfl, 0, rfl⟩
    case round =>
      obtain ⟨k, hk, rfl, n, rfl⟩ := hrel
      by_cases hlt : k < ([] : List Nd).length
      · simp at hlt
      · have hi1 : ¬ (k : Int) < (([] : List Nd).length : Int) := by omega
        go_wp2_with fail
        refine (alive_c _).mono ?_
        rintro e w99 ⟨rfl, hE99⟩
        have HE99 := Lib.hid (Ext.trans (ext_drewN HE5.out n) hE99)
        clear hE99
        go_wp2_with fail
        go_ret
        exact ⟨rfl, HE99.out⟩
  · obtain ⟨ap, cp, e, hpc, hpm, hpk⟩ := HN2.out
    simp only [Value.slice.injEq] at e
    obtain ⟨rfl, rfl, rfl⟩ := e
    have HC : RowKit.Hid (∀ (j : Nat) (x : Value), (flat4 ns)[j]? = some x → (w2.alloc (.cells #[] 40)).cell? (ad.add j) = some x) := Lib.hid (by
      intro j x hx
      obtain ⟨k, nd, h1, h2⟩ := flat4_inv hx
      obtain ⟨bp, op, e, hk⟩ := hpk (by have := lt_len h1; omega)
      simp only [Option.some.injEq] at e
      subst e
      obtain ⟨x1, x2, x3, x4, _⟩ := hk k nd h1
      rw [addr_add]
      rcases h2 with ⟨rfl, rfl⟩ | ⟨rfl, rfl⟩ | ⟨rfl, rfl⟩ | ⟨rfl, rfl⟩
      · exact Ext.cell HEA.out x1
      · exact Ext.cell HEA.out (by rw [← Nat.add_assoc]; exact x2)
      · exact Ext.cell HEA.out (by rw [← Nat.add_assoc]; exact x3)
      · exact Ext.cell HEA.out (by rw [← Nat.add_assoc]; exact x4))
    clear hpk
    go_wp2_with (at_builtin; refine wpList_append_own _ rfl _ _ 35 rfl w2.heap.size 40 i0 _ 4 _ Try.underlying35 Hi.out Hz0.out Hz1.out Hz2.out rfl (by decide) _ 0 [] rfl HO0.out ad ns.length cap (flat4 ns) rfl (flat4_len ns) HC.out HONE.out (by unfold maxLen; omega) (by omega) hsz2 ?_)
    intro v' w3 hown hgrow hnil
    have hne : ¬ v' = .slice none 0 0 := by first | exact hnil | exact fun e => by have h9 := (hnil.1 e).1; simp at h9
    have hown2 : w3.ownsRow w2.heap.size 40 4 v' ns.length (flat4 ns) := by
      have := hown
      try rw [Nat.zero_add] at this
      simpa using this
    have HEW := Lib.hid (Below.grown HEA.out hgrow hsz2 (fun k e => by cases e; exact Nat.le_refl _))
    obtain ⟨_, g, cap2, rfl, hg⟩ := own4_nodes hown2 hne (fun nd hnd => (HY.out nd hnd).ext HEW.out)
    have HOWN := Lib.hid hown2
    try rw [Nat.zero_add]
    clear hown hgrow hnil hne hown2 HC
    have HNO := Lib.hid (own4_nodes HOWN.out (by simp) (fun nd hnd => (HY.out nd hnd).ext HEW.out)).1
    have HN3 := Lib.hid (HN2.out.ext HEW.out)
    have HW3 := Lib.hid (HW2.out.ext HEW.out)
    have HV3 := Lib.hid (VRow.ext HV2.out HEW.out)
    have HE3 := Lib.hid (HE2.out.trans HEW.out)
    have q0 := VRow.cell HV3.out (k := 0) rfl
    have q1 := VRow.cell HV3.out (k := 1) rfl
    have q2 := VRow.cell HV3.out (k := 2) rfl
    have q3 := VRow.cell HV3.out (k := 3) rfl
    clear HOWN
    go_wp2_with fail
    clear q0 q1 q2 q3
    refine (checkAny_c a b c u _ f co ns p _ HW3.out HNO.out).mono ?_
    rintro e w4 ⟨rfl, hE4⟩
    have HV4 := Lib.hid (VRow.ext HV3.out hE4)
    have HW4 := Lib.hid (HW3.out.ext hE4)
    have HN4 := Lib.hid (HN3.out.ext hE4)
    have HNO4 := Lib.hid (HNO.out.ext hE4)
    have HE4 := Lib.hid (HE3.out.trans hE4)
    clear HV3 HW3 HN3 HNO HE3 hE4
    have hck : chkV (whoB p) ns.length (accM p (goalsOf p f co) ns) = .returned (.tuple #[.bool (whoB p && accM p (goalsOf p f co) ns), .int .i64 (if whoB p = true then 0 else 2)]) := by
      simp [chkV, show ns.length ≤ 65535 by omega]
    have hck2 : chkV (whoB p) ns.length (treeB p f co ns) = .returned (.tuple #[.bool (whoB p && accM p (goalsOf p f co) ns), .int .i64 (if whoB p = true then 0 else 2)]) := by
      rw [← hck]
      cases hw : whoB p with
      | false => simp [chkV]
      | true => rw [tree_acc hw]
    rw [hck]
    have HCK2 := Lib.hid hck2
    clear hck hck2
    generalize (whoB p && accM p (goalsOf p f co) ns) = B at *
    generalize (if whoB p = true then (0 : Int) else 2) = E at *
    have q0 := VRow.cell HV4.out (k := 0) rfl
    have q1 := VRow.cell HV4.out (k := 1) rfl
    have q2 := VRow.cell HV4.out (k := 2) rfl
    have q3 := VRow.cell HV4.out (k := 3) rfl
    go_wp2_with fail
    clear q0 q1 q2 q3
    refine (scheck_c a b c u _ f co ns p _ HW4.out HN4.out HCO.out).mono ?_
    rintro e w5 ⟨rfl, hE5⟩
    have HN5 := Lib.hid (HN4.out.ext hE5)
    have HNO5 := Lib.hid (HNO4.out.ext hE5)
    have HE5 := Lib.hid (HE4.out.trans hE5)
    clear HV4 HW4 HN4 HNO4 HE4 hE5
    rw [HCK2.out]
    have hbb : (B != B) = false := by simp
    have hee : (E != E) = false := by simp
    go_wp2_with fail
    clear hbb hee
    go_loopw [14] (fun i wr => ∃ k : Nat, k ≤ ns.length ∧ i = .int .i64 k ∧ ∃ n, wr = w5.drewN n) (fun i _ => ns.length - (intOf i).toNat)
    case atStart => exact ⟨0, Nat.zero_le _, rfl, 0, rfl⟩
    case round =>
      obtain ⟨k, hk, rfl, n, rfl⟩ := hrel
      by_cases hlt : k < ns.length
      · obtain ⟨nd, hnd⟩ : ∃ nd, ns[k]? = some nd := ⟨ns[k], by simp⟩
        obtain ⟨a1, c1, e1, _, _, hk1⟩ := HNO5.out
        simp only [Value.slice.injEq] at e1
        obtain ⟨rfl, _, rfl⟩ := e1
        obtain ⟨b1, o1, e1, hk4⟩ := hk1 (by omega)
        simp only [Option.some.injEq, Addr.mk.injEq] at e1
        obtain ⟨rfl, rfl, _⟩ := e1
        obtain ⟨x1, x2, _, x4, _⟩ := hk4 k nd hnd
        simp only [Nat.zero_add] at x1 x2 x4
        obtain ⟨a2, c2, e2, _, _, hk2⟩ := HN5.out
        simp only [Value.slice.injEq] at e2
        obtain ⟨rfl, _, rfl⟩ := e2
        obtain ⟨b2, o2, e2, hk3⟩ := hk2 (by omega)
        simp only [Option.some.injEq] at e2
        subst e2
        obtain ⟨y1, y2, _, y4, _⟩ := hk3 k nd hnd
        have hi1 : (k : Int) < (ns.length : Int) := by omega
        have n1 : (nd.v != nd.v) = false := by simp
        have n2 : (nd.at' != nd.at') = false := by simp
        have n3 : (nd.d != nd.d) = false := by simp
        clear hk1 hk2 hk3 hk4 hnd
        go_wp2
        go_quiet (fail)
        go_wp2
        exact ⟨⟨k + 1, by omega, by go_num, _, (by first | rfl | exact World.drewN_drewN _ _ _)⟩, by simp [intOf]; omega⟩
      · have hi1 : ¬ (k : Int) < (ns.length : Int) := by omega
        go_wp2_with fail
        refine (alive_c _).mono ?_
        rintro e w99 ⟨rfl, hE99⟩
        have HE99 := Lib.hid (Ext.trans (ext_drewN HE5.out n) hE99)
        clear hE99
        go_wp2_with fail
        go_ret
        exact ⟨rfl, HE99.out⟩
end Go.Proofs.Ytblaipkhmmaenaa
