import Derived.Test.YtblaipkhmmaenaaC2
import Derived.Test.YtblaipkhmmaenaaB7
import Derived.Test.YtblaipkhmmaenaaC10
import Derived.Test.YtblaipkhmmaenaaKA
namespace Go.Proofs.Ytblaipkhmmaenaa
open Go.RowKit
set_option maxRecDepth 100000 in
set_option maxHeartbeats 1000000 in
theorem shaped_c (a b c u v : Value) (nv na d : Int) (p : Who) (y : List Int) (w : World) (h : WhoAt w a b c u p) (hy : Ints w v y) :
    Calls Try.prog 49 #[.agg #[a, b, c, u], .agg #[.int .i64 nv, .int .i64 na, v, .int .i64 d]] w fun e w' => e = .returned (.bool (leafB p.A.length y d)) ∧ Ext w w' := by
  obtain ⟨ax, cx, rfl, hxc, hxm, _⟩ := h.1.1.at
  have hy' := hy.at
  obtain ⟨ay, cy, rfl, hyc, hym, _⟩ := hy'
  dsimp only at *
  have Hy := Lib.hid hy
  clear h hy
  have HE := Lib.hid (Ext.alloc (Ext.alloc (Ext.refl w) (.cells #[.slice ax p.A.length cx, b, c, u] 25)) (.cells #[.int .i64 nv, .int .i64 na, .slice ay y.length cy, .int .i64 d] 40))
  have hs1 : (w.alloc (.cells #[.slice ax p.A.length cx, b, c, u] 25)).heap.size = w.heap.size + 1 := by simp
  have hn0 := vrow_alloc (w.alloc (.cells #[.slice ax p.A.length cx, b, c, u] 25)) [.int .i64 nv, .int .i64 na, .slice ay y.length cy, .int .i64 d] 40
  rw [hs1] at hn0
  have HN := Lib.hid hn0
  change Hid (VRow ((w.alloc (.cells #[.slice ax p.A.length cx, b, c, u] 25)).alloc (.cells #[.int .i64 nv, .int .i64 na, .slice ay y.length cy, .int .i64 d] 40)) _ _ _) at HN
  clear hs1 hn0
  by_cases h1 : y.length = p.A.length
  · have h1' : ((y.length : Int) != (p.A.length : Int)) = false := by rw [h1]; simp
    have H1 := Lib.hid h1
    clear h1
    by_cases h2 : 1 ≤ d
    · have h2' : ¬ d < 1 := by omega
      by_cases h3 : d ≤ 1099511627776
      · have h3' : ¬ 1099511627776 < d := by omega
        go_enter Try.func49, Try.ntmps49
        go_wp2
        have HR := Lib.hid ((Hy.out.ext HE.out))
        clear h1'
        generalize ((w.alloc (.cells #[.slice ax p.A.length cx, b, c, u] 25)).alloc (.cells #[.int .i64 nv, .int .i64 na, .slice ay y.length cy, .int .i64 d] 40)) = w1 at *
        go_loop [5] (fun i => ∃ k : Nat, k ≤ y.length ∧ i = .int .i64 k ∧ (y.take k).all proofB = true) (fun i => y.length - (intOf i).toNat)
        case atStart => exact ⟨0, Nat.zero_le _, rfl, rfl⟩
        case round =>
          obtain ⟨k, hk, rfl, hall⟩ := hrel
          have q2 := VRow.cell HN.out (k := 2) rfl
          by_cases hlt : k < y.length
          · obtain ⟨z, hz⟩ := getElem?_len hlt
            obtain ⟨_, _, e2, _, _, hr2⟩ := HR.out.at
            simp only [Value.slice.injEq] at e2
            obtain ⟨rfl, _, rfl⟩ := e2
            obtain ⟨b2, o2, rfl, hc2⟩ := hr2 k z hz
            clear hr2
            have Hall := Lib.hid hall
            have Hz := Lib.hid hz
            clear hall hz
            have hi2 : (k : Int) < (y.length : Int) := by omega
            by_cases h4 : 0 ≤ z
            · have h4' : ¬ z < 0 := by omega
              by_cases h5 : z ≤ 1099511627776
              · have h5' : ¬ 1099511627776 < z := by omega
                go_wp2
                refine ⟨⟨k + 1, by omega, by go_num, all_take_succ Hz.out Hall.out (by simp [proofB, h4, h5])⟩, by simp [intOf]; omega⟩
              · have h5' : 1099511627776 < z := by omega
                go_wp2
                go_ret
                refine ⟨ret_bool ?_, HE.out⟩
                have := all_false (p := proofB) Hz.out (by simp [proofB]; omega)
                simp only [leafB, this, Bool.and_false]
            · have h4' : z < 0 := by omega
              go_wp2
              go_ret
              refine ⟨ret_bool ?_, HE.out⟩
              have := all_false (p := proofB) Hz.out (by simp [proofB]; omega)
              simp only [leafB, this, Bool.and_false]
          · have Hd := Lib.hid (all_done (p := proofB) (by omega) hall)
            clear hall
            go_wp2
            go_ret
            refine ⟨ret_bool ?_, HE.out⟩
            simp [leafB, H1.out, h2, h3, Hd.out]
      · have h3' : 1099511627776 < d := by omega
        go_enter Try.func49, Try.ntmps49
        go_wp2
        go_ret
        refine ⟨ret_bool ?_, HE.out⟩
        simp only [leafB, decide_eq_false (show ¬ d ≤ 1099511627776 by omega), Bool.and_false, Bool.false_and]
    · have h2' : d < 1 := by omega
      go_enter Try.func49, Try.ntmps49
      go_wp2
      go_ret
      refine ⟨ret_bool ?_, HE.out⟩
      simp only [leafB, decide_eq_false (show ¬ 1 ≤ d by omega), Bool.and_false, Bool.false_and]
  · have h1' : ((y.length : Int) != (p.A.length : Int)) = true := by simp; omega
    go_enter Try.func49, Try.ntmps49
    go_wp2
    go_ret
    refine ⟨ret_bool ?_, HE.out⟩
    simp only [leafB, decide_eq_false h1, Bool.false_and]
end Go.Proofs.Ytblaipkhmmaenaa

namespace Go.Proofs.Ytblaipkhmmaenaa
open Go.RowKit
set_option maxRecDepth 100000 in
set_option maxHeartbeats 4000000 in
theorem rbound_c (a b c u v cv lv hv : Value) (nv na d : Int) (p : Who) (y lo hi costs : List Int) (w : World) (h : WhoAt w a b c u p) (hw : whoB p = true) (hy : Ints w v y) (hc : Ints w cv costs) (hL : Ints w lv lo) (hH : Ints w hv hi) (hleaf : leafB p.A.length y d = true)
    (hlo : lo.length = p.C.length) (hhi : hi.length = p.C.length) (hlb : ∀ x ∈ lo, 0 ≤ x ∧ x ≤ 7) (hhb : ∀ x ∈ hi, 0 ≤ x ∧ x ≤ 7) (hcl : costs.length = p.C.length) (hcb : ∀ x ∈ costs, -1000 ≤ x ∧ x ≤ 1000) :
    Calls Try.prog 50 #[.agg #[a, b, c, u], .agg #[.int .i64 nv, .int .i64 na, v, .int .i64 d], cv, lv, hv] w fun e w' => e = .returned (.int .i64 (boundZ p y d lo hi costs)) ∧ Ext w w' := by
  have HE := Lib.hid (Ext.alloc (Ext.alloc (Ext.refl w) (.cells #[a, b, c, u] 25)) (.cells #[.int .i64 nv, .int .i64 na, v, .int .i64 d] 40))
  have hm0 := VRow.alloc (vrow_alloc w [a, b, c, u] 25) (.cells #[.int .i64 nv, .int .i64 na, v, .int .i64 d] 40)
  have hn0 := vrow_alloc (w.alloc (.cells #[a, b, c, u] 25)) [.int .i64 nv, .int .i64 na, v, .int .i64 d] 40
  obtain ⟨ay, cy, rfl, hyc, hym, _⟩ := hy.at
  obtain ⟨ac, cc, rfl, hcc, hcm, _⟩ := hc.at
  obtain ⟨al, cl, rfl, hlc, hlm, _⟩ := hL.at
  obtain ⟨ah, ch, rfl, hhc, hhm, _⟩ := hH.at
  obtain ⟨ab, cb, rfl, hbc, hbm, _⟩ := h.1.2.1.at
  obtain ⟨aa, ca, rfl, hac, ham, _⟩ := h.1.1.at
  dsimp only at *
  have hs1 : (w.alloc (.cells #[.slice aa p.A.length ca, .slice ab p.B.length cb, c, u] 25)).heap.size = w.heap.size + 1 := by simp
  rw [hs1] at hn0
  have H := Lib.hid (h.ext HE.out)
  have Hy := Lib.hid (hy.ext HE.out)
  have Hc := Lib.hid (hc.ext HE.out)
  have HLo := Lib.hid (hL.ext HE.out)
  have HHi := Lib.hid (hH.ext HE.out)
  have Hv := Lib.hid hw
  have Hleaf := Lib.hid hleaf
  have Hlb := Lib.hid hlb
  have Hhb := Lib.hid hhb
  have Hlo := Lib.hid hlo
  have Hhi := Lib.hid hhi
  have Hcl := Lib.hid hcl
  have Hcb := Lib.hid hcb
  have HM := Lib.hid hm0
  have HN := Lib.hid hn0
  have hyl : y.length = p.A.length := (leafP hleaf).1
  have hpB := (pB (whoP hw).2.2.2)
  have hbl : p.B.length = p.A.length := hpB.2.2.1
  have Hyl := Lib.hid hyl
  have Hbl := Lib.hid hbl
  change Hid (VRow ((w.alloc (.cells #[.slice aa p.A.length ca, .slice ab p.B.length cb, c, u] 25)).alloc (.cells #[.int .i64 nv, .int .i64 na, .slice ay y.length cy, .int .i64 d] 40)) _ _ _) at HM
  change Hid (VRow ((w.alloc (.cells #[.slice aa p.A.length ca, .slice ab p.B.length cb, c, u] 25)).alloc (.cells #[.int .i64 nv, .int .i64 na, .slice ay y.length cy, .int .i64 d] 40)) _ _ _) at HN
  have HD := Lib.hid (sdot_c (.slice ay y.length cy) (.slice ab p.B.length cb) y p.B ((w.alloc (.cells #[.slice aa p.A.length ca, .slice ab p.B.length cb, c, u] 25)).alloc (.cells #[.int .i64 nv, .int .i64 na, .slice ay y.length cy, .int .i64 d] 40)) Hy.out H.out.1.2.1 (by omega))
  clear h hy hc hL hH hw hleaf hlb hhb hlo hhi hcl hcb hm0 hn0 hs1 hyl hbl hpB
  go_enter Try.func50, Try.ntmps50
  go_wp2_with fail
  generalize ((w.alloc (.cells #[.slice aa p.A.length ca, .slice ab p.B.length cb, c, u] 25)).alloc (.cells #[.int .i64 nv, .int .i64 na, .slice ay y.length cy, .int .i64 d] 40)) = w1 at *
  generalize w.heap.size = s at *
  refine HD.out.mono ?_
  rintro e w2 ⟨rfl, n0, rfl⟩
  go_wp2_with fail
  go_loopw [11, 12] (fun s i wr => ∃ k : Nat, k ≤ costs.length ∧ i = .int .i64 k ∧ s = .int .i64 (wrap64 (boundK p y d lo hi costs k)) ∧ ∃ n, wr = w1.drewN n) (fun _ i _ => costs.length - (intOf i).toNat)
  case atStart => exact ⟨0, Nat.zero_le _, rfl, rfl, n0, rfl⟩
  case round =>
    obtain ⟨k, hk, rfl, rfl, n, rfl⟩ := hrel
    by_cases hlt : k < costs.length
    · obtain ⟨co, hco⟩ := getElem?_len hlt
      obtain ⟨_, _, e2, _, _, hr2⟩ := Hc.out.at
      simp only [Value.slice.injEq] at e2
      obtain ⟨rfl, _, rfl⟩ := e2
      obtain ⟨b4, o4, rfl, hc4⟩ := hr2 k co hco
      have Hco := Lib.hid hco
      clear hr2 hco
      have hi4 : (k : Int) < (costs.length : Int) := by omega
      go_wp2_with fail
      go_loopw [13, 14] (fun r i wr => ∃ m : Nat, m ≤ p.A.length ∧ i = .int .i64 m ∧ r = .int .i64 (wrap64 (dotZ (y.take m) (colZ p.A k))) ∧ ∃ n, wr = w1.drewN n) (fun _ i _ => p.A.length - (intOf i).toNat)
      case atStart => exact ⟨0, Nat.zero_le _, rfl, by simp [dotZ_nil, wrap64], n, rfl⟩
      case round =>
        clear n
        obtain ⟨m, hm, rfl, rfl, n, rfl⟩ := hrel
        have q2 : (w1.drewN n).cell? ⟨s + 1, 2, none⟩ = _ := VRow.cell (VRow.drewN HN.out n) (k := 2) rfl
        have q3 : (w1.drewN n).cell? ⟨s + 1, 3, none⟩ = _ := VRow.cell (VRow.drewN HN.out n) (k := 3) rfl
        have q4 : (w1.drewN n).cell? ⟨s, 0, none⟩ = _ := VRow.cell (VRow.drewN HM.out n) (k := 0) rfl
        have p2 : w1.cell? ⟨s + 1, 2, none⟩ = _ := VRow.cell HN.out (k := 2) rfl
        have p3 : w1.cell? ⟨s + 1, 3, none⟩ = _ := VRow.cell HN.out (k := 3) rfl
        have p4 : w1.cell? ⟨s, 0, none⟩ = _ := VRow.cell HM.out (k := 0) rfl
        by_cases hmt : m < p.A.length
        · obtain ⟨z, hz⟩ := getElem?_len (show m < y.length by rw [Hyl.out]; exact hmt)
          obtain ⟨_, _, e2, _, _, hr2⟩ := Hy.out.at
          simp only [Value.slice.injEq] at e2
          obtain ⟨rfl, _, rfl⟩ := e2
          obtain ⟨b2, o2, rfl, hc2⟩ := hr2 m z hz
          obtain ⟨r, hr⟩ := getElem?_len hmt
          obtain ⟨_, _, e3, _, _, hr3⟩ := H.out.1.1.at
          simp only [Value.slice.injEq] at e3
          obtain ⟨rfl, _, rfl⟩ := e3
          obtain ⟨b3, o3, uu, rfl, hc3, hur⟩ := hr3 m r hr
          obtain ⟨ar, cr, rfl, hrl, hrm, hrr⟩ := hur.at
          have hrl2 : r.length = p.C.length := (pB (whoP Hv.out).2.2.2).2.2.2 r (List.mem_of_getElem? hr)
          obtain ⟨x, hx⟩ := getElem?_len (show k < r.length by rw [hrl2, ← Hcl.out]; exact hlt)
          obtain ⟨b5, o5, rfl, hc5⟩ := hrr k x hx
          have hi5 : (k : Int) < (r.length : Int) := by rw [hrl2, ← Hcl.out]; omega
          have hi6 : (m : Int) < (p.A.length : Int) := by omega
          have hi7 : (m : Int) < (y.length : Int) := by rw [Hyl.out]; omega
          have Hs := Lib.hid (dotZ_take_succ y (colZ p.A k) m z x hz (colZ_get hr hx))
          clear hr2 hr3 hrr hz hr hx hur hrl2
          go_wp2
          go_quiet (fail)
          go_wp2
          refine ⟨⟨m + 1, by omega, by go_num, ?_, _, (by first | rfl | exact World.drewN_drewN _ _ _)⟩, by simp [intOf]; omega⟩
          rw [Hs.out, wrap64_add, wrap64_add']
        · have hmk : m = p.A.length := by omega
          subst hmk
          have hi6 : ¬ ((p.A.length : Nat) : Int) < (p.A.length : Int) := by omega
          rw [show y.take p.A.length = y by rw [← Hyl.out, List.take_length]]
          have hR := restW Hv.out Hleaf.out Hcb.out hlt Hco.out
          have HR := Lib.hid (restZ_bd Hv.out Hleaf.out Hcb.out hlt)
          obtain ⟨lz, hlz⟩ := getElem?_len (show k < lo.length by rw [Hlo.out, ← Hcl.out]; exact hlt)
          obtain ⟨hz, hhz⟩ := getElem?_len (show k < hi.length by rw [Hhi.out, ← Hcl.out]; exact hlt)
          obtain ⟨_, _, e5, _, _, hr5⟩ := HLo.out.at
          simp only [Value.slice.injEq] at e5
          obtain ⟨rfl, _, rfl⟩ := e5
          obtain ⟨b7, o7, rfl, hc7⟩ := hr5 k lz hlz
          obtain ⟨_, _, e6, _, _, hr6⟩ := HHi.out.at
          simp only [Value.slice.injEq] at e6
          obtain ⟨rfl, _, rfl⟩ := e6
          obtain ⟨b8, o8, rfl, hc8⟩ := hr6 k hz hhz
          have hi8 : (k : Int) < (lo.length : Int) := by rw [Hlo.out, ← Hcl.out]; omega
          have hi9 : (k : Int) < (hi.length : Int) := by rw [Hhi.out, ← Hcl.out]; omega
          have HP := Lib.hid (part_eq (p := p) (y := y) (d := d) (costs := costs) hlz hhz)
          have Hl7 := Lib.hid (Hlb.out lz (List.mem_of_getElem? hlz))
          have Hh7 := Lib.hid (Hhb.out hz (List.mem_of_getElem? hhz))
          clear hr5 hr6 hlz hhz
          have hsub : wrap64 (wrap64 (co * d) - wrap64 (dotZ y (colZ p.A k))) = restZ p y d costs k := by rw [wrap64_sub2, hR]
          clear hR
          generalize restZ p y d costs k = R at *
          have hw1 : wrap64 (lz * R) = lz * R := part_w HR.out Hl7.out
          have hw2 : wrap64 (hz * R) = hz * R := part_w HR.out Hh7.out
          obtain ⟨A1, hA1⟩ : ∃ A1, A1 = lz * R := ⟨_, rfl⟩
          obtain ⟨A2, hA2⟩ : ∃ A2, A2 = hz * R := ⟨_, rfl⟩
          rw [← hA1] at HP
          rw [← hA2] at HP
          have hv1 : wrap64 (lz * R) = A1 := by rw [hw1, hA1]
          have hv2 : wrap64 (hz * R) = A2 := by rw [hw2, hA2]
          clear hw1 hw2 hA1 hA2
          rcases Int.lt_trichotomy A1 A2 with hcm | hcm | hcm
          · have HEQ : RowKit.Hid (partZ p y d lo hi costs k = A1) := Lib.hid (by rw [HP.out]; omega)
            go_wp2
            go_quiet (fail)
            go_wp2
            go_quiet (fail)
            go_wp2
            exact ⟨⟨k + 1, by omega, by go_num, by rw [boundK, HEQ.out, wrap64_add], _, rfl⟩, by simp [intOf]; omega⟩
          · subst hcm
            have HEQ : RowKit.Hid (partZ p y d lo hi costs k = A1) := Lib.hid (by rw [HP.out]; omega)
            go_wp2
            go_quiet (fail)
            go_wp2
            go_quiet (fail)
            go_wp2
            exact ⟨⟨k + 1, by omega, by go_num, by rw [boundK, HEQ.out, wrap64_add], _, rfl⟩, by simp [intOf]; omega⟩
          · have HEQ : RowKit.Hid (partZ p y d lo hi costs k = A2) := Lib.hid (by rw [HP.out]; omega)
            go_wp2
            go_quiet (fail)
            go_wp2
            go_quiet (fail)
            go_wp2
            exact ⟨⟨k + 1, by omega, by go_num, by rw [boundK, HEQ.out, wrap64_add], _, rfl⟩, by simp [intOf]; omega⟩
    · have hk' : k = costs.length := by omega
      subst hk'
      have hi4 : ¬ ((costs.length : Nat) : Int) < (costs.length : Int) := by omega
      have HBD := Lib.hid (boundW Hv.out Hleaf.out (by rw [Hcl.out]; exact Nat.le_refl _) Hcb.out Hlb.out Hhb.out)
      go_wp2
      go_ret
      refine ⟨ret_int ?_, ext_drewN HE.out _⟩
      rw [HBD.out]
      rfl
end Go.Proofs.Ytblaipkhmmaenaa

namespace Go.Proofs.Ytblaipkhmmaenaa
open Go.RowKit
theorem own_heap {W : World} {base n g cap : Nat} {e : TypeId} {xs : List Value} (h : W.ownsRow base e 1 (.slice (some ⟨g, 0, none⟩) n cap) n xs) :
    base ≤ g ∧ ∃ cur, W.heap[g]? = some (.cells cur e (0, 0)) ∧ n ≤ cap ∧ cap ≤ maxLen ∧ cur.size = cap * 1 ∧ cur.toList.take (n * 1) = xs := by
  rcases h.2 with ⟨h0, _⟩ | ⟨g2, cap', cur, hv, hg, hh, r⟩
  · simp at h0
  · simp only [Value.slice.injEq, Option.some.injEq, Addr.mk.injEq] at hv
    obtain ⟨⟨rfl, _⟩, _, rfl⟩ := hv
    exact ⟨hg, cur, hh, r⟩
theorem own_set {W : World} {base n g cap : Nat} {e : TypeId} {xs : List Value} (h : W.ownsRow base e 1 (.slice (some ⟨g, 0, none⟩) n cap) n xs) (j : Nat) (x : Value) :
    (W.setCell ⟨g, j, none⟩ x).ownsRow base e 1 (.slice (some ⟨g, 0, none⟩) n cap) n (xs.set j x) := by
  obtain ⟨hb, cur, hh, h1, h2, h3, h4⟩ := own_heap h
  refine ⟨by simpa using h.1, .inr ⟨g, cap, cur.setIfInBounds j x, rfl, hb, ?_, h1, h2, by simpa using h3, ?_⟩⟩
  · simp [World.setCell, Array.getElem?_modify, hh]
  · rw [Array.toList_setIfInBounds, List.take_set, h4]
theorem own_one {W : World} {base n g cap : Nat} {e : TypeId} {xs : List Value} (h : W.ownsRow base e 1 (.slice (some ⟨g, 0, none⟩) n cap) n xs) {j : Nat} {x : Value} (hx : xs[j]? = some x) :
    W.cell? ⟨g, j, none⟩ = some x ∧ W.frozen? ⟨g, j, none⟩ = false := by
  obtain ⟨hb, cur, hh, h1, h2, h3, h4⟩ := own_heap h
  have hlt := lt_len hx
  rw [← h4] at hx hlt
  simp only [List.length_take] at hlt
  rw [List.getElem?_take_of_lt (by omega), Array.getElem?_toList] at hx
  exact ⟨by simp [World.cell?, hh, hx], by simp [World.frozen?, hh]⟩
set_option maxRecDepth 100000 in
set_option maxHeartbeats 1000000 in
theorem with_c (v : Value) (l : List Int) (j : Nat) (x : Int) (w : World) (h : Ints w v l) (hj : j < l.length) (h7 : l.length ≤ 7) :
    Calls Try.prog 39 #[v, .int .i64 j, .int .i64 x] w fun e w' => ∃ v', e = .returned v' ∧ Ints w' v' (l.set j x) ∧ Ext w w' := by
  obtain ⟨i0, hi, hz0, hz1, hz2⟩ := info_parts Try.info3
  obtain ⟨al, cl, rfl, hlc, hlm, hr⟩ := h.at
  obtain ⟨z, hz⟩ := getElem?_len hj
  obtain ⟨b, o, rfl, _⟩ := hr j z hz
  have HC : RowKit.Hid (∀ (k : Nat) (u : Value), (l.map (Value.int .i64))[k]? = some u → w.cell? ((⟨b, o, none⟩ : Addr).add k) = some u) := Lib.hid (by
    intro k u hu
    simp only [List.getElem?_map, Option.map_eq_some_iff] at hu
    obtain ⟨y, hy, rfl⟩ := hu
    obtain ⟨b2, o2, e2, hc2⟩ := hr k y hy
    simp only [Option.some.injEq, Addr.mk.injEq] at e2
    obtain ⟨rfl, rfl, _⟩ := e2
    rw [addr_add]
    exact hc2)
  have HZ := Lib.hid hz
  have Hi := Lib.hid hi
  have Hz0 := Lib.hid hz0
  have Hz1 := Lib.hid hz1
  have Hz2 := Lib.hid hz2
  clear h hr hz hi hz0 hz1 hz2
  have hi1 : (j : Int) < (l.length : Int) := by omega
  go_enter Try.func39, Try.ntmps39
  go_wp2_with (at_builtin; refine wpList_append_own _ rfl _ _ 23 rfl w.heap.size 3 i0 (.int .i64 0) 1 8 Try.underlying23 Hi.out Hz0.out Hz1.out Hz2.out rfl (by decide) _ 0 [] rfl (World.ownsRow_nil _ _ _ _) ⟨b, o, none⟩ l.length cl (l.map (Value.int .i64)) rfl (by simp) HC.out (fun u hu => by simp at hu; obtain ⟨y, _, rfl⟩ := hu; rfl) (by unfold maxLen; omega) (by omega) (Nat.le_refl _) ?_)
  intro v' w1 hown hgrow hnil
  have hne : ¬ v' = .slice none 0 0 := fun e => by have h9 : l = [] := hnil.1 e; rw [h9] at hj; simp at hj
  obtain ⟨g, cap, rfl, hg⟩ := own_some hown hne
  have hown2 : w1.ownsRow w.heap.size 3 1 (.slice (some ⟨g, 0, none⟩) l.length cap) l.length (l.map (Value.int .i64)) := by
    have := hown
    try rw [Nat.zero_add] at this
    simpa using this
  obtain ⟨hc1, hf1⟩ := own_one hown2 (j := j) (x := .int .i64 z) (by simp [HZ.out])
  have HO := Lib.hid (own_set hown2 j (.int .i64 x))
  have HE := Lib.hid (Below.setCell (p := ⟨g, j, none⟩) (Below.grown (Ext.refl w) hgrow (Nat.le_refl _) (fun k e => by cases e)) hg (.int .i64 x))
  try rw [Nat.zero_add]
  clear hown hgrow hnil hne hown2
  go_wp2
  go_ret
  exact ⟨_, rfl, own_ints (by have := HO.out; rwa [← List.map_set] at this), HE.out⟩
end Go.Proofs.Ytblaipkhmmaenaa

namespace Go.Proofs.Ytblaipkhmmaenaa
open Go.RowKit
def MP.intsR (xs : List Int) : MP := ⟨fun v W => Ints W v xs, fun _ _ _ h hh => hh.ext h⟩
def MP.open89 (s : Nat) : MP := ⟨fun v W => ∃ r, v = .pointer (some ⟨r, 0, none⟩) ∧ VRow W r 89 [.bool false, .slice none 0 0] ∧ s ≤ r, fun _ _ _ h hh => by
  obtain ⟨r, e, h1, h2⟩ := hh
  exact ⟨r, e, VRow.ext h1 h, h2⟩⟩
theorem costs7 {p : Who} (hv : whoB p = true) : ∀ x ∈ p.C, -1000 ≤ x ∧ x ≤ 1000 := (goals_in hv true 0 (p.C, 0) (by simp [goalsOf])).2
def sgoodB (p : Who) (y : List Int) (d : Int) (lo hi : List Int) (f : Bool) (cost : Int) : Bool :=
  leafB p.A.length y d && (decide (0 < boundZ p y d lo hi (List.replicate p.C.length 0)) || (f && decide ((cost - 1) * d < boundZ p y d lo hi p.C)))
set_option maxRecDepth 100000 in
set_option maxHeartbeats 8000000 in
theorem sgood_c (a b c u v lv hv : Value) (nv na d : Int) (p : Who) (y lo hi : List Int) (f : Bool) (cost : Int) (w : World) (h : WhoAt w a b c u p) (hw : whoB p = true) (hy : Ints w v y) (hL : Ints w lv lo) (hH : Ints w hv hi)
    (hlo : lo.length = p.C.length) (hhi : hi.length = p.C.length) (hlb : ∀ x ∈ lo, 0 ≤ x ∧ x ≤ 7) (hhb : ∀ x ∈ hi, 0 ≤ x ∧ x ≤ 7) (hcost : in64 cost) :
    Calls Try.prog 38 #[.agg #[a, b, c, u], .agg #[.int .i64 nv, .int .i64 na, v, .int .i64 d], lv, hv, .bool f, .int .i64 cost] w fun e w' => e = .returned (.bool (sgoodB p y d lo hi f cost)) ∧ Ext w w' := by
  have hE := Ext.alloc (Ext.alloc (Ext.refl w) (.cells #[a, b, c, u] 25)) (.cells #[.int .i64 nv, .int .i64 na, v, .int .i64 d] 40)
  have hm0 := VRow.alloc (vrow_alloc w [a, b, c, u] 25) (.cells #[.int .i64 nv, .int .i64 na, v, .int .i64 d] 40)
  have hn0 := vrow_alloc (w.alloc (.cells #[a, b, c, u] 25)) [.int .i64 nv, .int .i64 na, v, .int .i64 d] 40
  obtain ⟨ac, cc, rfl, hcc, hcm, _⟩ := h.1.2.2.at
  dsimp only at *
  have hs1 : (w.alloc (.cells #[a, b, .slice ac p.C.length cc, u] 25)).heap.size = w.heap.size + 1 := by simp
  rw [hs1] at hn0
  have HW := Lib.hid (h.ext hE)
  have HY := Lib.hid (hy.ext hE)
  have HLo := Lib.hid (hL.ext hE)
  have HHi := Lib.hid (hH.ext hE)
  have HE := Lib.hid hE
  have Hw := Lib.hid hw
  have Hlb := Lib.hid hlb
  have Hhb := Lib.hid hhb
  have Hlo := Lib.hid hlo
  have Hhi := Lib.hid hhi
  have Hcost := Lib.hid hcost
  have HM := Lib.hid hm0
  have HN := Lib.hid hn0
  have hC5 : p.C.length ≤ 5 := (whoP hw).1
  have hmk := run_make_row' (P := Try.prog) 23 3 (.int .i64 0) 8 Try.underlying23 Try.info3 rfl .i64 .i64 p.C.length (by omega) (by omega)
  have HMK := Lib.hid hmk
  change Hid (VRow ((w.alloc (.cells #[a, b, .slice ac p.C.length cc, u] 25)).alloc (.cells #[.int .i64 nv, .int .i64 na, v, .int .i64 d] 40)) _ _ _) at HM
  change Hid (VRow ((w.alloc (.cells #[a, b, .slice ac p.C.length cc, u] 25)).alloc (.cells #[.int .i64 nv, .int .i64 na, v, .int .i64 d] 40)) _ _ _) at HN
  clear h hy hL hH hw hlb hhb hlo hhi hcost hm0 hn0 hs1 hE hmk
  go_enter Try.func38, Try.ntmps38
  have q0 := VRow.cell HM.out (k := 0) rfl
  go_wp2_with fail
  clear q0
  generalize (w.alloc (.cells #[a, b, .slice ac p.C.length cc, u] 25)).alloc (.cells #[.int .i64 nv, .int .i64 na, v, .int .i64 d] 40) = w1 at *
  have hsw : w.heap.size ≤ w.heap.size := Nat.le_refl _
  generalize hs : w.heap.size = s at *
  refine (shaped_c a b _ u v nv na d p y w1 HW.out HY.out).mono ?_
  rintro e w2 ⟨rfl, hE2⟩
  have HW := Lib.hid (HW.out.ext hE2)
  have HY := Lib.hid (HY.out.ext hE2)
  have HLo := Lib.hid (HLo.out.ext hE2)
  have HHi := Lib.hid (HHi.out.ext hE2)
  have HM := Lib.hid (VRow.ext HM.out hE2)
  have HN := Lib.hid (VRow.ext HN.out hE2)
  have HE := Lib.hid (HE.out.trans hE2)
  clear hE2
  cases hleaf : leafB p.A.length y d with
  | false =>
    have HLF := Lib.hid hleaf
    clear hleaf
    go_wp2_with fail
    go_ret
    exact ⟨ret_bool (by simp only [sgoodB, HLF.out, Bool.false_and]), HE.out⟩
  | true =>
    have HLF := Lib.hid hleaf
    clear hleaf
    have Hd : RowKit.Hid (in64 d) := Lib.hid (by have := leafP HLF.out; unfold in64; omega)
    obtain ⟨Z, hZ⟩ : ∃ Z, Z = boundZ p y d lo hi (List.replicate p.C.length 0) := ⟨_, rfl⟩
    obtain ⟨Y, hY⟩ : ∃ Y, Y = boundZ p y d lo hi p.C := ⟨_, rfl⟩
    have HZ := Lib.hid hZ
    have HY2 := Lib.hid hY
    have HYB := Lib.hid (boundZ_bd Hw.out HLF.out (costs := p.C) (Nat.le_refl _) (costs7 Hw.out) Hlb.out Hhb.out)
    rw [← hY] at HYB
    have HSZ := Lib.hid (show sgoodB p y d lo hi f cost = (decide (0 < Z) || (f && decide ((cost - 1) * d < Y))) by rw [sgoodB, HLF.out, hZ, hY, Bool.true_and])
    clear hZ hY
    by_cases hpos : 0 < Z
    · go_wp2_with fail
      refine wp_region_stable [⟨[], none⟩, ⟨[], none⟩, ⟨[], none⟩, ⟨[(2, 20)], none⟩, ⟨[(3, 21)], none⟩, ⟨[(4, 22)], none⟩, ⟨[], none⟩, ⟨[], none⟩, ⟨[(0, 18), (1, 19), (5, 23), (6, 24), (7, 25)], none⟩, ⟨[(8, 26)], none⟩] (fun x y => Below x.heap.size x y) (MPat [MP.eq (.agg #[a, b, .slice ac p.C.length cc, u]), MP.eq (.agg #[.int .i64 nv, .int .i64 na, v, .int .i64 d]), MP.eq (.pointer (some ⟨s, 2, none⟩)), MP.eq (.slice ac p.C.length cc), MP.eq (.int .i64 p.C.length), MP.intsR (List.replicate p.C.length 0), MP.eq (lv), MP.eq (hv), MP.eq (.int .i64 Z), MP.eq (.bool true)]) (by kernel_rfl) (fun _ _ _ h k => Ext.trans h k) (fun _ => Below.refl _ _) (fun x => (Below.refl x.heap.size x).drew) (MPat.mono _) (by kernel_rfl) ?obs ?rest
      case obs =>
        refine ⟨?_, ?_, ?_, ?_, ?_, ?_, ?_, ?_, ?_, ?_, trivial⟩
        · intro ev W hf _ _ hst hd
          have e6 : ev (.tmp 6) = .pointer (some ⟨s, 0, none⟩) := hf 6 (by kernel_rfl)
          have kk := VRow.ext HM.out hst
          have k0 := VRow.cell kk (k := 0) rfl
          have k1 := VRow.cell kk (k := 1) rfl
          have k2 := VRow.cell kk (k := 2) rfl
          have k3 := VRow.cell kk (k := 3) rfl
          refine st_value (v := .agg #[a, b, .slice ac p.C.length cc, u]) ?_ (Below.refl _ _) ?_
          · simp [execOp, go_sem, e6, k0, k1, k2, k3]
          · exact rfl
        · intro ev W hf _ _ hst hd
          have e7 : ev (.tmp 7) = .pointer (some ⟨s + 1, 0, none⟩) := hf 7 (by kernel_rfl)
          have kk := VRow.ext HN.out hst
          have k0 := VRow.cell kk (k := 0) rfl
          have k1 := VRow.cell kk (k := 1) rfl
          have k2 := VRow.cell kk (k := 2) rfl
          have k3 := VRow.cell kk (k := 3) rfl
          refine st_value (v := .agg #[.int .i64 nv, .int .i64 na, v, .int .i64 d]) ?_ (Below.refl _ _) ?_
          · simp [execOp, go_sem, e7, k0, k1, k2, k3]
          · exact rfl
        · intro ev W hf _ _ hst hd
          have e6 : ev (.tmp 6) = .pointer (some ⟨s, 0, none⟩) := hf 6 (by kernel_rfl)
          refine st_value (v := .pointer (some ⟨s, 2, none⟩)) ?_ (Below.refl _ _) ?_
          · simp [execOp, go_sem, e6]
          · exact rfl
        · intro ev W hf _ _ hst hd
          obtain ⟨d20, _⟩ := hd
          have e20 : ev (.tmp 20) = .pointer (some ⟨s, 2, none⟩) := d20
          have kk := VRow.ext HM.out hst
          have k2 := VRow.cell kk (k := 2) rfl
          refine st_value (v := .slice ac p.C.length cc) ?_ (Below.refl _ _) ?_
          · simp [execOp, go_sem, e20, k2]
          · exact rfl
        · intro ev W hf _ _ hst hd
          obtain ⟨d21, _⟩ := hd
          have e21 : ev (.tmp 21) = .slice ac p.C.length cc := d21
          refine st_value (v := .int .i64 p.C.length) ?_ (Below.refl _ _) ?_
          · simp [go_sem, e21]
          · exact rfl
        · intro ev W hf _ hfn hst hd
          obtain ⟨d22, _⟩ := hd
          have e22 : ev (.tmp 22) = .int .i64 p.C.length := d22
          have hmk := HMK.out W
          refine st_new (v := .slice (some ⟨W.heap.size, 0, none⟩) p.C.length p.C.length) (o := .cells (madeCells #[.int .i64 0] p.C.length) 3) ?_ ?_
          · simp [execOp, go_sem, e22, hmk]
          · exact IRow.ints' (irow_made W p.C.length 3) (by simp) (by simp) (by omega)
        · intro ev W hf _ _ hst hd
          have e2 : ev (.tmp 2) = lv := hf 2 (by kernel_rfl)
          refine st_value (v := lv) ?_ (Below.refl _ _) ?_
          · simp [execOp, go_sem, e2]
          · exact rfl
        · intro ev W hf _ _ hst hd
          have e3 : ev (.tmp 3) = hv := hf 3 (by kernel_rfl)
          refine st_value (v := hv) ?_ (Below.refl _ _) ?_
          · simp [execOp, go_sem, e3]
          · exact rfl
        · intro ev W hf _ hfn hst hd
          obtain ⟨d18, d19, d23, d24, d25, _⟩ := hd
          have e18 : ev (.tmp 18) = .agg #[a, b, .slice ac p.C.length cc, u] := d18
          have e19 : ev (.tmp 19) = .agg #[.int .i64 nv, .int .i64 na, v, .int .i64 d] := d19
          have e24 : ev (.tmp 24) = lv := d24
          have e25 : ev (.tmp 25) = hv := d25
          have d23 : Ints W (ev (.tmp 23)) (List.replicate p.C.length 0) := d23
          obtain ⟨a9, c9, e23, _, _, _⟩ := d23.at
          rw [e23] at d23
          refine st_enter (f := 50) (args := #[.agg #[a, b, .slice ac p.C.length cc, u], .agg #[.int .i64 nv, .int .i64 na, v, .int .i64 d], .slice a9 (List.replicate p.C.length (0 : Int)).length c9, lv, hv]) (by simp [execOp, go_sem, hfn, e18, e19, e24, e25, e23]) ?_
          refine (rbound_c a b _ u v _ lv hv nv na d p y lo hi (List.replicate p.C.length 0) W (HW.out.ext hst) Hw.out (HY.out.ext hst) d23 (HLo.out.ext hst) (HHi.out.ext hst) HLF.out Hlo.out Hhi.out Hlb.out Hhb.out (by simp) (fun x hx => by rw [(List.mem_replicate.1 hx).2]; omega)).mono ?_
          rintro e w' ⟨rfl, hE⟩
          exact ⟨_, rfl, hE, by rw [← HZ.out]; exact rfl⟩
        · intro ev W hf hcst _ hst hd
          obtain ⟨d26, _⟩ := hd
          have e26 : ev (.tmp 26) = .int .i64 Z := d26
          refine st_value (v := .bool true) ?_ (Below.refl _ _) ?_
          · simp [execOp, go_sem, e26, hcst, hpos]
          · exact rfl
      case rest =>
        intro vs w3 hl hst hg
        have hlast : ∀ u, vs[9]? = some u → u = .bool true := fun u hu => hg 9 u hu
        have HE3 := Lib.hid hst
        clear hg hst
        obtain ⟨x0, vs0, rfl, hl0⟩ := len_succ hl
        obtain ⟨x1, vs1, rfl, hl1⟩ := len_succ hl0
        obtain ⟨x2, vs2, rfl, hl2⟩ := len_succ hl1
        obtain ⟨x3, vs3, rfl, hl3⟩ := len_succ hl2
        obtain ⟨x4, vs4, rfl, hl4⟩ := len_succ hl3
        obtain ⟨x5, vs5, rfl, hl5⟩ := len_succ hl4
        obtain ⟨x6, vs6, rfl, hl6⟩ := len_succ hl5
        obtain ⟨x7, vs7, rfl, hl7⟩ := len_succ hl6
        obtain ⟨x8, vs8, rfl, hl8⟩ := len_succ hl7
        obtain ⟨x9, vs9, rfl, hl9⟩ := len_succ hl8
        have hnil : vs9 = [] := List.length_eq_zero_iff.1 hl9
        subst hnil
        obtain rfl : x9 = .bool true := hlast _ rfl
        clear hlast
        simp only [putAll, Act.put, List.setIfInBounds_toArray, List.set_cons_zero, List.set_cons_succ]
        go_wp2_with fail
        go_ret
        exact ⟨ret_bool (by rw [HSZ.out, decide_eq_true hpos]; rfl), HE.out.trans HE3.out⟩
    · cases f with
      | false =>
        go_wp2_with fail
        refine wp_region_stable [⟨[], none⟩, ⟨[], none⟩, ⟨[], none⟩, ⟨[(2, 20)], none⟩, ⟨[(3, 21)], none⟩, ⟨[(4, 22)], none⟩, ⟨[], none⟩, ⟨[], none⟩, ⟨[(0, 18), (1, 19), (5, 23), (6, 24), (7, 25)], none⟩, ⟨[(8, 26)], none⟩] (fun x y => Below x.heap.size x y) (MPat [MP.eq (.agg #[a, b, .slice ac p.C.length cc, u]), MP.eq (.agg #[.int .i64 nv, .int .i64 na, v, .int .i64 d]), MP.eq (.pointer (some ⟨s, 2, none⟩)), MP.eq (.slice ac p.C.length cc), MP.eq (.int .i64 p.C.length), MP.intsR (List.replicate p.C.length 0), MP.eq (lv), MP.eq (hv), MP.eq (.int .i64 Z), MP.eq (.bool false)]) (by kernel_rfl) (fun _ _ _ h k => Ext.trans h k) (fun _ => Below.refl _ _) (fun x => (Below.refl x.heap.size x).drew) (MPat.mono _) (by kernel_rfl) ?obs ?rest
        case obs =>
          refine ⟨?_, ?_, ?_, ?_, ?_, ?_, ?_, ?_, ?_, ?_, trivial⟩
          · intro ev W hf _ _ hst hd
            have e6 : ev (.tmp 6) = .pointer (some ⟨s, 0, none⟩) := hf 6 (by kernel_rfl)
            have kk := VRow.ext HM.out hst
            have k0 := VRow.cell kk (k := 0) rfl
            have k1 := VRow.cell kk (k := 1) rfl
            have k2 := VRow.cell kk (k := 2) rfl
            have k3 := VRow.cell kk (k := 3) rfl
            refine st_value (v := .agg #[a, b, .slice ac p.C.length cc, u]) ?_ (Below.refl _ _) ?_
            · simp [execOp, go_sem, e6, k0, k1, k2, k3]
            · exact rfl
          · intro ev W hf _ _ hst hd
            have e7 : ev (.tmp 7) = .pointer (some ⟨s + 1, 0, none⟩) := hf 7 (by kernel_rfl)
            have kk := VRow.ext HN.out hst
            have k0 := VRow.cell kk (k := 0) rfl
            have k1 := VRow.cell kk (k := 1) rfl
            have k2 := VRow.cell kk (k := 2) rfl
            have k3 := VRow.cell kk (k := 3) rfl
            refine st_value (v := .agg #[.int .i64 nv, .int .i64 na, v, .int .i64 d]) ?_ (Below.refl _ _) ?_
            · simp [execOp, go_sem, e7, k0, k1, k2, k3]
            · exact rfl
          · intro ev W hf _ _ hst hd
            have e6 : ev (.tmp 6) = .pointer (some ⟨s, 0, none⟩) := hf 6 (by kernel_rfl)
            refine st_value (v := .pointer (some ⟨s, 2, none⟩)) ?_ (Below.refl _ _) ?_
            · simp [execOp, go_sem, e6]
            · exact rfl
          · intro ev W hf _ _ hst hd
            obtain ⟨d20, _⟩ := hd
            have e20 : ev (.tmp 20) = .pointer (some ⟨s, 2, none⟩) := d20
            have kk := VRow.ext HM.out hst
            have k2 := VRow.cell kk (k := 2) rfl
            refine st_value (v := .slice ac p.C.length cc) ?_ (Below.refl _ _) ?_
            · simp [execOp, go_sem, e20, k2]
            · exact rfl
          · intro ev W hf _ _ hst hd
            obtain ⟨d21, _⟩ := hd
            have e21 : ev (.tmp 21) = .slice ac p.C.length cc := d21
            refine st_value (v := .int .i64 p.C.length) ?_ (Below.refl _ _) ?_
            · simp [go_sem, e21]
            · exact rfl
          · intro ev W hf _ hfn hst hd
            obtain ⟨d22, _⟩ := hd
            have e22 : ev (.tmp 22) = .int .i64 p.C.length := d22
            have hmk := HMK.out W
            refine st_new (v := .slice (some ⟨W.heap.size, 0, none⟩) p.C.length p.C.length) (o := .cells (madeCells #[.int .i64 0] p.C.length) 3) ?_ ?_
            · simp [execOp, go_sem, e22, hmk]
            · exact IRow.ints' (irow_made W p.C.length 3) (by simp) (by simp) (by omega)
          · intro ev W hf _ _ hst hd
            have e2 : ev (.tmp 2) = lv := hf 2 (by kernel_rfl)
            refine st_value (v := lv) ?_ (Below.refl _ _) ?_
            · simp [execOp, go_sem, e2]
            · exact rfl
          · intro ev W hf _ _ hst hd
            have e3 : ev (.tmp 3) = hv := hf 3 (by kernel_rfl)
            refine st_value (v := hv) ?_ (Below.refl _ _) ?_
            · simp [execOp, go_sem, e3]
            · exact rfl
          · intro ev W hf _ hfn hst hd
            obtain ⟨d18, d19, d23, d24, d25, _⟩ := hd
            have e18 : ev (.tmp 18) = .agg #[a, b, .slice ac p.C.length cc, u] := d18
            have e19 : ev (.tmp 19) = .agg #[.int .i64 nv, .int .i64 na, v, .int .i64 d] := d19
            have e24 : ev (.tmp 24) = lv := d24
            have e25 : ev (.tmp 25) = hv := d25
            have d23 : Ints W (ev (.tmp 23)) (List.replicate p.C.length 0) := d23
            obtain ⟨a9, c9, e23, _, _, _⟩ := d23.at
            rw [e23] at d23
            refine st_enter (f := 50) (args := #[.agg #[a, b, .slice ac p.C.length cc, u], .agg #[.int .i64 nv, .int .i64 na, v, .int .i64 d], .slice a9 (List.replicate p.C.length (0 : Int)).length c9, lv, hv]) (by simp [execOp, go_sem, hfn, e18, e19, e24, e25, e23]) ?_
            refine (rbound_c a b _ u v _ lv hv nv na d p y lo hi (List.replicate p.C.length 0) W (HW.out.ext hst) Hw.out (HY.out.ext hst) d23 (HLo.out.ext hst) (HHi.out.ext hst) HLF.out Hlo.out Hhi.out Hlb.out Hhb.out (by simp) (fun x hx => by rw [(List.mem_replicate.1 hx).2]; omega)).mono ?_
            rintro e w' ⟨rfl, hE⟩
            exact ⟨_, rfl, hE, by rw [← HZ.out]; exact rfl⟩
          · intro ev W hf hcst _ hst hd
            obtain ⟨d26, _⟩ := hd
            have e26 : ev (.tmp 26) = .int .i64 Z := d26
            refine st_value (v := .bool false) ?_ (Below.refl _ _) ?_
            · simp [execOp, go_sem, e26, hcst, hpos]
            · exact rfl
        case rest =>
          intro vs w3 hl hst hg
          have hlast : ∀ u, vs[9]? = some u → u = .bool false := fun u hu => hg 9 u hu
          have HE3 := Lib.hid hst
          clear hg hst
          obtain ⟨x0, vs0, rfl, hl0⟩ := len_succ hl
          obtain ⟨x1, vs1, rfl, hl1⟩ := len_succ hl0
          obtain ⟨x2, vs2, rfl, hl2⟩ := len_succ hl1
          obtain ⟨x3, vs3, rfl, hl3⟩ := len_succ hl2
          obtain ⟨x4, vs4, rfl, hl4⟩ := len_succ hl3
          obtain ⟨x5, vs5, rfl, hl5⟩ := len_succ hl4
          obtain ⟨x6, vs6, rfl, hl6⟩ := len_succ hl5
          obtain ⟨x7, vs7, rfl, hl7⟩ := len_succ hl6
          obtain ⟨x8, vs8, rfl, hl8⟩ := len_succ hl7
          obtain ⟨x9, vs9, rfl, hl9⟩ := len_succ hl8
          have hnil : vs9 = [] := List.length_eq_zero_iff.1 hl9
          subst hnil
          obtain rfl : x9 = .bool false := hlast _ rfl
          clear hlast
          simp only [putAll, Act.put, List.setIfInBounds_toArray, List.set_cons_zero, List.set_cons_succ]
          go_wp2_with fail
          go_ret
          exact ⟨ret_bool (by rw [HSZ.out, decide_eq_false (show ¬ 0 < Z by omega)]; rfl), HE.out.trans HE3.out⟩
      | true =>
        go_wp2_with fail
        refine wp_region_stable [⟨[], none⟩, ⟨[], none⟩, ⟨[], none⟩, ⟨[(2, 20)], none⟩, ⟨[(3, 21)], none⟩, ⟨[(4, 22)], none⟩, ⟨[], none⟩, ⟨[], none⟩, ⟨[(0, 18), (1, 19), (5, 23), (6, 24), (7, 25)], none⟩, ⟨[(8, 26)], none⟩] (fun x y => Below x.heap.size x y) (MPat [MP.eq (.agg #[a, b, .slice ac p.C.length cc, u]), MP.eq (.agg #[.int .i64 nv, .int .i64 na, v, .int .i64 d]), MP.eq (.pointer (some ⟨s, 2, none⟩)), MP.eq (.slice ac p.C.length cc), MP.eq (.int .i64 p.C.length), MP.intsR (List.replicate p.C.length 0), MP.eq (lv), MP.eq (hv), MP.eq (.int .i64 Z), MP.eq (.bool false)]) (by kernel_rfl) (fun _ _ _ h k => Ext.trans h k) (fun _ => Below.refl _ _) (fun x => (Below.refl x.heap.size x).drew) (MPat.mono _) (by kernel_rfl) ?obs ?rest
        case obs =>
          refine ⟨?_, ?_, ?_, ?_, ?_, ?_, ?_, ?_, ?_, ?_, trivial⟩
          · intro ev W hf _ _ hst hd
            have e6 : ev (.tmp 6) = .pointer (some ⟨s, 0, none⟩) := hf 6 (by kernel_rfl)
            have kk := VRow.ext HM.out hst
            have k0 := VRow.cell kk (k := 0) rfl
            have k1 := VRow.cell kk (k := 1) rfl
            have k2 := VRow.cell kk (k := 2) rfl
            have k3 := VRow.cell kk (k := 3) rfl
            refine st_value (v := .agg #[a, b, .slice ac p.C.length cc, u]) ?_ (Below.refl _ _) ?_
            · simp [execOp, go_sem, e6, k0, k1, k2, k3]
            · exact rfl
          · intro ev W hf _ _ hst hd
            have e7 : ev (.tmp 7) = .pointer (some ⟨s + 1, 0, none⟩) := hf 7 (by kernel_rfl)
            have kk := VRow.ext HN.out hst
            have k0 := VRow.cell kk (k := 0) rfl
            have k1 := VRow.cell kk (k := 1) rfl
            have k2 := VRow.cell kk (k := 2) rfl
            have k3 := VRow.cell kk (k := 3) rfl
            refine st_value (v := .agg #[.int .i64 nv, .int .i64 na, v, .int .i64 d]) ?_ (Below.refl _ _) ?_
            · simp [execOp, go_sem, e7, k0, k1, k2, k3]
            · exact rfl
          · intro ev W hf _ _ hst hd
            have e6 : ev (.tmp 6) = .pointer (some ⟨s, 0, none⟩) := hf 6 (by kernel_rfl)
            refine st_value (v := .pointer (some ⟨s, 2, none⟩)) ?_ (Below.refl _ _) ?_
            · simp [execOp, go_sem, e6]
            · exact rfl
          · intro ev W hf _ _ hst hd
            obtain ⟨d20, _⟩ := hd
            have e20 : ev (.tmp 20) = .pointer (some ⟨s, 2, none⟩) := d20
            have kk := VRow.ext HM.out hst
            have k2 := VRow.cell kk (k := 2) rfl
            refine st_value (v := .slice ac p.C.length cc) ?_ (Below.refl _ _) ?_
            · simp [execOp, go_sem, e20, k2]
            · exact rfl
          · intro ev W hf _ _ hst hd
            obtain ⟨d21, _⟩ := hd
            have e21 : ev (.tmp 21) = .slice ac p.C.length cc := d21
            refine st_value (v := .int .i64 p.C.length) ?_ (Below.refl _ _) ?_
            · simp [go_sem, e21]
            · exact rfl
          · intro ev W hf _ hfn hst hd
            obtain ⟨d22, _⟩ := hd
            have e22 : ev (.tmp 22) = .int .i64 p.C.length := d22
            have hmk := HMK.out W
            refine st_new (v := .slice (some ⟨W.heap.size, 0, none⟩) p.C.length p.C.length) (o := .cells (madeCells #[.int .i64 0] p.C.length) 3) ?_ ?_
            · simp [execOp, go_sem, e22, hmk]
            · exact IRow.ints' (irow_made W p.C.length 3) (by simp) (by simp) (by omega)
          · intro ev W hf _ _ hst hd
            have e2 : ev (.tmp 2) = lv := hf 2 (by kernel_rfl)
            refine st_value (v := lv) ?_ (Below.refl _ _) ?_
            · simp [execOp, go_sem, e2]
            · exact rfl
          · intro ev W hf _ _ hst hd
            have e3 : ev (.tmp 3) = hv := hf 3 (by kernel_rfl)
            refine st_value (v := hv) ?_ (Below.refl _ _) ?_
            · simp [execOp, go_sem, e3]
            · exact rfl
          · intro ev W hf _ hfn hst hd
            obtain ⟨d18, d19, d23, d24, d25, _⟩ := hd
            have e18 : ev (.tmp 18) = .agg #[a, b, .slice ac p.C.length cc, u] := d18
            have e19 : ev (.tmp 19) = .agg #[.int .i64 nv, .int .i64 na, v, .int .i64 d] := d19
            have e24 : ev (.tmp 24) = lv := d24
            have e25 : ev (.tmp 25) = hv := d25
            have d23 : Ints W (ev (.tmp 23)) (List.replicate p.C.length 0) := d23
            obtain ⟨a9, c9, e23, _, _, _⟩ := d23.at
            rw [e23] at d23
            refine st_enter (f := 50) (args := #[.agg #[a, b, .slice ac p.C.length cc, u], .agg #[.int .i64 nv, .int .i64 na, v, .int .i64 d], .slice a9 (List.replicate p.C.length (0 : Int)).length c9, lv, hv]) (by simp [execOp, go_sem, hfn, e18, e19, e24, e25, e23]) ?_
            refine (rbound_c a b _ u v _ lv hv nv na d p y lo hi (List.replicate p.C.length 0) W (HW.out.ext hst) Hw.out (HY.out.ext hst) d23 (HLo.out.ext hst) (HHi.out.ext hst) HLF.out Hlo.out Hhi.out Hlb.out Hhb.out (by simp) (fun x hx => by rw [(List.mem_replicate.1 hx).2]; omega)).mono ?_
            rintro e w' ⟨rfl, hE⟩
            exact ⟨_, rfl, hE, by rw [← HZ.out]; exact rfl⟩
          · intro ev W hf hcst _ hst hd
            obtain ⟨d26, _⟩ := hd
            have e26 : ev (.tmp 26) = .int .i64 Z := d26
            refine st_value (v := .bool false) ?_ (Below.refl _ _) ?_
            · simp [execOp, go_sem, e26, hcst, hpos]
            · exact rfl
        case rest =>
          intro vs w3 hl hst hg
          have hlast : ∀ u, vs[9]? = some u → u = .bool false := fun u hu => hg 9 u hu
          have HE3 := Lib.hid hst
          clear hg hst
          obtain ⟨x0, vs0, rfl, hl0⟩ := len_succ hl
          obtain ⟨x1, vs1, rfl, hl1⟩ := len_succ hl0
          obtain ⟨x2, vs2, rfl, hl2⟩ := len_succ hl1
          obtain ⟨x3, vs3, rfl, hl3⟩ := len_succ hl2
          obtain ⟨x4, vs4, rfl, hl4⟩ := len_succ hl3
          obtain ⟨x5, vs5, rfl, hl5⟩ := len_succ hl4
          obtain ⟨x6, vs6, rfl, hl6⟩ := len_succ hl5
          obtain ⟨x7, vs7, rfl, hl7⟩ := len_succ hl6
          obtain ⟨x8, vs8, rfl, hl8⟩ := len_succ hl7
          obtain ⟨x9, vs9, rfl, hl9⟩ := len_succ hl8
          have hnil : vs9 = [] := List.length_eq_zero_iff.1 hl9
          subst hnil
          obtain rfl : x9 = .bool false := hlast _ rfl
          clear hlast
          simp only [putAll, Act.put, List.setIfInBounds_toArray, List.set_cons_zero, List.set_cons_succ]
          go_wp2_with fail
          have HW3 := Lib.hid (HW.out.ext HE3.out)
          have HY3 := Lib.hid (HY.out.ext HE3.out)
          have HLo3 := Lib.hid (HLo.out.ext HE3.out)
          have HHi3 := Lib.hid (HHi.out.ext HE3.out)
          have HM3 := Lib.hid (VRow.ext HM.out HE3.out)
          have HN3 := Lib.hid (VRow.ext HN.out HE3.out)
          clear HW HY HLo HHi HM HN
          refine wp_region_stable_last [⟨[], none⟩, ⟨[(0, 30)], none⟩, ⟨[], none⟩, ⟨[(1, 31), (2, 32)], none⟩, ⟨[], none⟩, ⟨[(4, 34)], none⟩, ⟨[(5, 35)], none⟩, ⟨[(3, 33), (6, 36)], none⟩, ⟨[], none⟩] (fun x y => Below x.heap.size x y) (MPat [MP.eq (.int .i64 cost), MP.big 5 cost, MP.big 5 1, MP.big 6 (cost - 1), MP.eq (.pointer (some ⟨s + 1, 3, none⟩)), MP.eq (.int .i64 d), MP.big 5 d, MP.big 12 ((cost - 1) * d), MP.open89 w3.heap.size]) rfl (by kernel_rfl) (fun _ _ _ h k => Ext.trans h k) (fun _ => Below.refl _ _) (fun x => (Below.refl x.heap.size x).drew) (MPat.mono _) (by kernel_rfl) (by kernel_rfl) (by kernel_rfl) ?obs ?rest
          case obs =>
            refine ⟨?_, ?_, ?_, ?_, ?_, ?_, ?_, ?_, ?_, trivial⟩
            · intro ev W hf _ _ hst hd
              have e5 : ev (.tmp 5) = .int .i64 cost := hf 5 (by kernel_rfl)
              refine st_value (v := .int .i64 cost) ?_ (Below.refl _ _) ?_
              · simp [execOp, go_sem, e5]
              · exact rfl
            · intro ev W hf _ hfn hst hd
              obtain ⟨d30, _⟩ := hd
              have e30 : ev (.tmp 30) = .int .i64 cost := d30
              refine st_enter (f := 53) (args := #[.int .i64 cost]) (by simp [execOp, go_sem, hfn, e30]) ?_
              refine (of_c cost W Hcost.out).mono ?_
              rintro e w' ⟨z, rfl, h1, h2⟩
              exact ⟨_, rfl, h2, h1⟩
            · intro ev W hf hcst hfn hst hd
              refine st_enter (f := 53) (args := #[.int .i64 1]) (by simp [execOp, go_sem, hfn, hcst]) ?_
              refine (of_c 1 W (by unfold in64; omega)).mono ?_
              rintro e w' ⟨z, rfl, h1, h2⟩
              exact ⟨_, rfl, h2, h1⟩
            · intro ev W hf _ hfn hst hd
              obtain ⟨d31, d32, _⟩ := hd
              have d31 : BigAt 5 W (ev (.tmp 31)) cost := d31
              obtain ⟨b31, a31, l31, c31, e31⟩ := d31.form
              rw [e31] at d31
              have d32 : BigAt 5 W (ev (.tmp 32)) 1 := d32
              obtain ⟨b32, a32, l32, c32, e32⟩ := d32.form
              rw [e32] at d32
              refine st_enter (f := 52) (args := #[.agg #[.bool b31, .slice a31 l31 c31], .agg #[.bool b32, .slice a32 l32 c32]]) (by simp [execOp, go_sem, hfn, e31, e32]) ?_
              refine (minus_c 5 _ _ cost 1 W d31 d32 (by omega)).mono ?_
              rintro e w' ⟨z, rfl, h1, h2⟩
              exact ⟨_, rfl, h2, h1⟩
            · intro ev W hf _ _ hst hd
              have e7 : ev (.tmp 7) = .pointer (some ⟨s + 1, 0, none⟩) := hf 7 (by kernel_rfl)
              refine st_value (v := .pointer (some ⟨s + 1, 3, none⟩)) ?_ (Below.refl _ _) ?_
              · simp [execOp, go_sem, e7]
              · exact rfl
            · intro ev W hf _ _ hst hd
              obtain ⟨d34, _⟩ := hd
              have e34 : ev (.tmp 34) = .pointer (some ⟨s + 1, 3, none⟩) := d34
              have kk := VRow.ext HN3.out hst
              have k3 := VRow.cell kk (k := 3) rfl
              refine st_value (v := .int .i64 d) ?_ (Below.refl _ _) ?_
              · simp [execOp, go_sem, e34, k3]
              · exact rfl
            · intro ev W hf _ hfn hst hd
              obtain ⟨d35, _⟩ := hd
              have e35 : ev (.tmp 35) = .int .i64 d := d35
              refine st_enter (f := 53) (args := #[.int .i64 d]) (by simp [execOp, go_sem, hfn, e35]) ?_
              refine (of_c d W Hd.out).mono ?_
              rintro e w' ⟨z, rfl, h1, h2⟩
              exact ⟨_, rfl, h2, h1⟩
            · intro ev W hf _ hfn hst hd
              obtain ⟨d33, d36, _⟩ := hd
              have d33 : BigAt 6 W (ev (.tmp 33)) (cost - 1) := d33
              obtain ⟨b33, a33, l33, c33, e33⟩ := d33.form
              rw [e33] at d33
              have d36 : BigAt 5 W (ev (.tmp 36)) d := d36
              obtain ⟨b36, a36, l36, c36, e36⟩ := d36.form
              rw [e36] at d36
              refine st_enter (f := 51) (args := #[.agg #[.bool b33, .slice a33 l33 c33], .agg #[.bool b36, .slice a36 l36 c36]]) (by simp [execOp, go_sem, hfn, e33, e36]) ?_
              refine (times_c 6 _ _ (cost - 1) d W d33 (d36.mono (by omega)) (by omega)).mono ?_
              rintro e w' ⟨z, rfl, h1, h2⟩
              exact ⟨_, rfl, h2, h1⟩
            · intro ev W hf _ hfn hst hd
              refine st_new (v := .pointer (some ⟨W.heap.size, 0, none⟩)) (o := .cells #[.bool false, .slice none 0 0] 89) ?_ ?_
              · simp [execOp, go_sem]
              · exact ⟨_, rfl, vrow_alloc W [.bool false, .slice none 0 0] 89, hst.size⟩
          case rest =>
            intro vs w5 hl hst hg
            obtain ⟨b9, a9, l9, c9, e7, hBig⟩ : ∃ b9 a9 l9 c9, vs[7]? = some (.agg #[.bool b9, .slice a9 l9 c9]) ∧ BigAt 12 w5 (.agg #[.bool b9, .slice a9 l9 c9]) ((cost - 1) * d) := by
              have hu : vs[7]? = some (vs[7]'(by rw [hl]; decide)) := List.getElem?_eq_getElem _
              have h7 : BigAt 12 w5 _ ((cost - 1) * d) := hg 7 _ hu
              obtain ⟨b, a, l, c, e⟩ := h7.form
              exact ⟨b, a, l, c, by rw [hu, e], by rw [e] at h7; exact h7⟩
            obtain ⟨r, e8, hr, hrN⟩ : ∃ r, vs[8]? = some (.pointer (some ⟨r, 0, none⟩)) ∧ VRow w5 r 89 [.bool false, .slice none 0 0] ∧ w3.heap.size ≤ r := by
              have hu : vs[8]? = some (vs[8]'(by rw [hl]; decide)) := List.getElem?_eq_getElem _
              obtain ⟨r, he, h1, h2⟩ := hg 8 _ hu
              exact ⟨r, by rw [hu, he], h1, h2⟩
            have HE5 := Lib.hid hst
            have HBig := Lib.hid hBig
            have HR5 := Lib.hid hr
            clear hg hst hBig hr
            obtain ⟨x0, vs0, rfl, hl0⟩ := len_succ hl
            obtain ⟨x1, vs1, rfl, hl1⟩ := len_succ hl0
            obtain ⟨x2, vs2, rfl, hl2⟩ := len_succ hl1
            obtain ⟨x3, vs3, rfl, hl3⟩ := len_succ hl2
            obtain ⟨x4, vs4, rfl, hl4⟩ := len_succ hl3
            obtain ⟨x5, vs5, rfl, hl5⟩ := len_succ hl4
            obtain ⟨x6, vs6, rfl, hl6⟩ := len_succ hl5
            obtain ⟨x7, vs7, rfl, hl7⟩ := len_succ hl6
            obtain ⟨x8, vs8, rfl, hl8⟩ := len_succ hl7
            have hnil : vs8 = [] := List.length_eq_zero_iff.1 hl8
            subst hnil
            simp only [List.getElem?_cons_succ, List.getElem?_cons_zero, Option.some.injEq] at e7 e8
            subst e7 e8
            simp only [putAll, Act.put, List.dropLast, List.setIfInBounds_toArray, List.set_cons_zero, List.set_cons_succ]
            obtain ⟨g1, g2⟩ := big_put HBig.out HR5.out (by simp)
            have HE6 := Lib.hid (Below.setCell (p := ⟨r, 1, none⟩) (Below.setCell (p := ⟨r, 0, none⟩) HE5.out hrN (.bool b9)) hrN (.slice a9 l9 c9))
            have HG1 := Lib.hid g1
            have HG2 := Lib.hid g2
            clear g1 g2
            have m0 := VRow.cell HR5.out (k := 0) rfl
            have m1 := VRow.cell HR5.out (k := 1) rfl
            have f0 := VRow.frozen HR5.out 0 none
            have f1 := VRow.frozen HR5.out 1 none
            go_wp2_with fail
            clear m0 m1 f0 f1
            generalize (w5.setCell ⟨r, 0, none⟩ (.bool b9)).setCell ⟨r, 1, none⟩ (.slice a9 l9 c9) = w6 at *
            have HW := Lib.hid (HW3.out.ext HE6.out)
            have HY := Lib.hid (HY3.out.ext HE6.out)
            have HLo := Lib.hid (HLo3.out.ext HE6.out)
            have HHi := Lib.hid (HHi3.out.ext HE6.out)
            have HM := Lib.hid (VRow.ext HM3.out HE6.out)
            have HN := Lib.hid (VRow.ext HN3.out HE6.out)
            have HE := Lib.hid (Ext.trans HE.out (Ext.trans HE3.out HE6.out))
            obtain ⟨q, hq⟩ : ∃ q, q = cmpZ Y ((cost - 1) * d) := ⟨_, rfl⟩
            have HQ := Lib.hid hq
            have HQB : RowKit.Hid (decide (0 < q) = decide ((cost - 1) * d < Y)) := Lib.hid (by rw [hq]; unfold cmpZ; split <;> (try split) <;> simp <;> omega)
            have HIY : RowKit.Hid (in64 Y) := Lib.hid (by have := HYB.out; unfold in64; omega)
            clear hq
            refine wp_region_stable [⟨[], none⟩, ⟨[], none⟩, ⟨[], none⟩, ⟨[(2, 40)], none⟩, ⟨[], none⟩, ⟨[], none⟩, ⟨[(0, 38), (1, 39), (3, 41), (4, 42), (5, 43)], none⟩, ⟨[(6, 44)], none⟩, ⟨[], none⟩, ⟨[(7, 45), (8, 46)], none⟩, ⟨[(9, 47)], none⟩, ⟨[(10, 48)], none⟩] (fun x y => Below x.heap.size x y) (MPat [MP.eq (.agg #[a, b, .slice ac p.C.length cc, u]), MP.eq (.agg #[.int .i64 nv, .int .i64 na, v, .int .i64 d]), MP.eq (.pointer (some ⟨s, 2, none⟩)), MP.eq (.slice ac p.C.length cc), MP.eq (lv), MP.eq (hv), MP.eq (.int .i64 Y), MP.big 12 Y, MP.eq (.agg #[.bool b9, .slice a9 l9 c9]), MP.eq (.int .i64 q), MP.eq (.bool (decide (0 < q))), MP.eq (.bool (decide (0 < q)))]) (by kernel_rfl) (fun _ _ _ h k => Ext.trans h k) (fun _ => Below.refl _ _) (fun x => (Below.refl x.heap.size x).drew) (MPat.mono _) (by kernel_rfl) ?obs ?rest
            case obs =>
              refine ⟨?_, ?_, ?_, ?_, ?_, ?_, ?_, ?_, ?_, ?_, ?_, ?_, trivial⟩
              · intro ev W hf _ _ hst hd
                have e6 : ev (.tmp 6) = .pointer (some ⟨s, 0, none⟩) := hf 6 (by kernel_rfl)
                have kk := VRow.ext HM.out hst
                have k0 := VRow.cell kk (k := 0) rfl
                have k1 := VRow.cell kk (k := 1) rfl
                have k2 := VRow.cell kk (k := 2) rfl
                have k3 := VRow.cell kk (k := 3) rfl
                refine st_value (v := .agg #[a, b, .slice ac p.C.length cc, u]) ?_ (Below.refl _ _) ?_
                · simp [execOp, go_sem, e6, k0, k1, k2, k3]
                · exact rfl
              · intro ev W hf _ _ hst hd
                have e7 : ev (.tmp 7) = .pointer (some ⟨s + 1, 0, none⟩) := hf 7 (by kernel_rfl)
                have kk := VRow.ext HN.out hst
                have k0 := VRow.cell kk (k := 0) rfl
                have k1 := VRow.cell kk (k := 1) rfl
                have k2 := VRow.cell kk (k := 2) rfl
                have k3 := VRow.cell kk (k := 3) rfl
                refine st_value (v := .agg #[.int .i64 nv, .int .i64 na, v, .int .i64 d]) ?_ (Below.refl _ _) ?_
                · simp [execOp, go_sem, e7, k0, k1, k2, k3]
                · exact rfl
              · intro ev W hf _ _ hst hd
                have e6 : ev (.tmp 6) = .pointer (some ⟨s, 0, none⟩) := hf 6 (by kernel_rfl)
                refine st_value (v := .pointer (some ⟨s, 2, none⟩)) ?_ (Below.refl _ _) ?_
                · simp [execOp, go_sem, e6]
                · exact rfl
              · intro ev W hf _ _ hst hd
                obtain ⟨d40, _⟩ := hd
                have e40 : ev (.tmp 40) = .pointer (some ⟨s, 2, none⟩) := d40
                have kk := VRow.ext HM.out hst
                have k2 := VRow.cell kk (k := 2) rfl
                refine st_value (v := .slice ac p.C.length cc) ?_ (Below.refl _ _) ?_
                · simp [execOp, go_sem, e40, k2]
                · exact rfl
              · intro ev W hf _ _ hst hd
                have e2 : ev (.tmp 2) = lv := hf 2 (by kernel_rfl)
                refine st_value (v := lv) ?_ (Below.refl _ _) ?_
                · simp [execOp, go_sem, e2]
                · exact rfl
              · intro ev W hf _ _ hst hd
                have e3 : ev (.tmp 3) = hv := hf 3 (by kernel_rfl)
                refine st_value (v := hv) ?_ (Below.refl _ _) ?_
                · simp [execOp, go_sem, e3]
                · exact rfl
              · intro ev W hf _ hfn hst hd
                obtain ⟨d38, d39, d41, d42, d43, _⟩ := hd
                have e38 : ev (.tmp 38) = .agg #[a, b, .slice ac p.C.length cc, u] := d38
                have e39 : ev (.tmp 39) = .agg #[.int .i64 nv, .int .i64 na, v, .int .i64 d] := d39
                have e41 : ev (.tmp 41) = .slice ac p.C.length cc := d41
                have e42 : ev (.tmp 42) = lv := d42
                have e43 : ev (.tmp 43) = hv := d43
                refine st_enter (f := 50) (args := #[.agg #[a, b, .slice ac p.C.length cc, u], .agg #[.int .i64 nv, .int .i64 na, v, .int .i64 d], .slice ac p.C.length cc, lv, hv]) (by simp [execOp, go_sem, hfn, e38, e39, e41, e42, e43]) ?_
                refine (rbound_c a b _ u v _ lv hv nv na d p y lo hi p.C W (HW.out.ext hst) Hw.out (HY.out.ext hst) (HW.out.ext hst).1.2.2 (HLo.out.ext hst) (HHi.out.ext hst) HLF.out Hlo.out Hhi.out Hlb.out Hhb.out rfl (costs7 Hw.out)).mono ?_
                rintro e w' ⟨rfl, hE⟩
                exact ⟨_, rfl, hE, by rw [← HY2.out]; exact rfl⟩
              · intro ev W hf _ hfn hst hd
                obtain ⟨d44, _⟩ := hd
                have e44 : ev (.tmp 44) = .int .i64 Y := d44
                refine st_enter (f := 53) (args := #[.int .i64 Y]) (by simp [execOp, go_sem, hfn, e44]) ?_
                refine (of_c Y W HIY.out).mono ?_
                rintro e w' ⟨z, rfl, h1, h2⟩
                exact ⟨_, rfl, h2, h1.mono (by omega)⟩
              · intro ev W hf _ _ hst hd
                have e13 : ev (.tmp 13) = .pointer (some ⟨r, 0, none⟩) := hf 13 (by kernel_rfl)
                have kk := VRow.ext HG2.out hst
                have k0 := VRow.cell kk (k := 0) rfl
                have k1 := VRow.cell kk (k := 1) rfl
                refine st_value (v := .agg #[.bool b9, .slice a9 l9 c9]) ?_ (Below.refl _ _) ?_
                · simp [execOp, go_sem, e13, k0, k1]
                · exact rfl
              · intro ev W hf _ hfn hst hd
                obtain ⟨d45, d46, _⟩ := hd
                have e46 : ev (.tmp 46) = .agg #[.bool b9, .slice a9 l9 c9] := d46
                have d45 : BigAt 12 W (ev (.tmp 45)) Y := d45
                obtain ⟨b5, a5, l5, c5, e45⟩ := d45.form
                rw [e45] at d45
                refine st_enter (f := 54) (args := #[.agg #[.bool b5, .slice a5 l5 c5], .agg #[.bool b9, .slice a9 l9 c9]]) (by simp [execOp, go_sem, hfn, e46, e45]) ?_
                refine (compare_c 12 _ _ Y ((cost - 1) * d) W d45 (HG1.out.ext hst) (by omega)).mono ?_
                rintro e w' ⟨rfl, hE⟩
                exact ⟨_, rfl, hE, by rw [← HQ.out]; exact rfl⟩
              · intro ev W hf hcst _ hst hd
                obtain ⟨d47, _⟩ := hd
                have e47 : ev (.tmp 47) = .int .i64 q := d47
                refine st_value (v := .bool (decide (0 < q))) ?_ (Below.refl _ _) ?_
                · simp [execOp, go_sem, e47, hcst]
                · exact rfl
              · intro ev W hf _ _ hst hd
                obtain ⟨d48, _⟩ := hd
                have e48 : ev (.tmp 48) = .bool (decide (0 < q)) := d48
                refine st_value (v := .bool (decide (0 < q))) ?_ (Below.refl _ _) ?_
                · simp [execOp, go_sem, e48]
                · exact rfl
            case rest =>
              intro vs w7 hl hst hg
              have hlast : ∀ u, vs[11]? = some u → u = .bool (decide (0 < q)) := fun u hu => hg 11 u hu
              have HE7 := Lib.hid (HE.out.trans hst)
              clear hg hst
              obtain ⟨x0, vs0, rfl, hl0⟩ := len_succ hl
              obtain ⟨x1, vs1, rfl, hl1⟩ := len_succ hl0
              obtain ⟨x2, vs2, rfl, hl2⟩ := len_succ hl1
              obtain ⟨x3, vs3, rfl, hl3⟩ := len_succ hl2
              obtain ⟨x4, vs4, rfl, hl4⟩ := len_succ hl3
              obtain ⟨x5, vs5, rfl, hl5⟩ := len_succ hl4
              obtain ⟨x6, vs6, rfl, hl6⟩ := len_succ hl5
              obtain ⟨x7, vs7, rfl, hl7⟩ := len_succ hl6
              obtain ⟨x8, vs8, rfl, hl8⟩ := len_succ hl7
              obtain ⟨x9, vs9, rfl, hl9⟩ := len_succ hl8
              obtain ⟨x10, vs10, rfl, hl10⟩ := len_succ hl9
              obtain ⟨x11, vs11, rfl, hl11⟩ := len_succ hl10
              have hnil : vs11 = [] := List.length_eq_zero_iff.1 hl11
              subst hnil
              obtain rfl : x11 = .bool (decide (0 < q)) := hlast _ rfl
              clear hlast
              simp only [putAll, Act.put, List.setIfInBounds_toArray, List.set_cons_zero, List.set_cons_succ]
              go_wp2_with fail
              go_ret
              exact ⟨ret_bool (by rw [HSZ.out, HQB.out, decide_eq_false (show ¬ 0 < Z by omega)]; rfl), HE7.out⟩
end Go.Proofs.Ytblaipkhmmaenaa
