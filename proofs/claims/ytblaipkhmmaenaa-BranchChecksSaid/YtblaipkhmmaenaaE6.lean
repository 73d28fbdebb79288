import Derived.Test.YtblaipkhmmaenaaE5
namespace Go.Proofs.Ytblaipkhmmaenaa
open Go.RowKit
set_option maxRecDepth 100000 in
set_option maxHeartbeats 2000000 in
theorem refusesNone_c (R ob cap : Nat) (a b c u g : Value) (nd : Nd) (w0 W : World) (hE : Ext w0 W) (hr : VRow W R 62 [a, b, c, u, g, .slice (some ⟨ob, 0, none⟩) 0 cap]) (hy : Ints w0 nd.yv nd.y) :
    Calls Try.prog 37 #[.pointer (some ⟨R, 0, none⟩), nd.val] W fun e W' => e = .returned (.bool true) ∧ Ext w0 W' := by
  obtain ⟨nv, na, yv, y, d⟩ := nd
  have hy2 : Ints w0 yv y := hy
  clear hy
  obtain ⟨ay, cy, rfl, _, _, _⟩ := hy2.at
  have q5 := VRow.cell (VRow.alloc hr (.cells #[.int .i64 nv, .int .i64 na, .slice ay y.length cy, .int .i64 d] 40)) (k := 5) rfl
  have HE := Lib.hid (Ext.alloc hE (.cells #[.int .i64 nv, .int .i64 na, .slice ay y.length cy, .int .i64 d] 40))
  clear hE hr hy2
  go_enter Try.func37, Try.ntmps37
  go_wp2
  go_ret
  exact ⟨rfl, HE.out⟩
theorem refuses_c (p : Who) (gs : List (List Int × Int)) (w0 : World) (R : Nat) (a b c u g : Value) (h : WhoAt w0 a b c u p) (hv : whoB p = true) (hgs : ∀ x ∈ gs, x.1.length = p.C.length ∧ ∀ z ∈ x.1, -1000 ≤ z ∧ z ≤ 1000) (hR0 : w0.heap.size ≤ R)
    (W : World) (st : List Bx) (nd : Nd) (hI : OpenI w0 R a b c u g gs W st) (hy : Ints w0 nd.yv nd.y) (hst : st.length ≤ 1000000) :
    Calls Try.prog 37 #[.pointer (some ⟨R, 0, none⟩), nd.val] W fun e W' => e = .returned (.bool (stepM p gs st nd).isNone) ∧ Ext w0 W' ∧ ∀ st', stepM p gs st nd = some st' → OpenI w0 R a b c u g gs W' st' := by
  obtain ⟨hE, hG, ⟨ob, cap, hr, ho⟩, hbx⟩ := hI
  have hob := (own_parts ho).1
  have hobR := own_ne ho hr
  have hn0 : w0.heap.size ≤ W.heap.size := hE.size
  match st, hbx, hr, ho, hst with
  | [], hbx, hr, ho, hst =>
    refine (refusesNone_c R ob cap a b c u g nd w0 W hE hr hy).mono ?_
    rintro e W' ⟨rfl, hE'⟩
    exact ⟨rfl, hE', fun st' hs => by simp [stepM] at hs⟩
  | bx :: rest, hbx, hr, ho, hst =>
    obtain ⟨hb1, hb2, hb3, hb4⟩ := hbx bx (by simp)
    have hrest : ∀ x ∈ rest, okBx x := fun x hx => hbx x (by simp [hx])
    obtain ⟨lo, hi⟩ := bx
    obtain ⟨l0, l1, l2, l3, l4, rfl⟩ := five hb1
    obtain ⟨h0, h1, h2, h3, h4, rfl⟩ := five hb2
    rw [stackV_cons] at ho
    have hlen := stackV_length hrest
    obtain ⟨_, hcap, hcap2, _⟩ := own_parts ho
    have hcells : ∀ j x, (box10 l0 l1 l2 l3 l4 h0 h1 h2 h3 h4)[j]? = some x → W.cell? ⟨ob, rest.length * 10 + j, none⟩ = some x := fun j x hj => own_cell ho (by
      rw [List.getElem?_append_right (by omega), hlen, Nat.add_sub_cancel_left]
      exact hj)
    obtain ⟨nv, na, yv, y, d⟩ := nd
    by_cases hneg : nv < 0
    · refine (refusesLeaf_c R ob rest.length cap a b c u g yv nv na d l0 l1 l2 l3 l4 h0 h1 h2 h3 h4 p y gs w0 W h hv hG.1 hy hE hR0 hr hcap hcap2 hcells hneg hb3 hb4 hgs).mono ?_
      rintro e W' ⟨rfl, hr', hh⟩
      have hh2 : Held (fun k => k < W.heap.size ∧ k ≠ R ∧ k ≠ ob) W W' := hh.mono (fun k hk => ⟨hk.1, hk.2.1⟩)
      have hE' := ext_off hE hR0 hob hh2
      have hgo := goalsS_off hG hr hR0 hn0 ho hh2
      refine ⟨?_, hE', fun st' hs => ?_⟩
      · simp only [stepM, hneg, if_true]
        cases goodB p y d [l0, l1, l2, l3, l4] [h0, h1, h2, h3, h4] gs <;> rfl
      · simp only [stepM, hneg, if_true] at hs
        split at hs
        · simp only [Option.some.injEq] at hs
          subst hs
          refine ⟨hE', hgo, ⟨ob, cap, hr', ?_⟩, hrest⟩
          refine (ownsRow_pop (last := box10 l0 l1 l2 l3 l4 h0 h1 h2 h3 h4) hlen ho).kept (row := some R) ⟨hh.os, hh.tape, hh.output, hh.size, fun k hk hne => hh.block k ⟨hk, fun e => hne (by rw [e])⟩⟩ (.inr (by simp [Value.ownBlock, hobR]))
        · simp at hs
    · refine (refusesSplit_c R ob rest.length cap a b c u g yv nv na d l0 l1 l2 l3 l4 h0 h1 h2 h3 h4 p y gs w0 W h hv hG.1 hy hE hR0 hr hcap hcells hneg hb3 hb4 hgs (stackV rest) (by simp only [List.length_cons] at hst; omega) hlen ho hobR).mono ?_
      rintro e W' (⟨rfl, hbad, hE'⟩ | ⟨rfl, hlt, hdiv, hh, ob', cap', hr', ho'⟩)
      · have hnone : stepM p gs (([l0, l1, l2, l3, l4], [h0, h1, h2, h3, h4]) :: rest) ⟨nv, na, yv, y, d⟩ = none := by
          simp only [stepM, hneg, if_false]
          rcases hbad with hb | hb
          · rw [if_pos hb]
          · rw [hb]; simp
        rw [hnone]
        exact ⟨rfl, hE', fun st' hs => by simp at hs⟩
      · have hsome : stepM p gs (([l0, l1, l2, l3, l4], [h0, h1, h2, h3, h4]) :: rest) ⟨nv, na, yv, y, d⟩ = some (([l0, l1, l2, l3, l4], [h0, h1, h2, h3, h4].set nv.toNat na) :: ([l0, l1, l2, l3, l4].set nv.toNat (na + 1), [h0, h1, h2, h3, h4]) :: rest) := by
          simp only [stepM, hneg, if_false]
          rw [if_neg (by omega), if_pos hdiv]
        rw [hsome]
        have hE' := ext_off hE hR0 hob hh
        have hgo := goalsS_off hG hr hR0 hn0 ho hh
        have hat := div_bd hb4 hb3 hdiv
        refine ⟨rfl, hE', fun st' hs => ?_⟩
        simp only [Option.some.injEq] at hs
        subst hs
        refine ⟨hE', hgo, ⟨ob', cap', hr', ?_⟩, fun x hx => ?_⟩
        · rw [stackV_cons, stackV_cons, List.append_assoc]
          exact ho'
        · simp only [List.mem_cons] at hx
          rcases hx with rfl | rfl | hx
          · exact ⟨rfl, by simp, hb3, fun z hz => by
              rcases List.mem_or_eq_of_mem_set hz with hz | rfl
              · exact hb4 z hz
              · omega⟩
          · exact ⟨by simp, rfl, fun z hz => by
              rcases List.mem_or_eq_of_mem_set hz with hz | rfl
              · exact hb3 z hz
              · omega, hb4⟩
          · exact hrest x hx
end Go.Proofs.Ytblaipkhmmaenaa
