import Derived.Test.YtblaipkhmmaenaaC9
namespace Go.Proofs.Ytblaipkhmmaenaa
open Go.RowKit
theorem goals_in {p : Who} (hv : whoB p = true) (f : Bool) (cost : Int) : ∀ x ∈ goalsOf p f cost, x.1.length = p.C.length ∧ ∀ z ∈ x.1, -1000 ≤ z ∧ z ≤ 1000 := by
  have hC : ∀ z ∈ p.C, -1000 ≤ z ∧ z ≤ 1000 := by
    obtain ⟨_, _, _, hp⟩ := whoP hv
    simp only [programB, costsB, Bool.and_eq_true] at hp
    exact withinAll hp.2.2
  intro x hx
  simp only [goalsOf, List.mem_cons] at hx
  rcases hx with rfl | hx
  · exact ⟨by simp, fun z hz => by simp only [List.mem_replicate] at hz; omega⟩
  · cases f
    · simp at hx
    · simp at hx
      subst hx
      exact ⟨rfl, hC⟩
theorem pad_in {p : Who} (hv : whoB p = true) : ∀ z ∈ padU p.U, 0 ≤ z ∧ z ≤ 7 := by
  intro z hz
  simp only [padU, List.mem_append, List.mem_replicate] at hz
  rcases hz with hz | hz
  · exact (whoP hv).2.2.1 z hz
  · omega
theorem off_ext {R : Nat} {w W W' : World} (h : Ext w W) (ho : Off R W W') (hR : w.heap.size ≤ R) : Ext w W' :=
  ⟨ho.os.trans h.os, ho.tape.trans h.tape, ho.output.trans h.output, Nat.le_trans h.size ho.size, fun k hk => (ho.block k ⟨by have := h.size; omega, by omega⟩).trans (h.block k hk)⟩
def leafI (R ob : Nat) (a b c u g : Value) (W : World) : Nat → World → Prop
  | 0, W' => W' = W
  | 1, W' => VRow W' R 62 [a, b, c, u, g, .slice (some ⟨ob, 0, none⟩) 0 1] ∧ Off R W W'
  | _, _ => False
set_option maxHeartbeats 1000000 in
theorem checkLeaf_c (a b c u v : Value) (f : Bool) (cost : Int) (nd : Nd) (p : Who) (w : World) (h : WhoAt w a b c u p) (hN : NodesAt w v [nd]) (hneg : nd.v < 0) :
    Calls Try.prog 17 #[.agg #[a, b, c, u], v, .bool f, .int .i64 cost] w fun e w' => e = chkV (whoB p) 1 (goodB p nd.y nd.d [0, 0, 0, 0, 0] (padU p.U) (goalsOf p f cost)) ∧ Ext w w' := by
  have hN2 := hN
  obtain ⟨av, cv, rfl, hl, hc, hk⟩ := hN2
  obtain ⟨b2, o2, _, hk2⟩ := hk (by simp)
  obtain ⟨_, _, _, _, hy⟩ := hk2 0 nd rfl
  refine check_c a b c u _ f cost 1 p w h ⟨av, cv, rfl, hl, hc⟩ _ ?_
  intro _ hv R ob g W k0 k1 k2 k3 k4 hp hE hg hr hb hR
  rw [hp]
  have hpad := pad_in hv
  rw [hp] at hpad
  refine (accepts_c R _ [nd] w W hN (leafI R ob a b c u g W) rfl (fun k W' hI => ?_) (fun _ => !goodB p nd.y nd.d [0, 0, 0, 0, 0] [k0, k1, k2, k3, k4] (goalsOf p f cost)) (fun k W' nd' hI hnd _ => ?_) 0 (fun W' _ hI => ?_)).mono ?_
  · match k, hI with
    | 0, hI => rw [show W' = W from hI]; exact hE
    | 1, hI => exact off_ext hE hI.2 hR
  · match k, hI, hnd with
    | 0, hI, hnd =>
      have : W' = W := hI
      subst this
      simp only [List.getElem?_cons_zero, Option.some.injEq] at hnd
      subst hnd
      refine (refusesLeaf_c R ob 0 1 a b c u g nd.yv nd.v nd.at' nd.d 0 0 0 0 0 k0 k1 k2 k3 k4 p nd.y (goalsOf p f cost) w W' h hv hg hy hE hR hr (by omega) (by omega) (fun j x hj => ?_) hneg (by simp) hpad (goals_in hv f cost)).mono ?_
      · rw [Nat.zero_mul, Nat.zero_add]
        exact VRow.cell hb hj
      · rintro e w' ⟨rfl, h1, h2⟩
        exact ⟨rfl, h1, h2⟩
  · exact ⟨_, _, VRow.cell hI.1 (k := 5) rfl⟩
  · rintro e w' ⟨rfl, k, hI⟩
    refine ⟨by simp, ?_⟩
    match k, hI with
    | 0, hI => rw [show w' = W from hI]; exact hE
    | 1, hI => exact off_ext hE hI.2 hR
end Go.Proofs.Ytblaipkhmmaenaa
