import Derived.Test.YtblaipkhmmaenaaB2
namespace Go.Proofs.Ytblaipkhmmaenaa
open Go.RowKit
structure Nd where
  v : Int
  at' : Int
  yv : Value
  y : List Int
  d : Int
abbrev Nd.val (n : Nd) : Value := .agg #[.int .i64 n.v, .int .i64 n.at', n.yv, .int .i64 n.d]
def NodesAt (w : World) (v : Value) (ns : List Nd) : Prop :=
  ∃ a cap, v = .slice a ns.length cap ∧ ns.length ≤ cap ∧ cap ≤ 9223372036854775807 ∧ (0 < ns.length → ∃ b o, a = some ⟨b, o, none⟩ ∧ ∀ k nd, ns[k]? = some nd →
    w.cell? ⟨b, o + k * 4, none⟩ = some (.int .i64 nd.v) ∧ w.cell? ⟨b, o + k * 4 + 1, none⟩ = some (.int .i64 nd.at') ∧ w.cell? ⟨b, o + k * 4 + 2, none⟩ = some nd.yv ∧ w.cell? ⟨b, o + k * 4 + 3, none⟩ = some (.int .i64 nd.d) ∧ Ints w nd.yv nd.y)
theorem NodesAt.ext {w w' : World} {v : Value} {ns : List Nd} (h : NodesAt w v ns) (he : Ext w w') : NodesAt w' v ns := by
  obtain ⟨a, cap, hv, hl, hc, hk⟩ := h
  refine ⟨a, cap, hv, hl, hc, fun h0 => ?_⟩
  obtain ⟨b, o, ha, hk⟩ := hk h0
  refine ⟨b, o, ha, fun k nd hn => ?_⟩
  obtain ⟨h1, h2, h3, h4, h5⟩ := hk k nd hn
  exact ⟨Ext.cell he h1, Ext.cell he h2, Ext.cell he h3, Ext.cell he h4, h5.ext he⟩
set_option maxRecDepth 100000 in
set_option maxHeartbeats 2000000 in
theorem index_c (R : Nat) (v : Value) (ns : List Nd) (w0 w : World) (hN : NodesAt w0 v ns) (I : Nat → World → Prop) (hI0 : I 0 w) (hIE : ∀ k W, I k W → Ext w0 W) (ref : Nat → Bool)
    (hstep : ∀ k W nd, I k W → ns[k]? = some nd → (∀ j, j < k → ref j = false) → Calls Try.prog 37 #[.pointer (some ⟨R, 0, none⟩), nd.val] W fun e W' => e = .returned (.bool (ref k)) ∧ I (k + 1) W') :
    Calls Try.prog 36 #[v, .func (.func 37) #[.pointer (some ⟨R, 0, none⟩)] #[]] w fun e W' =>
      (∃ k : Nat, k < ns.length ∧ e = .returned (.int .i64 k) ∧ ref k = true ∧ (∀ j, j < k → ref j = false) ∧ I (k + 1) W') ∨ (e = .returned (.int .i64 (-1)) ∧ (∀ j, j < ns.length → ref j = false) ∧ I ns.length W') := by
  obtain ⟨a, cap, rfl, hl, hc, hk⟩ := hN
  have HK := Lib.hid hk
  have HI0 := Lib.hid hI0
  have HIE := Lib.hid hIE
  have HST := Lib.hid hstep
  clear hk hI0 hIE hstep
  go_enter Try.func36, Try.ntmps36
  go_wp2
  go_loopw [8] (fun i wr => ∃ k : Nat, k ≤ ns.length ∧ i = .int .i64 k ∧ (∀ j, j < k → ref j = false) ∧ I k wr) (fun i _ => ns.length - (intOf i).toNat)
  case atStart => exact ⟨0, Nat.zero_le _, rfl, fun j hj => by omega, HI0.out⟩
  case round =>
    obtain ⟨k, hk, rfl, hall, hi⟩ := hrel
    have Hall := Lib.hid hall
    have Hi := Lib.hid hi
    clear hall hi
    by_cases hlt : k < ns.length
    · obtain ⟨b, o, rfl, hk2⟩ := HK.out (by omega)
      obtain ⟨nd, hnd⟩ : ∃ nd, ns[k]? = some nd := ⟨ns[k], by simp [hlt]⟩
      obtain ⟨h1, h2, h3, h4, h5⟩ := hk2 k nd hnd
      have hE := HIE.out k wr Hi.out
      have q0 := Ext.cell hE h1
      have q1 := Ext.cell hE h2
      have q2 := Ext.cell hE h3
      have q3 := Ext.cell hE h4
      have Hcall := Lib.hid (HST.out k wr nd Hi.out hnd Hall.out)
      have hi2 : (k : Int) < (ns.length : Int) := by omega
      clear hk2 h1 h2 h3 h4 h5 hE hnd
      go_wp2_with fail
      refine Hcall.out.mono ?_
      rintro e W' ⟨rfl, hI⟩
      have HI := Lib.hid hI
      clear hI q0 q1 q2 q3
      cases hr : ref k
      · have Hr := Lib.hid hr
        clear hr
        go_wp2
        refine ⟨⟨k + 1, by omega, by go_num, fun j hj => ?_, HI.out⟩, by simp [intOf]; omega⟩
        by_cases hjk : j = k
        · rw [hjk]; exact Hr.out
        · exact Hall.out j (by omega)
      · have Hr := Lib.hid hr
        clear hr
        go_wp2
        go_ret
        exact .inl ⟨k, hlt, rfl, Hr.out, Hall.out, HI.out⟩
    · have hke : k = ns.length := by omega
      subst hke
      go_wp2
      go_ret
      exact .inr ⟨rfl, Hall.out, Hi.out⟩
end Go.Proofs.Ytblaipkhmmaenaa
