import Derived.Test.YtnpebfchojalcaaW2
namespace Go.Proofs.Ytnpebfchojalcaa
set_option maxRecDepth 100000
open Go.RowKit
abbrev Pt := Int × Int
/-- the cells of points -/
def PtsAt (w : World) (b off : Nat) (ps : List Pt) : Prop := ∀ (k : Nat) (p : Pt), ps[k]? = some p → w.cell? ⟨b, off + k * 2, none⟩ = some (.int .i64 p.1) ∧ w.cell? ⟨b, off + k * 2 + 1, none⟩ = some (.int .i64 p.2)
/-- A slice that reads as these points. -/
def Vecs (w : World) (v : Value) (ps : List Pt) : Prop :=
  ∃ a cap, v = .slice a ps.length cap ∧ ps.length ≤ cap ∧ cap ≤ 9223372036854775807 ∧ (ps = [] ∨ ∃ b off, a = some ⟨b, off, none⟩ ∧ PtsAt w b off ps)
theorem PtsAt.ext {w w' : World} {b off : Nat} {ps : List Pt} (h : PtsAt w b off ps) (he : Ext w w') : PtsAt w' b off ps := fun k p hk => ⟨Ext.cell he (h k p hk).1, Ext.cell he (h k p hk).2⟩
theorem Vecs.ext {w w' : World} {v : Value} {ps : List Pt} (h : Vecs w v ps) (he : Ext w w') : Vecs w' v ps := by
  obtain ⟨a, cap, hv, hl, hm, hr⟩ := h
  refine ⟨a, cap, hv, hl, hm, ?_⟩
  rcases hr with hr | ⟨b, off, ha, hc⟩
  · exact .inl hr
  · exact .inr ⟨b, off, ha, hc.ext he⟩
theorem Vecs.at {w : World} {v : Value} {ps : List Pt} (h : Vecs w v ps) : ∃ a cap, v = .slice a ps.length cap ∧ ps.length ≤ cap ∧ cap ≤ 9223372036854775807 ∧
    ∀ (k : Nat) (p : Pt), ps[k]? = some p → ∃ b off, a = some ⟨b, off, none⟩ ∧ w.cell? ⟨b, off + k * 2, none⟩ = some (.int .i64 p.1) ∧ w.cell? ⟨b, off + k * 2 + 1, none⟩ = some (.int .i64 p.2) := by
  obtain ⟨a, cap, hv, hl, hm, hr⟩ := h
  refine ⟨a, cap, hv, hl, hm, fun k p hk => ?_⟩
  rcases hr with hr | ⟨b, off, ha, hc⟩
  · subst hr; simp at hk
  · exact ⟨b, off, ha, hc k p hk⟩
/-- a function value that tells points apart -/
def PredC (f : FuncId) (lb : Array Value) (p : Pt → Bool) (ps : List Pt) (w : World) : Prop :=
  ∀ (k : Nat) (q : Pt) (W : World), ps[k]? = some q → Ext w W → Calls Try.prog f (#[vecV q.1 q.2] ++ lb) W fun e w' => e = .returned (.bool (p q)) ∧ Ext W w'
theorem any_at {p : Pt → Bool} {ps : List Pt} {k : Nat} {q : Pt} (hk : ps[k]? = some q) (hq : p q = true) : ps.any p = true := List.any_eq_true.2 ⟨q, List.mem_of_getElem? hk, hq⟩
theorem any_none {p : Pt → Bool} {ps : List Pt} (h : ∀ j q, j < ps.length → ps[j]? = some q → p q = false) : ps.any p = false := by
  rw [Bool.eq_false_iff]
  intro ha
  obtain ⟨q, hm, hq⟩ := List.any_eq_true.1 ha
  obtain ⟨j, hj⟩ := List.mem_iff_getElem?.1 hm
  rw [h j q (lt_len hj) hj] at hq
  cases hq
set_option maxHeartbeats 400000 in
theorem index27_c (v : Value) (p : Pt → Bool) (ps : List Pt) (w : World) (hF : PredC 79 #[] p ps w) (hx : Vecs w v ps) :
    Calls Try.prog 112 #[v, .func (.func 79) #[] #[]] w fun e w' => ∃ i : Int, e = .returned (.int .i64 i) ∧ decide (0 ≤ i) = ps.any p ∧ Ext w w' := by
  obtain ⟨ax, cx, rfl, hxc, hxm, hrx⟩ := hx.at
  clear hx
  have HR := Lib.hid hrx
  have HF := Lib.hid hF
  clear hrx hF
  go_enter Try.func112, Try.ntmps112
  go_wp2
  go_loopw [8] (fun i wr => ∃ k : Nat, k ≤ ps.length ∧ (∀ j q, j < k → ps[j]? = some q → p q = false) ∧ i = .int .i64 k ∧ Ext w wr) (fun i _ => ps.length - (intOf i).toNat)
  case atStart => exact ⟨0, Nat.zero_le _, fun j y hj => by omega, rfl, Ext.refl _⟩
  case round =>
    obtain ⟨k, hk, hall, rfl, hE⟩ := hrel
    have Hall := Lib.hid hall
    have HE := Lib.hid hE
    clear hall hE
    by_cases hlt : k < ps.length
    · obtain ⟨q, hq⟩ := getElem?_len hlt
      obtain ⟨b, o, rfl, hc0, hc1⟩ := HR.out k q hq
      replace hc0 := Ext.cell HE.out hc0
      replace hc1 := Ext.cell HE.out hc1
      have Hq := Lib.hid hq
      clear hq
      go_wp2_with fail
      refine (show Calls Try.prog 79 (#[vecV q.1 q.2] ++ #[]) _ _ from HF.out k q _ Hq.out HE.out).mono ?_
      rintro e w' ⟨rfl, hE2⟩
      cases hp : p q
      · have Hp := Lib.hid hp
        clear hp
        go_wp2
        refine ⟨⟨k + 1, by omega, fun j y hj hy => ?_, by simp, Ext.trans HE.out hE2⟩, by simp [intOf]; omega⟩
        by_cases hjk : j = k
        · subst hjk; have h2 := Hq.out; rw [hy] at h2; injection h2 with h2; rw [h2]; exact Hp.out
        · exact Hall.out j y (by omega) hy
      · have Hp := Lib.hid hp
        clear hp
        go_wp2
        go_ret
        exact ⟨k, rfl, by rw [any_at Hq.out Hp.out]; simp, Ext.trans HE.out hE2⟩
    · obtain rfl : k = ps.length := by omega
      go_wp2
      go_ret
      exact ⟨-1, rfl, by rw [any_none Hall.out]; rfl, HE.out⟩
set_option maxHeartbeats 400000 in
theorem contains27_c (v : Value) (p : Pt → Bool) (ps : List Pt) (w : World) (hF : PredC 79 #[] p ps w) (hx : Vecs w v ps) :
    Calls Try.prog 86 #[v, .func (.func 79) #[] #[]] w fun e w' => e = .returned (.bool (ps.any p)) ∧ Ext w w' := by
  obtain ⟨ax, cx, rfl, hxc, hxm, _⟩ := hx.at
  have HX := Lib.hid hx
  have HF := Lib.hid hF
  clear hx hF
  go_enter Try.func86, Try.ntmps86
  go_wp2_with fail
  refine (index27_c  _ p ps w HF.out HX.out).mono ?_
  rintro e w' ⟨i, rfl, hi, hE⟩
  have Hi := Lib.hid hi
  clear hi
  go_wp2
  go_ret
  exact ⟨ret_bool (by rw [← Hi.out]), hE⟩
def farP (q : Pt) : Bool := farB q.1 q.2
theorem far_pred (ps : List Pt) (w : World) : PredC 79 #[] farP ps w := fun _ q W _ _ => far_c q.1 q.2 W
def nearP (ps : List Pt) : Prop := ∀ q ∈ ps, -1000 ≤ q.1 ∧ q.1 ≤ 1000 ∧ -1000 ≤ q.2 ∧ q.2 ≤ 1000
theorem near_of {ps : List Pt} (h : ps.any farP = false) : nearP ps := fun q hq => by
  have := List.any_eq_false.1 h q hq
  simp [farP, farB] at this
  omega
end Go.Proofs.Ytnpebfchojalcaa
