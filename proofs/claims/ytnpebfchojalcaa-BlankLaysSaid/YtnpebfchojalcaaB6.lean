import Derived.Test.YtnpebfchojalcaaB5
namespace Go.Proofs.Ytnpebfchojalcaa
set_option maxRecDepth 100000
open Go.RowKit Go.Shelf Go.Maps
set_option maxHeartbeats 400000 in
theorem index85_c (v : Value) (p : Pt → Bool) (ps : List Pt) (w : World) (hF : PredC 85 #[] p ps w) (hx : Vecs w v ps) :
    Calls Try.prog 112 #[v, .func (.func 85) #[] #[]] w fun e w' => ∃ i : Int, e = .returned (.int .i64 i) ∧ decide (0 ≤ i) = ps.any p ∧ Ext w w' := by
  obtain ⟨ax, cx, rfl, hxc, hxm, hrx⟩ := hx.at
  clear hx
  have HR := Lib.hid hrx
  have HF := Lib.hid hF
  clear hrx hF
  go_enter Try.func112, Try.ntmps112
  go_wp2
  go_loopw [8] (fun i wr => ∃ k : Nat, k ≤ ps.length ∧ (∀ j q, j < k → ps[j]? = some q → p q = false) ∧ i = .int .i64 k ∧ Ext w wr) (fun i _ => ps.length - (intOf i).toNat)
  case atStart => exact ⟨0, Nat.zero_le _, fun j y hj => by omega, rfl, Ext.refl _⟩
  case round =>
    obtain ⟨k, hk, hall, rfl, hE⟩ := hrel
    have Hall := Lib.hid hall
    have HE := Lib.hid hE
    clear hall hE
    by_cases hlt : k < ps.length
    · obtain ⟨q, hq⟩ := getElem?_len hlt
      obtain ⟨b, o, rfl, hc0, hc1⟩ := HR.out k q hq
      replace hc0 := Ext.cell HE.out hc0
      replace hc1 := Ext.cell HE.out hc1
      have Hq := Lib.hid hq
      clear hq
      go_wp2_with fail
      refine (show Calls Try.prog 85 (#[vecV q.1 q.2] ++ #[]) _ _ from HF.out k q _ Hq.out HE.out).mono ?_
      rintro e w' ⟨rfl, hE2⟩
      cases hp : p q
      · have Hp := Lib.hid hp
        clear hp
        go_wp2
        refine ⟨⟨k + 1, by omega, fun j y hj hy => ?_, by simp, Ext.trans HE.out hE2⟩, by simp [intOf]; omega⟩
        by_cases hjk : j = k
        · subst hjk; have h2 := Hq.out; rw [hy] at h2; injection h2 with h2; rw [h2]; exact Hp.out
        · exact Hall.out j y (by omega) hy
      · have Hp := Lib.hid hp
        clear hp
        go_wp2
        go_ret
        exact ⟨k, rfl, by rw [any_at Hq.out Hp.out]; simp, Ext.trans HE.out hE2⟩
    · obtain rfl : k = ps.length := by omega
      go_wp2
      go_ret
      exact ⟨-1, rfl, by rw [any_none Hall.out]; rfl, HE.out⟩
set_option maxHeartbeats 400000 in
theorem contains85_c (v : Value) (p : Pt → Bool) (ps : List Pt) (w : World) (hF : PredC 85 #[] p ps w) (hx : Vecs w v ps) :
    Calls Try.prog 86 #[v, .func (.func 85) #[] #[]] w fun e w' => e = .returned (.bool (ps.any p)) ∧ Ext w w' := by
  obtain ⟨ax, cx, rfl, hxc, hxm, _⟩ := hx.at
  have HX := Lib.hid hx
  have HF := Lib.hid hF
  clear hx hF
  go_enter Try.func86, Try.ntmps86
  go_wp2_with fail
  refine (index85_c  _ p ps w HF.out HX.out).mono ?_
  rintro e w' ⟨i, rfl, hi, hE⟩
  have Hi := Lib.hid hi
  clear hi
  go_wp2
  go_ret
  exact ⟨ret_bool (by rw [← Hi.out]), hE⟩

theorem outside_c (q : Pt) (w : World) : Calls Try.prog 85 #[vecV q.1 q.2] w fun e w' => e = .returned (.bool (!inBlank q)) ∧ Ext w w' := by
  obtain ⟨x, y⟩ := q
  have e : inBlank (x, y) = (decide (0 ≤ x) && decide (x ≤ 12) && decide (0 ≤ y) && decide (y ≤ 12)) := rfl
  by_cases h1 : x < 0
  · have HI := Lib.hid (show inBlank (x, y) = false by rw [e, decide_eq_false (show ¬ 0 ≤ x by omega)]; rfl)
    clear e
    go_enter Try.func85, Try.ntmps85
    go_wp2
    go_ret
    exact ⟨by rw [HI.out]; rfl, Ext.alloc (Ext.refl w) _⟩
  · by_cases h2 : 12 < x
    · have HI := Lib.hid (show inBlank (x, y) = false by rw [e, decide_eq_false (show ¬ x ≤ 12 by omega)]; simp)
      clear e
      go_enter Try.func85, Try.ntmps85
      go_wp2
      go_ret
      exact ⟨by rw [HI.out]; rfl, Ext.alloc (Ext.refl w) _⟩
    · by_cases h3 : y < 0
      · have HI := Lib.hid (show inBlank (x, y) = false by rw [e, decide_eq_false (show ¬ 0 ≤ y by omega)]; simp)
        clear e
        go_enter Try.func85, Try.ntmps85
        go_wp2
        go_ret
        exact ⟨by rw [HI.out]; rfl, Ext.alloc (Ext.refl w) _⟩
      · by_cases h4 : 12 < y
        · have HI := Lib.hid (show inBlank (x, y) = false by rw [e, decide_eq_false (show ¬ y ≤ 12 by omega)]; simp)
          clear e
          go_enter Try.func85, Try.ntmps85
          go_wp2
          go_ret
          exact ⟨by rw [HI.out]; rfl, Ext.alloc (Ext.refl w) _⟩
        · have HI := Lib.hid (show inBlank (x, y) = true by rw [e, decide_eq_true (show 0 ≤ x by omega), decide_eq_true (show x ≤ 12 by omega), decide_eq_true (show 0 ≤ y by omega), decide_eq_true (show y ≤ 12 by omega)]; rfl)
          clear e
          go_enter Try.func85, Try.ntmps85
          go_wp2
          go_ret
          exact ⟨by rw [HI.out]; rfl, Ext.alloc (Ext.refl w) _⟩
theorem isBlank_c (v : Value) (ps : List Pt) (w : World) (hv : Vecs w v ps) :
    Calls Try.prog 41 #[v] w fun e w' => e = .returned (.bool (blankB ps)) ∧ Ext w w' := by
  obtain ⟨a, cap, rfl, hl, hm, _⟩ := hv.at
  have HV := Lib.hid hv
  clear hv
  cases hf : validB ps with
  | false =>
    have HB := Lib.hid (show blankB ps = false by simp [blankB, hf])
    have Hf := Lib.hid hf
    clear hf
    go_enter Try.func41, Try.ntmps41
    go_wp2_with fail
    refine (valid_c _ ps _ HV.out).mono ?_
    rintro e w2 ⟨rfl, hE⟩
    rw [Hf.out]
    go_wp2_with fail
    go_ret
    exact ⟨by rw [HB.out]; rfl, hE⟩
  | true =>
    have HB := Lib.hid (show blankB ps = !(ps.any fun q => !inBlank q) by
      simp only [blankB, hf, Bool.true_and]
      rw [List.not_any_eq_all_not]
      simp)
    have Hf := Lib.hid hf
    clear hf
    go_enter Try.func41, Try.ntmps41
    go_wp2_with fail
    refine (valid_c _ ps _ HV.out).mono ?_
    rintro e w2 ⟨rfl, hE⟩
    rw [Hf.out]
    have HE := Lib.hid hE
    clear hE
    go_wp2_with fail
    refine (contains85_c _ (fun q => !inBlank q) ps _ (fun _ q W _ _ => outside_c q W) (HV.out.ext HE.out)).mono ?_
    rintro e w3 ⟨rfl, hE3⟩
    generalize (ps.any fun q => !inBlank q) = z at *
    go_wp2_with fail
    go_ret
    exact ⟨by rw [HB.out]; rfl, Ext.trans HE.out hE3⟩
end Go.Proofs.Ytnpebfchojalcaa
