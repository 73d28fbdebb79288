import Derived.Test.YtblaipkhmmaenaaM1
namespace Go.Proofs.Ytblaipkhmmaenaa
open Go.RowKit
theorem adv_hit : ∀ (pre upre s us : List Int) (x u : Int), pre.length = upre.length → adv s us = none → x < u → adv (pre ++ x :: s) (upre ++ u :: us) = some (pre ++ (x + 1) :: List.replicate s.length 0)
  | [], [], s, us, x, u, _, h, hlt => by simp [adv, h, hlt]
  | y :: pre, v :: upre, s, us, x, u, hl, h, hlt => by
    have ih := adv_hit pre upre s us x u (by simpa using hl) h hlt
    simp only [List.cons_append, adv, ih]
theorem adv_miss (s us : List Int) (x u : Int) (h : adv s us = none) (hlt : ¬ x < u) : adv (x :: s) (u :: us) = none := by simp [adv, h, hlt]
theorem split_at {α : Type} {l : List α} {j : Nat} {x : α} (h : l[j]? = some x) : l = l.take j ++ x :: l.drop (j + 1) := by
  have hj := lt_len h
  have e : l[j] = x := by
    rw [List.getElem?_eq_getElem hj] at h
    exact Option.some.inj h
  rw [← e, List.getElem_cons_drop, List.take_append_drop]
theorem drop_at {α : Type} {l : List α} {j : Nat} {x : α} (h : l[j]? = some x) : l.drop j = x :: l.drop (j + 1) := by
  have hj := lt_len h
  have e : l[j] = x := by
    rw [List.getElem?_eq_getElem hj] at h
    exact Option.some.inj h
  rw [← e, List.getElem_cons_drop]
theorem adv_at {x U : List Int} {j : Nat} {a b : Int} (ha : x[j]? = some a) (hb : U[j]? = some b) (hn : adv (x.drop (j + 1)) (U.drop (j + 1)) = none) (hl : x.length = U.length) (hlt : a < b) :
    adv x U = some (x.take j ++ (a + 1) :: List.replicate (x.length - (j + 1)) 0) := by
  have h := adv_hit (x.take j) (U.take j) (x.drop (j + 1)) (U.drop (j + 1)) a b (by simp [hl]) hn hlt
  rw [← split_at ha, ← split_at hb] at h
  simpa using h
theorem wip_get {x : List Int} {j n : Nat} {a : Int} (ha : x[j]? = some a) : (x.take (j + 1) ++ List.replicate (n - (j + 1)) 0)[j]? = some a := by
  have hj := lt_len ha
  rw [List.getElem?_append_left (by simp; omega), List.getElem?_take_of_lt (by omega)]
  exact ha
theorem wip_set {x : List Int} {j n : Nat} {a z : Int} (ha : x[j]? = some a) : (x.take (j + 1) ++ List.replicate (n - (j + 1)) 0).set j z = x.take j ++ z :: List.replicate (n - (j + 1)) 0 := by
  have hj := lt_len ha
  rw [take_succ_get ha, List.append_assoc, List.set_append_right _ _ (by simp; omega)]
  simp [Nat.min_eq_left (Nat.le_of_lt hj)]
theorem wip_zero {x : List Int} {j n : Nat} (hj : j < n) : x.take j ++ 0 :: List.replicate (n - (j + 1)) 0 = x.take j ++ List.replicate (n - j) 0 := by
  have : n - j = (n - (j + 1)) + 1 := by omega
  rw [this, List.replicate_succ]
set_option maxHeartbeats 1000000 in
theorem advance_c (g n cap : Nat) (u : Value) (x U : List Int) (w : World) (hx : IRow w g 3 x) (hn : x.length = n) (hl : U.length = n) (hm : n ≤ 9223372036854775807) (hU : ∀ wr, w.grownBy wr (some g) → Ints wr u U) (hbd : ∀ y ∈ x, 0 ≤ y ∧ y ≤ 7) :
    Calls Try.prog 33 #[.slice (some ⟨g, 0, none⟩) n cap, u] w fun e w' => e = .returned (.bool (adv x U).isSome) ∧ IRow w' g 3 ((adv x U).getD (List.replicate n 0)) ∧ w.grownBy w' (some g) := by
  obtain ⟨au, cu, rfl, huc, hum, _⟩ := (hU w (grown_ext (Ext.refl w))).at
  have HU := Lib.hid hU
  have HX := Lib.hid hx
  have HB := Lib.hid hbd
  have Hn := Lib.hid hn
  have Hl := Lib.hid hl
  clear hU hx hbd hn hl
  go_enter Try.func33, Try.ntmps33
  go_wp2
  go_loopw [5] (fun i wr => ∃ m : Nat, m ≤ n ∧ i = .int .i64 ((m : Int) - 1) ∧ IRow wr g 3 (x.take m ++ List.replicate (n - m) 0) ∧ adv (x.drop m) (U.drop m) = none ∧ w.grownBy wr (some g)) (fun i _ => (intOf i + 1).toNat)
  case atStart =>
    refine ⟨n, by omega, by go_num, ?_, ?_, grown_ext (Ext.refl w)⟩
    · rw [← Hn.out, List.take_length]; simpa using HX.out
    · rw [List.drop_of_length_le (by have := Hn.out; omega), List.drop_of_length_le (by have := Hl.out; omega)]; rfl
  case round =>
    obtain ⟨m, hm', rfl, hrow, hadv, hg⟩ := hrel
    cases m with
    | zero =>
      have HR := Lib.hid hrow
      have HA := Lib.hid hadv
      have HG := Lib.hid hg
      clear hrow hadv hg
      go_wp2
      go_ret
      have e : adv x U = none := by simpa using HA.out
      refine ⟨ret_bool (by rw [e]; rfl), ?_, HG.out⟩
      rw [e]
      simpa using HR.out
    | succ j =>
      have ej : ((j + 1 : Nat) : Int) - 1 = (j : Int) := by omega
      rw [ej]
      clear ej
      obtain ⟨a, ha⟩ := getElem?_len (show j < x.length by have := Hn.out; omega)
      obtain ⟨b, hb⟩ := getElem?_len (show j < U.length by have := Hl.out; omega)
      obtain ⟨_, _, e1, _, _, hr1⟩ := (HU.out _ hg).at
      simp only [Value.slice.injEq] at e1
      obtain ⟨rfl, _, rfl⟩ := e1
      obtain ⟨b1, o1, rfl, hc1⟩ := hr1 j b hb
      have hc2 := IRow.at hrow (wip_get (n := n) ha)
      have hf := VRow.frozen hrow j none
      have hab := HB.out a (List.mem_of_getElem? ha)
      have Hab := Lib.hid hab
      have HA := Lib.hid ha
      have HBB := Lib.hid hb
      have HR := Lib.hid hrow
      have HV := Lib.hid hadv
      have HG := Lib.hid hg
      have hiU : (j : Int) < (U.length : Int) := by have := Hl.out; omega
      have hi : (j : Int) < (n : Int) := by omega
      have hw1 : IntKind.i64.wrap (a + 1) = a + 1 := IntWalk.i64_in _ (by omega)
      have hw2 : IntKind.i64.wrap ((j : Int) - 1) = (j : Int) - 1 := IntWalk.i64_in _ (by omega)
      clear hr1 ha hb hrow hadv hg hab
      by_cases hlt : a < b
      · go_wp2
        go_quiet (fail)
        go_wp2
        go_ret
        have e := adv_at HA.out HBB.out HV.out (by rw [Hn.out, Hl.out]) hlt
        refine ⟨ret_bool (by rw [e]; rfl), ?_, grown_trans' (grown_drewN HG.out _) (grown_set _ _ _ _)⟩
        rw [e]
        have := IRow.put (VRow.drewN HR.out 1) j (a + 1)
        rw [wip_set HA.out] at this
        rw [Hn.out]
        exact this
      · go_wp2
        go_quiet (fail)
        go_wp2
        refine ⟨⟨j, by omega, by go_num, ?_, ?_, grown_trans' (grown_drewN HG.out _) (grown_set _ _ _ _)⟩, by simp [intOf] <;> omega⟩
        · have := IRow.put (VRow.drewN HR.out 1) j 0
          rw [wip_set HA.out, wip_zero (by omega)] at this
          exact this
        · rw [drop_at HA.out, drop_at HBB.out]
          exact adv_miss _ _ _ _ HV.out (by omega)
end Go.Proofs.Ytblaipkhmmaenaa
