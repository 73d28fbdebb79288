import Derived.Test.YtbcngojiikdigaaGreatL1
namespace Go.Proofs.YtbcngojiikdigaaGreat
set_option maxRecDepth 100000
open Go.RowKit Go.Shelf
theorem m_zero (v : Value) (w : World) : Sem.run Tryz.prog (method 266 56 v "tinplate/line.zero") w = .ok (157, v) w := by kernel_rfl
theorem m_plus (v : Value) (w : World) : Sem.run Tryz.prog (method 266 56 v "tinplate/line.plus") w = .ok (156, v) w := by kernel_rfl
theorem m_times (v : Value) (w : World) : Sem.run Tryz.prog (method 266 56 v "tinplate/line.times") w = .ok (96, v) w := by kernel_rfl
theorem m_one (v : Value) (w : World) : Sem.run Tryz.prog (method 266 56 v "tinplate/line.one") w = .ok (155, v) w := by kernel_rfl
set_option maxHeartbeats 1000000 in
theorem sumT_c (p0 p1 p2 : Value) (n : Nat) (f : Nat → E) (w : World) (hn : n ≤ 6) (hb : ∀ k, k < n → bdE KB (f k))
    (hf : ∀ k, k < n → ∀ W, Ext w W → Calls Tryz.prog 83 #[.int .i64 (k : Int), p0, p1, p2] W fun e w' => e = .returned (iv (f k)) ∧ Ext W w') :
    Calls Tryz.prog 82 #[.int .i64 (n : Int), .func (.func 83) #[] #[p0, p1, p2]] w fun e w' => e = .returned (iv (es f n)) ∧ Ext w w' := by
  have HB := Lib.hid hb
  have HF := Lib.hid hf
  clear hb hf
  have hz := m_zero
  have hp := m_plus
  go_enter Tryz.func82, Tryz.ntmps82
  go_wp2_with fail
  refine (zero_c _ w).mono ?_
  rintro e w' ⟨rfl, rfl⟩
  go_wp2_with fail
  go_loopw [5, 11] (fun t k wr => ∃ q : Nat, k = .int .i64 q ∧ q ≤ n ∧ t = iv (es f q) ∧ Ext w wr) (fun _ k _ => n - (intOf k).toNat)
  case atStart => exact ⟨0, rfl, Nat.zero_le _, rfl, Ext.refl _⟩
  case round =>
    obtain ⟨q, rfl, hq, rfl, hE⟩ := hrel
    have HE := Lib.hid hE
    clear hE
    have hb1 : bdE KB (es f q) := bdE_es fun k hk => HB.out k (by omega)
    by_cases hlt : q < n
    · have HC := Lib.hid (HF.out q hlt wr HE.out)
      have hb2 := HB.out q hlt
      have HES := Lib.hid (show es f (q + 1) = em (es f q) (f q) from rfl)
      generalize f q = fq at *
      generalize es f q = tq at *
      go_wp2_with fail
      refine HC.out.mono ?_
      rintro e w2 ⟨rfl, hE⟩
      have HE2 := Lib.hid (Ext.trans HE.out hE)
      clear hE
      go_wp2_with fail
      refine (plus_c tq fq w2 hb1 hb2).mono ?_
      rintro e w3 ⟨rfl, rfl⟩
      go_wp2_with fail
      exact ⟨⟨q + 1, by simp, by omega, by rw [HES.out], HE2.out⟩, by simp [intOf]; omega⟩
    · obtain rfl : q = n := by omega
      go_wp2_with fail
      go_ret
      exact ⟨rfl, HE.out⟩
set_option maxHeartbeats 1000000 in
theorem sumO_c (p0 p1 : Value) (n : Nat) (f : Nat → E) (w : World) (hn : n ≤ 6) (hb : ∀ k, k < n → bdE KB (f k))
    (hf : ∀ k, k < n → ∀ W, Ext w W → Calls Tryz.prog 86 #[.int .i64 (k : Int), p0, p1] W fun e w' => e = .returned (iv (f k)) ∧ Ext W w') :
    Calls Tryz.prog 82 #[.int .i64 (n : Int), .func (.func 86) #[] #[p0, p1]] w fun e w' => e = .returned (iv (es f n)) ∧ Ext w w' := by
  have HB := Lib.hid hb
  have HF := Lib.hid hf
  clear hb hf
  have hz := m_zero
  have hp := m_plus
  go_enter Tryz.func82, Tryz.ntmps82
  go_wp2_with fail
  refine (zero_c _ w).mono ?_
  rintro e w' ⟨rfl, rfl⟩
  go_wp2_with fail
  go_loopw [5, 11] (fun t k wr => ∃ q : Nat, k = .int .i64 q ∧ q ≤ n ∧ t = iv (es f q) ∧ Ext w wr) (fun _ k _ => n - (intOf k).toNat)
  case atStart => exact ⟨0, rfl, Nat.zero_le _, rfl, Ext.refl _⟩
  case round =>
    obtain ⟨q, rfl, hq, rfl, hE⟩ := hrel
    have HE := Lib.hid hE
    clear hE
    have hb1 : bdE KB (es f q) := bdE_es fun k hk => HB.out k (by omega)
    by_cases hlt : q < n
    · have HC := Lib.hid (HF.out q hlt wr HE.out)
      have hb2 := HB.out q hlt
      have HES := Lib.hid (show es f (q + 1) = em (es f q) (f q) from rfl)
      generalize f q = fq at *
      generalize es f q = tq at *
      go_wp2_with fail
      refine HC.out.mono ?_
      rintro e w2 ⟨rfl, hE⟩
      have HE2 := Lib.hid (Ext.trans HE.out hE)
      clear hE
      go_wp2_with fail
      refine (plus_c tq fq w2 hb1 hb2).mono ?_
      rintro e w3 ⟨rfl, rfl⟩
      go_wp2_with fail
      exact ⟨⟨q + 1, by simp, by omega, by rw [HES.out], HE2.out⟩, by simp [intOf]; omega⟩
    · obtain rfl : q = n := by omega
      go_wp2_with fail
      go_ret
      exact ⟨rfl, HE.out⟩
set_option maxHeartbeats 1000000 in
theorem sumD_c (p0 : Value) (n : Nat) (f : Nat → E) (w : World) (hn : n ≤ 6) (hb : ∀ k, k < n → bdE KB (f k))
    (hf : ∀ k, k < n → ∀ W, Ext w W → Calls Tryz.prog 115 #[.int .i64 (k : Int), p0] W fun e w' => e = .returned (iv (f k)) ∧ Ext W w') :
    Calls Tryz.prog 82 #[.int .i64 (n : Int), .func (.func 115) #[] #[p0]] w fun e w' => e = .returned (iv (es f n)) ∧ Ext w w' := by
  have HB := Lib.hid hb
  have HF := Lib.hid hf
  clear hb hf
  have hz := m_zero
  have hp := m_plus
  go_enter Tryz.func82, Tryz.ntmps82
  go_wp2_with fail
  refine (zero_c _ w).mono ?_
  rintro e w' ⟨rfl, rfl⟩
  go_wp2_with fail
  go_loopw [5, 11] (fun t k wr => ∃ q : Nat, k = .int .i64 q ∧ q ≤ n ∧ t = iv (es f q) ∧ Ext w wr) (fun _ k _ => n - (intOf k).toNat)
  case atStart => exact ⟨0, rfl, Nat.zero_le _, rfl, Ext.refl _⟩
  case round =>
    obtain ⟨q, rfl, hq, rfl, hE⟩ := hrel
    have HE := Lib.hid hE
    clear hE
    have hb1 : bdE KB (es f q) := bdE_es fun k hk => HB.out k (by omega)
    by_cases hlt : q < n
    · have HC := Lib.hid (HF.out q hlt wr HE.out)
      have hb2 := HB.out q hlt
      have HES := Lib.hid (show es f (q + 1) = em (es f q) (f q) from rfl)
      generalize f q = fq at *
      generalize es f q = tq at *
      go_wp2_with fail
      refine HC.out.mono ?_
      rintro e w2 ⟨rfl, hE⟩
      have HE2 := Lib.hid (Ext.trans HE.out hE)
      clear hE
      go_wp2_with fail
      refine (plus_c tq fq w2 hb1 hb2).mono ?_
      rintro e w3 ⟨rfl, rfl⟩
      go_wp2_with fail
      exact ⟨⟨q + 1, by simp, by omega, by rw [HES.out], HE2.out⟩, by simp [intOf]; omega⟩
    · obtain rfl : q = n := by omega
      go_wp2_with fail
      go_ret
      exact ⟨rfl, HE.out⟩
end Go.Proofs.YtbcngojiikdigaaGreat
