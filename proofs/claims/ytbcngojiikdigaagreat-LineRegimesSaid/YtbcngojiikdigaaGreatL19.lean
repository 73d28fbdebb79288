import Derived.Test.YtbcngojiikdigaaGreatL18
namespace Go.Proofs.YtbcngojiikdigaaGreat
set_option maxRecDepth 100000
open Go.RowKit Go.Shelf
/-- what leveled gives -/
def LeveledS (base : Nat) (xs : List (List Int)) (e : Ending) (w' : World) : Prop :=
  (matB xs = false ∧ e = two (.slice none 0 0) (.int .i64 2)) ∨
  (matB xs = true ∧ spF xs.length (entF xs) = none ∧ e = two (.slice none 0 0) (.int .i64 10)) ∨
  (matB xs = true ∧ ∃ p q r, spF xs.length (entF xs) = some (p, q) ∧ e = two r (.int .i64 0) ∧ NewMat base w' r 56 62 xs.length (lvF p q (entF xs)))
set_option maxHeartbeats 4000000 in
theorem leveled_c (u : Value) (xs : List (List Int)) (w : World) (hu : Rows2 w u xs) (hlx : ∀ r ∈ xs, r.length ≤ 1000000) :
    Calls Tryz.prog 60 #[u] w fun e w' => LeveledS w.heap.size xs e w' ∧ Ext w w' := by
  have HU := Lib.hid hu
  have HM := Lib.hid (fun W (h : Ext w W) => isMatrix_c u xs W (hu.ext h) hlx)
  obtain ⟨a1, c1, rfl, hl1, hm1, _⟩ := hu.at
  clear hu hlx
  cases hx : matB xs with
  | false =>
    have HS := Lib.hid (fun w' => (show LeveledS w.heap.size xs (two (.slice none 0 0) (.int .i64 2)) w' from .inl ⟨hx, rfl⟩))
    rw [hx] at HM
    clear hx
    go_enter Tryz.func60, Tryz.ntmps60
    go_wp2_with fail
    refine (HM.out _ (Ext.refl _)).mono ?_
    rintro e w1 ⟨rfl, hE⟩
    have HE := Lib.hid hE
    clear hE
    go_wp2_with fail
    go_ret2
    exact ⟨HS.out _, HE.out⟩
  | true =>
    have HOX := Lib.hid (matB_ok hx)
    have hn := HOX.out.1
    have HX := Lib.hid hx
    rw [hx] at HM
    clear hx
    go_enter Tryz.func60, Tryz.ntmps60
    go_wp2_with fail
    refine (HM.out _ (Ext.refl _)).mono ?_
    rintro e w1 ⟨rfl, hE⟩
    have HE := Lib.hid hE
    clear hE
    go_wp2_with fail
    refine (spans_c _ xs.length (entF xs) w1 hn.1 hn.2 (rows_mat (HU.out.ext HE.out) HOX.out.2.1 hn.1)).mono ?_
    rintro e w3 ⟨r1, rfl, hr1, hE⟩
    have HE3 := Lib.hid (Ext.trans HE.out hE)
    have HR1 := Lib.hid (hr1.mat (by omega))
    clear hE hr1
    go_wp2_with fail
    refine (level_c _ xs.length _ w3 hn.1 hn.2 HR1.out HOX.out.2.2).mono ?_
    rintro e w5 ⟨hL, hE⟩
    have HE5 := Lib.hid (Ext.trans HE3.out hE)
    clear hE
    unfold LevelS at hL
    cases hs : spF xs.length (entF xs) with
    | none =>
      rw [hs] at hL
      simp only at hL
      subst hL
      have HS := Lib.hid (fun w' => (show LeveledS w.heap.size xs (two (.slice none 0 0) (.int .i64 10)) w' from .inr (.inl ⟨HX.out, hs, rfl⟩)))
      clear hs
      go_wp2_with fail
      go_ret2
      exact ⟨HS.out _, HE5.out⟩
    | some pq =>
      obtain ⟨p, q⟩ := pq
      rw [hs] at hL
      simp only at hL
      obtain ⟨r, rfl, hr⟩ := hL
      have HR := Lib.hid (hr.mono HE3.out.size)
      have HS := Lib.hid (fun w' (h : NewMat w.heap.size w' r 56 62 xs.length (lvF p q (entF xs))) => (show LeveledS w.heap.size xs (two r (.int .i64 0)) w' from .inr (.inr ⟨HX.out, p, q, r, hs, rfl, h⟩)))
      clear hs hr
      go_wp2_with fail
      go_ret2
      exact ⟨HS.out _ HR.out, HE5.out⟩
set_option maxHeartbeats 1000000 in
theorem lcm_c (a b : Nat) (w : World) (ha : 1 ≤ a ∧ a ≤ 1000000000) (hb : 1 ≤ b ∧ b ≤ 1000000) :
    Calls Tryz.prog 105 #[.int .i64 (a : Int), .int .i64 (b : Int)] w fun e w' => e = .returned (.int .i64 ((Nat.lcm a b : Nat) : Int)) ∧ Ext w w' := by
  have hg : 0 < Nat.gcd a b := Nat.gcd_pos_of_pos_left _ (by omega)
  have hga : Nat.gcd a b ≤ a := Nat.gcd_le_left _ (by omega)
  have HG := Lib.hid (gcd_c (a : Int) (b : Int) w (by omega) (by omega))
  rw [show ((Int.gcd (a : Int) (b : Int) : Nat) : Int) = ((Nat.gcd a b : Nat) : Int) from rfl] at HG
  have hl : Nat.lcm a b = a / Nat.gcd a b * b := by
    unfold Nat.lcm
    rw [Nat.mul_comm a b, Nat.mul_div_assoc _ (Nat.gcd_dvd_left a b), Nat.mul_comm]
  obtain ⟨g, hgg⟩ : ∃ g, g = Nat.gcd a b := ⟨_, rfl⟩
  rw [← hgg] at hg hga HG hl
  obtain ⟨d, hd⟩ : ∃ d, d = a / g := ⟨_, rfl⟩
  have hda : d ≤ a := by rw [hd]; exact Nat.div_le_self _ _
  have hdz : (a : Int) / (g : Int) = (d : Int) := by rw [hd]; exact (Int.natCast_ediv a g).symm
  rw [← hd] at hl
  obtain ⟨q, hq⟩ : ∃ q, q = d * b := ⟨_, rfl⟩
  have hqb : q ≤ 1000000000 * 1000000 := by rw [hq]; exact Nat.mul_le_mul (by omega) (by omega)
  rw [← hq] at hl
  have HL := Lib.hid hl
  have hqz : IntKind.i64.wrap ((d : Int) * (b : Int)) = (q : Int) := by rw [show (d : Int) * (b : Int) = (q : Int) by rw [hq]; simp]; exact IntWalk.i64_in _ (by omega)
  have hgz : 1 ≤ (g : Int) := by omega
  clear hl hq hd hgg
  go_enter Tryz.func105, Tryz.ntmps105
  go_wp2_with fail
  refine HG.out.mono ?_
  rintro e w2 ⟨rfl, hE⟩
  have HE := Lib.hid hE
  clear hE
  go_wp2_with fail
  go_ret
  exact ⟨ret_int (by rw [HL.out]), HE.out⟩
end Go.Proofs.YtbcngojiikdigaaGreat
