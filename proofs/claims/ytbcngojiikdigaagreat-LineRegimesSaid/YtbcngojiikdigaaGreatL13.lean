import Derived.Test.YtbcngojiikdigaaGreatL12
namespace Go.Proofs.YtbcngojiikdigaaGreat
set_option maxRecDepth 100000
open Go.RowKit Go.Shelf
theorem spF_bd {n : Nat} {A : MF} (bA : bdF 1000 n A) (hn : n ≤ 6) {p q : Int} (h : spF n A = some (p, q)) : (-6000 ≤ p ∧ p ≤ 6000) ∧ 1 ≤ q ∧ q ≤ 6 := by
  have hb := spK_bd bA (by decide) n
  unfold spF at h
  split at h
  · cases h
  · rename_i hd
    injection h with h
    injection h with h1 h2
    have hg : 0 < Int.gcd (spK n A n).1 (spK n A n).2 := Int.gcd_pos_of_ne_zero_right _ hd
    have hg2 := Int.gcd_le_natAbs_right (spK n A n).1 hd
    have e1 := Int.natAbs_tdiv (spK n A n).1 (Int.gcd (spK n A n).1 (spK n A n).2 : Int)
    have e2 := Int.natAbs_tdiv (spK n A n).2 (Int.gcd (spK n A n).1 (spK n A n).2 : Int)
    have e3 : 0 ≤ (spK n A n).2.tdiv (Int.gcd (spK n A n).1 (spK n A n).2 : Int) := Int.tdiv_nonneg (by omega) (by omega)
    rw [h1] at e1
    rw [h2] at e2 e3
    rw [Int.natAbs_natCast] at e1 e2
    replace e1 : p.natAbs = (spK n A n).1.natAbs / Int.gcd (spK n A n).1 (spK n A n).2 := e1
    replace e2 : q.natAbs = (spK n A n).2.natAbs / Int.gcd (spK n A n).1 (spK n A n).2 := e2
    have d1 := Nat.div_le_self (spK n A n).1.natAbs (Int.gcd (spK n A n).1 (spK n A n).2)
    have d2 := Nat.div_le_self (spK n A n).2.natAbs (Int.gcd (spK n A n).1 (spK n A n).2)
    have d3 := Nat.div_pos hg2 hg
    omega
/-- an entry in units of 1 / q, relative to p / q -/
def lvE (p q : Int) : E → E
  | none => none
  | some a => some (q * a - p)
def lvF (p q : Int) (A : MF) : MF := fun i j => lvE p q (A i j)
theorem lvF_bd {p q : Int} {n : Nat} {A : MF} (bA : bdF 1000 n A) (hp : -6000 ≤ p ∧ p ≤ 6000) (hq : 1 ≤ q ∧ q ≤ 6) : bdF 12000 n (lvF p q A) := fun i hi j hj y hy => by
  unfold lvF at hy
  cases h : A i j with
  | none => rw [h] at hy; cases hy
  | some a =>
    rw [h] at hy
    simp only [lvE, Option.some.injEq] at hy
    have h1 := bA i hi j hj a h
    have h2 := mul_bd (t := a) (d := q) (X := 1000) (by omega) (by omega)
    rw [Int.mul_comm a q] at h2
    omega
set_option maxHeartbeats 1000000 in
theorem level1_c (x : E) (p q : Int) (P : Nat) (w : World) (hx : bdE 1000 x) (hp : -6000 ≤ p ∧ p ≤ 6000) (hq : 1 ≤ q ∧ q ≤ 6) (h0 : w.cell? ⟨P, 0, none⟩ = some (.int .i64 p)) (h1 : w.cell? ⟨P, 1, none⟩ = some (.int .i64 q)) :
    Calls Tryz.prog 118 #[iv x, .pointer (some ⟨P, 0, none⟩)] w fun e w' => e = .returned (iv (lvE p q x)) ∧ Ext w w' := by
  cases x with
  | none =>
    show Calls Tryz.prog 118 #[.int .i64 (-1152921504606846976), .pointer (some ⟨P, 0, none⟩)] w fun e w' => e = .returned (.int .i64 (-1152921504606846976)) ∧ Ext w w'
    go_enter Tryz.func118, Tryz.ntmps118
    go_wp2_with fail
    go_ret
    exact ⟨rfl, Ext.refl _⟩
  | some a =>
    have ha := hx a rfl
    have han : (a == -1152921504606846976) = false := by rw [beq_eq_false_iff_ne]; omega
    have hb := mul_bd (t := a) (d := q) (X := 1000) (by omega) (by omega)
    rw [Int.mul_comm a q] at hb
    show Calls Tryz.prog 118 #[.int .i64 a, .pointer (some ⟨P, 0, none⟩)] w fun e w' => e = .returned (.int .i64 (q * a - p)) ∧ Ext w w'
    obtain ⟨z, hz⟩ : ∃ z, q * a = z := ⟨_, rfl⟩
    have HZ := Lib.hid hz
    rw [hz] at hb
    have hw : IntKind.i64.wrap (q * a) = z := by rw [hz]; exact IntWalk.i64_in _ (by omega)
    rw [hz]
    clear hz hx
    go_enter Tryz.func118, Tryz.ntmps118
    go_wp2_with fail
    go_ret
    exact ⟨rfl, Ext.refl _⟩
/-- what level gives -/
def LevelS (base n : Nat) (A : MF) (e : Ending) (w' : World) : Prop := match spF n A with
  | none => e = .returned (.tuple #[.slice none 0 0, .bool false])
  | some (p, q) => ∃ r, e = .returned (.tuple #[r, .bool true]) ∧ NewMat base w' r 56 62 n (lvF p q A)
set_option maxHeartbeats 2000000 in
theorem level_c (u : Value) (n : Nat) (A : MF) (w : World) (hn1 : 1 ≤ n) (hn : n ≤ 6) (hA : MatAt w u n A) (bA : bdF 1000 n A) :
    Calls Tryz.prog 93 #[u] w fun e w' => LevelS w.heap.size n A e w' ∧ Ext w w' := by
  have HA := Lib.hid hA
  have HBA := Lib.hid bA
  have HSP := Lib.hid (speed_c u n A w hn1 hn hA bA)
  obtain ⟨ua, uc, rfl⟩ := hA.len
  clear hA bA
  unfold LevelS
  cases hs : spF n A with
  | none =>
    rw [hs] at HSP
    clear hs
    simp only [speedV] at HSP ⊢
    go_enter Tryz.func93, Tryz.ntmps93
    go_wp2_with fail
    refine HSP.out.mono ?_
    rintro e w2 ⟨rfl, hE⟩
    have HE := Lib.hid hE
    clear hE
    go_wp2_with fail
    go_ret2
    exact ⟨rfl, Ext.alloc HE.out _⟩
  | some pq =>
    obtain ⟨p, q⟩ := pq
    have HB := Lib.hid (spF_bd HBA.out hn hs)
    rw [hs] at HSP
    clear hs
    simp only [speedV] at HSP ⊢
    go_enter Tryz.func93, Tryz.ntmps93
    go_wp2_with fail
    refine HSP.out.mono ?_
    rintro e w2 ⟨rfl, hE⟩
    have HE := Lib.hid (Ext.alloc hE (.cells #[.int .i64 p, .int .i64 q] 38))
    have HP := Lib.hid (show VRow (w2.alloc (.cells #[.int .i64 p, .int .i64 q] 38)) _ _ _ from vrow_alloc w2 [.int .i64 p, .int .i64 q] 38)
    have hsz := hE.size
    clear hE
    go_wp2_with fail
    generalize w2.alloc (.cells #[.int .i64 p, .int .i64 q] 38) = w3 at *
    refine (rlevel_c _ _ n A (lvF p q A) w3 hn1 hn (HA.out.ext HE.out) fun i hi j hj W hW => level1_c (A i j) p q w2.heap.size W (HBA.out i hi j hj) HB.out.1 HB.out.2 (VRow.cell (VRow.ext HP.out hW) (k := 0) rfl) (VRow.cell (VRow.ext HP.out hW) (k := 1) rfl)).mono ?_
    rintro e w4 ⟨r, rfl, hr, hE4⟩
    have HR := Lib.hid (hr.mono HE.out.size)
    have HE4 := Lib.hid (Ext.trans HE.out hE4)
    clear hr hE4
    go_wp2_with fail
    go_ret2
    exact ⟨⟨_, rfl, HR.out⟩, HE4.out⟩
end Go.Proofs.YtbcngojiikdigaaGreat
