import Derived.Test.YtbcngojiikdigaaGreatL28
namespace Go.Proofs.YtbcngojiikdigaaGreat
set_option maxRecDepth 100000
open Go.RowKit Go.Shelf
def XA : List (List Int) := [[3, 7], [2, 4]]
theorem xa_mat : matB XA = true := by decide
theorem xa_sp : spF 2 (entF XA) = some (9, 2) := by decide
theorem xa_conn : connB 2 (lvF 9 2 (entF XA)) = true := by decide
theorem xa_crit : critL 2 (lvF 9 2 (entF XA)) 2 = [0, 1] := by decide
theorem xa_col0 : closF 2 (lvF 9 2 (entF XA)) 0 0 = some 0 := by decide
theorem xa_col1 : closF 2 (lvF 9 2 (entF XA)) 1 0 = some (-5) := by decide
theorem xa_eig : eigL 2 (lvF 9 2 (entF XA)) 0 = [5, 0] := by decide
theorem xa_per : periodF 2 (lvF 9 2 (entF XA)) = 2 := by decide
theorem xa_ag0 : agB 2 (lvF 9 2 (entF XA)) 2 0 = false := by decide
theorem xa_ag1 : agB 2 (lvF 9 2 (entF XA)) 2 1 = false := by decide
theorem xa_ag2 : agB 2 (lvF 9 2 (entF XA)) 2 2 = true := by decide
theorem row_two {w : World} {g : Nat} {t : TypeId} {a b : Value} (h : VRow w g t [a, b]) : Row w (some ⟨g, 0, none⟩) [a, b] := VRow.row h
theorem ints_two {w : World} {g : Nat} {a b : Int} (h : VRow w g 3 [.int .i64 a, .int .i64 b]) : Ints w (.slice (some ⟨g, 0, none⟩) 2 2) [a, b] := ⟨_, _, rfl, Nat.le_refl _, by omega, VRow.row h⟩
theorem rows_two {w : World} {g g1 g2 : Nat} {a b c d : Int} (h : VRow w g 23 [.slice (some ⟨g1, 0, none⟩) 2 2, .slice (some ⟨g2, 0, none⟩) 2 2]) (h1 : VRow w g1 3 [.int .i64 a, .int .i64 b]) (h2 : VRow w g2 3 [.int .i64 c, .int .i64 d]) :
    Rows2 w (.slice (some ⟨g, 0, none⟩) 2 2) [[a, b], [c, d]] :=
  ⟨_, _, _, rfl, Nat.le_refl _, by omega, VRow.row h, rfl, fun k u x hu hx => by
    match k, hu, hx with
    | 0, hu, hx => injection hu with hu; injection hx with hx; subst hu hx; exact ints_two h1
    | 1, hu, hx => injection hu with hu; injection hx with hx; subst hu hx; exact ints_two h2⟩
set_option maxHeartbeats 4000000 in
theorem alive_c (w : World) : Calls Tryz.prog 9 #[] w fun e w' => e = .returned (.bool true) ∧ Ext w w' := by
  have s1 : (w.alloc (.cells #[.int .i64 3, .int .i64 7] 3)).heap.size = w.heap.size + 1 := by simp
  have s2 : ((w.alloc (.cells #[.int .i64 3, .int .i64 7] 3)).alloc (.cells #[.int .i64 2, .int .i64 4] 3)).heap.size = w.heap.size + 2 := by simp
  have p1 := VRow.alloc (VRow.alloc (vrow_alloc w [.int .i64 3, .int .i64 7] 3) (.cells #[.int .i64 2, .int .i64 4] 3)) (.cells #[.slice (some ⟨w.heap.size, 0, none⟩) 2 2, .slice (some ⟨w.heap.size + 1, 0, none⟩) 2 2] 23)
  have p2 := VRow.alloc (vrow_alloc (w.alloc (.cells #[.int .i64 3, .int .i64 7] 3)) [.int .i64 2, .int .i64 4] 3) (.cells #[.slice (some ⟨w.heap.size, 0, none⟩) 2 2, .slice (some ⟨w.heap.size + 1, 0, none⟩) 2 2] 23)
  have p3 := vrow_alloc ((w.alloc (.cells #[.int .i64 3, .int .i64 7] 3)).alloc (.cells #[.int .i64 2, .int .i64 4] 3)) [.slice (some ⟨w.heap.size, 0, none⟩) 2 2, .slice (some ⟨w.heap.size + 1, 0, none⟩) 2 2] 23
  rw [s1] at p2
  rw [s2] at p3
  have HR := Lib.hid (show Rows2 (((w.alloc (.cells #[.int .i64 3, .int .i64 7] 3)).alloc (.cells #[.int .i64 2, .int .i64 4] 3)).alloc (.cells #[.slice (some ⟨w.heap.size, 0, none⟩) 2 2, .slice (some ⟨w.heap.size + 1, 0, none⟩) 2 2] 23)) (.slice (some ⟨w.heap.size + 2, 0, none⟩) 2 2) XA from rows_two p3 p1 p2)
  have HE := Lib.hid (Ext.alloc (Ext.alloc (Ext.alloc (Ext.refl w) (.cells #[.int .i64 3, .int .i64 7] 3)) (.cells #[.int .i64 2, .int .i64 4] 3)) (.cells #[.slice (some ⟨w.heap.size, 0, none⟩) 2 2, .slice (some ⟨w.heap.size + 1, 0, none⟩) 2 2] 23))
  have HXL := Lib.hid (show ∀ r ∈ XA, r.length ≤ 1000000 from by decide)
  clear p1 p2 p3 s1 s2
  go_enter Tryz.func9, Tryz.ntmps9
  go_wp2_with fail
  generalize ((w.alloc (.cells #[.int .i64 3, .int .i64 7] 3)).alloc (.cells #[.int .i64 2, .int .i64 4] 3)).alloc (.cells #[.slice (some ⟨w.heap.size, 0, none⟩) 2 2, .slice (some ⟨w.heap.size + 1, 0, none⟩) 2 2] 23) = w1 at *
  refine (Speed_c _ XA w1 HR.out HXL.out).mono ?_
  rintro e w2 ⟨rfl, hE⟩
  rw [show speedZ XA = (9, 2, 0) by decide]
  have HE2 := Lib.hid (Ext.trans HE.out hE)
  have HR2 := Lib.hid (Rows2.ext HR.out hE)
  have HEa := Lib.hid (Ext.alloc (Ext.refl w2) (.cells #[.int .i64 9, .int .i64 2] 38))
  have HPa := Lib.hid (show VRow (w2.alloc (.cells #[.int .i64 9, .int .i64 2] 38)) _ _ _ from vrow_alloc w2 [.int .i64 9, .int .i64 2] 38)
  clear hE
  unfold two
  go_wp2_with fail
  generalize w2.alloc (.cells #[.int .i64 9, .int .i64 2] 38) = w3 at *
  refine (Eigen_c _ XA w3 (Rows2.ext HR2.out HEa.out) HXL.out fun p q _ hs _ => ?eok).mono ?_
  case eok =>
    rw [show XA.length = 2 from rfl, xa_sp] at hs
    injection hs with hs
    injection hs with h1 h2
    subst h1 h2
    exact ⟨0, [1], xa_crit, by decide, fun i hi => by
      match i, hi with
      | 0, _ => exact ⟨_, xa_col0⟩
      | 1, _ => exact ⟨_, xa_col1⟩⟩
  rintro e w4 ⟨hS, hE⟩
  obtain ⟨R, rfl, hI⟩ : ∃ R, e = two (.slice (some ⟨R, 0, none⟩) 2 2) (.int .i64 0) ∧ Ints w4 (.slice (some ⟨R, 0, none⟩) 2 2) [5, 0] := by
    rcases hS with ⟨h, _⟩ | ⟨_, h, _⟩ | ⟨_, p, q, h, h2, _⟩ | ⟨_, p, q, f, rest, R, h, _, hc, _, he, hI⟩
    · rw [xa_mat] at h; cases h
    · rw [show XA.length = 2 from rfl, xa_sp] at h; cases h
    · rw [show XA.length = 2 from rfl, xa_sp] at h
      injection h with hs
      injection hs with h1 h3
      subst h1 h3
      rw [show XA.length = 2 from rfl, xa_conn] at h2; cases h2
    · rw [show XA.length = 2 from rfl, xa_sp] at h
      injection h with hs
      injection hs with h1 h3
      subst h1 h3
      rw [show XA.length = 2 from rfl, xa_crit] at hc
      injection hc with h1 h2
      subst h1
      refine ⟨R, he, ?_⟩
      rw [show XA.length = 2 from rfl, xa_eig] at hI
      exact ints_two hI
  have HE4 := Lib.hid (Ext.trans (Ext.trans HE2.out HEa.out) hE)
  have HR4 := Lib.hid (Rows2.ext (Rows2.ext HR2.out HEa.out) hE)
  have HP4 := Lib.hid (VRow.ext HPa.out hE)
  have HI4 := Lib.hid hI
  clear hE hS hI
  unfold two
  go_wp2_with fail
  refine (Regime_c _ XA w4 HR4.out HXL.out fun p q _ hs _ => ?rok).mono ?_
  case rok =>
    rw [show XA.length = 2 from rfl, xa_sp] at hs
    injection hs with hs
    injection hs with h1 h2
    subst h1 h2
    rw [show XA.length = 2 from rfl, xa_per]
    exact ⟨1, by omega, by decide, by omega, fun t ht => by
      match t, ht with
      | 0, _ => exact xa_ag1, xa_ag2, xa_ag0⟩
  rintro e w5 ⟨hS, hE⟩
  obtain ⟨k, rfl⟩ : ∃ k : Int, e = three 2 k 0 := by
    rcases hS with ⟨h, _⟩ | ⟨_, h, _⟩ | ⟨_, p, q, h, h2, _⟩ | ⟨_, p, q, m, h, _, _, he⟩
    · rw [xa_mat] at h; cases h
    · rw [show XA.length = 2 from rfl, xa_sp] at h; cases h
    · rw [show XA.length = 2 from rfl, xa_sp] at h
      injection h with hs
      injection hs with h1 h3
      subst h1 h3
      rw [show XA.length = 2 from rfl, xa_conn] at h2; cases h2
    · rw [show XA.length = 2 from rfl, xa_sp] at h
      injection h with hs
      injection hs with h1 h3
      subst h1 h3
      rw [show XA.length = 2 from rfl, xa_per] at he
      exact ⟨_, he⟩
  have HE5 := Lib.hid (Ext.trans HE4.out hE)
  have HP5 := Lib.hid (VRow.ext HP4.out hE)
  have HI5 := Lib.hid (Ints.ext HI4.out hE)
  have HE6 := Lib.hid (Ext.alloc HE5.out (.cells #[.int .i64 5, .int .i64 0] 3))
  have HI6 := Lib.hid (Ints.ext HI5.out (Ext.alloc (Ext.refl w5) (.cells #[.int .i64 5, .int .i64 0] 3)))
  have HJ6 := Lib.hid (ints_two (show VRow (w5.alloc (.cells #[.int .i64 5, .int .i64 0] 3)) _ _ _ from vrow_alloc w5 [.int .i64 5, .int .i64 0] 3))
  have c0 := VRow.cell HP5.out (k := 0) rfl
  have c1 := VRow.cell HP5.out (k := 1) rfl
  clear hE hS
  unfold three
  go_wp2_with fail
  clear c0 c1
  generalize w5.alloc (.cells #[.int .i64 5, .int .i64 0] 3) = w6 at *
  refine (same_c _ _ [5, 0] [5, 0] w6 HI6.out HJ6.out).mono ?_
  rintro e w7 ⟨rfl, hE⟩
  have HE7 := Lib.hid (Ext.trans HE6.out hE)
  clear hE
  rw [decide_eq_true rfl]
  go_wp2_with fail
  go_ret
  exact ⟨rfl, HE7.out⟩
end Go.Proofs.YtbcngojiikdigaaGreat
