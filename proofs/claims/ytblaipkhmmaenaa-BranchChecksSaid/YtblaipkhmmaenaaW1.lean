import Derived.Test.YtblaipkhmmaenaaRows
import Derived.Test.YtblaipkhmmaenaaBase
namespace Go.Proofs.Ytblaipkhmmaenaa
open Go.RowKit
theorem Rem_bound (a b : Int) (hb : b ≠ 0) : (a.tmod b).natAbs < b.natAbs := by
  rw [Int.natAbs_tmod]
  exact Nat.mod_lt _ (by omega)
theorem gcd_tmod (c d : Int) : Int.gcd d (c.tmod d) = Int.gcd c d := by
  unfold Int.gcd
  rw [Int.natAbs_tmod, Nat.gcd_comm c.natAbs d.natAbs, Nat.gcd_rec d.natAbs c.natAbs, Nat.gcd_comm]
theorem below_drewN {B : Nat} {a w : World} (h : Below B a w) (n : Nat) : Below B a (w.drewN n) := ⟨h.os, h.tape, h.output, h.size, h.block⟩

set_option maxHeartbeats 400000 in
theorem gcd_c (a b : Int) (w : World) (ha : -9223372036854775808 < a) (ha2 : a ≤ 9223372036854775807) (hb : -9223372036854775808 < b) (hb2 : b ≤ 9223372036854775807) :
    Calls Try.prog 60 #[.int .i64 a, .int .i64 b] w fun e w' => e = .returned (.int .i64 (Int.gcd a b)) ∧ ∃ n, w' = w.drewN n := by
  go_enter Try.func60, Try.ntmps60
  go_wp2
  go_loopw [0, 1] (fun s t wr => ∃ c d : Int, s = .int .i64 c ∧ t = .int .i64 d ∧ -9223372036854775808 < c ∧ c ≤ 9223372036854775807 ∧ -9223372036854775808 < d ∧ d ≤ 9223372036854775807 ∧ Int.gcd c d = Int.gcd a b ∧ ∃ n, wr = w.drewN n) (fun s t _ => (intOf t).natAbs)
  case atStart => exact ⟨a, b, rfl, rfl, ha, ha2, hb, hb2, rfl, 0, rfl⟩
  case round =>
    obtain ⟨c, d, rfl, rfl, h1, h2, h3, h4, hg, n, rfl⟩ := hrel
    have Hg := Lib.hid hg
    clear hg
    by_cases hd : d = 0
    · subst hd
      have h0 : ((0 : Int) != 0) = false := rfl
      go_wp2
      all_goals go_ret
      all_goals refine ⟨ret_int ?_, n, rfl⟩
      all_goals rw [← Hg.out]; simp; omega
    · have hd' : (d != 0) = true := by simpa using hd
      have hd2 : (d == 0) = false := by simpa using hd
      have hb := Rem_bound c d hd
      have hlo : -9223372036854775808 < c.tmod d := by omega
      have hhi : c.tmod d ≤ 9223372036854775807 := by omega
      have Hg2 := Lib.hid (gcd_tmod c d)
      have Hb := Lib.hid hb
      clear hb
      have hw : IntKind.i64.wrap (c.tmod d) = c.tmod d := IntWalk.i64_in _ (by omega)
      go_wp2
      go_quiet (fail)
      clear hw
      go_wp2
      refine ⟨⟨d, c.tmod d, rfl, rfl, by omega, by omega, by omega, by omega, by rw [Hg2.out, Hg.out], _, World.drewN_drewN _ _ _⟩, Hb.out⟩

set_option maxHeartbeats 400000 in
theorem dot_c (u v : Value) (xs ys : List Int) (w : World) (hx : Ints w u xs) (hy : Ints w v ys) (hl : xs.length ≤ ys.length) :
    Calls Try.prog 45 #[u, v] w fun e w' => e = .returned (.int .i64 (wrap64 (dotZ xs ys))) ∧ w = w' := by
  obtain ⟨ax, cx, rfl, hxc, hxm, hrx⟩ := hx
  obtain ⟨ay, cy, rfl, hyc, hym, hry⟩ := hy
  go_enter Try.func45, Try.ntmps45
  go_wp2
  go_loop [5, 10] (fun s i => ∃ k : Nat, k ≤ xs.length ∧ i = .int .i64 k ∧ s = .int .i64 (wrap64 (dotZ (xs.take k) ys))) (fun _ i => xs.length - (intOf i).toNat)
  case atStart => exact ⟨0, Nat.zero_le _, rfl, by simp [dotZ_nil, wrap64]⟩
  case round =>
    obtain ⟨k, hk, rfl, rfl⟩ := hrel
    by_cases hlt : k < xs.length
    · obtain ⟨bx, ox, rfl, hcx⟩ := hrx.at (by simp; omega)
      obtain ⟨b, o, rfl, hcy⟩ := hry.at (by simp; omega)
      obtain ⟨x, hx⟩ := getElem?_len hlt
      obtain ⟨y, hy⟩ := getElem?_len (show k < ys.length by omega)
      have h1 := hcx k (.int .i64 x) (by simp [hx])
      have h2 := hcy k (.int .i64 y) (by simp [hy])
      have Hs := Lib.hid (dotZ_take_succ xs ys k x y hx hy)
      clear hcx hcy hrx hry hx hy
      go_wp2
      refine ⟨⟨k + 1, by omega, by go_num, ?_⟩, by simp [intOf]; omega⟩
      rw [Hs.out, wrap64_add, wrap64_add']
    · go_wp2
      go_ret
      refine ⟨ret_int ?_, rfl⟩
      rw [List.take_of_length_le (by omega)]

theorem take_eq_succ {xs ys : List Int} {k : Nat} {x : Int} (hx : xs[k]? = some x) (hy : ys[k]? = some x) (h : xs.take k = ys.take k) : xs.take (k + 1) = ys.take (k + 1) := by
  rw [take_succ_get hx, take_succ_get hy, h]
theorem ne_of_get {xs ys : List Int} {k : Nat} {x y : Int} (hx : xs[k]? = some x) (hy : ys[k]? = some y) (h : x ≠ y) : xs ≠ ys := by
  rintro rfl
  rw [hx] at hy
  exact h (by injection hy)

set_option maxHeartbeats 400000 in
theorem same_c (u v : Value) (xs ys : List Int) (w : World) (hx : Ints w u xs) (hy : Ints w v ys) :
    Calls Try.prog 13 #[u, v] w fun e w' => e = .returned (.bool (decide (xs = ys))) ∧ ∃ n, w' = w.drewN n := by
  obtain ⟨ax, cx, rfl, hxc, hxm, hrx⟩ := hx.at
  obtain ⟨ay, cy, rfl, hyc, hym, hry⟩ := hy.at
  clear hx hy
  by_cases hl : xs.length = ys.length
  · have hb : ((xs.length : Int) != (ys.length : Int)) = false := by rw [hl]; simp
    have hl1 : xs.length ≤ ys.length := by omega
    have hl2 : ys.length ≤ xs.length := by omega
    have Hl := Lib.hid hl
    clear hl
    go_enter Try.func13, Try.ntmps13
    go_wp2
    clear hb
    go_loopw [5] (fun i wr => ∃ k : Nat, k ≤ xs.length ∧ i = .int .i64 k ∧ xs.take k = ys.take k ∧ ∃ n, wr = w.drewN n) (fun i _ => xs.length - (intOf i).toNat)
    case atStart => exact ⟨0, Nat.zero_le _, rfl, rfl, 0, rfl⟩
    case round =>
      obtain ⟨k, hk, rfl, ht, n, rfl⟩ := hrel
      have Ht := Lib.hid ht
      clear ht
      by_cases hlt : k < xs.length
      · obtain ⟨x, hx⟩ := getElem?_len hlt
        obtain ⟨y, hy⟩ := getElem?_len (show k < ys.length by omega)
        obtain ⟨bx, ox, rfl, h1⟩ := hrx k x hx
        obtain ⟨b, o, rfl, h2⟩ := hry k y hy
        have Hx := Lib.hid hx
        have Hy := Lib.hid hy
        clear hx hy hrx hry
        have hi1 : (k : Int) < (xs.length : Int) := by omega
        have hi2 : (k : Int) < (ys.length : Int) := by omega
        by_cases hxy : x = y
        · subst hxy
          go_wp2
          go_quiet (fail)
          go_wp2
          refine ⟨⟨k + 1, by omega, by go_num, take_eq_succ Hx.out Hy.out Ht.out, _, (by first | rfl | exact World.drewN_drewN _ _ _)⟩, by simp [intOf]; omega⟩
        · have hxy' : (x != y) = true := by simpa using hxy
          have hxy2 : (x == y) = false := by simpa using hxy
          go_wp2
          go_quiet (fail)
          go_wp2
          go_ret
          exact ⟨ret_bool (decide_eq_false (ne_of_get Hx.out Hy.out hxy)).symm, _, (by first | rfl | exact World.drewN_drewN _ _ _)⟩
      · have he : xs = ys := by
          have := Ht.out
          rwa [List.take_of_length_le (by omega), List.take_of_length_le (by omega)] at this
        have He := Lib.hid he
        clear he
        go_wp2
        go_ret
        exact ⟨ret_bool (decide_eq_true He.out).symm, _, rfl⟩
  · have hb : ((xs.length : Int) != (ys.length : Int)) = true := by simp; omega
    have hb2 : ((xs.length : Int) == (ys.length : Int)) = false := by simp; omega
    have Hl := Lib.hid hl
    clear hl
    go_enter Try.func13, Try.ntmps13
    go_wp2
    go_ret
    exact ⟨ret_bool (decide_eq_false (fun h => Hl.out (by rw [h]))).symm, 0, rfl⟩

/-- a Program by value -/
structure Prg where
  A : List (List Int)
  B : List Int
  C : List Int
def PrgAt (w : World) (a b c : Value) (p : Prg) : Prop := Rows2 w a p.A ∧ Ints w b p.B ∧ Ints w c p.C
theorem Try.info3 : (Try.prog.info? 3).map (fun i => (i.zero, i.size, i.bytes)) = some (some (.int .i64 0), 1, 8) := by kernel_rfl

/-- v + k * ws, wrapped, where there is a number of ws -/
def addT : List Int → Int → List Int → List Int
  | v :: vs, k, x :: xs => wrap64 (v + k * x) :: addT vs k xs
  | vs, _, [] => vs
  | [], _, _ => []
theorem addT_length (k : Int) : ∀ vs xs : List Int, (addT vs k xs).length = vs.length := by
  intro vs
  induction vs with
  | nil => intro xs; cases xs <;> rfl
  | cons v vs ih => intro xs; cases xs with
    | nil => rfl
    | cons x xs => simp [addT, ih]
theorem addT_nil (vs : List Int) (k : Int) : addT vs k [] = vs := by cases vs <;> rfl
theorem addT_get (k : Int) : ∀ (vs xs : List Int) (j : Nat) (v x : Int), vs[j]? = some v → xs[j]? = some x → (addT vs k xs)[j]? = some (wrap64 (v + k * x)) := by
  intro vs
  induction vs with
  | nil => intro xs j v x h; simp at h
  | cons a vs ih =>
    intro xs j v x hv hx
    cases xs with
    | nil => simp at hx
    | cons b xs =>
      cases j with
      | zero => simp at hv hx; subst hv hx; simp [addT]
      | succ j => simpa [addT] using ih xs j v x (by simpa using hv) (by simpa using hx)
theorem addT_step (k : Int) : ∀ (vs xs : List Int) (j : Nat) (v x : Int), vs[j]? = some v → xs[j]? = some x → addT vs k (xs.take (j + 1)) = (addT vs k (xs.take j)).set j (wrap64 (v + k * x)) := by
  intro vs
  induction vs with
  | nil => intro xs j v x h; simp at h
  | cons a vs ih =>
    intro xs j v x hv hx
    cases xs with
    | nil => simp at hx
    | cons b xs =>
      cases j with
      | zero => simp at hv hx; subst hv hx; simp [addT, addT_nil]
      | succ j => simpa [addT] using ih xs j v x (by simpa using hv) (by simpa using hx)
theorem addT_old (k : Int) : ∀ (vs xs : List Int) (j : Nat) (v : Int), vs[j]? = some v → (addT vs k (xs.take j))[j]? = some v := by
  intro vs
  induction vs with
  | nil => intro xs j v h; simp at h
  | cons a vs ih =>
    intro xs j v hv
    cases xs with
    | nil => simpa [addT] using hv
    | cons b xs =>
      cases j with
      | zero => simpa [addT] using hv
      | succ j => simpa [addT] using ih xs j v (by simpa using hv)

/-- an old cell is none of block g's -/
theorem Ext.cell_set {w0 w : World} (h : Ext w0 w) {p : Addr} {u : Value} (hp : w0.cell? p = some u) : w.cell? p = some u := Ext.cell h hp

end Go.Proofs.Ytblaipkhmmaenaa
