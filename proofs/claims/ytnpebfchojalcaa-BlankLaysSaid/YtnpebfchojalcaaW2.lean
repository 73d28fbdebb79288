import Derived.Test.YtnpebfchojalcaaKit
namespace Go.Proofs.Ytnpebfchojalcaa
set_option maxRecDepth 100000
open Go.RowKit
def orZ : List Int → Int
  | [] => 0
  | x :: xs => if x = 0 then orZ xs else x
theorem orZ_skip : ∀ (xs : List Int) (k : Nat), (∀ j x, j < k → xs[j]? = some x → x = 0) → orZ xs = orZ (xs.drop k) := by
  intro xs
  induction xs with
  | nil => intro k _; simp
  | cons a xs ih =>
    intro k h
    cases k with
    | zero => rfl
    | succ k =>
      have h0 := h 0 a (by omega) rfl
      simp only [List.drop_succ_cons]
      rw [← ih k (fun j x hj hx => h (j + 1) x (by omega) (by simpa using hx))]
      simp [orZ, h0]
theorem orZ_at {xs : List Int} {k : Nat} {x : Int} (h : ∀ j y, j < k → xs[j]? = some y → y = 0) (hk : xs[k]? = some x) (hx : x ≠ 0) : orZ xs = x := by
  rw [orZ_skip xs k h]
  have : xs.drop k = x :: xs.drop (k + 1) := by
    rw [List.drop_eq_getElem_cons (lt_len hk)]
    have := (List.getElem?_eq_some_iff.1 hk).2
    rw [this]
  rw [this]
  simp [orZ, hx]
theorem orZ_end {xs : List Int} (h : ∀ j y, j < xs.length → xs[j]? = some y → y = 0) : orZ xs = 0 := by
  rw [orZ_skip xs xs.length h]
  simp [orZ]
set_option maxHeartbeats 400000 in
theorem or_c (v : Value) (xs : List Int) (w : World) (hx : Ints w v xs) :
    Calls Try.prog 49 #[v] w fun e w' => e = .returned (.int .i64 (orZ xs)) ∧ w = w' := by
  obtain ⟨ax, cx, rfl, hxc, hxm, hrx⟩ := hx.at
  clear hx
  go_enter Try.func49, Try.ntmps49
  go_wp2
  go_loop [8] (fun i => ∃ k : Nat, k ≤ xs.length ∧ (∀ j y, j < k → xs[j]? = some y → y = 0) ∧ i = .int .i64 k) (fun i => xs.length - (intOf i).toNat)
  case atStart => exact ⟨0, Nat.zero_le _, fun j y hj => by omega, rfl⟩
  case round =>
    obtain ⟨k, hk, hall, rfl⟩ := hrel
    have Hall := Lib.hid hall
    clear hall
    by_cases hlt : k < xs.length
    · obtain ⟨x, hx⟩ := getElem?_len hlt
      obtain ⟨b, o, rfl, hc⟩ := hrx k x hx
      have Hx := Lib.hid hx
      clear hx hrx
      by_cases hz : x = 0
      · subst hz
        go_wp2
        refine ⟨⟨k + 1, by omega, fun j y hj hy => ?_, by simp⟩, by simp [intOf]; omega⟩
        by_cases hjk : j = k
        · subst hjk; have h2 := Hx.out; rw [hy] at h2; injection h2
        · exact Hall.out j y (by omega) hy
      · go_wp2
        go_ret
        exact ⟨ret_int (orZ_at Hall.out Hx.out hz).symm, rfl⟩
    · obtain rfl : k = xs.length := by omega
      go_wp2
      go_ret
      exact ⟨ret_int (orZ_end Hall.out).symm, rfl⟩
def heightZ (a b c d : Int) : Int := if sgnZ b d = 0 then sgnZ a c else sgnZ b d
theorem heightZ_or (a b c d : Int) : orZ [sgnZ b d, sgnZ a c] = heightZ a b c d := by
  unfold heightZ orZ orZ
  by_cases h : sgnZ b d = 0
  · rw [if_pos h, if_pos h]
    by_cases h2 : sgnZ a c = 0
    · rw [if_pos h2, h2]; rfl
    · rw [if_neg h2]
  · rw [if_neg h, if_neg h]
set_option maxRecDepth 100000 in
set_option maxHeartbeats 1000000 in
theorem byHeight_c (a b c d : Int) (w : World) :
    Calls Try.prog 75 #[vecV a b, vecV c d] w fun e w' => e = .returned (.int .i64 (heightZ a b c d)) ∧ Ext w w' := by
  have hm0 := VRow.alloc (vrow_alloc w [.int .i64 a, .int .i64 b] 31) (.cells #[.int .i64 c, .int .i64 d] 31)
  have hn0 := vrow_alloc (w.alloc (.cells #[.int .i64 a, .int .i64 b] 31)) [.int .i64 c, .int .i64 d] 31
  have hE := Ext.alloc (Ext.alloc (Ext.refl w) (.cells #[.int .i64 a, .int .i64 b] 31)) (.cells #[.int .i64 c, .int .i64 d] 31)
  have hs1 : (w.alloc (.cells #[.int .i64 a, .int .i64 b] 31)).heap.size = w.heap.size + 1 := by simp
  rw [hs1] at hn0
  change VRow ((w.alloc (.cells #[.int .i64 a, .int .i64 b] 31)).alloc (.cells #[.int .i64 c, .int .i64 d] 31)) _ _ _ at hm0 hn0
  have HM := Lib.hid hm0
  have HN := Lib.hid hn0
  have HE := Lib.hid hE
  clear hs1 hm0 hn0 hE
  go_enter Try.func75, Try.ntmps75
  go_wp2_with fail
  generalize (w.alloc (.cells #[.int .i64 a, .int .i64 b] 31)).alloc (.cells #[.int .i64 c, .int .i64 d] 31) = w1 at *
  generalize hs : w.heap.size = s at *
  refine wp_region_stable [⟨[], none⟩, ⟨[(0, 5)], none⟩, ⟨[], none⟩, ⟨[(2, 7)], none⟩, ⟨[(1, 6), (3, 8)], none⟩, ⟨[], none⟩, ⟨[(5, 10)], none⟩, ⟨[], none⟩, ⟨[(7, 12)], none⟩, ⟨[(6, 11), (8, 13)], none⟩, ⟨[(4, 9), (9, 14)], none⟩, ⟨[(10, 15)], none⟩, ⟨[(11, 16)], none⟩] (fun x y => Below x.heap.size x y) (MPat [MP.eq (.pointer (some ⟨s, 1, none⟩)), MP.eq (.int .i64 b), MP.eq (.pointer (some ⟨s + 1, 1, none⟩)), MP.eq (.int .i64 d), MP.eq (.int .i64 (sgnZ b d)), MP.eq (.pointer (some ⟨s, 0, none⟩)), MP.eq (.int .i64 a), MP.eq (.pointer (some ⟨s + 1, 0, none⟩)), MP.eq (.int .i64 c), MP.eq (.int .i64 (sgnZ a c)), MP.ints [sgnZ b d, sgnZ a c], MP.eq (.int .i64 (heightZ a b c d)), MP.eq (.int .i64 (heightZ a b c d))]) (by kernel_rfl) (fun _ _ _ h k => Ext.trans h k) (fun _ => Below.refl _ _) (fun x => (Below.refl x.heap.size x).drew) (MPat.mono _) (by kernel_rfl) ?obs ?rest
  case obs =>
    refine ⟨?_, ?_, ?_, ?_, ?_, ?_, ?_, ?_, ?_, ?_, ?_, ?_, ?_, trivial⟩
    · intro ev W hf _ _ hst hd
      have e2 : ev (.tmp 2) = .pointer (some ⟨s, 0, none⟩) := hf 2 (by kernel_rfl)
      refine st_value (v := .pointer (some ⟨s, 1, none⟩)) ?_ (Below.refl _ _) ?_
      · simp [execOp, go_sem, e2]
      · exact rfl
    · intro ev W hf _ _ hst hd
      obtain ⟨d5, _⟩ := hd
      have e5 : ev (.tmp 5) = .pointer (some ⟨s, 1, none⟩) := d5
      have kk := VRow.ext HM.out hst
      have k1 := VRow.cell kk (k := 1) rfl
      refine st_value (v := .int .i64 b) ?_ (Below.refl _ _) ?_
      · simp [execOp, go_sem, e5, k1]
      · exact rfl
    · intro ev W hf _ _ hst hd
      have e3 : ev (.tmp 3) = .pointer (some ⟨s + 1, 0, none⟩) := hf 3 (by kernel_rfl)
      refine st_value (v := .pointer (some ⟨s + 1, 1, none⟩)) ?_ (Below.refl _ _) ?_
      · simp [execOp, go_sem, e3]
      · exact rfl
    · intro ev W hf _ _ hst hd
      obtain ⟨d7, _⟩ := hd
      have e7 : ev (.tmp 7) = .pointer (some ⟨s + 1, 1, none⟩) := d7
      have kk := VRow.ext HN.out hst
      have k1 := VRow.cell kk (k := 1) rfl
      refine st_value (v := .int .i64 d) ?_ (Below.refl _ _) ?_
      · simp [execOp, go_sem, e7, k1]
      · exact rfl
    · intro ev W hf _ hfn hst hd
      obtain ⟨d6, d8, _⟩ := hd
      have e6 : ev (.tmp 6) = .int .i64 b := d6
      have e8 : ev (.tmp 8) = .int .i64 d := d8
      refine st_call (f := 50) (args := #[.int .i64 b, .int .i64 d]) (by simp [execOp, go_sem, hfn, e6, e8]) (calls_same (compare_c b d W)) (fun _ _ => rfl)
    · intro ev W hf _ _ hst hd
      have e2 : ev (.tmp 2) = .pointer (some ⟨s, 0, none⟩) := hf 2 (by kernel_rfl)
      refine st_value (v := .pointer (some ⟨s, 0, none⟩)) ?_ (Below.refl _ _) ?_
      · simp [execOp, go_sem, e2]
      · exact rfl
    · intro ev W hf _ _ hst hd
      obtain ⟨d10, _⟩ := hd
      have e10 : ev (.tmp 10) = .pointer (some ⟨s, 0, none⟩) := d10
      have kk := VRow.ext HM.out hst
      have k0 := VRow.cell kk (k := 0) rfl
      refine st_value (v := .int .i64 a) ?_ (Below.refl _ _) ?_
      · simp [execOp, go_sem, e10, k0]
      · exact rfl
    · intro ev W hf _ _ hst hd
      have e3 : ev (.tmp 3) = .pointer (some ⟨s + 1, 0, none⟩) := hf 3 (by kernel_rfl)
      refine st_value (v := .pointer (some ⟨s + 1, 0, none⟩)) ?_ (Below.refl _ _) ?_
      · simp [execOp, go_sem, e3]
      · exact rfl
    · intro ev W hf _ _ hst hd
      obtain ⟨d12, _⟩ := hd
      have e12 : ev (.tmp 12) = .pointer (some ⟨s + 1, 0, none⟩) := d12
      have kk := VRow.ext HN.out hst
      have k0 := VRow.cell kk (k := 0) rfl
      refine st_value (v := .int .i64 c) ?_ (Below.refl _ _) ?_
      · simp [execOp, go_sem, e12, k0]
      · exact rfl
    · intro ev W hf _ hfn hst hd
      obtain ⟨d11, d13, _⟩ := hd
      have e11 : ev (.tmp 11) = .int .i64 a := d11
      have e13 : ev (.tmp 13) = .int .i64 c := d13
      refine st_call (f := 50) (args := #[.int .i64 a, .int .i64 c]) (by simp [execOp, go_sem, hfn, e11, e13]) (calls_same (compare_c a c W)) (fun _ _ => rfl)
    · intro ev W hf _ hfn hst hd
      obtain ⟨d9, d14, _⟩ := hd
      have e9 : ev (.tmp 9) = .int .i64 (sgnZ b d) := d9
      have e14 : ev (.tmp 14) = .int .i64 (sgnZ a c) := d14
      refine st_new (v := .slice (some ⟨W.heap.size, 0, none⟩) 2 2) (o := .cells #[.int .i64 (sgnZ b d), .int .i64 (sgnZ a c)] 3) ?_ ?_
      · simp [execOp, go_sem, e9, e14]
      · exact IRow.ints' (xs := [sgnZ b d, sgnZ a c]) (vrow_alloc W [.int .i64 (sgnZ b d), .int .i64 (sgnZ a c)] 3) rfl (by simp) (by simp)
    · intro ev W hf _ hfn hst hd
      obtain ⟨d15, _⟩ := hd
      have d15 : Ints W (ev (.tmp 15)) [sgnZ b d, sgnZ a c] := d15
      refine st_call (f := 49) (args := #[ev (.tmp 15)]) (by simp [execOp, go_sem, hfn]) ?_ (fun _ _ => rfl)
      have h9 := calls_same (or_c _ _ W d15)
      rw [heightZ_or] at h9
      exact h9
    · intro ev W hf _ _ hst hd
      obtain ⟨d16, _⟩ := hd
      have e16 : ev (.tmp 16) = .int .i64 (heightZ a b c d) := d16
      refine st_value (v := .int .i64 (heightZ a b c d)) ?_ (Below.refl _ _) ?_
      · simp [execOp, go_sem, e16]
      · exact rfl
  case rest =>
    intro vs w3 hl hst hg
    have hx0 : ∀ u, vs[0]? = some u → u = .pointer (some ⟨s, 1, none⟩) := fun u hu => hg 0 u hu
    have hx1 : ∀ u, vs[1]? = some u → u = .int .i64 b := fun u hu => hg 1 u hu
    have hx2 : ∀ u, vs[2]? = some u → u = .pointer (some ⟨s + 1, 1, none⟩) := fun u hu => hg 2 u hu
    have hx3 : ∀ u, vs[3]? = some u → u = .int .i64 d := fun u hu => hg 3 u hu
    have hx4 : ∀ u, vs[4]? = some u → u = .int .i64 (sgnZ b d) := fun u hu => hg 4 u hu
    have hx5 : ∀ u, vs[5]? = some u → u = .pointer (some ⟨s, 0, none⟩) := fun u hu => hg 5 u hu
    have hx6 : ∀ u, vs[6]? = some u → u = .int .i64 a := fun u hu => hg 6 u hu
    have hx7 : ∀ u, vs[7]? = some u → u = .pointer (some ⟨s + 1, 0, none⟩) := fun u hu => hg 7 u hu
    have hx8 : ∀ u, vs[8]? = some u → u = .int .i64 c := fun u hu => hg 8 u hu
    have hx9 : ∀ u, vs[9]? = some u → u = .int .i64 (sgnZ a c) := fun u hu => hg 9 u hu
    have hx10 : ∀ u, vs[10]? = some u → MP.p (MP.ints [sgnZ b d, sgnZ a c]) u w3 := fun u hu => hg 10 u hu
    have hx11 : ∀ u, vs[11]? = some u → u = .int .i64 (heightZ a b c d) := fun u hu => hg 11 u hu
    have hx12 : ∀ u, vs[12]? = some u → u = .int .i64 (heightZ a b c d) := fun u hu => hg 12 u hu
    have HE3 := Lib.hid hst
    clear hg hst
    obtain ⟨x0, vs0, rfl, hl0⟩ := len_succ hl
    obtain ⟨x1, vs1, rfl, hl1⟩ := len_succ hl0
    obtain ⟨x2, vs2, rfl, hl2⟩ := len_succ hl1
    obtain ⟨x3, vs3, rfl, hl3⟩ := len_succ hl2
    obtain ⟨x4, vs4, rfl, hl4⟩ := len_succ hl3
    obtain ⟨x5, vs5, rfl, hl5⟩ := len_succ hl4
    obtain ⟨x6, vs6, rfl, hl6⟩ := len_succ hl5
    obtain ⟨x7, vs7, rfl, hl7⟩ := len_succ hl6
    obtain ⟨x8, vs8, rfl, hl8⟩ := len_succ hl7
    obtain ⟨x9, vs9, rfl, hl9⟩ := len_succ hl8
    obtain ⟨x10, vs10, rfl, hl10⟩ := len_succ hl9
    obtain ⟨x11, vs11, rfl, hl11⟩ := len_succ hl10
    obtain ⟨x12, vs12, rfl, hl12⟩ := len_succ hl11
    have hnil : vs12 = [] := List.length_eq_zero_iff.1 hl12
    subst hnil
    obtain rfl : x0 = .pointer (some ⟨s, 1, none⟩) := hx0 _ rfl
    obtain rfl : x1 = .int .i64 b := hx1 _ rfl
    obtain rfl : x2 = .pointer (some ⟨s + 1, 1, none⟩) := hx2 _ rfl
    obtain rfl : x3 = .int .i64 d := hx3 _ rfl
    obtain rfl : x4 = .int .i64 (sgnZ b d) := hx4 _ rfl
    obtain rfl : x5 = .pointer (some ⟨s, 0, none⟩) := hx5 _ rfl
    obtain rfl : x6 = .int .i64 a := hx6 _ rfl
    obtain rfl : x7 = .pointer (some ⟨s + 1, 0, none⟩) := hx7 _ rfl
    obtain rfl : x8 = .int .i64 c := hx8 _ rfl
    obtain rfl : x9 = .int .i64 (sgnZ a c) := hx9 _ rfl
    replace hx10 := hx10 _ rfl
    obtain rfl : x11 = .int .i64 (heightZ a b c d) := hx11 _ rfl
    obtain rfl : x12 = .int .i64 (heightZ a b c d) := hx12 _ rfl
    clear hx0 hx1 hx2 hx3 hx4 hx5 hx6 hx7 hx8 hx9 hx11 hx12
    simp only [putAll, Act.put, List.setIfInBounds_toArray, List.set_cons_zero, List.set_cons_succ]
    go_wp2_with fail
    go_ret
    exact ⟨rfl, HE.out.trans HE3.out⟩
def sinksB (a b : Int) : Bool := decide (b < 0) || (decide (b = 0) && decide (a < 0))
theorem sinks_iff (a b : Int) : decide (heightZ a b 0 0 < 0) = sinksB a b := by
  unfold heightZ sgnZ sinksB
  rcases Int.lt_trichotomy b 0 with h | h | h
  · simp [h]
  · subst h; simp; by_cases h2 : a < 0
    · simp [h2]
    · by_cases h3 : 0 < a <;> simp [h2, h3]
  · have h2 : ¬ b < 0 := by omega
    have h3 : ¬ b = 0 := by omega
    simp [h, h2, h3]
set_option maxHeartbeats 400000 in
theorem sinks_c (a b : Int) (w : World) :
    Calls Try.prog 123 #[vecV a b] w fun e w' => e = .returned (.bool (sinksB a b)) ∧ Ext w w' := by
  go_enter Try.func123, Try.ntmps123
  go_wp2_with (go_at_call 75; refine (byHeight_c a b 0 0 _).mono ?_; rintro e w' ⟨rfl, hE⟩)
  all_goals go_ret
  all_goals refine ⟨ret_bool ?_, Ext.trans (Ext.alloc (Ext.refl w) _) hE⟩
  all_goals rw [← sinks_iff]
def angleZ (a b c d : Int) : Int := if sinksB a b = sinksB c d then sgnZ 0 (crossZ a b c d) else if sinksB a b = true then 1 else -1
set_option maxRecDepth 100000 in
set_option maxHeartbeats 1000000 in
theorem byAngle_c (a b c d : Int) (w : World) (ha : fine a) (hb : fine b) (hc : fine c) (hd : fine d) :
    Calls Try.prog 102 #[vecV a b, vecV c d] w fun e w' => e = .returned (.int .i64 (angleZ a b c d)) ∧ Ext w w' := by
  have hm0 := VRow.alloc (vrow_alloc w [.int .i64 a, .int .i64 b] 31) (.cells #[.int .i64 c, .int .i64 d] 31)
  have hn0 := vrow_alloc (w.alloc (.cells #[.int .i64 a, .int .i64 b] 31)) [.int .i64 c, .int .i64 d] 31
  have hE := Ext.alloc (Ext.alloc (Ext.refl w) (.cells #[.int .i64 a, .int .i64 b] 31)) (.cells #[.int .i64 c, .int .i64 d] 31)
  have hs1 : (w.alloc (.cells #[.int .i64 a, .int .i64 b] 31)).heap.size = w.heap.size + 1 := by simp
  rw [hs1] at hn0
  change VRow ((w.alloc (.cells #[.int .i64 a, .int .i64 b] 31)).alloc (.cells #[.int .i64 c, .int .i64 d] 31)) _ _ _ at hm0 hn0
  have HM := Lib.hid hm0
  have HN := Lib.hid hn0
  have HE := Lib.hid hE
  clear hs1 hm0 hn0 hE
  have HA := Lib.hid ha
  have HB := Lib.hid hb
  have HC := Lib.hid hc
  have HD := Lib.hid hd
  clear ha hb hc hd
  cases h1 : sinksB a b <;> cases h2 : sinksB c d
  · go_enter Try.func102, Try.ntmps102
    go_wp2_with fail
    generalize (w.alloc (.cells #[.int .i64 a, .int .i64 b] 31)).alloc (.cells #[.int .i64 c, .int .i64 d] 31) = w1 at *
    generalize hs : w.heap.size = s at *
    refine wp_region_stable [⟨[], none⟩, ⟨[(0, 5)], none⟩, ⟨[], none⟩, ⟨[(2, 7)], none⟩, ⟨[(1, 6), (3, 8)], none⟩] (fun x y => Below x.heap.size x y) (MPat [MP.eq (vecV a b), MP.eq (.bool false), MP.eq (vecV c d), MP.eq (.bool false), MP.eq (.bool false)]) (by kernel_rfl) (fun _ _ _ h k => Ext.trans h k) (fun _ => Below.refl _ _) (fun x => (Below.refl x.heap.size x).drew) (MPat.mono _) (by kernel_rfl) ?obs ?rest
    case obs =>
      refine ⟨?_, ?_, ?_, ?_, ?_, trivial⟩
      · intro ev W hf _ _ hst hd
        have e2 : ev (.tmp 2) = .pointer (some ⟨s, 0, none⟩) := hf 2 (by kernel_rfl)
        have kk := VRow.ext HM.out hst
        have k0 := VRow.cell kk (k := 0) rfl
        have k1 := VRow.cell kk (k := 1) rfl
        refine st_value (v := vecV a b) ?_ (Below.refl _ _) ?_
        · simp [execOp, go_sem, e2, k0, k1]
        · exact rfl
      · intro ev W hf _ hfn hst hd
        obtain ⟨d5, _⟩ := hd
        have e5 : ev (.tmp 5) = vecV a b := d5
        refine st_call (f := 123) (args := #[vecV a b]) (by simp [execOp, go_sem, hfn, e5]) (by rw [← h1]; exact sinks_c a b W) (fun _ _ => rfl)
      · intro ev W hf _ _ hst hd
        have e3 : ev (.tmp 3) = .pointer (some ⟨s + 1, 0, none⟩) := hf 3 (by kernel_rfl)
        have kk := VRow.ext HN.out hst
        have k0 := VRow.cell kk (k := 0) rfl
        have k1 := VRow.cell kk (k := 1) rfl
        refine st_value (v := vecV c d) ?_ (Below.refl _ _) ?_
        · simp [execOp, go_sem, e3, k0, k1]
        · exact rfl
      · intro ev W hf _ hfn hst hd
        obtain ⟨d7, _⟩ := hd
        have e7 : ev (.tmp 7) = vecV c d := d7
        refine st_call (f := 123) (args := #[vecV c d]) (by simp [execOp, go_sem, hfn, e7]) (by rw [← h2]; exact sinks_c c d W) (fun _ _ => rfl)
      · intro ev W hf _ _ hst hd
        obtain ⟨d6, d8, _⟩ := hd
        have e6 : ev (.tmp 6) = .bool false := d6
        have e8 : ev (.tmp 8) = .bool false := d8
        refine st_value (v := .bool false) ?_ (Below.refl _ _) ?_
        · simp [execOp, go_sem, e6, e8]
        · exact rfl
    case rest =>
      intro vs w3 hl hst hg
      have hx0 : ∀ u, vs[0]? = some u → u = vecV a b := fun u hu => hg 0 u hu
      have hx1 : ∀ u, vs[1]? = some u → u = .bool false := fun u hu => hg 1 u hu
      have hx2 : ∀ u, vs[2]? = some u → u = vecV c d := fun u hu => hg 2 u hu
      have hx3 : ∀ u, vs[3]? = some u → u = .bool false := fun u hu => hg 3 u hu
      have hx4 : ∀ u, vs[4]? = some u → u = .bool false := fun u hu => hg 4 u hu
      have HE3 := Lib.hid hst
      clear hg hst
      obtain ⟨x0, vs0, rfl, hl0⟩ := len_succ hl
      obtain ⟨x1, vs1, rfl, hl1⟩ := len_succ hl0
      obtain ⟨x2, vs2, rfl, hl2⟩ := len_succ hl1
      obtain ⟨x3, vs3, rfl, hl3⟩ := len_succ hl2
      obtain ⟨x4, vs4, rfl, hl4⟩ := len_succ hl3
      have hnil : vs4 = [] := List.length_eq_zero_iff.1 hl4
      subst hnil
      obtain rfl : x0 = vecV a b := hx0 _ rfl
      obtain rfl : x1 = .bool false := hx1 _ rfl
      obtain rfl : x2 = vecV c d := hx2 _ rfl
      obtain rfl : x3 = .bool false := hx3 _ rfl
      obtain rfl : x4 = .bool false := hx4 _ rfl
      clear hx0 hx1 hx2 hx3 hx4
      simp only [putAll, Act.put, List.setIfInBounds_toArray, List.set_cons_zero, List.set_cons_succ]
      have m0 := VRow.cell (VRow.ext HM.out HE3.out) (k := 0) rfl
      have m1 := VRow.cell (VRow.ext HM.out HE3.out) (k := 1) rfl
      have n0 := VRow.cell (VRow.ext HN.out HE3.out) (k := 0) rfl
      have n1 := VRow.cell (VRow.ext HN.out HE3.out) (k := 1) rfl
      go_wp2_with (go_at_call 100; refine (cross_c a b c d w3 HA.out HB.out HC.out HD.out).mono ?_; rintro e w4 ⟨rfl, hE4⟩)
      refine (compare_c _ _ w4).mono ?_
      rintro e w5 ⟨rfl, rfl⟩
      go_wp2_with fail
      go_ret
      exact ⟨ret_int (by unfold angleZ; rw [h1, h2]; rfl), Ext.trans HE.out (Ext.trans HE3.out hE4)⟩
  · go_enter Try.func102, Try.ntmps102
    go_wp2_with fail
    generalize (w.alloc (.cells #[.int .i64 a, .int .i64 b] 31)).alloc (.cells #[.int .i64 c, .int .i64 d] 31) = w1 at *
    generalize hs : w.heap.size = s at *
    refine wp_region_stable [⟨[], none⟩, ⟨[(0, 5)], none⟩, ⟨[], none⟩, ⟨[(2, 7)], none⟩, ⟨[(1, 6), (3, 8)], none⟩] (fun x y => Below x.heap.size x y) (MPat [MP.eq (vecV a b), MP.eq (.bool false), MP.eq (vecV c d), MP.eq (.bool true), MP.eq (.bool true)]) (by kernel_rfl) (fun _ _ _ h k => Ext.trans h k) (fun _ => Below.refl _ _) (fun x => (Below.refl x.heap.size x).drew) (MPat.mono _) (by kernel_rfl) ?obs ?rest
    case obs =>
      refine ⟨?_, ?_, ?_, ?_, ?_, trivial⟩
      · intro ev W hf _ _ hst hd
        have e2 : ev (.tmp 2) = .pointer (some ⟨s, 0, none⟩) := hf 2 (by kernel_rfl)
        have kk := VRow.ext HM.out hst
        have k0 := VRow.cell kk (k := 0) rfl
        have k1 := VRow.cell kk (k := 1) rfl
        refine st_value (v := vecV a b) ?_ (Below.refl _ _) ?_
        · simp [execOp, go_sem, e2, k0, k1]
        · exact rfl
      · intro ev W hf _ hfn hst hd
        obtain ⟨d5, _⟩ := hd
        have e5 : ev (.tmp 5) = vecV a b := d5
        refine st_call (f := 123) (args := #[vecV a b]) (by simp [execOp, go_sem, hfn, e5]) (by rw [← h1]; exact sinks_c a b W) (fun _ _ => rfl)
      · intro ev W hf _ _ hst hd
        have e3 : ev (.tmp 3) = .pointer (some ⟨s + 1, 0, none⟩) := hf 3 (by kernel_rfl)
        have kk := VRow.ext HN.out hst
        have k0 := VRow.cell kk (k := 0) rfl
        have k1 := VRow.cell kk (k := 1) rfl
        refine st_value (v := vecV c d) ?_ (Below.refl _ _) ?_
        · simp [execOp, go_sem, e3, k0, k1]
        · exact rfl
      · intro ev W hf _ hfn hst hd
        obtain ⟨d7, _⟩ := hd
        have e7 : ev (.tmp 7) = vecV c d := d7
        refine st_call (f := 123) (args := #[vecV c d]) (by simp [execOp, go_sem, hfn, e7]) (by rw [← h2]; exact sinks_c c d W) (fun _ _ => rfl)
      · intro ev W hf _ _ hst hd
        obtain ⟨d6, d8, _⟩ := hd
        have e6 : ev (.tmp 6) = .bool false := d6
        have e8 : ev (.tmp 8) = .bool true := d8
        refine st_value (v := .bool true) ?_ (Below.refl _ _) ?_
        · simp [execOp, go_sem, e6, e8]
        · exact rfl
    case rest =>
      intro vs w3 hl hst hg
      have hx0 : ∀ u, vs[0]? = some u → u = vecV a b := fun u hu => hg 0 u hu
      have hx1 : ∀ u, vs[1]? = some u → u = .bool false := fun u hu => hg 1 u hu
      have hx2 : ∀ u, vs[2]? = some u → u = vecV c d := fun u hu => hg 2 u hu
      have hx3 : ∀ u, vs[3]? = some u → u = .bool true := fun u hu => hg 3 u hu
      have hx4 : ∀ u, vs[4]? = some u → u = .bool true := fun u hu => hg 4 u hu
      have HE3 := Lib.hid hst
      clear hg hst
      obtain ⟨x0, vs0, rfl, hl0⟩ := len_succ hl
      obtain ⟨x1, vs1, rfl, hl1⟩ := len_succ hl0
      obtain ⟨x2, vs2, rfl, hl2⟩ := len_succ hl1
      obtain ⟨x3, vs3, rfl, hl3⟩ := len_succ hl2
      obtain ⟨x4, vs4, rfl, hl4⟩ := len_succ hl3
      have hnil : vs4 = [] := List.length_eq_zero_iff.1 hl4
      subst hnil
      obtain rfl : x0 = vecV a b := hx0 _ rfl
      obtain rfl : x1 = .bool false := hx1 _ rfl
      obtain rfl : x2 = vecV c d := hx2 _ rfl
      obtain rfl : x3 = .bool true := hx3 _ rfl
      obtain rfl : x4 = .bool true := hx4 _ rfl
      clear hx0 hx1 hx2 hx3 hx4
      simp only [putAll, Act.put, List.setIfInBounds_toArray, List.set_cons_zero, List.set_cons_succ]
      have m0 := VRow.cell (VRow.ext HM.out HE3.out) (k := 0) rfl
      have m1 := VRow.cell (VRow.ext HM.out HE3.out) (k := 1) rfl
      go_wp2_with fail
      refine (show Calls Try.prog 123 #[vecV a b] w3 _ from (sinks_c a b w3)).mono ?_
      rintro e w4 ⟨rfl, hE4⟩
      rw [h1]
      go_wp2_with fail
      go_ret
      exact ⟨ret_int (by unfold angleZ; rw [h1, h2]; rfl), Ext.trans HE.out (Ext.trans HE3.out hE4)⟩
  · go_enter Try.func102, Try.ntmps102
    go_wp2_with fail
    generalize (w.alloc (.cells #[.int .i64 a, .int .i64 b] 31)).alloc (.cells #[.int .i64 c, .int .i64 d] 31) = w1 at *
    generalize hs : w.heap.size = s at *
    refine wp_region_stable [⟨[], none⟩, ⟨[(0, 5)], none⟩, ⟨[], none⟩, ⟨[(2, 7)], none⟩, ⟨[(1, 6), (3, 8)], none⟩] (fun x y => Below x.heap.size x y) (MPat [MP.eq (vecV a b), MP.eq (.bool true), MP.eq (vecV c d), MP.eq (.bool false), MP.eq (.bool true)]) (by kernel_rfl) (fun _ _ _ h k => Ext.trans h k) (fun _ => Below.refl _ _) (fun x => (Below.refl x.heap.size x).drew) (MPat.mono _) (by kernel_rfl) ?obs ?rest
    case obs =>
      refine ⟨?_, ?_, ?_, ?_, ?_, trivial⟩
      · intro ev W hf _ _ hst hd
        have e2 : ev (.tmp 2) = .pointer (some ⟨s, 0, none⟩) := hf 2 (by kernel_rfl)
        have kk := VRow.ext HM.out hst
        have k0 := VRow.cell kk (k := 0) rfl
        have k1 := VRow.cell kk (k := 1) rfl
        refine st_value (v := vecV a b) ?_ (Below.refl _ _) ?_
        · simp [execOp, go_sem, e2, k0, k1]
        · exact rfl
      · intro ev W hf _ hfn hst hd
        obtain ⟨d5, _⟩ := hd
        have e5 : ev (.tmp 5) = vecV a b := d5
        refine st_call (f := 123) (args := #[vecV a b]) (by simp [execOp, go_sem, hfn, e5]) (by rw [← h1]; exact sinks_c a b W) (fun _ _ => rfl)
      · intro ev W hf _ _ hst hd
        have e3 : ev (.tmp 3) = .pointer (some ⟨s + 1, 0, none⟩) := hf 3 (by kernel_rfl)
        have kk := VRow.ext HN.out hst
        have k0 := VRow.cell kk (k := 0) rfl
        have k1 := VRow.cell kk (k := 1) rfl
        refine st_value (v := vecV c d) ?_ (Below.refl _ _) ?_
        · simp [execOp, go_sem, e3, k0, k1]
        · exact rfl
      · intro ev W hf _ hfn hst hd
        obtain ⟨d7, _⟩ := hd
        have e7 : ev (.tmp 7) = vecV c d := d7
        refine st_call (f := 123) (args := #[vecV c d]) (by simp [execOp, go_sem, hfn, e7]) (by rw [← h2]; exact sinks_c c d W) (fun _ _ => rfl)
      · intro ev W hf _ _ hst hd
        obtain ⟨d6, d8, _⟩ := hd
        have e6 : ev (.tmp 6) = .bool true := d6
        have e8 : ev (.tmp 8) = .bool false := d8
        refine st_value (v := .bool true) ?_ (Below.refl _ _) ?_
        · simp [execOp, go_sem, e6, e8]
        · exact rfl
    case rest =>
      intro vs w3 hl hst hg
      have hx0 : ∀ u, vs[0]? = some u → u = vecV a b := fun u hu => hg 0 u hu
      have hx1 : ∀ u, vs[1]? = some u → u = .bool true := fun u hu => hg 1 u hu
      have hx2 : ∀ u, vs[2]? = some u → u = vecV c d := fun u hu => hg 2 u hu
      have hx3 : ∀ u, vs[3]? = some u → u = .bool false := fun u hu => hg 3 u hu
      have hx4 : ∀ u, vs[4]? = some u → u = .bool true := fun u hu => hg 4 u hu
      have HE3 := Lib.hid hst
      clear hg hst
      obtain ⟨x0, vs0, rfl, hl0⟩ := len_succ hl
      obtain ⟨x1, vs1, rfl, hl1⟩ := len_succ hl0
      obtain ⟨x2, vs2, rfl, hl2⟩ := len_succ hl1
      obtain ⟨x3, vs3, rfl, hl3⟩ := len_succ hl2
      obtain ⟨x4, vs4, rfl, hl4⟩ := len_succ hl3
      have hnil : vs4 = [] := List.length_eq_zero_iff.1 hl4
      subst hnil
      obtain rfl : x0 = vecV a b := hx0 _ rfl
      obtain rfl : x1 = .bool true := hx1 _ rfl
      obtain rfl : x2 = vecV c d := hx2 _ rfl
      obtain rfl : x3 = .bool false := hx3 _ rfl
      obtain rfl : x4 = .bool true := hx4 _ rfl
      clear hx0 hx1 hx2 hx3 hx4
      simp only [putAll, Act.put, List.setIfInBounds_toArray, List.set_cons_zero, List.set_cons_succ]
      have m0 := VRow.cell (VRow.ext HM.out HE3.out) (k := 0) rfl
      have m1 := VRow.cell (VRow.ext HM.out HE3.out) (k := 1) rfl
      go_wp2_with fail
      refine (show Calls Try.prog 123 #[vecV a b] w3 _ from (sinks_c a b w3)).mono ?_
      rintro e w4 ⟨rfl, hE4⟩
      rw [h1]
      go_wp2_with fail
      go_ret
      exact ⟨ret_int (by unfold angleZ; rw [h1, h2]; rfl), Ext.trans HE.out (Ext.trans HE3.out hE4)⟩
  · go_enter Try.func102, Try.ntmps102
    go_wp2_with fail
    generalize (w.alloc (.cells #[.int .i64 a, .int .i64 b] 31)).alloc (.cells #[.int .i64 c, .int .i64 d] 31) = w1 at *
    generalize hs : w.heap.size = s at *
    refine wp_region_stable [⟨[], none⟩, ⟨[(0, 5)], none⟩, ⟨[], none⟩, ⟨[(2, 7)], none⟩, ⟨[(1, 6), (3, 8)], none⟩] (fun x y => Below x.heap.size x y) (MPat [MP.eq (vecV a b), MP.eq (.bool true), MP.eq (vecV c d), MP.eq (.bool true), MP.eq (.bool false)]) (by kernel_rfl) (fun _ _ _ h k => Ext.trans h k) (fun _ => Below.refl _ _) (fun x => (Below.refl x.heap.size x).drew) (MPat.mono _) (by kernel_rfl) ?obs ?rest
    case obs =>
      refine ⟨?_, ?_, ?_, ?_, ?_, trivial⟩
      · intro ev W hf _ _ hst hd
        have e2 : ev (.tmp 2) = .pointer (some ⟨s, 0, none⟩) := hf 2 (by kernel_rfl)
        have kk := VRow.ext HM.out hst
        have k0 := VRow.cell kk (k := 0) rfl
        have k1 := VRow.cell kk (k := 1) rfl
        refine st_value (v := vecV a b) ?_ (Below.refl _ _) ?_
        · simp [execOp, go_sem, e2, k0, k1]
        · exact rfl
      · intro ev W hf _ hfn hst hd
        obtain ⟨d5, _⟩ := hd
        have e5 : ev (.tmp 5) = vecV a b := d5
        refine st_call (f := 123) (args := #[vecV a b]) (by simp [execOp, go_sem, hfn, e5]) (by rw [← h1]; exact sinks_c a b W) (fun _ _ => rfl)
      · intro ev W hf _ _ hst hd
        have e3 : ev (.tmp 3) = .pointer (some ⟨s + 1, 0, none⟩) := hf 3 (by kernel_rfl)
        have kk := VRow.ext HN.out hst
        have k0 := VRow.cell kk (k := 0) rfl
        have k1 := VRow.cell kk (k := 1) rfl
        refine st_value (v := vecV c d) ?_ (Below.refl _ _) ?_
        · simp [execOp, go_sem, e3, k0, k1]
        · exact rfl
      · intro ev W hf _ hfn hst hd
        obtain ⟨d7, _⟩ := hd
        have e7 : ev (.tmp 7) = vecV c d := d7
        refine st_call (f := 123) (args := #[vecV c d]) (by simp [execOp, go_sem, hfn, e7]) (by rw [← h2]; exact sinks_c c d W) (fun _ _ => rfl)
      · intro ev W hf _ _ hst hd
        obtain ⟨d6, d8, _⟩ := hd
        have e6 : ev (.tmp 6) = .bool true := d6
        have e8 : ev (.tmp 8) = .bool true := d8
        refine st_value (v := .bool false) ?_ (Below.refl _ _) ?_
        · simp [execOp, go_sem, e6, e8]
        · exact rfl
    case rest =>
      intro vs w3 hl hst hg
      have hx0 : ∀ u, vs[0]? = some u → u = vecV a b := fun u hu => hg 0 u hu
      have hx1 : ∀ u, vs[1]? = some u → u = .bool true := fun u hu => hg 1 u hu
      have hx2 : ∀ u, vs[2]? = some u → u = vecV c d := fun u hu => hg 2 u hu
      have hx3 : ∀ u, vs[3]? = some u → u = .bool true := fun u hu => hg 3 u hu
      have hx4 : ∀ u, vs[4]? = some u → u = .bool false := fun u hu => hg 4 u hu
      have HE3 := Lib.hid hst
      clear hg hst
      obtain ⟨x0, vs0, rfl, hl0⟩ := len_succ hl
      obtain ⟨x1, vs1, rfl, hl1⟩ := len_succ hl0
      obtain ⟨x2, vs2, rfl, hl2⟩ := len_succ hl1
      obtain ⟨x3, vs3, rfl, hl3⟩ := len_succ hl2
      obtain ⟨x4, vs4, rfl, hl4⟩ := len_succ hl3
      have hnil : vs4 = [] := List.length_eq_zero_iff.1 hl4
      subst hnil
      obtain rfl : x0 = vecV a b := hx0 _ rfl
      obtain rfl : x1 = .bool true := hx1 _ rfl
      obtain rfl : x2 = vecV c d := hx2 _ rfl
      obtain rfl : x3 = .bool true := hx3 _ rfl
      obtain rfl : x4 = .bool false := hx4 _ rfl
      clear hx0 hx1 hx2 hx3 hx4
      simp only [putAll, Act.put, List.setIfInBounds_toArray, List.set_cons_zero, List.set_cons_succ]
      have m0 := VRow.cell (VRow.ext HM.out HE3.out) (k := 0) rfl
      have m1 := VRow.cell (VRow.ext HM.out HE3.out) (k := 1) rfl
      have n0 := VRow.cell (VRow.ext HN.out HE3.out) (k := 0) rfl
      have n1 := VRow.cell (VRow.ext HN.out HE3.out) (k := 1) rfl
      go_wp2_with (go_at_call 100; refine (cross_c a b c d w3 HA.out HB.out HC.out HD.out).mono ?_; rintro e w4 ⟨rfl, hE4⟩)
      refine (compare_c _ _ w4).mono ?_
      rintro e w5 ⟨rfl, rfl⟩
      go_wp2_with fail
      go_ret
      exact ⟨ret_int (by unfold angleZ; rw [h1, h2]; rfl), Ext.trans HE.out (Ext.trans HE3.out hE4)⟩
end Go.Proofs.Ytnpebfchojalcaa
