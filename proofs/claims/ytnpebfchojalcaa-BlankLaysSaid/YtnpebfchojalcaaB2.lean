import Derived.Test.YtnpebfchojalcaaB1
namespace Go.Proofs.Ytnpebfchojalcaa
open Go.RowKit
attribute [local go_sem] Oper.semAt_some
/-- the numbers y, y + D and so on below 12 -/
def colN (D : Int) : Nat → Int → List Int
  | 0, _ => []
  | f + 1, y => if y < 12 then y :: colN D f (y + D) else []
def leastZ (x : Int) : Int := if x = 0 then 1 else -11
def firstZ (A B D x : Int) : Int := leastZ x + (x / A * B - leastZ x) % D
def rowsN (A B D : Int) : Nat → Int → List Pt
  | 0, _ => []
  | f + 1, x => if x < 12 then (colN D 23 (firstZ A B D x)).map (fun y => (x, y)) ++ rowsN A B D f (x + A) else []
/-- the vectors near a grid -/
def nearL (A B D : Int) : List Pt := rowsN A B D 12 0
theorem colN_step {D y : Int} {f : Nat} (hD : 1 ≤ D) (hy : y < 12) (hf : 12 - y ≤ f) : ∃ f' : Nat, 12 - (y + D) ≤ f' ∧ colN D f y = y :: colN D f' (y + D) := by
  cases f with
  | zero => omega
  | succ f => exact ⟨f, by omega, by simp [colN, hy]⟩
theorem colN_done {D y : Int} {f : Nat} (hy : ¬ y < 12) : colN D f y = [] := by
  cases f <;> simp [colN, hy]
theorem rowsN_step {A B D x : Int} {f : Nat} (hA : 1 ≤ A) (hx : x < 12) (hf : 12 - x ≤ f) : ∃ f' : Nat, 12 - (x + A) ≤ f' ∧ rowsN A B D f x = (colN D 23 (firstZ A B D x)).map (fun y => (x, y)) ++ rowsN A B D f' (x + A) := by
  cases f with
  | zero => omega
  | succ f => exact ⟨f, by omega, by simp [rowsN, hx]⟩
theorem rowsN_done {A B D x : Int} {f : Nat} (hx : ¬ x < 12) : rowsN A B D f x = [] := by
  cases f <;> simp [rowsN, hx]
theorem firstZ_bd {A B D x : Int} (hD : 1 ≤ D) : leastZ x ≤ firstZ A B D x ∧ firstZ A B D x ≤ leastZ x + D ∧ -11 ≤ leastZ x ∧ leastZ x ≤ 1 := by
  have h1 := Int.emod_nonneg (x / A * B - leastZ x) (show D ≠ 0 by omega)
  have h2 := Int.emod_lt_of_pos (x / A * B - leastZ x) (show 0 < D by omega)
  unfold firstZ
  generalize (x / A * B - leastZ x) % D = r at *
  unfold leastZ
  split <;> omega
theorem drop_cons {α : Type} {l t : List α} {k : Nat} {x : α} (h : l.drop k = x :: t) : l[k]? = some x ∧ l.drop (k + 1) = t ∧ k < l.length := by
  have h1 : l[k]? = some x := by
    have := congrArg (fun m => m[0]?) h
    simpa [List.getElem?_drop] using this
  refine ⟨h1, ?_, (List.getElem?_eq_some_iff.1 h1).1⟩
  have : l.drop (k + 1) = (l.drop k).drop 1 := by rw [List.drop_drop, Nat.add_comm]
  rw [this, h]; rfl
theorem drop_nil {α : Type} {l : List α} {k : Nat} (h : l.drop k = []) (hk : k ≤ l.length) : k = l.length := by
  have := congrArg List.length h
  simp at this
  omega
def gridV (A B D : Int) : Value := .agg #[.int .i64 A, .int .i64 B, .int .i64 D]
theorem near_c (A B D : Int) (w : World) :
    Calls Try.prog 87 #[gridV A B D] w fun e w' => e = .returned (.func (.func 113) #[] #[.pointer (some ⟨w.heap.size, 0, none⟩)]) ∧ w' = w.alloc (.cells #[.int .i64 A, .int .i64 B, .int .i64 D] 24) := by
  unfold gridV
  go_enter Try.func87, Try.ntmps87
  go_wp2
  go_ret
  exact ⟨rfl, rfl⟩
def nearA (A B D : Int) (k : Nat) : Array Value := #[vecV ((nearL A B D).getD k (0, 0)).1 ((nearL A B D).getD k (0, 0)).2]
/-- a grid that a call may get -/
def gridOk (A B D : Int) : Prop := 1 ≤ A ∧ A ≤ 100000 ∧ 0 ≤ B ∧ B < D ∧ D ≤ 100000
theorem quo_bd {A B D x : Int} (h : gridOk A B D) (h0 : 0 ≤ x) (h1 : x < 12) : 0 ≤ x / A ∧ x / A ≤ 11 ∧ 0 ≤ x / A * B ∧ x / A * B ≤ 1100000 := by
  obtain ⟨a, b, c, d, e⟩ := h
  have q0 : 0 ≤ x / A := Int.ediv_nonneg h0 (by omega)
  have q1 : x / A ≤ x := Int.ediv_le_self A h0
  have p0 := Int.mul_nonneg q0 c
  have p1 := Int.mul_le_mul (show x / A ≤ 11 by omega) (show B ≤ 100000 by omega) c (by omega)
  exact ⟨q0, by omega, p0, by omega⟩
set_option maxRecDepth 100000 in
set_option maxHeartbeats 2000000 in
theorem near_iter (Bs : Nat) (A B D : Int) (S : Nat → Prop) (w : World) (hK : ∀ W, Held S w W → VRow W Bs 24 [.int .i64 A, .int .i64 B, .int .i64 D]) (hS : ∀ j, S j → j < w.heap.size) (hg : gridOk A B D) :
    IterC Try.prog 113 #[.pointer (some ⟨Bs, 0, none⟩)] (nearA A B D) (nearL A B D).length S w := by
  intro l J Jx W hEW hJ hJx hY h0
  have HK := Lib.hid hK
  have HY := Lib.hid hY
  have HEW := Lib.hid (Held.ext hEW hS)
  have HG := Lib.hid hg
  obtain ⟨gA1, gA2, gB1, gB2, gD2⟩ := hg
  clear hK hY hEW
  have hAne : A ≠ 0 := by omega
  have hDne : D ≠ 0 := by omega
  change Calls Try.prog 113 #[.func (.yield l) #[] #[], .pointer (some ⟨Bs, 0, none⟩)] W _
  go_enter Try.func113, Try.ntmps113
  go_wp2_with fail
  go_loopw [3] (fun i wr => ∃ (k f : Nat) (x : Int), i = .int .i64 x ∧ 0 ≤ x ∧ x ≤ 200000 ∧ 12 - x ≤ f ∧ k ≤ (nearL A B D).length ∧ (nearL A B D).drop k = rowsN A B D f x ∧ J k wr ∧ Held S w wr) (fun i _ => (12 - intOf i).toNat)
  case atStart => exact ⟨0, 12, 0, rfl, by omega, by omega, by omega, Nat.zero_le _, rfl, h0, HEW.out⟩
  case round =>
    obtain ⟨k, f, x, rfl, hx0, hx1, hf, hk, hdrop, hJk, hH⟩ := hrel
    have HJ := Lib.hid hJk
    have HH := Lib.hid hH
    have HDR := Lib.hid hdrop
    have HRow := Lib.hid (HK.out wr hH)
    clear hH hJk hdrop
    by_cases hlt : x < 12
    · obtain ⟨f', hf', hrow⟩ := rowsN_step (B := B) (D := D) gA1 hlt hf
      have HROW := Lib.hid hrow
      clear hrow
      obtain ⟨q0, q1, p0, p1⟩ := quo_bd HG.out hx0 hlt
      have HFB := Lib.hid (firstZ_bd (A := A) (B := B) (x := x) (show 1 ≤ D by omega))
      have HL := Lib.hid (show leastZ x = if x = 0 then 1 else -11 from rfl)
      have HF := Lib.hid (show firstZ A B D x = leastZ x + (x / A * B - leastZ x) % D from rfl)
      have HQ := Lib.hid (show x.tdiv A = x / A from Int.tdiv_eq_ediv_of_nonneg hx0)
      have hm0 := Int.emod_nonneg (x / A * B - leastZ x) hDne
      have hm1 := Int.emod_lt_of_pos (x / A * B - leastZ x) (show 0 < D by omega)
      generalize firstZ A B D x = y0 at *
      generalize hls : leastZ x = ls at *
      have HLS := Lib.hid hls
      clear hls
      have hfb := HFB.out
      have HQW := Lib.hid (show IntKind.i64.wrap (x / A) = x / A from IntWalk.i64_in _ (by omega))
      have HPW := Lib.hid (show IntKind.i64.wrap (x / A * B) = x / A * B from IntWalk.i64_in _ (by omega))
      obtain ⟨d, hd⟩ : ∃ d, d = x / A * B - ls := ⟨_, rfl⟩
      have HSW := Lib.hid (show IntKind.i64.wrap (x / A * B - ls) = d by rw [hd]; exact IntWalk.i64_in _ (by omega))
      rw [← hd] at hm0 hm1 HF
      have HMB := Lib.hid (show -1000000000 ≤ d ∧ d ≤ 1000000000 by omega)
      have Hd := Lib.hid hd
      clear hd
      have HAW := Lib.hid (show IntKind.i64.wrap (ls + d % D) = y0 by rw [HF.out]; exact IntWalk.i64_in _ (by rw [← HF.out]; omega))
      clear hm0 hm1
      by_cases hx : x = 0
      · have h1 : ls = 1 := by rw [HL.out, if_pos hx]
        subst h1
        have hxb : (x == 0) = true := by simp [hx]
        have HX := Lib.hid hx
        clear hx
        go_wp2_with fail
        have HR3 := HRow
        refine wp_region_stable_last [⟨[], none⟩, ⟨[], none⟩, ⟨[], none⟩, ⟨[(2, 16)], none⟩, ⟨[(1, 15), (3, 17)], none⟩, ⟨[], none⟩, ⟨[(5, 19)], none⟩, ⟨[(4, 18), (6, 20)], none⟩, ⟨[], none⟩, ⟨[(7, 21), (8, 22)], none⟩, ⟨[], none⟩, ⟨[(10, 24)], none⟩, ⟨[(9, 23), (11, 25)], none⟩, ⟨[(0, 14), (12, 26)], none⟩] (fun x y => Below x.heap.size x y) (MPat [MP.eq (.int .i64 1), MP.eq (.int .i64 x), MP.eq (.pointer (some ⟨Bs, 0, none⟩)), MP.eq (.int .i64 A), MP.eq (.int .i64 (x / A)), MP.eq (.pointer (some ⟨Bs, 1, none⟩)), MP.eq (.int .i64 B), MP.eq (.int .i64 (x / A * B)), MP.eq (.int .i64 1), MP.eq (.int .i64 d), MP.eq (.pointer (some ⟨Bs, 2, none⟩)), MP.eq (.int .i64 D), MP.eq (.int .i64 (d % D)), MP.eq (.int .i64 y0)]) rfl (by kernel_rfl) (fun _ _ _ h k => Ext.trans h k) (fun _ => Below.refl _ _) (fun x => (Below.refl x.heap.size x).drew) (MPat.mono _) (by kernel_rfl) (by kernel_rfl) (by kernel_rfl) ?obs ?rest
        case obs =>
          refine ⟨?_, ?_, ?_, ?_, ?_, ?_, ?_, ?_, ?_, ?_, ?_, ?_, ?_, ?_, trivial⟩
          · intro ev W hf _ _ hst hd
            have e4 : ev (.tmp 4) = .int .i64 1 := hf 4 (by kernel_rfl)
            refine st_value (v := .int .i64 1) ?_ (Below.refl _ _) ?_
            · simp [execOp, go_sem, e4]
            · exact rfl
          · intro ev W hf _ _ hst hd
            have e3 : ev (.tmp 3) = .int .i64 x := hf 3 (by kernel_rfl)
            refine st_value (v := .int .i64 x) ?_ (Below.refl _ _) ?_
            · simp [execOp, go_sem, e3]
            · exact rfl
          · intro ev W hf _ _ hst hd
            have e1 : ev (.tmp 1) = .pointer (some ⟨Bs, 0, none⟩) := hf 1 (by kernel_rfl)
            refine st_value (v := .pointer (some ⟨Bs, 0, none⟩)) ?_ (Below.refl _ _) ?_
            · simp [execOp, go_sem, e1]
            · exact rfl
          · intro ev W hf _ _ hst hd
            obtain ⟨d16, _⟩ := hd
            have e16 : ev (.tmp 16) = .pointer (some ⟨Bs, 0, none⟩) := d16
            have kk := VRow.ext HR3.out hst
            have k0 := VRow.cell kk (k := 0) rfl
            refine st_value (v := .int .i64 A) ?_ (Below.refl _ _) ?_
            · simp [execOp, go_sem, e16, k0]
            · exact rfl
          · intro ev W hf _ _ hst hd
            obtain ⟨d15, d17, _⟩ := hd
            have e15 : ev (.tmp 15) = .int .i64 x := d15
            have e17 : ev (.tmp 17) = .int .i64 A := d17
            refine st_value (v := .int .i64 (x / A)) ?_ (Below.refl _ _) ?_
            · simp [execOp, go_sem, e15, e17, HQ.out, HQW.out, hAne]
            · exact rfl
          · intro ev W hf _ _ hst hd
            have e1 : ev (.tmp 1) = .pointer (some ⟨Bs, 0, none⟩) := hf 1 (by kernel_rfl)
            refine st_value (v := .pointer (some ⟨Bs, 1, none⟩)) ?_ (Below.refl _ _) ?_
            · simp [execOp, go_sem, e1]
            · exact rfl
          · intro ev W hf _ _ hst hd
            obtain ⟨d19, _⟩ := hd
            have e19 : ev (.tmp 19) = .pointer (some ⟨Bs, 1, none⟩) := d19
            have kk := VRow.ext HR3.out hst
            have k1 := VRow.cell kk (k := 1) rfl
            refine st_value (v := .int .i64 B) ?_ (Below.refl _ _) ?_
            · simp [execOp, go_sem, e19, k1]
            · exact rfl
          · intro ev W hf _ _ hst hd
            obtain ⟨d18, d20, _⟩ := hd
            have e18 : ev (.tmp 18) = .int .i64 (x / A) := d18
            have e20 : ev (.tmp 20) = .int .i64 B := d20
            refine st_value (v := .int .i64 (x / A * B)) ?_ (Below.refl _ _) ?_
            · simp [execOp, go_sem, e18, e20, HPW.out]
            · exact rfl
          · intro ev W hf _ _ hst hd
            have e4 : ev (.tmp 4) = .int .i64 1 := hf 4 (by kernel_rfl)
            refine st_value (v := .int .i64 1) ?_ (Below.refl _ _) ?_
            · simp [execOp, go_sem, e4]
            · exact rfl
          · intro ev W hf _ _ hst hd
            obtain ⟨d21, d22, _⟩ := hd
            have e21 : ev (.tmp 21) = .int .i64 (x / A * B) := d21
            have e22 : ev (.tmp 22) = .int .i64 1 := d22
            refine st_value (v := .int .i64 d) ?_ (Below.refl _ _) ?_
            · simp [execOp, go_sem, e21, e22, HSW.out]
            · exact rfl
          · intro ev W hf _ _ hst hd
            have e1 : ev (.tmp 1) = .pointer (some ⟨Bs, 0, none⟩) := hf 1 (by kernel_rfl)
            refine st_value (v := .pointer (some ⟨Bs, 2, none⟩)) ?_ (Below.refl _ _) ?_
            · simp [execOp, go_sem, e1]
            · exact rfl
          · intro ev W hf _ _ hst hd
            obtain ⟨d24, _⟩ := hd
            have e24 : ev (.tmp 24) = .pointer (some ⟨Bs, 2, none⟩) := d24
            have kk := VRow.ext HR3.out hst
            have k2 := VRow.cell kk (k := 2) rfl
            refine st_value (v := .int .i64 D) ?_ (Below.refl _ _) ?_
            · simp [execOp, go_sem, e24, k2]
            · exact rfl
          · intro ev W hf _ hfn hst hd
            obtain ⟨d23, d25, _⟩ := hd
            have e23 : ev (.tmp 23) = .int .i64 d := d23
            have e25 : ev (.tmp 25) = .int .i64 D := d25
            refine st_call (f := 114) (args := #[.int .i64 d, .int .i64 D]) (by simp [execOp, go_sem, hfn, e23, e25]) (calls_same (mod_c d D W HMB.out.1 HMB.out.2 (by omega) (by omega))) (fun _ _ => rfl)
          · intro ev W hf _ _ hst hd
            obtain ⟨d14, d26, _⟩ := hd
            have e14 : ev (.tmp 14) = .int .i64 1 := d14
            have e26 : ev (.tmp 26) = .int .i64 (d % D) := d26
            refine st_value (v := .int .i64 y0) ?_ (Below.refl _ _) ?_
            · simp [execOp, go_sem, e14, e26, HAW.out]
            · exact rfl
        case rest =>
          intro vs w3 hl hst hg
          have hx0 : ∀ u, vs[0]? = some u → u = .int .i64 1 := fun u hu => hg 0 u hu
          have hx1 : ∀ u, vs[1]? = some u → u = .int .i64 x := fun u hu => hg 1 u hu
          have hx2 : ∀ u, vs[2]? = some u → u = .pointer (some ⟨Bs, 0, none⟩) := fun u hu => hg 2 u hu
          have hx3 : ∀ u, vs[3]? = some u → u = .int .i64 A := fun u hu => hg 3 u hu
          have hx4 : ∀ u, vs[4]? = some u → u = .int .i64 (x / A) := fun u hu => hg 4 u hu
          have hx5 : ∀ u, vs[5]? = some u → u = .pointer (some ⟨Bs, 1, none⟩) := fun u hu => hg 5 u hu
          have hx6 : ∀ u, vs[6]? = some u → u = .int .i64 B := fun u hu => hg 6 u hu
          have hx7 : ∀ u, vs[7]? = some u → u = .int .i64 (x / A * B) := fun u hu => hg 7 u hu
          have hx8 : ∀ u, vs[8]? = some u → u = .int .i64 1 := fun u hu => hg 8 u hu
          have hx9 : ∀ u, vs[9]? = some u → u = .int .i64 d := fun u hu => hg 9 u hu
          have hx10 : ∀ u, vs[10]? = some u → u = .pointer (some ⟨Bs, 2, none⟩) := fun u hu => hg 10 u hu
          have hx11 : ∀ u, vs[11]? = some u → u = .int .i64 D := fun u hu => hg 11 u hu
          have hx12 : ∀ u, vs[12]? = some u → u = .int .i64 (d % D) := fun u hu => hg 12 u hu
          have hx13 : ∀ u, vs[13]? = some u → u = .int .i64 y0 := fun u hu => hg 13 u hu
          have HE3 := Lib.hid hst
          clear hg hst
          obtain ⟨x0, vs0, rfl, hl0⟩ := len_succ hl
          obtain ⟨x1, vs1, rfl, hl1⟩ := len_succ hl0
          obtain ⟨x2, vs2, rfl, hl2⟩ := len_succ hl1
          obtain ⟨x3, vs3, rfl, hl3⟩ := len_succ hl2
          obtain ⟨x4, vs4, rfl, hl4⟩ := len_succ hl3
          obtain ⟨x5, vs5, rfl, hl5⟩ := len_succ hl4
          obtain ⟨x6, vs6, rfl, hl6⟩ := len_succ hl5
          obtain ⟨x7, vs7, rfl, hl7⟩ := len_succ hl6
          obtain ⟨x8, vs8, rfl, hl8⟩ := len_succ hl7
          obtain ⟨x9, vs9, rfl, hl9⟩ := len_succ hl8
          obtain ⟨x10, vs10, rfl, hl10⟩ := len_succ hl9
          obtain ⟨x11, vs11, rfl, hl11⟩ := len_succ hl10
          obtain ⟨x12, vs12, rfl, hl12⟩ := len_succ hl11
          obtain ⟨x13, vs13, rfl, hl13⟩ := len_succ hl12
          have hnil : vs13 = [] := List.length_eq_zero_iff.1 hl13
          subst hnil
          obtain rfl : x0 = .int .i64 1 := hx0 _ rfl
          obtain rfl : x1 = .int .i64 x := hx1 _ rfl
          obtain rfl : x2 = .pointer (some ⟨Bs, 0, none⟩) := hx2 _ rfl
          obtain rfl : x3 = .int .i64 A := hx3 _ rfl
          obtain rfl : x4 = .int .i64 (x / A) := hx4 _ rfl
          obtain rfl : x5 = .pointer (some ⟨Bs, 1, none⟩) := hx5 _ rfl
          obtain rfl : x6 = .int .i64 B := hx6 _ rfl
          obtain rfl : x7 = .int .i64 (x / A * B) := hx7 _ rfl
          obtain rfl : x8 = .int .i64 1 := hx8 _ rfl
          obtain rfl : x9 = .int .i64 d := hx9 _ rfl
          obtain rfl : x10 = .pointer (some ⟨Bs, 2, none⟩) := hx10 _ rfl
          obtain rfl : x11 = .int .i64 D := hx11 _ rfl
          obtain rfl : x12 = .int .i64 (d % D) := hx12 _ rfl
          obtain rfl : x13 = .int .i64 y0 := hx13 _ rfl
          clear hx0 hx1 hx2 hx3 hx4 hx5 hx6 hx7 hx8 hx9 hx10 hx11 hx12 hx13
          simp only [putAll, Act.put, List.dropLast, List.setIfInBounds_toArray, List.set_cons_zero, List.set_cons_succ]
          go_wp2_with fail
          go_loopw [5] (fun i wr' => ∃ (k' f2 : Nat) (y : Int), i = .int .i64 y ∧ -11 ≤ y ∧ y ≤ 300000 ∧ 12 - y ≤ f2 ∧ k' ≤ (nearL A B D).length ∧ (nearL A B D).drop k' = (colN D f2 y).map (fun y => (x, y)) ++ rowsN A B D f' (x + A) ∧ J k' wr' ∧ Held S w wr') (fun i _ => (12 - intOf i).toNat)
          case atStart => exact ⟨k, 23, y0, rfl, by omega, by omega, by omega, hk, by rw [HDR.out, HROW.out], hJ k _ _ HJ.out (Keeps.of_ext HE3.out), HH.out.trans (Held.ext HE3.out (fun j hj => Nat.lt_of_lt_of_le (hS j hj) HH.out.size))⟩
          case round =>
            obtain ⟨k', f2, y, rfl, hy0, hy1, hf2, hk', hdrop', hJk', hH'⟩ := hrel
            have HJ' := Lib.hid hJk'
            have HH' := Lib.hid hH'
            have HDR' := Lib.hid hdrop'
            have HRow' := Lib.hid (HK.out _ hH')
            clear hH' hJk' hdrop'
            by_cases hylt : y < 12
            · obtain ⟨f3, hf3, hcol⟩ := colN_step (show 1 ≤ D by omega) hylt hf2
              have hd2 := HDR'.out
              rw [hcol, List.map_cons, List.cons_append] at hd2
              obtain ⟨hget, hdr2, hklt⟩ := drop_cons hd2
              have HGET := Lib.hid hget
              have HDR2 := Lib.hid hdr2
              clear hd2 hdr2 hget hcol
              refine (wpIn_wide (n := 9)).1 ?_
              obtain ⟨fn, tmps, assign, body, hy, hR⟩ := HY.out k' _ HJ'.out hklt 9
              have hnear : nearA A B D k' = #[vecV x y] := by unfold nearA; rw [List.getD_eq_getElem?_getD, HGET.out]; rfl
              rw [hnear] at hy
              clear hnear
              gi_wp2_with fail
              clear hy
              refine (RoundIn.any (m := 8) rfl hR).mono ?_
              rintro e W6 (⟨rfl, hJ6, hH6⟩ | ⟨rfl, hJ6⟩)
              · have HR6 := Lib.hid (HK.out _ (HH'.out.trans hH6))
                have c2 := VRow.cell HR6.out (k := 2) rfl
                gi_wp2
                go_wp2
                refine ⟨⟨k' + 1, f3, y + D, rfl, by omega, by omega, hf3, hklt, HDR2.out, hJ6, HH'.out.trans hH6⟩, by simp [intOf]; omega⟩
              · gi_wp2
                go_wp2
                (try simp only [Exit.inBlock, Exit.then])
                refine bodyPost_ret (results_none rfl _ _ _) rfl ?_
                exact ⟨⟨_, rfl⟩, .inr ⟨k', hklt, hJ6⟩⟩
            · have hd2 := HDR'.out
              rw [colN_done hylt, List.map_nil, List.nil_append] at hd2
              have HDR2 := Lib.hid hd2
              clear hd2
              have c0 := VRow.cell HRow'.out (k := 0) rfl
              go_wp2
              refine ⟨⟨k', f', x + A, rfl, by omega, by omega, hf', hk', HDR2.out, HJ'.out, HH'.out⟩, by simp [intOf]; omega⟩
      · have h1 : ls = -11 := by rw [HL.out, if_neg hx]
        subst h1
        have hxb : (x == 0) = false := by simp [hx]
        have HX := Lib.hid hx
        clear hx
        have HSW := Lib.hid (show IntKind.i64.wrap (x / A * B + 11) = d by rw [← HSW.out]; congr 1)
        go_wp2_with fail
        have HR3 := HRow
        refine wp_region_stable_last [⟨[], none⟩, ⟨[], none⟩, ⟨[], none⟩, ⟨[(2, 16)], none⟩, ⟨[(1, 15), (3, 17)], none⟩, ⟨[], none⟩, ⟨[(5, 19)], none⟩, ⟨[(4, 18), (6, 20)], none⟩, ⟨[], none⟩, ⟨[(7, 21), (8, 22)], none⟩, ⟨[], none⟩, ⟨[(10, 24)], none⟩, ⟨[(9, 23), (11, 25)], none⟩, ⟨[(0, 14), (12, 26)], none⟩] (fun x y => Below x.heap.size x y) (MPat [MP.eq (.int .i64 (-11)), MP.eq (.int .i64 x), MP.eq (.pointer (some ⟨Bs, 0, none⟩)), MP.eq (.int .i64 A), MP.eq (.int .i64 (x / A)), MP.eq (.pointer (some ⟨Bs, 1, none⟩)), MP.eq (.int .i64 B), MP.eq (.int .i64 (x / A * B)), MP.eq (.int .i64 (-11)), MP.eq (.int .i64 d), MP.eq (.pointer (some ⟨Bs, 2, none⟩)), MP.eq (.int .i64 D), MP.eq (.int .i64 (d % D)), MP.eq (.int .i64 y0)]) rfl (by kernel_rfl) (fun _ _ _ h k => Ext.trans h k) (fun _ => Below.refl _ _) (fun x => (Below.refl x.heap.size x).drew) (MPat.mono _) (by kernel_rfl) (by kernel_rfl) (by kernel_rfl) ?obs ?rest
        case obs =>
          refine ⟨?_, ?_, ?_, ?_, ?_, ?_, ?_, ?_, ?_, ?_, ?_, ?_, ?_, ?_, trivial⟩
          · intro ev W hf _ _ hst hd
            have e4 : ev (.tmp 4) = .int .i64 (-11) := hf 4 (by kernel_rfl)
            refine st_value (v := .int .i64 (-11)) ?_ (Below.refl _ _) ?_
            · simp [execOp, go_sem, e4]
            · exact rfl
          · intro ev W hf _ _ hst hd
            have e3 : ev (.tmp 3) = .int .i64 x := hf 3 (by kernel_rfl)
            refine st_value (v := .int .i64 x) ?_ (Below.refl _ _) ?_
            · simp [execOp, go_sem, e3]
            · exact rfl
          · intro ev W hf _ _ hst hd
            have e1 : ev (.tmp 1) = .pointer (some ⟨Bs, 0, none⟩) := hf 1 (by kernel_rfl)
            refine st_value (v := .pointer (some ⟨Bs, 0, none⟩)) ?_ (Below.refl _ _) ?_
            · simp [execOp, go_sem, e1]
            · exact rfl
          · intro ev W hf _ _ hst hd
            obtain ⟨d16, _⟩ := hd
            have e16 : ev (.tmp 16) = .pointer (some ⟨Bs, 0, none⟩) := d16
            have kk := VRow.ext HR3.out hst
            have k0 := VRow.cell kk (k := 0) rfl
            refine st_value (v := .int .i64 A) ?_ (Below.refl _ _) ?_
            · simp [execOp, go_sem, e16, k0]
            · exact rfl
          · intro ev W hf _ _ hst hd
            obtain ⟨d15, d17, _⟩ := hd
            have e15 : ev (.tmp 15) = .int .i64 x := d15
            have e17 : ev (.tmp 17) = .int .i64 A := d17
            refine st_value (v := .int .i64 (x / A)) ?_ (Below.refl _ _) ?_
            · simp [execOp, go_sem, e15, e17, HQ.out, HQW.out, hAne]
            · exact rfl
          · intro ev W hf _ _ hst hd
            have e1 : ev (.tmp 1) = .pointer (some ⟨Bs, 0, none⟩) := hf 1 (by kernel_rfl)
            refine st_value (v := .pointer (some ⟨Bs, 1, none⟩)) ?_ (Below.refl _ _) ?_
            · simp [execOp, go_sem, e1]
            · exact rfl
          · intro ev W hf _ _ hst hd
            obtain ⟨d19, _⟩ := hd
            have e19 : ev (.tmp 19) = .pointer (some ⟨Bs, 1, none⟩) := d19
            have kk := VRow.ext HR3.out hst
            have k1 := VRow.cell kk (k := 1) rfl
            refine st_value (v := .int .i64 B) ?_ (Below.refl _ _) ?_
            · simp [execOp, go_sem, e19, k1]
            · exact rfl
          · intro ev W hf _ _ hst hd
            obtain ⟨d18, d20, _⟩ := hd
            have e18 : ev (.tmp 18) = .int .i64 (x / A) := d18
            have e20 : ev (.tmp 20) = .int .i64 B := d20
            refine st_value (v := .int .i64 (x / A * B)) ?_ (Below.refl _ _) ?_
            · simp [execOp, go_sem, e18, e20, HPW.out]
            · exact rfl
          · intro ev W hf _ _ hst hd
            have e4 : ev (.tmp 4) = .int .i64 (-11) := hf 4 (by kernel_rfl)
            refine st_value (v := .int .i64 (-11)) ?_ (Below.refl _ _) ?_
            · simp [execOp, go_sem, e4]
            · exact rfl
          · intro ev W hf _ _ hst hd
            obtain ⟨d21, d22, _⟩ := hd
            have e21 : ev (.tmp 21) = .int .i64 (x / A * B) := d21
            have e22 : ev (.tmp 22) = .int .i64 (-11) := d22
            refine st_value (v := .int .i64 d) ?_ (Below.refl _ _) ?_
            · simp [execOp, go_sem, e21, e22, HSW.out]
            · exact rfl
          · intro ev W hf _ _ hst hd
            have e1 : ev (.tmp 1) = .pointer (some ⟨Bs, 0, none⟩) := hf 1 (by kernel_rfl)
            refine st_value (v := .pointer (some ⟨Bs, 2, none⟩)) ?_ (Below.refl _ _) ?_
            · simp [execOp, go_sem, e1]
            · exact rfl
          · intro ev W hf _ _ hst hd
            obtain ⟨d24, _⟩ := hd
            have e24 : ev (.tmp 24) = .pointer (some ⟨Bs, 2, none⟩) := d24
            have kk := VRow.ext HR3.out hst
            have k2 := VRow.cell kk (k := 2) rfl
            refine st_value (v := .int .i64 D) ?_ (Below.refl _ _) ?_
            · simp [execOp, go_sem, e24, k2]
            · exact rfl
          · intro ev W hf _ hfn hst hd
            obtain ⟨d23, d25, _⟩ := hd
            have e23 : ev (.tmp 23) = .int .i64 d := d23
            have e25 : ev (.tmp 25) = .int .i64 D := d25
            refine st_call (f := 114) (args := #[.int .i64 d, .int .i64 D]) (by simp [execOp, go_sem, hfn, e23, e25]) (calls_same (mod_c d D W HMB.out.1 HMB.out.2 (by omega) (by omega))) (fun _ _ => rfl)
          · intro ev W hf _ _ hst hd
            obtain ⟨d14, d26, _⟩ := hd
            have e14 : ev (.tmp 14) = .int .i64 (-11) := d14
            have e26 : ev (.tmp 26) = .int .i64 (d % D) := d26
            refine st_value (v := .int .i64 y0) ?_ (Below.refl _ _) ?_
            · simp [execOp, go_sem, e14, e26, HAW.out]
            · exact rfl
        case rest =>
          intro vs w3 hl hst hg
          have hx0 : ∀ u, vs[0]? = some u → u = .int .i64 (-11) := fun u hu => hg 0 u hu
          have hx1 : ∀ u, vs[1]? = some u → u = .int .i64 x := fun u hu => hg 1 u hu
          have hx2 : ∀ u, vs[2]? = some u → u = .pointer (some ⟨Bs, 0, none⟩) := fun u hu => hg 2 u hu
          have hx3 : ∀ u, vs[3]? = some u → u = .int .i64 A := fun u hu => hg 3 u hu
          have hx4 : ∀ u, vs[4]? = some u → u = .int .i64 (x / A) := fun u hu => hg 4 u hu
          have hx5 : ∀ u, vs[5]? = some u → u = .pointer (some ⟨Bs, 1, none⟩) := fun u hu => hg 5 u hu
          have hx6 : ∀ u, vs[6]? = some u → u = .int .i64 B := fun u hu => hg 6 u hu
          have hx7 : ∀ u, vs[7]? = some u → u = .int .i64 (x / A * B) := fun u hu => hg 7 u hu
          have hx8 : ∀ u, vs[8]? = some u → u = .int .i64 (-11) := fun u hu => hg 8 u hu
          have hx9 : ∀ u, vs[9]? = some u → u = .int .i64 d := fun u hu => hg 9 u hu
          have hx10 : ∀ u, vs[10]? = some u → u = .pointer (some ⟨Bs, 2, none⟩) := fun u hu => hg 10 u hu
          have hx11 : ∀ u, vs[11]? = some u → u = .int .i64 D := fun u hu => hg 11 u hu
          have hx12 : ∀ u, vs[12]? = some u → u = .int .i64 (d % D) := fun u hu => hg 12 u hu
          have hx13 : ∀ u, vs[13]? = some u → u = .int .i64 y0 := fun u hu => hg 13 u hu
          have HE3 := Lib.hid hst
          clear hg hst
          obtain ⟨x0, vs0, rfl, hl0⟩ := len_succ hl
          obtain ⟨x1, vs1, rfl, hl1⟩ := len_succ hl0
          obtain ⟨x2, vs2, rfl, hl2⟩ := len_succ hl1
          obtain ⟨x3, vs3, rfl, hl3⟩ := len_succ hl2
          obtain ⟨x4, vs4, rfl, hl4⟩ := len_succ hl3
          obtain ⟨x5, vs5, rfl, hl5⟩ := len_succ hl4
          obtain ⟨x6, vs6, rfl, hl6⟩ := len_succ hl5
          obtain ⟨x7, vs7, rfl, hl7⟩ := len_succ hl6
          obtain ⟨x8, vs8, rfl, hl8⟩ := len_succ hl7
          obtain ⟨x9, vs9, rfl, hl9⟩ := len_succ hl8
          obtain ⟨x10, vs10, rfl, hl10⟩ := len_succ hl9
          obtain ⟨x11, vs11, rfl, hl11⟩ := len_succ hl10
          obtain ⟨x12, vs12, rfl, hl12⟩ := len_succ hl11
          obtain ⟨x13, vs13, rfl, hl13⟩ := len_succ hl12
          have hnil : vs13 = [] := List.length_eq_zero_iff.1 hl13
          subst hnil
          obtain rfl : x0 = .int .i64 (-11) := hx0 _ rfl
          obtain rfl : x1 = .int .i64 x := hx1 _ rfl
          obtain rfl : x2 = .pointer (some ⟨Bs, 0, none⟩) := hx2 _ rfl
          obtain rfl : x3 = .int .i64 A := hx3 _ rfl
          obtain rfl : x4 = .int .i64 (x / A) := hx4 _ rfl
          obtain rfl : x5 = .pointer (some ⟨Bs, 1, none⟩) := hx5 _ rfl
          obtain rfl : x6 = .int .i64 B := hx6 _ rfl
          obtain rfl : x7 = .int .i64 (x / A * B) := hx7 _ rfl
          obtain rfl : x8 = .int .i64 (-11) := hx8 _ rfl
          obtain rfl : x9 = .int .i64 d := hx9 _ rfl
          obtain rfl : x10 = .pointer (some ⟨Bs, 2, none⟩) := hx10 _ rfl
          obtain rfl : x11 = .int .i64 D := hx11 _ rfl
          obtain rfl : x12 = .int .i64 (d % D) := hx12 _ rfl
          obtain rfl : x13 = .int .i64 y0 := hx13 _ rfl
          clear hx0 hx1 hx2 hx3 hx4 hx5 hx6 hx7 hx8 hx9 hx10 hx11 hx12 hx13
          simp only [putAll, Act.put, List.dropLast, List.setIfInBounds_toArray, List.set_cons_zero, List.set_cons_succ]
          go_wp2_with fail
          go_loopw [5] (fun i wr' => ∃ (k' f2 : Nat) (y : Int), i = .int .i64 y ∧ -11 ≤ y ∧ y ≤ 300000 ∧ 12 - y ≤ f2 ∧ k' ≤ (nearL A B D).length ∧ (nearL A B D).drop k' = (colN D f2 y).map (fun y => (x, y)) ++ rowsN A B D f' (x + A) ∧ J k' wr' ∧ Held S w wr') (fun i _ => (12 - intOf i).toNat)
          case atStart => exact ⟨k, 23, y0, rfl, by omega, by omega, by omega, hk, by rw [HDR.out, HROW.out], hJ k _ _ HJ.out (Keeps.of_ext HE3.out), HH.out.trans (Held.ext HE3.out (fun j hj => Nat.lt_of_lt_of_le (hS j hj) HH.out.size))⟩
          case round =>
            obtain ⟨k', f2, y, rfl, hy0, hy1, hf2, hk', hdrop', hJk', hH'⟩ := hrel
            have HJ' := Lib.hid hJk'
            have HH' := Lib.hid hH'
            have HDR' := Lib.hid hdrop'
            have HRow' := Lib.hid (HK.out _ hH')
            clear hH' hJk' hdrop'
            by_cases hylt : y < 12
            · obtain ⟨f3, hf3, hcol⟩ := colN_step (show 1 ≤ D by omega) hylt hf2
              have hd2 := HDR'.out
              rw [hcol, List.map_cons, List.cons_append] at hd2
              obtain ⟨hget, hdr2, hklt⟩ := drop_cons hd2
              have HGET := Lib.hid hget
              have HDR2 := Lib.hid hdr2
              clear hd2 hdr2 hget hcol
              refine (wpIn_wide (n := 9)).1 ?_
              obtain ⟨fn, tmps, assign, body, hy, hR⟩ := HY.out k' _ HJ'.out hklt 9
              have hnear : nearA A B D k' = #[vecV x y] := by unfold nearA; rw [List.getD_eq_getElem?_getD, HGET.out]; rfl
              rw [hnear] at hy
              clear hnear
              gi_wp2_with fail
              clear hy
              refine (RoundIn.any (m := 8) rfl hR).mono ?_
              rintro e W6 (⟨rfl, hJ6, hH6⟩ | ⟨rfl, hJ6⟩)
              · have HR6 := Lib.hid (HK.out _ (HH'.out.trans hH6))
                have c2 := VRow.cell HR6.out (k := 2) rfl
                gi_wp2
                go_wp2
                refine ⟨⟨k' + 1, f3, y + D, rfl, by omega, by omega, hf3, hklt, HDR2.out, hJ6, HH'.out.trans hH6⟩, by simp [intOf]; omega⟩
              · gi_wp2
                go_wp2
                (try simp only [Exit.inBlock, Exit.then])
                refine bodyPost_ret (results_none rfl _ _ _) rfl ?_
                exact ⟨⟨_, rfl⟩, .inr ⟨k', hklt, hJ6⟩⟩
            · have hd2 := HDR'.out
              rw [colN_done hylt, List.map_nil, List.nil_append] at hd2
              have HDR2 := Lib.hid hd2
              clear hd2
              have c0 := VRow.cell HRow'.out (k := 0) rfl
              go_wp2
              refine ⟨⟨k', f', x + A, rfl, by omega, by omega, hf', hk', HDR2.out, HJ'.out, HH'.out⟩, by simp [intOf]; omega⟩
    · have hdr := HDR.out
      rw [rowsN_done hlt] at hdr
      obtain rfl := drop_nil hdr hk
      clear hdr
      go_wp2
      go_end0
      exact ⟨⟨_, rfl⟩, .inl HJ.out⟩
end Go.Proofs.Ytnpebfchojalcaa

