import Derived.Test.YtnpebfchojalcaaV10
namespace Go.Proofs.Ytnpebfchojalcaa
open Go.RowKit Go.Shelf
def dotP (d q : Pt) : Int := dotV d.1 d.2 q.1 q.2
def extK (ps : List Pt) (d : Pt) : Nat → Int × Nat
  | 0 => (dotP d (fromP ps 0), 0)
  | k + 1 => if (extK ps d k).1 < dotP d (fromP ps k) then (dotP d (fromP ps k), k) else extK ps d k
theorem fromP_of {ps : List Pt} {k : Nat} {q : Pt} (h : ps[k]? = some q) : fromP ps k = q := getD_of h
theorem extK_at {ps : List Pt} {d : Pt} {k : Nat} (hn : 0 < ps.length) (hk : k ≤ ps.length) : (extK ps d k).2 < ps.length := by
  induction k with
  | zero => exact hn
  | succ k ih =>
    simp only [extK]
    split
    · show k < _; omega
    · exact ih (by omega)
set_option maxRecDepth 100000 in
set_option maxHeartbeats 1000000 in
theorem extreme_c (v : Value) (ps : List Pt) (x y : Int) (w : World) (hv : Vecs w v ps) (hp : fineP ps) (hn : 0 < ps.length) (hx : fine x) (hy : fine y) :
    Calls Try.prog 107 #[v, vecV x y] w fun e w' => e = two (.int .i64 (extK ps (x, y) ps.length).1) (.int .i64 ((extK ps (x, y) ps.length).2 : Nat)) ∧ Ext w w' := by
  obtain ⟨a, cap, rfl, hl, hmx, hr⟩ := hv.at
  have hE0 := Ext.alloc (Ext.refl w) (.cells #[.int .i64 x, .int .i64 y] 31)
  obtain ⟨p0, hp0⟩ := getElem?_len hn
  obtain ⟨b, o, rfl, c0, c1⟩ := hr 0 p0 hp0
  have HC0 := Lib.hid (show (w.alloc (.cells #[.int .i64 x, .int .i64 y] 31)).cell? ⟨b, o, none⟩ = some (.int .i64 p0.1) by have := Ext.cell hE0 c0; simpa using this)
  have HC1 := Lib.hid (show (w.alloc (.cells #[.int .i64 x, .int .i64 y] 31)).cell? ⟨b, o + 1, none⟩ = some (.int .i64 p0.2) by have := Ext.cell hE0 c1; simpa using this)
  have HR := Lib.hid (show ∀ (k : Nat) (p : Pt), ps[k]? = some p → ∃ b' off, some (⟨b, o, none⟩ : Addr) = some ⟨b', off, none⟩ ∧ (w.alloc (.cells #[.int .i64 x, .int .i64 y] 31)).cell? ⟨b', off + k * 2, none⟩ = some (.int .i64 p.1) ∧ (w.alloc (.cells #[.int .i64 x, .int .i64 y] 31)).cell? ⟨b', off + k * 2 + 1, none⟩ = some (.int .i64 p.2) from fun k p hk => by
    obtain ⟨b', off, e, h1, h2⟩ := hr k p hk
    exact ⟨b', off, e, Ext.cell hE0 h1, Ext.cell hE0 h2⟩)
  have HB := Lib.hid (show VRow (w.alloc (.cells #[.int .i64 x, .int .i64 y] 31)) _ _ _ from vrow_alloc w [.int .i64 x, .int .i64 y] 31)
  have HP := Lib.hid hp
  have HP0 := Lib.hid (hp p0 (List.mem_of_getElem? hp0))
  have HE0 := Lib.hid hE0
  have HX := Lib.hid hx
  have HY := Lib.hid hy
  have HF0 := Lib.hid (fromP_of hp0)

  clear hv hp c0 c1 hp0 hr hE0 hx hy
  go_enter Try.func107, Try.ntmps107
  go_wp2_with fail
  generalize hw1 : w.alloc (.cells #[.int .i64 x, .int .i64 y] 31) = w1 at *
  clear hw1
  refine wp_region_stable [⟨[], none⟩, ⟨[], none⟩, ⟨[(1, 10)], none⟩, ⟨[(2, 11)], none⟩, ⟨[(0, 9), (3, 12)], none⟩, ⟨[(4, 13)], none⟩] (fun x y => Below x.heap.size x y) (MPat [MP.eq (vecV x y), MP.eq (.slice (some ⟨b, o, none⟩) ps.length cap), MP.eq (.pointer (some ⟨b, o, none⟩)), MP.eq (vecV p0.1 p0.2), MP.eq (.int .i64 (dotV x y p0.1 p0.2)), MP.eq (.int .i64 (dotV x y p0.1 p0.2))]) (by kernel_rfl) (fun _ _ _ h k => Ext.trans h k) (fun _ => Below.refl _ _) (fun x => (Below.refl x.heap.size x).drew) (MPat.mono _) (by kernel_rfl) ?obs ?rest
  case obs =>
    refine ⟨?_, ?_, ?_, ?_, ?_, ?_, trivial⟩
    · intro ev W hf _ _ hst hd
      have e3 : ev (.tmp 3) = .pointer (some ⟨w.heap.size, 0, none⟩) := hf 3 (by kernel_rfl)
      have kk := VRow.ext HB.out hst
      have k0 := VRow.cell kk (k := 0) rfl
      have k1 := VRow.cell kk (k := 1) rfl
      refine st_value (v := vecV x y) ?_ (Below.refl _ _) ?_
      · simp [execOp, go_sem, e3, k0, k1]
      · exact rfl
    · intro ev W hf _ _ hst hd
      have e0 : ev (.tmp 0) = .slice (some ⟨b, o, none⟩) ps.length cap := hf 0 (by kernel_rfl)
      refine st_value (v := .slice (some ⟨b, o, none⟩) ps.length cap) ?_ (Below.refl _ _) ?_
      · simp [execOp, go_sem, e0]
      · exact rfl
    · intro ev W hf hcst _ hst hd
      obtain ⟨d10, _⟩ := hd
      have e10 : ev (.tmp 10) = .slice (some ⟨b, o, none⟩) ps.length cap := d10
      refine st_value (v := .pointer (some ⟨b, o, none⟩)) ?_ (Below.refl _ _) ?_
      · simp [execOp, go_sem, e10, hcst, hn]
      · exact rfl
    · intro ev W hf _ _ hst hd
      obtain ⟨d11, _⟩ := hd
      have e11 : ev (.tmp 11) = .pointer (some ⟨b, o, none⟩) := d11
      have k0 := Ext.cell hst HC0.out
      have k1 := Ext.cell hst HC1.out
      refine st_value (v := vecV p0.1 p0.2) ?_ (Below.refl _ _) ?_
      · simp [execOp, go_sem, e11, k0, k1]
      · exact rfl
    · intro ev W hf _ hfn hst hd
      obtain ⟨d9, d12, _⟩ := hd
      have e9 : ev (.tmp 9) = vecV x y := d9
      have e12 : ev (.tmp 12) = vecV p0.1 p0.2 := d12
      refine st_call (f := 130) (args := #[vecV x y, vecV p0.1 p0.2]) (by simp [execOp, go_sem, hfn, e9, e12]) (dot_c x y p0.1 p0.2 W HX.out HY.out HP0.out.1 HP0.out.2) (fun _ _ => rfl)
    · intro ev W hf _ _ hst hd
      obtain ⟨d13, _⟩ := hd
      have e13 : ev (.tmp 13) = .int .i64 (dotV x y p0.1 p0.2) := d13
      refine st_value (v := .int .i64 (dotV x y p0.1 p0.2)) ?_ (Below.refl _ _) ?_
      · simp [execOp, go_sem, e13]
      · exact rfl
  case rest =>
    intro vs w3 hl hst hg
    have hx0 : ∀ u, vs[0]? = some u → u = vecV x y := fun u hu => hg 0 u hu
    have hx1 : ∀ u, vs[1]? = some u → u = .slice (some ⟨b, o, none⟩) ps.length cap := fun u hu => hg 1 u hu
    have hx2 : ∀ u, vs[2]? = some u → u = .pointer (some ⟨b, o, none⟩) := fun u hu => hg 2 u hu
    have hx3 : ∀ u, vs[3]? = some u → u = vecV p0.1 p0.2 := fun u hu => hg 3 u hu
    have hx4 : ∀ u, vs[4]? = some u → u = .int .i64 (dotV x y p0.1 p0.2) := fun u hu => hg 4 u hu
    have hx5 : ∀ u, vs[5]? = some u → u = .int .i64 (dotV x y p0.1 p0.2) := fun u hu => hg 5 u hu
    have HE3 := Lib.hid hst
    clear hg hst
    obtain ⟨x0, vs0, rfl, hl0⟩ := len_succ hl
    obtain ⟨x1, vs1, rfl, hl1⟩ := len_succ hl0
    obtain ⟨x2, vs2, rfl, hl2⟩ := len_succ hl1
    obtain ⟨x3, vs3, rfl, hl3⟩ := len_succ hl2
    obtain ⟨x4, vs4, rfl, hl4⟩ := len_succ hl3
    obtain ⟨x5, vs5, rfl, hl5⟩ := len_succ hl4
    have hnil : vs5 = [] := List.length_eq_zero_iff.1 hl5
    subst hnil
    obtain rfl : x0 = vecV x y := hx0 _ rfl
    obtain rfl : x1 = .slice (some ⟨b, o, none⟩) ps.length cap := hx1 _ rfl
    obtain rfl : x2 = .pointer (some ⟨b, o, none⟩) := hx2 _ rfl
    obtain rfl : x3 = vecV p0.1 p0.2 := hx3 _ rfl
    obtain rfl : x4 = .int .i64 (dotV x y p0.1 p0.2) := hx4 _ rfl
    obtain rfl : x5 = .int .i64 (dotV x y p0.1 p0.2) := hx5 _ rfl
    clear hx0 hx1 hx2 hx3 hx4 hx5
    simp only [putAll, Act.put, List.setIfInBounds_toArray, List.set_cons_zero, List.set_cons_succ]
    go_wp2_with fail
    go_loopw [16, 4, 5] (fun i s t wr => ∃ k : Nat, k ≤ ps.length ∧ i = .int .i64 k ∧ s = .int .i64 (extK ps (x, y) k).1 ∧ t = .int .i64 ((extK ps (x, y) k).2 : Nat) ∧ Ext w3 wr) (fun i _ _ _ => ps.length - (intOf i).toNat)
    case atStart => exact ⟨0, Nat.zero_le _, rfl, by simp only [extK, HF0.out]; rfl, rfl, Ext.refl _⟩
    case round =>
      obtain ⟨k, hk, rfl, rfl, rfl, hE⟩ := hrel
      have HE4 := Lib.hid hE
      clear hE
      by_cases hlt : k < ps.length
      · obtain ⟨q, hq⟩ := getElem?_len hlt
        obtain ⟨b', o', e, hd0, hd1⟩ := HR.out k q hq
        obtain ⟨rfl, rfl⟩ : b = b' ∧ o = o' := by injection e with e; injection e with e1 e2; exact ⟨e1, e2⟩
        replace hd0 := Ext.cell (Ext.trans HE3.out HE4.out) hd0
        replace hd1 := Ext.cell (Ext.trans HE3.out HE4.out) hd1
        have hb := VRow.alloc (VRow.ext HB.out (Ext.trans HE3.out HE4.out)) (.cells #[.int .i64 q.1, .int .i64 q.2] 31)
        have b0 := VRow.cell hb (k := 0) rfl
        have b1 := VRow.cell hb (k := 1) rfl
        have HQ := Lib.hid (HP.out q (List.mem_of_getElem? hq))
        have HS := Lib.hid (show extK ps (x, y) (k + 1) = if (extK ps (x, y) k).1 < dotV x y q.1 q.2 then (dotV x y q.1 q.2, k) else extK ps (x, y) k by simp only [extK, fromP_of hq]; rfl)
        have hEa := Ext.trans HE4.out (Ext.alloc (Ext.refl wr) (.cells #[.int .i64 q.1, .int .i64 q.2] 31))
        clear hq hb
        go_wp2_with fail
        refine (show Calls Try.prog 130 #[vecV x y, vecV q.1 q.2] _ _ from (dot_c x y q.1 q.2 _ HX.out HY.out HQ.out.1 HQ.out.2).mono ?_)
        rintro e w5 ⟨rfl, hE5⟩
        have HE5 := Lib.hid (Ext.trans hEa hE5)
        clear hd0 hd1 b0 b1 hEa hE5
        generalize hz : dotV x y q.1 q.2 = z at *
        clear hz
        by_cases hlt2 : (extK ps (x, y) k).1 < z
        · have e := HS.out
          rw [if_pos hlt2] at e
          have He := Lib.hid e
          clear e
          generalize (extK ps (x, y) k).1 = m at *
          go_wp2
          refine ⟨⟨k + 1, by omega, by simp, by rw [He.out], by rw [He.out], HE5.out⟩, by simp [intOf]; omega⟩
        · have e := HS.out
          rw [if_neg hlt2] at e
          have He := Lib.hid e
          clear e
          generalize hm1 : (extK ps (x, y) k).1 = m at *
          have Hm1 := Lib.hid hm1
          clear hm1
          go_wp2
          refine ⟨⟨k + 1, by omega, by simp, by rw [He.out, Hm1.out], by rw [He.out], HE5.out⟩, by simp [intOf]; omega⟩
      · obtain rfl : k = ps.length := by omega
        go_wp2_with fail
        go_ret2
        exact ⟨rfl, Ext.trans HE0.out (Ext.trans HE3.out HE4.out)⟩
end Go.Proofs.Ytnpebfchojalcaa
