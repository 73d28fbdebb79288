import Derived.Test.YtbdppephmlkbaaaM16
import Derived.Shelf.SlicesQ.Reverse
import Derived.Shelf.SlLaysE0
import Derived.Ground.SlgnProg
import Derived.Test.YtbdppephmlkbaaaS2
import Derived.Test.YtbdppephmlkbaaaM3
import Derived.WalkSmall
import Derived.Laws.Cover3
import Derived.Test.YtbdppephmlkbaaaV24
import Derived.Test.YtbdppephmlkbaaaM12
import Derived.Test.YtbdppephmlkbaaaM17
import Derived.Test.YtbdppephmlkbaaaM18
namespace Go.Proofs.Ytbdppephmlkbaaa
set_option maxRecDepth 100000
open Go.RowKit Go.Shelf
attribute [local go_sem] Oper.semAt_some
def in4 (x : Int) : Prop := -10000 ≤ x ∧ x ≤ 10000
set_option maxRecDepth 100000 in
set_option maxHeartbeats 1000000 in
theorem leftOf_c (a1 a2 b1 b2 c1 c2 : Int) (w : World) (ha : in4 a1 ∧ in4 a2) (hb : in4 b1 ∧ in4 b2) (hc : in4 c1 ∧ in4 c2) :
    Calls Try.prog 92 #[vecV a1 a2, vecV b1 b2, vecV c1 c2] w fun e w' => e = .returned (.bool (leftB (a1, a2) (b1, b2) (c1, c2))) ∧ Ext w w' := by
  have hm0 := VRow.alloc (VRow.alloc (vrow_alloc w [.int .i64 a1, .int .i64 a2] 32) (.cells #[.int .i64 b1, .int .i64 b2] 32)) (.cells #[.int .i64 c1, .int .i64 c2] 32)
  have hn0 := VRow.alloc (vrow_alloc (w.alloc (.cells #[.int .i64 a1, .int .i64 a2] 32)) [.int .i64 b1, .int .i64 b2] 32) (.cells #[.int .i64 c1, .int .i64 c2] 32)
  have hp0 := vrow_alloc ((w.alloc (.cells #[.int .i64 a1, .int .i64 a2] 32)).alloc (.cells #[.int .i64 b1, .int .i64 b2] 32)) [.int .i64 c1, .int .i64 c2] 32
  have hE := Ext.alloc (Ext.alloc (Ext.alloc (Ext.refl w) (.cells #[.int .i64 a1, .int .i64 a2] 32)) (.cells #[.int .i64 b1, .int .i64 b2] 32)) (.cells #[.int .i64 c1, .int .i64 c2] 32)
  have hs1 : (w.alloc (.cells #[.int .i64 a1, .int .i64 a2] 32)).heap.size = w.heap.size + 1 := by simp
  have hs2 : ((w.alloc (.cells #[.int .i64 a1, .int .i64 a2] 32)).alloc (.cells #[.int .i64 b1, .int .i64 b2] 32)).heap.size = w.heap.size + 2 := by simp
  rw [hs1] at hn0
  rw [hs2] at hp0
  change VRow (((w.alloc (.cells #[.int .i64 a1, .int .i64 a2] 32)).alloc (.cells #[.int .i64 b1, .int .i64 b2] 32)).alloc (.cells #[.int .i64 c1, .int .i64 c2] 32)) _ _ _ at hm0 hn0 hp0
  have HM := Lib.hid hm0
  have HN := Lib.hid hn0
  have HQ := Lib.hid hp0
  have HE := Lib.hid hE
  have hf : fine a1 ∧ fine a2 ∧ fine b1 ∧ fine b2 ∧ fine c1 ∧ fine c2 ∧ fine (b1 - a1) ∧ fine (b2 - a2) ∧ fine (c1 - a1) ∧ fine (c2 - a2) := by unfold in4 at *; unfold fine; omega
  have HF := Lib.hid hf
  obtain ⟨B, hB⟩ : ∃ B, B = leftB (a1, a2) (b1, b2) (c1, c2) := ⟨_, rfl⟩
  have HBB := Lib.hid hB
  have HLT := Lib.hid (show decide (0 < crossZ (b1 - a1) (b2 - a2) (c1 - a1) (c2 - a2)) = B from hB.symm)
  rw [← hB]
  clear hs1 hs2 hm0 hn0 hp0 hE ha hb hc hf hB
  go_enter Try.func92, Try.ntmps92
  go_wp2_with fail
  generalize (((w.alloc (.cells #[.int .i64 a1, .int .i64 a2] 32)).alloc (.cells #[.int .i64 b1, .int .i64 b2] 32)).alloc (.cells #[.int .i64 c1, .int .i64 c2] 32)) = w1 at *
  generalize hs : w.heap.size = s at *
  refine wp_region_stable [⟨[], none⟩, ⟨[], none⟩, ⟨[], none⟩, ⟨[(1, 8), (2, 9)], none⟩, ⟨[(0, 7), (3, 10)], none⟩, ⟨[], none⟩, ⟨[(4, 11), (5, 12)], none⟩, ⟨[(6, 13)], none⟩, ⟨[(7, 14)], none⟩] (fun x y => Below x.heap.size x y) (MPat [MP.eq (vecV a1 a2), MP.eq (vecV b1 b2), MP.eq (vecV a1 a2), MP.eq (vecV (b1 - a1) (b2 - a2)), MP.eq (.agg #[.int .i64 a1, .int .i64 a2, .int .i64 (b1 - a1), .int .i64 (b2 - a2)]), MP.eq (vecV c1 c2), MP.eq (.int .i64 (crossZ (b1 - a1) (b2 - a2) (c1 - a1) (c2 - a2))), MP.eq (.bool B), MP.eq (.bool B)]) (by kernel_rfl) (fun _ _ _ h k => Ext.trans h k) (fun _ => Below.refl _ _) (fun x => (Below.refl x.heap.size x).drew) (MPat.mono _) (by kernel_rfl) ?obs ?rest
  case obs =>
    refine ⟨?_, ?_, ?_, ?_, ?_, ?_, ?_, ?_, ?_, trivial⟩
    · intro ev W hf _ _ hst hd
      have e3 : ev (.tmp 3) = .pointer (some ⟨s, 0, none⟩) := hf 3 (by kernel_rfl)
      have kk := VRow.ext HM.out hst
      have k0 := VRow.cell kk (k := 0) rfl
      have k1 := VRow.cell kk (k := 1) rfl
      refine st_value (v := vecV a1 a2) ?_ (Below.refl _ _) ?_
      · simp [execOp, go_sem, e3, k0, k1]
      · exact rfl
    · intro ev W hf _ _ hst hd
      have e4 : ev (.tmp 4) = .pointer (some ⟨s + 1, 0, none⟩) := hf 4 (by kernel_rfl)
      have kk := VRow.ext HN.out hst
      have k0 := VRow.cell kk (k := 0) rfl
      have k1 := VRow.cell kk (k := 1) rfl
      refine st_value (v := vecV b1 b2) ?_ (Below.refl _ _) ?_
      · simp [execOp, go_sem, e4, k0, k1]
      · exact rfl
    · intro ev W hf _ _ hst hd
      have e3 : ev (.tmp 3) = .pointer (some ⟨s, 0, none⟩) := hf 3 (by kernel_rfl)
      have kk := VRow.ext HM.out hst
      have k0 := VRow.cell kk (k := 0) rfl
      have k1 := VRow.cell kk (k := 1) rfl
      refine st_value (v := vecV a1 a2) ?_ (Below.refl _ _) ?_
      · simp [execOp, go_sem, e3, k0, k1]
      · exact rfl
    · intro ev W hf _ hfn hst hd
      obtain ⟨d8, d9, _⟩ := hd
      have e8 : ev (.tmp 8) = vecV b1 b2 := d8
      have e9 : ev (.tmp 9) = vecV a1 a2 := d9
      refine st_call (f := 84) (args := #[vecV b1 b2, vecV a1 a2]) (by simp [execOp, go_sem, hfn, e8, e9]) (minus_c b1 b2 a1 a2 W HF.out.2.2.1 HF.out.2.2.2.1 HF.out.1 HF.out.2.1) (fun _ _ => rfl)
    · intro ev W hf _ _ hst hd
      obtain ⟨d7, d10, _⟩ := hd
      have e7 : ev (.tmp 7) = vecV a1 a2 := d7
      have e10 : ev (.tmp 10) = vecV (b1 - a1) (b2 - a2) := d10
      refine st_value (v := .agg #[.int .i64 a1, .int .i64 a2, .int .i64 (b1 - a1), .int .i64 (b2 - a2)]) ?_ (Below.refl _ _) ?_
      · simp [execOp, go_sem, e7, e10]
      · exact rfl
    · intro ev W hf _ _ hst hd
      have e5 : ev (.tmp 5) = .pointer (some ⟨s + 2, 0, none⟩) := hf 5 (by kernel_rfl)
      have kk := VRow.ext HQ.out hst
      have k0 := VRow.cell kk (k := 0) rfl
      have k1 := VRow.cell kk (k := 1) rfl
      refine st_value (v := vecV c1 c2) ?_ (Below.refl _ _) ?_
      · simp [execOp, go_sem, e5, k0, k1]
      · exact rfl
    · intro ev W hf _ hfn hst hd
      obtain ⟨d11, d12, _⟩ := hd
      have e11 : ev (.tmp 11) = .agg #[.int .i64 a1, .int .i64 a2, .int .i64 (b1 - a1), .int .i64 (b2 - a2)] := d11
      have e12 : ev (.tmp 12) = vecV c1 c2 := d12
      refine st_call (f := 81) (args := #[.agg #[.int .i64 a1, .int .i64 a2, .int .i64 (b1 - a1), .int .i64 (b2 - a2)], vecV c1 c2]) (by simp [execOp, go_sem, hfn, e11, e12]) (side_c a1 a2 (b1 - a1) (b2 - a2) c1 c2 W HF.out.1 HF.out.2.1 HF.out.2.2.2.2.2.2.1 HF.out.2.2.2.2.2.2.2.1 HF.out.2.2.2.2.1 HF.out.2.2.2.2.2.1 HF.out.2.2.2.2.2.2.2.2.1 HF.out.2.2.2.2.2.2.2.2.2) (fun _ _ => rfl)
    · intro ev W hf hcst _ hst hd
      obtain ⟨d13, _⟩ := hd
      have e13 : ev (.tmp 13) = .int .i64 (crossZ (b1 - a1) (b2 - a2) (c1 - a1) (c2 - a2)) := d13
      refine st_value (v := .bool B) ?_ (Below.refl _ _) ?_
      · simp [execOp, go_sem, e13, hcst, HLT.out]
      · exact rfl
    · intro ev W hf _ _ hst hd
      obtain ⟨d14, _⟩ := hd
      have e14 : ev (.tmp 14) = .bool B := d14
      refine st_value (v := .bool B) ?_ (Below.refl _ _) ?_
      · simp [execOp, go_sem, e14]
      · exact rfl
  case rest =>
    intro vs w3 hl hst hg
    have hx0 : ∀ u, vs[0]? = some u → u = vecV a1 a2 := fun u hu => hg 0 u hu
    have hx1 : ∀ u, vs[1]? = some u → u = vecV b1 b2 := fun u hu => hg 1 u hu
    have hx2 : ∀ u, vs[2]? = some u → u = vecV a1 a2 := fun u hu => hg 2 u hu
    have hx3 : ∀ u, vs[3]? = some u → u = vecV (b1 - a1) (b2 - a2) := fun u hu => hg 3 u hu
    have hx4 : ∀ u, vs[4]? = some u → u = .agg #[.int .i64 a1, .int .i64 a2, .int .i64 (b1 - a1), .int .i64 (b2 - a2)] := fun u hu => hg 4 u hu
    have hx5 : ∀ u, vs[5]? = some u → u = vecV c1 c2 := fun u hu => hg 5 u hu
    have hx6 : ∀ u, vs[6]? = some u → u = .int .i64 (crossZ (b1 - a1) (b2 - a2) (c1 - a1) (c2 - a2)) := fun u hu => hg 6 u hu
    have hx7 : ∀ u, vs[7]? = some u → u = .bool B := fun u hu => hg 7 u hu
    have hx8 : ∀ u, vs[8]? = some u → u = .bool B := fun u hu => hg 8 u hu
    have HE3 := Lib.hid hst
    clear hg hst
    obtain ⟨x0, vs0, rfl, hl0⟩ := len_succ hl
    obtain ⟨x1, vs1, rfl, hl1⟩ := len_succ hl0
    obtain ⟨x2, vs2, rfl, hl2⟩ := len_succ hl1
    obtain ⟨x3, vs3, rfl, hl3⟩ := len_succ hl2
    obtain ⟨x4, vs4, rfl, hl4⟩ := len_succ hl3
    obtain ⟨x5, vs5, rfl, hl5⟩ := len_succ hl4
    obtain ⟨x6, vs6, rfl, hl6⟩ := len_succ hl5
    obtain ⟨x7, vs7, rfl, hl7⟩ := len_succ hl6
    obtain ⟨x8, vs8, rfl, hl8⟩ := len_succ hl7
    have hnil : vs8 = [] := List.length_eq_zero_iff.1 hl8
    subst hnil
    obtain rfl : x0 = vecV a1 a2 := hx0 _ rfl
    obtain rfl : x1 = vecV b1 b2 := hx1 _ rfl
    obtain rfl : x2 = vecV a1 a2 := hx2 _ rfl
    obtain rfl : x3 = vecV (b1 - a1) (b2 - a2) := hx3 _ rfl
    obtain rfl : x4 = .agg #[.int .i64 a1, .int .i64 a2, .int .i64 (b1 - a1), .int .i64 (b2 - a2)] := hx4 _ rfl
    obtain rfl : x5 = vecV c1 c2 := hx5 _ rfl
    obtain rfl : x6 = .int .i64 (crossZ (b1 - a1) (b2 - a2) (c1 - a1) (c2 - a2)) := hx6 _ rfl
    obtain rfl : x7 = .bool B := hx7 _ rfl
    obtain rfl : x8 = .bool B := hx8 _ rfl
    clear hx0 hx1 hx2 hx3 hx4 hx5 hx6 hx7 hx8
    simp only [putAll, Act.put, List.setIfInBounds_toArray, List.set_cons_zero, List.set_cons_succ]
    go_wp2_with fail
    go_ret
    exact ⟨rfl, Ext.trans HE.out HE3.out⟩
end Go.Proofs.Ytbdppephmlkbaaa

namespace Go.Proofs.Ytbdppephmlkbaaa
set_option maxRecDepth 100000
open Go.Shelf
def Try.reverseVec_ren : Go.Shelf.Ren := ⟨fun | 35 => 77 | n => n, fun | 22 => 22 | 23 => 32 | 3 => 3 | 4 => 4 | 0 => 0 | n => n, fun | n => n⟩
theorem Try.reverseVec : Go.Proofs.SlLaysE0.n35 Try.prog Try.reverseVec_ren := {
  mixed := by kernel_rfl
  f35 := ⟨Try.f77.name, by decide, Try.func77.trans (congrArg some (by kernel_rfl))⟩
  t0 := Try.underlying0
  a0 := Try.isAgg0
  z0 := Try.sizeOf0
  v0 := Try.zeroValue0
  t3 := Try.underlying3
  a3 := Try.isAgg3
  z3 := Try.sizeOf3
  v3 := Try.zeroValue3
  t4 := Try.underlying4
  a4 := Try.isAgg4
  z4 := Try.sizeOf4
  v4 := Try.zeroValue4
  t22 := Try.underlying22
  a22 := Try.isAgg22
  z22 := Try.sizeOf22
  v22 := Try.zeroValue22 }
open Go.RowKit Go.Sort
def encH (x : Pt) : List Value := [.int .i64 x.1, .int .i64 x.2]
theorem ltOf_H (x y : Pt) : ltOf heightP x y = true ↔ lowP x y := by
  unfold ltOf
  rw [decide_eq_true_eq, low_iff]
theorem ltOf_H' (x y : Pt) : ltOf heightP x y = false ↔ ¬ lowP x y := by
  rw [← ltOf_H, Bool.not_eq_true]
theorem swoH : SWO (ltOf heightP) where
  irrefl x := by rw [ltOf_H']; exact low_irrefl _
  trans x y z h1 h2 := by rw [ltOf_H] at *; exact low_trans h1 h2
  ntrans x y z h1 h2 := by rw [ltOf_H'] at *; unfold lowP at *; omega
theorem cmpH (blk off size : Nat) (w : World) : CmpLays Try.prog 64 #[] encH 2 heightP blk off size w := fun m os dk _ x y => by
  refine (byHeight_g x.1 x.2 y.1 y.2 _).mono ?_
  rintro e w' ⟨rfl, hG⟩
  exact ⟨rfl, hG.grow⟩
theorem flat_cellsH (d : Array Pt) (j : Nat) (hj : j < d.size * 2) : (cellsOf d.toList)[j]? = some ((encH d[j / 2]!)[j % 2]!) := by
  have hk : j / 2 < d.size := by omega
  have hq : d.toList[j / 2]? = some d[j / 2]! := by
    rw [Array.getElem?_toList, Array.getElem?_eq_getElem hk, getElem!_pos d _ hk]
  obtain ⟨h1, h2⟩ := cellsOf_at _ _ _ hq
  rcases Nat.mod_two_eq_zero_or_one j with h | h
  · rw [h, show j = j / 2 * 2 by omega, h1, show j / 2 * 2 / 2 = j / 2 by omega]; rfl
  · rw [h, show j = j / 2 * 2 + 1 by omega, h2, show (j / 2 * 2 + 1) / 2 = j / 2 by omega]; rfl
theorem take_flatH (cur : Array Value) (d : Array Pt) (h : d.size * 2 ≤ cur.size) : (putCells id 0 (flatK encH 2 d) cur).toList.take (d.size * 2) = cellsOf d.toList := by
  apply List.ext_getElem?
  intro j
  by_cases hj : j < d.size * 2
  · rw [List.getElem?_take_of_lt hj, flat_cellsH d j hj, Array.getElem?_toList]
    unfold putCells
    rw [Array.getElem?_mapIdx, Array.getElem?_eq_getElem (show j < cur.size by omega)]
    simp only [Option.map_some, size_flatK, Nat.zero_le, Nat.zero_add, hj, and_self, if_true, Nat.sub_zero, id_eq]
    rw [get_flatK _ _ _ _ hj]
  · rw [List.getElem?_eq_none (by simp; omega), List.getElem?_eq_none (by rw [cellsOf_length]; simp; omega)]
/-- an own row as the sort's contracts ask for it -/
theorem holds_own {W : World} {base g n cap : Nat} {ds : List Pt} (hO : W.ownsRow base 32 2 (.slice (some ⟨g, 0, none⟩) n cap) n (cellsOf ds)) (hn : ds.length = n) :
    ∃ cur, base ≤ g ∧ W.heap[g]? = some (.cells cur 32 (0, 0)) ∧ n ≤ cap ∧ cap ≤ maxLen ∧ cur.size = cap * 2 ∧ HoldsK encH 2 W g 0 ds.toArray := by
  rcases hO.2 with ⟨h0, h1⟩ | ⟨g', cap', cur, hv, hg, hc, hnc, hmx, hsz, htk⟩
  · cases h0
  · injection hv with e1 e2 e3
    injection e1 with e1
    injection e1 with e1 _
    subst e1 e3
    refine ⟨cur, hg, hc, hnc, hmx, hsz, ?_⟩
    intro j hj
    rw [size_flatK] at hj
    rw [Nat.zero_add, get_flatK _ _ _ _ hj]
    have h1 := flat_cellsH ds.toArray j hj
    have hsd : ds.toArray.size = n := by simpa using hn
    rw [← htk, List.getElem?_take_of_lt (by omega), Array.getElem?_toList] at h1
    refine ⟨?_, ?_⟩
    · simp [World.cell?, hc, h1]
    · simp [World.frozen?, hc]
theorem sortH_c : SortC 64 lowP (fun _ => True) := by
  intro g cap base n ds W hO hn hok hm
  obtain ⟨cur, hg, hc, hnc, hmx, hsz, hH⟩ := holds_own hO hn
  obtain ⟨d, hd⟩ : ∃ d : Array Pt, ds.toArray = d := ⟨_, rfl⟩
  rw [hd] at hH
  have hdl : d.toList = ds := by rw [← hd]
  have hds : d.size = n := by rw [← hn, ← hd]; simp
  have hlt := (Array.getElem?_eq_some_iff.1 hc).1
  have hcon := AnyQ.slices_SortFunc Try.sortVec 2 Try.isAgg32 Try.sizeOf32 encH (fun _ => rfl) (fun x v hv => by simp [encH] at hv; rcases hv with rfl | rfl <;> rfl) heightP swoH 64 #[] g 0 cap d W (enters_of Try.func64 (by kernel_rfl) rfl) (cmpH g 0 d.size W) hH hlt (by omega)
  change Calls Try.prog 75 _ _ _ at hcon
  rw [hds] at hcon
  refine hcon.mono ?_
  rintro e w' ⟨rfl, d', m, os, ⟨hp1, _, hp3⟩, hs, rfl⟩
  have hd's : d'.size = n := by rw [hp1, hds]
  refine ⟨rfl, d'.toList, ?_, ?_, ⟨?_, .inr ⟨g, cap, _, rfl, hg, sort_heap encH hc d' os, hnc, hmx, ?_, ?_⟩⟩, sort_held encH d' os⟩
  · have e1 : d'.extract 0 n = d' := by rw [← hd's]; simp
    have e2 : d.extract 0 n = d := by rw [← hds]; simp
    rw [e1, e2] at hp3
    rw [← hdl]
    exact hp3
  · rw [List.pairwise_iff_getElem]
    intro i j hi hj hij
    rw [← ltOf_H']
    have := hs i j (Nat.zero_le _) hij (by simp at hj; omega)
    simp at hi hj
    rwa [getElem!_pos d' i hi, getElem!_pos d' j hj] at this
  · rw [cellsOf_length]; simp [hd's]
  · unfold putCells; simp [hsz]
  · rw [← hd's]; exact take_flatH cur d' (by rw [hd's, hsz]; exact Nat.mul_le_mul_right 2 hnc)
theorem reverse_c (g cap base n : Nat) (ds : List Pt) (W : World) (hO : W.ownsRow base 32 2 (.slice (some ⟨g, 0, none⟩) n cap) n (cellsOf ds)) (hn : ds.length = n) :
    Calls Try.prog 77 #[.slice (some ⟨g, 0, none⟩) n cap] W fun e w' => e = .returned (.tuple #[]) ∧ w'.ownsRow base 32 2 (.slice (some ⟨g, 0, none⟩) n cap) n (cellsOf ds.reverse) ∧ Held (fun j => j < W.heap.size ∧ j ≠ g) W w' := by
  obtain ⟨cur, hg, hc, hnc, hmx, hsz, hH⟩ := holds_own hO hn
  have hds : ds.toArray.size = n := by simpa using hn
  have hcon := AnyQ.slices_Reverse Try.reverseVec 2 Try.isAgg32 Try.sizeOf32 encH (fun _ => rfl) (fun x v hv => by simp [encH] at hv; rcases hv with rfl | rfl <;> rfl) g 0 cap ds.toArray W hH (by unfold maxLen at hmx; omega)
  change Calls Try.prog 77 _ _ _ at hcon
  rw [hds] at hcon
  refine hcon.mono ?_
  rintro e w' ⟨rfl, q, rfl⟩
  have hlt := (Array.getElem?_eq_some_iff.1 hc).1
  have hrev : ds.toArray.reverse.toList = ds.reverse := by simp
  refine ⟨rfl, ⟨by rw [cellsOf_length]; simp [hn], .inr ⟨g, cap, putCells id 0 (flatK encH 2 ds.toArray.reverse) cur, rfl, hg, ?_, hnc, hmx, ?_, ?_⟩⟩, ?_⟩
  · unfold putRowK
    simp [putRow, mapBlock, Sort.ahead, Array.getElem?_modify, hc, onCells]
  · unfold putCells; simp [hsz]
  · rw [← hrev]
    have := take_flatH cur ds.toArray.reverse (by simp; rw [hsz, hn]; exact Nat.mul_le_mul_right 2 hnc)
    rwa [show ds.toArray.reverse.size = n by simpa using hn] at this
  · refine ⟨rfl, rfl, rfl, ?_, fun k hk => ?_⟩
    · unfold putRowK; simp [putRow, mapBlock, Sort.ahead]
    · unfold putRowK
      have : ¬ g = k := fun e => hk.2 e.symm
      simp [putRow, mapBlock, Sort.ahead, Array.getElem?_modify, this]
end Go.Proofs.Ytbdppephmlkbaaa

namespace Go.Proofs.Ytbdppephmlkbaaa
set_option maxRecDepth 100000
open Go.RowKit Go.Shelf
attribute [local go_sem] Oper.semAt_some
def lenV : Value → Nat
  | .slice _ n _ => n
  | _ => 0
theorem popP_sub (v : Pt) : ∀ st : List Pt, (∀ x ∈ popP st v, x ∈ st) ∧ (popP st v).length ≤ st.length
  | [] => ⟨fun _ h => h, Nat.le_refl _⟩
  | [_] => ⟨fun _ h => h, Nat.le_refl _⟩
  | b :: a :: l => by
    have ih := popP_sub v (a :: l)
    simp only [popP]
    split
    · exact ⟨fun _ h => h, Nat.le_refl _⟩
    · exact ⟨fun x h => List.mem_cons_of_mem _ (ih.1 x h), Nat.le_trans ih.2 (by simp)⟩
theorem popP_short {v : Pt} {st : List Pt} (h : st.length ≤ 1) : popP st v = st := by
  match st, h with
  | [], _ => rfl
  | [_], _ => rfl
theorem bendS_snoc (l : List Pt) (v : Pt) : bendS (l ++ [v]) = v :: popP (bendS l) v := by simp [bendS]
theorem bendS_mem (l : List Pt) : ∀ m : List Pt, m <+: l → (∀ x ∈ bendS m, x ∈ l) ∧ (bendS m).length ≤ m.length := by
  intro m
  generalize hn : m.length = n
  induction n generalizing m with
  | zero =>
    intro _
    obtain rfl := List.length_eq_zero_iff.1 hn
    exact ⟨fun x h => by simp [bendS] at h, Nat.le_refl _⟩
  | succ n ih =>
    intro hm
    have hne : m ≠ [] := fun e => by rw [e] at hn; simp at hn
    have e := List.dropLast_concat_getLast hne
    have ih' := ih m.dropLast (by simp [hn]) ((List.dropLast_prefix m).trans hm)
    have hl : m.getLast hne ∈ l := hm.subset (List.getLast_mem hne)
    rw [← e, bendS_snoc]
    have p := popP_sub (m.getLast hne) (bendS m.dropLast)
    refine ⟨fun x hx => ?_, ?_⟩
    · rcases List.mem_cons.1 hx with rfl | hx
      · exact hl
      · exact ih'.1 x (p.1 x hx)
    · have := ih'.2
      simp only [List.length_cons]
      omega
theorem own_any {W : World} {base n : Nat} {v : Value} {xs : List Value} (h : W.ownsRow base 32 2 v n xs) : ∃ a cap, v = .slice a n cap := by
  rcases h.2 with ⟨rfl, rfl⟩ | ⟨g, cap, cur, hv, _⟩
  · exact ⟨_, _, rfl⟩
  · exact ⟨_, _, hv⟩
set_option maxRecDepth 100000 in
set_option maxHeartbeats 4000000 in
theorem bend_c (v : Value) (ps : List Pt) (w : World) (hv : Vecs w v ps) (hw : wideP ps) (hn : ps.length ≤ 1000) :
    Calls Try.prog 76 #[v] w fun e w' => ∃ r, e = .returned r ∧ w'.ownsRow w.heap.size 32 2 r (bendS ps).length (cellsOf (bendS ps).reverse) ∧ Ext w w' := by
  obtain ⟨a, cap, rfl, hl, hm, hra⟩ := hv.at
  have HA := Lib.hid hra
  have HWP := Lib.hid hw
  have HBM := Lib.hid (bendS_mem ps)
  clear hv hra hw
  go_enter Try.func76, Try.ntmps76
  go_wp2_with fail
  go_loopw [8, 3] (fun i s wr => ∃ k : Nat, k ≤ ps.length ∧ i = .int .i64 k ∧ wr.ownsRow w.heap.size 32 2 s (bendS (ps.take k)).length (cellsOf (bendS (ps.take k)).reverse) ∧ Ext w wr) (fun i _ _ => ps.length - (intOf i).toNat)
  case atStart => exact ⟨0, Nat.zero_le _, rfl, ⟨rfl, .inl ⟨rfl, rfl⟩⟩, Ext.refl _⟩
  case round =>
    obtain ⟨k, hk, rfl, hO, hE⟩ := hrel
    have HO := Lib.hid hO
    have HE := Lib.hid hE
    clear hO hE
    by_cases hlt : k < ps.length
    · obtain ⟨q, hq⟩ := getElem?_len hlt
      obtain ⟨b, o, rfl, hc0, hc1⟩ := HA.out k q hq
      replace hc0 := Ext.cell HE.out hc0
      replace hc1 := Ext.cell HE.out hc1
      have HST := Lib.hid (show bendS (ps.take (k + 1)) = q :: popP (bendS (ps.take k)) q by rw [take_succ_get hq, bendS_snoc])
      have HQ := Lib.hid (HWP.out q (List.mem_of_getElem? hq))
      have hbm := HBM.out (ps.take k) (List.take_prefix k ps)
      have hbl : (bendS (ps.take k)).length ≤ 1000 := by have := hbm.2; rw [List.length_take] at this; omega
      have HIN := Lib.hid (show ∀ x ∈ bendS (ps.take k), in4 x.1 ∧ in4 x.2 from fun x hx => by have := HWP.out x (hbm.1 x hx); unfold in4; omega)
      have hgl := cell_lt hc0
      generalize hst : bendS (ps.take k) = st at *
      go_wp2_with fail
      clear hc0 hc1 hq hst hbm
      have HB := Lib.hid (vrow_alloc wr [.int .i64 q.1, .int .i64 q.2] 32)
      change RowKit.Hid (VRow (wr.alloc (.cells #[.int .i64 q.1, .int .i64 q.2] 32)) _ _ _) at HB
      have HE8 := Lib.hid (Ext.trans HE.out (Ext.alloc (Ext.refl wr) (.cells #[.int .i64 q.1, .int .i64 q.2] 32)))
      have HO8 := Lib.hid (ownsRow_ext HO.out (Ext.alloc (Ext.refl wr) (.cells #[.int .i64 q.1, .int .i64 q.2] 32)))
      have hs8 : (wr.alloc (.cells #[.int .i64 q.1, .int .i64 q.2] 32)).heap.size = wr.heap.size + 1 := by simp
      clear HO HE
      generalize wr.alloc (.cells #[.int .i64 q.1, .int .i64 q.2] 32) = w8 at *
      obtain ⟨r9, hr9⟩ : ∃ r, r = wr.heap.size := ⟨_, rfl⟩
      rw [← hr9] at HB hs8 ⊢
      clear hr9
      go_loopw [3] (fun s wr2 => ∃ sk : List Pt, popP sk q = popP st q ∧ (∀ x ∈ sk, in4 x.1 ∧ in4 x.2) ∧ sk.length ≤ 1000 ∧ wr2.ownsRow w.heap.size 32 2 s sk.length (cellsOf sk.reverse) ∧ VRow wr2 r9 32 [.int .i64 q.1, .int .i64 q.2] ∧ Ext w wr2) (fun s _ => lenV s)
      case atStart => exact ⟨st, rfl, HIN.out, hbl, HO8.out, HB.out, HE8.out⟩
      case round =>
        clear HB HE8 HO8 HIN hbl hs8
        obtain ⟨sk, hpop, hin, hsl, hO, hB, hE⟩ := hrel
        have HPOP := Lib.hid hpop
        have HIN := Lib.hid hin
        have HO := Lib.hid hO
        have HB := Lib.hid hB
        have HE := Lib.hid hE
        have hrl := VRow.lt hB
        obtain ⟨a', cap', rfl⟩ := own_any hO
        clear hpop hin hO hB hE
        by_cases h1 : sk.length ≤ 1
        · have HS := Lib.hid (show bendS (ps.take (k + 1)) = q :: sk by rw [HST.out, ← HPOP.out, popP_short h1])
          clear HST HPOP HIN
          have hgt : ¬ ((sk.length : Int) > 1) := by omega
          go_wp2_with fail
          refine wp_region_stable [⟨[], none⟩, ⟨[(0, 12)], none⟩, ⟨[(1, 13)], none⟩, ⟨[(2, 14)], none⟩, ⟨[(3, 15)], some (15, true)⟩, ⟨[(3, 15)], some (15, true)⟩, ⟨[(5, 17), (3, 15)], some (15, true)⟩, ⟨[(6, 18), (3, 15)], some (15, true)⟩, ⟨[(4, 16), (7, 19), (3, 15)], some (15, true)⟩, ⟨[(8, 20), (3, 15)], some (15, true)⟩, ⟨[(3, 15)], some (15, true)⟩, ⟨[(3, 15)], some (15, true)⟩, ⟨[(11, 23), (3, 15)], some (15, true)⟩, ⟨[(12, 24), (3, 15)], some (15, true)⟩, ⟨[(10, 22), (13, 25), (3, 15)], some (15, true)⟩, ⟨[(14, 26), (3, 15)], some (15, true)⟩, ⟨[(3, 15)], some (15, true)⟩, ⟨[(9, 21), (15, 27), (16, 28), (3, 15)], some (15, true)⟩, ⟨[(17, 29), (3, 15)], some (15, true)⟩, ⟨[(3, 15), (18, 30)], none⟩] (fun x y => Below x.heap.size x y) (MPat [MP.eq (.slice a' sk.length cap'), MP.eq (.int .i64 sk.length), MP.eq (.bool false), MP.eq (.bool false), MP.eq (undef), MP.eq (undef), MP.eq (undef), MP.eq (undef), MP.eq (undef), MP.eq (undef), MP.eq (undef), MP.eq (undef), MP.eq (undef), MP.eq (undef), MP.eq (undef), MP.eq (undef), MP.eq (undef), MP.eq (undef), MP.eq (undef), MP.eq (.bool false)]) (by kernel_rfl) (fun _ _ _ h k => Ext.trans h k) (fun _ => Below.refl _ _) (fun x => (Below.refl x.heap.size x).drew) (MPat.mono _) (by kernel_rfl) ?obs ?rest
          case obs =>
            refine ⟨?_, ?_, ?_, ?_, ?_, ?_, ?_, ?_, ?_, ?_, ?_, ?_, ?_, ?_, ?_, ?_, ?_, ?_, ?_, ?_, trivial⟩
            · intro ev W hf _ _ hst hd
              have e3 : ev (.tmp 3) = .slice a' sk.length cap' := hf 3 (by kernel_rfl)
              refine st_value (v := .slice a' sk.length cap') ?_ (Below.refl _ _) ?_
              · simp [execOp, go_sem, e3]
              · exact rfl
            · intro ev W hf _ _ hst hd
              obtain ⟨d12, _⟩ := hd
              have e12 : ev (.tmp 12) = .slice a' sk.length cap' := d12
              refine st_value (v := .int .i64 sk.length) ?_ (Below.refl _ _) ?_
              · simp [go_sem, e12]
              · exact rfl
            · intro ev W hf hcst _ hst hd
              obtain ⟨d13, _⟩ := hd
              have e13 : ev (.tmp 13) = .int .i64 sk.length := d13
              refine st_value (v := .bool false) ?_ (Below.refl _ _) ?_
              · simp [execOp, go_sem, e13, hcst, hgt]
              · exact rfl
            · intro ev W hf _ _ hst hd
              obtain ⟨d14, _⟩ := hd
              have e14 : ev (.tmp 14) = .bool false := d14
              refine st_value (v := .bool false) ?_ (Below.refl _ _) ?_
              · simp [execOp, go_sem, e14]
              · exact rfl
            · intro ev W hf _ _ hst hd
              obtain ⟨d15, _⟩ := hd
              have e15 : ev (.tmp 15) = .bool false := d15
              refine ⟨fun hh => ?_, fun _ => rfl⟩
              rw [e15] at hh
              simp at hh
            · intro ev W hf _ _ hst hd
              obtain ⟨d15, _⟩ := hd
              have e15 : ev (.tmp 15) = .bool false := d15
              refine ⟨fun hh => ?_, fun _ => rfl⟩
              rw [e15] at hh
              simp at hh
            · intro ev W hf _ _ hst hd
              obtain ⟨d17, d15, _⟩ := hd
              have e15 : ev (.tmp 15) = .bool false := d15
              refine ⟨fun hh => ?_, fun _ => rfl⟩
              rw [e15] at hh
              simp at hh
            · intro ev W hf _ _ hst hd
              obtain ⟨d18, d15, _⟩ := hd
              have e15 : ev (.tmp 15) = .bool false := d15
              refine ⟨fun hh => ?_, fun _ => rfl⟩
              rw [e15] at hh
              simp at hh
            · intro ev W hf _ _ hst hd
              obtain ⟨d16, d19, d15, _⟩ := hd
              have e15 : ev (.tmp 15) = .bool false := d15
              refine ⟨fun hh => ?_, fun _ => rfl⟩
              rw [e15] at hh
              simp at hh
            · intro ev W hf _ _ hst hd
              obtain ⟨d20, d15, _⟩ := hd
              have e15 : ev (.tmp 15) = .bool false := d15
              refine ⟨fun hh => ?_, fun _ => rfl⟩
              rw [e15] at hh
              simp at hh
            · intro ev W hf _ _ hst hd
              obtain ⟨d15, _⟩ := hd
              have e15 : ev (.tmp 15) = .bool false := d15
              refine ⟨fun hh => ?_, fun _ => rfl⟩
              rw [e15] at hh
              simp at hh
            · intro ev W hf _ _ hst hd
              obtain ⟨d15, _⟩ := hd
              have e15 : ev (.tmp 15) = .bool false := d15
              refine ⟨fun hh => ?_, fun _ => rfl⟩
              rw [e15] at hh
              simp at hh
            · intro ev W hf _ _ hst hd
              obtain ⟨d23, d15, _⟩ := hd
              have e15 : ev (.tmp 15) = .bool false := d15
              refine ⟨fun hh => ?_, fun _ => rfl⟩
              rw [e15] at hh
              simp at hh
            · intro ev W hf _ _ hst hd
              obtain ⟨d24, d15, _⟩ := hd
              have e15 : ev (.tmp 15) = .bool false := d15
              refine ⟨fun hh => ?_, fun _ => rfl⟩
              rw [e15] at hh
              simp at hh
            · intro ev W hf _ _ hst hd
              obtain ⟨d22, d25, d15, _⟩ := hd
              have e15 : ev (.tmp 15) = .bool false := d15
              refine ⟨fun hh => ?_, fun _ => rfl⟩
              rw [e15] at hh
              simp at hh
            · intro ev W hf _ _ hst hd
              obtain ⟨d26, d15, _⟩ := hd
              have e15 : ev (.tmp 15) = .bool false := d15
              refine ⟨fun hh => ?_, fun _ => rfl⟩
              rw [e15] at hh
              simp at hh
            · intro ev W hf _ _ hst hd
              obtain ⟨d15, _⟩ := hd
              have e15 : ev (.tmp 15) = .bool false := d15
              refine ⟨fun hh => ?_, fun _ => rfl⟩
              rw [e15] at hh
              simp at hh
            · intro ev W hf _ _ hst hd
              obtain ⟨d21, d27, d28, d15, _⟩ := hd
              have e15 : ev (.tmp 15) = .bool false := d15
              refine ⟨fun hh => ?_, fun _ => rfl⟩
              rw [e15] at hh
              simp at hh
            · intro ev W hf _ _ hst hd
              obtain ⟨d29, d15, _⟩ := hd
              have e15 : ev (.tmp 15) = .bool false := d15
              refine ⟨fun hh => ?_, fun _ => rfl⟩
              rw [e15] at hh
              simp at hh
            · intro ev W hf hcst _ hst hd
              obtain ⟨d15, d30, _⟩ := hd
              have e15 : ev (.tmp 15) = .bool false := d15
              have e30 : ev (.tmp 30) = undef := d30
              refine st_value (v := .bool false) ?_ (Below.refl _ _) ?_
              · simp [execOp, go_sem, e15, e30, hcst]
              · exact rfl
          case rest =>
            intro vs w3 hl hst hg
            have hx0 : ∀ u, vs[0]? = some u → u = .slice a' sk.length cap' := fun u hu => hg 0 u hu
            have hx1 : ∀ u, vs[1]? = some u → u = .int .i64 sk.length := fun u hu => hg 1 u hu
            have hx2 : ∀ u, vs[2]? = some u → u = .bool false := fun u hu => hg 2 u hu
            have hx3 : ∀ u, vs[3]? = some u → u = .bool false := fun u hu => hg 3 u hu
            have hx4 : ∀ u, vs[4]? = some u → u = undef := fun u hu => hg 4 u hu
            have hx5 : ∀ u, vs[5]? = some u → u = undef := fun u hu => hg 5 u hu
            have hx6 : ∀ u, vs[6]? = some u → u = undef := fun u hu => hg 6 u hu
            have hx7 : ∀ u, vs[7]? = some u → u = undef := fun u hu => hg 7 u hu
            have hx8 : ∀ u, vs[8]? = some u → u = undef := fun u hu => hg 8 u hu
            have hx9 : ∀ u, vs[9]? = some u → u = undef := fun u hu => hg 9 u hu
            have hx10 : ∀ u, vs[10]? = some u → u = undef := fun u hu => hg 10 u hu
            have hx11 : ∀ u, vs[11]? = some u → u = undef := fun u hu => hg 11 u hu
            have hx12 : ∀ u, vs[12]? = some u → u = undef := fun u hu => hg 12 u hu
            have hx13 : ∀ u, vs[13]? = some u → u = undef := fun u hu => hg 13 u hu
            have hx14 : ∀ u, vs[14]? = some u → u = undef := fun u hu => hg 14 u hu
            have hx15 : ∀ u, vs[15]? = some u → u = undef := fun u hu => hg 15 u hu
            have hx16 : ∀ u, vs[16]? = some u → u = undef := fun u hu => hg 16 u hu
            have hx17 : ∀ u, vs[17]? = some u → u = undef := fun u hu => hg 17 u hu
            have hx18 : ∀ u, vs[18]? = some u → u = undef := fun u hu => hg 18 u hu
            have hx19 : ∀ u, vs[19]? = some u → u = .bool false := fun u hu => hg 19 u hu
            have HE3 := Lib.hid hst
            clear hg hst
            obtain ⟨x0, vs0, rfl, hl0⟩ := len_succ hl
            obtain ⟨x1, vs1, rfl, hl1⟩ := len_succ hl0
            obtain ⟨x2, vs2, rfl, hl2⟩ := len_succ hl1
            obtain ⟨x3, vs3, rfl, hl3⟩ := len_succ hl2
            obtain ⟨x4, vs4, rfl, hl4⟩ := len_succ hl3
            obtain ⟨x5, vs5, rfl, hl5⟩ := len_succ hl4
            obtain ⟨x6, vs6, rfl, hl6⟩ := len_succ hl5
            obtain ⟨x7, vs7, rfl, hl7⟩ := len_succ hl6
            obtain ⟨x8, vs8, rfl, hl8⟩ := len_succ hl7
            obtain ⟨x9, vs9, rfl, hl9⟩ := len_succ hl8
            obtain ⟨x10, vs10, rfl, hl10⟩ := len_succ hl9
            obtain ⟨x11, vs11, rfl, hl11⟩ := len_succ hl10
            obtain ⟨x12, vs12, rfl, hl12⟩ := len_succ hl11
            obtain ⟨x13, vs13, rfl, hl13⟩ := len_succ hl12
            obtain ⟨x14, vs14, rfl, hl14⟩ := len_succ hl13
            obtain ⟨x15, vs15, rfl, hl15⟩ := len_succ hl14
            obtain ⟨x16, vs16, rfl, hl16⟩ := len_succ hl15
            obtain ⟨x17, vs17, rfl, hl17⟩ := len_succ hl16
            obtain ⟨x18, vs18, rfl, hl18⟩ := len_succ hl17
            obtain ⟨x19, vs19, rfl, hl19⟩ := len_succ hl18
            have hnil : vs19 = [] := List.length_eq_zero_iff.1 hl19
            subst hnil
            obtain rfl : x0 = .slice a' sk.length cap' := hx0 _ rfl
            obtain rfl : x1 = .int .i64 sk.length := hx1 _ rfl
            obtain rfl : x2 = .bool false := hx2 _ rfl
            obtain rfl : x3 = .bool false := hx3 _ rfl
            obtain rfl : x4 = undef := hx4 _ rfl
            obtain rfl : x5 = undef := hx5 _ rfl
            obtain rfl : x6 = undef := hx6 _ rfl
            obtain rfl : x7 = undef := hx7 _ rfl
            obtain rfl : x8 = undef := hx8 _ rfl
            obtain rfl : x9 = undef := hx9 _ rfl
            obtain rfl : x10 = undef := hx10 _ rfl
            obtain rfl : x11 = undef := hx11 _ rfl
            obtain rfl : x12 = undef := hx12 _ rfl
            obtain rfl : x13 = undef := hx13 _ rfl
            obtain rfl : x14 = undef := hx14 _ rfl
            obtain rfl : x15 = undef := hx15 _ rfl
            obtain rfl : x16 = undef := hx16 _ rfl
            obtain rfl : x17 = undef := hx17 _ rfl
            obtain rfl : x18 = undef := hx18 _ rfl
            obtain rfl : x19 = .bool false := hx19 _ rfl
            clear hx0 hx1 hx2 hx3 hx4 hx5 hx6 hx7 hx8 hx9 hx10 hx11 hx12 hx13 hx14 hx15 hx16 hx17 hx18 hx19
            simp only [putAll, Act.put, List.setIfInBounds_toArray, List.set_cons_zero, List.set_cons_succ]
            have hB9 := VRow.ext HB.out HE3.out
            have HO39 := Lib.hid (ownsRow_ext HO.out HE3.out)
            have HE39 := Lib.hid (Ext.trans HE.out HE3.out)
            have d0 := VRow.cell hB9 (k := 0) rfl
            have d1 := VRow.cell hB9 (k := 1) rfl
            obtain ⟨i0, hi, hz0_, hz1, hz2⟩ := info_parts info31
            have HI := Lib.hid hi
            have HZ0 := Lib.hid hz0_
            have HZ1 := Lib.hid hz1
            have HZ2 := Lib.hid hz2
            clear hi hz0_ hz1 hz2 hB9
            have hsz9 := HE39.out.size
            have hob : ∀ j, Value.ownBlock (.slice a' sk.length cap') = some j → w.heap.size ≤ j := fun j hj => own_block HO39.out hj
            go_wp2_with (at_builtin; (refine wpList_append_own _ rfl _ _ 22 rfl w.heap.size 32 i0 (.agg #[.int .i64 0, .int .i64 0]) 2 16 Try.underlying22 HI.out HZ0.out HZ1.out HZ2.out rfl (by decide) _ _ _ rfl (ownsRow_ext HO39.out (Ext.alloc (Ext.refl w3) (.cells #[.int .i64 q.1, .int .i64 q.2] 32))) ⟨w3.heap.size, 0, none⟩ 1 1 [.int .i64 q.1, .int .i64 q.2] rfl rfl (fun j u h => cell_two_new w3 _ _ 32 j u h) (by simp [Value.oneCell']) (by unfold maxLen; omega) (by omega) (by simp; omega) ?_; intro v' w' hown' hgrow hnil; obtain ⟨g', cap'', rfl⟩ := ownsRow_succ hown'; have HO9 := Lib.hid hown'; have HG9 := Lib.hid hgrow; clear d0 d1 hown' hgrow hnil))
            have HE9 := Lib.hid (show Ext w w' from Below.grown (Ext.alloc HE39.out (.cells #[.int .i64 q.1, .int .i64 q.2] 32)) HG9.out (by have := HE39.out.size; simp; omega) (fun j e => hob j e))
            refine ⟨⟨k + 1, by omega, by (try simp) <;> (try omega), ?_, HE9.out⟩, by (try simp [intOf]) <;> (try omega)⟩
            rw [HS.out]
            have hce : cellsOf (q :: sk).reverse = cellsOf (sk).reverse ++ [.int .i64 q.1, .int .i64 q.2] := by rw [List.reverse_cons, cellsOf_append]; rfl
            rw [hce]
            have h9 := HO9.out
            exact h9
        · obtain ⟨b1, sk1, rfl⟩ : ∃ b1 sk1, sk = b1 :: sk1 := by
            cases sk with
            | nil => simp at h1
            | cons x l => exact ⟨x, l, rfl⟩
          obtain ⟨a1, l, rfl⟩ : ∃ a1 l, sk1 = a1 :: l := by
            cases sk1 with
            | nil => simp at h1
            | cons x l => exact ⟨x, l, rfl⟩
          obtain ⟨g, cap1, e, hg1, hg2, hg3, hg4⟩ := own_form HO.out (by simp)
          obtain ⟨rfl, rfl⟩ : a' = some ⟨g, 0, none⟩ ∧ cap' = cap1 := by injection e with e1 e2 e3; exact ⟨e1, e3⟩
          clear e
          obtain ⟨n, hN⟩ : ∃ n, n = (b1 :: a1 :: l).length := ⟨_, rfl⟩
          obtain ⟨m, hM⟩ : ∃ m, m = (a1 :: l).length := ⟨_, rfl⟩
          obtain ⟨j, hJ⟩ : ∃ j, j = l.length := ⟨_, rfl⟩
          have hpt := own_pts (qs := (b1 :: a1 :: l).reverse) HO.out (by simp) (by simp at hsl ⊢; omega)
          have p1 := hpt j a1 (by rw [hJ]; simp)
          have p2 := hpt m b1 (by rw [hM]; simp)
          rw [Nat.zero_add] at p1 p2
          have HC1 := Lib.hid p1
          have HC2 := Lib.hid p2
          clear hpt p1 p2
          have HO := Lib.hid (show wr.ownsRow w.heap.size 32 2 (.slice (some ⟨g, 0, none⟩) n cap') n (cellsOf (b1 :: a1 :: l).reverse) by rw [hN]; exact HO.out)
          rw [← hN] at hsl hg3 ⊢
          have hnm : n = m + 1 := by rw [hN, hM]; rfl
          have hmj : m = j + 1 := by rw [hM, hJ]; rfl
          have HML := Lib.hid hM
          have HNL := Lib.hid hN
          clear hN hM hJ
          have hgt : (n : Int) > 1 := by omega
          have hjn : j < n := by omega
          have hmn : m < n := by omega
          have HW1 := Lib.hid (show IntKind.i64.wrap ((n : Int) - 2) = (j : Int) by rw [show (n : Int) - 2 = (j : Int) by omega]; exact IntWalk.i64_in _ (by omega))
          have HW2 := Lib.hid (show IntKind.i64.wrap ((n : Int) - 1) = (m : Int) by rw [show (n : Int) - 1 = (m : Int) by omega]; exact IntWalk.i64_in _ (by omega))
          have HI1 := Lib.hid (HIN.out a1 (by simp))
          have HI2 := Lib.hid (HIN.out b1 (by simp))
          have HI3 := Lib.hid (show in4 q.1 ∧ in4 q.2 by have := HQ.out; unfold in4; omega)
          have Hnm := Lib.hid hnm
          have Hmj := Lib.hid hmj
          clear hnm hmj
          cases hlb : leftB a1 b1 q with
          | true =>
            have HS := Lib.hid (show bendS (ps.take (k + 1)) = q :: b1 :: a1 :: l by rw [HST.out, ← HPOP.out]; simp only [popP]; rw [if_pos hlb])
            have HLB := Lib.hid (show leftB (a1.1, a1.2) (b1.1, b1.2) (q.1, q.2) = true from hlb)
            clear HST HPOP HIN hlb
            go_wp2_with fail
            refine wp_region_stable [⟨[], none⟩, ⟨[(0, 12)], none⟩, ⟨[(1, 13)], none⟩, ⟨[(2, 14)], none⟩, ⟨[(3, 15)], some (15, true)⟩, ⟨[(3, 15)], some (15, true)⟩, ⟨[(5, 17), (3, 15)], some (15, true)⟩, ⟨[(6, 18), (3, 15)], some (15, true)⟩, ⟨[(4, 16), (7, 19), (3, 15)], some (15, true)⟩, ⟨[(8, 20), (3, 15)], some (15, true)⟩, ⟨[(3, 15)], some (15, true)⟩, ⟨[(3, 15)], some (15, true)⟩, ⟨[(11, 23), (3, 15)], some (15, true)⟩, ⟨[(12, 24), (3, 15)], some (15, true)⟩, ⟨[(10, 22), (13, 25), (3, 15)], some (15, true)⟩, ⟨[(14, 26), (3, 15)], some (15, true)⟩, ⟨[(3, 15)], some (15, true)⟩, ⟨[(9, 21), (15, 27), (16, 28), (3, 15)], some (15, true)⟩, ⟨[(17, 29), (3, 15)], some (15, true)⟩, ⟨[(3, 15), (18, 30)], none⟩] (fun x y => Below x.heap.size x y) (MPat [MP.eq (.slice (some ⟨g, 0, none⟩) n cap'), MP.eq (.int .i64 n), MP.eq (.bool true), MP.eq (.bool true), MP.eq (.slice (some ⟨g, 0, none⟩) n cap'), MP.eq (.slice (some ⟨g, 0, none⟩) n cap'), MP.eq (.int .i64 n), MP.eq (.int .i64 j), MP.eq (.pointer (some ⟨g, j * 2, none⟩)), MP.eq (vecV a1.1 a1.2), MP.eq (.slice (some ⟨g, 0, none⟩) n cap'), MP.eq (.slice (some ⟨g, 0, none⟩) n cap'), MP.eq (.int .i64 n), MP.eq (.int .i64 m), MP.eq (.pointer (some ⟨g, m * 2, none⟩)), MP.eq (vecV b1.1 b1.2), MP.eq (vecV q.1 q.2), MP.eq (.bool true), MP.eq (.bool false), MP.eq (.bool false)]) (by kernel_rfl) (fun _ _ _ h k => Ext.trans h k) (fun _ => Below.refl _ _) (fun x => (Below.refl x.heap.size x).drew) (MPat.mono _) (by kernel_rfl) ?obs ?rest
            case obs =>
              refine ⟨?_, ?_, ?_, ?_, ?_, ?_, ?_, ?_, ?_, ?_, ?_, ?_, ?_, ?_, ?_, ?_, ?_, ?_, ?_, ?_, trivial⟩
              · intro ev W hf _ _ hst hd
                have e3 : ev (.tmp 3) = .slice (some ⟨g, 0, none⟩) n cap' := hf 3 (by kernel_rfl)
                refine st_value (v := .slice (some ⟨g, 0, none⟩) n cap') ?_ (Below.refl _ _) ?_
                · simp [execOp, go_sem, e3]
                · exact rfl
              · intro ev W hf _ _ hst hd
                obtain ⟨d12, _⟩ := hd
                have e12 : ev (.tmp 12) = .slice (some ⟨g, 0, none⟩) n cap' := d12
                refine st_value (v := .int .i64 n) ?_ (Below.refl _ _) ?_
                · simp [go_sem, e12]
                · exact rfl
              · intro ev W hf hcst _ hst hd
                obtain ⟨d13, _⟩ := hd
                have e13 : ev (.tmp 13) = .int .i64 n := d13
                refine st_value (v := .bool true) ?_ (Below.refl _ _) ?_
                · simp [execOp, go_sem, e13, hcst, hgt]
                · exact rfl
              · intro ev W hf _ _ hst hd
                obtain ⟨d14, _⟩ := hd
                have e14 : ev (.tmp 14) = .bool true := d14
                refine st_value (v := .bool true) ?_ (Below.refl _ _) ?_
                · simp [execOp, go_sem, e14]
                · exact rfl
              · intro ev W hf _ _ hst hd
                obtain ⟨d15, _⟩ := hd
                have e3 : ev (.tmp 3) = .slice (some ⟨g, 0, none⟩) n cap' := hf 3 (by kernel_rfl)
                have e15 : ev (.tmp 15) = .bool true := d15
                refine ⟨fun _ => ?_, fun hne => absurd e15 hne⟩
                refine st_value (v := .slice (some ⟨g, 0, none⟩) n cap') ?_ (Below.refl _ _) ?_
                · simp [execOp, go_sem, e3]
                · exact rfl
              · intro ev W hf _ _ hst hd
                obtain ⟨d15, _⟩ := hd
                have e3 : ev (.tmp 3) = .slice (some ⟨g, 0, none⟩) n cap' := hf 3 (by kernel_rfl)
                have e15 : ev (.tmp 15) = .bool true := d15
                refine ⟨fun _ => ?_, fun hne => absurd e15 hne⟩
                refine st_value (v := .slice (some ⟨g, 0, none⟩) n cap') ?_ (Below.refl _ _) ?_
                · simp [execOp, go_sem, e3]
                · exact rfl
              · intro ev W hf _ _ hst hd
                obtain ⟨d17, d15, _⟩ := hd
                have e17 : ev (.tmp 17) = .slice (some ⟨g, 0, none⟩) n cap' := d17
                have e15 : ev (.tmp 15) = .bool true := d15
                refine ⟨fun _ => ?_, fun hne => absurd e15 hne⟩
                refine st_value (v := .int .i64 n) ?_ (Below.refl _ _) ?_
                · simp [go_sem, e17]
                · exact rfl
              · intro ev W hf hcst _ hst hd
                obtain ⟨d18, d15, _⟩ := hd
                have e18 : ev (.tmp 18) = .int .i64 n := d18
                have e15 : ev (.tmp 15) = .bool true := d15
                refine ⟨fun _ => ?_, fun hne => absurd e15 hne⟩
                refine st_value (v := .int .i64 j) ?_ (Below.refl _ _) ?_
                · simp [execOp, go_sem, e18, hcst, HW1.out]
                · exact rfl
              · intro ev W hf _ _ hst hd
                obtain ⟨d16, d19, d15, _⟩ := hd
                have e16 : ev (.tmp 16) = .slice (some ⟨g, 0, none⟩) n cap' := d16
                have e19 : ev (.tmp 19) = .int .i64 j := d19
                have e15 : ev (.tmp 15) = .bool true := d15
                refine ⟨fun _ => ?_, fun hne => absurd e15 hne⟩
                refine st_value (v := .pointer (some ⟨g, j * 2, none⟩)) ?_ (Below.refl _ _) ?_
                · simp [execOp, go_sem, e16, e19, hjn]
                · exact rfl
              · intro ev W hf _ _ hst hd
                obtain ⟨d20, d15, _⟩ := hd
                have e20 : ev (.tmp 20) = .pointer (some ⟨g, j * 2, none⟩) := d20
                have e15 : ev (.tmp 15) = .bool true := d15
                refine ⟨fun _ => ?_, fun hne => absurd e15 hne⟩
                have k0 := Ext.cell hst HC1.out.1
                have k1 := Ext.cell hst HC1.out.2
                refine st_value (v := vecV a1.1 a1.2) ?_ (Below.refl _ _) ?_
                · simp [execOp, go_sem, e20, k0, k1]
                · exact rfl
              · intro ev W hf _ _ hst hd
                obtain ⟨d15, _⟩ := hd
                have e3 : ev (.tmp 3) = .slice (some ⟨g, 0, none⟩) n cap' := hf 3 (by kernel_rfl)
                have e15 : ev (.tmp 15) = .bool true := d15
                refine ⟨fun _ => ?_, fun hne => absurd e15 hne⟩
                refine st_value (v := .slice (some ⟨g, 0, none⟩) n cap') ?_ (Below.refl _ _) ?_
                · simp [execOp, go_sem, e3]
                · exact rfl
              · intro ev W hf _ _ hst hd
                obtain ⟨d15, _⟩ := hd
                have e3 : ev (.tmp 3) = .slice (some ⟨g, 0, none⟩) n cap' := hf 3 (by kernel_rfl)
                have e15 : ev (.tmp 15) = .bool true := d15
                refine ⟨fun _ => ?_, fun hne => absurd e15 hne⟩
                refine st_value (v := .slice (some ⟨g, 0, none⟩) n cap') ?_ (Below.refl _ _) ?_
                · simp [execOp, go_sem, e3]
                · exact rfl
              · intro ev W hf _ _ hst hd
                obtain ⟨d23, d15, _⟩ := hd
                have e23 : ev (.tmp 23) = .slice (some ⟨g, 0, none⟩) n cap' := d23
                have e15 : ev (.tmp 15) = .bool true := d15
                refine ⟨fun _ => ?_, fun hne => absurd e15 hne⟩
                refine st_value (v := .int .i64 n) ?_ (Below.refl _ _) ?_
                · simp [go_sem, e23]
                · exact rfl
              · intro ev W hf hcst _ hst hd
                obtain ⟨d24, d15, _⟩ := hd
                have e24 : ev (.tmp 24) = .int .i64 n := d24
                have e15 : ev (.tmp 15) = .bool true := d15
                refine ⟨fun _ => ?_, fun hne => absurd e15 hne⟩
                refine st_value (v := .int .i64 m) ?_ (Below.refl _ _) ?_
                · simp [execOp, go_sem, e24, hcst, HW2.out]
                · exact rfl
              · intro ev W hf _ _ hst hd
                obtain ⟨d22, d25, d15, _⟩ := hd
                have e22 : ev (.tmp 22) = .slice (some ⟨g, 0, none⟩) n cap' := d22
                have e25 : ev (.tmp 25) = .int .i64 m := d25
                have e15 : ev (.tmp 15) = .bool true := d15
                refine ⟨fun _ => ?_, fun hne => absurd e15 hne⟩
                refine st_value (v := .pointer (some ⟨g, m * 2, none⟩)) ?_ (Below.refl _ _) ?_
                · simp [execOp, go_sem, e22, e25, hmn]
                · exact rfl
              · intro ev W hf _ _ hst hd
                obtain ⟨d26, d15, _⟩ := hd
                have e26 : ev (.tmp 26) = .pointer (some ⟨g, m * 2, none⟩) := d26
                have e15 : ev (.tmp 15) = .bool true := d15
                refine ⟨fun _ => ?_, fun hne => absurd e15 hne⟩
                have k0 := Ext.cell hst HC2.out.1
                have k1 := Ext.cell hst HC2.out.2
                refine st_value (v := vecV b1.1 b1.2) ?_ (Below.refl _ _) ?_
                · simp [execOp, go_sem, e26, k0, k1]
                · exact rfl
              · intro ev W hf _ _ hst hd
                obtain ⟨d15, _⟩ := hd
                have e5 : ev (.tmp 5) = .pointer (some ⟨r9, 0, none⟩) := hf 5 (by kernel_rfl)
                have e15 : ev (.tmp 15) = .bool true := d15
                refine ⟨fun _ => ?_, fun hne => absurd e15 hne⟩
                have kk := VRow.ext HB.out hst
                have k0 := VRow.cell kk (k := 0) rfl
                have k1 := VRow.cell kk (k := 1) rfl
                refine st_value (v := vecV q.1 q.2) ?_ (Below.refl _ _) ?_
                · simp [execOp, go_sem, e5, k0, k1]
                · exact rfl
              · intro ev W hf _ hfn hst hd
                obtain ⟨d21, d27, d28, d15, _⟩ := hd
                have e21 : ev (.tmp 21) = vecV a1.1 a1.2 := d21
                have e27 : ev (.tmp 27) = vecV b1.1 b1.2 := d27
                have e28 : ev (.tmp 28) = vecV q.1 q.2 := d28
                have e15 : ev (.tmp 15) = .bool true := d15
                refine ⟨fun _ => ?_, fun hne => absurd e15 hne⟩
                refine st_call (f := 92) (args := #[vecV a1.1 a1.2, vecV b1.1 b1.2, vecV q.1 q.2]) (by simp [execOp, go_sem, hfn, e21, e27, e28]) (by rw [← HLB.out]; exact leftOf_c a1.1 a1.2 b1.1 b1.2 q.1 q.2 W HI1.out HI2.out HI3.out) (fun _ _ => rfl)
              · intro ev W hf _ _ hst hd
                obtain ⟨d29, d15, _⟩ := hd
                have e29 : ev (.tmp 29) = .bool true := d29
                have e15 : ev (.tmp 15) = .bool true := d15
                refine ⟨fun _ => ?_, fun hne => absurd e15 hne⟩
                refine st_value (v := .bool false) ?_ (Below.refl _ _) ?_
                · simp [execOp, go_sem, e29]
                · exact rfl
              · intro ev W hf hcst _ hst hd
                obtain ⟨d15, d30, _⟩ := hd
                have e15 : ev (.tmp 15) = .bool true := d15
                have e30 : ev (.tmp 30) = .bool false := d30
                refine st_value (v := .bool false) ?_ (Below.refl _ _) ?_
                · simp [execOp, go_sem, e15, e30, hcst]
                · exact rfl
            case rest =>
              intro vs w3 hl hst hg
              have hx0 : ∀ u, vs[0]? = some u → u = .slice (some ⟨g, 0, none⟩) n cap' := fun u hu => hg 0 u hu
              have hx1 : ∀ u, vs[1]? = some u → u = .int .i64 n := fun u hu => hg 1 u hu
              have hx2 : ∀ u, vs[2]? = some u → u = .bool true := fun u hu => hg 2 u hu
              have hx3 : ∀ u, vs[3]? = some u → u = .bool true := fun u hu => hg 3 u hu
              have hx4 : ∀ u, vs[4]? = some u → u = .slice (some ⟨g, 0, none⟩) n cap' := fun u hu => hg 4 u hu
              have hx5 : ∀ u, vs[5]? = some u → u = .slice (some ⟨g, 0, none⟩) n cap' := fun u hu => hg 5 u hu
              have hx6 : ∀ u, vs[6]? = some u → u = .int .i64 n := fun u hu => hg 6 u hu
              have hx7 : ∀ u, vs[7]? = some u → u = .int .i64 j := fun u hu => hg 7 u hu
              have hx8 : ∀ u, vs[8]? = some u → u = .pointer (some ⟨g, j * 2, none⟩) := fun u hu => hg 8 u hu
              have hx9 : ∀ u, vs[9]? = some u → u = vecV a1.1 a1.2 := fun u hu => hg 9 u hu
              have hx10 : ∀ u, vs[10]? = some u → u = .slice (some ⟨g, 0, none⟩) n cap' := fun u hu => hg 10 u hu
              have hx11 : ∀ u, vs[11]? = some u → u = .slice (some ⟨g, 0, none⟩) n cap' := fun u hu => hg 11 u hu
              have hx12 : ∀ u, vs[12]? = some u → u = .int .i64 n := fun u hu => hg 12 u hu
              have hx13 : ∀ u, vs[13]? = some u → u = .int .i64 m := fun u hu => hg 13 u hu
              have hx14 : ∀ u, vs[14]? = some u → u = .pointer (some ⟨g, m * 2, none⟩) := fun u hu => hg 14 u hu
              have hx15 : ∀ u, vs[15]? = some u → u = vecV b1.1 b1.2 := fun u hu => hg 15 u hu
              have hx16 : ∀ u, vs[16]? = some u → u = vecV q.1 q.2 := fun u hu => hg 16 u hu
              have hx17 : ∀ u, vs[17]? = some u → u = .bool true := fun u hu => hg 17 u hu
              have hx18 : ∀ u, vs[18]? = some u → u = .bool false := fun u hu => hg 18 u hu
              have hx19 : ∀ u, vs[19]? = some u → u = .bool false := fun u hu => hg 19 u hu
              have HE3 := Lib.hid hst
              clear hg hst
              obtain ⟨x0, vs0, rfl, hl0⟩ := len_succ hl
              obtain ⟨x1, vs1, rfl, hl1⟩ := len_succ hl0
              obtain ⟨x2, vs2, rfl, hl2⟩ := len_succ hl1
              obtain ⟨x3, vs3, rfl, hl3⟩ := len_succ hl2
              obtain ⟨x4, vs4, rfl, hl4⟩ := len_succ hl3
              obtain ⟨x5, vs5, rfl, hl5⟩ := len_succ hl4
              obtain ⟨x6, vs6, rfl, hl6⟩ := len_succ hl5
              obtain ⟨x7, vs7, rfl, hl7⟩ := len_succ hl6
              obtain ⟨x8, vs8, rfl, hl8⟩ := len_succ hl7
              obtain ⟨x9, vs9, rfl, hl9⟩ := len_succ hl8
              obtain ⟨x10, vs10, rfl, hl10⟩ := len_succ hl9
              obtain ⟨x11, vs11, rfl, hl11⟩ := len_succ hl10
              obtain ⟨x12, vs12, rfl, hl12⟩ := len_succ hl11
              obtain ⟨x13, vs13, rfl, hl13⟩ := len_succ hl12
              obtain ⟨x14, vs14, rfl, hl14⟩ := len_succ hl13
              obtain ⟨x15, vs15, rfl, hl15⟩ := len_succ hl14
              obtain ⟨x16, vs16, rfl, hl16⟩ := len_succ hl15
              obtain ⟨x17, vs17, rfl, hl17⟩ := len_succ hl16
              obtain ⟨x18, vs18, rfl, hl18⟩ := len_succ hl17
              obtain ⟨x19, vs19, rfl, hl19⟩ := len_succ hl18
              have hnil : vs19 = [] := List.length_eq_zero_iff.1 hl19
              subst hnil
              obtain rfl : x0 = .slice (some ⟨g, 0, none⟩) n cap' := hx0 _ rfl
              obtain rfl : x1 = .int .i64 n := hx1 _ rfl
              obtain rfl : x2 = .bool true := hx2 _ rfl
              obtain rfl : x3 = .bool true := hx3 _ rfl
              obtain rfl : x4 = .slice (some ⟨g, 0, none⟩) n cap' := hx4 _ rfl
              obtain rfl : x5 = .slice (some ⟨g, 0, none⟩) n cap' := hx5 _ rfl
              obtain rfl : x6 = .int .i64 n := hx6 _ rfl
              obtain rfl : x7 = .int .i64 j := hx7 _ rfl
              obtain rfl : x8 = .pointer (some ⟨g, j * 2, none⟩) := hx8 _ rfl
              obtain rfl : x9 = vecV a1.1 a1.2 := hx9 _ rfl
              obtain rfl : x10 = .slice (some ⟨g, 0, none⟩) n cap' := hx10 _ rfl
              obtain rfl : x11 = .slice (some ⟨g, 0, none⟩) n cap' := hx11 _ rfl
              obtain rfl : x12 = .int .i64 n := hx12 _ rfl
              obtain rfl : x13 = .int .i64 m := hx13 _ rfl
              obtain rfl : x14 = .pointer (some ⟨g, m * 2, none⟩) := hx14 _ rfl
              obtain rfl : x15 = vecV b1.1 b1.2 := hx15 _ rfl
              obtain rfl : x16 = vecV q.1 q.2 := hx16 _ rfl
              obtain rfl : x17 = .bool true := hx17 _ rfl
              obtain rfl : x18 = .bool false := hx18 _ rfl
              obtain rfl : x19 = .bool false := hx19 _ rfl
              clear hx0 hx1 hx2 hx3 hx4 hx5 hx6 hx7 hx8 hx9 hx10 hx11 hx12 hx13 hx14 hx15 hx16 hx17 hx18 hx19
              simp only [putAll, Act.put, List.setIfInBounds_toArray, List.set_cons_zero, List.set_cons_succ]
              have hB9 := VRow.ext HB.out HE3.out
              have HO39 := Lib.hid (ownsRow_ext HO.out HE3.out)
              have HE39 := Lib.hid (Ext.trans HE.out HE3.out)
              have d0 := VRow.cell hB9 (k := 0) rfl
              have d1 := VRow.cell hB9 (k := 1) rfl
              obtain ⟨i0, hi, hz0_, hz1, hz2⟩ := info_parts info31
              have HI := Lib.hid hi
              have HZ0 := Lib.hid hz0_
              have HZ1 := Lib.hid hz1
              have HZ2 := Lib.hid hz2
              clear hi hz0_ hz1 hz2 hB9
              have hsz9 := HE39.out.size
              have hob : ∀ j, Value.ownBlock (.slice (some ⟨g, 0, none⟩) n cap') = some j → w.heap.size ≤ j := fun j hj => own_block HO39.out hj
              go_wp2_with (at_builtin; (refine wpList_append_own _ rfl _ _ 22 rfl w.heap.size 32 i0 (.agg #[.int .i64 0, .int .i64 0]) 2 16 Try.underlying22 HI.out HZ0.out HZ1.out HZ2.out rfl (by decide) _ _ _ rfl (ownsRow_ext HO39.out (Ext.alloc (Ext.refl w3) (.cells #[.int .i64 q.1, .int .i64 q.2] 32))) ⟨w3.heap.size, 0, none⟩ 1 1 [.int .i64 q.1, .int .i64 q.2] rfl rfl (fun j u h => cell_two_new w3 _ _ 32 j u h) (by simp [Value.oneCell']) (by unfold maxLen; omega) (by omega) (by simp; omega) ?_; intro v' w' hown' hgrow hnil; obtain ⟨g', cap'', rfl⟩ := ownsRow_succ hown'; have HO9 := Lib.hid hown'; have HG9 := Lib.hid hgrow; clear d0 d1 hown' hgrow hnil))
              have HE9 := Lib.hid (show Ext w w' from Below.grown (Ext.alloc HE39.out (.cells #[.int .i64 q.1, .int .i64 q.2] 32)) HG9.out (by have := HE39.out.size; simp; omega) (fun j e => hob j e))
              refine ⟨⟨k + 1, by omega, by (try simp) <;> (try omega), ?_, HE9.out⟩, by (try simp [intOf]) <;> (try omega)⟩
              rw [HS.out]
              have hce : cellsOf (q :: (b1 :: a1 :: l)).reverse = cellsOf ((b1 :: a1 :: l)).reverse ++ [.int .i64 q.1, .int .i64 q.2] := by rw [List.reverse_cons, cellsOf_append]; rfl
              rw [hce]
              have h9 := HO9.out
              rw [show (q :: b1 :: a1 :: l).length = n + 1 by rw [HNL.out]; rfl]
              exact h9
          | false =>
            have HPP := Lib.hid (show popP (a1 :: l) q = popP st q by rw [← HPOP.out]; simp only [popP]; rw [if_neg (by rw [hlb]; decide)])
            have HLB := Lib.hid (show leftB (a1.1, a1.2) (b1.1, b1.2) (q.1, q.2) = false from hlb)
            clear HST HPOP hlb
            go_wp2_with fail
            refine wp_region_stable [⟨[], none⟩, ⟨[(0, 12)], none⟩, ⟨[(1, 13)], none⟩, ⟨[(2, 14)], none⟩, ⟨[(3, 15)], some (15, true)⟩, ⟨[(3, 15)], some (15, true)⟩, ⟨[(5, 17), (3, 15)], some (15, true)⟩, ⟨[(6, 18), (3, 15)], some (15, true)⟩, ⟨[(4, 16), (7, 19), (3, 15)], some (15, true)⟩, ⟨[(8, 20), (3, 15)], some (15, true)⟩, ⟨[(3, 15)], some (15, true)⟩, ⟨[(3, 15)], some (15, true)⟩, ⟨[(11, 23), (3, 15)], some (15, true)⟩, ⟨[(12, 24), (3, 15)], some (15, true)⟩, ⟨[(10, 22), (13, 25), (3, 15)], some (15, true)⟩, ⟨[(14, 26), (3, 15)], some (15, true)⟩, ⟨[(3, 15)], some (15, true)⟩, ⟨[(9, 21), (15, 27), (16, 28), (3, 15)], some (15, true)⟩, ⟨[(17, 29), (3, 15)], some (15, true)⟩, ⟨[(3, 15), (18, 30)], none⟩] (fun x y => Below x.heap.size x y) (MPat [MP.eq (.slice (some ⟨g, 0, none⟩) n cap'), MP.eq (.int .i64 n), MP.eq (.bool true), MP.eq (.bool true), MP.eq (.slice (some ⟨g, 0, none⟩) n cap'), MP.eq (.slice (some ⟨g, 0, none⟩) n cap'), MP.eq (.int .i64 n), MP.eq (.int .i64 j), MP.eq (.pointer (some ⟨g, j * 2, none⟩)), MP.eq (vecV a1.1 a1.2), MP.eq (.slice (some ⟨g, 0, none⟩) n cap'), MP.eq (.slice (some ⟨g, 0, none⟩) n cap'), MP.eq (.int .i64 n), MP.eq (.int .i64 m), MP.eq (.pointer (some ⟨g, m * 2, none⟩)), MP.eq (vecV b1.1 b1.2), MP.eq (vecV q.1 q.2), MP.eq (.bool false), MP.eq (.bool true), MP.eq (.bool true)]) (by kernel_rfl) (fun _ _ _ h k => Ext.trans h k) (fun _ => Below.refl _ _) (fun x => (Below.refl x.heap.size x).drew) (MPat.mono _) (by kernel_rfl) ?obs ?rest
            case obs =>
              refine ⟨?_, ?_, ?_, ?_, ?_, ?_, ?_, ?_, ?_, ?_, ?_, ?_, ?_, ?_, ?_, ?_, ?_, ?_, ?_, ?_, trivial⟩
              · intro ev W hf _ _ hst hd
                have e3 : ev (.tmp 3) = .slice (some ⟨g, 0, none⟩) n cap' := hf 3 (by kernel_rfl)
                refine st_value (v := .slice (some ⟨g, 0, none⟩) n cap') ?_ (Below.refl _ _) ?_
                · simp [execOp, go_sem, e3]
                · exact rfl
              · intro ev W hf _ _ hst hd
                obtain ⟨d12, _⟩ := hd
                have e12 : ev (.tmp 12) = .slice (some ⟨g, 0, none⟩) n cap' := d12
                refine st_value (v := .int .i64 n) ?_ (Below.refl _ _) ?_
                · simp [go_sem, e12]
                · exact rfl
              · intro ev W hf hcst _ hst hd
                obtain ⟨d13, _⟩ := hd
                have e13 : ev (.tmp 13) = .int .i64 n := d13
                refine st_value (v := .bool true) ?_ (Below.refl _ _) ?_
                · simp [execOp, go_sem, e13, hcst, hgt]
                · exact rfl
              · intro ev W hf _ _ hst hd
                obtain ⟨d14, _⟩ := hd
                have e14 : ev (.tmp 14) = .bool true := d14
                refine st_value (v := .bool true) ?_ (Below.refl _ _) ?_
                · simp [execOp, go_sem, e14]
                · exact rfl
              · intro ev W hf _ _ hst hd
                obtain ⟨d15, _⟩ := hd
                have e3 : ev (.tmp 3) = .slice (some ⟨g, 0, none⟩) n cap' := hf 3 (by kernel_rfl)
                have e15 : ev (.tmp 15) = .bool true := d15
                refine ⟨fun _ => ?_, fun hne => absurd e15 hne⟩
                refine st_value (v := .slice (some ⟨g, 0, none⟩) n cap') ?_ (Below.refl _ _) ?_
                · simp [execOp, go_sem, e3]
                · exact rfl
              · intro ev W hf _ _ hst hd
                obtain ⟨d15, _⟩ := hd
                have e3 : ev (.tmp 3) = .slice (some ⟨g, 0, none⟩) n cap' := hf 3 (by kernel_rfl)
                have e15 : ev (.tmp 15) = .bool true := d15
                refine ⟨fun _ => ?_, fun hne => absurd e15 hne⟩
                refine st_value (v := .slice (some ⟨g, 0, none⟩) n cap') ?_ (Below.refl _ _) ?_
                · simp [execOp, go_sem, e3]
                · exact rfl
              · intro ev W hf _ _ hst hd
                obtain ⟨d17, d15, _⟩ := hd
                have e17 : ev (.tmp 17) = .slice (some ⟨g, 0, none⟩) n cap' := d17
                have e15 : ev (.tmp 15) = .bool true := d15
                refine ⟨fun _ => ?_, fun hne => absurd e15 hne⟩
                refine st_value (v := .int .i64 n) ?_ (Below.refl _ _) ?_
                · simp [go_sem, e17]
                · exact rfl
              · intro ev W hf hcst _ hst hd
                obtain ⟨d18, d15, _⟩ := hd
                have e18 : ev (.tmp 18) = .int .i64 n := d18
                have e15 : ev (.tmp 15) = .bool true := d15
                refine ⟨fun _ => ?_, fun hne => absurd e15 hne⟩
                refine st_value (v := .int .i64 j) ?_ (Below.refl _ _) ?_
                · simp [execOp, go_sem, e18, hcst, HW1.out]
                · exact rfl
              · intro ev W hf _ _ hst hd
                obtain ⟨d16, d19, d15, _⟩ := hd
                have e16 : ev (.tmp 16) = .slice (some ⟨g, 0, none⟩) n cap' := d16
                have e19 : ev (.tmp 19) = .int .i64 j := d19
                have e15 : ev (.tmp 15) = .bool true := d15
                refine ⟨fun _ => ?_, fun hne => absurd e15 hne⟩
                refine st_value (v := .pointer (some ⟨g, j * 2, none⟩)) ?_ (Below.refl _ _) ?_
                · simp [execOp, go_sem, e16, e19, hjn]
                · exact rfl
              · intro ev W hf _ _ hst hd
                obtain ⟨d20, d15, _⟩ := hd
                have e20 : ev (.tmp 20) = .pointer (some ⟨g, j * 2, none⟩) := d20
                have e15 : ev (.tmp 15) = .bool true := d15
                refine ⟨fun _ => ?_, fun hne => absurd e15 hne⟩
                have k0 := Ext.cell hst HC1.out.1
                have k1 := Ext.cell hst HC1.out.2
                refine st_value (v := vecV a1.1 a1.2) ?_ (Below.refl _ _) ?_
                · simp [execOp, go_sem, e20, k0, k1]
                · exact rfl
              · intro ev W hf _ _ hst hd
                obtain ⟨d15, _⟩ := hd
                have e3 : ev (.tmp 3) = .slice (some ⟨g, 0, none⟩) n cap' := hf 3 (by kernel_rfl)
                have e15 : ev (.tmp 15) = .bool true := d15
                refine ⟨fun _ => ?_, fun hne => absurd e15 hne⟩
                refine st_value (v := .slice (some ⟨g, 0, none⟩) n cap') ?_ (Below.refl _ _) ?_
                · simp [execOp, go_sem, e3]
                · exact rfl
              · intro ev W hf _ _ hst hd
                obtain ⟨d15, _⟩ := hd
                have e3 : ev (.tmp 3) = .slice (some ⟨g, 0, none⟩) n cap' := hf 3 (by kernel_rfl)
                have e15 : ev (.tmp 15) = .bool true := d15
                refine ⟨fun _ => ?_, fun hne => absurd e15 hne⟩
                refine st_value (v := .slice (some ⟨g, 0, none⟩) n cap') ?_ (Below.refl _ _) ?_
                · simp [execOp, go_sem, e3]
                · exact rfl
              · intro ev W hf _ _ hst hd
                obtain ⟨d23, d15, _⟩ := hd
                have e23 : ev (.tmp 23) = .slice (some ⟨g, 0, none⟩) n cap' := d23
                have e15 : ev (.tmp 15) = .bool true := d15
                refine ⟨fun _ => ?_, fun hne => absurd e15 hne⟩
                refine st_value (v := .int .i64 n) ?_ (Below.refl _ _) ?_
                · simp [go_sem, e23]
                · exact rfl
              · intro ev W hf hcst _ hst hd
                obtain ⟨d24, d15, _⟩ := hd
                have e24 : ev (.tmp 24) = .int .i64 n := d24
                have e15 : ev (.tmp 15) = .bool true := d15
                refine ⟨fun _ => ?_, fun hne => absurd e15 hne⟩
                refine st_value (v := .int .i64 m) ?_ (Below.refl _ _) ?_
                · simp [execOp, go_sem, e24, hcst, HW2.out]
                · exact rfl
              · intro ev W hf _ _ hst hd
                obtain ⟨d22, d25, d15, _⟩ := hd
                have e22 : ev (.tmp 22) = .slice (some ⟨g, 0, none⟩) n cap' := d22
                have e25 : ev (.tmp 25) = .int .i64 m := d25
                have e15 : ev (.tmp 15) = .bool true := d15
                refine ⟨fun _ => ?_, fun hne => absurd e15 hne⟩
                refine st_value (v := .pointer (some ⟨g, m * 2, none⟩)) ?_ (Below.refl _ _) ?_
                · simp [execOp, go_sem, e22, e25, hmn]
                · exact rfl
              · intro ev W hf _ _ hst hd
                obtain ⟨d26, d15, _⟩ := hd
                have e26 : ev (.tmp 26) = .pointer (some ⟨g, m * 2, none⟩) := d26
                have e15 : ev (.tmp 15) = .bool true := d15
                refine ⟨fun _ => ?_, fun hne => absurd e15 hne⟩
                have k0 := Ext.cell hst HC2.out.1
                have k1 := Ext.cell hst HC2.out.2
                refine st_value (v := vecV b1.1 b1.2) ?_ (Below.refl _ _) ?_
                · simp [execOp, go_sem, e26, k0, k1]
                · exact rfl
              · intro ev W hf _ _ hst hd
                obtain ⟨d15, _⟩ := hd
                have e5 : ev (.tmp 5) = .pointer (some ⟨r9, 0, none⟩) := hf 5 (by kernel_rfl)
                have e15 : ev (.tmp 15) = .bool true := d15
                refine ⟨fun _ => ?_, fun hne => absurd e15 hne⟩
                have kk := VRow.ext HB.out hst
                have k0 := VRow.cell kk (k := 0) rfl
                have k1 := VRow.cell kk (k := 1) rfl
                refine st_value (v := vecV q.1 q.2) ?_ (Below.refl _ _) ?_
                · simp [execOp, go_sem, e5, k0, k1]
                · exact rfl
              · intro ev W hf _ hfn hst hd
                obtain ⟨d21, d27, d28, d15, _⟩ := hd
                have e21 : ev (.tmp 21) = vecV a1.1 a1.2 := d21
                have e27 : ev (.tmp 27) = vecV b1.1 b1.2 := d27
                have e28 : ev (.tmp 28) = vecV q.1 q.2 := d28
                have e15 : ev (.tmp 15) = .bool true := d15
                refine ⟨fun _ => ?_, fun hne => absurd e15 hne⟩
                refine st_call (f := 92) (args := #[vecV a1.1 a1.2, vecV b1.1 b1.2, vecV q.1 q.2]) (by simp [execOp, go_sem, hfn, e21, e27, e28]) (by rw [← HLB.out]; exact leftOf_c a1.1 a1.2 b1.1 b1.2 q.1 q.2 W HI1.out HI2.out HI3.out) (fun _ _ => rfl)
              · intro ev W hf _ _ hst hd
                obtain ⟨d29, d15, _⟩ := hd
                have e29 : ev (.tmp 29) = .bool false := d29
                have e15 : ev (.tmp 15) = .bool true := d15
                refine ⟨fun _ => ?_, fun hne => absurd e15 hne⟩
                refine st_value (v := .bool true) ?_ (Below.refl _ _) ?_
                · simp [execOp, go_sem, e29]
                · exact rfl
              · intro ev W hf hcst _ hst hd
                obtain ⟨d15, d30, _⟩ := hd
                have e15 : ev (.tmp 15) = .bool true := d15
                have e30 : ev (.tmp 30) = .bool true := d30
                refine st_value (v := .bool true) ?_ (Below.refl _ _) ?_
                · simp [execOp, go_sem, e15, e30, hcst]
                · exact rfl
            case rest =>
              intro vs w3 hl hst hg
              have hx0 : ∀ u, vs[0]? = some u → u = .slice (some ⟨g, 0, none⟩) n cap' := fun u hu => hg 0 u hu
              have hx1 : ∀ u, vs[1]? = some u → u = .int .i64 n := fun u hu => hg 1 u hu
              have hx2 : ∀ u, vs[2]? = some u → u = .bool true := fun u hu => hg 2 u hu
              have hx3 : ∀ u, vs[3]? = some u → u = .bool true := fun u hu => hg 3 u hu
              have hx4 : ∀ u, vs[4]? = some u → u = .slice (some ⟨g, 0, none⟩) n cap' := fun u hu => hg 4 u hu
              have hx5 : ∀ u, vs[5]? = some u → u = .slice (some ⟨g, 0, none⟩) n cap' := fun u hu => hg 5 u hu
              have hx6 : ∀ u, vs[6]? = some u → u = .int .i64 n := fun u hu => hg 6 u hu
              have hx7 : ∀ u, vs[7]? = some u → u = .int .i64 j := fun u hu => hg 7 u hu
              have hx8 : ∀ u, vs[8]? = some u → u = .pointer (some ⟨g, j * 2, none⟩) := fun u hu => hg 8 u hu
              have hx9 : ∀ u, vs[9]? = some u → u = vecV a1.1 a1.2 := fun u hu => hg 9 u hu
              have hx10 : ∀ u, vs[10]? = some u → u = .slice (some ⟨g, 0, none⟩) n cap' := fun u hu => hg 10 u hu
              have hx11 : ∀ u, vs[11]? = some u → u = .slice (some ⟨g, 0, none⟩) n cap' := fun u hu => hg 11 u hu
              have hx12 : ∀ u, vs[12]? = some u → u = .int .i64 n := fun u hu => hg 12 u hu
              have hx13 : ∀ u, vs[13]? = some u → u = .int .i64 m := fun u hu => hg 13 u hu
              have hx14 : ∀ u, vs[14]? = some u → u = .pointer (some ⟨g, m * 2, none⟩) := fun u hu => hg 14 u hu
              have hx15 : ∀ u, vs[15]? = some u → u = vecV b1.1 b1.2 := fun u hu => hg 15 u hu
              have hx16 : ∀ u, vs[16]? = some u → u = vecV q.1 q.2 := fun u hu => hg 16 u hu
              have hx17 : ∀ u, vs[17]? = some u → u = .bool false := fun u hu => hg 17 u hu
              have hx18 : ∀ u, vs[18]? = some u → u = .bool true := fun u hu => hg 18 u hu
              have hx19 : ∀ u, vs[19]? = some u → u = .bool true := fun u hu => hg 19 u hu
              have HE3 := Lib.hid hst
              clear hg hst
              obtain ⟨x0, vs0, rfl, hl0⟩ := len_succ hl
              obtain ⟨x1, vs1, rfl, hl1⟩ := len_succ hl0
              obtain ⟨x2, vs2, rfl, hl2⟩ := len_succ hl1
              obtain ⟨x3, vs3, rfl, hl3⟩ := len_succ hl2
              obtain ⟨x4, vs4, rfl, hl4⟩ := len_succ hl3
              obtain ⟨x5, vs5, rfl, hl5⟩ := len_succ hl4
              obtain ⟨x6, vs6, rfl, hl6⟩ := len_succ hl5
              obtain ⟨x7, vs7, rfl, hl7⟩ := len_succ hl6
              obtain ⟨x8, vs8, rfl, hl8⟩ := len_succ hl7
              obtain ⟨x9, vs9, rfl, hl9⟩ := len_succ hl8
              obtain ⟨x10, vs10, rfl, hl10⟩ := len_succ hl9
              obtain ⟨x11, vs11, rfl, hl11⟩ := len_succ hl10
              obtain ⟨x12, vs12, rfl, hl12⟩ := len_succ hl11
              obtain ⟨x13, vs13, rfl, hl13⟩ := len_succ hl12
              obtain ⟨x14, vs14, rfl, hl14⟩ := len_succ hl13
              obtain ⟨x15, vs15, rfl, hl15⟩ := len_succ hl14
              obtain ⟨x16, vs16, rfl, hl16⟩ := len_succ hl15
              obtain ⟨x17, vs17, rfl, hl17⟩ := len_succ hl16
              obtain ⟨x18, vs18, rfl, hl18⟩ := len_succ hl17
              obtain ⟨x19, vs19, rfl, hl19⟩ := len_succ hl18
              have hnil : vs19 = [] := List.length_eq_zero_iff.1 hl19
              subst hnil
              obtain rfl : x0 = .slice (some ⟨g, 0, none⟩) n cap' := hx0 _ rfl
              obtain rfl : x1 = .int .i64 n := hx1 _ rfl
              obtain rfl : x2 = .bool true := hx2 _ rfl
              obtain rfl : x3 = .bool true := hx3 _ rfl
              obtain rfl : x4 = .slice (some ⟨g, 0, none⟩) n cap' := hx4 _ rfl
              obtain rfl : x5 = .slice (some ⟨g, 0, none⟩) n cap' := hx5 _ rfl
              obtain rfl : x6 = .int .i64 n := hx6 _ rfl
              obtain rfl : x7 = .int .i64 j := hx7 _ rfl
              obtain rfl : x8 = .pointer (some ⟨g, j * 2, none⟩) := hx8 _ rfl
              obtain rfl : x9 = vecV a1.1 a1.2 := hx9 _ rfl
              obtain rfl : x10 = .slice (some ⟨g, 0, none⟩) n cap' := hx10 _ rfl
              obtain rfl : x11 = .slice (some ⟨g, 0, none⟩) n cap' := hx11 _ rfl
              obtain rfl : x12 = .int .i64 n := hx12 _ rfl
              obtain rfl : x13 = .int .i64 m := hx13 _ rfl
              obtain rfl : x14 = .pointer (some ⟨g, m * 2, none⟩) := hx14 _ rfl
              obtain rfl : x15 = vecV b1.1 b1.2 := hx15 _ rfl
              obtain rfl : x16 = vecV q.1 q.2 := hx16 _ rfl
              obtain rfl : x17 = .bool false := hx17 _ rfl
              obtain rfl : x18 = .bool true := hx18 _ rfl
              obtain rfl : x19 = .bool true := hx19 _ rfl
              clear hx0 hx1 hx2 hx3 hx4 hx5 hx6 hx7 hx8 hx9 hx10 hx11 hx12 hx13 hx14 hx15 hx16 hx17 hx18 hx19
              simp only [putAll, Act.put, List.setIfInBounds_toArray, List.set_cons_zero, List.set_cons_succ]
              have HO9 := Lib.hid (ownsRow_ext HO.out HE3.out)
              have HB9 := Lib.hid (VRow.ext HB.out HE3.out)
              have HE9 := Lib.hid (Ext.trans HE.out HE3.out)
              have hw2 := HW2.out
              have hnm := Hnm.out
              have hw3 : wrap64 ((n : Int) - 1) = (m : Int) := by unfold wrap64; omega
              have hmc : m ≤ cap' := by omega
              go_wp2
              refine ⟨⟨a1 :: l, HPP.out, fun x hx => HIN.out x (List.mem_cons_of_mem _ hx), ?_, ?_, HB9.out, HE9.out⟩, ?_⟩
              · have := HML.out; omega
              · have h := HO9.out
                rw [hnm, List.reverse_cons, cellsOf_append] at h
                rw [← HML.out]
                refine ownsRow_pop ?_ h
                rw [cellsOf_length, List.length_reverse, ← HML.out]
              · show m < n
                omega
    · obtain rfl : k = ps.length := by omega
      have HO' := Lib.hid (show wr.ownsRow w.heap.size 32 2 _ (bendS ps).length (cellsOf (bendS ps).reverse) by have := HO.out; rwa [List.take_length] at this)
      clear HO
      go_wp2_with fail
      go_ret
      exact ⟨_, rfl, HO'.out, HE.out⟩
end Go.Proofs.Ytbdppephmlkbaaa

namespace Go.Proofs.Ytbdppephmlkbaaa
set_option maxRecDepth 100000
open Go.RowKit Go.Shelf
attribute [local go_sem] Oper.semAt_some
theorem eql_some (w : World) (a : Addr) (n c : Nat) : (binOp .eql 22 (.slice (some a) n c) (.slice none 0 0)).run Try.prog w = .ok (.bool false) w := by
  simp only [binOp]
  simp [run_equal_slice_nil w 22 32 (some a) n c Try.underlying22]
set_option maxRecDepth 100000 in
set_option maxHeartbeats 1000000 in
theorem clone_c (b o cap : Nat) (ps : List Pt) (w : World) (h : PtsAt w b o ps) (hn : 0 < ps.length) (hm : ps.length ≤ 1000) :
    Calls Try.prog 74 #[.slice (some ⟨b, o, none⟩) ps.length cap] w fun e w' => ∃ v, e = .returned v ∧ w'.ownsRow w.heap.size 32 2 v ps.length (cellsOf ps) ∧ Ext w w' := by
  have H := Lib.hid h
  clear h
  obtain ⟨i0, hi, hz0, hz1, hz2⟩ := info_parts info31
  have HI := Lib.hid hi
  have HZ0 := Lib.hid hz0
  have HZ1 := Lib.hid hz1
  have HZ2 := Lib.hid hz2
  clear hi hz0 hz1 hz2
  have HE := Lib.hid (Ext.alloc (Ext.refl w) (.cells #[] 32))
  have HO := Lib.hid (show (w.alloc (.cells #[] 32)).ownsRow w.heap.size 32 2 (.slice (some ⟨w.heap.size, 0, none⟩) 0 0) 0 [] from World.ownsRow_made w #[] 0 (Nat.le_refl _) (by decide) rfl)
  have hq := fun W => eql_some W ⟨b, o, none⟩ ps.length cap
  go_enter Try.func74, Try.ntmps74
  go_wp2_with (at_builtin; refine wpList_append_own _ rfl _ _ 22 rfl w.heap.size 32 i0 (.agg #[.int .i64 0, .int .i64 0]) 2 16 Try.underlying22 HI.out HZ0.out HZ1.out HZ2.out rfl (by decide) _ _ _ rfl HO.out ⟨b, o, none⟩ ps.length cap (cellsOf ps) rfl (cellsOf_length ps) (pts_cells (PtsAt.ext H.out HE.out)) cellsOf_one (by unfold maxLen; omega) (by omega) HE.out.size ?_; intro v' w' hown' hgrow hnil; have HO4 := Lib.hid hown'; have HG4 := Lib.hid hgrow; clear hown' hgrow hnil)
  go_ret
  have h4 := HO4.out
  rw [Nat.zero_add, List.nil_append] at h4
  exact ⟨_, rfl, h4, Below.grown HE.out HG4.out HE.out.size (fun j e => own_block HO.out e)⟩
end Go.Proofs.Ytbdppephmlkbaaa

namespace Go.Proofs.Ytbdppephmlkbaaa
set_option maxRecDepth 100000
open Go.RowKit Go.Shelf
attribute [local go_sem] Oper.semAt_some
theorem nil_vecs (w : World) : Vecs w (.slice none 0 0) [] := ⟨none, 0, rfl, Nat.le_refl _, by decide, .inl rfl⟩
/-- what Sum answers -/
def SumS (ps qs : List Pt) (er : Int) (ts : List Pt) : Prop :=
  (validB ps = true ∧ validB qs = true ∧ ∃ ds, Sorted ps qs ds ∧ ((er = 0 ∧ ts = sumP ps qs ds ∧ (sumP ps qs ds).any farP = false ∧ (sumP ps qs ds).length ≤ 32) ∨ (er = 4 ∧ ts = [] ∧ (sumP ps qs ds).any farP = true) ∨ (er = 8 ∧ ts = [] ∧ (sumP ps qs ds).any farP = false ∧ 32 < (sumP ps qs ds).length))) ∨
  (¬ (validB ps = true ∧ validB qs = true) ∧ er = 2 ∧ ts = [])
set_option maxRecDepth 100000 in
set_option maxHeartbeats 1000000 in
theorem Sum_bad (u v : Value) (ps qs : List Pt) (w : World) (hu : Vecs w u ps) (hv : Vecs w v qs) (hb : ¬ (validB ps = true ∧ validB qs = true)) :
    Calls Try.prog 28 #[u, v] w fun e w' => e = two (.slice none 0 0) (.int .i64 2) ∧ Ext w w' := by
  obtain ⟨a, cap, rfl, hl, hm, _⟩ := hu.at
  obtain ⟨a2, cap2, rfl, hl2, hm2, _⟩ := hv.at
  have HU := Lib.hid hu
  have HV := Lib.hid hv
  clear hu hv
  cases h1 : validB ps with
  | false =>
    have H1 := Lib.hid h1
    clear h1 hb
    go_enter Try.func28, Try.ntmps28
    go_wp2_with fail
    refine (valid_c _ ps _ HU.out).mono ?_
    rintro e w2 ⟨rfl, hE⟩
    rw [H1.out]
    go_wp2
    go_ret2
    exact ⟨rfl, hE⟩
  | true =>
    cases h2 : validB qs with
    | true => exact absurd ⟨h1, h2⟩ hb
    | false =>
      have H1 := Lib.hid h1
      have H2 := Lib.hid h2
      clear h1 h2 hb
      go_enter Try.func28, Try.ntmps28
      go_wp2_with fail
      refine (valid_c _ ps _ HU.out).mono ?_
      rintro e w2 ⟨rfl, hE⟩
      rw [H1.out]
      have HE := Lib.hid hE
      clear hE
      go_wp2_with fail
      refine (valid_c _ qs _ (HV.out.ext HE.out)).mono ?_
      rintro e w3 ⟨rfl, hE3⟩
      rw [H2.out]
      go_wp2
      go_ret2
      exact ⟨rfl, Ext.trans HE.out hE3⟩
theorem Sum_all (u v : Value) (ps qs : List Pt) (w : World) (hu : Vecs w u ps) (hv : Vecs w v qs) :
    Calls Try.prog 28 #[u, v] w fun e w' => ∃ r er ts, e = .returned (.tuple #[r, .int .i64 er]) ∧ SumS ps qs er ts ∧ Vecs w' r ts ∧ Ext w w' := by
  by_cases hb : validB ps = true ∧ validB qs = true
  · refine (Sum_c u v ps qs w hu hv hb.1 hb.2).mono ?_
    rintro e w' ⟨r, ds, hs, rfl, hr, hE⟩
    cases hf : (sumP ps qs ds).any farP with
    | true =>
      refine ⟨_, 4, [], ?_, .inl ⟨hb.1, hb.2, ds, hs, .inr (.inl ⟨rfl, rfl, hf⟩)⟩, nil_vecs w', hE⟩
      unfold limR; rw [if_pos hf]; rfl
    | false =>
      by_cases h32 : 32 < (sumP ps qs ds).length
      · refine ⟨_, 8, [], ?_, .inl ⟨hb.1, hb.2, ds, hs, .inr (.inr ⟨rfl, rfl, hf, h32⟩)⟩, nil_vecs w', hE⟩
        unfold limR; rw [if_neg (by rw [hf]; decide), if_pos h32]; rfl
      · refine ⟨r, 0, _, ?_, .inl ⟨hb.1, hb.2, ds, hs, .inl ⟨rfl, rfl, hf, by omega⟩⟩, hr, hE⟩
        unfold limR; rw [if_neg (by rw [hf]; decide), if_neg h32]; rfl
  · refine (Sum_bad u v ps qs w hu hv hb).mono ?_
    rintro e w' ⟨rfl, hE⟩
    exact ⟨_, 2, [], rfl, .inr ⟨hb, rfl, rfl⟩, nil_vecs w', hE⟩
theorem merged_of {ps qs ds : List Pt} (h1 : validB ps = true) (h2 : validB qs = true) (h : Sorted ps qs ds) : Merged ps qs ds :=
  ⟨(valid_around h1).rolls, (valid_around h2).rolls, h⟩
theorem sumS_comm {ps qs ts us : List Pt} {a b : Int} (h : SumS ps qs a ts) (k : SumS qs ps b us) : a = b ∧ ts = us := by
  rcases h with ⟨h1, h2, ds, hs, h⟩ | ⟨h1, rfl, rfl⟩
  · rcases k with ⟨_, _, es, ks, k⟩ | ⟨k1, _, _⟩
    · have e := sum_comm (merged_of h1 h2 hs) (merged_of h2 h1 ks)
      rw [← e] at k
      rcases h with ⟨rfl, rfl, hf, hl⟩ | ⟨rfl, rfl, hf⟩ | ⟨rfl, rfl, hf, hl⟩ <;> rcases k with ⟨rfl, rfl, kf, kl⟩ | ⟨rfl, rfl, kf⟩ | ⟨rfl, rfl, kf, kl⟩ <;> first | exact ⟨rfl, rfl⟩ | (exfalso; omega) | (rw [hf] at kf; cases kf)
    · exact absurd ⟨h2, h1⟩ k1
  · rcases k with ⟨k1, k2, _⟩ | ⟨_, rfl, rfl⟩
    · exact absurd ⟨k2, k1⟩ h1
    · exact ⟨rfl, rfl⟩
theorem sumS_er {ps qs ts : List Pt} {a : Int} (h : SumS ps qs a ts) : a = 0 ∨ a = 2 ∨ a = 4 ∨ a = 8 := by
  rcases h with ⟨_, _, _, _, ⟨rfl, _⟩ | ⟨rfl, _⟩ | ⟨rfl, _⟩⟩ | ⟨_, rfl, _⟩ <;> decide
/-- what holds where Sum succeeds -/
theorem sumS_ok {ps qs ts : List Pt} (h : SumS ps qs 0 ts) : validB ps = true ∧ validB qs = true ∧ validB ts = true ∧ ∃ ds, Sorted ps qs ds ∧ ts = sumP ps qs ds := by
  rcases h with ⟨h1, h2, ds, hs, ⟨_, rfl, hf, hl⟩ | ⟨e, _⟩ | ⟨e, _⟩⟩ | ⟨_, e, _⟩
  · exact ⟨h1, h2, around_valid (sum_around (valid_around h1) (valid_around h2) hs) hl hf, ds, hs, rfl⟩
  · exact absurd e (by decide)
  · exact absurd e (by decide)
  · exact absurd e (by decide)
theorem sumS_assoc {ps qs rs ss us vs ws : List Pt} (h1 : SumS ps qs 0 ss) (h2 : SumS qs rs 0 us) (h3 : SumS ss rs 0 vs) (h4 : SumS ps us 0 ws) : vs = ws := by
  obtain ⟨a1, a2, a3, ds, hd, rfl⟩ := sumS_ok h1
  obtain ⟨_, b2, b3, es, he, rfl⟩ := sumS_ok h2
  obtain ⟨_, _, _, fs, hf, rfl⟩ := sumS_ok h3
  obtain ⟨_, _, _, gs, hg, rfl⟩ := sumS_ok h4
  exact sum_assoc (merged_of a1 a2 hd) (merged_of a2 b2 he) (merged_of a3 b2 hf) (merged_of a1 b3 hg)
theorem sumS_area {ps qs ts : List Pt} (h : SumS ps qs 0 ts) : areaZ ts = areaZ ps + areaZ qs + mixZ ps qs := by
  obtain ⟨a1, a2, _, ds, hd, rfl⟩ := sumS_ok h
  exact mixed_eq (merged_of a1 a2 hd)
theorem sumS_ext {ps qs ts : List Pt} (h : SumS ps qs 0 ts) {d : Pt} (hd : d ≠ (0, 0)) : (extK ts d ts.length).1 = (extK ps d ps.length).1 + (extK qs d qs.length).1 := by
  obtain ⟨a1, a2, a3, ds, hs, rfl⟩ := sumS_ok h
  exact ext_sum (merged_of a1 a2 hs) (valid_around a3).rolls hd
theorem mix_sum {ps qs ds : List Pt} (h1 : validB ps = true) (h2 : validB qs = true) (h : Sorted ps qs ds) : boxP 2000 (sumP ps qs ds) ∧ (sumP ps qs ds).length ≤ 64 ∧ areaZ (sumP ps qs ds) - areaZ ps - areaZ qs = mixZ ps qs := by
  have n1 := valid_near h1
  have n2 := valid_near h2
  have l := sum_len h
  have e := mixed_eq (merged_of h1 h2 h)
  exact ⟨sum_box (merged_of h1 h2 h) n1.1 n2.1, by omega, by omega⟩
theorem mix_bd {ps qs : List Pt} (h1 : validB ps = true) (h2 : validB qs = true) : 0 ≤ areaZ ps ∧ areaZ ps ≤ 128000000 ∧ 0 ≤ areaZ qs ∧ areaZ qs ≤ 128000000 ∧ 0 ≤ mixZ ps qs ∧ 4 * areaZ ps * areaZ qs ≤ mixZ ps qs * mixZ ps qs := by
  have n1 := valid_near h1
  have n2 := valid_near h2
  have a1 := area_near n1.1 n1.2.2
  have a2 := area_near n2.1 n2.2.2
  have m := minkowski (valid_around h1) (valid_around h2)
  exact ⟨(valid_around h1).area, a1.2, (valid_around h2).area, a2.2, m.1, m.2⟩
theorem box_wide {ps : List Pt} (h : boxP 2000 ps) : wideP ps := fun q hq => by have := h q hq; omega
def mixR (ps qs : List Pt) : Ending := if validB ps = true ∧ validB qs = true then two (.int .i64 (mixZ ps qs)) (.int .i64 0) else two (.int .i64 0) (.int .i64 2)
theorem mixR_comm (ps qs : List Pt) : mixR qs ps = mixR ps qs := by
  unfold mixR
  rw [mixZ_comm qs ps]
  by_cases h : validB ps = true ∧ validB qs = true
  · rw [if_pos h, if_pos h.symm]
  · rw [if_neg h, if_neg (fun k => h k.symm)]
set_option maxRecDepth 100000 in
set_option maxHeartbeats 1000000 in
theorem Mixed_c (u v : Value) (ps qs : List Pt) (w : World) (hu : Vecs w u ps) (hv : Vecs w v qs) :
    Calls Try.prog 30 #[u, v] w fun e w' => e = mixR ps qs ∧ Ext w w' := by
  obtain ⟨a, cap, rfl, hl, hm, _⟩ := hu.at
  obtain ⟨a2, cap2, rfl, hl2, hm2, _⟩ := hv.at
  have HU := Lib.hid hu
  have HV := Lib.hid hv
  clear hu hv
  cases h1 : validB ps with
  | false =>
    have HR := Lib.hid (show mixR ps qs = two (.int .i64 0) (.int .i64 2) by simp [mixR, h1])
    generalize mixR ps qs = R at *
    have H1 := Lib.hid h1
    clear h1
    go_enter Try.func30, Try.ntmps30
    go_wp2_with fail
    refine (valid_c _ ps _ HU.out).mono ?_
    rintro e w2 ⟨rfl, hE⟩
    rw [H1.out]
    go_wp2
    go_ret2
    exact ⟨HR.out.symm, hE⟩
  | true =>
    cases h2 : validB qs with
    | false =>
      have HR := Lib.hid (show mixR ps qs = two (.int .i64 0) (.int .i64 2) by simp [mixR, h2])
      generalize mixR ps qs = R at *
      have H1 := Lib.hid h1
      have H2 := Lib.hid h2
      clear h1 h2
      go_enter Try.func30, Try.ntmps30
      go_wp2_with fail
      refine (valid_c _ ps _ HU.out).mono ?_
      rintro e w2 ⟨rfl, hE⟩
      rw [H1.out]
      have HE := Lib.hid hE
      clear hE
      go_wp2_with fail
      refine (valid_c _ qs _ (HV.out.ext HE.out)).mono ?_
      rintro e w3 ⟨rfl, hE3⟩
      rw [H2.out]
      go_wp2
      go_ret2
      exact ⟨HR.out.symm, Ext.trans HE.out hE3⟩
    | true =>
      have HR := Lib.hid (show mixR ps qs = two (.int .i64 (mixZ ps qs)) (.int .i64 0) by simp [mixR, h1, h2])
      generalize mixR ps qs = R at *
      have H1 := Lib.hid h1
      have H2 := Lib.hid h2
      have HB := Lib.hid (mix_bd h1 h2)
      clear h1 h2
      go_enter Try.func30, Try.ntmps30
      go_wp2_with fail
      refine (valid_c _ ps _ HU.out).mono ?_
      rintro e w2 ⟨rfl, hE⟩
      rw [H1.out]
      have HE := Lib.hid hE
      clear hE
      go_wp2_with fail
      refine (valid_c _ qs _ (HV.out.ext HE.out)).mono ?_
      rintro e w3 ⟨rfl, hE3⟩
      rw [H2.out]
      have HE3 := Lib.hid (Ext.trans HE.out hE3)
      clear hE3
      go_wp2_with fail
      refine (sum_c sort_c _ _ ps qs w3 (HU.out.ext HE3.out) (HV.out.ext HE3.out) H1.out H2.out).mono ?_
      rintro e w4 ⟨r, ds, rfl, hp, hs, hr, hE4⟩
      have HP := Lib.hid (mix_sum H1.out H2.out (show Sorted ps qs ds from ⟨hp, hs⟩))
      have hr' : Vecs w4 r (sumP ps qs ds) := hr
      obtain ⟨a3, cap3, rfl, _, _, _⟩ := hr'.at
      have HRR := Lib.hid hr'
      have HE4 := Lib.hid (Ext.trans HE3.out hE4)
      clear hp hs hr hr' hE4
      generalize sumP ps qs ds = ss at *
      go_wp2_with fail
      refine (area_c _ ss w4 HRR.out (box_wide HP.out.1) (by have := HP.out.2.1; omega)).mono ?_
      rintro e w5 ⟨rfl, hE5⟩
      have HE5 := Lib.hid (Ext.trans HE4.out hE5)
      clear hE5
      go_wp2_with fail
      refine (area_c _ ps w5 (HU.out.ext HE5.out) (valid_wide H1.out) (by have := (valid_near H1.out).2.2; omega)).mono ?_
      rintro e w6 ⟨rfl, hE6⟩
      have HE6 := Lib.hid (Ext.trans HE5.out hE6)
      clear hE6
      go_wp2_with fail
      refine (area_c _ qs w6 (HV.out.ext HE6.out) (valid_wide H2.out) (by have := (valid_near H2.out).2.2; omega)).mono ?_
      rintro e w7 ⟨rfl, hE7⟩
      have b1 := HB.out
      have b2 := HP.out.2.2
      have b3 := area_far HP.out.1 HP.out.2.1
      have HE7 := Lib.hid (Ext.trans HE6.out hE7)
      clear hE7
      have w1 : wrap64 (areaZ ss - areaZ ps) = areaZ ss - areaZ ps := by unfold wrap64; omega
      have w2 : wrap64 (areaZ ss - areaZ ps - areaZ qs) = mixZ ps qs := by rw [b2]; unfold wrap64; omega
      clear b1 b2 b3
      generalize areaZ ss = A at *
      generalize areaZ ps = B at *
      generalize areaZ qs = C at *
      generalize mixZ ps qs = M at *
      go_wp2
      go_ret2
      exact ⟨by rw [HR.out, ← w2]; rfl, HE7.out⟩
end Go.Proofs.Ytbdppephmlkbaaa

namespace Go.Proofs.Ytbdppephmlkbaaa
set_option maxRecDepth 100000
open Go.RowKit Go.Shelf
attribute [local go_sem] Oper.semAt_some
theorem grow0_c (w : World) : Calls Try.prog 87 #[.slice none 0 0, .int .i64 0] w fun e w' => e = .returned (.slice none 0 0) ∧ w = w' := by
  go_enter Try.func87, Try.ntmps87
  go_wp2
  all_goals go_ret
  all_goals exact ⟨rfl, rfl⟩
set_option maxRecDepth 100000 in
set_option maxHeartbeats 2000000 in
theorem concat0_c (B b1 o1 c1 b2 o2 c2 : Nat) (w : World) (hB : VRow w B 22 [.slice (some ⟨b1, o1, none⟩) 0 c1, .slice (some ⟨b2, o2, none⟩) 0 c2]) :
    Calls Try.prog 65 #[.slice (some ⟨B, 0, none⟩) 2 2] w fun e w' => ∃ v, e = .returned v ∧ w'.ownsRow w.heap.size 32 2 v 0 [] ∧ Ext w w' := by
  have HB := Lib.hid hB
  have hBl := VRow.lt hB
  clear hB
  go_enter Try.func65, Try.ntmps65
  go_wp2_with fail
  go_loopw [11, 3] (fun i s wr => wr = w ∧ s = .int .i64 0 ∧ ∃ k : Nat, k ≤ 2 ∧ i = .int .i64 k) (fun i _ _ => 2 - (intOf i).toNat)
  case atStart => exact ⟨rfl, rfl, 0, by omega, rfl⟩
  case round =>
    obtain ⟨hww, rfl, k, hk, rfl⟩ := hrel
    have hww := hww.symm
    subst hww
    by_cases h2 : k = 2
    · subst h2
      go_wp2_with fail
      refine (grow0_c w).mono ?_
      rintro e w2 ⟨rfl, rfl⟩
      obtain ⟨i0, hi, hz0, hz1, hz2⟩ := info_parts info31
      have HI := Lib.hid hi
      have HZ0 := Lib.hid hz0
      have HZ1 := Lib.hid hz1
      have HZ2 := Lib.hid hz2
      clear hi hz0 hz1 hz2
      go_wp2_with fail
      go_loopw [27, 6] (fun i s w3 => Ext w w3 ∧ w3.ownsRow w.heap.size 32 2 s 0 [] ∧ ∃ k : Nat, k ≤ 2 ∧ i = .int .i64 k) (fun i _ _ => 2 - (intOf i).toNat)
      case atStart => exact ⟨Ext.refl _, World.ownsRow_nil _ _ _ _, 0, by omega, rfl⟩
      case round =>
        obtain ⟨hE3, hO3, k, hk, rfl⟩ := hrel
        have HE3 := Lib.hid hE3
        have HO3 := Lib.hid hO3
        clear hE3 hO3
        by_cases h0 : k = 0
        · subst h0
          have q0 := VRow.cell (VRow.ext HB.out HE3.out) (k := 0) rfl
          have hlt := VRow.lt (VRow.ext HB.out HE3.out)
          go_wp2_with (at_builtin; refine wpList_append_own _ rfl _ _ 22 rfl w.heap.size 32 i0 (.agg #[.int .i64 0, .int .i64 0]) 2 16 Try.underlying22 HI.out HZ0.out HZ1.out HZ2.out rfl (by decide) _ _ _ rfl HO3.out ⟨b1, o1, none⟩ 0 c1 [] rfl rfl (fun j u h => by simp at h) (fun u h => by simp at h) (by unfold maxLen; omega) (by omega) HE3.out.size ?_; intro v' w' hown' hgrow hnil; have HO4 := Lib.hid hown'; have HG4 := Lib.hid hgrow; clear hown' hgrow hnil)
          refine ⟨⟨Below.grown HE3.out HG4.out HE3.out.size (fun j e => own_block HO3.out e), HO4.out, 1, by omega, by simp⟩, by simp [intOf]⟩
        · by_cases h1 : k = 1
          · subst h1
            have q0 := VRow.cell (VRow.ext HB.out HE3.out) (k := 1) rfl
            have hlt := VRow.lt (VRow.ext HB.out HE3.out)
            go_wp2_with (at_builtin; refine wpList_append_own _ rfl _ _ 22 rfl w.heap.size 32 i0 (.agg #[.int .i64 0, .int .i64 0]) 2 16 Try.underlying22 HI.out HZ0.out HZ1.out HZ2.out rfl (by decide) _ _ _ rfl HO3.out ⟨b2, o2, none⟩ 0 c2 [] rfl rfl (fun j u h => by simp at h) (fun u h => by simp at h) (by unfold maxLen; omega) (by omega) HE3.out.size ?_; intro v' w' hown' hgrow hnil; have HO4 := Lib.hid hown'; have HG4 := Lib.hid hgrow; clear hown' hgrow hnil)
            refine ⟨⟨Below.grown HE3.out HG4.out HE3.out.size (fun j e => own_block HO3.out e), HO4.out, 2, by omega, by simp⟩, by simp [intOf]⟩
          · obtain rfl : k = 2 := by omega
            go_wp2_with fail
            go_ret
            exact ⟨_, rfl, HO3.out, HE3.out⟩
    · by_cases h0 : k = 0
      · subst h0
        have q0 := VRow.cell HB.out (k := 0) rfl
        go_wp2
        exact ⟨⟨trivial, rfl, 1, by omega, by simp⟩, by simp [intOf]⟩
      · obtain rfl : k = 1 := by omega
        have q1 := VRow.cell HB.out (k := 1) rfl
        go_wp2
        exact ⟨⟨trivial, rfl, 2, by omega, by simp⟩, by simp [intOf]⟩
theorem concat_any (B b1 o1 c1 b2 o2 c2 : Nat) (ps qs : List Pt) (w : World) (hB : VRow w B 22 [.slice (some ⟨b1, o1, none⟩) ps.length c1, .slice (some ⟨b2, o2, none⟩) qs.length c2]) (h1 : PtsAt w b1 o1 ps) (h2 : PtsAt w b2 o2 qs)
    (hm1 : ps.length ≤ 1000) (hm2 : qs.length ≤ 1000) :
    Calls Try.prog 65 #[.slice (some ⟨B, 0, none⟩) 2 2] w fun e w' => ∃ v, e = .returned v ∧ w'.ownsRow w.heap.size 32 2 v (ps.length + qs.length) (cellsOf (ps ++ qs)) ∧ Ext w w' := by
  by_cases h0 : 0 < ps.length + qs.length
  · exact concat_c B b1 o1 c1 b2 o2 c2 ps qs w hB h1 h2 h0 hm1 hm2
  · obtain rfl : ps = [] := List.length_eq_zero_iff.1 (by omega)
    obtain rfl : qs = [] := List.length_eq_zero_iff.1 (by omega)
    exact concat0_c B b1 o1 c1 b2 o2 c2 w hB
theorem own_held {W W' : World} {base n g : Nat} {v : Value} {xs : List Value} (h : W.ownsRow base 32 2 v n xs) (hH : Held (fun j => j < W.heap.size ∧ j ≠ g) W W') (hg : v.ownBlock ≠ some g) : W'.ownsRow base 32 2 v n xs := by
  refine ⟨h.1, ?_⟩
  rcases h.2 with h | ⟨b, cap, cur, hv, hb, hc, r⟩
  · exact .inl h
  · refine .inr ⟨b, cap, cur, hv, hb, (hH.block b ⟨(Array.getElem?_eq_some_iff.1 hc).1, fun e => hg ?_⟩).trans hc, r⟩
    rw [hv, e]; rfl
theorem bendS_pos {s : List Pt} (h : s ≠ []) : 0 < (bendS s).length := by
  rw [← List.dropLast_concat_getLast h, bendS_snoc]
  simp
set_option maxRecDepth 100000 in
set_option maxHeartbeats 4000000 in
theorem hull_o (v : Value) (ps : List Pt) (w : World) (hv : Vecs w v ps) (hw : nearP ps) (hn : ps.length ≤ 200) :
    Calls Try.prog 40 #[v] w fun e w' => ∃ r s, e = .returned r ∧ s.Perm ps ∧ s.Pairwise leP ∧ w'.ownsRow w.heap.size 32 2 r (hullP s).length (cellsOf (hullP s)) ∧ Ext w w' := by
  by_cases h0 : ps.length = 0
  · obtain ⟨a, cap, rfl, hl, hm, _⟩ := hv.at
    have e0 : ps = [] := List.length_eq_zero_iff.1 h0
    subst e0
    clear hv hw
    go_enter Try.func40, Try.ntmps40
    go_wp2
    go_ret
    exact ⟨_, [], rfl, List.Perm.refl _, List.Pairwise.nil, ⟨rfl, .inl ⟨rfl, rfl⟩⟩, Ext.refl _⟩
  · obtain ⟨b, o, cap, rfl, hl, hm, hp⟩ := vecs_some hv (by omega)
    have HP := Lib.hid hp
    have HW := Lib.hid hw
    clear hv hp hw
    go_enter Try.func40, Try.ntmps40
    go_wp2_with fail
    refine (clone_c b o cap ps w HP.out (by omega) (by omega)).mono ?_
    rintro e w2 ⟨cv, rfl, hO, hE2⟩
    obtain ⟨g, cg, rfl, hg1, hg2, hcg, hcg2⟩ := own_form hO (by omega)
    have hsort := sortH_c g cg _ _ ps w2 hO rfl (fun _ _ => trivial) (by omega)
    have HE2 := Lib.hid hE2
    clear hO hE2
    go_wp2_with fail
    refine hsort.mono ?_
    rintro e w3 ⟨rfl, s, hperm, hpw, hO3, hH3⟩
    have HE3 := Lib.hid (held_ext hH3 HE2.out hg1)
    have hsl : s.length = ps.length := hperm.length_eq
    have HV3 := Lib.hid (show Vecs w3 (.slice (some ⟨g, 0, none⟩) ps.length cg) s from vecs_own (base := w.heap.size) (by rw [hsl]; exact hO3) (by omega))
    have HWS := Lib.hid (show wideP s from fun q hq => by have := HW.out q (hperm.mem_iff.1 hq); omega)
    have HWR := Lib.hid (show wideP s.reverse from fun q hq => HWS.out q (List.mem_reverse.1 hq))
    have HPM := Lib.hid hperm
    have HPW := Lib.hid (show s.Pairwise leP from hpw)
    have HO3 := Lib.hid hO3
    have hs0 : s ≠ [] := fun e => h0 (by rw [← hsl, e]; rfl)
    have hb1 := bendS_pos hs0
    have hb2 := bendS_pos (s := s.reverse) (by simpa using hs0)
    have hg3 : g < w3.heap.size := by
      rcases own_form HO3.out (by omega) with ⟨g', cap', e, h1, h2, _⟩
      injection e with e _ _
      injection e with e
      injection e with e
      omega
    have Hsl := Lib.hid hsl
    have hbl1 := (bendS_mem s s (List.prefix_refl _)).2
    have hbl2 := (bendS_mem s.reverse s.reverse (List.prefix_refl _)).2
    rw [List.length_reverse] at hbl2
    clear hsort hperm hpw hO3 hH3 HW hs0 HP
    go_wp2_with fail
    refine (bend_c _ s w3 HV3.out HWS.out (by omega)).mono ?_
    rintro e w4 ⟨r1, rfl, hO4, hE4⟩
    obtain ⟨g1, c1, rfl, hr1, hr1b, hc1, hc1b⟩ := own_form hO4 hb1
    have HO4 := Lib.hid hO4
    have HE4 := Lib.hid (Ext.trans HE3.out hE4)
    have HO34 := Lib.hid (ownsRow_ext HO3.out hE4)
    clear hO4 hE4
    go_wp2_with fail
    refine (reverse_c g cg _ _ s w4 HO34.out Hsl.out).mono ?_
    rintro e w5 ⟨rfl, hO5, hH5⟩
    have HO1 := Lib.hid (own_held HO4.out hH5 (show (some g1 : Option Nat) ≠ some g from fun e => by injection e with e; omega))
    have HV5 := Lib.hid (show Vecs w5 (.slice (some ⟨g, 0, none⟩) ps.length cg) s.reverse from vecs_own (base := w.heap.size) (by rw [List.length_reverse, hsl]; exact hO5) (by rw [List.length_reverse]; omega))
    have HE5 := Lib.hid (held_ext hH5 HE4.out hg1)
    clear hO5 hH5 HO34 HO4 HO3
    go_wp2_with fail
    refine (bend_c _ s.reverse w5 HV5.out HWR.out (by rw [List.length_reverse]; omega)).mono ?_
    rintro e w6 ⟨r2, rfl, hO6, hE6⟩
    obtain ⟨g2, c2, rfl, hr2, hr2b, hc2, hc2b⟩ := own_form hO6 hb2
    have hE6' := Ext.trans HE5.out hE6
    have HE6 := Lib.hid hE6'
    have HP1 := Lib.hid (own_pts (qs := (bendS s).reverse) (ownsRow_ext HO1.out hE6) (by simp) (by rw [List.length_reverse]; omega))
    have HP2 := Lib.hid (own_pts (qs := (bendS s.reverse).reverse) hO6 (by simp) (by rw [List.length_reverse]; omega))
    have HH := Lib.hid (show hullP s = (bendS s).reverse.take ((bendS s).length - 1) ++ (bendS s.reverse).reverse.take ((bendS s.reverse).length - 1) by
      unfold hullP
      rw [List.dropLast_eq_take, List.dropLast_eq_take, List.length_reverse, List.length_reverse])
    have HL1 := Lib.hid (show ((bendS s).reverse.take ((bendS s).length - 1)).length = (bendS s).length - 1 by rw [List.length_take, List.length_reverse]; omega)
    have HL2 := Lib.hid (show ((bendS s.reverse).reverse.take ((bendS s.reverse).length - 1)).length = (bendS s.reverse).length - 1 by rw [List.length_take, List.length_reverse]; omega)
    clear hO6 hE6 hE6' HO1 HV5 HV3 HE2 HE3 HE4 HE5 HWS HWR
    generalize (bendS s).reverse = A at *
    generalize (bendS s.reverse).reverse = B at *
    generalize hn1 : (bendS s).length = n1 at *
    generalize hn2 : (bendS s.reverse).length = n2 at *
    obtain ⟨m1, hm1⟩ : ∃ m1, m1 = n1 - 1 := ⟨_, rfl⟩
    obtain ⟨m2, hm2⟩ : ∃ m2, m2 = n2 - 1 := ⟨_, rfl⟩
    rw [← hm1, ← hm2] at HH
    rw [← hm1] at HL1
    rw [← hm2] at HL2
    have hc1' : m1 ≤ c1 := by omega
    have hc2' : m2 ≤ c2 := by omega
    have hm1' : m1 ≤ 200 := by omega
    have hm2' : m2 ≤ 200 := by omega
    have HW1 := Lib.hid (show IntKind.i64.wrap ((n1 : Int) - 1) = (m1 : Int) by rw [show (n1 : Int) - 1 = (m1 : Int) by omega]; exact IntWalk.i64_in _ (by omega))
    have HW2 := Lib.hid (show IntKind.i64.wrap ((n2 : Int) - 1) = (m2 : Int) by rw [show (n2 : Int) - 1 = (m2 : Int) by omega]; exact IntWalk.i64_in _ (by omega))
    clear hn1 hn2 hm1 hm2
    go_wp2_with fail
    refine wp_region_stable [⟨[], none⟩, ⟨[], none⟩, ⟨[(1, 20)], none⟩, ⟨[(2, 21)], none⟩, ⟨[(0, 19), (3, 22)], none⟩, ⟨[], none⟩, ⟨[], none⟩, ⟨[(6, 25)], none⟩, ⟨[(7, 26)], none⟩, ⟨[(5, 24), (8, 27)], none⟩, ⟨[(4, 23), (9, 28)], none⟩, ⟨[(10, 29)], none⟩, ⟨[(11, 30)], none⟩] (fun x y => Below x.heap.size x y) (MPat [MP.eq (.slice (some ⟨g1, 0, none⟩) n1 c1), MP.eq (.slice (some ⟨g1, 0, none⟩) n1 c1), MP.eq (.int .i64 n1), MP.eq (.int .i64 m1), MP.eq (.slice (some ⟨g1, 0, none⟩) m1 c1), MP.eq (.slice (some ⟨g2, 0, none⟩) n2 c2), MP.eq (.slice (some ⟨g2, 0, none⟩) n2 c2), MP.eq (.int .i64 n2), MP.eq (.int .i64 m2), MP.eq (.slice (some ⟨g2, 0, none⟩) m2 c2), MP.pair (.slice (some ⟨g1, 0, none⟩) m1 c1) (.slice (some ⟨g2, 0, none⟩) m2 c2), MP.own w6.heap.size (m1 + m2) (cellsOf (A.take m1 ++ B.take m2)), MP.own w6.heap.size (m1 + m2) (cellsOf (A.take m1 ++ B.take m2))]) (by kernel_rfl) (fun _ _ _ h k => Ext.trans h k) (fun _ => Below.refl _ _) (fun x => (Below.refl x.heap.size x).drew) (MPat.mono _) (by kernel_rfl) ?obs ?rest
    case obs =>
      refine ⟨?_, ?_, ?_, ?_, ?_, ?_, ?_, ?_, ?_, ?_, ?_, ?_, ?_, trivial⟩
      · intro ev W hf _ _ hst hd
        have e4 : ev (.tmp 4) = .slice (some ⟨g1, 0, none⟩) n1 c1 := hf 4 (by kernel_rfl)
        refine st_value (v := .slice (some ⟨g1, 0, none⟩) n1 c1) ?_ (Below.refl _ _) ?_
        · simp [execOp, go_sem, e4]
        · exact rfl
      · intro ev W hf _ _ hst hd
        have e4 : ev (.tmp 4) = .slice (some ⟨g1, 0, none⟩) n1 c1 := hf 4 (by kernel_rfl)
        refine st_value (v := .slice (some ⟨g1, 0, none⟩) n1 c1) ?_ (Below.refl _ _) ?_
        · simp [execOp, go_sem, e4]
        · exact rfl
      · intro ev W hf _ _ hst hd
        obtain ⟨d20, _⟩ := hd
        have e20 : ev (.tmp 20) = .slice (some ⟨g1, 0, none⟩) n1 c1 := d20
        refine st_value (v := .int .i64 n1) ?_ (Below.refl _ _) ?_
        · simp [go_sem, e20]
        · exact rfl
      · intro ev W hf hcst _ hst hd
        obtain ⟨d21, _⟩ := hd
        have e21 : ev (.tmp 21) = .int .i64 n1 := d21
        refine st_value (v := .int .i64 m1) ?_ (Below.refl _ _) ?_
        · simp [execOp, go_sem, e21, hcst, HW1.out]
        · exact rfl
      · intro ev W hf _ _ hst hd
        obtain ⟨d19, d22, _⟩ := hd
        have e19 : ev (.tmp 19) = .slice (some ⟨g1, 0, none⟩) n1 c1 := d19
        have e22 : ev (.tmp 22) = .int .i64 m1 := d22
        refine st_value (v := .slice (some ⟨g1, 0, none⟩) m1 c1) ?_ (Below.refl _ _) ?_
        · simp [execOp, go_sem, e19, e22, hc1']
        · exact rfl
      · intro ev W hf _ _ hst hd
        have e5 : ev (.tmp 5) = .slice (some ⟨g2, 0, none⟩) n2 c2 := hf 5 (by kernel_rfl)
        refine st_value (v := .slice (some ⟨g2, 0, none⟩) n2 c2) ?_ (Below.refl _ _) ?_
        · simp [execOp, go_sem, e5]
        · exact rfl
      · intro ev W hf _ _ hst hd
        have e5 : ev (.tmp 5) = .slice (some ⟨g2, 0, none⟩) n2 c2 := hf 5 (by kernel_rfl)
        refine st_value (v := .slice (some ⟨g2, 0, none⟩) n2 c2) ?_ (Below.refl _ _) ?_
        · simp [execOp, go_sem, e5]
        · exact rfl
      · intro ev W hf _ _ hst hd
        obtain ⟨d25, _⟩ := hd
        have e25 : ev (.tmp 25) = .slice (some ⟨g2, 0, none⟩) n2 c2 := d25
        refine st_value (v := .int .i64 n2) ?_ (Below.refl _ _) ?_
        · simp [go_sem, e25]
        · exact rfl
      · intro ev W hf hcst _ hst hd
        obtain ⟨d26, _⟩ := hd
        have e26 : ev (.tmp 26) = .int .i64 n2 := d26
        refine st_value (v := .int .i64 m2) ?_ (Below.refl _ _) ?_
        · simp [execOp, go_sem, e26, hcst, HW2.out]
        · exact rfl
      · intro ev W hf _ _ hst hd
        obtain ⟨d24, d27, _⟩ := hd
        have e24 : ev (.tmp 24) = .slice (some ⟨g2, 0, none⟩) n2 c2 := d24
        have e27 : ev (.tmp 27) = .int .i64 m2 := d27
        refine st_value (v := .slice (some ⟨g2, 0, none⟩) m2 c2) ?_ (Below.refl _ _) ?_
        · simp [execOp, go_sem, e24, e27, hc2']
        · exact rfl
      · intro ev W hf _ hfn hst hd
        obtain ⟨d23, d28, _⟩ := hd
        have e23 : ev (.tmp 23) = .slice (some ⟨g1, 0, none⟩) m1 c1 := d23
        have e28 : ev (.tmp 28) = .slice (some ⟨g2, 0, none⟩) m2 c2 := d28
        refine st_new (v := .slice (some ⟨W.heap.size, 0, none⟩) 2 2) (o := .cells #[.slice (some ⟨g1, 0, none⟩) m1 c1, .slice (some ⟨g2, 0, none⟩) m2 c2] 22) ?_ ?_
        · simp [execOp, go_sem, e23, e28]
        · exact ⟨_, rfl, vrow_alloc W [.slice (some ⟨g1, 0, none⟩) m1 c1, .slice (some ⟨g2, 0, none⟩) m2 c2] 22⟩
      · intro ev W hf _ hfn hst hd
        obtain ⟨d29, _⟩ := hd
        obtain ⟨rB, eB, hB⟩ := d29
        have e29 : ev (.tmp 29) = .slice (some ⟨rB, 0, none⟩) 2 2 := eB
        refine st_enter (f := 65) (args := #[.slice (some ⟨rB, 0, none⟩) 2 2]) (by simp [execOp, go_sem, hfn, e29]) ?_
        have h1 := concat_any rB g1 0 c1 g2 0 c2 (A.take m1) (B.take m2) W (by rw [HL1.out, HL2.out]; exact hB) (pts_take (PtsAt.ext HP1.out hst)) (pts_take (PtsAt.ext HP2.out hst)) (by rw [HL1.out]; omega) (by rw [HL2.out]; omega)
        rw [HL1.out, HL2.out] at h1
        refine h1.mono ?_
        rintro e w' ⟨v, rfl, hO, hE⟩
        exact ⟨v, rfl, hE, ownsRow_base hO hst.size⟩
      · intro ev W hf _ hfn hst hd
        obtain ⟨d30, _⟩ := hd
        clear hfn
        exact st_value (v := ev (.tmp 30)) (by simp [execOp, go_sem]) (Below.refl _ _) d30
    case rest =>
      intro vs w7 hl hst hg
      have hx0 : ∀ u, vs[0]? = some u → u = .slice (some ⟨g1, 0, none⟩) n1 c1 := fun u hu => hg 0 u hu
      have hx1 : ∀ u, vs[1]? = some u → u = .slice (some ⟨g1, 0, none⟩) n1 c1 := fun u hu => hg 1 u hu
      have hx2 : ∀ u, vs[2]? = some u → u = .int .i64 n1 := fun u hu => hg 2 u hu
      have hx3 : ∀ u, vs[3]? = some u → u = .int .i64 m1 := fun u hu => hg 3 u hu
      have hx4 : ∀ u, vs[4]? = some u → u = .slice (some ⟨g1, 0, none⟩) m1 c1 := fun u hu => hg 4 u hu
      have hx5 : ∀ u, vs[5]? = some u → u = .slice (some ⟨g2, 0, none⟩) n2 c2 := fun u hu => hg 5 u hu
      have hx6 : ∀ u, vs[6]? = some u → u = .slice (some ⟨g2, 0, none⟩) n2 c2 := fun u hu => hg 6 u hu
      have hx7 : ∀ u, vs[7]? = some u → u = .int .i64 n2 := fun u hu => hg 7 u hu
      have hx8 : ∀ u, vs[8]? = some u → u = .int .i64 m2 := fun u hu => hg 8 u hu
      have hx9 : ∀ u, vs[9]? = some u → u = .slice (some ⟨g2, 0, none⟩) m2 c2 := fun u hu => hg 9 u hu
      have hx10 : ∀ u, vs[10]? = some u → MP.p (MP.pair (.slice (some ⟨g1, 0, none⟩) m1 c1) (.slice (some ⟨g2, 0, none⟩) m2 c2)) u w7 := fun u hu => hg 10 u hu
      have hx11 : ∀ u, vs[11]? = some u → MP.p (MP.own w6.heap.size (m1 + m2) (cellsOf (A.take m1 ++ B.take m2))) u w7 := fun u hu => hg 11 u hu
      have hx12 : ∀ u, vs[12]? = some u → MP.p (MP.own w6.heap.size (m1 + m2) (cellsOf (A.take m1 ++ B.take m2))) u w7 := fun u hu => hg 12 u hu
      have HE3 := Lib.hid hst
      clear hg hst
      obtain ⟨x0, vs0, rfl, hl0⟩ := len_succ hl
      obtain ⟨x1, vs1, rfl, hl1⟩ := len_succ hl0
      obtain ⟨x2, vs2, rfl, hl2⟩ := len_succ hl1
      obtain ⟨x3, vs3, rfl, hl3⟩ := len_succ hl2
      obtain ⟨x4, vs4, rfl, hl4⟩ := len_succ hl3
      obtain ⟨x5, vs5, rfl, hl5⟩ := len_succ hl4
      obtain ⟨x6, vs6, rfl, hl6⟩ := len_succ hl5
      obtain ⟨x7, vs7, rfl, hl7⟩ := len_succ hl6
      obtain ⟨x8, vs8, rfl, hl8⟩ := len_succ hl7
      obtain ⟨x9, vs9, rfl, hl9⟩ := len_succ hl8
      obtain ⟨x10, vs10, rfl, hl10⟩ := len_succ hl9
      obtain ⟨x11, vs11, rfl, hl11⟩ := len_succ hl10
      obtain ⟨x12, vs12, rfl, hl12⟩ := len_succ hl11
      have hnil : vs12 = [] := List.length_eq_zero_iff.1 hl12
      subst hnil
      obtain rfl : x0 = .slice (some ⟨g1, 0, none⟩) n1 c1 := hx0 _ rfl
      obtain rfl : x1 = .slice (some ⟨g1, 0, none⟩) n1 c1 := hx1 _ rfl
      obtain rfl : x2 = .int .i64 n1 := hx2 _ rfl
      obtain rfl : x3 = .int .i64 m1 := hx3 _ rfl
      obtain rfl : x4 = .slice (some ⟨g1, 0, none⟩) m1 c1 := hx4 _ rfl
      obtain rfl : x5 = .slice (some ⟨g2, 0, none⟩) n2 c2 := hx5 _ rfl
      obtain rfl : x6 = .slice (some ⟨g2, 0, none⟩) n2 c2 := hx6 _ rfl
      obtain rfl : x7 = .int .i64 n2 := hx7 _ rfl
      obtain rfl : x8 = .int .i64 m2 := hx8 _ rfl
      obtain rfl : x9 = .slice (some ⟨g2, 0, none⟩) m2 c2 := hx9 _ rfl
      replace hx10 := hx10 _ rfl
      replace hx11 := hx11 _ rfl
      replace hx12 := hx12 _ rfl
      clear hx0 hx1 hx2 hx3 hx4 hx5 hx6 hx7 hx8 hx9
      simp only [putAll, Act.put, List.setIfInBounds_toArray, List.set_cons_zero, List.set_cons_succ]
      have hown := hx12
      have HO := Lib.hid (show w7.ownsRow w6.heap.size 32 2 x12 (m1 + m2) (cellsOf (A.take m1 ++ B.take m2)) from hown)
      clear hx10 hx11 hx12 hown
      go_wp2_with fail
      go_ret
      refine ⟨x12, s, rfl, HPM.out, HPW.out, ?_, Ext.trans HE6.out HE3.out⟩
      rw [HH.out]
      have hl : (A.take m1 ++ B.take m2).length = m1 + m2 := by rw [List.length_append, HL1.out, HL2.out]
      exact ownsRow_base (by rw [hl]; exact HO.out) HE6.out.size
theorem hull_len {s : List Pt} : (hullP s).length ≤ 2 * s.length := by
  have h1 := (bendS_mem s s (List.prefix_refl _)).2
  have h2 := (bendS_mem s.reverse s.reverse (List.prefix_refl _)).2
  rw [List.length_reverse] at h2
  unfold hullP
  simp only [List.length_append, List.length_dropLast, List.length_reverse]
  omega
theorem hull_c (v : Value) (ps : List Pt) (w : World) (hv : Vecs w v ps) (hw : nearP ps) (hn : ps.length ≤ 200) :
    Calls Try.prog 40 #[v] w fun e w' => ∃ r s, e = .returned r ∧ s.Perm ps ∧ s.Pairwise leP ∧ Vecs w' r (hullP s) ∧ Ext w w' := by
  refine (hull_o v ps w hv hw hn).mono ?_
  rintro e w' ⟨r, s, rfl, hp, hs, ho, hE⟩
  exact ⟨r, s, rfl, hp, hs, vecs_own ho (by have := hull_len (s := s); have := hp.length_eq; omega), hE⟩
end Go.Proofs.Ytbdppephmlkbaaa

namespace Go.Proofs.Ytbdppephmlkbaaa
/-- the lowest vertices of two polygons, one spanned by vertices of the other one and all around them, are the same -/
theorem first_one {ps qs : List Pt} (hp : Around ps) (hq : Around qs) (mem : ∀ i, i < ps.length → fromP ps i ∈ qs) (sup : ∀ i, i < ps.length → ∀ z ∈ qs, 0 ≤ triP (fromP ps i) (toP ps i) z) :
    fromP ps 0 = fromP qs 0 := by
  have n1 := hp.three
  have n2 := hq.three
  obtain ⟨j, hj, e⟩ := mem_from (mem 0 (by omega))
  rcases Nat.eq_zero_or_pos j with rfl | hj0
  · exact e.symm
  · exfalso
    have hl : lowP (fromP qs 0) (fromP ps 0) := by rw [← e]; exact hq.lowest hj0 hj
    have hz : fromP qs 0 ∈ qs := from_mem (by omega)
    obtain ⟨u, u1, u2, hs, _⟩ := hp.top
    have s1 := sup 0 (by omega) _ hz
    have s2 := sup (ps.length - 1) (by omega) _ hz
    rw [tri_side] at s1
    have pt : toP ps (ps.length - 1) = fromP ps 0 := hp.last
    rw [tri_move, pt] at s2
    have t := hp.turn 0 (by omega)
    rw [show prevI ps.length 0 = ps.length - 1 from rfl] at t
    have b0 : sinksB (stepP ps 0).1 (stepP ps 0).2 = false := by
      cases h : sinksB (stepP ps 0).1 (stepP ps 0).2 with
      | false => rfl
      | true => have := (hs 0 (by omega)).1 h; omega
    have a1 := (hs (ps.length - 1) (by omega)).2 (by omega)
    refine low_out (b := stepP ps 0) (a := stepP ps (ps.length - 1)) (v := ((fromP qs 0).1 - (fromP ps 0).1, (fromP qs 0).2 - (fromP ps 0).2)) (hp.ne0 (by omega)) (hp.ne0 (by omega)) (fun h => ?_) b0 a1 (down_sink hl) t s1 ?_
    · have h1 := congrArg Prod.fst h
      have h2 := congrArg Prod.snd h
      simp only at h1 h2
      unfold lowP at hl
      omega
    · show 0 ≤ crossZ ((toP ps (ps.length - 1)).1 - (fromP ps (ps.length - 1)).1) ((toP ps (ps.length - 1)).2 - (fromP ps (ps.length - 1)).2) _ _
      rw [pt]
      exact s2
/-- a polygon spanned by vertices of another one and all around them is that one -/
theorem around_one {ps qs : List Pt} (hp : Around ps) (hq : Around qs) (mem : ∀ i, i < ps.length → fromP ps i ∈ qs) (sup : ∀ i, i < ps.length → ∀ z ∈ qs, 0 ≤ triP (fromP ps i) (toP ps i) z) : ps = qs := by
  have n1 := hp.three
  have n2 := hq.three
  have e0 := first_one hp hq mem sup
  have on : ∀ i, i < ps.length → i < qs.length → fromP ps i = fromP qs i → toP ps i = toP qs i := fun i hi hm he => by
    have hi1 : (i + 1) % ps.length < ps.length := Nat.mod_lt _ (by omega)
    obtain ⟨j, hj, e⟩ := mem_from (mem _ hi1)
    have hy : toP qs i ∈ qs := from_mem (Nat.mod_lt _ (by omega))
    have s1 := sup i hi _ hy
    have s2 := hq.left hm hj
    rw [← tri_side, e, ← to_from, ← he] at s2
    have sw : triP (fromP ps i) (toP ps i) (toP qs i) = - triP (fromP ps i) (toP qs i) (toP ps i) := by unfold triP; grind
    have hne : j ≠ i := fun h => by
      have : stepP ps i = (0, 0) := by
        unfold stepP
        rw [to_from, ← e, h, ← he]
        simp
      exact hp.ne0 hi this
    by_cases hj1 : j = (i + 1) % qs.length
    · rw [to_from, ← e, hj1]; rfl
    · have := hq.strict_left hm hj hne hj1
      rw [← tri_side, e, ← to_from, ← he] at this
      omega
  have all : ∀ i, i < ps.length → i < qs.length ∧ fromP ps i = fromP qs i := by
    intro i
    induction i with
    | zero => intro h; exact ⟨by omega, e0⟩
    | succ i ih =>
      intro h
      obtain ⟨g, e⟩ := ih (by omega)
      have t := on i (by omega) g e
      rw [hp.nxt h, to_from] at t
      by_cases hq1 : i + 1 < qs.length
      · rw [Nat.mod_eq_of_lt hq1] at t
        exact ⟨hq1, t⟩
      · rw [show i + 1 = qs.length by omega, Nat.mod_self, ← e0] at t
        have := hp.lowest (j := qs.length) (by omega) (by omega)
        rw [t] at this
        exact absurd this (low_irrefl _)
  refine list_same ?_ fun j hj => (all j hj).2
  obtain ⟨g, e⟩ := all (ps.length - 1) (by omega)
  have t := on (ps.length - 1) (by omega) g e
  rw [hp.last, to_from, e0] at t
  by_cases h : ps.length - 1 + 1 < qs.length
  · rw [Nat.mod_eq_of_lt h] at t
    have := hq.lowest (j := ps.length - 1 + 1) (by omega) h
    rw [← t] at this
    exact absurd this (low_irrefl _)
  · omega
theorem around_bent {ps : List Pt} (hp : Around ps) : ¬ FlatS (fun z => z ∈ ps) := fun h => by
  have n := hp.three
  have := hp.strict_left (k := 0) (j := 2) (by omega) (by omega) (by omega) (by rw [Nat.mod_eq_of_lt (by omega)]; omega)
  rw [← tri_side, h _ _ _ (from_mem (by omega)) (show toP ps 0 ∈ ps from from_mem (Nat.mod_lt _ (by omega))) (from_mem (by omega))] at this
  exact absurd this (by decide)
/-- only points on one line have a hull of fewer than three vertices -/
theorem hull_flat {s : List Pt} (hs : s.Pairwise leP) (h3 : (hullP s).length < 3) : FlatS (fun z => z ∈ s) := by
  cases hc : s with
  | nil => intro a b c ha; cases ha
  | cons f l =>
    rw [← hc]
    have hne : s.reverse ≠ [] := by rw [hc]; simp
    obtain ⟨t, l', hr⟩ : ∃ t l', s.reverse = t :: l' := by
      cases h : s.reverse with
      | nil => exact absurd h hne
      | cons t l' => exact ⟨t, l', rfl⟩
    have wA : Way s f (bendS s) := by
      have := bend_way (f := f) (l := l) (by rw [← hc]; exact hs)
      rwa [← hc] at this
    have hs' : (s.reverse.map negP).Pairwise leP := by
      rw [List.pairwise_map, List.pairwise_reverse]
      exact hs.imp fun h => leP_neg h
    have wB : Way (s.reverse.map negP) (negP t) ((bendS s.reverse).map negP) := by
      have := bend_way (f := negP t) (l := l'.map negP) (by rw [← List.map_cons, ← hr]; exact hs')
      rwa [← List.map_cons, ← hr, bendS_neg] at this
    have cA := wA.chain
    have cB := wB.chain
    have dA := wA.ends
    have dB := wB.ends
    rw [List.length_map] at dB cB
    rw [← List.map_reverse] at dB cB
    have el : (bendS s.reverse).reverse.length = (bendS s.reverse).length := List.length_reverse
    have eA : (bendS s).reverse.length = (bendS s).length := List.length_reverse
    have inn : ∀ z, z ∈ s → negP z ∈ s.reverse.map negP := fun z hz => List.mem_map.2 ⟨z, List.mem_reverse.2 hz, rfl⟩
    unfold hullP at h3
    generalize (bendS s).reverse = A at *
    generalize (bendS s.reverse).reverse = B at *
    rw [← eA] at dA cA
    rw [← el] at dB cB
    clear eA el
    have hB0 : fromP B 0 = t := by
      have := dB.2.1
      rw [fromP_neg (by omega)] at this
      exact neg_inj this
    have hBl : ∀ z ∈ s, leP (fromP B (B.length - 1)) z := fun z hz => by
      have := leP_neg (dB.2.2 _ (inn z hz))
      rwa [fromP_neg (by omega), neg_neg', neg_neg'] at this
    have hBt : ∀ z ∈ s, leP z t := fun z hz => by
      have := leP_neg (wB.low _ (inn z hz))
      rwa [neg_neg', neg_neg'] at this
    have hfl : ∀ z ∈ s, leP f z := wA.low
    have hft : f = t → FlatS (fun z => z ∈ s) := fun e => by
      have all : ∀ z ∈ s, z = f := fun z hz => leP_anti (by rw [e]; exact hBt z hz) (hfl z hz)
      intro a b c ha hb hc
      rw [all a ha, all b hb, tri_self]
    have tm : t ∈ s := List.mem_reverse.1 (by rw [hr]; exact List.mem_cons_self)
    have fm : f ∈ s := by rw [hc]; exact List.mem_cons_self
    have hA : fromP A (A.length - 1) = t := leP_anti (hBt _ (cA.1.mem _ (by have := dA.1; omega))) (dA.2.2 t tm)
    have hBe : fromP B (B.length - 1) = f := by
      refine leP_anti (hBl f fm) ?_
      have hm := cB.1.mem (B.length - 1) (by have := dB.1; simp; omega)
      rw [fromP_neg (by have := dB.1; omega)] at hm
      obtain ⟨x, hx, e⟩ := List.mem_map.1 hm
      rw [← neg_inj e]
      exact hfl x (List.mem_reverse.1 hx)
    have hlen : (A.length - 1) + (B.length - 1) < 3 := by simpa using h3
    have pA := dA.1
    have pB := dB.1
    by_cases gA : A.length = 1
    · refine hft ?_
      rw [gA] at hA
      rw [← dA.2.1]
      exact hA
    · by_cases gB : B.length = 1
      · refine hft ?_
        rw [gB] at hBe
        rw [← hB0]
        exact hBe.symm
      · have lA : A.length = 2 := by omega
        have lB : B.length = 2 := by omega
        have all : ∀ z ∈ s, triP f t z = 0 := fun z hz => by
          have h1 := cA.1.sup 0 (by omega) z hz
          have h2 := cB.1.sup 0 (by simp; omega) (negP z) (inn z hz)
          rw [fromP_neg (by omega), fromP_neg (by omega), tri_neg] at h2
          rw [lA] at hA
          rw [lB] at hBe
          simp only [Nat.zero_add] at h1 h2
          rw [dA.2.1, show fromP A 1 = t from hA] at h1
          rw [hB0, show fromP B 1 = f from hBe] at h2
          have : triP t f z = - triP f t z := by unfold triP; grind
          omega
        by_cases e : f = t
        · exact hft e
        · intro a b c ha hb hc
          have e1 := all a ha
          have e2 := all b hb
          have e3 := all c hc
          unfold triP at e1 e2 e3 ⊢
          refine flat_dir (r1 := t.1 - f.1) (r2 := t.2 - f.2) (fun h => e (Prod.ext ?_ ?_)) (by grind) (by grind)
          · omega
          · omega
end Go.Proofs.Ytbdppephmlkbaaa
