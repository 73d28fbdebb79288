import Derived.Shelf.SlicesQ.Reverse
import Derived.Shelf.SlLaysE0
import Derived.Ground.SlgnProg
import Derived.Test.YtnoacppfgckohaaS2
import Derived.Test.YtnoacppfgckohaaM3
namespace Go.Proofs.Ytnoacppfgckohaa
open Go.Shelf
def Try.reverseVec_ren : Go.Shelf.Ren := ⟨fun | 35 => 52 | n => n, fun | 22 => 22 | 23 => 31 | 3 => 3 | 4 => 4 | 0 => 0 | n => n, fun | n => n⟩
theorem Try.reverseVec : Go.Proofs.SlLaysE0.n35 Try.prog Try.reverseVec_ren := {
  mixed := by kernel_rfl
  f35 := ⟨Try.f52.name, by decide, Try.func52.trans (congrArg some (by kernel_rfl))⟩
  t0 := Try.underlying0
  a0 := Try.isAgg0
  z0 := Try.sizeOf0
  v0 := Try.zeroValue0
  t3 := Try.underlying3
  a3 := Try.isAgg3
  z3 := Try.sizeOf3
  v3 := Try.zeroValue3
  t4 := Try.underlying4
  a4 := Try.isAgg4
  z4 := Try.sizeOf4
  v4 := Try.zeroValue4
  t22 := Try.underlying22
  a22 := Try.isAgg22
  z22 := Try.sizeOf22
  v22 := Try.zeroValue22 }
open Go.RowKit Go.Sort
def encH (x : Pt) : List Value := [.int .i64 x.1, .int .i64 x.2]
theorem ltOf_H (x y : Pt) : ltOf heightP x y = true ↔ lowP x y := by
  unfold ltOf
  rw [decide_eq_true_eq, low_iff]
theorem ltOf_H' (x y : Pt) : ltOf heightP x y = false ↔ ¬ lowP x y := by
  rw [← ltOf_H, Bool.not_eq_true]
theorem swoH : SWO (ltOf heightP) where
  irrefl x := by rw [ltOf_H']; exact low_irrefl _
  trans x y z h1 h2 := by rw [ltOf_H] at *; exact low_trans h1 h2
  ntrans x y z h1 h2 := by rw [ltOf_H'] at *; unfold lowP at *; omega
theorem cmpH (blk off size : Nat) (w : World) : CmpLays Try.prog 43 #[] encH 2 heightP blk off size w := fun m os dk _ x y => by
  refine (byHeight_g x.1 x.2 y.1 y.2 _).mono ?_
  rintro e w' ⟨rfl, hG⟩
  exact ⟨rfl, hG.grow⟩
theorem flat_cellsH (d : Array Pt) (j : Nat) (hj : j < d.size * 2) : (cellsOf d.toList)[j]? = some ((encH d[j / 2]!)[j % 2]!) := by
  have hk : j / 2 < d.size := by omega
  have hq : d.toList[j / 2]? = some d[j / 2]! := by
    rw [Array.getElem?_toList, Array.getElem?_eq_getElem hk, getElem!_pos d _ hk]
  obtain ⟨h1, h2⟩ := cellsOf_at _ _ _ hq
  rcases Nat.mod_two_eq_zero_or_one j with h | h
  · rw [h, show j = j / 2 * 2 by omega, h1, show j / 2 * 2 / 2 = j / 2 by omega]; rfl
  · rw [h, show j = j / 2 * 2 + 1 by omega, h2, show (j / 2 * 2 + 1) / 2 = j / 2 by omega]; rfl
theorem take_flatH (cur : Array Value) (d : Array Pt) (h : d.size * 2 ≤ cur.size) : (putCells id 0 (flatK encH 2 d) cur).toList.take (d.size * 2) = cellsOf d.toList := by
  apply List.ext_getElem?
  intro j
  by_cases hj : j < d.size * 2
  · rw [List.getElem?_take_of_lt hj, flat_cellsH d j hj, Array.getElem?_toList]
    unfold putCells
    rw [Array.getElem?_mapIdx, Array.getElem?_eq_getElem (show j < cur.size by omega)]
    simp only [Option.map_some, size_flatK, Nat.zero_le, Nat.zero_add, hj, and_self, if_true, Nat.sub_zero, id_eq]
    rw [get_flatK _ _ _ _ hj]
  · rw [List.getElem?_eq_none (by simp; omega), List.getElem?_eq_none (by rw [cellsOf_length]; simp; omega)]
/-- an own row as the sort's contracts ask for it -/
theorem holds_own {W : World} {base g n cap : Nat} {ds : List Pt} (hO : W.ownsRow base 31 2 (.slice (some ⟨g, 0, none⟩) n cap) n (cellsOf ds)) (hn : ds.length = n) :
    ∃ cur, base ≤ g ∧ W.heap[g]? = some (.cells cur 31 (0, 0)) ∧ n ≤ cap ∧ cap ≤ maxLen ∧ cur.size = cap * 2 ∧ HoldsK encH 2 W g 0 ds.toArray := by
  rcases hO.2 with ⟨h0, h1⟩ | ⟨g', cap', cur, hv, hg, hc, hnc, hmx, hsz, htk⟩
  · cases h0
  · injection hv with e1 e2 e3
    injection e1 with e1
    injection e1 with e1 _
    subst e1 e3
    refine ⟨cur, hg, hc, hnc, hmx, hsz, ?_⟩
    intro j hj
    rw [size_flatK] at hj
    rw [Nat.zero_add, get_flatK _ _ _ _ hj]
    have h1 := flat_cellsH ds.toArray j hj
    have hsd : ds.toArray.size = n := by simpa using hn
    rw [← htk, List.getElem?_take_of_lt (by omega), Array.getElem?_toList] at h1
    refine ⟨?_, ?_⟩
    · simp [World.cell?, hc, h1]
    · simp [World.frozen?, hc]
theorem sortH_c : SortC 43 lowP (fun _ => True) := by
  intro g cap base n ds W hO hn hok hm
  obtain ⟨cur, hg, hc, hnc, hmx, hsz, hH⟩ := holds_own hO hn
  obtain ⟨d, hd⟩ : ∃ d : Array Pt, ds.toArray = d := ⟨_, rfl⟩
  rw [hd] at hH
  have hdl : d.toList = ds := by rw [← hd]
  have hds : d.size = n := by rw [← hn, ← hd]; simp
  have hlt := (Array.getElem?_eq_some_iff.1 hc).1
  have hcon := AnyQ.slices_SortFunc Try.sortVec 2 Try.isAgg31 Try.sizeOf31 encH (fun _ => rfl) (fun x v hv => by simp [encH] at hv; rcases hv with rfl | rfl <;> rfl) heightP swoH 43 #[] g 0 cap d W (enters_of Try.func43 (by kernel_rfl) rfl) (cmpH g 0 d.size W) hH hlt (by omega)
  change Calls Try.prog 50 _ _ _ at hcon
  rw [hds] at hcon
  refine hcon.mono ?_
  rintro e w' ⟨rfl, d', m, os, ⟨hp1, _, hp3⟩, hs, rfl⟩
  have hd's : d'.size = n := by rw [hp1, hds]
  refine ⟨rfl, d'.toList, ?_, ?_, ⟨?_, .inr ⟨g, cap, _, rfl, hg, sort_heap encH hc d' os, hnc, hmx, ?_, ?_⟩⟩, sort_held encH d' os⟩
  · have e1 : d'.extract 0 n = d' := by rw [← hd's]; simp
    have e2 : d.extract 0 n = d := by rw [← hds]; simp
    rw [e1, e2] at hp3
    rw [← hdl]
    exact hp3
  · rw [List.pairwise_iff_getElem]
    intro i j hi hj hij
    rw [← ltOf_H']
    have := hs i j (Nat.zero_le _) hij (by simp at hj; omega)
    simp at hi hj
    rwa [getElem!_pos d' i hi, getElem!_pos d' j hj] at this
  · rw [cellsOf_length]; simp [hd's]
  · unfold putCells; simp [hsz]
  · rw [← hd's]; exact take_flatH cur d' (by rw [hd's, hsz]; exact Nat.mul_le_mul_right 2 hnc)
theorem reverse_c (g cap base n : Nat) (ds : List Pt) (W : World) (hO : W.ownsRow base 31 2 (.slice (some ⟨g, 0, none⟩) n cap) n (cellsOf ds)) (hn : ds.length = n) :
    Calls Try.prog 52 #[.slice (some ⟨g, 0, none⟩) n cap] W fun e w' => e = .returned (.tuple #[]) ∧ w'.ownsRow base 31 2 (.slice (some ⟨g, 0, none⟩) n cap) n (cellsOf ds.reverse) ∧ Held (fun j => j < W.heap.size ∧ j ≠ g) W w' := by
  obtain ⟨cur, hg, hc, hnc, hmx, hsz, hH⟩ := holds_own hO hn
  have hds : ds.toArray.size = n := by simpa using hn
  have hcon := AnyQ.slices_Reverse Try.reverseVec 2 Try.isAgg31 Try.sizeOf31 encH (fun _ => rfl) (fun x v hv => by simp [encH] at hv; rcases hv with rfl | rfl <;> rfl) g 0 cap ds.toArray W hH (by unfold maxLen at hmx; omega)
  change Calls Try.prog 52 _ _ _ at hcon
  rw [hds] at hcon
  refine hcon.mono ?_
  rintro e w' ⟨rfl, q, rfl⟩
  have hlt := (Array.getElem?_eq_some_iff.1 hc).1
  have hrev : ds.toArray.reverse.toList = ds.reverse := by simp
  refine ⟨rfl, ⟨by rw [cellsOf_length]; simp [hn], .inr ⟨g, cap, putCells id 0 (flatK encH 2 ds.toArray.reverse) cur, rfl, hg, ?_, hnc, hmx, ?_, ?_⟩⟩, ?_⟩
  · unfold putRowK
    simp [putRow, mapBlock, Sort.ahead, Array.getElem?_modify, hc, onCells]
  · unfold putCells; simp [hsz]
  · rw [← hrev]
    have := take_flatH cur ds.toArray.reverse (by simp; rw [hsz, hn]; exact Nat.mul_le_mul_right 2 hnc)
    rwa [show ds.toArray.reverse.size = n by simpa using hn] at this
  · refine ⟨rfl, rfl, rfl, ?_, fun k hk => ?_⟩
    · unfold putRowK; simp [putRow, mapBlock, Sort.ahead]
    · unfold putRowK
      have : ¬ g = k := fun e => hk.2 e.symm
      simp [putRow, mapBlock, Sort.ahead, Array.getElem?_modify, this]
end Go.Proofs.Ytnoacppfgckohaa
