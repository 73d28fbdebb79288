import Derived.Shelf.SlSortCmp.WholeK
import Derived.Shelf.SlGeneric
import Derived.Shelf.SlLaysF0
import Derived.Ground.SlsfProg
import Derived.Test.YtbdppephmlkbaaaW2g
import Derived.Test.YtbdppephmlkbaaaV18
import Derived.Test.YtbdppephmlkbaaaProg
namespace Go.Proofs.Ytbdppephmlkbaaa
set_option maxRecDepth 100000
open Go.Shelf
def Try.sortVec_ren : Go.Shelf.Ren := ⟨fun | 6 => 75 | 15 => 91 | 14 => 90 | 28 => 102 | 29 => 103 | 20 => 94 | 21 => 95 | 22 => 96 | 23 => 97 | 24 => 98 | 25 => 99 | 26 => 100 | 27 => 101 | 46 => 104 | 47 => 105 | 48 => 106 | 49 => 107 | 50 => 108 | 57 => 109 | n => n, fun | 22 => 22 | 24 => 32 | 25 => 50 | 3 => 3 | 39 => 84 | 0 => 0 | 53 => 97 | 55 => 99 | 4 => 4 | 46 => 90 | 45 => 89 | 50 => 94 | 5 => 5 | 9 => 9 | 66 => 100 | 70 => 104 | 76 => 106 | 77 => 56 | n => n, fun | n => n⟩
theorem Try.sortVec : Go.Proofs.SlLaysF0.n6 Try.prog Try.sortVec_ren := {
  mixed := by kernel_rfl
  f6 := ⟨Try.f75.name, by decide, Try.func75.trans (congrArg some (by kernel_rfl))⟩
  f14 := ⟨Try.f90.name, by decide, Try.func90.trans (congrArg some (by kernel_rfl))⟩
  f15 := Try.func91.trans (congrArg some (by kernel_rfl))
  f20 := ⟨Try.f94.name, by decide, Try.func94.trans (congrArg some (by kernel_rfl))⟩
  f21 := ⟨Try.f95.name, by decide, Try.func95.trans (congrArg some (by kernel_rfl))⟩
  f22 := ⟨Try.f96.name, by decide, Try.func96.trans (congrArg some (by kernel_rfl))⟩
  f23 := ⟨Try.f97.name, by decide, Try.func97.trans (congrArg some (by kernel_rfl))⟩
  f24 := ⟨Try.f98.name, by decide, Try.func98.trans (congrArg some (by kernel_rfl))⟩
  f25 := ⟨Try.f99.name, by decide, Try.func99.trans (congrArg some (by kernel_rfl))⟩
  f26 := ⟨Try.f100.name, by decide, Try.func100.trans (congrArg some (by kernel_rfl))⟩
  f27 := ⟨Try.f101.name, by decide, Try.func101.trans (congrArg some (by kernel_rfl))⟩
  f28 := Try.func102.trans (congrArg some (by kernel_rfl))
  f29 := Try.func103.trans (congrArg some (by kernel_rfl))
  f46 := ⟨Try.f104.name, by decide, Try.func104.trans (congrArg some (by kernel_rfl))⟩
  f47 := Try.func105.trans (congrArg some (by kernel_rfl))
  f48 := Try.func106.trans (congrArg some (by kernel_rfl))
  f49 := ⟨Try.f107.name, by decide, Try.func107.trans (congrArg some (by kernel_rfl))⟩
  f50 := ⟨Try.f108.name, by decide, Try.func108.trans (congrArg some (by kernel_rfl))⟩
  f57 := ⟨Try.f109.name, by decide, Try.func109.trans (congrArg some (by kernel_rfl))⟩
  t0 := Try.underlying0
  a0 := Try.isAgg0
  z0 := Try.sizeOf0
  v0 := Try.zeroValue0
  t3 := Try.underlying3
  a3 := Try.isAgg3
  z3 := Try.sizeOf3
  v3 := Try.zeroValue3
  t4 := Try.underlying4
  a4 := Try.isAgg4
  z4 := Try.sizeOf4
  v4 := Try.zeroValue4
  t5 := Try.underlying5
  a5 := Try.isAgg5
  z5 := Try.sizeOf5
  v5 := Try.zeroValue5
  t9 := Try.underlying9
  a9 := Try.isAgg9
  z9 := Try.sizeOf9
  v9 := Try.zeroValue9
  t22 := Try.underlying22
  a22 := Try.isAgg22
  z22 := Try.sizeOf22
  v22 := Try.zeroValue22
  t25 := Try.underlying50
  a25 := Try.isAgg50
  z25 := Try.sizeOf50
  v25 := Try.zeroValue50
  t39 := Try.underlying84
  a39 := Try.isAgg84
  z39 := Try.sizeOf84
  v39 := Try.zeroValue84
  t45 := Try.underlying89
  a45 := Try.isAgg89
  z45 := Try.sizeOf89
  v45 := Try.zeroValue89
  t46 := Try.underlying90
  a46 := Try.isAgg90
  z46 := Try.sizeOf90
  v46 := Try.zeroValue90
  t50 := Try.underlying94
  a50 := Try.isAgg94
  z50 := Try.sizeOf94
  v50 := Try.zeroValue94
  t53 := Try.underlying97
  a53 := Try.isAgg97
  z53 := Try.sizeOf97
  v53 := Try.zeroValue97
  t55 := Try.underlying99
  a55 := Try.isAgg99
  z55 := Try.sizeOf99
  v55 := Try.zeroValue99
  t66 := Try.underlying100
  a66 := Try.isAgg100
  z66 := Try.sizeOf100
  v66 := Try.zeroValue100
  t70 := Try.underlying104
  a70 := Try.isAgg104
  z70 := Try.sizeOf104
  v70 := Try.zeroValue104
  t76 := Try.underlying106
  a76 := Try.isAgg106
  z76 := Try.sizeOf106
  v76 := Try.zeroValue106
  t77 := Try.underlying56
  a77 := Try.isAgg56
  z77 := Try.sizeOf56
  v77 := Try.zeroValue56 }
open Go.RowKit Go.Sort
/-- steps that the order can tell -/
abbrev StepA := { p : Pt // okA p }
theorem okOne : okA (1, 0) := ⟨by unfold fine; decide, by unfold fine; decide, by decide⟩
instance : Inhabited StepA := ⟨⟨(1, 0), okOne⟩⟩
def encA (x : StepA) : List Value := [.int .i64 x.1.1, .int .i64 x.1.2]
def cfA (x y : StepA) : Int := angP x.1 y.1
theorem ltOf_A (x y : StepA) : ltOf cfA x y = true ↔ ltA x.1 y.1 := by
  unfold ltOf cfA
  rw [decide_eq_true_eq, angP_neg]
theorem ltOf_A' (x y : StepA) : ltOf cfA x y = false ↔ ¬ ltA x.1 y.1 := by
  rw [← ltOf_A, Bool.not_eq_true]
theorem swoA : SWO (ltOf cfA) where
  irrefl x := by rw [ltOf_A']; exact ltA_irrefl _
  trans x y z h1 h2 := by rw [ltOf_A] at *; exact ltA_trans x.2.2.2 y.2.2.2 z.2.2.2 h1 h2
  ntrans x y z h1 h2 := by rw [ltOf_A'] at *; exact ltA_ntrans x.2.2.2 y.2.2.2 z.2.2.2 h1 h2
theorem cmpA (blk off size : Nat) (w : World) : CmpLays Try.prog 48 #[] encA 2 cfA blk off size w := fun m os dk _ x y => by
  refine (byAngle_g x.1.1 x.1.2 y.1.1 y.1.2 _ x.2.1 x.2.2.1 y.2.1 y.2.2.1).mono ?_
  rintro e w' ⟨rfl, hG⟩
  exact ⟨rfl, hG.grow⟩
section
variable {α : Type} [Inhabited α] (enc : α → List Value)
theorem sort_heap {w : World} {g n : Nat} {cur : Array Value} {e : TypeId} {fr : Nat × Nat} (hb : w.heap[g]? = some (.cells cur e fr)) (d : Array α) (os : Array Obj) :
    (sortWorldK enc 2 w g 0 n d os).heap[g]? = some (.cells (putCells id 0 (flatK enc 2 d) cur) e fr) := by
  have hl := (Array.getElem?_eq_some_iff.1 hb).1
  unfold sortWorldK putRowK
  rw [heap_grow_old _ _ (by simpa [putRow, mapBlock, Sort.ahead] using hl)]
  simp [putRow, mapBlock, Sort.ahead, Array.getElem?_modify, hb, onCells]
theorem sort_held {w : World} {g n : Nat} (d : Array α) (os : Array Obj) : Held (fun j => j < w.heap.size ∧ j ≠ g) w (sortWorldK enc 2 w g 0 n d os) := by
  refine ⟨rfl, rfl, rfl, ?_, fun k hk => ?_⟩
  · unfold sortWorldK putRowK
    simp [grow, putRow, mapBlock, Sort.ahead]
  · unfold sortWorldK putRowK
    rw [heap_grow_old _ _ (by simpa [putRow, mapBlock, Sort.ahead] using hk.1)]
    have : ¬ g = k := fun e => hk.2 e.symm
    simp [putRow, mapBlock, Sort.ahead, Array.getElem?_modify, this]
end
def listP (d : Array StepA) : List Pt := d.toList.map (·.1)
theorem flat_cells (d : Array StepA) (j : Nat) (hj : j < d.size * 2) : (cellsOf (listP d))[j]? = some ((encA d[j / 2]!)[j % 2]!) := by
  have hk : j / 2 < d.size := by omega
  have hq : (listP d)[j / 2]? = some d[j / 2]!.1 := by
    unfold listP
    rw [List.getElem?_map, Array.getElem?_toList, Array.getElem?_eq_getElem hk, getElem!_pos d _ hk]
    rfl
  obtain ⟨h1, h2⟩ := cellsOf_at _ _ _ hq
  rcases Nat.mod_two_eq_zero_or_one j with h | h
  · rw [h, show j = j / 2 * 2 by omega, h1, show j / 2 * 2 / 2 = j / 2 by omega]; rfl
  · rw [h, show j = j / 2 * 2 + 1 by omega, h2, show (j / 2 * 2 + 1) / 2 = j / 2 by omega]; rfl
theorem take_flat (cur : Array Value) (d : Array StepA) (h : d.size * 2 ≤ cur.size) : (putCells id 0 (flatK encA 2 d) cur).toList.take (d.size * 2) = cellsOf (listP d) := by
  apply List.ext_getElem?
  intro j
  by_cases hj : j < d.size * 2
  · rw [List.getElem?_take_of_lt hj, flat_cells d j hj, Array.getElem?_toList]
    unfold putCells
    rw [Array.getElem?_mapIdx, Array.getElem?_eq_getElem (show j < cur.size by omega)]
    simp only [Option.map_some, size_flatK, Nat.zero_le, Nat.zero_add, hj, and_self, if_true, Nat.sub_zero, id_eq]
    rw [get_flatK _ _ _ _ hj]
  · rw [List.getElem?_eq_none (by simp; omega), List.getElem?_eq_none (by rw [cellsOf_length]; unfold listP; simp; omega)]
theorem sort_c : SortC 48 ltA okA := by
  intro g cap base n ds W hO hn hok hm
  obtain ⟨d, hd⟩ : ∃ d : Array StepA, listP d = ds := ⟨(ds.pmap (fun q h => ⟨q, h⟩) hok).toArray, by unfold listP; simp [List.map_pmap]⟩
  have hds : d.size = n := by rw [← hn, ← hd]; unfold listP; simp
  rcases hO.2 with ⟨h0, h1⟩ | ⟨g', cap', cur, hv, hg, hc, hnc, hmx, hsz, htk⟩
  · cases h0
  · injection hv with e1 e2 e3
    injection e1 with e1
    injection e1 with e1 _
    subst e1 e3
    have hlt := (Array.getElem?_eq_some_iff.1 hc).1
    have hH : HoldsK encA 2 W g 0 d := by
      intro j hj
      rw [size_flatK] at hj
      rw [Nat.zero_add, get_flatK _ _ _ _ hj]
      have h1 := flat_cells d j hj
      rw [hd, ← htk, List.getElem?_take_of_lt (by omega), Array.getElem?_toList] at h1
      refine ⟨?_, ?_⟩
      · simp [World.cell?, hc, h1]
      · simp [World.frozen?, hc]
    have hcon := AnyQ.slices_SortFunc Try.sortVec 2 Try.isAgg32 Try.sizeOf32 encA (fun _ => rfl) (fun x v hv => by simp [encA] at hv; rcases hv with rfl | rfl <;> rfl) cfA swoA 48 #[] g 0 cap d W (enters_of Try.func48 (by kernel_rfl) rfl) (cmpA g 0 d.size W) hH hlt (by omega)
    change Calls Try.prog 75 _ _ _ at hcon
    rw [hds] at hcon
    refine hcon.mono ?_
    rintro e w' ⟨rfl, d', m, os, ⟨hp1, _, hp3⟩, hs, rfl⟩
    have hd's : d'.size = n := by rw [hp1, hds]
    refine ⟨rfl, listP d', ?_, ?_, ⟨?_, .inr ⟨g, cap, _, rfl, hg, sort_heap encA hc d' os, hnc, hmx, ?_, ?_⟩⟩, sort_held encA d' os⟩
    · rw [← hd]
      unfold listP
      refine List.Perm.map _ ?_
      have e1 : d'.extract 0 n = d' := by rw [← hd's]; simp
      have e2 : d.extract 0 n = d := by rw [← hds]; simp
      rw [e1, e2] at hp3
      exact hp3
    · unfold listP
      rw [List.pairwise_map, List.pairwise_iff_getElem]
      intro i j hi hj hij
      rw [← ltOf_A']
      have := hs i j (Nat.zero_le _) hij (by simp at hj; omega)
      simp at hi hj
      rwa [getElem!_pos d' i hi, getElem!_pos d' j hj] at this
    · rw [cellsOf_length]; unfold listP; simp [hd's]
    · unfold putCells; simp [hsz]
    · rw [← hd's]; exact take_flat cur d' (by rw [hd's, hsz]; exact Nat.mul_le_mul_right 2 hnc)
end Go.Proofs.Ytbdppephmlkbaaa
