import Derived.Shelf.SlSortCmp.WholeK
import Derived.Shelf.SlGeneric
import Derived.Shelf.SlLaysF0
import Derived.Ground.SlsfProg
import Derived.Test.YtnoacppfgckohaaW2g
import Derived.Test.YtnoacppfgckohaaV18
import Derived.Test.YtnoacppfgckohaaProg
namespace Go.Proofs.Ytnoacppfgckohaa
open Go.Shelf
def Try.sortVec_ren : Go.Shelf.Ren := ⟨fun | 6 => 50 | 15 => 64 | 14 => 63 | 28 => 75 | 29 => 76 | 20 => 67 | 21 => 68 | 22 => 69 | 23 => 70 | 24 => 71 | 25 => 72 | 26 => 73 | 27 => 74 | 46 => 77 | 47 => 78 | 48 => 79 | 49 => 80 | 50 => 81 | 57 => 82 | n => n, fun | 22 => 22 | 24 => 31 | 25 => 52 | 3 => 3 | 39 => 83 | 0 => 0 | 53 => 96 | 55 => 98 | 4 => 4 | 46 => 89 | 45 => 88 | 50 => 93 | 5 => 5 | 9 => 9 | 66 => 99 | 70 => 103 | 76 => 105 | 77 => 65 | n => n, fun | n => n⟩
theorem Try.sortVec : Go.Proofs.SlLaysF0.n6 Try.prog Try.sortVec_ren := {
  mixed := by kernel_rfl
  f6 := ⟨Try.f50.name, by decide, Try.func50.trans (congrArg some (by kernel_rfl))⟩
  f14 := ⟨Try.f63.name, by decide, Try.func63.trans (congrArg some (by kernel_rfl))⟩
  f15 := Try.func64.trans (congrArg some (by kernel_rfl))
  f20 := ⟨Try.f67.name, by decide, Try.func67.trans (congrArg some (by kernel_rfl))⟩
  f21 := ⟨Try.f68.name, by decide, Try.func68.trans (congrArg some (by kernel_rfl))⟩
  f22 := ⟨Try.f69.name, by decide, Try.func69.trans (congrArg some (by kernel_rfl))⟩
  f23 := ⟨Try.f70.name, by decide, Try.func70.trans (congrArg some (by kernel_rfl))⟩
  f24 := ⟨Try.f71.name, by decide, Try.func71.trans (congrArg some (by kernel_rfl))⟩
  f25 := ⟨Try.f72.name, by decide, Try.func72.trans (congrArg some (by kernel_rfl))⟩
  f26 := ⟨Try.f73.name, by decide, Try.func73.trans (congrArg some (by kernel_rfl))⟩
  f27 := ⟨Try.f74.name, by decide, Try.func74.trans (congrArg some (by kernel_rfl))⟩
  f28 := Try.func75.trans (congrArg some (by kernel_rfl))
  f29 := Try.func76.trans (congrArg some (by kernel_rfl))
  f46 := ⟨Try.f77.name, by decide, Try.func77.trans (congrArg some (by kernel_rfl))⟩
  f47 := Try.func78.trans (congrArg some (by kernel_rfl))
  f48 := Try.func79.trans (congrArg some (by kernel_rfl))
  f49 := ⟨Try.f80.name, by decide, Try.func80.trans (congrArg some (by kernel_rfl))⟩
  f50 := ⟨Try.f81.name, by decide, Try.func81.trans (congrArg some (by kernel_rfl))⟩
  f57 := ⟨Try.f82.name, by decide, Try.func82.trans (congrArg some (by kernel_rfl))⟩
  t0 := Try.underlying0
  a0 := Try.isAgg0
  z0 := Try.sizeOf0
  v0 := Try.zeroValue0
  t3 := Try.underlying3
  a3 := Try.isAgg3
  z3 := Try.sizeOf3
  v3 := Try.zeroValue3
  t4 := Try.underlying4
  a4 := Try.isAgg4
  z4 := Try.sizeOf4
  v4 := Try.zeroValue4
  t5 := Try.underlying5
  a5 := Try.isAgg5
  z5 := Try.sizeOf5
  v5 := Try.zeroValue5
  t9 := Try.underlying9
  a9 := Try.isAgg9
  z9 := Try.sizeOf9
  v9 := Try.zeroValue9
  t22 := Try.underlying22
  a22 := Try.isAgg22
  z22 := Try.sizeOf22
  v22 := Try.zeroValue22
  t25 := Try.underlying52
  a25 := Try.isAgg52
  z25 := Try.sizeOf52
  v25 := Try.zeroValue52
  t39 := Try.underlying83
  a39 := Try.isAgg83
  z39 := Try.sizeOf83
  v39 := Try.zeroValue83
  t45 := Try.underlying88
  a45 := Try.isAgg88
  z45 := Try.sizeOf88
  v45 := Try.zeroValue88
  t46 := Try.underlying89
  a46 := Try.isAgg89
  z46 := Try.sizeOf89
  v46 := Try.zeroValue89
  t50 := Try.underlying93
  a50 := Try.isAgg93
  z50 := Try.sizeOf93
  v50 := Try.zeroValue93
  t53 := Try.underlying96
  a53 := Try.isAgg96
  z53 := Try.sizeOf96
  v53 := Try.zeroValue96
  t55 := Try.underlying98
  a55 := Try.isAgg98
  z55 := Try.sizeOf98
  v55 := Try.zeroValue98
  t66 := Try.underlying99
  a66 := Try.isAgg99
  z66 := Try.sizeOf99
  v66 := Try.zeroValue99
  t70 := Try.underlying103
  a70 := Try.isAgg103
  z70 := Try.sizeOf103
  v70 := Try.zeroValue103
  t76 := Try.underlying105
  a76 := Try.isAgg105
  z76 := Try.sizeOf105
  v76 := Try.zeroValue105
  t77 := Try.underlying65
  a77 := Try.isAgg65
  z77 := Try.sizeOf65
  v77 := Try.zeroValue65 }
open Go.RowKit Go.Sort
/-- steps that the order can tell -/
abbrev StepA := { p : Pt // okA p }
theorem okOne : okA (1, 0) := ⟨by unfold fine; decide, by unfold fine; decide, by decide⟩
instance : Inhabited StepA := ⟨⟨(1, 0), okOne⟩⟩
def encA (x : StepA) : List Value := [.int .i64 x.1.1, .int .i64 x.1.2]
def cfA (x y : StepA) : Int := angP x.1 y.1
theorem ltOf_A (x y : StepA) : ltOf cfA x y = true ↔ ltA x.1 y.1 := by
  unfold ltOf cfA
  rw [decide_eq_true_eq, angP_neg]
theorem ltOf_A' (x y : StepA) : ltOf cfA x y = false ↔ ¬ ltA x.1 y.1 := by
  rw [← ltOf_A, Bool.not_eq_true]
theorem swoA : SWO (ltOf cfA) where
  irrefl x := by rw [ltOf_A']; exact ltA_irrefl _
  trans x y z h1 h2 := by rw [ltOf_A] at *; exact ltA_trans x.2.2.2 y.2.2.2 z.2.2.2 h1 h2
  ntrans x y z h1 h2 := by rw [ltOf_A'] at *; exact ltA_ntrans x.2.2.2 y.2.2.2 z.2.2.2 h1 h2
theorem cmpA (blk off size : Nat) (w : World) : CmpLays Try.prog 33 #[] encA 2 cfA blk off size w := fun m os dk _ x y => by
  refine (byAngle_g x.1.1 x.1.2 y.1.1 y.1.2 _ x.2.1 x.2.2.1 y.2.1 y.2.2.1).mono ?_
  rintro e w' ⟨rfl, hG⟩
  exact ⟨rfl, hG.grow⟩
section
variable {α : Type} [Inhabited α] (enc : α → List Value)
theorem sort_heap {w : World} {g n : Nat} {cur : Array Value} {e : TypeId} {fr : Nat × Nat} (hb : w.heap[g]? = some (.cells cur e fr)) (d : Array α) (os : Array Obj) :
    (sortWorldK enc 2 w g 0 n d os).heap[g]? = some (.cells (putCells id 0 (flatK enc 2 d) cur) e fr) := by
  have hl := (Array.getElem?_eq_some_iff.1 hb).1
  unfold sortWorldK putRowK
  rw [heap_grow_old _ _ (by simpa [putRow, mapBlock, Sort.ahead] using hl)]
  simp [putRow, mapBlock, Sort.ahead, Array.getElem?_modify, hb, onCells]
theorem sort_held {w : World} {g n : Nat} (d : Array α) (os : Array Obj) : Held (fun j => j < w.heap.size ∧ j ≠ g) w (sortWorldK enc 2 w g 0 n d os) := by
  refine ⟨rfl, rfl, rfl, ?_, fun k hk => ?_⟩
  · unfold sortWorldK putRowK
    simp [grow, putRow, mapBlock, Sort.ahead]
  · unfold sortWorldK putRowK
    rw [heap_grow_old _ _ (by simpa [putRow, mapBlock, Sort.ahead] using hk.1)]
    have : ¬ g = k := fun e => hk.2 e.symm
    simp [putRow, mapBlock, Sort.ahead, Array.getElem?_modify, this]
end
def listP (d : Array StepA) : List Pt := d.toList.map (·.1)
theorem flat_cells (d : Array StepA) (j : Nat) (hj : j < d.size * 2) : (cellsOf (listP d))[j]? = some ((encA d[j / 2]!)[j % 2]!) := by
  have hk : j / 2 < d.size := by omega
  have hq : (listP d)[j / 2]? = some d[j / 2]!.1 := by
    unfold listP
    rw [List.getElem?_map, Array.getElem?_toList, Array.getElem?_eq_getElem hk, getElem!_pos d _ hk]
    rfl
  obtain ⟨h1, h2⟩ := cellsOf_at _ _ _ hq
  rcases Nat.mod_two_eq_zero_or_one j with h | h
  · rw [h, show j = j / 2 * 2 by omega, h1, show j / 2 * 2 / 2 = j / 2 by omega]; rfl
  · rw [h, show j = j / 2 * 2 + 1 by omega, h2, show (j / 2 * 2 + 1) / 2 = j / 2 by omega]; rfl
theorem take_flat (cur : Array Value) (d : Array StepA) (h : d.size * 2 ≤ cur.size) : (putCells id 0 (flatK encA 2 d) cur).toList.take (d.size * 2) = cellsOf (listP d) := by
  apply List.ext_getElem?
  intro j
  by_cases hj : j < d.size * 2
  · rw [List.getElem?_take_of_lt hj, flat_cells d j hj, Array.getElem?_toList]
    unfold putCells
    rw [Array.getElem?_mapIdx, Array.getElem?_eq_getElem (show j < cur.size by omega)]
    simp only [Option.map_some, size_flatK, Nat.zero_le, Nat.zero_add, hj, and_self, if_true, Nat.sub_zero, id_eq]
    rw [get_flatK _ _ _ _ hj]
  · rw [List.getElem?_eq_none (by simp; omega), List.getElem?_eq_none (by rw [cellsOf_length]; unfold listP; simp; omega)]
theorem sort_c : SortC 33 ltA okA := by
  intro g cap base n ds W hO hn hok hm
  obtain ⟨d, hd⟩ : ∃ d : Array StepA, listP d = ds := ⟨(ds.pmap (fun q h => ⟨q, h⟩) hok).toArray, by unfold listP; simp [List.map_pmap]⟩
  have hds : d.size = n := by rw [← hn, ← hd]; unfold listP; simp
  rcases hO.2 with ⟨h0, h1⟩ | ⟨g', cap', cur, hv, hg, hc, hnc, hmx, hsz, htk⟩
  · cases h0
  · injection hv with e1 e2 e3
    injection e1 with e1
    injection e1 with e1 _
    subst e1 e3
    have hlt := (Array.getElem?_eq_some_iff.1 hc).1
    have hH : HoldsK encA 2 W g 0 d := by
      intro j hj
      rw [size_flatK] at hj
      rw [Nat.zero_add, get_flatK _ _ _ _ hj]
      have h1 := flat_cells d j hj
      rw [hd, ← htk, List.getElem?_take_of_lt (by omega), Array.getElem?_toList] at h1
      refine ⟨?_, ?_⟩
      · simp [World.cell?, hc, h1]
      · simp [World.frozen?, hc]
    have hcon := AnyQ.slices_SortFunc Try.sortVec 2 Try.isAgg31 Try.sizeOf31 encA (fun _ => rfl) (fun x v hv => by simp [encA] at hv; rcases hv with rfl | rfl <;> rfl) cfA swoA 33 #[] g 0 cap d W (enters_of Try.func33 (by kernel_rfl) rfl) (cmpA g 0 d.size W) hH hlt (by omega)
    change Calls Try.prog 50 _ _ _ at hcon
    rw [hds] at hcon
    refine hcon.mono ?_
    rintro e w' ⟨rfl, d', m, os, ⟨hp1, _, hp3⟩, hs, rfl⟩
    have hd's : d'.size = n := by rw [hp1, hds]
    refine ⟨rfl, listP d', ?_, ?_, ⟨?_, .inr ⟨g, cap, _, rfl, hg, sort_heap encA hc d' os, hnc, hmx, ?_, ?_⟩⟩, sort_held encA d' os⟩
    · rw [← hd]
      unfold listP
      refine List.Perm.map _ ?_
      have e1 : d'.extract 0 n = d' := by rw [← hd's]; simp
      have e2 : d.extract 0 n = d := by rw [← hds]; simp
      rw [e1, e2] at hp3
      exact hp3
    · unfold listP
      rw [List.pairwise_map, List.pairwise_iff_getElem]
      intro i j hi hj hij
      rw [← ltOf_A']
      have := hs i j (Nat.zero_le _) hij (by simp at hj; omega)
      simp at hi hj
      rwa [getElem!_pos d' i hi, getElem!_pos d' j hj] at this
    · rw [cellsOf_length]; unfold listP; simp [hd's]
    · unfold putCells; simp [hsz]
    · rw [← hd's]; exact take_flat cur d' (by rw [hd's, hsz]; exact Nat.mul_le_mul_right 2 hnc)
end Go.Proofs.Ytnoacppfgckohaa
