import Derived.Test.YtnpebfchojalcaaV14
import Derived.Test.YtnpebfchojalcaaB2
import Derived.Maps.OwnIn
import Derived.Maps.OwnSet
import Derived.DeepKeys4
namespace Go.Proofs.Ytnpebfchojalcaa
open Go.RowKit Go.Maps
theorem vecKeyed : Keyed Try.prog 31 := Keyed.of_law (deep_law_laid (P := Try.prog) (by kernel_rfl) (m := 5) (by decide) (k := 31) (by decide +kernel) (by kernel_rfl) (by kernel_rfl))
theorem keyType31 : Try.prog.keyType 31 = true := by kernel_rfl
theorem types_size : ∃ m, Try.prog.types.size + 1 = m + 2 := ⟨_, rfl⟩
theorem cells31' : Try.prog.cellsOf 31 = 2 := by kernel_rfl
theorem cells3' : Try.prog.cellsOf 3 = 1 := by kernel_rfl
def keyL (p : Pt) : Lit := .string (keyBytes [.int .i64 p.1, .int .i64 p.2])
theorem wf_i64 {x : Int} (h : -1000000 ≤ x ∧ x ≤ 1000000) : (Lit.int .i64 x).wf = true := by
  have : IntKind.i64.min = -9223372036854775808 := rfl
  simp [Lit.wf]
  omega
def nearPt (p : Pt) : Prop := (-1000000 ≤ p.1 ∧ p.1 ≤ 1000000) ∧ (-1000000 ≤ p.2 ∧ p.2 ≤ 1000000)
theorem key_vec (p : Pt) (h : nearPt p) : keyOf Try.prog 31 (vecV p.1 p.2) = some (keyL p) := by
  have wx := wf_i64 h.1
  have wy := wf_i64 h.2
  obtain ⟨m, hm⟩ := types_size
  unfold keyOf
  simp only [Try.underlying31]
  rw [if_pos (by simp [keyType31, Value.formed, Try.underlying31, cells31']), hm]
  unfold Program.keyLits
  simp only [Try.underlying31, Value.cells]
  rw [if_pos (by rw [cells31']; exact ⟨rfl, by kernel_rfl⟩)]
  simp [Program.keyLits, Try.underlying3, wx, wy, cells3', List.mapM_cons, keyL]
theorem keyL_inj {p q : Pt} (hp : nearPt p) (hq : nearPt q) (h : keyL p = keyL q) : p = q := by
  have h1 := key_vec p hp
  have h2 := key_vec q hq
  rw [h] at h1
  have := vecKeyed.inj h1 h2
  simp only [vecV, Value.agg.injEq] at this
  have e := congrArg Array.toList this
  simp only [List.cons.injEq, Value.int.injEq, true_and, and_true] at e
  exact Prod.ext e.1 e.2
theorem keyL_same (p q : Pt) : (keyL p).sameKey (keyL q) = true ↔ keyL p = keyL q := by
  unfold keyL Lit.sameKey
  simp
/-- a map whose keys are these vectors, all of them true -/
def setD (ks : List Pt) : DataW Unit := setOf (.lit (.bool true)) (ks.map keyL)
def BMap (W : World) (b : Nat) (ks : List Pt) : Prop := W.ownsMap (H := Unit) Try.prog 31 (plainElem Try.prog 4) b ks.length (setD ks)
theorem keyL_lit (p : Pt) : WideAt.IsKeyLit (keyL p) := by unfold keyL; trivial
theorem setD_has {ks : List Pt} {p : Pt} (hk : ∀ q ∈ ks, nearPt q) (hp : nearPt p) : has (setD ks) (keyL p) = decide (p ∈ ks) := by
  unfold setD
  rw [has_setOf]
  · rw [Bool.eq_iff_iff]
    simp only [List.any_eq_true, List.mem_map, decide_eq_true_eq]
    constructor
    · rintro ⟨_, ⟨q, hq, rfl⟩, h⟩
      rw [keyL_same] at h
      rw [← keyL_inj (hk q hq) hp h]; exact hq
    · intro h
      exact ⟨_, ⟨p, h, rfl⟩, (keyL_same p p).2 rfl⟩
  · intro x hx
    rw [List.mem_map] at hx
    obtain ⟨q, _, rfl⟩ := hx
    exact keyL_lit q
theorem bmap_made (w : World) : BMap (w.alloc (.map #[] 0)) w.heap.size [] := World.ownsMap_made _ _ _ _
theorem BMap.of_block {W W' : World} {b : Nat} {ks : List Pt} (h : BMap W b ks) (e : W'.heap[b]? = W.heap[b]?) : BMap W' b ks := by
  obtain ⟨es, c, h1, h2⟩ := h
  exact ⟨es, c, e.trans h1, h2⟩
theorem BMap.lt {W : World} {b : Nat} {ks : List Pt} (h : BMap W b ks) : b < W.heap.size := World.ownsMap.lt h
theorem BMap.ext {W W' : World} {b : Nat} {ks : List Pt} (h : BMap W b ks) (he : Ext W W') : BMap W' b ks := h.of_block (he.block b h.lt)
theorem elem_true : plainElem (H := Unit) Try.prog 4 (.bool true) = some (.lit (.bool true), []) := plainElem_bool Try.underlying4 true
theorem setD_snoc (ks : List Pt) (p : Pt) : (setD ks).put (keyL p) (.lit (.bool true)) = setD (ks ++ [p]) := by
  unfold setD
  rw [List.map_append, List.map_singleton, setOf_snoc]
/-- writing a key at a walked operation within a round -/
theorem bmap_put {F : Fence} {nF : Nat} (w : World) {ops : Array Oper} {rest : List Oper} {o : Oper} {a : Act} {Q : Exit → Act → World → Prop} (hg : o.guard = none) (m x v : Operand) (hop : o.op = Op.mapUpdate 71 m x v)
    (b : Nat) (ks : List Pt) (p : Pt) (hm : a.eval m = .map (some b)) (hown : BMap w b ks) (hn : ks.length < maxLen) (hx : a.eval x = vecV p.1 p.2) (hv : a.eval v = .bool true) (hp : nearPt p)
    (hK : ∀ w', BMap w' b (ks ++ [p]) → w.grownBy w' (some b) → wpListIn F nF Try.prog ops Q rest (a.put o.dst undef) w') :
    wpListIn F nF Try.prog ops Q (o :: rest) a w :=
  wpListIn_mapUpdate_own w hg m x v 71 hop 31 4 vecKeyed Try.underlying71 (plainElem Try.prog 4) b ks.length (setD ks) hm hown hn _ _ (keyL p) hx hv (key_vec p hp) _ _ elem_true
    (fun w' h1 h2 => hK w' (by rw [setD_snoc] at h1; unfold BMap; rw [List.length_append]; exact h1) h2)
end Go.Proofs.Ytnpebfchojalcaa
