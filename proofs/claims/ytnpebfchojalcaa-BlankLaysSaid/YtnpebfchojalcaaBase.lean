import Derived.WalkKit
import Derived.WalkSpells
import Derived.WalkLawsBesides
import Derived.Lib.Hide
import Derived.BigQuiet
import Derived.Deep.QuietTactic
import Derived.Deep.OwnRows
namespace Go.Proofs.Ytnpebfchojalcaa
open Go.RowKit

theorem ret_bool {a b : Bool} (h : a = b) : Ending.returned (.bool a) = .returned (.bool b) := by rw [h]
theorem ret_int {k : IntKind} {a b : Int} (h : a = b) : Ending.returned (.int k a) = .returned (.int k b) := by rw [h]

/-- Everything that was there reads as it did. -/
abbrev Ext (w w' : World) : Prop := Below w.heap.size w w'

theorem cell_lt {w : World} {p : Addr} {v : Value} (h : w.cell? p = some v) : p.block < w.heap.size := by
  unfold World.cell? at h
  by_cases hb : p.block < w.heap.size
  · exact hb
  · rw [Array.getElem?_eq_none (by omega)] at h; simp at h

theorem Ext.cell {w w' : World} (h : Ext w w') {p : Addr} {v : Value} (hp : w.cell? p = some v) : w'.cell? p = some v := by
  rw [Below.cell h (cell_lt hp)]; exact hp

/-- The elements of a slice: nothing is asked of an empty one. -/
def Row (w : World) (a : Option Addr) (vs : List Value) : Prop :=
  vs = [] ∨ ∃ b off, a = some ⟨b, off, none⟩ ∧ ∀ (k : Nat) (x : Value), vs[k]? = some x → w.cell? ⟨b, off + k, none⟩ = some x

theorem Row.ext {w w' : World} {a : Option Addr} {vs : List Value} (h : Row w a vs) (he : Ext w w') : Row w' a vs := by
  rcases h with h | ⟨b, off, ha, hc⟩
  · exact .inl h
  · exact .inr ⟨b, off, ha, fun k x hk => Ext.cell he (hc k x hk)⟩

theorem Row.at {w : World} {a : Option Addr} {vs : List Value} (h : Row w a vs) (hn : 0 < vs.length) :
    ∃ b off, a = some ⟨b, off, none⟩ ∧ ∀ (k : Nat) (x : Value), vs[k]? = some x → w.cell? ⟨b, off + k, none⟩ = some x := by
  rcases h with h | h
  · subst h; simp at hn
  · exact h

/-- A slice that reads as these numbers. -/
def Ints (w : World) (v : Value) (xs : List Int) : Prop :=
  ∃ a cap, v = .slice a xs.length cap ∧ xs.length ≤ cap ∧ cap ≤ 9223372036854775807 ∧ Row w a (xs.map (Value.int .i64))

theorem Ints.ext {w w' : World} {v : Value} {xs : List Int} (h : Ints w v xs) (he : Ext w w') : Ints w' v xs := by
  obtain ⟨a, cap, hv, hl, hm, hr⟩ := h
  exact ⟨a, cap, hv, hl, hm, hr.ext he⟩

def Reads {α : Type} (R : World → Value → α → Prop) (w : World) (v : Value) (xs : List α) : Prop :=
  ∃ a cap vs, v = .slice a xs.length cap ∧ xs.length ≤ cap ∧ cap ≤ 9223372036854775807 ∧ Row w a vs ∧ vs.length = xs.length ∧ ∀ (k : Nat) (u : Value) (x : α), vs[k]? = some u → xs[k]? = some x → R w u x

abbrev Rows2 (w : World) (v : Value) (xs : List (List Int)) : Prop := Reads Ints w v xs

theorem Reads.ext {α : Type} {R : World → Value → α → Prop} (hR : ∀ w w' v x, R w v x → Ext w w' → R w' v x) {w w' : World} {v : Value} {xs : List α} (h : Reads R w v xs) (he : Ext w w') : Reads R w' v xs := by
  obtain ⟨a, cap, vs, hv, hl, hm, hr, hn, hx⟩ := h
  exact ⟨a, cap, vs, hv, hl, hm, hr.ext he, hn, fun k u x hu hxx => hR _ _ _ _ (hx k u x hu hxx) he⟩

theorem wrap64_add (a b : Int) : wrap64 (wrap64 a + b) = wrap64 (a + b) := by unfold wrap64; omega
theorem wrap64_add' (a b : Int) : wrap64 (a + wrap64 b) = wrap64 (a + b) := by unfold wrap64; omega
theorem wrap64_wrap (a : Int) : wrap64 (wrap64 a) = wrap64 a := by unfold wrap64; omega

/-- the sum of products -/
def dotZ : List Int → List Int → Int
  | x :: xs, y :: ys => x * y + dotZ xs ys
  | _, _ => 0
theorem dotZ_nil (ys : List Int) : dotZ [] ys = 0 := rfl
theorem dotZ_take_succ : ∀ (xs ys : List Int) (k : Nat) (x y : Int), xs[k]? = some x → ys[k]? = some y →
    dotZ (xs.take (k + 1)) ys = dotZ (xs.take k) ys + x * y := by
  intro xs
  induction xs with
  | nil => intro ys k x y h; simp at h
  | cons a xs ih =>
    intro ys k x y hx hy
    cases ys with
    | nil => simp at hy
    | cons b ys =>
      cases k with
      | zero =>
        have e1 : a = x := by simpa using hx
        have e2 : b = y := by simpa using hy
        subst e1 e2
        simp [dotZ]
      | succ k =>
        have := ih ys k x y (by simpa using hx) (by simpa using hy)
        simp only [List.take_succ_cons, dotZ, this]
        omega

/-- Block g is a row of these values, none frozen. -/
def VRow (w : World) (g : Nat) (t : TypeId) (vs : List Value) : Prop := w.heap[g]? = some (.cells vs.toArray t (0, 0))

namespace VRow
variable {w w' : World} {g : Nat} {t : TypeId} {vs : List Value}
theorem lt (h : VRow w g t vs) : g < w.heap.size := (Array.getElem?_eq_some_iff.1 h).1
theorem cell (h : VRow w g t vs) {k : Nat} {x : Value} (hk : vs[k]? = some x) : w.cell? ⟨g, k, none⟩ = some x := by
  unfold VRow at h
  simp [World.cell?, h, hk]
theorem cell0 (h : VRow w g t vs) {k : Nat} {x : Value} (hk : vs[k]? = some x) : w.cell? ⟨g, 0 + k, none⟩ = some x := by
  rw [Nat.zero_add]; exact h.cell hk
theorem frozen (h : VRow w g t vs) (o : Nat) (s : Option Nat) : w.frozen? ⟨g, o, s⟩ = false := by
  unfold VRow at h
  simp [World.frozen?, h]
theorem of_block (h : VRow w g t vs) (e : w'.heap[g]? = w.heap[g]?) : VRow w' g t vs := by
  unfold VRow at *
  rw [e]; exact h
theorem ext (h : VRow w g t vs) (he : Ext w w') : VRow w' g t vs := h.of_block (he.block g h.lt)
theorem below {B : Nat} (h : VRow w g t vs) (he : Below B w w') (hg : g < B) : VRow w' g t vs := h.of_block (he.block g hg)
theorem grown {row : Option Nat} (h : VRow w g t vs) (he : w.grownBy w' row) (hg : some g ≠ row) : VRow w' g t vs := h.of_block (he.block g h.lt hg)
theorem alloc (h : VRow w g t vs) (o : Obj) : VRow (w.alloc o) g t vs := h.of_block (Below.heap_alloc _ _ _ h.lt)
theorem drew (h : VRow w g t vs) : VRow w.drew g t vs := h
theorem setOther (h : VRow w g t vs) {a : Addr} (ha : g ≠ a.block) (v : Value) : VRow (w.setCell a v) g t vs := h.of_block (Below.heap_setCell _ _ _ _ ha)
theorem set (h : VRow w g t vs) (k : Nat) (x : Value) : VRow (w.setCell ⟨g, k, none⟩ x) g t (vs.set k x) := by
  unfold VRow at *
  simp [World.setCell, Array.getElem?_modify, h]
theorem row (h : VRow w g t vs) : Row w (some ⟨g, 0, none⟩) vs := .inr ⟨g, 0, rfl, fun _ _ hk => h.cell0 hk⟩
end VRow
theorem vrow_alloc (w : World) (vs : List Value) (t : TypeId) : VRow (w.alloc (.cells vs.toArray t)) w.heap.size t vs := by
  unfold VRow
  show (w.heap.push _)[w.heap.size]? = _
  simp
theorem vrow_made (w : World) (z : Value) (n : Nat) (t : TypeId) : VRow (w.alloc (.cells (madeCells #[z] n) t)) w.heap.size t (List.replicate n z) := by
  have e : madeCells #[z] n = (List.replicate n z).toArray := by
    apply Array.ext
    · simp [madeCells]
    · intro i h1 h2
      simp [madeCells, Nat.mod_one]
  rw [e]
  exact vrow_alloc w _ t

/-- Block g is a row of these numbers. -/
abbrev IRow (w : World) (g : Nat) (t : TypeId) (xs : List Int) : Prop := VRow w g t (xs.map (Value.int .i64))
theorem IRow.at {w : World} {g : Nat} {t : TypeId} {xs : List Int} (h : IRow w g t xs) {k : Nat} {x : Int} (hk : xs[k]? = some x) : w.cell? ⟨g, k, none⟩ = some (.int .i64 x) :=
  VRow.cell h (by simp [hk])
theorem IRow.put {w : World} {g : Nat} {t : TypeId} {xs : List Int} (h : IRow w g t xs) (k : Nat) (x : Int) : IRow (w.setCell ⟨g, k, none⟩ (.int .i64 x)) g t (xs.set k x) := by
  have := VRow.set h k (.int .i64 x)
  unfold IRow
  rw [List.map_set]
  exact this
theorem irow_made (w : World) (n : Nat) (t : TypeId) : IRow (w.alloc (.cells (madeCells #[.int .i64 0] n) t)) w.heap.size t (List.replicate n 0) := by
  have := vrow_made w (.int .i64 0) n t
  unfold IRow
  simpa using this
theorem IRow.ints {w : World} {g cap : Nat} {t : TypeId} {xs : List Int} (h : IRow w g t xs) (hl : xs.length ≤ cap) (hm : cap ≤ 9223372036854775807) : Ints w (.slice (some ⟨g, 0, none⟩) xs.length cap) xs :=
  ⟨_, _, rfl, hl, hm, VRow.row h⟩
theorem IRow.ints' {w : World} {g n cap : Nat} {t : TypeId} {xs : List Int} (h : IRow w g t xs) (hn : n = xs.length) (hl : xs.length ≤ cap) (hm : cap ≤ 9223372036854775807) : Ints w (.slice (some ⟨g, 0, none⟩) n cap) xs := by
  subst hn; exact IRow.ints h hl hm

/-- old facts in a later world -/
theorem Ints.old {w0 w : World} {v : Value} {xs : List Int} (h : Ints w0 v xs) (he : Below w0.heap.size w0 w) : Ints w v xs := h.ext he
theorem Rows2.ext {w w' : World} {v : Value} {xs : List (List Int)} (h : Rows2 w v xs) (he : Ext w w') : Rows2 w' v xs := Reads.ext (R := Ints) (fun _ _ _ _ hh hhe => Ints.ext hh hhe) h he
theorem Ext.trans {a b c : World} (h : Ext a b) (k : Ext b c) : Ext a c := Below.trans h (Below.mono k h.size)
theorem Ext.refl (w : World) : Ext w w := Below.refl _ _
theorem Ext.alloc {a w : World} (h : Ext a w) (o : Obj) : Ext a (w.alloc o) := Below.alloc h h.size o
theorem Below.lastly {B : Nat} {a b c : World} (h : Below B a b) (k : Below b.heap.size b c) (hB : B ≤ b.heap.size) : Below B a c := h.trans (k.mono hB)
theorem below_grown {B : Nat} {a w w' : World} {g : Nat} (h : Below B a w) (hg : w.grownBy w' (some g)) (hB : B ≤ w.heap.size) (hr : B ≤ g) : Below B a w' :=
  h.grown hg hB (fun k e => by cases e; exact hr)
theorem grown_set (w : World) (g k : Nat) (u : Value) : w.grownBy (w.setCell ⟨g, k, none⟩ u) (some g) :=
  ⟨rfl, rfl, rfl, by simp [World.setCell], fun i _ hne => Below.heap_setCell _ _ _ _ (fun e => hne (by rw [e]))⟩
theorem grown_trans' {a b c : World} {g : Nat} (h : a.grownBy b (some g)) (k : b.grownBy c (some g)) : a.grownBy c (some g) :=
  ⟨k.os.trans h.os, k.tape.trans h.tape, k.output.trans h.output, Nat.le_trans h.size k.size, fun i hi hne => (k.block i (Nat.lt_of_lt_of_le hi h.size) hne).trans (h.block i hi hne)⟩
theorem grown_ext {a b : World} {row : Option Nat} (h : Ext a b) : a.grownBy b row := ⟨h.os, h.tape, h.output, h.size, fun i hi _ => h.block i hi⟩
theorem take_succ_get {α : Type} {l : List α} {k : Nat} {x : α} (h : l[k]? = some x) : l.take (k + 1) = l.take k ++ [x] := by
  rw [List.take_add_one, h]; rfl
theorem getElem?_len {α : Type} {l : List α} {k : Nat} (h : k < l.length) : ∃ x, l[k]? = some x := ⟨l[k], by simp [h]⟩
theorem lt_len {α : Type} {l : List α} {k : Nat} {x : α} (h : l[k]? = some x) : k < l.length := by
  by_cases hk : k < l.length
  · exact hk
  · rw [List.getElem?_eq_none (by omega)] at h; simp at h
end Go.Proofs.Ytnpebfchojalcaa
namespace Go.Proofs.Ytnpebfchojalcaa
open Go.RowKit
theorem all_false {α : Type} {p : α → Bool} {xs : List α} {k : Nat} {x : α} (hk : xs[k]? = some x) (hp : p x = false) : xs.all p = false := by
  rw [Bool.eq_false_iff]
  intro h
  rw [List.all_eq_true] at h
  have := h x (List.mem_of_getElem? hk)
  rw [hp] at this
  cases this
theorem all_take_succ {α : Type} {p : α → Bool} {xs : List α} {k : Nat} {x : α} (hk : xs[k]? = some x) (h : (xs.take k).all p = true) (hp : p x = true) : (xs.take (k + 1)).all p = true := by
  rw [take_succ_get hk, List.all_append, h]; simp [hp]
theorem all_done {α : Type} {p : α → Bool} {xs : List α} {k : Nat} (hk : xs.length ≤ k) (h : (xs.take k).all p = true) : xs.all p = true := by
  rwa [List.take_of_length_le hk] at h

/-- what a slice of slices gives at an index -/
theorem Reads.at {α : Type} {R : World → Value → α → Prop} {w : World} {v : Value} {xs : List α} (h : Reads R w v xs) : ∃ a cap, v = .slice a xs.length cap ∧ xs.length ≤ cap ∧ cap ≤ 9223372036854775807 ∧
    ∀ (k : Nat) (x : α), xs[k]? = some x → ∃ b off u, a = some ⟨b, off, none⟩ ∧ w.cell? ⟨b, off + k, none⟩ = some u ∧ R w u x := by
  obtain ⟨a, cap, vs, hv, hl, hm, hr, hn, hx⟩ := h
  refine ⟨a, cap, hv, hl, hm, fun k x hk => ?_⟩
  have hkl := lt_len hk
  obtain ⟨b, off, ha, hc⟩ := hr.at (by omega)
  obtain ⟨u, hu⟩ := getElem?_len (show k < vs.length by omega)
  exact ⟨b, off, u, ha, hc k u hu, hx k u x hu hk⟩
theorem Ints.at {w : World} {v : Value} {xs : List Int} (h : Ints w v xs) : ∃ a cap, v = .slice a xs.length cap ∧ xs.length ≤ cap ∧ cap ≤ 9223372036854775807 ∧
    ∀ (k : Nat) (x : Int), xs[k]? = some x → ∃ b off, a = some ⟨b, off, none⟩ ∧ w.cell? ⟨b, off + k, none⟩ = some (.int .i64 x) := by
  obtain ⟨a, cap, hv, hl, hm, hr⟩ := h
  refine ⟨a, cap, hv, hl, hm, fun k x hk => ?_⟩
  have hkl := lt_len hk
  obtain ⟨b, off, ha, hc⟩ := hr.at (by simp; omega)
  exact ⟨b, off, ha, hc k _ (by simp [hk])⟩
def fewB (xs : List (List Int)) (ys : List Int) : Bool := decide (xs.length ≤ 30) && xs.all (fun r => decide (r.length ≤ 30)) && decide (ys.length ≤ 30)
end Go.Proofs.Ytnpebfchojalcaa
