import Derived.Test.YtblaipkhmmaenaaW6
import Derived.Test.YtblaipkhmmaenaaStab
namespace Go.Proofs.Ytblaipkhmmaenaa
open Go.RowKit
theorem Ext.block_ne {w w' : World} (h : Ext w w') : w.heap.size ≤ w'.heap.size := h.size
/-- what the checkers hold of the boxes of their two arguments -/
structure Boxes (w w1 : World) (a b c v : Value) (p : Prg) (x : Pnt) : Prop where
  ext : Ext w w1
  prg : PrgAt w1 a b c p
  num : Ints w1 v x.Num
  c0 : w1.cell? ⟨w.heap.size, 0, none⟩ = some a
  c1 : w1.cell? ⟨w.heap.size, 1, none⟩ = some b
  c2 : w1.cell? ⟨w.heap.size, 2, none⟩ = some c
  d0 : w1.cell? ⟨w.heap.size + 1, 0, none⟩ = some v
  d1 : w1.cell? ⟨w.heap.size + 1, 1, none⟩ = some (.int .i64 x.Den)
theorem Boxes.mk2 {w : World} {a b c v : Value} {p : Prg} {x : Pnt} (hp : PrgAt w a b c p) (hx : Ints w v x.Num) : Boxes w ((w.alloc (.cells #[a, b, c] 65)).alloc (.cells #[v, .int .i64 x.Den] 68)) a b c v p x := by
  have e1 : Ext w (w.alloc (.cells #[a, b, c] 65)) := Ext.alloc (Ext.refl w) _
  have e2 := Ext.alloc (Ext.refl (w.alloc (.cells #[a, b, c] 65))) (.cells #[v, .int .i64 x.Den] 68)
  have r1 := VRow.ext (vrow_alloc w [a, b, c] 65) e2
  have r2 := vrow_alloc (w.alloc (.cells #[a, b, c] 65)) [v, .int .i64 x.Den] 68
  have e : (w.alloc (.cells #[a, b, c] 65)).heap.size = w.heap.size + 1 := by simp
  rw [e] at r2
  exact ⟨Ext.trans e1 e2, prgAt_ext hp (Ext.trans e1 e2), hx.ext (Ext.trans e1 e2), VRow.cell r1 (k := 0) rfl, VRow.cell r1 (k := 1) rfl, VRow.cell r1 (k := 2) rfl, VRow.cell r2 (k := 0) rfl, VRow.cell r2 (k := 1) rfl⟩
theorem Boxes.later {w w1 w2 : World} {a b c v : Value} {p : Prg} {x : Pnt} (h : Boxes w w1 a b c v p x) (he : Ext w1 w2) : Boxes w w2 a b c v p x :=
  ⟨Ext.trans h.ext he, prgAt_ext h.prg he, h.num.ext he, Ext.cell he h.c0, Ext.cell he h.c1, Ext.cell he h.c2, Ext.cell he h.d0, Ext.cell he h.d1⟩
theorem boxes5 {w w1 w2 : World} {a b c v : Value} {d : Int} (he : Ext w1 w2) (h : w1.cell? ⟨w.heap.size, 0, none⟩ = some a ∧ w1.cell? ⟨w.heap.size, 1, none⟩ = some b ∧ w1.cell? ⟨w.heap.size, 2, none⟩ = some c ∧ w1.cell? ⟨w.heap.size + 1, 0, none⟩ = some v ∧ w1.cell? ⟨w.heap.size + 1, 1, none⟩ = some (.int .i64 d)) :
    w2.cell? ⟨w.heap.size, 0, none⟩ = some a ∧ w2.cell? ⟨w.heap.size, 1, none⟩ = some b ∧ w2.cell? ⟨w.heap.size, 2, none⟩ = some c ∧ w2.cell? ⟨w.heap.size + 1, 0, none⟩ = some v ∧ w2.cell? ⟨w.heap.size + 1, 1, none⟩ = some (.int .i64 d) :=
  ⟨Ext.cell he h.1, Ext.cell he h.2.1, Ext.cell he h.2.2.1, Ext.cell he h.2.2.2.1, Ext.cell he h.2.2.2.2⟩
theorem Ext.drew {a b : World} (h : Ext a b) : Ext a b.drew := Below.drew h

def MP.clos (f : FuncId) (p : Int → Bool) : MP := ⟨fun u w => ∃ g m, u = .func (.func f) #[] #[.pointer (some ⟨g, 0, none⟩)] ∧ w.cell? ⟨g, 0, none⟩ = some (.int .i64 m) ∧ ∀ W : World, W.cell? ⟨g, 0, none⟩ = some (.int .i64 m) → ClosB W f (.pointer (some ⟨g, 0, none⟩)) p,
  fun _ _ _ h ⟨g, m, e, hc, hh⟩ => ⟨g, m, e, Ext.cell h hc, hh⟩⟩
def MP.ints (xs : List Int) : MP := ⟨fun u w => Ints w u xs, fun _ _ _ h hh => Ints.ext hh h⟩
theorem len_succ {vs : List Value} {n : Nat} (h : vs.length = n + 1) : ∃ x t, vs = x :: t ∧ t.length = n := by
  cases vs with
  | nil => simp at h
  | cons x t => exact ⟨x, t, rfl, by simpa using h⟩
theorem st_value {P : Program} {St : World → World → Prop} {G : Value → World → Prop} {w : World} {r : Result Next} {v : Value} (hr : r = .ok (.value v) w) (hs : St w w) (hg : G v w) : stUpon P St G w r := by
  subst hr; exact ⟨hs, hg⟩
theorem st_enter {P : Program} {St : World → World → Prop} {G : Value → World → Prop} {w : World} {r : Result Next} {f : FuncId} {args : Array Value} (hr : r = .ok (.enter f args) w)
    (h : Calls P f args w fun e w'' => ∃ v, e = .returned v ∧ St w w'' ∧ G v w'') : stUpon P St G w r := by
  subst hr; exact h
theorem pick_and {P : Program} {w : World} {ev : Operand → Value} {o : Oper} {t t2 : Tmp} {b b2 : Bool} {G : Value → World → Prop} (h1 : ev (.tmp t) = .bool b) (hc : ev (.const (.bool false)) = .bool false)
    (h2 : b = true → ev (.tmp t2) = .bool b2) (ho : o.op = .pick (.tmp t) (.tmp t2) (.const (.bool false))) (hG : G (.bool (b && b2)) w) : stUpon P (fun x y => Below x.heap.size x y) G w ((execOp ev o).run P w) := by
  refine st_value (v := .bool (b && b2)) ?_ (Below.refl _ _) hG
  cases b
  · simp [execOp, ho, go_sem, h1, hc]
  · simp [execOp, ho, go_sem, h1, h2 rfl]
theorem pB {p : Prg} (h : programB p = true) : p.A.length ≤ 6 ∧ p.C.length ≤ 6 ∧ p.B.length = p.A.length ∧ ∀ r ∈ p.A, r.length = p.C.length := by
  simp only [programB, equationsB, rowsB, costsB, widthB, rowB, Bool.and_eq_true, decide_eq_true_eq, List.all_eq_true] at h
  obtain ⟨⟨⟨⟨⟨_, h2⟩, h3⟩, h4⟩, ⟨h5, _⟩⟩, _⟩ := h
  exact ⟨h3, by omega, by omega, fun r hr => by have := (h4 r hr).1; omega⟩
theorem xB {x : Pnt} {n : Nat} (h : properB x n = true) : x.Num.length = n := by
  simp only [properB, Bool.and_eq_true, decide_eq_true_eq] at h
  have := h.1.1.1
  omega
theorem and2 {a b c : Bool} (h : (a && b && c) = true) : (a && b) = true := by cases a <;> cases b <;> cases c <;> simp_all
theorem and3 {a b c d : Bool} (h : (a && b && c && d) = true) : (a && b) = true := by cases a <;> cases b <;> cases c <;> cases d <;> simp_all
theorem and2l {a b : Bool} (h : (a && b) = true) : a = true := by cases a <;> simp_all
theorem and2r {a b : Bool} (h : (a && b) = true) : b = true := by cases a <;> simp_all
theorem rows_le {p : Prg} {x : Pnt} (h : (programB p && properB x p.C.length) = true) : ∀ r ∈ p.A, r.length ≤ x.Num.length := fun r hr => by
  have h1 := (pB (and2l h)).2.2.2 r hr
  have h2 := xB (and2r h)
  omega
theorem rows_few {p : Prg} {b : Bool} (h : (programB p && b) = true) : p.A.length ≤ 1000 := by have := (pB (and2l h)).1; omega
theorem c_few {p : Prg} {b : Bool} (h : (programB p && b) = true) : p.C.length ≤ 1000 := by have := (pB (and2l h)).2.1; omega
theorem c_le {p : Prg} {x : Pnt} (h : (programB p && properB x p.C.length) = true) : p.C.length ≤ x.Num.length := by have := xB (and2r h); omega
theorem rows_ce {p : Prg} {b : Bool} (h : (programB p && b) = true) : ∀ r ∈ p.A, r.length ≤ p.C.length := fun r hr => by have := (pB (and2l h)).2.2.2 r hr; omega
theorem a_le {p : Prg} {x : Pnt} (h : (programB p && properB x p.A.length) = true) : p.A.length ≤ x.Num.length := by have := xB (and2r h); omega
theorem n_b {p : Prg} {x : Pnt} (h : (programB p && properB x p.A.length) = true) : x.Num.length ≤ p.B.length := by have := xB (and2r h); have := (pB (and2l h)).2.2.1; omega
theorem rs_len (a : List (List Int)) (x : List Int) : (rowSumsZ a x).length = a.length := by simp [rowSumsZ]
theorem rs_b {p : Prg} {b : Bool} (x : List Int) (h : (programB p && b) = true) : (rowSumsZ p.A x).length ≤ p.B.length := by rw [rs_len]; have := (pB (and2l h)).2.2.1; omega
theorem rs_few {p : Prg} {b : Bool} (x : List Int) (h : (programB p && b) = true) : (rowSumsZ p.A x).length ≤ 1000 := by rw [rs_len]; have := (pB (and2l h)).1; omega
def colSums (p : Prg) (y : List Int) : List Int := colSumsZ (List.replicate p.C.length 0) p.A y
theorem cs_len (p : Prg) (y : List Int) : (colSums p y).length = p.C.length := by simp [colSums, colSumsZ_length]
theorem cs_c (p : Prg) (y : List Int) : (colSums p y).length ≤ p.C.length := by rw [cs_len]; omega
theorem cs_few {p : Prg} {b : Bool} (y : List Int) (h : (programB p && b) = true) : (colSums p y).length ≤ 1000 := by rw [cs_len]; exact c_few h
end Go.Proofs.Ytblaipkhmmaenaa
