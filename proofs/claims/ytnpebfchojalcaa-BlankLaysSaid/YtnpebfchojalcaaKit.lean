import Derived.Test.YtnpebfchojalcaaStabIn
import Derived.Test.YtnpebfchojalcaaW1
import Derived.Test.YtnpebfchojalcaaV1
namespace Go.Proofs.Ytnpebfchojalcaa
set_option maxRecDepth 100000
open Go.RowKit
theorem Ext.drew {a b : World} (h : Ext a b) : Ext a b.drew := Below.drew h
def MP.ints (xs : List Int) : MP := ⟨fun u w => Ints w u xs, fun _ _ _ h hh => Ints.ext hh h⟩
theorem len_succ {vs : List Value} {n : Nat} (h : vs.length = n + 1) : ∃ x t, vs = x :: t ∧ t.length = n := by
  cases vs with
  | nil => simp at h
  | cons x t => exact ⟨x, t, rfl, by simpa using h⟩
theorem st_value {P : Program} {St : World → World → Prop} {G : Value → World → Prop} {w : World} {r : Result Next} {v : Value} (hr : r = .ok (.value v) w) (hs : St w w) (hg : G v w) : stUpon P St G w r := by
  subst hr; exact ⟨hs, hg⟩
theorem st_enter {P : Program} {St : World → World → Prop} {G : Value → World → Prop} {w : World} {r : Result Next} {f : FuncId} {args : Array Value} (hr : r = .ok (.enter f args) w)
    (h : Calls P f args w fun e w'' => ∃ v, e = .returned v ∧ St w w'' ∧ G v w'') : stUpon P St G w r := by
  subst hr; exact h
theorem st_new {P : Program} {G : Value → World → Prop} {w : World} {r : Result Next} {v : Value} {o : Obj} (hr : r = .ok (.value v) (w.alloc o)) (hg : G v (w.alloc o)) : stUpon P (fun x y => Below x.heap.size x y) G w r := by
  subst hr
  exact ⟨(Below.refl _ _).alloc (Nat.le_refl _) _, hg⟩
theorem pick_or {P : Program} {w : World} {ev : Operand → Value} {o : Oper} {t t2 : Tmp} {b b2 : Bool} {G : Value → World → Prop} (h1 : ev (.tmp t) = .bool b) (hc : ev (.const (.bool true)) = .bool true)
    (h2 : b = false → ev (.tmp t2) = .bool b2) (ho : o.op = .pick (.tmp t) (.const (.bool true)) (.tmp t2)) (hG : G (.bool (b || b2)) w) : stUpon P (fun x y => Below x.heap.size x y) G w ((execOp ev o).run P w) := by
  refine st_value (v := .bool (b || b2)) ?_ (Below.refl _ _) hG
  cases b
  · simp [execOp, ho, go_sem, h1, h2 rfl]
  · simp [execOp, ho, go_sem, h1, hc]
/-- a call whose end is known -/
theorem st_call {P : Program} {G : Value → World → Prop} {w : World} {r : Result Next} {f : FuncId} {args : Array Value} {u : Value} (hr : r = .ok (.enter f args) w)
    (h : Calls P f args w fun e w'' => e = .returned u ∧ Ext w w'') (hg : ∀ w'', Ext w w'' → G u w'') : stUpon P (fun x y => Below x.heap.size x y) G w r :=
  st_enter hr (h.mono fun _ w'' he => ⟨u, he.1, he.2, hg w'' he.2⟩)
theorem calls_same {f : FuncId} {args : Array Value} {w : World} {u : Value} (h : Calls Try.prog f args w fun e w' => e = .returned u ∧ w = w') : Calls Try.prog f args w fun e w' => e = .returned u ∧ Ext w w' :=
  h.mono fun _ _ he => ⟨he.1, by rw [← he.2]; exact Ext.refl _⟩
theorem calls_marks {P : Program} {f : FuncId} {fn : Func} {c : Code} {args : Array Value} {w : World} {R : Ending → World → Prop}
    (hf : P.funcs[f]? = some fn) (hb : fn.body = some c) (h : c.wp P (bodyPostM Fence.wide 9 P fn R) { tmps := args ++ Array.replicate (fn.ntmps - args.size) undef, defers := [] } w) : Calls P f args w R :=
  callsIn_wide.1 (callsIn_of_wp_marks (n := 9) hf hb trivial (wpIn_wide.2 h) rfl)
end Go.Proofs.Ytnpebfchojalcaa
