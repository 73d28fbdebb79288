import Derived.Test.YtnpebfchojalcaaS4
import Derived.Laws.AppendOwnNone
namespace Go.Proofs.Ytnpebfchojalcaa
set_option maxRecDepth 100000
open Go.RowKit Go.Shelf
theorem cellsOf_get : ∀ (qs : List Pt) (j : Nat) (u : Value), (cellsOf qs)[j]? = some u → ∃ (k : Nat) (q : Pt), qs[k]? = some q ∧ ((j = k * 2 ∧ u = .int .i64 q.1) ∨ (j = k * 2 + 1 ∧ u = .int .i64 q.2)) := by
  intro qs
  induction qs with
  | nil => intro j u h; simp [cellsOf] at h
  | cons a r ih =>
    intro j u h
    match j, h with
    | 0, h => simp [cellsOf] at h; exact ⟨0, a, rfl, .inl ⟨rfl, h.symm⟩⟩
    | 1, h => simp [cellsOf] at h; exact ⟨0, a, rfl, .inr ⟨rfl, h.symm⟩⟩
    | j + 2, h =>
      obtain ⟨k, q, hk, hh⟩ := ih j u (by simpa [cellsOf] using h)
      exact ⟨k + 1, q, by simpa using hk, hh.imp (fun ⟨a, b⟩ => ⟨by omega, b⟩) (fun ⟨a, b⟩ => ⟨by omega, b⟩)⟩
theorem add_addr (b o j : Nat) : (⟨b, o, none⟩ : Addr).add j = ⟨b, o + j, none⟩ := by
  unfold Addr.add
  cases j with
  | zero => rfl
  | succ j => simp
theorem pts_cells {w : World} {b o : Nat} {qs : List Pt} (h : PtsAt w b o qs) (j : Nat) (u : Value) (hj : (cellsOf qs)[j]? = some u) : w.cell? ((⟨b, o, none⟩ : Addr).add j) = some u := by
  obtain ⟨k, q, hk, hh⟩ := cellsOf_get qs j u hj
  obtain ⟨h1, h2⟩ := h k q hk
  rw [add_addr]
  rcases hh with ⟨rfl, rfl⟩ | ⟨rfl, rfl⟩
  · exact h1
  · exact h2
theorem cellsOf_one {qs : List Pt} : ∀ u ∈ cellsOf qs, u.oneCell' = true := by
  intro u hu
  obtain ⟨j, hj⟩ := List.mem_iff_getElem?.1 hu
  obtain ⟨k, q, hk, hh⟩ := cellsOf_get qs j u hj
  rcases hh with ⟨_, rfl⟩ | ⟨_, rfl⟩ <;> rfl
theorem vecs_some {w : World} {ad : Addr} {n cap : Nat} {P : List Pt} (h : Vecs w (.slice (some ad) n cap) P) : n = P.length ∧ ∀ (j : Nat) (u : Value), (cellsOf P)[j]? = some u → w.cell? (ad.add j) = some u := by
  obtain ⟨a, c, e, _, _, hr⟩ := h
  injection e with e1 e2 e3
  refine ⟨e2, ?_⟩
  rcases hr with rfl | ⟨b, o, rfl, hp⟩
  · intro j u hj; simp [cellsOf] at hj
  · injection e1 with e1
    subst e1
    exact fun j u hj => pts_cells hp j u hj
theorem worth_two {ts : List It} {plan : List Ct} {x y : Int} {e1 e2 : Ending} {w1 w2 : World} (h1 : WorthS ts plan x y e1 w1) (h2 : WorthS ts plan x y e2 w2) :
    ∃ (b : Int) (cs : List Int) (c1 c2 : Value) (ok : Bool) (er : Int), e1 = four (.int .i64 b) c1 (.bool ok) (.int .i64 er) ∧ e2 = four (.int .i64 b) c2 (.bool ok) (.int .i64 er) ∧ Ints w1 c1 cs ∧ Ints w2 c2 cs := by
  have hn : ∀ w, Ints w (.slice none 0 0) [] := fun w => ⟨none, 0, rfl, Nat.le_refl _, by omega, .inl rfl⟩
  rcases h1 with ⟨a1, rfl⟩ | ⟨a1, a2, rfl⟩ | ⟨a1, a2, a3, rfl⟩ | ⟨a1, a2, v, cs, cv, a3, rfl, a4⟩
  · rcases h2 with ⟨b1, rfl⟩ | ⟨b1, b2, rfl⟩ | ⟨b1, b2, b3, rfl⟩ | ⟨b1, b2, v, cs, cv, b3, rfl, b4⟩
    · exact ⟨_, [], _, _, _, _, rfl, rfl, hn _, hn _⟩
    all_goals exact absurd b1 a1
  · rcases h2 with ⟨b1, rfl⟩ | ⟨b1, b2, rfl⟩ | ⟨b1, b2, b3, rfl⟩ | ⟨b1, b2, v, cs, cv, b3, rfl, b4⟩
    · exact absurd a1 b1
    · exact ⟨_, [], _, _, _, _, rfl, rfl, hn _, hn _⟩
    · omega
    · omega
  · rcases h2 with ⟨b1, rfl⟩ | ⟨b1, b2, rfl⟩ | ⟨b1, b2, b3, rfl⟩ | ⟨b1, b2, v, cs, cv, b3, rfl, b4⟩
    · exact absurd a1 b1
    · omega
    · exact ⟨_, [], _, _, _, _, rfl, rfl, hn _, hn _⟩
    · exact absurd b3 (a3 _ _)
  · rcases h2 with ⟨b1, rfl⟩ | ⟨b1, b2, rfl⟩ | ⟨b1, b2, b3, rfl⟩ | ⟨b1, b2, v', cs', cv', b3, rfl, b4⟩
    · exact absurd a1 b1
    · omega
    · exact absurd a3 (b3 _ _)
    · rw [a3] at b3
      injection b3 with b3
      injection b3 with _ b3
      injection b3 with e1 e2
      subst e1 e2
      exact ⟨_, cs, _, _, _, _, rfl, rfl, a4, b4⟩
theorem worth_pair {ts : List It} {plan : List Ct} {x y : Int} {e1 : Ending} {w1 : World} (h1 : WorthS ts plan x y e1 w1) :
    ∃ (b : Int) (cs : List Int) (a1 : Option Addr) (n1 : Nat) (ok : Bool) (er : Int), e1 = four (.int .i64 b) (.slice a1 cs.length n1) (.bool ok) (.int .i64 er) ∧ Ints w1 (.slice a1 cs.length n1) cs ∧
      ∀ e2 w2, WorthS ts plan x y e2 w2 → ∃ (a2 : Option Addr) (n2 : Nat), e2 = four (.int .i64 b) (.slice a2 cs.length n2) (.bool ok) (.int .i64 er) ∧ Ints w2 (.slice a2 cs.length n2) cs := by
  obtain ⟨b, cs, c1, c2, ok, er, rfl, _, hi, _⟩ := worth_two h1 h1
  obtain ⟨a1, n1, rfl, _⟩ := hi.at
  refine ⟨b, cs, a1, n1, ok, er, rfl, hi, fun e2 w2 h2 => ?_⟩
  obtain ⟨b', cs', c1', c2', ok', er', q1, rfl, hi1, hi2⟩ := worth_two h1 h2
  simp only [four, Ending.returned.injEq, Value.tuple.injEq, Array.mk.injEq, List.cons.injEq, Value.int.injEq, Value.bool.injEq, true_and, and_true] at q1
  obtain ⟨rfl, rfl, rfl, rfl⟩ := q1
  have hcs : cs = cs' := by
    obtain ⟨aa, cc, ee, _, _, h3⟩ := hi.at
    obtain ⟨aa', cc', ee', _, _, h3'⟩ := hi1.at
    injection ee with e1 e2 e3
    injection ee' with e1' e2' e3'
    refine List.ext_getElem? fun k => ?_
    by_cases hk : k < cs.length
    · obtain ⟨p, hp⟩ := getElem?_len hk
      obtain ⟨q, hq⟩ := getElem?_len (show k < cs'.length by omega)
      obtain ⟨b1, o1, f1, g1⟩ := h3 k p hp
      obtain ⟨b2, o2, f2, g2⟩ := h3' k q hq
      rw [← e1] at f1
      rw [← e1'] at f2
      rw [f1] at f2
      simp only [Option.some.injEq, Addr.mk.injEq, and_true] at f2
      obtain ⟨rfl, rfl⟩ := f2
      rw [g1] at g2
      simp only [Option.some.injEq, Value.int.injEq, true_and] at g2
      rw [hp, hq, g2]
    · rw [List.getElem?_eq_none (by omega), List.getElem?_eq_none (by omega)]
  subst hcs
  obtain ⟨a2, n2, rfl, _⟩ := hi2.at
  exact ⟨a2, n2, rfl, hi2⟩
end Go.Proofs.Ytnpebfchojalcaa
