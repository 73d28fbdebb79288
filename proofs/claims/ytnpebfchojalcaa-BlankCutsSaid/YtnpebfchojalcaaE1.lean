import Derived.Test.YtnpebfchojalcaaD2
import Derived.Maps.OwnIn
namespace Go.Proofs.Ytnpebfchojalcaa
set_option maxRecDepth 100000
open Go.RowKit Go.Shelf
theorem info53 : (Try.prog.info? 53).map (fun i => (i.zero, i.size, i.bytes)) = some (some (.agg #[.int .i64 0, .int .i64 0, .int .i64 0]), 3, 24) := by kernel_rfl
def itCells : List It → List Value
  | [] => []
  | t :: r => .int .i64 t.1 :: .int .i64 t.2.1 :: .int .i64 t.2.2 :: itCells r
theorem itCells_append : ∀ (a b : List It), itCells (a ++ b) = itCells a ++ itCells b := by
  intro a
  induction a with
  | nil => intro b; rfl
  | cons x a ih => intro b; simp [itCells, ih]
theorem itCells_at : ∀ (ts : List It) (k : Nat) (t : It), ts[k]? = some t → (itCells ts)[k * 3]? = some (.int .i64 t.1) ∧ (itCells ts)[k * 3 + 1]? = some (.int .i64 t.2.1) ∧ (itCells ts)[k * 3 + 2]? = some (.int .i64 t.2.2) := by
  intro ts
  induction ts with
  | nil => intro k t h; simp at h
  | cons x r ih =>
    intro k t h
    cases k with
    | zero =>
      have e : x = t := by simpa using h
      subst e
      exact ⟨rfl, rfl, rfl⟩
    | succ k =>
      have := ih k t (by simpa using h)
      have e1 : (k + 1) * 3 = k * 3 + 1 + 1 + 1 := by omega
      rw [e1]
      simpa [itCells] using this
theorem items_own {W : World} {base : Nat} {v : Value} {ts : List It} (h : W.ownsRow base 53 3 v ts.length (itCells ts)) (hm : ts.length ≤ 1000000) : Items W v ts := by
  rcases h.2 with ⟨hv, hn⟩ | ⟨g, cap, cur, hv, hg, hc, hnc, hmx, hsz, htk⟩
  · have : ts = [] := List.length_eq_zero_iff.1 hn
    subst this
    exact ⟨none, 0, hv, Nat.le_refl _, by omega, .inl rfl⟩
  · refine ⟨_, cap, hv, hnc, by unfold maxLen at hmx; omega, .inr ⟨g, 0, rfl, fun k q hk => ?_⟩⟩
    have hlt := lt_len hk
    obtain ⟨h1, h2, h3⟩ := itCells_at ts k q hk
    rw [← htk] at h1 h2 h3
    rw [List.getElem?_take_of_lt (by omega), Array.getElem?_toList] at h1 h2 h3
    simp only [World.cell?, hc, Nat.zero_add]
    exact ⟨by simp [h1], by simp [h2], by simp [h3]⟩
/-- a slice of one item, made anew -/
def MP.item (s : Nat) (x y z : Int) : MP := ⟨fun v W => ∃ r, v = .slice (some ⟨r, 0, none⟩) 1 1 ∧ VRow W r 53 [.int .i64 x, .int .i64 y, .int .i64 z] ∧ s ≤ r, fun _ _ _ h hh => by
  obtain ⟨r, e, h1, h2⟩ := hh
  exact ⟨r, e, VRow.ext h1 h, h2⟩⟩
theorem three_cells {W : World} {r : Nat} {t : TypeId} {x y z : Value} (h : VRow W r t [x, y, z]) (j : Nat) (u : Value) (hj : [x, y, z][j]? = some u) : W.cell? ((⟨r, 0, none⟩ : Addr).add j) = some u := by
  have h0 := VRow.cell h (k := 0) rfl
  have h1 := VRow.cell h (k := 1) rfl
  have h2 := VRow.cell h (k := 2) rfl
  match j, hj with
  | 0, hj => injection hj with hj; subst hj; exact h0
  | 1, hj => injection hj with hj; subst hj; exact h1
  | 2, hj => injection hj with hj; subst hj; exact h2
theorem list_of {α : Type} {vs ws : List α} (hl : vs.length = ws.length) (h : ∀ (i : Nat) (u : α), vs[i]? = some u → ws[i]? = some u) : vs = ws := by
  apply List.ext_getElem?
  intro i
  by_cases hi : i < vs.length
  · have e := List.getElem?_eq_getElem hi
    rw [e, h i _ e]
  · rw [List.getElem?_eq_none (by omega), List.getElem?_eq_none (by omega)]
/-- an append to a row of one's own, as the operation behind all the others of its region -/
theorem operIn_append_own {F : Fence} {nF : Nat} {P : Program} (w : World) {o : Oper} {a : Act} {K : Act → World → Prop} {Q : Exit → Act → World → Prop} (s x : Operand) (t : TypeId)
    (ho : o.op = .call { callee := .builtin .append, args := #[s, x], argTypes := #[t, t] })
    (base : Nat) (e : TypeId) (i : TypeInfo) (z : Value) (size bytes : Nat) (ht : P.underlying t = some (.slice e)) (hi : P.info? e = some i) (hz : i.zero = some z)
    (hsize : i.size = size) (hby : i.bytes = bytes) (hzs : z.cells.size = size) (hsz : 0 < size)
    (v : Value) (n : Nat) (xs : List Value) (hs : a.eval s = v) (hown : w.ownsRow base e size v n xs)
    (ad : Addr) (m c : Nat) (news : List Value) (hx : a.eval x = .slice (some ad) m c) (hl : news.length = m * size) (hnews : ∀ j u, news[j]? = some u → w.cell? (ad.add j) = some u) (h1 : ∀ u ∈ news, u.oneCell' = true)
    (h63 : n + m ≤ maxLen) (hbytes : (n + m) * bytes ≤ 140737488355328) (hbase : base ≤ w.heap.size)
    (h : ∀ v' w', w'.ownsRow base e size v' (n + m) (xs ++ news) → w.grownBy w' v.ownBlock → (v'.ownBlock = v.ownBlock ∨ v'.ownBlock = some w.heap.size) → K (a.put o.dst v') w') :
    o.wpIn F nF P a w K Q := by
  obtain ⟨v', w', hr, h2, h3, h4, h5⟩ := run_append_own_at (P := P) w base t o.type e i z size bytes ht hi hz hsize hby hzs hsz v n xs hown ad m c news hl hnews h1 h63 hbytes hbase
  unfold Oper.wpIn
  refine ⟨by simp [Oper.about, ho, resolve, Target.leads, Sem.run_pure], ?_⟩
  rw [Oper.semAt_plain F _ _ (by rw [ho]; intro c hc'; cases hc')]
  simp [execOp, ho, resolve, invoke, builtin, hs, hx, hr, Result.andThen]
  exact h v' w' h2 h3 h5
def dearIt (m : Int) (t : It) : It := (t.1, t.2.1, if 1048576 < t.2.2 + m then 1048576 else t.2.2 + m)
theorem dear_all {m : Int} (hm : 0 ≤ m) {ts : List It} (h : ts.all itemB = true) : (ts.map (dearIt m)).all itemB = true ∧ ∀ t ∈ ts, (dearIt m t).1 = t.1 ∧ (dearIt m t).2.1 = t.2.1 ∧ t.2.2 ≤ (dearIt m t).2.2 := by
  rw [List.all_eq_true] at h
  have key : ∀ t ∈ ts, itemB (dearIt m t) = true ∧ t.2.2 ≤ (dearIt m t).2.2 := fun t ht => by
    have := h t ht
    simp only [itemB, Bool.and_eq_true, decide_eq_true_eq] at this ⊢
    unfold dearIt
    simp only
    split <;> (refine ⟨⟨⟨this.1.1, ?_⟩, ?_⟩, ?_⟩ <;> omega)
  refine ⟨?_, fun t ht => ⟨rfl, rfl, (key t ht).2⟩⟩
  rw [List.all_eq_true]
  intro t ht
  rw [List.mem_map] at ht
  obtain ⟨s, hs, rfl⟩ := ht
  exact (key s hs).1
theorem turn_all {ts : List It} (h : ts.all itemB = true) : (ts.map turnIt).all itemB = true := by
  rw [List.all_eq_true] at h ⊢
  intro t ht
  rw [List.mem_map] at ht
  obtain ⟨s, hs, rfl⟩ := ht
  have := h s hs
  simp only [itemB, Bool.and_eq_true, decide_eq_true_eq, turnIt] at this ⊢
  have h2 := sheet_in this.1.1
  exact ⟨⟨sheet_ok (by omega), decide_eq_true this.1.2⟩, decide_eq_true this.2⟩
theorem ord_zero {x y : Int} {ts : List It} (h : 1 ≤ x ∧ x ≤ 100 ∧ 1 ≤ y ∧ y ≤ 100) (hn : ts.length ≤ 10) (ha : ts.all itemB = true) : ordZ x y ts = 0 := by
  unfold ordZ
  rw [sheet_ok h, if_neg (by decide), if_neg (by omega), if_pos ha]
/-- the value of Best where it succeeds -/
theorem best_val {ts : List It} {x y : Int} {e : Ending} {w : World} (h : BestS ts x y e w) (h0 : ordZ x y ts = 0) : ∃ v', e = three (.int .i64 (bestV ts x.toNat y.toNat)) v' (.int .i64 0) ∧ Vecs w v' (planZ ts x.toNat y.toNat) := by
  rcases h with ⟨h1, _⟩ | ⟨_, h2⟩
  · exact absurd h0 h1
  · exact h2
theorem best_err {ts : List It} {x y : Int} {e : Ending} {w : World} (h : BestS ts x y e w) (h0 : ordZ x y ts ≠ 0) : e = three (.int .i64 0) (.slice none 0 0) (.int .i64 (ordZ x y ts)) := by
  rcases h with ⟨_, h1⟩ | ⟨h1, _⟩
  · exact h1
  · exact absurd h1 h0
end Go.Proofs.Ytnpebfchojalcaa
