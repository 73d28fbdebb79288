import Derived.Test.YtnpebfchojalcaaL4
import Derived.Test.YtnpebfchojalcaaC4
namespace Go.Proofs.Ytnpebfchojalcaa
set_option maxRecDepth 100000
open Go.RowKit Go.Shelf
/-- the best of a start and of offers, one after another -/
def runK (o : Nat → Option It) (b : It) : Nat → It
  | 0 => b
  | k + 1 => match o k with | none => runK o b k | some t => pickZ (runK o b k) t
theorem runK_ge {o : Nat → Option It} {b : It} : ∀ n, b.1 ≤ (runK o b n).1 ∧ ∀ i, i < n → ∀ t, o i = some t → t.1 ≤ (runK o b n).1 := by
  intro n
  induction n with
  | zero => exact ⟨Int.le_refl _, fun i hi => by omega⟩
  | succ n ih =>
    simp only [runK]
    cases ho : o n with
    | none =>
      refine ⟨ih.1, fun i hi t ht => ?_⟩
      by_cases e : i = n
      · subst e; rw [ho] at ht; cases ht
      · exact ih.2 i (by omega) t ht
    | some s =>
      have := pickZ_ge (runK o b n) s
      refine ⟨by have := ih.1; simp only; omega, fun i hi t ht => ?_⟩
      by_cases e : i = n
      · subst e; rw [ho] at ht; injection ht with ht; subst ht; exact this.2
      · have := ih.2 i (by omega) t ht; simp only; omega
theorem runK_or {o : Nat → Option It} {b : It} : ∀ n, runK o b n = b ∨ ∃ i, i < n ∧ o i = some (runK o b n) := by
  intro n
  induction n with
  | zero => exact .inl rfl
  | succ n ih =>
    simp only [runK]
    cases ho : o n with
    | none =>
      rcases ih with h | ⟨i, h1, h2⟩
      · exact .inl h
      · exact .inr ⟨i, by omega, h2⟩
    | some s =>
      simp only
      rcases pickZ_or (runK o b n) s with e | e
      · rw [e]
        rcases ih with h | ⟨i, h1, h2⟩
        · exact .inl h
        · exact .inr ⟨i, by omega, h2⟩
      · rw [e]; exact .inr ⟨n, by omega, ho⟩
theorem runK_same {o : Nat → Option It} {b : It} : ∀ n, (runK o b n).1 = b.1 → runK o b n = b := by
  intro n
  induction n with
  | zero => intro _; rfl
  | succ n ih =>
    simp only [runK]
    cases ho : o n with
    | none => exact ih
    | some s =>
      simp only
      have hg := (runK_ge (o := o) (b := b) n).1
      unfold pickZ
      split
      · intro h; omega
      · exact ih
theorem runK_first {o : Nat → Option It} {b t : It} : ∀ n i, i < n → o i = some t → t.1 = (runK o b n).1 → b.1 < t.1 → (∀ j, j < i → ∀ s, o j = some s → s.1 ≠ t.1) → runK o b n = t := by
  intro n
  induction n with
  | zero => intro i hi; omega
  | succ n ih =>
    intro i hi hoi ht hb hf
    have hg := runK_ge (o := o) (b := b) n
    simp only [runK] at ht ⊢
    cases ho : o n with
    | none =>
      rw [ho] at ht
      have : i ≠ n := fun e => by subst e; rw [ho] at hoi; cases hoi
      exact ih i (by omega) hoi ht hb hf
    | some s =>
      rw [ho] at ht
      simp only at ht ⊢
      unfold pickZ at ht ⊢
      split at ht
      · rename_i hlt
        rw [if_pos hlt]
        by_cases e : i = n
        · subst e; rw [ho] at hoi; injection hoi
        · have := hg.2 i (by omega) t hoi; omega
      · rename_i hlt
        rw [if_neg hlt]
        by_cases e : i = n
        · subst e
          rcases runK_or (o := o) (b := b) i with h | ⟨j, h1, h2⟩
          · rw [h] at ht; omega
          · exact absurd ht.symm (hf j h1 _ h2)
        · exact ih i (by omega) hoi ht hb hf
def itemO (ts : List It) (w h j : Nat) : Option It := if fitsB w h (ts.getD j (0, 0, 0)) then some ((ts.getD j (0, 0, 0)).2.2, 1, (j : Int)) else none
def wideO (V : Nat → Nat → Int) (w h k : Nat) : Option It := some (V (k + 1) h + V (w - (k + 1)) h, 2, (k : Int) + 1)
def highO (V : Nat → Nat → Int) (w h k : Nat) : Option It := some (V w (k + 1) + V w (h - (k + 1)), 3, (k : Int) + 1)
theorem itemsK_run (ts : List It) (w h : Nat) : ∀ k, itemsK ts w h k = runK (itemO ts w h) (0, 0, 0) k := by
  intro k
  induction k with
  | zero => rfl
  | succ k ih =>
    simp only [itemsK, runK, itemO, ih]
    split <;> rfl
theorem widesK_run (V : Nat → Nat → Int) (w h : Nat) (b : It) : ∀ k, widesK V w h b k = runK (wideO V w h) b k := by
  intro k
  induction k with
  | zero => rfl
  | succ k ih => simp only [widesK, runK, wideO, ih]
theorem highsK_run (V : Nat → Nat → Int) (w h : Nat) (b : It) : ∀ k, highsK V w h b k = runK (highO V w h) b k := by
  intro k
  induction k with
  | zero => rfl
  | succ k ih => simp only [highsK, runK, highO, ih]
/-- an item that fits and is worth this -/
def itemIs (ts : List It) (w h : Nat) (b : Int) (j : Nat) : Prop := j < ts.length ∧ fitsB w h (ts.getD j (0, 0, 0)) = true ∧ (ts.getD j (0, 0, 0)).2.2 = b
def wideIs (ts : List It) (w h : Nat) (b : Int) (x : Nat) : Prop := 1 ≤ x ∧ x ≤ w / 2 ∧ bestV ts x h + bestV ts (w - x) h = b
def highIs (ts : List It) (w h : Nat) (b : Int) (y : Nat) : Prop := 1 ≤ y ∧ y ≤ h / 2 ∧ bestV ts w y + bestV ts w (h - y) = b
theorem rule_stages (ts : List It) (w h : Nat) :
    ∃ c1 c2 : It, c1 = runK (itemO ts w h) (0, 0, 0) ts.length ∧ c2 = runK (wideO (bestV ts) w h) c1 (w / 2) ∧ bestC ts w h = runK (highO (bestV ts) w h) c2 (h / 2) := by
  refine ⟨_, _, rfl, rfl, ?_⟩
  rw [bestC_eq]
  unfold chooseF
  rw [itemsK_run, widesK_run, highsK_run]
theorem rule_zero {ts : List It} {w h : Nat} (h0 : bestV ts w h = 0) : bestC ts w h = (0, 0, 0) := by
  obtain ⟨c1, c2, e1, e2, e3⟩ := rule_stages ts w h
  have g1 := (runK_ge (o := itemO ts w h) (b := (0, 0, 0)) ts.length).1
  have g2 := (runK_ge (o := wideO (bestV ts) w h) (b := c1) (w / 2)).1
  have g3 := (runK_ge (o := highO (bestV ts) w h) (b := c2) (h / 2)).1
  have hv : (bestC ts w h).1 = 0 := h0
  rw [← e1] at g1
  rw [← e2] at g2
  rw [← e3, hv] at g3
  simp only at g1
  rw [e3, runK_same _ (by rw [← e3, hv]; omega), e2, runK_same _ (by rw [← e2]; omega), e1, runK_same _ (by rw [← e1]; simp only; omega)]
theorem rule_item {ts : List It} {w h j : Nat} {b : Int} (hb : bestV ts w h = b) (h0 : b ≠ 0) (hj : itemIs ts w h b j) (hf : ∀ i, i < j → ¬ itemIs ts w h b i) : bestC ts w h = (b, 1, (j : Int)) := by
  obtain ⟨c1, c2, e1, e2, e3⟩ := rule_stages ts w h
  have hnn := bestV_nonneg ts w h
  have g1 := runK_ge (o := itemO ts w h) (b := (0, 0, 0)) ts.length
  have g2 := (runK_ge (o := wideO (bestV ts) w h) (b := c1) (w / 2)).1
  have g3 := (runK_ge (o := highO (bestV ts) w h) (b := c2) (h / 2)).1
  have hv : (bestC ts w h).1 = b := hb
  have ho : itemO ts w h j = some (b, 1, (j : Int)) := by unfold itemO; rw [if_pos hj.2.1, hj.2.2]
  have k1 := g1.2 j hj.1 _ ho
  rw [← e1] at k1 g1
  rw [← e2] at g2
  rw [← e3, hv] at g3
  simp only at k1
  rw [e3, runK_same _ (by rw [← e3, hv]; omega), e2, runK_same _ (by rw [← e2]; omega), e1]
  refine runK_first _ j hj.1 ho (by rw [← e1]; simp only; omega) (by simp only; omega) fun i hi s hs => ?_
  unfold itemO at hs
  split at hs
  · rename_i hft
    injection hs with hs
    subst hs
    exact fun e => hf i hi ⟨by have := hj.1; omega, hft, e⟩
  · cases hs
theorem rule_wide {ts : List It} {w h x : Nat} {b : Int} (hb : bestV ts w h = b) (h0 : b ≠ 0) (hi : ∀ i, ¬ itemIs ts w h b i) (hx : wideIs ts w h b x) (hf : ∀ i, i < x → ¬ wideIs ts w h b i) : bestC ts w h = (b, 2, (x : Int)) := by
  obtain ⟨c1, c2, e1, e2, e3⟩ := rule_stages ts w h
  have hnn := bestV_nonneg ts w h
  have g1 := runK_or (o := itemO ts w h) (b := (0, 0, 0)) ts.length
  have g2 := runK_ge (o := wideO (bestV ts) w h) (b := c1) (w / 2)
  have g3 := (runK_ge (o := highO (bestV ts) w h) (b := c2) (h / 2)).1
  have hv : (bestC ts w h).1 = b := hb
  have ho : wideO (bestV ts) w h (x - 1) = some (b, 2, (x : Int)) := by unfold wideO; have := hx.1; rw [show x - 1 + 1 = x by omega, hx.2.2]; congr 3; omega
  have k2 := g2.2 (x - 1) (by have := hx.1; have := hx.2.1; omega) _ ho
  rw [← e2] at k2 g2
  rw [← e3, hv] at g3
  have hc1 : c1.1 ≠ b := by
    rw [← e1] at g1
    rcases g1 with g1 | ⟨i, a1, a2⟩
    · rw [g1]; simp only; omega
    · intro e
      unfold itemO at a2
      split at a2
      · rename_i hft
        injection a2 with a2
        exact hi i ⟨a1, hft, by rw [← e, ← a2]⟩
      · cases a2
  simp only at k2
  rw [e3, runK_same _ (by rw [← e3, hv]; omega), e2]
  refine runK_first _ (x - 1) (by have := hx.1; have := hx.2.1; omega) ho (by rw [← e2]; simp only; omega) (by simp only; omega) fun i hi2 s hs => ?_
  unfold wideO at hs
  injection hs with hs
  subst hs
  exact fun e => hf (i + 1) (by omega) ⟨by omega, by have := hx.2.1; omega, e⟩
theorem rule_high {ts : List It} {w h y : Nat} {b : Int} (hb : bestV ts w h = b) (h0 : b ≠ 0) (hi : ∀ i, ¬ itemIs ts w h b i) (hw : ∀ i, ¬ wideIs ts w h b i) (hy : highIs ts w h b y) (hf : ∀ i, i < y → ¬ highIs ts w h b i) : bestC ts w h = (b, 3, (y : Int)) := by
  obtain ⟨c1, c2, e1, e2, e3⟩ := rule_stages ts w h
  have hnn := bestV_nonneg ts w h
  have g1 := runK_or (o := itemO ts w h) (b := (0, 0, 0)) ts.length
  have g2 := runK_or (o := wideO (bestV ts) w h) (b := c1) (w / 2)
  have g3 := runK_ge (o := highO (bestV ts) w h) (b := c2) (h / 2)
  have hv : (bestC ts w h).1 = b := hb
  have ho : highO (bestV ts) w h (y - 1) = some (b, 3, (y : Int)) := by unfold highO; have := hy.1; rw [show y - 1 + 1 = y by omega, hy.2.2]; congr 3; omega
  have hc1 : c1.1 ≠ b := by
    rw [← e1] at g1
    rcases g1 with g1 | ⟨i, a1, a2⟩
    · rw [g1]; simp only; omega
    · intro e
      unfold itemO at a2
      split at a2
      · rename_i hft
        injection a2 with a2
        exact hi i ⟨a1, hft, by rw [← e, ← a2]⟩
      · cases a2
  have hc2 : c2.1 ≠ b := by
    rw [← e2] at g2
    rcases g2 with g2 | ⟨i, a1, a2⟩
    · rw [g2]; exact hc1
    · intro e
      unfold wideO at a2
      injection a2 with a2
      exact hw (i + 1) ⟨by omega, by omega, by rw [← e, ← a2]⟩
  rw [← e3, hv] at g3
  rw [e3]
  refine runK_first _ (y - 1) (by have := hy.1; have := hy.2.1; omega) ho (by rw [← e3, hv]) (by have := g3.1; simp only; omega) fun i hi2 s hs => ?_
  unfold highO at hs
  injection hs with hs
  subst hs
  exact fun e => hf (i + 1) (by omega) ⟨by omega, by have := hy.2.1; omega, e⟩
theorem rule_some {ts : List It} {w h : Nat} {b : Int} (hb : bestV ts w h = b) (h0 : b ≠ 0) : (∃ j, itemIs ts w h b j) ∨ (∃ x, wideIs ts w h b x) ∨ ∃ y, highIs ts w h b y := by
  have hv : (bestC ts w h).1 = b := hb
  rcases bestC_is ts w h with e | ⟨j, hj, hfit, e⟩ | ⟨x, h1, h2, e⟩ | ⟨y, h1, h2, e⟩
  · rw [e] at hv; exact absurd hv.symm h0
  · rw [e] at hv; exact .inl ⟨j, hj, hfit, hv⟩
  · rw [e] at hv; exact .inr (.inl ⟨x, h1, h2, hv⟩)
  · rw [e] at hv; exact .inr (.inr ⟨y, h1, h2, hv⟩)
/-- the greatest of all that a rectangle may be: what a table of all cuts finds -/
theorem best_of_all {ts : List It} {w h : Nat} {b : Int} (h0 : 0 ≤ b) (hb : b ≤ bestV ts w h) (h1 : ∀ j, j < ts.length → fitsB w h (ts.getD j (0, 0, 0)) = true → (ts.getD j (0, 0, 0)).2.2 ≤ b)
    (h2 : ∀ x, 1 ≤ x → x < w → bestV ts x h + bestV ts (w - x) h ≤ b) (h3 : ∀ y, 1 ≤ y → y < h → bestV ts w y + bestV ts w (h - y) ≤ b) : b = bestV ts w h := by
  have hv : (bestC ts w h).1 = bestV ts w h := rfl
  rcases bestC_is ts w h with e | ⟨j, hj, hfit, e⟩ | ⟨x, k1, k2, e⟩ | ⟨y, k1, k2, e⟩
  · rw [e] at hv; simp only at hv; omega
  · rw [e] at hv; have := h1 j hj hfit; simp only at hv; omega
  · rw [e] at hv; have := h2 x k1 (by omega); simp only at hv; omega
  · rw [e] at hv; have := h3 y k1 (by omega); simp only at hv; omega
theorem info43 : (Try.prog.info? 43).map (fun i => (i.zero, i.size, i.bytes)) = some (some (.slice none 0 0), 1, 24) := by kernel_rfl
theorem run_make_tab (n : Nat) (hn : n ≤ 1000) (w : World) :
    (Instr.makeSlice 103 (.int .i64 (n : Int)) (.int .i64 (n : Int))).run Try.prog w = .ok (.slice (some ⟨w.heap.size, 0, none⟩) n n) (w.alloc (.cells (Array.replicate n (.slice none 0 0)) 43)) := by
  obtain ⟨i, hi, hz, hs, hb⟩ := info_parts info43
  have hr := run_make (P := Try.prog) w 103 43 i (.slice none 0 0) Try.underlying103 hi hz .i64 .i64 n n (by omega) (Int.le_refl _) (by rw [hb]; omega) (by omega)
  simp only [Int.toNat_natCast, hs] at hr
  have e : (Value.slice none 0 0).cells = #[Value.slice none 0 0] := rfl
  rw [e, made_one, Nat.mul_one] at hr
  exact hr
theorem bestV_flat {ts : List It} (hok : ts.all itemB = true) {w h : Nat} (h0 : w = 0 ∨ h = 0) : bestV ts w h = 0 := by
  have h1 := bestV_le (items := ts) (F := fun a b => if a = 0 ∨ b = 0 then 0 else bestV ts a b) (fun a b => by split; omega; exact bestV_nonneg _ _ _) (fun a b j hj hf => by
    split
    · rename_i hab
      have := items_pos hok hj
      have := fits_iff hf
      omega
    · exact bestV_item hj hf) (fun a b x h1 h2 => by
    by_cases hb : b = 0
    · simp [hb]
    · rw [if_neg (by omega), if_neg (by omega), if_neg (by omega)]; exact bestV_wide h1 h2) (fun a b y h1 h2 => by
    by_cases ha : a = 0
    · simp [ha]
    · rw [if_neg (by omega), if_neg (by omega), if_neg (by omega)]; exact bestV_high h1 h2) w h
  simp only [h0, if_true] at h1
  have := bestV_nonneg ts w h
  omega
/-- row a of the table of numbers lies in block R, good up to j -/
def RowV (w : World) (ts : List It) (T M a R j : Nat) : Prop := w.cell? ⟨T, a, none⟩ = some (.slice (some ⟨R, 0, none⟩) M M) ∧ ∀ b, b < j → w.cell? ⟨R, b, none⟩ = some (.int .i64 (bestV ts a b))
def TabV (w : World) (ts : List It) (T M k B : Nat) : Prop := ∀ a, a < k → ∃ R, T < R ∧ R < B ∧ RowV w ts T M a R M
theorem RowV.below {w w' : World} {ts : List It} {T M a R j B : Nat} (h : RowV w ts T M a R j) (he : Below B w w') (hT : T < B) (hR : R < B) : RowV w' ts T M a R j :=
  ⟨by rw [Below.cell he (p := ⟨T, a, none⟩) hT]; exact h.1, fun b hb => by rw [Below.cell he (p := ⟨R, b, none⟩) hR]; exact h.2 b hb⟩
theorem TabV.below {w w' : World} {ts : List It} {T M k B C : Nat} (h : TabV w ts T M k B) (he : Below C w w') (hT : T < C) (hB : B ≤ C) : TabV w' ts T M k B := fun a ha => by
  obtain ⟨R, h1, h2, h3⟩ := h a ha
  exact ⟨R, h1, h2, h3.below he hT (by omega)⟩
/-- the row in the making -/
def RowN (ts : List It) (a M j : Nat) (xs : List Int) : Prop := xs.length = M ∧ ∀ b, b < M → xs[b]? = some (if b < j then bestV ts a b else 0)
theorem rowN_put {ts : List It} {a M j : Nat} {xs : List Int} (h : RowN ts a M j xs) (hj : j < M) : RowN ts a M (j + 1) (xs.set j (bestV ts a j)) := by
  obtain ⟨h1, h2⟩ := h
  refine ⟨by simp [h1], fun b hb => ?_⟩
  by_cases e : b = j
  · subst e
    rw [List.getElem?_set_self (by omega), if_pos (by omega)]
  · rw [List.getElem?_set_ne (by omega), h2 b hb]
    by_cases hbj : b < j
    · rw [if_pos hbj, if_pos (by omega)]
    · rw [if_neg hbj, if_neg (by omega)]
theorem rowN_ok {w : World} {ts : List It} {T M a R j : Nat} {xs : List Int} (h : RowN ts a M j xs) (hj : j ≤ M) (hr : IRow w R 3 xs) (hc : w.cell? ⟨T, a, none⟩ = some (.slice (some ⟨R, 0, none⟩) M M)) : RowV w ts T M a R j :=
  ⟨hc, fun b hb => IRow.at hr (by rw [h.2 b (by omega), if_pos hb])⟩
theorem rowN_done {w : World} {ts : List It} {T M a R j : Nat} {xs : List Int} (h : RowN ts a M j xs) (hz : ∀ b, j ≤ b → b < M → bestV ts a b = 0) (hr : IRow w R 3 xs) (hc : w.cell? ⟨T, a, none⟩ = some (.slice (some ⟨R, 0, none⟩) M M)) : RowV w ts T M a R M :=
  ⟨hc, fun b hb => IRow.at hr (by rw [h.2 b hb]; split; rfl; rw [hz b (by omega) hb])⟩
/-- a number of the table that may be read -/
def EntV (w : World) (T M a b : Nat) (z : Int) : Prop := ∃ R, w.cell? ⟨T, a, none⟩ = some (.slice (some ⟨R, 0, none⟩) M M) ∧ w.cell? ⟨R, b, none⟩ = some (.int .i64 z)
theorem EntV.ext {w w' : World} {T M a b : Nat} {z : Int} (h : EntV w T M a b z) (he : Ext w w') : EntV w' T M a b z := by
  obtain ⟨R, h1, h2⟩ := h
  exact ⟨R, Ext.cell he h1, Ext.cell he h2⟩
theorem RowV.ent {w : World} {ts : List It} {T M a R j b : Nat} (h : RowV w ts T M a R j) (hb : b < j) : EntV w T M a b (bestV ts a b) := ⟨R, h.1, h.2 b hb⟩
theorem ext_drewN3 {w w1 : World} (h : Ext w w1) (n : Nat) : Ext w (w1.drewN n) := ⟨h.os, h.tape, h.output, h.size, h.block⟩
set_option maxHeartbeats 16000000 in
theorem table_c (v : Value) (ts : List It) (W H : Nat) (w : World) (hW : W ≤ 100) (hH : H ≤ 100) (hv : Items w v ts) (hok : ts.all itemB = true) :
    Calls Try.prog 68 #[.int .i64 (W : Int), .int .i64 (H : Int), v] w fun e w' => ∃ T, e = .returned (.slice (some ⟨T, 0, none⟩) (W + 1) (W + 1)) ∧ (∀ a b, a ≤ W → b ≤ H → EntV w' T (H + 1) a b (bestV ts a b)) ∧ Ext w w' := by
  obtain ⟨a, cap, rfl, hl, hm, hir⟩ := hv.at
  have HV := Lib.hid hv
  have HOK := Lib.hid hok
  have HIR := Lib.hid hir
  clear hv hir hok
  obtain ⟨N, hN⟩ : ∃ N, N = W + 1 := ⟨_, rfl⟩
  obtain ⟨M, hM⟩ : ∃ M, M = H + 1 := ⟨_, rfl⟩
  have hNz : (W : Int) + 1 = (N : Int) := by omega
  have hMz : (H : Int) + 1 = (M : Int) := by omega
  rw [← hN, ← hM]
  have HN := Lib.hid hN
  have HM := Lib.hid hM
  have hNb : N ≤ 101 := by omega
  have hMb : M ≤ 101 := by omega
  clear hN hM
  have hmk := run_make_tab N (by omega)
  have HMK := Lib.hid (run_make_ints M (by omega))
  have hE := Ext.alloc (Ext.refl w) (.cells (Array.replicate N (.slice none 0 0)) 43)
  have HP1 := Lib.hid (vrow_rep w (.slice none 0 0) N 43)
  have HE := Lib.hid hE
  have s2 : (w.alloc (.cells (Array.replicate N (.slice none 0 0)) 43)).heap.size = w.heap.size + 1 := by simp
  clear hE
  go_enter Try.func68, Try.ntmps68
  go_wp2_with fail
  clear hmk
  generalize w.alloc (.cells (Array.replicate N (.slice none 0 0)) 43) = w1 at *
  generalize hT0 : w.heap.size = T at *
  have HT0 := Lib.hid hT0
  clear hT0
  go_loopw [8] (fun i wr => ∃ (k : Nat) (vs : List Value), i = .int .i64 k ∧ k ≤ N ∧ VRow wr T 43 vs ∧ vs.length = N ∧ TabV wr ts T M k wr.heap.size ∧ T < wr.heap.size ∧ Ext w wr) (fun i _ => N - (intOf i).toNat)
  case atStart => exact ⟨0, _, rfl, Nat.zero_le _, HP1.out, by simp, fun a ha => by omega, by omega, HE.out⟩
  case round =>
    obtain ⟨k, vs, rfl, hk, hT, hvs, hTab, hsz, hE⟩ := hrel
    have HT1 := Lib.hid hT
    have HTab := Lib.hid hTab
    have HE1 := Lib.hid hE
    have HVS := Lib.hid hvs
    clear hT hTab hE hvs HP1 HE s2
    by_cases hlt : k < N
    · have hkW : (k : Int) ≤ (W : Int) := by omega
      have hmk := HMK.out
      have fz := VRow.frozen HT1.out k none
      obtain ⟨u, hu⟩ := getElem?_len (show k < vs.length by rw [HVS.out]; exact hlt)
      have cz := VRow.cell HT1.out hu
      have hW2 := vrow_rep wr (.int .i64 0) M 3
      have KT := Lib.hid (show VRow ((wr.setCell ⟨T, k, none⟩ (.slice (some ⟨wr.heap.size, 0, none⟩) M M)).alloc (.cells (Array.replicate M (.int .i64 0)) 3)) _ _ _ from VRow.alloc (VRow.set HT1.out k (.slice (some ⟨wr.heap.size, 0, none⟩) M M)) (.cells (Array.replicate M (.int .i64 0)) 3))
      have hszs : (wr.setCell ⟨T, k, none⟩ (.slice (some ⟨wr.heap.size, 0, none⟩) M M)).heap.size = wr.heap.size := by simp [World.setCell]
      have HSZ := Lib.hid hszs
      clear hszs hu hW2
      go_wp2_with fail
      clear hmk fz cz
      have hW2R := vrow_rep (wr.setCell ⟨T, k, none⟩ (.slice (some ⟨wr.heap.size, 0, none⟩) M M)) (.int .i64 0) M 3
      rw [HSZ.out] at hW2R
      have cz2 := VRow.cell KT.out (k := k) (by rw [List.getElem?_set_self (by rw [HVS.out]; exact hlt)])
      have KR := Lib.hid (show IRow ((wr.setCell ⟨T, k, none⟩ (.slice (some ⟨wr.heap.size, 0, none⟩) M M)).alloc (.cells (Array.replicate M (.int .i64 0)) 3)) wr.heap.size 3 (List.replicate M 0) from by unfold IRow; rw [List.map_replicate]; exact hW2R)
      have KE := Lib.hid (show Ext w ((wr.setCell ⟨T, k, none⟩ (.slice (some ⟨wr.heap.size, 0, none⟩) M M)).alloc (.cells (Array.replicate M (.int .i64 0)) 3)) from Ext.alloc (Below.setCell (p := ⟨T, k, none⟩) HE1.out (by show w.heap.size ≤ T; rw [HT0.out]; exact Nat.le_refl _) (.slice (some ⟨wr.heap.size, 0, none⟩) M M)) (.cells (Array.replicate M (.int .i64 0)) 3))
      have KTab := Lib.hid (show TabV ((wr.setCell ⟨T, k, none⟩ (.slice (some ⟨wr.heap.size, 0, none⟩) M M)).alloc (.cells (Array.replicate M (.int .i64 0)) 3)) ts T M k wr.heap.size from fun a ha => by
        obtain ⟨R', h1, h2, h3⟩ := HTab.out a ha
        have ne : ∀ o, (⟨T, k, none⟩ : Addr) ≠ ⟨R', o, none⟩ := fun o e => by injection e with e; omega
        have ne2 : (⟨T, k, none⟩ : Addr) ≠ ⟨T, a, none⟩ := fun e => by injection e with e1 e2; omega
        have hx := Ext.alloc (Ext.refl (wr.setCell ⟨T, k, none⟩ (.slice (some ⟨wr.heap.size, 0, none⟩) M M))) (.cells (Array.replicate M (.int .i64 0)) 3)
        exact ⟨R', h1, h2, Ext.cell hx ((World.cell?_setCell_other (h := ne2) ..).trans h3.1), fun b hb => Ext.cell hx ((World.cell?_setCell_other (h := ne _) ..).trans (h3.2 b hb))⟩)
      have KC := Lib.hid cz2
      have KSZ := Lib.hid (show ((wr.setCell ⟨T, k, none⟩ (.slice (some ⟨wr.heap.size, 0, none⟩) M M)).alloc (.cells (Array.replicate M (.int .i64 0)) 3)).heap.size = wr.heap.size + 1 from by simp [World.setCell])
      clear hW2R cz2 HT1 HTab HE1 HSZ
      generalize (wr.setCell ⟨T, k, none⟩ (.slice (some ⟨wr.heap.size, 0, none⟩) M M)).alloc (.cells (Array.replicate M (.int .i64 0)) 3) = w2 at *
      generalize wr.heap.size = R at *
      go_loopw [9] (fun i w3 => ∃ (j : Nat) (xs : List Int), i = .int .i64 j ∧ 1 ≤ j ∧ j ≤ M ∧ (k = 0 → j = 1) ∧ IRow w3 R 3 xs ∧ RowN ts k M j xs ∧ Below R w2 w3) (fun i _ => M - (intOf i).toNat)
      case atStart => exact ⟨1, _, rfl, Nat.le_refl _, by omega, fun _ => rfl, KR.out, ⟨by simp, fun b hb => by rw [List.getElem?_replicate, if_pos hb]; split; (rw [show b = 0 by omega, bestV_flat HOK.out (.inr rfl)]); rfl⟩, Below.refl _ _⟩
      case round =>
        rename World => w3
        obtain ⟨j, xs, rfl, hj1, hj, hk0, hus, hst, hbel⟩ := hrel
        have HUS := Lib.hid hus
        have HST := Lib.hid hst
        have HBL := Lib.hid hbel
        have HK0 := Lib.hid hk0
        clear hus hst hbel hk0
        have hdone : j = M ∨ k = 0 → (∃ xs2, VRow w3 T 43 (vs.set k (.slice (some ⟨R, 0, none⟩) M M)) ∧ xs2 = xs) ∧ TabV w3 ts T M (k + 1) w3.heap.size ∧ T < w3.heap.size ∧ Ext w w3 := fun hh => by
          have hRl := VRow.lt HUS.out
          have hw2 := HBL.out.size
          have hx : RowV w3 ts T M k R M := rowN_done HST.out (fun b h1 h2 => by
            rcases hh with e | e
            · omega
            · exact bestV_flat HOK.out (.inl e)) HUS.out (by rw [Below.cell HBL.out (p := ⟨T, k, none⟩) (by show T < R; omega)]; exact KC.out)
          refine ⟨⟨xs, VRow.below KT.out HBL.out (by omega), rfl⟩, fun a ha => ?_, by omega, Below.trans KE.out (HBL.out.mono (by have := HT0.out; omega))⟩
          by_cases e : a = k
          · subst e; exact ⟨R, by omega, hRl, hx⟩
          · obtain ⟨R', h1, h2, h3⟩ := KTab.out a (by omega)
            exact ⟨R', h1, by omega, h3.below HBL.out (by omega) h2⟩
        have HDONE := Lib.hid hdone
        clear hdone
        by_cases hjl : j < M
        · have hjH : (j : Int) ≤ (H : Int) := by omega
          by_cases hkz : k = 0
          · have hkz' : ¬ (0 : Int) < (k : Int) := by omega
            obtain ⟨⟨_, d1, _⟩, d2, d3, d4⟩ := HDONE.out (.inr hkz)
            have D1 := Lib.hid d1
            have D2 := Lib.hid d2
            have D4 := Lib.hid d4
            clear d1 d2 d4 hkz
            go_wp2_with fail
            exact ⟨⟨k + 1, _, by simp, by omega, D1.out, by rw [List.length_set]; exact HVS.out, D2.out, d3, D4.out⟩, by simp [intOf]; omega⟩
          · have hkz' : (0 : Int) < (k : Int) := by omega
            have hkN : 0 < k := by omega
            have hkW2 : k ≤ W := by omega
            have hjH2 : j ≤ H := by omega
            have HIT := Lib.hid (fun (X : World) (h : Ext w3 X) => (show Ext w X from Ext.trans (Below.trans KE.out (HBL.out.mono (by have := HT0.out; omega))) h))
            have HROW := Lib.hid (show RowV w3 ts T M k R j from rowN_ok HST.out hj HUS.out (by rw [Below.cell HBL.out (p := ⟨T, k, none⟩) (by show T < R; omega)]; exact KC.out))
            have HTA := Lib.hid (KTab.out.below HBL.out (by omega) (Nat.le_refl _))
            have HENW := Lib.hid (fun (x : Nat) (_ : 1 ≤ x) (h2 : x < k) => (show EntV w3 T M x j (bestV ts x j) by obtain ⟨R', _, _, h3⟩ := HTA.out x h2; exact h3.ent hjl))
            have HENH := Lib.hid (fun (y : Nat) (_ : 1 ≤ y) (h2 : y < j) => (show EntV w3 T M k y (bestV ts k y) from HROW.out.ent h2))
            have HCC := Lib.hid HROW.out.1
            have HPUT := Lib.hid (rowN_put HST.out hjl)
            have hvb := bestV_small HOK.out (w := k) (g := j) (by omega) (by omega)
            clear HROW HTA
            go_wp2_with fail
            go_loopw [10, 11] (fun b i wi => ∃ (q : Nat) (B : Int), i = .int .i64 q ∧ b = .int .i64 B ∧ q ≤ ts.length ∧ ((0 ≤ B ∧ B ≤ bestV ts k j) ∧ (∀ i : Nat, i < q → fitsB k j (ts.getD i (0, 0, 0)) = true → (ts.getD i (0, 0, 0)).2.2 ≤ B)) ∧ Ext w3 wi) (fun _ i _ => ts.length - (intOf i).toNat)
            case atStart => exact ⟨0, 0, rfl, rfl, Nat.zero_le _, ⟨⟨Int.le_refl _, hvb.1⟩, fun i h => by omega⟩, Ext.refl _⟩
            case round =>
              rename World => wi
              obtain ⟨q, B, rfl, rfl, hq, ⟨hB, hI⟩, hE⟩ := hrel
              have HEq := Lib.hid hE
              have HB0 := Lib.hid hB
              have HI0 := Lib.hid hI
              clear hE hI
              by_cases hql : q < ts.length
              · obtain ⟨t, ht⟩ := getElem?_len hql
                obtain ⟨ab, ao, rfl, c0, c1, c2⟩ := HIR.out q t ht
                replace c0 := Ext.cell (HIT.out _ HEq.out) c0
                replace c1 := Ext.cell (HIT.out _ HEq.out) c1
                replace c2 := Ext.cell (HIT.out _ HEq.out) c2
                have hgd : ts.getD q (0, 0, 0) = t := by rw [List.getD_eq_getElem?_getD, ht]; rfl
                have hle : fitsB k j t = true → t.2.2 ≤ bestV ts k j := fun h => by have := bestV_item (w := k) (h := j) hql (by rw [hgd]; exact h); rw [hgd] at this; exact this
                have HNX := Lib.hid (fun (B2 : Int) (h1 : B ≤ B2) (h2 : fitsB k j t = true → t.2.2 ≤ B2) (h3 : B2 ≤ bestV ts k j) => (show (0 ≤ B2 ∧ B2 ≤ bestV ts k j) ∧ (∀ i : Nat, i < q + 1 → fitsB k j (ts.getD i (0, 0, 0)) = true → (ts.getD i (0, 0, 0)).2.2 ≤ B2) from ⟨⟨by have := HB0.out.1; omega, h3⟩, fun i h4 h5 => by
                  by_cases he : i = q
                  · subst he; rw [hgd] at h5 ⊢; exact h2 h5
                  · have := HI0.out i (by omega) h5; omega⟩))
                obtain ⟨t1, t2, t3⟩ := t
                simp only at c0 c1 c2 hle HNX
                clear ht hgd
                generalize hzv : bestV ts k j = zv at *
                by_cases f1 : t1 ≤ (k : Int)
                · by_cases f2 : t2 ≤ (j : Int)
                  · have hf : fitsB k j (t1, t2, t3) = true := by simp [fitsB, f1, f2]
                    have hle2 := hle hf
                    have HXT := Lib.hid (HNX.out (if B < t3 then t3 else B) (by split <;> omega) (fun _ => by split <;> omega) (by split <;> omega))
                    obtain ⟨B2, hmx⟩ : ∃ B2 : Int, (if B < t3 then t3 else B) = B2 := ⟨_, rfl⟩
                    rw [hmx] at HXT
                    clear hle HNX hf
                    go_wp2_with fail
                    exact ⟨⟨q + 1, B2, by simp, rfl, by omega, HXT.out, HEq.out⟩, by simp [intOf]; omega⟩
                  · have hf : fitsB k j (t1, t2, t3) = false := by simp [fitsB]; omega
                    have HXT := Lib.hid (HNX.out B (Int.le_refl _) (fun h => by rw [hf] at h; cases h) hB.2)
                    clear hle HNX hf
                    go_wp2_with fail
                    exact ⟨⟨q + 1, B, by simp, rfl, by omega, HXT.out, HEq.out⟩, by simp [intOf]; omega⟩
                · have hf : fitsB k j (t1, t2, t3) = false := by simp [fitsB]; omega
                  have HXT := Lib.hid (HNX.out B (Int.le_refl _) (fun h => by rw [hf] at h; cases h) hB.2)
                  clear hle HNX hf
                  go_wp2_with fail
                  exact ⟨⟨q + 1, B, by simp, rfl, by omega, HXT.out, HEq.out⟩, by simp [intOf]; omega⟩
              · obtain rfl : q = ts.length := by omega
                have HEs := HEq
                go_wp2_with fail
                go_loopw [10, 12] (fun b i wc => ∃ (c : Nat) (B : Int), i = .int .i64 c ∧ b = .int .i64 B ∧ 1 ≤ c ∧ c ≤ k ∧ ((0 ≤ B ∧ B ≤ bestV ts k j) ∧ (∀ i : Nat, i < ts.length → fitsB k j (ts.getD i (0, 0, 0)) = true → (ts.getD i (0, 0, 0)).2.2 ≤ B) ∧ (∀ e : Nat, 1 ≤ e → e < c → bestV ts e j + bestV ts (k - e) j ≤ B)) ∧ Ext w3 wc) (fun _ i _ => k - (intOf i).toNat)
                case atStart => exact ⟨1, B, rfl, rfl, Nat.le_refl _, by omega, ⟨HB0.out, HI0.out, fun c h1 h2 => by omega⟩, HEs.out⟩
                case round =>
                  rename World => wc
                  clear HB0 HI0
                  obtain ⟨c, B, rfl, rfl, hc1, hc2, ⟨hB, hI, hN⟩, hE⟩ := hrel
                  have HEq := Lib.hid hE
                  have HB0 := Lib.hid hB
                  have HI0 := Lib.hid hI
                  skip
                  have HN := Lib.hid hN
                  clear hE hI hN
                  by_cases hck : c < k
                  · obtain ⟨R1, a1, a2⟩ := (HENW.out c hc1 hck).ext HEq.out
                    obtain ⟨R2, a3, a4⟩ := (HENW.out (k - c) (by omega) (by omega)).ext HEq.out
                    obtain ⟨d, hd⟩ : ∃ d, d = k - c := ⟨_, rfl⟩
                    rw [← hd] at a3 a4
                    have hle := bestV_wide (items := ts) (w := k) (h := j) (x := c) hc1 hck
                    rw [← hd] at hle
                    have hn1 := bestV_nonneg ts c j
                    have hn2 := bestV_nonneg ts d j
                    have hvb := bestV_small HOK.out (w := k) (g := j) (by omega) (by omega)
                    have HNX := Lib.hid (fun (B2 : Int) (h1 : B ≤ B2) (h2 : bestV ts c j + bestV ts d j ≤ B2) (h3 : B2 ≤ bestV ts k j) => (show (0 ≤ B2 ∧ B2 ≤ bestV ts k j) ∧ (∀ i : Nat, i < ts.length → fitsB k j (ts.getD i (0, 0, 0)) = true → (ts.getD i (0, 0, 0)).2.2 ≤ B2) ∧ (∀ e : Nat, 1 ≤ e → e < c + 1 → bestV ts e j + bestV ts (k - e) j ≤ B2) from ⟨⟨by have := HB0.out.1; omega, h3⟩, fun i h4 h5 => by have := HI0.out i h4 h5; omega, fun e h4 h5 => by
                      by_cases he : e = c
                      · subst he; rw [← hd]; exact h2
                      · have := HN.out e h4 (by omega); omega⟩))
                    generalize hz1 : bestV ts c j = z1 at *
                    generalize hz2 : bestV ts d j = z2 at *
                    generalize hzv : bestV ts k j = zv at *
                    have HA1 := Lib.hid a1
                    have HA2 := Lib.hid a2
                    have HA3 := Lib.hid a3
                    have HA4 := Lib.hid a4
                    have hcN : c < N := by omega
                    have hdN : d < N := by omega
                    have hsub : IntKind.i64.wrap ((k : Int) - (c : Int)) = (d : Int) := by rw [show (k : Int) - (c : Int) = (d : Int) by omega]; exact IntWalk.i64_in _ (by omega)
                    have hadd : IntKind.i64.wrap (z1 + z2) = z1 + z2 := IntWalk.i64_in _ (by omega)
                    obtain ⟨B2, hmx, HNXT⟩ : ∃ B2 : Int, (if B < z1 + z2 then z1 + z2 else B) = B2 ∧ RowKit.Hid ((0 ≤ B2 ∧ B2 ≤ zv) ∧ (∀ i : Nat, i < ts.length → fitsB k j (ts.getD i (0, 0, 0)) = true → (ts.getD i (0, 0, 0)).2.2 ≤ B2) ∧ (∀ e : Nat, 1 ≤ e → e < c + 1 → bestV ts e j + bestV ts (k - e) j ≤ B2)) := ⟨_, rfl, Lib.hid (HNX.out _ (by split <;> omega) (by split <;> omega) (by split <;> omega))⟩
                    clear a1 a2 a3 a4 HNX hz1 hz2 hle hd
                    go_wp2_with fail
                    refine wp_region_stable_last [⟨[], none⟩, ⟨[], none⟩, ⟨[], none⟩, ⟨[(1, 72), (2, 73)], none⟩, ⟨[(3, 74)], none⟩, ⟨[], none⟩, ⟨[(4, 75), (5, 76)], none⟩, ⟨[(6, 77)], none⟩, ⟨[], none⟩, ⟨[], none⟩, ⟨[], none⟩, ⟨[(9, 80), (10, 81)], none⟩, ⟨[(8, 79), (11, 82)], none⟩, ⟨[(12, 83)], none⟩, ⟨[], none⟩, ⟨[(13, 84), (14, 85)], none⟩, ⟨[(15, 86)], none⟩, ⟨[(7, 78), (16, 87)], none⟩, ⟨[(0, 71), (17, 88)], none⟩] (fun x y => Below x.heap.size x y) (MPat [MP.eq (.int .i64 B), MP.eq (.slice (some ⟨T, 0, none⟩) N N), MP.eq (.int .i64 (c : Int)), MP.eq (.pointer (some ⟨T, c, none⟩)), MP.eq (.slice (some ⟨R1, 0, none⟩) M M), MP.eq (.int .i64 (j : Int)), MP.eq (.pointer (some ⟨R1, j, none⟩)), MP.eq (.int .i64 z1), MP.eq (.slice (some ⟨T, 0, none⟩) N N), MP.eq (.int .i64 (k : Int)), MP.eq (.int .i64 (c : Int)), MP.eq (.int .i64 (d : Int)), MP.eq (.pointer (some ⟨T, d, none⟩)), MP.eq (.slice (some ⟨R2, 0, none⟩) M M), MP.eq (.int .i64 (j : Int)), MP.eq (.pointer (some ⟨R2, j, none⟩)), MP.eq (.int .i64 z2), MP.eq (.int .i64 (z1 + z2)), MP.eq (.int .i64 B2)]) rfl (by kernel_rfl) (fun _ _ _ h k => Ext.trans h k) (fun _ => Below.refl _ _) (fun x => (Below.refl x.heap.size x).drew) (MPat.mono _) (by kernel_rfl) (by kernel_rfl) (by kernel_rfl) ?obs ?rest
                    case obs =>
                      refine ⟨?_, ?_, ?_, ?_, ?_, ?_, ?_, ?_, ?_, ?_, ?_, ?_, ?_, ?_, ?_, ?_, ?_, ?_, ?_, trivial⟩
                      · intro ev W hf _ _ hst hd
                        have e10 : ev (.tmp 10) = .int .i64 B := hf 10 (by kernel_rfl)
                        refine st_value (v := .int .i64 B) ?_ (Below.refl _ _) ?_
                        · simp [execOp, go_sem, e10]
                        · exact rfl
                      · intro ev W hf _ _ hst hd
                        have e7 : ev (.tmp 7) = .slice (some ⟨T, 0, none⟩) N N := hf 7 (by kernel_rfl)
                        refine st_value (v := .slice (some ⟨T, 0, none⟩) N N) ?_ (Below.refl _ _) ?_
                        · simp [execOp, go_sem, e7]
                        · exact rfl
                      · intro ev W hf _ _ hst hd
                        have e12 : ev (.tmp 12) = .int .i64 (c : Int) := hf 12 (by kernel_rfl)
                        refine st_value (v := .int .i64 (c : Int)) ?_ (Below.refl _ _) ?_
                        · simp [execOp, go_sem, e12]
                        · exact rfl
                      · intro ev W hf _ _ hst hd
                        obtain ⟨d72, d73, _⟩ := hd
                        have e72 : ev (.tmp 72) = .slice (some ⟨T, 0, none⟩) N N := d72
                        have e73 : ev (.tmp 73) = .int .i64 (c : Int) := d73
                        refine st_value (v := .pointer (some ⟨T, c, none⟩)) ?_ (Below.refl _ _) ?_
                        · simp [execOp, go_sem, e72, e73, hcN]
                        · exact rfl
                      · intro ev W hf _ _ hst hd
                        obtain ⟨d74, _⟩ := hd
                        have e74 : ev (.tmp 74) = .pointer (some ⟨T, c, none⟩) := d74
                        have q0 := Ext.cell hst HA1.out
                        refine st_value (v := .slice (some ⟨R1, 0, none⟩) M M) ?_ (Below.refl _ _) ?_
                        · simp [execOp, go_sem, e74, q0]
                        · exact rfl
                      · intro ev W hf _ _ hst hd
                        have e9 : ev (.tmp 9) = .int .i64 (j : Int) := hf 9 (by kernel_rfl)
                        refine st_value (v := .int .i64 (j : Int)) ?_ (Below.refl _ _) ?_
                        · simp [execOp, go_sem, e9]
                        · exact rfl
                      · intro ev W hf _ _ hst hd
                        obtain ⟨d75, d76, _⟩ := hd
                        have e75 : ev (.tmp 75) = .slice (some ⟨R1, 0, none⟩) M M := d75
                        have e76 : ev (.tmp 76) = .int .i64 (j : Int) := d76
                        refine st_value (v := .pointer (some ⟨R1, j, none⟩)) ?_ (Below.refl _ _) ?_
                        · simp [execOp, go_sem, e75, e76, hjl]
                        · exact rfl
                      · intro ev W hf _ _ hst hd
                        obtain ⟨d77, _⟩ := hd
                        have e77 : ev (.tmp 77) = .pointer (some ⟨R1, j, none⟩) := d77
                        have q0 := Ext.cell hst HA2.out
                        refine st_value (v := .int .i64 z1) ?_ (Below.refl _ _) ?_
                        · simp [execOp, go_sem, e77, q0]
                        · exact rfl
                      · intro ev W hf _ _ hst hd
                        have e7 : ev (.tmp 7) = .slice (some ⟨T, 0, none⟩) N N := hf 7 (by kernel_rfl)
                        refine st_value (v := .slice (some ⟨T, 0, none⟩) N N) ?_ (Below.refl _ _) ?_
                        · simp [execOp, go_sem, e7]
                        · exact rfl
                      · intro ev W hf _ _ hst hd
                        have e8 : ev (.tmp 8) = .int .i64 (k : Int) := hf 8 (by kernel_rfl)
                        refine st_value (v := .int .i64 (k : Int)) ?_ (Below.refl _ _) ?_
                        · simp [execOp, go_sem, e8]
                        · exact rfl
                      · intro ev W hf _ _ hst hd
                        have e12 : ev (.tmp 12) = .int .i64 (c : Int) := hf 12 (by kernel_rfl)
                        refine st_value (v := .int .i64 (c : Int)) ?_ (Below.refl _ _) ?_
                        · simp [execOp, go_sem, e12]
                        · exact rfl
                      · intro ev W hf _ _ hst hd
                        obtain ⟨d80, d81, _⟩ := hd
                        have e80 : ev (.tmp 80) = .int .i64 (k : Int) := d80
                        have e81 : ev (.tmp 81) = .int .i64 (c : Int) := d81
                        refine st_value (v := .int .i64 (d : Int)) ?_ (Below.refl _ _) ?_
                        · simp [execOp, go_sem, e80, e81, hsub]
                        · exact rfl
                      · intro ev W hf _ _ hst hd
                        obtain ⟨d79, d82, _⟩ := hd
                        have e79 : ev (.tmp 79) = .slice (some ⟨T, 0, none⟩) N N := d79
                        have e82 : ev (.tmp 82) = .int .i64 (d : Int) := d82
                        refine st_value (v := .pointer (some ⟨T, d, none⟩)) ?_ (Below.refl _ _) ?_
                        · simp [execOp, go_sem, e79, e82, hdN]
                        · exact rfl
                      · intro ev W hf _ _ hst hd
                        obtain ⟨d83, _⟩ := hd
                        have e83 : ev (.tmp 83) = .pointer (some ⟨T, d, none⟩) := d83
                        have q0 := Ext.cell hst HA3.out
                        refine st_value (v := .slice (some ⟨R2, 0, none⟩) M M) ?_ (Below.refl _ _) ?_
                        · simp [execOp, go_sem, e83, q0]
                        · exact rfl
                      · intro ev W hf _ _ hst hd
                        have e9 : ev (.tmp 9) = .int .i64 (j : Int) := hf 9 (by kernel_rfl)
                        refine st_value (v := .int .i64 (j : Int)) ?_ (Below.refl _ _) ?_
                        · simp [execOp, go_sem, e9]
                        · exact rfl
                      · intro ev W hf _ _ hst hd
                        obtain ⟨d84, d85, _⟩ := hd
                        have e84 : ev (.tmp 84) = .slice (some ⟨R2, 0, none⟩) M M := d84
                        have e85 : ev (.tmp 85) = .int .i64 (j : Int) := d85
                        refine st_value (v := .pointer (some ⟨R2, j, none⟩)) ?_ (Below.refl _ _) ?_
                        · simp [execOp, go_sem, e84, e85, hjl]
                        · exact rfl
                      · intro ev W hf _ _ hst hd
                        obtain ⟨d86, _⟩ := hd
                        have e86 : ev (.tmp 86) = .pointer (some ⟨R2, j, none⟩) := d86
                        have q0 := Ext.cell hst HA4.out
                        refine st_value (v := .int .i64 z2) ?_ (Below.refl _ _) ?_
                        · simp [execOp, go_sem, e86, q0]
                        · exact rfl
                      · intro ev W hf _ _ hst hd
                        obtain ⟨d78, d87, _⟩ := hd
                        have e78 : ev (.tmp 78) = .int .i64 z1 := d78
                        have e87 : ev (.tmp 87) = .int .i64 z2 := d87
                        refine st_value (v := .int .i64 (z1 + z2)) ?_ (Below.refl _ _) ?_
                        · simp [execOp, go_sem, e78, e87, hadd]
                        · exact rfl
                      · intro ev W hf _ _ hst hd
                        obtain ⟨d71, d88, _⟩ := hd
                        have e71 : ev (.tmp 71) = .int .i64 B := d71
                        have e88 : ev (.tmp 88) = .int .i64 (z1 + z2) := d88
                        refine st_value (v := .int .i64 B2) ?_ (Below.refl _ _) ?_
                        · simp [execOp, go_sem, e71, e88, hmx]
                        · exact rfl
                    case rest =>
                      intro vs w5 hl hst hg
                      have HE3 := Lib.hid hst
                      have hvs : vs = [.int .i64 B, .slice (some ⟨T, 0, none⟩) N N, .int .i64 (c : Int), .pointer (some ⟨T, c, none⟩), .slice (some ⟨R1, 0, none⟩) M M, .int .i64 (j : Int), .pointer (some ⟨R1, j, none⟩), .int .i64 z1, .slice (some ⟨T, 0, none⟩) N N, .int .i64 (k : Int), .int .i64 (c : Int), .int .i64 (d : Int), .pointer (some ⟨T, d, none⟩), .slice (some ⟨R2, 0, none⟩) M M, .int .i64 (j : Int), .pointer (some ⟨R2, j, none⟩), .int .i64 z2, .int .i64 (z1 + z2), .int .i64 B2] := list_of hl (fun i u hu => by
                        match i, hu with
                        | 0, hu => exact (congrArg some (hg 0 u hu)).symm
                        | 1, hu => exact (congrArg some (hg 1 u hu)).symm
                        | 2, hu => exact (congrArg some (hg 2 u hu)).symm
                        | 3, hu => exact (congrArg some (hg 3 u hu)).symm
                        | 4, hu => exact (congrArg some (hg 4 u hu)).symm
                        | 5, hu => exact (congrArg some (hg 5 u hu)).symm
                        | 6, hu => exact (congrArg some (hg 6 u hu)).symm
                        | 7, hu => exact (congrArg some (hg 7 u hu)).symm
                        | 8, hu => exact (congrArg some (hg 8 u hu)).symm
                        | 9, hu => exact (congrArg some (hg 9 u hu)).symm
                        | 10, hu => exact (congrArg some (hg 10 u hu)).symm
                        | 11, hu => exact (congrArg some (hg 11 u hu)).symm
                        | 12, hu => exact (congrArg some (hg 12 u hu)).symm
                        | 13, hu => exact (congrArg some (hg 13 u hu)).symm
                        | 14, hu => exact (congrArg some (hg 14 u hu)).symm
                        | 15, hu => exact (congrArg some (hg 15 u hu)).symm
                        | 16, hu => exact (congrArg some (hg 16 u hu)).symm
                        | 17, hu => exact (congrArg some (hg 17 u hu)).symm
                        | 18, hu => exact (congrArg some (hg 18 u hu)).symm
                        | n + 19, hu => exact absurd (lt_len hu) (by rw [hl]; simp))
                      clear hg hst hl
                      subst hvs
                      simp only [putAll, Act.put, List.dropLast, List.setIfInBounds_toArray, List.set_cons_zero, List.set_cons_succ]
                      go_wp2_with fail
                      exact ⟨⟨c + 1, B2, by simp, rfl, by omega, by omega, HNXT.out, Ext.trans HEq.out HE3.out⟩, by simp [intOf]; omega⟩
                  · obtain rfl : k = c := by omega
                    have HEs2 := HEq
                    have HW0 := Lib.hid (fun (x : Nat) (h1 : 1 ≤ x) (h2 : x < k) => HN.out x h1 (by omega))
                    go_wp2_with fail
                    go_loopw [10, 13] (fun b i wd => ∃ (c : Nat) (B : Int), i = .int .i64 c ∧ b = .int .i64 B ∧ 1 ≤ c ∧ c ≤ j ∧ ((0 ≤ B ∧ B ≤ bestV ts k j) ∧ (∀ i : Nat, i < ts.length → fitsB k j (ts.getD i (0, 0, 0)) = true → (ts.getD i (0, 0, 0)).2.2 ≤ B) ∧ (∀ c : Nat, 1 ≤ c → c < k → bestV ts c j + bestV ts (k - c) j ≤ B) ∧ (∀ e : Nat, 1 ≤ e → e < c → bestV ts k e + bestV ts k (j - e) ≤ B)) ∧ Ext w3 wd) (fun _ i _ => j - (intOf i).toNat)
                    case atStart => exact ⟨1, B, rfl, rfl, Nat.le_refl _, by omega, ⟨HB0.out, HI0.out, HW0.out, fun c h1 h2 => by omega⟩, HEs2.out⟩
                    case round =>
                      rename World => wd
                      clear HB0 HI0 HW0
                      obtain ⟨c, B, rfl, rfl, hc1, hc2, ⟨hB, hI, hW1, hN⟩, hE⟩ := hrel
                      have HEq := Lib.hid hE
                      have HB0 := Lib.hid hB
                      have HI0 := Lib.hid hI
                      have HW0 := Lib.hid hW1
                      have HN := Lib.hid hN
                      clear hE hI hN hW1
                      by_cases hck : c < j
                      · obtain ⟨R1, a1, a2⟩ := (HENH.out c hc1 hck).ext HEq.out
                        obtain ⟨R2, a3, a4⟩ := (HENH.out (j - c) (by omega) (by omega)).ext HEq.out
                        obtain ⟨d, hd⟩ : ∃ d, d = j - c := ⟨_, rfl⟩
                        rw [← hd] at a4
                        have hle := bestV_high (items := ts) (w := k) (h := j) (y := c) hc1 hck
                        rw [← hd] at hle
                        have hn1 := bestV_nonneg ts k c
                        have hn2 := bestV_nonneg ts k d
                        have hvb := bestV_small HOK.out (w := k) (g := j) (by omega) (by omega)
                        have HNX := Lib.hid (fun (B2 : Int) (h1 : B ≤ B2) (h2 : bestV ts k c + bestV ts k d ≤ B2) (h3 : B2 ≤ bestV ts k j) => (show (0 ≤ B2 ∧ B2 ≤ bestV ts k j) ∧ (∀ i : Nat, i < ts.length → fitsB k j (ts.getD i (0, 0, 0)) = true → (ts.getD i (0, 0, 0)).2.2 ≤ B2) ∧ (∀ c : Nat, 1 ≤ c → c < k → bestV ts c j + bestV ts (k - c) j ≤ B2) ∧ (∀ e : Nat, 1 ≤ e → e < c + 1 → bestV ts k e + bestV ts k (j - e) ≤ B2) from ⟨⟨by have := HB0.out.1; omega, h3⟩, fun i h4 h5 => by have := HI0.out i h4 h5; omega, fun c h4 h5 => by have := HW0.out c h4 h5; omega, fun e h4 h5 => by
                          by_cases he : e = c
                          · subst he; rw [← hd]; exact h2
                          · have := HN.out e h4 (by omega); omega⟩))
                        generalize hz1 : bestV ts k c = z1 at *
                        generalize hz2 : bestV ts k d = z2 at *
                        generalize hzv : bestV ts k j = zv at *
                        have HA1 := Lib.hid a1
                        have HA2 := Lib.hid a2
                        have HA3 := Lib.hid a3
                        have HA4 := Lib.hid a4
                        have hcN : c < M := by omega
                        have hdN : d < M := by omega
                        have hsub : IntKind.i64.wrap ((j : Int) - (c : Int)) = (d : Int) := by rw [show (j : Int) - (c : Int) = (d : Int) by omega]; exact IntWalk.i64_in _ (by omega)
                        have hadd : IntKind.i64.wrap (z1 + z2) = z1 + z2 := IntWalk.i64_in _ (by omega)
                        obtain ⟨B2, hmx, HNXT⟩ : ∃ B2 : Int, (if B < z1 + z2 then z1 + z2 else B) = B2 ∧ RowKit.Hid ((0 ≤ B2 ∧ B2 ≤ zv) ∧ (∀ i : Nat, i < ts.length → fitsB k j (ts.getD i (0, 0, 0)) = true → (ts.getD i (0, 0, 0)).2.2 ≤ B2) ∧ (∀ c : Nat, 1 ≤ c → c < k → bestV ts c j + bestV ts (k - c) j ≤ B2) ∧ (∀ e : Nat, 1 ≤ e → e < c + 1 → bestV ts k e + bestV ts k (j - e) ≤ B2)) := ⟨_, rfl, Lib.hid (HNX.out _ (by split <;> omega) (by split <;> omega) (by split <;> omega))⟩
                        clear a1 a2 a3 a4 HNX hz1 hz2 hle hd
                        go_wp2_with fail
                        refine wp_region_stable_last [⟨[], none⟩, ⟨[], none⟩, ⟨[], none⟩, ⟨[(1, 96), (2, 97)], none⟩, ⟨[(3, 98)], none⟩, ⟨[], none⟩, ⟨[(4, 99), (5, 100)], none⟩, ⟨[(6, 101)], none⟩, ⟨[], none⟩, ⟨[], none⟩, ⟨[(8, 103), (9, 104)], none⟩, ⟨[(10, 105)], none⟩, ⟨[], none⟩, ⟨[], none⟩, ⟨[(12, 107), (13, 108)], none⟩, ⟨[(11, 106), (14, 109)], none⟩, ⟨[(15, 110)], none⟩, ⟨[(7, 102), (16, 111)], none⟩, ⟨[(0, 95), (17, 112)], none⟩] (fun x y => Below x.heap.size x y) (MPat [MP.eq (.int .i64 B), MP.eq (.slice (some ⟨T, 0, none⟩) N N), MP.eq (.int .i64 (k : Int)), MP.eq (.pointer (some ⟨T, k, none⟩)), MP.eq (.slice (some ⟨R1, 0, none⟩) M M), MP.eq (.int .i64 (c : Int)), MP.eq (.pointer (some ⟨R1, c, none⟩)), MP.eq (.int .i64 z1), MP.eq (.slice (some ⟨T, 0, none⟩) N N), MP.eq (.int .i64 (k : Int)), MP.eq (.pointer (some ⟨T, k, none⟩)), MP.eq (.slice (some ⟨R2, 0, none⟩) M M), MP.eq (.int .i64 (j : Int)), MP.eq (.int .i64 (c : Int)), MP.eq (.int .i64 (d : Int)), MP.eq (.pointer (some ⟨R2, d, none⟩)), MP.eq (.int .i64 z2), MP.eq (.int .i64 (z1 + z2)), MP.eq (.int .i64 B2)]) rfl (by kernel_rfl) (fun _ _ _ h k => Ext.trans h k) (fun _ => Below.refl _ _) (fun x => (Below.refl x.heap.size x).drew) (MPat.mono _) (by kernel_rfl) (by kernel_rfl) (by kernel_rfl) ?obs ?rest
                        case obs =>
                          refine ⟨?_, ?_, ?_, ?_, ?_, ?_, ?_, ?_, ?_, ?_, ?_, ?_, ?_, ?_, ?_, ?_, ?_, ?_, ?_, trivial⟩
                          · intro ev W hf _ _ hst hd
                            have e10 : ev (.tmp 10) = .int .i64 B := hf 10 (by kernel_rfl)
                            refine st_value (v := .int .i64 B) ?_ (Below.refl _ _) ?_
                            · simp [execOp, go_sem, e10]
                            · exact rfl
                          · intro ev W hf _ _ hst hd
                            have e7 : ev (.tmp 7) = .slice (some ⟨T, 0, none⟩) N N := hf 7 (by kernel_rfl)
                            refine st_value (v := .slice (some ⟨T, 0, none⟩) N N) ?_ (Below.refl _ _) ?_
                            · simp [execOp, go_sem, e7]
                            · exact rfl
                          · intro ev W hf _ _ hst hd
                            have e8 : ev (.tmp 8) = .int .i64 (k : Int) := hf 8 (by kernel_rfl)
                            refine st_value (v := .int .i64 (k : Int)) ?_ (Below.refl _ _) ?_
                            · simp [execOp, go_sem, e8]
                            · exact rfl
                          · intro ev W hf _ _ hst hd
                            obtain ⟨d96, d97, _⟩ := hd
                            have e96 : ev (.tmp 96) = .slice (some ⟨T, 0, none⟩) N N := d96
                            have e97 : ev (.tmp 97) = .int .i64 (k : Int) := d97
                            refine st_value (v := .pointer (some ⟨T, k, none⟩)) ?_ (Below.refl _ _) ?_
                            · simp [execOp, go_sem, e96, e97, hlt]
                            · exact rfl
                          · intro ev W hf _ _ hst hd
                            obtain ⟨d98, _⟩ := hd
                            have e98 : ev (.tmp 98) = .pointer (some ⟨T, k, none⟩) := d98
                            have q0 := Ext.cell hst HA1.out
                            refine st_value (v := .slice (some ⟨R1, 0, none⟩) M M) ?_ (Below.refl _ _) ?_
                            · simp [execOp, go_sem, e98, q0]
                            · exact rfl
                          · intro ev W hf _ _ hst hd
                            have e13 : ev (.tmp 13) = .int .i64 (c : Int) := hf 13 (by kernel_rfl)
                            refine st_value (v := .int .i64 (c : Int)) ?_ (Below.refl _ _) ?_
                            · simp [execOp, go_sem, e13]
                            · exact rfl
                          · intro ev W hf _ _ hst hd
                            obtain ⟨d99, d100, _⟩ := hd
                            have e99 : ev (.tmp 99) = .slice (some ⟨R1, 0, none⟩) M M := d99
                            have e100 : ev (.tmp 100) = .int .i64 (c : Int) := d100
                            refine st_value (v := .pointer (some ⟨R1, c, none⟩)) ?_ (Below.refl _ _) ?_
                            · simp [execOp, go_sem, e99, e100, hcN]
                            · exact rfl
                          · intro ev W hf _ _ hst hd
                            obtain ⟨d101, _⟩ := hd
                            have e101 : ev (.tmp 101) = .pointer (some ⟨R1, c, none⟩) := d101
                            have q0 := Ext.cell hst HA2.out
                            refine st_value (v := .int .i64 z1) ?_ (Below.refl _ _) ?_
                            · simp [execOp, go_sem, e101, q0]
                            · exact rfl
                          · intro ev W hf _ _ hst hd
                            have e7 : ev (.tmp 7) = .slice (some ⟨T, 0, none⟩) N N := hf 7 (by kernel_rfl)
                            refine st_value (v := .slice (some ⟨T, 0, none⟩) N N) ?_ (Below.refl _ _) ?_
                            · simp [execOp, go_sem, e7]
                            · exact rfl
                          · intro ev W hf _ _ hst hd
                            have e8 : ev (.tmp 8) = .int .i64 (k : Int) := hf 8 (by kernel_rfl)
                            refine st_value (v := .int .i64 (k : Int)) ?_ (Below.refl _ _) ?_
                            · simp [execOp, go_sem, e8]
                            · exact rfl
                          · intro ev W hf _ _ hst hd
                            obtain ⟨d103, d104, _⟩ := hd
                            have e103 : ev (.tmp 103) = .slice (some ⟨T, 0, none⟩) N N := d103
                            have e104 : ev (.tmp 104) = .int .i64 (k : Int) := d104
                            refine st_value (v := .pointer (some ⟨T, k, none⟩)) ?_ (Below.refl _ _) ?_
                            · simp [execOp, go_sem, e103, e104, hlt]
                            · exact rfl
                          · intro ev W hf _ _ hst hd
                            obtain ⟨d105, _⟩ := hd
                            have e105 : ev (.tmp 105) = .pointer (some ⟨T, k, none⟩) := d105
                            have q0 := Ext.cell hst HA3.out
                            refine st_value (v := .slice (some ⟨R2, 0, none⟩) M M) ?_ (Below.refl _ _) ?_
                            · simp [execOp, go_sem, e105, q0]
                            · exact rfl
                          · intro ev W hf _ _ hst hd
                            have e9 : ev (.tmp 9) = .int .i64 (j : Int) := hf 9 (by kernel_rfl)
                            refine st_value (v := .int .i64 (j : Int)) ?_ (Below.refl _ _) ?_
                            · simp [execOp, go_sem, e9]
                            · exact rfl
                          · intro ev W hf _ _ hst hd
                            have e13 : ev (.tmp 13) = .int .i64 (c : Int) := hf 13 (by kernel_rfl)
                            refine st_value (v := .int .i64 (c : Int)) ?_ (Below.refl _ _) ?_
                            · simp [execOp, go_sem, e13]
                            · exact rfl
                          · intro ev W hf _ _ hst hd
                            obtain ⟨d107, d108, _⟩ := hd
                            have e107 : ev (.tmp 107) = .int .i64 (j : Int) := d107
                            have e108 : ev (.tmp 108) = .int .i64 (c : Int) := d108
                            refine st_value (v := .int .i64 (d : Int)) ?_ (Below.refl _ _) ?_
                            · simp [execOp, go_sem, e107, e108, hsub]
                            · exact rfl
                          · intro ev W hf _ _ hst hd
                            obtain ⟨d106, d109, _⟩ := hd
                            have e106 : ev (.tmp 106) = .slice (some ⟨R2, 0, none⟩) M M := d106
                            have e109 : ev (.tmp 109) = .int .i64 (d : Int) := d109
                            refine st_value (v := .pointer (some ⟨R2, d, none⟩)) ?_ (Below.refl _ _) ?_
                            · simp [execOp, go_sem, e106, e109, hdN]
                            · exact rfl
                          · intro ev W hf _ _ hst hd
                            obtain ⟨d110, _⟩ := hd
                            have e110 : ev (.tmp 110) = .pointer (some ⟨R2, d, none⟩) := d110
                            have q0 := Ext.cell hst HA4.out
                            refine st_value (v := .int .i64 z2) ?_ (Below.refl _ _) ?_
                            · simp [execOp, go_sem, e110, q0]
                            · exact rfl
                          · intro ev W hf _ _ hst hd
                            obtain ⟨d102, d111, _⟩ := hd
                            have e102 : ev (.tmp 102) = .int .i64 z1 := d102
                            have e111 : ev (.tmp 111) = .int .i64 z2 := d111
                            refine st_value (v := .int .i64 (z1 + z2)) ?_ (Below.refl _ _) ?_
                            · simp [execOp, go_sem, e102, e111, hadd]
                            · exact rfl
                          · intro ev W hf _ _ hst hd
                            obtain ⟨d95, d112, _⟩ := hd
                            have e95 : ev (.tmp 95) = .int .i64 B := d95
                            have e112 : ev (.tmp 112) = .int .i64 (z1 + z2) := d112
                            refine st_value (v := .int .i64 B2) ?_ (Below.refl _ _) ?_
                            · simp [execOp, go_sem, e95, e112, hmx]
                            · exact rfl
                        case rest =>
                          intro vs w5 hl hst hg
                          have HE3 := Lib.hid hst
                          have hvs : vs = [.int .i64 B, .slice (some ⟨T, 0, none⟩) N N, .int .i64 (k : Int), .pointer (some ⟨T, k, none⟩), .slice (some ⟨R1, 0, none⟩) M M, .int .i64 (c : Int), .pointer (some ⟨R1, c, none⟩), .int .i64 z1, .slice (some ⟨T, 0, none⟩) N N, .int .i64 (k : Int), .pointer (some ⟨T, k, none⟩), .slice (some ⟨R2, 0, none⟩) M M, .int .i64 (j : Int), .int .i64 (c : Int), .int .i64 (d : Int), .pointer (some ⟨R2, d, none⟩), .int .i64 z2, .int .i64 (z1 + z2), .int .i64 B2] := list_of hl (fun i u hu => by
                            match i, hu with
                            | 0, hu => exact (congrArg some (hg 0 u hu)).symm
                            | 1, hu => exact (congrArg some (hg 1 u hu)).symm
                            | 2, hu => exact (congrArg some (hg 2 u hu)).symm
                            | 3, hu => exact (congrArg some (hg 3 u hu)).symm
                            | 4, hu => exact (congrArg some (hg 4 u hu)).symm
                            | 5, hu => exact (congrArg some (hg 5 u hu)).symm
                            | 6, hu => exact (congrArg some (hg 6 u hu)).symm
                            | 7, hu => exact (congrArg some (hg 7 u hu)).symm
                            | 8, hu => exact (congrArg some (hg 8 u hu)).symm
                            | 9, hu => exact (congrArg some (hg 9 u hu)).symm
                            | 10, hu => exact (congrArg some (hg 10 u hu)).symm
                            | 11, hu => exact (congrArg some (hg 11 u hu)).symm
                            | 12, hu => exact (congrArg some (hg 12 u hu)).symm
                            | 13, hu => exact (congrArg some (hg 13 u hu)).symm
                            | 14, hu => exact (congrArg some (hg 14 u hu)).symm
                            | 15, hu => exact (congrArg some (hg 15 u hu)).symm
                            | 16, hu => exact (congrArg some (hg 16 u hu)).symm
                            | 17, hu => exact (congrArg some (hg 17 u hu)).symm
                            | 18, hu => exact (congrArg some (hg 18 u hu)).symm
                            | n + 19, hu => exact absurd (lt_len hu) (by rw [hl]; simp))
                          clear hg hst hl
                          subst hvs
                          simp only [putAll, Act.put, List.dropLast, List.setIfInBounds_toArray, List.set_cons_zero, List.set_cons_succ]
                          go_wp2_with fail
                          exact ⟨⟨c + 1, B2, by simp, rfl, by omega, by omega, HNXT.out, Ext.trans HEq.out HE3.out⟩, by simp [intOf]; omega⟩
                      · obtain rfl : j = c := by omega
                        skip
                        obtain rfl : B = bestV ts k j := best_of_all HB0.out.1 HB0.out.2 HI0.out (fun x h1 h2 => HW0.out x h1 (by omega)) (fun y h1 h2 => HN.out y h1 (by omega))
                        have hEq := HEq.out
                        have HU := Lib.hid (VRow.ext HUS.out hEq)
                        obtain ⟨u0, hu0⟩ := getElem?_len (show j < xs.length by rw [HST.out.1]; exact hjl)
                        have m0 := IRow.at HU.out hu0
                        have f0 := VRow.frozen HU.out j none
                        have q0 := Ext.cell hEq HCC.out
                        clear hu0 hEq
                        go_wp2_with fail
                        have hRl := VRow.lt HUS.out
                        refine ⟨⟨j + 1, _, by simp, by omega, by omega, fun e => absurd e hkz, IRow.put HU.out j (bestV ts k j), HPUT.out, Below.setCell (p := ⟨R, j, none⟩) (Below.lastly HBL.out HEq.out (by omega)) (Nat.le_refl _) _⟩, by simp [intOf]; omega⟩
        · have hjH : ¬ (j : Int) ≤ (H : Int) := by omega
          obtain ⟨⟨_, d1, _⟩, d2, d3, d4⟩ := HDONE.out (.inl (by omega))
          have D1 := Lib.hid d1
          have D2 := Lib.hid d2
          have D4 := Lib.hid d4
          clear d1 d2 d4
          go_wp2_with fail
          exact ⟨⟨k + 1, _, by simp, by omega, D1.out, by rw [List.length_set]; exact HVS.out, D2.out, d3, D4.out⟩, by simp [intOf]; omega⟩
    · have hkW : ¬ (k : Int) ≤ (W : Int) := by omega
      obtain rfl : k = N := by omega
      go_wp2_with fail
      go_ret
      refine ⟨T, rfl, fun a b ha hb => ?_, HE1.out⟩
      obtain ⟨R, h1, h2, h3⟩ := HTab.out a (by have := HN.out; omega)
      exact h3.ent (by have := HM.out; omega)

end Go.Proofs.Ytnpebfchojalcaa
