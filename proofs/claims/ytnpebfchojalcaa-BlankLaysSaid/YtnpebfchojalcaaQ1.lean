namespace Go.Proofs.Ytnpebfchojalcaa
/-- an item: its width, its height, its value; also a choice: its value, its kind, its number -/
abbrev It := Int × Int × Int
/-- a step of a plan: its kind, its number -/
abbrev Ct := Int × Int
def fitsB (w h : Nat) (t : It) : Bool := decide (t.1 ≤ (w : Int)) && decide (t.2.1 ≤ (h : Int))
def pickZ (b o : It) : It := if b.1 < o.1 then o else b
theorem pickZ_ge (b o : It) : b.1 ≤ (pickZ b o).1 ∧ o.1 ≤ (pickZ b o).1 := by
  unfold pickZ; split <;> constructor <;> omega
theorem pickZ_or (b o : It) : pickZ b o = b ∨ pickZ b o = o := by
  unfold pickZ; split
  · exact .inr rfl
  · exact .inl rfl
/-- after the first k items -/
def itemsK (items : List It) (w h : Nat) : Nat → It
  | 0 => (0, 0, 0)
  | k + 1 => if fitsB w h (items.getD k (0, 0, 0)) then pickZ (itemsK items w h k) ((items.getD k (0, 0, 0)).2.2, 1, k) else itemsK items w h k
def widesK (V : Nat → Nat → Int) (w h : Nat) (b : It) : Nat → It
  | 0 => b
  | k + 1 => pickZ (widesK V w h b k) (V (k + 1) h + V (w - (k + 1)) h, 2, (k : Int) + 1)
def highsK (V : Nat → Nat → Int) (w h : Nat) (b : It) : Nat → It
  | 0 => b
  | k + 1 => pickZ (highsK V w h b k) (V w (k + 1) + V w (h - (k + 1)), 3, (k : Int) + 1)
def chooseF (items : List It) (V : Nat → Nat → Int) (w h : Nat) : It := highsK V w h (widesK V w h (itemsK items w h items.length) (w / 2)) (h / 2)
def chN (items : List It) : Nat → Nat → Nat → It
  | 0, _, _ => (0, 0, 0)
  | f + 1, w, h => chooseF items (fun a b => (chN items f a b).1) w h
def bestC (items : List It) (w h : Nat) : It := chN items (w + h + 1) w h
def bestV (items : List It) (w h : Nat) : Int := (bestC items w h).1

theorem widesK_congr {U V : Nat → Nat → Int} {w h : Nat} {b : It} (hUV : ∀ x, 1 ≤ x → x < w → U x h = V x h) : ∀ k, k ≤ w / 2 → widesK U w h b k = widesK V w h b k := by
  intro k
  induction k with
  | zero => intro _; rfl
  | succ k ih =>
    intro hk
    simp only [widesK]
    rw [ih (by omega), hUV (k + 1) (by omega) (by omega), hUV (w - (k + 1)) (by omega) (by omega)]
theorem highsK_congr {U V : Nat → Nat → Int} {w h : Nat} {b : It} (hUV : ∀ y, 1 ≤ y → y < h → U w y = V w y) : ∀ k, k ≤ h / 2 → highsK U w h b k = highsK V w h b k := by
  intro k
  induction k with
  | zero => intro _; rfl
  | succ k ih =>
    intro hk
    simp only [highsK]
    rw [ih (by omega), hUV (k + 1) (by omega) (by omega), hUV (h - (k + 1)) (by omega) (by omega)]
theorem chooseF_congr {items : List It} {U V : Nat → Nat → Int} {w h : Nat} (h1 : ∀ x, 1 ≤ x → x < w → U x h = V x h) (h2 : ∀ y, 1 ≤ y → y < h → U w y = V w y) : chooseF items U w h = chooseF items V w h := by
  unfold chooseF
  rw [widesK_congr h1 _ (Nat.le_refl _), highsK_congr h2 _ (Nat.le_refl _)]
theorem chN_fuel {items : List It} : ∀ (f g w h : Nat), w + h < f → w + h < g → chN items f w h = chN items g w h := by
  intro f
  induction f with
  | zero => intro g w h hf; omega
  | succ f ih =>
    intro g w h hf hg
    cases g with
    | zero => omega
    | succ g =>
      simp only [chN]
      exact chooseF_congr (fun x hx hxw => by rw [ih g x h (by omega) (by omega)]) (fun y hy hyh => by rw [ih g w y (by omega) (by omega)])
theorem bestC_eq (items : List It) (w h : Nat) : bestC items w h = chooseF items (bestV items) w h := by
  unfold bestC
  simp only [chN]
  refine chooseF_congr (fun x hx hxw => ?_) (fun y hy hyh => ?_)
  · unfold bestV bestC; rw [chN_fuel (w + h) (x + h + 1) x h (by omega) (by omega)]
  · unfold bestV bestC; rw [chN_fuel (w + h) (w + y + 1) w y (by omega) (by omega)]

theorem itemsK_ge {items : List It} {w h : Nat} : ∀ k, 0 ≤ (itemsK items w h k).1 ∧ ∀ j, j < k → fitsB w h (items.getD j (0, 0, 0)) = true → (items.getD j (0, 0, 0)).2.2 ≤ (itemsK items w h k).1 := by
  intro k
  induction k with
  | zero => exact ⟨by simp [itemsK], fun j hj => by omega⟩
  | succ k ih =>
    simp only [itemsK]
    split
    · rename_i hf
      have := pickZ_ge (itemsK items w h k) ((items.getD k (0, 0, 0)).2.2, 1, (k : Int))
      refine ⟨by have := ih.1; omega, fun j hj hfj => ?_⟩
      by_cases e : j = k
      · subst e; exact this.2
      · have := ih.2 j (by omega) hfj; omega
    · rename_i hf
      refine ⟨ih.1, fun j hj hfj => ?_⟩
      by_cases e : j = k
      · subst e; exact absurd hfj hf
      · exact ih.2 j (by omega) hfj
theorem widesK_ge {V : Nat → Nat → Int} {w h : Nat} {b : It} : ∀ k, b.1 ≤ (widesK V w h b k).1 ∧ ∀ x, 1 ≤ x → x ≤ k → V x h + V (w - x) h ≤ (widesK V w h b k).1 := by
  intro k
  induction k with
  | zero => exact ⟨Int.le_refl _, fun x h1 h2 => by omega⟩
  | succ k ih =>
    simp only [widesK]
    have := pickZ_ge (widesK V w h b k) (V (k + 1) h + V (w - (k + 1)) h, 2, (k : Int) + 1)
    refine ⟨by have := ih.1; omega, fun x h1 h2 => ?_⟩
    by_cases e : x = k + 1
    · subst e; exact this.2
    · have := ih.2 x h1 (by omega); omega
theorem highsK_ge {V : Nat → Nat → Int} {w h : Nat} {b : It} : ∀ k, b.1 ≤ (highsK V w h b k).1 ∧ ∀ y, 1 ≤ y → y ≤ k → V w y + V w (h - y) ≤ (highsK V w h b k).1 := by
  intro k
  induction k with
  | zero => exact ⟨Int.le_refl _, fun x h1 h2 => by omega⟩
  | succ k ih =>
    simp only [highsK]
    have := pickZ_ge (highsK V w h b k) (V w (k + 1) + V w (h - (k + 1)), 3, (k : Int) + 1)
    refine ⟨by have := ih.1; omega, fun x h1 h2 => ?_⟩
    by_cases e : x = k + 1
    · subst e; exact this.2
    · have := ih.2 x h1 (by omega); omega
/-- what a choice is -/
def IsChoice (items : List It) (V : Nat → Nat → Int) (w h : Nat) (c : It) : Prop :=
  c = (0, 0, 0) ∨ (∃ j, j < items.length ∧ fitsB w h (items.getD j (0, 0, 0)) = true ∧ c = ((items.getD j (0, 0, 0)).2.2, 1, (j : Int))) ∨
    (∃ x : Nat, 1 ≤ x ∧ x ≤ w / 2 ∧ c = (V x h + V (w - x) h, 2, (x : Int))) ∨ (∃ y : Nat, 1 ≤ y ∧ y ≤ h / 2 ∧ c = (V w y + V w (h - y), 3, (y : Int)))
theorem itemsK_is {items : List It} {V : Nat → Nat → Int} {w h : Nat} : ∀ k, k ≤ items.length → IsChoice items V w h (itemsK items w h k) := by
  intro k
  induction k with
  | zero => intro _; exact .inl rfl
  | succ k ih =>
    intro hk
    simp only [itemsK]
    split
    · rename_i hf
      rcases pickZ_or (itemsK items w h k) ((items.getD k (0, 0, 0)).2.2, 1, (k : Int)) with e | e
      · rw [e]; exact ih (by omega)
      · rw [e]; exact .inr (.inl ⟨k, by omega, hf, rfl⟩)
    · exact ih (by omega)
theorem widesK_is {items : List It} {V : Nat → Nat → Int} {w h : Nat} {b : It} (hb : IsChoice items V w h b) : ∀ k, k ≤ w / 2 → IsChoice items V w h (widesK V w h b k) := by
  intro k
  induction k with
  | zero => intro _; exact hb
  | succ k ih =>
    intro hk
    simp only [widesK]
    rcases pickZ_or (widesK V w h b k) (V (k + 1) h + V (w - (k + 1)) h, 2, (k : Int) + 1) with e | e
    · rw [e]; exact ih (by omega)
    · rw [e]; exact .inr (.inr (.inl ⟨k + 1, by omega, hk, by simp⟩))
theorem highsK_is {items : List It} {V : Nat → Nat → Int} {w h : Nat} {b : It} (hb : IsChoice items V w h b) : ∀ k, k ≤ h / 2 → IsChoice items V w h (highsK V w h b k) := by
  intro k
  induction k with
  | zero => intro _; exact hb
  | succ k ih =>
    intro hk
    simp only [highsK]
    rcases pickZ_or (highsK V w h b k) (V w (k + 1) + V w (h - (k + 1)), 3, (k : Int) + 1) with e | e
    · rw [e]; exact ih (by omega)
    · rw [e]; exact .inr (.inr (.inr ⟨k + 1, by omega, hk, by simp⟩))
theorem bestC_is (items : List It) (w h : Nat) : IsChoice items (bestV items) w h (bestC items w h) := by
  rw [bestC_eq]
  exact highsK_is (widesK_is (itemsK_is _ (Nat.le_refl _)) _ (Nat.le_refl _)) _ (Nat.le_refl _)
theorem bestV_nonneg (items : List It) (w h : Nat) : 0 ≤ bestV items w h := by
  unfold bestV
  rw [bestC_eq]
  unfold chooseF
  have h1 := (itemsK_ge (items := items) (w := w) (h := h) items.length).1
  have h2 := (widesK_ge (V := bestV items) (w := w) (h := h) (b := itemsK items w h items.length) (w / 2)).1
  have h3 := (highsK_ge (V := bestV items) (w := w) (h := h) (b := widesK (bestV items) w h (itemsK items w h items.length) (w / 2)) (h / 2)).1
  omega
theorem bestV_item {items : List It} {w h j : Nat} (hj : j < items.length) (hf : fitsB w h (items.getD j (0, 0, 0)) = true) : (items.getD j (0, 0, 0)).2.2 ≤ bestV items w h := by
  unfold bestV
  rw [bestC_eq]
  unfold chooseF
  have h1 := (itemsK_ge (items := items) (w := w) (h := h) items.length).2 j hj hf
  have h2 := (widesK_ge (V := bestV items) (w := w) (h := h) (b := itemsK items w h items.length) (w / 2)).1
  have h3 := (highsK_ge (V := bestV items) (w := w) (h := h) (b := widesK (bestV items) w h (itemsK items w h items.length) (w / 2)) (h / 2)).1
  omega
theorem bestV_wide {items : List It} {w h x : Nat} (h1 : 1 ≤ x) (h2 : x < w) : bestV items x h + bestV items (w - x) h ≤ bestV items w h := by
  have key : ∀ x, 1 ≤ x → x ≤ w / 2 → bestV items x h + bestV items (w - x) h ≤ bestV items w h := by
    intro x h1 h2
    show _ ≤ (bestC items w h).1
    rw [bestC_eq]
    unfold chooseF
    have a := (widesK_ge (V := bestV items) (w := w) (h := h) (b := itemsK items w h items.length) (w / 2)).2 x h1 h2
    have b := (highsK_ge (V := bestV items) (w := w) (h := h) (b := widesK (bestV items) w h (itemsK items w h items.length) (w / 2)) (h / 2)).1
    omega
  by_cases hx : x ≤ w / 2
  · exact key x h1 hx
  · have := key (w - x) (by omega) (by omega)
    rw [show w - (w - x) = x by omega] at this
    omega
theorem bestV_high {items : List It} {w h y : Nat} (h1 : 1 ≤ y) (h2 : y < h) : bestV items w y + bestV items w (h - y) ≤ bestV items w h := by
  have key : ∀ y, 1 ≤ y → y ≤ h / 2 → bestV items w y + bestV items w (h - y) ≤ bestV items w h := by
    intro y h1 h2
    show _ ≤ (bestC items w h).1
    rw [bestC_eq]
    unfold chooseF
    exact (highsK_ge (V := bestV items) (w := w) (h := h) (b := widesK (bestV items) w h (itemsK items w h items.length) (w / 2)) (h / 2)).2 y h1 h2
  by_cases hx : y ≤ h / 2
  · exact key y h1 hx
  · have := key (h - y) (by omega) (by omega)
    rw [show h - (h - y) = y by omega] at this
    omega
/-- no table that allows all that a plan may do is less -/
theorem bestV_least {items : List It} {F : Nat → Nat → Int} (h0 : ∀ w h, 0 ≤ F w h) (h1 : ∀ w h j, j < items.length → fitsB w h (items.getD j (0, 0, 0)) = true → (items.getD j (0, 0, 0)).2.2 ≤ F w h)
    (h2 : ∀ w h x, 1 ≤ x → x < w → F x h + F (w - x) h ≤ F w h) (h3 : ∀ w h y, 1 ≤ y → y < h → F w y + F w (h - y) ≤ F w h) : ∀ (n w h : Nat), w + h ≤ n → bestV items w h ≤ F w h := by
  intro n
  induction n with
  | zero =>
    intro w h hn
    obtain ⟨rfl, rfl⟩ : w = 0 ∧ h = 0 := by omega
    rcases bestC_is items 0 0 with e | ⟨j, hj, hf, e⟩ | ⟨x, a, b, e⟩ | ⟨y, a, b, e⟩
    · unfold bestV; rw [e]; exact h0 _ _
    · unfold bestV; rw [e]; exact h1 _ _ j hj hf
    · omega
    · omega
  | succ n ih =>
    intro w h hn
    rcases bestC_is items w h with e | ⟨j, hj, hf, e⟩ | ⟨x, a, b, e⟩ | ⟨y, a, b, e⟩
    · unfold bestV; rw [e]; exact h0 _ _
    · unfold bestV; rw [e]; exact h1 _ _ j hj hf
    · have i1 := ih x h (by omega)
      have i2 := ih (w - x) h (by omega)
      have i3 := h2 w h x a (by omega)
      have : bestV items w h = bestV items x h + bestV items (w - x) h := by show (bestC items w h).1 = _; rw [e]
      omega
    · have i1 := ih w y (by omega)
      have i2 := ih w (h - y) (by omega)
      have i3 := h3 w h y a (by omega)
      have : bestV items w h = bestV items w y + bestV items w (h - y) := by show (bestC items w h).1 = _; rw [e]
      omega
theorem bestV_le {items : List It} {F : Nat → Nat → Int} (h0 : ∀ w h, 0 ≤ F w h) (h1 : ∀ w h j, j < items.length → fitsB w h (items.getD j (0, 0, 0)) = true → (items.getD j (0, 0, 0)).2.2 ≤ F w h)
    (h2 : ∀ w h x, 1 ≤ x → x < w → F x h + F (w - x) h ≤ F w h) (h3 : ∀ w h y, 1 ≤ y → y < h → F w y + F w (h - y) ≤ F w h) (w h : Nat) : bestV items w h ≤ F w h := bestV_least h0 h1 h2 h3 _ w h (Nat.le_refl _)
/-- a greater sheet is worth no less -/
theorem bestV_mono_w {items : List It} {w h : Nat} (hw : 1 ≤ w) : ∀ k, bestV items w h ≤ bestV items (w + k) h := by
  intro k
  induction k with
  | zero => exact Int.le_refl _
  | succ k ih =>
    have := bestV_wide (items := items) (h := h) (x := w + k) (w := w + (k + 1)) (by omega) (by omega)
    have := bestV_nonneg items (w + (k + 1) - (w + k)) h
    omega
theorem bestV_mono_h {items : List It} {w h : Nat} (hh : 1 ≤ h) : ∀ k, bestV items w h ≤ bestV items w (h + k) := by
  intro k
  induction k with
  | zero => exact Int.le_refl _
  | succ k ih =>
    have := bestV_high (items := items) (w := w) (y := h + k) (h := h + (k + 1)) (by omega) (by omega)
    have := bestV_nonneg items w (h + (k + 1) - (h + k))
    omega
def turnIt (t : It) : It := (t.2.1, t.1, t.2.2)
theorem getD_map_it {f : It → It} {items : List It} {j : Nat} (hj : j < items.length) : (items.map f).getD j (0, 0, 0) = f (items.getD j (0, 0, 0)) := by
  simp [List.getD_eq_getElem?_getD, List.getElem?_map, List.getElem?_eq_getElem hj]
theorem turn_le (items : List It) (w h : Nat) : bestV items w h ≤ bestV (items.map turnIt) h w := by
  refine bestV_le (F := fun w h => bestV (items.map turnIt) h w) (fun _ _ => bestV_nonneg _ _ _) (fun w h j hj hf => ?_) (fun w h x a b => bestV_high a b) (fun w h y a b => bestV_wide a b) w h
  have e := getD_map_it (f := turnIt) hj
  have := bestV_item (items := items.map turnIt) (w := h) (h := w) (j := j) (by simpa using hj) (by rw [e]; simp only [fitsB, turnIt, Bool.and_eq_true] at hf ⊢; exact ⟨hf.2, hf.1⟩)
  rw [e] at this
  exact this
theorem turn_turn (items : List It) : (items.map turnIt).map turnIt = items := by
  rw [List.map_map]
  exact List.map_id'' (fun _ => rfl) _
theorem bestV_turn (items : List It) (w h : Nat) : bestV (items.map turnIt) h w = bestV items w h := by
  have a := turn_le items w h
  have b := turn_le (items.map turnIt) h w
  rw [turn_turn] at b
  omega
theorem bestV_dear {items : List It} {f : It → It} (h1 : ∀ t ∈ items, (f t).1 = t.1 ∧ (f t).2.1 = t.2.1 ∧ t.2.2 ≤ (f t).2.2) (w h : Nat) : bestV items w h ≤ bestV (items.map f) w h := by
  refine bestV_le (F := bestV (items.map f)) (fun _ _ => bestV_nonneg _ _ _) (fun w h j hj hf => ?_) (fun w h x a b => bestV_wide a b) (fun w h y a b => bestV_high a b) w h
  have e := getD_map_it (f := f) hj
  have hm : items.getD j (0, 0, 0) ∈ items := by rw [List.getD_eq_getElem?_getD, List.getElem?_eq_getElem hj]; exact List.getElem_mem _
  obtain ⟨a, b, c⟩ := h1 _ hm
  have := bestV_item (items := items.map f) (w := w) (h := h) (j := j) (by simpa using hj) (by rw [e]; simp only [fitsB, a, b]; exact hf)
  rw [e] at this
  exact Int.le_trans c this
end Go.Proofs.Ytnpebfchojalcaa
