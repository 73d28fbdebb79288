import Derived.Test.YtnoacppfgckohaaStab
namespace Go.Proofs.Ytnoacppfgckohaa
open Go.RowKit
/-- the last operation waits for all the others, by some way -/
def waitB (l : List Oper) (i a : Nat) : Bool := match l[i]? with | some o => o.after.any fun e => e.on == a && Region.binds .any e | none => false
def lastB (l : List Oper) (o : Oper) : Bool :=
  o.guard.isNone && (l.all fun x => x.guard.isNone) && (List.range l.length).all fun i => (o.after.any fun e => e.on == i && Region.binds .any e) || (List.range l.length).any fun j => decide (i < j) && waitB l j i
def closedL (l : List Oper) (listed : Array Bool) : Prop := ∀ (i : Nat) (x : Oper), l[i]? = some x → listed.getD i false = true → ∀ e ∈ x.after, Region.binds .any e = true → listed.getD e.on false = true
def lastQ (P : Program) (o : Oper) (Q : Exit → Act → World → Prop) : Exit → Act → World → Prop
  | .normal, a, w => o.wp P a w (fun a' w' => Q .normal a' w') Q
  | e, a, w => Q e a w
section
variable {P : Program} {Q : Exit → Act → World → Prop}
theorem letsOut_last {o : Oper} (h : LetsOut (lastQ P o Q)) : LetsOut Q := h
theorem operWp_last {o x : Oper} {a : Act} {w : World} {K : Act → World → Prop} (h : x.wp P a w K (lastQ P o Q)) : x.wp P a w K Q := by
  unfold Oper.wp at *
  generalize (execOp a.eval x).run P w = r at *
  cases r with
  | ok n w' =>
    cases n <;> simp only [Oper.upon] at h ⊢ <;>
      first
        | exact h
        | exact Calls.mono h (fun e w'' he => by cases e <;> exact he)
  | halt y w' => cases y <;> simp only [Oper.upon] at h ⊢ <;> exact h
theorem push_getD {listed : Array Bool} {j : Nat} (d : Bool) (hj : j < listed.size) : (listed.push false).getD j d = listed.getD j d := by
  rw [Array.getD_eq_getD_getElem?, Array.getD_eq_getD_getElem?, Array.getElem?_push_lt hj, Array.getElem?_eq_getElem hj]
theorem push_set {listed : Array Bool} {j : Nat} (hj : j < listed.size) : (listed.push false).setIfInBounds j true = (listed.setIfInBounds j true).push false := by
  apply Array.ext_getElem?
  intro i
  simp only [Array.getElem?_setIfInBounds, Array.getElem?_push, Array.size_setIfInBounds, Array.size_push]
  by_cases hij : j = i
  · subst hij
    have h1 : ¬ j = listed.size := by omega
    have h2 : j < listed.size + 1 := by omega
    simp [hj, h1, h2]
  · simp [hij]
theorem ready_lt {l : List Oper} {o : Oper} (he : edgesB 0 l = true) {listed : Array Bool} (hs : listed.size = l.length) {i : Nat} (hi : i < l.length) :
    i ∈ Region.ready .any (l ++ [o]).toArray (listed.push false) ↔ i ∈ Region.ready .any l.toArray listed := by
  rw [mem_ready, mem_ready, push_getD true (by omega)]
  have e1 : (l ++ [o]).toArray[i]? = l.toArray[i]? := by simp [List.getElem?_append_left hi]
  rw [e1]
  constructor
  · rintro ⟨h1, x, hx, h⟩
    refine ⟨h1, x, hx, fun e hm hb => ?_⟩
    have hlt := edges_get l 0 he i x (by simpa using hx) e hm hb
    have := h e hm hb
    rwa [push_getD false (by omega)] at this
  · rintro ⟨h1, x, hx, h⟩
    refine ⟨h1, x, hx, fun e hm hb => ?_⟩
    have hlt := edges_get l 0 he i x (by simpa using hx) e hm hb
    rw [push_getD false (by omega)]
    exact h e hm hb
theorem ready_le {l : List Oper} {o : Oper} {listed : Array Bool} {i : Nat} (h : i ∈ Region.ready .any (l ++ [o]).toArray listed) : i < l.length ∨ i = l.length := by
  obtain ⟨_, x, hx, _⟩ := mem_ready.1 h
  have := (Array.getElem?_eq_some_iff.1 hx).1
  simp at this
  omega
theorem lastAll {l : List Oper} {o : Oper} (hB : lastB l o = true) {listed : Array Bool} (hc : closedL l listed) (ho : ∀ e ∈ o.after, Region.binds .any e = true → e.on < l.length → listed.getD e.on false = true) : ∀ (n i : Nat), l.length - i ≤ n → i < l.length → listed.getD i false = true := by
  simp only [lastB, Bool.and_eq_true, List.all_eq_true, List.mem_range, Bool.or_eq_true, Array.any_eq_true', List.any_eq_true, beq_iff_eq, decide_eq_true_eq] at hB
  intro n
  induction n with
  | zero => intro i hn hi; omega
  | succ n ih =>
    intro i hn hi
    rcases hB.2 i hi with ⟨e, hm, he, hb⟩ | ⟨j, hj, hij, hw⟩
    · have := ho e hm hb (by omega)
      rwa [he] at this
    · have hlj := ih j (by omega) hj
      unfold waitB at hw
      split at hw
      · rename_i x hx
        simp only [Array.any_eq_true', Bool.and_eq_true, beq_iff_eq] at hw
        obtain ⟨e, hm, he, hb⟩ := hw
        have := hc j x hx hlj e hm hb
        rwa [he] at this
      · cases hw
theorem closed_set {l : List Oper} {listed : Array Bool} (hs : listed.size = l.length) (hc : closedL l listed) {i : Nat} (hi : i ∈ Region.ready .any l.toArray listed) : closedL l (listed.setIfInBounds i true) := by
  obtain ⟨_, y, hy, hd⟩ := mem_ready.1 hi
  have keep : ∀ j, listed.getD j false = true → (listed.setIfInBounds i true).getD j false = true := fun j hj => by
    rw [Array.getD_eq_getD_getElem?] at hj ⊢
    rw [Array.getElem?_setIfInBounds]
    split
    · split
      · rfl
      · rename_i h1 h2
        rw [← h1, Array.getElem?_eq_none (by omega)] at hj
        cases hj
    · exact hj
  intro j x hx hj e hm hb
  by_cases hij : i = j
  · subst hij
    have : x = y := by
      have hy2 : l[i]? = some y := by simpa using hy
      rw [hx] at hy2
      injection hy2
    subst this
    exact keep _ (hd e hm hb)
  · refine keep _ (hc j x hx ?_ e hm hb)
    rw [Array.getD_eq_getD_getElem?, Array.getElem?_setIfInBounds, if_neg hij] at hj
    rwa [Array.getD_eq_getD_getElem?]
theorem ready_last {l : List Oper} {o : Oper} (hB : lastB l o = true) {listed : Array Bool} (hs : listed.size = l.length) (hc : closedL l listed) (h : l.length ∈ Region.ready .any (l ++ [o]).toArray (listed.push false)) :
    Region.ready .any l.toArray listed = [] ∧ ∀ i, i < l.length → listed.getD i false = true := by
  obtain ⟨_, x, hx, h⟩ := mem_ready.1 h
  simp at hx
  subst hx
  have hall : ∀ i, i < l.length → listed.getD i false = true := fun i hi => lastAll hB hc (fun e hm hb hlt => by
    have := h e hm hb
    rwa [push_getD false (by omega)] at this) _ i (Nat.le_refl _) hi
  refine ⟨List.eq_nil_iff_forall_not_mem.2 fun i hi => ?_, hall⟩
  obtain ⟨h1, x, hx, _⟩ := mem_ready.1 hi
  have hil : i < l.length := by have := (Array.getElem?_eq_some_iff.1 hx).1; simpa using this
  have := hall i hil
  rw [Array.getD_eq_getD_getElem?, Array.getElem?_eq_getElem (by omega)] at h1 this
  simp at h1 this
  rw [h1] at this
  cases this
theorem last_ready {l : List Oper} {o : Oper} {listed : Array Bool} (hs : listed.size = l.length) (ho : ∀ e ∈ o.after, Region.binds .any e = true → e.on < l.length) (hall : ∀ i, i < l.length → listed.getD i false = true) :
    l.length ∈ Region.ready .any (l ++ [o]).toArray (listed.push false) := by
  rw [mem_ready]
  refine ⟨?_, o, by simp, fun e hm hb => ?_⟩
  · rw [Array.getD_eq_getD_getElem?, ← hs]
    simp
  · have := ho e hm hb
    rw [push_getD false (by omega)]
    exact hall _ this
theorem ready_all {l : List Oper} {listed : Array Bool} (hs : l.length ≤ listed.size) (hall : ∀ i, i < l.length → listed.getD i false = true) : Region.ready .any l.toArray listed = [] := by
  refine List.eq_nil_iff_forall_not_mem.2 fun i hi => ?_
  obtain ⟨h1, x, hx, _⟩ := mem_ready.1 hi
  have hil : i < l.length := by have := (Array.getElem?_eq_some_iff.1 hx).1; simpa using this
  have := hall i hil
  rw [Array.getD_eq_getD_getElem?, Array.getElem?_eq_getElem (by omega)] at h1 this
  simp at h1 this
  rw [h1] at this
  cases this
theorem wpAny_done {l : List Oper} {listed : Array Bool} (h : Region.ready .any l.toArray listed = []) {a : Act} {w : World} (hq : Q .normal a w) : ∀ n, wpAny P .any l.toArray Q n listed a w
  | 0 => ⟨h, hq⟩
  | _ + 1 => ⟨fun _ => hq, fun i hi => by rw [h] at hi; cases hi⟩
theorem step_last {l : List Oper} {o : Oper} (hB : lastB l o = true) {listed : Array Bool} (hs : listed.size = l.length) (hall : ∀ i, i < l.length → listed.getD i false = true) {a : Act} {w : World} (hq : lastQ P o Q .normal a w) (n : Nat) :
    wpOp P (l ++ [o]).toArray Q l.length (wpAny P .any (l ++ [o]).toArray Q n ((listed.push false).setIfInBounds l.length true)) a w := by
  unfold wpOp
  have e : (l ++ [o]).toArray[l.length]? = some o := by simp
  rw [e]
  have hg : o.guard = none := by
    simp only [lastB, Bool.and_eq_true, Option.isNone_iff_eq_none] at hB
    exact hB.1.1
  have hw : Region.wanted o (yielded (l ++ [o]).toArray a.tmps) = true := by simp [Region.wanted, hg]
  simp only [hw, if_true]
  refine .inl (Oper.wp_mono (fun a' w' h => ?_) hq)
  refine wpAny_done (ready_all (by simp; omega) fun i hi => ?_) h n
  simp only [List.length_append, List.length_cons, List.length_nil] at hi
  rw [Array.getD_eq_getD_getElem?]
  by_cases hil : i = l.length
  · subst hil; simp [hs]
  · have := hall i (by omega)
    rw [Array.getD_eq_getD_getElem?, Array.getElem?_eq_getElem (by omega)] at this
    rw [Array.getElem?_setIfInBounds, if_neg (fun e => hil e.symm), Array.getElem?_push_lt (by omega)]
    exact this
theorem wpAny_last {l : List Oper} {o : Oper} (hB : lastB l o = true) (ho : ∀ e ∈ o.after, Region.binds .any e = true → e.on < l.length) (he : edgesB 0 l = true) : ∀ (n : Nat) (listed : Array Bool) (a : Act) (w : World), listed.size = l.length → closedL l listed →
    wpAny P .any l.toArray (lastQ P o Q) n listed a w → wpAny P .any (l ++ [o]).toArray Q (n + 1) (listed.push false) a w := by
  intro n
  induction n with
  | zero =>
    intro listed a w hs hc h
    have hall := ready_nil hs he h.1
    refine ⟨fun hr => ?_, fun i hi => ?_⟩
    · have := last_ready hs ho hall
      rw [hr] at this
      cases this
    · rcases ready_le hi with hlt | rfl
      · have := (ready_lt he hs hlt).1 hi
        rw [h.1] at this
        cases this
      · exact step_last hB hs hall h.2 0
  | succ n ih =>
    intro listed a w hs hc h
    refine ⟨fun hr => ?_, fun i hi => ?_⟩
    · exfalso
      by_cases h0 : Region.ready .any l.toArray listed = []
      · have := last_ready hs ho (ready_nil hs he h0)
        rw [hr] at this
        cases this
      · obtain ⟨i, hi⟩ := List.exists_mem_of_ne_nil _ h0
        have hil : i < l.length := by
          obtain ⟨_, x, hx, _⟩ := mem_ready.1 hi
          have := (Array.getElem?_eq_some_iff.1 hx).1
          simpa using this
        have := (ready_lt (o := o) he hs hil).2 hi
        rw [hr] at this
        cases this
    · rcases ready_le hi with hlt | rfl
      · have hop := h.2 i ((ready_lt he hs hlt).1 hi)
        rw [push_set (by omega)]
        unfold wpOp at hop ⊢
        have e1 : (l ++ [o]).toArray[i]? = l.toArray[i]? := by simp [List.getElem?_append_left hlt]
        rw [e1]
        obtain ⟨x, hx⟩ : ∃ x, l.toArray[i]? = some x := ⟨l[i], by simp [hlt]⟩
        rw [hx] at hop ⊢
        have hg : x.guard = none := by
          simp only [lastB, Bool.and_eq_true, List.all_eq_true, Option.isNone_iff_eq_none] at hB
          exact hB.1.2 x (List.mem_of_getElem? (by simpa using hx))
        have hw : ∀ f, Region.wanted x f = true := fun f => by simp [Region.wanted, hg]
        simp only [hw, if_true] at hop ⊢
        refine hop.imp (fun h2 => ?_) (fun h2 => h2)
        exact Oper.wp_mono (fun a' w' h3 => ih _ _ _ (by simpa using hs) (closed_set hs hc ((ready_lt he hs hlt).1 hi)) h3) (operWp_last h2)
      · obtain ⟨h0, hall⟩ := ready_last hB hs hc hi
        exact step_last hB hs hall (h.1 h0) (n + 1)
variable {St : World → World → Prop} {G : Nat → Value → World → Prop}
/-- **A region that draws its order, and whose last operation waits for all the others: the others do what is said of them; the last one is walked behind them.** -/
theorem wp_region_stable_last {L : List Oper} (ns : List OpNote) (St : World → World → Prop) (G : Nat → Value → World → Prop) {o : Oper} {id : Nat} {w : World} {a0 : Act} {Q : Exit → Act → World → Prop} (hL : L = L.dropLast ++ [o]) (hm : P.follows .mixedOrders = true)
    (hT : ∀ x y z, St x y → St y z → St x z) (hR : ∀ x, St x x) (hD : ∀ x : World, St x { x with drawn := x.drawn + 1 })
    (hG : ∀ j u x y, St x y → G j u x → G j u y) (hB : stableB L.dropLast ns a0.tmps.size = true) (hB2 : lastB L.dropLast o = true) (hB3 : (o.after.all fun e => !Region.binds .any e || decide (e.on < L.dropLast.length)) = true)
    (hob : opObs P St G w a0.tmps (dstsOf L.dropLast) 0 L.dropLast ns)
    (hQ : ∀ vs w', vs.length = L.dropLast.length → St w w' → (∀ (i : Nat) (v : Value), vs[i]? = some v → G i v w') → o.wp P (putAll a0 L.dropLast vs) w' (fun a' w' => Q .normal a' w') Q) : (Code.region id L.toArray true).wp P Q a0 w := by
  refine wp_region_any hm ?_
  generalize L.dropLast = l at *
  subst hL
  have he : edgesB 0 l = true := by
    simp only [stableB, Bool.and_eq_true] at hB
    exact hB.2
  have h := wpAny_stable (P := P) (Q := lastQ P o Q) hT hR hG hB hob hQ (List.range l.length) (Array.replicate l.length false) a0 { w with drawn := w.drawn + 1 } List.nodup_range (fun i => by
    rw [List.mem_range]
    constructor
    · intro hi
      exact ⟨hi, by simp [Array.getD_eq_getD_getElem?, hi]⟩
    · exact fun h => h.1) (by simp) ⟨rfl, rfl, hD w, fun _ _ => rfl, fun i o hi hl => by
      exfalso
      have hil : i < l.length := (List.getElem?_eq_some_iff.1 hi).1
      simp [Array.getD_eq_getD_getElem?, hil] at hl⟩
  rw [List.length_range] at h
  have h2 := wpAny_last hB2 (fun e hm hb => by
    have := (Array.all_eq_true'.1 hB3) e hm
    rw [hb] at this
    simpa using this) he l.length _ _ _ (by simp) (fun i x _ hl => by simp [Array.getD_eq_getD_getElem?, Array.getElem?_replicate] at hl; split at hl <;> simp at hl) h
  have e1 : (Array.replicate l.length false).push false = Array.replicate (l ++ [o]).toArray.size false := by
    simp [Array.replicate_succ]
  rw [e1] at h2
  simpa using h2
end
end Go.Proofs.Ytnoacppfgckohaa
