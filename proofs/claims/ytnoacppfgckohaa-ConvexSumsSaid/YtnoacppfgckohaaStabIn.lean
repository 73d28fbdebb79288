import Derived.Test.YtnoacppfgckohaaStab3
import Derived.OrdersIn
import Derived.RangeFuncCalls
namespace Go.Proofs.Ytnoacppfgckohaa
open Go.RowKit
/-- the fence lets every function in, and counts no depth -/
def Open (F : Fence) : Prop := ∃ r, F = { Fence.wide with round := r }
theorem Open.wide : Open Fence.wide := ⟨none, rfl⟩
theorem Open.inRound {F : Fence} (h : Open F) (l : Nat) : Open (F.inRound l) := by obtain ⟨r, rfl⟩ := h; exact ⟨some l, rfl⟩
theorem Open.fn {F : Fence} (h : Open F) (f : FuncId) : F.fn f := by obtain ⟨r, rfl⟩ := h; trivial
theorem Open.one {F : Fence} (h : Open F) {n : Nat} : F.depth.isSome = true → 1 ≤ n := fun e => by obtain ⟨r, rfl⟩ := h; cases e
theorem Open.calls {F : Fence} (h : Open F) {n : Nat} {P : Program} {f : FuncId} {args : Array Value} {w : World} {R : Ending → World → Prop} (hc : Calls P f args w R) : CallsIn F n P f args w R := by
  obtain ⟨r, rfl⟩ := h
  exact callsIn_wide.2 hc
def deferB (o : Oper) : Bool := match o.op with | .defer _ => true | _ => false
theorem semAt_of {o : Oper} (h : deferB o = false) (ro : Option Nat) (ρ : Operand → Value) : Oper.semAt ro ρ o = execOp ρ o :=
  Oper.semAt_eq ro ρ o fun c e => by rw [deferB, e] at h; cases h
def lastQIn (F : Fence) (n₀ : Nat) (P : Program) (o : Oper) (Q : Exit → Act → World → Prop) : Exit → Act → World → Prop
  | .normal, a, w => o.wpIn F n₀ P a w (fun a' w' => Q .normal a' w') Q
  | e, a, w => Q e a w
section
variable {F : Fence} {n₀ : Nat} {P : Program} {Q : Exit → Act → World → Prop} {St : World → World → Prop} {G : Nat → Value → World → Prop}
theorem wpAnyIn_stable (hF : Open F) {l : List Oper} {ns : List OpNote} {w0 : World} {a0 : Act} {Q : Exit → Act → World → Prop} (hT : ∀ x y z, St x y → St y z → St x z) (hR : ∀ x, St x x)
    (hG : ∀ j u x y, St x y → G j u x → G j u y) (hB : stableB l ns a0.tmps.size = true)
    (hDf : l.all (fun o => !deferB o) = true) (hob : opObs P St G w0 a0.tmps (dstsOf l) 0 l ns)
    (hQ : ∀ vs w, vs.length = l.length → St w0 w → (∀ (i : Nat) (v : Value), vs[i]? = some v → G i v w) → Q .normal (putAll a0 l vs) w) :
    ∀ (u : List Nat) (listed : Array Bool) (a : Act) (w : World), u.Nodup → (∀ i, i ∈ u ↔ i < l.length ∧ listed.getD i false = false) → listed.size = l.length → StInv St G l w0 a0 listed a w →
      wpAnyIn F n₀ P .any l.toArray Q u.length listed a w := by
  simp only [stableB, Bool.and_eq_true] at hB
  obtain ⟨⟨⟨hN, hn⟩, hlt⟩, he⟩ := hB
  have fin : ∀ (listed : Array Bool) (a : Act) (w : World), listed.size = l.length → StInv St G l w0 a0 listed a w → Region.ready .any l.toArray listed = [] → Q .normal a w := by
    intro listed a w hs h hr
    have hall := ready_nil hs he hr
    have hlt' : ∀ (i : Nat) (o : Oper), l[i]? = some o → i < l.length := fun i o hi => (List.getElem?_eq_some_iff.1 hi).1
    rw [eq_putAll hn hlt h.defers h.size (fun t ht => h.other t (fun i o hi _ => ht i o hi))]
    refine hQ _ _ (by simp) h.st (fun i v hv => ?_)
    rw [List.getElem?_map] at hv
    cases hi : l[i]? with
    | none => rw [hi] at hv; simp at hv
    | some o =>
      rw [hi] at hv
      simp at hv
      subst hv
      exact h.good i o hi (hall i (hlt' i o hi))
  intro u
  induction hlen : u.length generalizing u with
  | zero =>
    intro listed a w _ hu hs h
    have hnil : u = [] := List.length_eq_zero_iff.1 hlen
    have hr : Region.ready .any l.toArray listed = [] := by
      apply List.eq_nil_iff_forall_not_mem.2
      intro i hi
      obtain ⟨h1, o, ho, _⟩ := mem_ready.1 hi
      have hil : i < l.length := by have := (Array.getElem?_eq_some_iff.1 ho).1; simpa using this
      have : i ∈ u := (hu i).2 ⟨hil, by
        rw [Array.getD_eq_getD_getElem?] at h1 ⊢
        have h2 : i < listed.size := by omega
        simpa [h2] using h1⟩
      rw [hnil] at this
      cases this
    exact ⟨hr, fin listed a w hs h hr⟩
  | succ n ih =>
    intro listed a w hnd hu hs h
    refine ⟨fun hr => fin listed a w hs h hr, fun i hi => ?_⟩
    obtain ⟨h1, o, ho, hdep⟩ := mem_ready.1 hi
    have hil : i < l.length := by have := (Array.getElem?_eq_some_iff.1 ho).1; simpa using this
    have hui : listed.getD i false = false := by
      rw [Array.getD_eq_getD_getElem?] at h1 ⊢
      have h2 : i < listed.size := by omega
      simpa [h2] using h1
    have hol : l[i]? = some o := by simpa using ho
    have hiu : i ∈ u := (hu i).2 ⟨hil, hui⟩
    obtain ⟨nt, hnt, hnB⟩ := notes_get l l ns hN i o hol
    have hO := obs_get l ns 0 hob i o nt hol hnt
    rw [Nat.zero_add] at hO
    simp only [noteB, Bool.and_eq_true] at hnB
    obtain ⟨hdB, hgB⟩ := hnB
    have hdeps : depsHold G a.eval w nt.deps := depsHold_of (l := l) nt.deps (fun p hp => by
      rw [List.all_eq_true] at hdB
      have := hdB p hp
      simp only [Bool.and_eq_true, Array.any_eq_true', beq_iff_eq] at this
      obtain ⟨⟨e, hem, heq, hb⟩, hdst⟩ := this
      cases hj : l[p.1]? with
      | none => rw [hj] at hdst; simp at hdst
      | some oj =>
        rw [hj] at hdst
        have hlj := hdep e hem hb
        rw [heq] at hlj
        exact ⟨oj, rfl, by simpa using hdst, h.good _ oj hj hlj⟩)
    have hfree : ∀ t, (dstsOf l).contains t = false → a.eval (.tmp t) = a0.tmps.getD t undef := fun t ht => by
      have h3 := h.other t (fun j oj hj _ hdj => by
        have hm : t ∈ dstsOf l := List.mem_filterMap.2 ⟨oj, List.mem_of_getElem? hj, hdj⟩
        rw [List.contains_iff_mem.2 hm] at ht
        cases ht)
      simp only [Act.eval, Array.getD_eq_getD_getElem?, h3]
    have hO' := hO a.eval w hfree (fun _ => rfl) (fun _ => rfl) h.st hdeps
    have go : ∀ v w', St w w' → G i (dv o v) w' → wpAnyIn F n₀ P .any l.toArray Q n (listed.setIfInBounds i true) (a.put o.dst v) w' := by
      intro v w' hst hg
      have := ih (u.erase i) (by rw [List.length_erase_of_mem hiu]; omega) (listed.setIfInBounds i true) (a.put o.dst v) w' (hnd.erase i) (fun j => by
        rw [hnd.mem_erase_iff, hu j]
        have hisz : i < listed.size := by omega
        constructor
        · rintro ⟨hne, hjl, hj⟩
          refine ⟨hjl, ?_⟩
          rw [Array.getD_eq_getD_getElem?, Array.getElem?_setIfInBounds, if_neg (fun e => hne e.symm)]
          rwa [Array.getD_eq_getD_getElem?] at hj
        · rintro ⟨hjl, hj⟩
          have hne : j ≠ i := fun e => by
            subst e
            simp [hisz] at hj
          refine ⟨hne, hjl, ?_⟩
          rw [Array.getD_eq_getD_getElem?, Array.getElem?_setIfInBounds, if_neg (fun e => hne e.symm)] at hj
          rwa [Array.getD_eq_getD_getElem?]) (by simpa using hs) (h.step hT hG hn hlt hol hui hs hst hg)
      exact this
    have hup : stUpon P St (fun v w' => G i (dv o v) w') w ((execOp a.eval o).run P w) → o.wpIn F n₀ P a w (wpAnyIn F n₀ P .any l.toArray Q n (listed.setIfInBounds i true)) Q := by
      intro hO2
      unfold Oper.wpIn
      refine ⟨fun f _ => hF.fn f, ?_⟩
      rw [semAt_of (List.all_eq_true.1 hDf o (List.mem_of_getElem? hol) |> fun h => by simpa using h)]
      generalize (execOp a.eval o).run P w = r at hO2
      cases r with
      | ok nx w' =>
        cases nx <;> simp only [stUpon] at hO2 <;> simp only [Oper.uponIn]
        case value v => exact go _ _ hO2.1 hO2.2
        case skip => exact go _ _ hO2.1 hO2.2
        case enter f args => exact ⟨hF.one, hF.calls (hO2.mono fun e w'' ⟨v, hev, hst, hg⟩ => by subst hev; exact go _ _ hst hg)⟩
      | halt x w' => simp only [stUpon] at hO2
    unfold wpOpIn
    simp only [ho]
    cases hgu : o.guard with
    | none =>
      have hng : nt.guard = none := by
        rw [hgu] at hgB
        cases h4 : nt.guard with
        | none => rfl
        | some p => rw [h4] at hgB; simp at hgB
      rw [hng] at hO'
      have hw : Region.wanted o (yielded l.toArray a.tmps) = true := by simp [Region.wanted, hgu]
      simp only [hw, if_true]
      exact hup hO'
    | some g =>
      obtain ⟨j, b⟩ := g
      cases h4 : nt.guard with
      | none => rw [hgu, h4] at hgB; simp at hgB
      | some p =>
        obtain ⟨t, c⟩ := p
        rw [hgu, h4] at hgB
        simp only [Bool.and_eq_true, beq_iff_eq] at hgB
        obtain ⟨hbc, hdst⟩ := hgB
        subst hbc
        rw [h4] at hO'
        have htm : t ∈ dstsOf l := by
          cases hj : l[j]? with
          | none => rw [hj] at hdst; simp at hdst
          | some oj => rw [hj] at hdst; exact List.mem_filterMap.2 ⟨oj, List.mem_of_getElem? hj, by simpa using hdst⟩
        have hts : t < a.tmps.size := by
          rw [List.all_eq_true] at hlt
          have := hlt t htm
          rw [h.size]
          simpa using this
        have hdst' : ((l.toArray[j]?).bind (·.dst)) = some t := by simpa using hdst
        by_cases hv : a.eval (.tmp t) = .bool b
        · have hw : Region.wanted o (yielded l.toArray a.tmps) = true := by
            have hget : a.tmps[t]? = some (.bool b) := by
              simp only [Act.eval, Array.getD_eq_getD_getElem?] at hv
              rw [Array.getElem?_eq_getElem hts] at hv ⊢
              simpa using hv
            simp only [Region.wanted, hgu, yielded, hdst', Option.bind_some, hget, beq_self_eq_true]
          simp only [hw, if_true]
          exact hup (hO'.1 hv)
        · have hw : Region.wanted o (yielded l.toArray a.tmps) = false := by
            rw [Bool.eq_false_iff]
            intro hw
            apply hv
            simp only [Region.wanted, hgu, yielded, hdst', Option.bind_some, beq_iff_eq] at hw
            rw [Array.getElem?_eq_getElem hts] at hw
            simp only [Act.eval, Array.getD_eq_getD_getElem?, Array.getElem?_eq_getElem hts, Option.getD_some]
            split at hw
            · rename_i b' hb'
              injection hw with hw
              injection hb' with hb'
              rw [hb', hw]
            · cases hw
          simp only [hw, Bool.false_eq_true, if_false]
          have hgv := hO'.2 hv
          exact ⟨fun f _ => hF.fn f, go undef w (hR w) (by cases hd : o.dst <;> simpa [dv, hd] using hgv)⟩

/-- **A region that draws its order, whose operations each do what is said of them whatever else has been done: the walk goes on behind it with that.** -/
theorem wpIn_region_stable (hF : Open F) {l : List Oper} (ns : List OpNote) (St : World → World → Prop) (G : Nat → Value → World → Prop) {id : Nat} {w : World} {a0 : Act} {Q : Exit → Act → World → Prop} (hm : P.follows .mixedOrders = true)
    (hT : ∀ x y z, St x y → St y z → St x z) (hR : ∀ x, St x x) (hD : ∀ x : World, St x { x with drawn := x.drawn + 1 })
    (hG : ∀ j u x y, St x y → G j u x → G j u y) (hB : stableB l ns a0.tmps.size = true)
    (hDf : l.all (fun o => !deferB o) = true) (hob : opObs P St G w a0.tmps (dstsOf l) 0 l ns)
    (hQ : ∀ vs w', vs.length = l.length → St w w' → (∀ (i : Nat) (v : Value), vs[i]? = some v → G i v w') → Q .normal (putAll a0 l vs) w') : (Code.region id l.toArray true).wpIn F n₀ P Q a0 w := by
  refine wpIn_region_any hm ?_
  have := wpAnyIn_stable (F := F) (n₀ := n₀) (P := P) (Q := Q) hF hT hR hG hB hDf hob hQ (List.range l.length) (Array.replicate l.toArray.size false) a0 { w with drawn := w.drawn + 1 } List.nodup_range (fun i => by
    rw [List.mem_range]
    constructor
    · intro hi
      exact ⟨hi, by simp [Array.getD_eq_getD_getElem?, hi]⟩
    · exact fun h => h.1) (by simp) ⟨rfl, rfl, hD w, fun _ _ => rfl, fun i o hi hl => by
      exfalso
      have hil : i < l.length := (List.getElem?_eq_some_iff.1 hi).1
      simp [Array.getD_eq_getD_getElem?, hil] at hl⟩
  simpa using this
theorem operWpIn_last {o x : Oper} {a : Act} {w : World} {K : Act → World → Prop} (h : x.wpIn F n₀ P a w K (lastQIn F n₀ P o Q)) : x.wpIn F n₀ P a w K Q := by
  unfold Oper.wpIn at *
  refine ⟨h.1, ?_⟩
  have h := h.2
  generalize (x.semAt F.round a.eval).run P w = r at *
  cases r with
  | ok n w' =>
    cases n <;> simp only [Oper.uponIn] at h ⊢ <;>
      first
        | exact h
        | exact ⟨h.1, CallsIn.mono h.2 (fun e w'' he => by cases e <;> exact he)⟩
        | exact ⟨h.1, RoundIn.mono h.2 (fun e w'' he => by cases e <;> exact he)⟩
  | halt y w' => cases y <;> simp only [Oper.uponIn] at h ⊢ <;> exact h
theorem wpAnyIn_done2 {l : List Oper} {listed : Array Bool} (h : Region.ready .any l.toArray listed = []) {a : Act} {w : World} (hq : Q .normal a w) : ∀ n, wpAnyIn F n₀ P .any l.toArray Q n listed a w
  | 0 => ⟨h, hq⟩
  | _ + 1 => ⟨fun _ => hq, fun i hi => by rw [h] at hi; cases hi⟩
theorem step_lastIn {l : List Oper} {o : Oper} (hB : lastB l o = true) {listed : Array Bool} (hs : listed.size = l.length) (hall : ∀ i, i < l.length → listed.getD i false = true) {a : Act} {w : World} (hq : lastQIn F n₀ P o Q .normal a w) (n : Nat) :
    wpOpIn F n₀ P (l ++ [o]).toArray Q l.length (wpAnyIn F n₀ P .any (l ++ [o]).toArray Q n ((listed.push false).setIfInBounds l.length true)) a w := by
  unfold wpOpIn
  have e : (l ++ [o]).toArray[l.length]? = some o := by simp
  rw [e]
  have hg : o.guard = none := by
    simp only [lastB, Bool.and_eq_true, Option.isNone_iff_eq_none] at hB
    exact hB.1.1
  have hw : Region.wanted o (yielded (l ++ [o]).toArray a.tmps) = true := by simp [Region.wanted, hg]
  simp only [hw, if_true]
  refine Oper.wpIn_mono (fun a' w' h => ?_) hq
  refine wpAnyIn_done2 (ready_all (by simp; omega) fun i hi => ?_) h n
  simp only [List.length_append, List.length_cons, List.length_nil] at hi
  rw [Array.getD_eq_getD_getElem?]
  by_cases hil : i = l.length
  · subst hil; simp [hs]
  · have := hall i (by omega)
    rw [Array.getD_eq_getD_getElem?, Array.getElem?_eq_getElem (by omega)] at this
    rw [Array.getElem?_setIfInBounds, if_neg (fun e => hil e.symm), Array.getElem?_push_lt (by omega)]
    exact this
theorem wpAnyIn_last {l : List Oper} {o : Oper} (hB : lastB l o = true) (ho : ∀ e ∈ o.after, Region.binds .any e = true → e.on < l.length) (he : edgesB 0 l = true) : ∀ (n : Nat) (listed : Array Bool) (a : Act) (w : World), listed.size = l.length → closedL l listed →
    wpAnyIn F n₀ P .any l.toArray (lastQIn F n₀ P o Q) n listed a w → wpAnyIn F n₀ P .any (l ++ [o]).toArray Q (n + 1) (listed.push false) a w := by
  intro n
  induction n with
  | zero =>
    intro listed a w hs hc h
    have hall := ready_nil hs he h.1
    refine ⟨fun hr => ?_, fun i hi => ?_⟩
    · have := last_ready hs ho hall
      rw [hr] at this
      cases this
    · rcases ready_le hi with hlt | rfl
      · have := (ready_lt he hs hlt).1 hi
        rw [h.1] at this
        cases this
      · exact step_lastIn hB hs hall h.2 0
  | succ n ih =>
    intro listed a w hs hc h
    refine ⟨fun hr => ?_, fun i hi => ?_⟩
    · exfalso
      by_cases h0 : Region.ready .any l.toArray listed = []
      · have := last_ready hs ho (ready_nil hs he h0)
        rw [hr] at this
        cases this
      · obtain ⟨i, hi⟩ := List.exists_mem_of_ne_nil _ h0
        have hil : i < l.length := by
          obtain ⟨_, x, hx, _⟩ := mem_ready.1 hi
          have := (Array.getElem?_eq_some_iff.1 hx).1
          simpa using this
        have := (ready_lt (o := o) he hs hil).2 hi
        rw [hr] at this
        cases this
    · rcases ready_le hi with hlt | rfl
      · have hop := h.2 i ((ready_lt he hs hlt).1 hi)
        rw [push_set (by omega)]
        unfold wpOpIn at hop ⊢
        have e1 : (l ++ [o]).toArray[i]? = l.toArray[i]? := by simp [List.getElem?_append_left hlt]
        rw [e1]
        obtain ⟨x, hx⟩ : ∃ x, l.toArray[i]? = some x := ⟨l[i], by simp [hlt]⟩
        rw [hx] at hop ⊢
        have hg : x.guard = none := by
          simp only [lastB, Bool.and_eq_true, List.all_eq_true, Option.isNone_iff_eq_none] at hB
          exact hB.1.2 x (List.mem_of_getElem? (by simpa using hx))
        have hw : ∀ f, Region.wanted x f = true := fun f => by simp [Region.wanted, hg]
        simp only [hw, if_true] at hop ⊢
        exact Oper.wpIn_mono (fun a' w' h3 => ih _ _ _ (by simpa using hs) (closed_set hs hc ((ready_lt he hs hlt).1 hi)) h3) (operWpIn_last hop)
      · obtain ⟨h0, hall⟩ := ready_last hB hs hc hi
        exact step_lastIn hB hs hall (h.1 h0) (n + 1)
/-- **A region that draws its order, and whose last operation waits for all the others: the others do what is said of them; the last one is walked behind them.** -/
theorem wpIn_region_stable_last (hF : Open F) {L : List Oper} (ns : List OpNote) (St : World → World → Prop) (G : Nat → Value → World → Prop) {o : Oper} {id : Nat} {w : World} {a0 : Act} {Q : Exit → Act → World → Prop} (hL : L = L.dropLast ++ [o]) (hm : P.follows .mixedOrders = true)
    (hT : ∀ x y z, St x y → St y z → St x z) (hR : ∀ x, St x x) (hD : ∀ x : World, St x { x with drawn := x.drawn + 1 })
    (hG : ∀ j u x y, St x y → G j u x → G j u y) (hB : stableB L.dropLast ns a0.tmps.size = true) (hB2 : lastB L.dropLast o = true) (hB3 : (o.after.all fun e => !Region.binds .any e || decide (e.on < L.dropLast.length)) = true)
    (hDf : L.dropLast.all (fun o => !deferB o) = true) (hob : opObs P St G w a0.tmps (dstsOf L.dropLast) 0 L.dropLast ns)
    (hQ : ∀ vs w', vs.length = L.dropLast.length → St w w' → (∀ (i : Nat) (v : Value), vs[i]? = some v → G i v w') → o.wpIn F n₀ P (putAll a0 L.dropLast vs) w' (fun a' w' => Q .normal a' w') Q) : (Code.region id L.toArray true).wpIn F n₀ P Q a0 w := by
  refine wpIn_region_any hm ?_
  generalize L.dropLast = l at *
  subst hL
  have he : edgesB 0 l = true := by
    simp only [stableB, Bool.and_eq_true] at hB
    exact hB.2
  have h := wpAnyIn_stable (F := F) (n₀ := n₀) (P := P) (Q := lastQIn F n₀ P o Q) hF hT hR hG hB hDf hob hQ (List.range l.length) (Array.replicate l.length false) a0 { w with drawn := w.drawn + 1 } List.nodup_range (fun i => by
    rw [List.mem_range]
    constructor
    · intro hi
      exact ⟨hi, by simp [Array.getD_eq_getD_getElem?, hi]⟩
    · exact fun h => h.1) (by simp) ⟨rfl, rfl, hD w, fun _ _ => rfl, fun i o hi hl => by
      exfalso
      have hil : i < l.length := (List.getElem?_eq_some_iff.1 hi).1
      simp [Array.getD_eq_getD_getElem?, hil] at hl⟩
  rw [List.length_range] at h
  have h2 := wpAnyIn_last hB2 (fun e hm hb => by
    have := (Array.all_eq_true'.1 hB3) e hm
    rw [hb] at this
    simpa using this) he l.length _ _ _ (by simp) (fun i x _ hl => by simp [Array.getD_eq_getD_getElem?, Array.getElem?_replicate] at hl; split at hl <;> simp at hl) h
  have e1 : (Array.replicate l.length false).push false = Array.replicate (l ++ [o]).toArray.size false := by
    simp [Array.replicate_succ]
  rw [e1] at h2
  simpa using h2
end
end Go.Proofs.Ytnoacppfgckohaa
namespace Go.Proofs.Ytnoacppfgckohaa
open Go.RowKit
section
variable {F : Fence} {n₀ : Nat} {P : Program} {Q : Exit → Act → World → Prop} {St : World → World → Prop} {G : Nat → Value → World → Prop}
/-- The same with two operations at the end, one behind the other. -/
theorem wpIn_region_stable_last2 (hF : Open F) {L : List Oper} (ns : List OpNote) (St : World → World → Prop) (G : Nat → Value → World → Prop) {o o2 : Oper} {id : Nat} {w : World} {a0 : Act} {Q : Exit → Act → World → Prop} (hL : L = (L.dropLast.dropLast ++ [o]) ++ [o2]) (hm : P.follows .mixedOrders = true)
    (hT : ∀ x y z, St x y → St y z → St x z) (hR : ∀ x, St x x) (hD : ∀ x : World, St x { x with drawn := x.drawn + 1 })
    (hG : ∀ j u x y, St x y → G j u x → G j u y) (hB : stableB L.dropLast.dropLast ns a0.tmps.size = true) (hB2 : lastB L.dropLast.dropLast o = true) (hB3 : (o.after.all fun e => !Region.binds .any e || decide (e.on < L.dropLast.dropLast.length)) = true)
    (hB4 : lastB (L.dropLast.dropLast ++ [o]) o2 = true) (hB5 : (o2.after.all fun e => !Region.binds .any e || decide (e.on < (L.dropLast.dropLast ++ [o]).length)) = true)
    (hDf : L.dropLast.dropLast.all (fun o => !deferB o) = true) (hob : opObs P St G w a0.tmps (dstsOf L.dropLast.dropLast) 0 L.dropLast.dropLast ns)
    (hQ : ∀ vs w', vs.length = L.dropLast.dropLast.length → St w w' → (∀ (i : Nat) (v : Value), vs[i]? = some v → G i v w') → o.wpIn F n₀ P (putAll a0 L.dropLast.dropLast vs) w' (fun a1 w1 => o2.wpIn F n₀ P a1 w1 (fun a' w' => Q .normal a' w') Q) (lastQIn F n₀ P o2 Q)) : (Code.region id L.toArray true).wpIn F n₀ P Q a0 w := by
  refine wpIn_region_any hm ?_
  generalize L.dropLast.dropLast = l at *
  subst hL
  have he : edgesB 0 l = true := by
    simp only [stableB, Bool.and_eq_true] at hB
    exact hB.2
  have hb3 : ∀ e ∈ o.after, Region.binds .any e = true → e.on < l.length := fun e hm hb => by
    have := (Array.all_eq_true'.1 hB3) e hm
    rw [hb] at this
    simpa using this
  have he2 : edgesB 0 (l ++ [o]) = true := by
    have go : ∀ (k : Nat) (l' : List Oper), edgesB k l' = true → (∀ e ∈ o.after, Region.binds .any e = true → e.on < k + l'.length) → edgesB k (l' ++ [o]) = true := by
      intro k l'
      induction l' generalizing k with
      | nil =>
        intro _ h
        simp only [List.nil_append, edgesB, Bool.and_true]
        rw [Array.all_eq_true']
        intro e hm
        cases hb : Region.binds .any e with
        | false => rfl
        | true => have := h e hm hb; simp at this ⊢; omega
      | cons a l' ih =>
        intro h1 h2
        simp only [edgesB, Bool.and_eq_true, List.cons_append] at h1 ⊢
        exact ⟨h1.1, ih (k + 1) h1.2 (fun e hm hb => by have := h2 e hm hb; simp at this; omega)⟩
    exact go 0 l he (fun e hm hb => by have := hb3 e hm hb; omega)
  have h := wpAnyIn_stable (F := F) (n₀ := n₀) (P := P) (Q := lastQIn F n₀ P o (lastQIn F n₀ P o2 Q)) hF hT hR hG hB hDf hob hQ (List.range l.length) (Array.replicate l.length false) a0 { w with drawn := w.drawn + 1 } List.nodup_range (fun i => by
    rw [List.mem_range]
    constructor
    · intro hi
      exact ⟨hi, by simp [Array.getD_eq_getD_getElem?, hi]⟩
    · exact fun h => h.1) (by simp) ⟨rfl, rfl, hD w, fun _ _ => rfl, fun i o hi hl => by
      exfalso
      have hil : i < l.length := (List.getElem?_eq_some_iff.1 hi).1
      simp [Array.getD_eq_getD_getElem?, hil] at hl⟩
  rw [List.length_range] at h
  have h2 := wpAnyIn_last hB2 hb3 he l.length _ _ _ (by simp) (fun i x _ hl => by simp [Array.getD_eq_getD_getElem?, Array.getElem?_replicate] at hl; split at hl <;> simp at hl) h
  have e1 : (Array.replicate l.length false).push false = Array.replicate (l ++ [o]).length false := by
    simp [Array.replicate_succ]
  rw [e1] at h2
  have h3 := wpAnyIn_last hB4 (fun e hm hb => by
    have := (Array.all_eq_true'.1 hB5) e hm
    rw [hb] at this
    simpa using this) he2 (l.length + 1) _ _ _ (by simp) (fun i x _ hl => by simp [Array.getD_eq_getD_getElem?, Array.getElem?_replicate] at hl; split at hl <;> simp at hl) h2
  have e2 : (Array.replicate (l ++ [o]).length false).push false = Array.replicate ((l ++ [o]) ++ [o2]).toArray.size false := by
    simp [Array.replicate_succ]
  rw [e2] at h3
  simpa using h3
end
end Go.Proofs.Ytnoacppfgckohaa
