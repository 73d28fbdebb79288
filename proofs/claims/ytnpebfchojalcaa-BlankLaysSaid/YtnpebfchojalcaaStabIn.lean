import Derived.WalkKit
import Derived.Deep.Quiet
import Derived.KernelRfl
import Derived.OrdersIn
import Derived.RangeFuncCalls
namespace Go.Proofs.Ytnpebfchojalcaa
open Go.RowKit

/-- What is asked of an operation that has been carried out in the world w. -/
def stUpon (P : Program) (St : World → World → Prop) (G : Value → World → Prop) (w : World) : Result Next → Prop
  | .ok (.value v) w' => St w w' ∧ G v w'
  | .ok .skip w' => St w w' ∧ G undef w'
  | .ok (.enter f args) w' => Calls P f args w' fun e w'' => ∃ v, e = .returned v ∧ St w w'' ∧ G v w''
  | _ => False

/-- What a prover says of an operation: the operations before it (number and slot), the slot of its guard. -/
structure OpNote where
  deps : List (Nat × Tmp)
  guard : Option (Tmp × Bool)

/-- What the operation leaves in its slot. -/
def dv (o : Oper) (v : Value) : Value := match o.dst with | some _ => v | none => undef

def depsHold (G : Nat → Value → World → Prop) (ev : Operand → Value) (w : World) : List (Nat × Tmp) → Prop
  | [] => True
  | (j, d) :: r => G j (ev (.tmp d)) w ∧ depsHold G ev w r

def opOb (P : Program) (St : World → World → Prop) (G : Nat → Value → World → Prop) (w0 : World) (tmps0 : Array Value) (dsts : List Tmp) (i : Nat) (o : Oper) (n : OpNote) : Prop :=
  ∀ (ev : Operand → Value) (w : World), (∀ t, dsts.contains t = false → ev (.tmp t) = tmps0.getD t undef) → (∀ c, ev (.const c) = c) → (∀ f, ev (.func f) = .func (.func f) #[] #[]) →
    St w0 w → depsHold G ev w n.deps →
    match n.guard with
    | none => stUpon P St (fun v w' => G i (dv o v) w') w ((execOp ev o).run P w)
    | some (t, b) => (ev (.tmp t) = .bool b → stUpon P St (fun v w' => G i (dv o v) w') w ((execOp ev o).run P w)) ∧ (ev (.tmp t) ≠ .bool b → G i undef w)

def opObs (P : Program) (St : World → World → Prop) (G : Nat → Value → World → Prop) (w0 : World) (tmps0 : Array Value) (dsts : List Tmp) : Nat → List Oper → List OpNote → Prop
  | k, o :: l, n :: ns => opOb P St G w0 tmps0 dsts k o n ∧ opObs P St G w0 tmps0 dsts (k + 1) l ns
  | _, _, _ => True

def dstsOf (l : List Oper) : List Tmp := l.filterMap (·.dst)

/-- The notes are the region's own; no slot is written twice; edges lead back. -/
def noteB (l : List Oper) (o : Oper) (n : OpNote) : Bool :=
  (n.deps.all fun (j, d) => (o.after.any fun e => e.on == j && Region.binds .any e) && ((l[j]?).bind (·.dst)) == some d) &&
  (match o.guard, n.guard with
   | none, none => true
   | some (j, b), some (t, c) => b == c && ((l[j]?).bind (·.dst)) == some t
   | _, _ => false)
def notesB (l : List Oper) : List Oper → List OpNote → Bool
  | [], [] => true
  | o :: os, n :: ns => noteB l o n && notesB l os ns
  | _, _ => false
def nodupB : List Tmp → Bool
  | [] => true
  | t :: r => !r.contains t && nodupB r
def edgesB : Nat → List Oper → Bool
  | _, [] => true
  | k, o :: l => (o.after.all fun e => !Region.binds .any e || decide (e.on < k)) && edgesB (k + 1) l
def stableB (l : List Oper) (ns : List OpNote) (size : Nat) : Bool :=
  notesB l l ns && nodupB (dstsOf l) && (dstsOf l).all (fun t => decide (t < size)) && edgesB 0 l

def putAll (a : Act) : List Oper → List Value → Act
  | o :: l, v :: vs => putAll (a.put o.dst v) l vs
  | _, _ => a

section
variable {P : Program} {St : World → World → Prop} {G : Nat → Value → World → Prop}

theorem obs_get {w0 : World} {tmps0 : Array Value} {dsts : List Tmp} : ∀ (l : List Oper) (ns : List OpNote) (k : Nat), opObs P St G w0 tmps0 dsts k l ns →
    ∀ (i : Nat) (o : Oper) (n : OpNote), l[i]? = some o → ns[i]? = some n → opOb P St G w0 tmps0 dsts (k + i) o n := by
  intro l
  induction l with
  | nil => intro ns k _ i o n h; simp at h
  | cons a l ih =>
    intro ns k h i o n ho hn
    cases ns with
    | nil => simp at hn
    | cons m ns =>
      cases i with
      | zero =>
        simp at ho hn
        subst ho hn
        exact h.1
      | succ i =>
        have := ih ns (k + 1) h.2 i o n (by simpa using ho) (by simpa using hn)
        rwa [Nat.add_assoc, Nat.add_comm 1 i] at this

theorem notes_get (L : List Oper) : ∀ (l : List Oper) (ns : List OpNote), notesB L l ns = true → ∀ (i : Nat) (o : Oper), l[i]? = some o → ∃ n, ns[i]? = some n ∧ noteB L o n = true := by
  intro l
  induction l with
  | nil => intro ns _ i o h; simp at h
  | cons a l ih =>
    intro ns h i o ho
    cases ns with
    | nil => simp [notesB] at h
    | cons m ns =>
      simp only [notesB, Bool.and_eq_true] at h
      cases i with
      | zero => simp at ho; subst ho; exact ⟨m, rfl, h.1⟩
      | succ i => simpa using ih ns h.2 i o (by simpa using ho)

theorem edges_get : ∀ (l : List Oper) (k : Nat), edgesB k l = true → ∀ (i : Nat) (o : Oper), l[i]? = some o → ∀ e ∈ o.after, Region.binds .any e = true → e.on < k + i := by
  intro l
  induction l with
  | nil => intro k _ i o h; simp at h
  | cons a l ih =>
    intro k h i o ho e he hb
    simp only [edgesB, Bool.and_eq_true] at h
    cases i with
    | zero =>
      simp at ho; subst ho
      have h1 := h.1
      rw [Array.all_eq_true'] at h1
      have := h1 e he
      simpa [hb] using this
    | succ i =>
      have := ih (k + 1) h.2 i o (by simpa using ho) e he hb
      omega

theorem nodup_get : ∀ (l : List Oper), nodupB (dstsOf l) = true → ∀ (i j : Nat) (oi oj : Oper) (d : Tmp), l[i]? = some oi → l[j]? = some oj → oi.dst = some d → oj.dst = some d → i = j := by
  intro l
  induction l with
  | nil => intro _ i j oi oj d h; simp at h
  | cons a l ih =>
    intro h i j oi oj d hi hj hdi hdj
    have hmem : ∀ (k : Nat) (o : Oper), l[k]? = some o → o.dst = some d → d ∈ dstsOf l := fun k o hk hd => List.mem_filterMap.2 ⟨o, List.mem_of_getElem? hk, hd⟩
    have hrest : nodupB (dstsOf l) = true := by
      cases ha : a.dst with
      | none => simpa [dstsOf, ha] using h
      | some t =>
        simp only [dstsOf, List.filterMap_cons, ha, nodupB, Bool.and_eq_true] at h
        exact h.2
    have hnot : a.dst = some d → d ∉ dstsOf l := fun ha => by
      simp only [dstsOf, List.filterMap_cons, ha, nodupB, Bool.and_eq_true] at h
      have := h.1
      simpa [dstsOf] using this
    cases i with
    | zero =>
      simp at hi; subst hi
      cases j with
      | zero => rfl
      | succ j => exact absurd (hmem j oj (by simpa using hj) hdj) (hnot hdi)
    | succ i =>
      cases j with
      | zero => simp at hj; subst hj; exact absurd (hmem i oi (by simpa using hi) hdi) (hnot hdj)
      | succ j => rw [ih hrest i j oi oj d (by simpa using hi) (by simpa using hj) hdi hdj]

theorem putAll_size : ∀ (l : List Oper) (a : Act) (vs : List Value), (putAll a l vs).tmps.size = a.tmps.size := by
  intro l
  induction l with
  | nil => intro a vs; cases vs <;> rfl
  | cons o l ih =>
    intro a vs
    cases vs with
    | nil => rfl
    | cons v vs =>
      rw [putAll, ih]
      cases h : o.dst <;> simp [Act.put]
theorem putAll_defers : ∀ (l : List Oper) (a : Act) (vs : List Value), (putAll a l vs).defers = a.defers := by
  intro l
  induction l with
  | nil => intro a vs; cases vs <;> rfl
  | cons o l ih =>
    intro a vs
    cases vs with
    | nil => rfl
    | cons v vs =>
      rw [putAll, ih]
      cases h : o.dst <;> simp [Act.put]
theorem putAll_other : ∀ (l : List Oper) (a : Act) (vs : List Value) (t : Tmp), (∀ (i : Nat) (o : Oper), l[i]? = some o → o.dst ≠ some t) → (putAll a l vs).tmps[t]? = a.tmps[t]? := by
  intro l
  induction l with
  | nil => intro a vs t _; cases vs <;> rfl
  | cons o l ih =>
    intro a vs t h
    cases vs with
    | nil => rfl
    | cons v vs =>
      rw [putAll, ih _ _ _ (fun i o' hi => h (i + 1) o' (by simpa using hi))]
      have h0 := h 0 o (by simp)
      cases hd : o.dst with
      | none => simp [Act.put]
      | some d =>
        have : d ≠ t := fun e => h0 (by rw [hd, e])
        simp [Act.put, this]
theorem putAll_own : ∀ (l : List Oper) (a : Act) (vs : List Value) (i : Nat) (o : Oper) (v : Value) (t : Tmp), nodupB (dstsOf l) = true → l[i]? = some o → o.dst = some t → vs[i]? = some v → t < a.tmps.size →
    (putAll a l vs).tmps[t]? = some v := by
  intro l
  induction l with
  | nil => intro a vs i o v t _ h; simp at h
  | cons b l ih =>
    intro a vs i o v t hn hi hd hv ht
    cases vs with
    | nil => simp at hv
    | cons u vs =>
      have hrest : nodupB (dstsOf l) = true := by
        cases ha : b.dst with
        | none => simpa [dstsOf, ha] using hn
        | some t =>
          simp only [dstsOf, List.filterMap_cons, ha, nodupB, Bool.and_eq_true] at hn
          exact hn.2
      cases i with
      | zero =>
        simp at hi hv
        subst hi hv
        rw [putAll, putAll_other l _ _ t (fun j o' hj hdj => by
          have := nodup_get (b :: l) hn 0 (j + 1) b o' t (by simp) (by simpa using hj) hd hdj
          omega)]
        simp [Act.put, hd, ht]
      | succ i =>
        rw [putAll]
        refine ih _ vs i o v t hrest (by simpa using hi) hd (by simpa using hv) ?_
        cases hb : b.dst <;> simp [Act.put, ht]

def dval (a : Act) (o : Oper) : Value := match o.dst with | some d => a.tmps.getD d undef | none => undef

theorem eq_putAll {l : List Oper} {a0 a : Act} (hn : nodupB (dstsOf l) = true) (hlt : (dstsOf l).all (fun t => decide (t < a0.tmps.size)) = true)
    (hd : a.defers = a0.defers) (hs : a.tmps.size = a0.tmps.size) (ho : ∀ t : Tmp, (∀ (i : Nat) (o : Oper), l[i]? = some o → o.dst ≠ some t) → a.tmps[t]? = a0.tmps[t]?) :
    a = putAll a0 l (l.map (dval a)) := by
  have e1 : a.tmps = (putAll a0 l (l.map (dval a))).tmps := by
    apply Array.ext_getElem?
    intro t
    by_cases hx : ∃ (i : Nat) (o : Oper), l[i]? = some o ∧ o.dst = some t
    · obtain ⟨i, o, hi, hdt⟩ := hx
      have ht : t < a0.tmps.size := by
        rw [List.all_eq_true] at hlt
        have := hlt t (List.mem_filterMap.2 ⟨o, List.mem_of_getElem? hi, hdt⟩)
        simpa using this
      rw [putAll_own l a0 _ i o (dval a o) t hn hi hdt (by simp [hi]) ht]
      simp only [dval, hdt]
      rw [Array.getD_eq_getD_getElem?]
      have : t < a.tmps.size := by omega
      simp [this]
    · have hx' : ∀ (i : Nat) (o : Oper), l[i]? = some o → o.dst ≠ some t := fun i o hi hdt => hx ⟨i, o, hi, hdt⟩
      rw [putAll_other l a0 _ t hx', ho t hx']
  have e2 := putAll_defers l a0 (l.map (dval a))
  cases a with
  | mk ts ds =>
    generalize putAll a0 l (l.map (dval ⟨ts, ds⟩)) = z at *
    cases z with
    | mk ts' ds' =>
      simp only at *
      rw [e1, hd, e2]

structure StInv (St : World → World → Prop) (G : Nat → Value → World → Prop) (l : List Oper) (w0 : World) (a0 : Act) (listed : Array Bool) (a : Act) (w : World) : Prop where
  defers : a.defers = a0.defers
  size : a.tmps.size = a0.tmps.size
  st : St w0 w
  other : ∀ t : Tmp, (∀ (i : Nat) (o : Oper), l[i]? = some o → listed.getD i false = true → o.dst ≠ some t) → a.tmps[t]? = a0.tmps[t]?
  good : ∀ (i : Nat) (o : Oper), l[i]? = some o → listed.getD i false = true → G i (dval a o) w

theorem ready_nil {l : List Oper} {listed : Array Bool} (hs : listed.size = l.length) (he : edgesB 0 l = true) (h : Region.ready .any l.toArray listed = []) : ∀ i, i < l.length → listed.getD i false = true := by
  intro i
  induction i using Nat.strongRecOn with
  | ind i ih =>
    intro hi
    cases hc : listed.getD i false with
    | true => rfl
    | false =>
      exfalso
      obtain ⟨o, ho⟩ : ∃ o, l[i]? = some o := ⟨l[i], by simp [hi]⟩
      have hm : i ∈ Region.ready .any l.toArray listed := by
        rw [mem_ready]
        refine ⟨?_, o, by simpa using ho, fun e hem hb => ?_⟩
        · rw [Array.getD_eq_getD_getElem?] at hc ⊢
          have : i < listed.size := by omega
          simpa [this] using hc
        · have hlt := edges_get l 0 he i o ho e hem hb
          rw [Nat.zero_add] at hlt
          exact ih e.on hlt (by omega)
      rw [h] at hm
      cases hm

theorem listed_set {listed : Array Bool} {i j : Nat} : (listed.setIfInBounds i true).getD j false = true → j = i ∨ listed.getD j false = true := by
  intro h
  by_cases hij : i = j
  · exact .inl hij.symm
  · right
    rw [Array.getD_eq_getD_getElem?, Array.getElem?_setIfInBounds, if_neg hij] at h
    rwa [Array.getD_eq_getD_getElem?]

theorem StInv.step {l : List Oper} {w0 : World} {a0 a : Act} {w w' : World} {listed : Array Bool} {i : Nat} {o : Oper} {v : Value} (hT : ∀ x y z, St x y → St y z → St x z)
    (hG : ∀ j u x y, St x y → G j u x → G j u y) (hn : nodupB (dstsOf l) = true) (hlt : (dstsOf l).all (fun t => decide (t < a0.tmps.size)) = true)
    (hi : l[i]? = some o) (hu : listed.getD i false = false) (hs : listed.size = l.length) (h : StInv St G l w0 a0 listed a w) (hst : St w w') (hg : G i (dv o v) w') :
    StInv St G l w0 a0 (listed.setIfInBounds i true) (a.put o.dst v) w' := by
  have hil : i < listed.size := by rw [hs]; exact (List.getElem?_eq_some_iff.1 hi).1
  refine ⟨?_, ?_, hT _ _ _ h.st hst, fun t ht => ?_, fun j oj hj hlj => ?_⟩
  · cases hd : o.dst <;> simp [Act.put, h.defers]
  · cases hd : o.dst <;> simp [Act.put, h.size]
  · have hot : o.dst ≠ some t := ht i o hi (by simp [hil])
    have h1 := h.other t (fun j oj hj hlj => ht j oj hj (by
      by_cases hij : i = j
      · subst hij; simp [hil]
      · rw [Array.getD_eq_getD_getElem?, Array.getElem?_setIfInBounds, if_neg hij]
        rwa [Array.getD_eq_getD_getElem?] at hlj))
    rw [← h1]
    cases hd : o.dst with
    | none => rfl
    | some d =>
      have : d ≠ t := fun e => hot (by rw [hd, e])
      simp [Act.put, this]
  · rcases listed_set hlj with rfl | hlj'
    · have : oj = o := by rw [hi] at hj; injection hj with e; exact e.symm
      subst this
      cases hd : oj.dst with
      | none => simpa [dval, dv, hd] using hg
      | some d =>
        have hds : d < a.tmps.size := by
          rw [List.all_eq_true] at hlt
          have := hlt d (List.mem_filterMap.2 ⟨oj, List.mem_of_getElem? hi, hd⟩)
          rw [h.size]
          simpa using this
        have e : dval (a.put (some d) v) oj = v := by simp [dval, hd, Act.put, Array.getD_eq_getD_getElem?, hds]
        rw [e]
        simpa [dv, hd] using hg
    · have hne : j ≠ i := fun e => by subst e; rw [hu] at hlj'; cases hlj'
      have e : dval (a.put o.dst v) oj = dval a oj := by
        cases hdj : oj.dst with
        | none => simp [dval, hdj]
        | some t =>
          cases hd : o.dst with
          | none => simp [dval, hdj, Act.put]
          | some d =>
            have hdt : d ≠ t := fun e => hne (nodup_get l hn j i oj o t hj hi hdj (by rw [hd, e]))
            simp [dval, hdj, Act.put, Array.getD_eq_getD_getElem?, hdt]
      rw [e]
      exact hG _ _ _ _ hst (h.good j oj hj hlj')

theorem depsHold_of {l : List Oper} {a : Act} {w : World} : ∀ (ds : List (Nat × Tmp)), (∀ p ∈ ds, ∃ oj, l[p.1]? = some oj ∧ oj.dst = some p.2 ∧ G p.1 (dval a oj) w) → depsHold G a.eval w ds := by
  intro ds
  induction ds with
  | nil => intro _; trivial
  | cons p ds ih =>
    intro h
    obtain ⟨oj, _, hd, hg⟩ := h p (by simp)
    refine ⟨?_, ih (fun q hq => h q (by simp [hq]))⟩
    simpa [dval, hd, Act.eval] using hg

theorem wpAny_stable {l : List Oper} {ns : List OpNote} {w0 : World} {a0 : Act} {Q : Exit → Act → World → Prop} (hT : ∀ x y z, St x y → St y z → St x z) (hR : ∀ x, St x x)
    (hG : ∀ j u x y, St x y → G j u x → G j u y) (hB : stableB l ns a0.tmps.size = true)
    (hob : opObs P St G w0 a0.tmps (dstsOf l) 0 l ns)
    (hQ : ∀ vs w, vs.length = l.length → St w0 w → (∀ (i : Nat) (v : Value), vs[i]? = some v → G i v w) → Q .normal (putAll a0 l vs) w) :
    ∀ (u : List Nat) (listed : Array Bool) (a : Act) (w : World), u.Nodup → (∀ i, i ∈ u ↔ i < l.length ∧ listed.getD i false = false) → listed.size = l.length → StInv St G l w0 a0 listed a w →
      wpAny P .any l.toArray Q u.length listed a w := by
  simp only [stableB, Bool.and_eq_true] at hB
  obtain ⟨⟨⟨hN, hn⟩, hlt⟩, he⟩ := hB
  have fin : ∀ (listed : Array Bool) (a : Act) (w : World), listed.size = l.length → StInv St G l w0 a0 listed a w → Region.ready .any l.toArray listed = [] → Q .normal a w := by
    intro listed a w hs h hr
    have hall := ready_nil hs he hr
    have hlt' : ∀ (i : Nat) (o : Oper), l[i]? = some o → i < l.length := fun i o hi => (List.getElem?_eq_some_iff.1 hi).1
    rw [eq_putAll hn hlt h.defers h.size (fun t ht => h.other t (fun i o hi _ => ht i o hi))]
    refine hQ _ _ (by simp) h.st (fun i v hv => ?_)
    rw [List.getElem?_map] at hv
    cases hi : l[i]? with
    | none => rw [hi] at hv; simp at hv
    | some o =>
      rw [hi] at hv
      simp at hv
      subst hv
      exact h.good i o hi (hall i (hlt' i o hi))
  intro u
  induction hlen : u.length generalizing u with
  | zero =>
    intro listed a w _ hu hs h
    have hnil : u = [] := List.length_eq_zero_iff.1 hlen
    have hr : Region.ready .any l.toArray listed = [] := by
      apply List.eq_nil_iff_forall_not_mem.2
      intro i hi
      obtain ⟨h1, o, ho, _⟩ := mem_ready.1 hi
      have hil : i < l.length := by have := (Array.getElem?_eq_some_iff.1 ho).1; simpa using this
      have : i ∈ u := (hu i).2 ⟨hil, by
        rw [Array.getD_eq_getD_getElem?] at h1 ⊢
        have h2 : i < listed.size := by omega
        simpa [h2] using h1⟩
      rw [hnil] at this
      cases this
    exact ⟨hr, fin listed a w hs h hr⟩
  | succ n ih =>
    intro listed a w hnd hu hs h
    refine ⟨fun hr => fin listed a w hs h hr, fun i hi => ?_⟩
    obtain ⟨h1, o, ho, hdep⟩ := mem_ready.1 hi
    have hil : i < l.length := by have := (Array.getElem?_eq_some_iff.1 ho).1; simpa using this
    have hui : listed.getD i false = false := by
      rw [Array.getD_eq_getD_getElem?] at h1 ⊢
      have h2 : i < listed.size := by omega
      simpa [h2] using h1
    have hol : l[i]? = some o := by simpa using ho
    have hiu : i ∈ u := (hu i).2 ⟨hil, hui⟩
    obtain ⟨nt, hnt, hnB⟩ := notes_get l l ns hN i o hol
    have hO := obs_get l ns 0 hob i o nt hol hnt
    rw [Nat.zero_add] at hO
    simp only [noteB, Bool.and_eq_true] at hnB
    obtain ⟨hdB, hgB⟩ := hnB
    have hdeps : depsHold G a.eval w nt.deps := depsHold_of (l := l) nt.deps (fun p hp => by
      rw [List.all_eq_true] at hdB
      have := hdB p hp
      simp only [Bool.and_eq_true, Array.any_eq_true', beq_iff_eq] at this
      obtain ⟨⟨e, hem, heq, hb⟩, hdst⟩ := this
      cases hj : l[p.1]? with
      | none => rw [hj] at hdst; simp at hdst
      | some oj =>
        rw [hj] at hdst
        have hlj := hdep e hem hb
        rw [heq] at hlj
        exact ⟨oj, rfl, by simpa using hdst, h.good _ oj hj hlj⟩)
    have hfree : ∀ t, (dstsOf l).contains t = false → a.eval (.tmp t) = a0.tmps.getD t undef := fun t ht => by
      have h3 := h.other t (fun j oj hj _ hdj => by
        have hm : t ∈ dstsOf l := List.mem_filterMap.2 ⟨oj, List.mem_of_getElem? hj, hdj⟩
        rw [List.contains_iff_mem.2 hm] at ht
        cases ht)
      simp only [Act.eval, Array.getD_eq_getD_getElem?, h3]
    have hO' := hO a.eval w hfree (fun _ => rfl) (fun _ => rfl) h.st hdeps
    have go : ∀ v w', St w w' → G i (dv o v) w' → wpAny P .any l.toArray Q n (listed.setIfInBounds i true) (a.put o.dst v) w' := by
      intro v w' hst hg
      have := ih (u.erase i) (by rw [List.length_erase_of_mem hiu]; omega) (listed.setIfInBounds i true) (a.put o.dst v) w' (hnd.erase i) (fun j => by
        rw [hnd.mem_erase_iff, hu j]
        have hisz : i < listed.size := by omega
        constructor
        · rintro ⟨hne, hjl, hj⟩
          refine ⟨hjl, ?_⟩
          rw [Array.getD_eq_getD_getElem?, Array.getElem?_setIfInBounds, if_neg (fun e => hne e.symm)]
          rwa [Array.getD_eq_getD_getElem?] at hj
        · rintro ⟨hjl, hj⟩
          have hne : j ≠ i := fun e => by
            subst e
            simp [hisz] at hj
          refine ⟨hne, hjl, ?_⟩
          rw [Array.getD_eq_getD_getElem?, Array.getElem?_setIfInBounds, if_neg (fun e => hne e.symm)] at hj
          rwa [Array.getD_eq_getD_getElem?]) (by simpa using hs) (h.step hT hG hn hlt hol hui hs hst hg)
      exact this
    have hup : stUpon P St (fun v w' => G i (dv o v) w') w ((execOp a.eval o).run P w) → o.wp P a w (wpAny P .any l.toArray Q n (listed.setIfInBounds i true)) Q := by
      intro hO2
      unfold Oper.wp
      generalize (execOp a.eval o).run P w = r at hO2
      cases r with
      | ok nx w' =>
        cases nx <;> simp only [stUpon] at hO2 <;> simp only [Oper.upon]
        case value v => exact go _ _ hO2.1 hO2.2
        case skip => exact go _ _ hO2.1 hO2.2
        case enter f args => exact hO2.mono fun e w'' ⟨v, hev, hst, hg⟩ => by subst hev; exact go _ _ hst hg
      | halt x w' => simp only [stUpon] at hO2
    unfold wpOp
    simp only [ho]
    cases hgu : o.guard with
    | none =>
      have hng : nt.guard = none := by
        rw [hgu] at hgB
        cases h4 : nt.guard with
        | none => rfl
        | some p => rw [h4] at hgB; simp at hgB
      rw [hng] at hO'
      have hw : Region.wanted o (yielded l.toArray a.tmps) = true := by simp [Region.wanted, hgu]
      simp only [hw, if_true]
      exact .inl (hup hO')
    | some g =>
      obtain ⟨j, b⟩ := g
      cases h4 : nt.guard with
      | none => rw [hgu, h4] at hgB; simp at hgB
      | some p =>
        obtain ⟨t, c⟩ := p
        rw [hgu, h4] at hgB
        simp only [Bool.and_eq_true, beq_iff_eq] at hgB
        obtain ⟨hbc, hdst⟩ := hgB
        subst hbc
        rw [h4] at hO'
        have htm : t ∈ dstsOf l := by
          cases hj : l[j]? with
          | none => rw [hj] at hdst; simp at hdst
          | some oj => rw [hj] at hdst; exact List.mem_filterMap.2 ⟨oj, List.mem_of_getElem? hj, by simpa using hdst⟩
        have hts : t < a.tmps.size := by
          rw [List.all_eq_true] at hlt
          have := hlt t htm
          rw [h.size]
          simpa using this
        have hdst' : ((l.toArray[j]?).bind (·.dst)) = some t := by simpa using hdst
        by_cases hv : a.eval (.tmp t) = .bool b
        · have hw : Region.wanted o (yielded l.toArray a.tmps) = true := by
            have hget : a.tmps[t]? = some (.bool b) := by
              simp only [Act.eval, Array.getD_eq_getD_getElem?] at hv
              rw [Array.getElem?_eq_getElem hts] at hv ⊢
              simpa using hv
            simp only [Region.wanted, hgu, yielded, hdst', Option.bind_some, hget, beq_self_eq_true]
          simp only [hw, if_true]
          exact .inl (hup (hO'.1 hv))
        · have hw : Region.wanted o (yielded l.toArray a.tmps) = false := by
            rw [Bool.eq_false_iff]
            intro hw
            apply hv
            simp only [Region.wanted, hgu, yielded, hdst', Option.bind_some, beq_iff_eq] at hw
            rw [Array.getElem?_eq_getElem hts] at hw
            simp only [Act.eval, Array.getD_eq_getD_getElem?, Array.getElem?_eq_getElem hts, Option.getD_some]
            split at hw
            · rename_i b' hb'
              injection hw with hw
              injection hb' with hb'
              rw [hb', hw]
            · cases hw
          simp only [hw, Bool.false_eq_true, if_false]
          have hgv := hO'.2 hv
          exact go undef w (hR w) (by cases hd : o.dst <;> simpa [dv, hd] using hgv)

/-- **A region that draws its order, whose operations each do what is said of them whatever else has been done: the walk goes on behind it with that.** -/
theorem wp_region_stable {l : List Oper} (ns : List OpNote) (St : World → World → Prop) (G : Nat → Value → World → Prop) {id : Nat} {w : World} {a0 : Act} {Q : Exit → Act → World → Prop} (hm : P.follows .mixedOrders = true)
    (hT : ∀ x y z, St x y → St y z → St x z) (hR : ∀ x, St x x) (hD : ∀ x : World, St x { x with drawn := x.drawn + 1 })
    (hG : ∀ j u x y, St x y → G j u x → G j u y) (hB : stableB l ns a0.tmps.size = true)
    (hob : opObs P St G w a0.tmps (dstsOf l) 0 l ns)
    (hQ : ∀ vs w', vs.length = l.length → St w w' → (∀ (i : Nat) (v : Value), vs[i]? = some v → G i v w') → Q .normal (putAll a0 l vs) w') : (Code.region id l.toArray true).wp P Q a0 w := by
  refine wp_region_any hm ?_
  have := wpAny_stable (P := P) (Q := Q) hT hR hG hB hob hQ (List.range l.length) (Array.replicate l.toArray.size false) a0 { w with drawn := w.drawn + 1 } List.nodup_range (fun i => by
    rw [List.mem_range]
    constructor
    · intro hi
      exact ⟨hi, by simp [Array.getD_eq_getD_getElem?, hi]⟩
    · exact fun h => h.1) (by simp) ⟨rfl, rfl, hD w, fun _ _ => rfl, fun i o hi hl => by
      exfalso
      have hil : i < l.length := (List.getElem?_eq_some_iff.1 hi).1
      simp [Array.getD_eq_getD_getElem?, hil] at hl⟩
  simpa using this
end
end Go.Proofs.Ytnpebfchojalcaa
namespace Go.Proofs.Ytnpebfchojalcaa
open Go.RowKit
/-- A property of a value that later worlds keep. -/
structure MP where
  p : Value → World → Prop
  mono : ∀ (u : Value) (x y : World), Below x.heap.size x y → p u x → p u y
def MP.any : MP := ⟨fun _ _ => True, fun _ _ _ _ h => h⟩
def MP.eq (v : Value) : MP := ⟨fun u _ => u = v, fun _ _ _ _ h => h⟩
def MP.when (b : Bool) (m : MP) : MP := ⟨fun u w => b = true → m.p u w, fun u x y h hh hb => m.mono u x y h (hh hb)⟩
def MPat (l : List MP) (i : Nat) : Value → World → Prop := (l.getD i MP.any).p
theorem MPat.mono (l : List MP) : ∀ (j : Nat) (u : Value) (x y : World), Below x.heap.size x y → MPat l j u x → MPat l j u y := fun j u x y h hh => (l.getD j MP.any).mono u x y h hh
theorem bool_of {v : Value} {b : Bool} (h : v = .bool b) (hg : v = .bool true) : b = true := by
  rw [h] at hg; injection hg
theorem bool_of' {v : Value} {b : Bool} (h : v = .bool b) (hg : v ≠ .bool true) (hb : b = true) : False := hg (by rw [h, hb])
end Go.Proofs.Ytnpebfchojalcaa

namespace Go.Proofs.Ytnpebfchojalcaa
open Go.RowKit
/-- the last operation waits for all the others, by some way -/
def waitB (l : List Oper) (i a : Nat) : Bool := match l[i]? with | some o => o.after.any fun e => e.on == a && Region.binds .any e | none => false
def lastB (l : List Oper) (o : Oper) : Bool :=
  o.guard.isNone && (l.all fun x => x.guard.isNone) && (List.range l.length).all fun i => (o.after.any fun e => e.on == i && Region.binds .any e) || (List.range l.length).any fun j => decide (i < j) && waitB l j i
def closedL (l : List Oper) (listed : Array Bool) : Prop := ∀ (i : Nat) (x : Oper), l[i]? = some x → listed.getD i false = true → ∀ e ∈ x.after, Region.binds .any e = true → listed.getD e.on false = true
def lastQ (P : Program) (o : Oper) (Q : Exit → Act → World → Prop) : Exit → Act → World → Prop
  | .normal, a, w => o.wp P a w (fun a' w' => Q .normal a' w') Q
  | e, a, w => Q e a w
section
variable {P : Program} {Q : Exit → Act → World → Prop}
theorem letsOut_last {o : Oper} (h : LetsOut (lastQ P o Q)) : LetsOut Q := h
theorem operWp_last {o x : Oper} {a : Act} {w : World} {K : Act → World → Prop} (h : x.wp P a w K (lastQ P o Q)) : x.wp P a w K Q := by
  unfold Oper.wp at *
  generalize (execOp a.eval x).run P w = r at *
  cases r with
  | ok n w' =>
    cases n <;> simp only [Oper.upon] at h ⊢ <;>
      first
        | exact h
        | exact Calls.mono h (fun e w'' he => by cases e <;> exact he)
  | halt y w' => cases y <;> simp only [Oper.upon] at h ⊢ <;> exact h
theorem push_getD {listed : Array Bool} {j : Nat} (d : Bool) (hj : j < listed.size) : (listed.push false).getD j d = listed.getD j d := by
  rw [Array.getD_eq_getD_getElem?, Array.getD_eq_getD_getElem?, Array.getElem?_push_lt hj, Array.getElem?_eq_getElem hj]
theorem push_set {listed : Array Bool} {j : Nat} (hj : j < listed.size) : (listed.push false).setIfInBounds j true = (listed.setIfInBounds j true).push false := by
  apply Array.ext_getElem?
  intro i
  simp only [Array.getElem?_setIfInBounds, Array.getElem?_push, Array.size_setIfInBounds, Array.size_push]
  by_cases hij : j = i
  · subst hij
    have h1 : ¬ j = listed.size := by omega
    have h2 : j < listed.size + 1 := by omega
    simp [hj, h1, h2]
  · simp [hij]
theorem ready_lt {l : List Oper} {o : Oper} (he : edgesB 0 l = true) {listed : Array Bool} (hs : listed.size = l.length) {i : Nat} (hi : i < l.length) :
    i ∈ Region.ready .any (l ++ [o]).toArray (listed.push false) ↔ i ∈ Region.ready .any l.toArray listed := by
  rw [mem_ready, mem_ready, push_getD true (by omega)]
  have e1 : (l ++ [o]).toArray[i]? = l.toArray[i]? := by simp [List.getElem?_append_left hi]
  rw [e1]
  constructor
  · rintro ⟨h1, x, hx, h⟩
    refine ⟨h1, x, hx, fun e hm hb => ?_⟩
    have hlt := edges_get l 0 he i x (by simpa using hx) e hm hb
    have := h e hm hb
    rwa [push_getD false (by omega)] at this
  · rintro ⟨h1, x, hx, h⟩
    refine ⟨h1, x, hx, fun e hm hb => ?_⟩
    have hlt := edges_get l 0 he i x (by simpa using hx) e hm hb
    rw [push_getD false (by omega)]
    exact h e hm hb
theorem ready_le {l : List Oper} {o : Oper} {listed : Array Bool} {i : Nat} (h : i ∈ Region.ready .any (l ++ [o]).toArray listed) : i < l.length ∨ i = l.length := by
  obtain ⟨_, x, hx, _⟩ := mem_ready.1 h
  have := (Array.getElem?_eq_some_iff.1 hx).1
  simp at this
  omega
theorem lastAll {l : List Oper} {o : Oper} (hB : lastB l o = true) {listed : Array Bool} (hc : closedL l listed) (ho : ∀ e ∈ o.after, Region.binds .any e = true → e.on < l.length → listed.getD e.on false = true) : ∀ (n i : Nat), l.length - i ≤ n → i < l.length → listed.getD i false = true := by
  simp only [lastB, Bool.and_eq_true, List.all_eq_true, List.mem_range, Bool.or_eq_true, Array.any_eq_true', List.any_eq_true, beq_iff_eq, decide_eq_true_eq] at hB
  intro n
  induction n with
  | zero => intro i hn hi; omega
  | succ n ih =>
    intro i hn hi
    rcases hB.2 i hi with ⟨e, hm, he, hb⟩ | ⟨j, hj, hij, hw⟩
    · have := ho e hm hb (by omega)
      rwa [he] at this
    · have hlj := ih j (by omega) hj
      unfold waitB at hw
      split at hw
      · rename_i x hx
        simp only [Array.any_eq_true', Bool.and_eq_true, beq_iff_eq] at hw
        obtain ⟨e, hm, he, hb⟩ := hw
        have := hc j x hx hlj e hm hb
        rwa [he] at this
      · cases hw
theorem closed_set {l : List Oper} {listed : Array Bool} (hs : listed.size = l.length) (hc : closedL l listed) {i : Nat} (hi : i ∈ Region.ready .any l.toArray listed) : closedL l (listed.setIfInBounds i true) := by
  obtain ⟨_, y, hy, hd⟩ := mem_ready.1 hi
  have keep : ∀ j, listed.getD j false = true → (listed.setIfInBounds i true).getD j false = true := fun j hj => by
    rw [Array.getD_eq_getD_getElem?] at hj ⊢
    rw [Array.getElem?_setIfInBounds]
    split
    · split
      · rfl
      · rename_i h1 h2
        rw [← h1, Array.getElem?_eq_none (by omega)] at hj
        cases hj
    · exact hj
  intro j x hx hj e hm hb
  by_cases hij : i = j
  · subst hij
    have : x = y := by
      have hy2 : l[i]? = some y := by simpa using hy
      rw [hx] at hy2
      injection hy2
    subst this
    exact keep _ (hd e hm hb)
  · refine keep _ (hc j x hx ?_ e hm hb)
    rw [Array.getD_eq_getD_getElem?, Array.getElem?_setIfInBounds, if_neg hij] at hj
    rwa [Array.getD_eq_getD_getElem?]
theorem ready_last {l : List Oper} {o : Oper} (hB : lastB l o = true) {listed : Array Bool} (hs : listed.size = l.length) (hc : closedL l listed) (h : l.length ∈ Region.ready .any (l ++ [o]).toArray (listed.push false)) :
    Region.ready .any l.toArray listed = [] ∧ ∀ i, i < l.length → listed.getD i false = true := by
  obtain ⟨_, x, hx, h⟩ := mem_ready.1 h
  simp at hx
  subst hx
  have hall : ∀ i, i < l.length → listed.getD i false = true := fun i hi => lastAll hB hc (fun e hm hb hlt => by
    have := h e hm hb
    rwa [push_getD false (by omega)] at this) _ i (Nat.le_refl _) hi
  refine ⟨List.eq_nil_iff_forall_not_mem.2 fun i hi => ?_, hall⟩
  obtain ⟨h1, x, hx, _⟩ := mem_ready.1 hi
  have hil : i < l.length := by have := (Array.getElem?_eq_some_iff.1 hx).1; simpa using this
  have := hall i hil
  rw [Array.getD_eq_getD_getElem?, Array.getElem?_eq_getElem (by omega)] at h1 this
  simp at h1 this
  rw [h1] at this
  cases this
theorem last_ready {l : List Oper} {o : Oper} {listed : Array Bool} (hs : listed.size = l.length) (ho : ∀ e ∈ o.after, Region.binds .any e = true → e.on < l.length) (hall : ∀ i, i < l.length → listed.getD i false = true) :
    l.length ∈ Region.ready .any (l ++ [o]).toArray (listed.push false) := by
  rw [mem_ready]
  refine ⟨?_, o, by simp, fun e hm hb => ?_⟩
  · rw [Array.getD_eq_getD_getElem?, ← hs]
    simp
  · have := ho e hm hb
    rw [push_getD false (by omega)]
    exact hall _ this
theorem ready_all {l : List Oper} {listed : Array Bool} (hs : l.length ≤ listed.size) (hall : ∀ i, i < l.length → listed.getD i false = true) : Region.ready .any l.toArray listed = [] := by
  refine List.eq_nil_iff_forall_not_mem.2 fun i hi => ?_
  obtain ⟨h1, x, hx, _⟩ := mem_ready.1 hi
  have hil : i < l.length := by have := (Array.getElem?_eq_some_iff.1 hx).1; simpa using this
  have := hall i hil
  rw [Array.getD_eq_getD_getElem?, Array.getElem?_eq_getElem (by omega)] at h1 this
  simp at h1 this
  rw [h1] at this
  cases this
theorem wpAny_done {l : List Oper} {listed : Array Bool} (h : Region.ready .any l.toArray listed = []) {a : Act} {w : World} (hq : Q .normal a w) : ∀ n, wpAny P .any l.toArray Q n listed a w
  | 0 => ⟨h, hq⟩
  | _ + 1 => ⟨fun _ => hq, fun i hi => by rw [h] at hi; cases hi⟩
theorem step_last {l : List Oper} {o : Oper} (hB : lastB l o = true) {listed : Array Bool} (hs : listed.size = l.length) (hall : ∀ i, i < l.length → listed.getD i false = true) {a : Act} {w : World} (hq : lastQ P o Q .normal a w) (n : Nat) :
    wpOp P (l ++ [o]).toArray Q l.length (wpAny P .any (l ++ [o]).toArray Q n ((listed.push false).setIfInBounds l.length true)) a w := by
  unfold wpOp
  have e : (l ++ [o]).toArray[l.length]? = some o := by simp
  rw [e]
  have hg : o.guard = none := by
    simp only [lastB, Bool.and_eq_true, Option.isNone_iff_eq_none] at hB
    exact hB.1.1
  have hw : Region.wanted o (yielded (l ++ [o]).toArray a.tmps) = true := by simp [Region.wanted, hg]
  simp only [hw, if_true]
  refine .inl (Oper.wp_mono (fun a' w' h => ?_) hq)
  refine wpAny_done (ready_all (by simp; omega) fun i hi => ?_) h n
  simp only [List.length_append, List.length_cons, List.length_nil] at hi
  rw [Array.getD_eq_getD_getElem?]
  by_cases hil : i = l.length
  · subst hil; simp [hs]
  · have := hall i (by omega)
    rw [Array.getD_eq_getD_getElem?, Array.getElem?_eq_getElem (by omega)] at this
    rw [Array.getElem?_setIfInBounds, if_neg (fun e => hil e.symm), Array.getElem?_push_lt (by omega)]
    exact this
theorem wpAny_last {l : List Oper} {o : Oper} (hB : lastB l o = true) (ho : ∀ e ∈ o.after, Region.binds .any e = true → e.on < l.length) (he : edgesB 0 l = true) : ∀ (n : Nat) (listed : Array Bool) (a : Act) (w : World), listed.size = l.length → closedL l listed →
    wpAny P .any l.toArray (lastQ P o Q) n listed a w → wpAny P .any (l ++ [o]).toArray Q (n + 1) (listed.push false) a w := by
  intro n
  induction n with
  | zero =>
    intro listed a w hs hc h
    have hall := ready_nil hs he h.1
    refine ⟨fun hr => ?_, fun i hi => ?_⟩
    · have := last_ready hs ho hall
      rw [hr] at this
      cases this
    · rcases ready_le hi with hlt | rfl
      · have := (ready_lt he hs hlt).1 hi
        rw [h.1] at this
        cases this
      · exact step_last hB hs hall h.2 0
  | succ n ih =>
    intro listed a w hs hc h
    refine ⟨fun hr => ?_, fun i hi => ?_⟩
    · exfalso
      by_cases h0 : Region.ready .any l.toArray listed = []
      · have := last_ready hs ho (ready_nil hs he h0)
        rw [hr] at this
        cases this
      · obtain ⟨i, hi⟩ := List.exists_mem_of_ne_nil _ h0
        have hil : i < l.length := by
          obtain ⟨_, x, hx, _⟩ := mem_ready.1 hi
          have := (Array.getElem?_eq_some_iff.1 hx).1
          simpa using this
        have := (ready_lt (o := o) he hs hil).2 hi
        rw [hr] at this
        cases this
    · rcases ready_le hi with hlt | rfl
      · have hop := h.2 i ((ready_lt he hs hlt).1 hi)
        rw [push_set (by omega)]
        unfold wpOp at hop ⊢
        have e1 : (l ++ [o]).toArray[i]? = l.toArray[i]? := by simp [List.getElem?_append_left hlt]
        rw [e1]
        obtain ⟨x, hx⟩ : ∃ x, l.toArray[i]? = some x := ⟨l[i], by simp [hlt]⟩
        rw [hx] at hop ⊢
        have hg : x.guard = none := by
          simp only [lastB, Bool.and_eq_true, List.all_eq_true, Option.isNone_iff_eq_none] at hB
          exact hB.1.2 x (List.mem_of_getElem? (by simpa using hx))
        have hw : ∀ f, Region.wanted x f = true := fun f => by simp [Region.wanted, hg]
        simp only [hw, if_true] at hop ⊢
        refine hop.imp (fun h2 => ?_) (fun h2 => h2)
        exact Oper.wp_mono (fun a' w' h3 => ih _ _ _ (by simpa using hs) (closed_set hs hc ((ready_lt he hs hlt).1 hi)) h3) (operWp_last h2)
      · obtain ⟨h0, hall⟩ := ready_last hB hs hc hi
        exact step_last hB hs hall (h.1 h0) (n + 1)
variable {St : World → World → Prop} {G : Nat → Value → World → Prop}
/-- **A region that draws its order, and whose last operation waits for all the others: the others do what is said of them; the last one is walked behind them.** -/
theorem wp_region_stable_last {L : List Oper} (ns : List OpNote) (St : World → World → Prop) (G : Nat → Value → World → Prop) {o : Oper} {id : Nat} {w : World} {a0 : Act} {Q : Exit → Act → World → Prop} (hL : L = L.dropLast ++ [o]) (hm : P.follows .mixedOrders = true)
    (hT : ∀ x y z, St x y → St y z → St x z) (hR : ∀ x, St x x) (hD : ∀ x : World, St x { x with drawn := x.drawn + 1 })
    (hG : ∀ j u x y, St x y → G j u x → G j u y) (hB : stableB L.dropLast ns a0.tmps.size = true) (hB2 : lastB L.dropLast o = true) (hB3 : (o.after.all fun e => !Region.binds .any e || decide (e.on < L.dropLast.length)) = true)
    (hob : opObs P St G w a0.tmps (dstsOf L.dropLast) 0 L.dropLast ns)
    (hQ : ∀ vs w', vs.length = L.dropLast.length → St w w' → (∀ (i : Nat) (v : Value), vs[i]? = some v → G i v w') → o.wp P (putAll a0 L.dropLast vs) w' (fun a' w' => Q .normal a' w') Q) : (Code.region id L.toArray true).wp P Q a0 w := by
  refine wp_region_any hm ?_
  generalize L.dropLast = l at *
  subst hL
  have he : edgesB 0 l = true := by
    simp only [stableB, Bool.and_eq_true] at hB
    exact hB.2
  have h := wpAny_stable (P := P) (Q := lastQ P o Q) hT hR hG hB hob hQ (List.range l.length) (Array.replicate l.length false) a0 { w with drawn := w.drawn + 1 } List.nodup_range (fun i => by
    rw [List.mem_range]
    constructor
    · intro hi
      exact ⟨hi, by simp [Array.getD_eq_getD_getElem?, hi]⟩
    · exact fun h => h.1) (by simp) ⟨rfl, rfl, hD w, fun _ _ => rfl, fun i o hi hl => by
      exfalso
      have hil : i < l.length := (List.getElem?_eq_some_iff.1 hi).1
      simp [Array.getD_eq_getD_getElem?, hil] at hl⟩
  rw [List.length_range] at h
  have h2 := wpAny_last hB2 (fun e hm hb => by
    have := (Array.all_eq_true'.1 hB3) e hm
    rw [hb] at this
    simpa using this) he l.length _ _ _ (by simp) (fun i x _ hl => by simp [Array.getD_eq_getD_getElem?, Array.getElem?_replicate] at hl; split at hl <;> simp at hl) h
  have e1 : (Array.replicate l.length false).push false = Array.replicate (l ++ [o]).toArray.size false := by
    simp [Array.replicate_succ]
  rw [e1] at h2
  simpa using h2
end
end Go.Proofs.Ytnpebfchojalcaa

namespace Go.Proofs.Ytnpebfchojalcaa
open Go.RowKit
/-- the fence lets every function in, and counts no depth -/
def Open (F : Fence) : Prop := ∃ r, F = { Fence.wide with round := r }
theorem Open.wide : Open Fence.wide := ⟨none, rfl⟩
theorem Open.inRound {F : Fence} (h : Open F) (l : Nat) : Open (F.inRound l) := by obtain ⟨r, rfl⟩ := h; exact ⟨some l, rfl⟩
theorem Open.fn {F : Fence} (h : Open F) (f : FuncId) : F.fn f := by obtain ⟨r, rfl⟩ := h; trivial
theorem Open.one {F : Fence} (h : Open F) {n : Nat} : F.depth.isSome = true → 1 ≤ n := fun e => by obtain ⟨r, rfl⟩ := h; cases e
theorem Open.calls {F : Fence} (h : Open F) {n : Nat} {P : Program} {f : FuncId} {args : Array Value} {w : World} {R : Ending → World → Prop} (hc : Calls P f args w R) : CallsIn F n P f args w R := by
  obtain ⟨r, rfl⟩ := h
  exact callsIn_wide.2 hc
def deferB (o : Oper) : Bool := match o.op with | .defer _ => true | _ => false
theorem semAt_of {o : Oper} (h : deferB o = false) (ro : Option Nat) (ρ : Operand → Value) : Oper.semAt ro ρ o = execOp ρ o :=
  Oper.semAt_eq ro ρ o fun c e => by rw [deferB, e] at h; cases h
def lastQIn (F : Fence) (n₀ : Nat) (P : Program) (o : Oper) (Q : Exit → Act → World → Prop) : Exit → Act → World → Prop
  | .normal, a, w => o.wpIn F n₀ P a w (fun a' w' => Q .normal a' w') Q
  | e, a, w => Q e a w
section
variable {F : Fence} {n₀ : Nat} {P : Program} {Q : Exit → Act → World → Prop} {St : World → World → Prop} {G : Nat → Value → World → Prop}
theorem wpAnyIn_stable (hF : Open F) {l : List Oper} {ns : List OpNote} {w0 : World} {a0 : Act} {Q : Exit → Act → World → Prop} (hT : ∀ x y z, St x y → St y z → St x z) (hR : ∀ x, St x x)
    (hG : ∀ j u x y, St x y → G j u x → G j u y) (hB : stableB l ns a0.tmps.size = true)
    (hDf : l.all (fun o => !deferB o) = true) (hob : opObs P St G w0 a0.tmps (dstsOf l) 0 l ns)
    (hQ : ∀ vs w, vs.length = l.length → St w0 w → (∀ (i : Nat) (v : Value), vs[i]? = some v → G i v w) → Q .normal (putAll a0 l vs) w) :
    ∀ (u : List Nat) (listed : Array Bool) (a : Act) (w : World), u.Nodup → (∀ i, i ∈ u ↔ i < l.length ∧ listed.getD i false = false) → listed.size = l.length → StInv St G l w0 a0 listed a w →
      wpAnyIn F n₀ P .any l.toArray Q u.length listed a w := by
  simp only [stableB, Bool.and_eq_true] at hB
  obtain ⟨⟨⟨hN, hn⟩, hlt⟩, he⟩ := hB
  have fin : ∀ (listed : Array Bool) (a : Act) (w : World), listed.size = l.length → StInv St G l w0 a0 listed a w → Region.ready .any l.toArray listed = [] → Q .normal a w := by
    intro listed a w hs h hr
    have hall := ready_nil hs he hr
    have hlt' : ∀ (i : Nat) (o : Oper), l[i]? = some o → i < l.length := fun i o hi => (List.getElem?_eq_some_iff.1 hi).1
    rw [eq_putAll hn hlt h.defers h.size (fun t ht => h.other t (fun i o hi _ => ht i o hi))]
    refine hQ _ _ (by simp) h.st (fun i v hv => ?_)
    rw [List.getElem?_map] at hv
    cases hi : l[i]? with
    | none => rw [hi] at hv; simp at hv
    | some o =>
      rw [hi] at hv
      simp at hv
      subst hv
      exact h.good i o hi (hall i (hlt' i o hi))
  intro u
  induction hlen : u.length generalizing u with
  | zero =>
    intro listed a w _ hu hs h
    have hnil : u = [] := List.length_eq_zero_iff.1 hlen
    have hr : Region.ready .any l.toArray listed = [] := by
      apply List.eq_nil_iff_forall_not_mem.2
      intro i hi
      obtain ⟨h1, o, ho, _⟩ := mem_ready.1 hi
      have hil : i < l.length := by have := (Array.getElem?_eq_some_iff.1 ho).1; simpa using this
      have : i ∈ u := (hu i).2 ⟨hil, by
        rw [Array.getD_eq_getD_getElem?] at h1 ⊢
        have h2 : i < listed.size := by omega
        simpa [h2] using h1⟩
      rw [hnil] at this
      cases this
    exact ⟨hr, fin listed a w hs h hr⟩
  | succ n ih =>
    intro listed a w hnd hu hs h
    refine ⟨fun hr => fin listed a w hs h hr, fun i hi => ?_⟩
    obtain ⟨h1, o, ho, hdep⟩ := mem_ready.1 hi
    have hil : i < l.length := by have := (Array.getElem?_eq_some_iff.1 ho).1; simpa using this
    have hui : listed.getD i false = false := by
      rw [Array.getD_eq_getD_getElem?] at h1 ⊢
      have h2 : i < listed.size := by omega
      simpa [h2] using h1
    have hol : l[i]? = some o := by simpa using ho
    have hiu : i ∈ u := (hu i).2 ⟨hil, hui⟩
    obtain ⟨nt, hnt, hnB⟩ := notes_get l l ns hN i o hol
    have hO := obs_get l ns 0 hob i o nt hol hnt
    rw [Nat.zero_add] at hO
    simp only [noteB, Bool.and_eq_true] at hnB
    obtain ⟨hdB, hgB⟩ := hnB
    have hdeps : depsHold G a.eval w nt.deps := depsHold_of (l := l) nt.deps (fun p hp => by
      rw [List.all_eq_true] at hdB
      have := hdB p hp
      simp only [Bool.and_eq_true, Array.any_eq_true', beq_iff_eq] at this
      obtain ⟨⟨e, hem, heq, hb⟩, hdst⟩ := this
      cases hj : l[p.1]? with
      | none => rw [hj] at hdst; simp at hdst
      | some oj =>
        rw [hj] at hdst
        have hlj := hdep e hem hb
        rw [heq] at hlj
        exact ⟨oj, rfl, by simpa using hdst, h.good _ oj hj hlj⟩)
    have hfree : ∀ t, (dstsOf l).contains t = false → a.eval (.tmp t) = a0.tmps.getD t undef := fun t ht => by
      have h3 := h.other t (fun j oj hj _ hdj => by
        have hm : t ∈ dstsOf l := List.mem_filterMap.2 ⟨oj, List.mem_of_getElem? hj, hdj⟩
        rw [List.contains_iff_mem.2 hm] at ht
        cases ht)
      simp only [Act.eval, Array.getD_eq_getD_getElem?, h3]
    have hO' := hO a.eval w hfree (fun _ => rfl) (fun _ => rfl) h.st hdeps
    have go : ∀ v w', St w w' → G i (dv o v) w' → wpAnyIn F n₀ P .any l.toArray Q n (listed.setIfInBounds i true) (a.put o.dst v) w' := by
      intro v w' hst hg
      have := ih (u.erase i) (by rw [List.length_erase_of_mem hiu]; omega) (listed.setIfInBounds i true) (a.put o.dst v) w' (hnd.erase i) (fun j => by
        rw [hnd.mem_erase_iff, hu j]
        have hisz : i < listed.size := by omega
        constructor
        · rintro ⟨hne, hjl, hj⟩
          refine ⟨hjl, ?_⟩
          rw [Array.getD_eq_getD_getElem?, Array.getElem?_setIfInBounds, if_neg (fun e => hne e.symm)]
          rwa [Array.getD_eq_getD_getElem?] at hj
        · rintro ⟨hjl, hj⟩
          have hne : j ≠ i := fun e => by
            subst e
            simp [hisz] at hj
          refine ⟨hne, hjl, ?_⟩
          rw [Array.getD_eq_getD_getElem?, Array.getElem?_setIfInBounds, if_neg (fun e => hne e.symm)] at hj
          rwa [Array.getD_eq_getD_getElem?]) (by simpa using hs) (h.step hT hG hn hlt hol hui hs hst hg)
      exact this
    have hup : stUpon P St (fun v w' => G i (dv o v) w') w ((execOp a.eval o).run P w) → o.wpIn F n₀ P a w (wpAnyIn F n₀ P .any l.toArray Q n (listed.setIfInBounds i true)) Q := by
      intro hO2
      unfold Oper.wpIn
      refine ⟨fun f _ => hF.fn f, ?_⟩
      rw [semAt_of (List.all_eq_true.1 hDf o (List.mem_of_getElem? hol) |> fun h => by simpa using h)]
      generalize (execOp a.eval o).run P w = r at hO2
      cases r with
      | ok nx w' =>
        cases nx <;> simp only [stUpon] at hO2 <;> simp only [Oper.uponIn]
        case value v => exact go _ _ hO2.1 hO2.2
        case skip => exact go _ _ hO2.1 hO2.2
        case enter f args => exact ⟨hF.one, hF.calls (hO2.mono fun e w'' ⟨v, hev, hst, hg⟩ => by subst hev; exact go _ _ hst hg)⟩
      | halt x w' => simp only [stUpon] at hO2
    unfold wpOpIn
    simp only [ho]
    cases hgu : o.guard with
    | none =>
      have hng : nt.guard = none := by
        rw [hgu] at hgB
        cases h4 : nt.guard with
        | none => rfl
        | some p => rw [h4] at hgB; simp at hgB
      rw [hng] at hO'
      have hw : Region.wanted o (yielded l.toArray a.tmps) = true := by simp [Region.wanted, hgu]
      simp only [hw, if_true]
      exact hup hO'
    | some g =>
      obtain ⟨j, b⟩ := g
      cases h4 : nt.guard with
      | none => rw [hgu, h4] at hgB; simp at hgB
      | some p =>
        obtain ⟨t, c⟩ := p
        rw [hgu, h4] at hgB
        simp only [Bool.and_eq_true, beq_iff_eq] at hgB
        obtain ⟨hbc, hdst⟩ := hgB
        subst hbc
        rw [h4] at hO'
        have htm : t ∈ dstsOf l := by
          cases hj : l[j]? with
          | none => rw [hj] at hdst; simp at hdst
          | some oj => rw [hj] at hdst; exact List.mem_filterMap.2 ⟨oj, List.mem_of_getElem? hj, by simpa using hdst⟩
        have hts : t < a.tmps.size := by
          rw [List.all_eq_true] at hlt
          have := hlt t htm
          rw [h.size]
          simpa using this
        have hdst' : ((l.toArray[j]?).bind (·.dst)) = some t := by simpa using hdst
        by_cases hv : a.eval (.tmp t) = .bool b
        · have hw : Region.wanted o (yielded l.toArray a.tmps) = true := by
            have hget : a.tmps[t]? = some (.bool b) := by
              simp only [Act.eval, Array.getD_eq_getD_getElem?] at hv
              rw [Array.getElem?_eq_getElem hts] at hv ⊢
              simpa using hv
            simp only [Region.wanted, hgu, yielded, hdst', Option.bind_some, hget, beq_self_eq_true]
          simp only [hw, if_true]
          exact hup (hO'.1 hv)
        · have hw : Region.wanted o (yielded l.toArray a.tmps) = false := by
            rw [Bool.eq_false_iff]
            intro hw
            apply hv
            simp only [Region.wanted, hgu, yielded, hdst', Option.bind_some, beq_iff_eq] at hw
            rw [Array.getElem?_eq_getElem hts] at hw
            simp only [Act.eval, Array.getD_eq_getD_getElem?, Array.getElem?_eq_getElem hts, Option.getD_some]
            split at hw
            · rename_i b' hb'
              injection hw with hw
              injection hb' with hb'
              rw [hb', hw]
            · cases hw
          simp only [hw, Bool.false_eq_true, if_false]
          have hgv := hO'.2 hv
          exact ⟨fun f _ => hF.fn f, go undef w (hR w) (by cases hd : o.dst <;> simpa [dv, hd] using hgv)⟩

/-- **A region that draws its order, whose operations each do what is said of them whatever else has been done: the walk goes on behind it with that.** -/
theorem wpIn_region_stable (hF : Open F) {l : List Oper} (ns : List OpNote) (St : World → World → Prop) (G : Nat → Value → World → Prop) {id : Nat} {w : World} {a0 : Act} {Q : Exit → Act → World → Prop} (hm : P.follows .mixedOrders = true)
    (hT : ∀ x y z, St x y → St y z → St x z) (hR : ∀ x, St x x) (hD : ∀ x : World, St x { x with drawn := x.drawn + 1 })
    (hG : ∀ j u x y, St x y → G j u x → G j u y) (hB : stableB l ns a0.tmps.size = true)
    (hDf : l.all (fun o => !deferB o) = true) (hob : opObs P St G w a0.tmps (dstsOf l) 0 l ns)
    (hQ : ∀ vs w', vs.length = l.length → St w w' → (∀ (i : Nat) (v : Value), vs[i]? = some v → G i v w') → Q .normal (putAll a0 l vs) w') : (Code.region id l.toArray true).wpIn F n₀ P Q a0 w := by
  refine wpIn_region_any hm ?_
  have := wpAnyIn_stable (F := F) (n₀ := n₀) (P := P) (Q := Q) hF hT hR hG hB hDf hob hQ (List.range l.length) (Array.replicate l.toArray.size false) a0 { w with drawn := w.drawn + 1 } List.nodup_range (fun i => by
    rw [List.mem_range]
    constructor
    · intro hi
      exact ⟨hi, by simp [Array.getD_eq_getD_getElem?, hi]⟩
    · exact fun h => h.1) (by simp) ⟨rfl, rfl, hD w, fun _ _ => rfl, fun i o hi hl => by
      exfalso
      have hil : i < l.length := (List.getElem?_eq_some_iff.1 hi).1
      simp [Array.getD_eq_getD_getElem?, hil] at hl⟩
  simpa using this
theorem operWpIn_last {o x : Oper} {a : Act} {w : World} {K : Act → World → Prop} (h : x.wpIn F n₀ P a w K (lastQIn F n₀ P o Q)) : x.wpIn F n₀ P a w K Q := by
  unfold Oper.wpIn at *
  refine ⟨h.1, ?_⟩
  have h := h.2
  generalize (x.semAt F.round a.eval).run P w = r at *
  cases r with
  | ok n w' =>
    cases n <;> simp only [Oper.uponIn] at h ⊢ <;>
      first
        | exact h
        | exact ⟨h.1, CallsIn.mono h.2 (fun e w'' he => by cases e <;> exact he)⟩
        | exact ⟨h.1, RoundIn.mono h.2 (fun e w'' he => by cases e <;> exact he)⟩
  | halt y w' => cases y <;> simp only [Oper.uponIn] at h ⊢ <;> exact h
theorem wpAnyIn_done2 {l : List Oper} {listed : Array Bool} (h : Region.ready .any l.toArray listed = []) {a : Act} {w : World} (hq : Q .normal a w) : ∀ n, wpAnyIn F n₀ P .any l.toArray Q n listed a w
  | 0 => ⟨h, hq⟩
  | _ + 1 => ⟨fun _ => hq, fun i hi => by rw [h] at hi; cases hi⟩
theorem step_lastIn {l : List Oper} {o : Oper} (hB : lastB l o = true) {listed : Array Bool} (hs : listed.size = l.length) (hall : ∀ i, i < l.length → listed.getD i false = true) {a : Act} {w : World} (hq : lastQIn F n₀ P o Q .normal a w) (n : Nat) :
    wpOpIn F n₀ P (l ++ [o]).toArray Q l.length (wpAnyIn F n₀ P .any (l ++ [o]).toArray Q n ((listed.push false).setIfInBounds l.length true)) a w := by
  unfold wpOpIn
  have e : (l ++ [o]).toArray[l.length]? = some o := by simp
  rw [e]
  have hg : o.guard = none := by
    simp only [lastB, Bool.and_eq_true, Option.isNone_iff_eq_none] at hB
    exact hB.1.1
  have hw : Region.wanted o (yielded (l ++ [o]).toArray a.tmps) = true := by simp [Region.wanted, hg]
  simp only [hw, if_true]
  refine Oper.wpIn_mono (fun a' w' h => ?_) hq
  refine wpAnyIn_done2 (ready_all (by simp; omega) fun i hi => ?_) h n
  simp only [List.length_append, List.length_cons, List.length_nil] at hi
  rw [Array.getD_eq_getD_getElem?]
  by_cases hil : i = l.length
  · subst hil; simp [hs]
  · have := hall i (by omega)
    rw [Array.getD_eq_getD_getElem?, Array.getElem?_eq_getElem (by omega)] at this
    rw [Array.getElem?_setIfInBounds, if_neg (fun e => hil e.symm), Array.getElem?_push_lt (by omega)]
    exact this
theorem wpAnyIn_last {l : List Oper} {o : Oper} (hB : lastB l o = true) (ho : ∀ e ∈ o.after, Region.binds .any e = true → e.on < l.length) (he : edgesB 0 l = true) : ∀ (n : Nat) (listed : Array Bool) (a : Act) (w : World), listed.size = l.length → closedL l listed →
    wpAnyIn F n₀ P .any l.toArray (lastQIn F n₀ P o Q) n listed a w → wpAnyIn F n₀ P .any (l ++ [o]).toArray Q (n + 1) (listed.push false) a w := by
  intro n
  induction n with
  | zero =>
    intro listed a w hs hc h
    have hall := ready_nil hs he h.1
    refine ⟨fun hr => ?_, fun i hi => ?_⟩
    · have := last_ready hs ho hall
      rw [hr] at this
      cases this
    · rcases ready_le hi with hlt | rfl
      · have := (ready_lt he hs hlt).1 hi
        rw [h.1] at this
        cases this
      · exact step_lastIn hB hs hall h.2 0
  | succ n ih =>
    intro listed a w hs hc h
    refine ⟨fun hr => ?_, fun i hi => ?_⟩
    · exfalso
      by_cases h0 : Region.ready .any l.toArray listed = []
      · have := last_ready hs ho (ready_nil hs he h0)
        rw [hr] at this
        cases this
      · obtain ⟨i, hi⟩ := List.exists_mem_of_ne_nil _ h0
        have hil : i < l.length := by
          obtain ⟨_, x, hx, _⟩ := mem_ready.1 hi
          have := (Array.getElem?_eq_some_iff.1 hx).1
          simpa using this
        have := (ready_lt (o := o) he hs hil).2 hi
        rw [hr] at this
        cases this
    · rcases ready_le hi with hlt | rfl
      · have hop := h.2 i ((ready_lt he hs hlt).1 hi)
        rw [push_set (by omega)]
        unfold wpOpIn at hop ⊢
        have e1 : (l ++ [o]).toArray[i]? = l.toArray[i]? := by simp [List.getElem?_append_left hlt]
        rw [e1]
        obtain ⟨x, hx⟩ : ∃ x, l.toArray[i]? = some x := ⟨l[i], by simp [hlt]⟩
        rw [hx] at hop ⊢
        have hg : x.guard = none := by
          simp only [lastB, Bool.and_eq_true, List.all_eq_true, Option.isNone_iff_eq_none] at hB
          exact hB.1.2 x (List.mem_of_getElem? (by simpa using hx))
        have hw : ∀ f, Region.wanted x f = true := fun f => by simp [Region.wanted, hg]
        simp only [hw, if_true] at hop ⊢
        exact Oper.wpIn_mono (fun a' w' h3 => ih _ _ _ (by simpa using hs) (closed_set hs hc ((ready_lt he hs hlt).1 hi)) h3) (operWpIn_last hop)
      · obtain ⟨h0, hall⟩ := ready_last hB hs hc hi
        exact step_lastIn hB hs hall (h.1 h0) (n + 1)
/-- **A region that draws its order, and whose last operation waits for all the others: the others do what is said of them; the last one is walked behind them.** -/
theorem wpIn_region_stable_last (hF : Open F) {L : List Oper} (ns : List OpNote) (St : World → World → Prop) (G : Nat → Value → World → Prop) {o : Oper} {id : Nat} {w : World} {a0 : Act} {Q : Exit → Act → World → Prop} (hL : L = L.dropLast ++ [o]) (hm : P.follows .mixedOrders = true)
    (hT : ∀ x y z, St x y → St y z → St x z) (hR : ∀ x, St x x) (hD : ∀ x : World, St x { x with drawn := x.drawn + 1 })
    (hG : ∀ j u x y, St x y → G j u x → G j u y) (hB : stableB L.dropLast ns a0.tmps.size = true) (hB2 : lastB L.dropLast o = true) (hB3 : (o.after.all fun e => !Region.binds .any e || decide (e.on < L.dropLast.length)) = true)
    (hDf : L.dropLast.all (fun o => !deferB o) = true) (hob : opObs P St G w a0.tmps (dstsOf L.dropLast) 0 L.dropLast ns)
    (hQ : ∀ vs w', vs.length = L.dropLast.length → St w w' → (∀ (i : Nat) (v : Value), vs[i]? = some v → G i v w') → o.wpIn F n₀ P (putAll a0 L.dropLast vs) w' (fun a' w' => Q .normal a' w') Q) : (Code.region id L.toArray true).wpIn F n₀ P Q a0 w := by
  refine wpIn_region_any hm ?_
  generalize L.dropLast = l at *
  subst hL
  have he : edgesB 0 l = true := by
    simp only [stableB, Bool.and_eq_true] at hB
    exact hB.2
  have h := wpAnyIn_stable (F := F) (n₀ := n₀) (P := P) (Q := lastQIn F n₀ P o Q) hF hT hR hG hB hDf hob hQ (List.range l.length) (Array.replicate l.length false) a0 { w with drawn := w.drawn + 1 } List.nodup_range (fun i => by
    rw [List.mem_range]
    constructor
    · intro hi
      exact ⟨hi, by simp [Array.getD_eq_getD_getElem?, hi]⟩
    · exact fun h => h.1) (by simp) ⟨rfl, rfl, hD w, fun _ _ => rfl, fun i o hi hl => by
      exfalso
      have hil : i < l.length := (List.getElem?_eq_some_iff.1 hi).1
      simp [Array.getD_eq_getD_getElem?, hil] at hl⟩
  rw [List.length_range] at h
  have h2 := wpAnyIn_last hB2 (fun e hm hb => by
    have := (Array.all_eq_true'.1 hB3) e hm
    rw [hb] at this
    simpa using this) he l.length _ _ _ (by simp) (fun i x _ hl => by simp [Array.getD_eq_getD_getElem?, Array.getElem?_replicate] at hl; split at hl <;> simp at hl) h
  have e1 : (Array.replicate l.length false).push false = Array.replicate (l ++ [o]).toArray.size false := by
    simp [Array.replicate_succ]
  rw [e1] at h2
  simpa using h2
end
end Go.Proofs.Ytnpebfchojalcaa
namespace Go.Proofs.Ytnpebfchojalcaa
open Go.RowKit
section
variable {F : Fence} {n₀ : Nat} {P : Program} {Q : Exit → Act → World → Prop} {St : World → World → Prop} {G : Nat → Value → World → Prop}
/-- The same with two operations at the end, one behind the other. -/
theorem wpIn_region_stable_last2 (hF : Open F) {L : List Oper} (ns : List OpNote) (St : World → World → Prop) (G : Nat → Value → World → Prop) {o o2 : Oper} {id : Nat} {w : World} {a0 : Act} {Q : Exit → Act → World → Prop} (hL : L = (L.dropLast.dropLast ++ [o]) ++ [o2]) (hm : P.follows .mixedOrders = true)
    (hT : ∀ x y z, St x y → St y z → St x z) (hR : ∀ x, St x x) (hD : ∀ x : World, St x { x with drawn := x.drawn + 1 })
    (hG : ∀ j u x y, St x y → G j u x → G j u y) (hB : stableB L.dropLast.dropLast ns a0.tmps.size = true) (hB2 : lastB L.dropLast.dropLast o = true) (hB3 : (o.after.all fun e => !Region.binds .any e || decide (e.on < L.dropLast.dropLast.length)) = true)
    (hB4 : lastB (L.dropLast.dropLast ++ [o]) o2 = true) (hB5 : (o2.after.all fun e => !Region.binds .any e || decide (e.on < (L.dropLast.dropLast ++ [o]).length)) = true)
    (hDf : L.dropLast.dropLast.all (fun o => !deferB o) = true) (hob : opObs P St G w a0.tmps (dstsOf L.dropLast.dropLast) 0 L.dropLast.dropLast ns)
    (hQ : ∀ vs w', vs.length = L.dropLast.dropLast.length → St w w' → (∀ (i : Nat) (v : Value), vs[i]? = some v → G i v w') → o.wpIn F n₀ P (putAll a0 L.dropLast.dropLast vs) w' (fun a1 w1 => o2.wpIn F n₀ P a1 w1 (fun a' w' => Q .normal a' w') Q) (lastQIn F n₀ P o2 Q)) : (Code.region id L.toArray true).wpIn F n₀ P Q a0 w := by
  refine wpIn_region_any hm ?_
  generalize L.dropLast.dropLast = l at *
  subst hL
  have he : edgesB 0 l = true := by
    simp only [stableB, Bool.and_eq_true] at hB
    exact hB.2
  have hb3 : ∀ e ∈ o.after, Region.binds .any e = true → e.on < l.length := fun e hm hb => by
    have := (Array.all_eq_true'.1 hB3) e hm
    rw [hb] at this
    simpa using this
  have he2 : edgesB 0 (l ++ [o]) = true := by
    have go : ∀ (k : Nat) (l' : List Oper), edgesB k l' = true → (∀ e ∈ o.after, Region.binds .any e = true → e.on < k + l'.length) → edgesB k (l' ++ [o]) = true := by
      intro k l'
      induction l' generalizing k with
      | nil =>
        intro _ h
        simp only [List.nil_append, edgesB, Bool.and_true]
        rw [Array.all_eq_true']
        intro e hm
        cases hb : Region.binds .any e with
        | false => rfl
        | true => have := h e hm hb; simp at this ⊢; omega
      | cons a l' ih =>
        intro h1 h2
        simp only [edgesB, Bool.and_eq_true, List.cons_append] at h1 ⊢
        exact ⟨h1.1, ih (k + 1) h1.2 (fun e hm hb => by have := h2 e hm hb; simp at this; omega)⟩
    exact go 0 l he (fun e hm hb => by have := hb3 e hm hb; omega)
  have h := wpAnyIn_stable (F := F) (n₀ := n₀) (P := P) (Q := lastQIn F n₀ P o (lastQIn F n₀ P o2 Q)) hF hT hR hG hB hDf hob hQ (List.range l.length) (Array.replicate l.length false) a0 { w with drawn := w.drawn + 1 } List.nodup_range (fun i => by
    rw [List.mem_range]
    constructor
    · intro hi
      exact ⟨hi, by simp [Array.getD_eq_getD_getElem?, hi]⟩
    · exact fun h => h.1) (by simp) ⟨rfl, rfl, hD w, fun _ _ => rfl, fun i o hi hl => by
      exfalso
      have hil : i < l.length := (List.getElem?_eq_some_iff.1 hi).1
      simp [Array.getD_eq_getD_getElem?, hil] at hl⟩
  rw [List.length_range] at h
  have h2 := wpAnyIn_last hB2 hb3 he l.length _ _ _ (by simp) (fun i x _ hl => by simp [Array.getD_eq_getD_getElem?, Array.getElem?_replicate] at hl; split at hl <;> simp at hl) h
  have e1 : (Array.replicate l.length false).push false = Array.replicate (l ++ [o]).length false := by
    simp [Array.replicate_succ]
  rw [e1] at h2
  have h3 := wpAnyIn_last hB4 (fun e hm hb => by
    have := (Array.all_eq_true'.1 hB5) e hm
    rw [hb] at this
    simpa using this) he2 (l.length + 1) _ _ _ (by simp) (fun i x _ hl => by simp [Array.getD_eq_getD_getElem?, Array.getElem?_replicate] at hl; split at hl <;> simp at hl) h2
  have e2 : (Array.replicate (l ++ [o]).length false).push false = Array.replicate ((l ++ [o]) ++ [o2]).toArray.size false := by
    simp [Array.replicate_succ]
  rw [e2] at h3
  simpa using h3
end
end Go.Proofs.Ytnpebfchojalcaa
