import Derived.Test.YtnpebfchojalcaaMX
namespace Go.Proofs.Ytnpebfchojalcaa
/-- on which side of the line from a to b the point z lies -/
def triP (a b z : Pt) : Int := (b.1 - a.1) * (z.2 - a.2) - (b.2 - a.2) * (z.1 - a.1)
def leftB (a b v : Pt) : Bool := decide (0 < triP a b v)
/-- not lower than: a is b or lies below it -/
def leP (a b : Pt) : Prop := ¬ lowP b a
theorem leP_iff (a b : Pt) : leP a b ↔ (0 < b.2 - a.2 ∨ (b.2 - a.2 = 0 ∧ 0 ≤ b.1 - a.1)) := by unfold leP lowP; omega
theorem leP_refl (a : Pt) : leP a a := low_irrefl a
theorem leP_trans {a b c : Pt} (h : leP a b) (k : leP b c) : leP a c := by rw [leP_iff] at *; omega
theorem leP_anti {a b : Pt} (h : leP a b) (k : leP b a) : a = b := by
  rw [leP_iff] at h k
  exact Prod.ext (by omega) (by omega)
theorem leP_of {a b : Pt} (h : lowP a b) : leP a b := by unfold leP lowP at *; omega
theorem tri_move (a b z : Pt) : triP a b z = (b.1 - a.1) * (z.2 - b.2) - (b.2 - a.2) * (z.1 - b.1) := by unfold triP; grind
/-- what has been put on the way so far, the last one first -/
def popP : List Pt → Pt → List Pt
  | b :: a :: l, v => if leftB a b v = true then b :: a :: l else popP (a :: l) v
  | [b], _ => [b]
  | [], _ => []
def bendS (l : List Pt) : List Pt := l.foldl (fun st v => v :: popP st v) []
/-- the edges of a stack have all of S on their left -/
def Sup (S : Pt → Prop) : List Pt → Prop
  | b :: a :: l => leP a b ∧ (∀ z, S z → 0 ≤ triP a b z) ∧ Sup S (a :: l)
  | _ => True
def Bends : List Pt → Prop
  | c :: b :: a :: l => 0 < triP a b c ∧ Bends (b :: a :: l)
  | _ => True
theorem Bends.tail {b : Pt} {l : List Pt} (h : Bends (b :: l)) : Bends l := by
  match l, h with
  | [], _ => trivial
  | [a], _ => trivial
  | a :: c :: l, h => exact h.2
theorem Sup.tail {S : Pt → Prop} {b : Pt} {l : List Pt} (h : Sup S (b :: l)) : Sup S l := by
  match l, h with
  | [], _ => trivial
  | a :: l, h => exact h.2.2
/-- what is known of a stack while points are popped off it -/
def Topped (S : Pt → Prop) (v b : Pt) (l : List Pt) : Prop :=
  (∀ z, S z → leP z b) ∨ ∃ u, leP b u ∧ (b ≠ u ∨ ∀ z, S z → z = b) ∧ (∀ z, S z → 0 ≤ triP b u z) ∧ triP b u v ≤ 0 ∧ Bends (u :: b :: l)
theorem Sup.mono {S T : Pt → Prop} (h : ∀ z, T z → S z) : ∀ st, Sup S st → Sup T st
  | [], _ => trivial
  | [_], _ => trivial
  | _ :: a :: l, k => ⟨k.1, fun z hz => k.2.1 z (h z hz), Sup.mono h (a :: l) k.2.2⟩
/-- a stack over the points done so far -/
structure Way (xs : List Pt) (f : Pt) (st : List Pt) : Prop where
  last : st.getLast? = some f
  sup : Sup (fun z => z ∈ xs) st
  bends : Bends st
  mem : ∀ x ∈ st, x ∈ xs
  low : ∀ z ∈ xs, leP f z
  top : ∃ b l, st = b :: l ∧ ∀ z ∈ xs, leP z b
end Go.Proofs.Ytnpebfchojalcaa

namespace Go.Proofs.Ytnpebfchojalcaa
/-- a way by its places -/
structure Chain (S : Pt → Prop) (A : List Pt) : Prop where
  sup : ∀ i, i + 1 < A.length → ∀ z, S z → 0 ≤ triP (fromP A i) (fromP A (i + 1)) z
  turn : ∀ i, i + 2 < A.length → 0 < triP (fromP A i) (fromP A (i + 1)) (fromP A (i + 2))
  mem : ∀ i, i < A.length → S (fromP A i)
theorem fromP_rev {l : List Pt} {i : Nat} (h : i < l.length) : fromP l.reverse i = fromP l (l.length - 1 - i) := by
  rw [fromP_of (List.getElem?_eq_getElem (by simpa using h)), fromP_of (List.getElem?_eq_getElem (show l.length - 1 - i < l.length by omega)), List.getElem_reverse]
theorem sup_at {S : Pt → Prop} : ∀ (st : List Pt), Sup S st → ∀ i, i + 1 < st.length → leP (fromP st (i + 1)) (fromP st i) ∧ ∀ z, S z → 0 ≤ triP (fromP st (i + 1)) (fromP st i) z
  | [], _, i, hi => by simp at hi
  | [_], _, i, hi => by simp at hi
  | b :: a :: l, h, 0, _ => ⟨h.1, h.2.1⟩
  | b :: a :: l, h, i + 1, hi => sup_at (a :: l) h.2.2 i (by simpa using hi)
theorem bends_at : ∀ (st : List Pt), Bends st → ∀ i, i + 2 < st.length → 0 < triP (fromP st (i + 2)) (fromP st (i + 1)) (fromP st i)
  | [], _, i, hi => by simp at hi
  | [_], _, i, hi => by simp at hi
  | [_, _], _, i, hi => by simp only [List.length_cons, List.length_nil] at hi; omega
  | c :: b :: a :: l, h, 0, _ => h.1
  | c :: b :: a :: l, h, i + 1, hi => bends_at (b :: a :: l) h.2 i (by simpa using hi)
theorem from_mem' {l : List Pt} {i : Nat} (h : i < l.length) : fromP l i ∈ l := by
  rw [fromP_of (List.getElem?_eq_getElem h)]
  exact List.getElem_mem h
theorem Way.chain {xs : List Pt} {f : Pt} {st : List Pt} (h : Way xs f st) : Chain (fun z => z ∈ xs) st.reverse ∧ (∀ i, i + 1 < st.length → leP (fromP st.reverse i) (fromP st.reverse (i + 1))) := by
  have e1 : ∀ i, i + 1 < st.length → fromP st.reverse i = fromP st (st.length - 2 - i + 1) := fun i hi => by
    rw [fromP_rev (by omega)]; congr 1; omega
  have e2 : ∀ i, i + 1 < st.length → fromP st.reverse (i + 1) = fromP st (st.length - 2 - i) := fun i hi => by
    rw [fromP_rev (by omega)]; congr 1; omega
  refine ⟨⟨fun i hi z hz => ?_, fun i hi => ?_, fun i hi => ?_⟩, fun i hi => ?_⟩
  · rw [List.length_reverse] at hi
    rw [e1 i hi, e2 i hi]
    exact (sup_at st h.sup _ (by omega)).2 z hz
  · rw [List.length_reverse] at hi
    have := bends_at st h.bends (st.length - 3 - i) (by omega)
    rw [fromP_rev (by omega), fromP_rev (by omega), fromP_rev (by omega)]
    rwa [show st.length - 1 - i = st.length - 3 - i + 2 by omega, show st.length - 1 - (i + 1) = st.length - 3 - i + 1 by omega, show st.length - 1 - (i + 2) = st.length - 3 - i by omega]
  · rw [List.length_reverse] at hi
    rw [fromP_rev hi]
    exact h.mem _ (from_mem' (by omega))
  · rw [e1 i hi, e2 i hi]
    exact (sup_at st h.sup _ (by omega)).1
/-- the ends of a way -/
theorem Way.ends {xs : List Pt} {f : Pt} {st : List Pt} (h : Way xs f st) : 1 ≤ st.length ∧ fromP st.reverse 0 = f ∧ ∀ z ∈ xs, leP z (fromP st.reverse (st.length - 1)) := by
  obtain ⟨b, l, rfl, ht⟩ := h.top
  refine ⟨by simp, ?_, fun z hz => ?_⟩
  · have hl := h.last
    rw [fromP_rev (by simp)]
    rw [List.getLast?_eq_getElem?] at hl
    exact fromP_of hl
  · rw [fromP_rev (by simp), Nat.sub_self]
    exact ht z hz
/-- three points on one line -/
def FlatS (S : Pt → Prop) : Prop := ∀ a b c, S a → S b → S c → triP a b c = 0
end Go.Proofs.Ytnpebfchojalcaa

namespace Go.Proofs.Ytnpebfchojalcaa
theorem down_sink {a b : Pt} (h : lowP b a) : sinksB (b.1 - a.1) (b.2 - a.2) = true := by
  unfold lowP at h
  unfold sinksB
  simp only [Bool.or_eq_true, Bool.and_eq_true, decide_eq_true_eq]
  omega
end Go.Proofs.Ytnpebfchojalcaa

namespace Go.Proofs.Ytnpebfchojalcaa
/-- the polygon around sorted points -/
def hullP (s : List Pt) : List Pt := (bendS s).reverse.dropLast ++ (bendS s.reverse).reverse.dropLast
end Go.Proofs.Ytnpebfchojalcaa

namespace Go.Proofs.Ytnpebfchojalcaa
/-- three directions that a convex corner can't have -/
theorem wedge1 {s a b : Pt} (hs : s ≠ (0, 0)) (ha : a ≠ (0, 0)) (hb : b ≠ (0, 0)) (h1 : ltA s a) (h2 : ltA a b) (c1 : 0 ≤ crossP s b) (c2 : 0 ≤ crossP a s) : False := by
  have key : sinksB s.1 s.2 = false ∧ sinksB a.1 a.2 = true := by
    rcases h1 with h | ⟨_, h⟩
    · exact h
    · have h : 0 < crossP s a := h
      have := cross_anti s a
      omega
  have kb : sinksB b.1 b.2 = true := lt_down h2 key.2
  have na : sinksB (negP a).1 (negP a).2 = false := by rw [sinks_neg ha, key.2]; rfl
  have nb : sinksB (negP b).1 (negP b).2 = false := by rw [sinks_neg hb, kb]; rfl
  have t1 : ¬ ltA (negP a) s := by
    rintro (⟨_, h⟩ | ⟨_, h⟩)
    · rw [key.1] at h; cases h
    · have h : 0 < crossP (negP a) s := h
      have e := cross_anti s (negP a)
      have e2 := cross_neg2 s a
      have e3 := cross_anti a s
      omega
  have t2 : ltA (negP a) (negP b) := .inr ⟨by rw [na, nb], by
    have := lt_cross h2 (by rw [key.2, kb])
    show 0 < crossP (negP a) (negP b)
    rw [crossP_neg]; exact this⟩
  rcases lt_left hs (neg_ne ha) (neg_ne hb) t1 t2 with ⟨_, h⟩ | ⟨_, h⟩
  · rw [nb] at h; cases h
  · have h : 0 < crossP s (negP b) := h
    rw [cross_neg2] at h
    omega
theorem wedge2 {s a b : Pt} (hs : s ≠ (0, 0)) (ha : a ≠ (0, 0)) (hb : b ≠ (0, 0)) (h1 : ltA a b) (h2 : ltA b s) (c1 : 0 ≤ crossP s b) (c2 : 0 ≤ crossP a s) : False := by
  have key : sinksB b.1 b.2 = false ∧ sinksB s.1 s.2 = true := by
    rcases h2 with h | ⟨_, h⟩
    · exact h
    · have h : 0 < crossP b s := h
      have := cross_anti b s
      omega
  have ka : sinksB a.1 a.2 = false := lt_up h1 key.1
  have ns : sinksB (negP s).1 (negP s).2 = false := by rw [sinks_neg hs, key.2]; rfl
  have t1 : ¬ ltA a (negP s) := by
    rintro (⟨_, h⟩ | ⟨_, h⟩)
    · rw [ns] at h; cases h
    · have h : 0 < crossP a (negP s) := h
      rw [cross_neg2] at h
      omega
  rcases lt_left (neg_ne hs) ha hb t1 h1 with ⟨_, h⟩ | ⟨_, h⟩
  · rw [key.1] at h; cases h
  · have h : 0 < crossP (negP s) b := h
    have e := cross_anti b (negP s)
    have e2 := cross_neg2 b s
    have e3 := cross_anti s b
    omega
theorem wedge3 {s a b : Pt} (h1 : ltA b s) (h2 : ltA s a) (c1 : 0 ≤ crossP s b) (c2 : 0 ≤ crossP a s) : False := by
  have key : sinksB s.1 s.2 = true := by
    rcases h1 with h | ⟨_, h⟩
    · exact h.2
    · have h : 0 < crossP b s := h
      have := cross_anti b s
      omega
  have ka := lt_down h2 key
  have := lt_cross h2 (by rw [key, ka])
  have := cross_anti s a
  omega
theorem tri_side (ps : List Pt) (z : Pt) (k : Nat) : triP (fromP ps k) (toP ps k) z = sideK ps z.1 z.2 k := by
  unfold triP sideK stepP crossZ; rfl
theorem prev_to {ps : List Pt} {j : Nat} (hj : j < ps.length) : toP ps (prevI ps.length j) = fromP ps j := by
  rw [to_from]
  congr 1
  unfold prevI
  split
  · rename_i h
    rw [h, show ps.length - 1 + 1 = ps.length by omega, Nat.mod_self]
  · rw [show j - 1 + 1 = j by omega, Nat.mod_eq_of_lt hj]
/-- every vertex but the two ends of an edge is to its left -/
theorem Around.strict_left {ps : List Pt} (h : Around ps) {k j : Nat} (hk : k < ps.length) (hj : j < ps.length) (h1 : j ≠ k) (h2 : j ≠ (k + 1) % ps.length) : 0 < sideK ps (fromP ps j).1 (fromP ps j).2 k := by
  rcases Int.lt_or_eq_of_le (h.left hk hj) with g | g
  · exact g
  · exfalso
    have h3 := h.three
    have hn : (j + 1) % ps.length < ps.length := Nat.mod_lt _ (by omega)
    have n1 := h.left hk hn
    have hp : prevI ps.length j < ps.length := by unfold prevI; split <;> omega
    have p1 := h.left hk hp
    have pt := prev_to hj
    have z0 := h.ne0 hk
    have z1 := h.ne0 hj
    have z2 := h.ne0 hp
    have cb : 0 ≤ crossP (stepP ps k) (stepP ps j) := by
      have e : crossP (stepP ps k) (stepP ps j) = sideK ps (fromP ps ((j + 1) % ps.length)).1 (fromP ps ((j + 1) % ps.length)).2 k - sideK ps (fromP ps j).1 (fromP ps j).2 k := by
        rw [← to_from]
        show crossZ _ _ ((toP ps j).1 - (fromP ps j).1) ((toP ps j).2 - (fromP ps j).2) = _
        unfold sideK crossZ
        grind
      omega
    have ca : 0 ≤ crossP (stepP ps (prevI ps.length j)) (stepP ps k) := by
      have e : crossP (stepP ps (prevI ps.length j)) (stepP ps k) = sideK ps (fromP ps (prevI ps.length j)).1 (fromP ps (prevI ps.length j)).2 k - sideK ps (fromP ps j).1 (fromP ps j).2 k := by
        rw [← pt]
        generalize prevI ps.length j = i
        show crossZ ((toP ps i).1 - (fromP ps i).1) ((toP ps i).2 - (fromP ps i).2) _ _ = _
        unfold sideK crossZ
        grind
      omega
    have lt : ∀ i m, i < m → m < ps.length → ltA (stepP ps i) (stepP ps m) := fun i m him hm => by
      have := pair_lt h.strict him (by rw [stepsOf_length]; exact hm)
      rwa [from_steps (by omega), from_steps hm] at this
    by_cases hj0 : j = 0
    · have ep : prevI ps.length j = ps.length - 1 := by unfold prevI; rw [if_pos hj0]
      rw [ep] at ca z2
      have : k ≠ ps.length - 1 := fun e => h2 (by rw [e, hj0, show ps.length - 1 + 1 = ps.length by omega, Nat.mod_self])
      exact wedge3 (lt j k (by omega) hk) (lt k (ps.length - 1) (by omega) (by omega)) cb ca
    · have ep : prevI ps.length j = j - 1 := by unfold prevI; rw [if_neg hj0]
      rw [ep] at ca z2
      have : k ≠ j - 1 := fun e => h2 (by rw [e, show j - 1 + 1 = j by omega, Nat.mod_eq_of_lt hj])
      rcases Nat.lt_or_ge k (j - 1) with g | g
      · exact wedge1 z0 z2 z1 (lt k (j - 1) g (by omega)) (lt (j - 1) j (by omega) hj) cb ca
      · exact wedge2 z0 z2 z1 (lt (j - 1) j (by omega) hj) (lt j k (by omega) hk) cb ca
/-- a point lower than the lowest vertex isn't to the left of all edges -/
theorem low_out {a b v : Pt} (hb0 : b ≠ (0, 0)) (ha0 : a ≠ (0, 0)) (hv0 : v ≠ (0, 0)) (hb : sinksB b.1 b.2 = false) (ha : sinksB a.1 a.2 = true) (hv : sinksB v.1 v.2 = true) (c : 0 < crossP a b) (h1 : 0 ≤ crossP b v) (h2 : 0 ≤ crossP a v) : False := by
  have na : sinksB (negP a).1 (negP a).2 = false := by rw [sinks_neg ha0, ha]; rfl
  have nv : sinksB (negP v).1 (negP v).2 = false := by rw [sinks_neg hv0, hv]; rfl
  have t1 : ¬ ltA b (negP v) := by
    rintro (⟨_, h⟩ | ⟨_, h⟩)
    · rw [nv] at h; cases h
    · have h : 0 < crossP b (negP v) := h
      rw [cross_neg2] at h
      omega
  have t2 : ltA b (negP a) := .inr ⟨by rw [na, hb], by
    show 0 < crossP b (negP a)
    rw [cross_neg2]
    have := cross_anti a b
    omega⟩
  rcases lt_left (neg_ne hv0) hb0 (neg_ne ha0) t1 t2 with ⟨_, h⟩ | ⟨_, h⟩
  · rw [na] at h; cases h
  · have h : 0 < crossP (negP v) (negP a) := h
    rw [crossP_neg] at h
    have := cross_anti a v
    omega
end Go.Proofs.Ytnpebfchojalcaa

namespace Go.Proofs.Ytnpebfchojalcaa
def gP (a : Pt) : Int := (Int.gcd a.1 a.2 : Nat)
namespace Around
variable {ps : List Pt}
theorem nxt (_ : Around ps) {i : Nat} (hi : i + 1 < ps.length) : toP ps i = fromP ps (i + 1) := by rw [to_from, Nat.mod_eq_of_lt hi]
theorem last (h : Around ps) : toP ps (ps.length - 1) = fromP ps 0 := by
  have := h.three
  rw [to_from, show ps.length - 1 + 1 = ps.length by omega, Nat.mod_self]
/-- the first vertex is the lowest -/
theorem lowest (h : Around ps) {j : Nat} (h0 : 0 < j) (hj : j < ps.length) : lowP (fromP ps 0) (fromP ps j) := by
  obtain ⟨u, u1, un, hu, _⟩ := h.top
  have up : ∀ i, i < u → lowP (fromP ps i) (toP ps i) := fun i hiu => h.rise (by omega) (by
    cases hs : sinksB (stepP ps i).1 (stepP ps i).2 with
    | false => rfl
    | true => have := (hu i (by omega)).1 hs; omega)
  have down : ∀ i, i < ps.length → u ≤ i → lowP (toP ps i) (fromP ps i) := fun i hi hiu => h.sink hi ((hu i hi).2 hiu)
  by_cases g : j ≤ u
  · have key : ∀ d, d < u → lowP (fromP ps 0) (fromP ps (d + 1)) := by
      intro d
      induction d with
      | zero =>
        intro _
        have := up 0 (by omega)
        rwa [h.nxt (by omega)] at this
      | succ d ih =>
        intro hd
        have := up (d + 1) (by omega)
        rw [h.nxt (by omega)] at this
        exact low_trans (ih (by omega)) this
    have := key (j - 1) (by omega)
    rwa [show j - 1 + 1 = j by omega] at this
  · have key : ∀ d, u ≤ ps.length - 1 - d → lowP (fromP ps 0) (fromP ps (ps.length - 1 - d)) := by
      intro d
      induction d with
      | zero =>
        intro _
        have := down (ps.length - 1) (by omega) (by omega)
        rwa [h.last] at this
      | succ d ih =>
        intro hd
        have := down (ps.length - 1 - (d + 1)) (by omega) hd
        rw [h.nxt (by omega), show ps.length - 1 - (d + 1) + 1 = ps.length - 1 - d by omega] at this
        exact low_trans (ih (by omega)) this
    have := key (ps.length - 1 - j) (by omega)
    rwa [show ps.length - 1 - (ps.length - 1 - j) = j by omega] at this
end Around
/-- a vertex seen from the first one -/
def rayP (ps : List Pt) (k : Nat) : Pt := ((fromP ps k).1 - (fromP ps 0).1, (fromP ps k).2 - (fromP ps 0).2)
def fanK (ps : List Pt) (k : Nat) : Int := sideK ps (fromP ps 0).1 (fromP ps 0).2 k
namespace Around
variable {ps : List Pt}
end Around
/-- the parity of a lattice length -/
def qP (a : Pt) : Int := a.1 + a.2 + a.1 * a.2
end Go.Proofs.Ytnpebfchojalcaa

namespace Go.Proofs.Ytnpebfchojalcaa
/-- a polygon as the chapter says it: the first vertex is the lowest one, and all vertices are to the left of all edges -/
structure RefP (ps : List Pt) : Prop where
  three : 3 ≤ ps.length
  low : ∀ i, 0 < i → i < ps.length → lowP (fromP ps 0) (fromP ps i)
  left : ∀ i k, i < ps.length → k < ps.length → k ≠ i → k ≠ (i + 1) % ps.length → 0 < sideK ps (fromP ps k).1 (fromP ps k).2 i
theorem Around.refP {ps : List Pt} (h : Around ps) : RefP ps := ⟨h.three, fun _ h0 hj => h.lowest h0 hj, fun _ _ hi hk h1 h2 => h.strict_left hi hk h1 h2⟩
theorem side_prev {ps : List Pt} {i : Nat} (hi : i < ps.length) : sideK ps (toP ps i).1 (toP ps i).2 (prevI ps.length i) = crossP (stepP ps (prevI ps.length i)) (stepP ps i) := by
  have e := prev_to hi
  unfold sideK crossP crossZ
  rw [show (stepP ps i) = ((toP ps i).1 - (fromP ps i).1, (toP ps i).2 - (fromP ps i).2) from rfl]
  rw [show (stepP ps (prevI ps.length i)) = ((fromP ps i).1 - (fromP ps (prevI ps.length i)).1, (fromP ps i).2 - (fromP ps (prevI ps.length i)).2) by unfold stepP; rw [e]]
  simp only
  grind
theorem RefP.around {ps : List Pt} (h : RefP ps) : Around ps := by
  have h3 := h.three
  have turn : ∀ i, i < ps.length → 0 < crossP (stepP ps (prevI ps.length i)) (stepP ps i) := fun i hi => by
    rw [← side_prev hi, to_from]
    have hm : (i + 1) % ps.length < ps.length := Nat.mod_lt _ (by omega)
    have hp : prevI ps.length i < ps.length := by unfold prevI; split <;> omega
    refine h.left _ _ hp hm ?_ ?_
    · unfold prevI
      by_cases e : i + 1 < ps.length
      · rw [Nat.mod_eq_of_lt e]; split <;> omega
      · rw [show i + 1 = ps.length by omega, Nat.mod_self]; split <;> omega
    · have : (prevI ps.length i + 1) % ps.length = i := by
        unfold prevI
        split
        · subst_vars
          rw [show ps.length - 1 + 1 = ps.length by omega, Nat.mod_self]
        · rw [show i - 1 + 1 = i by omega, Nat.mod_eq_of_lt hi]
      rw [this]
      by_cases e : i + 1 < ps.length
      · rw [Nat.mod_eq_of_lt e]; omega
      · rw [show i + 1 = ps.length by omega, Nat.mod_self]; omega
  have ne0 : ∀ i, i < ps.length → stepP ps i ≠ (0, 0) := fun i hi e => by
    have := turn i hi
    rw [e] at this
    simp [crossP, crossZ] at this
  refine ⟨h3, turn, fun i hi hlt => ?_⟩
  have ht := turn (i + 1) hi
  have hpi : prevI ps.length (i + 1) = i := by unfold prevI; rw [if_neg (by omega)]; omega
  rw [hpi] at ht
  rcases hlt with ⟨h1, h2⟩ | ⟨_, h2⟩
  · -- the step i sinks, the next one does not
    have hlow := h.low (i + 1) (by omega) hi
    obtain ⟨v, hv⟩ : ∃ v : Pt, v = ((fromP ps 0).1 - (fromP ps (i + 1)).1, (fromP ps 0).2 - (fromP ps (i + 1)).2) := ⟨_, rfl⟩
    have hv0 : v ≠ (0, 0) := fun e => by
      rw [hv] at e
      injection e with e1 e2
      unfold lowP at hlow
      omega
    have hvs : sinksB v.1 v.2 = true := by
      rw [hv]
      unfold sinksB lowP at *
      simp only [Bool.or_eq_true, Bool.and_eq_true, decide_eq_true_iff]
      omega
    have eto : toP ps i = fromP ps (i + 1) := by rw [to_from, Nat.mod_eq_of_lt hi]
    have hb : 0 ≤ crossP (stepP ps (i + 1)) v := by
      have e : crossP (stepP ps (i + 1)) v = sideK ps (fromP ps 0).1 (fromP ps 0).2 (i + 1) := by rw [hv]; rfl
      rw [e]
      by_cases hc : 0 = (i + 1 + 1) % ps.length
      · have e2 : toP ps (i + 1) = fromP ps 0 := by rw [to_from, ← hc]
        unfold sideK stepP crossZ
        rw [e2]
        simp only
        grind
      · exact Int.le_of_lt (h.left (i + 1) 0 hi (by omega) (by omega) hc)
    have ha : 0 ≤ crossP (stepP ps i) v := by
      have e : crossP (stepP ps i) v = sideK ps (fromP ps 0).1 (fromP ps 0).2 i := by
        rw [hv]
        unfold crossP sideK stepP crossZ
        rw [eto]
        simp only
        grind
      rw [e]
      by_cases hc : 0 = i
      · subst hc
        unfold sideK crossZ
        grind
      · exact Int.le_of_lt (h.left i 0 (by omega) (by omega) hc (by rw [Nat.mod_eq_of_lt hi]; omega))
    exact low_out (ne0 _ hi) (ne0 _ (by omega)) hv0 h1 h2 hvs ht hb ha
  · -- both are on one side, but the turn is to the left
    unfold crossP crossZ at ht
    unfold crossZ at h2
    have e1 : (stepP ps (i + 1)).1 * (stepP ps i).2 = (stepP ps i).2 * (stepP ps (i + 1)).1 := Int.mul_comm _ _
    have e2 : (stepP ps (i + 1)).2 * (stepP ps i).1 = (stepP ps i).1 * (stepP ps (i + 1)).2 := Int.mul_comm _ _
    omega
end Go.Proofs.Ytnpebfchojalcaa

namespace Go.Proofs.Ytnpebfchojalcaa
/-! sums of floors, and how many multiples there are -/
theorem div_is {x n q : Int} (hn : 0 < n) (h1 : n * q ≤ x) (h2 : x < n * q + n) : x / n = q := by
  have a : q ≤ x / n := (Int.le_ediv_iff_mul_le hn).2 (by rw [Int.mul_comm]; exact h1)
  have b : x / n < q + 1 := (Int.ediv_lt_iff_lt_mul hn).2 (by rw [Int.mul_comm, Int.mul_add]; omega)
  omega
theorem div_lo (x : Int) {n : Int} (hn : 0 < n) : n * (x / n) ≤ x := Int.mul_ediv_self_le (by omega)
theorem div_hi (x : Int) {n : Int} (hn : 0 < n) : x < n * (x / n) + n := Int.lt_mul_ediv_self_add hn
/-- a floor and that of the opposite number -/
theorem div_neg {x n : Int} (hn : 0 < n) : x / n + (-x) / n = (if n ∣ x then 1 else 0) - 1 := by
  by_cases hd : n ∣ x
  · rw [if_pos hd]
    obtain ⟨q, rfl⟩ := hd
    have e1 : n * q / n = q := Int.mul_ediv_cancel_left q (by omega)
    have e2 : -(n * q) / n = -q := by rw [← Int.mul_neg]; exact Int.mul_ediv_cancel_left _ (by omega)
    omega
  · rw [if_neg hd]
    have a := div_lo x hn
    have b := div_hi x hn
    have c : n * (x / n) ≠ x := fun e => hd ⟨_, e.symm⟩
    have e2 : (-x) / n = -(x / n) - 1 := by
      refine div_is hn ?_ ?_
      · rw [Int.mul_sub, Int.mul_neg]; omega
      · rw [Int.mul_sub, Int.mul_neg]; omega
    omega
theorem div_less {x n : Int} (hn : 0 < n) : (x - 1) / n = -((-x) / n) - 1 := by
  have a := div_lo (-x) hn
  have b := div_hi (-x) hn
  refine div_is hn ?_ ?_
  · rw [Int.mul_sub, Int.mul_neg]; omega
  · rw [Int.mul_sub, Int.mul_neg]; omega
theorem sumTo_zero (n : Nat) : sumTo (fun _ => 0) n = 0 := by
  induction n with
  | zero => rfl
  | succ n ih => simp only [sumTo, ih]; rfl
theorem sumTo_const (c : Int) (n : Nat) : sumTo (fun _ => c) n = n * c := by
  induction n with
  | zero => simp [sumTo]
  | succ n ih => simp only [sumTo, ih]; rw [Int.natCast_succ, Int.add_mul]; omega
theorem sumTo_sub {f g : Nat → Int} (n : Nat) : sumTo (fun k => f k - g k) n = sumTo f n - sumTo g n := by
  induction n with
  | zero => rfl
  | succ n ih => simp only [sumTo, ih]; omega
theorem sumTo_one (f : Nat → Int) : sumTo f 1 = f 0 := by simp [sumTo]
theorem sumTo_first (f : Nat → Int) (n : Nat) : sumTo f (n + 1) = f 0 + sumTo (fun k => f (k + 1)) n := by
  rw [Nat.add_comm, sumTo_split, sumTo_one]
  congr 1
  exact sumTo_congr _ fun k _ => by rw [Nat.add_comm]
theorem sumTo_back (f : Nat → Int) : ∀ n, sumTo (fun k => f (n - 1 - k)) n = sumTo f n := by
  intro n
  induction n with
  | zero => rfl
  | succ n ih =>
    rw [sumTo_first, show sumTo f (n + 1) = sumTo f n + f n from rfl, ← ih]
    have : sumTo (fun k => f (n + 1 - 1 - (k + 1))) n = sumTo (fun k => f (n - 1 - k)) n := sumTo_congr _ fun k _ => by congr 1; omega
    rw [this, show n + 1 - 1 - 0 = n by omega]
    omega
theorem sumTo_single {f : Nat → Int} {n k0 : Nat} (hk : k0 < n) (h : ∀ k, k < n → k ≠ k0 → f k = 0) : sumTo f n = f k0 := by
  have e : n = k0 + (1 + (n - k0 - 1)) := by omega
  rw [e, sumTo_split, sumTo_split, sumTo_one]
  have a : sumTo f k0 = 0 := by
    rw [sumTo_congr (g := fun _ => 0) _ fun k h' => h k (by omega) (by omega)]
    exact sumTo_zero _
  have b : sumTo (fun k => f (k0 + (1 + k))) (n - k0 - 1) = 0 := by
    rw [sumTo_congr (g := fun _ => 0) _ fun k h' => h (k0 + (1 + k)) (by omega) (by omega)]
    exact sumTo_zero _
  rw [a, b]
  simp
theorem sumTo_swap (f : Nat → Nat → Int) (n : Nat) : ∀ m, sumTo (fun i => sumTo (f i) n) m = sumTo (fun k => sumTo (fun i => f i k) m) n := by
  intro m
  induction m with
  | zero => exact (sumTo_zero n).symm
  | succ m ih =>
    simp only [sumTo]
    rw [ih, ← sumTo_add]
/-- a function that is zero but for some places in a row -/
theorem sumTo_part (f : Nat → Int) {a b n : Nat} (hab : a ≤ b) (hb : b ≤ n) : sumTo (fun i => if a ≤ i ∧ i < b then f i else 0) n = sumTo (fun j => f (a + j)) (b - a) := by
  have e : n = a + ((b - a) + (n - b)) := by omega
  rw [e, sumTo_split, sumTo_split]
  have z1 : sumTo (fun i => if a ≤ i ∧ i < b then f i else 0) a = 0 := by
    rw [sumTo_congr (g := fun _ => 0) _ fun k h' => if_neg (by omega)]
    exact sumTo_zero _
  have z2 : sumTo (fun k => (fun i => if a ≤ i ∧ i < b then f i else 0) (a + ((b - a) + k))) (n - b) = 0 := by
    rw [sumTo_congr (g := fun _ => 0) _ fun k h' => if_neg (by omega)]
    exact sumTo_zero _
  have z3 : sumTo (fun k => (fun i => if a ≤ i ∧ i < b then f i else 0) (a + k)) (b - a) = sumTo (fun j => f (a + j)) (b - a) := sumTo_congr _ fun k h' => if_pos (by omega)
  rw [z1, z2, z3]
  omega
theorem mult_count {d : Nat} (hd : 0 < d) : ∀ g : Nat, sumTo (fun j => if d ∣ j then 1 else 0) (g * d) = g := by
  intro g
  induction g with
  | zero => rw [Nat.zero_mul]; rfl
  | succ g ih =>
    rw [Nat.succ_mul, sumTo_split, ih]
    have : sumTo (fun k => if d ∣ g * d + k then 1 else 0) d = (if d ∣ g * d + 0 then 1 else 0) := sumTo_single (f := fun k => if d ∣ g * d + k then 1 else 0) hd fun k hk h0 => if_neg fun h => by
      have := (Nat.dvd_add_right (Nat.dvd_mul_left d g)).1 h
      have := Nat.le_of_dvd (by omega) this
      omega
    rw [this, if_pos (by rw [Nat.add_zero]; exact Nat.dvd_mul_left d g)]
    omega
/-- how many multiples of m up to n times it are multiples of n -/
theorem dvd_count (m : Int) {n : Nat} (hn : 0 < n) : sumTo (fun j => if (n : Int) ∣ (j : Int) * m then 1 else 0) n = (Int.gcd m n : Nat) := by
  have hg : 0 < Nat.gcd m.natAbs n := Nat.gcd_pos_of_pos_right _ hn
  obtain ⟨d, hd⟩ := Nat.gcd_dvd_right m.natAbs n
  obtain ⟨a, ha⟩ := Nat.gcd_dvd_left m.natAbs n
  have eg : Int.gcd m n = Nat.gcd m.natAbs n := rfl
  rw [eg]
  have hcop : Nat.gcd a d = 1 := by
    have := Nat.gcd_mul_left (Nat.gcd m.natAbs n) a d
    rw [← ha, ← hd] at this
    exact Nat.eq_of_mul_eq_mul_left hg (by rw [Nat.mul_one]; exact this.symm)
  generalize Nat.gcd m.natAbs n = g at *
  have hd0 : 0 < d := by
    rcases Nat.eq_zero_or_pos d with h | h
    · rw [h] at hd; omega
    · exact h
  have key : ∀ j : Nat, ((n : Int) ∣ (j : Int) * m) ↔ d ∣ j := fun j => by
    rw [← Int.natAbs_dvd_natAbs, Int.natAbs_mul, Int.natAbs_natCast, Int.natAbs_natCast, ha, hd]
    rw [show j * (g * a) = g * (j * a) by rw [Nat.mul_left_comm]]
    constructor
    · intro h
      have := Nat.dvd_of_mul_dvd_mul_left hg h
      exact Nat.Coprime.dvd_of_dvd_mul_right (by rw [Nat.Coprime, Nat.gcd_comm]; exact hcop) this
    · intro h
      exact Nat.mul_dvd_mul_left g (Nat.dvd_trans h (Nat.dvd_mul_right j a))
  rw [sumTo_congr (g := fun j => if d ∣ j then 1 else 0) n fun j _ => by
    by_cases h : d ∣ j
    · rw [if_pos h, if_pos ((key j).2 h)]
    · rw [if_neg h, if_neg fun k => h ((key j).1 k)]]
  rw [hd]
  exact mult_count hd0 g
/-- the sum of the floors of the multiples of a fraction -/
theorem floor_sum (m : Int) {n : Nat} (hn : 0 < n) : 2 * sumTo (fun j => ((j : Int) * m) / n) n = m * n - m - n + (Int.gcd m n : Nat) := by
  obtain ⟨p, rfl⟩ : ∃ p, n = p + 1 := ⟨n - 1, by omega⟩
  have h0 : sumTo (fun j => ((j : Int) * m) / ((p + 1 : Nat) : Int)) (p + 1) = sumTo (fun k => (((k + 1 : Nat) : Int) * m) / ((p + 1 : Nat) : Int)) p := by
    rw [sumTo_first]
    simp
  have hc := dvd_count m hn
  rw [sumTo_first] at hc
  simp only [Int.natCast_zero, Int.zero_mul] at hc
  rw [if_pos (Int.dvd_zero _)] at hc
  have hb := sumTo_back (fun k => (((k + 1 : Nat) : Int) * m) / ((p + 1 : Nat) : Int)) p
  have hp : sumTo (fun k => (((k + 1 : Nat) : Int) * m) / ((p + 1 : Nat) : Int) + (((p - 1 - k + 1 : Nat) : Int) * m) / ((p + 1 : Nat) : Int)) p =
      sumTo (fun k => (m - 1) + (if ((p + 1 : Nat) : Int) ∣ ((k + 1 : Nat) : Int) * m then 1 else 0)) p := sumTo_congr _ fun k hk => by
    have hn' : (0 : Int) < ((p + 1 : Nat) : Int) := by omega
    have e : ((p - 1 - k + 1 : Nat) : Int) * m = ((p + 1 : Nat) : Int) * m + -(((k + 1 : Nat) : Int) * m) := by
      rw [← Int.neg_mul, ← Int.add_mul]
      congr 1
      omega
    rw [e, Int.add_comm (((p + 1 : Nat) : Int) * m), Int.add_mul_ediv_left _ _ (by omega)]
    have := div_neg (x := ((k + 1 : Nat) : Int) * m) hn'
    omega
  rw [sumTo_add, hb, sumTo_add, sumTo_const] at hp
  rw [h0]
  have e : m * ((p + 1 : Nat) : Int) = m * p + m := by rw [Int.natCast_succ, Int.mul_add, Int.mul_one]
  have e2 : (p : Int) * (m - 1) = m * p - p := by rw [Int.mul_sub, Int.mul_one, Int.mul_comm]
  rw [e]
  rw [e2] at hp
  have e3 : ((p + 1 : Nat) : Int) = p + 1 := by omega
  omega
/-- and if each is a little less -/
theorem floor_less (m : Int) {n : Nat} (hn : 0 < n) : 2 * sumTo (fun j => ((j : Int) * m - 1) / n) n = m * n - m - n - (Int.gcd m n : Nat) := by
  have h := floor_sum (-m) hn
  have hn' : (0 : Int) < (n : Int) := by omega
  rw [sumTo_congr (g := fun j => -1 - ((j : Int) * -m) / n) n fun j _ => by rw [div_less hn', Int.mul_neg]; omega]
  rw [sumTo_sub, sumTo_const]
  rw [Int.neg_gcd, Int.neg_mul] at h
  omega
/-- both at once -/
def signS (s : Int) : Int := 1 - 2 * s
theorem floor_both (m : Int) {n : Nat} (hn : 0 < n) {s : Int} (hs : s = 0 ∨ s = 1) : 2 * sumTo (fun j => ((j : Int) * m - s) / n) n = m * n - m - n + signS s * (Int.gcd m n : Nat) := by
  rcases hs with rfl | rfl
  · have := floor_sum m hn
    simp only [Int.sub_zero]
    unfold signS
    omega
  · have := floor_less m hn
    unfold signS
    omega
end Go.Proofs.Ytnpebfchojalcaa

namespace Go.Proofs.Ytnpebfchojalcaa
/-! the rows of a polygon, edge by edge -/
theorem edge_up {dx dy xk yk s y0 : Int} {H : Nat} (hd : 0 < dy) (h0 : y0 ≤ yk) (h1 : yk + dy ≤ y0 + H) (hs : s = 0 ∨ s = 1) :
    2 * sumTo (fun i => if yk ≤ y0 + (i : Int) ∧ y0 + (i : Int) < yk + dy then (dx * (y0 + (i : Int) - yk) + dy * xk - s) / dy else 0) H = 2 * (dy * xk) + dx * dy - dx - dy + signS s * (Int.gcd dx dy : Nat) := by
  obtain ⟨n, rfl⟩ : ∃ n : Nat, dy = n := ⟨dy.toNat, by omega⟩
  obtain ⟨a, rfl⟩ : ∃ a : Nat, yk = y0 + a := ⟨(yk - y0).toNat, by omega⟩
  have hn : 0 < n := by omega
  rw [sumTo_congr (g := fun i => if a ≤ i ∧ i < a + n then (dx * (y0 + (i : Int) - (y0 + a)) + n * xk - s) / n else 0) H fun i _ => by
    by_cases h : a ≤ i ∧ i < a + n
    · rw [if_pos h, if_pos (by omega)]
    · rw [if_neg h, if_neg (by omega)]]
  rw [sumTo_part (fun i => (dx * (y0 + (i : Int) - (y0 + a)) + n * xk - s) / n) (by omega) (by omega), show a + n - a = n by omega]
  rw [sumTo_congr (g := fun j => xk + ((j : Int) * dx - s) / n) n fun j _ => by
    have e : dx * (y0 + ((a + j : Nat) : Int) - (y0 + a)) + n * xk - s = ((j : Int) * dx - s) + n * xk := by
      rw [show y0 + ((a + j : Nat) : Int) - (y0 + a) = j by omega, Int.mul_comm dx]; omega
    rw [e, Int.add_mul_ediv_left _ _ (by omega)]
    omega]
  rw [sumTo_add, sumTo_const]
  have := floor_both dx hn hs
  omega
theorem edge_down {dx dy xk yk s y0 : Int} {H : Nat} (hd : dy < 0) (h0 : y0 ≤ yk + dy) (h1 : yk ≤ y0 + H) (hs : s = 0 ∨ s = 1) :
    2 * sumTo (fun i => if yk + dy ≤ y0 + (i : Int) ∧ y0 + (i : Int) < yk then (dx * (y0 + (i : Int) - yk) + dy * xk - s) / -dy else 0) H = 2 * (dy * xk) + dx * dy - dx + dy + signS s * (Int.gcd dx dy : Nat) := by
  obtain ⟨n, e⟩ : ∃ n : Nat, -dy = n := ⟨(-dy).toNat, by omega⟩
  obtain rfl : dy = -n := by omega
  obtain ⟨a, e2⟩ : ∃ a : Nat, yk + -n = y0 + a := ⟨(yk + -n - y0).toNat, by omega⟩
  obtain rfl : yk = y0 + a + n := by omega
  have hn : 0 < n := by omega
  rw [sumTo_congr (g := fun i => if a ≤ i ∧ i < a + n then (dx * (y0 + (i : Int) - (y0 + a + n)) + -n * xk - s) / n else 0) H fun i _ => by
    by_cases h : a ≤ i ∧ i < a + n
    · rw [if_pos h, if_pos (by omega), Int.neg_neg]
    · rw [if_neg h, if_neg (by omega)]]
  rw [sumTo_part (fun i => (dx * (y0 + (i : Int) - (y0 + a + n)) + -n * xk - s) / n) (by omega) (by omega), show a + n - a = n by omega]
  rw [sumTo_congr (g := fun j => -(dx + xk) + ((j : Int) * dx - s) / n) n fun j _ => by
    have e : dx * (y0 + ((a + j : Nat) : Int) - (y0 + a + n)) + -n * xk - s = ((j : Int) * dx - s) + n * -(dx + xk) := by
      rw [show y0 + ((a + j : Nat) : Int) - (y0 + a + n) = (j : Int) - n by omega]; grind
    rw [e, Int.add_mul_ediv_left _ _ (by omega)]
    omega]
  rw [sumTo_add, sumTo_const]
  have h := floor_both dx hn hs
  rw [Int.gcd_neg]
  have e3 : 2 * ((n : Int) * -(dx + xk)) = -2 * (n * xk) - 2 * (dx * n) := by grind
  have e4 : -(n : Int) * xk = -(n * xk) := Int.neg_mul ..
  have e5 : dx * -(n : Int) = -(dx * n) := Int.mul_neg ..
  rw [e4, e5]
  omega
/-- where a chain passes a height -/
theorem chain_at (Y : Nat → Int) : ∀ u, (∀ k, k < u → Y k ≤ Y (k + 1)) → ∀ y, Y 0 ≤ y → y < Y u → ∃ k0, k0 < u ∧ (Y k0 ≤ y ∧ y < Y (k0 + 1)) ∧ ∀ k, k < u → k ≠ k0 → ¬ (Y k ≤ y ∧ y < Y (k + 1)) := by
  intro u
  induction u with
  | zero => intro _ y h1 h2; omega
  | succ u ih =>
    intro hm y h1 h2
    by_cases hc : y < Y u
    · obtain ⟨k0, hk, hy, ho⟩ := ih (fun k hk => hm k (by omega)) y h1 hc
      refine ⟨k0, by omega, hy, fun k hk hne => ?_⟩
      by_cases e : k = u
      · subst e; omega
      · exact ho k (by omega) hne
    · have mono : ∀ k, k ≤ u → Y k ≤ Y u := by
        intro k hk
        have : ∀ d, d ≤ u → Y (u - d) ≤ Y u := by
          intro d
          induction d with
          | zero => intro _; exact Int.le_refl _
          | succ d ihd =>
            intro hd
            have a := ihd (by omega)
            have b := hm (u - (d + 1)) (by omega)
            rw [show u - (d + 1) + 1 = u - d by omega] at b
            omega
        have := this (u - k) (by omega)
        rwa [show u - (u - k) = k by omega] at this
      refine ⟨u, by omega, ⟨by omega, h2⟩, fun k hk hne => ?_⟩
      have := mono (k + 1) (by omega)
      omega
theorem chain_dn (Y : Nat → Int) (u : Nat) (hm : ∀ k, k < u → Y (k + 1) ≤ Y k) (y : Int) (h1 : Y u ≤ y) (h2 : y < Y 0) : ∃ k0, k0 < u ∧ (Y (k0 + 1) ≤ y ∧ y < Y k0) ∧ ∀ k, k < u → k ≠ k0 → ¬ (Y (k + 1) ≤ y ∧ y < Y k) := by
  obtain ⟨k0, hk, hy, ho⟩ := chain_at (fun k => -Y k) u (fun k hk => by have := hm k hk; omega) (-y - 1) (by omega) (by omega)
  refine ⟨k0, hk, by omega, fun k hk hne h => ho k hk hne (by omega)⟩
/-- an edge's number in a row: how far to the right, or to the left, the row goes there -/
def restZ (s : Int) (ps : List Pt) (k : Nat) (y : Int) : Int := (stepP ps k).1 * (y - (fromP ps k).2) + (stepP ps k).2 * (fromP ps k).1 - s
def upC (ps : List Pt) (k : Nat) (y : Int) : Prop := (fromP ps k).2 ≤ y ∧ y < (fromP ps k).2 + (stepP ps k).2
def dnC (ps : List Pt) (k : Nat) (y : Int) : Prop := (fromP ps k).2 + (stepP ps k).2 ≤ y ∧ y < (fromP ps k).2
def upZ (s : Int) (ps : List Pt) (k : Nat) (y : Int) : Int := if (fromP ps k).2 ≤ y ∧ y < (fromP ps k).2 + (stepP ps k).2 then restZ s ps k y / (stepP ps k).2 else 0
def dnZ (s : Int) (ps : List Pt) (k : Nat) (y : Int) : Int := if (fromP ps k).2 + (stepP ps k).2 ≤ y ∧ y < (fromP ps k).2 then restZ s ps k y / -(stepP ps k).2 else 0
/-- twice what an edge gives in all rows -/
def tZ (s : Int) (ps : List Pt) (k : Nat) : Int := (2 * (fromP ps k).1 + (stepP ps k).1) * (stepP ps k).2 - (stepP ps k).1 - (if 0 ≤ (stepP ps k).2 then (stepP ps k).2 else -(stepP ps k).2) + signS s * gcdK ps k
theorem to_y (ps : List Pt) (k : Nat) : (toP ps k).2 = (fromP ps k).2 + (stepP ps k).2 := by unfold stepP; simp only; omega
theorem to_x (ps : List Pt) (k : Nat) : (toP ps k).1 = (fromP ps k).1 + (stepP ps k).1 := by unfold stepP; simp only; omega
theorem edge_rows {s : Int} (hs : s = 0 ∨ s = 1) (ps : List Pt) (k : Nat) {y0 : Int} {H : Nat} (h0 : y0 ≤ (fromP ps k).2) (h1 : (fromP ps k).2 ≤ y0 + H) (h2 : y0 ≤ (toP ps k).2) (h3 : (toP ps k).2 ≤ y0 + H) :
    2 * sumTo (fun i => upZ s ps k (y0 + (i : Int)) + dnZ s ps k (y0 + (i : Int))) H = if (stepP ps k).2 = 0 then 0 else tZ s ps k := by
  rw [to_y] at h2 h3
  have eg : gcdK ps k = (Int.gcd (stepP ps k).1 (stepP ps k).2 : Nat) := rfl
  rw [sumTo_add]
  unfold upZ dnZ restZ tZ
  rw [eg]
  generalize (stepP ps k).1 = dx at *
  generalize (stepP ps k).2 = dy at *
  generalize (fromP ps k).1 = xk at *
  generalize (fromP ps k).2 = yk at *
  rcases Int.lt_trichotomy dy 0 with h | h | h
  · rw [if_neg (show ¬ dy = 0 by omega), if_neg (show ¬ 0 ≤ dy by omega)]
    rw [sumTo_congr (f := fun i : Nat => if yk ≤ y0 + (i : Int) ∧ y0 + (i : Int) < yk + dy then (dx * (y0 + (i : Int) - yk) + dy * xk - s) / dy else 0) (g := fun _ => 0) H fun i _ => if_neg (by omega), sumTo_zero]
    have := edge_down (dx := dx) (xk := xk) h h2 h1 hs
    rw [Int.add_mul, Int.mul_assoc, Int.mul_comm xk]
    omega
  · subst h
    rw [if_pos rfl]
    rw [sumTo_congr (f := fun i : Nat => if yk ≤ y0 + (i : Int) ∧ y0 + (i : Int) < yk + 0 then (dx * (y0 + (i : Int) - yk) + 0 * xk - s) / 0 else 0) (g := fun _ => 0) H fun i _ => if_neg (by omega), sumTo_zero]
    rw [sumTo_congr (f := fun i : Nat => if yk + 0 ≤ y0 + (i : Int) ∧ y0 + (i : Int) < yk then (dx * (y0 + (i : Int) - yk) + 0 * xk - s) / -0 else 0) (g := fun _ => 0) H fun i _ => if_neg (by omega), sumTo_zero]
    rfl
  · rw [if_neg (show ¬ dy = 0 by omega), if_pos (show 0 ≤ dy by omega)]
    rw [sumTo_congr (f := fun i : Nat => if yk + dy ≤ y0 + (i : Int) ∧ y0 + (i : Int) < yk then (dx * (y0 + (i : Int) - yk) + dy * xk - s) / -dy else 0) (g := fun _ => 0) H fun i _ => if_neg (by omega), sumTo_zero]
    have := edge_up (dx := dx) (xk := xk) h h0 h3 hs
    rw [Int.add_mul, Int.mul_assoc, Int.mul_comm xk]
    omega
end Go.Proofs.Ytnpebfchojalcaa

namespace Go.Proofs.Ytnpebfchojalcaa
/-- how a polygon goes up to its highest vertex and down again -/
structure Tall (ps : List Pt) (u : Nat) : Prop where
  u1 : 1 ≤ u
  u2 : u < ps.length
  up : ∀ k, k < u → 0 < (stepP ps k).2 ∨ ((stepP ps k).2 = 0 ∧ 0 < (stepP ps k).1 ∧ k = 0)
  dn : ∀ k, u ≤ k → k < ps.length → (stepP ps k).2 < 0 ∨ ((stepP ps k).2 = 0 ∧ (stepP ps k).1 < 0 ∧ k = u)
  top : ∀ j, j < ps.length → (fromP ps j).2 ≤ (fromP ps u).2
  low : ∀ j, j < ps.length → (fromP ps 0).2 ≤ (fromP ps j).2
  high : (fromP ps 0).2 < (fromP ps u).2
theorem Around.tall {ps : List Pt} (h : Around ps) : ∃ u, Tall ps u := by
  obtain ⟨u, u1, u2, hs, ht⟩ := h.top
  have n := h.three
  have up : ∀ k, k < u → 0 < (stepP ps k).2 ∨ ((stepP ps k).2 = 0 ∧ 0 < (stepP ps k).1) := fun k hk => by
    have : sinksB (stepP ps k).1 (stepP ps k).2 = false := by
      cases e : sinksB (stepP ps k).1 (stepP ps k).2 with
      | false => rfl
      | true => have := (hs k (by omega)).1 e; omega
    exact up_of this (h.ne0 (by omega))
  have dn : ∀ k, u ≤ k → k < ps.length → (stepP ps k).2 < 0 ∨ ((stepP ps k).2 = 0 ∧ (stepP ps k).1 < 0) := fun k hk hn => down_of ((hs k hn).2 hk)
  have low : ∀ j, j < ps.length → (fromP ps 0).2 ≤ (fromP ps j).2 := fun j hj => by
    rcases Nat.eq_zero_or_pos j with rfl | h0
    · exact Int.le_refl _
    · have := h.lowest h0 hj
      unfold lowP at this
      omega
  have flat : ∀ k, 0 < k → k < ps.length → (stepP ps k).2 = 0 → 0 < -((stepP ps (k - 1)).2 * (stepP ps k).1) := fun k h0 hk e => by
    have := h.turn k hk
    rw [show prevI ps.length k = k - 1 by unfold prevI; rw [if_neg (by omega)]] at this
    unfold crossP crossZ at this
    rw [e] at this
    omega
  have up' : ∀ k, k < u → 0 < (stepP ps k).2 ∨ ((stepP ps k).2 = 0 ∧ 0 < (stepP ps k).1 ∧ k = 0) := fun k hk => by
    rcases up k hk with g | ⟨g1, g2⟩
    · exact .inl g
    · rcases Nat.eq_zero_or_pos k with h0 | h0
      · exact .inr ⟨g1, g2, h0⟩
      · have f := flat k h0 (by omega) g1
        have : 0 ≤ (stepP ps (k - 1)).2 := by rcases up (k - 1) (by omega) with g | g <;> omega
        have := Int.mul_nonneg this (Int.le_of_lt g2)
        omega
  have dn' : ∀ k, u ≤ k → k < ps.length → (stepP ps k).2 < 0 ∨ ((stepP ps k).2 = 0 ∧ (stepP ps k).1 < 0 ∧ k = u) := fun k hk hn => by
    rcases dn k hk hn with g | ⟨g1, g2⟩
    · exact .inl g
    · by_cases hu : k = u
      · exact .inr ⟨g1, g2, hu⟩
      · have f := flat k (by omega) (by omega) g1
        have : (stepP ps (k - 1)).2 ≤ 0 := by rcases dn (k - 1) (by omega) (by omega) with g | g <;> omega
        have := Int.mul_nonneg_of_nonpos_of_nonpos this (Int.le_of_lt g2)
        omega
  refine ⟨u, u1, u2, up', dn', fun j hj => ?_, low, ?_⟩
  · by_cases e : j = u
    · rw [e]; exact Int.le_refl _
    · have := ht j hj e
      unfold lowP at this
      omega
  · rcases Int.lt_or_eq_of_le (low u u2) with g | g
    · exact g
    · exfalso
      have a := h.nxt (i := 0) (by omega)
      have e1 := to_y ps 0
      rw [a] at e1
      have z : (stepP ps 0).2 = 0 := by
        have : (fromP ps (0 + 1)).2 = (fromP ps 0).2 := by
          have l := low (0 + 1) (by omega)
          by_cases e : 0 + 1 = u
          · rw [e]; exact g.symm
          · have := ht (0 + 1) (by omega) e
            unfold lowP at this
            omega
        omega
      by_cases hu1 : u = 1
      · subst hu1
        have f := h.turn 1 (by omega)
        rw [show prevI ps.length 1 = 0 from rfl] at f
        unfold crossP crossZ at f
        rw [z] at f
        have p : 0 < (stepP ps 0).1 := by rcases up 0 (by omega) with q | q <;> omega
        have q : (stepP ps 1).2 ≤ 0 := by rcases dn 1 (by omega) (by omega) with q | q <;> omega
        have := Int.mul_nonneg (Int.le_of_lt p) (show 0 ≤ -(stepP ps 1).2 by omega)
        rw [Int.mul_neg] at this
        omega
      · have b := h.nxt (i := 1) (by omega)
        have e2 := to_y ps 1
        rw [b] at e2
        have := up' 1 (by omega)
        have q : 0 < (stepP ps 1).2 := by rcases this with q | q <;> omega
        have : (fromP ps (1 + 1)).2 ≤ (fromP ps u).2 := by
          by_cases e : 1 + 1 = u
          · rw [e]; exact Int.le_refl _
          · have := ht (1 + 1) (by omega) e
            unfold lowP at this
            omega
        have e3 : (fromP ps (0 + 1)).2 = (fromP ps 1).2 := rfl
        omega
variable {ps : List Pt} {u : Nat}
/-- the two edges that a row meets -/
theorem Tall.row (h : Around ps) (t : Tall ps u) {y : Int} (h1 : (fromP ps 0).2 ≤ y) (h2 : y < (fromP ps u).2) (s : Int) :
    ∃ k m, k < u ∧ upC ps k y ∧ u ≤ m ∧ m < ps.length ∧ dnC ps m y ∧ sumTo (fun k => upZ s ps k y + dnZ s ps k y) ps.length = restZ s ps k y / (stepP ps k).2 + restZ s ps m y / -(stepP ps m).2 := by
  have n := h.three
  have u2 := t.u2
  have nx : ∀ k, k < u → (fromP ps (k + 1)).2 = (fromP ps k).2 + (stepP ps k).2 := fun k hk => by rw [← to_y, h.nxt (by omega)]
  have nd : ∀ k, u + k < ps.length → (fromP ps ((u + (k + 1)) % ps.length)).2 = (fromP ps (u + k)).2 + (stepP ps (u + k)).2 := fun k hk => by rw [← to_y, to_from]; rfl
  have md : ∀ k, u + k < ps.length → (u + k) % ps.length = u + k := fun k hk => Nat.mod_eq_of_lt hk
  obtain ⟨k, hk, hy, ho⟩ := chain_at (fun k => (fromP ps k).2) u (fun k hk => by rw [nx k hk]; rcases t.up k hk with g | g <;> omega) y h1 h2
  obtain ⟨m, hm, hz, hp⟩ := chain_dn (fun k => (fromP ps ((u + k) % ps.length)).2) (ps.length - u) (fun k hk => by rw [nd k (by omega), md k (by omega)]; rcases t.dn (u + k) (by omega) (by omega) with g | g <;> omega) y
    (by rw [show u + (ps.length - u) = ps.length by omega, Nat.mod_self]; exact h1) (by rw [Nat.add_zero, Nat.mod_eq_of_lt u2]; exact h2)

  rw [nx k hk] at hy
  rw [nd m (by omega), md m (by omega)] at hz
  refine ⟨k, u + m, hk, hy, by omega, by omega, hz, ?_⟩
  rw [sumTo_add]
  have a : sumTo (fun k => upZ s ps k y) ps.length = upZ s ps k y := sumTo_single (f := fun k => upZ s ps k y) (by omega) fun j hj hne => by
    refine if_neg fun hc => ?_
    by_cases g : j < u
    · exact ho j g hne (by rw [nx j g]; exact hc)
    · rcases t.dn j (by omega) hj with q | q <;> omega
  have b : sumTo (fun k => dnZ s ps k y) ps.length = dnZ s ps (u + m) y := sumTo_single (f := fun k => dnZ s ps k y) (by omega) fun j hj hne => by
    refine if_neg fun hc => ?_
    by_cases g : j < u
    · rcases t.up j g with q | q <;> omega
    · have := hp (j - u) (by omega) (by omega)
      rw [nd (j - u) (by omega), md (j - u) (by omega), show u + (j - u) = j by omega] at this
      exact this hc
  rw [a, b]
  unfold upZ dnZ
  rw [if_pos hy, if_pos hz]
/-- a row of an edge that rises, ends included -/
def upD (ps : List Pt) (k : Nat) (y : Int) : Prop := 0 < (stepP ps k).2 ∧ (fromP ps k).2 ≤ y ∧ y ≤ (fromP ps k).2 + (stepP ps k).2
def dnD (ps : List Pt) (k : Nat) (y : Int) : Prop := (stepP ps k).2 < 0 ∧ (fromP ps k).2 + (stepP ps k).2 ≤ y ∧ y ≤ (fromP ps k).2
end Go.Proofs.Ytnpebfchojalcaa

namespace Go.Proofs.Ytnpebfchojalcaa
variable {ps : List Pt} {u : Nat}
/-- on all edges or to their left, by so much -/
def inP (s : Int) (ps : List Pt) (x y : Int) : Prop := ∀ k, k < ps.length → s ≤ sideK ps x y k
instance (s : Int) (ps : List Pt) (x y : Int) : Decidable (inP s ps x y) := by unfold inP; infer_instance
/-- how many points of a row are so -/
def rowN (s : Int) (ps : List Pt) (y : Int) : Int := sumTo (fun i => if inP s ps ((i : Int) - 1000) y then 1 else 0) 2001
def allN (s : Int) (ps : List Pt) : Int := sumTo (fun i => rowN s ps ((i : Int) - 1000)) 2001
/-- no row below the lowest vertex or above the highest one -/
theorem Tall.low_row (h : Around ps) (t : Tall ps u) {x y : Int} (hi : inP 0 ps x y) : ¬ lowP (x, y) (fromP ps 0) := fun hl => by
  have n := h.three
  have s1 := hi 0 (by omega)
  have s2 := hi (ps.length - 1) (by omega)
  have pt : toP ps (ps.length - 1) = fromP ps 0 := h.last
  have e2 : sideK ps x y (ps.length - 1) = triP (fromP ps (ps.length - 1)) (toP ps (ps.length - 1)) (x, y) := (tri_side ps (x, y) _).symm
  rw [e2, tri_move, pt] at s2
  have tr := h.turn 0 (by omega)
  rw [show prevI ps.length 0 = ps.length - 1 from rfl] at tr
  have b0 : sinksB (stepP ps 0).1 (stepP ps 0).2 = false := up_sinks (t.up 0 (by have := t.u1; omega) |>.imp id fun q => ⟨q.1, q.2.1⟩)
  have a1 : sinksB (stepP ps (ps.length - 1)).1 (stepP ps (ps.length - 1)).2 = true := by
    rcases t.dn (ps.length - 1) (by have := t.u2; omega) (by omega) with q | q
    · simp [sinksB]; omega
    · simp [sinksB]; omega
  refine low_out (b := stepP ps 0) (a := stepP ps (ps.length - 1)) (v := (x - (fromP ps 0).1, y - (fromP ps 0).2)) (h.ne0 (by omega)) (h.ne0 (by omega)) (fun e => ?_) b0 a1 (down_sink hl) tr s1 ?_
  · have h1 := congrArg Prod.fst e
    have h2 := congrArg Prod.snd e
    simp only at h1 h2
    unfold lowP at hl
    simp only at hl
    omega
  · show 0 ≤ crossZ ((toP ps (ps.length - 1)).1 - (fromP ps (ps.length - 1)).1) ((toP ps (ps.length - 1)).2 - (fromP ps (ps.length - 1)).2) _ _
    rw [pt]
    exact s2
end Go.Proofs.Ytnpebfchojalcaa

namespace Go.Proofs.Ytnpebfchojalcaa
variable {ps : List Pt} {u : Nat}
def flat0 (ps : List Pt) (k : Nat) : Int := if (stepP ps k).2 = 0 then (stepP ps k).1 else 0
/-- sums around -/
theorem sum_turn (ps : List Pt) (f : Pt → Int) : sumTo (fun k => f (toP ps k) - f (fromP ps k)) ps.length = 0 := by
  rw [sumTo_sub]
  rcases Nat.eq_zero_or_pos ps.length with h | h
  · rw [h]; rfl
  · have := sumTo_turn (fun k => f (fromP ps k)) (n := ps.length) (s := 1) (by omega)
    have e : sumTo (fun k => f (toP ps k)) ps.length = sumTo (fun k => (fun k => f (fromP ps k)) ((k + 1) % ps.length)) ps.length := sumTo_congr _ fun k _ => by rw [to_from]
    rw [e, this]
    omega
theorem sum_height (h : Around ps) : ∀ k, k < ps.length → sumTo (fun k => (stepP ps k).2) k = (fromP ps k).2 - (fromP ps 0).2 := by
  intro k
  induction k with
  | zero => intro _; simp [sumTo]
  | succ k ih =>
    intro hk
    simp only [sumTo]
    rw [ih (by omega)]
    have := to_y ps k
    rw [h.nxt hk] at this
    omega
theorem Tall.sum_abs (h : Around ps) (t : Tall ps u) : sumTo (fun k => if 0 ≤ (stepP ps k).2 then (stepP ps k).2 else -(stepP ps k).2) ps.length = 2 * ((fromP ps u).2 - (fromP ps 0).2) := by
  have u2 := t.u2
  have e : ps.length = u + (ps.length - u) := by omega
  have s0 := (sum_steps ps).2
  have s1 := sum_height h u u2
  rw [e, sumTo_split] at s0
  rw [e, sumTo_split]
  rw [sumTo_congr (g := fun k => (stepP ps k).2) u fun k hk => if_pos (by rcases t.up k hk with q | q <;> omega)]
  rw [sumTo_congr (f := fun k => (fun k => if 0 ≤ (stepP ps k).2 then (stepP ps k).2 else -(stepP ps k).2) (u + k)) (g := fun k => -1 * (stepP ps (u + k)).2) (ps.length - u) fun k hk => by
    rcases t.dn (u + k) (by omega) (by omega) with q | ⟨q, _, _⟩
    · simp only; rw [if_neg (by omega)]; omega
    · simp only; rw [if_pos (by omega)]; omega]
  rw [sumTo_mul]
  omega
theorem sum_shoe (ps : List Pt) : sumTo (fun k => (2 * (fromP ps k).1 + (stepP ps k).1) * (stepP ps k).2) ps.length = areaZ ps := by
  have t := sum_turn ps (fun z => z.1 * z.2)
  have e : areaZ ps = sumTo (crossK ps) ps.length := areaK_sum ps ps.length
  rw [e, sumTo_congr (g := fun k => crossK ps k + ((fun z : Pt => z.1 * z.2) (toP ps k) - (fun z : Pt => z.1 * z.2) (fromP ps k))) ps.length fun k _ => by
    simp only
    rw [to_x, to_y]
    unfold crossK crossZ
    grind]
  rw [sumTo_add, t]
  omega
theorem Tall.sum_t (h : Around ps) (t : Tall ps u) (s : Int) : sumTo (tZ s ps) ps.length = areaZ ps - 2 * ((fromP ps u).2 - (fromP ps 0).2) + signS s * ringZ ps := by
  have a := sum_shoe ps
  have b := (sum_steps ps).1
  have c := t.sum_abs h
  have d : ringZ ps = sumTo (gcdK ps) ps.length := ringK_sum ps ps.length
  rw [← a, ← c, d, ← sumTo_mul, ← sumTo_sub, ← sumTo_add]
  have : sumTo (tZ s ps) ps.length + sumTo (fun k => (stepP ps k).1) ps.length = sumTo (fun k => (2 * (fromP ps k).1 + (stepP ps k).1) * (stepP ps k).2 - (if 0 ≤ (stepP ps k).2 then (stepP ps k).2 else -(stepP ps k).2) + signS s * gcdK ps k) ps.length := by
    rw [← sumTo_add]
    exact sumTo_congr _ fun k _ => by unfold tZ; omega
  omega
/-- but for the edges that lie in a row -/
theorem Tall.sum_g (h : Around ps) (t : Tall ps u) {s : Int} : sumTo (fun k => if (stepP ps k).2 = 0 then 0 else tZ s ps k) ps.length = sumTo (tZ s ps) ps.length - (if (stepP ps 0).2 = 0 then tZ s ps 0 else 0) - (if (stepP ps u).2 = 0 then tZ s ps u else 0) := by
  have n := h.three
  have u1 := t.u1
  have u2 := t.u2
  have key : ∀ k, k < ps.length → k ≠ 0 → k ≠ u → (stepP ps k).2 ≠ 0 := fun k hk h0 h1 => by
    by_cases c : k < u
    · rcases t.up k c with q | q <;> omega
    · rcases t.dn k (by omega) hk with q | q <;> omega
  rw [sumTo_congr (g := fun k => tZ s ps k - (if k = 0 then (if (stepP ps 0).2 = 0 then tZ s ps 0 else 0) else 0) - (if k = u then (if (stepP ps u).2 = 0 then tZ s ps u else 0) else 0)) ps.length fun k hk => by
    by_cases c0 : k = 0
    · subst c0
      rw [if_pos rfl, if_neg (show ¬ 0 = u by omega)]
      split <;> omega
    · by_cases c1 : k = u
      · subst c1
        rw [if_neg c0, if_pos rfl]
        split <;> omega
      · rw [if_neg c0, if_neg c1, if_neg (key k hk c0 c1)]
        omega]
  rw [sumTo_sub, sumTo_sub]
  have a := sumTo_single (f := fun k => if k = 0 then (if (stepP ps 0).2 = 0 then tZ s ps 0 else 0) else 0) (show 0 < ps.length by omega) fun k _ hne => if_neg hne
  have b := sumTo_single (f := fun k => if k = u then (if (stepP ps u).2 = 0 then tZ s ps u else 0) else 0) u2 fun k _ hne => if_neg hne
  rw [a, b, if_pos rfl, if_pos rfl]
theorem t_flat (s : Int) {k : Nat} (e : (stepP ps k).2 = 0) : tZ s ps k = -(stepP ps k).1 + signS s * ((stepP ps k).1.natAbs : Int) := by
  unfold tZ gcdK
  rw [e, Int.mul_zero, Int.gcd_zero_right]
  simp
/-- all rows but the highest one, by the edges -/
theorem Tall.rows (h : Around ps) (t : Tall ps u) {s : Int} (hs : s = 0 ∨ s = 1) {H : Nat} (hH : (fromP ps u).2 = (fromP ps 0).2 + H) :
    2 * sumTo (fun i => 1 + sumTo (fun k => upZ s ps k ((fromP ps 0).2 + (i : Int)) + dnZ s ps k ((fromP ps 0).2 + (i : Int))) ps.length) H = areaZ ps + signS s * ringZ ps + (if s = 0 then 2 * flat0 ps u else 2 * flat0 ps 0) := by
  have n := h.three
  rw [sumTo_add, sumTo_const, sumTo_swap (fun i k => upZ s ps k ((fromP ps 0).2 + (i : Int)) + dnZ s ps k ((fromP ps 0).2 + (i : Int))), Int.mul_add, ← sumTo_mul]
  rw [sumTo_congr (g := fun k => if (stepP ps k).2 = 0 then 0 else tZ s ps k) ps.length fun k hk => by
    have a := t.low k hk
    have b := t.top k hk
    have c := t.low ((k + 1) % ps.length) (Nat.mod_lt _ (by omega))
    have d := t.top ((k + 1) % ps.length) (Nat.mod_lt _ (by omega))
    rw [← to_from] at c d
    exact edge_rows hs ps k a (by omega) c (by omega)]
  rw [t.sum_g h, t.sum_t h]
  have c0 : (if (stepP ps 0).2 = 0 then tZ s ps 0 else 0) = (if s = 0 then 0 else -2 * flat0 ps 0) := by
    unfold flat0
    by_cases e : (stepP ps 0).2 = 0
    · rw [if_pos e, if_pos e, t_flat s e]
      have : 0 < (stepP ps 0).1 := by rcases t.up 0 (by have := t.u1; omega) with q | q <;> omega
      unfold signS
      rcases hs with rfl | rfl
      · simp; omega
      · simp; omega
    · rw [if_neg e, if_neg e]
      split <;> simp
  have cu : (if (stepP ps u).2 = 0 then tZ s ps u else 0) = (if s = 0 then -2 * flat0 ps u else 0) := by
    unfold flat0
    by_cases e : (stepP ps u).2 = 0
    · rw [if_pos e, if_pos e, t_flat s e]
      have : (stepP ps u).1 < 0 := by rcases t.dn u (Nat.le_refl _) t.u2 with q | q <;> omega
      unfold signS
      rcases hs with rfl | rfl
      · simp; omega
      · simp; omega
    · rw [if_neg e, if_neg e]
      split <;> simp
  rw [c0, cu]
  rcases hs with rfl | rfl
  · simp; omega
  · simp; omega
end Go.Proofs.Ytnpebfchojalcaa

namespace Go.Proofs.Ytnpebfchojalcaa
variable {ps : List Pt}
/-! What the reference counts in a row: the points between the greatest lower and the least upper bound of the edges. -/
def loZ (s : Int) (ps : List Pt) (y : Int) : Nat → Int
  | 0 => -1000
  | k + 1 => if (stepP ps k).2 < 0 then max (loZ s ps y k) (-(restZ s ps k y / -(stepP ps k).2)) else loZ s ps y k
def hiZ (s : Int) (ps : List Pt) (y : Int) : Nat → Int
  | 0 => 1000
  | k + 1 => if 0 < (stepP ps k).2 then min (hiZ s ps y k) (restZ s ps k y / (stepP ps k).2) else hiZ s ps y k
/-- does the row lie on the right side of the edges that lie in rows? -/
def flatB (s : Int) (ps : List Pt) (y : Int) : Nat → Bool
  | 0 => true
  | k + 1 => flatB s ps y k && decide ((stepP ps k).2 = 0 → 0 ≤ restZ s ps k y)
/-- the number of points of a row -/
def rowV (s : Int) (ps : List Pt) (y : Int) : Int := if flatB s ps y ps.length = true then max 0 (hiZ s ps y ps.length - loZ s ps y ps.length + 1) else 0
end Go.Proofs.Ytnpebfchojalcaa

namespace Go.Proofs.Ytnpebfchojalcaa
/-! The reference's sums, places, extremes and counts are the code's. -/
/-- the area of the fan's first triangles -/
def rA (ps : List Pt) : Nat → Int
  | 0 => 0
  | k + 1 => rA ps k + triP (fromP ps 0) (fromP ps (k + 1)) (fromP ps (k + 2))
theorem place_out {ps : List Pt} {x y : Int} {k : Nat} (hk : k < ps.length) (h : sideK ps x y k < 0) : placeZ ps x y = -1 := by
  have h1 := (placeK_neg ps x y ps.length).2 ⟨k, hk, h⟩
  have h2 := placeK_bd ps x y ps.length
  unfold placeZ
  omega
/-- what the reference counts -/
def cntK (s : Int) (ps : List Pt) (k : Nat) : Int := sumTo (fun i => rowV s ps ((i : Int) - 1000)) k
end Go.Proofs.Ytnpebfchojalcaa

namespace Go.Proofs.Ytnpebfchojalcaa
/-! Wrapping: the next point of the reference is the next vertex of the hull. -/
/-- the square of a distance -/
def farZ (a b : Pt) : Int := (a.1 - b.1) * (a.1 - b.1) + (a.2 - b.2) * (a.2 - b.2)
/-- one step of the search for the next point -/
def stepN (at_ n q : Pt) : Pt := if q = at_ then n else if n = at_ ∨ triP at_ n q < 0 ∨ (triP at_ n q = 0 ∧ farZ at_ n < farZ at_ q) then q else n
def nextK (l : List Pt) (at_ : Pt) : Nat → Pt
  | 0 => at_
  | i + 1 => stepN at_ (nextK l at_ i) (fromP l i)
theorem tri_swap3 (a b z : Pt) : triP a z b = -triP a b z := by unfold triP; grind
theorem from_in {l : List Pt} {i : Nat} (h : i < l.length) : fromP l i ∈ l := by
  unfold fromP
  rw [List.getD_eq_getElem?_getD, List.getElem?_eq_getElem h]
  exact List.getElem_mem h
theorem in_from {l : List Pt} {z : Pt} (h : z ∈ l) : ∃ i, i < l.length ∧ fromP l i = z := by
  obtain ⟨i, hi, e⟩ := List.getElem_of_mem h
  refine ⟨i, hi, ?_⟩
  unfold fromP
  rw [List.getD_eq_getElem?_getD, List.getElem?_eq_getElem hi]
  exact e
theorem next_mem {l : List Pt} {a : Pt} : ∀ i, i ≤ l.length → nextK l a i = a ∨ (nextK l a i ∈ l ∧ nextK l a i ≠ a) := by
  intro i
  induction i with
  | zero => intro _; exact .inl rfl
  | succ i ih =>
    intro hi
    have ih := ih (by omega)
    show stepN a (nextK l a i) (fromP l i) = a ∨ (stepN a (nextK l a i) (fromP l i) ∈ l ∧ stepN a (nextK l a i) (fromP l i) ≠ a)
    unfold stepN
    by_cases hq : fromP l i = a
    · rw [if_pos hq]; exact ih
    · rw [if_neg hq]
      split
      · exact .inr ⟨from_in (by omega), hq⟩
      · exact ih
/-- a point that has all others on its left, and those on its line nearer, is the next one -/
theorem next_is {l : List Pt} {a T : Pt} (hT : T ∈ l) (hne : T ≠ a) (h : ∀ z, z ∈ l → z ≠ a → 0 ≤ triP a T z ∧ (triP a T z = 0 → farZ a z ≤ farZ a T ∧ (farZ a z = farZ a T → z = T))) : nextK l a l.length = T := by
  obtain ⟨m, hm, e⟩ := in_from hT
  have key : ∀ j, m + 1 + j ≤ l.length → nextK l a (m + 1 + j) = T := by
    intro j
    induction j with
    | zero =>
      intro _
      show stepN a (nextK l a m) (fromP l m) = T
      unfold stepN
      rw [e, if_neg hne]
      split
      · rfl
      · rename_i hc
        rcases next_mem (l := l) (a := a) m (by omega) with h1 | ⟨h1, h2⟩
        · exact absurd (.inl h1) hc
        · obtain ⟨h3, h4⟩ := h _ h1 h2
          rw [tri_swap3] at hc
          have h5 : triP a T (nextK l a m) = 0 := by
            rcases Int.lt_or_eq_of_le h3 with h6 | h6
            · exact absurd (.inr (.inl (by omega))) hc
            · exact h6.symm
          obtain ⟨h6, h7⟩ := h4 h5
          have h8 : ¬ farZ a (nextK l a m) < farZ a T := fun h9 => hc (.inr (.inr ⟨by omega, h9⟩))
          exact h7 (by omega)
    | succ j ih =>
      intro hj
      show stepN a (nextK l a (m + 1 + j)) (fromP l (m + 1 + j)) = T
      rw [ih (by omega)]
      unfold stepN
      by_cases hq : fromP l (m + 1 + j) = a
      · rw [if_pos hq]
      · rw [if_neg hq, if_neg]
        rintro (h1 | h1 | ⟨h1, h2⟩)
        · exact hne h1
        · have := (h _ (from_in (by omega)) hq).1; omega
        · have := ((h _ (from_in (by omega)) hq).2 h1).1; omega
  have := key (l.length - (m + 1)) (by omega)
  rwa [show m + 1 + (l.length - (m + 1)) = l.length by omega] at this
/-- on a line, at between 0 and the whole -/
theorem on_line {d1 d2 e1 e2 D m : Int} (hD : D = d1 * d1 + d2 * d2) (hm : m = d1 * e1 + d2 * e2) (hc : d1 * e2 - d2 * e1 = 0) : D * e1 = m * d1 ∧ D * e2 = m * d2 ∧ D * (e1 * e1 + e2 * e2) = m * m := by
  refine ⟨by grind, by grind, by grind⟩
theorem sq_nonneg (x : Int) : 0 ≤ x * x := by
  rcases Int.le_total 0 x with h | h
  · exact Int.mul_nonneg h h
  · exact Int.mul_nonneg_of_nonpos_of_nonpos h h
theorem norm_pos {d1 d2 : Int} (h : ¬ (d1 = 0 ∧ d2 = 0)) : 0 < d1 * d1 + d2 * d2 := by
  have h1 := sq_nonneg d1
  have h2 := sq_nonneg d2
  rcases Int.lt_or_eq_of_le h1 with h3 | h3
  · omega
  · rcases Int.lt_or_eq_of_le h2 with h4 | h4
    · omega
    · exfalso
      refine h ⟨?_, ?_⟩
      · rcases Int.mul_eq_zero.1 h3.symm with h | h <;> exact h
      · rcases Int.mul_eq_zero.1 h4.symm with h | h <;> exact h
/-- a point of a hull's edge is no farther than its end -/
theorem edge_far {a T z : Pt} {p1 p2 q1 q2 : Int} (hne : T ≠ a) (hz : triP a T z = 0)
    (hp : 0 < p1 * (T.2 - a.2) - p2 * (T.1 - a.1)) (hpz : 0 ≤ p1 * (z.2 - a.2) - p2 * (z.1 - a.1))
    (hq : 0 < (T.1 - a.1) * q2 - (T.2 - a.2) * q1) (hqz : 0 ≤ q1 * (z.2 - T.2) - q2 * (z.1 - T.1)) : farZ a z ≤ farZ a T ∧ (farZ a z = farZ a T → z = T) := by
  obtain ⟨d1, hd1⟩ : ∃ d, d = T.1 - a.1 := ⟨_, rfl⟩
  obtain ⟨d2, hd2⟩ : ∃ d, d = T.2 - a.2 := ⟨_, rfl⟩
  obtain ⟨e1, he1⟩ : ∃ d, d = z.1 - a.1 := ⟨_, rfl⟩
  obtain ⟨e2, he2⟩ : ∃ d, d = z.2 - a.2 := ⟨_, rfl⟩
  have hfz : farZ a z = e1 * e1 + e2 * e2 := by unfold farZ; rw [he1, he2]; grind
  have hfT : farZ a T = d1 * d1 + d2 * d2 := by unfold farZ; rw [hd1, hd2]; grind
  have hc : d1 * e2 - d2 * e1 = 0 := by unfold triP at hz; rw [hd1, hd2, he1, he2]; exact hz
  have hq2 : 0 ≤ q1 * (e2 - d2) - q2 * (e1 - d1) := by rw [he1, he2, hd1, hd2]; grind
  rw [← hd1, ← hd2] at hp hq
  rw [← he1, ← he2] at hpz
  have hnd : ¬ (d1 = 0 ∧ d2 = 0) := fun h => hne (Prod.ext (by omega) (by omega))
  obtain ⟨D, hD⟩ : ∃ D, D = d1 * d1 + d2 * d2 := ⟨_, rfl⟩
  obtain ⟨m, hm⟩ : ∃ m, m = d1 * e1 + d2 * e2 := ⟨_, rfl⟩
  have hDp : 0 < D := by rw [hD]; exact norm_pos hnd
  obtain ⟨l1, l2, l3⟩ := on_line hD hm hc
  rw [hfz, hfT, ← hD]
  obtain ⟨E, hE⟩ : ∃ E, E = e1 * e1 + e2 * e2 := ⟨_, rfl⟩
  rw [← hE] at l3 ⊢
  have hm0 : 0 ≤ m := by
    have k : D * (p1 * e2 - p2 * e1) = m * (p1 * d2 - p2 * d1) := by grind
    have k1 : 0 ≤ m * (p1 * d2 - p2 * d1) := by rw [← k]; exact Int.mul_nonneg (by omega) hpz
    rcases Int.lt_or_le m 0 with h | h
    · have := Int.mul_neg_of_neg_of_pos h hp; omega
    · exact h
  have hmD : m ≤ D := by
    have k : D * (q1 * (e2 - d2) - q2 * (e1 - d1)) = (D - m) * (d1 * q2 - d2 * q1) := by grind
    have k1 : 0 ≤ (D - m) * (d1 * q2 - d2 * q1) := by rw [← k]; exact Int.mul_nonneg (by omega) hq2
    rcases Int.lt_or_le (D - m) 0 with h | h
    · have := Int.mul_neg_of_neg_of_pos h hq; omega
    · omega
  have h1 : D * E ≤ D * D := by
    rw [l3]
    exact Int.mul_le_mul hmD hmD hm0 (by omega)
  refine ⟨Int.le_of_mul_le_mul_left h1 hDp, fun e => ?_⟩
  rw [e] at l3
  have hmm : m = D := by
    rcases Int.lt_or_eq_of_le hmD with h | h
    · have h2 : m * m < D * D := by
        have h3 : m * m ≤ m * D := Int.mul_le_mul_of_nonneg_left hmD hm0
        have h4 : m * D < D * D := Int.mul_lt_mul_of_pos_right h hDp
        omega
      omega
    · exact h
  rw [hmm] at l1 l2
  have x1 := Int.eq_of_mul_eq_mul_left (by omega : D ≠ 0) l1
  have x2 := Int.eq_of_mul_eq_mul_left (by omega : D ≠ 0) l2
  exact Prod.ext (by omega) (by omega)
/-- the points of a line: none farther, and the lowest -/
structure FarI (l : List Pt) (a : Pt) (i : Nat) (n : Pt) : Prop where
  all : n = a → ∀ j, j < i → fromP l j = a
  most : n ≠ a → ∀ j, j < i → farZ a (fromP l j) ≤ farZ a n
end Go.Proofs.Ytnpebfchojalcaa

namespace Go.Proofs.Ytnpebfchojalcaa
theorem hull_lowest {hs : List Pt} (h : Around hs) {z : Pt} (hz : ∀ i, i < hs.length → 0 ≤ triP (fromP hs i) (toP hs i) z) : leP (fromP hs 0) z := by
  obtain ⟨u, t⟩ := h.tall
  exact t.low_row h (x := z.1) (y := z.2) fun k hk => by rw [← tri_side]; exact hz k hk
/-! Wrapping goes around the hull, or along the line and back. -/
theorem step_ne {hs : List Pt} (h : Around hs) {i : Nat} (hi : i < hs.length) : toP hs i ≠ fromP hs i := fun e => by
  refine h.ne0 hi ?_
  unfold stepP
  rw [e]
  simp
theorem hull_next {l hs : List Pt} (h : Around hs) (mem : ∀ i, i < hs.length → fromP hs i ∈ l) (sup : ∀ i, i < hs.length → ∀ z, z ∈ l → 0 ≤ triP (fromP hs i) (toP hs i) z) {i : Nat} (hi : i < hs.length) : nextK l (fromP hs i) l.length = toP hs i := by
  have h3 := h.three
  have hj : (i + 1) % hs.length < hs.length := Nat.mod_lt _ (by omega)
  have hT : toP hs i = fromP hs ((i + 1) % hs.length) := to_from
  have hpi : prevI hs.length i < hs.length := by unfold prevI; split <;> omega
  have hpj : prevI hs.length ((i + 1) % hs.length) = i := by
    unfold prevI
    by_cases e : i + 1 < hs.length
    · rw [Nat.mod_eq_of_lt e, if_neg (by omega)]; omega
    · rw [show i + 1 = hs.length by omega, Nat.mod_self, if_pos rfl]; omega
  refine next_is (by rw [hT]; exact mem _ hj) (step_ne h hi) fun z hz hne => ⟨sup i hi z hz, fun h0 => ?_⟩
  have t1 := h.turn i hi
  have t2 := h.turn _ hj
  rw [hpj] at t2
  have s1 := sup _ hpi z hz
  have s2 := sup _ hj z hz
  have ep : toP hs (prevI hs.length i) = fromP hs i := prev_to hi
  rw [ep] at s1
  have e1 : stepP hs i = ((toP hs i).1 - (fromP hs i).1, (toP hs i).2 - (fromP hs i).2) := rfl
  have e2 : stepP hs (prevI hs.length i) = ((fromP hs i).1 - (fromP hs (prevI hs.length i)).1, (fromP hs i).2 - (fromP hs (prevI hs.length i)).2) := by unfold stepP; rw [ep]
  refine edge_far (p1 := (stepP hs (prevI hs.length i)).1) (p2 := (stepP hs (prevI hs.length i)).2) (q1 := (stepP hs ((i + 1) % hs.length)).1) (q2 := (stepP hs ((i + 1) % hs.length)).2) (step_ne h hi) h0 ?_ ?_ ?_ ?_
  · unfold crossP crossZ at t1; rw [e1] at t1; exact t1
  · unfold triP at s1
    rw [e2]
    simp only
    grind
  · unfold crossP crossZ at t2; rw [e1] at t2; exact t2
  · have e3 : stepP hs ((i + 1) % hs.length) = ((toP hs ((i + 1) % hs.length)).1 - (toP hs i).1, (toP hs ((i + 1) % hs.length)).2 - (toP hs i).2) := by unfold stepP; rw [← hT]
    rw [← hT] at s2
    unfold triP at s2
    rw [e3]
    simp only
    grind
/-- the lowest of the first points -/
def lowK (l : List Pt) : Nat → Pt
  | 0 => fromP l 0
  | i + 1 => if (fromP l (i + 1)).2 < (lowK l i).2 ∨ ((fromP l (i + 1)).2 = (lowK l i).2 ∧ (fromP l (i + 1)).1 < (lowK l i).1) then fromP l (i + 1) else lowK l i
theorem low_least {l : List Pt} : ∀ i, i < l.length → lowK l i ∈ l ∧ ∀ j, j ≤ i → leP (lowK l i) (fromP l j) := by
  intro i
  induction i with
  | zero => intro h; exact ⟨from_in h, fun j hj => by rw [show j = 0 by omega]; exact leP_refl _⟩
  | succ i ih =>
    intro h
    obtain ⟨h1, h2⟩ := ih (by omega)
    simp only [lowK]
    split
    · rename_i hc
      refine ⟨from_in h, fun j hj => ?_⟩
      by_cases e : j = i + 1
      · rw [e]; exact leP_refl _
      · exact leP_trans (leP_of hc) (h2 j (by omega))
    · rename_i hc
      refine ⟨h1, fun j hj => ?_⟩
      by_cases e : j = i + 1
      · rw [e]; exact hc
      · exact h2 j (by omega)
theorem low_all {l : List Pt} (h : 1 ≤ l.length) : lowK l (l.length - 1) ∈ l ∧ ∀ z, z ∈ l → leP (lowK l (l.length - 1)) z := by
  obtain ⟨h1, h2⟩ := low_least (l := l) (l.length - 1) (by omega)
  refine ⟨h1, fun z hz => ?_⟩
  obtain ⟨j, hj, rfl⟩ := in_from hz
  exact h2 j (by omega)
/-- the points of the wrapping, one after another -/
def wrapK (l : List Pt) (a : Pt) : Nat → Pt
  | 0 => a
  | k + 1 => nextK l (wrapK l a k) l.length
/-- where the wrapping ends -/
structure WrapEnd (l : List Pt) (a : Pt) (K : Nat) : Prop where
  pos : 1 ≤ K
  max : K ≤ l.length + 1
  on : ∀ k, 1 ≤ k → k < K → wrapK l a k ≠ a ∧ wrapK l a k ≠ wrapK l a (k - 1)
  stop : K = l.length + 1 ∨ wrapK l a K = a ∨ wrapK l a K = wrapK l a (K - 1)
def wrapL (l : List Pt) (a : Pt) (K : Nat) : List Pt := (List.range K).map (wrapK l a)
theorem hull_inj {hs : List Pt} (h : Around hs) {i j : Nat} (hi : i < hs.length) (hj : j < hs.length) (e : fromP hs i = fromP hs j) : i = j := by
  by_cases hij : i = j
  · exact hij
  · exfalso
    by_cases h1 : j = (i + 1) % hs.length
    · refine step_ne h hi ?_
      rw [to_from, ← h1]; exact e.symm
    · have := h.strict_left hi hj (fun e => hij e.symm) h1
      rw [← e] at this
      unfold sideK crossZ at this
      simp at this
theorem sub_len {a b : List Pt} (hn : a.Nodup) (h : ∀ x, x ∈ a → x ∈ b) : a.length ≤ b.length := by
  induction a generalizing b with
  | nil => simp
  | cons x t ih =>
    rw [List.nodup_cons] at hn
    have hx : x ∈ b := h x (by simp)
    have h1 := ih (b := b.erase x) hn.2 (fun y hy => (List.mem_erase_of_ne (fun e => hn.1 (by rw [← e]; exact hy))).2 (h y (by simp [hy])))
    rw [List.length_erase_of_mem hx] at h1
    have : 1 ≤ b.length := List.length_pos_of_mem hx
    simp
    omega
theorem hull_size {l hs : List Pt} (h : Around hs) (mem : ∀ i, i < hs.length → fromP hs i ∈ l) : hs.length ≤ l.length := by
  refine sub_len ?_ fun x hx => ?_
  · show hs.Pairwise (fun x y => x ≠ y)
    rw [List.pairwise_iff_getElem]
    intro i j hi hj hij e
    have := hull_inj h hi hj (by unfold fromP; rw [List.getD_eq_getElem?_getD, List.getD_eq_getElem?_getD, List.getElem?_eq_getElem hi, List.getElem?_eq_getElem hj, e])
    omega
  · obtain ⟨i, hi, rfl⟩ := in_from hx
    exact mem i hi
theorem wrap_hull {l hs : List Pt} {a : Pt} {K : Nat} (h : Around hs) (mem : ∀ i, i < hs.length → fromP hs i ∈ l) (sup : ∀ i, i < hs.length → ∀ z, z ∈ l → 0 ≤ triP (fromP hs i) (toP hs i) z)
    (ha : a = fromP hs 0) (w : WrapEnd l a K) : wrapL l a K = hs := by
  have h3 := h.three
  have hsz := hull_size h mem
  have key : ∀ k, k < hs.length → wrapK l a k = fromP hs k := by
    intro k
    induction k with
    | zero => intro _; exact ha
    | succ k ih =>
      intro hk
      show nextK l (wrapK l a k) l.length = _
      rw [ih (by omega), hull_next h mem sup (by omega), to_from, Nat.mod_eq_of_lt hk]
  have last : wrapK l a hs.length = a := by
    obtain ⟨m, hm⟩ : ∃ m, hs.length = m + 1 := ⟨hs.length - 1, by omega⟩
    rw [hm]
    show nextK l (wrapK l a m) l.length = _
    rw [key m (by omega), hull_next h mem sup (by omega), to_from, ← hm, Nat.mod_self, ha]
  have hK : K = hs.length := by
    rcases Nat.lt_trichotomy K hs.length with hl | hl | hl
    · exfalso
      rcases w.stop with e | e | e
      · omega
      · rw [key K hl, ha] at e
        have := hull_inj h hl (by omega) e
        have := w.pos
        omega
      · have hp := w.pos
        rw [key K hl, key (K - 1) (by omega)] at e
        have := hull_inj h hl (by omega) e
        omega
    · exact hl
    · exact absurd last (w.on hs.length (by omega) hl).1
  refine List.ext_getElem? fun i => ?_
  unfold wrapL
  rw [List.getElem?_map, hK]
  by_cases hi : i < hs.length
  · rw [List.getElem?_range hi, List.getElem?_eq_getElem hi]
    show some (wrapK l a i) = _
    rw [key i hi]
    unfold fromP
    rw [List.getD_eq_getElem?_getD, List.getElem?_eq_getElem hi]; rfl
  · rw [List.getElem?_eq_none (by simp; omega), List.getElem?_eq_none (by omega)]; rfl
end Go.Proofs.Ytnpebfchojalcaa

namespace Go.Proofs.Ytnpebfchojalcaa
/-! What wrapping gives of flipped points, and of all sums of the points of two polygons. -/
theorem wrap_is {l hs : List Pt} {K : Nat} (h1 : 1 ≤ l.length) (A : Around hs) (mem : ∀ i, i < hs.length → fromP hs i ∈ l) (sup : ∀ i, i < hs.length → ∀ z, z ∈ l → 0 ≤ triP (fromP hs i) (toP hs i) z)
    (W : WrapEnd l (lowK l (l.length - 1)) K) : wrapL l (lowK l (l.length - 1)) K = hs ∧ K = hs.length := by
  have hlow := low_all h1
  have h3 := A.three
  have ha : lowK l (l.length - 1) = fromP hs 0 := leP_anti (hlow.2 _ (mem 0 (by omega))) (hull_lowest A fun i hi => sup i hi _ hlow.1)
  have e := wrap_hull A mem sup ha W
  exact ⟨e, by rw [← e, show (wrapL l (lowK l (l.length - 1)) K).length = K from by simp [wrapL]]⟩
/-- all sums with the first k points -/
def allK (ps qs : List Pt) : Nat → List Pt
  | 0 => []
  | k + 1 => allK ps qs k ++ movedP qs (fromP ps k)
theorem all_len (ps qs : List Pt) : ∀ k, (allK ps qs k).length = k * qs.length := by
  intro k
  induction k with
  | zero => simp [allK]
  | succ k ih => rw [allK, List.length_append, ih, moved_length, Nat.succ_mul]
theorem all_mem {ps qs : List Pt} {z : Pt} : ∀ k, z ∈ allK ps qs k ↔ ∃ i j, i < k ∧ j < qs.length ∧ z = addP (fromP ps i) (fromP qs j) := by
  intro k
  induction k with
  | zero => simp [allK]
  | succ k ih =>
    rw [allK, List.mem_append, ih]
    constructor
    · rintro (⟨i, j, hi, hj, e⟩ | h)
      · exact ⟨i, j, by omega, hj, e⟩
      · obtain ⟨q, hq, rfl⟩ := List.mem_map.1 h
        obtain ⟨j, hj, rfl⟩ := mem_from hq
        exact ⟨k, j, by omega, hj, rfl⟩
    · rintro ⟨i, j, hi, hj, e⟩
      by_cases hik : i = k
      · subst hik
        exact .inr (e ▸ List.mem_map.2 ⟨_, from_mem hj, rfl⟩)
      · exact .inl ⟨i, j, by omega, hj, e⟩
theorem side_less (ps : List Pt) (x y : Int) (k : Nat) : sideK ps x y k = crossP (fromP ps k) (stepP ps k) - crossP (x, y) (stepP ps k) := by
  unfold sideK crossP crossZ
  grind
end Go.Proofs.Ytnpebfchojalcaa

namespace Go.Proofs.Ytnpebfchojalcaa
/-! Zero in the sums of a polygon and a flipped one. -/
def leA (a b : Pt) : Bool := decide (a = (0, 0)) || (!decide (b = (0, 0)) && !decide (ltA b a))
theorem leA_iff (a b : Pt) : leA a b = true ↔ a = (0, 0) ∨ (b ≠ (0, 0) ∧ ¬ ltA b a) := by
  unfold leA
  simp
theorem leA_total (a b : Pt) : (leA a b || leA b a) = true := by
  rw [Bool.or_eq_true, leA_iff, leA_iff]
  by_cases ha : a = (0, 0)
  · exact .inl (.inl ha)
  · by_cases hb : b = (0, 0)
    · exact .inr (.inl hb)
    · by_cases h : ltA b a
      · exact .inr (.inr ⟨ha, fun k => ltA_irrefl a (ltA_trans ha hb ha k h)⟩)
      · exact .inl (.inr ⟨hb, h⟩)
theorem leA_trans (a b c : Pt) (h : leA a b = true) (k : leA b c = true) : leA a c = true := by
  rw [leA_iff] at *
  rcases h with h | ⟨hb, h⟩
  · exact .inl h
  · rcases k with k | ⟨hc, k⟩
    · exact absurd k hb
    · by_cases ha : a = (0, 0)
      · exact .inl ha
      · exact .inr ⟨hc, ltA_ntrans hc hb ha k h⟩
theorem sorted_some {ps qs : List Pt} (hp : Around ps) (hq : Around qs) : ∃ ds, Sorted ps qs ds := by
  refine ⟨(stepsOf ps ++ stepsOf qs).mergeSort leA, List.mergeSort_perm _ _, ?_⟩
  have h0 : ∀ x ∈ stepsOf ps ++ stepsOf qs, x ≠ (0, 0) := fun x hx => by
    rcases List.mem_append.1 hx with h | h
    · exact hp.rolls.ne0 x h
    · exact hq.rolls.ne0 x h
  refine List.Pairwise.imp_of_mem ?_ (List.pairwise_mergeSort leA_trans leA_total _)
  intro a b ha hb h
  have ha' := h0 a ((List.mergeSort_perm _ _).mem_iff.1 ha)
  rcases (leA_iff a b).1 h with e | e
  · exact absurd e ha'
  · exact e.2
theorem wrap_gap {ps qs ds : List Pt} {K : Nat} (hp : Around ps) (hq : Around qs) (hs : Sorted ps (flipP qs) ds) (W : WrapEnd (allK ps (qs.map negP) ps.length) (lowK (allK ps (qs.map negP) ps.length) ((allK ps (qs.map negP) ps.length).length - 1)) K) :
    wrapL (allK ps (qs.map negP) ps.length) (lowK (allK ps (qs.map negP) ps.length) ((allK ps (qs.map negP) ps.length).length - 1)) K = sumP ps (flipP qs) ds ∧ K = (sumP ps (flipP qs) ds).length := by
  have p3 := hp.three
  have q3 := hq.three
  have hf := around_flip hq
  have q0 : 0 < qs.length := by omega
  have hl := flip_length q0
  have M : Merged ps (flipP qs) ds := ⟨hp.rolls, hf.rolls, hs⟩
  refine wrap_is ?_ (sum_around hp hf hs) (fun i hi => ?_) (fun i hi z hz => ?_) W
  · rw [all_len, neg_length]
    exact Nat.mul_pos (by omega) (by omega)
  · rw [Merged.slen] at hi
    obtain ⟨a, b, ha, hb, e⟩ := sum_vertex M hi
    rw [hl] at hb
    refine (all_mem _).2 ⟨a, (b + flipS qs) % qs.length, ha, by rw [neg_length]; exact Nat.mod_lt _ q0, ?_⟩
    rw [e, addP_comm, from_flip hb, from_map negP (Nat.mod_lt _ q0)]
  · rw [Merged.slen] at hi
    obtain ⟨a, b, ha, hb, rfl⟩ := (all_mem _).1 hz
    rw [neg_length] at hb
    obtain ⟨k, hk, hks⟩ := turn_back (flipS_lt q0) hb
    have ef : fromP (qs.map negP) b = fromP (flipP qs) k := by rw [from_flip hk, hks, from_map negP hb]
    rw [ef, tri_side, side_less, M.step hi, M.at_edge hi]
    have r0 := M.rne0 _ (from_mem hi)
    have e1 := hi_le M.p r0 ha
    have e2 := hi_le M.q r0 (by rw [hl]; exact hk)
    have e3 : crossP ((addP (fromP ps a) (fromP (flipP qs) k)).1, (addP (fromP ps a) (fromP (flipP qs) k)).2) (fromP (runs ds) i) = crossP (fromP (flipP qs) k) (fromP (runs ds) i) + crossP (fromP ps a) (fromP (runs ds) i) := by
      unfold addP crossP crossZ
      grind
    rw [e3]
    omega
end Go.Proofs.Ytnpebfchojalcaa
