import Derived.Test.YtnoacppfgckohaaM11
namespace Go.Proofs.Ytnoacppfgckohaa
open Go.RowKit
/-- the same direction, told -/
def sdB (a b : Pt) : Bool := !ltB a b && !ltB b a
theorem sdB_iff (a b : Pt) : sdB a b = true ↔ SameD a b := by
  unfold sdB SameD
  rw [Bool.and_eq_true, Bool.not_eq_true', Bool.not_eq_true', ← ltB_iff, ← ltB_iff, Bool.not_eq_true, Bool.not_eq_true]
theorem sd_cong {a b r : Pt} (ha : a ≠ (0, 0)) (hb : b ≠ (0, 0)) (hr : r ≠ (0, 0)) (h : SameD a b) : sdB a r = sdB b r := by
  rw [Bool.eq_iff_iff, sdB_iff, sdB_iff]
  exact ⟨fun k => SameD.trans hb ha hr h.symm k, fun k => SameD.trans ha hb hr h k⟩
theorem sd_cong_r {a b r : Pt} (ha : a ≠ (0, 0)) (hb : b ≠ (0, 0)) (hr : r ≠ (0, 0)) (h : SameD a b) : sdB r a = sdB r b := by
  rw [Bool.eq_iff_iff, sdB_iff, sdB_iff]
  exact ⟨fun k => SameD.trans hr ha hb k h, fun k => SameD.trans hr hb ha k h.symm⟩
theorem runs_class {f : Pt → Int} (hf : Lin f) {p : Pt → Bool} (hp : ∀ a b, a ≠ (0, 0) → b ≠ (0, 0) → SameD a b → p a = p b) : ∀ l, (∀ x ∈ l, x ≠ (0, 0)) → sumF f ((runs l).filter p) = sumF f (l.filter p)
  | [], _ => rfl
  | [d], _ => rfl
  | d :: e :: l, h0 => by
    have h1 : ∀ x ∈ e :: l, x ≠ (0, 0) := fun x hx => h0 x (List.mem_cons_of_mem _ hx)
    have ih := runs_class hf hp (e :: l) h1
    obtain ⟨h, t, e1, e2, e3⟩ := runs_cons e l h1
    have hd := h0 d (by simp)
    have he := h0 e (by simp)
    unfold runs
    split
    · rename_i hs
      have k := SameD.trans hd he e3 ((angP_zero _ _).1 hs) e2
      have k2 := same_add hd e3 k
      have q1 : p (addP h d) = p d := (hp _ _ hd k2.2 k2.1).symm
      have q2 : p h = p d := (hp _ _ hd e3 k).symm
      rw [e1] at ih ⊢
      simp only [addHead]
      cases hb : p d with
      | true =>
        rw [List.filter_cons_of_pos (by simpa using q1.trans hb), List.filter_cons_of_pos (l := e :: l) (by simpa using hb)]
        rw [List.filter_cons_of_pos (by simpa using q2.trans hb)] at ih
        have := hf h d
        simp only [sumF] at ih ⊢
        omega
      | false =>
        rw [List.filter_cons_of_neg (by simp [q1, hb]), List.filter_cons_of_neg (l := e :: l) (by simp [hb])]
        rw [List.filter_cons_of_neg (by simp [q2, hb])] at ih
        exact ih
    · cases hb : p d with
      | true =>
        rw [List.filter_cons_of_pos (by simpa using hb), List.filter_cons_of_pos (l := e :: l) (by simpa using hb)]
        simp only [sumF, ih]
      | false =>
        rw [List.filter_cons_of_neg (by simp [hb]), List.filter_cons_of_neg (l := e :: l) (by simp [hb])]
        exact ih
theorem lt_not_same {a b : Pt} (h : ltA a b) : ¬ SameD a b := fun k => k.1 h
theorem strict_one {f : Pt → Int} : ∀ {l : List Pt}, l.Pairwise ltA → ∀ x ∈ l, sumF f (l.filter fun y => sdB y x) = f x
  | [], _, x, hx => by simp at hx
  | z :: t, h, x, hx => by
    obtain ⟨h1, h2⟩ := List.pairwise_cons.1 h
    rcases List.mem_cons.1 hx with rfl | hx
    · have e : t.filter (fun y => sdB y x) = [] := by
        rw [List.filter_eq_nil_iff]
        intro y hy k
        exact lt_not_same (h1 y hy) ((sdB_iff _ _).1 k).symm
      rw [List.filter_cons_of_pos (by rw [sdB_iff]; exact SameD.refl x), e]
      simp [sumF]
    · rw [List.filter_cons_of_neg (p := fun y => sdB y x) (fun k => lt_not_same (h1 x hx) ((sdB_iff _ _).1 k))]
      exact strict_one h2 x hx
theorem strict_eq : ∀ {l m : List Pt}, l.Pairwise ltA → m.Pairwise ltA → (∀ x ∈ l, x ≠ (0, 0)) → (∀ x, x ∈ l ↔ x ∈ m) → l = m
  | [], m, _, _, _, h => by
    cases m with
    | nil => rfl
    | cons y m => have := (h y).2 (by simp); simp at this
  | x :: l, [], _, _, _, h => by have := (h x).1 (by simp); simp at this
  | x :: l, y :: m, hl, hm, h0, h => by
    obtain ⟨l1, l2⟩ := List.pairwise_cons.1 hl
    obtain ⟨m1, m2⟩ := List.pairwise_cons.1 hm
    have hxy : x = y := by
      rcases List.mem_cons.1 ((h x).1 (by simp)) with e | hx
      · exact e
      · rcases List.mem_cons.1 ((h y).2 (by simp)) with e | hy
        · exact e.symm
        · exact absurd (ltA_trans (h0 x (by simp)) (h0 y (List.mem_cons_of_mem _ hy)) (h0 x (by simp)) (l1 y hy) (m1 x hx)) (ltA_irrefl x)
    subst hxy
    have : l = m := strict_eq l2 m2 (fun z hz => h0 z (List.mem_cons_of_mem _ hz)) fun z => by
      constructor
      · intro hz
        rcases List.mem_cons.1 ((h z).1 (List.mem_cons_of_mem _ hz)) with e | hz2
        · subst e; exact absurd (l1 z hz) (ltA_irrefl z)
        · exact hz2
      · intro hz
        rcases List.mem_cons.1 ((h z).2 (List.mem_cons_of_mem _ hz)) with e | hz2
        · subst e; exact absurd (m1 z hz) (ltA_irrefl z)
        · exact hz2
    rw [this]
/-- the same steps, but for how each direction is parted -/
structure Eqv (l m : List Pt) : Prop where
  sum : ∀ f, Lin f → ∀ r, r ≠ (0, 0) → sumF f (l.filter fun y => sdB y r) = sumF f (m.filter fun y => sdB y r)
  to : ∀ d ∈ l, ∃ e ∈ m, SameD d e
  back : ∀ d ∈ m, ∃ e ∈ l, SameD d e
theorem Eqv.perm {l m : List Pt} (h : l.Perm m) : Eqv l m :=
  ⟨fun _ _ _ _ => sumF_perm (h.filter _), fun d hd => ⟨d, h.mem_iff.1 hd, SameD.refl d⟩, fun d hd => ⟨d, h.mem_iff.2 hd, SameD.refl d⟩⟩
theorem Eqv.symm {l m : List Pt} (h : Eqv l m) : Eqv m l := ⟨fun f hf r hr => (h.sum f hf r hr).symm, h.back, h.to⟩
theorem Eqv.trans {l m n : List Pt} (h0 : ∀ x ∈ l, x ≠ (0, 0)) (h1 : ∀ x ∈ m, x ≠ (0, 0)) (h2 : ∀ x ∈ n, x ≠ (0, 0)) (h : Eqv l m) (k : Eqv m n) : Eqv l n :=
  ⟨fun f hf r hr => (h.sum f hf r hr).trans (k.sum f hf r hr), fun d hd => by
    obtain ⟨e, he, s⟩ := h.to d hd
    obtain ⟨g, hg, t⟩ := k.to e he
    exact ⟨g, hg, SameD.trans (h0 d hd) (h1 e he) (h2 g hg) s t⟩, fun d hd => by
    obtain ⟨e, he, s⟩ := k.back d hd
    obtain ⟨g, hg, t⟩ := h.back e he
    exact ⟨g, hg, SameD.trans (h2 d hd) (h1 e he) (h0 g hg) s t⟩⟩
theorem Eqv.runs {l : List Pt} (h0 : ∀ x ∈ l, x ≠ (0, 0)) : Eqv (runs l) l :=
  ⟨fun _ hf _ hr => runs_class hf (fun _ _ ha hb h => sd_cong ha hb hr h) l h0, fun x hx => by
    obtain ⟨_, d, hd, s⟩ := runs_mem l h0 x hx
    exact ⟨d, hd, s.symm⟩, fun d hd => mem_runs l h0 d hd⟩
theorem Eqv.append {l l' m m' : List Pt} (h : Eqv l l') (k : Eqv m m') : Eqv (l ++ m) (l' ++ m') :=
  ⟨fun f hf r hr => by rw [List.filter_append, List.filter_append, sumF_append, sumF_append, h.sum f hf r hr, k.sum f hf r hr], fun d hd => by
    rcases List.mem_append.1 hd with hd | hd
    · obtain ⟨e, he, s⟩ := h.to d hd; exact ⟨e, List.mem_append_left _ he, s⟩
    · obtain ⟨e, he, s⟩ := k.to d hd; exact ⟨e, List.mem_append_right _ he, s⟩, fun d hd => by
    rcases List.mem_append.1 hd with hd | hd
    · obtain ⟨e, he, s⟩ := h.back d hd; exact ⟨e, List.mem_append_left _ he, s⟩
    · obtain ⟨e, he, s⟩ := k.back d hd; exact ⟨e, List.mem_append_right _ he, s⟩⟩
theorem Eqv.mem {l m : List Pt} (hl : l.Pairwise ltA) (hm : m.Pairwise ltA) (h0 : ∀ x ∈ l, x ≠ (0, 0)) (h1 : ∀ x ∈ m, x ≠ (0, 0)) (h : Eqv l m) : ∀ x ∈ l, x ∈ m := by
  intro x hx
  obtain ⟨y, hy, s⟩ := h.to x hx
  have key : ∀ f, Lin f → f x = f y := fun f hf => by
    rw [← strict_one (f := f) hl x hx, ← strict_one (f := f) hm y hy, h.sum f hf x (h0 x hx)]
    congr 1
    refine List.filter_congr fun z hz => ?_
    exact sd_cong_r (h0 x hx) (h1 y hy) (h1 z hz) s
  rw [pt_ext (key _ lin_fst) (key _ lin_snd)]
  exact hy
/-- equal steps, sorted, have equal runs -/
theorem runs_eq {l m : List Pt} (h0 : ∀ x ∈ l, x ≠ (0, 0)) (h1 : ∀ x ∈ m, x ≠ (0, 0)) (hl : l.Pairwise fun a b => ¬ ltA b a) (hm : m.Pairwise fun a b => ¬ ltA b a) (h : Eqv l m) : runs l = runs m := by
  have r0 : ∀ x ∈ runs l, x ≠ (0, 0) := fun x hx => (runs_mem l h0 x hx).1
  have r1 : ∀ x ∈ runs m, x ≠ (0, 0) := fun x hx => (runs_mem m h1 x hx).1
  have e : Eqv (runs l) (runs m) := Eqv.trans r0 h0 r1 (.runs h0) (Eqv.trans h0 h1 r1 h (Eqv.runs h1).symm)
  have sl := runs_strict l h0 hl
  have sm := runs_strict m h1 hm
  exact strict_eq sl sm r0 fun x => ⟨e.mem sl sm r0 r1 x, e.symm.mem sm sl r1 r0 x⟩
theorem Sorted.swap {ps qs ds : List Pt} (h : Sorted ps qs ds) : Sorted qs ps ds := ⟨h.1.trans List.perm_append_comm, h.2⟩
theorem addP_comm (a b : Pt) : addP a b = addP b a := by unfold addP; simp only [Prod.mk.injEq]; omega
/-- Sum is commutative -/
theorem sum_comm {ps qs ds es : List Pt} (h : Merged ps qs ds) (k : Merged qs ps es) : sumP ps qs ds = sumP qs ps es := by
  rw [Merged.sum_eq, Merged.sum_eq, addP_comm, runs_eq h.ne0 k.ne0 h.s.2 k.s.2 (.perm (h.s.1.trans (k.s.swap.1).symm))]
theorem runs_some {ps qs ds : List Pt} (h : Merged ps qs ds) : 0 < (runs ds).length := by
  obtain ⟨d, l, e⟩ : ∃ d l, ds = d :: l := by
    cases hd : ds with
    | nil =>
      have := h.s.1.length_eq
      rw [hd, List.length_append, stepsOf_length] at this
      have h1 := h.p.some
      simp only [List.length_nil] at this
      omega
    | cons d l => exact ⟨d, l, rfl⟩
  obtain ⟨x, t, e2, _⟩ := runs_cons d l (by rw [← e]; exact h.ne0)
  rw [e, e2]; simp
theorem sum_first {ps qs ds : List Pt} (h : Merged ps qs ds) : fromP (sumP ps qs ds) 0 = addP (fromP qs 0) (fromP ps 0) := by
  have hn := runs_some h
  rw [Merged.sum_eq]
  cases hr : runs ds with
  | nil => rw [hr] at hn; simp at hn
  | cons d l => rfl
/-- Sum is associative -/
theorem sum_assoc {ps qs rs ds us vs ws : List Pt} (h1 : Merged ps qs ds) (h2 : Merged qs rs us) (h3 : Merged (sumP ps qs ds) rs vs) (h4 : Merged ps (sumP qs rs us) ws) :
    sumP (sumP ps qs ds) rs vs = sumP ps (sumP qs rs us) ws := by
  have p0 := h1.p.ne0
  have q0 := h1.q.ne0
  have r0 := h2.q.ne0
  have E : Eqv vs ws := by
    have a1 : Eqv vs (runs ds ++ stepsOf rs) := by rw [← h1.steps]; exact .perm h3.s.1
    have a2 : Eqv (runs ds ++ stepsOf rs) (ds ++ stepsOf rs) := .append (.runs h1.ne0) (.perm (.refl _))
    have a3 : Eqv (ds ++ stepsOf rs) (stepsOf ps ++ stepsOf qs ++ stepsOf rs) := .perm (h1.s.1.append_right _)
    have b1 : Eqv (stepsOf ps ++ runs us) ws := by rw [← h2.steps]; exact .perm h4.s.1.symm
    have b2 : Eqv (stepsOf ps ++ us) (stepsOf ps ++ runs us) := .append (.perm (.refl _)) (Eqv.runs h2.ne0).symm
    have b3 : Eqv (stepsOf ps ++ stepsOf qs ++ stepsOf rs) (stepsOf ps ++ us) := .perm (by rw [List.append_assoc]; exact (h2.s.1.symm).append_left _)
    have n1 : ∀ x ∈ runs ds ++ stepsOf rs, x ≠ (0, 0) := fun x hx => by
      rcases List.mem_append.1 hx with hx | hx
      · exact h1.rne0 x hx
      · exact r0 x hx
    have n2 : ∀ x ∈ ds ++ stepsOf rs, x ≠ (0, 0) := fun x hx => by
      rcases List.mem_append.1 hx with hx | hx
      · exact h1.ne0 x hx
      · exact r0 x hx
    have n3 : ∀ x ∈ stepsOf ps ++ stepsOf qs ++ stepsOf rs, x ≠ (0, 0) := fun x hx => by
      rcases List.mem_append.1 hx with hx | hx
      · rcases List.mem_append.1 hx with hx | hx
        · exact p0 x hx
        · exact q0 x hx
      · exact r0 x hx
    have n4 : ∀ x ∈ stepsOf ps ++ us, x ≠ (0, 0) := fun x hx => by
      rcases List.mem_append.1 hx with hx | hx
      · exact p0 x hx
      · exact h2.ne0 x hx
    have n5 : ∀ x ∈ stepsOf ps ++ runs us, x ≠ (0, 0) := fun x hx => by
      rcases List.mem_append.1 hx with hx | hx
      · exact p0 x hx
      · exact h2.rne0 x hx
    exact Eqv.trans h3.ne0 n1 h4.ne0 a1 (Eqv.trans n1 n2 h4.ne0 a2 (Eqv.trans n2 n3 h4.ne0 a3 (Eqv.trans n3 n4 h4.ne0 b3 (Eqv.trans n4 n5 h4.ne0 b2 b1))))
  rw [Merged.sum_eq (sumP ps qs ds), Merged.sum_eq ps (sumP qs rs us), sum_first h1, sum_first h2, runs_eq h3.ne0 h4.ne0 h3.s.2 h4.s.2 E]
  congr 1
  unfold addP
  simp only [Prod.mk.injEq]
  omega
/-- what Extreme returns is additive -/
theorem ext_hi {ps : List Pt} (h : Rolls ps) {d : Pt} (hd : d ≠ (0, 0)) : (extK ps d ps.length).1 = hiP ps (-d.2, d.1) := by
  have hr : ((-d.2, d.1) : Pt) ≠ (0, 0) := fun e => hd (by
    have e1 := congrArg Prod.fst e
    have e2 := congrArg Prod.snd e
    simp only at e1 e2
    exact pt_ext e2 (by simp only; omega))
  have hrt : rt (-d.2, d.1) = d := by unfold rt; exact Prod.ext rfl (by simp)
  obtain ⟨h1, j, hj, _, h2⟩ := ext_spec (d := d) h.some ps.length
  have h2 := h2 (Nat.le_refl _)
  obtain ⟨i, hi, e⟩ := hi_at h hr
  have g1 := h1 i hi
  have g2 := hi_le h hr hj
  rw [← dot_rt, hrt] at e g2
  omega
theorem ext_sum {ps qs ds : List Pt} (h : Merged ps qs ds) (k : Rolls (sumP ps qs ds)) {d : Pt} (hd : d ≠ (0, 0)) : (extK (sumP ps qs ds) d (sumP ps qs ds).length).1 = (extK ps d ps.length).1 + (extK qs d qs.length).1 := by
  have hr : ((-d.2, d.1) : Pt) ≠ (0, 0) := fun e => hd (by
    have e1 := congrArg Prod.fst e
    have e2 := congrArg Prod.snd e
    simp only at e1 e2
    exact pt_ext e2 (by simp only; omega))
  rw [ext_hi k hd, ext_hi h.p hd, ext_hi h.q hd, h.hi hr]
/-- a beginning of a polygon's steps leads to one of its vertices -/
theorem take_vertex {ps : List Pt} (h : Rolls ps) {k : Nat} (hk : k ≤ ps.length) : ∃ i, i < ps.length ∧ ∀ f, Lin f → f (fromP ps 0) + sumF f ((stepsOf ps).take k) = f (fromP ps i) := by
  by_cases hkn : k = ps.length
  · refine ⟨0, h.some, fun f hf => ?_⟩
    rw [hkn, ← stepsOf_length, List.take_length, path_sum hf]
    omega
  · exact ⟨k, by omega, fun f hf => (path_get hf ps k (by omega)).symm⟩
/-- each vertex of a sum is the sum of two vertices -/
theorem sum_vertex {ps qs ds : List Pt} (h : Merged ps qs ds) {k : Nat} (hk : k < (runs ds).length) : ∃ i j, i < ps.length ∧ j < qs.length ∧ fromP (sumP ps qs ds) k = addP (fromP qs j) (fromP ps i) := by
  have hr := h.rne0 _ (from_mem hk)
  obtain ⟨a, ha, e1⟩ := filter_take hr h.p.ne0 h.p.sorted
  obtain ⟨b, hb, e2⟩ := filter_take hr h.q.ne0 h.q.sorted
  rw [stepsOf_length] at ha hb
  obtain ⟨i, hi, f1⟩ := take_vertex h.p ha
  obtain ⟨j, hj, f2⟩ := take_vertex h.q hb
  refine ⟨i, j, hi, hj, ?_⟩
  have key : ∀ f, Lin f → f (fromP (sumP ps qs ds) k) = f (fromP qs j) + f (fromP ps i) := fun f hf => by
    have g := path_get hf (sumP ps qs ds) k (by rw [Merged.slen]; exact hk)
    rw [h.steps, ← filter_at h.strict hk, runs_filter hf hr ds h.ne0, sumF_perm (h.s.1.filter _), List.filter_append, sumF_append, e1, e2, sum_first h, hf] at g
    have := f1 f hf
    have := f2 f hf
    omega
  refine pt_ext ?_ ?_
  · have := key _ lin_fst; unfold addP; simp only; omega
  · have := key _ lin_snd; unfold addP; simp only; omega
def boxP (B : Int) (ps : List Pt) : Prop := ∀ q ∈ ps, -B ≤ q.1 ∧ q.1 ≤ B ∧ -B ≤ q.2 ∧ q.2 ≤ B
theorem sum_box {ps qs ds : List Pt} (h : Merged ps qs ds) (hp : nearP ps) (hq : nearP qs) : boxP 2000 (sumP ps qs ds) := by
  intro x hx
  obtain ⟨k, hk, rfl⟩ := mem_from hx
  rw [Merged.slen] at hk
  obtain ⟨i, j, hi, hj, e⟩ := sum_vertex h hk
  rw [e]
  have a := hp _ (from_mem hi)
  have b := hq _ (from_mem hj)
  unfold addP
  simp only
  omega
theorem sum_len {ps qs ds : List Pt} (h : Sorted ps qs ds) : (sumP ps qs ds).length ≤ ps.length + qs.length := by
  have e := walk_len (addP (fromP qs 0) (fromP ps 0)) ds ds.length
  have l := h.1.length_eq
  rw [List.length_append, stepsOf_length, stepsOf_length] at l
  unfold sumP
  omega
theorem mul_box {a b A B : Int} (h1 : -A ≤ a ∧ a ≤ A) (h2 : -B ≤ b ∧ b ≤ B) : -(A * B) ≤ a * b ∧ a * b ≤ A * B := by
  have e1 : 0 ≤ (A - a) * (B - b) := Int.mul_nonneg (by omega) (by omega)
  have e2 : 0 ≤ (A + a) * (B + b) := Int.mul_nonneg (by omega) (by omega)
  have e3 : 0 ≤ (A - a) * (B + b) := Int.mul_nonneg (by omega) (by omega)
  have e4 : 0 ≤ (A + a) * (B - b) := Int.mul_nonneg (by omega) (by omega)
  constructor <;> grind
theorem area_box {ps : List Pt} {B : Int} (h : boxP B ps) : ∀ k : Nat, k ≤ ps.length → -(4 * B * B * (k : Int)) ≤ areaK ps k ∧ areaK ps k ≤ 4 * B * B * (k : Int) := by
  intro k
  induction k with
  | zero => intro _; simp [areaK]
  | succ k ih =>
    intro hk
    have i := ih (by omega)
    have a := h (fromP ps k) (from_mem (by omega))
    have b := h (toP ps k) (from_mem (l := ps) (k := (k + 1) % ps.length) (Nat.mod_lt _ (by omega)))
    have m1 := mul_box (a := (fromP ps k).1) (b := (stepP ps k).2) (A := B) (B := 2 * B) (by omega) (by unfold stepP; simp only; omega)
    have m2 := mul_box (a := (fromP ps k).2) (b := (stepP ps k).1) (A := B) (B := 2 * B) (by omega) (by unfold stepP; simp only; omega)
    have e : 4 * B * B * ((k + 1 : Nat) : Int) = 4 * B * B * (k : Int) + 2 * (B * (2 * B)) := by
      rw [Int.natCast_add, Int.mul_add]; grind
    rw [e]
    simp only [areaK]
    unfold crossK crossZ
    omega
theorem area_near {ps : List Pt} (h : nearP ps) (hn : ps.length ≤ 32) : -128000000 ≤ areaZ ps ∧ areaZ ps ≤ 128000000 := by
  have := area_box (B := 1000) (fun q hq => h q hq) ps.length (Nat.le_refl _)
  unfold areaZ
  omega
theorem area_far {ps : List Pt} (h : boxP 2000 ps) (hn : ps.length ≤ 64) : -1024000000 ≤ areaZ ps ∧ areaZ ps ≤ 1024000000 := by
  have := area_box (B := 2000) h ps.length (Nat.le_refl _)
  unfold areaZ
  omega
end Go.Proofs.Ytnoacppfgckohaa
