import Derived.Test.YtbdppephmlkbaaaS2
namespace Go.Proofs.Ytbdppephmlkbaaa
set_option maxRecDepth 100000
open Go.RowKit Go.Shelf
def sumP (ps qs : List Pt) (ds : List Pt) : List Pt := (walkK (addP (fromP qs 0) (fromP ps 0)) ds ds.length).1
def Sorted (ps qs : List Pt) (ds : List Pt) : Prop := ds.Perm (stepsOf ps ++ stepsOf qs) ∧ ds.Pairwise (fun a b => ¬ ltA b a)
set_option maxRecDepth 100000 in
set_option maxHeartbeats 1000000 in
theorem Sum_c (u v : Value) (ps qs : List Pt) (w : World) (hu : Vecs w u ps) (hv : Vecs w v qs) (h1 : validB ps = true) (h2 : validB qs = true) :
    Calls Try.prog 28 #[u, v] w fun e w' => ∃ r ds, Sorted ps qs ds ∧ e = limR r (sumP ps qs ds) ∧ Vecs w' r (sumP ps qs ds) ∧ Ext w w' := by
  obtain ⟨a, cap, rfl, hl, hm, _⟩ := hu.at
  obtain ⟨a2, cap2, rfl, hl2, hm2, _⟩ := hv.at
  have HU := Lib.hid hu
  have HV := Lib.hid hv
  have H1 := Lib.hid h1
  have H2 := Lib.hid h2
  clear hu hv h1 h2
  go_enter Try.func28, Try.ntmps28
  go_wp2_with fail
  refine (valid_c _ ps _ HU.out).mono ?_
  rintro e w2 ⟨rfl, hE⟩
  rw [H1.out]
  have HE := Lib.hid hE
  clear hE
  go_wp2_with fail
  refine (valid_c _ qs _ (HV.out.ext HE.out)).mono ?_
  rintro e w3 ⟨rfl, hE3⟩
  rw [H2.out]
  have HE3 := Lib.hid (Ext.trans HE.out hE3)
  clear hE3
  go_wp2_with fail
  refine (sum_c sort_c _ _ ps qs w3 (HU.out.ext HE3.out) (HV.out.ext HE3.out) H1.out H2.out).mono ?_
  rintro e w4 ⟨r, ds, rfl, hp, hs, hr, hE4⟩
  have HP := Lib.hid (show Sorted ps qs ds from ⟨hp, hs⟩)
  have HR := Lib.hid (show Vecs w4 r (sumP ps qs ds) from hr)
  have HE4 := Lib.hid (Ext.trans HE3.out hE4)
  clear hp hs hr hE4
  generalize hss : sumP ps qs ds = ss at *
  have HSS := Lib.hid hss
  clear hss
  go_wp2_with fail
  refine (limited_c r ss w4 HR.out).mono ?_
  rintro e w5 ⟨rfl, hE5⟩
  obtain ⟨ra, rb, hab⟩ := lim_two r ss
  have HAB := Lib.hid hab
  have HR5 := Lib.hid (HR.out.ext hE5)
  have HE5 := Lib.hid (Ext.trans HE4.out hE5)
  rw [hab]
  clear hab hE5
  simp only [two]
  go_wp2_with fail
  go_ret2
  refine ⟨r, ds, HP.out, ?_, ?_, HE5.out⟩
  · rw [HSS.out, HAB.out]; rfl
  · rw [HSS.out]; exact HR5.out
/-- sorted lists of the same members are one -/
theorem perm_sorted {R : Pt → Pt → Prop} : ∀ (l m : List Pt), l.Perm m → l.Pairwise R → m.Pairwise R → (∀ x ∈ l, ∀ y ∈ l, R x y → R y x → x = y) → l = m := by
  intro l
  induction l with
  | nil => intro m hp _ _ _; exact (List.Perm.nil_eq hp)
  | cons a l ih =>
    intro m hp hl hm ha
    cases m with
    | nil => exact absurd hp.length_eq (by simp)
    | cons b m =>
      have hab : a = b := by
        by_cases h : a = b
        · exact h
        · have h1 : a ∈ m := by
            rcases List.mem_cons.1 (hp.mem_iff.1 (List.mem_cons_self)) with h2 | h2
            · exact absurd h2 h
            · exact h2
          have h3 : b ∈ l := by
            rcases List.mem_cons.1 (hp.mem_iff.2 (List.mem_cons_self)) with h2 | h2
            · exact absurd h2.symm h
            · exact h2
          exact ha a List.mem_cons_self b (List.mem_cons_of_mem _ h3) ((List.pairwise_cons.1 hl).1 b h3) ((List.pairwise_cons.1 hm).1 a h1)
      subst hab
      rw [ih m ((List.perm_cons a).1 hp) (List.pairwise_cons.1 hl).2 (List.pairwise_cons.1 hm).2 (fun x hx y hy => ha x (List.mem_cons_of_mem _ hx) y (List.mem_cons_of_mem _ hy))]
instance (a b : Pt) : Decidable (ltA a b) := by unfold ltA; infer_instance
def triT : List Pt := [(0, 0), (2, 0), (0, 2)]
def triF : List Pt := [(0, -2), (0, 0), (-2, 0)]
def triD : List Pt := [(2, 0), (0, 2), (-2, 2), (-2, 0), (0, -2), (2, -2)]
def triS : List Pt := [(0, -2), (2, -2), (2, 0), (0, 2), (-2, 2), (-2, 0)]
theorem tri_valid : validB triT = true := by decide +kernel
theorem tri_flip : flipP triT = triF := by decide +kernel
theorem triF_valid : validB triF = true := by decide +kernel
theorem triS_valid : validB triS = true := by decide +kernel
theorem tri_area : areaZ triS = 24 := by decide +kernel
theorem tri_sorted {ds : List Pt} (h : Sorted triT triF ds) : sumP triT triF ds = triS := by
  have e : ds = triD := by
    have hp : ds.Perm triD := h.1.trans (by decide +kernel)
    refine perm_sorted ds triD hp h.2 (by decide +kernel) ?_
    have hm : ∀ x ∈ triD, ∀ y ∈ triD, ¬ ltA y x → ¬ ltA x y → x = y := by decide +kernel
    exact fun x hx y hy h1 h2 => hm x (hp.mem_iff.1 hx) y (hp.mem_iff.1 hy) h1 h2
  rw [e]
  decide +kernel
end Go.Proofs.Ytbdppephmlkbaaa
