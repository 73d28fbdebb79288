import Derived.Test.YtnpebfchojalcaaL3
namespace Go.Proofs.Ytnpebfchojalcaa
set_option maxRecDepth 100000
open Go.RowKit Go.Shelf
theorem dotZ_bump : ∀ (cs ys : List Int) (i : Nat), i < cs.length → cs.length = ys.length → dotZ (bumpZ cs i) ys = dotZ cs ys + ys.getD i 0 := by
  intro cs
  induction cs with
  | nil => intro ys i h; simp at h
  | cons c cs ih =>
    intro ys i h hl
    cases ys with
    | nil => simp at hl
    | cons y ys =>
      cases i with
      | zero =>
        show (c + 1) * y + dotZ cs ys = (c * y + dotZ cs ys) + y
        rw [Int.add_mul]; omega
      | succ i =>
        have := ih ys i (by simpa using h) (by simpa using hl)
        show c * y + dotZ (bumpZ cs i) ys = (c * y + dotZ cs ys) + ys.getD i 0
        omega
def valsZ (ts : List It) : List Int := ts.map (fun t => t.2.2)
def areasZ (ts : List It) : List Int := ts.map (fun t => t.1 * t.2.1)
theorem getD_mapZ {g : It → Int} {ts : List It} {i : Nat} (hi : i < ts.length) : (ts.map g).getD i 0 = g (ts.getD i (0, 0, 0)) := by
  simp [List.getD_eq_getElem?_getD, List.getElem?_map, List.getElem?_eq_getElem hi]
theorem readN_sum {ts : List It} (hok : ts.all itemB = true) : ∀ (f W H : Nat) (s s' : RdS), readN ts f W H s = some s' → s.2.2.length = ts.length →
    dotZ s'.2.2 (valsZ ts) - s'.2.1 = dotZ s.2.2 (valsZ ts) - s.2.1 ∧ s'.2.1 - s.2.1 ≤ bestV ts W H ∧ dotZ s'.2.2 (areasZ ts) - dotZ s.2.2 (areasZ ts) ≤ (W : Int) * (H : Int) := by
  intro f
  induction f with
  | zero => intro W H s s' h; simp [readN] at h
  | succ f ih =>
    intro W H s s' h hl
    obtain ⟨l, v, cs⟩ := s
    have hb := bestV_nonneg ts W H
    have hwh := Int.mul_nonneg (Int.natCast_nonneg W) (Int.natCast_nonneg H)
    cases l with
    | nil => simp [readN] at h
    | cons c rest =>
      obtain ⟨k, m⟩ := c
      simp only [readN] at h
      simp only at hl
      split at h
      · split at h
        · injection h with h; subst h
          refine ⟨rfl, ?_, ?_⟩ <;> simp only <;> omega
        · cases h
      · split at h
        · split at h
          · rename_i ht
            injection h with h; subst h
            simp only [takeB, Bool.and_eq_true, decide_eq_true_eq] at ht
            have hi : m.toNat < ts.length := by omega
            have hp := items_pos hok hi
            have hfit := fits_iff ht.2
            have hv := bestV_item hi ht.2
            have e1 := dotZ_bump cs (valsZ ts) m.toNat (by omega) (by rw [valsZ, List.length_map]; exact hl)
            have e2 := dotZ_bump cs (areasZ ts) m.toNat (by omega) (by rw [areasZ, List.length_map]; exact hl)
            rw [show (valsZ ts).getD m.toNat 0 = _ from getD_mapZ hi] at e1
            rw [show (areasZ ts).getD m.toNat 0 = _ from getD_mapZ hi] at e2
            have hm := Int.mul_le_mul hfit.1 hfit.2 (by omega) (by omega)
            simp only
            refine ⟨by omega, by omega, by omega⟩
          · cases h
        · split at h
          · rename_i h2
            rw [Option.bind_eq_some_iff] at h
            obtain ⟨s1, h1, h3⟩ := h
            have hq := readN_ok hok _ _ _ _ _ h1
            obtain ⟨a1, a2, a3⟩ := ih _ _ _ _ h1 hl
            obtain ⟨b1, b2, b3⟩ := ih _ _ _ _ h3 (hq.2.2.2.1.trans hl)
            have hw := bestV_wide (items := ts) (h := H) (x := m.toNat) (w := W) (by omega) (by omega)
            have hm : ((m.toNat : Nat) : Int) * (H : Int) + ((W - m.toNat : Nat) : Int) * (H : Int) = (W : Int) * (H : Int) := by rw [← Int.add_mul]; congr 1; omega
            simp only at a1 a2 a3 ⊢
            refine ⟨by omega, by omega, by omega⟩
          · split at h
            · rename_i h2
              rw [Option.bind_eq_some_iff] at h
              obtain ⟨s1, h1, h3⟩ := h
              have hq := readN_ok hok _ _ _ _ _ h1
              obtain ⟨a1, a2, a3⟩ := ih _ _ _ _ h1 hl
              obtain ⟨b1, b2, b3⟩ := ih _ _ _ _ h3 (hq.2.2.2.1.trans hl)
              have hw := bestV_high (items := ts) (w := W) (y := m.toNat) (h := H) (by omega) (by omega)
              have hm : (W : Int) * ((m.toNat : Nat) : Int) + (W : Int) * ((H - m.toNat : Nat) : Int) = (W : Int) * (H : Int) := by rw [← Int.mul_add]; congr 1; omega
              simp only at a1 a2 a3 ⊢
              refine ⟨by omega, by omega, by omega⟩
            · cases h
theorem read_plan (ts : List It) : ∀ (f' W H f : Nat) (tail : List Ct) (v : Int) (cs : List Int), W + H < f' → (planN ts f' W H).length ≤ f →
    ∃ cs', readN ts f W H (planN ts f' W H ++ tail, v, cs) = some (tail, v + bestV ts W H, cs') := by
  intro f'
  induction f' with
  | zero => intro W H f tail v cs h; omega
  | succ f' ih =>
    intro W H f tail v cs hf hl
    have hbv : bestV ts W H = (bestC ts W H).1 := rfl
    rcases bestC_is ts W H with e | ⟨j, hj, hfit, e⟩ | ⟨x, h1, h2, e⟩ | ⟨y, h1, h2, e⟩
    · simp only [planN, e] at hl ⊢
      cases f with
      | zero => simp at hl
      | succ f =>
        refine ⟨cs, ?_⟩
        simp [readN, hbv, e]
    · simp only [planN, e] at hl ⊢
      cases f with
      | zero => simp at hl
      | succ f =>
        refine ⟨bumpZ cs j, ?_⟩
        have ht : takeB ts W H (j : Int) = true := by
          simp only [takeB, Bool.and_eq_true, decide_eq_true_eq]
          exact ⟨⟨by omega, by omega⟩, by rw [Int.toNat_natCast]; exact hfit⟩
        simp [readN, hbv, e, ht]
    · simp only [planN, e] at hl ⊢
      simp only [if_true, Int.toNat_natCast, List.length_cons, List.length_append] at hl ⊢
      cases f with
      | zero => omega
      | succ f =>
        obtain ⟨cs1, i1⟩ := ih x H f (planN ts f' (W - x) H ++ tail) v cs (by omega) (by omega)
        obtain ⟨cs2, i2⟩ := ih (W - x) H f tail (v + bestV ts x H) cs1 (by omega) (by omega)
        refine ⟨cs2, ?_⟩
        rw [List.cons_append, List.append_assoc]
        simp only [readN]
        rw [if_neg (by decide), if_neg (by decide), if_pos ⟨trivial, by omega, by omega⟩, Int.toNat_natCast, i1, Option.bind_some, i2]
        rw [hbv, e]
        simp only [Int.add_assoc]
    · simp only [planN, e] at hl ⊢
      simp only [Int.toNat_natCast, List.length_cons, List.length_append, if_true, show ((3 : Int) = 2) = False by simp, if_false] at hl ⊢
      cases f with
      | zero => omega
      | succ f =>
        obtain ⟨cs1, i1⟩ := ih W y f (planN ts f' W (H - y) ++ tail) v cs (by omega) (by omega)
        obtain ⟨cs2, i2⟩ := ih W (H - y) f tail (v + bestV ts W y) cs1 (by omega) (by omega)
        refine ⟨cs2, ?_⟩
        rw [List.cons_append, List.append_assoc]
        simp only [readN]
        rw [if_neg (by decide), if_neg (by decide), if_neg (fun h => by have := h.1; simp at this), if_pos ⟨trivial, by omega, by omega⟩, Int.toNat_natCast, i1, Option.bind_some, i2]
        rw [hbv, e]
        simp only [Int.add_assoc]
end Go.Proofs.Ytnpebfchojalcaa
