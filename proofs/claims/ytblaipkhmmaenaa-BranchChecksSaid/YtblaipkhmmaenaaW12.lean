import Derived.Test.YtblaipkhmmaenaaW7
import Derived.Deep.RegionWith
namespace Go.Proofs.Ytblaipkhmmaenaa
open Go.RowKit
theorem properP {x : Pnt} {n : Nat} (h : properB x n = true) : 1 ≤ x.Den ∧ x.Den ≤ 1125899906842624 := by
  simp only [properB, Bool.and_eq_true, decide_eq_true_eq] at h
  exact ⟨h.1.1.2, h.1.2⟩
theorem wrap64_bd (a : Int) : -9223372036854775808 ≤ wrap64 a ∧ wrap64 a ≤ 9223372036854775807 := by unfold wrap64; omega
theorem withinAll {l : List Int} {m : Int} (h : l.all (withinB m) = true) : ∀ x ∈ l, -m ≤ x ∧ x ≤ m := by
  intro x hx
  rw [List.all_eq_true] at h
  have := h x hx
  simpa [withinB] using this
theorem abs_mul_le {a b m n : Int} (h1 : -m ≤ a) (h2 : a ≤ m) (h3 : -n ≤ b) (h4 : b ≤ n) : -(m * n) ≤ a * b ∧ a * b ≤ m * n := by
  have hm : (0 : Int) ≤ m := by omega
  have hn : (0 : Int) ≤ n := by omega
  have e1 : (a * b).natAbs ≤ (m * n).natAbs := by
    rw [Int.natAbs_mul, Int.natAbs_mul]
    exact Nat.mul_le_mul (by omega) (by omega)
  have e2 : 0 ≤ m * n := Int.mul_nonneg hm hn
  omega
theorem dotZ_bd (m n : Int) (hm : 0 ≤ m) (hn : 0 ≤ n) : ∀ (xs ys : List Int), (∀ x ∈ xs, -m ≤ x ∧ x ≤ m) → (∀ y ∈ ys, -n ≤ y ∧ y ≤ n) → -(xs.length * (m * n)) ≤ dotZ xs ys ∧ dotZ xs ys ≤ xs.length * (m * n) := by
  intro xs
  induction xs with
  | nil => intro ys _ _; simp [dotZ]
  | cons x xs ih =>
    intro ys hx hy
    cases ys with
    | nil =>
      have : 0 ≤ (((x :: xs).length : Nat) : Int) * (m * n) := Int.mul_nonneg (by omega) (Int.mul_nonneg hm hn)
      simp only [dotZ]; omega
    | cons y ys =>
      have h1 := ih ys (fun a ha => hx a (by simp [ha])) (fun a ha => hy a (by simp [ha]))
      have h2 := abs_mul_le (hx x (by simp)).1 (hx x (by simp)).2 (hy y (by simp)).1 (hy y (by simp)).2
      have e : (((x :: xs).length : Nat) : Int) * (m * n) = m * n + (xs.length : Int) * (m * n) := by
        rw [List.length_cons, Int.natCast_add, Int.add_mul]; omega
      rw [e]
      simp only [dotZ]
      omega
theorem value_fit {p : Prg} {x : Pnt} (h : programB p = true) (h2 : properB x p.C.length = true) : wrap64 (dotZ p.C x.Num) = dotZ p.C x.Num ∧ -9223372036854775808 < dotZ p.C x.Num := by
  have hC : ∀ c ∈ p.C, -1000 ≤ c ∧ c ≤ 1000 := by
    simp only [programB, costsB, Bool.and_eq_true] at h
    exact withinAll h.2.2
  have hX : ∀ c ∈ x.Num, -1125899906842624 ≤ c ∧ c ≤ 1125899906842624 := by
    simp only [properB, Bool.and_eq_true] at h2
    exact withinAll h2.2
  have hl := (pB h).2.1
  have := dotZ_bd 1000 1125899906842624 (by omega) (by omega) p.C x.Num hC hX
  have e : (p.C.length : Int) * (1000 * 1125899906842624) ≤ 6 * (1000 * 1125899906842624) := Int.mul_le_mul_of_nonneg_right (by omega) (by omega)
  constructor
  · unfold wrap64; omega
  · omega
def valueN (p : Prg) (x : Pnt) : Int := (dotZ p.C x.Num).tdiv (gcdL x.Den [dotZ p.C x.Num])
def valueD (p : Prg) (x : Pnt) : Int := x.Den.tdiv (gcdL x.Den [dotZ p.C x.Num])
def ValueOut (p : Prg) (x : Pnt) (w0 : World) (e : Ending) (w : World) : Prop :=
  ((programB p && properB x p.C.length) = true ∧ ∃ g t, e = .returned (.tuple #[.agg #[.slice (some ⟨g, 0, none⟩) 1 1, .int .i64 (valueD p x)], .int .i64 0]) ∧ IRow w g t [valueN p x] ∧ Ext w0 w) ∨
  ((programB p && properB x p.C.length) = false ∧ e = .returned (.tuple #[.agg #[.slice none 0 0, .int .i64 0], .int .i64 2]) ∧ Ext w0 w)
theorem res_later {w3 w4 : World} {b : Nat} {o : Obj} {vs : List Value} (h : VRow w3 b 68 vs) (hg : (w3.drew.alloc o).grownBy w4 (some w3.heap.size)) (hlt : b < w3.heap.size) : VRow w4 b 68 vs :=
  VRow.grown (VRow.alloc (VRow.drew h) o) hg (fun e => by injection e with e; omega)
theorem res_cells {w : World} {b : Nat} {x y : Value} (h : VRow w b 68 [x, y]) : w.cell? ⟨b, 0, none⟩ = some x ∧ w.cell? ⟨b, 1, none⟩ = some y ∧ w.frozen? ⟨b, 0, none⟩ = false ∧ w.frozen? ⟨b, 1, none⟩ = false :=
  ⟨VRow.cell h (k := 0) rfl, VRow.cell h (k := 1) rfl, VRow.frozen h 0 none, VRow.frozen h 1 none⟩
theorem value_end {w w3 w4 : World} {d : Int} {U D : Value} {T : TypeId} {o : Obj} (h1 : Ext w w3) (h2 : VRow w3 (w.heap.size + 1 + 1) 68 [.slice none 0 0, .int .i64 0]) (h3 : (w3.drew.alloc o).grownBy w4 (some w3.heap.size)) (h4 : IRow w4 w3.heap.size T [d]) (hlt : w.heap.size + 1 + 1 < w3.heap.size) :
    ((w4.setCell ⟨w.heap.size + 1 + 1, 0, none⟩ U).setCell ⟨w.heap.size + 1 + 1, 1, none⟩ D).cell? ⟨w.heap.size + 1 + 1, 0, none⟩ = some U ∧
    ((w4.setCell ⟨w.heap.size + 1 + 1, 0, none⟩ U).setCell ⟨w.heap.size + 1 + 1, 1, none⟩ D).cell? ⟨w.heap.size + 1 + 1, 1, none⟩ = some D ∧
    IRow ((w4.setCell ⟨w.heap.size + 1 + 1, 0, none⟩ U).setCell ⟨w.heap.size + 1 + 1, 1, none⟩ D) w3.heap.size T [d] ∧
    Ext w ((w4.setCell ⟨w.heap.size + 1 + 1, 0, none⟩ U).setCell ⟨w.heap.size + 1 + 1, 1, none⟩ D) := by
  have hr := VRow.set (VRow.set (res_later h2 h3 hlt) 0 U) 1 D
  refine ⟨VRow.cell hr (k := 0) rfl, VRow.cell hr (k := 1) rfl, VRow.setOther (VRow.setOther h4 (by simp; omega) _) (by simp; omega) _, ?_⟩
  have e1 : Ext w (w3.drew.alloc o) := Ext.alloc (Ext.drew h1) o
  have e2 : Ext w w4 := below_grown e1 h3 e1.size h1.size
  exact (e2.setCell (by simp; omega) _).setCell (by simp; omega) _
theorem low1 (w : World) (T : TypeId) (d den : Int) (h1 : 1 ≤ den) (h2 : den ≤ 9223372036854775807) (h3 : -9223372036854775808 < d) (h4 : d ≤ 9223372036854775807) :
    Calls Try.prog 44 #[.slice (some ⟨w.heap.size, 0, none⟩) 1 1, .int .i64 den] (w.alloc (.cells #[.int .i64 d] T)) fun e w' => e = .returned (.agg #[.slice (some ⟨w.heap.size, 0, none⟩) 1 1, .int .i64 (den.tdiv (gcdL den [d]))]) ∧ IRow w' w.heap.size T [d.tdiv (gcdL den [d])] ∧ (w.alloc (.cells #[.int .i64 d] T)).grownBy w' (some w.heap.size) := by
  have := lowest_c w.heap.size 1 T den [d] (w.alloc (.cells #[.int .i64 d] T)) (vrow_alloc w [.int .i64 d] T) (by simp) h1 h2 (fun x hx => by simp at hx; subst hx; exact ⟨h3, h4⟩)
  simpa using this
set_option maxHeartbeats 1000000 in
theorem value_c (a b c v : Value) (p : Prg) (x : Pnt) (w : World) (hp : PrgAt w a b c p) (hx : Ints w v x.Num) :
    Calls Try.prog 31 #[.agg #[a, b, c], .agg #[v, .int .i64 x.Den]] w (ValueOut p x w) := by
  have hB := Boxes.mk2 hp hx
  obtain ⟨az, cz, rfl, _, _, _⟩ := hp.2.2.at
  clear hp hx
  go_enter Try.func31, Try.ntmps31
  go_wp2_with fail
  have hs1 : ((w.alloc (Obj.cells #[a, b, (.slice az p.C.length cz)] 65)).alloc (Obj.cells #[v, .int .i64 x.Den] 68)).heap.size = w.heap.size + 1 + 1 := by simp
  have hr := vrow_alloc ((w.alloc (Obj.cells #[a, b, (.slice az p.C.length cz)] 65)).alloc (Obj.cells #[v, .int .i64 x.Den] 68)) [.slice none 0 0, .int .i64 0] 68
  rw [hs1] at hr
  have hB2 := hB.later (Ext.alloc (Ext.refl _) (.cells #[.slice none 0 0, .int .i64 0] 68))
  change Calls _ _ _ (((w.alloc (Obj.cells #[a, b, (.slice az p.C.length cz)] 65)).alloc (Obj.cells #[v, .int .i64 x.Den] 68)).alloc (.cells [Value.slice none 0 0, Value.int IntKind.i64 0].toArray 68)) _
  generalize (((w.alloc (Obj.cells #[a, b, (.slice az p.C.length cz)] 65)).alloc (Obj.cells #[v, .int .i64 x.Den] 68)).alloc (.cells [Value.slice none 0 0, Value.int IntKind.i64 0].toArray 68)) = w1 at *
  have HB := Lib.hid hB2
  have HR := Lib.hid hr
  clear hB hB2 hr hs1
  refine (validProgram_c _ _ _ p _ HB.out.prg).mono ?_
  rintro e w2 ⟨rfl, hE2⟩
  have HB2 := Lib.hid (HB.out.later hE2)
  have HR2 := Lib.hid (VRow.ext HR.out hE2)
  clear hE2 HB HR
  cases hv : programB p
  · have hv' := Lib.hid hv
    clear hv
    have hfin := VRow.set (VRow.set HR2.out 0 (.slice none 0 0)) 1 (.int .i64 0)
    have HEx := Lib.hid (((HB2.out.ext).setCell (p := ⟨w.heap.size + 1 + 1, 0, none⟩) (by simp; omega) (.slice none 0 0)).setCell (p := ⟨w.heap.size + 1 + 1, 1, none⟩) (by simp; omega) (.int .i64 0))
    have q0 := VRow.cell HR2.out (k := 0) rfl
    have q1 := VRow.cell HR2.out (k := 1) rfl
    have qf0 := VRow.frozen HR2.out 0 none
    have qf1 := VRow.frozen HR2.out 1 none
    go_wp2
    generalize (w2.setCell { block := w.heap.size + 1 + 1, off := 0 } (Value.slice none 0 0)).setCell { block := w.heap.size + 1 + 1, off := 1 } (Value.int IntKind.i64 0) = WF at *
    have c0 := VRow.cell hfin (k := 0) rfl
    have c1 := VRow.cell hfin (k := 1) rfl
    refine bodyPost_ret (v := .tuple #[.agg #[.slice none 0 0, .int .i64 0], .int .i64 2]) (by simp [results, Try.results31, go_sem, c0, c1]) rfl (Or.inr ⟨by simp [hv'.out], rfl, HEx.out⟩)
  · have hv' := Lib.hid hv
    clear hv
    have q0 := HB2.out.c2
    have q1 := HB2.out.d0
    have q2 := HB2.out.d1
    go_wp2_with fail
    clear q0 q1 q2
    refine (proper_c _ x _ _ HB2.out.num).mono ?_
    rintro e w3 ⟨rfl, hE3⟩
    have HB3 := Lib.hid (HB2.out.later hE3)
    have HR3 := Lib.hid (VRow.ext HR2.out hE3)
    clear hE3 HB2 HR2
    cases hx : properB x p.C.length
    · have hx' := Lib.hid hx
      clear hx
      have hfin := VRow.set (VRow.set HR3.out 0 (.slice none 0 0)) 1 (.int .i64 0)
      have HEx := Lib.hid (((HB3.out.ext).setCell (p := ⟨w.heap.size + 1 + 1, 0, none⟩) (by simp; omega) (.slice none 0 0)).setCell (p := ⟨w.heap.size + 1 + 1, 1, none⟩) (by simp; omega) (.int .i64 0))
      have q0 := VRow.cell HR3.out (k := 0) rfl
      have q1 := VRow.cell HR3.out (k := 1) rfl
      have qf0 := VRow.frozen HR3.out 0 none
      have qf1 := VRow.frozen HR3.out 1 none
      go_wp2
      generalize (w3.setCell { block := w.heap.size + 1 + 1, off := 0 } (Value.slice none 0 0)).setCell { block := w.heap.size + 1 + 1, off := 1 } (Value.int IntKind.i64 0) = WF at *
      have c0 := VRow.cell hfin (k := 0) rfl
      have c1 := VRow.cell hfin (k := 1) rfl
      refine bodyPost_ret (v := .tuple #[.agg #[.slice none 0 0, .int .i64 0], .int .i64 2]) (by simp [results, Try.results31, go_sem, c0, c1]) rfl (Or.inr ⟨by simp [hx'.out], rfl, HEx.out⟩)
    · have hx' := Lib.hid hx
      clear hx
      have q0 := HB3.out.c2
      have q1 := HB3.out.d0
      have q2 := HB3.out.d1
      go_wp2_with fail
      have HF := Lib.hid (value_fit hv'.out hx'.out)
      have hb := Lib.hid (wrap64_bd (dotZ p.C x.Num))
      have HD := Lib.hid (properP hx'.out)
      have HW := Lib.hid (VRow.drew HR3.out)
      have HDC := Lib.hid (dot_c (.slice az p.C.length cz) v p.C x.Num w3.drew (HB3.out.prg.2.2.ext (Ext.refl _).drew) (HB3.out.num.ext (Ext.refl _).drew) (c_le (by simp [hv'.out, hx'.out])))
      have HLO := Lib.hid (low1 w3.drew 3 (dotZ p.C x.Num) x.Den HD.out.1 (by have := HD.out.2; omega) HF.out.2 (by have := HF.out.1; have := hb.out.2; omega))
      have hlt : w.heap.size + 1 + 1 < w3.heap.size := VRow.lt HR3.out
      have hlt2 : w.heap.size + 1 < w3.heap.size := by omega
      go_region_with (first | (go_at_call 45; refine HDC.out.mono ?_; rintro e w' ⟨rfl, rfl⟩; rw [HF.out.1]) | (go_at_call 44; refine HLO.out.mono ?_; rintro e w4 ⟨rfl, hlow, hgr⟩; have HL := Lib.hid hlow; have HG := Lib.hid hgr; have HR4 := Lib.hid (res_later HR3.out hgr hlt); clear hlow hgr; obtain ⟨r0, r1, r2, r3⟩ := res_cells HR4.out))
      all_goals go_wp2
      all_goals
        obtain ⟨z1, z2, z3, z4⟩ := value_end (U := .slice (some ⟨w3.heap.size, 0, none⟩) 1 1) (D := .int .i64 (x.Den.tdiv (gcdL x.Den [dotZ p.C x.Num]))) HB3.out.ext HR3.out HG.out HL.out hlt
        generalize (w4.setCell { block := w.heap.size + 1 + 1, off := 0 } (Value.slice (some ⟨w3.heap.size, 0, none⟩) 1 1)).setCell { block := w.heap.size + 1 + 1, off := 1 } (Value.int IntKind.i64 (x.Den.tdiv (gcdL x.Den [dotZ p.C x.Num]))) = WF at *
        exact bodyPost_ret (v := .tuple #[.agg #[.slice (some ⟨w3.heap.size, 0, none⟩) 1 1, .int .i64 (x.Den.tdiv (gcdL x.Den [dotZ p.C x.Num]))], .int .i64 0]) (by simp [results, Try.results31, go_sem, z1, z2]) rfl (Or.inl ⟨by simp [hv'.out, hx'.out], _, _, rfl, z3, z4⟩)
end Go.Proofs.Ytblaipkhmmaenaa
