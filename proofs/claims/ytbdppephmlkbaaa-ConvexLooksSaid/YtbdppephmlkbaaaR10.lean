import Derived.Test.YtbdppephmlkbaaaR5
import Derived.Test.YtbdppephmlkbaaaR6
import Derived.Test.YtbdppephmlkbaaaR9
import Derived.Test.YtbdppephmlkbaaaV20
import Derived.Laws.AppendOwnNone
namespace Go.Proofs.Ytbdppephmlkbaaa
set_option maxRecDepth 100000
open Go.RowKit Go.Shelf
attribute [local go_sem] Oper.semAt_some
/-! The law ConvexLooks. -/
/-- a slice without memory is the nil slice -/
def NilOk (v : Value) : Prop := ∀ n cap : Nat, v = .slice none n cap → n = 0 ∧ cap = 0
set_option maxHeartbeats 4000000 in
theorem copied_c (v : Value) (ps : List Pt) (w : World) (hv : Vecs w v ps) (hnl : NilOk v) (h3 : ps.length ≤ 300) :
    Calls Try.prog 9 #[v] w fun e w' => ∃ r, e = .returned r ∧ Vecs w' r ps ∧ Ext w w' := by
  have HV := Lib.hid hv
  obtain ⟨a, cap, rfl, hl, hm, hr⟩ := hv
  obtain ⟨i0, hi0, hz0, hz1, hz2⟩ := info_parts info31
  have HI := Lib.hid hi0
  have HZ0 := Lib.hid hz0
  have HZ1 := Lib.hid hz1
  have HZ2 := Lib.hid hz2
  have hEa := Ext.alloc (Ext.refl w) (.cells #[] 32)
  have HEa := Lib.hid hEa
  have HOA := Lib.hid (World.ownsRow_made (base := w.heap.size) (e := 32) (size := 2) w #[] 0 (Nat.le_refl _) (by unfold maxLen; omega) rfl)
  clear hi0 hz0 hz1 hz2
  cases a with
  | none =>
    obtain ⟨h0, h1⟩ := hnl _ _ rfl
    have hps : ps = [] := List.length_eq_zero_iff.1 h0
    subst hps
    subst h1
    clear hr hl hm h0 hnl hEa h3
    go_enter Try.func9, Try.ntmps9
    go_wp2_with (at_builtin; (refine wpList_append_own_none rfl _ _ 22 rfl w.heap.size 32 i0 2 Try.underlying22 HI.out _ _ _ rfl HOA.out rfl ?_))
    go_ret
    exact ⟨_, rfl, ⟨_, 0, rfl, Nat.le_refl _, by omega, .inl rfl⟩, HEa.out⟩
  | some ad =>
    have HCL := Lib.hid (show ∀ (j : Nat) (u : Value), (cellsOf ps)[j]? = some u → (w.alloc (.cells #[] 32)).cell? (ad.add j) = some u from fun j u hj => by
      rcases hr with hr | ⟨b, off, ha, hc⟩
      · subst hr; simp [cellsOf] at hj
      · injection ha with ha
        subst ha
        exact pts_cells (PtsAt.ext hc hEa) j u hj)
    have hob : ∀ x, Value.ownBlock (.slice (some ⟨w.heap.size, 0, none⟩) 0 0) = some x → w.heap.size ≤ x := fun x e => Nat.le_of_eq (Option.some.inj e)
    clear hr hnl hEa
    go_enter Try.func9, Try.ntmps9
    go_wp2_with (at_builtin; refine wpList_append_own _ rfl _ _ 22 rfl w.heap.size 32 i0 (.agg #[.int .i64 0, .int .i64 0]) 2 16 Try.underlying22 HI.out HZ0.out HZ1.out HZ2.out rfl (by decide) _ _ _ rfl HOA.out ad ps.length cap (cellsOf ps) rfl (cellsOf_length ps) HCL.out cellsOf_one (by unfold maxLen; omega) (by omega) (by simp) ?_; intro v' w' hown' hgrow hnil; have HO4 := Lib.hid hown'; have HG4 := Lib.hid hgrow; clear hown' hgrow hnil)
    go_ret
    refine ⟨_, rfl, vecs_own (base := w.heap.size) ?_ (by omega), Below.grown HEa.out HG4.out (by simp) (fun x e => hob x e)⟩
    have h := HO4.out
    rw [Nat.zero_add, List.nil_append] at h
    exact h
theorem ext_both {ps : List Pt} {x y m1 i1 e1 m2 i2 e2 : Int} (h1 : ExtS ps x y m1 i1 e1) (h2 : ExtS ps x y m2 i2 e2) : m2 = m1 ∧ i2 = i1 ∧ e2 = e1 := by
  rcases h1 with ⟨a1, b1, c1, d1⟩ | ⟨a1, b1, c1, d1⟩
  · rcases h2 with ⟨_, b2, c2, d2⟩ | ⟨a2, _⟩
    · rw [b1, c1, d1, b2, c2, d2]; exact ⟨rfl, rfl, rfl⟩
    · exact absurd a1 a2
  · rcases h2 with ⟨a2, _⟩ | ⟨_, b2, c2, d2⟩
    · exact absurd a2 a1
    · rw [b1, c1, d1, b2, c2, d2]; exact ⟨rfl, rfl, rfl⟩
theorem area_two (ps : List Pt) : ∃ m e : Int, areaR ps = two (.int .i64 m) (.int .i64 e) := by
  unfold areaR
  split
  · exact ⟨_, _, rfl⟩
  · exact ⟨_, _, rfl⟩
theorem place_two (ps : List Pt) (x y : Int) : ∃ m e : Int, placeR ps x y = two (.int .i64 m) (.int .i64 e) := by
  unfold placeR
  split
  · exact ⟨_, _, rfl⟩
  · exact ⟨_, _, rfl⟩
theorem points_three (ps : List Pt) : ∃ m i e : Int, pointsR ps = three (.int .i64 m) (.int .i64 i) (.int .i64 e) := by
  unfold pointsR
  split
  · exact ⟨_, _, _, rfl⟩
  · exact ⟨_, _, _, rfl⟩
set_option maxHeartbeats 8000000 in
theorem looks_law (v : Value) (ps : List Pt) (x y : Int) (w : World) (hv : Vecs w v ps ∧ NilOk v) :
    Calls Try.prog 4 #[v, vecV x y] w fun e w' => e = .returned (.bool true) ∧ Ext w w' := by
  have HV := Lib.hid hv.1
  have HNL := Lib.hid hv.2
  obtain ⟨a1, c1, rfl, hl1, hm1, _⟩ := hv.1.at
  clear hv
  have HE0 := Lib.hid (Ext.alloc (Ext.refl w) (.cells #[.int .i64 x, .int .i64 y] 32))
  have HB := Lib.hid (show VRow (w.alloc (.cells #[.int .i64 x, .int .i64 y] 32)) _ _ _ from vrow_alloc w [.int .i64 x, .int .i64 y] 32)
  go_enter Try.func4, Try.ntmps4
  go_wp2_with fail
  obtain ⟨g, hg⟩ : ∃ g, g = w.heap.size := ⟨_, rfl⟩
  rw [← hg] at HB ⊢
  obtain ⟨w1, hw1⟩ : ∃ w1, w1 = w.alloc (.cells #[.int .i64 x, .int .i64 y] 32) := ⟨_, rfl⟩
  rw [← hw1] at HB HE0 ⊢
  clear hg hw1
  refine (few_c _ _ _ w1 (by omega)).mono ?_
  rintro e w2 ⟨rfl, rfl⟩
  by_cases hf1 : ps.length ≤ 300
  · rw [decide_eq_true hf1]
    go_wp2_with fail
    refine (copied_c _ ps w1 (HV.out.ext HE0.out) HNL.out hf1).mono ?_
    rintro e w2 ⟨r, rfl, hr, hE⟩
    have HE2 := Lib.hid (Ext.trans HE0.out hE)
    have HB2 := Lib.hid (VRow.ext HB.out hE)
    have HR2 := Lib.hid hr
    clear hE hr
    go_wp2_with fail
    refine (Area_c _ ps w2 HR2.out).mono ?_
    rintro e w3 ⟨he, hE⟩
    obtain ⟨m1, e1, h1⟩ := area_two ps
    rw [h1] at he
    subst he
    have HA := Lib.hid h1
    have HE3 := Lib.hid (Ext.trans HE2.out hE)
    have HB3 := Lib.hid (VRow.ext HB2.out hE)
    have HR3 := Lib.hid (HR2.out.ext hE)
    clear hE h1
    unfold two
    go_wp2_with fail
    refine (rArea_c _ ps w3 (HV.out.ext HE3.out)).mono ?_
    rintro e w4 ⟨he, hE⟩
    rw [HA.out] at he
    subst he
    have HE4 := Lib.hid (Ext.trans HE3.out hE)
    have HB4 := Lib.hid (VRow.ext HB3.out hE)
    have HR4 := Lib.hid (HR3.out.ext hE)
    have q1 : (m1 != m1) = false := by simp
    have q2 : (e1 != e1) = false := by simp
    have b0 := VRow.cell HB4.out (k := 0) rfl
    have b1 := VRow.cell HB4.out (k := 1) rfl
    clear hE
    unfold two
    go_wp2_with fail
    refine (show Calls Try.prog 18 #[_, vecV x y] w4 _ from (Place_c _ ps x y w4 HR4.out).mono ?_)
    rintro e w5 ⟨he, hE⟩
    obtain ⟨m2, e2, h1⟩ := place_two ps x y
    rw [h1] at he
    subst he
    have HA2 := Lib.hid h1
    have HE5 := Lib.hid (Ext.trans HE4.out hE)
    have HB5 := Lib.hid (VRow.ext HB4.out hE)
    have HR5 := Lib.hid (HR4.out.ext hE)
    clear hE h1 b0 b1 q1 q2
    have b0 := VRow.cell HB5.out (k := 0) rfl
    have b1 := VRow.cell HB5.out (k := 1) rfl
    unfold two
    go_wp2_with fail
    refine (show Calls Try.prog 19 #[_, vecV x y] w5 _ from (rPlace_c _ ps x y w5 (HV.out.ext HE5.out)).mono ?_)
    rintro e w6 ⟨he, hE⟩
    rw [HA2.out] at he
    subst he
    have HE6 := Lib.hid (Ext.trans HE5.out hE)
    have HB6 := Lib.hid (VRow.ext HB5.out hE)
    have HR6 := Lib.hid (HR5.out.ext hE)
    clear hE b0 b1
    have q1 : (m2 != m2) = false := by simp
    have q2 : (e2 != e2) = false := by simp
    have b0 := VRow.cell HB6.out (k := 0) rfl
    have b1 := VRow.cell HB6.out (k := 1) rfl
    unfold two
    go_wp2_with fail
    refine (show Calls Try.prog 20 #[_, vecV x y] w6 _ from (Extreme_c _ ps x y w6 HR6.out).mono ?_)
    rintro e w7 ⟨m3, i3, e3, rfl, hS, hE⟩
    have HS := Lib.hid hS
    have HE7 := Lib.hid (Ext.trans HE6.out hE)
    have HB7 := Lib.hid (VRow.ext HB6.out hE)
    have HR7 := Lib.hid (HR6.out.ext hE)
    clear hE hS b0 b1 q1 q2
    have b0 := VRow.cell HB7.out (k := 0) rfl
    have b1 := VRow.cell HB7.out (k := 1) rfl
    go_wp2_with fail
    refine (show Calls Try.prog 21 #[_, vecV x y] w7 _ from (rExtreme_c _ ps x y w7 (HV.out.ext HE7.out)).mono ?_)
    rintro e w8 ⟨m4, i4, e4, rfl, hS, hE⟩
    obtain ⟨rfl, rfl, rfl⟩ := ext_both HS.out hS
    have HE8 := Lib.hid (Ext.trans HE7.out hE)
    have HR8 := Lib.hid (HR7.out.ext hE)
    clear hE hS b0 b1 HS
    have q1 : (m4 != m4) = false := by simp
    have q2 : (e4 != e4) = false := by simp
    have q3 : (i4 != i4) = false := by simp
    go_wp2_with fail
    refine (Points_c _ ps w8 HR8.out).mono ?_
    rintro e w9 ⟨he, hE⟩
    obtain ⟨m5, i5, e5, h1⟩ := points_three ps
    rw [h1] at he
    subst he
    have HA3 := Lib.hid h1
    have HE9 := Lib.hid (Ext.trans HE8.out hE)
    have HR9 := Lib.hid (HR8.out.ext hE)
    clear hE h1 q1 q2 q3
    unfold three
    go_wp2_with fail
    refine (rPoints_c _ ps w9 (HV.out.ext HE9.out)).mono ?_
    rintro e w10 ⟨he, hE⟩
    rw [HA3.out] at he
    subst he
    have HE10 := Lib.hid (Ext.trans HE9.out hE)
    have HR10 := Lib.hid (HR9.out.ext hE)
    clear hE
    have q1 : (m5 == m5) = true := by simp
    have q2 : (e5 == e5) = true := by simp
    have q3 : (i5 == i5) = true := by simp
    unfold three
    go_wp2_with fail
    refine (same_c _ _ ps ps w10 HR10.out (HV.out.ext HE10.out)).mono ?_
    rintro e w11 ⟨rfl, hE⟩
    have HE11 := Lib.hid (Ext.trans HE10.out hE)
    rw [decide_eq_true rfl]
    clear hE q1 q2 q3
    go_wp2_with fail
    refine (alive_c w11).mono ?_
    rintro e w12 ⟨rfl, hE⟩
    have HE12 := Lib.hid (Ext.trans HE11.out hE)
    clear hE
    go_wp2_with fail
    go_ret
    exact ⟨rfl, HE12.out⟩
  · rw [decide_eq_false hf1]
    go_wp2_with fail
    refine (alive_c w1).mono ?_
    rintro e w12 ⟨rfl, hE⟩
    have HE12 := Lib.hid (Ext.trans HE0.out hE)
    clear hE
    go_wp2_with fail
    go_ret
    exact ⟨rfl, HE12.out⟩
end Go.Proofs.Ytbdppephmlkbaaa
