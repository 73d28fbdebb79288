import Derived.Test.YtbdppephmlkbaaaR4b
import Derived.Test.YtbdppephmlkbaaaR2b
import Derived.Test.YtbdppephmlkbaaaV24
import Derived.Test.YtbdppephmlkbaaaV20
import Derived.Laws.AppendOwnNone
namespace Go.Proofs.Ytbdppephmlkbaaa
set_option maxRecDepth 100000
open Go.RowKit Go.Shelf
attribute [local go_sem] Oper.semAt_some
/-! The law's copy. -/
/-- a slice without memory is the nil slice -/
def NilO (v : Value) : Prop := ∀ n cap : Nat, v = .slice none n cap → n = 0 ∧ cap = 0
set_option maxHeartbeats 4000000 in
theorem copyd_c (v : Value) (ps : List Pt) (w : World) (hv : Vecs w v ps) (hnl : NilO v) (h3 : ps.length ≤ 300) :
    Calls Try.prog 9 #[v] w fun e w' => ∃ r, e = .returned r ∧ Vecs w' r ps ∧ Ext w w' := by
  have HV := Lib.hid hv
  obtain ⟨a, cap, rfl, hl, hm, hr⟩ := hv
  obtain ⟨i0, hi0, hz0, hz1, hz2⟩ := info_parts info31
  have HI := Lib.hid hi0
  have HZ0 := Lib.hid hz0
  have HZ1 := Lib.hid hz1
  have HZ2 := Lib.hid hz2
  have hEa := Ext.alloc (Ext.refl w) (.cells #[] 32)
  have HEa := Lib.hid hEa
  have HOA := Lib.hid (World.ownsRow_made (base := w.heap.size) (e := 32) (size := 2) w #[] 0 (Nat.le_refl _) (by unfold maxLen; omega) rfl)
  clear hi0 hz0 hz1 hz2
  cases a with
  | none =>
    obtain ⟨h0, h1⟩ := hnl _ _ rfl
    have hps : ps = [] := List.length_eq_zero_iff.1 h0
    subst hps
    subst h1
    clear hr hl hm h0 hnl hEa h3
    go_enter Try.func9, Try.ntmps9
    go_wp2_with (at_builtin; (refine wpList_append_own_none rfl _ _ 22 rfl w.heap.size 32 i0 2 Try.underlying22 HI.out _ _ _ rfl HOA.out rfl ?_))
    go_ret
    exact ⟨_, rfl, ⟨_, 0, rfl, Nat.le_refl _, by omega, .inl rfl⟩, HEa.out⟩
  | some ad =>
    have HCL := Lib.hid (show ∀ (j : Nat) (u : Value), (cellsOf ps)[j]? = some u → (w.alloc (.cells #[] 32)).cell? (ad.add j) = some u from fun j u hj => by
      rcases hr with hr | ⟨b, off, ha, hc⟩
      · subst hr; simp [cellsOf] at hj
      · injection ha with ha
        subst ha
        exact pts_cells (PtsAt.ext hc hEa) j u hj)
    have hob : ∀ x, Value.ownBlock (.slice (some ⟨w.heap.size, 0, none⟩) 0 0) = some x → w.heap.size ≤ x := fun x e => Nat.le_of_eq (Option.some.inj e)
    clear hr hnl hEa
    go_enter Try.func9, Try.ntmps9
    go_wp2_with (at_builtin; refine wpList_append_own _ rfl _ _ 22 rfl w.heap.size 32 i0 (.agg #[.int .i64 0, .int .i64 0]) 2 16 Try.underlying22 HI.out HZ0.out HZ1.out HZ2.out rfl (by decide) _ _ _ rfl HOA.out ad ps.length cap (cellsOf ps) rfl (cellsOf_length ps) HCL.out cellsOf_one (by unfold maxLen; omega) (by omega) (by simp) ?_; intro v' w' hown' hgrow hnil; have HO4 := Lib.hid hown'; have HG4 := Lib.hid hgrow; clear hown' hgrow hnil)
    go_ret
    refine ⟨_, rfl, vecs_own (base := w.heap.size) ?_ (by omega), Below.grown HEa.out HG4.out (by simp) (fun x e => hob x e)⟩
    have h := HO4.out
    rw [Nat.zero_add, List.nil_append] at h
    exact h
end Go.Proofs.Ytbdppephmlkbaaa
