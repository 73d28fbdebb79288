import Derived.Test.YtbdppephmlkbaaaR4a
import Derived.Test.YtbdppephmlkbaaaR2a
import Derived.Test.YtbdppephmlkbaaaV24
import Derived.Test.YtbdppephmlkbaaaV20
import Derived.Laws.AppendOwnNone
import Derived.Test.YtbdppephmlkbaaaV17
namespace Go.Proofs.Ytbdppephmlkbaaa
set_option maxRecDepth 100000
open Go.RowKit Go.Shelf
attribute [local go_sem] Oper.semAt_some
/-! The law's copy. -/
/-- a slice without memory is the nil slice -/
def NilO (v : Value) : Prop := ∀ n cap : Nat, v = .slice none n cap → n = 0 ∧ cap = 0
set_option maxHeartbeats 4000000 in
theorem copyd_c (v : Value) (ps : List Pt) (w : World) (hv : Vecs w v ps) (hnl : NilO v) (h3 : ps.length ≤ 300) :
    Calls Try.prog 9 #[v] w fun e w' => ∃ r, e = .returned r ∧ Vecs w' r ps ∧ Ext w w' := by
  have HV := Lib.hid hv
  obtain ⟨a, cap, rfl, hl, hm, hr⟩ := hv
  obtain ⟨i0, hi0, hz0, hz1, hz2⟩ := info_parts info31
  have HI := Lib.hid hi0
  have HZ0 := Lib.hid hz0
  have HZ1 := Lib.hid hz1
  have HZ2 := Lib.hid hz2
  have hEa := Ext.alloc (Ext.refl w) (.cells #[] 32)
  have HEa := Lib.hid hEa
  have HOA := Lib.hid (World.ownsRow_made (base := w.heap.size) (e := 32) (size := 2) w #[] 0 (Nat.le_refl _) (by unfold maxLen; omega) rfl)
  clear hi0 hz0 hz1 hz2
  cases a with
  | none =>
    obtain ⟨h0, h1⟩ := hnl _ _ rfl
    have hps : ps = [] := List.length_eq_zero_iff.1 h0
    subst hps
    subst h1
    clear hr hl hm h0 hnl hEa h3
    go_enter Try.func9, Try.ntmps9
    go_wp2_with (at_builtin; (refine wpList_append_own_none rfl _ _ 22 rfl w.heap.size 32 i0 2 Try.underlying22 HI.out _ _ _ rfl HOA.out rfl ?_))
    go_ret
    exact ⟨_, rfl, ⟨_, 0, rfl, Nat.le_refl _, by omega, .inl rfl⟩, HEa.out⟩
  | some ad =>
    have HCL := Lib.hid (show ∀ (j : Nat) (u : Value), (cellsOf ps)[j]? = some u → (w.alloc (.cells #[] 32)).cell? (ad.add j) = some u from fun j u hj => by
      rcases hr with hr | ⟨b, off, ha, hc⟩
      · subst hr; simp [cellsOf] at hj
      · injection ha with ha
        subst ha
        exact pts_cells (PtsAt.ext hc hEa) j u hj)
    have hob : ∀ x, Value.ownBlock (.slice (some ⟨w.heap.size, 0, none⟩) 0 0) = some x → w.heap.size ≤ x := fun x e => Nat.le_of_eq (Option.some.inj e)
    clear hr hnl hEa
    go_enter Try.func9, Try.ntmps9
    go_wp2_with (at_builtin; refine wpList_append_own _ rfl _ _ 22 rfl w.heap.size 32 i0 (.agg #[.int .i64 0, .int .i64 0]) 2 16 Try.underlying22 HI.out HZ0.out HZ1.out HZ2.out rfl (by decide) _ _ _ rfl HOA.out ad ps.length cap (cellsOf ps) rfl (cellsOf_length ps) HCL.out cellsOf_one (by unfold maxLen; omega) (by omega) (by simp) ?_; intro v' w' hown' hgrow hnil; have HO4 := Lib.hid hown'; have HG4 := Lib.hid hgrow; clear hown' hgrow hnil)
    go_ret
    refine ⟨_, rfl, vecs_own (base := w.heap.size) ?_ (by omega), Below.grown HEa.out HG4.out (by simp) (fun x e => hob x e)⟩
    have h := HO4.out
    rw [Nat.zero_add, List.nil_append] at h
    exact h
end Go.Proofs.Ytbdppephmlkbaaa

namespace Go.Proofs.Ytbdppephmlkbaaa
set_option maxRecDepth 100000
open Go.RowKit Go.Shelf
attribute [local go_sem] Oper.semAt_some
/-! What the law spoils. -/
set_option maxHeartbeats 4000000 in
theorem spoils_c (v : Value) (base n : Nat) (xs : List Value) (w : World) (hO : w.ownsRow base 32 2 v n xs) (hn : n ≤ 1000) :
    Calls Try.prog 15 #[v] w fun e w' => (∃ u, e = .returned u) ∧ Held (fun j => j < w.heap.size ∧ v.ownBlock ≠ some j) w w' := by
  rcases hO.2 with ⟨rfl, rfl⟩ | ⟨g, cap, cur, rfl, hb, hc, hnc, hcm, hsz, _⟩
  · clear hO
    go_enter Try.func15, Try.ntmps15
    go_wp2_with fail
    go_loopw [2] (fun i wr => i = .int .i64 0 ∧ wr = w) (fun _ _ => 0)
    case atStart => exact ⟨rfl, rfl⟩
    case round =>
      obtain ⟨rfl, rfl⟩ := hrel
      go_wp2_with fail
      go_end0
      exact ⟨⟨_, rfl⟩, Held.refl _ _⟩
  · have HU := Lib.hid (show VRow w g 32 cur.toList from by unfold VRow; rw [hc])
    have hul : cur.toList.length = cap * 2 := by simpa using hsz
    generalize cur.toList = us at *
    obtain ⟨S, hS⟩ : ∃ S, S = fun j => j < w.heap.size ∧ Value.ownBlock (.slice (some ⟨g, 0, none⟩) n cap) ≠ some j := ⟨_, rfl⟩
    rw [← hS]
    have HS := Lib.hid (show ∀ j, S j → j ≠ g from fun j hj e => by rw [hS] at hj; exact hj.2 (by rw [e]; rfl))
    clear hS
    have HUL := Lib.hid hul
    have HB := Lib.hid hnc
    have hcm' : cap ≤ 9223372036854775807 := by unfold maxLen at hcm; omega
    clear hO hc hsz hb hul hcm
    go_enter Try.func15, Try.ntmps15
    go_wp2_with fail
    go_loopw [2] (fun i wr => ∃ k : Nat, i = .int .i64 (k : Int) ∧ k ≤ n ∧ (∃ us, us.length = cap * 2 ∧ VRow wr g 32 us) ∧ Held S w wr) (fun i _ => n - (intOf i).toNat)
    case atStart => exact ⟨0, rfl, Nat.zero_le _, ⟨us, HUL.out, HU.out⟩, Held.refl _ _⟩
    case round =>
      rename World => wr
      obtain ⟨k, rfl, hk, ⟨us, hl, hV⟩, hH⟩ := hrel
      have HV := Lib.hid hV
      have HH := Lib.hid hH
      have HL := Lib.hid hl
      clear hH
      by_cases hlt : k < n
      · have hkz : (k : Int) < (n : Int) := by omega
        obtain ⟨u0, hu0⟩ := getElem?_len (show k * 2 < us.length by omega)
        obtain ⟨u1, hu1⟩ := getElem?_len (show k * 2 + 1 < us.length by omega)
        have m0 := VRow.cell hV hu0
        have m1 := VRow.cell hV hu1
        have f0 := VRow.frozen hV (k * 2) none
        have hcb := cell_lt m0
        clear hu0 hu1 hV hl
        go_wp2_with fail
        refine ⟨⟨k + 1, by simp, by omega, ⟨us.set (k * 2) (.int .i64 9999), by rw [List.length_set]; exact HL.out, VRow.set HV.out _ _⟩, HH.out.trans (Held.set _ _ _ fun j hj => HS.out j hj)⟩, by simp [intOf]; omega⟩
      · have hkz : ¬ (k : Int) < (n : Int) := by omega
        clear hV hl
        go_wp2_with fail
        go_end0
        exact ⟨⟨_, rfl⟩, HH.out⟩
theorem own_ltS {w : World} {base n j : Nat} {v : Value} {xs : List Value} (h : w.ownsRow base 32 2 v n xs) (hj : v.ownBlock = some j) : j < w.heap.size := by
  rcases h.2 with ⟨rfl, _⟩ | ⟨g, cap, cur, rfl, _, hc, _⟩
  · cases hj
  · injection hj with hj
    subst hj
    exact (Array.getElem?_eq_some_iff.1 hc).1
theorem spoils_ext {a w w' : World} {c n : Nat} {v : Value} {xs : List Value} (hv : w.ownsRow c 32 2 v n xs) (hc : a.heap.size ≤ c) (he : Ext a w) (hH : Held (fun j => j < w.heap.size ∧ v.ownBlock ≠ some j) w w') : Ext a w' :=
  Below.trans he ⟨hH.os, hH.tape, hH.output, hH.size, fun j hj => hH.block j ⟨Nat.lt_of_lt_of_le hj he.size, fun e => by have := own_block hv e; omega⟩⟩
end Go.Proofs.Ytbdppephmlkbaaa
