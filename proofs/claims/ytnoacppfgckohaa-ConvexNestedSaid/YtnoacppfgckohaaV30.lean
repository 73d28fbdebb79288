import Derived.Test.YtnoacppfgckohaaV29
import Derived.Laws.Cover3
namespace Go.Proofs.Ytnoacppfgckohaa
open Go.RowKit Go.Shelf
attribute [local go_sem] Oper.semAt_some
theorem eql_some (w : World) (a : Addr) (n c : Nat) : (binOp .eql 22 (.slice (some a) n c) (.slice none 0 0)).run Try.prog w = .ok (.bool false) w := by
  simp only [binOp]
  simp [run_equal_slice_nil w 22 31 (some a) n c Try.underlying22]
set_option maxRecDepth 100000 in
set_option maxHeartbeats 1000000 in
theorem clone_c (b o cap : Nat) (ps : List Pt) (w : World) (h : PtsAt w b o ps) (hn : 0 < ps.length) (hm : ps.length ≤ 1000) :
    Calls Try.prog 49 #[.slice (some ⟨b, o, none⟩) ps.length cap] w fun e w' => ∃ v, e = .returned v ∧ w'.ownsRow w.heap.size 31 2 v ps.length (cellsOf ps) ∧ Ext w w' := by
  have H := Lib.hid h
  clear h
  obtain ⟨i0, hi, hz0, hz1, hz2⟩ := info_parts info31
  have HI := Lib.hid hi
  have HZ0 := Lib.hid hz0
  have HZ1 := Lib.hid hz1
  have HZ2 := Lib.hid hz2
  clear hi hz0 hz1 hz2
  have HE := Lib.hid (Ext.alloc (Ext.refl w) (.cells #[] 31))
  have HO := Lib.hid (show (w.alloc (.cells #[] 31)).ownsRow w.heap.size 31 2 (.slice (some ⟨w.heap.size, 0, none⟩) 0 0) 0 [] from World.ownsRow_made w #[] 0 (Nat.le_refl _) (by decide) rfl)
  have hq := fun W => eql_some W ⟨b, o, none⟩ ps.length cap
  go_enter Try.func49, Try.ntmps49
  go_wp2_with (at_builtin; refine wpList_append_own _ rfl _ _ 22 rfl w.heap.size 31 i0 (.agg #[.int .i64 0, .int .i64 0]) 2 16 Try.underlying22 HI.out HZ0.out HZ1.out HZ2.out rfl (by decide) _ _ _ rfl HO.out ⟨b, o, none⟩ ps.length cap (cellsOf ps) rfl (cellsOf_length ps) (pts_cells (PtsAt.ext H.out HE.out)) cellsOf_one (by unfold maxLen; omega) (by omega) HE.out.size ?_; intro v' w' hown' hgrow hnil; have HO4 := Lib.hid hown'; have HG4 := Lib.hid hgrow; clear hown' hgrow hnil)
  go_ret
  have h4 := HO4.out
  rw [Nat.zero_add, List.nil_append] at h4
  exact ⟨_, rfl, h4, Below.grown HE.out HG4.out HE.out.size (fun j e => own_block HO.out e)⟩
end Go.Proofs.Ytnoacppfgckohaa
