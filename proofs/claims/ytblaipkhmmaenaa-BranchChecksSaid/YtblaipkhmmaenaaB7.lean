import Derived.Test.YtblaipkhmmaenaaB2
namespace Go.Proofs.Ytblaipkhmmaenaa
open Go.RowKit
theorem addr_add (b o j : Nat) : (⟨b, o, none⟩ : Addr).add j = ⟨b, o + j, none⟩ := by
  unfold Addr.add
  split
  · rename_i h; subst h; rfl
  · rfl
theorem own_empty (w : World) (base : Nat) (h : base ≤ w.heap.size) : (w.alloc (.cells #[] 3)).ownsRow base 3 1 (.slice (some ⟨w.heap.size, 0, none⟩) 0 0) 0 [] := by
  refine ⟨by simp, .inr ⟨w.heap.size, 0, #[], rfl, h, ?_, by omega, by simp [maxLen], by simp, by simp⟩⟩
  show (w.heap.push _)[w.heap.size]? = _
  simp
theorem own_some {w : World} {base : Nat} {v : Value} {n : Nat} {xs : List Value} (h : w.ownsRow base 3 1 v n xs) (hv : ¬ v = .slice none 0 0) : ∃ g cap, v = .slice (some ⟨g, 0, none⟩) n cap ∧ base ≤ g := by
  rcases h.2 with ⟨h, _⟩ | ⟨g, cap, cur, hv2, hg, _⟩
  · exact absurd h hv
  · exact ⟨g, cap, hv2, hg⟩
set_option maxRecDepth 100000 in
set_option maxHeartbeats 1000000 in
theorem clone_c (g n : Nat) (x : List Int) (w : World) (h : IRow w g 3 x) (hn : x.length = n) (h7 : n ≤ 7) :
    Calls Try.prog 23 #[.slice (some ⟨g, 0, none⟩) n n] w fun e w' => ∃ g2 cap, e = .returned (.slice (some ⟨g2, 0, none⟩) n cap) ∧ w'.ownsRow w.heap.size 3 1 (.slice (some ⟨g2, 0, none⟩) n cap) n (x.map (.int .i64)) ∧ Ext w w' := by
  have hnil := Go.Lib.run_eql_slice_nil (P := Try.prog) w 23 3 (some ⟨g, 0, none⟩) n n 0 0 Try.underlying23
  obtain ⟨i0, hi, hz0, hz1, hz2⟩ := info_parts Try.info3
  have H := Lib.hid h
  have Hn := Lib.hid hn
  have Hi := Lib.hid hi
  have Hz0 := Lib.hid hz0
  have Hz1 := Lib.hid hz1
  have Hz2 := Lib.hid hz2
  clear h hi hz0 hz1 hz2 hn
  go_enter Try.func23, Try.ntmps23
  go_wp2_with (at_builtin; refine wpList_append_own _ rfl _ _ 23 rfl w.heap.size 3 i0 (.int .i64 0) 1 8 Try.underlying23 Hi.out Hz0.out Hz1.out Hz2.out rfl (by decide) _ 0 [] rfl (own_empty w w.heap.size (Nat.le_refl _)) ⟨g, 0, none⟩ n n (x.map (.int .i64)) rfl (by simp [Hn.out]) (fun j u hju => by rw [addr_add]; exact VRow.cell0 (VRow.alloc H.out _) hju) (fun u hu => by simp at hu; obtain ⟨y, _, rfl⟩ := hu; rfl) (by unfold maxLen; omega) (by omega) (by simp) ?_; intro v' w1 hown' hgrow hn'; have HO := Lib.hid hown'; have HG := Lib.hid hgrow; have HN := Lib.hid hn'; clear hown' hgrow hn')
  go_ret
  obtain ⟨g2, cap, rfl, hg2⟩ := own_some HO.out (fun hv => by have h9 := (HN.out.1 hv).1; cases h9)
  refine ⟨g2, cap, by rw [Nat.zero_add]; rfl, ?_, ?_⟩
  · have h9 := HO.out
    rw [Nat.zero_add] at h9
    simpa using h9
  have := HG.out
  exact Below.grown (Ext.alloc (Ext.refl w) (.cells #[] 3)) this (by simp) (fun k e => by cases e; exact Nat.le_refl _)
end Go.Proofs.Ytblaipkhmmaenaa
