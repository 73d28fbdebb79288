import Derived.Test.YtbdppephmlkbaaaV15
import Derived.Lib.AppendZerosOnto
namespace Go.Proofs.Ytbdppephmlkbaaa
set_option maxRecDepth 100000
open Go.RowKit Go.Shelf
theorem drew_ext (w : World) : Ext w w.drew := Below.drew (Ext.refl w)
theorem zeroCells_size (n : Nat) : (Builtin.zeroCells (Value.agg #[.int .i64 0, .int .i64 0]).cells n).size = n * 2 := by
  unfold Builtin.zeroCells
  rw [Array.size_map, Array.size_range]
  rfl
set_option maxHeartbeats 1000000 in
theorem grow_c (n : Nat) (w : World) (h0 : 0 < n) (hn : n ≤ 100000) :
    Calls Try.prog 87 #[.slice none 0 0, .int .i64 n] w fun e w' => ∃ v, e = .returned v ∧ w'.ownsRow w.heap.size 32 2 v 0 [] ∧ Ext w w' := by
  obtain ⟨i0, hi, hz, hs, hb⟩ := info_parts info31
  have h1 : ¬ ((n : Int) < 0) := by omega
  have h4 : (n : Int) > 0 := by omega
  have hr : ∀ ty, (Builtin.append_ #[22, 3] ty #[.slice none 0 0, .int .i64 (n : Int)]).run Try.prog w = .ok (.slice (some ⟨w.heap.size, 0, none⟩) (0 + n) (grownCap w (0 + n) 0 32))
        (w.drew.alloc (.cells ((#[] : Array Value) ++ Builtin.zeroCells (Value.agg #[.int .i64 0, .int .i64 0]).cells n ++ Builtin.zeroCells (Value.agg #[.int .i64 0, .int .i64 0]).cells (grownCap w (0 + n) 0 32 - (0 + n))) 32)) := fun ty =>
    Lib.run_append_grow_zeros w 22 3 ty 32 i0 _ .i64 .i64 Try.underlying22 Try.underlying3 hi hz none 0 0 [] (by rw [hs]; exact run_firstCells_none _ 2 0 0 0) n h0 (by omega) (by omega) (by omega) (by rw [hb]; omega) (growslice_fits (by omega) (by rw [hb]; omega))
  have hG := grownCap_ge w (0 + n) 0 32
  have hG2 := grownCap_le_maxLen w (0 + n) 0 32 (by unfold maxLen; omega)
  generalize grownCap w (0 + n) 0 32 = G at *
  generalize hc : ((#[] : Array Value) ++ Builtin.zeroCells (Value.agg #[.int .i64 0, .int .i64 0]).cells n ++ Builtin.zeroCells (Value.agg #[.int .i64 0, .int .i64 0]).cells (G - (0 + n))) = cs at *
  have HC := Lib.hid (show cs.size = G * 2 by rw [← hc, Array.size_append, Array.size_append, zeroCells_size, zeroCells_size]; simp; omega)
  rw [Nat.zero_add] at hr hG
  have HR := Lib.hid hr
  have HG2 := Lib.hid hG2
  have hG3 : G ≤ 9223372036854775807 := by unfold maxLen at hG2; omega
  clear hc hi hz hs hb hr hG2
  go_enter Try.func87, Try.ntmps87
  go_wp2_with (at_builtin; refine Lib.wpList_append_run _ rfl _ _ _ _ rfl _ _ rfl rfl _ _ (HR.out _) ?_)
  all_goals go_ret
  all_goals exact ⟨_, rfl, World.ownsRow_made w.drew cs G (Nat.le_refl _) HG2.out HC.out, Ext.alloc (drew_ext w) _⟩
theorem cellsOf_get : ∀ (qs : List Pt) (j : Nat) (u : Value), (cellsOf qs)[j]? = some u → ∃ (k : Nat) (q : Pt), qs[k]? = some q ∧ ((j = k * 2 ∧ u = .int .i64 q.1) ∨ (j = k * 2 + 1 ∧ u = .int .i64 q.2)) := by
  intro qs
  induction qs with
  | nil => intro j u h; simp [cellsOf] at h
  | cons a r ih =>
    intro j u h
    match j, h with
    | 0, h => simp [cellsOf] at h; exact ⟨0, a, rfl, .inl ⟨rfl, h.symm⟩⟩
    | 1, h => simp [cellsOf] at h; exact ⟨0, a, rfl, .inr ⟨rfl, h.symm⟩⟩
    | j + 2, h =>
      obtain ⟨k, q, hk, hh⟩ := ih j u (by simpa [cellsOf] using h)
      exact ⟨k + 1, q, by simpa using hk, hh.imp (fun ⟨a, b⟩ => ⟨by omega, b⟩) (fun ⟨a, b⟩ => ⟨by omega, b⟩)⟩
theorem add_addr (b o j : Nat) : (⟨b, o, none⟩ : Addr).add j = ⟨b, o + j, none⟩ := by
  unfold Addr.add
  cases j with
  | zero => rfl
  | succ j => simp
theorem pts_cells {w : World} {b o : Nat} {qs : List Pt} (h : PtsAt w b o qs) (j : Nat) (u : Value) (hj : (cellsOf qs)[j]? = some u) : w.cell? ((⟨b, o, none⟩ : Addr).add j) = some u := by
  obtain ⟨k, q, hk, hh⟩ := cellsOf_get qs j u hj
  obtain ⟨h1, h2⟩ := h k q hk
  rw [add_addr]
  rcases hh with ⟨rfl, rfl⟩ | ⟨rfl, rfl⟩
  · exact h1
  · exact h2
theorem cellsOf_one {qs : List Pt} : ∀ u ∈ cellsOf qs, u.oneCell' = true := by
  intro u hu
  obtain ⟨j, hj⟩ := List.mem_iff_getElem?.1 hu
  obtain ⟨k, q, hk, hh⟩ := cellsOf_get qs j u hj
  rcases hh with ⟨_, rfl⟩ | ⟨_, rfl⟩ <;> rfl
set_option maxRecDepth 100000 in
set_option maxHeartbeats 2000000 in
theorem concat_c (B b1 o1 c1 b2 o2 c2 : Nat) (ps qs : List Pt) (w : World) (hB : VRow w B 22 [.slice (some ⟨b1, o1, none⟩) ps.length c1, .slice (some ⟨b2, o2, none⟩) qs.length c2]) (h1 : PtsAt w b1 o1 ps) (h2 : PtsAt w b2 o2 qs)
    (hn : 0 < ps.length + qs.length) (hm1 : ps.length ≤ 1000) (hm2 : qs.length ≤ 1000) :
    Calls Try.prog 65 #[.slice (some ⟨B, 0, none⟩) 2 2] w fun e w' => ∃ v, e = .returned v ∧ w'.ownsRow w.heap.size 32 2 v (ps.length + qs.length) (cellsOf (ps ++ qs)) ∧ Ext w w' := by
  have HB := Lib.hid hB
  have H1 := Lib.hid h1
  have H2 := Lib.hid h2
  have hBl := VRow.lt hB
  clear hB h1 h2
  go_enter Try.func65, Try.ntmps65
  go_wp2_with fail
  go_loopw [11, 3] (fun i s wr => wr = w ∧ ((i = .int .i64 0 ∧ s = .int .i64 0) ∨ (i = .int .i64 1 ∧ s = .int .i64 ps.length) ∨ (i = .int .i64 2 ∧ s = .int .i64 ((ps.length + qs.length : Nat) : Int)))) (fun i _ _ => 2 - (intOf i).toNat)
  case atStart => exact ⟨rfl, .inl ⟨rfl, rfl⟩⟩
  case round =>
    obtain ⟨hww, hcase⟩ := hrel
    have hww := hww.symm
    subst hww
    rcases hcase with ⟨rfl, rfl⟩ | ⟨rfl, rfl⟩ | ⟨rfl, rfl⟩
    · have q0 := VRow.cell HB.out (k := 0) rfl
      go_wp2
      exact ⟨⟨trivial, .inr (.inl ⟨rfl, by simp⟩)⟩, by simp [intOf]⟩
    · have q1 := VRow.cell HB.out (k := 1) rfl
      go_wp2
      exact ⟨⟨trivial, .inr (.inr ⟨rfl, by simp⟩)⟩, by simp [intOf]⟩
    · obtain ⟨N, hN⟩ : ∃ N, N = ps.length + qs.length := ⟨_, rfl⟩
      have HN := Lib.hid hN
      rw [← hN] at hn ⊢
      have hN2 : N ≤ 2000 := by omega
      clear hN
      go_wp2_with fail
      refine (grow_c N w hn (by omega)).mono ?_
      rintro e w2 ⟨v, rfl, hO, hE⟩
      have HO := Lib.hid hO
      have HE := Lib.hid hE
      clear hO hE
      obtain ⟨i0, hi, hz0, hz1, hz2⟩ := info_parts info31
      have HI := Lib.hid hi
      have HZ0 := Lib.hid hz0
      have HZ1 := Lib.hid hz1
      have HZ2 := Lib.hid hz2
      clear hi hz0 hz1 hz2
      go_wp2_with fail
      go_loopw [27, 6] (fun i s w3 => Ext w w3 ∧ ((i = .int .i64 0 ∧ w3.ownsRow w.heap.size 32 2 s 0 []) ∨ (i = .int .i64 1 ∧ w3.ownsRow w.heap.size 32 2 s (0 + ps.length) ([] ++ cellsOf ps)) ∨ (i = .int .i64 2 ∧ w3.ownsRow w.heap.size 32 2 s (0 + ps.length + qs.length) ([] ++ cellsOf ps ++ cellsOf qs)))) (fun i _ _ => 2 - (intOf i).toNat)
      case atStart => exact ⟨HE.out, .inl ⟨rfl, HO.out⟩⟩
      case round =>
        obtain ⟨hE3, hcase⟩ := hrel
        have HE3 := Lib.hid hE3
        clear hE3
        rcases hcase with ⟨rfl, hO3⟩ | ⟨rfl, hO3⟩ | ⟨rfl, hO3⟩
        · have HO3 := Lib.hid hO3
          clear hO3
          have q0 := VRow.cell (VRow.ext HB.out HE3.out) (k := 0) rfl
          have hlt := VRow.lt (VRow.ext HB.out HE3.out)
          go_wp2_with (at_builtin; refine wpList_append_own _ rfl _ _ 22 rfl w.heap.size 32 i0 (.agg #[.int .i64 0, .int .i64 0]) 2 16 Try.underlying22 HI.out HZ0.out HZ1.out HZ2.out rfl (by decide) _ _ _ rfl HO3.out ⟨b1, o1, none⟩ ps.length c1 (cellsOf ps) rfl (cellsOf_length ps) (pts_cells (PtsAt.ext H1.out HE3.out)) cellsOf_one (by unfold maxLen; omega) (by omega) HE3.out.size ?_; intro v' w' hown' hgrow hnil; have HO4 := Lib.hid hown'; have HG4 := Lib.hid hgrow; clear hown' hgrow hnil)
          refine ⟨⟨Below.grown HE3.out HG4.out HE3.out.size (fun j e => own_block HO3.out e), .inr (.inl ⟨rfl, HO4.out⟩)⟩, by simp [intOf]⟩
        · have HO3 := Lib.hid hO3
          clear hO3
          have q0 := VRow.cell (VRow.ext HB.out HE3.out) (k := 1) rfl
          have hlt := VRow.lt (VRow.ext HB.out HE3.out)
          go_wp2_with (at_builtin; refine wpList_append_own _ rfl _ _ 22 rfl w.heap.size 32 i0 (.agg #[.int .i64 0, .int .i64 0]) 2 16 Try.underlying22 HI.out HZ0.out HZ1.out HZ2.out rfl (by decide) _ _ _ rfl HO3.out ⟨b2, o2, none⟩ qs.length c2 (cellsOf qs) rfl (cellsOf_length qs) (pts_cells (PtsAt.ext H2.out HE3.out)) cellsOf_one (by unfold maxLen; omega) (by omega) HE3.out.size ?_; intro v' w' hown' hgrow hnil; have HO4 := Lib.hid hown'; have HG4 := Lib.hid hgrow; clear hown' hgrow hnil)
          refine ⟨⟨Below.grown HE3.out HG4.out HE3.out.size (fun j e => own_block HO3.out e), .inr (.inr ⟨rfl, HO4.out⟩)⟩, by simp [intOf]⟩
        · have HO3 := Lib.hid hO3
          clear hO3
          go_wp2_with fail
          go_ret
          have h := HO3.out
          rw [Nat.zero_add, List.nil_append, ← cellsOf_append] at h
          exact ⟨_, rfl, h, HE3.out⟩
end Go.Proofs.Ytbdppephmlkbaaa
