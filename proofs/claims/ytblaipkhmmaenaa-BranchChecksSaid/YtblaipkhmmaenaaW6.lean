import Derived.Test.YtblaipkhmmaenaaW5
namespace Go.Proofs.Ytblaipkhmmaenaa
open Go.RowKit
def gcdL (g : Int) (l : List Int) : Int := l.foldl (fun (g : Int) (x : Int) => ((Int.gcd g x : Nat) : Int)) g
theorem gcdL_bd : ∀ (l : List Int) (g : Int), 1 ≤ g → 1 ≤ gcdL g l ∧ gcdL g l ≤ g := by
  intro l
  induction l with
  | nil => intro g h; simp [gcdL]; exact h
  | cons x l ih =>
    intro g h
    have h1 : 1 ≤ ((Int.gcd g x : Nat) : Int) := by
      have := Int.gcd_pos_of_ne_zero_left x (show g ≠ 0 by omega)
      omega
    have h2 : ((Int.gcd g x : Nat) : Int) ≤ g := by
      have := Int.gcd_le_natAbs_left x (show g ≠ 0 by omega)
      omega
    have := ih _ h1
    simp only [gcdL, List.foldl_cons] at *
    omega
theorem gcdL_step (g : Int) {l : List Int} {k : Nat} {x : Int} (h : l[k]? = some x) : gcdL g (l.take (k + 1)) = ((Int.gcd (gcdL g (l.take k)) x : Nat) : Int) := by
  rw [take_succ_get h, gcdL, gcdL, List.foldl_append]; rfl
def tdivT (g : Int) (l : List Int) (k : Nat) : List Int := (l.take k).map (fun x => x.tdiv g) ++ l.drop k
theorem tdivT_step (g : Int) : ∀ (l : List Int) (k : Nat) (x : Int), l[k]? = some x → (tdivT g l k).set k (x.tdiv g) = tdivT g l (k + 1) := by
  intro l
  induction l with
  | nil => intro k x h; simp at h
  | cons a l ih =>
    intro k x h
    cases k with
    | zero => simp at h; subst h; simp [tdivT]
    | succ k => have := ih k x (by simpa using h); simpa [tdivT] using this
theorem tdivT_get (g : Int) : ∀ (l : List Int) (k : Nat) (x : Int), l[k]? = some x → (tdivT g l k)[k]? = some x := by
  intro l
  induction l with
  | nil => intro k x h; simp at h
  | cons a l ih =>
    intro k x h
    cases k with
    | zero => simpa [tdivT] using h
    | succ k => simpa [tdivT] using ih k x (by simpa using h)
theorem tdiv_fit (x g : Int) (h1 : -9223372036854775808 < x) (h2 : x ≤ 9223372036854775807) : -9223372036854775808 < x.tdiv g ∧ x.tdiv g ≤ 9223372036854775807 := by
  have := Int.natAbs_tdiv_le_natAbs x g
  omega
theorem VRow.drewN {w : World} {g : Nat} {t : TypeId} {vs : List Value} (h : VRow w g t vs) (n : Nat) : VRow (w.drewN n) g t vs := h
theorem grown_drewN {a w : World} {row : Option Nat} (h : a.grownBy w row) (n : Nat) : a.grownBy (w.drewN n) row := ⟨h.os, h.tape, h.output, h.size, h.block⟩
theorem grown_w0 {a w : World} {row : Option Nat} (h : a.grownBy w row) {a1 a2 : Addr} {u1 u2 : Value} (h1 : a.heap.size ≤ a1.block) (h2 : a.heap.size ≤ a2.block) : a.grownBy ((w.setCell a1 u1).setCell a2 u2) row :=
  ⟨h.os, h.tape, h.output, by simpa [World.setCell] using h.size, fun i hi hne => by
    rw [Below.heap_setCell _ _ _ _ (by omega), Below.heap_setCell _ _ _ _ (by omega)]
    exact h.block i hi hne⟩
set_option maxHeartbeats 1000000 in
theorem lowest_c (g cap : Nat) (T : TypeId) (den : Int) (vs : List Int) (w : World) (hv : IRow w g T vs) (hsz : vs.length ≤ 1000) (hd : 1 ≤ den) (hd2 : den ≤ 9223372036854775807) (hb : ∀ x ∈ vs, -9223372036854775808 < x ∧ x ≤ 9223372036854775807) :
    Calls Try.prog 44 #[.slice (some ⟨g, 0, none⟩) vs.length cap, .int .i64 den] w fun e w' => e = .returned (.agg #[.slice (some ⟨g, 0, none⟩) vs.length cap, .int .i64 (den.tdiv (gcdL den vs))]) ∧ IRow w' g T (vs.map (fun x => x.tdiv (gcdL den vs))) ∧ w.grownBy w' (some g) := by
  have hg0 := gcdL_bd vs den hd
  go_enter Try.func44, Try.ntmps44
  go_wp2_with fail
  have hv1 := VRow.alloc hv (.cells #[.slice none 0 0, .int .i64 0] 68)
  have hres := vrow_alloc w [.slice none 0 0, .int .i64 0] 68
  have hEs : w.grownBy (w.alloc (.cells #[.slice none 0 0, .int .i64 0] 68)) (some g) := World.grownBy_alloc _ _ _
  have hgne : g < w.heap.size := VRow.lt hv
  have Hv := Lib.hid hv
  clear hv
  have hrs : (w.alloc (.cells #[.slice none 0 0, .int .i64 0] 68)).heap.size = w.heap.size + 1 := by simp
  have hrs' : w.heap.size < (w.alloc (.cells #[.slice none 0 0, .int .i64 0] 68)).heap.size := by omega
  have Hv1 := Lib.hid hv1
  have Hres := Lib.hid hres
  have HEs := Lib.hid hEs
  have Hb := Lib.hid hb
  clear hv1 hres hEs hb hrs
  have HG0 := Lib.hid hg0
  clear hg0
  change Code.wp _ _ _ _ (w.alloc (.cells [Value.slice none 0 0, Value.int IntKind.i64 0].toArray 68))
  generalize (w.alloc (.cells [Value.slice none 0 0, Value.int IntKind.i64 0].toArray 68)) = w1 at *
  go_loopw [5, 12] (fun s i wr => ∃ k : Nat, k ≤ vs.length ∧ i = .int .i64 k ∧ s = .int .i64 (gcdL den (vs.take k)) ∧ ∃ n, wr = w1.drewN n) (fun _ i _ => vs.length - (intOf i).toNat)
  case atStart => exact ⟨0, Nat.zero_le _, rfl, rfl, 0, rfl⟩
  case round =>
    obtain ⟨k, hk, rfl, rfl, n, rfl⟩ := hrel
    by_cases hlt : k < vs.length
    · obtain ⟨x, hxk⟩ := getElem?_len hlt
      have hc := IRow.at Hv1.out hxk
      have hbx := Hb.out x (List.mem_of_getElem? hxk)
      have hgk := gcdL_bd (vs.take k) den hd
      have Hs := Lib.hid (gcdL_step den hxk)
      clear hxk
      go_wp2_with fail
      refine (gcd_c _ _ _ (by omega) (by omega) (by omega) (by omega)).mono ?_
      rintro e w' ⟨rfl, m, rfl⟩
      go_wp2
      refine ⟨⟨k + 1, by omega, by go_num, ?_, _, (by first | rfl | exact World.drewN_drewN _ _ _)⟩, by simp [intOf]; omega⟩
      rw [Hs.out]
    · have hka : k = vs.length := by omega
      subst hka
      rw [List.take_length]
      have hg0 := HG0.out
      generalize hG : gcdL den vs = G at *
      have HG := Lib.hid hG
      clear hG
      have hgd : (G == 0) = false := by simp; omega
      go_wp2_with fail
      go_loopw [22] (fun i wr => ∃ k : Nat, k ≤ vs.length ∧ i = .int .i64 k ∧ IRow wr g T (tdivT G vs k) ∧ VRow wr w.heap.size 68 [.slice none 0 0, .int .i64 0] ∧ w.grownBy wr (some g)) (fun i _ => vs.length - (intOf i).toNat)
      case atStart => exact ⟨0, Nat.zero_le _, rfl, by have := VRow.drewN Hv1.out n; simpa [tdivT] using this, VRow.drewN Hres.out n, grown_drewN HEs.out n⟩
      case round =>
        rename_i wr2
        obtain ⟨k, hk, rfl, hrow, hres, hgr⟩ := hrel
        by_cases hlt : k < vs.length
        · obtain ⟨x, hxk⟩ := getElem?_len hlt
          have hc := IRow.at hrow (tdivT_get G vs k x hxk)
          have hfr := VRow.frozen hrow k none
          have hbx := Hb.out x (List.mem_of_getElem? hxk)
          have hfit := tdiv_fit x G hbx.1 hbx.2
          have Hs := Lib.hid (tdivT_step G vs k x hxk)
          have Hrow := Lib.hid hrow
          have Hres2 := Lib.hid hres
          have Hgr := Lib.hid hgr
          clear hxk hrow hres hgr
          go_wp2_with fail
          refine ⟨⟨k + 1, by omega, by go_num, ?_, VRow.setOther Hres2.out (by simp; omega) _, grown_trans' Hgr.out (grown_set _ _ _ _)⟩, by simp [intOf]; omega⟩
          have := IRow.put Hrow.out k (x.tdiv G)
          rw [Hs.out] at this
          exact this
        · have hka : k = vs.length := by omega
          subst hka
          have h0 := VRow.cell hres (k := 0) rfl
          have h1 := VRow.cell hres (k := 1) rfl
          have hf0 := VRow.frozen hres 0 none
          have hf1 := VRow.frozen hres 1 none
          have hfit := tdiv_fit den G (by omega) (by omega)
          have Hrow := Lib.hid hrow
          have Hgr := Lib.hid hgr
          have Hres2 := Lib.hid hres
          clear hrow hgr hres
          go_wp2_with fail
          have hfin := VRow.set (VRow.set Hres2.out 0 (.slice (some ⟨g, 0, none⟩) vs.length cap)) 1 (.int .i64 (den.tdiv G))
          have hfr2 := grown_w0 Hgr.out (a1 := ⟨w.heap.size, 0, none⟩) (a2 := ⟨w.heap.size, 1, none⟩) (u1 := .slice (some ⟨g, 0, none⟩) vs.length cap) (u2 := .int .i64 (den.tdiv G)) (Nat.le_refl _) (Nat.le_refl _)
          have hrow2 : IRow _ g T (tdivT G vs vs.length) := VRow.setOther (VRow.setOther Hrow.out (a := ⟨w.heap.size, 0, none⟩) (by simp; omega) (.slice (some ⟨g, 0, none⟩) vs.length cap)) (a := ⟨w.heap.size, 1, none⟩) (by simp; omega) (.int .i64 (den.tdiv G))
          generalize (wr.setCell { block := w.heap.size, off := 0 } (Value.slice (some { block := g, off := 0 }) vs.length cap)).setCell { block := w.heap.size, off := 1 } (Value.int IntKind.i64 (den.tdiv G)) = W at *
          have c0 := VRow.cell hfin (k := 0) rfl
          have c1 := VRow.cell hfin (k := 1) rfl
          refine bodyPost_ret (v := .agg #[.slice (some ⟨g, 0, none⟩) vs.length cap, .int .i64 (den.tdiv G)]) (by simp [results, Try.results44, go_sem, c0, c1]) rfl ⟨by rw [HG.out], ?_, hfr2⟩
          simpa [tdivT, HG.out] using hrow2
end Go.Proofs.Ytblaipkhmmaenaa
