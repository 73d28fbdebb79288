import Derived.Test.YtblaipkhmmaenaaB2
import Derived.Test.YtblaipkhmmaenaaStab3
import Derived.Laws.CopyOwn
import Derived.Test.YtblaipkhmmaenaaB7
namespace Go.Proofs.Ytblaipkhmmaenaa
open Go.RowKit
def padU (U : List Int) : List Int := U ++ List.replicate (5 - U.length) 0
theorem padU_length {U : List Int} (h : U.length ≤ 5) : (padU U).length = 5 := by simp [padU]; omega
theorem splice_pad {U : List Int} (h : U.length ≤ 5) : splice (List.replicate 10 (Value.int .i64 0)) 5 (U.map (Value.int .i64)) = (List.replicate 5 (0 : Int) ++ padU U).map (Value.int .i64) := by
  simp only [splice, padU, List.length_map, List.map_append, List.map_replicate, List.take_replicate, List.drop_replicate]
  have e : 10 - (5 + U.length) = 5 - U.length := by omega
  rw [e]
  simp
theorem copy_wp {P : Program} {o : Oper} {a : Act} {w : World} {K : Act → World → Prop} {Q : Exit → Act → World → Prop} (hgd : o.guard = none) (d s : Operand) (dT sT : TypeId)
    (ho : o.op = .call { callee := .builtin .copy, args := #[d, s], argTypes := #[dT, sT] }) (elem : TypeId) (hu : P.underlying dT = some (.slice elem)) (hsz : (P.info? elem).map (·.size) = some 1)
    (dp sp : Option Addr) (dLen dCap sLen sCap : Nat) (hd : a.eval d = .slice dp dLen dCap) (hs : a.eval s = .slice sp sLen sCap)
    (g off : Nat) (cur : List Value) (t : TypeId) (hg : w.heap[g]? = some (.cells cur.toArray t (0, 0))) (cs : List Value) (hn : cs.length = Nat.min sLen dLen)
    (hpos : 0 < cs.length → dp = some ⟨g, off, none⟩ ∧ ∃ ad, sp = some ad ∧ ∀ j v, cs[j]? = some v → w.cell? (ad.add j) = some v)
    (hfit : off + cs.length ≤ cur.length) (h1 : ∀ v ∈ cs, v.oneCell' = true) (B : Nat) (w0 : World) (hb : Below B w0 w) (hBg : B ≤ g)
    (h : ∀ w', Hid (w'.heap[g]? = some (.cells (splice cur off cs).toArray t (0, 0))) → Below B w0 w' → K (a.put o.dst (goInt cs.length)) w') : Oper.wp P o a w K Q := by
  have h9 := step_copy_splice (P := P) (ops := #[]) (o := o) (a := a) (w := w) (K := K) (Q := Q) (E := True) hgd d s dT sT ho elem hu hsz dp sp dLen dCap sLen sCap hd hs g off cur t hg cs hn hpos hfit h1 B w0 hb hBg h
  rwa [if_pos (by simp [Region.wanted, hgd])] at h9
theorem vrow_set10 {w : World} {g : Nat} {t : TypeId} {vs : List Value} (h : VRow w g t vs) (hl : vs.length = 10) (x0 x1 x2 x3 x4 x5 x6 x7 x8 x9 : Value) :
    VRow ((((((((((w.setCell ⟨g, 0, none⟩ x0).setCell ⟨g, 1, none⟩ x1).setCell ⟨g, 2, none⟩ x2).setCell ⟨g, 3, none⟩ x3).setCell ⟨g, 4, none⟩ x4).setCell ⟨g, 5, none⟩ x5).setCell ⟨g, 6, none⟩ x6).setCell ⟨g, 7, none⟩ x7).setCell ⟨g, 8, none⟩ x8).setCell ⟨g, 9, none⟩ x9) g t [x0, x1, x2, x3, x4, x5, x6, x7, x8, x9] ∧ Below g w ((((((((((w.setCell ⟨g, 0, none⟩ x0).setCell ⟨g, 1, none⟩ x1).setCell ⟨g, 2, none⟩ x2).setCell ⟨g, 3, none⟩ x3).setCell ⟨g, 4, none⟩ x4).setCell ⟨g, 5, none⟩ x5).setCell ⟨g, 6, none⟩ x6).setCell ⟨g, 7, none⟩ x7).setCell ⟨g, 8, none⟩ x8).setCell ⟨g, 9, none⟩ x9) := by
  match vs, hl, h with
  | [v0, v1, v2, v3, v4, v5, v6, v7, v8, v9], _, h =>
    have a0 := VRow.set h 0 x0
    simp only [List.set_cons_zero] at a0
    have a1 := VRow.set a0 1 x1
    simp only [List.set_cons_zero, List.set_cons_succ] at a1
    have a2 := VRow.set a1 2 x2
    simp only [List.set_cons_zero, List.set_cons_succ] at a2
    have a3 := VRow.set a2 3 x3
    simp only [List.set_cons_zero, List.set_cons_succ] at a3
    have a4 := VRow.set a3 4 x4
    simp only [List.set_cons_zero, List.set_cons_succ] at a4
    have a5 := VRow.set a4 5 x5
    simp only [List.set_cons_zero, List.set_cons_succ] at a5
    have a6 := VRow.set a5 6 x6
    simp only [List.set_cons_zero, List.set_cons_succ] at a6
    have a7 := VRow.set a6 7 x7
    simp only [List.set_cons_zero, List.set_cons_succ] at a7
    have a8 := VRow.set a7 8 x8
    simp only [List.set_cons_zero, List.set_cons_succ] at a8
    have a9 := VRow.set a8 9 x9
    simp only [List.set_cons_zero, List.set_cons_succ] at a9
    have b0 := Below.setCell (p := ⟨g, 0, none⟩) (Below.refl g w) (Nat.le_refl _) x0
    have b1 := Below.setCell (p := ⟨g, 1, none⟩) b0 (Nat.le_refl _) x1
    have b2 := Below.setCell (p := ⟨g, 2, none⟩) b1 (Nat.le_refl _) x2
    have b3 := Below.setCell (p := ⟨g, 3, none⟩) b2 (Nat.le_refl _) x3
    have b4 := Below.setCell (p := ⟨g, 4, none⟩) b3 (Nat.le_refl _) x4
    have b5 := Below.setCell (p := ⟨g, 5, none⟩) b4 (Nat.le_refl _) x5
    have b6 := Below.setCell (p := ⟨g, 6, none⟩) b5 (Nat.le_refl _) x6
    have b7 := Below.setCell (p := ⟨g, 7, none⟩) b6 (Nat.le_refl _) x7
    have b8 := Below.setCell (p := ⟨g, 8, none⟩) b7 (Nat.le_refl _) x8
    have b9 := Below.setCell (p := ⟨g, 9, none⟩) b8 (Nat.le_refl _) x9
    exact ⟨a9, b9⟩
set_option maxRecDepth 100000 in
set_option maxHeartbeats 2000000 in
theorem boxOf_c (a b c u : Value) (p : Who) (k0 k1 k2 k3 k4 : Int) (w : World) (h : WhoAt w a b c u p) (h5 : p.U.length ≤ 5) (hp : padU p.U = [k0, k1, k2, k3, k4]) :
    Calls Try.prog 27 #[.agg #[a, b, c, u]] w fun e w' => e = .returned (.agg #[.int .i64 0, .int .i64 0, .int .i64 0, .int .i64 0, .int .i64 0, .int .i64 k0, .int .i64 k1, .int .i64 k2, .int .i64 k3, .int .i64 k4]) ∧ Ext w w' := by
  have hv := h.2.at
  obtain ⟨au, cu, rfl, huc, hum, _⟩ := hv
  have HP := Lib.hid hp
  have H5 := Lib.hid h5
  clear h5
  have hE := Ext.alloc (Ext.alloc (Ext.alloc (Ext.refl w) (.cells #[a, b, c, .slice au p.U.length cu] 25)) (.cells #[.int .i64 0, .int .i64 0, .int .i64 0, .int .i64 0, .int .i64 0, .int .i64 0, .int .i64 0, .int .i64 0, .int .i64 0, .int .i64 0] 58)) (.cells #[.int .i64 0, .int .i64 0, .int .i64 0, .int .i64 0, .int .i64 0, .int .i64 0, .int .i64 0, .int .i64 0, .int .i64 0, .int .i64 0] 58)
  have hw0 := VRow.alloc (VRow.alloc (vrow_alloc w [a, b, c, .slice au p.U.length cu] 25) (.cells #[.int .i64 0, .int .i64 0, .int .i64 0, .int .i64 0, .int .i64 0, .int .i64 0, .int .i64 0, .int .i64 0, .int .i64 0, .int .i64 0] 58)) (.cells #[.int .i64 0, .int .i64 0, .int .i64 0, .int .i64 0, .int .i64 0, .int .i64 0, .int .i64 0, .int .i64 0, .int .i64 0, .int .i64 0] 58)
  have hr0 := VRow.alloc (vrow_alloc (w.alloc (.cells #[a, b, c, .slice au p.U.length cu] 25)) (List.replicate 10 (.int .i64 0)) 58) (.cells #[.int .i64 0, .int .i64 0, .int .i64 0, .int .i64 0, .int .i64 0, .int .i64 0, .int .i64 0, .int .i64 0, .int .i64 0, .int .i64 0] 58)
  have hb0 := vrow_alloc ((w.alloc (.cells #[a, b, c, .slice au p.U.length cu] 25)).alloc (.cells #[.int .i64 0, .int .i64 0, .int .i64 0, .int .i64 0, .int .i64 0, .int .i64 0, .int .i64 0, .int .i64 0, .int .i64 0, .int .i64 0] 58)) (List.replicate 10 (.int .i64 0)) 58
  rw [World.size_alloc] at hr0
  rw [World.size_alloc, World.size_alloc] at hb0
  change VRow (((w.alloc (.cells #[a, b, c, .slice au p.U.length cu] 25)).alloc (.cells #[.int .i64 0, .int .i64 0, .int .i64 0, .int .i64 0, .int .i64 0, .int .i64 0, .int .i64 0, .int .i64 0, .int .i64 0, .int .i64 0] 58)).alloc (.cells #[.int .i64 0, .int .i64 0, .int .i64 0, .int .i64 0, .int .i64 0, .int .i64 0, .int .i64 0, .int .i64 0, .int .i64 0, .int .i64 0] 58)) _ _ _ at hr0 hb0 hw0
  have HU := Lib.hid (h.2.ext hE)
  have HE := Lib.hid hE
  have HWq := Lib.hid hw0
  have HRq := Lib.hid hr0
  have HBq := Lib.hid hb0
  clear h hp hE hw0 hr0 hb0
  go_enter Try.func27, Try.ntmps27
  go_wp2
  generalize (((w.alloc (.cells #[a, b, c, .slice au p.U.length cu] 25)).alloc (.cells #[.int .i64 0, .int .i64 0, .int .i64 0, .int .i64 0, .int .i64 0, .int .i64 0, .int .i64 0, .int .i64 0, .int .i64 0, .int .i64 0] 58)).alloc (.cells #[.int .i64 0, .int .i64 0, .int .i64 0, .int .i64 0, .int .i64 0, .int .i64 0, .int .i64 0, .int .i64 0, .int .i64 0, .int .i64 0] 58)) = wq at *
  have hsw : w.heap.size = w.heap.size := rfl
  generalize hs : w.heap.size = s at *
  refine wp_region_stable_last [⟨[], none⟩, ⟨[(0, 4)], none⟩, ⟨[], none⟩, ⟨[(2, 6)], none⟩] (fun x y => Below x.heap.size x y) (MPat [MP.eq (.pointer (some ⟨s + 1 + 1, 5, none⟩)), MP.eq (.slice (some ⟨s + 1 + 1, 5, none⟩) 5 5), MP.eq (.pointer (some ⟨s, 3, none⟩)), MP.eq (.slice au p.U.length cu)]) rfl (by kernel_rfl) (fun _ _ _ h k => Ext.trans h k) (fun _ => Below.refl _ _) (fun x => (Below.refl x.heap.size x).drew) (MPat.mono _) (by kernel_rfl) (by kernel_rfl) (by kernel_rfl) ?obs ?rest
  case obs =>
    refine ⟨?_, ?_, ?_, ?_, trivial⟩
    · intro ev W hf _ _ hst hd
      have e3 : ev (.tmp 3) = .pointer (some ⟨s + 1 + 1, 0, none⟩) := hf 3 (by kernel_rfl)
      refine st_value (v := .pointer (some ⟨s + 1 + 1, 5, none⟩)) ?_ (Below.refl _ _) ?_
      · simp [execOp, go_sem, e3]
      · exact rfl
    · intro ev W hf _ _ hst hd
      obtain ⟨d4, _⟩ := hd
      have e4 : ev (.tmp 4) = .pointer (some ⟨s + 1 + 1, 5, none⟩) := d4
      refine st_value (v := .slice (some ⟨s + 1 + 1, 5, none⟩) 5 5) ?_ (Below.refl _ _) ?_
      · simp [execOp, go_sem, e4]
      · exact rfl
    · intro ev W hf _ _ hst hd
      have e1 : ev (.tmp 1) = .pointer (some ⟨s, 0, none⟩) := hf 1 (by kernel_rfl)
      refine st_value (v := .pointer (some ⟨s, 3, none⟩)) ?_ (Below.refl _ _) ?_
      · simp [execOp, go_sem, e1]
      · exact rfl
    · intro ev W hf _ _ hst hd
      obtain ⟨d6, _⟩ := hd
      have e6 : ev (.tmp 6) = .pointer (some ⟨s, 3, none⟩) := d6
      have kk := VRow.ext HWq.out hst
      have kc3 := VRow.cell kk (k := 3) rfl
      refine st_value (v := .slice au p.U.length cu) ?_ (Below.refl _ _) ?_
      · simp [execOp, go_sem, e6, kc3]
      · exact rfl
  case rest =>
    intro vs w3 hl hst hg
    have g0 : ∀ u, vs[0]? = some u → u = .pointer (some ⟨s + 1 + 1, 5, none⟩) := fun u hu => hg 0 u hu
    have g1 : ∀ u, vs[1]? = some u → u = .slice (some ⟨s + 1 + 1, 5, none⟩) 5 5 := fun u hu => hg 1 u hu
    have g2 : ∀ u, vs[2]? = some u → u = .pointer (some ⟨s, 3, none⟩) := fun u hu => hg 2 u hu
    have g3 : ∀ u, vs[3]? = some u → u = .slice au p.U.length cu := fun u hu => hg 3 u hu
    have HE3 := Lib.hid hst
    clear hg hst
    obtain ⟨x0, vs0, rfl, hl0⟩ := len_succ hl
    obtain ⟨x1, vs1, rfl, hl1⟩ := len_succ hl0
    obtain ⟨x2, vs2, rfl, hl2⟩ := len_succ hl1
    obtain ⟨x3, vs3, rfl, hl3⟩ := len_succ hl2
    have hnil : vs3 = [] := List.length_eq_zero_iff.1 hl3
    subst hnil
    obtain rfl := g0 _ rfl
    obtain rfl := g1 _ rfl
    obtain rfl := g2 _ rfl
    obtain rfl := g3 _ rfl
    clear g0 g1 g2 g3
    simp only [putAll, Act.put, List.dropLast, List.setIfInBounds_toArray, List.set_cons_zero, List.set_cons_succ]
    have h5 := H5.out
    have hUw := (HU.out.ext HE3.out).at
    obtain ⟨_, _, e2, _, _, hr2⟩ := hUw
    simp only [Value.slice.injEq] at e2
    obtain ⟨rfl, _, rfl⟩ := e2
    have hB3 : w3.heap[s + 1 + 1]? = some (.cells (List.replicate 10 (Value.int .i64 0)).toArray 58 (0, 0)) := VRow.ext HBq.out HE3.out
    refine copy_wp rfl (.tmp 5) (.tmp 7) 23 23 rfl 3 Try.underlying23 (by obtain ⟨i0, hi, _, hz1, _⟩ := info_parts Try.info3; rw [hi]; simpa using hz1) _ _ _ _ _ _ rfl rfl (s + 1 + 1) 5 (List.replicate 10 (Value.int .i64 0)) 58 hB3 (p.U.map (Value.int .i64)) (by simp only [List.length_map]; exact (Nat.min_eq_left h5).symm) (fun hp => ⟨rfl, ?_⟩) (by simp; omega) (fun v hv => by simp at hv; obtain ⟨y, _, rfl⟩ := hv; rfl) (s + 1 + 1) wq (HE3.out.mono ?_) (Nat.le_refl _) ?_
    · obtain ⟨y, hy⟩ := getElem?_len (show 0 < p.U.length by simpa using hp)
      obtain ⟨b2, o2, e3, _⟩ := hr2 0 y hy
      refine ⟨_, e3, fun j v hv => ?_⟩
      simp only [List.getElem?_map, Option.map_eq_some_iff] at hv
      obtain ⟨z, hz, rfl⟩ := hv
      obtain ⟨b3, o3, e4, hc3⟩ := hr2 j z hz
      rw [e3] at e4
      injection e4 with e4
      injection e4 with e5 e6
      subst e5 e6
      rw [addr_add]
      exact hc3
    · have := HBq.out.lt
      omega
    · intro w4 h4 hbl
      rw [splice_pad h5, HP.out] at h4
      have HB4 : Hid (VRow w4 (s + 1 + 1) 58 [.int .i64 0, .int .i64 0, .int .i64 0, .int .i64 0, .int .i64 0, .int .i64 k0, .int .i64 k1, .int .i64 k2, .int .i64 k3, .int .i64 k4]) := h4
      have HR4 := Lib.hid (HRq.out.below hbl (by omega))
      have qb0 := VRow.cell HB4.out (k := 0) rfl
      have qb1 := VRow.cell HB4.out (k := 1) rfl
      have qb2 := VRow.cell HB4.out (k := 2) rfl
      have qb3 := VRow.cell HB4.out (k := 3) rfl
      have qb4 := VRow.cell HB4.out (k := 4) rfl
      have qb5 := VRow.cell HB4.out (k := 5) rfl
      have qb6 := VRow.cell HB4.out (k := 6) rfl
      have qb7 := VRow.cell HB4.out (k := 7) rfl
      have qb8 := VRow.cell HB4.out (k := 8) rfl
      have qb9 := VRow.cell HB4.out (k := 9) rfl
      have qr0 := VRow.cell HR4.out (k := 0) rfl
      have qr1 := VRow.cell HR4.out (k := 1) rfl
      have qr2 := VRow.cell HR4.out (k := 2) rfl
      have qr3 := VRow.cell HR4.out (k := 3) rfl
      have qr4 := VRow.cell HR4.out (k := 4) rfl
      have qr5 := VRow.cell HR4.out (k := 5) rfl
      have qr6 := VRow.cell HR4.out (k := 6) rfl
      have qr7 := VRow.cell HR4.out (k := 7) rfl
      have qr8 := VRow.cell HR4.out (k := 8) rfl
      have qr9 := VRow.cell HR4.out (k := 9) rfl
      have qf0 := VRow.frozen HR4.out 0 none
      have qf1 := VRow.frozen HR4.out 1 none
      have qf2 := VRow.frozen HR4.out 2 none
      have qf3 := VRow.frozen HR4.out 3 none
      have qf4 := VRow.frozen HR4.out 4 none
      have qf5 := VRow.frozen HR4.out 5 none
      have qf6 := VRow.frozen HR4.out 6 none
      have qf7 := VRow.frozen HR4.out 7 none
      have qf8 := VRow.frozen HR4.out 8 none
      have qf9 := VRow.frozen HR4.out 9 none
      simp only [Act.put, List.setIfInBounds_toArray, List.set_cons_zero, List.set_cons_succ]
      go_wp2
      obtain ⟨HF, HEF'⟩ := vrow_set10 HR4.out (by simp) (.int .i64 0) (.int .i64 0) (.int .i64 0) (.int .i64 0) (.int .i64 0) (.int .i64 k0) (.int .i64 k1) (.int .i64 k2) (.int .i64 k3) (.int .i64 k4)
      have HEF := Below.trans (hbl.mono (show s + 1 ≤ s + 1 + 1 by omega)) HEF'
      clear HEF'
      generalize ((((((((((w4.setCell ⟨s + 1, 0, none⟩ (.int .i64 0)).setCell ⟨s + 1, 1, none⟩ (.int .i64 0)).setCell ⟨s + 1, 2, none⟩ (.int .i64 0)).setCell ⟨s + 1, 3, none⟩ (.int .i64 0)).setCell ⟨s + 1, 4, none⟩ (.int .i64 0)).setCell ⟨s + 1, 5, none⟩ (.int .i64 k0)).setCell ⟨s + 1, 6, none⟩ (.int .i64 k1)).setCell ⟨s + 1, 7, none⟩ (.int .i64 k2)).setCell ⟨s + 1, 8, none⟩ (.int .i64 k3)).setCell ⟨s + 1, 9, none⟩ (.int .i64 k4)) = w5 at *
      have qz0 := VRow.cell HF (k := 0) rfl
      have qz1 := VRow.cell HF (k := 1) rfl
      have qz2 := VRow.cell HF (k := 2) rfl
      have qz3 := VRow.cell HF (k := 3) rfl
      have qz4 := VRow.cell HF (k := 4) rfl
      have qz5 := VRow.cell HF (k := 5) rfl
      have qz6 := VRow.cell HF (k := 6) rfl
      have qz7 := VRow.cell HF (k := 7) rfl
      have qz8 := VRow.cell HF (k := 8) rfl
      have qz9 := VRow.cell HF (k := 9) rfl
      have HF2 := Lib.hid HF
      have HEF2 := Lib.hid HEF
      clear HF HEF
      exact bodyPost_ret (v := .agg #[.int .i64 0, .int .i64 0, .int .i64 0, .int .i64 0, .int .i64 0, .int .i64 k0, .int .i64 k1, .int .i64 k2, .int .i64 k3, .int .i64 k4]) (by simp [results, Try.results27, go_sem, qz0, qz1, qz2, qz3, qz4, qz5, qz6, qz7, qz8, qz9]) rfl ⟨rfl, Below.trans HE.out (HEF2.out.mono (show w.heap.size ≤ s + 1 by rw [hs]; exact Nat.le_succ s))⟩
end Go.Proofs.Ytblaipkhmmaenaa
