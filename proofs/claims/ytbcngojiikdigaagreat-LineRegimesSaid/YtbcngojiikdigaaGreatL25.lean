import Derived.Test.YtbcngojiikdigaaGreatL24
namespace Go.Proofs.YtbcngojiikdigaaGreat
set_option maxRecDepth 100000
open Go.RowKit Go.Shelf
attribute [local go_sem] Oper.semAt_some
theorem cell_obj {A : World} {p : Addr} {v : Value} (h : A.cell? p = some v) : ∃ o, A.heap[p.block]? = some o ∧ o.isCells = true := by
  unfold World.cell? at h
  split at h
  · rename_i c e f he; exact ⟨_, he, rfl⟩
  · cases h
theorem cell_block {A B : World} {p : Addr} {v : Value} (h : A.cell? p = some v) (e : B.heap[p.block]? = A.heap[p.block]?) : B.cell? p = some v := by
  unfold World.cell? at *
  rw [e]; exact h
theorem Keeps.cell {s : Nat} {A B : World} {p : Addr} {v : Value} (h : Keeps s A B) (hp : A.cell? p = some v) : B.cell? p = some v :=
  cell_block hp (h.block p.block ⟨cell_lt hp, .inr (cell_obj hp)⟩)
theorem Held.cell {S : Nat → Prop} {A B : World} {p : Addr} {v : Value} (h : Held S A B) (hs : S p.block) (hp : A.cell? p = some v) : B.cell? p = some v := cell_block hp (h.block _ hs)
theorem Held.vrow {S : Nat → Prop} {A B : World} {g : Nat} {t : TypeId} {vs : List Value} (h : Held S A B) (hg : S g) (hr : VRow A g t vs) : VRow B g t vs := VRow.of_block hr (h.block g hg)
theorem Keeps.vrow {s : Nat} {A B : World} {g : Nat} {t : TypeId} {vs : List Value} (h : Keeps s A B) (hr : VRow A g t vs) : VRow B g t vs := Held.vrow h ⟨VRow.lt hr, .inr ⟨_, hr, rfl⟩⟩ hr
theorem Keeps.below {s : Nat} {w A B : World} (h : Keeps s A B) (he : Ext w A) (hs : w.heap.size ≤ s) : Ext w B := Below.trans he ⟨h.os, h.tape, h.output, h.size, fun j hj => h.block j ⟨Nat.lt_of_lt_of_le hj he.size, .inl (by omega)⟩⟩
/-- this block is not of type 53 (a matrix's) -/
def NT (w : World) (b : Nat) : Prop := ∃ c t f, w.heap[b]? = some (.cells c t f) ∧ t ≠ 53
theorem NT.same {A B : World} {b : Nat} (h : NT A b) (e : B.heap[b]? = A.heap[b]?) : NT B b := by
  unfold NT at *
  rw [e]; exact h
/-- a matrix all whose blocks are such, and not of type 53 -/
def VecS (S : Nat → Prop) (w : World) (v : Value) (n : Nat) (x : Nat → E) : Prop :=
  ∃ b o cap, v = .slice (some ⟨b, o, none⟩) n cap ∧ n ≤ cap ∧ cap ≤ 9223372036854775807 ∧ (S b ∧ NT w b) ∧ ∀ i, i < n → w.cell? ⟨b, o + i, none⟩ = some (iv (x i))
def MatS (S : Nat → Prop) (w : World) (v : Value) (n : Nat) (M : MF) : Prop :=
  ∃ b o cap, v = .slice (some ⟨b, o, none⟩) n cap ∧ n ≤ cap ∧ cap ≤ 9223372036854775807 ∧ (S b ∧ NT w b) ∧ ∀ i, i < n → ∃ u, w.cell? ⟨b, o + i, none⟩ = some u ∧ VecS S w u n (M i)
theorem MatS.mat {S : Nat → Prop} {w : World} {v : Value} {n : Nat} {M : MF} (h : MatS S w v n M) : MatAt w v n M := by
  obtain ⟨b, o, cap, h1, h2, h3, _, h4⟩ := h
  refine ⟨b, o, cap, h1, h2, h3, fun i hi => ?_⟩
  obtain ⟨u, h5, b', o', cap', h6, h7, h8, _, h9⟩ := h4 i hi
  exact ⟨u, h5, b', o', cap', h6, h7, h8, h9⟩
theorem MatS.new {S : Nat → Prop} {base : Nat} {w : World} {v : Value} {n : Nat} {M : MF} (h : NewMat base w v 56 62 n M) (hn : n ≤ 9223372036854775807) (hS : ∀ j, base ≤ j → j < w.heap.size → S j) : MatS S w v n M := by
  obtain ⟨C, vs, h1, h2, h3, h4, h5⟩ := h
  refine ⟨C, 0, n, h2, Nat.le_refl _, hn, ⟨hS C h1 (VRow.lt h3), _, _, _, h3, by decide⟩, fun i hi => ?_⟩
  obtain ⟨R, h6, h7, us, h8, h9, h10⟩ := h5 i hi
  exact ⟨_, by rw [Nat.zero_add]; exact h7, R, 0, n, rfl, Nat.le_refl _, hn, ⟨hS R (by omega) (VRow.lt h8), _, _, _, h8, by decide⟩, fun j hj => by rw [Nat.zero_add]; exact VRow.cell h8 (h10 j hj)⟩
theorem MatS.same {S T : Nat → Prop} {w w' : World} {v : Value} {n : Nat} {M : MF} (h : MatS S w v n M) (hn : 1 ≤ n) (he : ∀ b, S b → NT w b → b < w.heap.size → T b ∧ w'.heap[b]? = w.heap[b]?) : MatS T w' v n M := by
  obtain ⟨b, o, cap, h1, h2, h3, hb, h4⟩ := h
  have hl : b < w.heap.size := by obtain ⟨u, h5, _⟩ := h4 0 hn; exact cell_lt h5
  have e1 := he b hb.1 hb.2 hl
  refine ⟨b, o, cap, h1, h2, h3, ⟨e1.1, hb.2.same e1.2⟩, fun i hi => ?_⟩
  obtain ⟨u, h5, b', o', cap', h6, h7, h8, hb', h9⟩ := h4 i hi
  have hl' : b' < w.heap.size := cell_lt (h9 0 hn)
  have e2 := he b' hb'.1 hb'.2 hl'
  exact ⟨u, cell_block h5 e1.2, b', o', cap', h6, h7, h8, ⟨e2.1, hb'.2.same e2.2⟩, fun j hj => cell_block (h9 j hj) e2.2⟩
theorem MatS.held {S : Nat → Prop} {w w' : World} {v : Value} {n : Nat} {M : MF} (h : MatS S w v n M) (hn : 1 ≤ n) (he : Held S w w') : MatS S w' v n M := h.same hn fun b hb _ _ => ⟨hb, he.block b hb⟩
theorem MatS.keeps {S : Nat → Prop} {s : Nat} {w w' : World} {v : Value} {n : Nat} {M : MF} (h : MatS S w v n M) (hn : 1 ≤ n) (he : Keeps s w w') : MatS S w' v n M := h.same hn fun b hb hN hl => ⟨hb, he.block b ⟨hl, .inr (by obtain ⟨c, t, f, h1, _⟩ := hN; exact ⟨_, h1, rfl⟩)⟩⟩
theorem MatS.ext {S : Nat → Prop} {w w' : World} {v : Value} {n : Nat} {M : MF} (h : MatS S w v n M) (hn : 1 ≤ n) (he : Ext w w') : MatS S w' v n M := h.same hn fun b hb _ hl => ⟨hb, he.block b hl⟩
theorem MatS.grown {S : Nat → Prop} {w w' : World} {v : Value} {n g : Nat} {c : Array Value} {f : Nat × Nat} {M : MF} (h : MatS S w v n M) (hn : 1 ≤ n) (hg : w.heap[g]? = some (.cells c 53 f)) (he : w.grownBy w' (some g)) : MatS S w' v n M := h.same hn fun b hb hN hl => ⟨hb, he.block b hl (fun e => by
  injection e with e
  subst e
  obtain ⟨c, t, f, h1, h2⟩ := hN
  rw [hg] at h1
  injection h1 with h1
  injection h1 with _ h1
  exact h2 h1.symm)⟩
theorem MatS.congr {S : Nat → Prop} {w : World} {v : Value} {n : Nat} {A B : MF} (h : MatS S w v n A) (e : eqF n A B) : MatS S w v n B := by
  obtain ⟨b, o, cap, h1, h2, h3, hb, h4⟩ := h
  refine ⟨b, o, cap, h1, h2, h3, hb, fun i hi => ?_⟩
  obtain ⟨u, h5, b', o', cap', h6, h7, h8, hb', h9⟩ := h4 i hi
  exact ⟨u, h5, b', o', cap', h6, h7, h8, hb', fun j hj => by rw [h9 j hj, e i hi j hj]⟩
theorem back_c (a : Option Addr) (len cap : Nat) (w : World) :
    Calls Tryz.prog 108 #[.slice a len cap] w fun e w' => e = .returned (.func (.func 129) #[] #[.pointer (some ⟨w.heap.size, 0, none⟩)]) ∧ w' = w.alloc (.cells #[.slice a len cap] 97) := by
  go_enter Tryz.func108, Tryz.ntmps108
  go_wp2
  go_ret
  exact ⟨rfl, rfl⟩
set_option maxHeartbeats 1000000 in
theorem back_iter (Bs b o len cap : Nat) (vs : List Value) (S : Nat → Prop) (w : World)
    (hK : ∀ W, Held S w W → W.cell? ⟨Bs, 0, none⟩ = some (.slice (some ⟨b, o, none⟩) len cap) ∧ ∀ i x, vs[i]? = some x → W.cell? ⟨b, o + i, none⟩ = some x)
    (hl : vs.length = len) (hv : ∀ (i : Nat) (x : Value), vs[i]? = some x → ∃ a m c, x = Value.slice a m c) (hm : len ≤ 1000000) (hS : ∀ j, S j → j < w.heap.size) :
    IterC Tryz.prog 129 #[.pointer (some ⟨Bs, 0, none⟩)] (fun k => #[.int .i64 ((len - 1 - k : Nat) : Int), vs.getD (len - 1 - k) undef]) len S w := by
  intro l J Jx W hEW hJ hJx hY h0
  have HK := Lib.hid hK
  have HY := Lib.hid hY
  have HL := Lib.hid hl
  have HV := Lib.hid hv
  clear hK hY hv hl
  have c0 := (HK.out W (Held.ext hEW hS)).1
  have HEW := Lib.hid (Held.ext hEW hS)
  clear hEW
  change Calls Tryz.prog 129 #[.func (.yield l) #[] #[], .pointer (some ⟨Bs, 0, none⟩)] W _
  go_enter Tryz.func129, Tryz.ntmps129
  go_wp2
  go_loopw [3] (fun i wr => ∃ k : Nat, k ≤ len ∧ i = .int .i64 ((len : Int) - 1 - k) ∧ J k wr ∧ Held S w wr) (fun i _ => (intOf i + 1).toNat)
  case atStart => exact ⟨0, Nat.zero_le _, by simp, h0, HEW.out⟩
  case round =>
    rename World => wr
    obtain ⟨k, hk, rfl, hJk, hH⟩ := hrel
    have HH := Lib.hid hH
    have HJ := Lib.hid hJk
    clear hH hJk c0
    by_cases hlt : k < len
    · obtain ⟨i, hi⟩ : ∃ i : Nat, i = len - 1 - k := ⟨_, rfl⟩
      have hiz : (len : Int) - 1 - k = (i : Int) := by omega
      obtain ⟨x, hx⟩ := getElem?_len (show i < vs.length by rw [HL.out]; omega)
      have hxd : vs.getD i undef = x := by rw [List.getD_eq_getElem?_getD, hx]; rfl
      have cs := (HK.out wr HH.out).1
      have cx := (HK.out wr HH.out).2 i x hx
      obtain ⟨a, m, c, rfl⟩ := HV.out i x hx
      have h1 := cell_lt cs
      have h2 := cell_lt cx
      rw [hiz]
      have hil : i < len := by omega
      obtain ⟨fn, tmps, assign, body, hy, hR⟩ := HY.out k wr HJ.out hlt 9
      rw [← hi, hxd] at hy
      have HI := Lib.hid hi
      have HIZ := Lib.hid hiz
      clear hi hxd hx hiz
      refine (wpIn_wide (n := 9)).1 ?_
      gi_wp2_with fail
      clear hy
      refine (RoundIn.any (m := 8) rfl hR).mono ?_
      rintro e W6 (⟨rfl, hJ6, hH6⟩ | ⟨rfl, hJ6⟩)
      · gi_wp2
        go_wp2
        have := HI.out
        refine ⟨⟨k + 1, by omega, by congr 1; omega, hJ6, HH.out.trans hH6⟩, by simp [intOf]⟩
      · gi_wp2
        go_wp2
        (try simp only [Exit.inBlock, Exit.then])
        refine bodyPost_ret (results_none rfl _ _ _) rfl ?_
        exact ⟨⟨_, rfl⟩, .inr ⟨k, hlt, hJ6⟩⟩
    · obtain rfl : k = len := by omega
      have hneg : (k : Int) - 1 - k = -1 := by omega
      rw [hneg]
      go_wp2
      go_end0
      exact ⟨⟨_, rfl⟩, .inl HJ.out⟩
set_option maxHeartbeats 1000000 in
theorem again_c (P : Nat) (u f : Value) (n : Nat) (M G : MF) (w : World) (hn1 : 1 ≤ n) (hn : n ≤ 6) (hu : MatAt w u n M) (hf : MatAt w f n G) (hP : w.cell? ⟨P, 0, none⟩ = some f) (bM : bdF KB n M) (bG : bdF KB n G)
    (bMG : ∀ i, i < n → ∀ j, j < n → ∀ k, k < n → bdE KB (ep (M i k) (G k j))) (bP : bdF KB n (mulF n M G)) :
    Calls Tryz.prog 106 #[u, .pointer (some ⟨P, 0, none⟩)] w fun e w' => e = .returned (.bool (eqMB n M (mulF n M G))) ∧ Ext w w' := by
  have HU := Lib.hid hu
  have HF := Lib.hid hf
  have HBM := Lib.hid bM
  have HBP := Lib.hid bP
  have HC := Lib.hid (mtimes_c u f n M G w hn1 hn hu hf bM bG bMG)
  obtain ⟨ua, uc, rfl⟩ := hu.len
  obtain ⟨fa, fc, rfl⟩ := hf.len
  obtain ⟨z, hz⟩ : ∃ z, z = eqMB n M (mulF n M G) := ⟨_, rfl⟩
  rw [← hz]
  have HZ := Lib.hid hz
  clear hu hf bM bG bMG bP hz
  go_enter Tryz.func106, Tryz.ntmps106
  go_wp2_with fail
  refine HC.out.mono ?_
  rintro e w2 ⟨r, rfl, hr, hE⟩
  have HR := Lib.hid (hr.mat (by omega))
  have HE := Lib.hid hE
  obtain ⟨ra, rc, rfl⟩ := (hr.mat (by omega)).len
  clear hr hE hP
  go_wp2_with fail
  refine (equals_c _ _ n M _ w2 (by omega) (HU.out.ext HE.out) HR.out HBM.out HBP.out).mono ?_
  rintro e w3 ⟨rfl, hE3⟩
  have HE3 := Lib.hid (Ext.trans HE.out hE3)
  clear hE3
  rw [← HZ.out]
  go_wp2_with fail
  go_ret
  exact ⟨rfl, HE3.out⟩
end Go.Proofs.YtbcngojiikdigaaGreat
