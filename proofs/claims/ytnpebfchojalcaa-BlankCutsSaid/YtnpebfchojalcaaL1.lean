import Derived.Test.YtnpebfchojalcaaE1
namespace Go.Proofs.Ytnpebfchojalcaa
set_option maxRecDepth 100000
open Go.RowKit Go.Shelf
def bumpZ (cs : List Int) (i : Nat) : List Int := cs.set i (cs.getD i 0 + 1)
/-- all that was there, two blocks aside, reads as it did -/
structure Frame2 (g c : Nat) (w w' : World) : Prop where
  os : w'.os = w.os
  tape : w'.tape = w.tape
  output : w'.output = w.output
  size : w.heap.size ≤ w'.heap.size
  block : ∀ k, k < w.heap.size → k ≠ g → k ≠ c → w'.heap[k]? = w.heap[k]?
theorem Frame2.of_ext {g c : Nat} {w w' : World} (h : Ext w w') : Frame2 g c w w' := ⟨h.os, h.tape, h.output, h.size, fun k hk _ _ => h.block k hk⟩
theorem Frame2.trans {g c : Nat} {a b d : World} (h : Frame2 g c a b) (k : Frame2 g c b d) : Frame2 g c a d :=
  ⟨k.os.trans h.os, k.tape.trans h.tape, k.output.trans h.output, Nat.le_trans h.size k.size, fun i hi h1 h2 => (k.block i (Nat.lt_of_lt_of_le hi h.size) h1 h2).trans (h.block i hi h1 h2)⟩
theorem Frame2.set {g c : Nat} (w : World) (a : Addr) (v : Value) (h : a.block = g ∨ a.block = c) : Frame2 g c w (w.setCell a v) :=
  ⟨rfl, rfl, rfl, by simp [World.setCell], fun k _ h1 h2 => Below.heap_setCell _ _ _ _ (fun e => by rcases h with h | h <;> (rw [← e] at h; omega))⟩
theorem Frame2.below {g c B : Nat} {w w' : World} (h : Frame2 g c w w') (hg : B ≤ g) (hc : B ≤ c) (hB : B ≤ w.heap.size) : Below B w w' :=
  ⟨h.os, h.tape, h.output, h.size, fun k hk => h.block k (by omega) (by omega) (by omega)⟩
theorem Frame2.vrow {g c r : Nat} {w w' : World} {t : TypeId} {vs : List Value} (h : Frame2 g c w w') (hr : VRow w r t vs) (h1 : r ≠ g) (h2 : r ≠ c) : VRow w' r t vs := VRow.of_block hr (h.block r (VRow.lt hr) h1 h2)
/-- a reader -/
structure RSt (w : World) (g c : Nat) (iv rv : Value) (v : Int) (cs : List Int) : Prop where
  rg : VRow w g 89 [iv, rv, .int .i64 v, .slice (some ⟨c, 0, none⟩) cs.length cs.length]
  rc : IRow w c 3 cs
theorem RSt.ext {w w' : World} {g c : Nat} {iv rv : Value} {v : Int} {cs : List Int} (h : RSt w g c iv rv v cs) (he : Ext w w') : RSt w' g c iv rv v cs := ⟨VRow.ext h.rg he, VRow.ext h.rc he⟩
/-- what take does -/
def takeB (ts : List It) (W H : Nat) (m : Int) : Bool := decide (0 ≤ m) && decide (m < ts.length) && fitsB W H (ts.getD m.toNat (0, 0, 0))
set_option maxHeartbeats 4000000 in
theorem take_c (ts : List It) (iv rv : Value) (w0 : World) (hv : Items w0 iv ts) (hok : ts.all itemB = true) (W H : Nat) (m v : Int) (cs : List Int) (g c : Nat) (w : World)
    (hb : Below w0.heap.size w0 w) (hgc : g ≠ c) (hr : RSt w g c iv rv v cs) (hcs : cs.length = ts.length) (hv0 : 0 ≤ v ∧ v ≤ 1000000000000000) (hcb : ∀ x ∈ cs, 0 ≤ x ∧ x ≤ 1000000000) :
    Calls Try.prog 96 #[.pointer (some ⟨g, 0, none⟩), rectV W H, .int .i64 m] w fun e w' => e = .returned (.bool (takeB ts W H m)) ∧ Frame2 g c w w' ∧
      (takeB ts W H m = true → RSt w' g c iv rv (v + (ts.getD m.toNat (0, 0, 0)).2.2) (bumpZ cs m.toNat)) := by
  obtain ⟨a, cap, rfl, hl, hm, hre⟩ := hv.at
  have HR := Lib.hid hre
  have hE0 := Ext.alloc (Ext.refl w) (.cells #[.int .i64 (W : Int), .int .i64 (H : Int)] 92)
  have HB := Lib.hid (Below.trans hb (hE0.mono hb.size))
  have HS := Lib.hid (hr.ext hE0)
  have HBX := Lib.hid (show VRow (w.alloc (.cells #[.int .i64 (W : Int), .int .i64 (H : Int)] 92)) _ _ _ from vrow_alloc w [.int .i64 (W : Int), .int .i64 (H : Int)] 92)
  have HE := Lib.hid hE0
  have HOK := Lib.hid hok
  have HCB := Lib.hid hcb
  have HTB := Lib.hid (show takeB ts W H m = (decide (0 ≤ m) && decide (m < ts.length) && fitsB W H (ts.getD m.toNat (0, 0, 0))) from rfl)
  have hgl := VRow.lt hr.rg
  clear hv hre hb hr hE0 hok hcb
  unfold rectV
  by_cases h1 : m < 0
  · have HF := Lib.hid (show takeB ts W H m = false by rw [HTB.out, decide_eq_false (by omega)]; rfl)
    generalize takeB ts W H m = tb at *
    go_enter Try.func96, Try.ntmps96
    go_wp2_with fail
    generalize w.heap.size = s0 at *
    generalize w.alloc (.cells #[.int .i64 (W : Int), .int .i64 (H : Int)] 92) = w1 at *
    have HRG := Lib.hid HS.out.rg
    refine wp_region_stable [⟨[], none⟩, ⟨[(0, 7)], none⟩, ⟨[(1, 8)], none⟩, ⟨[(2, 9)], some (9, false)⟩, ⟨[(2, 9)], some (9, false)⟩, ⟨[(4, 11), (2, 9)], some (9, false)⟩, ⟨[(5, 12), (2, 9)], some (9, false)⟩, ⟨[(6, 13), (2, 9)], some (9, false)⟩, ⟨[(7, 14), (2, 9)], some (9, false)⟩, ⟨[(3, 10), (8, 15), (2, 9)], some (9, false)⟩, ⟨[(2, 9), (9, 16)], none⟩, ⟨[(10, 17)], none⟩, ⟨[(11, 18)], some (18, false)⟩, ⟨[(11, 18)], some (18, false)⟩, ⟨[(13, 20), (11, 18)], some (18, false)⟩, ⟨[(14, 21), (11, 18)], some (18, false)⟩, ⟨[(15, 22), (11, 18)], some (18, false)⟩, ⟨[(11, 18)], some (18, false)⟩, ⟨[(16, 23), (17, 24), (11, 18)], some (18, false)⟩, ⟨[(18, 25), (11, 18)], some (18, false)⟩, ⟨[(12, 19), (19, 26), (11, 18)], some (18, false)⟩, ⟨[(20, 27), (11, 18)], some (18, false)⟩, ⟨[(11, 18), (21, 28)], none⟩] (fun x y => Below x.heap.size x y) (MPat [MP.eq (.int .i64 m), MP.eq (.bool true), MP.eq (.bool true), MP.eq (undef), MP.eq (undef), MP.eq (undef), MP.eq (undef), MP.eq (undef), MP.eq (undef), MP.eq (undef), MP.eq (.bool true), MP.eq (.bool true), MP.eq (undef), MP.eq (undef), MP.eq (undef), MP.eq (undef), MP.eq (undef), MP.eq (undef), MP.eq (undef), MP.eq (undef), MP.eq (undef), MP.eq (undef), MP.eq (.bool true)]) (by kernel_rfl) (fun _ _ _ h k => Ext.trans h k) (fun _ => Below.refl _ _) (fun x => (Below.refl x.heap.size x).drew) (MPat.mono _) (by kernel_rfl) ?obs ?rest
    case obs =>
      refine ⟨?_, ?_, ?_, ?_, ?_, ?_, ?_, ?_, ?_, ?_, ?_, ?_, ?_, ?_, ?_, ?_, ?_, ?_, ?_, ?_, ?_, ?_, ?_, trivial⟩
      · intro ev W5 hf _ _ hst hd
        have e2 : ev (.tmp 2) = .int .i64 m := hf 2 (by kernel_rfl)
        refine st_value (v := .int .i64 m) ?_ (Below.refl _ _) ?_
        · simp [execOp, go_sem, e2]
        · exact rfl
      · intro ev W5 hf hcst _ hst hd
        obtain ⟨d7, _⟩ := hd
        have e7 : ev (.tmp 7) = .int .i64 m := d7
        refine st_value (v := .bool true) ?_ (Below.refl _ _) ?_
        · simp [execOp, go_sem, e7, hcst, h1]
        · exact rfl
      · intro ev W5 hf _ _ hst hd
        obtain ⟨d8, _⟩ := hd
        have e8 : ev (.tmp 8) = .bool true := d8
        refine st_value (v := .bool true) ?_ (Below.refl _ _) ?_
        · simp [execOp, go_sem, e8]
        · exact rfl
      · intro ev W5 hf _ _ hst hd
        obtain ⟨d9, _⟩ := hd
        have e9 : ev (.tmp 9) = .bool true := d9
        refine ⟨fun hh => ?_, fun _ => rfl⟩
        rw [e9] at hh
        simp at hh
      · intro ev W5 hf _ _ hst hd
        obtain ⟨d9, _⟩ := hd
        have e9 : ev (.tmp 9) = .bool true := d9
        refine ⟨fun hh => ?_, fun _ => rfl⟩
        rw [e9] at hh
        simp at hh
      · intro ev W5 hf _ _ hst hd
        obtain ⟨d11, d9, _⟩ := hd
        have e9 : ev (.tmp 9) = .bool true := d9
        refine ⟨fun hh => ?_, fun _ => rfl⟩
        rw [e9] at hh
        simp at hh
      · intro ev W5 hf _ _ hst hd
        obtain ⟨d12, d9, _⟩ := hd
        have e9 : ev (.tmp 9) = .bool true := d9
        refine ⟨fun hh => ?_, fun _ => rfl⟩
        rw [e9] at hh
        simp at hh
      · intro ev W5 hf _ _ hst hd
        obtain ⟨d13, d9, _⟩ := hd
        have e9 : ev (.tmp 9) = .bool true := d9
        refine ⟨fun hh => ?_, fun _ => rfl⟩
        rw [e9] at hh
        simp at hh
      · intro ev W5 hf _ _ hst hd
        obtain ⟨d14, d9, _⟩ := hd
        have e9 : ev (.tmp 9) = .bool true := d9
        refine ⟨fun hh => ?_, fun _ => rfl⟩
        rw [e9] at hh
        simp at hh
      · intro ev W5 hf _ _ hst hd
        obtain ⟨d10, d15, d9, _⟩ := hd
        have e9 : ev (.tmp 9) = .bool true := d9
        refine ⟨fun hh => ?_, fun _ => rfl⟩
        rw [e9] at hh
        simp at hh
      · intro ev W5 hf hcst _ hst hd
        obtain ⟨d9, d16, _⟩ := hd
        have e9 : ev (.tmp 9) = .bool true := d9
        have e16 : ev (.tmp 16) = undef := d16
        refine st_value (v := .bool true) ?_ (Below.refl _ _) ?_
        · simp [execOp, go_sem, e9, e16, hcst]
        · exact rfl
      · intro ev W5 hf _ _ hst hd
        obtain ⟨d17, _⟩ := hd
        have e17 : ev (.tmp 17) = .bool true := d17
        refine st_value (v := .bool true) ?_ (Below.refl _ _) ?_
        · simp [execOp, go_sem, e17]
        · exact rfl
      · intro ev W5 hf _ _ hst hd
        obtain ⟨d18, _⟩ := hd
        have e18 : ev (.tmp 18) = .bool true := d18
        refine ⟨fun hh => ?_, fun _ => rfl⟩
        rw [e18] at hh
        simp at hh
      · intro ev W5 hf _ _ hst hd
        obtain ⟨d18, _⟩ := hd
        have e18 : ev (.tmp 18) = .bool true := d18
        refine ⟨fun hh => ?_, fun _ => rfl⟩
        rw [e18] at hh
        simp at hh
      · intro ev W5 hf _ _ hst hd
        obtain ⟨d20, d18, _⟩ := hd
        have e18 : ev (.tmp 18) = .bool true := d18
        refine ⟨fun hh => ?_, fun _ => rfl⟩
        rw [e18] at hh
        simp at hh
      · intro ev W5 hf _ _ hst hd
        obtain ⟨d21, d18, _⟩ := hd
        have e18 : ev (.tmp 18) = .bool true := d18
        refine ⟨fun hh => ?_, fun _ => rfl⟩
        rw [e18] at hh
        simp at hh
      · intro ev W5 hf _ _ hst hd
        obtain ⟨d22, d18, _⟩ := hd
        have e18 : ev (.tmp 18) = .bool true := d18
        refine ⟨fun hh => ?_, fun _ => rfl⟩
        rw [e18] at hh
        simp at hh
      · intro ev W5 hf _ _ hst hd
        obtain ⟨d18, _⟩ := hd
        have e18 : ev (.tmp 18) = .bool true := d18
        refine ⟨fun hh => ?_, fun _ => rfl⟩
        rw [e18] at hh
        simp at hh
      · intro ev W5 hf _ _ hst hd
        obtain ⟨d23, d24, d18, _⟩ := hd
        have e18 : ev (.tmp 18) = .bool true := d18
        refine ⟨fun hh => ?_, fun _ => rfl⟩
        rw [e18] at hh
        simp at hh
      · intro ev W5 hf _ _ hst hd
        obtain ⟨d25, d18, _⟩ := hd
        have e18 : ev (.tmp 18) = .bool true := d18
        refine ⟨fun hh => ?_, fun _ => rfl⟩
        rw [e18] at hh
        simp at hh
      · intro ev W5 hf _ _ hst hd
        obtain ⟨d19, d26, d18, _⟩ := hd
        have e18 : ev (.tmp 18) = .bool true := d18
        refine ⟨fun hh => ?_, fun _ => rfl⟩
        rw [e18] at hh
        simp at hh
      · intro ev W5 hf _ _ hst hd
        obtain ⟨d27, d18, _⟩ := hd
        have e18 : ev (.tmp 18) = .bool true := d18
        refine ⟨fun hh => ?_, fun _ => rfl⟩
        rw [e18] at hh
        simp at hh
      · intro ev W5 hf hcst _ hst hd
        obtain ⟨d18, d28, _⟩ := hd
        have e18 : ev (.tmp 18) = .bool true := d18
        have e28 : ev (.tmp 28) = undef := d28
        refine st_value (v := .bool true) ?_ (Below.refl _ _) ?_
        · simp [execOp, go_sem, e18, e28, hcst]
        · exact rfl
    case rest =>
      intro vs w3 hl hst hg
      have HE3 := Lib.hid hst
      have hvs : vs = [.int .i64 m, .bool true, .bool true, undef, undef, undef, undef, undef, undef, undef, .bool true, .bool true, undef, undef, undef, undef, undef, undef, undef, undef, undef, undef, .bool true] := list_of hl (fun i u hu => by
        match i, hu with
        | 0, hu => exact (congrArg some (hg 0 u hu)).symm
        | 1, hu => exact (congrArg some (hg 1 u hu)).symm
        | 2, hu => exact (congrArg some (hg 2 u hu)).symm
        | 3, hu => exact (congrArg some (hg 3 u hu)).symm
        | 4, hu => exact (congrArg some (hg 4 u hu)).symm
        | 5, hu => exact (congrArg some (hg 5 u hu)).symm
        | 6, hu => exact (congrArg some (hg 6 u hu)).symm
        | 7, hu => exact (congrArg some (hg 7 u hu)).symm
        | 8, hu => exact (congrArg some (hg 8 u hu)).symm
        | 9, hu => exact (congrArg some (hg 9 u hu)).symm
        | 10, hu => exact (congrArg some (hg 10 u hu)).symm
        | 11, hu => exact (congrArg some (hg 11 u hu)).symm
        | 12, hu => exact (congrArg some (hg 12 u hu)).symm
        | 13, hu => exact (congrArg some (hg 13 u hu)).symm
        | 14, hu => exact (congrArg some (hg 14 u hu)).symm
        | 15, hu => exact (congrArg some (hg 15 u hu)).symm
        | 16, hu => exact (congrArg some (hg 16 u hu)).symm
        | 17, hu => exact (congrArg some (hg 17 u hu)).symm
        | 18, hu => exact (congrArg some (hg 18 u hu)).symm
        | 19, hu => exact (congrArg some (hg 19 u hu)).symm
        | 20, hu => exact (congrArg some (hg 20 u hu)).symm
        | 21, hu => exact (congrArg some (hg 21 u hu)).symm
        | 22, hu => exact (congrArg some (hg 22 u hu)).symm
        | n + 23, hu => exact absurd (lt_len hu) (by rw [hl]; simp))
      clear hg hst hl
      subst hvs
      simp only [putAll, Act.put, List.dropLast, List.setIfInBounds_toArray, List.set_cons_zero, List.set_cons_succ]
      go_wp2_with fail
      go_ret
      exact ⟨by rw [HF.out]; rfl, (Frame2.of_ext HE.out).trans (Frame2.of_ext HE3.out), fun h => by rw [HF.out] at h; cases h⟩
  · obtain ⟨M, rfl⟩ : ∃ M : Nat, m = (M : Int) := ⟨m.toNat, by omega⟩
    rw [Int.toNat_natCast] at HTB ⊢
    by_cases h2 : M < ts.length
    · obtain ⟨t, ht⟩ := getElem?_len h2
      obtain ⟨b, o, rfl, hc0, hc1, hc2⟩ := HR.out M t ht
      have HC0 := Lib.hid (fun (X : World) (h : Below w0.heap.size w0 X) => Ext.cell (w := w0) (w' := X) h hc0)
      have HC1 := Lib.hid (fun (X : World) (h : Below w0.heap.size w0 X) => Ext.cell (w := w0) (w' := X) h hc1)
      have HC2 := Lib.hid (fun (X : World) (h : Below w0.heap.size w0 X) => Ext.cell (w := w0) (w' := X) h hc2)
      have HTG := Lib.hid (show ts.getD M (0, 0, 0) = t by rw [List.getD_eq_getElem?_getD, ht]; rfl)
      have hti : 1 ≤ t.2.2 ∧ t.2.2 ≤ 1048576 := by
        have h := HOK.out
        rw [List.all_eq_true] at h
        have := h t (List.mem_of_getElem? ht)
        simp only [itemB, Bool.and_eq_true, decide_eq_true_eq] at this
        exact ⟨this.1.2, this.2⟩
      have hs0 := HB.out.size
      rw [HTG.out] at HTB ⊢
      rw [decide_eq_true (show (0 : Int) ≤ (M : Int) by omega), decide_eq_true (show (M : Int) < (ts.length : Int) by omega), Bool.true_and, Bool.true_and] at HTB
      clear hc0 hc1 hc2 ht
      cases hf : fitsB W H t with
      | false =>
        have HF := Lib.hid (show takeB ts W H (M : Int) = false by rw [HTB.out, hf])
        have Hf := Lib.hid hf
        clear hf
        generalize takeB ts W H (M : Int) = tb at *
        go_enter Try.func96, Try.ntmps96
        go_wp2_with fail
        generalize w.heap.size = s0 at *
        generalize w.alloc (.cells #[.int .i64 (W : Int), .int .i64 (H : Int)] 92) = w1 at *
        have HRG := Lib.hid HS.out.rg
        refine wp_region_stable [⟨[], none⟩, ⟨[(0, 7)], none⟩, ⟨[(1, 8)], none⟩, ⟨[(2, 9)], some (9, false)⟩, ⟨[(2, 9)], some (9, false)⟩, ⟨[(4, 11), (2, 9)], some (9, false)⟩, ⟨[(5, 12), (2, 9)], some (9, false)⟩, ⟨[(6, 13), (2, 9)], some (9, false)⟩, ⟨[(7, 14), (2, 9)], some (9, false)⟩, ⟨[(3, 10), (8, 15), (2, 9)], some (9, false)⟩, ⟨[(2, 9), (9, 16)], none⟩, ⟨[(10, 17)], none⟩, ⟨[(11, 18)], some (18, false)⟩, ⟨[(11, 18)], some (18, false)⟩, ⟨[(13, 20), (11, 18)], some (18, false)⟩, ⟨[(14, 21), (11, 18)], some (18, false)⟩, ⟨[(15, 22), (11, 18)], some (18, false)⟩, ⟨[(11, 18)], some (18, false)⟩, ⟨[(16, 23), (17, 24), (11, 18)], some (18, false)⟩, ⟨[(18, 25), (11, 18)], some (18, false)⟩, ⟨[(12, 19), (19, 26), (11, 18)], some (18, false)⟩, ⟨[(20, 27), (11, 18)], some (18, false)⟩, ⟨[(11, 18), (21, 28)], none⟩] (fun x y => Below x.heap.size x y) (MPat [MP.eq (.int .i64 (M : Int)), MP.eq (.bool false), MP.eq (.bool false), MP.eq (.int .i64 (M : Int)), MP.eq (.pointer (some ⟨g, 0, none⟩)), MP.eq (.pointer (some ⟨g, 0, none⟩)), MP.eq (.pointer (some ⟨g, 0, none⟩)), MP.eq (.slice (some ⟨b, o, none⟩) ts.length cap), MP.eq (.int .i64 (ts.length : Int)), MP.eq (.bool false), MP.eq (.bool false), MP.eq (.bool false), MP.eq (rectV (W : Int) (H : Int)), MP.eq (.pointer (some ⟨g, 0, none⟩)), MP.eq (.pointer (some ⟨g, 0, none⟩)), MP.eq (.pointer (some ⟨g, 0, none⟩)), MP.eq (.slice (some ⟨b, o, none⟩) ts.length cap), MP.eq (.int .i64 (M : Int)), MP.eq (.pointer (some ⟨b, o + M * 3, none⟩)), MP.eq (tripV t), MP.eq (.bool false), MP.eq (.bool true), MP.eq (.bool true)]) (by kernel_rfl) (fun _ _ _ h k => Ext.trans h k) (fun _ => Below.refl _ _) (fun x => (Below.refl x.heap.size x).drew) (MPat.mono _) (by kernel_rfl) ?obs ?rest
        case obs =>
          refine ⟨?_, ?_, ?_, ?_, ?_, ?_, ?_, ?_, ?_, ?_, ?_, ?_, ?_, ?_, ?_, ?_, ?_, ?_, ?_, ?_, ?_, ?_, ?_, trivial⟩
          · intro ev W5 hf _ _ hst hd
            have e2 : ev (.tmp 2) = .int .i64 (M : Int) := hf 2 (by kernel_rfl)
            refine st_value (v := .int .i64 (M : Int)) ?_ (Below.refl _ _) ?_
            · simp [execOp, go_sem, e2]
            · exact rfl
          · intro ev W5 hf hcst _ hst hd
            obtain ⟨d7, _⟩ := hd
            have e7 : ev (.tmp 7) = .int .i64 (M : Int) := d7
            refine st_value (v := .bool false) ?_ (Below.refl _ _) ?_
            · simp [execOp, go_sem, e7, hcst]
            · exact rfl
          · intro ev W5 hf _ _ hst hd
            obtain ⟨d8, _⟩ := hd
            have e8 : ev (.tmp 8) = .bool false := d8
            refine st_value (v := .bool false) ?_ (Below.refl _ _) ?_
            · simp [execOp, go_sem, e8]
            · exact rfl
          · intro ev W5 hf _ _ hst hd
            obtain ⟨d9, _⟩ := hd
            have e2 : ev (.tmp 2) = .int .i64 (M : Int) := hf 2 (by kernel_rfl)
            have e9 : ev (.tmp 9) = .bool false := d9
            refine ⟨fun _ => ?_, fun hne => absurd e9 hne⟩
            refine st_value (v := .int .i64 (M : Int)) ?_ (Below.refl _ _) ?_
            · simp [execOp, go_sem, e2]
            · exact rfl
          · intro ev W5 hf _ _ hst hd
            obtain ⟨d9, _⟩ := hd
            have e0 : ev (.tmp 0) = .pointer (some ⟨g, 0, none⟩) := hf 0 (by kernel_rfl)
            have e9 : ev (.tmp 9) = .bool false := d9
            refine ⟨fun _ => ?_, fun hne => absurd e9 hne⟩
            refine st_value (v := .pointer (some ⟨g, 0, none⟩)) ?_ (Below.refl _ _) ?_
            · simp [execOp, go_sem, e0]
            · exact rfl
          · intro ev W5 hf _ _ hst hd
            obtain ⟨d11, d9, _⟩ := hd
            have e11 : ev (.tmp 11) = .pointer (some ⟨g, 0, none⟩) := d11
            have e9 : ev (.tmp 9) = .bool false := d9
            refine ⟨fun _ => ?_, fun hne => absurd e9 hne⟩
            refine st_value (v := .pointer (some ⟨g, 0, none⟩)) ?_ (Below.refl _ _) ?_
            · simp [execOp, go_sem, e11]
            · exact rfl
          · intro ev W5 hf _ _ hst hd
            obtain ⟨d12, d9, _⟩ := hd
            have e12 : ev (.tmp 12) = .pointer (some ⟨g, 0, none⟩) := d12
            have e9 : ev (.tmp 9) = .bool false := d9
            refine ⟨fun _ => ?_, fun hne => absurd e9 hne⟩
            refine st_value (v := .pointer (some ⟨g, 0, none⟩)) ?_ (Below.refl _ _) ?_
            · simp [execOp, go_sem, e12]
            · exact rfl
          · intro ev W5 hf _ _ hst hd
            obtain ⟨d13, d9, _⟩ := hd
            have e13 : ev (.tmp 13) = .pointer (some ⟨g, 0, none⟩) := d13
            have e9 : ev (.tmp 9) = .bool false := d9
            refine ⟨fun _ => ?_, fun hne => absurd e9 hne⟩
            have kk := VRow.ext HRG.out hst
            have k0 := VRow.cell kk (k := 0) rfl
            refine st_value (v := .slice (some ⟨b, o, none⟩) ts.length cap) ?_ (Below.refl _ _) ?_
            · simp [execOp, go_sem, e13, k0]
            · exact rfl
          · intro ev W5 hf _ _ hst hd
            obtain ⟨d14, d9, _⟩ := hd
            have e14 : ev (.tmp 14) = .slice (some ⟨b, o, none⟩) ts.length cap := d14
            have e9 : ev (.tmp 9) = .bool false := d9
            refine ⟨fun _ => ?_, fun hne => absurd e9 hne⟩
            refine st_value (v := .int .i64 (ts.length : Int)) ?_ (Below.refl _ _) ?_
            · simp [execOp, go_sem, e14]
            · exact rfl
          · intro ev W5 hf _ _ hst hd
            obtain ⟨d10, d15, d9, _⟩ := hd
            have e10 : ev (.tmp 10) = .int .i64 (M : Int) := d10
            have e15 : ev (.tmp 15) = .int .i64 (ts.length : Int) := d15
            have e9 : ev (.tmp 9) = .bool false := d9
            refine ⟨fun _ => ?_, fun hne => absurd e9 hne⟩
            refine st_value (v := .bool false) ?_ (Below.refl _ _) ?_
            · simp [execOp, go_sem, e10, e15]; omega
            · exact rfl
          · intro ev W5 hf hcst _ hst hd
            obtain ⟨d9, d16, _⟩ := hd
            have e9 : ev (.tmp 9) = .bool false := d9
            have e16 : ev (.tmp 16) = .bool false := d16
            refine st_value (v := .bool false) ?_ (Below.refl _ _) ?_
            · simp [execOp, go_sem, e9, e16, hcst]
            · exact rfl
          · intro ev W5 hf _ _ hst hd
            obtain ⟨d17, _⟩ := hd
            have e17 : ev (.tmp 17) = .bool false := d17
            refine st_value (v := .bool false) ?_ (Below.refl _ _) ?_
            · simp [execOp, go_sem, e17]
            · exact rfl
          · intro ev W5 hf _ _ hst hd
            obtain ⟨d18, _⟩ := hd
            have e4 : ev (.tmp 4) = .pointer (some ⟨s0, 0, none⟩) := hf 4 (by kernel_rfl)
            have e18 : ev (.tmp 18) = .bool false := d18
            refine ⟨fun _ => ?_, fun hne => absurd e18 hne⟩
            have kk := VRow.ext HBX.out hst
            have k0 := VRow.cell kk (k := 0) rfl
            have k1 := VRow.cell kk (k := 1) rfl
            refine st_value (v := rectV (W : Int) (H : Int)) ?_ (Below.refl _ _) ?_
            · simp [execOp, go_sem, e4, k0, k1, rectV]
            · exact rfl
          · intro ev W5 hf _ _ hst hd
            obtain ⟨d18, _⟩ := hd
            have e0 : ev (.tmp 0) = .pointer (some ⟨g, 0, none⟩) := hf 0 (by kernel_rfl)
            have e18 : ev (.tmp 18) = .bool false := d18
            refine ⟨fun _ => ?_, fun hne => absurd e18 hne⟩
            refine st_value (v := .pointer (some ⟨g, 0, none⟩)) ?_ (Below.refl _ _) ?_
            · simp [execOp, go_sem, e0]
            · exact rfl
          · intro ev W5 hf _ _ hst hd
            obtain ⟨d20, d18, _⟩ := hd
            have e20 : ev (.tmp 20) = .pointer (some ⟨g, 0, none⟩) := d20
            have e18 : ev (.tmp 18) = .bool false := d18
            refine ⟨fun _ => ?_, fun hne => absurd e18 hne⟩
            refine st_value (v := .pointer (some ⟨g, 0, none⟩)) ?_ (Below.refl _ _) ?_
            · simp [execOp, go_sem, e20]
            · exact rfl
          · intro ev W5 hf _ _ hst hd
            obtain ⟨d21, d18, _⟩ := hd
            have e21 : ev (.tmp 21) = .pointer (some ⟨g, 0, none⟩) := d21
            have e18 : ev (.tmp 18) = .bool false := d18
            refine ⟨fun _ => ?_, fun hne => absurd e18 hne⟩
            refine st_value (v := .pointer (some ⟨g, 0, none⟩)) ?_ (Below.refl _ _) ?_
            · simp [execOp, go_sem, e21]
            · exact rfl
          · intro ev W5 hf _ _ hst hd
            obtain ⟨d22, d18, _⟩ := hd
            have e22 : ev (.tmp 22) = .pointer (some ⟨g, 0, none⟩) := d22
            have e18 : ev (.tmp 18) = .bool false := d18
            refine ⟨fun _ => ?_, fun hne => absurd e18 hne⟩
            have kk := VRow.ext HRG.out hst
            have k0 := VRow.cell kk (k := 0) rfl
            refine st_value (v := .slice (some ⟨b, o, none⟩) ts.length cap) ?_ (Below.refl _ _) ?_
            · simp [execOp, go_sem, e22, k0]
            · exact rfl
          · intro ev W5 hf _ _ hst hd
            obtain ⟨d18, _⟩ := hd
            have e2 : ev (.tmp 2) = .int .i64 (M : Int) := hf 2 (by kernel_rfl)
            have e18 : ev (.tmp 18) = .bool false := d18
            refine ⟨fun _ => ?_, fun hne => absurd e18 hne⟩
            refine st_value (v := .int .i64 (M : Int)) ?_ (Below.refl _ _) ?_
            · simp [execOp, go_sem, e2]
            · exact rfl
          · intro ev W5 hf _ _ hst hd
            obtain ⟨d23, d24, d18, _⟩ := hd
            have e23 : ev (.tmp 23) = .slice (some ⟨b, o, none⟩) ts.length cap := d23
            have e24 : ev (.tmp 24) = .int .i64 (M : Int) := d24
            have e18 : ev (.tmp 18) = .bool false := d18
            refine ⟨fun _ => ?_, fun hne => absurd e18 hne⟩
            refine st_value (v := .pointer (some ⟨b, o + M * 3, none⟩)) ?_ (Below.refl _ _) ?_
            · simp [execOp, go_sem, e23, e24, h2]
            · exact rfl
          · intro ev W5 hf _ _ hst hd
            obtain ⟨d25, d18, _⟩ := hd
            have e25 : ev (.tmp 25) = .pointer (some ⟨b, o + M * 3, none⟩) := d25
            have e18 : ev (.tmp 18) = .bool false := d18
            refine ⟨fun _ => ?_, fun hne => absurd e18 hne⟩
            have q0 := HC0.out W5 (Below.trans HB.out (hst.mono HB.out.size))
            have q1 := HC1.out W5 (Below.trans HB.out (hst.mono HB.out.size))
            have q2 := HC2.out W5 (Below.trans HB.out (hst.mono HB.out.size))
            refine st_value (v := tripV t) ?_ (Below.refl _ _) ?_
            · simp [execOp, go_sem, e25, q0, q1, q2, tripV]
            · exact rfl
          · intro ev W5 hf _ hfn hst hd
            obtain ⟨d19, d26, d18, _⟩ := hd
            have e19 : ev (.tmp 19) = rectV (W : Int) (H : Int) := d19
            have e26 : ev (.tmp 26) = tripV t := d26
            have e18 : ev (.tmp 18) = .bool false := d18
            refine ⟨fun _ => ?_, fun hne => absurd e18 hne⟩
            refine st_call (f := 121) (args := #[rectV (W : Int) (H : Int), tripV t]) (by simp [execOp, go_sem, hfn, e19, e26]) (by have h := holds_c W H t W5; rw [Hf.out] at h; exact h) (fun _ _ => rfl)
          · intro ev W5 hf _ _ hst hd
            obtain ⟨d27, d18, _⟩ := hd
            have e27 : ev (.tmp 27) = .bool false := d27
            have e18 : ev (.tmp 18) = .bool false := d18
            refine ⟨fun _ => ?_, fun hne => absurd e18 hne⟩
            refine st_value (v := .bool true) ?_ (Below.refl _ _) ?_
            · simp [execOp, go_sem, e27]
            · exact rfl
          · intro ev W5 hf hcst _ hst hd
            obtain ⟨d18, d28, _⟩ := hd
            have e18 : ev (.tmp 18) = .bool false := d18
            have e28 : ev (.tmp 28) = .bool true := d28
            refine st_value (v := .bool true) ?_ (Below.refl _ _) ?_
            · simp [execOp, go_sem, e18, e28, hcst]
            · exact rfl
        case rest =>
          intro vs w3 hl hst hg
          have HE3 := Lib.hid hst
          have hvs : vs = [.int .i64 (M : Int), .bool false, .bool false, .int .i64 (M : Int), .pointer (some ⟨g, 0, none⟩), .pointer (some ⟨g, 0, none⟩), .pointer (some ⟨g, 0, none⟩), .slice (some ⟨b, o, none⟩) ts.length cap, .int .i64 (ts.length : Int), .bool false, .bool false, .bool false, rectV (W : Int) (H : Int), .pointer (some ⟨g, 0, none⟩), .pointer (some ⟨g, 0, none⟩), .pointer (some ⟨g, 0, none⟩), .slice (some ⟨b, o, none⟩) ts.length cap, .int .i64 (M : Int), .pointer (some ⟨b, o + M * 3, none⟩), tripV t, .bool false, .bool true, .bool true] := list_of hl (fun i u hu => by
            match i, hu with
            | 0, hu => exact (congrArg some (hg 0 u hu)).symm
            | 1, hu => exact (congrArg some (hg 1 u hu)).symm
            | 2, hu => exact (congrArg some (hg 2 u hu)).symm
            | 3, hu => exact (congrArg some (hg 3 u hu)).symm
            | 4, hu => exact (congrArg some (hg 4 u hu)).symm
            | 5, hu => exact (congrArg some (hg 5 u hu)).symm
            | 6, hu => exact (congrArg some (hg 6 u hu)).symm
            | 7, hu => exact (congrArg some (hg 7 u hu)).symm
            | 8, hu => exact (congrArg some (hg 8 u hu)).symm
            | 9, hu => exact (congrArg some (hg 9 u hu)).symm
            | 10, hu => exact (congrArg some (hg 10 u hu)).symm
            | 11, hu => exact (congrArg some (hg 11 u hu)).symm
            | 12, hu => exact (congrArg some (hg 12 u hu)).symm
            | 13, hu => exact (congrArg some (hg 13 u hu)).symm
            | 14, hu => exact (congrArg some (hg 14 u hu)).symm
            | 15, hu => exact (congrArg some (hg 15 u hu)).symm
            | 16, hu => exact (congrArg some (hg 16 u hu)).symm
            | 17, hu => exact (congrArg some (hg 17 u hu)).symm
            | 18, hu => exact (congrArg some (hg 18 u hu)).symm
            | 19, hu => exact (congrArg some (hg 19 u hu)).symm
            | 20, hu => exact (congrArg some (hg 20 u hu)).symm
            | 21, hu => exact (congrArg some (hg 21 u hu)).symm
            | 22, hu => exact (congrArg some (hg 22 u hu)).symm
            | n + 23, hu => exact absurd (lt_len hu) (by rw [hl]; simp))
          clear hg hst hl
          subst hvs
          simp only [putAll, Act.put, List.dropLast, List.setIfInBounds_toArray, List.set_cons_zero, List.set_cons_succ]
          go_wp2_with fail
          go_ret
          exact ⟨by rw [HF.out]; rfl, (Frame2.of_ext HE.out).trans (Frame2.of_ext HE3.out), fun h => by rw [HF.out] at h; cases h⟩
      | true =>
        have HF := Lib.hid (show takeB ts W H (M : Int) = true by rw [HTB.out, hf])
        have Hf := Lib.hid hf
        clear hf
        generalize takeB ts W H (M : Int) = tb at *
        obtain ⟨x, hx⟩ := getElem?_len (show M < cs.length by omega)
        have HX := Lib.hid hx
        have hxb := HCB.out x (List.mem_of_getElem? hx)
        have HBU := Lib.hid (show bumpZ cs M = cs.set M (x + 1) by unfold bumpZ; rw [List.getD_eq_getElem?_getD, hx]; rfl)
        clear hx
        go_enter Try.func96, Try.ntmps96
        go_wp2_with fail
        generalize w.heap.size = s0 at *
        generalize w.alloc (.cells #[.int .i64 (W : Int), .int .i64 (H : Int)] 92) = w1 at *
        have HRG := Lib.hid HS.out.rg
        refine wp_region_stable [⟨[], none⟩, ⟨[(0, 7)], none⟩, ⟨[(1, 8)], none⟩, ⟨[(2, 9)], some (9, false)⟩, ⟨[(2, 9)], some (9, false)⟩, ⟨[(4, 11), (2, 9)], some (9, false)⟩, ⟨[(5, 12), (2, 9)], some (9, false)⟩, ⟨[(6, 13), (2, 9)], some (9, false)⟩, ⟨[(7, 14), (2, 9)], some (9, false)⟩, ⟨[(3, 10), (8, 15), (2, 9)], some (9, false)⟩, ⟨[(2, 9), (9, 16)], none⟩, ⟨[(10, 17)], none⟩, ⟨[(11, 18)], some (18, false)⟩, ⟨[(11, 18)], some (18, false)⟩, ⟨[(13, 20), (11, 18)], some (18, false)⟩, ⟨[(14, 21), (11, 18)], some (18, false)⟩, ⟨[(15, 22), (11, 18)], some (18, false)⟩, ⟨[(11, 18)], some (18, false)⟩, ⟨[(16, 23), (17, 24), (11, 18)], some (18, false)⟩, ⟨[(18, 25), (11, 18)], some (18, false)⟩, ⟨[(12, 19), (19, 26), (11, 18)], some (18, false)⟩, ⟨[(20, 27), (11, 18)], some (18, false)⟩, ⟨[(11, 18), (21, 28)], none⟩] (fun x y => Below x.heap.size x y) (MPat [MP.eq (.int .i64 (M : Int)), MP.eq (.bool false), MP.eq (.bool false), MP.eq (.int .i64 (M : Int)), MP.eq (.pointer (some ⟨g, 0, none⟩)), MP.eq (.pointer (some ⟨g, 0, none⟩)), MP.eq (.pointer (some ⟨g, 0, none⟩)), MP.eq (.slice (some ⟨b, o, none⟩) ts.length cap), MP.eq (.int .i64 (ts.length : Int)), MP.eq (.bool false), MP.eq (.bool false), MP.eq (.bool false), MP.eq (rectV (W : Int) (H : Int)), MP.eq (.pointer (some ⟨g, 0, none⟩)), MP.eq (.pointer (some ⟨g, 0, none⟩)), MP.eq (.pointer (some ⟨g, 0, none⟩)), MP.eq (.slice (some ⟨b, o, none⟩) ts.length cap), MP.eq (.int .i64 (M : Int)), MP.eq (.pointer (some ⟨b, o + M * 3, none⟩)), MP.eq (tripV t), MP.eq (.bool true), MP.eq (.bool false), MP.eq (.bool false)]) (by kernel_rfl) (fun _ _ _ h k => Ext.trans h k) (fun _ => Below.refl _ _) (fun x => (Below.refl x.heap.size x).drew) (MPat.mono _) (by kernel_rfl) ?obs ?rest
        case obs =>
          refine ⟨?_, ?_, ?_, ?_, ?_, ?_, ?_, ?_, ?_, ?_, ?_, ?_, ?_, ?_, ?_, ?_, ?_, ?_, ?_, ?_, ?_, ?_, ?_, trivial⟩
          · intro ev W5 hf _ _ hst hd
            have e2 : ev (.tmp 2) = .int .i64 (M : Int) := hf 2 (by kernel_rfl)
            refine st_value (v := .int .i64 (M : Int)) ?_ (Below.refl _ _) ?_
            · simp [execOp, go_sem, e2]
            · exact rfl
          · intro ev W5 hf hcst _ hst hd
            obtain ⟨d7, _⟩ := hd
            have e7 : ev (.tmp 7) = .int .i64 (M : Int) := d7
            refine st_value (v := .bool false) ?_ (Below.refl _ _) ?_
            · simp [execOp, go_sem, e7, hcst]
            · exact rfl
          · intro ev W5 hf _ _ hst hd
            obtain ⟨d8, _⟩ := hd
            have e8 : ev (.tmp 8) = .bool false := d8
            refine st_value (v := .bool false) ?_ (Below.refl _ _) ?_
            · simp [execOp, go_sem, e8]
            · exact rfl
          · intro ev W5 hf _ _ hst hd
            obtain ⟨d9, _⟩ := hd
            have e2 : ev (.tmp 2) = .int .i64 (M : Int) := hf 2 (by kernel_rfl)
            have e9 : ev (.tmp 9) = .bool false := d9
            refine ⟨fun _ => ?_, fun hne => absurd e9 hne⟩
            refine st_value (v := .int .i64 (M : Int)) ?_ (Below.refl _ _) ?_
            · simp [execOp, go_sem, e2]
            · exact rfl
          · intro ev W5 hf _ _ hst hd
            obtain ⟨d9, _⟩ := hd
            have e0 : ev (.tmp 0) = .pointer (some ⟨g, 0, none⟩) := hf 0 (by kernel_rfl)
            have e9 : ev (.tmp 9) = .bool false := d9
            refine ⟨fun _ => ?_, fun hne => absurd e9 hne⟩
            refine st_value (v := .pointer (some ⟨g, 0, none⟩)) ?_ (Below.refl _ _) ?_
            · simp [execOp, go_sem, e0]
            · exact rfl
          · intro ev W5 hf _ _ hst hd
            obtain ⟨d11, d9, _⟩ := hd
            have e11 : ev (.tmp 11) = .pointer (some ⟨g, 0, none⟩) := d11
            have e9 : ev (.tmp 9) = .bool false := d9
            refine ⟨fun _ => ?_, fun hne => absurd e9 hne⟩
            refine st_value (v := .pointer (some ⟨g, 0, none⟩)) ?_ (Below.refl _ _) ?_
            · simp [execOp, go_sem, e11]
            · exact rfl
          · intro ev W5 hf _ _ hst hd
            obtain ⟨d12, d9, _⟩ := hd
            have e12 : ev (.tmp 12) = .pointer (some ⟨g, 0, none⟩) := d12
            have e9 : ev (.tmp 9) = .bool false := d9
            refine ⟨fun _ => ?_, fun hne => absurd e9 hne⟩
            refine st_value (v := .pointer (some ⟨g, 0, none⟩)) ?_ (Below.refl _ _) ?_
            · simp [execOp, go_sem, e12]
            · exact rfl
          · intro ev W5 hf _ _ hst hd
            obtain ⟨d13, d9, _⟩ := hd
            have e13 : ev (.tmp 13) = .pointer (some ⟨g, 0, none⟩) := d13
            have e9 : ev (.tmp 9) = .bool false := d9
            refine ⟨fun _ => ?_, fun hne => absurd e9 hne⟩
            have kk := VRow.ext HRG.out hst
            have k0 := VRow.cell kk (k := 0) rfl
            refine st_value (v := .slice (some ⟨b, o, none⟩) ts.length cap) ?_ (Below.refl _ _) ?_
            · simp [execOp, go_sem, e13, k0]
            · exact rfl
          · intro ev W5 hf _ _ hst hd
            obtain ⟨d14, d9, _⟩ := hd
            have e14 : ev (.tmp 14) = .slice (some ⟨b, o, none⟩) ts.length cap := d14
            have e9 : ev (.tmp 9) = .bool false := d9
            refine ⟨fun _ => ?_, fun hne => absurd e9 hne⟩
            refine st_value (v := .int .i64 (ts.length : Int)) ?_ (Below.refl _ _) ?_
            · simp [execOp, go_sem, e14]
            · exact rfl
          · intro ev W5 hf _ _ hst hd
            obtain ⟨d10, d15, d9, _⟩ := hd
            have e10 : ev (.tmp 10) = .int .i64 (M : Int) := d10
            have e15 : ev (.tmp 15) = .int .i64 (ts.length : Int) := d15
            have e9 : ev (.tmp 9) = .bool false := d9
            refine ⟨fun _ => ?_, fun hne => absurd e9 hne⟩
            refine st_value (v := .bool false) ?_ (Below.refl _ _) ?_
            · simp [execOp, go_sem, e10, e15]; omega
            · exact rfl
          · intro ev W5 hf hcst _ hst hd
            obtain ⟨d9, d16, _⟩ := hd
            have e9 : ev (.tmp 9) = .bool false := d9
            have e16 : ev (.tmp 16) = .bool false := d16
            refine st_value (v := .bool false) ?_ (Below.refl _ _) ?_
            · simp [execOp, go_sem, e9, e16, hcst]
            · exact rfl
          · intro ev W5 hf _ _ hst hd
            obtain ⟨d17, _⟩ := hd
            have e17 : ev (.tmp 17) = .bool false := d17
            refine st_value (v := .bool false) ?_ (Below.refl _ _) ?_
            · simp [execOp, go_sem, e17]
            · exact rfl
          · intro ev W5 hf _ _ hst hd
            obtain ⟨d18, _⟩ := hd
            have e4 : ev (.tmp 4) = .pointer (some ⟨s0, 0, none⟩) := hf 4 (by kernel_rfl)
            have e18 : ev (.tmp 18) = .bool false := d18
            refine ⟨fun _ => ?_, fun hne => absurd e18 hne⟩
            have kk := VRow.ext HBX.out hst
            have k0 := VRow.cell kk (k := 0) rfl
            have k1 := VRow.cell kk (k := 1) rfl
            refine st_value (v := rectV (W : Int) (H : Int)) ?_ (Below.refl _ _) ?_
            · simp [execOp, go_sem, e4, k0, k1, rectV]
            · exact rfl
          · intro ev W5 hf _ _ hst hd
            obtain ⟨d18, _⟩ := hd
            have e0 : ev (.tmp 0) = .pointer (some ⟨g, 0, none⟩) := hf 0 (by kernel_rfl)
            have e18 : ev (.tmp 18) = .bool false := d18
            refine ⟨fun _ => ?_, fun hne => absurd e18 hne⟩
            refine st_value (v := .pointer (some ⟨g, 0, none⟩)) ?_ (Below.refl _ _) ?_
            · simp [execOp, go_sem, e0]
            · exact rfl
          · intro ev W5 hf _ _ hst hd
            obtain ⟨d20, d18, _⟩ := hd
            have e20 : ev (.tmp 20) = .pointer (some ⟨g, 0, none⟩) := d20
            have e18 : ev (.tmp 18) = .bool false := d18
            refine ⟨fun _ => ?_, fun hne => absurd e18 hne⟩
            refine st_value (v := .pointer (some ⟨g, 0, none⟩)) ?_ (Below.refl _ _) ?_
            · simp [execOp, go_sem, e20]
            · exact rfl
          · intro ev W5 hf _ _ hst hd
            obtain ⟨d21, d18, _⟩ := hd
            have e21 : ev (.tmp 21) = .pointer (some ⟨g, 0, none⟩) := d21
            have e18 : ev (.tmp 18) = .bool false := d18
            refine ⟨fun _ => ?_, fun hne => absurd e18 hne⟩
            refine st_value (v := .pointer (some ⟨g, 0, none⟩)) ?_ (Below.refl _ _) ?_
            · simp [execOp, go_sem, e21]
            · exact rfl
          · intro ev W5 hf _ _ hst hd
            obtain ⟨d22, d18, _⟩ := hd
            have e22 : ev (.tmp 22) = .pointer (some ⟨g, 0, none⟩) := d22
            have e18 : ev (.tmp 18) = .bool false := d18
            refine ⟨fun _ => ?_, fun hne => absurd e18 hne⟩
            have kk := VRow.ext HRG.out hst
            have k0 := VRow.cell kk (k := 0) rfl
            refine st_value (v := .slice (some ⟨b, o, none⟩) ts.length cap) ?_ (Below.refl _ _) ?_
            · simp [execOp, go_sem, e22, k0]
            · exact rfl
          · intro ev W5 hf _ _ hst hd
            obtain ⟨d18, _⟩ := hd
            have e2 : ev (.tmp 2) = .int .i64 (M : Int) := hf 2 (by kernel_rfl)
            have e18 : ev (.tmp 18) = .bool false := d18
            refine ⟨fun _ => ?_, fun hne => absurd e18 hne⟩
            refine st_value (v := .int .i64 (M : Int)) ?_ (Below.refl _ _) ?_
            · simp [execOp, go_sem, e2]
            · exact rfl
          · intro ev W5 hf _ _ hst hd
            obtain ⟨d23, d24, d18, _⟩ := hd
            have e23 : ev (.tmp 23) = .slice (some ⟨b, o, none⟩) ts.length cap := d23
            have e24 : ev (.tmp 24) = .int .i64 (M : Int) := d24
            have e18 : ev (.tmp 18) = .bool false := d18
            refine ⟨fun _ => ?_, fun hne => absurd e18 hne⟩
            refine st_value (v := .pointer (some ⟨b, o + M * 3, none⟩)) ?_ (Below.refl _ _) ?_
            · simp [execOp, go_sem, e23, e24, h2]
            · exact rfl
          · intro ev W5 hf _ _ hst hd
            obtain ⟨d25, d18, _⟩ := hd
            have e25 : ev (.tmp 25) = .pointer (some ⟨b, o + M * 3, none⟩) := d25
            have e18 : ev (.tmp 18) = .bool false := d18
            refine ⟨fun _ => ?_, fun hne => absurd e18 hne⟩
            have q0 := HC0.out W5 (Below.trans HB.out (hst.mono HB.out.size))
            have q1 := HC1.out W5 (Below.trans HB.out (hst.mono HB.out.size))
            have q2 := HC2.out W5 (Below.trans HB.out (hst.mono HB.out.size))
            refine st_value (v := tripV t) ?_ (Below.refl _ _) ?_
            · simp [execOp, go_sem, e25, q0, q1, q2, tripV]
            · exact rfl
          · intro ev W5 hf _ hfn hst hd
            obtain ⟨d19, d26, d18, _⟩ := hd
            have e19 : ev (.tmp 19) = rectV (W : Int) (H : Int) := d19
            have e26 : ev (.tmp 26) = tripV t := d26
            have e18 : ev (.tmp 18) = .bool false := d18
            refine ⟨fun _ => ?_, fun hne => absurd e18 hne⟩
            refine st_call (f := 121) (args := #[rectV (W : Int) (H : Int), tripV t]) (by simp [execOp, go_sem, hfn, e19, e26]) (by have h := holds_c W H t W5; rw [Hf.out] at h; exact h) (fun _ _ => rfl)
          · intro ev W5 hf _ _ hst hd
            obtain ⟨d27, d18, _⟩ := hd
            have e27 : ev (.tmp 27) = .bool true := d27
            have e18 : ev (.tmp 18) = .bool false := d18
            refine ⟨fun _ => ?_, fun hne => absurd e18 hne⟩
            refine st_value (v := .bool false) ?_ (Below.refl _ _) ?_
            · simp [execOp, go_sem, e27]
            · exact rfl
          · intro ev W5 hf hcst _ hst hd
            obtain ⟨d18, d28, _⟩ := hd
            have e18 : ev (.tmp 18) = .bool false := d18
            have e28 : ev (.tmp 28) = .bool false := d28
            refine st_value (v := .bool false) ?_ (Below.refl _ _) ?_
            · simp [execOp, go_sem, e18, e28, hcst]
            · exact rfl
        case rest =>
          intro vs w3 hl hst hg
          have HE3 := Lib.hid hst
          have hvs : vs = [.int .i64 (M : Int), .bool false, .bool false, .int .i64 (M : Int), .pointer (some ⟨g, 0, none⟩), .pointer (some ⟨g, 0, none⟩), .pointer (some ⟨g, 0, none⟩), .slice (some ⟨b, o, none⟩) ts.length cap, .int .i64 (ts.length : Int), .bool false, .bool false, .bool false, rectV (W : Int) (H : Int), .pointer (some ⟨g, 0, none⟩), .pointer (some ⟨g, 0, none⟩), .pointer (some ⟨g, 0, none⟩), .slice (some ⟨b, o, none⟩) ts.length cap, .int .i64 (M : Int), .pointer (some ⟨b, o + M * 3, none⟩), tripV t, .bool true, .bool false, .bool false] := list_of hl (fun i u hu => by
            match i, hu with
            | 0, hu => exact (congrArg some (hg 0 u hu)).symm
            | 1, hu => exact (congrArg some (hg 1 u hu)).symm
            | 2, hu => exact (congrArg some (hg 2 u hu)).symm
            | 3, hu => exact (congrArg some (hg 3 u hu)).symm
            | 4, hu => exact (congrArg some (hg 4 u hu)).symm
            | 5, hu => exact (congrArg some (hg 5 u hu)).symm
            | 6, hu => exact (congrArg some (hg 6 u hu)).symm
            | 7, hu => exact (congrArg some (hg 7 u hu)).symm
            | 8, hu => exact (congrArg some (hg 8 u hu)).symm
            | 9, hu => exact (congrArg some (hg 9 u hu)).symm
            | 10, hu => exact (congrArg some (hg 10 u hu)).symm
            | 11, hu => exact (congrArg some (hg 11 u hu)).symm
            | 12, hu => exact (congrArg some (hg 12 u hu)).symm
            | 13, hu => exact (congrArg some (hg 13 u hu)).symm
            | 14, hu => exact (congrArg some (hg 14 u hu)).symm
            | 15, hu => exact (congrArg some (hg 15 u hu)).symm
            | 16, hu => exact (congrArg some (hg 16 u hu)).symm
            | 17, hu => exact (congrArg some (hg 17 u hu)).symm
            | 18, hu => exact (congrArg some (hg 18 u hu)).symm
            | 19, hu => exact (congrArg some (hg 19 u hu)).symm
            | 20, hu => exact (congrArg some (hg 20 u hu)).symm
            | 21, hu => exact (congrArg some (hg 21 u hu)).symm
            | 22, hu => exact (congrArg some (hg 22 u hu)).symm
            | n + 23, hu => exact absurd (lt_len hu) (by rw [hl]; simp))
          clear hg hst hl
          subst hvs
          simp only [putAll, Act.put, List.dropLast, List.setIfInBounds_toArray, List.set_cons_zero, List.set_cons_succ]
          have HS3 := Lib.hid (HS.out.ext HE3.out)
          have HB3 := Lib.hid (Below.trans HB.out (HE3.out.mono HB.out.size))
          have HF3 := Lib.hid ((Frame2.of_ext (g := g) (c := c) HE.out).trans (Frame2.of_ext HE3.out))
          clear HE3 HS HB HE
          have HAD := Lib.hid (show IntKind.i64.wrap (v + t.2.2) = v + t.2.2 from IntWalk.i64_in _ (by omega))
          have HRG := Lib.hid HS3.out.rg
          go_wp2_with fail
          refine wp_region_stable_last [⟨[], none⟩, ⟨[(0, 30)], none⟩, ⟨[(1, 31)], none⟩, ⟨[(2, 32)], none⟩, ⟨[], none⟩, ⟨[(4, 34)], none⟩, ⟨[(5, 35)], none⟩, ⟨[(6, 36)], none⟩, ⟨[], none⟩, ⟨[(7, 37), (8, 38)], none⟩, ⟨[(9, 39)], none⟩, ⟨[(10, 40)], none⟩, ⟨[(3, 33), (11, 41)], none⟩, ⟨[(0, 30)], none⟩, ⟨[(13, 43)], none⟩] (fun x y => Below x.heap.size x y) (MPat [MP.eq (.pointer (some ⟨g, 0, none⟩)), MP.eq (.pointer (some ⟨g, 0, none⟩)), MP.eq (.pointer (some ⟨g, 2, none⟩)), MP.eq (.int .i64 v), MP.eq (.pointer (some ⟨g, 0, none⟩)), MP.eq (.pointer (some ⟨g, 0, none⟩)), MP.eq (.pointer (some ⟨g, 0, none⟩)), MP.eq (.slice (some ⟨b, o, none⟩) ts.length cap), MP.eq (.int .i64 (M : Int)), MP.eq (.pointer (some ⟨b, o + M * 3, none⟩)), MP.eq (.pointer (some ⟨b, o + M * 3 + 2, none⟩)), MP.eq (.int .i64 t.2.2), MP.eq (.int .i64 (v + t.2.2)), MP.eq (.pointer (some ⟨g, 0, none⟩)), MP.eq (.pointer (some ⟨g, 2, none⟩))]) rfl (by kernel_rfl) (fun _ _ _ h k => Ext.trans h k) (fun _ => Below.refl _ _) (fun x => (Below.refl x.heap.size x).drew) (MPat.mono _) (by kernel_rfl) (by kernel_rfl) (by kernel_rfl) ?obs2 ?rest2
          case obs2 =>
            refine ⟨?_, ?_, ?_, ?_, ?_, ?_, ?_, ?_, ?_, ?_, ?_, ?_, ?_, ?_, ?_, trivial⟩
            · intro ev W5 hf _ _ hst hd
              have e0 : ev (.tmp 0) = .pointer (some ⟨g, 0, none⟩) := hf 0 (by kernel_rfl)
              refine st_value (v := .pointer (some ⟨g, 0, none⟩)) ?_ (Below.refl _ _) ?_
              · simp [execOp, go_sem, e0]
              · exact rfl
            · intro ev W5 hf _ _ hst hd
              obtain ⟨d30, _⟩ := hd
              have e30 : ev (.tmp 30) = .pointer (some ⟨g, 0, none⟩) := d30
              refine st_value (v := .pointer (some ⟨g, 0, none⟩)) ?_ (Below.refl _ _) ?_
              · simp [execOp, go_sem, e30]
              · exact rfl
            · intro ev W5 hf _ _ hst hd
              obtain ⟨d31, _⟩ := hd
              have e31 : ev (.tmp 31) = .pointer (some ⟨g, 0, none⟩) := d31
              refine st_value (v := .pointer (some ⟨g, 2, none⟩)) ?_ (Below.refl _ _) ?_
              · simp [execOp, go_sem, e31]
              · exact rfl
            · intro ev W5 hf _ _ hst hd
              obtain ⟨d32, _⟩ := hd
              have e32 : ev (.tmp 32) = .pointer (some ⟨g, 2, none⟩) := d32
              have kk := VRow.ext HRG.out hst
              have k2 := VRow.cell kk (k := 2) rfl
              refine st_value (v := .int .i64 v) ?_ (Below.refl _ _) ?_
              · simp [execOp, go_sem, e32, k2]
              · exact rfl
            · intro ev W5 hf _ _ hst hd
              have e0 : ev (.tmp 0) = .pointer (some ⟨g, 0, none⟩) := hf 0 (by kernel_rfl)
              refine st_value (v := .pointer (some ⟨g, 0, none⟩)) ?_ (Below.refl _ _) ?_
              · simp [execOp, go_sem, e0]
              · exact rfl
            · intro ev W5 hf _ _ hst hd
              obtain ⟨d34, _⟩ := hd
              have e34 : ev (.tmp 34) = .pointer (some ⟨g, 0, none⟩) := d34
              refine st_value (v := .pointer (some ⟨g, 0, none⟩)) ?_ (Below.refl _ _) ?_
              · simp [execOp, go_sem, e34]
              · exact rfl
            · intro ev W5 hf _ _ hst hd
              obtain ⟨d35, _⟩ := hd
              have e35 : ev (.tmp 35) = .pointer (some ⟨g, 0, none⟩) := d35
              refine st_value (v := .pointer (some ⟨g, 0, none⟩)) ?_ (Below.refl _ _) ?_
              · simp [execOp, go_sem, e35]
              · exact rfl
            · intro ev W5 hf _ _ hst hd
              obtain ⟨d36, _⟩ := hd
              have e36 : ev (.tmp 36) = .pointer (some ⟨g, 0, none⟩) := d36
              have kk := VRow.ext HRG.out hst
              have k0 := VRow.cell kk (k := 0) rfl
              refine st_value (v := .slice (some ⟨b, o, none⟩) ts.length cap) ?_ (Below.refl _ _) ?_
              · simp [execOp, go_sem, e36, k0]
              · exact rfl
            · intro ev W5 hf _ _ hst hd
              have e2 : ev (.tmp 2) = .int .i64 (M : Int) := hf 2 (by kernel_rfl)
              refine st_value (v := .int .i64 (M : Int)) ?_ (Below.refl _ _) ?_
              · simp [execOp, go_sem, e2]
              · exact rfl
            · intro ev W5 hf _ _ hst hd
              obtain ⟨d37, d38, _⟩ := hd
              have e37 : ev (.tmp 37) = .slice (some ⟨b, o, none⟩) ts.length cap := d37
              have e38 : ev (.tmp 38) = .int .i64 (M : Int) := d38
              refine st_value (v := .pointer (some ⟨b, o + M * 3, none⟩)) ?_ (Below.refl _ _) ?_
              · simp [execOp, go_sem, e37, e38, h2]
              · exact rfl
            · intro ev W5 hf _ _ hst hd
              obtain ⟨d39, _⟩ := hd
              have e39 : ev (.tmp 39) = .pointer (some ⟨b, o + M * 3, none⟩) := d39
              refine st_value (v := .pointer (some ⟨b, o + M * 3 + 2, none⟩)) ?_ (Below.refl _ _) ?_
              · simp [execOp, go_sem, e39]
              · exact rfl
            · intro ev W5 hf _ _ hst hd
              obtain ⟨d40, _⟩ := hd
              have e40 : ev (.tmp 40) = .pointer (some ⟨b, o + M * 3 + 2, none⟩) := d40
              have q2 := HC2.out W5 (Below.trans HB3.out (hst.mono HB3.out.size))
              refine st_value (v := .int .i64 t.2.2) ?_ (Below.refl _ _) ?_
              · simp [execOp, go_sem, e40, q2]
              · exact rfl
            · intro ev W5 hf _ _ hst hd
              obtain ⟨d33, d41, _⟩ := hd
              have e33 : ev (.tmp 33) = .int .i64 v := d33
              have e41 : ev (.tmp 41) = .int .i64 t.2.2 := d41
              refine st_value (v := .int .i64 (v + t.2.2)) ?_ (Below.refl _ _) ?_
              · simp [execOp, go_sem, e33, e41, HAD.out]
              · exact rfl
            · intro ev W5 hf _ _ hst hd
              obtain ⟨d30, _⟩ := hd
              have e30 : ev (.tmp 30) = .pointer (some ⟨g, 0, none⟩) := d30
              refine st_value (v := .pointer (some ⟨g, 0, none⟩)) ?_ (Below.refl _ _) ?_
              · simp [execOp, go_sem, e30]
              · exact rfl
            · intro ev W5 hf _ _ hst hd
              obtain ⟨d43, _⟩ := hd
              have e43 : ev (.tmp 43) = .pointer (some ⟨g, 0, none⟩) := d43
              refine st_value (v := .pointer (some ⟨g, 2, none⟩)) ?_ (Below.refl _ _) ?_
              · simp [execOp, go_sem, e43]
              · exact rfl
          case rest2 =>
            intro vs w4 hl hst hg
            have HE3 := Lib.hid hst
            have hvs : vs = [.pointer (some ⟨g, 0, none⟩), .pointer (some ⟨g, 0, none⟩), .pointer (some ⟨g, 2, none⟩), .int .i64 v, .pointer (some ⟨g, 0, none⟩), .pointer (some ⟨g, 0, none⟩), .pointer (some ⟨g, 0, none⟩), .slice (some ⟨b, o, none⟩) ts.length cap, .int .i64 (M : Int), .pointer (some ⟨b, o + M * 3, none⟩), .pointer (some ⟨b, o + M * 3 + 2, none⟩), .int .i64 t.2.2, .int .i64 (v + t.2.2), .pointer (some ⟨g, 0, none⟩), .pointer (some ⟨g, 2, none⟩)] := list_of hl (fun i u hu => by
              match i, hu with
              | 0, hu => exact (congrArg some (hg 0 u hu)).symm
              | 1, hu => exact (congrArg some (hg 1 u hu)).symm
              | 2, hu => exact (congrArg some (hg 2 u hu)).symm
              | 3, hu => exact (congrArg some (hg 3 u hu)).symm
              | 4, hu => exact (congrArg some (hg 4 u hu)).symm
              | 5, hu => exact (congrArg some (hg 5 u hu)).symm
              | 6, hu => exact (congrArg some (hg 6 u hu)).symm
              | 7, hu => exact (congrArg some (hg 7 u hu)).symm
              | 8, hu => exact (congrArg some (hg 8 u hu)).symm
              | 9, hu => exact (congrArg some (hg 9 u hu)).symm
              | 10, hu => exact (congrArg some (hg 10 u hu)).symm
              | 11, hu => exact (congrArg some (hg 11 u hu)).symm
              | 12, hu => exact (congrArg some (hg 12 u hu)).symm
              | 13, hu => exact (congrArg some (hg 13 u hu)).symm
              | 14, hu => exact (congrArg some (hg 14 u hu)).symm
              | n + 15, hu => exact absurd (lt_len hu) (by rw [hl]; simp))
            clear hg hst hl
            subst hvs
            simp only [putAll, Act.put, List.dropLast, List.setIfInBounds_toArray, List.set_cons_zero, List.set_cons_succ]
            have HS4 := Lib.hid (HS3.out.ext HE3.out)
            have HF4 := Lib.hid (HF3.out.trans (Frame2.of_ext HE3.out))
            clear HE3 HS3 HF3
            have m2 := VRow.cell HS4.out.rg (k := 2) rfl
            have f2 := VRow.frozen HS4.out.rg 2 none
            have hG := VRow.set HS4.out.rg 2 (.int .i64 (v + t.2.2))
            have hC := VRow.setOther HS4.out.rc (a := ⟨g, 2, none⟩) (by show c ≠ g; omega) (.int .i64 (v + t.2.2))
            have c3 := VRow.cell hG (k := 3) rfl
            have x0 := IRow.at hC HX.out
            have fx := VRow.frozen hC M none
            have hml : M < cs.length := by omega
            have hwx : IntKind.i64.wrap (x + 1) = x + 1 := IntWalk.i64_in _ (by omega)
            have HG := Lib.hid hG
            have HCC := Lib.hid hC
            clear hG hC
            go_wp2_with fail
            go_ret
            have hF := (HF4.out.trans (Frame2.set _ ⟨g, 2, none⟩ (.int .i64 (v + t.2.2)) (.inl rfl))).trans (Frame2.set _ ⟨c, M, none⟩ (.int .i64 (x + 1)) (.inr rfl))
            refine ⟨by rw [HF.out]; rfl, hF, fun _ => ?_⟩
            rw [HBU.out]
            refine ⟨?_, IRow.put HCC.out M (x + 1)⟩
            have := VRow.setOther HG.out (a := ⟨c, M, none⟩) (by show g ≠ c; omega) (.int .i64 (x + 1))
            rw [List.length_set]
            exact this
    · have HF := Lib.hid (show takeB ts W H (M : Int) = false by rw [HTB.out, decide_eq_false (show ¬ (M : Int) < (ts.length : Int) by omega)]; simp)
      generalize takeB ts W H (M : Int) = tb at *
      go_enter Try.func96, Try.ntmps96
      go_wp2_with fail
      generalize w.heap.size = s0 at *
      generalize w.alloc (.cells #[.int .i64 (W : Int), .int .i64 (H : Int)] 92) = w1 at *
      have HRG := Lib.hid HS.out.rg
      refine wp_region_stable [⟨[], none⟩, ⟨[(0, 7)], none⟩, ⟨[(1, 8)], none⟩, ⟨[(2, 9)], some (9, false)⟩, ⟨[(2, 9)], some (9, false)⟩, ⟨[(4, 11), (2, 9)], some (9, false)⟩, ⟨[(5, 12), (2, 9)], some (9, false)⟩, ⟨[(6, 13), (2, 9)], some (9, false)⟩, ⟨[(7, 14), (2, 9)], some (9, false)⟩, ⟨[(3, 10), (8, 15), (2, 9)], some (9, false)⟩, ⟨[(2, 9), (9, 16)], none⟩, ⟨[(10, 17)], none⟩, ⟨[(11, 18)], some (18, false)⟩, ⟨[(11, 18)], some (18, false)⟩, ⟨[(13, 20), (11, 18)], some (18, false)⟩, ⟨[(14, 21), (11, 18)], some (18, false)⟩, ⟨[(15, 22), (11, 18)], some (18, false)⟩, ⟨[(11, 18)], some (18, false)⟩, ⟨[(16, 23), (17, 24), (11, 18)], some (18, false)⟩, ⟨[(18, 25), (11, 18)], some (18, false)⟩, ⟨[(12, 19), (19, 26), (11, 18)], some (18, false)⟩, ⟨[(20, 27), (11, 18)], some (18, false)⟩, ⟨[(11, 18), (21, 28)], none⟩] (fun x y => Below x.heap.size x y) (MPat [MP.eq (.int .i64 (M : Int)), MP.eq (.bool false), MP.eq (.bool false), MP.eq (.int .i64 (M : Int)), MP.eq (.pointer (some ⟨g, 0, none⟩)), MP.eq (.pointer (some ⟨g, 0, none⟩)), MP.eq (.pointer (some ⟨g, 0, none⟩)), MP.eq (.slice a ts.length cap), MP.eq (.int .i64 (ts.length : Int)), MP.eq (.bool true), MP.eq (.bool true), MP.eq (.bool true), MP.eq (undef), MP.eq (undef), MP.eq (undef), MP.eq (undef), MP.eq (undef), MP.eq (undef), MP.eq (undef), MP.eq (undef), MP.eq (undef), MP.eq (undef), MP.eq (.bool true)]) (by kernel_rfl) (fun _ _ _ h k => Ext.trans h k) (fun _ => Below.refl _ _) (fun x => (Below.refl x.heap.size x).drew) (MPat.mono _) (by kernel_rfl) ?obs ?rest
      case obs =>
        refine ⟨?_, ?_, ?_, ?_, ?_, ?_, ?_, ?_, ?_, ?_, ?_, ?_, ?_, ?_, ?_, ?_, ?_, ?_, ?_, ?_, ?_, ?_, ?_, trivial⟩
        · intro ev W5 hf _ _ hst hd
          have e2 : ev (.tmp 2) = .int .i64 (M : Int) := hf 2 (by kernel_rfl)
          refine st_value (v := .int .i64 (M : Int)) ?_ (Below.refl _ _) ?_
          · simp [execOp, go_sem, e2]
          · exact rfl
        · intro ev W5 hf hcst _ hst hd
          obtain ⟨d7, _⟩ := hd
          have e7 : ev (.tmp 7) = .int .i64 (M : Int) := d7
          refine st_value (v := .bool false) ?_ (Below.refl _ _) ?_
          · simp [execOp, go_sem, e7, hcst]
          · exact rfl
        · intro ev W5 hf _ _ hst hd
          obtain ⟨d8, _⟩ := hd
          have e8 : ev (.tmp 8) = .bool false := d8
          refine st_value (v := .bool false) ?_ (Below.refl _ _) ?_
          · simp [execOp, go_sem, e8]
          · exact rfl
        · intro ev W5 hf _ _ hst hd
          obtain ⟨d9, _⟩ := hd
          have e2 : ev (.tmp 2) = .int .i64 (M : Int) := hf 2 (by kernel_rfl)
          have e9 : ev (.tmp 9) = .bool false := d9
          refine ⟨fun _ => ?_, fun hne => absurd e9 hne⟩
          refine st_value (v := .int .i64 (M : Int)) ?_ (Below.refl _ _) ?_
          · simp [execOp, go_sem, e2]
          · exact rfl
        · intro ev W5 hf _ _ hst hd
          obtain ⟨d9, _⟩ := hd
          have e0 : ev (.tmp 0) = .pointer (some ⟨g, 0, none⟩) := hf 0 (by kernel_rfl)
          have e9 : ev (.tmp 9) = .bool false := d9
          refine ⟨fun _ => ?_, fun hne => absurd e9 hne⟩
          refine st_value (v := .pointer (some ⟨g, 0, none⟩)) ?_ (Below.refl _ _) ?_
          · simp [execOp, go_sem, e0]
          · exact rfl
        · intro ev W5 hf _ _ hst hd
          obtain ⟨d11, d9, _⟩ := hd
          have e11 : ev (.tmp 11) = .pointer (some ⟨g, 0, none⟩) := d11
          have e9 : ev (.tmp 9) = .bool false := d9
          refine ⟨fun _ => ?_, fun hne => absurd e9 hne⟩
          refine st_value (v := .pointer (some ⟨g, 0, none⟩)) ?_ (Below.refl _ _) ?_
          · simp [execOp, go_sem, e11]
          · exact rfl
        · intro ev W5 hf _ _ hst hd
          obtain ⟨d12, d9, _⟩ := hd
          have e12 : ev (.tmp 12) = .pointer (some ⟨g, 0, none⟩) := d12
          have e9 : ev (.tmp 9) = .bool false := d9
          refine ⟨fun _ => ?_, fun hne => absurd e9 hne⟩
          refine st_value (v := .pointer (some ⟨g, 0, none⟩)) ?_ (Below.refl _ _) ?_
          · simp [execOp, go_sem, e12]
          · exact rfl
        · intro ev W5 hf _ _ hst hd
          obtain ⟨d13, d9, _⟩ := hd
          have e13 : ev (.tmp 13) = .pointer (some ⟨g, 0, none⟩) := d13
          have e9 : ev (.tmp 9) = .bool false := d9
          refine ⟨fun _ => ?_, fun hne => absurd e9 hne⟩
          have kk := VRow.ext HRG.out hst
          have k0 := VRow.cell kk (k := 0) rfl
          refine st_value (v := .slice a ts.length cap) ?_ (Below.refl _ _) ?_
          · simp [execOp, go_sem, e13, k0]
          · exact rfl
        · intro ev W5 hf _ _ hst hd
          obtain ⟨d14, d9, _⟩ := hd
          have e14 : ev (.tmp 14) = .slice a ts.length cap := d14
          have e9 : ev (.tmp 9) = .bool false := d9
          refine ⟨fun _ => ?_, fun hne => absurd e9 hne⟩
          refine st_value (v := .int .i64 (ts.length : Int)) ?_ (Below.refl _ _) ?_
          · simp [execOp, go_sem, e14]
          · exact rfl
        · intro ev W5 hf _ _ hst hd
          obtain ⟨d10, d15, d9, _⟩ := hd
          have e10 : ev (.tmp 10) = .int .i64 (M : Int) := d10
          have e15 : ev (.tmp 15) = .int .i64 (ts.length : Int) := d15
          have e9 : ev (.tmp 9) = .bool false := d9
          refine ⟨fun _ => ?_, fun hne => absurd e9 hne⟩
          refine st_value (v := .bool true) ?_ (Below.refl _ _) ?_
          · simp [execOp, go_sem, e10, e15]; omega
          · exact rfl
        · intro ev W5 hf hcst _ hst hd
          obtain ⟨d9, d16, _⟩ := hd
          have e9 : ev (.tmp 9) = .bool false := d9
          have e16 : ev (.tmp 16) = .bool true := d16
          refine st_value (v := .bool true) ?_ (Below.refl _ _) ?_
          · simp [execOp, go_sem, e9, e16, hcst]
          · exact rfl
        · intro ev W5 hf _ _ hst hd
          obtain ⟨d17, _⟩ := hd
          have e17 : ev (.tmp 17) = .bool true := d17
          refine st_value (v := .bool true) ?_ (Below.refl _ _) ?_
          · simp [execOp, go_sem, e17]
          · exact rfl
        · intro ev W5 hf _ _ hst hd
          obtain ⟨d18, _⟩ := hd
          have e18 : ev (.tmp 18) = .bool true := d18
          refine ⟨fun hh => ?_, fun _ => rfl⟩
          rw [e18] at hh
          simp at hh
        · intro ev W5 hf _ _ hst hd
          obtain ⟨d18, _⟩ := hd
          have e18 : ev (.tmp 18) = .bool true := d18
          refine ⟨fun hh => ?_, fun _ => rfl⟩
          rw [e18] at hh
          simp at hh
        · intro ev W5 hf _ _ hst hd
          obtain ⟨d20, d18, _⟩ := hd
          have e18 : ev (.tmp 18) = .bool true := d18
          refine ⟨fun hh => ?_, fun _ => rfl⟩
          rw [e18] at hh
          simp at hh
        · intro ev W5 hf _ _ hst hd
          obtain ⟨d21, d18, _⟩ := hd
          have e18 : ev (.tmp 18) = .bool true := d18
          refine ⟨fun hh => ?_, fun _ => rfl⟩
          rw [e18] at hh
          simp at hh
        · intro ev W5 hf _ _ hst hd
          obtain ⟨d22, d18, _⟩ := hd
          have e18 : ev (.tmp 18) = .bool true := d18
          refine ⟨fun hh => ?_, fun _ => rfl⟩
          rw [e18] at hh
          simp at hh
        · intro ev W5 hf _ _ hst hd
          obtain ⟨d18, _⟩ := hd
          have e18 : ev (.tmp 18) = .bool true := d18
          refine ⟨fun hh => ?_, fun _ => rfl⟩
          rw [e18] at hh
          simp at hh
        · intro ev W5 hf _ _ hst hd
          obtain ⟨d23, d24, d18, _⟩ := hd
          have e18 : ev (.tmp 18) = .bool true := d18
          refine ⟨fun hh => ?_, fun _ => rfl⟩
          rw [e18] at hh
          simp at hh
        · intro ev W5 hf _ _ hst hd
          obtain ⟨d25, d18, _⟩ := hd
          have e18 : ev (.tmp 18) = .bool true := d18
          refine ⟨fun hh => ?_, fun _ => rfl⟩
          rw [e18] at hh
          simp at hh
        · intro ev W5 hf _ _ hst hd
          obtain ⟨d19, d26, d18, _⟩ := hd
          have e18 : ev (.tmp 18) = .bool true := d18
          refine ⟨fun hh => ?_, fun _ => rfl⟩
          rw [e18] at hh
          simp at hh
        · intro ev W5 hf _ _ hst hd
          obtain ⟨d27, d18, _⟩ := hd
          have e18 : ev (.tmp 18) = .bool true := d18
          refine ⟨fun hh => ?_, fun _ => rfl⟩
          rw [e18] at hh
          simp at hh
        · intro ev W5 hf hcst _ hst hd
          obtain ⟨d18, d28, _⟩ := hd
          have e18 : ev (.tmp 18) = .bool true := d18
          have e28 : ev (.tmp 28) = undef := d28
          refine st_value (v := .bool true) ?_ (Below.refl _ _) ?_
          · simp [execOp, go_sem, e18, e28, hcst]
          · exact rfl
      case rest =>
        intro vs w3 hl hst hg
        have HE3 := Lib.hid hst
        have hvs : vs = [.int .i64 (M : Int), .bool false, .bool false, .int .i64 (M : Int), .pointer (some ⟨g, 0, none⟩), .pointer (some ⟨g, 0, none⟩), .pointer (some ⟨g, 0, none⟩), .slice a ts.length cap, .int .i64 (ts.length : Int), .bool true, .bool true, .bool true, undef, undef, undef, undef, undef, undef, undef, undef, undef, undef, .bool true] := list_of hl (fun i u hu => by
          match i, hu with
          | 0, hu => exact (congrArg some (hg 0 u hu)).symm
          | 1, hu => exact (congrArg some (hg 1 u hu)).symm
          | 2, hu => exact (congrArg some (hg 2 u hu)).symm
          | 3, hu => exact (congrArg some (hg 3 u hu)).symm
          | 4, hu => exact (congrArg some (hg 4 u hu)).symm
          | 5, hu => exact (congrArg some (hg 5 u hu)).symm
          | 6, hu => exact (congrArg some (hg 6 u hu)).symm
          | 7, hu => exact (congrArg some (hg 7 u hu)).symm
          | 8, hu => exact (congrArg some (hg 8 u hu)).symm
          | 9, hu => exact (congrArg some (hg 9 u hu)).symm
          | 10, hu => exact (congrArg some (hg 10 u hu)).symm
          | 11, hu => exact (congrArg some (hg 11 u hu)).symm
          | 12, hu => exact (congrArg some (hg 12 u hu)).symm
          | 13, hu => exact (congrArg some (hg 13 u hu)).symm
          | 14, hu => exact (congrArg some (hg 14 u hu)).symm
          | 15, hu => exact (congrArg some (hg 15 u hu)).symm
          | 16, hu => exact (congrArg some (hg 16 u hu)).symm
          | 17, hu => exact (congrArg some (hg 17 u hu)).symm
          | 18, hu => exact (congrArg some (hg 18 u hu)).symm
          | 19, hu => exact (congrArg some (hg 19 u hu)).symm
          | 20, hu => exact (congrArg some (hg 20 u hu)).symm
          | 21, hu => exact (congrArg some (hg 21 u hu)).symm
          | 22, hu => exact (congrArg some (hg 22 u hu)).symm
          | n + 23, hu => exact absurd (lt_len hu) (by rw [hl]; simp))
        clear hg hst hl
        subst hvs
        simp only [putAll, Act.put, List.dropLast, List.setIfInBounds_toArray, List.set_cons_zero, List.set_cons_succ]
        go_wp2_with fail
        go_ret
        exact ⟨by rw [HF.out]; rfl, (Frame2.of_ext HE.out).trans (Frame2.of_ext HE3.out), fun h => by rw [HF.out] at h; cases h⟩
end Go.Proofs.Ytnpebfchojalcaa

