import Derived.Test.YtnpebfchojalcaaR19
import Derived.Test.YtnpebfchojalcaaV10
import Derived.Maps.OwnIn
import Derived.Maps.AppendAt
namespace Go.Proofs.Ytnpebfchojalcaa
set_option maxRecDepth 100000
open Go.RowKit Go.Shelf
attribute [local go_sem] Oper.semAt_some
/-! The reference's moved and flipped points. -/
/-- an append to a row of one's own, as the operation behind all the others of its region -/
theorem operIn_append_row {F : Fence} {nF : Nat} {P : Program} (w : World) {o : Oper} {a : Act} {K : Act → World → Prop} {Q : Exit → Act → World → Prop} (s x : Operand) (t : TypeId)
    (ho : o.op = .call { callee := .builtin .append, args := #[s, x], argTypes := #[t, t] })
    (base : Nat) (e : TypeId) (i : TypeInfo) (z : Value) (size bytes : Nat) (ht : P.underlying t = some (.slice e)) (hi : P.info? e = some i) (hz : i.zero = some z)
    (hsize : i.size = size) (hby : i.bytes = bytes) (hzs : z.cells.size = size) (hsz : 0 < size)
    (v : Value) (n : Nat) (xs : List Value) (hs : a.eval s = v) (hown : w.ownsRow base e size v n xs)
    (ad : Addr) (m c : Nat) (news : List Value) (hx : a.eval x = .slice (some ad) m c) (hl : news.length = m * size) (hnews : ∀ j u, news[j]? = some u → w.cell? (ad.add j) = some u) (h1 : ∀ u ∈ news, u.oneCell' = true)
    (h63 : n + m ≤ maxLen) (hbytes : (n + m) * bytes ≤ 140737488355328) (hbase : base ≤ w.heap.size)
    (h : ∀ v' w', w'.ownsRow base e size v' (n + m) (xs ++ news) → w.grownBy w' v.ownBlock → (v'.ownBlock = v.ownBlock ∨ v'.ownBlock = some w.heap.size) → K (a.put o.dst v') w') :
    o.wpIn F nF P a w K Q := by
  obtain ⟨v', w', hr, h2, h3, h4, h5⟩ := run_append_own_at (P := P) w base t o.type e i z size bytes ht hi hz hsize hby hzs hsz v n xs hown ad m c news hl hnews h1 h63 hbytes hbase
  unfold Oper.wpIn
  refine ⟨by simp [Oper.about, ho, resolve, Target.leads, Sem.run_pure], ?_⟩
  rw [Oper.semAt_plain F _ _ (by rw [ho]; intro c hc'; cases hc')]
  simp [execOp, ho, resolve, invoke, builtin, hs, hx, hr, Result.andThen]
  exact h v' w' h2 h3 h5
/-- a slice of one point, made anew -/
def MP.pt (s : Nat) (x y : Int) : MP := ⟨fun v W => ∃ r, v = .slice (some ⟨r, 0, none⟩) 1 1 ∧ VRow W r 31 [.int .i64 x, .int .i64 y] ∧ s ≤ r, fun _ _ _ h hh => by
  obtain ⟨r, e, h1, h2⟩ := hh
  exact ⟨r, e, VRow.ext h1 h, h2⟩⟩
theorem two_cells {W : World} {r : Nat} {t : TypeId} {x y : Value} (h : VRow W r t [x, y]) (j : Nat) (u : Value) (hj : [x, y][j]? = some u) : W.cell? ((⟨r, 0, none⟩ : Addr).add j) = some u := by
  have h0 := VRow.cell h (k := 0) rfl
  have h1 := VRow.cell h (k := 1) rfl
  match j, hj with
  | 0, hj => injection hj with hj; subst hj; exact h0
  | 1, hj => injection hj with hj; subst hj; exact h1
theorem row_base {w : World} {base c n : Nat} {v : Value} {xs : List Value} (h : w.ownsRow base 31 2 v n xs) (hc : c ≤ base) : w.ownsRow c 31 2 v n xs := by
  refine ⟨h.1, ?_⟩
  rcases h.2 with h | ⟨g, cap, cur, hv, hb, r⟩
  · exact .inl h
  · exact .inr ⟨g, cap, cur, hv, by omega, r⟩
theorem row_slice {w : World} {base : Nat} {e : TypeId} {sz n : Nat} {v : Value} {xs : List Value} (h : w.ownsRow base e sz v n xs) : ∃ a cap, v = .slice a n cap := by
  rcases h.2 with ⟨h, h0⟩ | ⟨g', cap, cur, hv, _⟩
  · exact ⟨none, 0, by rw [h, h0]⟩
  · exact ⟨_, _, hv⟩
theorem row_below {w w' : World} {base : Nat} {e : TypeId} {sz n : Nat} {v : Value} {xs : List Value} (h : w.ownsRow base e sz v n xs) (hg : w.grownBy w' v.ownBlock) (hb : base ≤ w.heap.size) : Below base w w' :=
  ⟨hg.os, hg.tape, hg.output, hg.size, fun i hi => hg.block i (by omega) (fun e => by have := own_block h e.symm; omega)⟩
theorem cells_take (f : Pt → Pt) {ps : List Pt} {k : Nat} (hk : k < ps.length) : cellsOf ((ps.map f).take (k + 1)) = cellsOf ((ps.map f).take k) ++ [.int .i64 (f (fromP ps k)).1, .int .i64 (f (fromP ps k)).2] := by
  have h : (ps.map f)[k]? = some (f (fromP ps k)) := by
    obtain ⟨q, hq⟩ := getElem?_len hk
    rw [List.getElem?_map, hq, fromP_of hq]; rfl
  rw [take_succ_get h, cellsOf_append]; rfl
set_option maxHeartbeats 4000000 in
theorem moved_c (v : Value) (ps : List Pt) (x y : Int) (w : World) (hv : Vecs w v ps) (hn : nearF ps) (hx : -4000 ≤ x ∧ x ≤ 4000) (hy : -4000 ≤ y ∧ y ≤ 4000) (h1 : 1 ≤ ps.length) (h32 : ps.length ≤ 1000) :
    Calls Try.prog 110 #[v, vecV x y] w fun e w' => ∃ r, e = .returned r ∧ w'.ownsRow w.heap.size 31 2 r ps.length (cellsOf (movedP ps (x, y))) ∧ Ext w w' := by
  obtain ⟨b, o, cap, rfl, hl, hm, hc⟩ := vecs_cells hv h1
  have HC := Lib.hid hc
  have HNR := Lib.hid (fun (k : Nat) (hk : k < ps.length) => from_nearF hn hk)
  have HTS := Lib.hid (fun (k : Nat) (hk : k < ps.length) => cells_take (addP (x, y)) hk)
  have HFIN := Lib.hid (show cellsOf ((ps.map (addP (x, y))).take ps.length) = cellsOf (ps.map (addP (x, y))) by rw [List.take_of_length_le (by simp)])
  have HE1 := Lib.hid (Ext.alloc (Ext.refl w) (.cells #[.int .i64 x, .int .i64 y] 31))
  have HV1 := Lib.hid (show VRow (w.alloc (.cells #[.int .i64 x, .int .i64 y] 31)) _ _ _ from vrow_alloc w [.int .i64 x, .int .i64 y] 31)
  have hs1 : (w.alloc (.cells #[.int .i64 x, .int .i64 y] 31)).heap.size = w.heap.size + 1 := by simp
  obtain ⟨i0, hi0, hz0, hz1, hz2⟩ := info_parts info31
  have HI := Lib.hid hi0
  have HZ0 := Lib.hid hz0
  have HZ1 := Lib.hid hz1
  have HZ2 := Lib.hid hz2
  show Calls Try.prog 110 #[.slice (some ⟨b, o, none⟩) ps.length cap, vecV x y] w fun e w' => ∃ r, e = .returned r ∧ w'.ownsRow w.heap.size 31 2 r ps.length (cellsOf (ps.map (addP (x, y)))) ∧ Ext w w'
  obtain ⟨n, hnn⟩ : ∃ n, n = ps.length := ⟨_, rfl⟩
  rw [← hnn] at HC HNR HTS HFIN hl h1 h32 ⊢
  clear hv hc hn hnn hi0 hz0 hz1 hz2
  go_enter Try.func110, Try.ntmps110
  go_wp2_with fail
  obtain ⟨g, hg⟩ : ∃ g, g = w.heap.size := ⟨_, rfl⟩
  rw [← hg] at HV1 hs1 ⊢
  obtain ⟨w1, hw1⟩ : ∃ w1, w1 = w.alloc (.cells #[.int .i64 x, .int .i64 y] 31) := ⟨_, rfl⟩
  rw [← hw1] at HV1 HE1 hs1 ⊢
  have HG := Lib.hid hg
  clear hg hw1
  go_loopw [5, 6] (fun u iv wr => ∃ k : Nat, iv = .int .i64 (k : Int) ∧ k ≤ n ∧ wr.ownsRow (g + 1) 31 2 u k (cellsOf ((ps.map (addP (x, y))).take k)) ∧ Ext w1 wr) (fun _ iv _ => n - (intOf iv).toNat)
  case atStart => exact ⟨0, rfl, Nat.zero_le _, ⟨rfl, .inl ⟨rfl, rfl⟩⟩, Ext.refl _⟩
  case round =>
    rename World => wr
    obtain ⟨k, rfl, hk, hR, hE⟩ := hrel
    obtain ⟨a1, c1, rfl⟩ := row_slice hR
    have HR := Lib.hid hR
    have HE := Lib.hid hE
    have HEw := Lib.hid (Ext.trans HE1.out hE)
    have HVr := Lib.hid (VRow.ext HV1.out hE)
    clear hR hE
    by_cases hlt : k < n
    · obtain ⟨c1', c2'⟩ := HC.out k hlt
      have C1 := Lib.hid (Ext.cell HEw.out c1')
      have C2 := Lib.hid (Ext.cell HEw.out c2')
      have hbd := HNR.out k hlt
      have HTK := Lib.hid (HTS.out k hlt)
      clear c1' c2'
      have HTK2 := Lib.hid (show addP (x, y) (fromP ps k) = ((fromP ps k).1 + x, (fromP ps k).2 + y) from rfl)
      rw [HTK2.out] at HTK
      dsimp only at HTK
      generalize (fromP ps k).1 = px at *
      generalize (fromP ps k).2 = py at *
      have HW1 := Lib.hid (show IntKind.i64.wrap (px + x) = px + x from IntWalk.i64_in _ (by omega))
      have HW2 := Lib.hid (show IntKind.i64.wrap (py + y) = py + y from IntWalk.i64_in _ (by omega))
      clear HTK2
      go_wp2_with fail
      refine (wpIn_wide (n := 9)).1 ?_
      refine wpIn_region_stable_last2 Open.wide [⟨[], none⟩, ⟨[], none⟩, ⟨[], none⟩, ⟨[(1, 14), (2, 15)], none⟩, ⟨[(3, 16)], none⟩, ⟨[(4, 17)], none⟩, ⟨[], none⟩, ⟨[(6, 19)], none⟩, ⟨[(5, 18), (7, 20)], none⟩, ⟨[], none⟩, ⟨[], none⟩, ⟨[(9, 22), (10, 23)], none⟩, ⟨[(11, 24)], none⟩, ⟨[(12, 25)], none⟩, ⟨[], none⟩, ⟨[(14, 27)], none⟩, ⟨[(13, 26), (15, 28)], none⟩, ⟨[(8, 21), (16, 29)], none⟩, ⟨[(17, 30)], none⟩] (fun x y => Below x.heap.size x y) (MPat [MP.eq (.slice a1 k c1), MP.eq (.slice (some ⟨b, o, none⟩) n cap), MP.eq (.int .i64 (k : Int)), MP.eq (.pointer (some ⟨b, o + k * 2, none⟩)), MP.eq (.pointer (some ⟨b, o + k * 2, none⟩)), MP.eq (.int .i64 px), MP.eq (.pointer (some ⟨g, 0, none⟩)), MP.eq (.int .i64 x), MP.eq (.int .i64 (px + x)), MP.eq (.slice (some ⟨b, o, none⟩) n cap), MP.eq (.int .i64 (k : Int)), MP.eq (.pointer (some ⟨b, o + k * 2, none⟩)), MP.eq (.pointer (some ⟨b, o + k * 2 + 1, none⟩)), MP.eq (.int .i64 py), MP.eq (.pointer (some ⟨g, 1, none⟩)), MP.eq (.int .i64 y), MP.eq (.int .i64 (py + y)), MP.eq (.agg #[.int .i64 (px + x), .int .i64 (py + y)]), MP.pt wr.heap.size (px + x) (py + y)]) rfl (by kernel_rfl) (fun _ _ _ h k => Ext.trans h k) (fun _ => Below.refl _ _) (fun x => (Below.refl x.heap.size x).drew) (MPat.mono _) (by kernel_rfl) (by kernel_rfl) (by kernel_rfl) (by kernel_rfl) (by kernel_rfl) (by kernel_rfl) ?obs ?rest
      case obs =>
        refine ⟨?_, ?_, ?_, ?_, ?_, ?_, ?_, ?_, ?_, ?_, ?_, ?_, ?_, ?_, ?_, ?_, ?_, ?_, ?_, trivial⟩
        · intro ev W5 hf _ _ hst hd
          have e5 : ev (.tmp 5) = .slice a1 k c1 := hf 5 (by kernel_rfl)
          refine st_value (v := .slice a1 k c1) ?_ (Below.refl _ _) ?_
          · simp [execOp, go_sem, e5]
          · exact rfl
        · intro ev W5 hf _ _ hst hd
          have e0 : ev (.tmp 0) = .slice (some ⟨b, o, none⟩) n cap := hf 0 (by kernel_rfl)
          refine st_value (v := .slice (some ⟨b, o, none⟩) n cap) ?_ (Below.refl _ _) ?_
          · simp [execOp, go_sem, e0]
          · exact rfl
        · intro ev W5 hf _ _ hst hd
          have e6 : ev (.tmp 6) = .int .i64 (k : Int) := hf 6 (by kernel_rfl)
          refine st_value (v := .int .i64 (k : Int)) ?_ (Below.refl _ _) ?_
          · simp [execOp, go_sem, e6]
          · exact rfl
        · intro ev W5 hf _ _ hst hd
          obtain ⟨d14, d15, _⟩ := hd
          have e14 : ev (.tmp 14) = .slice (some ⟨b, o, none⟩) n cap := d14
          have e15 : ev (.tmp 15) = .int .i64 (k : Int) := d15
          refine st_value (v := .pointer (some ⟨b, o + k * 2, none⟩)) ?_ (Below.refl _ _) ?_
          · simp [execOp, go_sem, e14, e15, hlt]
          · exact rfl
        · intro ev W5 hf _ _ hst hd
          obtain ⟨d16, _⟩ := hd
          have e16 : ev (.tmp 16) = .pointer (some ⟨b, o + k * 2, none⟩) := d16
          refine st_value (v := .pointer (some ⟨b, o + k * 2, none⟩)) ?_ (Below.refl _ _) ?_
          · simp [execOp, go_sem, e16]
          · exact rfl
        · intro ev W5 hf _ _ hst hd
          obtain ⟨d17, _⟩ := hd
          have e17 : ev (.tmp 17) = .pointer (some ⟨b, o + k * 2, none⟩) := d17
          have q0 := Ext.cell hst C1.out
          refine st_value (v := .int .i64 px) ?_ (Below.refl _ _) ?_
          · simp [execOp, go_sem, e17, q0]
          · exact rfl
        · intro ev W5 hf _ _ hst hd
          have e3 : ev (.tmp 3) = .pointer (some ⟨g, 0, none⟩) := hf 3 (by kernel_rfl)
          refine st_value (v := .pointer (some ⟨g, 0, none⟩)) ?_ (Below.refl _ _) ?_
          · simp [execOp, go_sem, e3]
          · exact rfl
        · intro ev W5 hf _ _ hst hd
          obtain ⟨d19, _⟩ := hd
          have e19 : ev (.tmp 19) = .pointer (some ⟨g, 0, none⟩) := d19
          have q0 := VRow.cell (VRow.ext HVr.out hst) (k := 0) rfl
          refine st_value (v := .int .i64 x) ?_ (Below.refl _ _) ?_
          · simp [execOp, go_sem, e19, q0]
          · exact rfl
        · intro ev W5 hf _ _ hst hd
          obtain ⟨d18, d20, _⟩ := hd
          have e18 : ev (.tmp 18) = .int .i64 px := d18
          have e20 : ev (.tmp 20) = .int .i64 x := d20
          refine st_value (v := .int .i64 (px + x)) ?_ (Below.refl _ _) ?_
          · simp [execOp, go_sem, e18, e20, HW1.out]
          · exact rfl
        · intro ev W5 hf _ _ hst hd
          have e0 : ev (.tmp 0) = .slice (some ⟨b, o, none⟩) n cap := hf 0 (by kernel_rfl)
          refine st_value (v := .slice (some ⟨b, o, none⟩) n cap) ?_ (Below.refl _ _) ?_
          · simp [execOp, go_sem, e0]
          · exact rfl
        · intro ev W5 hf _ _ hst hd
          have e6 : ev (.tmp 6) = .int .i64 (k : Int) := hf 6 (by kernel_rfl)
          refine st_value (v := .int .i64 (k : Int)) ?_ (Below.refl _ _) ?_
          · simp [execOp, go_sem, e6]
          · exact rfl
        · intro ev W5 hf _ _ hst hd
          obtain ⟨d22, d23, _⟩ := hd
          have e22 : ev (.tmp 22) = .slice (some ⟨b, o, none⟩) n cap := d22
          have e23 : ev (.tmp 23) = .int .i64 (k : Int) := d23
          refine st_value (v := .pointer (some ⟨b, o + k * 2, none⟩)) ?_ (Below.refl _ _) ?_
          · simp [execOp, go_sem, e22, e23, hlt]
          · exact rfl
        · intro ev W5 hf _ _ hst hd
          obtain ⟨d24, _⟩ := hd
          have e24 : ev (.tmp 24) = .pointer (some ⟨b, o + k * 2, none⟩) := d24
          refine st_value (v := .pointer (some ⟨b, o + k * 2 + 1, none⟩)) ?_ (Below.refl _ _) ?_
          · simp [execOp, go_sem, e24]
          · exact rfl
        · intro ev W5 hf _ _ hst hd
          obtain ⟨d25, _⟩ := hd
          have e25 : ev (.tmp 25) = .pointer (some ⟨b, o + k * 2 + 1, none⟩) := d25
          have q0 := Ext.cell hst C2.out
          refine st_value (v := .int .i64 py) ?_ (Below.refl _ _) ?_
          · simp [execOp, go_sem, e25, q0]
          · exact rfl
        · intro ev W5 hf _ _ hst hd
          have e3 : ev (.tmp 3) = .pointer (some ⟨g, 0, none⟩) := hf 3 (by kernel_rfl)
          refine st_value (v := .pointer (some ⟨g, 1, none⟩)) ?_ (Below.refl _ _) ?_
          · simp [execOp, go_sem, e3]
          · exact rfl
        · intro ev W5 hf _ _ hst hd
          obtain ⟨d27, _⟩ := hd
          have e27 : ev (.tmp 27) = .pointer (some ⟨g, 1, none⟩) := d27
          have q0 := VRow.cell (VRow.ext HVr.out hst) (k := 1) rfl
          refine st_value (v := .int .i64 y) ?_ (Below.refl _ _) ?_
          · simp [execOp, go_sem, e27, q0]
          · exact rfl
        · intro ev W5 hf _ _ hst hd
          obtain ⟨d26, d28, _⟩ := hd
          have e26 : ev (.tmp 26) = .int .i64 py := d26
          have e28 : ev (.tmp 28) = .int .i64 y := d28
          refine st_value (v := .int .i64 (py + y)) ?_ (Below.refl _ _) ?_
          · simp [execOp, go_sem, e26, e28, HW2.out]
          · exact rfl
        · intro ev W5 hf _ _ hst hd
          obtain ⟨d21, d29, _⟩ := hd
          have e21 : ev (.tmp 21) = .int .i64 (px + x) := d21
          have e29 : ev (.tmp 29) = .int .i64 (py + y) := d29
          refine st_value (v := .agg #[.int .i64 (px + x), .int .i64 (py + y)]) ?_ (Below.refl _ _) ?_
          · simp [execOp, go_sem, e21, e29]
          · exact rfl
        · intro ev W5 hf _ hfn hst hd
          obtain ⟨d30, _⟩ := hd
          have e30 : ev (.tmp 30) = .agg #[.int .i64 (px + x), .int .i64 (py + y)] := d30
          refine st_new (v := .slice (some ⟨W5.heap.size, 0, none⟩) 1 1) (o := .cells #[.int .i64 (px + x), .int .i64 (py + y)] 31) ?_ ?_
          · simp [execOp, go_sem, e30]
          · exact ⟨_, rfl, vrow_alloc W5 [.int .i64 (px + x), .int .i64 (py + y)] 31, hst.size⟩
      case rest =>
        intro vs w3 hl hst hg
        obtain ⟨r1, et, ht, hts⟩ : ∃ r, vs[18]? = some (.slice (some ⟨r, 0, none⟩) 1 1) ∧ VRow w3 r 31 [.int .i64 (px + x), .int .i64 (py + y)] ∧ wr.heap.size ≤ r := by
          have hu : vs[18]? = some (vs[18]'(by rw [hl]; decide)) := List.getElem?_eq_getElem _
          obtain ⟨r, he, h1, h2⟩ := hg 18 _ hu
          exact ⟨r, by rw [hu, he], h1, h2⟩
        have HST := Lib.hid hst
        have HNEW := Lib.hid ht
        have hvs : vs = [.slice a1 k c1, .slice (some ⟨b, o, none⟩) n cap, .int .i64 (k : Int), .pointer (some ⟨b, o + k * 2, none⟩), .pointer (some ⟨b, o + k * 2, none⟩), .int .i64 px, .pointer (some ⟨g, 0, none⟩), .int .i64 x, .int .i64 (px + x), .slice (some ⟨b, o, none⟩) n cap, .int .i64 (k : Int), .pointer (some ⟨b, o + k * 2, none⟩), .pointer (some ⟨b, o + k * 2 + 1, none⟩), .int .i64 py, .pointer (some ⟨g, 1, none⟩), .int .i64 y, .int .i64 (py + y), .agg #[.int .i64 (px + x), .int .i64 (py + y)], .slice (some ⟨r1, 0, none⟩) 1 1] := list_of hl (fun i u hu => by
          match i, hu with
          | 0, hu => exact (congrArg some (hg 0 u hu)).symm
          | 1, hu => exact (congrArg some (hg 1 u hu)).symm
          | 2, hu => exact (congrArg some (hg 2 u hu)).symm
          | 3, hu => exact (congrArg some (hg 3 u hu)).symm
          | 4, hu => exact (congrArg some (hg 4 u hu)).symm
          | 5, hu => exact (congrArg some (hg 5 u hu)).symm
          | 6, hu => exact (congrArg some (hg 6 u hu)).symm
          | 7, hu => exact (congrArg some (hg 7 u hu)).symm
          | 8, hu => exact (congrArg some (hg 8 u hu)).symm
          | 9, hu => exact (congrArg some (hg 9 u hu)).symm
          | 10, hu => exact (congrArg some (hg 10 u hu)).symm
          | 11, hu => exact (congrArg some (hg 11 u hu)).symm
          | 12, hu => exact (congrArg some (hg 12 u hu)).symm
          | 13, hu => exact (congrArg some (hg 13 u hu)).symm
          | 14, hu => exact (congrArg some (hg 14 u hu)).symm
          | 15, hu => exact (congrArg some (hg 15 u hu)).symm
          | 16, hu => exact (congrArg some (hg 16 u hu)).symm
          | 17, hu => exact (congrArg some (hg 17 u hu)).symm
          | 18, hu => exact et.symm.trans hu
          | n + 19, hu => exact absurd (lt_len hu) (by rw [hl]; simp))
        clear hg hst ht et hl
        subst hvs
        simp only [putAll, Act.put, List.dropLast, List.setIfInBounds_toArray, List.set_cons_zero, List.set_cons_succ]
        have HR3 := Lib.hid (ownsRow_ext HR.out HST.out)
        have hs3 := HST.out.size
        have hb3 := HE.out.size
        refine operIn_append_row _ _ _ 22 rfl (g + 1) 31 i0 (.agg #[.int .i64 0, .int .i64 0]) 2 16 Try.underlying22 HI.out HZ0.out HZ1.out HZ2.out rfl (by decide) _ _ _ rfl HR3.out ⟨r1, 0, none⟩ 1 1 [.int .i64 (px + x), .int .i64 (py + y)] rfl rfl (fun j u h => two_cells HNEW.out j u h) (by simp [Value.oneCell']) (by unfold maxLen; omega) (by omega) (by omega) ?_
        intro v4 w4 hown4 hgrow4 _
        obtain ⟨a4, c4, rfl⟩ := row_slice hown4
        have HO4 := Lib.hid hown4
        have HE4 := Lib.hid (Below.trans (Ext.trans HE.out HST.out) ((row_below HR3.out hgrow4 (by omega)).mono (by omega)))
        clear hown4 hgrow4
        gi_wp2
        go_wp2_with fail
        refine ⟨⟨k + 1, by simp, by omega, by rw [HTK.out]; exact HO4.out, HE4.out⟩, by simp [intOf]; omega⟩
    · obtain rfl : k = n := by omega
      go_wp2_with fail
      go_ret
      exact ⟨_, rfl, row_base (by rw [← HFIN.out]; exact HR.out) (by have := HG.out; omega), HEw.out⟩
set_option maxHeartbeats 4000000 in
theorem flipped_c (v : Value) (ps : List Pt) (w : World) (hv : Vecs w v ps) (hn : nearF ps) (h1 : 1 ≤ ps.length) (h32 : ps.length ≤ 1000) :
    Calls Try.prog 133 #[v] w fun e w' => ∃ r, e = .returned r ∧ w'.ownsRow w.heap.size 31 2 r ps.length (cellsOf (ps.map negP)) ∧ Ext w w' := by
  obtain ⟨b, o, cap, rfl, hl, hm, hc⟩ := vecs_cells hv h1
  have HC := Lib.hid hc
  have HNR := Lib.hid (fun (k : Nat) (hk : k < ps.length) => from_nearF hn hk)
  have HTS := Lib.hid (fun (k : Nat) (hk : k < ps.length) => cells_take negP hk)
  have HFIN := Lib.hid (show cellsOf ((ps.map negP).take ps.length) = cellsOf (ps.map negP) by rw [List.take_of_length_le (by simp)])
  obtain ⟨i0, hi0, hz0, hz1, hz2⟩ := info_parts info31
  have HI := Lib.hid hi0
  have HZ0 := Lib.hid hz0
  have HZ1 := Lib.hid hz1
  have HZ2 := Lib.hid hz2
  show Calls Try.prog 133 #[.slice (some ⟨b, o, none⟩) ps.length cap] w fun e w' => ∃ r, e = .returned r ∧ w'.ownsRow w.heap.size 31 2 r ps.length (cellsOf (ps.map negP)) ∧ Ext w w'
  obtain ⟨n, hnn⟩ : ∃ n, n = ps.length := ⟨_, rfl⟩
  rw [← hnn] at HC HNR HTS HFIN hl h1 h32 ⊢
  clear hv hc hn hnn hi0 hz0 hz1 hz2
  go_enter Try.func133, Try.ntmps133
  go_wp2_with fail
  go_loopw [3, 4] (fun u iv wr => ∃ k : Nat, iv = .int .i64 (k : Int) ∧ k ≤ n ∧ wr.ownsRow w.heap.size 31 2 u k (cellsOf ((ps.map negP).take k)) ∧ Ext w wr) (fun _ iv _ => n - (intOf iv).toNat)
  case atStart => exact ⟨0, rfl, Nat.zero_le _, ⟨rfl, .inl ⟨rfl, rfl⟩⟩, Ext.refl _⟩
  case round =>
    rename World => wr
    obtain ⟨k, rfl, hk, hR, hE⟩ := hrel
    obtain ⟨a1, c1, rfl⟩ := row_slice hR
    have HR := Lib.hid hR
    have HE := Lib.hid hE
    have HEw := Lib.hid hE
    clear hR hE
    by_cases hlt : k < n
    · obtain ⟨c1', c2'⟩ := HC.out k hlt
      have C1 := Lib.hid (Ext.cell HEw.out c1')
      have C2 := Lib.hid (Ext.cell HEw.out c2')
      have hbd := HNR.out k hlt
      have HTK := Lib.hid (HTS.out k hlt)
      clear c1' c2'
      have HTK2 := Lib.hid (show negP (fromP ps k) = (-(fromP ps k).1, -(fromP ps k).2) from rfl)
      rw [HTK2.out] at HTK
      dsimp only at HTK
      generalize (fromP ps k).1 = px at *
      generalize (fromP ps k).2 = py at *
      have HW1 := Lib.hid (show IntKind.i64.wrap (-px) = -px from IntWalk.i64_in _ (by omega))
      have HW2 := Lib.hid (show IntKind.i64.wrap (-py) = -py from IntWalk.i64_in _ (by omega))
      clear HTK2
      go_wp2_with fail
      refine (wpIn_wide (n := 9)).1 ?_
      refine wpIn_region_stable_last2 Open.wide [⟨[], none⟩, ⟨[], none⟩, ⟨[], none⟩, ⟨[(1, 12), (2, 13)], none⟩, ⟨[(3, 14)], none⟩, ⟨[(4, 15)], none⟩, ⟨[(5, 16)], none⟩, ⟨[], none⟩, ⟨[], none⟩, ⟨[(7, 18), (8, 19)], none⟩, ⟨[(9, 20)], none⟩, ⟨[(10, 21)], none⟩, ⟨[(11, 22)], none⟩, ⟨[(6, 17), (12, 23)], none⟩, ⟨[(13, 24)], none⟩] (fun x y => Below x.heap.size x y) (MPat [MP.eq (.slice a1 k c1), MP.eq (.slice (some ⟨b, o, none⟩) n cap), MP.eq (.int .i64 (k : Int)), MP.eq (.pointer (some ⟨b, o + k * 2, none⟩)), MP.eq (.pointer (some ⟨b, o + k * 2, none⟩)), MP.eq (.int .i64 px), MP.eq (.int .i64 (-px)), MP.eq (.slice (some ⟨b, o, none⟩) n cap), MP.eq (.int .i64 (k : Int)), MP.eq (.pointer (some ⟨b, o + k * 2, none⟩)), MP.eq (.pointer (some ⟨b, o + k * 2 + 1, none⟩)), MP.eq (.int .i64 py), MP.eq (.int .i64 (-py)), MP.eq (.agg #[.int .i64 (-px), .int .i64 (-py)]), MP.pt wr.heap.size (-px) (-py)]) rfl (by kernel_rfl) (fun _ _ _ h k => Ext.trans h k) (fun _ => Below.refl _ _) (fun x => (Below.refl x.heap.size x).drew) (MPat.mono _) (by kernel_rfl) (by kernel_rfl) (by kernel_rfl) (by kernel_rfl) (by kernel_rfl) (by kernel_rfl) ?obs ?rest
      case obs =>
        refine ⟨?_, ?_, ?_, ?_, ?_, ?_, ?_, ?_, ?_, ?_, ?_, ?_, ?_, ?_, ?_, trivial⟩
        · intro ev W5 hf _ _ hst hd
          have e3 : ev (.tmp 3) = .slice a1 k c1 := hf 3 (by kernel_rfl)
          refine st_value (v := .slice a1 k c1) ?_ (Below.refl _ _) ?_
          · simp [execOp, go_sem, e3]
          · exact rfl
        · intro ev W5 hf _ _ hst hd
          have e0 : ev (.tmp 0) = .slice (some ⟨b, o, none⟩) n cap := hf 0 (by kernel_rfl)
          refine st_value (v := .slice (some ⟨b, o, none⟩) n cap) ?_ (Below.refl _ _) ?_
          · simp [execOp, go_sem, e0]
          · exact rfl
        · intro ev W5 hf _ _ hst hd
          have e4 : ev (.tmp 4) = .int .i64 (k : Int) := hf 4 (by kernel_rfl)
          refine st_value (v := .int .i64 (k : Int)) ?_ (Below.refl _ _) ?_
          · simp [execOp, go_sem, e4]
          · exact rfl
        · intro ev W5 hf _ _ hst hd
          obtain ⟨d12, d13, _⟩ := hd
          have e12 : ev (.tmp 12) = .slice (some ⟨b, o, none⟩) n cap := d12
          have e13 : ev (.tmp 13) = .int .i64 (k : Int) := d13
          refine st_value (v := .pointer (some ⟨b, o + k * 2, none⟩)) ?_ (Below.refl _ _) ?_
          · simp [execOp, go_sem, e12, e13, hlt]
          · exact rfl
        · intro ev W5 hf _ _ hst hd
          obtain ⟨d14, _⟩ := hd
          have e14 : ev (.tmp 14) = .pointer (some ⟨b, o + k * 2, none⟩) := d14
          refine st_value (v := .pointer (some ⟨b, o + k * 2, none⟩)) ?_ (Below.refl _ _) ?_
          · simp [execOp, go_sem, e14]
          · exact rfl
        · intro ev W5 hf _ _ hst hd
          obtain ⟨d15, _⟩ := hd
          have e15 : ev (.tmp 15) = .pointer (some ⟨b, o + k * 2, none⟩) := d15
          have q0 := Ext.cell hst C1.out
          refine st_value (v := .int .i64 px) ?_ (Below.refl _ _) ?_
          · simp [execOp, go_sem, e15, q0]
          · exact rfl
        · intro ev W5 hf _ _ hst hd
          obtain ⟨d16, _⟩ := hd
          have e16 : ev (.tmp 16) = .int .i64 px := d16
          refine st_value (v := .int .i64 (-px)) ?_ (Below.refl _ _) ?_
          · simp [execOp, go_sem, e16, HW1.out]
          · exact rfl
        · intro ev W5 hf _ _ hst hd
          have e0 : ev (.tmp 0) = .slice (some ⟨b, o, none⟩) n cap := hf 0 (by kernel_rfl)
          refine st_value (v := .slice (some ⟨b, o, none⟩) n cap) ?_ (Below.refl _ _) ?_
          · simp [execOp, go_sem, e0]
          · exact rfl
        · intro ev W5 hf _ _ hst hd
          have e4 : ev (.tmp 4) = .int .i64 (k : Int) := hf 4 (by kernel_rfl)
          refine st_value (v := .int .i64 (k : Int)) ?_ (Below.refl _ _) ?_
          · simp [execOp, go_sem, e4]
          · exact rfl
        · intro ev W5 hf _ _ hst hd
          obtain ⟨d18, d19, _⟩ := hd
          have e18 : ev (.tmp 18) = .slice (some ⟨b, o, none⟩) n cap := d18
          have e19 : ev (.tmp 19) = .int .i64 (k : Int) := d19
          refine st_value (v := .pointer (some ⟨b, o + k * 2, none⟩)) ?_ (Below.refl _ _) ?_
          · simp [execOp, go_sem, e18, e19, hlt]
          · exact rfl
        · intro ev W5 hf _ _ hst hd
          obtain ⟨d20, _⟩ := hd
          have e20 : ev (.tmp 20) = .pointer (some ⟨b, o + k * 2, none⟩) := d20
          refine st_value (v := .pointer (some ⟨b, o + k * 2 + 1, none⟩)) ?_ (Below.refl _ _) ?_
          · simp [execOp, go_sem, e20]
          · exact rfl
        · intro ev W5 hf _ _ hst hd
          obtain ⟨d21, _⟩ := hd
          have e21 : ev (.tmp 21) = .pointer (some ⟨b, o + k * 2 + 1, none⟩) := d21
          have q0 := Ext.cell hst C2.out
          refine st_value (v := .int .i64 py) ?_ (Below.refl _ _) ?_
          · simp [execOp, go_sem, e21, q0]
          · exact rfl
        · intro ev W5 hf _ _ hst hd
          obtain ⟨d22, _⟩ := hd
          have e22 : ev (.tmp 22) = .int .i64 py := d22
          refine st_value (v := .int .i64 (-py)) ?_ (Below.refl _ _) ?_
          · simp [execOp, go_sem, e22, HW2.out]
          · exact rfl
        · intro ev W5 hf _ _ hst hd
          obtain ⟨d17, d23, _⟩ := hd
          have e17 : ev (.tmp 17) = .int .i64 (-px) := d17
          have e23 : ev (.tmp 23) = .int .i64 (-py) := d23
          refine st_value (v := .agg #[.int .i64 (-px), .int .i64 (-py)]) ?_ (Below.refl _ _) ?_
          · simp [execOp, go_sem, e17, e23]
          · exact rfl
        · intro ev W5 hf _ hfn hst hd
          obtain ⟨d24, _⟩ := hd
          have e24 : ev (.tmp 24) = .agg #[.int .i64 (-px), .int .i64 (-py)] := d24
          refine st_new (v := .slice (some ⟨W5.heap.size, 0, none⟩) 1 1) (o := .cells #[.int .i64 (-px), .int .i64 (-py)] 31) ?_ ?_
          · simp [execOp, go_sem, e24]
          · exact ⟨_, rfl, vrow_alloc W5 [.int .i64 (-px), .int .i64 (-py)] 31, hst.size⟩
      case rest =>
        intro vs w3 hl hst hg
        obtain ⟨r1, et, ht, hts⟩ : ∃ r, vs[14]? = some (.slice (some ⟨r, 0, none⟩) 1 1) ∧ VRow w3 r 31 [.int .i64 (-px), .int .i64 (-py)] ∧ wr.heap.size ≤ r := by
          have hu : vs[14]? = some (vs[14]'(by rw [hl]; decide)) := List.getElem?_eq_getElem _
          obtain ⟨r, he, h1, h2⟩ := hg 14 _ hu
          exact ⟨r, by rw [hu, he], h1, h2⟩
        have HST := Lib.hid hst
        have HNEW := Lib.hid ht
        have hvs : vs = [.slice a1 k c1, .slice (some ⟨b, o, none⟩) n cap, .int .i64 (k : Int), .pointer (some ⟨b, o + k * 2, none⟩), .pointer (some ⟨b, o + k * 2, none⟩), .int .i64 px, .int .i64 (-px), .slice (some ⟨b, o, none⟩) n cap, .int .i64 (k : Int), .pointer (some ⟨b, o + k * 2, none⟩), .pointer (some ⟨b, o + k * 2 + 1, none⟩), .int .i64 py, .int .i64 (-py), .agg #[.int .i64 (-px), .int .i64 (-py)], .slice (some ⟨r1, 0, none⟩) 1 1] := list_of hl (fun i u hu => by
          match i, hu with
          | 0, hu => exact (congrArg some (hg 0 u hu)).symm
          | 1, hu => exact (congrArg some (hg 1 u hu)).symm
          | 2, hu => exact (congrArg some (hg 2 u hu)).symm
          | 3, hu => exact (congrArg some (hg 3 u hu)).symm
          | 4, hu => exact (congrArg some (hg 4 u hu)).symm
          | 5, hu => exact (congrArg some (hg 5 u hu)).symm
          | 6, hu => exact (congrArg some (hg 6 u hu)).symm
          | 7, hu => exact (congrArg some (hg 7 u hu)).symm
          | 8, hu => exact (congrArg some (hg 8 u hu)).symm
          | 9, hu => exact (congrArg some (hg 9 u hu)).symm
          | 10, hu => exact (congrArg some (hg 10 u hu)).symm
          | 11, hu => exact (congrArg some (hg 11 u hu)).symm
          | 12, hu => exact (congrArg some (hg 12 u hu)).symm
          | 13, hu => exact (congrArg some (hg 13 u hu)).symm
          | 14, hu => exact et.symm.trans hu
          | n + 15, hu => exact absurd (lt_len hu) (by rw [hl]; simp))
        clear hg hst ht et hl
        subst hvs
        simp only [putAll, Act.put, List.dropLast, List.setIfInBounds_toArray, List.set_cons_zero, List.set_cons_succ]
        have HR3 := Lib.hid (ownsRow_ext HR.out HST.out)
        have hs3 := HST.out.size
        have hb3 := HE.out.size
        refine operIn_append_row _ _ _ 22 rfl w.heap.size 31 i0 (.agg #[.int .i64 0, .int .i64 0]) 2 16 Try.underlying22 HI.out HZ0.out HZ1.out HZ2.out rfl (by decide) _ _ _ rfl HR3.out ⟨r1, 0, none⟩ 1 1 [.int .i64 (-px), .int .i64 (-py)] rfl rfl (fun j u h => two_cells HNEW.out j u h) (by simp [Value.oneCell']) (by unfold maxLen; omega) (by omega) (by omega) ?_
        intro v4 w4 hown4 hgrow4 _
        obtain ⟨a4, c4, rfl⟩ := row_slice hown4
        have HO4 := Lib.hid hown4
        have HE4 := Lib.hid (Below.trans (Ext.trans HE.out HST.out) ((row_below HR3.out hgrow4 (by omega)).mono (by omega)))
        clear hown4 hgrow4
        gi_wp2
        go_wp2_with fail
        refine ⟨⟨k + 1, by simp, by omega, by rw [HTK.out]; exact HO4.out, HE4.out⟩, by simp [intOf]; omega⟩
    · obtain rfl : k = n := by omega
      go_wp2_with fail
      go_ret
      exact ⟨_, rfl, row_base (by rw [← HFIN.out]; exact HR.out) (Nat.le_refl _), HEw.out⟩
end Go.Proofs.Ytnpebfchojalcaa
