import Derived.Test.YtbdppephmlkbaaaR19
import Derived.Test.YtbdppephmlkbaaaV10
import Derived.Maps.OwnIn
import Derived.Maps.AppendAt
import Derived.Test.YtbdppephmlkbaaaRD
import Derived.Test.YtbdppephmlkbaaaMB
import Derived.Test.YtbdppephmlkbaaaM3
import Derived.Test.YtbdppephmlkbaaaR2b
import Derived.Test.YtbdppephmlkbaaaR4b
namespace Go.Proofs.Ytbdppephmlkbaaa
set_option maxRecDepth 100000
open Go.RowKit Go.Shelf
attribute [local go_sem] Oper.semAt_some
/-! The reference's moved and flipped points. -/
/-- an append to a row of one's own, as the operation behind all the others of its region -/
theorem operIn_append_row {F : Fence} {nF : Nat} {P : Program} (w : World) {o : Oper} {a : Act} {K : Act → World → Prop} {Q : Exit → Act → World → Prop} (s x : Operand) (t : TypeId)
    (ho : o.op = .call { callee := .builtin .append, args := #[s, x], argTypes := #[t, t] })
    (base : Nat) (e : TypeId) (i : TypeInfo) (z : Value) (size bytes : Nat) (ht : P.underlying t = some (.slice e)) (hi : P.info? e = some i) (hz : i.zero = some z)
    (hsize : i.size = size) (hby : i.bytes = bytes) (hzs : z.cells.size = size) (hsz : 0 < size)
    (v : Value) (n : Nat) (xs : List Value) (hs : a.eval s = v) (hown : w.ownsRow base e size v n xs)
    (ad : Addr) (m c : Nat) (news : List Value) (hx : a.eval x = .slice (some ad) m c) (hl : news.length = m * size) (hnews : ∀ j u, news[j]? = some u → w.cell? (ad.add j) = some u) (h1 : ∀ u ∈ news, u.oneCell' = true)
    (h63 : n + m ≤ maxLen) (hbytes : (n + m) * bytes ≤ 140737488355328) (hbase : base ≤ w.heap.size)
    (h : ∀ v' w', w'.ownsRow base e size v' (n + m) (xs ++ news) → w.grownBy w' v.ownBlock → (v'.ownBlock = v.ownBlock ∨ v'.ownBlock = some w.heap.size) → K (a.put o.dst v') w') :
    o.wpIn F nF P a w K Q := by
  obtain ⟨v', w', hr, h2, h3, h4, h5⟩ := run_append_own_at (P := P) w base t o.type e i z size bytes ht hi hz hsize hby hzs hsz v n xs hown ad m c news hl hnews h1 h63 hbytes hbase
  unfold Oper.wpIn
  refine ⟨by simp [Oper.about, ho, resolve, Target.leads, Sem.run_pure], ?_⟩
  rw [Oper.semAt_plain F _ _ (by rw [ho]; intro c hc'; cases hc')]
  simp [execOp, ho, resolve, invoke, builtin, hs, hx, hr, Result.andThen]
  exact h v' w' h2 h3 h5
/-- a slice of one point, made anew -/
def MP.pt (s : Nat) (x y : Int) : MP := ⟨fun v W => ∃ r, v = .slice (some ⟨r, 0, none⟩) 1 1 ∧ VRow W r 32 [.int .i64 x, .int .i64 y] ∧ s ≤ r, fun _ _ _ h hh => by
  obtain ⟨r, e, h1, h2⟩ := hh
  exact ⟨r, e, VRow.ext h1 h, h2⟩⟩
theorem two_cells {W : World} {r : Nat} {t : TypeId} {x y : Value} (h : VRow W r t [x, y]) (j : Nat) (u : Value) (hj : [x, y][j]? = some u) : W.cell? ((⟨r, 0, none⟩ : Addr).add j) = some u := by
  have h0 := VRow.cell h (k := 0) rfl
  have h1 := VRow.cell h (k := 1) rfl
  match j, hj with
  | 0, hj => injection hj with hj; subst hj; exact h0
  | 1, hj => injection hj with hj; subst hj; exact h1
theorem row_base {w : World} {base c n : Nat} {v : Value} {xs : List Value} (h : w.ownsRow base 32 2 v n xs) (hc : c ≤ base) : w.ownsRow c 32 2 v n xs := by
  refine ⟨h.1, ?_⟩
  rcases h.2 with h | ⟨g, cap, cur, hv, hb, r⟩
  · exact .inl h
  · exact .inr ⟨g, cap, cur, hv, by omega, r⟩
theorem row_slice {w : World} {base : Nat} {e : TypeId} {sz n : Nat} {v : Value} {xs : List Value} (h : w.ownsRow base e sz v n xs) : ∃ a cap, v = .slice a n cap := by
  rcases h.2 with ⟨h, h0⟩ | ⟨g', cap, cur, hv, _⟩
  · exact ⟨none, 0, by rw [h, h0]⟩
  · exact ⟨_, _, hv⟩
theorem row_below {w w' : World} {base : Nat} {e : TypeId} {sz n : Nat} {v : Value} {xs : List Value} (h : w.ownsRow base e sz v n xs) (hg : w.grownBy w' v.ownBlock) (hb : base ≤ w.heap.size) : Below base w w' :=
  ⟨hg.os, hg.tape, hg.output, hg.size, fun i hi => hg.block i (by omega) (fun e => by have := own_block h e.symm; omega)⟩
theorem cells_take (f : Pt → Pt) {ps : List Pt} {k : Nat} (hk : k < ps.length) : cellsOf ((ps.map f).take (k + 1)) = cellsOf ((ps.map f).take k) ++ [.int .i64 (f (fromP ps k)).1, .int .i64 (f (fromP ps k)).2] := by
  have h : (ps.map f)[k]? = some (f (fromP ps k)) := by
    obtain ⟨q, hq⟩ := getElem?_len hk
    rw [List.getElem?_map, hq, fromP_of hq]; rfl
  rw [take_succ_get h, cellsOf_append]; rfl
set_option maxHeartbeats 4000000 in
theorem moved_c (v : Value) (ps : List Pt) (x y : Int) (w : World) (hv : Vecs w v ps) (hn : nearL ps) (hx : -4000 ≤ x ∧ x ≤ 4000) (hy : -4000 ≤ y ∧ y ≤ 4000) (h1 : 1 ≤ ps.length) (h32 : ps.length ≤ 1000) :
    Calls Try.prog 60 #[v, vecV x y] w fun e w' => ∃ r, e = .returned r ∧ w'.ownsRow w.heap.size 32 2 r ps.length (cellsOf (movedP ps (x, y))) ∧ Ext w w' := by
  obtain ⟨b, o, cap, rfl, hl, hm, hc⟩ := vecs_cells hv h1
  have HC := Lib.hid hc
  have HNR := Lib.hid (fun (k : Nat) (hk : k < ps.length) => from_nearL hn hk)
  have HTS := Lib.hid (fun (k : Nat) (hk : k < ps.length) => cells_take (addP (x, y)) hk)
  have HFIN := Lib.hid (show cellsOf ((ps.map (addP (x, y))).take ps.length) = cellsOf (ps.map (addP (x, y))) by rw [List.take_of_length_le (by simp)])
  have HE1 := Lib.hid (Ext.alloc (Ext.refl w) (.cells #[.int .i64 x, .int .i64 y] 32))
  have HV1 := Lib.hid (show VRow (w.alloc (.cells #[.int .i64 x, .int .i64 y] 32)) _ _ _ from vrow_alloc w [.int .i64 x, .int .i64 y] 32)
  have hs1 : (w.alloc (.cells #[.int .i64 x, .int .i64 y] 32)).heap.size = w.heap.size + 1 := by simp
  obtain ⟨i0, hi0, hz0, hz1, hz2⟩ := info_parts info31
  have HI := Lib.hid hi0
  have HZ0 := Lib.hid hz0
  have HZ1 := Lib.hid hz1
  have HZ2 := Lib.hid hz2
  show Calls Try.prog 60 #[.slice (some ⟨b, o, none⟩) ps.length cap, vecV x y] w fun e w' => ∃ r, e = .returned r ∧ w'.ownsRow w.heap.size 32 2 r ps.length (cellsOf (ps.map (addP (x, y)))) ∧ Ext w w'
  obtain ⟨n, hnn⟩ : ∃ n, n = ps.length := ⟨_, rfl⟩
  rw [← hnn] at HC HNR HTS HFIN hl h1 h32 ⊢
  clear hv hc hn hnn hi0 hz0 hz1 hz2
  go_enter Try.func60, Try.ntmps60
  go_wp2_with fail
  obtain ⟨g, hg⟩ : ∃ g, g = w.heap.size := ⟨_, rfl⟩
  rw [← hg] at HV1 hs1 ⊢
  obtain ⟨w1, hw1⟩ : ∃ w1, w1 = w.alloc (.cells #[.int .i64 x, .int .i64 y] 32) := ⟨_, rfl⟩
  rw [← hw1] at HV1 HE1 hs1 ⊢
  have HG := Lib.hid hg
  clear hg hw1
  go_loopw [5, 6] (fun u iv wr => ∃ k : Nat, iv = .int .i64 (k : Int) ∧ k ≤ n ∧ wr.ownsRow (g + 1) 32 2 u k (cellsOf ((ps.map (addP (x, y))).take k)) ∧ Ext w1 wr) (fun _ iv _ => n - (intOf iv).toNat)
  case atStart => exact ⟨0, rfl, Nat.zero_le _, ⟨rfl, .inl ⟨rfl, rfl⟩⟩, Ext.refl _⟩
  case round =>
    rename World => wr
    obtain ⟨k, rfl, hk, hR, hE⟩ := hrel
    obtain ⟨a1, c1, rfl⟩ := row_slice hR
    have HR := Lib.hid hR
    have HE := Lib.hid hE
    have HEw := Lib.hid (Ext.trans HE1.out hE)
    have HVr := Lib.hid (VRow.ext HV1.out hE)
    clear hR hE
    by_cases hlt : k < n
    · obtain ⟨c1', c2'⟩ := HC.out k hlt
      have C1 := Lib.hid (Ext.cell HEw.out c1')
      have C2 := Lib.hid (Ext.cell HEw.out c2')
      have hbd := HNR.out k hlt
      have HTK := Lib.hid (HTS.out k hlt)
      clear c1' c2'
      have HTK2 := Lib.hid (show addP (x, y) (fromP ps k) = ((fromP ps k).1 + x, (fromP ps k).2 + y) from rfl)
      rw [HTK2.out] at HTK
      dsimp only at HTK
      generalize (fromP ps k).1 = px at *
      generalize (fromP ps k).2 = py at *
      have HW1 := Lib.hid (show IntKind.i64.wrap (px + x) = px + x from IntWalk.i64_in _ (by omega))
      have HW2 := Lib.hid (show IntKind.i64.wrap (py + y) = py + y from IntWalk.i64_in _ (by omega))
      clear HTK2
      go_wp2_with fail
      refine (wpIn_wide (n := 9)).1 ?_
      refine wpIn_region_stable_last2 Open.wide [⟨[], none⟩, ⟨[], none⟩, ⟨[], none⟩, ⟨[(1, 14), (2, 15)], none⟩, ⟨[(3, 16)], none⟩, ⟨[(4, 17)], none⟩, ⟨[], none⟩, ⟨[(6, 19)], none⟩, ⟨[(5, 18), (7, 20)], none⟩, ⟨[], none⟩, ⟨[], none⟩, ⟨[(9, 22), (10, 23)], none⟩, ⟨[(11, 24)], none⟩, ⟨[(12, 25)], none⟩, ⟨[], none⟩, ⟨[(14, 27)], none⟩, ⟨[(13, 26), (15, 28)], none⟩, ⟨[(8, 21), (16, 29)], none⟩, ⟨[(17, 30)], none⟩] (fun x y => Below x.heap.size x y) (MPat [MP.eq (.slice a1 k c1), MP.eq (.slice (some ⟨b, o, none⟩) n cap), MP.eq (.int .i64 (k : Int)), MP.eq (.pointer (some ⟨b, o + k * 2, none⟩)), MP.eq (.pointer (some ⟨b, o + k * 2, none⟩)), MP.eq (.int .i64 px), MP.eq (.pointer (some ⟨g, 0, none⟩)), MP.eq (.int .i64 x), MP.eq (.int .i64 (px + x)), MP.eq (.slice (some ⟨b, o, none⟩) n cap), MP.eq (.int .i64 (k : Int)), MP.eq (.pointer (some ⟨b, o + k * 2, none⟩)), MP.eq (.pointer (some ⟨b, o + k * 2 + 1, none⟩)), MP.eq (.int .i64 py), MP.eq (.pointer (some ⟨g, 1, none⟩)), MP.eq (.int .i64 y), MP.eq (.int .i64 (py + y)), MP.eq (.agg #[.int .i64 (px + x), .int .i64 (py + y)]), MP.pt wr.heap.size (px + x) (py + y)]) rfl (by kernel_rfl) (fun _ _ _ h k => Ext.trans h k) (fun _ => Below.refl _ _) (fun x => (Below.refl x.heap.size x).drew) (MPat.mono _) (by kernel_rfl) (by kernel_rfl) (by kernel_rfl) (by kernel_rfl) (by kernel_rfl) (by kernel_rfl) ?obs ?rest
      case obs =>
        refine ⟨?_, ?_, ?_, ?_, ?_, ?_, ?_, ?_, ?_, ?_, ?_, ?_, ?_, ?_, ?_, ?_, ?_, ?_, ?_, trivial⟩
        · intro ev W5 hf _ _ hst hd
          have e5 : ev (.tmp 5) = .slice a1 k c1 := hf 5 (by kernel_rfl)
          refine st_value (v := .slice a1 k c1) ?_ (Below.refl _ _) ?_
          · simp [execOp, go_sem, e5]
          · exact rfl
        · intro ev W5 hf _ _ hst hd
          have e0 : ev (.tmp 0) = .slice (some ⟨b, o, none⟩) n cap := hf 0 (by kernel_rfl)
          refine st_value (v := .slice (some ⟨b, o, none⟩) n cap) ?_ (Below.refl _ _) ?_
          · simp [execOp, go_sem, e0]
          · exact rfl
        · intro ev W5 hf _ _ hst hd
          have e6 : ev (.tmp 6) = .int .i64 (k : Int) := hf 6 (by kernel_rfl)
          refine st_value (v := .int .i64 (k : Int)) ?_ (Below.refl _ _) ?_
          · simp [execOp, go_sem, e6]
          · exact rfl
        · intro ev W5 hf _ _ hst hd
          obtain ⟨d14, d15, _⟩ := hd
          have e14 : ev (.tmp 14) = .slice (some ⟨b, o, none⟩) n cap := d14
          have e15 : ev (.tmp 15) = .int .i64 (k : Int) := d15
          refine st_value (v := .pointer (some ⟨b, o + k * 2, none⟩)) ?_ (Below.refl _ _) ?_
          · simp [execOp, go_sem, e14, e15, hlt]
          · exact rfl
        · intro ev W5 hf _ _ hst hd
          obtain ⟨d16, _⟩ := hd
          have e16 : ev (.tmp 16) = .pointer (some ⟨b, o + k * 2, none⟩) := d16
          refine st_value (v := .pointer (some ⟨b, o + k * 2, none⟩)) ?_ (Below.refl _ _) ?_
          · simp [execOp, go_sem, e16]
          · exact rfl
        · intro ev W5 hf _ _ hst hd
          obtain ⟨d17, _⟩ := hd
          have e17 : ev (.tmp 17) = .pointer (some ⟨b, o + k * 2, none⟩) := d17
          have q0 := Ext.cell hst C1.out
          refine st_value (v := .int .i64 px) ?_ (Below.refl _ _) ?_
          · simp [execOp, go_sem, e17, q0]
          · exact rfl
        · intro ev W5 hf _ _ hst hd
          have e3 : ev (.tmp 3) = .pointer (some ⟨g, 0, none⟩) := hf 3 (by kernel_rfl)
          refine st_value (v := .pointer (some ⟨g, 0, none⟩)) ?_ (Below.refl _ _) ?_
          · simp [execOp, go_sem, e3]
          · exact rfl
        · intro ev W5 hf _ _ hst hd
          obtain ⟨d19, _⟩ := hd
          have e19 : ev (.tmp 19) = .pointer (some ⟨g, 0, none⟩) := d19
          have q0 := VRow.cell (VRow.ext HVr.out hst) (k := 0) rfl
          refine st_value (v := .int .i64 x) ?_ (Below.refl _ _) ?_
          · simp [execOp, go_sem, e19, q0]
          · exact rfl
        · intro ev W5 hf _ _ hst hd
          obtain ⟨d18, d20, _⟩ := hd
          have e18 : ev (.tmp 18) = .int .i64 px := d18
          have e20 : ev (.tmp 20) = .int .i64 x := d20
          refine st_value (v := .int .i64 (px + x)) ?_ (Below.refl _ _) ?_
          · simp [execOp, go_sem, e18, e20, HW1.out]
          · exact rfl
        · intro ev W5 hf _ _ hst hd
          have e0 : ev (.tmp 0) = .slice (some ⟨b, o, none⟩) n cap := hf 0 (by kernel_rfl)
          refine st_value (v := .slice (some ⟨b, o, none⟩) n cap) ?_ (Below.refl _ _) ?_
          · simp [execOp, go_sem, e0]
          · exact rfl
        · intro ev W5 hf _ _ hst hd
          have e6 : ev (.tmp 6) = .int .i64 (k : Int) := hf 6 (by kernel_rfl)
          refine st_value (v := .int .i64 (k : Int)) ?_ (Below.refl _ _) ?_
          · simp [execOp, go_sem, e6]
          · exact rfl
        · intro ev W5 hf _ _ hst hd
          obtain ⟨d22, d23, _⟩ := hd
          have e22 : ev (.tmp 22) = .slice (some ⟨b, o, none⟩) n cap := d22
          have e23 : ev (.tmp 23) = .int .i64 (k : Int) := d23
          refine st_value (v := .pointer (some ⟨b, o + k * 2, none⟩)) ?_ (Below.refl _ _) ?_
          · simp [execOp, go_sem, e22, e23, hlt]
          · exact rfl
        · intro ev W5 hf _ _ hst hd
          obtain ⟨d24, _⟩ := hd
          have e24 : ev (.tmp 24) = .pointer (some ⟨b, o + k * 2, none⟩) := d24
          refine st_value (v := .pointer (some ⟨b, o + k * 2 + 1, none⟩)) ?_ (Below.refl _ _) ?_
          · simp [execOp, go_sem, e24]
          · exact rfl
        · intro ev W5 hf _ _ hst hd
          obtain ⟨d25, _⟩ := hd
          have e25 : ev (.tmp 25) = .pointer (some ⟨b, o + k * 2 + 1, none⟩) := d25
          have q0 := Ext.cell hst C2.out
          refine st_value (v := .int .i64 py) ?_ (Below.refl _ _) ?_
          · simp [execOp, go_sem, e25, q0]
          · exact rfl
        · intro ev W5 hf _ _ hst hd
          have e3 : ev (.tmp 3) = .pointer (some ⟨g, 0, none⟩) := hf 3 (by kernel_rfl)
          refine st_value (v := .pointer (some ⟨g, 1, none⟩)) ?_ (Below.refl _ _) ?_
          · simp [execOp, go_sem, e3]
          · exact rfl
        · intro ev W5 hf _ _ hst hd
          obtain ⟨d27, _⟩ := hd
          have e27 : ev (.tmp 27) = .pointer (some ⟨g, 1, none⟩) := d27
          have q0 := VRow.cell (VRow.ext HVr.out hst) (k := 1) rfl
          refine st_value (v := .int .i64 y) ?_ (Below.refl _ _) ?_
          · simp [execOp, go_sem, e27, q0]
          · exact rfl
        · intro ev W5 hf _ _ hst hd
          obtain ⟨d26, d28, _⟩ := hd
          have e26 : ev (.tmp 26) = .int .i64 py := d26
          have e28 : ev (.tmp 28) = .int .i64 y := d28
          refine st_value (v := .int .i64 (py + y)) ?_ (Below.refl _ _) ?_
          · simp [execOp, go_sem, e26, e28, HW2.out]
          · exact rfl
        · intro ev W5 hf _ _ hst hd
          obtain ⟨d21, d29, _⟩ := hd
          have e21 : ev (.tmp 21) = .int .i64 (px + x) := d21
          have e29 : ev (.tmp 29) = .int .i64 (py + y) := d29
          refine st_value (v := .agg #[.int .i64 (px + x), .int .i64 (py + y)]) ?_ (Below.refl _ _) ?_
          · simp [execOp, go_sem, e21, e29]
          · exact rfl
        · intro ev W5 hf _ hfn hst hd
          obtain ⟨d30, _⟩ := hd
          have e30 : ev (.tmp 30) = .agg #[.int .i64 (px + x), .int .i64 (py + y)] := d30
          refine st_new (v := .slice (some ⟨W5.heap.size, 0, none⟩) 1 1) (o := .cells #[.int .i64 (px + x), .int .i64 (py + y)] 32) ?_ ?_
          · simp [execOp, go_sem, e30]
          · exact ⟨_, rfl, vrow_alloc W5 [.int .i64 (px + x), .int .i64 (py + y)] 32, hst.size⟩
      case rest =>
        intro vs w3 hl hst hg
        obtain ⟨r1, et, ht, hts⟩ : ∃ r, vs[18]? = some (.slice (some ⟨r, 0, none⟩) 1 1) ∧ VRow w3 r 32 [.int .i64 (px + x), .int .i64 (py + y)] ∧ wr.heap.size ≤ r := by
          have hu : vs[18]? = some (vs[18]'(by rw [hl]; decide)) := List.getElem?_eq_getElem _
          obtain ⟨r, he, h1, h2⟩ := hg 18 _ hu
          exact ⟨r, by rw [hu, he], h1, h2⟩
        have HST := Lib.hid hst
        have HNEW := Lib.hid ht
        have hvs : vs = [.slice a1 k c1, .slice (some ⟨b, o, none⟩) n cap, .int .i64 (k : Int), .pointer (some ⟨b, o + k * 2, none⟩), .pointer (some ⟨b, o + k * 2, none⟩), .int .i64 px, .pointer (some ⟨g, 0, none⟩), .int .i64 x, .int .i64 (px + x), .slice (some ⟨b, o, none⟩) n cap, .int .i64 (k : Int), .pointer (some ⟨b, o + k * 2, none⟩), .pointer (some ⟨b, o + k * 2 + 1, none⟩), .int .i64 py, .pointer (some ⟨g, 1, none⟩), .int .i64 y, .int .i64 (py + y), .agg #[.int .i64 (px + x), .int .i64 (py + y)], .slice (some ⟨r1, 0, none⟩) 1 1] := list_of hl (fun i u hu => by
          match i, hu with
          | 0, hu => exact (congrArg some (hg 0 u hu)).symm
          | 1, hu => exact (congrArg some (hg 1 u hu)).symm
          | 2, hu => exact (congrArg some (hg 2 u hu)).symm
          | 3, hu => exact (congrArg some (hg 3 u hu)).symm
          | 4, hu => exact (congrArg some (hg 4 u hu)).symm
          | 5, hu => exact (congrArg some (hg 5 u hu)).symm
          | 6, hu => exact (congrArg some (hg 6 u hu)).symm
          | 7, hu => exact (congrArg some (hg 7 u hu)).symm
          | 8, hu => exact (congrArg some (hg 8 u hu)).symm
          | 9, hu => exact (congrArg some (hg 9 u hu)).symm
          | 10, hu => exact (congrArg some (hg 10 u hu)).symm
          | 11, hu => exact (congrArg some (hg 11 u hu)).symm
          | 12, hu => exact (congrArg some (hg 12 u hu)).symm
          | 13, hu => exact (congrArg some (hg 13 u hu)).symm
          | 14, hu => exact (congrArg some (hg 14 u hu)).symm
          | 15, hu => exact (congrArg some (hg 15 u hu)).symm
          | 16, hu => exact (congrArg some (hg 16 u hu)).symm
          | 17, hu => exact (congrArg some (hg 17 u hu)).symm
          | 18, hu => exact et.symm.trans hu
          | n + 19, hu => exact absurd (lt_len hu) (by rw [hl]; simp))
        clear hg hst ht et hl
        subst hvs
        simp only [putAll, Act.put, List.dropLast, List.setIfInBounds_toArray, List.set_cons_zero, List.set_cons_succ]
        have HR3 := Lib.hid (ownsRow_ext HR.out HST.out)
        have hs3 := HST.out.size
        have hb3 := HE.out.size
        refine operIn_append_row _ _ _ 22 rfl (g + 1) 32 i0 (.agg #[.int .i64 0, .int .i64 0]) 2 16 Try.underlying22 HI.out HZ0.out HZ1.out HZ2.out rfl (by decide) _ _ _ rfl HR3.out ⟨r1, 0, none⟩ 1 1 [.int .i64 (px + x), .int .i64 (py + y)] rfl rfl (fun j u h => two_cells HNEW.out j u h) (by simp [Value.oneCell']) (by unfold maxLen; omega) (by omega) (by omega) ?_
        intro v4 w4 hown4 hgrow4 _
        obtain ⟨a4, c4, rfl⟩ := row_slice hown4
        have HO4 := Lib.hid hown4
        have HE4 := Lib.hid (Below.trans (Ext.trans HE.out HST.out) ((row_below HR3.out hgrow4 (by omega)).mono (by omega)))
        clear hown4 hgrow4
        gi_wp2
        go_wp2_with fail
        refine ⟨⟨k + 1, by simp, by omega, by rw [HTK.out]; exact HO4.out, HE4.out⟩, by simp [intOf]; omega⟩
    · obtain rfl : k = n := by omega
      go_wp2_with fail
      go_ret
      exact ⟨_, rfl, row_base (by rw [← HFIN.out]; exact HR.out) (by have := HG.out; omega), HEw.out⟩
set_option maxHeartbeats 4000000 in
theorem flipped_c (v : Value) (ps : List Pt) (w : World) (hv : Vecs w v ps) (hn : nearL ps) (h1 : 1 ≤ ps.length) (h32 : ps.length ≤ 1000) :
    Calls Try.prog 66 #[v] w fun e w' => ∃ r, e = .returned r ∧ w'.ownsRow w.heap.size 32 2 r ps.length (cellsOf (ps.map negP)) ∧ Ext w w' := by
  obtain ⟨b, o, cap, rfl, hl, hm, hc⟩ := vecs_cells hv h1
  have HC := Lib.hid hc
  have HNR := Lib.hid (fun (k : Nat) (hk : k < ps.length) => from_nearL hn hk)
  have HTS := Lib.hid (fun (k : Nat) (hk : k < ps.length) => cells_take negP hk)
  have HFIN := Lib.hid (show cellsOf ((ps.map negP).take ps.length) = cellsOf (ps.map negP) by rw [List.take_of_length_le (by simp)])
  obtain ⟨i0, hi0, hz0, hz1, hz2⟩ := info_parts info31
  have HI := Lib.hid hi0
  have HZ0 := Lib.hid hz0
  have HZ1 := Lib.hid hz1
  have HZ2 := Lib.hid hz2
  show Calls Try.prog 66 #[.slice (some ⟨b, o, none⟩) ps.length cap] w fun e w' => ∃ r, e = .returned r ∧ w'.ownsRow w.heap.size 32 2 r ps.length (cellsOf (ps.map negP)) ∧ Ext w w'
  obtain ⟨n, hnn⟩ : ∃ n, n = ps.length := ⟨_, rfl⟩
  rw [← hnn] at HC HNR HTS HFIN hl h1 h32 ⊢
  clear hv hc hn hnn hi0 hz0 hz1 hz2
  go_enter Try.func66, Try.ntmps66
  go_wp2_with fail
  go_loopw [3, 4] (fun u iv wr => ∃ k : Nat, iv = .int .i64 (k : Int) ∧ k ≤ n ∧ wr.ownsRow w.heap.size 32 2 u k (cellsOf ((ps.map negP).take k)) ∧ Ext w wr) (fun _ iv _ => n - (intOf iv).toNat)
  case atStart => exact ⟨0, rfl, Nat.zero_le _, ⟨rfl, .inl ⟨rfl, rfl⟩⟩, Ext.refl _⟩
  case round =>
    rename World => wr
    obtain ⟨k, rfl, hk, hR, hE⟩ := hrel
    obtain ⟨a1, c1, rfl⟩ := row_slice hR
    have HR := Lib.hid hR
    have HE := Lib.hid hE
    have HEw := Lib.hid hE
    clear hR hE
    by_cases hlt : k < n
    · obtain ⟨c1', c2'⟩ := HC.out k hlt
      have C1 := Lib.hid (Ext.cell HEw.out c1')
      have C2 := Lib.hid (Ext.cell HEw.out c2')
      have hbd := HNR.out k hlt
      have HTK := Lib.hid (HTS.out k hlt)
      clear c1' c2'
      have HTK2 := Lib.hid (show negP (fromP ps k) = (-(fromP ps k).1, -(fromP ps k).2) from rfl)
      rw [HTK2.out] at HTK
      dsimp only at HTK
      generalize (fromP ps k).1 = px at *
      generalize (fromP ps k).2 = py at *
      have HW1 := Lib.hid (show IntKind.i64.wrap (-px) = -px from IntWalk.i64_in _ (by omega))
      have HW2 := Lib.hid (show IntKind.i64.wrap (-py) = -py from IntWalk.i64_in _ (by omega))
      clear HTK2
      go_wp2_with fail
      refine (wpIn_wide (n := 9)).1 ?_
      refine wpIn_region_stable_last2 Open.wide [⟨[], none⟩, ⟨[], none⟩, ⟨[], none⟩, ⟨[(1, 12), (2, 13)], none⟩, ⟨[(3, 14)], none⟩, ⟨[(4, 15)], none⟩, ⟨[(5, 16)], none⟩, ⟨[], none⟩, ⟨[], none⟩, ⟨[(7, 18), (8, 19)], none⟩, ⟨[(9, 20)], none⟩, ⟨[(10, 21)], none⟩, ⟨[(11, 22)], none⟩, ⟨[(6, 17), (12, 23)], none⟩, ⟨[(13, 24)], none⟩] (fun x y => Below x.heap.size x y) (MPat [MP.eq (.slice a1 k c1), MP.eq (.slice (some ⟨b, o, none⟩) n cap), MP.eq (.int .i64 (k : Int)), MP.eq (.pointer (some ⟨b, o + k * 2, none⟩)), MP.eq (.pointer (some ⟨b, o + k * 2, none⟩)), MP.eq (.int .i64 px), MP.eq (.int .i64 (-px)), MP.eq (.slice (some ⟨b, o, none⟩) n cap), MP.eq (.int .i64 (k : Int)), MP.eq (.pointer (some ⟨b, o + k * 2, none⟩)), MP.eq (.pointer (some ⟨b, o + k * 2 + 1, none⟩)), MP.eq (.int .i64 py), MP.eq (.int .i64 (-py)), MP.eq (.agg #[.int .i64 (-px), .int .i64 (-py)]), MP.pt wr.heap.size (-px) (-py)]) rfl (by kernel_rfl) (fun _ _ _ h k => Ext.trans h k) (fun _ => Below.refl _ _) (fun x => (Below.refl x.heap.size x).drew) (MPat.mono _) (by kernel_rfl) (by kernel_rfl) (by kernel_rfl) (by kernel_rfl) (by kernel_rfl) (by kernel_rfl) ?obs ?rest
      case obs =>
        refine ⟨?_, ?_, ?_, ?_, ?_, ?_, ?_, ?_, ?_, ?_, ?_, ?_, ?_, ?_, ?_, trivial⟩
        · intro ev W5 hf _ _ hst hd
          have e3 : ev (.tmp 3) = .slice a1 k c1 := hf 3 (by kernel_rfl)
          refine st_value (v := .slice a1 k c1) ?_ (Below.refl _ _) ?_
          · simp [execOp, go_sem, e3]
          · exact rfl
        · intro ev W5 hf _ _ hst hd
          have e0 : ev (.tmp 0) = .slice (some ⟨b, o, none⟩) n cap := hf 0 (by kernel_rfl)
          refine st_value (v := .slice (some ⟨b, o, none⟩) n cap) ?_ (Below.refl _ _) ?_
          · simp [execOp, go_sem, e0]
          · exact rfl
        · intro ev W5 hf _ _ hst hd
          have e4 : ev (.tmp 4) = .int .i64 (k : Int) := hf 4 (by kernel_rfl)
          refine st_value (v := .int .i64 (k : Int)) ?_ (Below.refl _ _) ?_
          · simp [execOp, go_sem, e4]
          · exact rfl
        · intro ev W5 hf _ _ hst hd
          obtain ⟨d12, d13, _⟩ := hd
          have e12 : ev (.tmp 12) = .slice (some ⟨b, o, none⟩) n cap := d12
          have e13 : ev (.tmp 13) = .int .i64 (k : Int) := d13
          refine st_value (v := .pointer (some ⟨b, o + k * 2, none⟩)) ?_ (Below.refl _ _) ?_
          · simp [execOp, go_sem, e12, e13, hlt]
          · exact rfl
        · intro ev W5 hf _ _ hst hd
          obtain ⟨d14, _⟩ := hd
          have e14 : ev (.tmp 14) = .pointer (some ⟨b, o + k * 2, none⟩) := d14
          refine st_value (v := .pointer (some ⟨b, o + k * 2, none⟩)) ?_ (Below.refl _ _) ?_
          · simp [execOp, go_sem, e14]
          · exact rfl
        · intro ev W5 hf _ _ hst hd
          obtain ⟨d15, _⟩ := hd
          have e15 : ev (.tmp 15) = .pointer (some ⟨b, o + k * 2, none⟩) := d15
          have q0 := Ext.cell hst C1.out
          refine st_value (v := .int .i64 px) ?_ (Below.refl _ _) ?_
          · simp [execOp, go_sem, e15, q0]
          · exact rfl
        · intro ev W5 hf _ _ hst hd
          obtain ⟨d16, _⟩ := hd
          have e16 : ev (.tmp 16) = .int .i64 px := d16
          refine st_value (v := .int .i64 (-px)) ?_ (Below.refl _ _) ?_
          · simp [execOp, go_sem, e16, HW1.out]
          · exact rfl
        · intro ev W5 hf _ _ hst hd
          have e0 : ev (.tmp 0) = .slice (some ⟨b, o, none⟩) n cap := hf 0 (by kernel_rfl)
          refine st_value (v := .slice (some ⟨b, o, none⟩) n cap) ?_ (Below.refl _ _) ?_
          · simp [execOp, go_sem, e0]
          · exact rfl
        · intro ev W5 hf _ _ hst hd
          have e4 : ev (.tmp 4) = .int .i64 (k : Int) := hf 4 (by kernel_rfl)
          refine st_value (v := .int .i64 (k : Int)) ?_ (Below.refl _ _) ?_
          · simp [execOp, go_sem, e4]
          · exact rfl
        · intro ev W5 hf _ _ hst hd
          obtain ⟨d18, d19, _⟩ := hd
          have e18 : ev (.tmp 18) = .slice (some ⟨b, o, none⟩) n cap := d18
          have e19 : ev (.tmp 19) = .int .i64 (k : Int) := d19
          refine st_value (v := .pointer (some ⟨b, o + k * 2, none⟩)) ?_ (Below.refl _ _) ?_
          · simp [execOp, go_sem, e18, e19, hlt]
          · exact rfl
        · intro ev W5 hf _ _ hst hd
          obtain ⟨d20, _⟩ := hd
          have e20 : ev (.tmp 20) = .pointer (some ⟨b, o + k * 2, none⟩) := d20
          refine st_value (v := .pointer (some ⟨b, o + k * 2 + 1, none⟩)) ?_ (Below.refl _ _) ?_
          · simp [execOp, go_sem, e20]
          · exact rfl
        · intro ev W5 hf _ _ hst hd
          obtain ⟨d21, _⟩ := hd
          have e21 : ev (.tmp 21) = .pointer (some ⟨b, o + k * 2 + 1, none⟩) := d21
          have q0 := Ext.cell hst C2.out
          refine st_value (v := .int .i64 py) ?_ (Below.refl _ _) ?_
          · simp [execOp, go_sem, e21, q0]
          · exact rfl
        · intro ev W5 hf _ _ hst hd
          obtain ⟨d22, _⟩ := hd
          have e22 : ev (.tmp 22) = .int .i64 py := d22
          refine st_value (v := .int .i64 (-py)) ?_ (Below.refl _ _) ?_
          · simp [execOp, go_sem, e22, HW2.out]
          · exact rfl
        · intro ev W5 hf _ _ hst hd
          obtain ⟨d17, d23, _⟩ := hd
          have e17 : ev (.tmp 17) = .int .i64 (-px) := d17
          have e23 : ev (.tmp 23) = .int .i64 (-py) := d23
          refine st_value (v := .agg #[.int .i64 (-px), .int .i64 (-py)]) ?_ (Below.refl _ _) ?_
          · simp [execOp, go_sem, e17, e23]
          · exact rfl
        · intro ev W5 hf _ hfn hst hd
          obtain ⟨d24, _⟩ := hd
          have e24 : ev (.tmp 24) = .agg #[.int .i64 (-px), .int .i64 (-py)] := d24
          refine st_new (v := .slice (some ⟨W5.heap.size, 0, none⟩) 1 1) (o := .cells #[.int .i64 (-px), .int .i64 (-py)] 32) ?_ ?_
          · simp [execOp, go_sem, e24]
          · exact ⟨_, rfl, vrow_alloc W5 [.int .i64 (-px), .int .i64 (-py)] 32, hst.size⟩
      case rest =>
        intro vs w3 hl hst hg
        obtain ⟨r1, et, ht, hts⟩ : ∃ r, vs[14]? = some (.slice (some ⟨r, 0, none⟩) 1 1) ∧ VRow w3 r 32 [.int .i64 (-px), .int .i64 (-py)] ∧ wr.heap.size ≤ r := by
          have hu : vs[14]? = some (vs[14]'(by rw [hl]; decide)) := List.getElem?_eq_getElem _
          obtain ⟨r, he, h1, h2⟩ := hg 14 _ hu
          exact ⟨r, by rw [hu, he], h1, h2⟩
        have HST := Lib.hid hst
        have HNEW := Lib.hid ht
        have hvs : vs = [.slice a1 k c1, .slice (some ⟨b, o, none⟩) n cap, .int .i64 (k : Int), .pointer (some ⟨b, o + k * 2, none⟩), .pointer (some ⟨b, o + k * 2, none⟩), .int .i64 px, .int .i64 (-px), .slice (some ⟨b, o, none⟩) n cap, .int .i64 (k : Int), .pointer (some ⟨b, o + k * 2, none⟩), .pointer (some ⟨b, o + k * 2 + 1, none⟩), .int .i64 py, .int .i64 (-py), .agg #[.int .i64 (-px), .int .i64 (-py)], .slice (some ⟨r1, 0, none⟩) 1 1] := list_of hl (fun i u hu => by
          match i, hu with
          | 0, hu => exact (congrArg some (hg 0 u hu)).symm
          | 1, hu => exact (congrArg some (hg 1 u hu)).symm
          | 2, hu => exact (congrArg some (hg 2 u hu)).symm
          | 3, hu => exact (congrArg some (hg 3 u hu)).symm
          | 4, hu => exact (congrArg some (hg 4 u hu)).symm
          | 5, hu => exact (congrArg some (hg 5 u hu)).symm
          | 6, hu => exact (congrArg some (hg 6 u hu)).symm
          | 7, hu => exact (congrArg some (hg 7 u hu)).symm
          | 8, hu => exact (congrArg some (hg 8 u hu)).symm
          | 9, hu => exact (congrArg some (hg 9 u hu)).symm
          | 10, hu => exact (congrArg some (hg 10 u hu)).symm
          | 11, hu => exact (congrArg some (hg 11 u hu)).symm
          | 12, hu => exact (congrArg some (hg 12 u hu)).symm
          | 13, hu => exact (congrArg some (hg 13 u hu)).symm
          | 14, hu => exact et.symm.trans hu
          | n + 15, hu => exact absurd (lt_len hu) (by rw [hl]; simp))
        clear hg hst ht et hl
        subst hvs
        simp only [putAll, Act.put, List.dropLast, List.setIfInBounds_toArray, List.set_cons_zero, List.set_cons_succ]
        have HR3 := Lib.hid (ownsRow_ext HR.out HST.out)
        have hs3 := HST.out.size
        have hb3 := HE.out.size
        refine operIn_append_row _ _ _ 22 rfl w.heap.size 32 i0 (.agg #[.int .i64 0, .int .i64 0]) 2 16 Try.underlying22 HI.out HZ0.out HZ1.out HZ2.out rfl (by decide) _ _ _ rfl HR3.out ⟨r1, 0, none⟩ 1 1 [.int .i64 (-px), .int .i64 (-py)] rfl rfl (fun j u h => two_cells HNEW.out j u h) (by simp [Value.oneCell']) (by unfold maxLen; omega) (by omega) (by omega) ?_
        intro v4 w4 hown4 hgrow4 _
        obtain ⟨a4, c4, rfl⟩ := row_slice hown4
        have HO4 := Lib.hid hown4
        have HE4 := Lib.hid (Below.trans (Ext.trans HE.out HST.out) ((row_below HR3.out hgrow4 (by omega)).mono (by omega)))
        clear hown4 hgrow4
        gi_wp2
        go_wp2_with fail
        refine ⟨⟨k + 1, by simp, by omega, by rw [HTK.out]; exact HO4.out, HE4.out⟩, by simp [intOf]; omega⟩
    · obtain rfl : k = n := by omega
      go_wp2_with fail
      go_ret
      exact ⟨_, rfl, row_base (by rw [← HFIN.out]; exact HR.out) (Nat.le_refl _), HEw.out⟩
end Go.Proofs.Ytbdppephmlkbaaa

namespace Go.Proofs.Ytbdppephmlkbaaa
set_option maxRecDepth 100000
open Go.RowKit Go.Shelf
attribute [local go_sem] Oper.semAt_some
/-! The reference's sums. -/
theorem row_cells {W : World} {base n : Nat} {v : Value} {xs : List Value} (h : W.ownsRow base 32 2 v n xs) (hn : 0 < n) : ∃ g cap, v = .slice (some ⟨g, 0, none⟩) n cap ∧ base ≤ g ∧ n ≤ cap ∧ cap ≤ 9223372036854775807 ∧
    ∀ (j : Nat) (u : Value), xs[j]? = some u → W.cell? ((⟨g, 0, none⟩ : Addr).add j) = some u := by
  rcases h.2 with ⟨_, h0⟩ | ⟨g, cap, cur, hv, hb, hc, hnc, hm, hsz, htk⟩
  · omega
  · refine ⟨g, cap, hv, hb, hnc, by unfold maxLen at hm; omega, fun j u hj => ?_⟩
    rw [← htk, List.getElem?_take] at hj
    split at hj
    · rw [Array.getElem?_toList] at hj
      rw [add_addr, Nat.zero_add]
      simp [World.cell?, hc, hj]
    · cases hj
theorem mul_32 {k n m : Nat} (hk : k ≤ n) (hn : n ≤ 32) (hm : m ≤ 32) : k * m ≤ 1024 := Nat.le_trans (Nat.mul_le_mul (Nat.le_trans hk hn) hm) (by decide)
theorem all_near {ps qs : List Pt} (h1 : nearP ps) (h2 : nearP qs) {k : Nat} (hk : k ≤ ps.length) : ∀ q, q ∈ allK ps qs k → (-4000 ≤ q.1 ∧ q.1 ≤ 4000) ∧ (-4000 ≤ q.2 ∧ q.2 ≤ 4000) := by
  intro q hq
  obtain ⟨i, j, hi, hj, rfl⟩ := (all_mem k).1 hq
  have a := h1 _ (from_mem (show i < ps.length by omega))
  have b := h2 _ (from_mem hj)
  unfold addP
  dsimp only
  omega
set_option maxHeartbeats 4000000 in
theorem sums_c (u v : Value) (ps qs : List Pt) (w : World) (hu : Vecs w u ps) (hv : Vecs w v qs) (hn1 : nearP ps) (hn2 : nearP qs) (h1 : 3 ≤ ps.length) (h2 : ps.length ≤ 32) (k1 : 3 ≤ qs.length) (k2 : qs.length ≤ 32) :
    Calls Try.prog 68 #[u, v] w fun e w' => ∃ r K, e = .returned r ∧ WrapEnd (allK ps qs ps.length) (lowK (allK ps qs ps.length) ((allK ps qs ps.length).length - 1)) K ∧
      w'.ownsRow w.heap.size 32 2 r K (cellsOf (wrapL (allK ps qs ps.length) (lowK (allK ps qs ps.length) ((allK ps qs ps.length).length - 1)) K)) ∧ Ext w w' := by
  obtain ⟨b, o, cap, rfl, hl, hm, hc⟩ := vecs_cells hu (by omega)
  obtain ⟨a2, cap2, rfl, hl2, hm2, _⟩ := hv.at
  have HC := Lib.hid hc
  have HV := Lib.hid hv
  have HNQ := Lib.hid (near_L hn2)
  have HNP := Lib.hid (fun (k : Nat) (hk : k < ps.length) => from_nearL (near_L hn1) hk)
  have HAL := Lib.hid (fun (k : Nat) => all_len ps qs k)
  have HAN := Lib.hid (all_near hn1 hn2 (Nat.le_refl ps.length))
  have HML := Lib.hid (fun (v : Pt) => moved_length qs v)
  have HST := Lib.hid (fun (k : Nat) => (show cellsOf (allK ps qs (k + 1)) = cellsOf (allK ps qs k) ++ cellsOf (movedP qs (fromP ps k)) from by rw [allK, cellsOf_append]))
  obtain ⟨i0, hi0, hz0, hz1, hz2⟩ := info_parts info31
  have HI := Lib.hid hi0
  have HZ0 := Lib.hid hz0
  have HZ1 := Lib.hid hz1
  have HZ2 := Lib.hid hz2
  obtain ⟨n, hnn⟩ : ∃ n, n = ps.length := ⟨_, rfl⟩
  obtain ⟨m, hmm⟩ : ∃ m, m = qs.length := ⟨_, rfl⟩
  rw [← hnn] at HC HNP HAN hl h1 h2 ⊢
  rw [← hmm] at HAL HML HV hl2 k1 k2 ⊢
  have HM := Lib.hid hmm
  clear hu hv hc hn1 hn2 hnn hmm hi0 hz0 hz1 hz2
  go_enter Try.func68, Try.ntmps68
  go_wp2_with fail
  go_loopw [5, 6] (fun u iv wr => ∃ k : Nat, iv = .int .i64 (k : Int) ∧ k ≤ n ∧ wr.ownsRow w.heap.size 32 2 u (k * m) (cellsOf (allK ps qs k)) ∧ Ext w wr) (fun _ iv _ => n - (intOf iv).toNat)
  case atStart => exact ⟨0, rfl, Nat.zero_le _, ⟨by simp [allK, cellsOf], .inl ⟨rfl, Nat.zero_mul m⟩⟩, Ext.refl _⟩
  case round =>
    rename World => wr
    obtain ⟨k, rfl, hk, hR, hE⟩ := hrel
    obtain ⟨a1, c1, rfl⟩ := row_slice hR
    have HR := Lib.hid hR
    have HE := Lib.hid hE
    clear hR hE
    have hkm := mul_32 hk h2 k2
    by_cases hlt : k < n
    · obtain ⟨d1, d2⟩ := HC.out k hlt
      have d1 := Ext.cell HE.out d1
      have d2 := Ext.cell HE.out d2
      have kk := cell_lt d1
      have hbd := HNP.out k hlt
      have HMV := Lib.hid (fun (W : World) (hW : Vecs W (.slice a2 m cap2) qs) => moved_c (.slice a2 m cap2) qs (fromP ps k).1 (fromP ps k).2 W hW HNQ.out (by omega) (by omega) (by have := HM.out; omega) (by have := HM.out; omega))
      generalize hfk : fromP ps k = pk at *
      have HFK := Lib.hid hfk
      clear hfk
      obtain ⟨px, py⟩ := pk
      dsimp only at HMV d1 d2 hbd
      go_wp2_with fail
      refine (show Calls Try.prog 60 #[_, vecV px py] _ _ from (HMV.out wr (HV.out.ext HE.out)).mono ?_)
      rintro e w2 ⟨r, rfl, hO, hE⟩
      rw [← HM.out] at hO
      obtain ⟨g2, cap3, rfl, hb2, hl3, hm3, hcl⟩ := row_cells hO (by omega)
      have HCL := Lib.hid hcl
      have HE2 := Lib.hid (Ext.trans HE.out hE)
      have HR2 := Lib.hid (ownsRow_ext HR.out hE)
      have hs2 := HE2.out.size
      have HLN := Lib.hid (show (cellsOf (movedP qs (px, py))).length = m * 2 by rw [cellsOf_length, HML.out])
      clear hE hO hcl d1 d2 kk
      go_wp2_with (at_builtin; refine wpList_append_own _ rfl _ _ 22 rfl w.heap.size 32 i0 (.agg #[.int .i64 0, .int .i64 0]) 2 16 Try.underlying22 HI.out HZ0.out HZ1.out HZ2.out rfl (by decide) _ _ _ rfl HR2.out ⟨g2, 0, none⟩ m cap3 (cellsOf (movedP qs (px, py))) rfl HLN.out HCL.out cellsOf_one (by unfold maxLen; omega) (by omega) (by omega) ?_; intro v' w' hown' hgrow hnil; have HO4 := Lib.hid hown'; have HG4 := Lib.hid hgrow; clear hown' hgrow hnil)
      obtain ⟨a4, c4, e4⟩ := row_slice HO4.out
      subst e4
      refine ⟨⟨k + 1, by simp, by omega, by rw [Nat.succ_mul, HST.out, HFK.out]; exact HO4.out, Below.trans HE2.out ((row_below HR2.out HG4.out (by omega)).mono (by omega))⟩, by simp [intOf]; omega⟩
    · obtain rfl : k = n := by omega
      have HL := Lib.hid (HAL.out k)
      have HV5 := Lib.hid (vecs_own (by rw [HL.out]; exact HR.out) (by rw [HL.out]; omega))
      have hk1 : 1 ≤ k * m := Nat.mul_pos (by omega) (by omega)
      go_wp2_with fail
      refine (wrap_c _ (allK ps qs k) wr HV5.out HAN.out (by rw [HL.out]; omega) (by rw [HL.out]; omega)).mono ?_
      rintro e w2 ⟨r, K, rfl, hW, hO, hE⟩
      have HW := Lib.hid hW
      have HO := Lib.hid (row_base hO HE.out.size)
      have HE2 := Lib.hid (Ext.trans HE.out hE)
      clear hE hO hW
      go_wp2_with fail
      go_ret
      exact ⟨r, K, rfl, HW.out, HO.out, HE2.out⟩
end Go.Proofs.Ytbdppephmlkbaaa

namespace Go.Proofs.Ytbdppephmlkbaaa
set_option maxRecDepth 100000
open Go.RowKit Go.Shelf
attribute [local go_sem] Oper.semAt_some
/-! Does a direction part two polygons? -/
theorem mul_box2 {a b : Int} (ha : -10000 ≤ a ∧ a ≤ 10000) (hb : -10000 ≤ b ∧ b ≤ 10000) : -400000000 ≤ a * b ∧ a * b ≤ 400000000 := mul_20 (a := a) (b := b) (by omega) (by omega)
set_option maxHeartbeats 4000000 in
theorem parts_c (u v : Value) (ps qs : List Pt) (x y : Int) (w : World) (hu : Vecs w u ps) (hv : Vecs w v qs) (hn1 : nearL ps) (hn2 : nearL qs) (h1 : 1 ≤ ps.length) (h2 : ps.length ≤ 1000) (k1 : 1 ≤ qs.length) (k2 : qs.length ≤ 1000) (hx : -10000 ≤ x ∧ x ≤ 10000) (hy : -10000 ≤ y ∧ y ≤ 10000) :
    Calls Try.prog 71 #[u, v, vecV x y] w fun e w' => ∃ b, e = .returned (.bool b) ∧ (b = true ↔ sepBy ps qs (x, y)) ∧ Ext w w' := by
  obtain ⟨b, o, cap, rfl, hl, hm, hc⟩ := vecs_cells hu h1
  obtain ⟨b2, o2, cap2, rfl, hl2, hm2, hc2⟩ := vecs_cells hv k1
  have HC := Lib.hid hc
  have HC2 := Lib.hid hc2
  have HNP := Lib.hid (fun (k : Nat) (hk : k < ps.length) => from_nearL hn1 hk)
  have HNQ := Lib.hid (fun (k : Nat) (hk : k < qs.length) => from_nearL hn2 hk)
  have HE1 := Lib.hid (Ext.alloc (Ext.refl w) (.cells #[.int .i64 x, .int .i64 y] 32))
  have HV1 := Lib.hid (show VRow (w.alloc (.cells #[.int .i64 x, .int .i64 y] 32)) _ _ _ from vrow_alloc w [.int .i64 x, .int .i64 y] 32)
  obtain ⟨n, hnn⟩ : ∃ n, n = ps.length := ⟨_, rfl⟩
  obtain ⟨m, hmm⟩ : ∃ m, m = qs.length := ⟨_, rfl⟩
  rw [← hnn] at HC HNP hl h1 h2 ⊢
  rw [← hmm] at HC2 HNQ hl2 k1 k2 ⊢
  have HN := Lib.hid hnn
  have HM := Lib.hid hmm
  clear hu hv hc hc2 hn1 hn2 hnn hmm
  go_enter Try.func71, Try.ntmps71
  go_wp2_with fail
  obtain ⟨g, hg⟩ : ∃ g, g = w.heap.size := ⟨_, rfl⟩
  rw [← hg] at HV1 ⊢
  obtain ⟨w1, hw1⟩ : ∃ w1, w1 = w.alloc (.cells #[.int .i64 x, .int .i64 y] 32) := ⟨_, rfl⟩
  rw [← hw1] at HV1 HE1 ⊢
  clear hg hw1
  go_loopw [7] (fun iv wr => ∃ i : Nat, iv = .int .i64 (i : Int) ∧ i ≤ n ∧ (∀ a, a < i → ∀ j, j < m → dotP (x, y) (fromP ps a) ≤ dotP (x, y) (fromP qs j)) ∧ Ext w1 wr) (fun iv _ => n - (intOf iv).toNat)
  case atStart => exact ⟨0, rfl, Nat.zero_le _, fun a ha => by omega, Ext.refl _⟩
  case round =>
    rename World => wr
    obtain ⟨i, rfl, hi, hall, hE⟩ := hrel
    have HALL := Lib.hid hall
    have HE := Lib.hid hE
    clear hall hE
    by_cases hin : i < n
    · have hinz : (i : Int) < (n : Int) := by omega
      go_wp2_with fail
      go_loopw [8] (fun kv wq => ∃ k : Nat, kv = .int .i64 (k : Int) ∧ k ≤ m ∧ (∀ j, j < k → dotP (x, y) (fromP ps i) ≤ dotP (x, y) (fromP qs j)) ∧ Ext w1 wq) (fun kv _ => m - (intOf kv).toNat)
      case atStart => exact ⟨0, rfl, Nat.zero_le _, fun j hj => by omega, HE.out⟩
      case round =>
        rename World => wq
        obtain ⟨k, rfl, hk, hall, hE⟩ := hrel
        have HALQ := Lib.hid hall
        have HEr := Lib.hid hE
        have HEq := Lib.hid (Ext.trans HE1.out hE)
        have HVq := Lib.hid (VRow.ext HV1.out hE)
        clear hall hE
        by_cases hkm : k < m
        · have hkz : (k : Int) < (m : Int) := by omega
          obtain ⟨c1, c2⟩ := HC.out i hin
          obtain ⟨c3, c4⟩ := HC2.out k hkm
          have C1 := Lib.hid (Ext.cell HEq.out c1)
          have C2 := Lib.hid (Ext.cell HEq.out c2)
          have C3 := Lib.hid (Ext.cell HEq.out c3)
          have C4 := Lib.hid (Ext.cell HEq.out c4)
          have b1 := HNP.out i hin
          have b2' := HNQ.out k hkm
          clear c1 c2 c3 c4
          have HDA0 := Lib.hid (show dotP (x, y) (fromP ps i) = x * (fromP ps i).1 + y * (fromP ps i).2 from rfl)
          have HDB0 := Lib.hid (show dotP (x, y) (fromP qs k) = x * (fromP qs k).1 + y * (fromP qs k).2 from rfl)
          generalize (fromP ps i).1 = px at *
          generalize (fromP ps i).2 = py at *
          generalize (fromP qs k).1 = qx at *
          generalize (fromP qs k).2 = qy at *
          have m1 := mul_box2 (a := x) (b := px) (by omega) (by omega)
          have m2 := mul_box2 (a := y) (b := py) (by omega) (by omega)
          have m3 := mul_box2 (a := x) (b := qx) (by omega) (by omega)
          have m4 := mul_box2 (a := y) (b := qy) (by omega) (by omega)
          obtain ⟨A1, hA1⟩ : ∃ A1, A1 = x * px := ⟨_, rfl⟩
          obtain ⟨A2, hA2⟩ : ∃ A2, A2 = y * py := ⟨_, rfl⟩
          obtain ⟨B1, hB1⟩ : ∃ B1, B1 = x * qx := ⟨_, rfl⟩
          obtain ⟨B2, hB2⟩ : ∃ B2, B2 = y * qy := ⟨_, rfl⟩
          obtain ⟨A, hA⟩ : ∃ A, A = A1 + A2 := ⟨_, rfl⟩
          obtain ⟨B, hB⟩ : ∃ B, B = B1 + B2 := ⟨_, rfl⟩
          rw [← hA1] at m1
          rw [← hA2] at m2
          rw [← hB1] at m3
          rw [← hB2] at m4
          have HDA := Lib.hid (show dotP (x, y) (fromP ps i) = A from by rw [HDA0.out, ← hA1, ← hA2, hA])
          have HDB := Lib.hid (show dotP (x, y) (fromP qs k) = B from by rw [HDB0.out, ← hB1, ← hB2, hB])
          have HA1 := Lib.hid (show IntKind.i64.wrap (x * px) = A1 from by rw [← hA1]; exact IntWalk.i64_in _ (by omega))
          have HA2 := Lib.hid (show IntKind.i64.wrap (y * py) = A2 from by rw [← hA2]; exact IntWalk.i64_in _ (by omega))
          have HA := Lib.hid (show IntKind.i64.wrap (A1 + A2) = A from by rw [← hA]; exact IntWalk.i64_in _ (by omega))
          have HB1 := Lib.hid (show IntKind.i64.wrap (x * qx) = B1 from by rw [← hB1]; exact IntWalk.i64_in _ (by omega))
          have HB2 := Lib.hid (show IntKind.i64.wrap (y * qy) = B2 from by rw [← hB2]; exact IntWalk.i64_in _ (by omega))
          have HB := Lib.hid (show IntKind.i64.wrap (B1 + B2) = B from by rw [← hB]; exact IntWalk.i64_in _ (by omega))
          clear hA1 hA2 hB1 hB2 hA hB m1 m2 m3 m4 HDA0 HDB0
          go_wp2_with fail
          refine wp_region_stable [⟨[], none⟩, ⟨[(0, 21)], none⟩, ⟨[], none⟩, ⟨[], none⟩, ⟨[(2, 23), (3, 24)], none⟩, ⟨[(4, 25)], none⟩, ⟨[(5, 26)], none⟩, ⟨[(1, 22), (6, 27)], none⟩, ⟨[], none⟩, ⟨[(8, 29)], none⟩, ⟨[], none⟩, ⟨[], none⟩, ⟨[(10, 31), (11, 32)], none⟩, ⟨[(12, 33)], none⟩, ⟨[(13, 34)], none⟩, ⟨[(9, 30), (14, 35)], none⟩, ⟨[(7, 28), (15, 36)], none⟩, ⟨[], none⟩, ⟨[(17, 38)], none⟩, ⟨[], none⟩, ⟨[], none⟩, ⟨[(19, 40), (20, 41)], none⟩, ⟨[(21, 42)], none⟩, ⟨[(22, 43)], none⟩, ⟨[(18, 39), (23, 44)], none⟩, ⟨[], none⟩, ⟨[(25, 46)], none⟩, ⟨[], none⟩, ⟨[], none⟩, ⟨[(27, 48), (28, 49)], none⟩, ⟨[(29, 50)], none⟩, ⟨[(30, 51)], none⟩, ⟨[(26, 47), (31, 52)], none⟩, ⟨[(24, 45), (32, 53)], none⟩, ⟨[(16, 37), (33, 54)], none⟩] (fun x y => Below x.heap.size x y) (MPat [MP.eq (.pointer (some ⟨g, 0, none⟩)), MP.eq (.int .i64 x), MP.eq (.slice (some ⟨b, o, none⟩) n cap), MP.eq (.int .i64 (i : Int)), MP.eq (.pointer (some ⟨b, o + i * 2, none⟩)), MP.eq (.pointer (some ⟨b, o + i * 2, none⟩)), MP.eq (.int .i64 px), MP.eq (.int .i64 A1), MP.eq (.pointer (some ⟨g, 1, none⟩)), MP.eq (.int .i64 y), MP.eq (.slice (some ⟨b, o, none⟩) n cap), MP.eq (.int .i64 (i : Int)), MP.eq (.pointer (some ⟨b, o + i * 2, none⟩)), MP.eq (.pointer (some ⟨b, o + i * 2 + 1, none⟩)), MP.eq (.int .i64 py), MP.eq (.int .i64 A2), MP.eq (.int .i64 A), MP.eq (.pointer (some ⟨g, 0, none⟩)), MP.eq (.int .i64 x), MP.eq (.slice (some ⟨b2, o2, none⟩) m cap2), MP.eq (.int .i64 (k : Int)), MP.eq (.pointer (some ⟨b2, o2 + k * 2, none⟩)), MP.eq (.pointer (some ⟨b2, o2 + k * 2, none⟩)), MP.eq (.int .i64 qx), MP.eq (.int .i64 B1), MP.eq (.pointer (some ⟨g, 1, none⟩)), MP.eq (.int .i64 y), MP.eq (.slice (some ⟨b2, o2, none⟩) m cap2), MP.eq (.int .i64 (k : Int)), MP.eq (.pointer (some ⟨b2, o2 + k * 2, none⟩)), MP.eq (.pointer (some ⟨b2, o2 + k * 2 + 1, none⟩)), MP.eq (.int .i64 qy), MP.eq (.int .i64 B2), MP.eq (.int .i64 B), MP.eq (.bool (decide (B < A)))]) (by kernel_rfl) (fun _ _ _ h k => Ext.trans h k) (fun _ => Below.refl _ _) (fun x => (Below.refl x.heap.size x).drew) (MPat.mono _) (by kernel_rfl) ?obs ?rest
          case obs =>
            refine ⟨?_, ?_, ?_, ?_, ?_, ?_, ?_, ?_, ?_, ?_, ?_, ?_, ?_, ?_, ?_, ?_, ?_, ?_, ?_, ?_, ?_, ?_, ?_, ?_, ?_, ?_, ?_, ?_, ?_, ?_, ?_, ?_, ?_, ?_, ?_, trivial⟩
            · intro ev W5 hf _ _ hst hd
              have e5 : ev (.tmp 5) = .pointer (some ⟨g, 0, none⟩) := hf 5 (by kernel_rfl)
              refine st_value (v := .pointer (some ⟨g, 0, none⟩)) ?_ (Below.refl _ _) ?_
              · simp [execOp, go_sem, e5]
              · exact rfl
            · intro ev W5 hf _ _ hst hd
              obtain ⟨d21, _⟩ := hd
              have e21 : ev (.tmp 21) = .pointer (some ⟨g, 0, none⟩) := d21
              have q0 := VRow.cell (VRow.ext HVq.out hst) (k := 0) rfl
              refine st_value (v := .int .i64 x) ?_ (Below.refl _ _) ?_
              · simp [execOp, go_sem, e21, q0]
              · exact rfl
            · intro ev W5 hf _ _ hst hd
              have e0 : ev (.tmp 0) = .slice (some ⟨b, o, none⟩) n cap := hf 0 (by kernel_rfl)
              refine st_value (v := .slice (some ⟨b, o, none⟩) n cap) ?_ (Below.refl _ _) ?_
              · simp [execOp, go_sem, e0]
              · exact rfl
            · intro ev W5 hf _ _ hst hd
              have e7 : ev (.tmp 7) = .int .i64 (i : Int) := hf 7 (by kernel_rfl)
              refine st_value (v := .int .i64 (i : Int)) ?_ (Below.refl _ _) ?_
              · simp [execOp, go_sem, e7]
              · exact rfl
            · intro ev W5 hf _ _ hst hd
              obtain ⟨d23, d24, _⟩ := hd
              have e23 : ev (.tmp 23) = .slice (some ⟨b, o, none⟩) n cap := d23
              have e24 : ev (.tmp 24) = .int .i64 (i : Int) := d24
              refine st_value (v := .pointer (some ⟨b, o + i * 2, none⟩)) ?_ (Below.refl _ _) ?_
              · simp [execOp, go_sem, e23, e24, hin]
              · exact rfl
            · intro ev W5 hf _ _ hst hd
              obtain ⟨d25, _⟩ := hd
              have e25 : ev (.tmp 25) = .pointer (some ⟨b, o + i * 2, none⟩) := d25
              refine st_value (v := .pointer (some ⟨b, o + i * 2, none⟩)) ?_ (Below.refl _ _) ?_
              · simp [execOp, go_sem, e25]
              · exact rfl
            · intro ev W5 hf _ _ hst hd
              obtain ⟨d26, _⟩ := hd
              have e26 : ev (.tmp 26) = .pointer (some ⟨b, o + i * 2, none⟩) := d26
              have q0 := Ext.cell hst C1.out
              refine st_value (v := .int .i64 px) ?_ (Below.refl _ _) ?_
              · simp [execOp, go_sem, e26, q0]
              · exact rfl
            · intro ev W5 hf _ _ hst hd
              obtain ⟨d22, d27, _⟩ := hd
              have e22 : ev (.tmp 22) = .int .i64 x := d22
              have e27 : ev (.tmp 27) = .int .i64 px := d27
              refine st_value (v := .int .i64 A1) ?_ (Below.refl _ _) ?_
              · simp [execOp, go_sem, e22, e27, HA1.out]
              · exact rfl
            · intro ev W5 hf _ _ hst hd
              have e5 : ev (.tmp 5) = .pointer (some ⟨g, 0, none⟩) := hf 5 (by kernel_rfl)
              refine st_value (v := .pointer (some ⟨g, 1, none⟩)) ?_ (Below.refl _ _) ?_
              · simp [execOp, go_sem, e5]
              · exact rfl
            · intro ev W5 hf _ _ hst hd
              obtain ⟨d29, _⟩ := hd
              have e29 : ev (.tmp 29) = .pointer (some ⟨g, 1, none⟩) := d29
              have q0 := VRow.cell (VRow.ext HVq.out hst) (k := 1) rfl
              refine st_value (v := .int .i64 y) ?_ (Below.refl _ _) ?_
              · simp [execOp, go_sem, e29, q0]
              · exact rfl
            · intro ev W5 hf _ _ hst hd
              have e0 : ev (.tmp 0) = .slice (some ⟨b, o, none⟩) n cap := hf 0 (by kernel_rfl)
              refine st_value (v := .slice (some ⟨b, o, none⟩) n cap) ?_ (Below.refl _ _) ?_
              · simp [execOp, go_sem, e0]
              · exact rfl
            · intro ev W5 hf _ _ hst hd
              have e7 : ev (.tmp 7) = .int .i64 (i : Int) := hf 7 (by kernel_rfl)
              refine st_value (v := .int .i64 (i : Int)) ?_ (Below.refl _ _) ?_
              · simp [execOp, go_sem, e7]
              · exact rfl
            · intro ev W5 hf _ _ hst hd
              obtain ⟨d31, d32, _⟩ := hd
              have e31 : ev (.tmp 31) = .slice (some ⟨b, o, none⟩) n cap := d31
              have e32 : ev (.tmp 32) = .int .i64 (i : Int) := d32
              refine st_value (v := .pointer (some ⟨b, o + i * 2, none⟩)) ?_ (Below.refl _ _) ?_
              · simp [execOp, go_sem, e31, e32, hin]
              · exact rfl
            · intro ev W5 hf _ _ hst hd
              obtain ⟨d33, _⟩ := hd
              have e33 : ev (.tmp 33) = .pointer (some ⟨b, o + i * 2, none⟩) := d33
              refine st_value (v := .pointer (some ⟨b, o + i * 2 + 1, none⟩)) ?_ (Below.refl _ _) ?_
              · simp [execOp, go_sem, e33]
              · exact rfl
            · intro ev W5 hf _ _ hst hd
              obtain ⟨d34, _⟩ := hd
              have e34 : ev (.tmp 34) = .pointer (some ⟨b, o + i * 2 + 1, none⟩) := d34
              have q0 := Ext.cell hst C2.out
              refine st_value (v := .int .i64 py) ?_ (Below.refl _ _) ?_
              · simp [execOp, go_sem, e34, q0]
              · exact rfl
            · intro ev W5 hf _ _ hst hd
              obtain ⟨d30, d35, _⟩ := hd
              have e30 : ev (.tmp 30) = .int .i64 y := d30
              have e35 : ev (.tmp 35) = .int .i64 py := d35
              refine st_value (v := .int .i64 A2) ?_ (Below.refl _ _) ?_
              · simp [execOp, go_sem, e30, e35, HA2.out]
              · exact rfl
            · intro ev W5 hf _ _ hst hd
              obtain ⟨d28, d36, _⟩ := hd
              have e28 : ev (.tmp 28) = .int .i64 A1 := d28
              have e36 : ev (.tmp 36) = .int .i64 A2 := d36
              refine st_value (v := .int .i64 A) ?_ (Below.refl _ _) ?_
              · simp [execOp, go_sem, e28, e36, HA.out]
              · exact rfl
            · intro ev W5 hf _ _ hst hd
              have e5 : ev (.tmp 5) = .pointer (some ⟨g, 0, none⟩) := hf 5 (by kernel_rfl)
              refine st_value (v := .pointer (some ⟨g, 0, none⟩)) ?_ (Below.refl _ _) ?_
              · simp [execOp, go_sem, e5]
              · exact rfl
            · intro ev W5 hf _ _ hst hd
              obtain ⟨d38, _⟩ := hd
              have e38 : ev (.tmp 38) = .pointer (some ⟨g, 0, none⟩) := d38
              have q0 := VRow.cell (VRow.ext HVq.out hst) (k := 0) rfl
              refine st_value (v := .int .i64 x) ?_ (Below.refl _ _) ?_
              · simp [execOp, go_sem, e38, q0]
              · exact rfl
            · intro ev W5 hf _ _ hst hd
              have e1 : ev (.tmp 1) = .slice (some ⟨b2, o2, none⟩) m cap2 := hf 1 (by kernel_rfl)
              refine st_value (v := .slice (some ⟨b2, o2, none⟩) m cap2) ?_ (Below.refl _ _) ?_
              · simp [execOp, go_sem, e1]
              · exact rfl
            · intro ev W5 hf _ _ hst hd
              have e8 : ev (.tmp 8) = .int .i64 (k : Int) := hf 8 (by kernel_rfl)
              refine st_value (v := .int .i64 (k : Int)) ?_ (Below.refl _ _) ?_
              · simp [execOp, go_sem, e8]
              · exact rfl
            · intro ev W5 hf _ _ hst hd
              obtain ⟨d40, d41, _⟩ := hd
              have e40 : ev (.tmp 40) = .slice (some ⟨b2, o2, none⟩) m cap2 := d40
              have e41 : ev (.tmp 41) = .int .i64 (k : Int) := d41
              refine st_value (v := .pointer (some ⟨b2, o2 + k * 2, none⟩)) ?_ (Below.refl _ _) ?_
              · simp [execOp, go_sem, e40, e41, hkm]
              · exact rfl
            · intro ev W5 hf _ _ hst hd
              obtain ⟨d42, _⟩ := hd
              have e42 : ev (.tmp 42) = .pointer (some ⟨b2, o2 + k * 2, none⟩) := d42
              refine st_value (v := .pointer (some ⟨b2, o2 + k * 2, none⟩)) ?_ (Below.refl _ _) ?_
              · simp [execOp, go_sem, e42]
              · exact rfl
            · intro ev W5 hf _ _ hst hd
              obtain ⟨d43, _⟩ := hd
              have e43 : ev (.tmp 43) = .pointer (some ⟨b2, o2 + k * 2, none⟩) := d43
              have q0 := Ext.cell hst C3.out
              refine st_value (v := .int .i64 qx) ?_ (Below.refl _ _) ?_
              · simp [execOp, go_sem, e43, q0]
              · exact rfl
            · intro ev W5 hf _ _ hst hd
              obtain ⟨d39, d44, _⟩ := hd
              have e39 : ev (.tmp 39) = .int .i64 x := d39
              have e44 : ev (.tmp 44) = .int .i64 qx := d44
              refine st_value (v := .int .i64 B1) ?_ (Below.refl _ _) ?_
              · simp [execOp, go_sem, e39, e44, HB1.out]
              · exact rfl
            · intro ev W5 hf _ _ hst hd
              have e5 : ev (.tmp 5) = .pointer (some ⟨g, 0, none⟩) := hf 5 (by kernel_rfl)
              refine st_value (v := .pointer (some ⟨g, 1, none⟩)) ?_ (Below.refl _ _) ?_
              · simp [execOp, go_sem, e5]
              · exact rfl
            · intro ev W5 hf _ _ hst hd
              obtain ⟨d46, _⟩ := hd
              have e46 : ev (.tmp 46) = .pointer (some ⟨g, 1, none⟩) := d46
              have q0 := VRow.cell (VRow.ext HVq.out hst) (k := 1) rfl
              refine st_value (v := .int .i64 y) ?_ (Below.refl _ _) ?_
              · simp [execOp, go_sem, e46, q0]
              · exact rfl
            · intro ev W5 hf _ _ hst hd
              have e1 : ev (.tmp 1) = .slice (some ⟨b2, o2, none⟩) m cap2 := hf 1 (by kernel_rfl)
              refine st_value (v := .slice (some ⟨b2, o2, none⟩) m cap2) ?_ (Below.refl _ _) ?_
              · simp [execOp, go_sem, e1]
              · exact rfl
            · intro ev W5 hf _ _ hst hd
              have e8 : ev (.tmp 8) = .int .i64 (k : Int) := hf 8 (by kernel_rfl)
              refine st_value (v := .int .i64 (k : Int)) ?_ (Below.refl _ _) ?_
              · simp [execOp, go_sem, e8]
              · exact rfl
            · intro ev W5 hf _ _ hst hd
              obtain ⟨d48, d49, _⟩ := hd
              have e48 : ev (.tmp 48) = .slice (some ⟨b2, o2, none⟩) m cap2 := d48
              have e49 : ev (.tmp 49) = .int .i64 (k : Int) := d49
              refine st_value (v := .pointer (some ⟨b2, o2 + k * 2, none⟩)) ?_ (Below.refl _ _) ?_
              · simp [execOp, go_sem, e48, e49, hkm]
              · exact rfl
            · intro ev W5 hf _ _ hst hd
              obtain ⟨d50, _⟩ := hd
              have e50 : ev (.tmp 50) = .pointer (some ⟨b2, o2 + k * 2, none⟩) := d50
              refine st_value (v := .pointer (some ⟨b2, o2 + k * 2 + 1, none⟩)) ?_ (Below.refl _ _) ?_
              · simp [execOp, go_sem, e50]
              · exact rfl
            · intro ev W5 hf _ _ hst hd
              obtain ⟨d51, _⟩ := hd
              have e51 : ev (.tmp 51) = .pointer (some ⟨b2, o2 + k * 2 + 1, none⟩) := d51
              have q0 := Ext.cell hst C4.out
              refine st_value (v := .int .i64 qy) ?_ (Below.refl _ _) ?_
              · simp [execOp, go_sem, e51, q0]
              · exact rfl
            · intro ev W5 hf _ _ hst hd
              obtain ⟨d47, d52, _⟩ := hd
              have e47 : ev (.tmp 47) = .int .i64 y := d47
              have e52 : ev (.tmp 52) = .int .i64 qy := d52
              refine st_value (v := .int .i64 B2) ?_ (Below.refl _ _) ?_
              · simp [execOp, go_sem, e47, e52, HB2.out]
              · exact rfl
            · intro ev W5 hf _ _ hst hd
              obtain ⟨d45, d53, _⟩ := hd
              have e45 : ev (.tmp 45) = .int .i64 B1 := d45
              have e53 : ev (.tmp 53) = .int .i64 B2 := d53
              refine st_value (v := .int .i64 B) ?_ (Below.refl _ _) ?_
              · simp [execOp, go_sem, e45, e53, HB.out]
              · exact rfl
            · intro ev W5 hf _ _ hst hd
              obtain ⟨d37, d54, _⟩ := hd
              have e37 : ev (.tmp 37) = .int .i64 A := d37
              have e54 : ev (.tmp 54) = .int .i64 B := d54
              refine st_value (v := .bool (decide (B < A))) ?_ (Below.refl _ _) ?_
              · simp [execOp, go_sem, e37, e54]
              · exact rfl
          case rest =>
            intro vs w3 hl hst hg
            have HE3 := Lib.hid hst
            have hvs : vs = [.pointer (some ⟨g, 0, none⟩), .int .i64 x, .slice (some ⟨b, o, none⟩) n cap, .int .i64 (i : Int), .pointer (some ⟨b, o + i * 2, none⟩), .pointer (some ⟨b, o + i * 2, none⟩), .int .i64 px, .int .i64 A1, .pointer (some ⟨g, 1, none⟩), .int .i64 y, .slice (some ⟨b, o, none⟩) n cap, .int .i64 (i : Int), .pointer (some ⟨b, o + i * 2, none⟩), .pointer (some ⟨b, o + i * 2 + 1, none⟩), .int .i64 py, .int .i64 A2, .int .i64 A, .pointer (some ⟨g, 0, none⟩), .int .i64 x, .slice (some ⟨b2, o2, none⟩) m cap2, .int .i64 (k : Int), .pointer (some ⟨b2, o2 + k * 2, none⟩), .pointer (some ⟨b2, o2 + k * 2, none⟩), .int .i64 qx, .int .i64 B1, .pointer (some ⟨g, 1, none⟩), .int .i64 y, .slice (some ⟨b2, o2, none⟩) m cap2, .int .i64 (k : Int), .pointer (some ⟨b2, o2 + k * 2, none⟩), .pointer (some ⟨b2, o2 + k * 2 + 1, none⟩), .int .i64 qy, .int .i64 B2, .int .i64 B, .bool (decide (B < A))] := list_of hl (fun i u hu => by
              match i, hu with
              | 0, hu => exact (congrArg some (hg 0 u hu)).symm
              | 1, hu => exact (congrArg some (hg 1 u hu)).symm
              | 2, hu => exact (congrArg some (hg 2 u hu)).symm
              | 3, hu => exact (congrArg some (hg 3 u hu)).symm
              | 4, hu => exact (congrArg some (hg 4 u hu)).symm
              | 5, hu => exact (congrArg some (hg 5 u hu)).symm
              | 6, hu => exact (congrArg some (hg 6 u hu)).symm
              | 7, hu => exact (congrArg some (hg 7 u hu)).symm
              | 8, hu => exact (congrArg some (hg 8 u hu)).symm
              | 9, hu => exact (congrArg some (hg 9 u hu)).symm
              | 10, hu => exact (congrArg some (hg 10 u hu)).symm
              | 11, hu => exact (congrArg some (hg 11 u hu)).symm
              | 12, hu => exact (congrArg some (hg 12 u hu)).symm
              | 13, hu => exact (congrArg some (hg 13 u hu)).symm
              | 14, hu => exact (congrArg some (hg 14 u hu)).symm
              | 15, hu => exact (congrArg some (hg 15 u hu)).symm
              | 16, hu => exact (congrArg some (hg 16 u hu)).symm
              | 17, hu => exact (congrArg some (hg 17 u hu)).symm
              | 18, hu => exact (congrArg some (hg 18 u hu)).symm
              | 19, hu => exact (congrArg some (hg 19 u hu)).symm
              | 20, hu => exact (congrArg some (hg 20 u hu)).symm
              | 21, hu => exact (congrArg some (hg 21 u hu)).symm
              | 22, hu => exact (congrArg some (hg 22 u hu)).symm
              | 23, hu => exact (congrArg some (hg 23 u hu)).symm
              | 24, hu => exact (congrArg some (hg 24 u hu)).symm
              | 25, hu => exact (congrArg some (hg 25 u hu)).symm
              | 26, hu => exact (congrArg some (hg 26 u hu)).symm
              | 27, hu => exact (congrArg some (hg 27 u hu)).symm
              | 28, hu => exact (congrArg some (hg 28 u hu)).symm
              | 29, hu => exact (congrArg some (hg 29 u hu)).symm
              | 30, hu => exact (congrArg some (hg 30 u hu)).symm
              | 31, hu => exact (congrArg some (hg 31 u hu)).symm
              | 32, hu => exact (congrArg some (hg 32 u hu)).symm
              | 33, hu => exact (congrArg some (hg 33 u hu)).symm
              | 34, hu => exact (congrArg some (hg 34 u hu)).symm
              | n + 35, hu => exact absurd (lt_len hu) (by rw [hl]; simp))
            clear hg hst hl
            subst hvs
            simp only [putAll, Act.put, List.setIfInBounds_toArray, List.set_cons_zero, List.set_cons_succ]
            by_cases hBA : B < A
            · rw [decide_eq_true hBA]
              have HNO := Lib.hid (show ¬ sepBy ps qs (x, y) from fun h => by have := h i k (by have := HN.out; omega) (by have := HM.out; omega); rw [HDA.out, HDB.out] at this; omega)
              clear hBA
              go_wp2_with fail
              go_ret
              exact ⟨false, rfl, ⟨(fun h => by cases h), (fun h => absurd h HNO.out)⟩, Ext.trans HEq.out HE3.out⟩
            · rw [decide_eq_false hBA]
              have HYES := Lib.hid (show ∀ j, j < k + 1 → dotP (x, y) (fromP ps i) ≤ dotP (x, y) (fromP qs j) from fun j hj => by
                by_cases e : j = k
                · rw [e, HDA.out, HDB.out]; omega
                · exact HALQ.out j (by omega))
              clear hBA
              go_wp2_with fail
              exact ⟨⟨k + 1, by simp, by omega, HYES.out, Ext.trans HEr.out HE3.out⟩, by simp [intOf]; omega⟩
        · obtain rfl : k = m := by omega
          have HNX := Lib.hid (show ∀ a, a < i + 1 → ∀ j, j < k → dotP (x, y) (fromP ps a) ≤ dotP (x, y) (fromP qs j) from fun a ha j hj => by
            by_cases e : a = i
            · rw [e]; exact HALQ.out j hj
            · exact HALL.out a (by omega) j hj)
          go_wp2_with fail
          exact ⟨⟨i + 1, by simp, by omega, HNX.out, HEr.out⟩, by simp [intOf]; omega⟩
    · obtain rfl : i = n := by omega
      have HYES := Lib.hid (show sepBy ps qs (x, y) from fun a j ha hj => HALL.out a (by have := HN.out; omega) j (by have := HM.out; omega))
      go_wp2_with fail
      go_ret
      exact ⟨true, rfl, ⟨fun _ => HYES.out, fun _ => rfl⟩, Ext.trans HE1.out HE.out⟩
end Go.Proofs.Ytbdppephmlkbaaa

namespace Go.Proofs.Ytbdppephmlkbaaa
set_option maxRecDepth 100000
open Go.RowKit Go.Shelf
attribute [local go_sem] Oper.semAt_some
/-! The reference's overlap, Overlap and Inside. -/
theorem neg_near {ps : List Pt} (h : nearP ps) : nearP (ps.map negP) := fun q hq => by
  obtain ⟨z, hz, rfl⟩ := List.mem_map.1 hq
  have := h z hz
  unfold negP
  dsimp only
  omega
theorem gap_place {ps qs : List Pt} {K : Nat} (h1 : validB ps = true) (h2 : validB qs = true) (W : WrapEnd (allK ps (qs.map negP) ps.length) (lowK (allK ps (qs.map negP) ps.length) ((allK ps (qs.map negP) ps.length).length - 1)) K) :
    ∃ ss, wrapL (allK ps (qs.map negP) ps.length) (lowK (allK ps (qs.map negP) ps.length) ((allK ps (qs.map negP) ps.length).length - 1)) K = ss ∧ K = ss.length ∧ nearL ss ∧ 3 ≤ ss.length ∧ ss.length ≤ 64 ∧ (placeZ ss 0 0 = 1 ↔ overlapB ps qs = true) := by
  have hp := valid_around h1
  have hq := valid_around h2
  obtain ⟨ds, hs⟩ := sorted_some hp (around_flip hq)
  obtain ⟨e1, e2⟩ := wrap_gap hp hq hs W
  have n1 := valid_near h1
  have n2 := valid_near h2
  have f2 := valid_near (valid_flip h2)
  have M : Merged ps (flipP qs) ds := ⟨hp.rolls, (around_flip hq).rolls, hs⟩
  have l := sum_len hs
  refine ⟨_, e1, e2, fun q hz => ?_, (sum_around hp (around_flip hq) hs).three, by omega, place_sum hp hq hs⟩
  have := sum_box M n1.1 f2.1 q hz
  omega
set_option maxHeartbeats 1000000 in
theorem roverlap_c (u v : Value) (ps qs : List Pt) (w : World) (hu : Vecs w u ps) (hv : Vecs w v qs) (h1 : validB ps = true) (h2 : validB qs = true) :
    Calls Try.prog 69 #[u, v] w fun e w' => e = .returned (.bool (overlapB ps qs)) ∧ Ext w w' := by
  obtain ⟨a, cap, rfl, hl, hm, _⟩ := hu.at
  obtain ⟨a2, cap2, rfl, hl2, hm2, _⟩ := hv.at
  have HU := Lib.hid hu
  have HV := Lib.hid hv
  have n1 := valid_near h1
  have n2 := valid_near h2
  have HN1 := Lib.hid n1.1
  have HN2 := Lib.hid n2.1
  have s1 := n1.2
  have s2 := n2.2
  have H1 := Lib.hid h1
  have H2 := Lib.hid h2
  have HLN := Lib.hid (neg_length qs)
  clear hu hv h1 h2 n1 n2
  go_enter Try.func69, Try.ntmps69
  go_wp2_with fail
  refine (flipped_c _ qs w HV.out (near_L HN2.out) (by omega) (by omega)).mono ?_
  rintro e w2 ⟨r, rfl, hO, hE⟩
  have HV2 := Lib.hid (vecs_own (qs := qs.map negP) (by rw [HLN.out]; exact hO) (by rw [HLN.out]; omega))
  have HE2 := Lib.hid hE
  clear hO hE
  go_wp2_with fail
  refine (sums_c _ _ ps (qs.map negP) w2 (HU.out.ext HE2.out) HV2.out HN1.out (neg_near HN2.out) s1.1 s1.2 (by rw [HLN.out]; omega) (by rw [HLN.out]; omega)).mono ?_
  rintro e w3 ⟨r3, K, rfl, hW, hO, hE⟩
  obtain ⟨ss, e1, e2, hL, h3, h64, hpl⟩ := gap_place H1.out H2.out hW
  rw [e1, e2] at hO
  have HV3 := Lib.hid (vecs_own hO (by omega))
  have HE3 := Lib.hid (Ext.trans HE2.out hE)
  have HL := Lib.hid hL
  have HPL := Lib.hid hpl
  clear hO hE hW e1 e2 hL hpl
  go_wp2_with fail
  refine (show Calls Try.prog 54 #[_, vecV 0 0] _ _ from (rplace_l _ ss 0 0 w3 HV3.out HL.out h3 h64 (by omega)).mono ?_)
  rintro e w4 ⟨rfl, hE⟩
  have HE4 := Lib.hid (Ext.trans HE3.out hE)
  have HBE := Lib.hid (show (placeZ ss 0 0 == 1) = overlapB ps qs from by rw [Bool.eq_iff_iff, beq_iff_eq]; exact HPL.out)
  clear hE
  generalize placeZ ss 0 0 = Z at *
  go_wp2_with fail
  go_ret
  exact ⟨ret_bool HBE.out, HE4.out⟩
set_option maxHeartbeats 1000000 in
theorem rOverlap_c (u v : Value) (ps qs : List Pt) (w : World) (hu : Vecs w u ps) (hv : Vecs w v qs) :
    Calls Try.prog 33 #[u, v] w fun e w' => e = overlapR ps qs ∧ Ext w w' := by
  obtain ⟨a, cap, rfl, hl, hm, _⟩ := hu.at
  obtain ⟨a2, cap2, rfl, hl2, hm2, _⟩ := hv.at
  have HU := Lib.hid hu
  have HV := Lib.hid hv
  clear hu hv
  cases h1 : validB ps with
  | false =>
    have HR := Lib.hid (show overlapR ps qs = two (.bool false) (.int .i64 2) by simp [overlapR, h1])
    generalize overlapR ps qs = R at *
    have H1 := Lib.hid h1
    clear h1
    go_enter Try.func33, Try.ntmps33
    go_wp2_with fail
    refine (rvalid_c _ ps _ HU.out).mono ?_
    rintro e w2 ⟨rfl, hE⟩
    rw [H1.out]
    go_wp2_with fail
    go_ret2
    exact ⟨HR.out.symm, hE⟩
  | true =>
    cases h2 : validB qs with
    | false =>
      have HR := Lib.hid (show overlapR ps qs = two (.bool false) (.int .i64 2) by simp [overlapR, h2])
      generalize overlapR ps qs = R at *
      have H1 := Lib.hid h1
      have H2 := Lib.hid h2
      clear h1 h2
      go_enter Try.func33, Try.ntmps33
      go_wp2_with fail
      refine (rvalid_c _ ps _ HU.out).mono ?_
      rintro e w2 ⟨rfl, hE⟩
      rw [H1.out]
      have HE := Lib.hid hE
      clear hE
      go_wp2_with fail
      refine (rvalid_c _ qs _ (HV.out.ext HE.out)).mono ?_
      rintro e w3 ⟨rfl, hE3⟩
      rw [H2.out]
      go_wp2_with fail
      go_ret2
      exact ⟨HR.out.symm, Ext.trans HE.out hE3⟩
    | true =>
      have HR := Lib.hid (show overlapR ps qs = two (.bool (overlapB ps qs)) (.int .i64 0) by simp [overlapR, h1, h2])
      generalize overlapR ps qs = R at *
      have H1 := Lib.hid h1
      have H2 := Lib.hid h2
      clear h1 h2
      go_enter Try.func33, Try.ntmps33
      go_wp2_with fail
      refine (rvalid_c _ ps _ HU.out).mono ?_
      rintro e w2 ⟨rfl, hE⟩
      rw [H1.out]
      have HE := Lib.hid hE
      clear hE
      go_wp2_with fail
      refine (rvalid_c _ qs _ (HV.out.ext HE.out)).mono ?_
      rintro e w3 ⟨rfl, hE3⟩
      rw [H2.out]
      have HE3 := Lib.hid (Ext.trans HE.out hE3)
      clear hE3
      go_wp2_with fail
      refine (roverlap_c _ _ ps qs w3 (HU.out.ext HE3.out) (HV.out.ext HE3.out) H1.out H2.out).mono ?_
      rintro e w4 ⟨rfl, hE⟩
      have HE4 := Lib.hid (Ext.trans HE3.out hE)
      clear hE
      generalize overlapB ps qs = ob at *
      go_wp2_with fail
      go_ret2
      exact ⟨HR.out.symm, HE4.out⟩
theorem place_less {qs : List Pt} (q : Pt) : decide (placeZ qs q.1 q.2 < 0) = outB qs q := by
  rw [Bool.eq_iff_iff, decide_eq_true_eq, outB_iff]
  exact placeK_neg qs q.1 q.2 qs.length
set_option maxHeartbeats 2000000 in
theorem rInside_c (u v : Value) (ps qs : List Pt) (w : World) (hu : Vecs w u ps) (hv : Vecs w v qs) :
    Calls Try.prog 37 #[u, v] w fun e w' => e = insideR ps qs ∧ Ext w w' := by
  obtain ⟨a, cap, rfl, hl, hm, _⟩ := hu.at
  obtain ⟨a2, cap2, rfl, hl2, hm2, _⟩ := hv.at
  have HU := Lib.hid hu
  have HV := Lib.hid hv
  clear hu hv
  cases h1 : validB ps with
  | false =>
    have HR := Lib.hid (show insideR ps qs = two (.bool false) (.int .i64 2) by simp [insideR, h1])
    generalize insideR ps qs = R at *
    have H1 := Lib.hid h1
    clear h1
    go_enter Try.func37, Try.ntmps37
    go_wp2_with fail
    refine (rvalid_c _ ps _ HU.out).mono ?_
    rintro e w2 ⟨rfl, hE⟩
    rw [H1.out]
    go_wp2_with fail
    go_ret2
    exact ⟨HR.out.symm, hE⟩
  | true =>
    cases h2 : validB qs with
    | false =>
      have HR := Lib.hid (show insideR ps qs = two (.bool false) (.int .i64 2) by simp [insideR, h2])
      generalize insideR ps qs = R at *
      have H1 := Lib.hid h1
      have H2 := Lib.hid h2
      clear h1 h2
      go_enter Try.func37, Try.ntmps37
      go_wp2_with fail
      refine (rvalid_c _ ps _ HU.out).mono ?_
      rintro e w2 ⟨rfl, hE⟩
      rw [H1.out]
      have HE := Lib.hid hE
      clear hE
      go_wp2_with fail
      refine (rvalid_c _ qs _ (HV.out.ext HE.out)).mono ?_
      rintro e w3 ⟨rfl, hE3⟩
      rw [H2.out]
      go_wp2_with fail
      go_ret2
      exact ⟨HR.out.symm, Ext.trans HE.out hE3⟩
    | true =>
      have HRT := Lib.hid (show ps.any (outB qs) = true → insideR ps qs = two (.bool false) (.int .i64 0) from fun h => by simp only [insideR, h1, h2, h]; rfl)
      have HRF := Lib.hid (show ps.any (outB qs) = false → insideR ps qs = two (.bool true) (.int .i64 0) from fun h => by simp only [insideR, h1, h2, h]; rfl)
      generalize insideR ps qs = R at *
      have H1 := Lib.hid h1
      have H2 := Lib.hid h2
      have HN1 := Lib.hid (valid_near h1).1
      have HN2 := Lib.hid (valid_near h2).1
      have HZ2 := Lib.hid (valid_near h2).2
      have s1 := (valid_near h1).2
      obtain ⟨b, o, cap', e1, hl', hm', hc⟩ := vecs_cells HU.out (by omega)
      injection e1 with e1 e3 e4
      subst e1 e4
      have HC := Lib.hid hc
      have HNP := Lib.hid (fun (k : Nat) (hk : k < ps.length) => from_nearL (near_L HN1.out) hk)
      have HANY := Lib.hid (fun (k : Nat) (hk : k < ps.length) (h : outB qs (fromP ps k) = true) => (show ps.any (outB qs) = true from List.any_eq_true.2 ⟨_, from_mem hk, h⟩))
      have HNON := Lib.hid (fun (h : ∀ k, k < ps.length → outB qs (fromP ps k) = false) => (show ps.any (outB qs) = false from by
        rw [List.any_eq_false]
        intro z hz
        obtain ⟨j, hj, rfl⟩ := mem_from hz
        rw [h j hj]
        decide))
      obtain ⟨n, hnn⟩ : ∃ n, n = ps.length := ⟨_, rfl⟩
      rw [← hnn] at HC HNP HANY HNON HU hl s1 ⊢
      clear h1 h2 hc hnn hl' hm' e3
      go_enter Try.func37, Try.ntmps37
      go_wp2_with fail
      refine (rvalid_c _ ps _ HU.out).mono ?_
      rintro e w2 ⟨rfl, hE⟩
      rw [H1.out]
      have HE := Lib.hid hE
      clear hE
      go_wp2_with fail
      refine (rvalid_c _ qs _ (HV.out.ext HE.out)).mono ?_
      rintro e w3 ⟨rfl, hE3⟩
      rw [H2.out]
      have HE3 := Lib.hid (Ext.trans HE.out hE3)
      clear hE3
      go_wp2_with fail
      go_loopw [6] (fun iv wr => ∃ k : Nat, iv = .int .i64 (k : Int) ∧ k ≤ n ∧ (∀ j, j < k → outB qs (fromP ps j) = false) ∧ Ext w wr) (fun iv _ => n - (intOf iv).toNat)
      case atStart => exact ⟨0, rfl, Nat.zero_le _, fun j hj => by omega, HE3.out⟩
      case round =>
        rename World => wr
        obtain ⟨k, rfl, hk, hall, hE⟩ := hrel
        have HALL := Lib.hid hall
        have HEr := Lib.hid hE
        clear hall hE
        by_cases hlt : k < n
        · obtain ⟨c1, c2⟩ := HC.out k hlt
          have c1 := Ext.cell HEr.out c1
          have c2 := Ext.cell HEr.out c2
          have k1 := cell_lt c1
          have hbd := HNP.out k hlt
          have HPO := Lib.hid (place_less (qs := qs) (fromP ps k))
          have hkz : (k : Int) < (n : Int) := by omega
          obtain ⟨px, hpx⟩ : ∃ z, z = (fromP ps k).1 := ⟨_, rfl⟩
          obtain ⟨py, hpy⟩ : ∃ z, z = (fromP ps k).2 := ⟨_, rfl⟩
          rw [← hpx] at c1
          rw [← hpy] at c2
          rw [← hpx, ← hpy] at HPO hbd
          clear hpx hpy
          go_wp2_with fail
          refine (show Calls Try.prog 54 #[_, vecV px py] _ _ from (rplace_c _ qs px py wr (HV.out.ext HEr.out) HN2.out HZ2.out.1 HZ2.out.2 (by omega)).mono ?_)
          rintro e w4 ⟨rfl, hE⟩
          have HE4 := Lib.hid (Ext.trans HEr.out hE)
          clear hE c1 c2 k1
          generalize placeZ qs px py = Z at *
          by_cases hz : Z < 0
          · have HO := Lib.hid (HRT.out (HANY.out k hlt (by rw [← HPO.out]; exact decide_eq_true hz)))
            go_wp2_with fail
            go_ret2
            exact ⟨HO.out.symm, HE4.out⟩
          · have HO := Lib.hid (show ∀ j, j < k + 1 → outB qs (fromP ps j) = false from fun j hj => by
              by_cases e : j = k
              · rw [e, ← HPO.out]; exact decide_eq_false hz
              · exact HALL.out j (by omega))
            go_wp2_with fail
            exact ⟨⟨k + 1, by simp, by omega, HO.out, HE4.out⟩, by simp [intOf]; omega⟩
        · obtain rfl : k = n := by omega
          have HO := Lib.hid (HRF.out (HNON.out HALL.out))
          go_wp2_with fail
          go_ret2
          exact ⟨HO.out.symm, HEr.out⟩
end Go.Proofs.Ytbdppephmlkbaaa

namespace Go.Proofs.Ytbdppephmlkbaaa
set_option maxRecDepth 100000
open Go.RowKit Go.Shelf
attribute [local go_sem] Oper.semAt_some
/-! The reference's Separate. -/
theorem results_one_tmp {fn : Func} {p q : Tmp} {ty : TypeId} (h : fn.results = #[.cell p ty, .tmp q]) (tmps : Array Value) (P : Program) (w : World) :
    (results fn tmps).run P w = ((asAddr (tmps.getD p undef)).run P w).andThen fun a w₁ => ((loadVar ty a).run P w₁).andThen fun v w₂ => .ok (.tuple #[v, tmps.getD q undef]) w₂ := by
  simp only [results, h]
  simp only [Array.mapM_eq_foldlM, List.foldlM_toArray']
  simp [Sem.run_bind, Result.andThen]
theorem rsep_results {g : Nat} {W : World} {A B e : Int} (h : VRow W g 32 [.int .i64 A, .int .i64 B]) (tmps : Array Value) (h4 : tmps.getD 4 undef = .pointer (some ⟨g, 0, none⟩)) (h5 : tmps.getD 5 undef = .int .i64 e) : (results Try.f35 tmps).run Try.prog W = .ok (.tuple #[vecV A B, .int .i64 e]) W := by
  have c0 := VRow.cell h (k := 0) rfl
  have c1 := VRow.cell h (k := 1) rfl
  rw [results_one_tmp rfl, h4, h5]
  go_simp
theorem vrow2_put {W : World} {g : Nat} {a b : Value} (h : VRow W g 32 [a, b]) (x y : Value) : VRow ((W.setCell ⟨g, 0, none⟩ x).setCell ⟨g, 1, none⟩ y) g 32 [x, y] := VRow.set (VRow.set h 0 x) 1 y
theorem ext2_put {w W : World} {g : Nat} (h : Ext w W) (hg : w.heap.size ≤ g) (x y : Value) : Ext w ((W.setCell ⟨g, 0, none⟩ x).setCell ⟨g, 1, none⟩ y) :=
  Below.setCell (p := ⟨g, 1, none⟩) (Below.setCell (p := ⟨g, 0, none⟩) h hg _) hg _
/-- which direction parts them, by number -/
theorem sepAt_iff {ps qs : List Pt} (h1 : 0 < ps.length) (h2 : 0 < qs.length) (k : Nat) : sepAt ps qs k = true ↔ sepBy ps qs (dirA ps qs k) := by
  unfold sepAt
  rw [decide_eq_true_eq]
  exact sep_iff h1 h2 _
theorem dirA_p {ps qs : List Pt} {k : Nat} (hk : k < ps.length) : dirA ps qs k = dirP ps k := if_pos hk
theorem dirA_q {ps qs : List Pt} (k : Nat) : dirA ps qs (ps.length + k) = dirQ qs k := by
  unfold dirA
  rw [if_neg (by omega), Nat.add_sub_cancel_left]
theorem sepR_p {ps qs : List Pt} (v1 : validB ps = true) (v2 : validB qs = true) (h1 : 0 < ps.length) (h2 : 0 < qs.length) {k : Nat} (hk : k < ps.length) (h : ∀ j, j < k → ¬ sepBy ps qs (dirP ps j)) (hp : sepBy ps qs (dirP ps k)) : sepR ps qs = two (vecV (dirP ps k).1 (dirP ps k).2) (.int .i64 0) := by
  unfold sepR
  rw [if_pos ⟨v1, v2⟩, find_at (k := k) (by omega) (fun j hj => by
    rw [Bool.eq_false_iff]
    intro e
    have := (sepAt_iff h1 h2 j).1 e
    rw [dirA_p (by omega)] at this
    exact h j hj this) ((sepAt_iff h1 h2 k).2 (by rw [dirA_p hk]; exact hp))]
  simp only
  rw [dirA_p hk]
theorem none_p {ps qs : List Pt} (h1 : 0 < ps.length) (h2 : 0 < qs.length) {k : Nat} (h : ∀ j, j < ps.length → ¬ sepBy ps qs (dirP ps j)) (hq : ∀ j, j < k → ¬ sepBy ps qs (dirQ qs j)) : ∀ j, j < ps.length + k → sepAt ps qs j = false := fun j hj => by
  rw [Bool.eq_false_iff]
  intro e
  have e2 := (sepAt_iff h1 h2 j).1 e
  by_cases hj2 : j < ps.length
  · rw [dirA_p hj2] at e2
    exact h j hj2 e2
  · rw [show j = ps.length + (j - ps.length) by omega, dirA_q] at e2
    exact hq _ (by omega) e2
theorem sepR_q {ps qs : List Pt} (v1 : validB ps = true) (v2 : validB qs = true) (h1 : 0 < ps.length) (h2 : 0 < qs.length) {k : Nat} (hk : k < qs.length) (h : ∀ j, j < ps.length → ¬ sepBy ps qs (dirP ps j)) (hq : ∀ j, j < k → ¬ sepBy ps qs (dirQ qs j)) (hp : sepBy ps qs (dirQ qs k)) : sepR ps qs = two (vecV (dirQ qs k).1 (dirQ qs k).2) (.int .i64 0) := by
  unfold sepR
  rw [if_pos ⟨v1, v2⟩, find_at (k := ps.length + k) (by omega) (none_p h1 h2 h hq) ((sepAt_iff h1 h2 _).2 (by rw [dirA_q]; exact hp))]
  simp only
  rw [dirA_q]
theorem sepR_none {ps qs : List Pt} (v1 : validB ps = true) (v2 : validB qs = true) (h1 : 0 < ps.length) (h2 : 0 < qs.length) (h : ∀ j, j < ps.length → ¬ sepBy ps qs (dirP ps j)) (hq : ∀ j, j < qs.length → ¬ sepBy ps qs (dirQ qs j)) : sepR ps qs = two (vecV 0 0) (.int .i64 10) := by
  unfold sepR
  rw [if_pos ⟨v1, v2⟩, find_none (none_p h1 h2 h hq)]
theorem sepR_over {ps qs : List Pt} (v1 : validB ps = true) (v2 : validB qs = true) (h : overlapB ps qs = true) : sepR ps qs = two (vecV 0 0) (.int .i64 10) := by
  unfold overlapB at h
  rw [Option.isNone_iff_eq_none] at h
  unfold sepR
  rw [if_pos ⟨v1, v2⟩, h]
set_option maxHeartbeats 16000000 in
theorem rSeparate_c (u v : Value) (ps qs : List Pt) (w : World) (hu : Vecs w u ps) (hv : Vecs w v qs) :
    Calls Try.prog 35 #[u, v] w fun e w' => e = sepR ps qs ∧ Ext w w' := by
  have HE0 := Lib.hid (Ext.alloc (Ext.refl w) (.cells #[.int .i64 0, .int .i64 0] 32))
  have HR0 := Lib.hid (show VRow (w.alloc (.cells #[.int .i64 0, .int .i64 0] 32)) _ _ _ from vrow_alloc w [.int .i64 0, .int .i64 0] 32)
  have HU := Lib.hid (hu.ext HE0.out)
  have HV := Lib.hid (hv.ext HE0.out)
  obtain ⟨a, cap, rfl, hl, hm, _⟩ := hu.at
  obtain ⟨a2, cap2, rfl, hl2, hm2, _⟩ := hv.at
  clear hu hv
  cases h1 : validB ps with
  | false =>
    have HR := Lib.hid (show sepR ps qs = two (vecV 0 0) (.int .i64 2) by simp [sepR, h1])
    generalize sepR ps qs = R at *
    have H1 := Lib.hid h1
    clear h1
    go_enter Try.func35, Try.ntmps35
    go_wp2_with fail
    refine (rvalid_c _ ps _ HU.out).mono ?_
    rintro e w2 ⟨rfl, hE⟩
    rw [H1.out]
    have HE2 := Lib.hid (Ext.trans HE0.out hE)
    have HR2 := Lib.hid (VRow.ext HR0.out hE)
    clear hE
    have c0 := VRow.cell HR2.out (k := 0) rfl
    have c1 := VRow.cell HR2.out (k := 1) rfl
    have f0 := VRow.frozen HR2.out 0 none
    have f1 := VRow.frozen HR2.out 1 none
    go_wp2_with fail
    (try simp only [Exit.inBlock, Exit.then])
    (try rw [Exit.noGoto_ret])
    refine bodyPost_ret (rsep_results (vrow2_put HR2.out _ _) _ rfl rfl) rfl ?_
    exact ⟨HR.out.symm, ext2_put HE2.out (Nat.le_refl _) _ _⟩
  | true =>
    cases h2 : validB qs with
    | false =>
      have HR := Lib.hid (show sepR ps qs = two (vecV 0 0) (.int .i64 2) by simp [sepR, h2])
      generalize sepR ps qs = R at *
      have H1 := Lib.hid h1
      have H2 := Lib.hid h2
      clear h1 h2
      go_enter Try.func35, Try.ntmps35
      go_wp2_with fail
      refine (rvalid_c _ ps _ HU.out).mono ?_
      rintro e w2 ⟨rfl, hE⟩
      rw [H1.out]
      have HEv := Lib.hid hE
      clear hE
      go_wp2_with fail
      refine (rvalid_c _ qs _ (HV.out.ext HEv.out)).mono ?_
      rintro e w3 ⟨rfl, hE⟩
      rw [H2.out]
      have HE2 := Lib.hid (Ext.trans HE0.out (Ext.trans HEv.out hE))
      have HR2 := Lib.hid (VRow.ext HR0.out (Ext.trans HEv.out hE))
      clear hE
      have c0 := VRow.cell HR2.out (k := 0) rfl
      have c1 := VRow.cell HR2.out (k := 1) rfl
      have f0 := VRow.frozen HR2.out 0 none
      have f1 := VRow.frozen HR2.out 1 none
      go_wp2_with fail
      (try simp only [Exit.inBlock, Exit.then])
      (try rw [Exit.noGoto_ret])
      refine bodyPost_ret (rsep_results (vrow2_put HR2.out _ _) _ rfl rfl) rfl ?_
      exact ⟨HR.out.symm, ext2_put HE2.out (Nat.le_refl _) _ _⟩
    | true =>
      have HVV := Lib.hid (show validB ps = true ∧ validB qs = true from ⟨h1, h2⟩)
      have HNV := Lib.hid (show nearP ps ∧ nearP qs from ⟨(valid_near h1).1, (valid_near h2).1⟩)
      have HSZ := Lib.hid (show (3 ≤ ps.length ∧ ps.length ≤ 32) ∧ (3 ≤ qs.length ∧ qs.length ≤ 32) from ⟨(valid_near h1).2, (valid_near h2).2⟩)
      clear h1 h2
      obtain ⟨b, o, cap', e1, hl', hm', hc⟩ := vecs_cells HU.out (by have := HSZ.out; omega)
      obtain ⟨b2, o2, cap2', e2, hl2', hm2', hc2⟩ := vecs_cells HV.out (by have := HSZ.out; omega)
      injection e1 with e1 e3 e4
      subst e1 e4
      injection e2 with e1 e3 e4
      subst e1 e4
      have HC0 := Lib.hid hc
      have HC20 := Lib.hid hc2
      have HNP := Lib.hid (fun (k : Nat) (hk : k < ps.length) => from_nearL (near_L HNV.out.1) hk)
      have HNQ := Lib.hid (fun (k : Nat) (hk : k < qs.length) => from_nearL (near_L HNV.out.2) hk)
      obtain ⟨n, hnn⟩ : ∃ n, n = ps.length := ⟨_, rfl⟩
      obtain ⟨m, hmm⟩ : ∃ m, m = qs.length := ⟨_, rfl⟩
      have hn3 : (3 ≤ n ∧ n ≤ 32) ∧ (3 ≤ m ∧ m ≤ 32) := by have := HSZ.out; omega
      rw [← hnn] at HC0 HNP HU hl ⊢
      rw [← hmm] at HC20 HNQ HV hl2 ⊢
      have HN := Lib.hid hnn
      have HM := Lib.hid hmm
      clear hc hc2 hnn hmm hl' hm' hl2' hm2' e3
      go_enter Try.func35, Try.ntmps35
      go_wp2_with fail
      refine (rvalid_c _ ps _ HU.out).mono ?_
      rintro e w2 ⟨rfl, hE⟩
      rw [HVV.out.1]
      have HEv := Lib.hid hE
      clear hE
      go_wp2_with fail
      refine (rvalid_c _ qs _ (HV.out.ext HEv.out)).mono ?_
      rintro e w3 ⟨rfl, hE⟩
      rw [HVV.out.2]
      have HE3 := Lib.hid (Ext.trans HEv.out hE)
      clear hE
      go_wp2_with fail
      refine (roverlap_c _ _ ps qs w3 (HU.out.ext HE3.out) (HV.out.ext HE3.out) HVV.out.1 HVV.out.2).mono ?_
      rintro e w4 ⟨rfl, hE⟩
      have HEb := Lib.hid (Ext.trans HE3.out hE)
      have HEa := Lib.hid (Ext.trans HE0.out HEb.out)
      have HRa := Lib.hid (VRow.ext HR0.out HEb.out)
      have HU2 := Lib.hid (HU.out.ext HEb.out)
      have HV2 := Lib.hid (HV.out.ext HEb.out)
      have HC := Lib.hid (fun (k : Nat) (hk : k < n) => (show _ ∧ _ from ⟨Ext.cell HEb.out (HC0.out k hk).1, Ext.cell HEb.out (HC0.out k hk).2⟩))
      have HC2 := Lib.hid (fun (k : Nat) (hk : k < m) => (show _ ∧ _ from ⟨Ext.cell HEb.out (HC20.out k hk).1, Ext.cell HEb.out (HC20.out k hk).2⟩))
      clear hE HU HV HC0 HC20 HE3 HEv
      cases ho : overlapB ps qs with
      | true =>
        have HFD := Lib.hid (sepR_over HVV.out.1 HVV.out.2 ho)
        clear ho
        have c0 := VRow.cell HRa.out (k := 0) rfl
        have c1 := VRow.cell HRa.out (k := 1) rfl
        have f0 := VRow.frozen HRa.out 0 none
        have f1 := VRow.frozen HRa.out 1 none
        go_wp2_with fail
        (try simp only [Exit.inBlock, Exit.then])
        (try rw [Exit.noGoto_ret])
        refine bodyPost_ret (rsep_results (vrow2_put HRa.out _ _) _ rfl rfl) rfl ?_
        exact ⟨HFD.out.symm, ext2_put HEa.out (Nat.le_refl _) _ _⟩
      | false =>
        clear ho
        go_wp2_with fail
        go_loopw [6] (fun iv wr => ∃ i : Nat, iv = .int .i64 (i : Int) ∧ i ≤ n ∧ (∀ j, j < i → ¬ sepBy ps qs (dirP ps j)) ∧ Ext w4 wr) (fun iv _ => n - (intOf iv).toNat)
        case atStart => exact ⟨0, rfl, Nat.zero_le _, fun j hj => by omega, Ext.refl _⟩
        case round =>
          rename World => wr
          obtain ⟨i, rfl, hi, hall, hE⟩ := hrel
          have HALP := Lib.hid hall
          have HE := Lib.hid hE
          have HRr := Lib.hid (VRow.ext HRa.out hE)
          clear hall hE
          by_cases hil : i < n
          · obtain ⟨j, hj⟩ : ∃ j, j = (i + 1) % n := ⟨_, rfl⟩
            have hjn : j < n := by rw [hj]; exact Nat.mod_lt _ (by omega)
            have hjm : ((i : Int) + 1) % (n : Int) = (j : Int) := by rw [hj, Int.natCast_emod, Int.natCast_add]; rfl
            have hjt : ((i : Int) + 1).tmod (n : Int) = (j : Int) := by rw [Int.tmod_eq_emod_of_nonneg (by omega)]; exact hjm
            have hnz : ¬ (n : Int) = 0 := by omega
            have hnz2 : ¬ n = 0 := by omega
            obtain ⟨c1, c2⟩ := HC.out i hil
            obtain ⟨c3, c4⟩ := HC.out j hjn
            have b0 := HNP.out i hil
            have b1 := HNP.out j hjn
            have HTO := Lib.hid (show toP ps i = fromP ps j from by rw [to_from, hj, HN.out])
            have HDD := Lib.hid (show dirP ps i = ((fromP ps j).2 - (fromP ps i).2, (fromP ps i).1 - (fromP ps j).1) from by
              unfold dirP stepP; rw [HTO.out]; exact Prod.ext (by first | rfl | (dsimp only; omega) | omega) (by first | rfl | (dsimp only; omega) | omega))
            obtain ⟨xi, hxi⟩ : ∃ z, z = (fromP ps i).1 := ⟨_, rfl⟩
            obtain ⟨yi, hyi⟩ : ∃ z, z = (fromP ps i).2 := ⟨_, rfl⟩
            obtain ⟨xj, hxj⟩ : ∃ z, z = (fromP ps j).1 := ⟨_, rfl⟩
            obtain ⟨yj, hyj⟩ : ∃ z, z = (fromP ps j).2 := ⟨_, rfl⟩
            rw [← hxi, ← hyi, ← hxj, ← hyj] at HDD
            rw [← hxi, ← hyi] at b0
            rw [← hxj, ← hyj] at b1
            rw [← hxi] at c1
            rw [← hyi] at c2
            rw [← hxj] at c3
            rw [← hyj] at c4
            clear hxi hyi hxj hyj HTO hj
            have C1 := Lib.hid (Ext.cell HE.out c1)
            have C2 := Lib.hid (Ext.cell HE.out c2)
            have C3 := Lib.hid (Ext.cell HE.out c3)
            have C4 := Lib.hid (Ext.cell HE.out c4)
            clear c1 c2 c3 c4
            have c1 := C1.out
            have c2 := C2.out
            have c3 := C3.out
            have c4 := C4.out
            have k1 := cell_lt c1
            have k3 := cell_lt c3
            have hilz : (i : Int) < (n : Int) := by omega
            go_wp2_with fail
            go_region
            · have HA := Lib.hid (show VRow ((wr.alloc (.cells #[.int .i64 xi, .int .i64 yi] 32)).alloc (.cells #[.int .i64 xj, .int .i64 yj] 32)).drew wr.heap.size 32 [.int .i64 xi, .int .i64 yi] from ((vrow_alloc wr [.int .i64 xi, .int .i64 yi] 32).alloc _).drew)
              have HB := Lib.hid (show VRow ((wr.alloc (.cells #[.int .i64 xi, .int .i64 yi] 32)).alloc (.cells #[.int .i64 xj, .int .i64 yj] 32)).drew (wr.heap.size + 1) 32 [.int .i64 xj, .int .i64 yj] from by
                have h := (vrow_alloc (wr.alloc (.cells #[.int .i64 xi, .int .i64 yi] 32)) [.int .i64 xj, .int .i64 yj] 32).drew
                have e : (wr.alloc (.cells #[.int .i64 xi, .int .i64 yi] 32)).heap.size = wr.heap.size + 1 := by simp
                rw [e] at h
                exact h)
              have HEW := Lib.hid (show Ext wr ((wr.alloc (.cells #[.int .i64 xi, .int .i64 yi] 32)).alloc (.cells #[.int .i64 xj, .int .i64 yj] 32)).drew from Below.drew (Ext.alloc (Ext.alloc (Ext.refl wr) _) _))
              generalize ((wr.alloc (.cells #[.int .i64 xi, .int .i64 yi] 32)).alloc (.cells #[.int .i64 xj, .int .i64 yj] 32)).drew = W at *
              clear c1 c2 c3 c4 k1 k3
              have a0 := VRow.cell HA.out (k := 0) rfl
              have a1 := VRow.cell HA.out (k := 1) rfl
              have a2 := VRow.cell HB.out (k := 0) rfl
              have a3 := VRow.cell HB.out (k := 1) rfl
              have HD := Lib.hid (show VRow (W.alloc (.cells #[.int .i64 (yj - yi), .int .i64 (xi - xj)] 32)) _ _ _ from vrow_alloc W [.int .i64 (yj - yi), .int .i64 (xi - xj)] 32)
              have HED := Lib.hid (Ext.trans HEW.out (Ext.alloc (Ext.refl W) (.cells #[.int .i64 (yj - yi), .int .i64 (xi - xj)] 32)))
              go_wp2_with fail
              clear a0 a1 a2 a3
              generalize W.alloc (.cells #[.int .i64 (yj - yi), .int .i64 (xi - xj)] 32) = W4 at *
              have d0 := VRow.cell HD.out (k := 0) rfl
              have d1 := VRow.cell HD.out (k := 1) rfl
              go_wp2_with fail
              refine (show Calls Try.prog 71 #[_, _, vecV (yj - yi) (xi - xj)] _ _ from (parts_c _ _ ps qs (yj - yi) (xi - xj) _ (HU2.out.ext (Ext.trans HE.out HED.out)) (HV2.out.ext (Ext.trans HE.out HED.out)) (near_L HNV.out.1) (near_L HNV.out.2) (by have := HSZ.out; omega) (by have := HSZ.out; omega) (by have := HSZ.out; omega) (by have := HSZ.out; omega) (by omega) (by omega)).mono ?_)
              rintro e w5 ⟨bb, rfl, hb, hE⟩
              have HBB := Lib.hid hb
              have HE5 := Lib.hid (Ext.trans HE.out (Ext.trans HED.out hE))
              have HE6 := Lib.hid (Ext.trans HEa.out HE5.out)
              have HR5 := Lib.hid (VRow.ext HRr.out (Ext.trans HED.out hE))
              have hd5 := VRow.ext HD.out hE
              clear d0 d1 hE hb
              cases bb with
              | true =>
                have HFD := Lib.hid (show sepR ps qs = two (vecV (yj - yi) (xi - xj)) (.int .i64 0) from by have h := sepR_p HVV.out.1 HVV.out.2 (by have := HSZ.out; omega) (by have := HSZ.out; omega) (k := i) (by have := HN.out; omega) HALP.out (by rw [HDD.out]; exact HBB.out.1 rfl); rw [HDD.out] at h; exact h)
                have d0 := VRow.cell hd5 (k := 0) rfl
                have d1 := VRow.cell hd5 (k := 1) rfl
                clear hd5
                have c0 := VRow.cell HR5.out (k := 0) rfl
                have c1 := VRow.cell HR5.out (k := 1) rfl
                have f0 := VRow.frozen HR5.out 0 none
                have f1 := VRow.frozen HR5.out 1 none
                go_wp2_with fail
                (try simp only [Exit.inBlock, Exit.then])
                (try rw [Exit.noGoto_ret])
                refine bodyPost_ret (rsep_results (vrow2_put HR5.out _ _) _ rfl rfl) rfl ?_
                exact ⟨HFD.out.symm, ext2_put HE6.out (Nat.le_refl _) _ _⟩
              | false =>
                have HNX := Lib.hid (show ∀ j, j < i + 1 → ¬ sepBy ps qs (dirP ps j) from fun q hq => by
                  by_cases e : q = i
                  · rw [e, HDD.out]; exact fun h => by have := HBB.out.2 h; cases this
                  · exact HALP.out q (by omega))
                clear hd5
                go_wp2_with fail
                exact ⟨⟨i + 1, by simp, by omega, HNX.out, HE5.out⟩, by simp [intOf]; omega⟩
            · have HB := Lib.hid (show VRow ((wr.alloc (.cells #[.int .i64 xj, .int .i64 yj] 32)).alloc (.cells #[.int .i64 xi, .int .i64 yi] 32)).drew wr.heap.size 32 [.int .i64 xj, .int .i64 yj] from ((vrow_alloc wr [.int .i64 xj, .int .i64 yj] 32).alloc _).drew)
              have HA := Lib.hid (show VRow ((wr.alloc (.cells #[.int .i64 xj, .int .i64 yj] 32)).alloc (.cells #[.int .i64 xi, .int .i64 yi] 32)).drew (wr.heap.size + 1) 32 [.int .i64 xi, .int .i64 yi] from by
                have h := (vrow_alloc (wr.alloc (.cells #[.int .i64 xj, .int .i64 yj] 32)) [.int .i64 xi, .int .i64 yi] 32).drew
                have e : (wr.alloc (.cells #[.int .i64 xj, .int .i64 yj] 32)).heap.size = wr.heap.size + 1 := by simp
                rw [e] at h
                exact h)
              have HEW := Lib.hid (show Ext wr ((wr.alloc (.cells #[.int .i64 xj, .int .i64 yj] 32)).alloc (.cells #[.int .i64 xi, .int .i64 yi] 32)).drew from Below.drew (Ext.alloc (Ext.alloc (Ext.refl wr) _) _))
              generalize ((wr.alloc (.cells #[.int .i64 xj, .int .i64 yj] 32)).alloc (.cells #[.int .i64 xi, .int .i64 yi] 32)).drew = W at *
              clear c1 c2 c3 c4 k1 k3
              have a0 := VRow.cell HA.out (k := 0) rfl
              have a1 := VRow.cell HA.out (k := 1) rfl
              have a2 := VRow.cell HB.out (k := 0) rfl
              have a3 := VRow.cell HB.out (k := 1) rfl
              have HD := Lib.hid (show VRow (W.alloc (.cells #[.int .i64 (yj - yi), .int .i64 (xi - xj)] 32)) _ _ _ from vrow_alloc W [.int .i64 (yj - yi), .int .i64 (xi - xj)] 32)
              have HED := Lib.hid (Ext.trans HEW.out (Ext.alloc (Ext.refl W) (.cells #[.int .i64 (yj - yi), .int .i64 (xi - xj)] 32)))
              go_wp2_with fail
              clear a0 a1 a2 a3
              generalize W.alloc (.cells #[.int .i64 (yj - yi), .int .i64 (xi - xj)] 32) = W4 at *
              have d0 := VRow.cell HD.out (k := 0) rfl
              have d1 := VRow.cell HD.out (k := 1) rfl
              go_wp2_with fail
              refine (show Calls Try.prog 71 #[_, _, vecV (yj - yi) (xi - xj)] _ _ from (parts_c _ _ ps qs (yj - yi) (xi - xj) _ (HU2.out.ext (Ext.trans HE.out HED.out)) (HV2.out.ext (Ext.trans HE.out HED.out)) (near_L HNV.out.1) (near_L HNV.out.2) (by have := HSZ.out; omega) (by have := HSZ.out; omega) (by have := HSZ.out; omega) (by have := HSZ.out; omega) (by omega) (by omega)).mono ?_)
              rintro e w5 ⟨bb, rfl, hb, hE⟩
              have HBB := Lib.hid hb
              have HE5 := Lib.hid (Ext.trans HE.out (Ext.trans HED.out hE))
              have HE6 := Lib.hid (Ext.trans HEa.out HE5.out)
              have HR5 := Lib.hid (VRow.ext HRr.out (Ext.trans HED.out hE))
              have hd5 := VRow.ext HD.out hE
              clear d0 d1 hE hb
              cases bb with
              | true =>
                have HFD := Lib.hid (show sepR ps qs = two (vecV (yj - yi) (xi - xj)) (.int .i64 0) from by have h := sepR_p HVV.out.1 HVV.out.2 (by have := HSZ.out; omega) (by have := HSZ.out; omega) (k := i) (by have := HN.out; omega) HALP.out (by rw [HDD.out]; exact HBB.out.1 rfl); rw [HDD.out] at h; exact h)
                have d0 := VRow.cell hd5 (k := 0) rfl
                have d1 := VRow.cell hd5 (k := 1) rfl
                clear hd5
                have c0 := VRow.cell HR5.out (k := 0) rfl
                have c1 := VRow.cell HR5.out (k := 1) rfl
                have f0 := VRow.frozen HR5.out 0 none
                have f1 := VRow.frozen HR5.out 1 none
                go_wp2_with fail
                (try simp only [Exit.inBlock, Exit.then])
                (try rw [Exit.noGoto_ret])
                refine bodyPost_ret (rsep_results (vrow2_put HR5.out _ _) _ rfl rfl) rfl ?_
                exact ⟨HFD.out.symm, ext2_put HE6.out (Nat.le_refl _) _ _⟩
              | false =>
                have HNX := Lib.hid (show ∀ j, j < i + 1 → ¬ sepBy ps qs (dirP ps j) from fun q hq => by
                  by_cases e : q = i
                  · rw [e, HDD.out]; exact fun h => by have := HBB.out.2 h; cases this
                  · exact HALP.out q (by omega))
                clear hd5
                go_wp2_with fail
                exact ⟨⟨i + 1, by simp, by omega, HNX.out, HE5.out⟩, by simp [intOf]; omega⟩
          · obtain rfl : i = n := by omega
            have HNP2 := Lib.hid (show ∀ j, j < ps.length → ¬ sepBy ps qs (dirP ps j) from fun j hj => HALP.out j (by have := HN.out; omega))
            have HEp := Lib.hid HE.out
            clear HALP HE HRr
            go_wp2_with fail
            go_loopw [10] (fun iv wr => ∃ i : Nat, iv = .int .i64 (i : Int) ∧ i ≤ m ∧ (∀ j, j < i → ¬ sepBy ps qs (dirQ qs j)) ∧ Ext w4 wr) (fun iv _ => m - (intOf iv).toNat)
            case atStart => exact ⟨0, rfl, Nat.zero_le _, fun j hj => by omega, HEp.out⟩
            case round =>
              rename World => wr
              obtain ⟨i, rfl, hi, hall, hE⟩ := hrel
              have HALQ := Lib.hid hall
              have HE := Lib.hid hE
              have HRr := Lib.hid (VRow.ext HRa.out hE)
              clear hall hE
              by_cases hil : i < m
              · obtain ⟨j, hj⟩ : ∃ j, j = (i + 1) % m := ⟨_, rfl⟩
                have hjn : j < m := by rw [hj]; exact Nat.mod_lt _ (by omega)
                have hjm : ((i : Int) + 1) % (m : Int) = (j : Int) := by rw [hj, Int.natCast_emod, Int.natCast_add]; rfl
                have hjt : ((i : Int) + 1).tmod (m : Int) = (j : Int) := by rw [Int.tmod_eq_emod_of_nonneg (by omega)]; exact hjm
                have hnz : ¬ (m : Int) = 0 := by omega
                have hnz2 : ¬ m = 0 := by omega
                obtain ⟨c1, c2⟩ := HC2.out i hil
                obtain ⟨c3, c4⟩ := HC2.out j hjn
                have b0 := HNQ.out i hil
                have b1 := HNQ.out j hjn
                have HTO := Lib.hid (show toP qs i = fromP qs j from by rw [to_from, hj, HM.out])
                have HDD := Lib.hid (show dirQ qs i = ((fromP qs i).2 - (fromP qs j).2, (fromP qs j).1 - (fromP qs i).1) from by
                  unfold dirQ stepP; rw [HTO.out]; exact Prod.ext (by first | rfl | (dsimp only; omega) | omega) (by first | rfl | (dsimp only; omega) | omega))
                obtain ⟨xi, hxi⟩ : ∃ z, z = (fromP qs i).1 := ⟨_, rfl⟩
                obtain ⟨yi, hyi⟩ : ∃ z, z = (fromP qs i).2 := ⟨_, rfl⟩
                obtain ⟨xj, hxj⟩ : ∃ z, z = (fromP qs j).1 := ⟨_, rfl⟩
                obtain ⟨yj, hyj⟩ : ∃ z, z = (fromP qs j).2 := ⟨_, rfl⟩
                rw [← hxi, ← hyi, ← hxj, ← hyj] at HDD
                rw [← hxi, ← hyi] at b0
                rw [← hxj, ← hyj] at b1
                rw [← hxi] at c1
                rw [← hyi] at c2
                rw [← hxj] at c3
                rw [← hyj] at c4
                clear hxi hyi hxj hyj HTO hj
                have C1 := Lib.hid (Ext.cell HE.out c1)
                have C2 := Lib.hid (Ext.cell HE.out c2)
                have C3 := Lib.hid (Ext.cell HE.out c3)
                have C4 := Lib.hid (Ext.cell HE.out c4)
                clear c1 c2 c3 c4
                have c1 := C1.out
                have c2 := C2.out
                have c3 := C3.out
                have c4 := C4.out
                have k1 := cell_lt c1
                have k3 := cell_lt c3
                have hilz : (i : Int) < (m : Int) := by omega
                go_wp2_with fail
                go_region
                · have HA := Lib.hid (show VRow ((wr.alloc (.cells #[.int .i64 xi, .int .i64 yi] 32)).alloc (.cells #[.int .i64 xj, .int .i64 yj] 32)).drew wr.heap.size 32 [.int .i64 xi, .int .i64 yi] from ((vrow_alloc wr [.int .i64 xi, .int .i64 yi] 32).alloc _).drew)
                  have HB := Lib.hid (show VRow ((wr.alloc (.cells #[.int .i64 xi, .int .i64 yi] 32)).alloc (.cells #[.int .i64 xj, .int .i64 yj] 32)).drew (wr.heap.size + 1) 32 [.int .i64 xj, .int .i64 yj] from by
                    have h := (vrow_alloc (wr.alloc (.cells #[.int .i64 xi, .int .i64 yi] 32)) [.int .i64 xj, .int .i64 yj] 32).drew
                    have e : (wr.alloc (.cells #[.int .i64 xi, .int .i64 yi] 32)).heap.size = wr.heap.size + 1 := by simp
                    rw [e] at h
                    exact h)
                  have HEW := Lib.hid (show Ext wr ((wr.alloc (.cells #[.int .i64 xi, .int .i64 yi] 32)).alloc (.cells #[.int .i64 xj, .int .i64 yj] 32)).drew from Below.drew (Ext.alloc (Ext.alloc (Ext.refl wr) _) _))
                  generalize ((wr.alloc (.cells #[.int .i64 xi, .int .i64 yi] 32)).alloc (.cells #[.int .i64 xj, .int .i64 yj] 32)).drew = W at *
                  clear c1 c2 c3 c4 k1 k3
                  have a0 := VRow.cell HA.out (k := 0) rfl
                  have a1 := VRow.cell HA.out (k := 1) rfl
                  have a2 := VRow.cell HB.out (k := 0) rfl
                  have a3 := VRow.cell HB.out (k := 1) rfl
                  have HD := Lib.hid (show VRow (W.alloc (.cells #[.int .i64 (yi - yj), .int .i64 (xj - xi)] 32)) _ _ _ from vrow_alloc W [.int .i64 (yi - yj), .int .i64 (xj - xi)] 32)
                  have HED := Lib.hid (Ext.trans HEW.out (Ext.alloc (Ext.refl W) (.cells #[.int .i64 (yi - yj), .int .i64 (xj - xi)] 32)))
                  go_wp2_with fail
                  clear a0 a1 a2 a3
                  generalize W.alloc (.cells #[.int .i64 (yi - yj), .int .i64 (xj - xi)] 32) = W4 at *
                  have d0 := VRow.cell HD.out (k := 0) rfl
                  have d1 := VRow.cell HD.out (k := 1) rfl
                  go_wp2_with fail
                  refine (show Calls Try.prog 71 #[_, _, vecV (yi - yj) (xj - xi)] _ _ from (parts_c _ _ ps qs (yi - yj) (xj - xi) _ (HU2.out.ext (Ext.trans HE.out HED.out)) (HV2.out.ext (Ext.trans HE.out HED.out)) (near_L HNV.out.1) (near_L HNV.out.2) (by have := HSZ.out; omega) (by have := HSZ.out; omega) (by have := HSZ.out; omega) (by have := HSZ.out; omega) (by omega) (by omega)).mono ?_)
                  rintro e w5 ⟨bb, rfl, hb, hE⟩
                  have HBB := Lib.hid hb
                  have HE5 := Lib.hid (Ext.trans HE.out (Ext.trans HED.out hE))
                  have HE6 := Lib.hid (Ext.trans HEa.out HE5.out)
                  have HR5 := Lib.hid (VRow.ext HRr.out (Ext.trans HED.out hE))
                  have hd5 := VRow.ext HD.out hE
                  clear d0 d1 hE hb
                  cases bb with
                  | true =>
                    have HFD := Lib.hid (show sepR ps qs = two (vecV (yi - yj) (xj - xi)) (.int .i64 0) from by have h := sepR_q HVV.out.1 HVV.out.2 (by have := HSZ.out; omega) (by have := HSZ.out; omega) (k := i) (by have := HM.out; omega) HNP2.out HALQ.out (by rw [HDD.out]; exact HBB.out.1 rfl); rw [HDD.out] at h; exact h)
                    have d0 := VRow.cell hd5 (k := 0) rfl
                    have d1 := VRow.cell hd5 (k := 1) rfl
                    clear hd5
                    have c0 := VRow.cell HR5.out (k := 0) rfl
                    have c1 := VRow.cell HR5.out (k := 1) rfl
                    have f0 := VRow.frozen HR5.out 0 none
                    have f1 := VRow.frozen HR5.out 1 none
                    go_wp2_with fail
                    (try simp only [Exit.inBlock, Exit.then])
                    (try rw [Exit.noGoto_ret])
                    refine bodyPost_ret (rsep_results (vrow2_put HR5.out _ _) _ rfl rfl) rfl ?_
                    exact ⟨HFD.out.symm, ext2_put HE6.out (Nat.le_refl _) _ _⟩
                  | false =>
                    have HNX := Lib.hid (show ∀ j, j < i + 1 → ¬ sepBy ps qs (dirQ qs j) from fun q hq => by
                      by_cases e : q = i
                      · rw [e, HDD.out]; exact fun h => by have := HBB.out.2 h; cases this
                      · exact HALQ.out q (by omega))
                    clear hd5
                    go_wp2_with fail
                    exact ⟨⟨i + 1, by simp, by omega, HNX.out, HE5.out⟩, by simp [intOf]; omega⟩
                · have HB := Lib.hid (show VRow ((wr.alloc (.cells #[.int .i64 xj, .int .i64 yj] 32)).alloc (.cells #[.int .i64 xi, .int .i64 yi] 32)).drew wr.heap.size 32 [.int .i64 xj, .int .i64 yj] from ((vrow_alloc wr [.int .i64 xj, .int .i64 yj] 32).alloc _).drew)
                  have HA := Lib.hid (show VRow ((wr.alloc (.cells #[.int .i64 xj, .int .i64 yj] 32)).alloc (.cells #[.int .i64 xi, .int .i64 yi] 32)).drew (wr.heap.size + 1) 32 [.int .i64 xi, .int .i64 yi] from by
                    have h := (vrow_alloc (wr.alloc (.cells #[.int .i64 xj, .int .i64 yj] 32)) [.int .i64 xi, .int .i64 yi] 32).drew
                    have e : (wr.alloc (.cells #[.int .i64 xj, .int .i64 yj] 32)).heap.size = wr.heap.size + 1 := by simp
                    rw [e] at h
                    exact h)
                  have HEW := Lib.hid (show Ext wr ((wr.alloc (.cells #[.int .i64 xj, .int .i64 yj] 32)).alloc (.cells #[.int .i64 xi, .int .i64 yi] 32)).drew from Below.drew (Ext.alloc (Ext.alloc (Ext.refl wr) _) _))
                  generalize ((wr.alloc (.cells #[.int .i64 xj, .int .i64 yj] 32)).alloc (.cells #[.int .i64 xi, .int .i64 yi] 32)).drew = W at *
                  clear c1 c2 c3 c4 k1 k3
                  have a0 := VRow.cell HA.out (k := 0) rfl
                  have a1 := VRow.cell HA.out (k := 1) rfl
                  have a2 := VRow.cell HB.out (k := 0) rfl
                  have a3 := VRow.cell HB.out (k := 1) rfl
                  have HD := Lib.hid (show VRow (W.alloc (.cells #[.int .i64 (yi - yj), .int .i64 (xj - xi)] 32)) _ _ _ from vrow_alloc W [.int .i64 (yi - yj), .int .i64 (xj - xi)] 32)
                  have HED := Lib.hid (Ext.trans HEW.out (Ext.alloc (Ext.refl W) (.cells #[.int .i64 (yi - yj), .int .i64 (xj - xi)] 32)))
                  go_wp2_with fail
                  clear a0 a1 a2 a3
                  generalize W.alloc (.cells #[.int .i64 (yi - yj), .int .i64 (xj - xi)] 32) = W4 at *
                  have d0 := VRow.cell HD.out (k := 0) rfl
                  have d1 := VRow.cell HD.out (k := 1) rfl
                  go_wp2_with fail
                  refine (show Calls Try.prog 71 #[_, _, vecV (yi - yj) (xj - xi)] _ _ from (parts_c _ _ ps qs (yi - yj) (xj - xi) _ (HU2.out.ext (Ext.trans HE.out HED.out)) (HV2.out.ext (Ext.trans HE.out HED.out)) (near_L HNV.out.1) (near_L HNV.out.2) (by have := HSZ.out; omega) (by have := HSZ.out; omega) (by have := HSZ.out; omega) (by have := HSZ.out; omega) (by omega) (by omega)).mono ?_)
                  rintro e w5 ⟨bb, rfl, hb, hE⟩
                  have HBB := Lib.hid hb
                  have HE5 := Lib.hid (Ext.trans HE.out (Ext.trans HED.out hE))
                  have HE6 := Lib.hid (Ext.trans HEa.out HE5.out)
                  have HR5 := Lib.hid (VRow.ext HRr.out (Ext.trans HED.out hE))
                  have hd5 := VRow.ext HD.out hE
                  clear d0 d1 hE hb
                  cases bb with
                  | true =>
                    have HFD := Lib.hid (show sepR ps qs = two (vecV (yi - yj) (xj - xi)) (.int .i64 0) from by have h := sepR_q HVV.out.1 HVV.out.2 (by have := HSZ.out; omega) (by have := HSZ.out; omega) (k := i) (by have := HM.out; omega) HNP2.out HALQ.out (by rw [HDD.out]; exact HBB.out.1 rfl); rw [HDD.out] at h; exact h)
                    have d0 := VRow.cell hd5 (k := 0) rfl
                    have d1 := VRow.cell hd5 (k := 1) rfl
                    clear hd5
                    have c0 := VRow.cell HR5.out (k := 0) rfl
                    have c1 := VRow.cell HR5.out (k := 1) rfl
                    have f0 := VRow.frozen HR5.out 0 none
                    have f1 := VRow.frozen HR5.out 1 none
                    go_wp2_with fail
                    (try simp only [Exit.inBlock, Exit.then])
                    (try rw [Exit.noGoto_ret])
                    refine bodyPost_ret (rsep_results (vrow2_put HR5.out _ _) _ rfl rfl) rfl ?_
                    exact ⟨HFD.out.symm, ext2_put HE6.out (Nat.le_refl _) _ _⟩
                  | false =>
                    have HNX := Lib.hid (show ∀ j, j < i + 1 → ¬ sepBy ps qs (dirQ qs j) from fun q hq => by
                      by_cases e : q = i
                      · rw [e, HDD.out]; exact fun h => by have := HBB.out.2 h; cases this
                      · exact HALQ.out q (by omega))
                    clear hd5
                    go_wp2_with fail
                    exact ⟨⟨i + 1, by simp, by omega, HNX.out, HE5.out⟩, by simp [intOf]; omega⟩
              · obtain rfl : i = m := by omega
                have HE6 := Lib.hid (Ext.trans HEa.out HE.out)
                have HFD := Lib.hid (sepR_none HVV.out.1 HVV.out.2 (by have := HSZ.out; omega) (by have := HSZ.out; omega) HNP2.out (fun j hj => HALQ.out j (by have := HM.out; omega)))
                have c0 := VRow.cell HRr.out (k := 0) rfl
                have c1 := VRow.cell HRr.out (k := 1) rfl
                have f0 := VRow.frozen HRr.out 0 none
                have f1 := VRow.frozen HRr.out 1 none
                go_wp2_with fail
                (try simp only [Exit.inBlock, Exit.then])
                (try rw [Exit.noGoto_ret])
                refine bodyPost_ret (rsep_results (vrow2_put HRr.out _ _) _ rfl rfl) rfl ?_
                exact ⟨HFD.out.symm, ext2_put HE6.out (Nat.le_refl _) _ _⟩
end Go.Proofs.Ytbdppephmlkbaaa
