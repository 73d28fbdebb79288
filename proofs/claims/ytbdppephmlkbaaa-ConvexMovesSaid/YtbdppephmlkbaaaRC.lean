import Derived.Test.YtbdppephmlkbaaaR19
import Derived.Test.YtbdppephmlkbaaaV10
import Derived.Maps.OwnIn
import Derived.Maps.AppendAt
import Derived.Test.YtbdppephmlkbaaaRA
import Derived.Test.YtbdppephmlkbaaaMA
import Derived.Test.YtbdppephmlkbaaaV25
namespace Go.Proofs.Ytbdppephmlkbaaa
set_option maxRecDepth 100000
open Go.RowKit Go.Shelf
attribute [local go_sem] Oper.semAt_some
/-! The reference's moved and flipped points. -/
/-- an append to a row of one's own, as the operation behind all the others of its region -/
theorem operIn_append_row {F : Fence} {nF : Nat} {P : Program} (w : World) {o : Oper} {a : Act} {K : Act → World → Prop} {Q : Exit → Act → World → Prop} (s x : Operand) (t : TypeId)
    (ho : o.op = .call { callee := .builtin .append, args := #[s, x], argTypes := #[t, t] })
    (base : Nat) (e : TypeId) (i : TypeInfo) (z : Value) (size bytes : Nat) (ht : P.underlying t = some (.slice e)) (hi : P.info? e = some i) (hz : i.zero = some z)
    (hsize : i.size = size) (hby : i.bytes = bytes) (hzs : z.cells.size = size) (hsz : 0 < size)
    (v : Value) (n : Nat) (xs : List Value) (hs : a.eval s = v) (hown : w.ownsRow base e size v n xs)
    (ad : Addr) (m c : Nat) (news : List Value) (hx : a.eval x = .slice (some ad) m c) (hl : news.length = m * size) (hnews : ∀ j u, news[j]? = some u → w.cell? (ad.add j) = some u) (h1 : ∀ u ∈ news, u.oneCell' = true)
    (h63 : n + m ≤ maxLen) (hbytes : (n + m) * bytes ≤ 140737488355328) (hbase : base ≤ w.heap.size)
    (h : ∀ v' w', w'.ownsRow base e size v' (n + m) (xs ++ news) → w.grownBy w' v.ownBlock → (v'.ownBlock = v.ownBlock ∨ v'.ownBlock = some w.heap.size) → K (a.put o.dst v') w') :
    o.wpIn F nF P a w K Q := by
  obtain ⟨v', w', hr, h2, h3, h4, h5⟩ := run_append_own_at (P := P) w base t o.type e i z size bytes ht hi hz hsize hby hzs hsz v n xs hown ad m c news hl hnews h1 h63 hbytes hbase
  unfold Oper.wpIn
  refine ⟨by simp [Oper.about, ho, resolve, Target.leads, Sem.run_pure], ?_⟩
  rw [Oper.semAt_plain F _ _ (by rw [ho]; intro c hc'; cases hc')]
  simp [execOp, ho, resolve, invoke, builtin, hs, hx, hr, Result.andThen]
  exact h v' w' h2 h3 h5
/-- a slice of one point, made anew -/
def MP.pt (s : Nat) (x y : Int) : MP := ⟨fun v W => ∃ r, v = .slice (some ⟨r, 0, none⟩) 1 1 ∧ VRow W r 32 [.int .i64 x, .int .i64 y] ∧ s ≤ r, fun _ _ _ h hh => by
  obtain ⟨r, e, h1, h2⟩ := hh
  exact ⟨r, e, VRow.ext h1 h, h2⟩⟩
theorem two_cells {W : World} {r : Nat} {t : TypeId} {x y : Value} (h : VRow W r t [x, y]) (j : Nat) (u : Value) (hj : [x, y][j]? = some u) : W.cell? ((⟨r, 0, none⟩ : Addr).add j) = some u := by
  have h0 := VRow.cell h (k := 0) rfl
  have h1 := VRow.cell h (k := 1) rfl
  match j, hj with
  | 0, hj => injection hj with hj; subst hj; exact h0
  | 1, hj => injection hj with hj; subst hj; exact h1
theorem row_base {w : World} {base c n : Nat} {v : Value} {xs : List Value} (h : w.ownsRow base 32 2 v n xs) (hc : c ≤ base) : w.ownsRow c 32 2 v n xs := by
  refine ⟨h.1, ?_⟩
  rcases h.2 with h | ⟨g, cap, cur, hv, hb, r⟩
  · exact .inl h
  · exact .inr ⟨g, cap, cur, hv, by omega, r⟩
theorem row_slice {w : World} {base : Nat} {e : TypeId} {sz n : Nat} {v : Value} {xs : List Value} (h : w.ownsRow base e sz v n xs) : ∃ a cap, v = .slice a n cap := by
  rcases h.2 with ⟨h, h0⟩ | ⟨g', cap, cur, hv, _⟩
  · exact ⟨none, 0, by rw [h, h0]⟩
  · exact ⟨_, _, hv⟩
theorem row_below {w w' : World} {base : Nat} {e : TypeId} {sz n : Nat} {v : Value} {xs : List Value} (h : w.ownsRow base e sz v n xs) (hg : w.grownBy w' v.ownBlock) (hb : base ≤ w.heap.size) : Below base w w' :=
  ⟨hg.os, hg.tape, hg.output, hg.size, fun i hi => hg.block i (by omega) (fun e => by have := own_block h e.symm; omega)⟩
theorem cells_take (f : Pt → Pt) {ps : List Pt} {k : Nat} (hk : k < ps.length) : cellsOf ((ps.map f).take (k + 1)) = cellsOf ((ps.map f).take k) ++ [.int .i64 (f (fromP ps k)).1, .int .i64 (f (fromP ps k)).2] := by
  have h : (ps.map f)[k]? = some (f (fromP ps k)) := by
    obtain ⟨q, hq⟩ := getElem?_len hk
    rw [List.getElem?_map, hq, fromP_of hq]; rfl
  rw [take_succ_get h, cellsOf_append]; rfl
set_option maxHeartbeats 4000000 in
theorem moved_c (v : Value) (ps : List Pt) (x y : Int) (w : World) (hv : Vecs w v ps) (hn : nearL ps) (hx : -4000 ≤ x ∧ x ≤ 4000) (hy : -4000 ≤ y ∧ y ≤ 4000) (h1 : 1 ≤ ps.length) (h32 : ps.length ≤ 1000) :
    Calls Try.prog 60 #[v, vecV x y] w fun e w' => ∃ r, e = .returned r ∧ w'.ownsRow w.heap.size 32 2 r ps.length (cellsOf (movedP ps (x, y))) ∧ Ext w w' := by
  obtain ⟨b, o, cap, rfl, hl, hm, hc⟩ := vecs_cells hv h1
  have HC := Lib.hid hc
  have HNR := Lib.hid (fun (k : Nat) (hk : k < ps.length) => from_nearL hn hk)
  have HTS := Lib.hid (fun (k : Nat) (hk : k < ps.length) => cells_take (addP (x, y)) hk)
  have HFIN := Lib.hid (show cellsOf ((ps.map (addP (x, y))).take ps.length) = cellsOf (ps.map (addP (x, y))) by rw [List.take_of_length_le (by simp)])
  have HE1 := Lib.hid (Ext.alloc (Ext.refl w) (.cells #[.int .i64 x, .int .i64 y] 32))
  have HV1 := Lib.hid (show VRow (w.alloc (.cells #[.int .i64 x, .int .i64 y] 32)) _ _ _ from vrow_alloc w [.int .i64 x, .int .i64 y] 32)
  have hs1 : (w.alloc (.cells #[.int .i64 x, .int .i64 y] 32)).heap.size = w.heap.size + 1 := by simp
  obtain ⟨i0, hi0, hz0, hz1, hz2⟩ := info_parts info31
  have HI := Lib.hid hi0
  have HZ0 := Lib.hid hz0
  have HZ1 := Lib.hid hz1
  have HZ2 := Lib.hid hz2
  show Calls Try.prog 60 #[.slice (some ⟨b, o, none⟩) ps.length cap, vecV x y] w fun e w' => ∃ r, e = .returned r ∧ w'.ownsRow w.heap.size 32 2 r ps.length (cellsOf (ps.map (addP (x, y)))) ∧ Ext w w'
  obtain ⟨n, hnn⟩ : ∃ n, n = ps.length := ⟨_, rfl⟩
  rw [← hnn] at HC HNR HTS HFIN hl h1 h32 ⊢
  clear hv hc hn hnn hi0 hz0 hz1 hz2
  go_enter Try.func60, Try.ntmps60
  go_wp2_with fail
  obtain ⟨g, hg⟩ : ∃ g, g = w.heap.size := ⟨_, rfl⟩
  rw [← hg] at HV1 hs1 ⊢
  obtain ⟨w1, hw1⟩ : ∃ w1, w1 = w.alloc (.cells #[.int .i64 x, .int .i64 y] 32) := ⟨_, rfl⟩
  rw [← hw1] at HV1 HE1 hs1 ⊢
  have HG := Lib.hid hg
  clear hg hw1
  go_loopw [5, 6] (fun u iv wr => ∃ k : Nat, iv = .int .i64 (k : Int) ∧ k ≤ n ∧ wr.ownsRow (g + 1) 32 2 u k (cellsOf ((ps.map (addP (x, y))).take k)) ∧ Ext w1 wr) (fun _ iv _ => n - (intOf iv).toNat)
  case atStart => exact ⟨0, rfl, Nat.zero_le _, ⟨rfl, .inl ⟨rfl, rfl⟩⟩, Ext.refl _⟩
  case round =>
    rename World => wr
    obtain ⟨k, rfl, hk, hR, hE⟩ := hrel
    obtain ⟨a1, c1, rfl⟩ := row_slice hR
    have HR := Lib.hid hR
    have HE := Lib.hid hE
    have HEw := Lib.hid (Ext.trans HE1.out hE)
    have HVr := Lib.hid (VRow.ext HV1.out hE)
    clear hR hE
    by_cases hlt : k < n
    · obtain ⟨c1', c2'⟩ := HC.out k hlt
      have C1 := Lib.hid (Ext.cell HEw.out c1')
      have C2 := Lib.hid (Ext.cell HEw.out c2')
      have hbd := HNR.out k hlt
      have HTK := Lib.hid (HTS.out k hlt)
      clear c1' c2'
      have HTK2 := Lib.hid (show addP (x, y) (fromP ps k) = ((fromP ps k).1 + x, (fromP ps k).2 + y) from rfl)
      rw [HTK2.out] at HTK
      dsimp only at HTK
      generalize (fromP ps k).1 = px at *
      generalize (fromP ps k).2 = py at *
      have HW1 := Lib.hid (show IntKind.i64.wrap (px + x) = px + x from IntWalk.i64_in _ (by omega))
      have HW2 := Lib.hid (show IntKind.i64.wrap (py + y) = py + y from IntWalk.i64_in _ (by omega))
      clear HTK2
      go_wp2_with fail
      refine (wpIn_wide (n := 9)).1 ?_
      refine wpIn_region_stable_last2 Open.wide [⟨[], none⟩, ⟨[], none⟩, ⟨[], none⟩, ⟨[(1, 14), (2, 15)], none⟩, ⟨[(3, 16)], none⟩, ⟨[(4, 17)], none⟩, ⟨[], none⟩, ⟨[(6, 19)], none⟩, ⟨[(5, 18), (7, 20)], none⟩, ⟨[], none⟩, ⟨[], none⟩, ⟨[(9, 22), (10, 23)], none⟩, ⟨[(11, 24)], none⟩, ⟨[(12, 25)], none⟩, ⟨[], none⟩, ⟨[(14, 27)], none⟩, ⟨[(13, 26), (15, 28)], none⟩, ⟨[(8, 21), (16, 29)], none⟩, ⟨[(17, 30)], none⟩] (fun x y => Below x.heap.size x y) (MPat [MP.eq (.slice a1 k c1), MP.eq (.slice (some ⟨b, o, none⟩) n cap), MP.eq (.int .i64 (k : Int)), MP.eq (.pointer (some ⟨b, o + k * 2, none⟩)), MP.eq (.pointer (some ⟨b, o + k * 2, none⟩)), MP.eq (.int .i64 px), MP.eq (.pointer (some ⟨g, 0, none⟩)), MP.eq (.int .i64 x), MP.eq (.int .i64 (px + x)), MP.eq (.slice (some ⟨b, o, none⟩) n cap), MP.eq (.int .i64 (k : Int)), MP.eq (.pointer (some ⟨b, o + k * 2, none⟩)), MP.eq (.pointer (some ⟨b, o + k * 2 + 1, none⟩)), MP.eq (.int .i64 py), MP.eq (.pointer (some ⟨g, 1, none⟩)), MP.eq (.int .i64 y), MP.eq (.int .i64 (py + y)), MP.eq (.agg #[.int .i64 (px + x), .int .i64 (py + y)]), MP.pt wr.heap.size (px + x) (py + y)]) rfl (by kernel_rfl) (fun _ _ _ h k => Ext.trans h k) (fun _ => Below.refl _ _) (fun x => (Below.refl x.heap.size x).drew) (MPat.mono _) (by kernel_rfl) (by kernel_rfl) (by kernel_rfl) (by kernel_rfl) (by kernel_rfl) (by kernel_rfl) ?obs ?rest
      case obs =>
        refine ⟨?_, ?_, ?_, ?_, ?_, ?_, ?_, ?_, ?_, ?_, ?_, ?_, ?_, ?_, ?_, ?_, ?_, ?_, ?_, trivial⟩
        · intro ev W5 hf _ _ hst hd
          have e5 : ev (.tmp 5) = .slice a1 k c1 := hf 5 (by kernel_rfl)
          refine st_value (v := .slice a1 k c1) ?_ (Below.refl _ _) ?_
          · simp [execOp, go_sem, e5]
          · exact rfl
        · intro ev W5 hf _ _ hst hd
          have e0 : ev (.tmp 0) = .slice (some ⟨b, o, none⟩) n cap := hf 0 (by kernel_rfl)
          refine st_value (v := .slice (some ⟨b, o, none⟩) n cap) ?_ (Below.refl _ _) ?_
          · simp [execOp, go_sem, e0]
          · exact rfl
        · intro ev W5 hf _ _ hst hd
          have e6 : ev (.tmp 6) = .int .i64 (k : Int) := hf 6 (by kernel_rfl)
          refine st_value (v := .int .i64 (k : Int)) ?_ (Below.refl _ _) ?_
          · simp [execOp, go_sem, e6]
          · exact rfl
        · intro ev W5 hf _ _ hst hd
          obtain ⟨d14, d15, _⟩ := hd
          have e14 : ev (.tmp 14) = .slice (some ⟨b, o, none⟩) n cap := d14
          have e15 : ev (.tmp 15) = .int .i64 (k : Int) := d15
          refine st_value (v := .pointer (some ⟨b, o + k * 2, none⟩)) ?_ (Below.refl _ _) ?_
          · simp [execOp, go_sem, e14, e15, hlt]
          · exact rfl
        · intro ev W5 hf _ _ hst hd
          obtain ⟨d16, _⟩ := hd
          have e16 : ev (.tmp 16) = .pointer (some ⟨b, o + k * 2, none⟩) := d16
          refine st_value (v := .pointer (some ⟨b, o + k * 2, none⟩)) ?_ (Below.refl _ _) ?_
          · simp [execOp, go_sem, e16]
          · exact rfl
        · intro ev W5 hf _ _ hst hd
          obtain ⟨d17, _⟩ := hd
          have e17 : ev (.tmp 17) = .pointer (some ⟨b, o + k * 2, none⟩) := d17
          have q0 := Ext.cell hst C1.out
          refine st_value (v := .int .i64 px) ?_ (Below.refl _ _) ?_
          · simp [execOp, go_sem, e17, q0]
          · exact rfl
        · intro ev W5 hf _ _ hst hd
          have e3 : ev (.tmp 3) = .pointer (some ⟨g, 0, none⟩) := hf 3 (by kernel_rfl)
          refine st_value (v := .pointer (some ⟨g, 0, none⟩)) ?_ (Below.refl _ _) ?_
          · simp [execOp, go_sem, e3]
          · exact rfl
        · intro ev W5 hf _ _ hst hd
          obtain ⟨d19, _⟩ := hd
          have e19 : ev (.tmp 19) = .pointer (some ⟨g, 0, none⟩) := d19
          have q0 := VRow.cell (VRow.ext HVr.out hst) (k := 0) rfl
          refine st_value (v := .int .i64 x) ?_ (Below.refl _ _) ?_
          · simp [execOp, go_sem, e19, q0]
          · exact rfl
        · intro ev W5 hf _ _ hst hd
          obtain ⟨d18, d20, _⟩ := hd
          have e18 : ev (.tmp 18) = .int .i64 px := d18
          have e20 : ev (.tmp 20) = .int .i64 x := d20
          refine st_value (v := .int .i64 (px + x)) ?_ (Below.refl _ _) ?_
          · simp [execOp, go_sem, e18, e20, HW1.out]
          · exact rfl
        · intro ev W5 hf _ _ hst hd
          have e0 : ev (.tmp 0) = .slice (some ⟨b, o, none⟩) n cap := hf 0 (by kernel_rfl)
          refine st_value (v := .slice (some ⟨b, o, none⟩) n cap) ?_ (Below.refl _ _) ?_
          · simp [execOp, go_sem, e0]
          · exact rfl
        · intro ev W5 hf _ _ hst hd
          have e6 : ev (.tmp 6) = .int .i64 (k : Int) := hf 6 (by kernel_rfl)
          refine st_value (v := .int .i64 (k : Int)) ?_ (Below.refl _ _) ?_
          · simp [execOp, go_sem, e6]
          · exact rfl
        · intro ev W5 hf _ _ hst hd
          obtain ⟨d22, d23, _⟩ := hd
          have e22 : ev (.tmp 22) = .slice (some ⟨b, o, none⟩) n cap := d22
          have e23 : ev (.tmp 23) = .int .i64 (k : Int) := d23
          refine st_value (v := .pointer (some ⟨b, o + k * 2, none⟩)) ?_ (Below.refl _ _) ?_
          · simp [execOp, go_sem, e22, e23, hlt]
          · exact rfl
        · intro ev W5 hf _ _ hst hd
          obtain ⟨d24, _⟩ := hd
          have e24 : ev (.tmp 24) = .pointer (some ⟨b, o + k * 2, none⟩) := d24
          refine st_value (v := .pointer (some ⟨b, o + k * 2 + 1, none⟩)) ?_ (Below.refl _ _) ?_
          · simp [execOp, go_sem, e24]
          · exact rfl
        · intro ev W5 hf _ _ hst hd
          obtain ⟨d25, _⟩ := hd
          have e25 : ev (.tmp 25) = .pointer (some ⟨b, o + k * 2 + 1, none⟩) := d25
          have q0 := Ext.cell hst C2.out
          refine st_value (v := .int .i64 py) ?_ (Below.refl _ _) ?_
          · simp [execOp, go_sem, e25, q0]
          · exact rfl
        · intro ev W5 hf _ _ hst hd
          have e3 : ev (.tmp 3) = .pointer (some ⟨g, 0, none⟩) := hf 3 (by kernel_rfl)
          refine st_value (v := .pointer (some ⟨g, 1, none⟩)) ?_ (Below.refl _ _) ?_
          · simp [execOp, go_sem, e3]
          · exact rfl
        · intro ev W5 hf _ _ hst hd
          obtain ⟨d27, _⟩ := hd
          have e27 : ev (.tmp 27) = .pointer (some ⟨g, 1, none⟩) := d27
          have q0 := VRow.cell (VRow.ext HVr.out hst) (k := 1) rfl
          refine st_value (v := .int .i64 y) ?_ (Below.refl _ _) ?_
          · simp [execOp, go_sem, e27, q0]
          · exact rfl
        · intro ev W5 hf _ _ hst hd
          obtain ⟨d26, d28, _⟩ := hd
          have e26 : ev (.tmp 26) = .int .i64 py := d26
          have e28 : ev (.tmp 28) = .int .i64 y := d28
          refine st_value (v := .int .i64 (py + y)) ?_ (Below.refl _ _) ?_
          · simp [execOp, go_sem, e26, e28, HW2.out]
          · exact rfl
        · intro ev W5 hf _ _ hst hd
          obtain ⟨d21, d29, _⟩ := hd
          have e21 : ev (.tmp 21) = .int .i64 (px + x) := d21
          have e29 : ev (.tmp 29) = .int .i64 (py + y) := d29
          refine st_value (v := .agg #[.int .i64 (px + x), .int .i64 (py + y)]) ?_ (Below.refl _ _) ?_
          · simp [execOp, go_sem, e21, e29]
          · exact rfl
        · intro ev W5 hf _ hfn hst hd
          obtain ⟨d30, _⟩ := hd
          have e30 : ev (.tmp 30) = .agg #[.int .i64 (px + x), .int .i64 (py + y)] := d30
          refine st_new (v := .slice (some ⟨W5.heap.size, 0, none⟩) 1 1) (o := .cells #[.int .i64 (px + x), .int .i64 (py + y)] 32) ?_ ?_
          · simp [execOp, go_sem, e30]
          · exact ⟨_, rfl, vrow_alloc W5 [.int .i64 (px + x), .int .i64 (py + y)] 32, hst.size⟩
      case rest =>
        intro vs w3 hl hst hg
        obtain ⟨r1, et, ht, hts⟩ : ∃ r, vs[18]? = some (.slice (some ⟨r, 0, none⟩) 1 1) ∧ VRow w3 r 32 [.int .i64 (px + x), .int .i64 (py + y)] ∧ wr.heap.size ≤ r := by
          have hu : vs[18]? = some (vs[18]'(by rw [hl]; decide)) := List.getElem?_eq_getElem _
          obtain ⟨r, he, h1, h2⟩ := hg 18 _ hu
          exact ⟨r, by rw [hu, he], h1, h2⟩
        have HST := Lib.hid hst
        have HNEW := Lib.hid ht
        have hvs : vs = [.slice a1 k c1, .slice (some ⟨b, o, none⟩) n cap, .int .i64 (k : Int), .pointer (some ⟨b, o + k * 2, none⟩), .pointer (some ⟨b, o + k * 2, none⟩), .int .i64 px, .pointer (some ⟨g, 0, none⟩), .int .i64 x, .int .i64 (px + x), .slice (some ⟨b, o, none⟩) n cap, .int .i64 (k : Int), .pointer (some ⟨b, o + k * 2, none⟩), .pointer (some ⟨b, o + k * 2 + 1, none⟩), .int .i64 py, .pointer (some ⟨g, 1, none⟩), .int .i64 y, .int .i64 (py + y), .agg #[.int .i64 (px + x), .int .i64 (py + y)], .slice (some ⟨r1, 0, none⟩) 1 1] := list_of hl (fun i u hu => by
          match i, hu with
          | 0, hu => exact (congrArg some (hg 0 u hu)).symm
          | 1, hu => exact (congrArg some (hg 1 u hu)).symm
          | 2, hu => exact (congrArg some (hg 2 u hu)).symm
          | 3, hu => exact (congrArg some (hg 3 u hu)).symm
          | 4, hu => exact (congrArg some (hg 4 u hu)).symm
          | 5, hu => exact (congrArg some (hg 5 u hu)).symm
          | 6, hu => exact (congrArg some (hg 6 u hu)).symm
          | 7, hu => exact (congrArg some (hg 7 u hu)).symm
          | 8, hu => exact (congrArg some (hg 8 u hu)).symm
          | 9, hu => exact (congrArg some (hg 9 u hu)).symm
          | 10, hu => exact (congrArg some (hg 10 u hu)).symm
          | 11, hu => exact (congrArg some (hg 11 u hu)).symm
          | 12, hu => exact (congrArg some (hg 12 u hu)).symm
          | 13, hu => exact (congrArg some (hg 13 u hu)).symm
          | 14, hu => exact (congrArg some (hg 14 u hu)).symm
          | 15, hu => exact (congrArg some (hg 15 u hu)).symm
          | 16, hu => exact (congrArg some (hg 16 u hu)).symm
          | 17, hu => exact (congrArg some (hg 17 u hu)).symm
          | 18, hu => exact et.symm.trans hu
          | n + 19, hu => exact absurd (lt_len hu) (by rw [hl]; simp))
        clear hg hst ht et hl
        subst hvs
        simp only [putAll, Act.put, List.dropLast, List.setIfInBounds_toArray, List.set_cons_zero, List.set_cons_succ]
        have HR3 := Lib.hid (ownsRow_ext HR.out HST.out)
        have hs3 := HST.out.size
        have hb3 := HE.out.size
        refine operIn_append_row _ _ _ 22 rfl (g + 1) 32 i0 (.agg #[.int .i64 0, .int .i64 0]) 2 16 Try.underlying22 HI.out HZ0.out HZ1.out HZ2.out rfl (by decide) _ _ _ rfl HR3.out ⟨r1, 0, none⟩ 1 1 [.int .i64 (px + x), .int .i64 (py + y)] rfl rfl (fun j u h => two_cells HNEW.out j u h) (by simp [Value.oneCell']) (by unfold maxLen; omega) (by omega) (by omega) ?_
        intro v4 w4 hown4 hgrow4 _
        obtain ⟨a4, c4, rfl⟩ := row_slice hown4
        have HO4 := Lib.hid hown4
        have HE4 := Lib.hid (Below.trans (Ext.trans HE.out HST.out) ((row_below HR3.out hgrow4 (by omega)).mono (by omega)))
        clear hown4 hgrow4
        gi_wp2
        go_wp2_with fail
        refine ⟨⟨k + 1, by simp, by omega, by rw [HTK.out]; exact HO4.out, HE4.out⟩, by simp [intOf]; omega⟩
    · obtain rfl : k = n := by omega
      go_wp2_with fail
      go_ret
      exact ⟨_, rfl, row_base (by rw [← HFIN.out]; exact HR.out) (by have := HG.out; omega), HEw.out⟩
set_option maxHeartbeats 4000000 in
theorem flipped_c (v : Value) (ps : List Pt) (w : World) (hv : Vecs w v ps) (hn : nearL ps) (h1 : 1 ≤ ps.length) (h32 : ps.length ≤ 1000) :
    Calls Try.prog 66 #[v] w fun e w' => ∃ r, e = .returned r ∧ w'.ownsRow w.heap.size 32 2 r ps.length (cellsOf (ps.map negP)) ∧ Ext w w' := by
  obtain ⟨b, o, cap, rfl, hl, hm, hc⟩ := vecs_cells hv h1
  have HC := Lib.hid hc
  have HNR := Lib.hid (fun (k : Nat) (hk : k < ps.length) => from_nearL hn hk)
  have HTS := Lib.hid (fun (k : Nat) (hk : k < ps.length) => cells_take negP hk)
  have HFIN := Lib.hid (show cellsOf ((ps.map negP).take ps.length) = cellsOf (ps.map negP) by rw [List.take_of_length_le (by simp)])
  obtain ⟨i0, hi0, hz0, hz1, hz2⟩ := info_parts info31
  have HI := Lib.hid hi0
  have HZ0 := Lib.hid hz0
  have HZ1 := Lib.hid hz1
  have HZ2 := Lib.hid hz2
  show Calls Try.prog 66 #[.slice (some ⟨b, o, none⟩) ps.length cap] w fun e w' => ∃ r, e = .returned r ∧ w'.ownsRow w.heap.size 32 2 r ps.length (cellsOf (ps.map negP)) ∧ Ext w w'
  obtain ⟨n, hnn⟩ : ∃ n, n = ps.length := ⟨_, rfl⟩
  rw [← hnn] at HC HNR HTS HFIN hl h1 h32 ⊢
  clear hv hc hn hnn hi0 hz0 hz1 hz2
  go_enter Try.func66, Try.ntmps66
  go_wp2_with fail
  go_loopw [3, 4] (fun u iv wr => ∃ k : Nat, iv = .int .i64 (k : Int) ∧ k ≤ n ∧ wr.ownsRow w.heap.size 32 2 u k (cellsOf ((ps.map negP).take k)) ∧ Ext w wr) (fun _ iv _ => n - (intOf iv).toNat)
  case atStart => exact ⟨0, rfl, Nat.zero_le _, ⟨rfl, .inl ⟨rfl, rfl⟩⟩, Ext.refl _⟩
  case round =>
    rename World => wr
    obtain ⟨k, rfl, hk, hR, hE⟩ := hrel
    obtain ⟨a1, c1, rfl⟩ := row_slice hR
    have HR := Lib.hid hR
    have HE := Lib.hid hE
    have HEw := Lib.hid hE
    clear hR hE
    by_cases hlt : k < n
    · obtain ⟨c1', c2'⟩ := HC.out k hlt
      have C1 := Lib.hid (Ext.cell HEw.out c1')
      have C2 := Lib.hid (Ext.cell HEw.out c2')
      have hbd := HNR.out k hlt
      have HTK := Lib.hid (HTS.out k hlt)
      clear c1' c2'
      have HTK2 := Lib.hid (show negP (fromP ps k) = (-(fromP ps k).1, -(fromP ps k).2) from rfl)
      rw [HTK2.out] at HTK
      dsimp only at HTK
      generalize (fromP ps k).1 = px at *
      generalize (fromP ps k).2 = py at *
      have HW1 := Lib.hid (show IntKind.i64.wrap (-px) = -px from IntWalk.i64_in _ (by omega))
      have HW2 := Lib.hid (show IntKind.i64.wrap (-py) = -py from IntWalk.i64_in _ (by omega))
      clear HTK2
      go_wp2_with fail
      refine (wpIn_wide (n := 9)).1 ?_
      refine wpIn_region_stable_last2 Open.wide [⟨[], none⟩, ⟨[], none⟩, ⟨[], none⟩, ⟨[(1, 12), (2, 13)], none⟩, ⟨[(3, 14)], none⟩, ⟨[(4, 15)], none⟩, ⟨[(5, 16)], none⟩, ⟨[], none⟩, ⟨[], none⟩, ⟨[(7, 18), (8, 19)], none⟩, ⟨[(9, 20)], none⟩, ⟨[(10, 21)], none⟩, ⟨[(11, 22)], none⟩, ⟨[(6, 17), (12, 23)], none⟩, ⟨[(13, 24)], none⟩] (fun x y => Below x.heap.size x y) (MPat [MP.eq (.slice a1 k c1), MP.eq (.slice (some ⟨b, o, none⟩) n cap), MP.eq (.int .i64 (k : Int)), MP.eq (.pointer (some ⟨b, o + k * 2, none⟩)), MP.eq (.pointer (some ⟨b, o + k * 2, none⟩)), MP.eq (.int .i64 px), MP.eq (.int .i64 (-px)), MP.eq (.slice (some ⟨b, o, none⟩) n cap), MP.eq (.int .i64 (k : Int)), MP.eq (.pointer (some ⟨b, o + k * 2, none⟩)), MP.eq (.pointer (some ⟨b, o + k * 2 + 1, none⟩)), MP.eq (.int .i64 py), MP.eq (.int .i64 (-py)), MP.eq (.agg #[.int .i64 (-px), .int .i64 (-py)]), MP.pt wr.heap.size (-px) (-py)]) rfl (by kernel_rfl) (fun _ _ _ h k => Ext.trans h k) (fun _ => Below.refl _ _) (fun x => (Below.refl x.heap.size x).drew) (MPat.mono _) (by kernel_rfl) (by kernel_rfl) (by kernel_rfl) (by kernel_rfl) (by kernel_rfl) (by kernel_rfl) ?obs ?rest
      case obs =>
        refine ⟨?_, ?_, ?_, ?_, ?_, ?_, ?_, ?_, ?_, ?_, ?_, ?_, ?_, ?_, ?_, trivial⟩
        · intro ev W5 hf _ _ hst hd
          have e3 : ev (.tmp 3) = .slice a1 k c1 := hf 3 (by kernel_rfl)
          refine st_value (v := .slice a1 k c1) ?_ (Below.refl _ _) ?_
          · simp [execOp, go_sem, e3]
          · exact rfl
        · intro ev W5 hf _ _ hst hd
          have e0 : ev (.tmp 0) = .slice (some ⟨b, o, none⟩) n cap := hf 0 (by kernel_rfl)
          refine st_value (v := .slice (some ⟨b, o, none⟩) n cap) ?_ (Below.refl _ _) ?_
          · simp [execOp, go_sem, e0]
          · exact rfl
        · intro ev W5 hf _ _ hst hd
          have e4 : ev (.tmp 4) = .int .i64 (k : Int) := hf 4 (by kernel_rfl)
          refine st_value (v := .int .i64 (k : Int)) ?_ (Below.refl _ _) ?_
          · simp [execOp, go_sem, e4]
          · exact rfl
        · intro ev W5 hf _ _ hst hd
          obtain ⟨d12, d13, _⟩ := hd
          have e12 : ev (.tmp 12) = .slice (some ⟨b, o, none⟩) n cap := d12
          have e13 : ev (.tmp 13) = .int .i64 (k : Int) := d13
          refine st_value (v := .pointer (some ⟨b, o + k * 2, none⟩)) ?_ (Below.refl _ _) ?_
          · simp [execOp, go_sem, e12, e13, hlt]
          · exact rfl
        · intro ev W5 hf _ _ hst hd
          obtain ⟨d14, _⟩ := hd
          have e14 : ev (.tmp 14) = .pointer (some ⟨b, o + k * 2, none⟩) := d14
          refine st_value (v := .pointer (some ⟨b, o + k * 2, none⟩)) ?_ (Below.refl _ _) ?_
          · simp [execOp, go_sem, e14]
          · exact rfl
        · intro ev W5 hf _ _ hst hd
          obtain ⟨d15, _⟩ := hd
          have e15 : ev (.tmp 15) = .pointer (some ⟨b, o + k * 2, none⟩) := d15
          have q0 := Ext.cell hst C1.out
          refine st_value (v := .int .i64 px) ?_ (Below.refl _ _) ?_
          · simp [execOp, go_sem, e15, q0]
          · exact rfl
        · intro ev W5 hf _ _ hst hd
          obtain ⟨d16, _⟩ := hd
          have e16 : ev (.tmp 16) = .int .i64 px := d16
          refine st_value (v := .int .i64 (-px)) ?_ (Below.refl _ _) ?_
          · simp [execOp, go_sem, e16, HW1.out]
          · exact rfl
        · intro ev W5 hf _ _ hst hd
          have e0 : ev (.tmp 0) = .slice (some ⟨b, o, none⟩) n cap := hf 0 (by kernel_rfl)
          refine st_value (v := .slice (some ⟨b, o, none⟩) n cap) ?_ (Below.refl _ _) ?_
          · simp [execOp, go_sem, e0]
          · exact rfl
        · intro ev W5 hf _ _ hst hd
          have e4 : ev (.tmp 4) = .int .i64 (k : Int) := hf 4 (by kernel_rfl)
          refine st_value (v := .int .i64 (k : Int)) ?_ (Below.refl _ _) ?_
          · simp [execOp, go_sem, e4]
          · exact rfl
        · intro ev W5 hf _ _ hst hd
          obtain ⟨d18, d19, _⟩ := hd
          have e18 : ev (.tmp 18) = .slice (some ⟨b, o, none⟩) n cap := d18
          have e19 : ev (.tmp 19) = .int .i64 (k : Int) := d19
          refine st_value (v := .pointer (some ⟨b, o + k * 2, none⟩)) ?_ (Below.refl _ _) ?_
          · simp [execOp, go_sem, e18, e19, hlt]
          · exact rfl
        · intro ev W5 hf _ _ hst hd
          obtain ⟨d20, _⟩ := hd
          have e20 : ev (.tmp 20) = .pointer (some ⟨b, o + k * 2, none⟩) := d20
          refine st_value (v := .pointer (some ⟨b, o + k * 2 + 1, none⟩)) ?_ (Below.refl _ _) ?_
          · simp [execOp, go_sem, e20]
          · exact rfl
        · intro ev W5 hf _ _ hst hd
          obtain ⟨d21, _⟩ := hd
          have e21 : ev (.tmp 21) = .pointer (some ⟨b, o + k * 2 + 1, none⟩) := d21
          have q0 := Ext.cell hst C2.out
          refine st_value (v := .int .i64 py) ?_ (Below.refl _ _) ?_
          · simp [execOp, go_sem, e21, q0]
          · exact rfl
        · intro ev W5 hf _ _ hst hd
          obtain ⟨d22, _⟩ := hd
          have e22 : ev (.tmp 22) = .int .i64 py := d22
          refine st_value (v := .int .i64 (-py)) ?_ (Below.refl _ _) ?_
          · simp [execOp, go_sem, e22, HW2.out]
          · exact rfl
        · intro ev W5 hf _ _ hst hd
          obtain ⟨d17, d23, _⟩ := hd
          have e17 : ev (.tmp 17) = .int .i64 (-px) := d17
          have e23 : ev (.tmp 23) = .int .i64 (-py) := d23
          refine st_value (v := .agg #[.int .i64 (-px), .int .i64 (-py)]) ?_ (Below.refl _ _) ?_
          · simp [execOp, go_sem, e17, e23]
          · exact rfl
        · intro ev W5 hf _ hfn hst hd
          obtain ⟨d24, _⟩ := hd
          have e24 : ev (.tmp 24) = .agg #[.int .i64 (-px), .int .i64 (-py)] := d24
          refine st_new (v := .slice (some ⟨W5.heap.size, 0, none⟩) 1 1) (o := .cells #[.int .i64 (-px), .int .i64 (-py)] 32) ?_ ?_
          · simp [execOp, go_sem, e24]
          · exact ⟨_, rfl, vrow_alloc W5 [.int .i64 (-px), .int .i64 (-py)] 32, hst.size⟩
      case rest =>
        intro vs w3 hl hst hg
        obtain ⟨r1, et, ht, hts⟩ : ∃ r, vs[14]? = some (.slice (some ⟨r, 0, none⟩) 1 1) ∧ VRow w3 r 32 [.int .i64 (-px), .int .i64 (-py)] ∧ wr.heap.size ≤ r := by
          have hu : vs[14]? = some (vs[14]'(by rw [hl]; decide)) := List.getElem?_eq_getElem _
          obtain ⟨r, he, h1, h2⟩ := hg 14 _ hu
          exact ⟨r, by rw [hu, he], h1, h2⟩
        have HST := Lib.hid hst
        have HNEW := Lib.hid ht
        have hvs : vs = [.slice a1 k c1, .slice (some ⟨b, o, none⟩) n cap, .int .i64 (k : Int), .pointer (some ⟨b, o + k * 2, none⟩), .pointer (some ⟨b, o + k * 2, none⟩), .int .i64 px, .int .i64 (-px), .slice (some ⟨b, o, none⟩) n cap, .int .i64 (k : Int), .pointer (some ⟨b, o + k * 2, none⟩), .pointer (some ⟨b, o + k * 2 + 1, none⟩), .int .i64 py, .int .i64 (-py), .agg #[.int .i64 (-px), .int .i64 (-py)], .slice (some ⟨r1, 0, none⟩) 1 1] := list_of hl (fun i u hu => by
          match i, hu with
          | 0, hu => exact (congrArg some (hg 0 u hu)).symm
          | 1, hu => exact (congrArg some (hg 1 u hu)).symm
          | 2, hu => exact (congrArg some (hg 2 u hu)).symm
          | 3, hu => exact (congrArg some (hg 3 u hu)).symm
          | 4, hu => exact (congrArg some (hg 4 u hu)).symm
          | 5, hu => exact (congrArg some (hg 5 u hu)).symm
          | 6, hu => exact (congrArg some (hg 6 u hu)).symm
          | 7, hu => exact (congrArg some (hg 7 u hu)).symm
          | 8, hu => exact (congrArg some (hg 8 u hu)).symm
          | 9, hu => exact (congrArg some (hg 9 u hu)).symm
          | 10, hu => exact (congrArg some (hg 10 u hu)).symm
          | 11, hu => exact (congrArg some (hg 11 u hu)).symm
          | 12, hu => exact (congrArg some (hg 12 u hu)).symm
          | 13, hu => exact (congrArg some (hg 13 u hu)).symm
          | 14, hu => exact et.symm.trans hu
          | n + 15, hu => exact absurd (lt_len hu) (by rw [hl]; simp))
        clear hg hst ht et hl
        subst hvs
        simp only [putAll, Act.put, List.dropLast, List.setIfInBounds_toArray, List.set_cons_zero, List.set_cons_succ]
        have HR3 := Lib.hid (ownsRow_ext HR.out HST.out)
        have hs3 := HST.out.size
        have hb3 := HE.out.size
        refine operIn_append_row _ _ _ 22 rfl w.heap.size 32 i0 (.agg #[.int .i64 0, .int .i64 0]) 2 16 Try.underlying22 HI.out HZ0.out HZ1.out HZ2.out rfl (by decide) _ _ _ rfl HR3.out ⟨r1, 0, none⟩ 1 1 [.int .i64 (-px), .int .i64 (-py)] rfl rfl (fun j u h => two_cells HNEW.out j u h) (by simp [Value.oneCell']) (by unfold maxLen; omega) (by omega) (by omega) ?_
        intro v4 w4 hown4 hgrow4 _
        obtain ⟨a4, c4, rfl⟩ := row_slice hown4
        have HO4 := Lib.hid hown4
        have HE4 := Lib.hid (Below.trans (Ext.trans HE.out HST.out) ((row_below HR3.out hgrow4 (by omega)).mono (by omega)))
        clear hown4 hgrow4
        gi_wp2
        go_wp2_with fail
        refine ⟨⟨k + 1, by simp, by omega, by rw [HTK.out]; exact HO4.out, HE4.out⟩, by simp [intOf]; omega⟩
    · obtain rfl : k = n := by omega
      go_wp2_with fail
      go_ret
      exact ⟨_, rfl, row_base (by rw [← HFIN.out]; exact HR.out) (Nat.le_refl _), HEw.out⟩
end Go.Proofs.Ytbdppephmlkbaaa

namespace Go.Proofs.Ytbdppephmlkbaaa
set_option maxRecDepth 100000
open Go.RowKit Go.Shelf
attribute [local go_sem] Oper.semAt_some
/-! The reference's sums. -/
theorem row_cells {W : World} {base n : Nat} {v : Value} {xs : List Value} (h : W.ownsRow base 32 2 v n xs) (hn : 0 < n) : ∃ g cap, v = .slice (some ⟨g, 0, none⟩) n cap ∧ base ≤ g ∧ n ≤ cap ∧ cap ≤ 9223372036854775807 ∧
    ∀ (j : Nat) (u : Value), xs[j]? = some u → W.cell? ((⟨g, 0, none⟩ : Addr).add j) = some u := by
  rcases h.2 with ⟨_, h0⟩ | ⟨g, cap, cur, hv, hb, hc, hnc, hm, hsz, htk⟩
  · omega
  · refine ⟨g, cap, hv, hb, hnc, by unfold maxLen at hm; omega, fun j u hj => ?_⟩
    rw [← htk, List.getElem?_take] at hj
    split at hj
    · rw [Array.getElem?_toList] at hj
      rw [add_addr, Nat.zero_add]
      simp [World.cell?, hc, hj]
    · cases hj
theorem mul_32 {k n m : Nat} (hk : k ≤ n) (hn : n ≤ 32) (hm : m ≤ 32) : k * m ≤ 1024 := Nat.le_trans (Nat.mul_le_mul (Nat.le_trans hk hn) hm) (by decide)
theorem all_near {ps qs : List Pt} (h1 : nearP ps) (h2 : nearP qs) {k : Nat} (hk : k ≤ ps.length) : ∀ q, q ∈ allK ps qs k → (-4000 ≤ q.1 ∧ q.1 ≤ 4000) ∧ (-4000 ≤ q.2 ∧ q.2 ≤ 4000) := by
  intro q hq
  obtain ⟨i, j, hi, hj, rfl⟩ := (all_mem k).1 hq
  have a := h1 _ (from_mem (show i < ps.length by omega))
  have b := h2 _ (from_mem hj)
  unfold addP
  dsimp only
  omega
set_option maxHeartbeats 4000000 in
theorem sums_c (u v : Value) (ps qs : List Pt) (w : World) (hu : Vecs w u ps) (hv : Vecs w v qs) (hn1 : nearP ps) (hn2 : nearP qs) (h1 : 3 ≤ ps.length) (h2 : ps.length ≤ 32) (k1 : 3 ≤ qs.length) (k2 : qs.length ≤ 32) :
    Calls Try.prog 68 #[u, v] w fun e w' => ∃ r K, e = .returned r ∧ WrapEnd (allK ps qs ps.length) (lowK (allK ps qs ps.length) ((allK ps qs ps.length).length - 1)) K ∧
      w'.ownsRow w.heap.size 32 2 r K (cellsOf (wrapL (allK ps qs ps.length) (lowK (allK ps qs ps.length) ((allK ps qs ps.length).length - 1)) K)) ∧ Ext w w' := by
  obtain ⟨b, o, cap, rfl, hl, hm, hc⟩ := vecs_cells hu (by omega)
  obtain ⟨a2, cap2, rfl, hl2, hm2, _⟩ := hv.at
  have HC := Lib.hid hc
  have HV := Lib.hid hv
  have HNQ := Lib.hid (near_L hn2)
  have HNP := Lib.hid (fun (k : Nat) (hk : k < ps.length) => from_nearL (near_L hn1) hk)
  have HAL := Lib.hid (fun (k : Nat) => all_len ps qs k)
  have HAN := Lib.hid (all_near hn1 hn2 (Nat.le_refl ps.length))
  have HML := Lib.hid (fun (v : Pt) => moved_length qs v)
  have HST := Lib.hid (fun (k : Nat) => (show cellsOf (allK ps qs (k + 1)) = cellsOf (allK ps qs k) ++ cellsOf (movedP qs (fromP ps k)) from by rw [allK, cellsOf_append]))
  obtain ⟨i0, hi0, hz0, hz1, hz2⟩ := info_parts info31
  have HI := Lib.hid hi0
  have HZ0 := Lib.hid hz0
  have HZ1 := Lib.hid hz1
  have HZ2 := Lib.hid hz2
  obtain ⟨n, hnn⟩ : ∃ n, n = ps.length := ⟨_, rfl⟩
  obtain ⟨m, hmm⟩ : ∃ m, m = qs.length := ⟨_, rfl⟩
  rw [← hnn] at HC HNP HAN hl h1 h2 ⊢
  rw [← hmm] at HAL HML HV hl2 k1 k2 ⊢
  have HM := Lib.hid hmm
  clear hu hv hc hn1 hn2 hnn hmm hi0 hz0 hz1 hz2
  go_enter Try.func68, Try.ntmps68
  go_wp2_with fail
  go_loopw [5, 6] (fun u iv wr => ∃ k : Nat, iv = .int .i64 (k : Int) ∧ k ≤ n ∧ wr.ownsRow w.heap.size 32 2 u (k * m) (cellsOf (allK ps qs k)) ∧ Ext w wr) (fun _ iv _ => n - (intOf iv).toNat)
  case atStart => exact ⟨0, rfl, Nat.zero_le _, ⟨by simp [allK, cellsOf], .inl ⟨rfl, Nat.zero_mul m⟩⟩, Ext.refl _⟩
  case round =>
    rename World => wr
    obtain ⟨k, rfl, hk, hR, hE⟩ := hrel
    obtain ⟨a1, c1, rfl⟩ := row_slice hR
    have HR := Lib.hid hR
    have HE := Lib.hid hE
    clear hR hE
    have hkm := mul_32 hk h2 k2
    by_cases hlt : k < n
    · obtain ⟨d1, d2⟩ := HC.out k hlt
      have d1 := Ext.cell HE.out d1
      have d2 := Ext.cell HE.out d2
      have kk := cell_lt d1
      have hbd := HNP.out k hlt
      have HMV := Lib.hid (fun (W : World) (hW : Vecs W (.slice a2 m cap2) qs) => moved_c (.slice a2 m cap2) qs (fromP ps k).1 (fromP ps k).2 W hW HNQ.out (by omega) (by omega) (by have := HM.out; omega) (by have := HM.out; omega))
      generalize hfk : fromP ps k = pk at *
      have HFK := Lib.hid hfk
      clear hfk
      obtain ⟨px, py⟩ := pk
      dsimp only at HMV d1 d2 hbd
      go_wp2_with fail
      refine (show Calls Try.prog 60 #[_, vecV px py] _ _ from (HMV.out wr (HV.out.ext HE.out)).mono ?_)
      rintro e w2 ⟨r, rfl, hO, hE⟩
      rw [← HM.out] at hO
      obtain ⟨g2, cap3, rfl, hb2, hl3, hm3, hcl⟩ := row_cells hO (by omega)
      have HCL := Lib.hid hcl
      have HE2 := Lib.hid (Ext.trans HE.out hE)
      have HR2 := Lib.hid (ownsRow_ext HR.out hE)
      have hs2 := HE2.out.size
      have HLN := Lib.hid (show (cellsOf (movedP qs (px, py))).length = m * 2 by rw [cellsOf_length, HML.out])
      clear hE hO hcl d1 d2 kk
      go_wp2_with (at_builtin; refine wpList_append_own _ rfl _ _ 22 rfl w.heap.size 32 i0 (.agg #[.int .i64 0, .int .i64 0]) 2 16 Try.underlying22 HI.out HZ0.out HZ1.out HZ2.out rfl (by decide) _ _ _ rfl HR2.out ⟨g2, 0, none⟩ m cap3 (cellsOf (movedP qs (px, py))) rfl HLN.out HCL.out cellsOf_one (by unfold maxLen; omega) (by omega) (by omega) ?_; intro v' w' hown' hgrow hnil; have HO4 := Lib.hid hown'; have HG4 := Lib.hid hgrow; clear hown' hgrow hnil)
      obtain ⟨a4, c4, e4⟩ := row_slice HO4.out
      subst e4
      refine ⟨⟨k + 1, by simp, by omega, by rw [Nat.succ_mul, HST.out, HFK.out]; exact HO4.out, Below.trans HE2.out ((row_below HR2.out HG4.out (by omega)).mono (by omega))⟩, by simp [intOf]; omega⟩
    · obtain rfl : k = n := by omega
      have HL := Lib.hid (HAL.out k)
      have HV5 := Lib.hid (vecs_own (by rw [HL.out]; exact HR.out) (by rw [HL.out]; omega))
      have hk1 : 1 ≤ k * m := Nat.mul_pos (by omega) (by omega)
      go_wp2_with fail
      refine (wrap_c _ (allK ps qs k) wr HV5.out HAN.out (by rw [HL.out]; omega) (by rw [HL.out]; omega)).mono ?_
      rintro e w2 ⟨r, K, rfl, hW, hO, hE⟩
      have HW := Lib.hid hW
      have HO := Lib.hid (row_base hO HE.out.size)
      have HE2 := Lib.hid (Ext.trans HE.out hE)
      clear hE hO hW
      go_wp2_with fail
      go_ret
      exact ⟨r, K, rfl, HW.out, HO.out, HE2.out⟩
end Go.Proofs.Ytbdppephmlkbaaa

namespace Go.Proofs.Ytbdppephmlkbaaa
set_option maxRecDepth 100000
open Go.RowKit Go.Shelf
attribute [local go_sem] Oper.semAt_some
/-! Move, Flip and Sum of the program, their errors and their memory. -/
theorem nil_own4 (w : World) (c : Nat) : w.ownsRow c 32 2 (.slice none 0 0) ([] : List Pt).length (cellsOf []) := ⟨rfl, .inl ⟨rfl, rfl⟩⟩
/-- the error of points as a polygon, and what is returned -/
def limE (ts : List Pt) : Int := if ts.any farP = true then 4 else if 32 < ts.length then 8 else 0
def limL (ts : List Pt) : List Pt := if ts.any farP = true then [] else if 32 < ts.length then [] else ts
theorem limL_len (ts : List Pt) : (limL ts).length ≤ 32 := by
  unfold limL
  split
  · simp
  · split
    · simp
    · omega
theorem lim_own {v : Value} {ts : List Pt} {base : Nat} {w : World} (h : w.ownsRow base 32 2 v ts.length (cellsOf ts)) :
    ∃ r, limR v ts = two r (.int .i64 (limE ts)) ∧ w.ownsRow base 32 2 r (limL ts).length (cellsOf (limL ts)) := by
  unfold limR limE limL
  split
  · exact ⟨_, rfl, nil_own4 _ _⟩
  · split
    · exact ⟨_, rfl, nil_own4 _ _⟩
    · exact ⟨v, rfl, h⟩
def moveE (ps : List Pt) (x y : Int) : Int := if validB ps = true ∧ farB x y = false then limE (movedP ps (x, y)) else 2
def moveL (ps : List Pt) (x y : Int) : List Pt := if validB ps = true ∧ farB x y = false then limL (movedP ps (x, y)) else []
def flipE (ps : List Pt) : Int := if validB ps = true then 0 else 2
def flipL (ps : List Pt) : List Pt := if validB ps = true then flipP ps else []
def sumE (ps qs ds : List Pt) : Int := if validB ps = true ∧ validB qs = true then limE (sumP ps qs ds) else 2
def sumL (ps qs ds : List Pt) : List Pt := if validB ps = true ∧ validB qs = true then limL (sumP ps qs ds) else []
theorem moveL_len (ps : List Pt) (x y : Int) : (moveL ps x y).length ≤ 32 := by
  unfold moveL
  split
  · exact limL_len _
  · simp
theorem flipL_len (ps : List Pt) : (flipL ps).length ≤ 32 := by
  unfold flipL
  split
  · rename_i h
    have := flip_size h
    have := (valid_near h).2.2
    omega
  · simp
theorem sumL_len (ps qs ds : List Pt) : (sumL ps qs ds).length ≤ 32 := by
  unfold sumL
  split
  · exact limL_len _
  · simp
theorem Move_o (v : Value) (ps : List Pt) (x y : Int) (w : World) (hv : Vecs w v ps) :
    Calls Try.prog 24 #[v, vecV x y] w fun e w' => ∃ r, e = .returned (.tuple #[r, .int .i64 (moveE ps x y)]) ∧ w'.ownsRow w.heap.size 32 2 r (moveL ps x y).length (cellsOf (moveL ps x y)) ∧ Ext w w' := by
  refine (Move_u v ps x y w hv).mono ?_
  rintro e w' ⟨u, rfl, h, hE⟩
  by_cases hc : validB ps = true ∧ farB x y = false
  · obtain ⟨r, e1, e2⟩ := lim_own (h hc.1 hc.2)
    refine ⟨r, ?_, ?_, hE⟩
    · unfold moveR moveE
      rw [if_pos hc, if_pos hc, e1]; rfl
    · unfold moveL
      rw [if_pos hc]
      exact e2
  · refine ⟨.slice none 0 0, ?_, ?_, hE⟩
    · unfold moveR moveE
      rw [if_neg hc, if_neg hc]; rfl
    · unfold moveL
      rw [if_neg hc]
      exact nil_own4 _ _
theorem Flip_o (v : Value) (ps : List Pt) (w : World) (hv : Vecs w v ps) :
    Calls Try.prog 26 #[v] w fun e w' => ∃ r, e = .returned (.tuple #[r, .int .i64 (flipE ps)]) ∧ w'.ownsRow w.heap.size 32 2 r (flipL ps).length (cellsOf (flipL ps)) ∧ Ext w w' := by
  refine (Flip_u v ps w hv).mono ?_
  rintro e w' ⟨u, rfl, h, hE⟩
  by_cases hc : validB ps = true
  · refine ⟨u, ?_, ?_, hE⟩
    · unfold flipR flipE
      rw [if_pos hc, if_pos hc]; rfl
    · unfold flipL
      rw [if_pos hc]
      exact h hc
  · refine ⟨.slice none 0 0, ?_, ?_, hE⟩
    · unfold flipR flipE
      rw [if_neg hc, if_neg hc]; rfl
    · unfold flipL
      rw [if_neg hc]
      exact nil_own4 _ _
set_option maxHeartbeats 1000000 in
theorem Sum_u (u v : Value) (ps qs : List Pt) (w : World) (hu : Vecs w u ps) (hv : Vecs w v qs) (h1 : validB ps = true) (h2 : validB qs = true) :
    Calls Try.prog 28 #[u, v] w fun e w' => ∃ r ds, Sorted ps qs ds ∧ e = limR r (sumP ps qs ds) ∧ w'.ownsRow w.heap.size 32 2 r (sumP ps qs ds).length (cellsOf (sumP ps qs ds)) ∧ Ext w w' := by
  obtain ⟨a, cap, rfl, hl, hm, _⟩ := hu.at
  obtain ⟨a2, cap2, rfl, hl2, hm2, _⟩ := hv.at
  have HU := Lib.hid hu
  have HV := Lib.hid hv
  have H1 := Lib.hid h1
  have H2 := Lib.hid h2
  clear hu hv h1 h2
  go_enter Try.func28, Try.ntmps28
  go_wp2_with fail
  refine (valid_c _ ps _ HU.out).mono ?_
  rintro e w2 ⟨rfl, hE⟩
  rw [H1.out]
  have HE := Lib.hid hE
  clear hE
  go_wp2_with fail
  refine (valid_c _ qs _ (HV.out.ext HE.out)).mono ?_
  rintro e w3 ⟨rfl, hE3⟩
  rw [H2.out]
  have HE3 := Lib.hid (Ext.trans HE.out hE3)
  clear hE3
  go_wp2_with fail
  refine (sum_u sort_c _ _ ps qs w3 (HU.out.ext HE3.out) (HV.out.ext HE3.out) H1.out H2.out).mono ?_
  rintro e w4 ⟨r, ds, rfl, hp, hs, hr, ho, hE4⟩
  have HP := Lib.hid (show Sorted ps qs ds from ⟨hp, hs⟩)
  have HR := Lib.hid (show Vecs w4 r (sumP ps qs ds) from hr)
  have HO := Lib.hid (show w4.ownsRow w.heap.size 32 2 r (sumP ps qs ds).length (cellsOf (sumP ps qs ds)) from ownsRow_base ho HE3.out.size)
  have HE4 := Lib.hid (Ext.trans HE3.out hE4)
  clear hp hs hr ho hE4
  generalize hss : sumP ps qs ds = ss at *
  have HSS := Lib.hid hss
  clear hss
  go_wp2_with fail
  refine (limited_c r ss w4 HR.out).mono ?_
  rintro e w5 ⟨rfl, hE5⟩
  obtain ⟨ra, rb, hab⟩ := lim_two r ss
  have HAB := Lib.hid hab
  have HO5 := Lib.hid (ownsRow_ext HO.out hE5)
  have HE5 := Lib.hid (Ext.trans HE4.out hE5)
  rw [hab]
  clear hab hE5
  simp only [two]
  go_wp2_with fail
  go_ret2
  refine ⟨r, ds, HP.out, ?_, ?_, HE5.out⟩
  · rw [HSS.out, HAB.out]; rfl
  · rw [HSS.out]; exact HO5.out
theorem Sum_o (u v : Value) (ps qs : List Pt) (w : World) (hu : Vecs w u ps) (hv : Vecs w v qs) :
    Calls Try.prog 28 #[u, v] w fun e w' => ∃ r ds, e = .returned (.tuple #[r, .int .i64 (sumE ps qs ds)]) ∧ (validB ps = true → validB qs = true → Sorted ps qs ds) ∧ w'.ownsRow w.heap.size 32 2 r (sumL ps qs ds).length (cellsOf (sumL ps qs ds)) ∧ Ext w w' := by
  by_cases hb : validB ps = true ∧ validB qs = true
  · refine (Sum_u u v ps qs w hu hv hb.1 hb.2).mono ?_
    rintro e w' ⟨u, ds, hs, rfl, h, hE⟩
    obtain ⟨r, e1, e2⟩ := lim_own h
    refine ⟨r, ds, ?_, fun _ _ => hs, ?_, hE⟩
    · unfold sumE
      rw [if_pos hb, e1]; rfl
    · unfold sumL
      rw [if_pos hb]
      exact e2
  · refine (Sum_bad u v ps qs w hu hv hb).mono ?_
    rintro e w' ⟨rfl, hE⟩
    refine ⟨.slice none 0 0, [], ?_, fun h1 h2 => absurd ⟨h1, h2⟩ hb, ?_, hE⟩
    · unfold sumE
      rw [if_neg hb]; rfl
    · unfold sumL
      rw [if_neg hb]
      exact nil_own4 _ _
end Go.Proofs.Ytbdppephmlkbaaa

namespace Go.Proofs.Ytbdppephmlkbaaa
set_option maxRecDepth 100000
open Go.RowKit Go.Shelf
attribute [local go_sem] Oper.semAt_some
/-! The reference's Move, Flip, Sum and Mixed. -/
theorem lim_vecs {v : Value} {ts : List Pt} {w : World} (h : Vecs w v ts) : ∃ r, resV v ts = two r (.int .i64 (limE ts)) ∧ Vecs w r (limL ts) := by
  unfold resV limE limL
  split
  · exact ⟨_, rfl, nil_vecs w⟩
  · split
    · exact ⟨_, rfl, nil_vecs w⟩
    · exact ⟨v, rfl, h⟩
set_option maxHeartbeats 1000000 in
theorem rMove_o (v : Value) (ps : List Pt) (x y : Int) (w : World) (hv : Vecs w v ps) :
    Calls Try.prog 25 #[v, vecV x y] w fun e w' => ∃ r, e = .returned (.tuple #[r, .int .i64 (moveE ps x y)]) ∧ Vecs w' r (moveL ps x y) ∧ Ext w w' := by
  obtain ⟨a, cap, rfl, hl, hm, hra⟩ := hv.at
  have hE0 := Ext.alloc (Ext.refl w) (.cells #[.int .i64 x, .int .i64 y] 32)
  have HV := Lib.hid (hv.ext hE0)
  have HE0 := Lib.hid hE0
  have HB := Lib.hid (show VRow (w.alloc (.cells #[.int .i64 x, .int .i64 y] 32)) _ _ _ from vrow_alloc w [.int .i64 x, .int .i64 y] 32)
  clear hv hE0 hra
  cases hf : validB ps with
  | false =>
    have HR := Lib.hid (show moveE ps x y = 2 ∧ moveL ps x y = [] by simp [moveE, moveL, hf])
    generalize moveE ps x y = em at *
    generalize moveL ps x y = lm at *
    have Hf := Lib.hid hf
    clear hf
    go_enter Try.func25, Try.ntmps25
    go_wp2_with fail
    refine (rvalid_c _ ps _ HV.out).mono ?_
    rintro e w2 ⟨rfl, hE⟩
    rw [Hf.out]
    go_wp2_with fail
    go_ret2
    exact ⟨.slice none 0 0, by rw [HR.out.1]; rfl, by rw [HR.out.2]; exact nil_vecs _, Ext.trans HE0.out hE⟩
  | true =>
    cases hg : farB x y with
    | true =>
      have HR := Lib.hid (show moveE ps x y = 2 ∧ moveL ps x y = [] by simp [moveE, moveL, hg])
      generalize moveE ps x y = em at *
      generalize moveL ps x y = lm at *
      have Hf := Lib.hid hf
      have Hg := Lib.hid hg
      clear hf hg
      go_enter Try.func25, Try.ntmps25
      go_wp2_with fail
      refine (rvalid_c _ ps _ HV.out).mono ?_
      rintro e w2 ⟨rfl, hE⟩
      rw [Hf.out]
      have hb := VRow.ext HB.out hE
      have b0 := VRow.cell hb (k := 0) rfl
      have b1 := VRow.cell hb (k := 1) rfl
      go_wp2_with fail
      refine (show Calls Try.prog 42 #[vecV x y] _ _ from (good_c x y _).mono ?_)
      rintro e w3 ⟨rfl, hE3⟩
      rw [Hg.out]
      clear b0 b1
      go_wp2_with fail
      go_ret2
      exact ⟨.slice none 0 0, by rw [HR.out.1]; rfl, by rw [HR.out.2]; exact nil_vecs _, Ext.trans HE0.out (Ext.trans hE hE3)⟩
    | false =>
      have HR := Lib.hid (show moveE ps x y = limE (movedP ps (x, y)) ∧ moveL ps x y = limL (movedP ps (x, y)) by simp [moveE, moveL, hf, hg])
      generalize moveE ps x y = em at *
      generalize moveL ps x y = lm at *
      have Hf := Lib.hid hf
      have Hg := Lib.hid hg
      clear hf hg
      go_enter Try.func25, Try.ntmps25
      go_wp2_with fail
      refine (rvalid_c _ ps _ HV.out).mono ?_
      rintro e w2 ⟨rfl, hE⟩
      rw [Hf.out]
      have hb := VRow.ext HB.out hE
      have b0 := VRow.cell hb (k := 0) rfl
      have b1 := VRow.cell hb (k := 1) rfl
      go_wp2_with fail
      refine (show Calls Try.prog 42 #[vecV x y] _ _ from (good_c x y _).mono ?_)
      rintro e w3 ⟨rfl, hE3⟩
      rw [Hg.out]
      have HE3 := Lib.hid (Ext.trans hE hE3)
      clear b0 b1 hb hE hE3
      have hb := VRow.ext HB.out HE3.out
      have b0 := VRow.cell hb (k := 0) rfl
      have b1 := VRow.cell hb (k := 1) rfl
      go_wp2_with fail
      refine (show Calls Try.prog 60 #[.slice a ps.length cap, vecV x y] w3 _ from (moved_c _ ps x y w3 (HV.out.ext HE3.out) (near_L (valid_near Hf.out).1) (by have := far_in Hg.out; omega) (by have := far_in Hg.out; omega) (by have := (valid_near Hf.out).2; omega) (by have := (valid_near Hf.out).2; omega)).mono ?_)
      rintro e w4 ⟨r, rfl, hO, hE4⟩
      have hln : (movedP ps (x, y)).length = ps.length := moved_length ps (x, y)
      have hv4 := vecs_own (qs := movedP ps (x, y)) (by rw [hln]; exact hO) (by rw [hln]; have := (valid_near Hf.out).2; omega)
      have h14 : 1 ≤ (movedP ps (x, y)).length := by rw [hln]; have := (valid_near Hf.out).2; omega
      clear b0 b1 hb hO hln
      generalize movedP ps (x, y) = ms at *
      have HV4 := Lib.hid hv4
      have H14 := Lib.hid h14
      have HE4 := Lib.hid (Ext.trans HE0.out (Ext.trans HE3.out hE4))
      clear hE4 hv4 h14
      go_wp2_with fail
      refine (result_c r ms w4 HV4.out H14.out).mono ?_
      rintro e w5 ⟨he, hE⟩
      obtain ⟨r5, e5, hv5⟩ := lim_vecs (HV4.out.ext hE)
      rw [e5] at he
      subst he
      have HV5 := Lib.hid hv5
      have HE5 := Lib.hid (Ext.trans HE4.out hE)
      clear hE hv5 e5
      unfold two
      generalize limE ms = el at *
      generalize limL ms = ll at *
      go_wp2_with fail
      go_ret2
      exact ⟨r5, by rw [HR.out.1]; rfl, by rw [HR.out.2]; exact HV5.out, HE5.out⟩
set_option maxHeartbeats 1000000 in
theorem rFlip_o (v : Value) (ps : List Pt) (w : World) (hv : Vecs w v ps) :
    Calls Try.prog 27 #[v] w fun e w' => ∃ r, e = .returned (.tuple #[r, .int .i64 (flipE ps)]) ∧ Vecs w' r (flipL ps) ∧ Ext w w' := by
  obtain ⟨a, cap, rfl, hl, hm, _⟩ := hv.at
  have HV := Lib.hid hv
  clear hv
  cases hf : validB ps with
  | false =>
    have HR := Lib.hid (show flipE ps = 2 ∧ flipL ps = [] by simp [flipE, flipL, hf])
    generalize flipE ps = em at *
    generalize flipL ps = lm at *
    have Hf := Lib.hid hf
    clear hf
    go_enter Try.func27, Try.ntmps27
    go_wp2_with fail
    refine (rvalid_c _ ps _ HV.out).mono ?_
    rintro e w2 ⟨rfl, hE⟩
    rw [Hf.out]
    go_wp2_with fail
    go_ret2
    exact ⟨.slice none 0 0, by rw [HR.out.1]; rfl, by rw [HR.out.2]; exact nil_vecs _, hE⟩
  | true =>
    have HR := Lib.hid (show flipE ps = 0 ∧ flipL ps = flipP ps by simp [flipE, flipL, hf])
    generalize flipE ps = em at *
    generalize flipL ps = lm at *
    have Hf := Lib.hid hf
    have hn := valid_near hf
    have HNN := Lib.hid (fun (q : Pt) (hq : q ∈ ps.map negP) => (show (-4000 ≤ q.1 ∧ q.1 ≤ 4000) ∧ (-4000 ≤ q.2 ∧ q.2 ≤ 4000) from by
      obtain ⟨z, hz, rfl⟩ := List.mem_map.1 hq
      have := hn.1 z hz
      unfold negP
      dsimp only
      omega))
    have hln : (ps.map negP).length = ps.length := neg_length ps
    have HLN := Lib.hid hln
    have HNP := Lib.hid (near_L hn.1)
    have h23 := hn.2
    clear hf hn hln
    go_enter Try.func27, Try.ntmps27
    go_wp2_with fail
    refine (rvalid_c _ ps _ HV.out).mono ?_
    rintro e w2 ⟨rfl, hE⟩
    rw [Hf.out]
    have HE2 := Lib.hid hE
    clear hE
    go_wp2_with fail
    refine (flipped_c _ ps w2 (HV.out.ext HE2.out) HNP.out (by omega) (by omega)).mono ?_
    rintro e w3 ⟨r, rfl, hO, hE⟩
    have HV3 := Lib.hid (vecs_own (qs := ps.map negP) (by rw [HLN.out]; exact hO) (by rw [HLN.out]; omega))
    have HE3 := Lib.hid (Ext.trans HE2.out hE)
    clear hO hE
    go_wp2_with fail
    refine (wrap_c r (ps.map negP) w3 HV3.out HNN.out (by rw [HLN.out]; omega) (by rw [HLN.out]; omega)).mono ?_
    rintro e w4 ⟨r4, K, rfl, hW, hO, hE⟩
    obtain ⟨e1, e2⟩ := wrap_flip (valid_around Hf.out) hW
    rw [e1] at hO
    have hfl := flip_size Hf.out
    have HV4 := Lib.hid (vecs_own (qs := flipP ps) (by rw [hfl, ← e2]; exact hO) (by rw [hfl]; omega))
    have HE4 := Lib.hid (Ext.trans HE3.out hE)
    clear hO hE hW e1 e2 hfl
    go_wp2_with fail
    go_ret2
    exact ⟨r4, by rw [HR.out.1]; rfl, by rw [HR.out.2]; exact HV4.out, HE4.out⟩
theorem box_L {ps : List Pt} (h : boxP 2000 ps) : nearL ps := fun q hq => by have := h q hq; omega
/-- what the reference's sums are of two polygons -/
theorem sums_v (u v : Value) (ps qs ds : List Pt) (w : World) (hu : Vecs w u ps) (hv : Vecs w v qs) (h1 : validB ps = true) (h2 : validB qs = true) (hs : Sorted ps qs ds) :
    Calls Try.prog 68 #[u, v] w fun e w' => ∃ r, e = .returned r ∧ Vecs w' r (sumP ps qs ds) ∧ Ext w w' := by
  have n1 := valid_near h1
  have n2 := valid_near h2
  refine (sums_c u v ps qs w hu hv n1.1 n2.1 n1.2.1 n1.2.2 n2.2.1 n2.2.2).mono ?_
  rintro e w' ⟨r, K, rfl, hW, hO, hE⟩
  obtain ⟨e1, e2⟩ := wrap_sum (valid_around h1) (valid_around h2) hs hW
  rw [e1, e2] at hO
  have l := sum_len hs
  exact ⟨r, rfl, vecs_own hO (by omega), hE⟩
set_option maxHeartbeats 1000000 in
theorem rSum_o (u v : Value) (ps qs ds : List Pt) (w : World) (hu : Vecs w u ps) (hv : Vecs w v qs) (hs : validB ps = true → validB qs = true → Sorted ps qs ds) :
    Calls Try.prog 29 #[u, v] w fun e w' => ∃ r, e = .returned (.tuple #[r, .int .i64 (sumE ps qs ds)]) ∧ Vecs w' r (sumL ps qs ds) ∧ Ext w w' := by
  obtain ⟨a, cap, rfl, hl, hm, _⟩ := hu.at
  obtain ⟨a2, cap2, rfl, hl2, hm2, _⟩ := hv.at
  have HU := Lib.hid hu
  have HV := Lib.hid hv
  clear hu hv
  cases h1 : validB ps with
  | false =>
    have HR := Lib.hid (show sumE ps qs ds = 2 ∧ sumL ps qs ds = [] by simp [sumE, sumL, h1])
    generalize sumE ps qs ds = em at *
    generalize sumL ps qs ds = lm at *
    have H1 := Lib.hid h1
    clear h1 hs
    go_enter Try.func29, Try.ntmps29
    go_wp2_with fail
    refine (rvalid_c _ ps _ HU.out).mono ?_
    rintro e w2 ⟨rfl, hE⟩
    rw [H1.out]
    go_wp2_with fail
    go_ret2
    exact ⟨.slice none 0 0, by rw [HR.out.1]; rfl, by rw [HR.out.2]; exact nil_vecs _, hE⟩
  | true =>
    cases h2 : validB qs with
    | false =>
      have HR := Lib.hid (show sumE ps qs ds = 2 ∧ sumL ps qs ds = [] by simp [sumE, sumL, h2])
      generalize sumE ps qs ds = em at *
      generalize sumL ps qs ds = lm at *
      have H1 := Lib.hid h1
      have H2 := Lib.hid h2
      clear h1 h2 hs
      go_enter Try.func29, Try.ntmps29
      go_wp2_with fail
      refine (rvalid_c _ ps _ HU.out).mono ?_
      rintro e w2 ⟨rfl, hE⟩
      rw [H1.out]
      have HE := Lib.hid hE
      clear hE
      go_wp2_with fail
      refine (rvalid_c _ qs _ (HV.out.ext HE.out)).mono ?_
      rintro e w3 ⟨rfl, hE3⟩
      rw [H2.out]
      go_wp2_with fail
      go_ret2
      exact ⟨.slice none 0 0, by rw [HR.out.1]; rfl, by rw [HR.out.2]; exact nil_vecs _, Ext.trans HE.out hE3⟩
    | true =>
      have HR := Lib.hid (show sumE ps qs ds = limE (sumP ps qs ds) ∧ sumL ps qs ds = limL (sumP ps qs ds) by simp [sumE, sumL, h1, h2])
      generalize sumE ps qs ds = em at *
      generalize sumL ps qs ds = lm at *
      have H1 := Lib.hid h1
      have H2 := Lib.hid h2
      have HSO := Lib.hid (hs h1 h2)
      have HTH := Lib.hid (sum_around (valid_around h1) (valid_around h2) (hs h1 h2)).three
      clear h1 h2 hs
      go_enter Try.func29, Try.ntmps29
      go_wp2_with fail
      refine (rvalid_c _ ps _ HU.out).mono ?_
      rintro e w2 ⟨rfl, hE⟩
      rw [H1.out]
      have HE := Lib.hid hE
      clear hE
      go_wp2_with fail
      refine (rvalid_c _ qs _ (HV.out.ext HE.out)).mono ?_
      rintro e w3 ⟨rfl, hE3⟩
      rw [H2.out]
      have HE3 := Lib.hid (Ext.trans HE.out hE3)
      clear hE3
      go_wp2_with fail
      refine (sums_v _ _ ps qs ds w3 (HU.out.ext HE3.out) (HV.out.ext HE3.out) H1.out H2.out HSO.out).mono ?_
      rintro e w4 ⟨r, rfl, hr, hE⟩
      have HV4 := Lib.hid hr
      have HE4 := Lib.hid (Ext.trans HE3.out hE)
      clear hE hr
      generalize sumP ps qs ds = ss at *
      go_wp2_with fail
      refine (result_c r ss w4 HV4.out (by have := HTH.out; omega)).mono ?_
      rintro e w5 ⟨he, hE⟩
      obtain ⟨r5, e5, hv5⟩ := lim_vecs (HV4.out.ext hE)
      rw [e5] at he
      subst he
      have HV5 := Lib.hid hv5
      have HE5 := Lib.hid (Ext.trans HE4.out hE)
      clear hE hv5 e5
      unfold two
      generalize limE ss = el at *
      generalize limL ss = ll at *
      go_wp2_with fail
      go_ret2
      exact ⟨r5, by rw [HR.out.1]; rfl, by rw [HR.out.2]; exact HV5.out, HE5.out⟩
set_option maxHeartbeats 1000000 in
theorem rMixed_c (u v : Value) (ps qs ds : List Pt) (w : World) (hu : Vecs w u ps) (hv : Vecs w v qs) (hs : validB ps = true → validB qs = true → Sorted ps qs ds) :
    Calls Try.prog 31 #[u, v] w fun e w' => e = mixR ps qs ∧ Ext w w' := by
  obtain ⟨a, cap, rfl, hl, hm, _⟩ := hu.at
  obtain ⟨a2, cap2, rfl, hl2, hm2, _⟩ := hv.at
  have HU := Lib.hid hu
  have HV := Lib.hid hv
  clear hu hv
  cases h1 : validB ps with
  | false =>
    have HR := Lib.hid (show mixR ps qs = two (.int .i64 0) (.int .i64 2) by simp [mixR, h1])
    generalize mixR ps qs = R at *
    have H1 := Lib.hid h1
    clear h1 hs
    go_enter Try.func31, Try.ntmps31
    go_wp2_with fail
    refine (rvalid_c _ ps _ HU.out).mono ?_
    rintro e w2 ⟨rfl, hE⟩
    rw [H1.out]
    go_wp2_with fail
    go_ret2
    exact ⟨HR.out.symm, hE⟩
  | true =>
    cases h2 : validB qs with
    | false =>
      have HR := Lib.hid (show mixR ps qs = two (.int .i64 0) (.int .i64 2) by simp [mixR, h2])
      generalize mixR ps qs = R at *
      have H1 := Lib.hid h1
      have H2 := Lib.hid h2
      clear h1 h2 hs
      go_enter Try.func31, Try.ntmps31
      go_wp2_with fail
      refine (rvalid_c _ ps _ HU.out).mono ?_
      rintro e w2 ⟨rfl, hE⟩
      rw [H1.out]
      have HE := Lib.hid hE
      clear hE
      go_wp2_with fail
      refine (rvalid_c _ qs _ (HV.out.ext HE.out)).mono ?_
      rintro e w3 ⟨rfl, hE3⟩
      rw [H2.out]
      go_wp2_with fail
      go_ret2
      exact ⟨HR.out.symm, Ext.trans HE.out hE3⟩
    | true =>
      have HR := Lib.hid (show mixR ps qs = two (.int .i64 (mixZ ps qs)) (.int .i64 0) by simp [mixR, h1, h2])
      generalize mixR ps qs = R at *
      have H1 := Lib.hid h1
      have H2 := Lib.hid h2
      have HB := Lib.hid (mix_bd h1 h2)
      have HP := Lib.hid (mix_sum h1 h2 (hs h1 h2))
      have HSO := Lib.hid (hs h1 h2)
      have HTH := Lib.hid (sum_around (valid_around h1) (valid_around h2) (hs h1 h2)).three
      clear h1 h2 hs
      go_enter Try.func31, Try.ntmps31
      go_wp2_with fail
      refine (rvalid_c _ ps _ HU.out).mono ?_
      rintro e w2 ⟨rfl, hE⟩
      rw [H1.out]
      have HE := Lib.hid hE
      clear hE
      go_wp2_with fail
      refine (rvalid_c _ qs _ (HV.out.ext HE.out)).mono ?_
      rintro e w3 ⟨rfl, hE3⟩
      rw [H2.out]
      have HE3 := Lib.hid (Ext.trans HE.out hE3)
      clear hE3
      go_wp2_with fail
      refine (sums_v _ _ ps qs ds w3 (HU.out.ext HE3.out) (HV.out.ext HE3.out) H1.out H2.out HSO.out).mono ?_
      rintro e w4 ⟨r, rfl, hr, hE⟩
      obtain ⟨a3, cap3, rfl, _, _, _⟩ := hr.at
      have HV4 := Lib.hid hr
      have HE4 := Lib.hid (Ext.trans HE3.out hE)
      clear hE hr
      generalize sumP ps qs ds = ss at *
      go_wp2_with fail
      refine (rarea_l _ ss w4 HV4.out (box_L HP.out.1) HTH.out HP.out.2.1).mono ?_
      rintro e w5 ⟨rfl, hE5⟩
      have HE5 := Lib.hid (Ext.trans HE4.out hE5)
      clear hE5
      go_wp2_with fail
      refine (rarea_c _ ps w5 (HU.out.ext HE5.out) (valid_near H1.out).1 (valid_near H1.out).2.1 (valid_near H1.out).2.2).mono ?_
      rintro e w6 ⟨rfl, hE6⟩
      have HE6 := Lib.hid (Ext.trans HE5.out hE6)
      clear hE6
      go_wp2_with fail
      refine (rarea_c _ qs w6 (HV.out.ext HE6.out) (valid_near H2.out).1 (valid_near H2.out).2.1 (valid_near H2.out).2.2).mono ?_
      rintro e w7 ⟨rfl, hE7⟩
      have b1 := HB.out
      have b2 := HP.out.2.2
      have b3 := area_far HP.out.1 HP.out.2.1
      have HE7 := Lib.hid (Ext.trans HE6.out hE7)
      clear hE7
      have w1 : wrap64 (areaZ ss - areaZ ps) = areaZ ss - areaZ ps := by unfold wrap64; omega
      have w2 : wrap64 (areaZ ss - areaZ ps - areaZ qs) = mixZ ps qs := by rw [b2]; unfold wrap64; omega
      clear b1 b2 b3
      generalize areaZ ss = A at *
      generalize areaZ ps = B at *
      generalize areaZ qs = C at *
      generalize mixZ ps qs = M at *
      go_wp2
      go_ret2
      exact ⟨by rw [HR.out, ← w2]; rfl, HE7.out⟩
end Go.Proofs.Ytbdppephmlkbaaa
