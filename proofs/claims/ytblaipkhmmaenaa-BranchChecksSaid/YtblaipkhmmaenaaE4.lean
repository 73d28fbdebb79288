import Derived.Test.YtblaipkhmmaenaaE1
import Derived.Test.YtblaipkhmmaenaaC6
import Derived.WalkSmall
import Derived.Deep.AppendLies
import Derived.Deep.RegionLaw
namespace Go.Proofs.Ytblaipkhmmaenaa
open Go.RowKit
theorem five {l : List Int} (h : l.length = 5) : ∃ a b c d e, l = [a, b, c, d, e] := by
  match l, h with
  | [a, b, c, d, e], _ => exact ⟨a, b, c, d, e, rfl⟩
theorem Try.info58 : (Try.prog.info? 58).map (fun i => (i.zero, i.size, i.bytes)) = some (some (.agg #[.int .i64 0, .int .i64 0, .int .i64 0, .int .i64 0, .int .i64 0, .int .i64 0, .int .i64 0, .int .i64 0, .int .i64 0, .int .i64 0]), 10, 80) := by kernel_rfl
theorem split_grown {w wq w5 : World} {R s : Nat} (h : Held (fun k => k < s ∧ k ≠ R) w wq) (he : Ext wq w5) (hs : w.heap.size = s) : w.grownBy w5 (some R) :=
  ⟨he.os.trans h.os, he.tape.trans h.tape, he.output.trans h.output, Nat.le_trans h.size he.size, fun k hk hne => (he.block k (Nat.lt_of_lt_of_le hk h.size)).trans (h.block k ⟨by omega, fun e => hne (by rw [e])⟩)⟩
theorem split_ne {R ob n cap : Nat} (h : ob ≠ R) : some R ≠ Value.ownBlock (.slice (some ⟨ob, 0, none⟩) n cap) := by
  simp [Value.ownBlock]
  exact fun e => h e.symm
theorem new_row (W : World) (xs : List Value) (t : TypeId) : ∀ j u, xs[j]? = some u → (W.alloc (.cells xs.toArray t)).drew.cell? ((⟨W.heap.size, 0, none⟩ : Addr).add j) = some u := by
  intro j u hj
  rw [addr_add, Nat.zero_add]
  exact VRow.cell (vrow_alloc W xs t) hj
theorem split_fin {w w5 w8 : World} {R ob n cap g9 cap9 B : Nat} {a b c u g : Value} {cells : List Value} {o : Obj} (h5 : w.grownBy w5 (some R)) (h8 : (w5.alloc o).drew.grownBy w8 (Value.ownBlock (.slice (some ⟨ob, 0, none⟩) n cap)))
    (hv : VRow w8 R 62 [a, b, c, u, g, .slice (some ⟨ob, 0, none⟩) n cap]) (ho : w8.ownsRow B 58 10 (.slice (some ⟨g9, 0, none⟩) (n + 2) cap9) (n + 2) cells)
    (hat : Value.ownBlock (.slice (some ⟨ob, 0, none⟩) n cap) = some g9 ∨ g9 = (w5.alloc o).drew.heap.size) (hR : R < w5.heap.size) (hob : ob ≠ R) :
    Held (fun k => k < w.heap.size ∧ k ≠ R ∧ k ≠ ob) w (w8.setCell ⟨R, 5, none⟩ (.slice (some ⟨g9, 0, none⟩) (n + 2) cap9)) ∧ ∃ ob' cap', VRow (w8.setCell ⟨R, 5, none⟩ (.slice (some ⟨g9, 0, none⟩) (n + 2) cap9)) R 62 [a, b, c, u, g, .slice (some ⟨ob', 0, none⟩) (n + 2) cap'] ∧
      (w8.setCell ⟨R, 5, none⟩ (.slice (some ⟨g9, 0, none⟩) (n + 2) cap9)).ownsRow B 58 10 (.slice (some ⟨ob', 0, none⟩) (n + 2) cap') (n + 2) cells := by
  have hsz : (w5.alloc o).drew.heap.size = w5.heap.size + 1 := World.size_alloc w5 o
  have hg9 : g9 ≠ R := by
    rcases hat with h | h
    · simp [Value.ownBlock] at h
      omega
    · omega
  refine ⟨⟨h8.os.trans h5.os, h8.tape.trans h5.tape, h8.output.trans h5.output, ?_, fun k hk => ?_⟩, g9, cap9, VRow.set hv 5 _, ownsRow_setCell_other ho (by simp [Value.ownBlock, hg9]) _⟩
  · have h1 := h5.size
    have h2 := h8.size
    simp only [World.size_setCell]
    omega
  · have h1 := h5.size
    rw [Below.heap_setCell _ _ _ _ (show k ≠ R from hk.2.1), h8.block k (by omega) (by simp [Value.ownBlock]; exact hk.2.2)]
    exact (Below.heap_alloc w5 o k (by omega)).trans (h5.block k hk.1 (by simpa using hk.2.1))
theorem div_bd {lo hi : List Int} {j : Nat} {x : Int} (hh : ∀ z ∈ hi, 0 ≤ z ∧ z ≤ 7) (hl : ∀ z ∈ lo, 0 ≤ z ∧ z ≤ 7) (h : divB lo hi j x = true) : 0 ≤ x ∧ x < 7 := by
  simp only [divB, Bool.and_eq_true, decide_eq_true_eq] at h
  have h1 := getD_in (k := j) hh
  have h2 := getD_in (k := j) hl
  omega
set_option maxRecDepth 100000 in
set_option maxHeartbeats 8000000 in
theorem refusesSplit_c (R ob n cap : Nat) (a b c u g v : Value) (nv na d l0 l1 l2 l3 l4 h0 h1 h2 h3 h4 : Int) (p : Who) (y : List Int) (gs : List (List Int × Int)) (w0 w : World) (h : WhoAt w0 a b c u p) (hv : whoB p = true) (hg : GoalsAt w g gs) (hy : Ints w0 v y)
    (hE : Ext w0 w) (hR0 : w0.heap.size ≤ R) (hR : VRow w R 62 [a, b, c, u, g, .slice (some ⟨ob, 0, none⟩) (n + 1) cap]) (hcap : n + 1 ≤ cap)
    (hbx : ∀ j x, (box10 l0 l1 l2 l3 l4 h0 h1 h2 h3 h4)[j]? = some x → w.cell? ⟨ob, n * 10 + j, none⟩ = some x) (hnv : ¬ nv < 0)
    (hlb : ∀ x ∈ [l0, l1, l2, l3, l4], 0 ≤ x ∧ x ≤ 7) (hhb : ∀ x ∈ [h0, h1, h2, h3, h4], 0 ≤ x ∧ x ≤ 7) (hgs : ∀ x ∈ gs, x.1.length = p.C.length ∧ ∀ z ∈ x.1, -1000 ≤ z ∧ z ≤ 1000) (xs : List Value) (hn5 : n ≤ 1000000) (hxs : xs.length = n * 10)
    (hown : w.ownsRow w0.heap.size 58 10 (.slice (some ⟨ob, 0, none⟩) (n + 1) cap) (n + 1) (xs ++ box10 l0 l1 l2 l3 l4 h0 h1 h2 h3 h4)) (hobR : ob ≠ R) :
    Calls Try.prog 37 #[.pointer (some ⟨R, 0, none⟩), .agg #[.int .i64 nv, .int .i64 na, v, .int .i64 d]] w fun e w' =>
      (e = .returned (.bool true) ∧ ((p.C.length : Int) ≤ nv ∨ divB [l0, l1, l2, l3, l4] [h0, h1, h2, h3, h4] nv.toNat na = false) ∧ Ext w0 w') ∨
      (e = .returned (.bool false) ∧ nv < p.C.length ∧ divB [l0, l1, l2, l3, l4] [h0, h1, h2, h3, h4] nv.toNat na = true ∧ Held (fun k => k < w.heap.size ∧ k ≠ R ∧ k ≠ ob) w w' ∧ ∃ ob' cap', VRow w' R 62 [a, b, c, u, g, .slice (some ⟨ob', 0, none⟩) (n + 2) cap'] ∧
        w'.ownsRow w0.heap.size 58 10 (.slice (some ⟨ob', 0, none⟩) (n + 2) cap') (n + 2) (xs ++ (([l0, l1, l2, l3, l4].set nv.toNat (na + 1) ++ [h0, h1, h2, h3, h4]).map (Value.int .i64) ++ ([l0, l1, l2, l3, l4] ++ [h0, h1, h2, h3, h4].set nv.toNat na).map (Value.int .i64)))) := by
  have hY := hy
  have hG := hg
  obtain ⟨aa, ca, rfl, hac, ham, _⟩ := h.1.1.at
  obtain ⟨ab, cb, rfl, hbc, hbm, _⟩ := h.1.2.1.at
  obtain ⟨ac, cc, rfl, hcc, hcm, _⟩ := h.1.2.2.at
  obtain ⟨au, cu, rfl, huc, hum, _⟩ := h.2.at
  obtain ⟨gb, gc, rfl, hgl, hgc, _⟩ := hg
  obtain ⟨ay, cy, rfl, hyc, hym, _⟩ := hy.at
  dsimp only at *
  have hRlt := hR.lt
  have hi : (n : Int) < ((n + 1 : Nat) : Int) := by omega
  have hne : ((n : Int) + 1 == 0) = false := by simp; omega
  have p5 := VRow.cell (VRow.alloc hR (.cells #[.int .i64 nv, .int .i64 na, .slice ay y.length cy, .int .i64 d] 40)) (k := 5) rfl
  have r5 := VRow.cell (VRow.alloc (VRow.alloc hR (.cells #[.int .i64 nv, .int .i64 na, .slice ay y.length cy, .int .i64 d] 40)) (.cells #[.int .i64 l0, .int .i64 l1, .int .i64 l2, .int .i64 l3, .int .i64 l4, .int .i64 h0, .int .i64 h1, .int .i64 h2, .int .i64 h3, .int .i64 h4] 58)) (k := 5) rfl
  have f5 := VRow.frozen (VRow.alloc (VRow.alloc hR (.cells #[.int .i64 nv, .int .i64 na, .slice ay y.length cy, .int .i64 d] 40)) (.cells #[.int .i64 l0, .int .i64 l1, .int .i64 l2, .int .i64 l3, .int .i64 l4, .int .i64 h0, .int .i64 h1, .int .i64 h2, .int .i64 h3, .int .i64 h4] 58)) 5 none
  have x0 := Ext.cell (Ext.alloc (Ext.refl w) (.cells #[.int .i64 nv, .int .i64 na, .slice ay y.length cy, .int .i64 d] 40)) (hbx 0 _ rfl)
  have x1 := Ext.cell (Ext.alloc (Ext.refl w) (.cells #[.int .i64 nv, .int .i64 na, .slice ay y.length cy, .int .i64 d] 40)) (hbx 1 _ rfl)
  have x2 := Ext.cell (Ext.alloc (Ext.refl w) (.cells #[.int .i64 nv, .int .i64 na, .slice ay y.length cy, .int .i64 d] 40)) (hbx 2 _ rfl)
  have x3 := Ext.cell (Ext.alloc (Ext.refl w) (.cells #[.int .i64 nv, .int .i64 na, .slice ay y.length cy, .int .i64 d] 40)) (hbx 3 _ rfl)
  have x4 := Ext.cell (Ext.alloc (Ext.refl w) (.cells #[.int .i64 nv, .int .i64 na, .slice ay y.length cy, .int .i64 d] 40)) (hbx 4 _ rfl)
  have x5 := Ext.cell (Ext.alloc (Ext.refl w) (.cells #[.int .i64 nv, .int .i64 na, .slice ay y.length cy, .int .i64 d] 40)) (hbx 5 _ rfl)
  have x6 := Ext.cell (Ext.alloc (Ext.refl w) (.cells #[.int .i64 nv, .int .i64 na, .slice ay y.length cy, .int .i64 d] 40)) (hbx 6 _ rfl)
  have x7 := Ext.cell (Ext.alloc (Ext.refl w) (.cells #[.int .i64 nv, .int .i64 na, .slice ay y.length cy, .int .i64 d] 40)) (hbx 7 _ rfl)
  have x8 := Ext.cell (Ext.alloc (Ext.refl w) (.cells #[.int .i64 nv, .int .i64 na, .slice ay y.length cy, .int .i64 d] 40)) (hbx 8 _ rfl)
  have x9 := Ext.cell (Ext.alloc (Ext.refl w) (.cells #[.int .i64 nv, .int .i64 na, .slice ay y.length cy, .int .i64 d] 40)) (hbx 9 _ rfl)
  rw [Nat.add_zero] at x0
  have hset := VRow.set hR 5 (.slice (some ⟨ob, 0, none⟩) n cap)
  simp only [List.set_cons_zero, List.set_cons_succ] at hset
  have hRq := VRow.alloc (VRow.alloc hset (.cells #[.int .i64 nv, .int .i64 na, .slice ay y.length cy, .int .i64 d] 40)) (.cells #[.int .i64 l0, .int .i64 l1, .int .i64 l2, .int .i64 l3, .int .i64 l4, .int .i64 h0, .int .i64 h1, .int .i64 h2, .int .i64 h3, .int .i64 h4] 58)
  have hNq := VRow.alloc (vrow_alloc (w.setCell ⟨R, 5, none⟩ (.slice (some ⟨ob, 0, none⟩) n cap)) [.int .i64 nv, .int .i64 na, .slice ay y.length cy, .int .i64 d] 40) (.cells #[.int .i64 l0, .int .i64 l1, .int .i64 l2, .int .i64 l3, .int .i64 l4, .int .i64 h0, .int .i64 h1, .int .i64 h2, .int .i64 h3, .int .i64 h4] 58)
  have hBq := vrow_alloc ((w.setCell ⟨R, 5, none⟩ (.slice (some ⟨ob, 0, none⟩) n cap)).alloc (.cells #[.int .i64 nv, .int .i64 na, .slice ay y.length cy, .int .i64 d] 40)) [.int .i64 l0, .int .i64 l1, .int .i64 l2, .int .i64 l3, .int .i64 l4, .int .i64 h0, .int .i64 h1, .int .i64 h2, .int .i64 h3, .int .i64 h4] 58
  simp only [World.size_alloc, World.size_setCell] at hNq hBq
  have hEq : Ext w0 (((w.setCell ⟨R, 5, none⟩ (.slice (some ⟨ob, 0, none⟩) n cap)).alloc (.cells #[.int .i64 nv, .int .i64 na, .slice ay y.length cy, .int .i64 d] 40)).alloc (.cells #[.int .i64 l0, .int .i64 l1, .int .i64 l2, .int .i64 l3, .int .i64 l4, .int .i64 h0, .int .i64 h1, .int .i64 h2, .int .i64 h3, .int .i64 h4] 58)) := ((Below.setCell (p := ⟨R, 5, none⟩) hE hR0 _).alloc (by simp only [World.size_setCell]; exact hE.size) _).alloc (by simp only [World.size_alloc, World.size_setCell]; have := hE.size; omega) _
  have hHq : Held (fun k => k < w.heap.size ∧ k ≠ R) w (((w.setCell ⟨R, 5, none⟩ (.slice (some ⟨ob, 0, none⟩) n cap)).alloc (.cells #[.int .i64 nv, .int .i64 na, .slice ay y.length cy, .int .i64 d] 40)).alloc (.cells #[.int .i64 l0, .int .i64 l1, .int .i64 l2, .int .i64 l3, .int .i64 l4, .int .i64 h0, .int .i64 h1, .int .i64 h2, .int .i64 h3, .int .i64 h4] 58)) :=
    ((held_set w R 5 _ (fun j hj => hj.2)).trans ((Held.of_below ((Below.refl _ _).alloc (Nat.le_refl _) _)).mono (fun j hj => by simp only [World.size_setCell]; exact hj.1))).trans ((Held.of_below ((Below.refl _ _).alloc (Nat.le_refl _) _)).mono (fun j hj => by simp only [World.size_alloc, World.size_setCell]; have := hj.1; omega))
  have HRq := Lib.hid hRq
  have HNq := Lib.hid hNq
  have HBq := Lib.hid hBq
  have HHq := Lib.hid hHq
  have HWq := Lib.hid (h.ext hEq)
  have HYq := Lib.hid (hY.ext hEq)
  have hnI : noInt w R := noInt_of hR (by intro z hz x; simp only [List.mem_cons, List.not_mem_nil, or_false] at hz; rcases hz with rfl | rfl | rfl | rfl | rfl | rfl <;> simp)
  have HGq := Lib.hid (((hG.off (held_set w R 5 (.slice (some ⟨ob, 0, none⟩) n cap) (fun j hj => hj.2)) hnI).ext (Ext.alloc (Ext.refl _) (.cells #[.int .i64 nv, .int .i64 na, .slice ay y.length cy, .int .i64 d] 40))).ext (Ext.alloc (Ext.refl _) (.cells #[.int .i64 l0, .int .i64 l1, .int .i64 l2, .int .i64 l3, .int .i64 l4, .int .i64 h0, .int .i64 h1, .int .i64 h2, .int .i64 h3, .int .i64 h4] 58)))
  clear hnI
  have Hv := Lib.hid hv
  have Hlb := Lib.hid hlb
  have Hhb := Lib.hid hhb
  have Hgs := Lib.hid hgs
  have HEq := Lib.hid hEq
  have HOWN := Lib.hid hown
  have HOW2 := Lib.hid (ownsRow_pop hxs hown)
  clear hown h hY hG hv hlb hhb hgs hset hRq hNq hBq hEq hHq hy hE hbx hR
  change Hid (VRow (((w.setCell ⟨R, 5, none⟩ (.slice (some ⟨ob, 0, none⟩) n cap)).alloc (.cells #[.int .i64 nv, .int .i64 na, .slice ay y.length cy, .int .i64 d] 40)).alloc (.cells #[.int .i64 l0, .int .i64 l1, .int .i64 l2, .int .i64 l3, .int .i64 l4, .int .i64 h0, .int .i64 h1, .int .i64 h2, .int .i64 h3, .int .i64 h4] 58)) _ _ _) at HBq HNq HRq
  go_enter Try.func37, Try.ntmps37
  go_wp2
  generalize (((w.setCell ⟨R, 5, none⟩ (.slice (some ⟨ob, 0, none⟩) n cap)).alloc (.cells #[.int .i64 nv, .int .i64 na, .slice ay y.length cy, .int .i64 d] 40)).alloc (.cells #[.int .i64 l0, .int .i64 l1, .int .i64 l2, .int .i64 l3, .int .i64 l4, .int .i64 h0, .int .i64 h1, .int .i64 h2, .int .i64 h3, .int .i64 h4] 58)) = wq at *
  generalize hws : w.heap.size = s at *
  by_cases hnc : (p.C.length : Int) ≤ nv
  · have qR2 := VRow.cell HRq.out (k := 2) rfl
    have qN0 := VRow.cell HNq.out (k := 0) rfl
    have Hnc := Lib.hid hnc
    have hnc2 : decide ((p.C.length : Int) ≤ nv) = true := decide_eq_true hnc
    go_quiet (fail)
    go_wp2_with fail
    go_ret
    exact .inl ⟨rfl, .inl Hnc.out, below_drewN HEq.out _⟩
  · have hC5 := (whoP Hv.out).1
    obtain ⟨j, rfl⟩ := Int.eq_ofNat_of_zero_le (show 0 ≤ nv by omega)
    have hj : j < 5 := by omega
    have hjc : j < p.C.length := by omega
    refine wp_region_stable [⟨[], none⟩, ⟨[(0, 48)], none⟩, ⟨[], none⟩, ⟨[(2, 50)], none⟩, ⟨[(3, 51)], none⟩, ⟨[(4, 52)], none⟩, ⟨[(5, 53)], none⟩, ⟨[(6, 54)], none⟩, ⟨[(7, 55)], none⟩, ⟨[(1, 49), (8, 56)], none⟩, ⟨[(9, 57)], none⟩, ⟨[(10, 58)], some (58, false)⟩, ⟨[(10, 58)], some (58, false)⟩, ⟨[(12, 60), (10, 58)], some (58, false)⟩, ⟨[(10, 58)], some (58, false)⟩, ⟨[(14, 62), (10, 58)], some (58, false)⟩, ⟨[(11, 59), (13, 61), (15, 63), (10, 58)], some (58, false)⟩, ⟨[(16, 64), (10, 58)], some (58, false)⟩, ⟨[(10, 58), (17, 65)], none⟩] (fun x y => Below x.heap.size x y) (MPat [MP.eq (.pointer (some ⟨s, 0, none⟩)), MP.eq (.int .i64 j), MP.eq (.pointer (some ⟨R, 0, none⟩)), MP.eq (.pointer (some ⟨R, 0, none⟩)), MP.eq (.pointer (some ⟨R, 0, none⟩)), MP.eq (.pointer (some ⟨R, 0, none⟩)), MP.eq (.pointer (some ⟨R, 2, none⟩)), MP.eq (.slice ac p.C.length cc), MP.eq (.int .i64 p.C.length), MP.eq (.bool false), MP.eq (.bool false), MP.eq (.agg #[.int .i64 l0, .int .i64 l1, .int .i64 l2, .int .i64 l3, .int .i64 l4, .int .i64 h0, .int .i64 h1, .int .i64 h2, .int .i64 h3, .int .i64 h4]), MP.eq (.pointer (some ⟨s, 0, none⟩)), MP.eq (.int .i64 j), MP.eq (.pointer (some ⟨s, 1, none⟩)), MP.eq (.int .i64 na), MP.eq (.bool (divB [l0, l1, l2, l3, l4] [h0, h1, h2, h3, h4] j na)), MP.eq (.bool (!(divB [l0, l1, l2, l3, l4] [h0, h1, h2, h3, h4] j na))), MP.eq (.bool (!(divB [l0, l1, l2, l3, l4] [h0, h1, h2, h3, h4] j na)))]) (by kernel_rfl) (fun _ _ _ h k => Ext.trans h k) (fun _ => Below.refl _ _) (fun x => (Below.refl x.heap.size x).drew) (MPat.mono _) (by kernel_rfl) ?obs ?rest
    case obs =>
      refine ⟨?_, ?_, ?_, ?_, ?_, ?_, ?_, ?_, ?_, ?_, ?_, ?_, ?_, ?_, ?_, ?_, ?_, ?_, ?_, trivial⟩
      · intro ev W hf _ _ hst hd
        have e3 : ev (.tmp 3) = .pointer (some ⟨s, 0, none⟩) := hf 3 (by kernel_rfl)
        refine st_value (v := .pointer (some ⟨s, 0, none⟩)) ?_ (Below.refl _ _) ?_
        · simp [execOp, go_sem, e3]
        · exact rfl
      · intro ev W hf _ _ hst hd
        obtain ⟨d48, _⟩ := hd
        have e48 : ev (.tmp 48) = .pointer (some ⟨s, 0, none⟩) := d48
        have kk := VRow.ext HNq.out hst
        have k0 := VRow.cell kk (k := 0) rfl
        refine st_value (v := .int .i64 j) ?_ (Below.refl _ _) ?_
        · simp [execOp, go_sem, e48, k0]
        · exact rfl
      · intro ev W hf _ _ hst hd
        have e0 : ev (.tmp 0) = .pointer (some ⟨R, 0, none⟩) := hf 0 (by kernel_rfl)
        refine st_value (v := .pointer (some ⟨R, 0, none⟩)) ?_ (Below.refl _ _) ?_
        · simp [execOp, go_sem, e0]
        · exact rfl
      · intro ev W hf _ _ hst hd
        obtain ⟨d50, _⟩ := hd
        have e50 : ev (.tmp 50) = .pointer (some ⟨R, 0, none⟩) := d50
        refine st_value (v := .pointer (some ⟨R, 0, none⟩)) ?_ (Below.refl _ _) ?_
        · simp [execOp, go_sem, e50]
        · exact rfl
      · intro ev W hf _ _ hst hd
        obtain ⟨d51, _⟩ := hd
        have e51 : ev (.tmp 51) = .pointer (some ⟨R, 0, none⟩) := d51
        refine st_value (v := .pointer (some ⟨R, 0, none⟩)) ?_ (Below.refl _ _) ?_
        · simp [execOp, go_sem, e51]
        · exact rfl
      · intro ev W hf _ _ hst hd
        obtain ⟨d52, _⟩ := hd
        have e52 : ev (.tmp 52) = .pointer (some ⟨R, 0, none⟩) := d52
        refine st_value (v := .pointer (some ⟨R, 0, none⟩)) ?_ (Below.refl _ _) ?_
        · simp [execOp, go_sem, e52]
        · exact rfl
      · intro ev W hf _ _ hst hd
        obtain ⟨d53, _⟩ := hd
        have e53 : ev (.tmp 53) = .pointer (some ⟨R, 0, none⟩) := d53
        refine st_value (v := .pointer (some ⟨R, 2, none⟩)) ?_ (Below.refl _ _) ?_
        · simp [execOp, go_sem, e53]
        · exact rfl
      · intro ev W hf _ _ hst hd
        obtain ⟨d54, _⟩ := hd
        have e54 : ev (.tmp 54) = .pointer (some ⟨R, 2, none⟩) := d54
        have kk := VRow.ext HRq.out hst
        have k2 := VRow.cell kk (k := 2) rfl
        refine st_value (v := .slice ac p.C.length cc) ?_ (Below.refl _ _) ?_
        · simp [execOp, go_sem, e54, k2]
        · exact rfl
      · intro ev W hf _ _ hst hd
        obtain ⟨d55, _⟩ := hd
        have e55 : ev (.tmp 55) = .slice ac p.C.length cc := d55
        refine st_value (v := .int .i64 p.C.length) ?_ (Below.refl _ _) ?_
        · simp [go_sem, e55]
        · exact rfl
      · intro ev W hf _ _ hst hd
        obtain ⟨d49, d56, _⟩ := hd
        have e49 : ev (.tmp 49) = .int .i64 j := d49
        have e56 : ev (.tmp 56) = .int .i64 p.C.length := d56
        refine st_value (v := .bool false) ?_ (Below.refl _ _) ?_
        · simp [execOp, go_sem, e49, e56, hjc]
        · exact rfl
      · intro ev W hf _ _ hst hd
        obtain ⟨d57, _⟩ := hd
        have e57 : ev (.tmp 57) = .bool false := d57
        refine st_value (v := .bool false) ?_ (Below.refl _ _) ?_
        · simp [execOp, go_sem, e57]
        · exact rfl
      · intro ev W hf _ _ hst hd
        obtain ⟨d58, _⟩ := hd
        have e6 : ev (.tmp 6) = .pointer (some ⟨s + 1, 0, none⟩) := hf 6 (by kernel_rfl)
        have e58 : ev (.tmp 58) = .bool false := d58
        refine ⟨fun _ => ?_, fun hne => absurd e58 hne⟩
        have kk := VRow.ext HBq.out hst
        have k0 := VRow.cell kk (k := 0) rfl
        have k1 := VRow.cell kk (k := 1) rfl
        have k2 := VRow.cell kk (k := 2) rfl
        have k3 := VRow.cell kk (k := 3) rfl
        have k4 := VRow.cell kk (k := 4) rfl
        have k5 := VRow.cell kk (k := 5) rfl
        have k6 := VRow.cell kk (k := 6) rfl
        have k7 := VRow.cell kk (k := 7) rfl
        have k8 := VRow.cell kk (k := 8) rfl
        have k9 := VRow.cell kk (k := 9) rfl
        refine st_value (v := .agg #[.int .i64 l0, .int .i64 l1, .int .i64 l2, .int .i64 l3, .int .i64 l4, .int .i64 h0, .int .i64 h1, .int .i64 h2, .int .i64 h3, .int .i64 h4]) ?_ (Below.refl _ _) ?_
        · simp [execOp, go_sem, e6, k0, k1, k2, k3, k4, k5, k6, k7, k8, k9]
        · exact rfl
      · intro ev W hf _ _ hst hd
        obtain ⟨d58, _⟩ := hd
        have e3 : ev (.tmp 3) = .pointer (some ⟨s, 0, none⟩) := hf 3 (by kernel_rfl)
        have e58 : ev (.tmp 58) = .bool false := d58
        refine ⟨fun _ => ?_, fun hne => absurd e58 hne⟩
        refine st_value (v := .pointer (some ⟨s, 0, none⟩)) ?_ (Below.refl _ _) ?_
        · simp [execOp, go_sem, e3]
        · exact rfl
      · intro ev W hf _ _ hst hd
        obtain ⟨d60, d58, _⟩ := hd
        have e60 : ev (.tmp 60) = .pointer (some ⟨s, 0, none⟩) := d60
        have e58 : ev (.tmp 58) = .bool false := d58
        refine ⟨fun _ => ?_, fun hne => absurd e58 hne⟩
        have kk := VRow.ext HNq.out hst
        have k0 := VRow.cell kk (k := 0) rfl
        refine st_value (v := .int .i64 j) ?_ (Below.refl _ _) ?_
        · simp [execOp, go_sem, e60, k0]
        · exact rfl
      · intro ev W hf _ _ hst hd
        obtain ⟨d58, _⟩ := hd
        have e3 : ev (.tmp 3) = .pointer (some ⟨s, 0, none⟩) := hf 3 (by kernel_rfl)
        have e58 : ev (.tmp 58) = .bool false := d58
        refine ⟨fun _ => ?_, fun hne => absurd e58 hne⟩
        refine st_value (v := .pointer (some ⟨s, 1, none⟩)) ?_ (Below.refl _ _) ?_
        · simp [execOp, go_sem, e3]
        · exact rfl
      · intro ev W hf _ _ hst hd
        obtain ⟨d62, d58, _⟩ := hd
        have e62 : ev (.tmp 62) = .pointer (some ⟨s, 1, none⟩) := d62
        have e58 : ev (.tmp 58) = .bool false := d58
        refine ⟨fun _ => ?_, fun hne => absurd e58 hne⟩
        have kk := VRow.ext HNq.out hst
        have k1 := VRow.cell kk (k := 1) rfl
        refine st_value (v := .int .i64 na) ?_ (Below.refl _ _) ?_
        · simp [execOp, go_sem, e62, k1]
        · exact rfl
      · intro ev W hf _ hfn hst hd
        obtain ⟨d59, d61, d63, d58, _⟩ := hd
        have e59 : ev (.tmp 59) = .agg #[.int .i64 l0, .int .i64 l1, .int .i64 l2, .int .i64 l3, .int .i64 l4, .int .i64 h0, .int .i64 h1, .int .i64 h2, .int .i64 h3, .int .i64 h4] := d59
        have e61 : ev (.tmp 61) = .int .i64 j := d61
        have e63 : ev (.tmp 63) = .int .i64 na := d63
        have e58 : ev (.tmp 58) = .bool false := d58
        refine ⟨fun _ => ?_, fun hne => absurd e58 hne⟩
        refine st_enter (f := 47) (args := #[.agg #[.int .i64 l0, .int .i64 l1, .int .i64 l2, .int .i64 l3, .int .i64 l4, .int .i64 h0, .int .i64 h1, .int .i64 h2, .int .i64 h3, .int .i64 h4], .int .i64 j, .int .i64 na]) (by simp [execOp, go_sem, hfn, e59, e61, e63]) ?_
        refine (divides_c l0 l1 l2 l3 l4 h0 h1 h2 h3 h4 j na W hj).mono ?_
        rintro e w' ⟨rfl, hE⟩
        exact ⟨_, rfl, hE, rfl⟩
      · intro ev W hf _ _ hst hd
        obtain ⟨d64, d58, _⟩ := hd
        have e64 : ev (.tmp 64) = .bool (divB [l0, l1, l2, l3, l4] [h0, h1, h2, h3, h4] j na) := d64
        have e58 : ev (.tmp 58) = .bool false := d58
        refine ⟨fun _ => ?_, fun hne => absurd e58 hne⟩
        refine st_value (v := .bool (!(divB [l0, l1, l2, l3, l4] [h0, h1, h2, h3, h4] j na))) ?_ (Below.refl _ _) ?_
        · simp [execOp, go_sem, e64]
        · exact rfl
      · intro ev W hf _ _ hst hd
        obtain ⟨d58, d65, _⟩ := hd
        have e58 : ev (.tmp 58) = .bool false := d58
        have e65 : ev (.tmp 65) = .bool (!(divB [l0, l1, l2, l3, l4] [h0, h1, h2, h3, h4] j na)) := d65
        refine st_value (v := .bool (!(divB [l0, l1, l2, l3, l4] [h0, h1, h2, h3, h4] j na))) ?_ (Below.refl _ _) ?_
        · simp [execOp, go_sem, e58, e65]
        · exact rfl
    case rest =>
      intro vs w3 hl hst hg
      have hlast : ∀ u, vs[18]? = some u → u = .bool (!(divB [l0, l1, l2, l3, l4] [h0, h1, h2, h3, h4] j na)) := fun u hu => hg 18 u hu
      have HE3 := Lib.hid hst
      clear hg hst
      obtain ⟨x0, vs0, rfl, hl0⟩ := len_succ hl
      obtain ⟨x1, vs1, rfl, hl1⟩ := len_succ hl0
      obtain ⟨x2, vs2, rfl, hl2⟩ := len_succ hl1
      obtain ⟨x3, vs3, rfl, hl3⟩ := len_succ hl2
      obtain ⟨x4, vs4, rfl, hl4⟩ := len_succ hl3
      obtain ⟨x5, vs5, rfl, hl5⟩ := len_succ hl4
      obtain ⟨x6, vs6, rfl, hl6⟩ := len_succ hl5
      obtain ⟨x7, vs7, rfl, hl7⟩ := len_succ hl6
      obtain ⟨x8, vs8, rfl, hl8⟩ := len_succ hl7
      obtain ⟨x9, vs9, rfl, hl9⟩ := len_succ hl8
      obtain ⟨x10, vs10, rfl, hl10⟩ := len_succ hl9
      obtain ⟨x11, vs11, rfl, hl11⟩ := len_succ hl10
      obtain ⟨x12, vs12, rfl, hl12⟩ := len_succ hl11
      obtain ⟨x13, vs13, rfl, hl13⟩ := len_succ hl12
      obtain ⟨x14, vs14, rfl, hl14⟩ := len_succ hl13
      obtain ⟨x15, vs15, rfl, hl15⟩ := len_succ hl14
      obtain ⟨x16, vs16, rfl, hl16⟩ := len_succ hl15
      obtain ⟨x17, vs17, rfl, hl17⟩ := len_succ hl16
      obtain ⟨x18, vs18, rfl, hl18⟩ := len_succ hl17
      have hnil : vs18 = [] := List.length_eq_zero_iff.1 hl18
      subst hnil
      obtain rfl := hlast _ rfl
      clear hlast
      simp only [putAll, Act.put, List.setIfInBounds_toArray, List.set_cons_zero, List.set_cons_succ]
      cases hD : divB [l0, l1, l2, l3, l4] [h0, h1, h2, h3, h4] j na
      · have HD := Lib.hid hD
        clear hD
        go_wp2_with fail
        go_ret
        exact .inl ⟨rfl, .inr HD.out, HEq.out.trans HE3.out⟩
      · have HD := Lib.hid hD
        clear hD
        obtain ⟨m0, m1, m2, m3, m4, hm⟩ := five (l := [h0, h1, h2, h3, h4].set j na) (by simp)
        obtain ⟨n0, n1, n2, n3, n4, hn⟩ := five (l := [l0, l1, l2, l3, l4].set j (na + 1)) (by simp)
        have hat := div_bd Hhb.out Hlb.out HD.out
        have HV3 := Lib.hid (VRow.ext HNq.out HE3.out)
        have HB3 := Lib.hid (VRow.ext HBq.out HE3.out)
        have qN0 := VRow.cell HV3.out (k := 0) rfl
        have qN1 := VRow.cell HV3.out (k := 1) rfl
        have qB0 := VRow.cell HB3.out (k := 0) rfl
        have qB1 := VRow.cell HB3.out (k := 1) rfl
        have qB2 := VRow.cell HB3.out (k := 2) rfl
        have qB3 := VRow.cell HB3.out (k := 3) rfl
        have qB4 := VRow.cell HB3.out (k := 4) rfl
        have qB5 := VRow.cell HB3.out (k := 5) rfl
        have qB6 := VRow.cell HB3.out (k := 6) rfl
        have qB7 := VRow.cell HB3.out (k := 7) rfl
        have qB8 := VRow.cell HB3.out (k := 8) rfl
        have qB9 := VRow.cell HB3.out (k := 9) rfl
        go_wp2_with fail
        clear qN0 qN1 qB0 qB1 qB2 qB3 qB4 qB5 qB6 qB7 qB8 qB9
        refine (split_c l0 l1 l2 l3 l4 h0 h1 h2 h3 h4 m0 m1 m2 m3 m4 n0 n1 n2 n3 n4 j na w3 hj hm hn (by omega)).mono ?_
        rintro e w4 ⟨rfl, hE4⟩
        have HE4 := Lib.hid (Ext.trans HE3.out hE4)
        clear hE4
        have r5 := VRow.alloc (VRow.alloc (VRow.ext HRq.out HE4.out) (.cells #[.int .i64 l0, .int .i64 l1, .int .i64 l2, .int .i64 l3, .int .i64 l4, .int .i64 m0, .int .i64 m1, .int .i64 m2, .int .i64 m3, .int .i64 m4] 58)) (.cells #[.int .i64 n0, .int .i64 n1, .int .i64 n2, .int .i64 n3, .int .i64 n4, .int .i64 h0, .int .i64 h1, .int .i64 h2, .int .i64 h3, .int .i64 h4] 58)
        have lo5 := VRow.alloc (vrow_alloc w4 [.int .i64 l0, .int .i64 l1, .int .i64 l2, .int .i64 l3, .int .i64 l4, .int .i64 m0, .int .i64 m1, .int .i64 m2, .int .i64 m3, .int .i64 m4] 58) (.cells #[.int .i64 n0, .int .i64 n1, .int .i64 n2, .int .i64 n3, .int .i64 n4, .int .i64 h0, .int .i64 h1, .int .i64 h2, .int .i64 h3, .int .i64 h4] 58)
        have up5 := vrow_alloc (w4.alloc (.cells #[.int .i64 l0, .int .i64 l1, .int .i64 l2, .int .i64 l3, .int .i64 l4, .int .i64 m0, .int .i64 m1, .int .i64 m2, .int .i64 m3, .int .i64 m4] 58)) [.int .i64 n0, .int .i64 n1, .int .i64 n2, .int .i64 n3, .int .i64 n4, .int .i64 h0, .int .i64 h1, .int .i64 h2, .int .i64 h3, .int .i64 h4] 58
        have e5 := Ext.alloc (Ext.alloc HE4.out (.cells #[.int .i64 l0, .int .i64 l1, .int .i64 l2, .int .i64 l3, .int .i64 l4, .int .i64 m0, .int .i64 m1, .int .i64 m2, .int .i64 m3, .int .i64 m4] 58)) (.cells #[.int .i64 n0, .int .i64 n1, .int .i64 n2, .int .i64 n3, .int .i64 n4, .int .i64 h0, .int .i64 h1, .int .i64 h2, .int .i64 h3, .int .i64 h4] 58)
        rw [World.size_alloc] at up5
        change VRow ((w4.alloc (.cells #[.int .i64 l0, .int .i64 l1, .int .i64 l2, .int .i64 l3, .int .i64 l4, .int .i64 m0, .int .i64 m1, .int .i64 m2, .int .i64 m3, .int .i64 m4] 58)).alloc (.cells #[.int .i64 n0, .int .i64 n1, .int .i64 n2, .int .i64 n3, .int .i64 n4, .int .i64 h0, .int .i64 h1, .int .i64 h2, .int .i64 h3, .int .i64 h4] 58)) _ _ _ at lo5 up5
        go_wp2_with fail
        have HR5 := Lib.hid r5
        have HL5 := Lib.hid lo5
        have HU5 := Lib.hid up5
        have HE5 := Lib.hid e5
        clear r5 lo5 up5 e5
        generalize ((w4.alloc (.cells #[.int .i64 l0, .int .i64 l1, .int .i64 l2, .int .i64 l3, .int .i64 l4, .int .i64 m0, .int .i64 m1, .int .i64 m2, .int .i64 m3, .int .i64 m4] 58)).alloc (.cells #[.int .i64 n0, .int .i64 n1, .int .i64 n2, .int .i64 n3, .int .i64 n4, .int .i64 h0, .int .i64 h1, .int .i64 h2, .int .i64 h3, .int .i64 h4] 58)) = w5 at *
        generalize w4.heap.size = s4 at *
        have qL0 := VRow.cell HL5.out (k := 0) rfl
        have qU0 := VRow.cell HU5.out (k := 0) rfl
        have qL1 := VRow.cell HL5.out (k := 1) rfl
        have qU1 := VRow.cell HU5.out (k := 1) rfl
        have qL2 := VRow.cell HL5.out (k := 2) rfl
        have qU2 := VRow.cell HU5.out (k := 2) rfl
        have qL3 := VRow.cell HL5.out (k := 3) rfl
        have qU3 := VRow.cell HU5.out (k := 3) rfl
        have qL4 := VRow.cell HL5.out (k := 4) rfl
        have qU4 := VRow.cell HU5.out (k := 4) rfl
        have qL5 := VRow.cell HL5.out (k := 5) rfl
        have qU5 := VRow.cell HU5.out (k := 5) rfl
        have qL6 := VRow.cell HL5.out (k := 6) rfl
        have qU6 := VRow.cell HU5.out (k := 6) rfl
        have qL7 := VRow.cell HL5.out (k := 7) rfl
        have qU7 := VRow.cell HU5.out (k := 7) rfl
        have qL8 := VRow.cell HL5.out (k := 8) rfl
        have qU8 := VRow.cell HU5.out (k := 8) rfl
        have qL9 := VRow.cell HL5.out (k := 9) rfl
        have qU9 := VRow.cell HU5.out (k := 9) rfl
        have qR5 := VRow.cell HR5.out (k := 5) rfl
        have qRf := VRow.frozen HR5.out 5 none
        have hl1 := HR5.out.lt
        have hl2 := HL5.out.lt
        have hl3 := HU5.out.lt
        have hg5 : w.grownBy w5 (some R) := split_grown HHq.out HE5.out hws
        have hob : w0.heap.size ≤ ob := (HOW2.out.lt ob rfl).1
        have hown5 : w5.ownsRow w0.heap.size 58 10 (.slice (some ⟨ob, 0, none⟩) n cap) n xs := HOW2.out.kept hg5 (.inr (by simp [Value.ownBlock, hobR]))
        have HO5 := Lib.hid hown5
        have HG5 := Lib.hid hg5
        have hsz5 : w0.heap.size ≤ w5.heap.size := Nat.le_trans HEq.out.size HE5.out.size
        have hown9 : ∀ o : Obj, (w5.alloc o).drew.ownsRow w0.heap.size 58 10 (.slice (some ⟨ob, 0, none⟩) n cap) n xs := fun o => World.ownsRow.alloc (w := w5) HO5.out o
        have hbase9 : ∀ o : Obj, w0.heap.size ≤ (w5.alloc o).drew.heap.size := fun o => by show _ ≤ (w5.alloc o).heap.size; rw [World.size_alloc]; omega
        have hmax9 : n + 2 ≤ maxLen := by unfold maxLen; omega
        have hby9 : (n + 2) * 80 ≤ 140737488355328 := by omega
        have hone9 : ∀ ys : List Int, ∀ z ∈ ys.map (Value.int .i64), z.oneCell' = true := fun ys z hz => by obtain ⟨y, _, rfl⟩ := List.mem_map.1 hz; rfl
        have hnew9 : ∀ j z, [.int .i64 n0, .int .i64 n1, .int .i64 n2, .int .i64 n3, .int .i64 n4, .int .i64 h0, .int .i64 h1, .int .i64 h2, .int .i64 h3, .int .i64 h4, .int .i64 l0, .int .i64 l1, .int .i64 l2, .int .i64 l3, .int .i64 l4, .int .i64 m0, .int .i64 m1, .int .i64 m2, .int .i64 m3, .int .i64 m4][j]? = some z → (w5.alloc (.cells #[.int .i64 n0, .int .i64 n1, .int .i64 n2, .int .i64 n3, .int .i64 n4, .int .i64 h0, .int .i64 h1, .int .i64 h2, .int .i64 h3, .int .i64 h4, .int .i64 l0, .int .i64 l1, .int .i64 l2, .int .i64 l3, .int .i64 l4, .int .i64 m0, .int .i64 m1, .int .i64 m2, .int .i64 m3, .int .i64 m4] 58)).drew.cell? ((⟨w5.heap.size, 0, none⟩ : Addr).add j) = some z := new_row w5 [.int .i64 n0, .int .i64 n1, .int .i64 n2, .int .i64 n3, .int .i64 n4, .int .i64 h0, .int .i64 h1, .int .i64 h2, .int .i64 h3, .int .i64 h4, .int .i64 l0, .int .i64 l1, .int .i64 l2, .int .i64 l3, .int .i64 l4, .int .i64 m0, .int .i64 m1, .int .i64 m2, .int .i64 m3, .int .i64 m4] 58
        obtain ⟨i0, hi, hz0, hz1, hz2⟩ := info_parts Try.info58
        clear hown5 hg5
        go_region_law (refine step_append_lies _ rfl (.tmp 80) (.tmp 83) 60 rfl w0.heap.size 58 i0 (.agg #[.int .i64 0, .int .i64 0, .int .i64 0, .int .i64 0, .int .i64 0, .int .i64 0, .int .i64 0, .int .i64 0, .int .i64 0, .int .i64 0]) 10 80 Try.underlying60 hi hz0 hz1 hz2 rfl (Nat.zero_lt_succ 9) (.slice (some ⟨ob, 0, none⟩) n cap) n xs rfl (hown9 _) ⟨w5.heap.size, 0, none⟩ 2 2 [.int .i64 n0, .int .i64 n1, .int .i64 n2, .int .i64 n3, .int .i64 n4, .int .i64 h0, .int .i64 h1, .int .i64 h2, .int .i64 h3, .int .i64 h4, .int .i64 l0, .int .i64 l1, .int .i64 l2, .int .i64 l3, .int .i64 l4, .int .i64 m0, .int .i64 m1, .int .i64 m2, .int .i64 m3, .int .i64 m4] rfl rfl hnew9 (hone9 [n0, n1, n2, n3, n4, h0, h1, h2, h3, h4, l0, l1, l2, l3, l4, m0, m1, m2, m3, m4]) (Nat.zero_lt_succ 1) hmax9 hby9 (hbase9 _) _ rfl ?_; intro g9 cap9 w8 hown8 hgrow hat8 hlt8; have v8 := VRow.grown (VRow.drew (VRow.alloc HR5.out (.cells #[.int .i64 n0, .int .i64 n1, .int .i64 n2, .int .i64 n3, .int .i64 n4, .int .i64 h0, .int .i64 h1, .int .i64 h2, .int .i64 h3, .int .i64 h4, .int .i64 l0, .int .i64 l1, .int .i64 l2, .int .i64 l3, .int .i64 l4, .int .i64 m0, .int .i64 m1, .int .i64 m2, .int .i64 m3, .int .i64 m4] 58))) hgrow (split_ne hobR); have m58 := VRow.cell v8 (k := 5) rfl; have mf8 := VRow.frozen v8 5 none; have HO8 := Lib.hid hown8; have HV8 := Lib.hid v8; have HG8 := Lib.hid hgrow; have HA8 := Lib.hid hat8; clear hown8 hgrow hat8 v8)
        all_goals (go_wp2_with fail; go_ret; refine .inr ⟨rfl, by omega, by simpa using HD.out, ?_⟩; simp only [Int.toNat_natCast]; rw [hm, hn]; exact split_fin HG5.out HG8.out HV8.out HO8.out HA8.out hl1 hobR)
end Go.Proofs.Ytblaipkhmmaenaa
