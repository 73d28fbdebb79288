import Derived.Test.YtbcngojiikdigaaGreatL31
namespace Go.Proofs.YtbcngojiikdigaaGreat
set_option maxRecDepth 100000
open Go.RowKit Go.Shelf
theorem lplus_c (x y : E) (w : World) (hx : bdE KB x) (hy : bdE KB y) : Calls Tryz.prog 76 #[iv x, iv y] w fun e w' => e = .returned (iv (ep x y)) ∧ Ext w w' := by
  cases x with
  | none =>
    show Calls Tryz.prog 76 #[.int .i64 (-1152921504606846976), iv y] w fun e w' => e = .returned (.int .i64 (-1152921504606846976)) ∧ Ext w w'
    go_enter Tryz.func76, Tryz.ntmps76
    go_wp2_with fail
    go_ret
    exact ⟨rfl, Ext.refl _⟩
  | some a =>
    have ha := hx a rfl
    have hae : (a == -1152921504606846976) = false := by rw [beq_eq_false_iff_ne]; exact val_some_ne (by decide) hx
    cases y with
    | none =>
      show Calls Tryz.prog 76 #[.int .i64 a, .int .i64 (-1152921504606846976)] w fun e w' => e = .returned (.int .i64 (-1152921504606846976)) ∧ Ext w w'
      go_enter Tryz.func76, Tryz.ntmps76
      go_wp2_with fail
      go_ret
      exact ⟨rfl, Ext.refl _⟩
    | some b =>
      have hb := hy b rfl
      have hbe : (b == -1152921504606846976) = false := by rw [beq_eq_false_iff_ne]; exact val_some_ne (by decide) hy
      unfold KB at ha hb
      show Calls Tryz.prog 76 #[.int .i64 a, .int .i64 b] w fun e w' => e = .returned (.int .i64 (a + b)) ∧ Ext w w'
      go_enter Tryz.func76, Tryz.ntmps76
      go_wp2_with fail
      go_ret
      exact ⟨rfl, Ext.refl _⟩
theorem val_em_max {x y : E} (hx : bdE KB x) (hy : bdE KB y) : val (em x y) = if val x < val y then val y else val x := by
  cases x with
  | none =>
    cases y with
    | none => rfl
    | some b =>
      have := hy b rfl
      show b = if NV < b then b else NV
      rw [if_pos (by unfold KB at this; unfold NV; omega)]
  | some a =>
    cases y with
    | none =>
      have := hx a rfl
      show a = if a < NV then NV else a
      rw [if_neg (by unfold KB at this; unfold NV; omega)]
    | some b => rfl
theorem info22 : (Tryz.prog.info? 23).map (fun i => (i.zero, i.size, i.bytes)) = some (some (.slice none 0 0), 1, 24) := by kernel_rfl
/-- the rows so far, each in a list of its own, in a list of one's own -/
def OutTo (base : Nat) (w : World) (v : Value) (n k : Nat) (M : MF) : Prop :=
  ∃ vs : List Value, w.ownsRow base 23 1 v k vs ∧ ∀ (i : Nat) (u : Value), vs[i]? = some u → w.ownsRow base 3 1 u n ((listV n (M i)).map (Value.int .i64))
/-- the numbers so far, in a list of one's own -/
def RowOwn (base : Nat) (w : World) (v : Value) (k : Nat) (x : Nat → E) : Prop := w.ownsRow base 3 1 v k ((listV k x).map (Value.int .i64))
theorem listV_succ (k : Nat) (x : Nat → E) : listV (k + 1) x = listV k x ++ [val (x k)] := by simp [listV, List.range_succ]
theorem own_keep {w w' : World} {base n : Nat} {row : Option Nat} {u : Value} {xs : List Value} (h : w.ownsRow base 3 1 u n xs) (hr : ∀ g, row = some g → ∃ c f, w.heap[g]? = some (.cells c 23 f)) (hg : w.grownBy w' row) : w'.ownsRow base 3 1 u n xs := by
  refine ⟨h.1, ?_⟩
  rcases h.2 with h | ⟨g, cap, cur, hv, hb, hc, r⟩
  · exact .inl h
  · refine .inr ⟨g, cap, cur, hv, hb, (hg.block g (Array.getElem?_eq_some_iff.1 hc).1 (fun e => ?_)).trans hc, r⟩
    obtain ⟨c, f, h1⟩ := hr g e.symm
    rw [h1] at hc
    injection hc with hc
    injection hc with _ hc
    exact absurd hc (by decide)
theorem own_type {w : World} {base n : Nat} {v : Value} {xs : List Value} (h : w.ownsRow base 23 1 v n xs) : ∀ g, v.ownBlock = some g → ∃ c f, w.heap[g]? = some (.cells c 23 f) := fun g hg => by
  rcases h.2 with ⟨h, _⟩ | ⟨g', cap, cur, hv, hb, hc, _⟩
  · subst h; cases hg
  · subst hv; simp [Value.ownBlock] at hg; subst hg; exact ⟨_, _, hc⟩
theorem own_ints2 {w : World} {base : Nat} {u : Value} {xs : List Int} (h : w.ownsRow base 3 1 u xs.length (xs.map (Value.int .i64))) (hm : xs.length ≤ 1000000) : Ints w u xs := by
  rcases h.2 with ⟨hv, hn⟩ | ⟨g, cap, cur, hv, hg, hc, hnc, hmx, hsz, htk⟩
  · have : xs = [] := List.length_eq_zero_iff.1 hn
    subst this
    exact ⟨none, 0, hv, Nat.le_refl _, by omega, .inl rfl⟩
  · unfold maxLen at hmx
    refine ⟨_, cap, hv, hnc, by omega, .inr ⟨g, 0, rfl, fun k q hk => ?_⟩⟩
    have hlt := lt_len hk
    rw [← htk] at hk
    rw [List.length_map] at hlt
    rw [List.getElem?_take_of_lt (by omega), Array.getElem?_toList] at hk
    simp [World.cell?, hc, hk]
theorem own_vals {w : World} {base e n : Nat} {v : Value} {vs : List Value} (h : w.ownsRow base e 1 v n vs) : ∃ a cap, v = .slice a n cap ∧ n ≤ cap ∧ cap ≤ 9223372036854775807 ∧ Row w a vs ∧ vs.length = n := by
  obtain ⟨h1, h⟩ := h
  rw [Nat.mul_one] at h1
  rcases h with ⟨hv, hn⟩ | ⟨g, cap, cur, hv, hg, hc, hnc, hmx, hsz, htk⟩
  · subst hn
    exact ⟨none, 0, hv, Nat.le_refl _, by omega, .inl (List.length_eq_zero_iff.1 h1), h1⟩
  · unfold maxLen at hmx
    refine ⟨_, cap, hv, hnc, by omega, .inr ⟨g, 0, rfl, fun k q hk => ?_⟩, h1⟩
    have hlt := lt_len hk
    rw [← htk] at hk
    rw [List.getElem?_take_of_lt (by omega), Array.getElem?_toList] at hk
    simp [World.cell?, hc, hk]
theorem OutTo.rows {base n : Nat} {w : World} {v : Value} {M : MF} (h : OutTo base w v n n M) (hn : n ≤ 1000000) : Rows2 w v (listM n M) := by
  obtain ⟨vs, h1, h2⟩ := h
  obtain ⟨a, cap, hv, h3, h4, h5, h6⟩ := own_vals h1
  refine ⟨a, cap, vs, by rw [listM_len]; exact hv, by rw [listM_len]; exact h3, h4, h5, by rw [listM_len]; exact h6, fun k u x hu hx => ?_⟩
  have hl := lt_len hu
  rw [listM_at M (by omega)] at hx
  injection hx with hx
  subst hx
  have := h2 k u hu
  exact own_ints2 (by rw [listV_len]; exact this) (by rw [listV_len]; exact hn)
theorem OutTo.ext {base n k : Nat} {w w' : World} {v : Value} {M : MF} (h : OutTo base w v n k M) (he : Ext w w') : OutTo base w' v n k M := by
  obtain ⟨vs, h1, h2⟩ := h
  exact ⟨vs, ownsRow_ext h1 he, fun i u hu => ownsRow_ext (h2 i u hu) he⟩
theorem own_mono {w : World} {base c e n : Nat} {v : Value} {xs : List Value} (h : w.ownsRow base e 1 v n xs) (hc : c ≤ base) : w.ownsRow c e 1 v n xs := by
  refine ⟨h.1, ?_⟩
  rcases h.2 with h | ⟨g, cap, cur, hv, hb, r⟩
  · exact .inl h
  · exact .inr ⟨g, cap, cur, hv, by omega, r⟩
set_option maxHeartbeats 8000000 in
theorem product_c (u v : Value) (n : Nat) (A B : MF) (w : World) (hn1 : 1 ≤ n) (hn : n ≤ 6) (hA : MatAt w u n A) (hB : MatAt w v n B) (bA : bdF KB n A) (bB : bdF KB n B) (bM : ∀ i, i < n → ∀ j, j < n → ∀ k, k < n → bdE KB (ep (A i k) (B k j))) :
    Calls Tryz.prog 38 #[u, v] w fun e w' => ∃ r, e = .returned r ∧ Rows2 w' r (listM n (mulF n A B)) ∧ Ext w w' := by
  have HA := Lib.hid hA
  have HB := Lib.hid hB
  have HBA := Lib.hid bA
  have HBB := Lib.hid bB
  have HBM := Lib.hid bM
  obtain ⟨ab, ao, ac, rfl, ha1, ha2, ha3⟩ := hA
  obtain ⟨bb, bo, bc, rfl, hb1, hb2, hb3⟩ := hB
  have HA3 := Lib.hid ha3
  have HB3 := Lib.hid hb3
  clear bA bB bM ha3 hb3
  go_enter Tryz.func38, Tryz.ntmps38
  go_wp2_with fail
  go_loopw [6, 5] (fun i ov wr => ∃ k : Nat, i = .int .i64 (k : Int) ∧ k ≤ n ∧ OutTo w.heap.size wr ov n k (mulF n A B) ∧ Ext w wr) (fun i _ _ => n - (intOf i).toNat)
  case atStart => exact ⟨0, rfl, Nat.zero_le _, ⟨[], ⟨rfl, .inl ⟨rfl, rfl⟩⟩, fun i u h => by simp at h⟩, Ext.refl _⟩
  case round =>
    rename World => wr
    obtain ⟨k, rfl, hk, hO, hE⟩ := hrel
    have HO := Lib.hid hO
    obtain ⟨vs, ho, hvs⟩ := hO
    obtain ⟨oa, oc, rfl⟩ := own_slice ho
    have HOW := Lib.hid ho
    have HVS := Lib.hid hvs
    have HE := Lib.hid hE
    clear ho hvs hE
    have hwr := HE.out.size
    by_cases hlt : k < n
    · obtain ⟨ra, ca, hra⟩ := HA3.out k hlt
      have HCA := Lib.hid (Ext.cell HE.out ca)
      have HRA := Lib.hid (hra.ext HE.out)
      obtain ⟨rb, ro, rc, rfl, hr1, hr2, hr3⟩ := hra
      clear ca hr3
      go_wp2_with fail
      go_loopw [8, 7] (fun jv rv wq => ∃ j : Nat, jv = .int .i64 (j : Int) ∧ j ≤ n ∧ RowOwn wr.heap.size wq rv j (mulF n A B k) ∧ Ext wr wq) (fun jv _ _ => n - (intOf jv).toNat)
      case atStart => exact ⟨0, rfl, Nat.zero_le _, ⟨rfl, .inl ⟨rfl, rfl⟩⟩, Ext.refl _⟩
      case round =>
        rename World => wq
        obtain ⟨j, rfl, hj, hR, hEq⟩ := hrel
        obtain ⟨sa, sc, rfl⟩ := own_slice hR
        have HR := Lib.hid hR
        have HEq := Lib.hid hEq
        clear hR hEq
        have hwq := HEq.out.size
        by_cases hjl : j < n
        · go_wp2_with fail
          go_loopw [10, 9] (fun tv bv wt => ∃ t : Nat, tv = .int .i64 (t : Int) ∧ t ≤ n ∧ bv = iv (es (fun t => ep (A k t) (B t j)) t) ∧ Ext wq wt) (fun tv _ _ => n - (intOf tv).toNat)
          case atStart => exact ⟨0, rfl, Nat.zero_le _, rfl, Ext.refl _⟩
          case round =>
            rename World => wt
            obtain ⟨t, rfl, ht, rfl, hEt⟩ := hrel
            have HEt := Lib.hid hEt
            clear hEt
            have HES := Lib.hid (show es (fun t => ep (A k t) (B t j)) (t + 1) = em (es (fun t => ep (A k t) (B t j)) t) (ep (A k t) (B t j)) from rfl)
            by_cases htl : t < n
            · have hET := Ext.trans HE.out (Ext.trans HEq.out HEt.out)
              obtain ⟨rb2, cb2, hrb2⟩ := HB3.out t htl
              obtain ⟨sb2, so2, sc2, rfl, hs1, hs2, hs3⟩ := hrb2
              have HC1 := Lib.hid (Ext.cell (Ext.trans HEq.out HEt.out) HCA.out)
              have HC2 := Lib.hid (show wt.cell? ⟨rb, ro + t, none⟩ = some (iv (A k t)) from by
                obtain ⟨b', o', c', e, _, _, h⟩ := HRA.out.ext (Ext.trans HEq.out HEt.out)
                simp only [Value.slice.injEq, Option.some.injEq, Addr.mk.injEq] at e
                obtain ⟨⟨rfl, rfl, _⟩, _⟩ := e
                exact h t htl)
              have HC3 := Lib.hid (Ext.cell hET cb2)
              have HC4 := Lib.hid (Ext.cell hET (hs3 j hjl))
              have HB1 := Lib.hid (show bdE KB (es (fun t => ep (A k t) (B t j)) t) from bdE_es fun s hs => HBM.out k hlt j hjl s (by omega))
              have HB2 := Lib.hid (HBM.out k hlt j hjl t htl)
              have HPL := Lib.hid (fun W => lplus_c (A k t) (B t j) W (HBA.out k hlt t htl) (HBB.out t htl j hjl))
              clear hET cb2 hs3
              obtain ⟨es1, he1⟩ : ∃ e, e = es (fun t => ep (A k t) (B t j)) (t + 1) := ⟨_, rfl⟩
              rw [← he1] at HES
              have HQ1 := Lib.hid he1
              clear he1
              generalize es (fun t => ep (A k t) (B t j)) t = es0 at *
              generalize ep (A k t) (B t j) = pz at *
              generalize A k t = akt at *
              generalize B t j = btj at *
              have HMX := Lib.hid (val_em_max HB1.out HB2.out)
              go_wp2_with fail
              refine wp_region_stable_last [⟨[], none⟩, ⟨[], none⟩, ⟨[], none⟩, ⟨[(1, 30), (2, 31)], none⟩, ⟨[(3, 32)], none⟩, ⟨[], none⟩, ⟨[(4, 33), (5, 34)], none⟩, ⟨[(6, 35)], none⟩, ⟨[], none⟩, ⟨[], none⟩, ⟨[(8, 37), (9, 38)], none⟩, ⟨[(10, 39)], none⟩, ⟨[], none⟩, ⟨[(11, 40), (12, 41)], none⟩, ⟨[(13, 42)], none⟩, ⟨[(7, 36), (14, 43)], none⟩, ⟨[(0, 29), (15, 44)], none⟩] (fun x y => Below x.heap.size x y) (MPat [MP.eq (iv es0), MP.eq (.slice (some ⟨ab, ao, none⟩) n ac), MP.eq (.int .i64 (k : Int)), MP.eq (.pointer (some ⟨ab, ao + k, none⟩)), MP.eq (.slice (some ⟨rb, ro, none⟩) n rc), MP.eq (.int .i64 (t : Int)), MP.eq (.pointer (some ⟨rb, ro + t, none⟩)), MP.eq (iv akt), MP.eq (.slice (some ⟨bb, bo, none⟩) n bc), MP.eq (.int .i64 (t : Int)), MP.eq (.pointer (some ⟨bb, bo + t, none⟩)), MP.eq (.slice (some ⟨sb2, so2, none⟩) n sc2), MP.eq (.int .i64 (j : Int)), MP.eq (.pointer (some ⟨sb2, so2 + j, none⟩)), MP.eq (iv btj), MP.eq (iv pz), MP.eq (iv es1)]) rfl (by kernel_rfl) (fun _ _ _ h k => Ext.trans h k) (fun _ => Below.refl _ _) (fun x => (Below.refl x.heap.size x).drew) (MPat.mono _) (by kernel_rfl) (by kernel_rfl) (by kernel_rfl) ?obs ?rest
              case obs =>
                refine ⟨?_, ?_, ?_, ?_, ?_, ?_, ?_, ?_, ?_, ?_, ?_, ?_, ?_, ?_, ?_, ?_, ?_, trivial⟩
                · intro ev W hf _ _ hst hd
                  have e9 : ev (.tmp 9) = iv es0 := hf 9 (by kernel_rfl)
                  refine st_value (v := iv es0) ?_ (Below.refl _ _) ?_
                  · simp [execOp, go_sem, e9]
                  · exact rfl
                · intro ev W hf _ _ hst hd
                  have e0 : ev (.tmp 0) = .slice (some ⟨ab, ao, none⟩) n ac := hf 0 (by kernel_rfl)
                  refine st_value (v := .slice (some ⟨ab, ao, none⟩) n ac) ?_ (Below.refl _ _) ?_
                  · simp [execOp, go_sem, e0]
                  · exact rfl
                · intro ev W hf _ _ hst hd
                  have e6 : ev (.tmp 6) = .int .i64 (k : Int) := hf 6 (by kernel_rfl)
                  refine st_value (v := .int .i64 (k : Int)) ?_ (Below.refl _ _) ?_
                  · simp [execOp, go_sem, e6]
                  · exact rfl
                · intro ev W hf _ _ hst hd
                  obtain ⟨d30, d31, _⟩ := hd
                  have e30 : ev (.tmp 30) = .slice (some ⟨ab, ao, none⟩) n ac := d30
                  have e31 : ev (.tmp 31) = .int .i64 (k : Int) := d31
                  refine st_value (v := .pointer (some ⟨ab, ao + k, none⟩)) ?_ (Below.refl _ _) ?_
                  · simp [execOp, go_sem, e30, e31, hlt]
                  · exact rfl
                · intro ev W hf _ _ hst hd
                  obtain ⟨d32, _⟩ := hd
                  have e32 : ev (.tmp 32) = .pointer (some ⟨ab, ao + k, none⟩) := d32
                  have q0 := Ext.cell hst HC1.out
                  refine st_value (v := .slice (some ⟨rb, ro, none⟩) n rc) ?_ (Below.refl _ _) ?_
                  · simp [execOp, go_sem, e32, q0]
                  · exact rfl
                · intro ev W hf _ _ hst hd
                  have e10 : ev (.tmp 10) = .int .i64 (t : Int) := hf 10 (by kernel_rfl)
                  refine st_value (v := .int .i64 (t : Int)) ?_ (Below.refl _ _) ?_
                  · simp [execOp, go_sem, e10]
                  · exact rfl
                · intro ev W hf _ _ hst hd
                  obtain ⟨d33, d34, _⟩ := hd
                  have e33 : ev (.tmp 33) = .slice (some ⟨rb, ro, none⟩) n rc := d33
                  have e34 : ev (.tmp 34) = .int .i64 (t : Int) := d34
                  refine st_value (v := .pointer (some ⟨rb, ro + t, none⟩)) ?_ (Below.refl _ _) ?_
                  · simp [execOp, go_sem, e33, e34, htl]
                  · exact rfl
                · intro ev W hf _ _ hst hd
                  obtain ⟨d35, _⟩ := hd
                  have e35 : ev (.tmp 35) = .pointer (some ⟨rb, ro + t, none⟩) := d35
                  have q0 := Ext.cell hst HC2.out
                  refine st_value (v := iv akt) ?_ (Below.refl _ _) ?_
                  · simp [execOp, go_sem, e35, q0]
                  · exact rfl
                · intro ev W hf _ _ hst hd
                  have e1 : ev (.tmp 1) = .slice (some ⟨bb, bo, none⟩) n bc := hf 1 (by kernel_rfl)
                  refine st_value (v := .slice (some ⟨bb, bo, none⟩) n bc) ?_ (Below.refl _ _) ?_
                  · simp [execOp, go_sem, e1]
                  · exact rfl
                · intro ev W hf _ _ hst hd
                  have e10 : ev (.tmp 10) = .int .i64 (t : Int) := hf 10 (by kernel_rfl)
                  refine st_value (v := .int .i64 (t : Int)) ?_ (Below.refl _ _) ?_
                  · simp [execOp, go_sem, e10]
                  · exact rfl
                · intro ev W hf _ _ hst hd
                  obtain ⟨d37, d38, _⟩ := hd
                  have e37 : ev (.tmp 37) = .slice (some ⟨bb, bo, none⟩) n bc := d37
                  have e38 : ev (.tmp 38) = .int .i64 (t : Int) := d38
                  refine st_value (v := .pointer (some ⟨bb, bo + t, none⟩)) ?_ (Below.refl _ _) ?_
                  · simp [execOp, go_sem, e37, e38, htl]
                  · exact rfl
                · intro ev W hf _ _ hst hd
                  obtain ⟨d39, _⟩ := hd
                  have e39 : ev (.tmp 39) = .pointer (some ⟨bb, bo + t, none⟩) := d39
                  have q0 := Ext.cell hst HC3.out
                  refine st_value (v := .slice (some ⟨sb2, so2, none⟩) n sc2) ?_ (Below.refl _ _) ?_
                  · simp [execOp, go_sem, e39, q0]
                  · exact rfl
                · intro ev W hf _ _ hst hd
                  have e8 : ev (.tmp 8) = .int .i64 (j : Int) := hf 8 (by kernel_rfl)
                  refine st_value (v := .int .i64 (j : Int)) ?_ (Below.refl _ _) ?_
                  · simp [execOp, go_sem, e8]
                  · exact rfl
                · intro ev W hf _ _ hst hd
                  obtain ⟨d40, d41, _⟩ := hd
                  have e40 : ev (.tmp 40) = .slice (some ⟨sb2, so2, none⟩) n sc2 := d40
                  have e41 : ev (.tmp 41) = .int .i64 (j : Int) := d41
                  refine st_value (v := .pointer (some ⟨sb2, so2 + j, none⟩)) ?_ (Below.refl _ _) ?_
                  · simp [execOp, go_sem, e40, e41, hjl]
                  · exact rfl
                · intro ev W hf _ _ hst hd
                  obtain ⟨d42, _⟩ := hd
                  have e42 : ev (.tmp 42) = .pointer (some ⟨sb2, so2 + j, none⟩) := d42
                  have q0 := Ext.cell hst HC4.out
                  refine st_value (v := iv btj) ?_ (Below.refl _ _) ?_
                  · simp [execOp, go_sem, e42, q0]
                  · exact rfl
                · intro ev W hf _ hfn hst hd
                  obtain ⟨d36, d43, _⟩ := hd
                  have e36 : ev (.tmp 36) = iv akt := d36
                  have e43 : ev (.tmp 43) = iv btj := d43
                  refine st_call (f := 76) (args := #[iv akt, iv btj]) (by simp [execOp, go_sem, hfn, e36, e43]) (HPL.out W) (fun _ _ => rfl)
                · intro ev W hf _ _ hst hd
                  obtain ⟨d29, d44, _⟩ := hd
                  have e29 : ev (.tmp 29) = iv es0 := d29
                  have e44 : ev (.tmp 44) = iv pz := d44
                  refine st_value (v := iv es1) ?_ (Below.refl _ _) ?_
                  · rw [HES.out]; simp [go_sem, e29, e44, HMX.out]
                  · exact rfl
              case rest =>
                intro vs w3 hl hst hg
                have HE3 := Lib.hid hst
                have hus : vs = [iv es0, .slice (some ⟨ab, ao, none⟩) n ac, .int .i64 (k : Int), .pointer (some ⟨ab, ao + k, none⟩), .slice (some ⟨rb, ro, none⟩) n rc, .int .i64 (t : Int), .pointer (some ⟨rb, ro + t, none⟩), iv akt, .slice (some ⟨bb, bo, none⟩) n bc, .int .i64 (t : Int), .pointer (some ⟨bb, bo + t, none⟩), .slice (some ⟨sb2, so2, none⟩) n sc2, .int .i64 (j : Int), .pointer (some ⟨sb2, so2 + j, none⟩), iv btj, iv pz, iv es1] := list_of hl (fun i u hu => by
                  match i, hu with
                  | 0, hu => exact (congrArg some (hg 0 u hu)).symm
                  | 1, hu => exact (congrArg some (hg 1 u hu)).symm
                  | 2, hu => exact (congrArg some (hg 2 u hu)).symm
                  | 3, hu => exact (congrArg some (hg 3 u hu)).symm
                  | 4, hu => exact (congrArg some (hg 4 u hu)).symm
                  | 5, hu => exact (congrArg some (hg 5 u hu)).symm
                  | 6, hu => exact (congrArg some (hg 6 u hu)).symm
                  | 7, hu => exact (congrArg some (hg 7 u hu)).symm
                  | 8, hu => exact (congrArg some (hg 8 u hu)).symm
                  | 9, hu => exact (congrArg some (hg 9 u hu)).symm
                  | 10, hu => exact (congrArg some (hg 10 u hu)).symm
                  | 11, hu => exact (congrArg some (hg 11 u hu)).symm
                  | 12, hu => exact (congrArg some (hg 12 u hu)).symm
                  | 13, hu => exact (congrArg some (hg 13 u hu)).symm
                  | 14, hu => exact (congrArg some (hg 14 u hu)).symm
                  | 15, hu => exact (congrArg some (hg 15 u hu)).symm
                  | 16, hu => exact (congrArg some (hg 16 u hu)).symm
                  | n + 17, hu => exact absurd (lt_len hu) (by rw [hl]; simp))
                clear hg hst hl
                subst hus
                simp only [putAll, Act.put, List.dropLast, List.setIfInBounds_toArray, List.set_cons_zero, List.set_cons_succ]
                go_wp2_with fail
                exact ⟨⟨t + 1, by simp, by omega, by rw [HQ1.out], Ext.trans HEt.out HE3.out⟩, by simp [intOf]; omega⟩
            · obtain rfl : t = n := by omega
              have HMU := Lib.hid (show es (fun s => ep (A k s) (B s j)) t = mulF t A B k j from rfl)
              have HRS := Lib.hid (listV_succ j (mulF t A B k))
              have hlen : (listV j (mulF t A B k)).length = j := listV_len _ _
              have hwt := HEt.out.size
              obtain ⟨i0, hi0, hz0, hz1, hz2⟩ := info_parts info3x23
              have HI := Lib.hid hi0
              have HZ0 := Lib.hid hz0
              have HZ1 := Lib.hid hz1
              have HZ2 := Lib.hid hz2
              clear hi0 hz0 hz1 hz2
              obtain ⟨zz, hzz⟩ : ∃ zz, zz = val (es (fun s => ep (A k s) (B s j)) t) := ⟨_, rfl⟩
              unfold iv
              rw [← hzz]
              have HZZ := Lib.hid hzz
              clear hzz
              have hob : ∀ x, Value.ownBlock (.slice sa j sc) = some x → wr.heap.size ≤ x := fun x hx => own_block HR.out hx
              have hwo := Ext.alloc HEt.out (.cells #[.int .i64 zz] 3)
              have HOWN := Lib.hid (ownsRow_ext HR.out hwo)
              clear hwo
              go_wp2_with (at_builtin; (refine wpList_append_own _ rfl _ _ 23 rfl wr.heap.size 3 i0 (.int .i64 0) 1 8 Tryz.underlying23 HI.out HZ0.out HZ1.out HZ2.out rfl (by decide) _ _ _ rfl HOWN.out ⟨wt.heap.size, 0, none⟩ 1 1 [.int .i64 zz] rfl rfl (fun j u h => cell_one_new wt _ 3 j u h) (by simp [Value.oneCell']) (by unfold maxLen; omega) (by omega) (by simp; omega) ?_; intro v' w' hown' hgrow hnil; have HO10 := Lib.hid hown'; have HG10 := Lib.hid hgrow; clear hown' hgrow hnil))
              refine ⟨⟨j + 1, by simp, by omega, ?_, Below.grown (Ext.alloc (Ext.trans HEq.out HEt.out) (.cells #[.int .i64 zz] 3)) HG10.out (by simp; omega) (fun x e => hob x e)⟩, by simp [intOf]; omega⟩
              unfold RowOwn
              rw [HRS.out, List.map_append, ← HMU.out]
              show w'.ownsRow wr.heap.size 3 1 v' (j + 1) _
              have h := HO10.out
              rw [HZZ.out] at h
              exact h
        · obtain rfl : j = n := by omega
          have hR := HR.out
          unfold RowOwn at hR
          obtain ⟨i0, hi0, hz0, hz1, hz2⟩ := info_parts info22
          have HI := Lib.hid hi0
          have HZ0 := Lib.hid hz0
          have HZ1 := Lib.hid hz1
          have HZ2 := Lib.hid hz2
          clear hi0 hz0 hz1 hz2
          have hEa := Ext.alloc (Ext.refl wq) (.cells #[.slice sa j sc] 23)
          have HOWN := Lib.hid (ownsRow_ext HOW.out (Ext.trans HEq.out hEa))
          have HROW := Lib.hid (ownsRow_ext (own_mono hR hwr) hEa)
          have HVQ := Lib.hid (fun (i : Nat) (u : Value) (h : vs[i]? = some u) => ownsRow_ext (HVS.out i u h) (Ext.trans HEq.out hEa))
          have hvl : vs.length = k := by have := HOW.out.1; omega
          have hob : ∀ x, Value.ownBlock (.slice oa k oc) = some x → w.heap.size ≤ x := fun x hx => own_block HOW.out hx
          clear hR hEa
          go_wp2_with (at_builtin; (refine wpList_append_own _ rfl _ _ 22 rfl w.heap.size 23 i0 (.slice none 0 0) 1 24 Tryz.underlying22 HI.out HZ0.out HZ1.out HZ2.out rfl (by decide) _ _ _ rfl HOWN.out ⟨wq.heap.size, 0, none⟩ 1 1 [.slice sa j sc] rfl rfl (fun j u h => cell_one_new wq _ 23 j u h) (by simp [Value.oneCell']) (by unfold maxLen; omega) (by omega) (by simp; omega) ?_; intro v' w' hown' hgrow hnil; have HO10 := Lib.hid hown'; have HG10 := Lib.hid hgrow; clear hown' hgrow hnil))
          refine ⟨⟨k + 1, by simp, by omega, ⟨_, HO10.out, fun i u h => ?_⟩, Below.grown (Ext.alloc (Ext.trans HE.out HEq.out) (.cells #[.slice sa j sc] 23)) HG10.out (by simp; omega) (fun x e => hob x e)⟩, by simp [intOf]; omega⟩
          rcases Nat.lt_trichotomy i k with hi | hi | hi
          · rw [List.getElem?_append_left (by omega)] at h
            exact own_keep (HVQ.out i u h) (own_type HOWN.out) HG10.out
          · subst hi
            rw [List.getElem?_append_right (by omega), hvl, Nat.sub_self] at h
            injection h with h
            subst h
            exact own_keep HROW.out (own_type HOWN.out) HG10.out
          · rw [List.getElem?_append_right (by omega)] at h
            have := lt_len h
            simp at this
            omega
    · obtain rfl : k = n := by omega
      go_wp2_with fail
      go_ret
      exact ⟨_, rfl, HO.out.rows (by omega), HE.out⟩
end Go.Proofs.YtbcngojiikdigaaGreat
