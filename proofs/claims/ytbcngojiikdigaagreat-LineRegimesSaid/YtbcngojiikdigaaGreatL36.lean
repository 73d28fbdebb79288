import Derived.Test.YtbcngojiikdigaaGreatL35
import Derived.Laws.AppendOwnNone
namespace Go.Proofs.YtbcngojiikdigaaGreat
set_option maxRecDepth 100000
open Go.RowKit Go.Shelf
/-- what the reference's Multiply gives -/
def RMultS (xs ys : List (List Int)) (e : Ending) (w' : World) : Prop :=
  ((matB xs && matB ys && decide (xs.length = ys.length)) = false ∧ e = two (.slice none 0 0) (.int .i64 2)) ∨
  (matB xs = true ∧ matB ys = true ∧ xs.length = ys.length ∧ ∃ r, e = two r (.int .i64 0) ∧ MatAt w' r xs.length (mulF xs.length (entF xs) (entF ys)))
set_option maxHeartbeats 4000000 in
theorem RMultiply_c (u v : Value) (xs ys : List (List Int)) (w : World) (hu : Rows2 w u xs) (hv : Rows2 w v ys) (hlx : ∀ r ∈ xs, r.length ≤ 1000000) (hly : ∀ r ∈ ys, r.length ≤ 1000000) :
    Calls Tryz.prog 12 #[u, v] w fun e w' => RMultS xs ys e w' ∧ Ext w w' := by
  have HU := Lib.hid hu
  have HV := Lib.hid hv
  have HM := Lib.hid (fun W (h : Ext w W) => rmatrix_c u xs W (hu.ext h) hlx)
  have HN := Lib.hid (fun W (h : Ext w W) => rmatrix_c v ys W (hv.ext h) hly)
  obtain ⟨a1, c1, rfl, hl1, hm1, _⟩ := hu.at
  obtain ⟨a2, c2, rfl, hl2, hm2, _⟩ := hv.at
  clear hu hv hlx hly
  have HF := Lib.hid (fun (w' : World) (h : (matB xs && matB ys && decide (xs.length = ys.length)) = false) => (show RMultS xs ys (two (.slice none 0 0) (.int .i64 2)) w' from .inl ⟨h, rfl⟩))
  cases hx : matB xs with
  | false =>
    have HS := Lib.hid (fun w' => HF.out w' (by rw [hx]; rfl))
    rw [hx] at HM
    clear hx HF
    go_enter Tryz.func12, Tryz.ntmps12
    go_wp2_with fail
    refine (HM.out _ (Ext.refl _)).mono ?_
    rintro e w1 ⟨rfl, hE⟩
    have HE := Lib.hid hE
    clear hE
    go_wp2_with fail
    go_ret2
    exact ⟨HS.out _, HE.out⟩
  | true =>
    cases hy : matB ys with
    | false =>
      have HS := Lib.hid (fun w' => HF.out w' (by rw [hx, hy]; rfl))
      rw [hx] at HM
      rw [hy] at HN
      clear hx hy HF
      go_enter Tryz.func12, Tryz.ntmps12
      go_wp2_with fail
      refine (HM.out _ (Ext.refl _)).mono ?_
      rintro e w1 ⟨rfl, hE⟩
      have HE := Lib.hid hE
      clear hE
      go_wp2_with fail
      refine (HN.out _ HE.out).mono ?_
      rintro e w2 ⟨rfl, hE⟩
      have HE2 := Lib.hid (Ext.trans HE.out hE)
      clear hE
      go_wp2_with fail
      go_ret2
      exact ⟨HS.out _, HE2.out⟩
    | true =>
      have HX := Lib.hid hx
      have HY := Lib.hid hy
      have HOX := Lib.hid (matB_ok hx)
      have HOY := Lib.hid (matB_ok hy)
      have hn := HOX.out.1
      rw [hx] at HM
      rw [hy] at HN
      by_cases hl : xs.length = ys.length
      · have hb : ((xs.length : Int) != (ys.length : Int)) = false := by rw [hl]; simp
        have HL := Lib.hid hl
        have HYM := Lib.hid (fun W (h : Ext w W) => (show MatAt W (.slice a2 ys.length c2) xs.length (entF ys) from by rw [hl]; exact rows_mat (HV.out.ext h) HOY.out.2.1 (by omega)))
        have HYB := Lib.hid (show bdF 1000 xs.length (entF ys) from by rw [hl]; exact HOY.out.2.2)
        clear hx hy HF hl
        go_enter Tryz.func12, Tryz.ntmps12
        go_wp2_with fail
        refine (HM.out _ (Ext.refl _)).mono ?_
        rintro e w1 ⟨rfl, hE⟩
        have HE := Lib.hid hE
        clear hE
        go_wp2_with fail
        refine (HN.out _ HE.out).mono ?_
        rintro e w2 ⟨rfl, hE⟩
        have HE2 := Lib.hid (Ext.trans HE.out hE)
        clear hE
        go_wp2_with fail
        refine (rproduct_c _ _ xs.length (entF xs) (entF ys) w2 hn.1 hn.2 (rows_mat (HU.out.ext HE2.out) HOX.out.2.1 hn.1) (HYM.out _ HE2.out) (HOX.out.2.2.mono (by decide)) (HYB.out.mono (by decide)) (fun i hi j hj k hk => (bdE_ep (HOX.out.2.2 i hi k hk) (HYB.out k hk j hj)).mono (by decide))).mono ?_
        rintro e w3 ⟨r, rfl, hr, hE⟩
        have HE3 := Lib.hid (Ext.trans HE2.out hE)
        have HS := Lib.hid (show RMultS xs ys (two r (.int .i64 0)) w3 from .inr ⟨HX.out, HY.out, HL.out, r, rfl, hr⟩)
        clear hE hr
        go_wp2_with fail
        go_ret2
        exact ⟨HS.out, HE3.out⟩
      · have hb : ((xs.length : Int) != (ys.length : Int)) = true := by rw [bne_iff_ne]; omega
        have HS := Lib.hid (fun w' => HF.out w' (by rw [hx, hy, decide_eq_false hl]; rfl))
        clear hx hy HF hl
        go_enter Tryz.func12, Tryz.ntmps12
        go_wp2_with fail
        refine (HM.out _ (Ext.refl _)).mono ?_
        rintro e w1 ⟨rfl, hE⟩
        have HE := Lib.hid hE
        clear hE
        go_wp2_with fail
        refine (HN.out _ HE.out).mono ?_
        rintro e w2 ⟨rfl, hE⟩
        have HE2 := Lib.hid (Ext.trans HE.out hE)
        clear hE
        go_wp2_with fail
        go_ret2
        exact ⟨HS.out _, HE2.out⟩
/-- what the reference's Power gives -/
def RPowS (xs : List (List Int)) (k : Int) (e : Ending) (w' : World) : Prop :=
  ((matB xs && countB k) = false ∧ e = two (.slice none 0 0) (.int .i64 2)) ∨
  (matB xs = true ∧ countB k = true ∧ ∃ r, e = two r (.int .i64 0) ∧ MatAt w' r xs.length (pwF xs.length (entF xs) k.toNat))
set_option maxHeartbeats 4000000 in
theorem RPower_c (u : Value) (xs : List (List Int)) (k : Int) (w : World) (hu : Rows2 w u xs) (hlx : ∀ r ∈ xs, r.length ≤ 1000000) :
    Calls Tryz.prog 16 #[u, .int .i64 k] w fun e w' => RPowS xs k e w' ∧ Ext w w' := by
  have HU := Lib.hid hu
  have HM := Lib.hid (fun W (h : Ext w W) => rmatrix_c u xs W (hu.ext h) hlx)
  obtain ⟨a1, c1, rfl, hl1, hm1, _⟩ := hu.at
  clear hu hlx
  have HF := Lib.hid (fun (w' : World) (h : (matB xs && countB k) = false) => (show RPowS xs k (two (.slice none 0 0) (.int .i64 2)) w' from .inl ⟨h, rfl⟩))
  cases hx : matB xs with
  | false =>
    have HS := Lib.hid (fun w' => HF.out w' (by rw [hx]; rfl))
    rw [hx] at HM
    clear hx HF
    go_enter Tryz.func16, Tryz.ntmps16
    go_wp2_with fail
    refine (HM.out _ (Ext.refl _)).mono ?_
    rintro e w1 ⟨rfl, hE⟩
    have HE := Lib.hid hE
    clear hE
    go_wp2_with fail
    go_ret2
    exact ⟨HS.out _, HE.out⟩
  | true =>
    rw [hx] at HM
    by_cases h0 : k < 0
    · have HS := Lib.hid (fun w' => HF.out w' (by rw [hx]; unfold countB; rw [decide_eq_false (by omega)]; rfl))
      clear hx HF
      go_enter Tryz.func16, Tryz.ntmps16
      go_wp2_with fail
      refine (HM.out _ (Ext.refl _)).mono ?_
      rintro e w1 ⟨rfl, hE⟩
      have HE := Lib.hid hE
      clear hE
      go_wp2_with fail
      go_ret2
      exact ⟨HS.out _, HE.out⟩
    · by_cases h1 : 1048576 < k
      · have HS := Lib.hid (fun w' => HF.out w' (by rw [hx]; unfold countB; rw [decide_eq_false (show ¬ k ≤ 1048576 by omega)]; simp))
        clear hx HF
        go_enter Tryz.func16, Tryz.ntmps16
        go_wp2_with fail
        refine (HM.out _ (Ext.refl _)).mono ?_
        rintro e w1 ⟨rfl, hE⟩
        have HE := Lib.hid hE
        clear hE
        go_wp2_with fail
        go_ret2
        exact ⟨HS.out _, HE.out⟩
      · obtain ⟨k0, rfl⟩ : ∃ k0 : Nat, k = (k0 : Int) := ⟨k.toNat, by omega⟩
        have HX := Lib.hid hx
        have HOX := Lib.hid (matB_ok hx)
        have hn := HOX.out.1
        have HK := Lib.hid (show countB (k0 : Int) = true by unfold countB; rw [decide_eq_true (by omega), decide_eq_true (by omega)]; rfl)
        clear hx HF
        go_enter Tryz.func16, Tryz.ntmps16
        go_wp2_with fail
        refine (HM.out _ (Ext.refl _)).mono ?_
        rintro e w1 ⟨rfl, hE⟩
        have HE := Lib.hid hE
        clear hE
        go_wp2_with fail
        refine (raised_c xs.length (entF xs) hn.1 hn.2 HOX.out.2.2 k0 _ w1 (by omega) (rows_mat (HU.out.ext HE.out) HOX.out.2.1 hn.1)).mono ?_
        rintro e w2 ⟨r, rfl, hr, hE⟩
        have HE2 := Lib.hid (Ext.trans HE.out hE)
        have HS := Lib.hid (show RPowS xs (k0 : Int) (two r (.int .i64 0)) w2 from .inr ⟨HX.out, HK.out, r, rfl, by rw [Int.toNat_natCast]; exact hr⟩)
        clear hE hr
        go_wp2_with fail
        go_ret2
        exact ⟨HS.out, HE2.out⟩
/-- a slice without memory is the nil slice -/
def NilOk (v : Value) : Prop := ∀ n cap : Nat, v = .slice none n cap → n = 0 ∧ cap = 0
def IntsN (w : World) (v : Value) (xs : List Int) : Prop := Ints w v xs ∧ NilOk v
abbrev RowsN (w : World) (v : Value) (xs : List (List Int)) : Prop := Reads IntsN w v xs
theorem IntsN.ext {w w' : World} {v : Value} {xs : List Int} (h : IntsN w v xs) (he : Ext w w') : IntsN w' v xs := ⟨h.1.ext he, h.2⟩
theorem RowsN.rows {w : World} {v : Value} {xs : List (List Int)} (h : RowsN w v xs) : Rows2 w v xs := by
  obtain ⟨a, cap, vs, h1, h2, h3, h4, h5, h6⟩ := h
  exact ⟨a, cap, vs, h1, h2, h3, h4, h5, fun k u x hu hx => (h6 k u x hu hx).1⟩
theorem addr_add (b o j : Nat) : (⟨b, o, none⟩ : Addr).add j = ⟨b, o + j, none⟩ := by
  unfold Addr.add
  split
  · rename_i h; subst h; rfl
  · rfl
theorem grown_refl (w : World) (row : Option Nat) : w.grownBy w row := ⟨rfl, rfl, rfl, Nat.le_refl _, fun _ _ _ => rfl⟩
/-- numbers appended to a list of one's own -/
theorem wpList_append_ints {ops : Array Oper} {rest : List Oper} {o : Oper} {a : Act} {Q : Exit → Act → World → Prop} {W : World} (hgd : o.guard = none) (s x : Operand)
    (ho : o.op = .call { callee := .builtin .append, args := #[s, x], argTypes := #[23, 23] }) (base : Nat) (sv : Value) (hs : a.eval s = sv) (hown : W.ownsRow base 3 1 sv 0 [])
    (v : Value) (xs : List Int) (hx : a.eval x = v) (hv : IntsN W v xs) (hn : xs.length ≤ 1000) (hbase : base ≤ W.heap.size)
    (h : ∀ v' w', w'.ownsRow base 3 1 v' xs.length (xs.map (Value.int .i64)) → W.grownBy w' sv.ownBlock → wpList Tryz.prog ops Q rest (a.put o.dst v') w') : wpList Tryz.prog ops Q (o :: rest) a W := by
  obtain ⟨i, hi, hz0, hz1, hz2⟩ := info_parts info3x23
  obtain ⟨⟨ab, cap, rfl, hl, hm, hrow⟩, hnil⟩ := hv
  cases ab with
  | none =>
    obtain ⟨h0, h1⟩ := hnil _ _ rfl
    have hxs : xs = [] := List.length_eq_zero_iff.1 h0
    subst hxs
    subst h1
    exact wpList_append_own_none hgd s x 23 ho base 3 i 1 Tryz.underlying23 hi _ 0 [] hs hown hx (h _ _ hown (grown_refl _ _))
  | some ad =>
    refine wpList_append_own _ hgd s x 23 ho base 3 i (.int .i64 0) 1 8 Tryz.underlying23 hi hz0 hz1 hz2 rfl (by decide) _ 0 [] hs hown ad xs.length cap (xs.map (Value.int .i64)) hx (by simp) ?_ (by simp [Value.oneCell']) (by unfold maxLen; omega) (by omega) hbase (fun v' w' h2 h3 _ => h v' w' (by simpa using h2) h3)
    intro j u hju
    rcases hrow with hr | ⟨b, off, ha, hc⟩
    · rw [hr] at hju; simp at hju
    · injection ha with ha
      subst ha
      rw [addr_add]
      exact hc j u hju
/-- the copies so far, each in a list of its own, in a list of one's own -/
def CopyTo (base : Nat) (w : World) (v : Value) (k : Nat) (xs : List (List Int)) : Prop :=
  ∃ vs : List Value, w.ownsRow base 23 1 v k vs ∧ ∀ (i : Nat) (u : Value) (x : List Int), vs[i]? = some u → xs[i]? = some x → w.ownsRow base 3 1 u x.length (x.map (Value.int .i64))
theorem CopyTo.rows {base : Nat} {w : World} {v : Value} {xs : List (List Int)} (h : CopyTo base w v xs.length xs) (hl : ∀ r ∈ xs, r.length ≤ 1000000) : Rows2 w v xs := by
  obtain ⟨vs, h1, h2⟩ := h
  obtain ⟨a, cap, hv, h3, h4, h5, h6⟩ := own_vals h1
  exact ⟨a, cap, vs, hv, h3, h4, h5, h6, fun k u x hu hx => own_ints2 (h2 k u x hu hx) (hl x (List.mem_of_getElem? hx))⟩
set_option maxHeartbeats 8000000 in
theorem copied_c (u : Value) (xs : List (List Int)) (w : World) (hx : RowsN w u xs) (hl : xs.length ≤ 1000) (hlx : ∀ r ∈ xs, r.length ≤ 1000) :
    Calls Tryz.prog 10 #[u] w fun e w' => ∃ r, e = .returned r ∧ Rows2 w' r xs ∧ Ext w w' := by
  obtain ⟨ax, cx, rfl, hxc, hxm, hrx⟩ := hx.at
  have HX := Lib.hid hrx
  have HLX := Lib.hid hlx
  clear hx hrx hlx
  go_enter Tryz.func10, Tryz.ntmps10
  go_wp2_with fail
  go_loopw [4, 3] (fun i ov wr => ∃ k : Nat, i = .int .i64 (k : Int) ∧ k ≤ xs.length ∧ CopyTo w.heap.size wr ov k xs ∧ Ext w wr) (fun i _ _ => xs.length - (intOf i).toNat)
  case atStart => exact ⟨0, rfl, Nat.zero_le _, ⟨[], ⟨rfl, .inl ⟨rfl, rfl⟩⟩, fun i u x h => by simp at h⟩, Ext.refl _⟩
  case round =>
    rename World => wr
    obtain ⟨k, rfl, hk, hO, hE⟩ := hrel
    have HO := Lib.hid hO
    obtain ⟨vs, ho, hvs⟩ := hO
    obtain ⟨oa, oc, rfl⟩ := own_slice ho
    have HOW := Lib.hid ho
    have HVS := Lib.hid hvs
    have HE := Lib.hid hE
    clear ho hvs hE
    have hwr := HE.out.size
    by_cases hlt : k < xs.length
    · obtain ⟨r, hr⟩ := getElem?_len hlt
      obtain ⟨b, o, u, rfl, c1, hu⟩ := HX.out k r hr
      replace c1 := Ext.cell HE.out c1
      have hEa := Ext.alloc (Ext.refl wr) (.cells #[] 3)
      have HU := Lib.hid ((hu.ext HE.out).ext hEa)
      have hcb := cell_lt c1
      have HEa := Lib.hid hEa
      have HOA := Lib.hid (World.ownsRow_made (base := w.heap.size) (e := 3) (size := 1) wr #[] 0 hwr (by unfold maxLen; omega) rfl)
      have hrl := HLX.out r (List.mem_of_getElem? hr)
      have c2 := Ext.cell hEa c1
      obtain ⟨ar, cr, rfl, _⟩ := hu.1.at
      have HR := Lib.hid hr
      obtain ⟨i0, hi0, hz0, hz1, hz2⟩ := info_parts info22
      have HI := Lib.hid hi0
      have HZ0 := Lib.hid hz0
      have HZ1 := Lib.hid hz1
      have HZ2 := Lib.hid hz2
      have HVL := Lib.hid (show vs.length = k from by have := HOW.out.1; omega)
      have hob : ∀ x, Value.ownBlock (.slice oa k oc) = some x → w.heap.size ≤ x := fun x hx => own_block HOW.out hx
      clear hr hi0 hz0 hz1 hz2 hEa hu
      go_wp2_with (at_builtin; (first
        | (refine wpList_append_ints rfl _ _ rfl w.heap.size _ rfl HOA.out _ r rfl HU.out hrl (by simp; omega) ?_; intro v1 w2 hown1 hgrow1; obtain ⟨va, vc, rfl⟩ := own_slice hown1; have HO1 := Lib.hid hown1; have HE2 := Lib.hid (show Ext wr w2 from Below.grown (Ext.alloc (Ext.refl wr) (.cells #[] 3)) hgrow1 (by simp) (fun x e => Nat.le_of_eq (Option.some.inj e))); clear hown1 hgrow1)
        | (refine wpList_append_own _ rfl _ _ 22 rfl w.heap.size 23 i0 (.slice none 0 0) 1 24 Tryz.underlying22 HI.out HZ0.out HZ1.out HZ2.out rfl (by decide) _ _ _ rfl (ownsRow_ext HOW.out (Ext.alloc HE2.out (.cells #[.slice va r.length vc] 23))) ⟨w2.heap.size, 0, none⟩ 1 1 [.slice va r.length vc] rfl rfl (fun j u h => cell_one_new w2 _ 23 j u h) (by simp [Value.oneCell']) (by unfold maxLen; omega) (by omega) (by have := HE2.out.size; simp; omega) ?_; intro v' w' hown' hgrow hnil; have HO10 := Lib.hid hown'; have HG10 := Lib.hid hgrow; clear hown' hgrow hnil)))
      have HOWN := Lib.hid (ownsRow_ext HOW.out (Ext.alloc HE2.out (.cells #[.slice va r.length vc] 23)))
      refine ⟨⟨k + 1, by simp, by omega, ⟨_, HO10.out, fun i u x h hx => ?_⟩, Below.grown (Ext.alloc (Ext.trans HE.out HE2.out) (.cells #[.slice va r.length vc] 23)) HG10.out (by have := HE2.out.size; simp; omega) (fun x e => hob x e)⟩, by simp [intOf]; omega⟩
      have hvl := HVL.out
      rcases Nat.lt_trichotomy i k with hi | hi | hi
      · rw [List.getElem?_append_left (by omega)] at h
        exact own_keep (ownsRow_ext (HVS.out i u x h hx) (Ext.alloc HE2.out (.cells #[.slice va r.length vc] 23))) (own_type HOWN.out) HG10.out
      · subst hi
        rw [List.getElem?_append_right (by omega), hvl, Nat.sub_self] at h
        injection h with h
        subst h
        have hr := HR.out
        rw [hx] at hr
        injection hr with hr
        subst hr
        exact own_keep (ownsRow_ext HO1.out (Ext.alloc (Ext.refl _) (.cells #[.slice va x.length vc] 23))) (own_type HOWN.out) HG10.out
      · rw [List.getElem?_append_right (by omega)] at h
        have := lt_len h
        simp at this
        omega
    · obtain rfl : k = xs.length := by omega
      go_wp2_with fail
      go_ret
      exact ⟨_, rfl, HO.out.rows (fun r hr => by have := HLX.out r hr; omega), HE.out⟩
end Go.Proofs.YtbcngojiikdigaaGreat
