import Derived.Test.YtbcngojiikdigaaGreatQ2
import Derived.Test.YtbcngojiikdigaaGreatQ1
import Derived.Below
import Derived.Laws.StructEq
namespace Go.Proofs.YtbcngojiikdigaaGreat
set_option maxRecDepth 100000
open Go.RowKit Go.Shelf
theorem lv_zero (A : MF) : lvF 0 0 A = arcF A := by
  funext i j
  unfold lvF arcF lvE arcE
  cases A i j with
  | none => rfl
  | some a => simp
theorem noneB_mem {n : Nat} {x : Nat → E} (hx : ∀ i, i < n → bdE KB (x i)) : decide ((-1152921504606846976 : Int) ∈ listV n x) = noneB n x := by
  rw [Bool.eq_iff_iff, decide_eq_true_iff]
  unfold noneB listV
  rw [List.any_eq_true, List.mem_map]
  constructor
  · rintro ⟨i, hi, h⟩
    refine ⟨i, hi, ?_⟩
    cases hxi : x i with
    | none => rfl
    | some y =>
      have := hx i (List.mem_range.1 hi) y hxi
      rw [hxi] at h
      have h : y = -1152921504606846976 := h
      unfold KB at this
      omega
  · rintro ⟨i, hi, h⟩
    refine ⟨i, hi, ?_⟩
    cases hxi : x i with
    | none => rfl
    | some y => rw [hxi] at h; cases h
theorem noneMB_congr {n : Nat} {A B : MF} (h : eqF n A B) : noneMB n A = noneMB n B := by
  have key : ∀ {A B : MF}, eqF n A B → noneMB n A = true → noneMB n B = true := by
    intro A B h hA
    unfold noneMB noneB at *
    obtain ⟨i, hi, h1⟩ := List.any_eq_true.1 hA
    obtain ⟨j, hj, h2⟩ := List.any_eq_true.1 h1
    refine List.any_eq_true.2 ⟨i, hi, List.any_eq_true.2 ⟨j, hj, ?_⟩⟩
    rw [← h i (List.mem_range.1 hi) j (List.mem_range.1 hj)]
    exact h2
  rw [Bool.eq_iff_iff]
  exact ⟨key h, key h.symm⟩
set_option maxHeartbeats 4000000 in
theorem rconnected_c (v : Value) (n : Nat) (A : MF) (w : World) (hn1 : 1 ≤ n) (hn : n ≤ 6) (hx : MatAt w v n A) (bA : bdF 1000 n A) :
    Calls Tryz.prog 69 #[v] w fun e w' => e = .returned (.bool (connB n A)) ∧ Ext w w' := by
  have HX := Lib.hid hx
  have HBA := Lib.hid bA
  have HZ := Lib.hid (show connB n A = !noneMB n (smF n (lvF 0 0 A) n) from by unfold connB; rw [lv_zero, noneMB_congr (clos_star (arcF A) hn1)])
  have HB := Lib.hid (lvF_bd0 bA (show (-6000 : Int) ≤ 0 ∧ (0 : Int) ≤ 6000 by omega) (show (0 : Int) ≤ 0 ∧ (0 : Int) ≤ 6 by omega))
  generalize connB n A = z at *
  obtain ⟨va, vc, rfl⟩ := hx.len
  clear hx bA
  go_enter Tryz.func69, Tryz.ntmps69
  go_wp2_with fail
  refine (scaled_c _ n A 0 0 w hn1 hn HX.out HBA.out (by omega) (by omega)).mono ?_
  rintro e w3 ⟨r3, rfl, hr, hE⟩
  have HR3 := Lib.hid hr
  have HE3 := Lib.hid hE
  clear hr hE
  go_wp2_with fail
  refine (walks_c _ n _ w3 hn1 hn HR3.out HB.out).mono ?_
  rintro e w4 ⟨r4, rfl, hr, hE⟩
  have HR4 := Lib.hid hr.mat
  have HE4 := Lib.hid (Ext.trans HE3.out hE)
  obtain ⟨rb, ro, rc, rfl, _⟩ := hr.mat
  clear hr hE
  have HBS := Lib.hid (show ∀ i, i < n → ∀ j, j < n → bdE KB (smF n (lvF 0 0 A) n i j) from fun i hi j hj => bdE_es fun k hk => ((bdF_pw HB.out k).mono (show (12000 : Int) * (k : Nat) ≤ KB by unfold KB; omega)) i hi j hj)
  generalize smF n (lvF 0 0 A) n = M at *
  go_wp2_with fail
  go_loopw [5] (fun iv' wr => ∃ k : Nat, iv' = .int .i64 (k : Int) ∧ k ≤ n ∧ (∀ i, i < k → noneB n (M i) = false) ∧ Ext w4 wr) (fun iv' _ => n - (intOf iv').toNat)
  case atStart => exact ⟨0, rfl, Nat.zero_le _, fun i hi => by omega, Ext.refl _⟩
  case round =>
    rename World => wr
    obtain ⟨k, rfl, hk, hA, hE⟩ := hrel
    have HA := Lib.hid hA
    have HE := Lib.hid hE
    clear hA hE
    by_cases hlt : k < n
    · obtain ⟨ru, c1, hv⟩ := (HR4.out.ext HE.out).row hlt
      have k1 := cell_lt c1
      have HH := Lib.hid (has_c ru (listV n (M k)) (-1152921504606846976) wr (vec_ints hv) (by rw [listV_len]; omega))
      have HNB := Lib.hid (noneB_mem (HBS.out k hlt))
      obtain ⟨vb, vo, vc', rfl, _⟩ := hv
      cases hz : noneB n (M k) with
      | true =>
        have HF := Lib.hid (show z = false from by rw [HZ.out, noneMB_true hlt hz]; rfl)
        rw [hz] at HNB
        rw [HNB.out] at HH
        clear hz
        go_wp2_with fail
        refine HH.out.mono ?_
        rintro e w5 ⟨rfl, hE⟩
        have HE5 := Lib.hid (Ext.trans HE.out hE)
        clear hE
        go_wp2_with fail
        go_ret
        exact ⟨ret_bool HF.out.symm, Ext.trans HE4.out HE5.out⟩
      | false =>
        have HN := Lib.hid (show ∀ i, i < k + 1 → noneB n (M i) = false from fun i hi => by
          by_cases e : i = k
          · subst e; exact hz
          · exact HA.out i (by omega))
        rw [hz] at HNB
        rw [HNB.out] at HH
        clear hz
        go_wp2_with fail
        refine HH.out.mono ?_
        rintro e w5 ⟨rfl, hE⟩
        have HE5 := Lib.hid (Ext.trans HE.out hE)
        clear hE
        go_wp2_with fail
        exact ⟨⟨k + 1, by simp, by omega, HN.out, HE5.out⟩, by simp [intOf]; omega⟩
    · obtain rfl : k = n := by omega
      have HF := Lib.hid (show z = true from by rw [HZ.out, noneMB_false HA.out]; rfl)
      go_wp2_with fail
      go_ret
      exact ⟨ret_bool HF.out.symm, Ext.trans HE4.out HE.out⟩
def RConnS (xs : List (List Int)) (e : Ending) : Prop :=
  (matB xs = false ∧ e = two (.bool false) (.int .i64 2)) ∨ (matB xs = true ∧ e = two (.bool (connB xs.length (entF xs))) (.int .i64 0))
set_option maxHeartbeats 4000000 in
theorem rConnected_c (u : Value) (xs : List (List Int)) (w : World) (hu : Rows2 w u xs) (hlx : ∀ r ∈ xs, r.length ≤ 1000000) :
    Calls Tryz.prog 31 #[u] w fun e w' => RConnS xs e ∧ Ext w w' := by
  have HU := Lib.hid hu
  have HM := Lib.hid (fun W (h : Ext w W) => rmatrix_c u xs W (hu.ext h) hlx)
  obtain ⟨a1, c1, rfl, hl1, hm1, _⟩ := hu.at
  clear hu hlx
  cases hx : matB xs with
  | false =>
    rw [hx] at HM
    have HR := Lib.hid (show RConnS xs (two (.bool false) (.int .i64 2)) from .inl ⟨hx, rfl⟩)
    clear hx
    go_enter Tryz.func31, Tryz.ntmps31
    go_wp2_with fail
    refine (HM.out _ (Ext.refl _)).mono ?_
    rintro e w1 ⟨rfl, hE⟩
    have HE := Lib.hid hE
    clear hE
    go_wp2_with fail
    go_ret2
    exact ⟨HR.out, HE.out⟩
  | true =>
    have HOX := Lib.hid (matB_ok hx)
    have hn := HOX.out.1
    rw [hx] at HM
    have HR := Lib.hid (show RConnS xs (two (.bool (connB xs.length (entF xs))) (.int .i64 0)) from .inr ⟨hx, rfl⟩)
    clear hx
    go_enter Tryz.func31, Tryz.ntmps31
    go_wp2_with fail
    refine (HM.out _ (Ext.refl _)).mono ?_
    rintro e w1 ⟨rfl, hE⟩
    have HE := Lib.hid hE
    have HMA := Lib.hid (rows_mat (HU.out.ext HE.out) HOX.out.2.1 hn.1)
    clear hE
    go_wp2_with fail
    refine (rconnected_c _ xs.length (entF xs) w1 hn.1 hn.2 HMA.out HOX.out.2.2).mono ?_
    rintro e w3 ⟨rfl, hE⟩
    have HE3 := Lib.hid (Ext.trans HE.out hE)
    clear hE
    go_wp2_with fail
    go_ret2
    exact ⟨HR.out, HE3.out⟩
end Go.Proofs.YtbcngojiikdigaaGreat

namespace Go.Proofs.YtbcngojiikdigaaGreat
set_option maxRecDepth 100000
open Go.RowKit Go.Shelf
/-! A list of matrices in memory of one's own. -/
theorem own_keepT {w w' : World} {base n : Nat} {e t : TypeId} {row : Option Nat} {u : Value} {xs : List Value} (hne : e ≠ t) (h : w.ownsRow base e 1 u n xs) (hr : ∀ g, row = some g → ∃ c f, w.heap[g]? = some (.cells c t f)) (hg : w.grownBy w' row) : w'.ownsRow base e 1 u n xs := by
  refine ⟨h.1, ?_⟩
  rcases h.2 with h | ⟨g, cap, cur, hv, hb, hc, r⟩
  · exact .inl h
  · refine .inr ⟨g, cap, cur, hv, hb, (hg.block g (Array.getElem?_eq_some_iff.1 hc).1 (fun e => ?_)).trans hc, r⟩
    obtain ⟨c, f, h1⟩ := hr g e.symm
    rw [h1] at hc
    injection hc with hc
    injection hc with _ hc
    exact absurd hc.symm hne
theorem OutTo.keep {w w' : World} {base n : Nat} {row : Option Nat} {v : Value} {M : MF} (h : OutTo base w v n n M) (hr : ∀ g, row = some g → ∃ c f, w.heap[g]? = some (.cells c 22 f)) (hg : w.grownBy w' row) : OutTo base w' v n n M := by
  obtain ⟨vs, ho, hvs⟩ := h
  exact ⟨vs, own_keepT (by decide) ho hr hg, fun i u hu => own_keepT (by decide) (hvs i u hu) hr hg⟩
theorem own_setT {w : World} {base n : Nat} {e t : TypeId} {g k : Nat} {us : List Value} {u y : Value} {xs : List Value} (hne : e ≠ t) (h : w.ownsRow base e 1 u n xs) (hg : VRow w g t us) : (w.setCell ⟨g, k, none⟩ y).ownsRow base e 1 u n xs := by
  refine ⟨h.1, ?_⟩
  rcases h.2 with h | ⟨g', cap, cur, hv, hb, hc, r⟩
  · exact .inl h
  · refine .inr ⟨g', cap, cur, hv, hb, (Below.heap_setCell _ _ _ _ (fun e => ?_)).trans hc, r⟩
    unfold VRow at hg
    rw [e] at hc
    rw [show (⟨g, k, none⟩ : Addr).block = g from rfl, hg] at hc
    injection hc with hc
    injection hc with _ hc
    exact absurd hc.symm hne
theorem OutTo.put {w : World} {base n g k : Nat} {us : List Value} {v y : Value} {M : MF} (h : OutTo base w v n n M) (hg : VRow w g 22 us) : OutTo base (w.setCell ⟨g, k, none⟩ y) v n n M := by
  obtain ⟨vs, ho, hvs⟩ := h
  exact ⟨vs, own_setT (by decide) ho hg, fun i u hu => own_setT (by decide) (hvs i u hu) hg⟩
theorem OutTo.mono {w : World} {base c n : Nat} {v : Value} {M : MF} (h : OutTo base w v n n M) (hc : c ≤ base) : OutTo c w v n n M := by
  obtain ⟨vs, ho, hvs⟩ := h
  exact ⟨vs, own_mono ho hc, fun i u hu => own_mono (hvs i u hu) hc⟩
theorem OutTo.congr {w : World} {base n : Nat} {v : Value} {M N : MF} (h : OutTo base w v n n M) (e : eqF n M N) : OutTo base w v n n N := by
  obtain ⟨vs, ho, hvs⟩ := h
  refine ⟨vs, ho, fun i u hu => ?_⟩
  have hl := ho.1
  have hi := lt_len hu
  rw [← listV_congr fun j hj => e i (by omega) j hj]
  exact hvs i u hu
theorem vrow_own {w : World} {base R n : Nat} {e : TypeId} {us : List Value} (h : VRow w R e us) (hb : base ≤ R) (hl : us.length = n) (hn : n ≤ 1000000) : w.ownsRow base e 1 (.slice (some ⟨R, 0, none⟩) n n) n us := by
  refine ⟨by omega, .inr ⟨R, n, us.toArray, rfl, hb, h, Nat.le_refl _, by unfold maxLen; omega, by simp; omega, ?_⟩⟩
  rw [Nat.mul_one, ← hl]
  simp
theorem OutW.to {w : World} {base n : Nat} {v : Value} {M : MF} (h : OutW base w v n n M) (hn : n ≤ 1000000) : OutTo base w v n n M := by
  obtain ⟨Rs, ho, _, hr⟩ := h
  refine ⟨_, ho, fun i u hu => ?_⟩
  rw [List.getElem?_map] at hu
  cases hR : Rs[i]? with
  | none => rw [hR] at hu; cases hu
  | some R =>
    rw [hR] at hu
    injection hu with hu
    subst hu
    obtain ⟨h1, _, h3⟩ := hr i R hR
    exact vrow_own h3 h1 (by rw [List.length_map, listV_len]) hn
/-- matrices one after another, each in memory of its own -/
def ListM (base : Nat) (w : World) (v : Value) (n m : Nat) (F : Nat → MF) : Prop :=
  ∃ vs : List Value, w.ownsRow base 22 1 v m vs ∧ ∀ (i : Nat) (u : Value), vs[i]? = some u → OutTo base w u n n (F i)
theorem ListM.ext {base n m : Nat} {w w' : World} {v : Value} {F : Nat → MF} (h : ListM base w v n m F) (he : Ext w w') : ListM base w' v n m F := by
  obtain ⟨vs, ho, hvs⟩ := h
  exact ⟨vs, ownsRow_ext ho he, fun i u hu => (hvs i u hu).ext he⟩
/-- a list in one block -/
def LisV (base : Nat) (w : World) (g cap n : Nat) (F : Nat → MF) : Prop :=
  ∃ us : List Value, VRow w g 22 us ∧ us.length = cap ∧ ∀ i, i < 13 → ∃ u, us[i]? = some u ∧ OutTo base w u n n (F i)
theorem LisV.ext {base g cap n : Nat} {w w' : World} {F : Nat → MF} (h : LisV base w g cap n F) (he : Ext w w') : LisV base w' g cap n F := by
  obtain ⟨us, h1, h2, h3⟩ := h
  exact ⟨us, h1.ext he, h2, fun i hi => by obtain ⟨u, k1, k2⟩ := h3 i hi; exact ⟨u, k1, k2.ext he⟩⟩
theorem LisV.congr {base g cap n : Nat} {w : World} {F G : Nat → MF} (h : LisV base w g cap n F) (e : ∀ i, i < 13 → eqF n (F i) (G i)) : LisV base w g cap n G := by
  obtain ⟨us, h1, h2, h3⟩ := h
  exact ⟨us, h1, h2, fun i hi => by obtain ⟨u, k1, k2⟩ := h3 i hi; exact ⟨u, k1, k2.congr (e i hi)⟩⟩
theorem LisV.put {base g cap n : Nat} {w : World} {F : Nat → MF} {y : Value} {M : MF} (h : LisV base w g cap n F) (hy : OutTo base w y n n M) {x : Nat} (hx : x < 13) (hc : 13 ≤ cap) : LisV base (w.setCell ⟨g, x, none⟩ y) g cap n (fun i => if i = x then M else F i) := by
  obtain ⟨us, h1, h2, h3⟩ := h
  refine ⟨us.set x y, VRow.set h1 x y, by simp [h2], fun i hi => ?_⟩
  by_cases e : i = x
  · subst e
    refine ⟨y, List.getElem?_set_self (by omega), ?_⟩
    show OutTo base _ y n n (if i = i then M else F i)
    rw [if_pos rfl]
    exact hy.put h1
  · obtain ⟨u, k1, k2⟩ := h3 i hi
    refine ⟨u, by rw [List.getElem?_set_ne (fun h => e h.symm)]; exact k1, ?_⟩
    show OutTo base _ u n n (if i = x then M else F i)
    rw [if_neg e]
    exact k2.put h1
theorem LisV.at {base g cap n : Nat} {w : World} {F : Nat → MF} (h : LisV base w g cap n F) {i : Nat} (hi : i < 13) : ∃ a c, w.cell? ⟨g, i, none⟩ = some (.slice a n c) ∧ w.frozen? ⟨g, i, none⟩ = false ∧ OutTo base w (.slice a n c) n n (F i) := by
  obtain ⟨us, h1, h2, h3⟩ := h
  obtain ⟨u, k1, k2⟩ := h3 i hi
  obtain ⟨a, c, rfl⟩ : ∃ a c, u = .slice a n c := by obtain ⟨vs, ho, _⟩ := k2; exact own_slice ho
  exact ⟨a, c, VRow.cell h1 k1, VRow.frozen h1 i none, k2⟩
theorem ListM.lis {base n : Nat} {w : World} {v : Value} {F : Nat → MF} (h : ListM base w v n 13 F) : ∃ g cap, v = .slice (some ⟨g, 0, none⟩) 13 cap ∧ base ≤ g ∧ 13 ≤ cap ∧ cap ≤ 9223372036854775807 ∧ LisV base w g cap n F := by
  obtain ⟨vs, ho, hvs⟩ := h
  rcases ho.2 with ⟨_, h0⟩ | ⟨g, cap, cur, hv, hb, hc, hnc, hmx, hsz, htk⟩
  · omega
  · unfold maxLen at hmx
    have hl := ho.1
    refine ⟨g, cap, hv, hb, hnc, by omega, cur.toList, by unfold VRow; simpa using hc, by simp; omega, fun i hi => ?_⟩
    obtain ⟨u, hu⟩ := getElem?_len (show i < vs.length by omega)
    refine ⟨u, ?_, hvs i u hu⟩
    rw [← htk, List.getElem?_take_of_lt (by omega)] at hu
    exact hu
/-- one matrix more -/
theorem ListM.push {base n m : Nat} {w w' : World} {v v' y : Value} {F : Nat → MF} {vs : List Value} (h1 : w.ownsRow base 22 1 v m vs) (h2 : ∀ (i : Nat) (u : Value), vs[i]? = some u → OutTo base w u n n (F i)) (hy : OutTo base w y n n (F m))
    (h3 : w'.ownsRow base 22 1 v' (m + 1) (vs ++ [y])) (hg : w.grownBy w' v.ownBlock) : ListM base w' v' n (m + 1) F := by
  have hty : ∀ g, v.ownBlock = some g → ∃ c f, w.heap[g]? = some (.cells c 22 f) := fun g hg => by
    rcases h1.2 with ⟨h, _⟩ | ⟨g', cap, cur, hv, hb, hc, _⟩
    · subst h; cases hg
    · subst hv; simp [Value.ownBlock] at hg; subst hg; exact ⟨_, _, hc⟩
  have hvl : vs.length = m := by have := h1.1; omega
  refine ⟨_, h3, fun i u hu => ?_⟩
  rcases Nat.lt_trichotomy i m with hi | hi | hi
  · rw [List.getElem?_append_left (by omega)] at hu
    exact (h2 i u hu).keep hty hg
  · subst hi
    rw [List.getElem?_append_right (by omega), hvl, Nat.sub_self] at hu
    injection hu with hu
    subst hu
    exact hy.keep hty hg
  · rw [List.getElem?_append_right (by omega)] at hu
    have := lt_len hu
    simp at this
    omega
end Go.Proofs.YtbcngojiikdigaaGreat

namespace Go.Proofs.YtbcngojiikdigaaGreat
set_option maxRecDepth 100000
open Go.RowKit Go.Shelf
theorem tdiv_bd {a d : Int} (ha : -100000 ≤ a ∧ a ≤ 100000) : -100000 ≤ a.tdiv d ∧ a.tdiv d ≤ 100000 := by
  have h : (a.tdiv d).natAbs = a.natAbs / d.natAbs := Int.natAbs_tdiv a d
  have h2 : a.natAbs / d.natAbs ≤ a.natAbs := Nat.div_le_self _ _
  generalize a.natAbs / d.natAbs = t at *
  generalize a.tdiv d = y at *
  omega
set_option maxHeartbeats 16000000 in
theorem ahead_c (u v : Value) (n : Nat) (M N : MF) (a d : Int) (w : World) (hn1 : 1 ≤ n) (hn : n ≤ 6) (hM : MatAt w u n M) (hN : MatAt w v n N) (bM : bdF 1000000000 n M) (bN : bdF 1000000000 n N) (ha : -100000 ≤ a ∧ a ≤ 100000) (hd : 1 ≤ d ∧ d ≤ 6) :
    Calls Tryz.prog 75 #[u, v, .int .i64 a, .int .i64 d] w fun e w' => e = .returned (.bool (ahB n M N a d)) ∧ Ext w w' := by
  obtain ⟨ub, uo, uc, rfl, hu1, hu2, hu3⟩ := hM
  obtain ⟨vb, vo, vc, rfl, hv1, hv2, hv3⟩ := hN
  have HM := Lib.hid hu3
  have HN := Lib.hid hv3
  have HBM := Lib.hid bM
  have HBN := Lib.hid bN
  clear hu3 hv3 bM bN
  have hd0 : (d == 0) = false := beq_eq_false_iff_ne.2 (by omega)
  have hdne : ¬ d = 0 := by omega
  by_cases hm : a.tmod d = 0
  · have hzb := tdiv_bd (d := d) ha
    have hAB : ahB n M N a d = eqMB n M (shF N (a.tdiv d)) := by unfold ahB; rw [decide_eq_true hm, Bool.true_and]
    obtain ⟨z, hz⟩ : ∃ z, z = a.tdiv d := ⟨_, rfl⟩
    rw [← hz] at hzb hAB
    have HAB := Lib.hid hAB
    rw [hAB]
    have hqz : a.tdiv d = z := hz.symm
    have hwz : IntKind.i64.wrap z = z := IntWalk.i64_in _ (by omega)
    have hBZ : bdE KB (some z) := fun y hy => by injection hy with hy; subst hy; unfold KB; omega
    have HBZ := Lib.hid hBZ
    clear hAB hz hBZ
    go_enter Tryz.func75, Tryz.ntmps75
    go_wp2_with fail
    clear hm
    go_loopw [9] (fun iv' wr => ∃ i : Nat, iv' = .int .i64 (i : Int) ∧ i ≤ n ∧ (∀ x, x < i → eqVB n (M x) (shF N z x) = true) ∧ Ext w wr) (fun iv' _ => n - (intOf iv').toNat)
    case atStart => exact ⟨0, rfl, Nat.zero_le _, fun x hx => by omega, Ext.refl _⟩
    case round =>
      rename World => wr
      obtain ⟨i, rfl, hi, hall, hE⟩ := hrel
      have HALL := Lib.hid hall
      have HE := Lib.hid hE
      clear hall hE
      by_cases hil : i < n
      · obtain ⟨u1, c1, xb, xo, xc, rfl, _, _, hx⟩ := HM.out i hil
        obtain ⟨u2, c3, yb, yo, yc, rfl, _, _, hy⟩ := HN.out i hil
        have HX := Lib.hid hx
        have HY := Lib.hid hy
        have HC1 := Lib.hid c1
        have HC3 := Lib.hid c3
        clear hx hy c1 c3
        go_wp2_with fail
        go_loopw [10] (fun jv wq => ∃ j : Nat, jv = .int .i64 (j : Int) ∧ j ≤ n ∧ (∀ y, y < j → M i y = shF N z i y) ∧ Ext wr wq) (fun jv _ => n - (intOf jv).toNat)
        case atStart => exact ⟨0, rfl, Nat.zero_le _, fun y hy => by omega, Ext.refl _⟩
        case round =>
          rename World => wq
          obtain ⟨j, rfl, hj, hrow, hE⟩ := hrel
          have HROW := Lib.hid hrow
          have HEq := Lib.hid hE
          clear hrow hE
          by_cases hjl : j < n
          · have HET := Lib.hid (Ext.trans HE.out HEq.out)
            have C1 := Lib.hid (Ext.cell HET.out HC1.out)
            have C2 := Lib.hid (Ext.cell HET.out (HX.out j hjl))
            have C3 := Lib.hid (Ext.cell HET.out HC3.out)
            have C4 := Lib.hid (Ext.cell HET.out (HY.out j hjl))
            have HB1 := Lib.hid ((HBM.out i hil j hjl).mono (show (1000000000 : Int) ≤ KB by unfold KB; omega))
            have HB2 := Lib.hid ((HBN.out i hil j hjl).mono (show (1000000000 : Int) ≤ KB by unfold KB; omega))
            have HB3 := Lib.hid (show bdE KB (ep (N i j) (some z)) from (bdE_ep (HBN.out i hil j hjl) (fun y hy => by injection hy with hy; subst hy; exact ⟨hzb.1, hzb.2⟩ : bdE 100000 (some z))).mono (by unfold KB; omega))
            have HPL := Lib.hid (fun W => rplus_c (N i j) (some z) W HB2.out HBZ.out)
            have hilz : (i : Int) < (n : Int) := by omega
            have hjlz : (j : Int) < (n : Int) := by omega
            by_cases he : M i j = ep (N i j) (some z)
            · have HN1 := Lib.hid (show ∀ y, y < j + 1 → M i y = shF N z i y from fun y hy => by
                by_cases e : y = j
                · subst e; exact he
                · exact HROW.out y (by omega))
              have hbb : (val (M i j) != val (ep (N i j) (some z))) = false := by rw [he]; simp
              clear he
              generalize M i j = mm at *
              generalize N i j = nn at *
              go_wp2_with fail
              refine wp_region_stable [⟨[], none⟩, ⟨[], none⟩, ⟨[(0, 27), (1, 28)], none⟩, ⟨[(2, 29)], none⟩, ⟨[], none⟩, ⟨[(3, 30), (4, 31)], none⟩, ⟨[(5, 32)], none⟩, ⟨[], none⟩, ⟨[], none⟩, ⟨[(7, 34), (8, 35)], none⟩, ⟨[(9, 36)], none⟩, ⟨[], none⟩, ⟨[(10, 37), (11, 38)], none⟩, ⟨[(12, 39)], none⟩, ⟨[], none⟩, ⟨[], none⟩, ⟨[(14, 41), (15, 42)], none⟩, ⟨[(13, 40), (16, 43)], none⟩, ⟨[(6, 33), (17, 44)], none⟩] (fun x y => Below x.heap.size x y) (MPat [MP.eq (.slice (some ⟨ub, uo, none⟩) n uc), MP.eq (.int .i64 (i : Int)), MP.eq (.pointer (some ⟨ub, uo + i, none⟩)), MP.eq (.slice (some ⟨xb, xo, none⟩) n xc), MP.eq (.int .i64 (j : Int)), MP.eq (.pointer (some ⟨xb, xo + j, none⟩)), MP.eq (iv mm), MP.eq (.slice (some ⟨vb, vo, none⟩) n vc), MP.eq (.int .i64 (i : Int)), MP.eq (.pointer (some ⟨vb, vo + i, none⟩)), MP.eq (.slice (some ⟨yb, yo, none⟩) n yc), MP.eq (.int .i64 (j : Int)), MP.eq (.pointer (some ⟨yb, yo + j, none⟩)), MP.eq (iv nn), MP.eq (.int .i64 a), MP.eq (.int .i64 d), MP.eq (.int .i64 z), MP.eq (iv (ep nn (some z))), MP.eq (.bool false)]) (by kernel_rfl) (fun _ _ _ h k => Ext.trans h k) (fun _ => Below.refl _ _) (fun x => (Below.refl x.heap.size x).drew) (MPat.mono _) (by kernel_rfl) ?obs ?rest
              case obs =>
                refine ⟨?_, ?_, ?_, ?_, ?_, ?_, ?_, ?_, ?_, ?_, ?_, ?_, ?_, ?_, ?_, ?_, ?_, ?_, ?_, trivial⟩
                · intro ev W hf _ _ hst hd
                  have e0 : ev (.tmp 0) = .slice (some ⟨ub, uo, none⟩) n uc := hf 0 (by kernel_rfl)
                  refine st_value (v := .slice (some ⟨ub, uo, none⟩) n uc) ?_ (Below.refl _ _) ?_
                  · simp [execOp, go_sem, e0]
                  · exact rfl
                · intro ev W hf _ _ hst hd
                  have e9 : ev (.tmp 9) = .int .i64 (i : Int) := hf 9 (by kernel_rfl)
                  refine st_value (v := .int .i64 (i : Int)) ?_ (Below.refl _ _) ?_
                  · simp [execOp, go_sem, e9]
                  · exact rfl
                · intro ev W hf _ _ hst hd
                  obtain ⟨d27, d28, _⟩ := hd
                  have e27 : ev (.tmp 27) = .slice (some ⟨ub, uo, none⟩) n uc := d27
                  have e28 : ev (.tmp 28) = .int .i64 (i : Int) := d28
                  refine st_value (v := .pointer (some ⟨ub, uo + i, none⟩)) ?_ (Below.refl _ _) ?_
                  · simp [execOp, go_sem, e27, e28, hil]
                  · exact rfl
                · intro ev W hf _ _ hst hd
                  obtain ⟨d29, _⟩ := hd
                  have e29 : ev (.tmp 29) = .pointer (some ⟨ub, uo + i, none⟩) := d29
                  have q0 := Ext.cell hst C1.out
                  refine st_value (v := .slice (some ⟨xb, xo, none⟩) n xc) ?_ (Below.refl _ _) ?_
                  · simp [execOp, go_sem, e29, q0]
                  · exact rfl
                · intro ev W hf _ _ hst hd
                  have e10 : ev (.tmp 10) = .int .i64 (j : Int) := hf 10 (by kernel_rfl)
                  refine st_value (v := .int .i64 (j : Int)) ?_ (Below.refl _ _) ?_
                  · simp [execOp, go_sem, e10]
                  · exact rfl
                · intro ev W hf _ _ hst hd
                  obtain ⟨d30, d31, _⟩ := hd
                  have e30 : ev (.tmp 30) = .slice (some ⟨xb, xo, none⟩) n xc := d30
                  have e31 : ev (.tmp 31) = .int .i64 (j : Int) := d31
                  refine st_value (v := .pointer (some ⟨xb, xo + j, none⟩)) ?_ (Below.refl _ _) ?_
                  · simp [execOp, go_sem, e30, e31, hjl]
                  · exact rfl
                · intro ev W hf _ _ hst hd
                  obtain ⟨d32, _⟩ := hd
                  have e32 : ev (.tmp 32) = .pointer (some ⟨xb, xo + j, none⟩) := d32
                  have q0 := Ext.cell hst C2.out
                  refine st_value (v := iv mm) ?_ (Below.refl _ _) ?_
                  · simp [execOp, go_sem, e32, q0]
                  · exact rfl
                · intro ev W hf _ _ hst hd
                  have e1 : ev (.tmp 1) = .slice (some ⟨vb, vo, none⟩) n vc := hf 1 (by kernel_rfl)
                  refine st_value (v := .slice (some ⟨vb, vo, none⟩) n vc) ?_ (Below.refl _ _) ?_
                  · simp [execOp, go_sem, e1]
                  · exact rfl
                · intro ev W hf _ _ hst hd
                  have e9 : ev (.tmp 9) = .int .i64 (i : Int) := hf 9 (by kernel_rfl)
                  refine st_value (v := .int .i64 (i : Int)) ?_ (Below.refl _ _) ?_
                  · simp [execOp, go_sem, e9]
                  · exact rfl
                · intro ev W hf _ _ hst hd
                  obtain ⟨d34, d35, _⟩ := hd
                  have e34 : ev (.tmp 34) = .slice (some ⟨vb, vo, none⟩) n vc := d34
                  have e35 : ev (.tmp 35) = .int .i64 (i : Int) := d35
                  refine st_value (v := .pointer (some ⟨vb, vo + i, none⟩)) ?_ (Below.refl _ _) ?_
                  · simp [execOp, go_sem, e34, e35, hil]
                  · exact rfl
                · intro ev W hf _ _ hst hd
                  obtain ⟨d36, _⟩ := hd
                  have e36 : ev (.tmp 36) = .pointer (some ⟨vb, vo + i, none⟩) := d36
                  have q0 := Ext.cell hst C3.out
                  refine st_value (v := .slice (some ⟨yb, yo, none⟩) n yc) ?_ (Below.refl _ _) ?_
                  · simp [execOp, go_sem, e36, q0]
                  · exact rfl
                · intro ev W hf _ _ hst hd
                  have e10 : ev (.tmp 10) = .int .i64 (j : Int) := hf 10 (by kernel_rfl)
                  refine st_value (v := .int .i64 (j : Int)) ?_ (Below.refl _ _) ?_
                  · simp [execOp, go_sem, e10]
                  · exact rfl
                · intro ev W hf _ _ hst hd
                  obtain ⟨d37, d38, _⟩ := hd
                  have e37 : ev (.tmp 37) = .slice (some ⟨yb, yo, none⟩) n yc := d37
                  have e38 : ev (.tmp 38) = .int .i64 (j : Int) := d38
                  refine st_value (v := .pointer (some ⟨yb, yo + j, none⟩)) ?_ (Below.refl _ _) ?_
                  · simp [execOp, go_sem, e37, e38, hjl]
                  · exact rfl
                · intro ev W hf _ _ hst hd
                  obtain ⟨d39, _⟩ := hd
                  have e39 : ev (.tmp 39) = .pointer (some ⟨yb, yo + j, none⟩) := d39
                  have q0 := Ext.cell hst C4.out
                  refine st_value (v := iv nn) ?_ (Below.refl _ _) ?_
                  · simp [execOp, go_sem, e39, q0]
                  · exact rfl
                · intro ev W hf _ _ hst hd
                  have e2 : ev (.tmp 2) = .int .i64 a := hf 2 (by kernel_rfl)
                  refine st_value (v := .int .i64 a) ?_ (Below.refl _ _) ?_
                  · simp [execOp, go_sem, e2]
                  · exact rfl
                · intro ev W hf _ _ hst hd
                  have e3 : ev (.tmp 3) = .int .i64 d := hf 3 (by kernel_rfl)
                  refine st_value (v := .int .i64 d) ?_ (Below.refl _ _) ?_
                  · simp [execOp, go_sem, e3]
                  · exact rfl
                · intro ev W hf _ _ hst hd
                  obtain ⟨d41, d42, _⟩ := hd
                  have e41 : ev (.tmp 41) = .int .i64 a := d41
                  have e42 : ev (.tmp 42) = .int .i64 d := d42
                  refine st_value (v := .int .i64 z) ?_ (Below.refl _ _) ?_
                  · simp [execOp, go_sem, e41, e42, hdne, hqz, hwz]
                  · exact rfl
                · intro ev W hf _ hfn hst hd
                  obtain ⟨d40, d43, _⟩ := hd
                  have e40 : ev (.tmp 40) = iv nn := d40
                  have e43 : ev (.tmp 43) = .int .i64 z := d43
                  refine st_call (f := 56) (args := #[iv nn, .int .i64 z]) (by simp [execOp, go_sem, hfn, e40, e43]) (HPL.out W) (fun _ _ => rfl)
                · intro ev W hf _ _ hst hd
                  obtain ⟨d33, d44, _⟩ := hd
                  have e33 : ev (.tmp 33) = iv mm := d33
                  have e44 : ev (.tmp 44) = iv (ep nn (some z)) := d44
                  refine st_value (v := .bool false) ?_ (Below.refl _ _) ?_
                  · simp [execOp, go_sem, e33, e44, hbb]
                  · exact rfl
              case rest =>
                intro vs w3 hl hst hg
                have hx0 : ∀ u, vs[0]? = some u → u = .slice (some ⟨ub, uo, none⟩) n uc := fun u hu => hg 0 u hu
                have hx1 : ∀ u, vs[1]? = some u → u = .int .i64 (i : Int) := fun u hu => hg 1 u hu
                have hx2 : ∀ u, vs[2]? = some u → u = .pointer (some ⟨ub, uo + i, none⟩) := fun u hu => hg 2 u hu
                have hx3 : ∀ u, vs[3]? = some u → u = .slice (some ⟨xb, xo, none⟩) n xc := fun u hu => hg 3 u hu
                have hx4 : ∀ u, vs[4]? = some u → u = .int .i64 (j : Int) := fun u hu => hg 4 u hu
                have hx5 : ∀ u, vs[5]? = some u → u = .pointer (some ⟨xb, xo + j, none⟩) := fun u hu => hg 5 u hu
                have hx6 : ∀ u, vs[6]? = some u → u = iv mm := fun u hu => hg 6 u hu
                have hx7 : ∀ u, vs[7]? = some u → u = .slice (some ⟨vb, vo, none⟩) n vc := fun u hu => hg 7 u hu
                have hx8 : ∀ u, vs[8]? = some u → u = .int .i64 (i : Int) := fun u hu => hg 8 u hu
                have hx9 : ∀ u, vs[9]? = some u → u = .pointer (some ⟨vb, vo + i, none⟩) := fun u hu => hg 9 u hu
                have hx10 : ∀ u, vs[10]? = some u → u = .slice (some ⟨yb, yo, none⟩) n yc := fun u hu => hg 10 u hu
                have hx11 : ∀ u, vs[11]? = some u → u = .int .i64 (j : Int) := fun u hu => hg 11 u hu
                have hx12 : ∀ u, vs[12]? = some u → u = .pointer (some ⟨yb, yo + j, none⟩) := fun u hu => hg 12 u hu
                have hx13 : ∀ u, vs[13]? = some u → u = iv nn := fun u hu => hg 13 u hu
                have hx14 : ∀ u, vs[14]? = some u → u = .int .i64 a := fun u hu => hg 14 u hu
                have hx15 : ∀ u, vs[15]? = some u → u = .int .i64 d := fun u hu => hg 15 u hu
                have hx16 : ∀ u, vs[16]? = some u → u = .int .i64 z := fun u hu => hg 16 u hu
                have hx17 : ∀ u, vs[17]? = some u → u = iv (ep nn (some z)) := fun u hu => hg 17 u hu
                have hx18 : ∀ u, vs[18]? = some u → u = .bool false := fun u hu => hg 18 u hu
                have HE3 := Lib.hid hst
                clear hg hst
                obtain ⟨x0, vs0, rfl, hl0⟩ := len_succ hl
                obtain ⟨x1, vs1, rfl, hl1⟩ := len_succ hl0
                obtain ⟨x2, vs2, rfl, hl2⟩ := len_succ hl1
                obtain ⟨x3, vs3, rfl, hl3⟩ := len_succ hl2
                obtain ⟨x4, vs4, rfl, hl4⟩ := len_succ hl3
                obtain ⟨x5, vs5, rfl, hl5⟩ := len_succ hl4
                obtain ⟨x6, vs6, rfl, hl6⟩ := len_succ hl5
                obtain ⟨x7, vs7, rfl, hl7⟩ := len_succ hl6
                obtain ⟨x8, vs8, rfl, hl8⟩ := len_succ hl7
                obtain ⟨x9, vs9, rfl, hl9⟩ := len_succ hl8
                obtain ⟨x10, vs10, rfl, hl10⟩ := len_succ hl9
                obtain ⟨x11, vs11, rfl, hl11⟩ := len_succ hl10
                obtain ⟨x12, vs12, rfl, hl12⟩ := len_succ hl11
                obtain ⟨x13, vs13, rfl, hl13⟩ := len_succ hl12
                obtain ⟨x14, vs14, rfl, hl14⟩ := len_succ hl13
                obtain ⟨x15, vs15, rfl, hl15⟩ := len_succ hl14
                obtain ⟨x16, vs16, rfl, hl16⟩ := len_succ hl15
                obtain ⟨x17, vs17, rfl, hl17⟩ := len_succ hl16
                obtain ⟨x18, vs18, rfl, hl18⟩ := len_succ hl17
                have hnil : vs18 = [] := List.length_eq_zero_iff.1 hl18
                subst hnil
                obtain rfl : x0 = .slice (some ⟨ub, uo, none⟩) n uc := hx0 _ rfl
                obtain rfl : x1 = .int .i64 (i : Int) := hx1 _ rfl
                obtain rfl : x2 = .pointer (some ⟨ub, uo + i, none⟩) := hx2 _ rfl
                obtain rfl : x3 = .slice (some ⟨xb, xo, none⟩) n xc := hx3 _ rfl
                obtain rfl : x4 = .int .i64 (j : Int) := hx4 _ rfl
                obtain rfl : x5 = .pointer (some ⟨xb, xo + j, none⟩) := hx5 _ rfl
                obtain rfl : x6 = iv mm := hx6 _ rfl
                obtain rfl : x7 = .slice (some ⟨vb, vo, none⟩) n vc := hx7 _ rfl
                obtain rfl : x8 = .int .i64 (i : Int) := hx8 _ rfl
                obtain rfl : x9 = .pointer (some ⟨vb, vo + i, none⟩) := hx9 _ rfl
                obtain rfl : x10 = .slice (some ⟨yb, yo, none⟩) n yc := hx10 _ rfl
                obtain rfl : x11 = .int .i64 (j : Int) := hx11 _ rfl
                obtain rfl : x12 = .pointer (some ⟨yb, yo + j, none⟩) := hx12 _ rfl
                obtain rfl : x13 = iv nn := hx13 _ rfl
                obtain rfl : x14 = .int .i64 a := hx14 _ rfl
                obtain rfl : x15 = .int .i64 d := hx15 _ rfl
                obtain rfl : x16 = .int .i64 z := hx16 _ rfl
                obtain rfl : x17 = iv (ep nn (some z)) := hx17 _ rfl
                obtain rfl : x18 = .bool false := hx18 _ rfl
                clear hx0 hx1 hx2 hx3 hx4 hx5 hx6 hx7 hx8 hx9 hx10 hx11 hx12 hx13 hx14 hx15 hx16 hx17 hx18
                simp only [putAll, Act.put, List.setIfInBounds_toArray, List.set_cons_zero, List.set_cons_succ]
                go_wp2_with fail
                exact ⟨⟨j + 1, by simp, by omega, HN1.out, Ext.trans HEq.out HE3.out⟩, by simp [intOf]; omega⟩
            · have HF := Lib.hid (show eqMB n M (shF N z) = false from eqMB_false hil (eqVB_false hjl he))
              have hbb : (val (M i j) != val (ep (N i j) (some z))) = true := val_ne HB1.out HB3.out he
              clear he
              generalize M i j = mm at *
              generalize N i j = nn at *
              go_wp2_with fail
              refine wp_region_stable [⟨[], none⟩, ⟨[], none⟩, ⟨[(0, 27), (1, 28)], none⟩, ⟨[(2, 29)], none⟩, ⟨[], none⟩, ⟨[(3, 30), (4, 31)], none⟩, ⟨[(5, 32)], none⟩, ⟨[], none⟩, ⟨[], none⟩, ⟨[(7, 34), (8, 35)], none⟩, ⟨[(9, 36)], none⟩, ⟨[], none⟩, ⟨[(10, 37), (11, 38)], none⟩, ⟨[(12, 39)], none⟩, ⟨[], none⟩, ⟨[], none⟩, ⟨[(14, 41), (15, 42)], none⟩, ⟨[(13, 40), (16, 43)], none⟩, ⟨[(6, 33), (17, 44)], none⟩] (fun x y => Below x.heap.size x y) (MPat [MP.eq (.slice (some ⟨ub, uo, none⟩) n uc), MP.eq (.int .i64 (i : Int)), MP.eq (.pointer (some ⟨ub, uo + i, none⟩)), MP.eq (.slice (some ⟨xb, xo, none⟩) n xc), MP.eq (.int .i64 (j : Int)), MP.eq (.pointer (some ⟨xb, xo + j, none⟩)), MP.eq (iv mm), MP.eq (.slice (some ⟨vb, vo, none⟩) n vc), MP.eq (.int .i64 (i : Int)), MP.eq (.pointer (some ⟨vb, vo + i, none⟩)), MP.eq (.slice (some ⟨yb, yo, none⟩) n yc), MP.eq (.int .i64 (j : Int)), MP.eq (.pointer (some ⟨yb, yo + j, none⟩)), MP.eq (iv nn), MP.eq (.int .i64 a), MP.eq (.int .i64 d), MP.eq (.int .i64 z), MP.eq (iv (ep nn (some z))), MP.eq (.bool true)]) (by kernel_rfl) (fun _ _ _ h k => Ext.trans h k) (fun _ => Below.refl _ _) (fun x => (Below.refl x.heap.size x).drew) (MPat.mono _) (by kernel_rfl) ?obs ?rest
              case obs =>
                refine ⟨?_, ?_, ?_, ?_, ?_, ?_, ?_, ?_, ?_, ?_, ?_, ?_, ?_, ?_, ?_, ?_, ?_, ?_, ?_, trivial⟩
                · intro ev W hf _ _ hst hd
                  have e0 : ev (.tmp 0) = .slice (some ⟨ub, uo, none⟩) n uc := hf 0 (by kernel_rfl)
                  refine st_value (v := .slice (some ⟨ub, uo, none⟩) n uc) ?_ (Below.refl _ _) ?_
                  · simp [execOp, go_sem, e0]
                  · exact rfl
                · intro ev W hf _ _ hst hd
                  have e9 : ev (.tmp 9) = .int .i64 (i : Int) := hf 9 (by kernel_rfl)
                  refine st_value (v := .int .i64 (i : Int)) ?_ (Below.refl _ _) ?_
                  · simp [execOp, go_sem, e9]
                  · exact rfl
                · intro ev W hf _ _ hst hd
                  obtain ⟨d27, d28, _⟩ := hd
                  have e27 : ev (.tmp 27) = .slice (some ⟨ub, uo, none⟩) n uc := d27
                  have e28 : ev (.tmp 28) = .int .i64 (i : Int) := d28
                  refine st_value (v := .pointer (some ⟨ub, uo + i, none⟩)) ?_ (Below.refl _ _) ?_
                  · simp [execOp, go_sem, e27, e28, hil]
                  · exact rfl
                · intro ev W hf _ _ hst hd
                  obtain ⟨d29, _⟩ := hd
                  have e29 : ev (.tmp 29) = .pointer (some ⟨ub, uo + i, none⟩) := d29
                  have q0 := Ext.cell hst C1.out
                  refine st_value (v := .slice (some ⟨xb, xo, none⟩) n xc) ?_ (Below.refl _ _) ?_
                  · simp [execOp, go_sem, e29, q0]
                  · exact rfl
                · intro ev W hf _ _ hst hd
                  have e10 : ev (.tmp 10) = .int .i64 (j : Int) := hf 10 (by kernel_rfl)
                  refine st_value (v := .int .i64 (j : Int)) ?_ (Below.refl _ _) ?_
                  · simp [execOp, go_sem, e10]
                  · exact rfl
                · intro ev W hf _ _ hst hd
                  obtain ⟨d30, d31, _⟩ := hd
                  have e30 : ev (.tmp 30) = .slice (some ⟨xb, xo, none⟩) n xc := d30
                  have e31 : ev (.tmp 31) = .int .i64 (j : Int) := d31
                  refine st_value (v := .pointer (some ⟨xb, xo + j, none⟩)) ?_ (Below.refl _ _) ?_
                  · simp [execOp, go_sem, e30, e31, hjl]
                  · exact rfl
                · intro ev W hf _ _ hst hd
                  obtain ⟨d32, _⟩ := hd
                  have e32 : ev (.tmp 32) = .pointer (some ⟨xb, xo + j, none⟩) := d32
                  have q0 := Ext.cell hst C2.out
                  refine st_value (v := iv mm) ?_ (Below.refl _ _) ?_
                  · simp [execOp, go_sem, e32, q0]
                  · exact rfl
                · intro ev W hf _ _ hst hd
                  have e1 : ev (.tmp 1) = .slice (some ⟨vb, vo, none⟩) n vc := hf 1 (by kernel_rfl)
                  refine st_value (v := .slice (some ⟨vb, vo, none⟩) n vc) ?_ (Below.refl _ _) ?_
                  · simp [execOp, go_sem, e1]
                  · exact rfl
                · intro ev W hf _ _ hst hd
                  have e9 : ev (.tmp 9) = .int .i64 (i : Int) := hf 9 (by kernel_rfl)
                  refine st_value (v := .int .i64 (i : Int)) ?_ (Below.refl _ _) ?_
                  · simp [execOp, go_sem, e9]
                  · exact rfl
                · intro ev W hf _ _ hst hd
                  obtain ⟨d34, d35, _⟩ := hd
                  have e34 : ev (.tmp 34) = .slice (some ⟨vb, vo, none⟩) n vc := d34
                  have e35 : ev (.tmp 35) = .int .i64 (i : Int) := d35
                  refine st_value (v := .pointer (some ⟨vb, vo + i, none⟩)) ?_ (Below.refl _ _) ?_
                  · simp [execOp, go_sem, e34, e35, hil]
                  · exact rfl
                · intro ev W hf _ _ hst hd
                  obtain ⟨d36, _⟩ := hd
                  have e36 : ev (.tmp 36) = .pointer (some ⟨vb, vo + i, none⟩) := d36
                  have q0 := Ext.cell hst C3.out
                  refine st_value (v := .slice (some ⟨yb, yo, none⟩) n yc) ?_ (Below.refl _ _) ?_
                  · simp [execOp, go_sem, e36, q0]
                  · exact rfl
                · intro ev W hf _ _ hst hd
                  have e10 : ev (.tmp 10) = .int .i64 (j : Int) := hf 10 (by kernel_rfl)
                  refine st_value (v := .int .i64 (j : Int)) ?_ (Below.refl _ _) ?_
                  · simp [execOp, go_sem, e10]
                  · exact rfl
                · intro ev W hf _ _ hst hd
                  obtain ⟨d37, d38, _⟩ := hd
                  have e37 : ev (.tmp 37) = .slice (some ⟨yb, yo, none⟩) n yc := d37
                  have e38 : ev (.tmp 38) = .int .i64 (j : Int) := d38
                  refine st_value (v := .pointer (some ⟨yb, yo + j, none⟩)) ?_ (Below.refl _ _) ?_
                  · simp [execOp, go_sem, e37, e38, hjl]
                  · exact rfl
                · intro ev W hf _ _ hst hd
                  obtain ⟨d39, _⟩ := hd
                  have e39 : ev (.tmp 39) = .pointer (some ⟨yb, yo + j, none⟩) := d39
                  have q0 := Ext.cell hst C4.out
                  refine st_value (v := iv nn) ?_ (Below.refl _ _) ?_
                  · simp [execOp, go_sem, e39, q0]
                  · exact rfl
                · intro ev W hf _ _ hst hd
                  have e2 : ev (.tmp 2) = .int .i64 a := hf 2 (by kernel_rfl)
                  refine st_value (v := .int .i64 a) ?_ (Below.refl _ _) ?_
                  · simp [execOp, go_sem, e2]
                  · exact rfl
                · intro ev W hf _ _ hst hd
                  have e3 : ev (.tmp 3) = .int .i64 d := hf 3 (by kernel_rfl)
                  refine st_value (v := .int .i64 d) ?_ (Below.refl _ _) ?_
                  · simp [execOp, go_sem, e3]
                  · exact rfl
                · intro ev W hf _ _ hst hd
                  obtain ⟨d41, d42, _⟩ := hd
                  have e41 : ev (.tmp 41) = .int .i64 a := d41
                  have e42 : ev (.tmp 42) = .int .i64 d := d42
                  refine st_value (v := .int .i64 z) ?_ (Below.refl _ _) ?_
                  · simp [execOp, go_sem, e41, e42, hdne, hqz, hwz]
                  · exact rfl
                · intro ev W hf _ hfn hst hd
                  obtain ⟨d40, d43, _⟩ := hd
                  have e40 : ev (.tmp 40) = iv nn := d40
                  have e43 : ev (.tmp 43) = .int .i64 z := d43
                  refine st_call (f := 56) (args := #[iv nn, .int .i64 z]) (by simp [execOp, go_sem, hfn, e40, e43]) (HPL.out W) (fun _ _ => rfl)
                · intro ev W hf _ _ hst hd
                  obtain ⟨d33, d44, _⟩ := hd
                  have e33 : ev (.tmp 33) = iv mm := d33
                  have e44 : ev (.tmp 44) = iv (ep nn (some z)) := d44
                  refine st_value (v := .bool true) ?_ (Below.refl _ _) ?_
                  · simp [execOp, go_sem, e33, e44, hbb]
                  · exact rfl
              case rest =>
                intro vs w3 hl hst hg
                have hx0 : ∀ u, vs[0]? = some u → u = .slice (some ⟨ub, uo, none⟩) n uc := fun u hu => hg 0 u hu
                have hx1 : ∀ u, vs[1]? = some u → u = .int .i64 (i : Int) := fun u hu => hg 1 u hu
                have hx2 : ∀ u, vs[2]? = some u → u = .pointer (some ⟨ub, uo + i, none⟩) := fun u hu => hg 2 u hu
                have hx3 : ∀ u, vs[3]? = some u → u = .slice (some ⟨xb, xo, none⟩) n xc := fun u hu => hg 3 u hu
                have hx4 : ∀ u, vs[4]? = some u → u = .int .i64 (j : Int) := fun u hu => hg 4 u hu
                have hx5 : ∀ u, vs[5]? = some u → u = .pointer (some ⟨xb, xo + j, none⟩) := fun u hu => hg 5 u hu
                have hx6 : ∀ u, vs[6]? = some u → u = iv mm := fun u hu => hg 6 u hu
                have hx7 : ∀ u, vs[7]? = some u → u = .slice (some ⟨vb, vo, none⟩) n vc := fun u hu => hg 7 u hu
                have hx8 : ∀ u, vs[8]? = some u → u = .int .i64 (i : Int) := fun u hu => hg 8 u hu
                have hx9 : ∀ u, vs[9]? = some u → u = .pointer (some ⟨vb, vo + i, none⟩) := fun u hu => hg 9 u hu
                have hx10 : ∀ u, vs[10]? = some u → u = .slice (some ⟨yb, yo, none⟩) n yc := fun u hu => hg 10 u hu
                have hx11 : ∀ u, vs[11]? = some u → u = .int .i64 (j : Int) := fun u hu => hg 11 u hu
                have hx12 : ∀ u, vs[12]? = some u → u = .pointer (some ⟨yb, yo + j, none⟩) := fun u hu => hg 12 u hu
                have hx13 : ∀ u, vs[13]? = some u → u = iv nn := fun u hu => hg 13 u hu
                have hx14 : ∀ u, vs[14]? = some u → u = .int .i64 a := fun u hu => hg 14 u hu
                have hx15 : ∀ u, vs[15]? = some u → u = .int .i64 d := fun u hu => hg 15 u hu
                have hx16 : ∀ u, vs[16]? = some u → u = .int .i64 z := fun u hu => hg 16 u hu
                have hx17 : ∀ u, vs[17]? = some u → u = iv (ep nn (some z)) := fun u hu => hg 17 u hu
                have hx18 : ∀ u, vs[18]? = some u → u = .bool true := fun u hu => hg 18 u hu
                have HE3 := Lib.hid hst
                clear hg hst
                obtain ⟨x0, vs0, rfl, hl0⟩ := len_succ hl
                obtain ⟨x1, vs1, rfl, hl1⟩ := len_succ hl0
                obtain ⟨x2, vs2, rfl, hl2⟩ := len_succ hl1
                obtain ⟨x3, vs3, rfl, hl3⟩ := len_succ hl2
                obtain ⟨x4, vs4, rfl, hl4⟩ := len_succ hl3
                obtain ⟨x5, vs5, rfl, hl5⟩ := len_succ hl4
                obtain ⟨x6, vs6, rfl, hl6⟩ := len_succ hl5
                obtain ⟨x7, vs7, rfl, hl7⟩ := len_succ hl6
                obtain ⟨x8, vs8, rfl, hl8⟩ := len_succ hl7
                obtain ⟨x9, vs9, rfl, hl9⟩ := len_succ hl8
                obtain ⟨x10, vs10, rfl, hl10⟩ := len_succ hl9
                obtain ⟨x11, vs11, rfl, hl11⟩ := len_succ hl10
                obtain ⟨x12, vs12, rfl, hl12⟩ := len_succ hl11
                obtain ⟨x13, vs13, rfl, hl13⟩ := len_succ hl12
                obtain ⟨x14, vs14, rfl, hl14⟩ := len_succ hl13
                obtain ⟨x15, vs15, rfl, hl15⟩ := len_succ hl14
                obtain ⟨x16, vs16, rfl, hl16⟩ := len_succ hl15
                obtain ⟨x17, vs17, rfl, hl17⟩ := len_succ hl16
                obtain ⟨x18, vs18, rfl, hl18⟩ := len_succ hl17
                have hnil : vs18 = [] := List.length_eq_zero_iff.1 hl18
                subst hnil
                obtain rfl : x0 = .slice (some ⟨ub, uo, none⟩) n uc := hx0 _ rfl
                obtain rfl : x1 = .int .i64 (i : Int) := hx1 _ rfl
                obtain rfl : x2 = .pointer (some ⟨ub, uo + i, none⟩) := hx2 _ rfl
                obtain rfl : x3 = .slice (some ⟨xb, xo, none⟩) n xc := hx3 _ rfl
                obtain rfl : x4 = .int .i64 (j : Int) := hx4 _ rfl
                obtain rfl : x5 = .pointer (some ⟨xb, xo + j, none⟩) := hx5 _ rfl
                obtain rfl : x6 = iv mm := hx6 _ rfl
                obtain rfl : x7 = .slice (some ⟨vb, vo, none⟩) n vc := hx7 _ rfl
                obtain rfl : x8 = .int .i64 (i : Int) := hx8 _ rfl
                obtain rfl : x9 = .pointer (some ⟨vb, vo + i, none⟩) := hx9 _ rfl
                obtain rfl : x10 = .slice (some ⟨yb, yo, none⟩) n yc := hx10 _ rfl
                obtain rfl : x11 = .int .i64 (j : Int) := hx11 _ rfl
                obtain rfl : x12 = .pointer (some ⟨yb, yo + j, none⟩) := hx12 _ rfl
                obtain rfl : x13 = iv nn := hx13 _ rfl
                obtain rfl : x14 = .int .i64 a := hx14 _ rfl
                obtain rfl : x15 = .int .i64 d := hx15 _ rfl
                obtain rfl : x16 = .int .i64 z := hx16 _ rfl
                obtain rfl : x17 = iv (ep nn (some z)) := hx17 _ rfl
                obtain rfl : x18 = .bool true := hx18 _ rfl
                clear hx0 hx1 hx2 hx3 hx4 hx5 hx6 hx7 hx8 hx9 hx10 hx11 hx12 hx13 hx14 hx15 hx16 hx17 hx18
                simp only [putAll, Act.put, List.setIfInBounds_toArray, List.set_cons_zero, List.set_cons_succ]
                go_wp2_with fail
                go_ret
                exact ⟨ret_bool HF.out.symm, Ext.trans HE.out (Ext.trans HEq.out HE3.out)⟩
          · have HN1 := Lib.hid (show ∀ x, x < i + 1 → eqVB n (M x) (shF N z x) = true from fun x hx => by
              by_cases e : x = i
              · subst e; exact eqVB_true fun y hy => HROW.out y (by omega)
              · exact HALL.out x (by omega))
            have hjz : ¬ (j : Int) < (n : Int) := by omega
            go_wp2_with fail
            exact ⟨⟨i + 1, by simp, by omega, HN1.out, Ext.trans HE.out HEq.out⟩, by simp [intOf]; omega⟩
      · have HT := Lib.hid (show eqMB n M (shF N z) = true from eqMB_true fun x hx => HALL.out x (by omega))
        have hiz : ¬ (i : Int) < (n : Int) := by omega
        go_wp2_with fail
        go_ret
        exact ⟨ret_bool HT.out.symm, HE.out⟩
  · have HF := Lib.hid (show ahB n M N a d = false from by unfold ahB; rw [decide_eq_false hm, Bool.false_and])
    have hmw : (a.tmod d != 0) = true := by rw [bne_iff_ne]; exact hm
    clear hm
    go_enter Tryz.func75, Tryz.ntmps75
    go_wp2_with fail
    go_ret
    exact ⟨ret_bool HF.out.symm, Ext.refl _⟩
end Go.Proofs.YtbcngojiikdigaaGreat

namespace Go.Proofs.YtbcngojiikdigaaGreat
set_option maxRecDepth 100000
open Go.RowKit Go.Shelf
/-- what Critical gives -/
def CritS (xs : List (List Int)) (e : Ending) (w' : World) : Prop :=
  (matB xs = false ∧ e = two (.slice none 0 0) (.int .i64 2)) ∨
  (matB xs = true ∧ spF xs.length (entF xs) = none ∧ e = two (.slice none 0 0) (.int .i64 10)) ∨
  (matB xs = true ∧ ∃ p q v, spF xs.length (entF xs) = some (p, q) ∧ e = two v (.int .i64 0) ∧ Ints w' v (natI (critL xs.length (lvF p q (entF xs)) xs.length)))
set_option maxHeartbeats 4000000 in
theorem Critical_c (u : Value) (xs : List (List Int)) (w : World) (hu : Rows2 w u xs) (hlx : ∀ r ∈ xs, r.length ≤ 1000000) :
    Calls Tryz.prog 24 #[u] w fun e w' => CritS xs e w' ∧ Ext w w' := by
  have HL := Lib.hid (leveled_c u xs w hu hlx)
  obtain ⟨a1, c1, rfl, hl1, hm1, _⟩ := hu.at
  clear hu hlx
  go_enter Tryz.func24, Tryz.ntmps24
  go_wp2_with fail
  refine HL.out.mono ?_
  rintro e w1 ⟨hS, hE⟩
  have HE := Lib.hid hE
  clear hE
  rcases hS with ⟨hm, rfl⟩ | ⟨hm, hs, rfl⟩ | ⟨hm, p, q, r, hs, rfl, hr⟩
  · have HS := Lib.hid (fun w' => (show CritS xs (two (.slice none 0 0) (.int .i64 2)) w' from .inl ⟨hm, rfl⟩))
    clear hm
    unfold two
    go_wp2_with fail
    go_ret2
    exact ⟨HS.out _, HE.out⟩
  · have HS := Lib.hid (fun w' => (show CritS xs (two (.slice none 0 0) (.int .i64 10)) w' from .inr (.inl ⟨hm, hs, rfl⟩)))
    clear hm hs
    unfold two
    go_wp2_with fail
    go_ret2
    exact ⟨HS.out _, HE.out⟩
  · have hn := (matB_ok hm).1
    have hb := spF_bd (matB_ok hm).2.2 hn.2 hs
    have HB := Lib.hid (lvF_bd (matB_ok hm).2.2 hb.1 hb.2)
    have HS := Lib.hid (fun v w' (h : Ints w' v (natI (critL xs.length (lvF p q (entF xs)) xs.length))) => (show CritS xs (two v (.int .i64 0)) w' from .inr (.inr ⟨hm, p, q, v, hs, rfl, h⟩)))
    have HLE := Lib.hid (critL_len xs.length (lvF p q (entF xs)) xs.length)
    have HCR := Lib.hid (critical_c _ _ _ 12000 w1 hn.1 hn.2 (hr.mat (by omega)) HB.out (by omega) (by omega))
    clear hm hs hr hb hl1 hm1
    unfold two at *
    go_wp2_with fail
    refine HCR.out.mono ?_
    rintro e w2 ⟨v, rfl, hv, hE⟩
    have HV := Lib.hid (nats_ints hv (by have := HLE.out; omega))
    have HE2 := Lib.hid (Ext.trans HE.out hE)
    clear hv hE
    go_wp2_with fail
    go_ret2
    exact ⟨HS.out _ _ HV.out, HE2.out⟩
end Go.Proofs.YtbcngojiikdigaaGreat

namespace Go.Proofs.YtbcngojiikdigaaGreat
set_option maxRecDepth 100000
open Go.RowKit Go.Shelf
theorem OutC.put {base : Nat} {w : World} {v : Value} {L : List (List Nat)} (h : OutC base w v L) {a : Addr} (ha : a.block < base) (u : Value) : OutC base (w.setCell a u) v L := by
  obtain ⟨vs, h1, h2⟩ := h
  exact ⟨vs, ownsRow_setCell_below h1 ha u, fun i x c hx hc => ownsRow_setCell_below (h2 i x c hx hc) ha u⟩
theorem BRow.ext {w w' : World} {R t n : Nat} {x : Nat → Bool} (h : BRow w R t n x) (he : Ext w w') : BRow w' R t n x := by
  obtain ⟨vs, h1, h2⟩ := h
  exact ⟨vs, VRow.ext h1 he, h2⟩
theorem BRow.congr {w : World} {R t n : Nat} {x y : Nat → Bool} (h : BRow w R t n x) (e : ∀ i, i < n → x i = y i) : BRow w R t n y := by
  obtain ⟨vs, h1, h2, h3⟩ := h
  exact ⟨vs, h1, h2, fun b hb => by rw [h3 b hb, e b hb]⟩
theorem BRow.at {w : World} {R t n : Nat} {x : Nat → Bool} (h : BRow w R t n x) {i : Nat} (hi : i < n) : w.cell? ⟨R, i, none⟩ = some (.bool (x i)) ∧ w.frozen? ⟨R, i, none⟩ = false := by
  obtain ⟨vs, h1, _, h3⟩ := h
  exact ⟨VRow.cell h1 (h3 i hi), VRow.frozen h1 i none⟩
theorem BRow.on {w : World} {R t n : Nat} {x : Nat → Bool} (h : BRow w R t n x) {v : Nat} (hv : v < n) : BRow (w.setCell ⟨R, v, none⟩ (.bool true)) R t n (fun i => x i || decide (i = v)) := by
  obtain ⟨vs, h1, h2, h3⟩ := h
  refine ⟨_, VRow.set h1 v (.bool true), by simp [h2], fun b hb => ?_⟩
  by_cases e : b = v
  · subst e; rw [List.getElem?_set_self (by omega)]; simp
  · rw [List.getElem?_set_ne (fun h => e h.symm), h3 b hb]
    simp only [decide_eq_false e, Bool.or_false]
theorem mean_is {A : MF} {p q s : Int} {c : List Nat} (h : preL A (gC c) c.length = some s) : meanB A p q c = decide (s * q = p * c.length) := by
  unfold meanB
  rw [h]
theorem take_contains {c : List Nat} {k : Nat} (hk : k < c.length) (v : Nat) : (c.take (k + 1)).contains v = ((c.take k).contains v || decide (v = gC c k)) := by
  have e : c[k]? = some (gC c k) := by
    unfold gC
    rw [List.getD_eq_getElem?_getD, List.getElem?_eq_getElem hk]; rfl
  rw [List.take_add_one, e]
  simp only [Option.toList_some]
  rw [Bool.eq_iff_iff]
  simp [List.mem_append]
theorem own_hi0 {w : World} {base e n : Nat} {v : Value} {vs : List Value} (h : w.ownsRow base e 1 v n vs) (hn : 1 ≤ n) : ∃ b cap, v = .slice (some ⟨b, 0, none⟩) n cap ∧ n ≤ cap ∧ cap ≤ 9223372036854775807 ∧ base ≤ b ∧ vs.length = n ∧ (∃ c f, w.heap[b]? = some (.cells c e f)) ∧ ∀ (i : Nat) (u : Value), vs[i]? = some u → w.cell? ⟨b, 0 + i, none⟩ = some u := by
  obtain ⟨h1, h⟩ := h
  rw [Nat.mul_one] at h1
  rcases h with ⟨hv, hn0⟩ | ⟨g, cap, cur, hv, hg, hc, hnc, hmx, hsz, htk⟩
  · omega
  · unfold maxLen at hmx
    refine ⟨g, cap, hv, hnc, by omega, hg, h1, ⟨_, _, hc⟩, fun k q hk => ?_⟩
    have hlt := lt_len hk
    rw [← htk] at hk
    rw [List.getElem?_take_of_lt (by omega), Array.getElem?_toList] at hk
    simp [World.cell?, hc, hk]

/-- the sums of a cycle that lies in a list of cycles -/
theorem mean_bd {p x : Int} (hp : -6000 ≤ p ∧ p ≤ 6000) (hx : 0 ≤ x ∧ x ≤ 6) : -36000 ≤ p * x ∧ p * x ≤ 36000 := mul_bd6 hp hx
set_option maxHeartbeats 16000000 in
theorem rcritical_c (ua : Value) (n : Nat) (A : MF) (p q : Int) (w : World) (hn1 : 1 ≤ n) (hn : n ≤ 6) (hA : MatAt w ua n A) (bA : bdF 1000 n A) (hp : -6000 ≤ p ∧ p ≤ 6000) (hq : 0 ≤ q ∧ q ≤ 6) :
    Calls Tryz.prog 63 #[ua, .agg #[.int .i64 p, .int .i64 q]] w fun e w' => ∃ v, e = .returned v ∧ Ints w' v (natI (onL n A p q n)) ∧ Ext w w' := by
  have HA := Lib.hid hA
  have HBA := Lib.hid bA
  obtain ⟨ab, ao, ac, rfl, _, _, _⟩ := hA
  have HLL := Lib.hid (allC_len (A := A) hn (Nat.le_refl n))
  have HE1 := Lib.hid (Ext.alloc (Ext.refl w) (.cells #[.int .i64 p, .int .i64 q] 38))
  have HS1 := Lib.hid (show VRow (w.alloc (.cells #[.int .i64 p, .int .i64 q] 38)) _ _ _ from vrow_alloc w [.int .i64 p, .int .i64 q] 38)
  obtain ⟨i0, hi0, hz0, hz1, hz2⟩ := info_parts info3x23
  have HI := Lib.hid hi0
  have HZ0 := Lib.hid hz0
  have HZ1 := Lib.hid hz1
  have HZ2 := Lib.hid hz2
  have hs1 : (w.alloc (.cells #[.int .i64 p, .int .i64 q] 38)).heap.size = w.heap.size + 1 := by simp
  clear bA hi0 hz0 hz1 hz2
  go_enter Tryz.func63, Tryz.ntmps63
  have hmk := run_make_bools n (by omega)
  go_wp2_with fail
  clear hmk
  obtain ⟨sb, hsb⟩ : ∃ sb, sb = w.heap.size := ⟨_, rfl⟩
  rw [← hsb] at HS1 hs1 ⊢
  obtain ⟨w1, hw1⟩ : ∃ w1, w1 = w.alloc (.cells #[.int .i64 p, .int .i64 q] 38) := ⟨_, rfl⟩
  rw [← hw1] at HS1 HE1 hs1 ⊢
  clear hw1
  have HP1 := Lib.hid (vrow_rep w1 (.bool false) n 4)
  have HE2a := Lib.hid (Ext.alloc (Ext.refl w1) (.cells (Array.replicate n (.bool false)) 4))
  have hs2 : (w1.alloc (.cells (Array.replicate n (.bool false)) 4)).heap.size = w1.heap.size + 1 := by simp
  obtain ⟨R, hR⟩ : ∃ R, R = sb + 1 := ⟨_, rfl⟩
  rw [← hR] at hs1 ⊢
  rw [hs1] at HP1 hs2
  clear hsb hR
  obtain ⟨w2, hw2⟩ : ∃ w2, w2 = w1.alloc (.cells (Array.replicate n (.bool false)) 4) := ⟨_, rfl⟩
  rw [← hw2] at HP1 HE2a hs2 ⊢
  clear hw2
  have HB2 := Lib.hid (show BRow w2 R 4 n (fun _ => false) from ⟨_, HP1.out, by simp, fun b hb => by rw [List.getElem?_replicate, if_pos hb]⟩)
  refine (Cycles_c _ n A w2 hn1 hn (HA.out.ext (Ext.trans HE1.out HE2a.out)) HBA.out).mono ?_
  rintro e w3 ⟨v3, rfl, hO, hE⟩
  have HO3 := Lib.hid hO
  have HB3 := Lib.hid (HB2.out.ext hE)
  have HE3 := Lib.hid (Ext.trans HE2a.out hE)
  have HMEM := Lib.hid (show ∀ c ∈ cycL n A, IsCyc n A c from fun c hc => cycL_mem.1 hc)
  have hll : (cycL n A).length ≤ 279936 := HLL.out
  have HFIN := Lib.hid (show ∀ v, onB A p q (cycL n A) v = onB A p q (cycL n A) v from fun _ => rfl)
  obtain ⟨L, hL⟩ : ∃ L, L = cycL n A := ⟨_, rfl⟩
  rw [← hL] at HO3 HMEM hll
  have HLQ := Lib.hid hL
  obtain ⟨la, lcap, rfl⟩ : ∃ a c, v3 = .slice a L.length c := by obtain ⟨vs, ho, _⟩ := HO3.out; exact own_slice ho
  clear hO hE hL HB2 HP1 HLL HFIN
  go_wp2_with fail
  go_loopw [7] (fun iv' wr => ∃ i : Nat, iv' = .int .i64 (i : Int) ∧ i ≤ L.length ∧ BRow wr R 4 n (onB A p q (L.take i)) ∧ OutC w2.heap.size wr (.slice la L.length lcap) L ∧ Ext w1 wr) (fun iv' _ => L.length - (intOf iv').toNat)
  case atStart => exact ⟨0, rfl, Nat.zero_le _, HB3.out.congr fun i _ => by simp [onB], HO3.out, HE3.out⟩
  case round =>
    rename World => wr
    obtain ⟨i, rfl, hi, hB, hO, hE⟩ := hrel
    have HB := Lib.hid hB
    have HO := Lib.hid hO
    have HE := Lib.hid hE
    by_cases hil : i < L.length
    · obtain ⟨c, hc⟩ := getElem?_len hil
      obtain ⟨vs, ho, hvs⟩ := hO
      obtain ⟨lb, cap', hlv, _, _, hlb, hvl, _, hrow⟩ := own_hi0 ho (by omega)
      simp only [Value.slice.injEq, true_and] at hlv
      obtain ⟨rfl, rfl⟩ := hlv
      obtain ⟨u, hu⟩ := getElem?_len (show i < vs.length by omega)
      have hcy := HMEM.out c (List.mem_of_getElem? hc)
      obtain ⟨s1, hs1', hs1b⟩ := hcy.wt hn HBA.out
      have hcl := hcy.len
      have hc1 := hcy.1
      have HIr := Lib.hid (nats_ints (hvs i u c hu hc) (by omega))
      obtain ⟨cb, cc, rfl, _, _, hcb, _, _, hcc⟩ := own_hi0 (hvs i u c hu hc) hc1
      have HCC := Lib.hid (show ∀ k, k < c.length → wr.cell? ⟨cb, k, none⟩ = some (.int .i64 (gC c k : Int)) from fun k hk => by
        have h := hcc k (.int .i64 (gC c k : Int)) (by
          unfold natsV gC
          rw [List.getElem?_map, List.getElem?_eq_getElem hk, List.getD_eq_getElem?_getD, List.getElem?_eq_getElem hk]; rfl)
        rw [Nat.zero_add] at h
        exact h)
      have d1 := hrow i _ hu
      rw [Nat.zero_add] at d1
      have D1 := Lib.hid d1
      have HS := Lib.hid (VRow.ext HS1.out HE.out)
      have HW1 := Lib.hid (fun W (h : Ext wr W) => weight_c _ _ n A c s1 W (HA.out.ext (Ext.trans HE1.out (Ext.trans HE.out h))) hn (HIr.out.ext h) hc1 (by omega) hcy.2.1 HBA.out hs1')
      have HPUSH := Lib.hid (show ∀ v, onB A p q (L.take (i + 1)) v = (onB A p q (L.take i) v || (meanB A p q c && c.contains v)) from fun v => by
        rw [List.take_add_one, hc]
        exact onB_push A p q _ c v)
      have HMN := Lib.hid (mean_is (p := p) (q := q) hs1')
      have hxb := mean_bd (p := s1) (x := q) hs1b hq
      have hyb := mean_bd (p := p) (x := (c.length : Int)) hp (by omega)
      have HCX := Lib.hid (show ∀ k, k < c.length → gC c k < n from fun k hk => hcy.2.1 _ (by unfold gC; rw [List.getD_eq_getElem?_getD, List.getElem?_eq_getElem hk]; exact List.getElem_mem hk))
      obtain ⟨X, hX⟩ : ∃ X, X = s1 * q := ⟨_, rfl⟩
      obtain ⟨Y, hY⟩ : ∃ Y, Y = p * (c.length : Int) := ⟨_, rfl⟩
      rw [← hX, ← hY] at HMN
      have hwx : IntKind.i64.wrap (s1 * q) = X := by rw [← hX]; exact IntWalk.i64_in _ (by omega)
      have hwy : IntKind.i64.wrap (p * (c.length : Int)) = Y := by rw [← hY]; exact IntWalk.i64_in _ (by omega)
      have hilz : (i : Int) < (L.length : Int) := by omega
      clear hc hu hcy hs1' hcc d1 hX hY hrow hvl hvs ho hB hE hxb hyb hcl
      by_cases hXY : X = Y
      · have HMT := Lib.hid (show meanB A p q c = true from by rw [HMN.out]; exact decide_eq_true hXY)
        have hbb : (X == Y) = true := by rw [hXY]; simp
        clear hXY
        go_wp2_with fail
        refine wp_region_stable [⟨[], none⟩, ⟨[], none⟩, ⟨[], none⟩, ⟨[(1, 23), (2, 24)], none⟩, ⟨[(3, 25)], none⟩, ⟨[(0, 22), (4, 26)], none⟩, ⟨[], none⟩, ⟨[(6, 28)], none⟩, ⟨[(5, 27), (7, 29)], none⟩, ⟨[], none⟩, ⟨[(9, 31)], none⟩, ⟨[], none⟩, ⟨[], none⟩, ⟨[(11, 33), (12, 34)], none⟩, ⟨[(13, 35)], none⟩, ⟨[(14, 36)], none⟩, ⟨[(10, 32), (15, 37)], none⟩, ⟨[(8, 30), (16, 38)], none⟩] (fun x y => Below x.heap.size x y) (MPat [MP.eq (.slice (some ⟨ab, ao, none⟩) n ac), MP.eq (.slice (some ⟨lb, 0, none⟩) L.length lcap), MP.eq (.int .i64 (i : Int)), MP.eq (.pointer (some ⟨lb, i, none⟩)), MP.eq (.slice (some ⟨cb, 0, none⟩) c.length cc), MP.eq (.int .i64 s1), MP.eq (.pointer (some ⟨sb, 1, none⟩)), MP.eq (.int .i64 q), MP.eq (.int .i64 X), MP.eq (.pointer (some ⟨sb, 0, none⟩)), MP.eq (.int .i64 p), MP.eq (.slice (some ⟨lb, 0, none⟩) L.length lcap), MP.eq (.int .i64 (i : Int)), MP.eq (.pointer (some ⟨lb, i, none⟩)), MP.eq (.slice (some ⟨cb, 0, none⟩) c.length cc), MP.eq (.int .i64 (c.length : Int)), MP.eq (.int .i64 Y), MP.eq (.bool true)]) (by kernel_rfl) (fun _ _ _ h k => Ext.trans h k) (fun _ => Below.refl _ _) (fun x => (Below.refl x.heap.size x).drew) (MPat.mono _) (by kernel_rfl) ?obs ?rest
        case obs =>
          refine ⟨?_, ?_, ?_, ?_, ?_, ?_, ?_, ?_, ?_, ?_, ?_, ?_, ?_, ?_, ?_, ?_, ?_, ?_, trivial⟩
          · intro ev W hf _ _ hst hd
            have e0 : ev (.tmp 0) = .slice (some ⟨ab, ao, none⟩) n ac := hf 0 (by kernel_rfl)
            refine st_value (v := .slice (some ⟨ab, ao, none⟩) n ac) ?_ (Below.refl _ _) ?_
            · simp [execOp, go_sem, e0]
            · exact rfl
          · intro ev W hf _ _ hst hd
            have e6 : ev (.tmp 6) = .slice (some ⟨lb, 0, none⟩) L.length lcap := hf 6 (by kernel_rfl)
            refine st_value (v := .slice (some ⟨lb, 0, none⟩) L.length lcap) ?_ (Below.refl _ _) ?_
            · simp [execOp, go_sem, e6]
            · exact rfl
          · intro ev W hf _ _ hst hd
            have e7 : ev (.tmp 7) = .int .i64 (i : Int) := hf 7 (by kernel_rfl)
            refine st_value (v := .int .i64 (i : Int)) ?_ (Below.refl _ _) ?_
            · simp [execOp, go_sem, e7]
            · exact rfl
          · intro ev W hf _ _ hst hd
            obtain ⟨d23, d24, _⟩ := hd
            have e23 : ev (.tmp 23) = .slice (some ⟨lb, 0, none⟩) L.length lcap := d23
            have e24 : ev (.tmp 24) = .int .i64 (i : Int) := d24
            have hh := hil
            refine st_value (v := .pointer (some ⟨lb, i, none⟩)) ?_ (Below.refl _ _) ?_
            · simp [execOp, go_sem, e23, e24, hh]
            · exact rfl
          · intro ev W hf _ _ hst hd
            obtain ⟨d25, _⟩ := hd
            have e25 : ev (.tmp 25) = .pointer (some ⟨lb, i, none⟩) := d25
            have q0 := Ext.cell hst D1.out
            refine st_value (v := .slice (some ⟨cb, 0, none⟩) c.length cc) ?_ (Below.refl _ _) ?_
            · simp [execOp, go_sem, e25, q0]
            · exact rfl
          · intro ev W hf _ hfn hst hd
            obtain ⟨d22, d26, _⟩ := hd
            have e22 : ev (.tmp 22) = .slice (some ⟨ab, ao, none⟩) n ac := d22
            have e26 : ev (.tmp 26) = .slice (some ⟨cb, 0, none⟩) c.length cc := d26
            refine st_call (f := 67) (args := #[.slice (some ⟨ab, ao, none⟩) n ac, .slice (some ⟨cb, 0, none⟩) c.length cc]) (by simp [execOp, go_sem, hfn, e22, e26]) (HW1.out W hst) (fun _ _ => rfl)
          · intro ev W hf _ _ hst hd
            have e3 : ev (.tmp 3) = .pointer (some ⟨sb, 0, none⟩) := hf 3 (by kernel_rfl)
            refine st_value (v := .pointer (some ⟨sb, 1, none⟩)) ?_ (Below.refl _ _) ?_
            · simp [execOp, go_sem, e3]
            · exact rfl
          · intro ev W hf _ _ hst hd
            obtain ⟨d28, _⟩ := hd
            have e28 : ev (.tmp 28) = .pointer (some ⟨sb, 1, none⟩) := d28
            have q0 := VRow.cell (VRow.ext HS.out hst) (k := 1) rfl
            refine st_value (v := .int .i64 q) ?_ (Below.refl _ _) ?_
            · simp [execOp, go_sem, e28, q0]
            · exact rfl
          · intro ev W hf _ _ hst hd
            obtain ⟨d27, d29, _⟩ := hd
            have e27 : ev (.tmp 27) = .int .i64 s1 := d27
            have e29 : ev (.tmp 29) = .int .i64 q := d29
            refine st_value (v := .int .i64 X) ?_ (Below.refl _ _) ?_
            · simp [execOp, go_sem, e27, e29, hwx]
            · exact rfl
          · intro ev W hf _ _ hst hd
            have e3 : ev (.tmp 3) = .pointer (some ⟨sb, 0, none⟩) := hf 3 (by kernel_rfl)
            refine st_value (v := .pointer (some ⟨sb, 0, none⟩)) ?_ (Below.refl _ _) ?_
            · simp [execOp, go_sem, e3]
            · exact rfl
          · intro ev W hf _ _ hst hd
            obtain ⟨d31, _⟩ := hd
            have e31 : ev (.tmp 31) = .pointer (some ⟨sb, 0, none⟩) := d31
            have q0 := VRow.cell (VRow.ext HS.out hst) (k := 0) rfl
            refine st_value (v := .int .i64 p) ?_ (Below.refl _ _) ?_
            · simp [execOp, go_sem, e31, q0]
            · exact rfl
          · intro ev W hf _ _ hst hd
            have e6 : ev (.tmp 6) = .slice (some ⟨lb, 0, none⟩) L.length lcap := hf 6 (by kernel_rfl)
            refine st_value (v := .slice (some ⟨lb, 0, none⟩) L.length lcap) ?_ (Below.refl _ _) ?_
            · simp [execOp, go_sem, e6]
            · exact rfl
          · intro ev W hf _ _ hst hd
            have e7 : ev (.tmp 7) = .int .i64 (i : Int) := hf 7 (by kernel_rfl)
            refine st_value (v := .int .i64 (i : Int)) ?_ (Below.refl _ _) ?_
            · simp [execOp, go_sem, e7]
            · exact rfl
          · intro ev W hf _ _ hst hd
            obtain ⟨d33, d34, _⟩ := hd
            have e33 : ev (.tmp 33) = .slice (some ⟨lb, 0, none⟩) L.length lcap := d33
            have e34 : ev (.tmp 34) = .int .i64 (i : Int) := d34
            have hh := hil
            refine st_value (v := .pointer (some ⟨lb, i, none⟩)) ?_ (Below.refl _ _) ?_
            · simp [execOp, go_sem, e33, e34, hh]
            · exact rfl
          · intro ev W hf _ _ hst hd
            obtain ⟨d35, _⟩ := hd
            have e35 : ev (.tmp 35) = .pointer (some ⟨lb, i, none⟩) := d35
            have q0 := Ext.cell hst D1.out
            refine st_value (v := .slice (some ⟨cb, 0, none⟩) c.length cc) ?_ (Below.refl _ _) ?_
            · simp [execOp, go_sem, e35, q0]
            · exact rfl
          · intro ev W hf _ _ hst hd
            obtain ⟨d36, _⟩ := hd
            have e36 : ev (.tmp 36) = .slice (some ⟨cb, 0, none⟩) c.length cc := d36
            refine st_value (v := .int .i64 (c.length : Int)) ?_ (Below.refl _ _) ?_
            · simp [go_sem, e36]
            · exact rfl
          · intro ev W hf _ _ hst hd
            obtain ⟨d32, d37, _⟩ := hd
            have e32 : ev (.tmp 32) = .int .i64 p := d32
            have e37 : ev (.tmp 37) = .int .i64 (c.length : Int) := d37
            refine st_value (v := .int .i64 Y) ?_ (Below.refl _ _) ?_
            · simp [execOp, go_sem, e32, e37, hwy]
            · exact rfl
          · intro ev W hf _ _ hst hd
            obtain ⟨d30, d38, _⟩ := hd
            have e30 : ev (.tmp 30) = .int .i64 X := d30
            have e38 : ev (.tmp 38) = .int .i64 Y := d38
            refine st_value (v := .bool true) ?_ (Below.refl _ _) ?_
            · simp [execOp, go_sem, e30, e38, hbb]
            · exact rfl
        case rest =>
          intro vs w3 hl hst hg
          have hx0 : ∀ u, vs[0]? = some u → u = .slice (some ⟨ab, ao, none⟩) n ac := fun u hu => hg 0 u hu
          have hx1 : ∀ u, vs[1]? = some u → u = .slice (some ⟨lb, 0, none⟩) L.length lcap := fun u hu => hg 1 u hu
          have hx2 : ∀ u, vs[2]? = some u → u = .int .i64 (i : Int) := fun u hu => hg 2 u hu
          have hx3 : ∀ u, vs[3]? = some u → u = .pointer (some ⟨lb, i, none⟩) := fun u hu => hg 3 u hu
          have hx4 : ∀ u, vs[4]? = some u → u = .slice (some ⟨cb, 0, none⟩) c.length cc := fun u hu => hg 4 u hu
          have hx5 : ∀ u, vs[5]? = some u → u = .int .i64 s1 := fun u hu => hg 5 u hu
          have hx6 : ∀ u, vs[6]? = some u → u = .pointer (some ⟨sb, 1, none⟩) := fun u hu => hg 6 u hu
          have hx7 : ∀ u, vs[7]? = some u → u = .int .i64 q := fun u hu => hg 7 u hu
          have hx8 : ∀ u, vs[8]? = some u → u = .int .i64 X := fun u hu => hg 8 u hu
          have hx9 : ∀ u, vs[9]? = some u → u = .pointer (some ⟨sb, 0, none⟩) := fun u hu => hg 9 u hu
          have hx10 : ∀ u, vs[10]? = some u → u = .int .i64 p := fun u hu => hg 10 u hu
          have hx11 : ∀ u, vs[11]? = some u → u = .slice (some ⟨lb, 0, none⟩) L.length lcap := fun u hu => hg 11 u hu
          have hx12 : ∀ u, vs[12]? = some u → u = .int .i64 (i : Int) := fun u hu => hg 12 u hu
          have hx13 : ∀ u, vs[13]? = some u → u = .pointer (some ⟨lb, i, none⟩) := fun u hu => hg 13 u hu
          have hx14 : ∀ u, vs[14]? = some u → u = .slice (some ⟨cb, 0, none⟩) c.length cc := fun u hu => hg 14 u hu
          have hx15 : ∀ u, vs[15]? = some u → u = .int .i64 (c.length : Int) := fun u hu => hg 15 u hu
          have hx16 : ∀ u, vs[16]? = some u → u = .int .i64 Y := fun u hu => hg 16 u hu
          have hx17 : ∀ u, vs[17]? = some u → u = .bool true := fun u hu => hg 17 u hu
          have HE3 := Lib.hid hst
          clear hg hst
          obtain ⟨x0, vs0, rfl, hl0⟩ := len_succ hl
          obtain ⟨x1, vs1, rfl, hl1⟩ := len_succ hl0
          obtain ⟨x2, vs2, rfl, hl2⟩ := len_succ hl1
          obtain ⟨x3, vs3, rfl, hl3⟩ := len_succ hl2
          obtain ⟨x4, vs4, rfl, hl4⟩ := len_succ hl3
          obtain ⟨x5, vs5, rfl, hl5⟩ := len_succ hl4
          obtain ⟨x6, vs6, rfl, hl6⟩ := len_succ hl5
          obtain ⟨x7, vs7, rfl, hl7⟩ := len_succ hl6
          obtain ⟨x8, vs8, rfl, hl8⟩ := len_succ hl7
          obtain ⟨x9, vs9, rfl, hl9⟩ := len_succ hl8
          obtain ⟨x10, vs10, rfl, hl10⟩ := len_succ hl9
          obtain ⟨x11, vs11, rfl, hl11⟩ := len_succ hl10
          obtain ⟨x12, vs12, rfl, hl12⟩ := len_succ hl11
          obtain ⟨x13, vs13, rfl, hl13⟩ := len_succ hl12
          obtain ⟨x14, vs14, rfl, hl14⟩ := len_succ hl13
          obtain ⟨x15, vs15, rfl, hl15⟩ := len_succ hl14
          obtain ⟨x16, vs16, rfl, hl16⟩ := len_succ hl15
          obtain ⟨x17, vs17, rfl, hl17⟩ := len_succ hl16
          have hnil : vs17 = [] := List.length_eq_zero_iff.1 hl17
          subst hnil
          obtain rfl : x0 = .slice (some ⟨ab, ao, none⟩) n ac := hx0 _ rfl
          obtain rfl : x1 = .slice (some ⟨lb, 0, none⟩) L.length lcap := hx1 _ rfl
          obtain rfl : x2 = .int .i64 (i : Int) := hx2 _ rfl
          obtain rfl : x3 = .pointer (some ⟨lb, i, none⟩) := hx3 _ rfl
          obtain rfl : x4 = .slice (some ⟨cb, 0, none⟩) c.length cc := hx4 _ rfl
          obtain rfl : x5 = .int .i64 s1 := hx5 _ rfl
          obtain rfl : x6 = .pointer (some ⟨sb, 1, none⟩) := hx6 _ rfl
          obtain rfl : x7 = .int .i64 q := hx7 _ rfl
          obtain rfl : x8 = .int .i64 X := hx8 _ rfl
          obtain rfl : x9 = .pointer (some ⟨sb, 0, none⟩) := hx9 _ rfl
          obtain rfl : x10 = .int .i64 p := hx10 _ rfl
          obtain rfl : x11 = .slice (some ⟨lb, 0, none⟩) L.length lcap := hx11 _ rfl
          obtain rfl : x12 = .int .i64 (i : Int) := hx12 _ rfl
          obtain rfl : x13 = .pointer (some ⟨lb, i, none⟩) := hx13 _ rfl
          obtain rfl : x14 = .slice (some ⟨cb, 0, none⟩) c.length cc := hx14 _ rfl
          obtain rfl : x15 = .int .i64 (c.length : Int) := hx15 _ rfl
          obtain rfl : x16 = .int .i64 Y := hx16 _ rfl
          obtain rfl : x17 = .bool true := hx17 _ rfl
          clear hx0 hx1 hx2 hx3 hx4 hx5 hx6 hx7 hx8 hx9 hx10 hx11 hx12 hx13 hx14 hx15 hx16 hx17
          simp only [putAll, Act.put, List.setIfInBounds_toArray, List.set_cons_zero, List.set_cons_succ]
          go_wp2_with fail
          go_loopw [8] (fun kv wq => ∃ k : Nat, kv = .int .i64 (k : Int) ∧ k ≤ c.length ∧ BRow wq R 4 n (fun v => onB A p q (L.take i) v || (c.take k).contains v) ∧ OutC w2.heap.size wq (.slice (some ⟨lb, 0, none⟩) L.length lcap) L ∧ Ext w1 wq ∧ wq.cell? ⟨lb, i, none⟩ = some (.slice (some ⟨cb, 0, none⟩) c.length cc) ∧ ∀ k, k < c.length → wq.cell? ⟨cb, k, none⟩ = some (.int .i64 (gC c k : Int))) (fun kv _ => c.length - (intOf kv).toNat)
          case atStart => exact ⟨0, rfl, Nat.zero_le _, (HB.out.ext HE3.out).congr fun v _ => by simp, HO.out.ext HE3.out, Ext.trans HE.out HE3.out, Ext.cell HE3.out D1.out, fun k hk => Ext.cell HE3.out (HCC.out k hk)⟩
          case round =>
            rename World => wq
            obtain ⟨k, rfl, hk, hB, hO, hE, c1, hcs⟩ := hrel
            have HBk := Lib.hid hB
            have HOk := Lib.hid hO
            have HEk := Lib.hid hE
            have HCS := Lib.hid hcs
            have hc1k := cell_lt c1
            clear hB hO hE hcs
            by_cases hkl : k < c.length
            · have c2 := HCS.out k hkl
              have hc2k := cell_lt c2
              have hgn := HCX.out k hkl
              have hgz : (gC c k : Int) < (n : Int) := by omega
              obtain ⟨c3, f3⟩ := HBk.out.at hgn
              have hc3k := cell_lt c3
              have HPUT := Lib.hid (HBk.out.on hgn)
              have HOP := Lib.hid (HOk.out.put (a := ⟨R, gC c k, none⟩) (show R < w2.heap.size by omega) (.bool true))
              have HEP := Lib.hid (Below.setCell (p := ⟨R, gC c k, none⟩) HEk.out (show w1.heap.size ≤ R by omega) (.bool true))
              have HTC := Lib.hid (take_contains hkl)
              have HC1P := Lib.hid (show (wq.setCell ⟨R, gC c k, none⟩ (.bool true)).cell? ⟨lb, i, none⟩ = some (.slice (some ⟨cb, 0, none⟩) c.length cc) from (World.cell?_setCell_other (h := fun e => by injection e with e; omega) ..).trans c1)
              have HCSP := Lib.hid (show ∀ k2, k2 < c.length → (wq.setCell ⟨R, gC c k, none⟩ (.bool true)).cell? ⟨cb, k2, none⟩ = some (.int .i64 (gC c k2 : Int)) from fun k2 hk2 => (World.cell?_setCell_other (h := fun e => by injection e with e; omega) ..).trans (HCS.out k2 hk2))
              go_wp2_with fail
              refine ⟨⟨k + 1, by simp, by omega, HPUT.out.congr fun v _ => ?_, HOP.out, HEP.out, HC1P.out, HCSP.out⟩, by simp [intOf]; omega⟩
              rw [HTC.out, Bool.or_assoc]
            · obtain rfl : k = c.length := by omega
              have hkz : ¬ (c.length : Int) < (c.length : Int) := by omega
              go_wp2_with fail
              refine ⟨⟨i + 1, by simp, by omega, HBk.out.congr fun v _ => ?_, HOk.out, HEk.out⟩, by simp [intOf]; omega⟩
              rw [HPUSH.out, HMT.out, Bool.true_and, List.take_length]
      · have HMT := Lib.hid (show meanB A p q c = false from by rw [HMN.out]; exact decide_eq_false hXY)
        have hbb : (X == Y) = false := beq_eq_false_iff_ne.2 hXY
        clear hXY
        go_wp2_with fail
        refine wp_region_stable [⟨[], none⟩, ⟨[], none⟩, ⟨[], none⟩, ⟨[(1, 23), (2, 24)], none⟩, ⟨[(3, 25)], none⟩, ⟨[(0, 22), (4, 26)], none⟩, ⟨[], none⟩, ⟨[(6, 28)], none⟩, ⟨[(5, 27), (7, 29)], none⟩, ⟨[], none⟩, ⟨[(9, 31)], none⟩, ⟨[], none⟩, ⟨[], none⟩, ⟨[(11, 33), (12, 34)], none⟩, ⟨[(13, 35)], none⟩, ⟨[(14, 36)], none⟩, ⟨[(10, 32), (15, 37)], none⟩, ⟨[(8, 30), (16, 38)], none⟩] (fun x y => Below x.heap.size x y) (MPat [MP.eq (.slice (some ⟨ab, ao, none⟩) n ac), MP.eq (.slice (some ⟨lb, 0, none⟩) L.length lcap), MP.eq (.int .i64 (i : Int)), MP.eq (.pointer (some ⟨lb, i, none⟩)), MP.eq (.slice (some ⟨cb, 0, none⟩) c.length cc), MP.eq (.int .i64 s1), MP.eq (.pointer (some ⟨sb, 1, none⟩)), MP.eq (.int .i64 q), MP.eq (.int .i64 X), MP.eq (.pointer (some ⟨sb, 0, none⟩)), MP.eq (.int .i64 p), MP.eq (.slice (some ⟨lb, 0, none⟩) L.length lcap), MP.eq (.int .i64 (i : Int)), MP.eq (.pointer (some ⟨lb, i, none⟩)), MP.eq (.slice (some ⟨cb, 0, none⟩) c.length cc), MP.eq (.int .i64 (c.length : Int)), MP.eq (.int .i64 Y), MP.eq (.bool false)]) (by kernel_rfl) (fun _ _ _ h k => Ext.trans h k) (fun _ => Below.refl _ _) (fun x => (Below.refl x.heap.size x).drew) (MPat.mono _) (by kernel_rfl) ?obs ?rest
        case obs =>
          refine ⟨?_, ?_, ?_, ?_, ?_, ?_, ?_, ?_, ?_, ?_, ?_, ?_, ?_, ?_, ?_, ?_, ?_, ?_, trivial⟩
          · intro ev W hf _ _ hst hd
            have e0 : ev (.tmp 0) = .slice (some ⟨ab, ao, none⟩) n ac := hf 0 (by kernel_rfl)
            refine st_value (v := .slice (some ⟨ab, ao, none⟩) n ac) ?_ (Below.refl _ _) ?_
            · simp [execOp, go_sem, e0]
            · exact rfl
          · intro ev W hf _ _ hst hd
            have e6 : ev (.tmp 6) = .slice (some ⟨lb, 0, none⟩) L.length lcap := hf 6 (by kernel_rfl)
            refine st_value (v := .slice (some ⟨lb, 0, none⟩) L.length lcap) ?_ (Below.refl _ _) ?_
            · simp [execOp, go_sem, e6]
            · exact rfl
          · intro ev W hf _ _ hst hd
            have e7 : ev (.tmp 7) = .int .i64 (i : Int) := hf 7 (by kernel_rfl)
            refine st_value (v := .int .i64 (i : Int)) ?_ (Below.refl _ _) ?_
            · simp [execOp, go_sem, e7]
            · exact rfl
          · intro ev W hf _ _ hst hd
            obtain ⟨d23, d24, _⟩ := hd
            have e23 : ev (.tmp 23) = .slice (some ⟨lb, 0, none⟩) L.length lcap := d23
            have e24 : ev (.tmp 24) = .int .i64 (i : Int) := d24
            have hh := hil
            refine st_value (v := .pointer (some ⟨lb, i, none⟩)) ?_ (Below.refl _ _) ?_
            · simp [execOp, go_sem, e23, e24, hh]
            · exact rfl
          · intro ev W hf _ _ hst hd
            obtain ⟨d25, _⟩ := hd
            have e25 : ev (.tmp 25) = .pointer (some ⟨lb, i, none⟩) := d25
            have q0 := Ext.cell hst D1.out
            refine st_value (v := .slice (some ⟨cb, 0, none⟩) c.length cc) ?_ (Below.refl _ _) ?_
            · simp [execOp, go_sem, e25, q0]
            · exact rfl
          · intro ev W hf _ hfn hst hd
            obtain ⟨d22, d26, _⟩ := hd
            have e22 : ev (.tmp 22) = .slice (some ⟨ab, ao, none⟩) n ac := d22
            have e26 : ev (.tmp 26) = .slice (some ⟨cb, 0, none⟩) c.length cc := d26
            refine st_call (f := 67) (args := #[.slice (some ⟨ab, ao, none⟩) n ac, .slice (some ⟨cb, 0, none⟩) c.length cc]) (by simp [execOp, go_sem, hfn, e22, e26]) (HW1.out W hst) (fun _ _ => rfl)
          · intro ev W hf _ _ hst hd
            have e3 : ev (.tmp 3) = .pointer (some ⟨sb, 0, none⟩) := hf 3 (by kernel_rfl)
            refine st_value (v := .pointer (some ⟨sb, 1, none⟩)) ?_ (Below.refl _ _) ?_
            · simp [execOp, go_sem, e3]
            · exact rfl
          · intro ev W hf _ _ hst hd
            obtain ⟨d28, _⟩ := hd
            have e28 : ev (.tmp 28) = .pointer (some ⟨sb, 1, none⟩) := d28
            have q0 := VRow.cell (VRow.ext HS.out hst) (k := 1) rfl
            refine st_value (v := .int .i64 q) ?_ (Below.refl _ _) ?_
            · simp [execOp, go_sem, e28, q0]
            · exact rfl
          · intro ev W hf _ _ hst hd
            obtain ⟨d27, d29, _⟩ := hd
            have e27 : ev (.tmp 27) = .int .i64 s1 := d27
            have e29 : ev (.tmp 29) = .int .i64 q := d29
            refine st_value (v := .int .i64 X) ?_ (Below.refl _ _) ?_
            · simp [execOp, go_sem, e27, e29, hwx]
            · exact rfl
          · intro ev W hf _ _ hst hd
            have e3 : ev (.tmp 3) = .pointer (some ⟨sb, 0, none⟩) := hf 3 (by kernel_rfl)
            refine st_value (v := .pointer (some ⟨sb, 0, none⟩)) ?_ (Below.refl _ _) ?_
            · simp [execOp, go_sem, e3]
            · exact rfl
          · intro ev W hf _ _ hst hd
            obtain ⟨d31, _⟩ := hd
            have e31 : ev (.tmp 31) = .pointer (some ⟨sb, 0, none⟩) := d31
            have q0 := VRow.cell (VRow.ext HS.out hst) (k := 0) rfl
            refine st_value (v := .int .i64 p) ?_ (Below.refl _ _) ?_
            · simp [execOp, go_sem, e31, q0]
            · exact rfl
          · intro ev W hf _ _ hst hd
            have e6 : ev (.tmp 6) = .slice (some ⟨lb, 0, none⟩) L.length lcap := hf 6 (by kernel_rfl)
            refine st_value (v := .slice (some ⟨lb, 0, none⟩) L.length lcap) ?_ (Below.refl _ _) ?_
            · simp [execOp, go_sem, e6]
            · exact rfl
          · intro ev W hf _ _ hst hd
            have e7 : ev (.tmp 7) = .int .i64 (i : Int) := hf 7 (by kernel_rfl)
            refine st_value (v := .int .i64 (i : Int)) ?_ (Below.refl _ _) ?_
            · simp [execOp, go_sem, e7]
            · exact rfl
          · intro ev W hf _ _ hst hd
            obtain ⟨d33, d34, _⟩ := hd
            have e33 : ev (.tmp 33) = .slice (some ⟨lb, 0, none⟩) L.length lcap := d33
            have e34 : ev (.tmp 34) = .int .i64 (i : Int) := d34
            have hh := hil
            refine st_value (v := .pointer (some ⟨lb, i, none⟩)) ?_ (Below.refl _ _) ?_
            · simp [execOp, go_sem, e33, e34, hh]
            · exact rfl
          · intro ev W hf _ _ hst hd
            obtain ⟨d35, _⟩ := hd
            have e35 : ev (.tmp 35) = .pointer (some ⟨lb, i, none⟩) := d35
            have q0 := Ext.cell hst D1.out
            refine st_value (v := .slice (some ⟨cb, 0, none⟩) c.length cc) ?_ (Below.refl _ _) ?_
            · simp [execOp, go_sem, e35, q0]
            · exact rfl
          · intro ev W hf _ _ hst hd
            obtain ⟨d36, _⟩ := hd
            have e36 : ev (.tmp 36) = .slice (some ⟨cb, 0, none⟩) c.length cc := d36
            refine st_value (v := .int .i64 (c.length : Int)) ?_ (Below.refl _ _) ?_
            · simp [go_sem, e36]
            · exact rfl
          · intro ev W hf _ _ hst hd
            obtain ⟨d32, d37, _⟩ := hd
            have e32 : ev (.tmp 32) = .int .i64 p := d32
            have e37 : ev (.tmp 37) = .int .i64 (c.length : Int) := d37
            refine st_value (v := .int .i64 Y) ?_ (Below.refl _ _) ?_
            · simp [execOp, go_sem, e32, e37, hwy]
            · exact rfl
          · intro ev W hf _ _ hst hd
            obtain ⟨d30, d38, _⟩ := hd
            have e30 : ev (.tmp 30) = .int .i64 X := d30
            have e38 : ev (.tmp 38) = .int .i64 Y := d38
            refine st_value (v := .bool false) ?_ (Below.refl _ _) ?_
            · simp [execOp, go_sem, e30, e38, hbb]
            · exact rfl
        case rest =>
          intro vs w3 hl hst hg
          have hx0 : ∀ u, vs[0]? = some u → u = .slice (some ⟨ab, ao, none⟩) n ac := fun u hu => hg 0 u hu
          have hx1 : ∀ u, vs[1]? = some u → u = .slice (some ⟨lb, 0, none⟩) L.length lcap := fun u hu => hg 1 u hu
          have hx2 : ∀ u, vs[2]? = some u → u = .int .i64 (i : Int) := fun u hu => hg 2 u hu
          have hx3 : ∀ u, vs[3]? = some u → u = .pointer (some ⟨lb, i, none⟩) := fun u hu => hg 3 u hu
          have hx4 : ∀ u, vs[4]? = some u → u = .slice (some ⟨cb, 0, none⟩) c.length cc := fun u hu => hg 4 u hu
          have hx5 : ∀ u, vs[5]? = some u → u = .int .i64 s1 := fun u hu => hg 5 u hu
          have hx6 : ∀ u, vs[6]? = some u → u = .pointer (some ⟨sb, 1, none⟩) := fun u hu => hg 6 u hu
          have hx7 : ∀ u, vs[7]? = some u → u = .int .i64 q := fun u hu => hg 7 u hu
          have hx8 : ∀ u, vs[8]? = some u → u = .int .i64 X := fun u hu => hg 8 u hu
          have hx9 : ∀ u, vs[9]? = some u → u = .pointer (some ⟨sb, 0, none⟩) := fun u hu => hg 9 u hu
          have hx10 : ∀ u, vs[10]? = some u → u = .int .i64 p := fun u hu => hg 10 u hu
          have hx11 : ∀ u, vs[11]? = some u → u = .slice (some ⟨lb, 0, none⟩) L.length lcap := fun u hu => hg 11 u hu
          have hx12 : ∀ u, vs[12]? = some u → u = .int .i64 (i : Int) := fun u hu => hg 12 u hu
          have hx13 : ∀ u, vs[13]? = some u → u = .pointer (some ⟨lb, i, none⟩) := fun u hu => hg 13 u hu
          have hx14 : ∀ u, vs[14]? = some u → u = .slice (some ⟨cb, 0, none⟩) c.length cc := fun u hu => hg 14 u hu
          have hx15 : ∀ u, vs[15]? = some u → u = .int .i64 (c.length : Int) := fun u hu => hg 15 u hu
          have hx16 : ∀ u, vs[16]? = some u → u = .int .i64 Y := fun u hu => hg 16 u hu
          have hx17 : ∀ u, vs[17]? = some u → u = .bool false := fun u hu => hg 17 u hu
          have HE3 := Lib.hid hst
          clear hg hst
          obtain ⟨x0, vs0, rfl, hl0⟩ := len_succ hl
          obtain ⟨x1, vs1, rfl, hl1⟩ := len_succ hl0
          obtain ⟨x2, vs2, rfl, hl2⟩ := len_succ hl1
          obtain ⟨x3, vs3, rfl, hl3⟩ := len_succ hl2
          obtain ⟨x4, vs4, rfl, hl4⟩ := len_succ hl3
          obtain ⟨x5, vs5, rfl, hl5⟩ := len_succ hl4
          obtain ⟨x6, vs6, rfl, hl6⟩ := len_succ hl5
          obtain ⟨x7, vs7, rfl, hl7⟩ := len_succ hl6
          obtain ⟨x8, vs8, rfl, hl8⟩ := len_succ hl7
          obtain ⟨x9, vs9, rfl, hl9⟩ := len_succ hl8
          obtain ⟨x10, vs10, rfl, hl10⟩ := len_succ hl9
          obtain ⟨x11, vs11, rfl, hl11⟩ := len_succ hl10
          obtain ⟨x12, vs12, rfl, hl12⟩ := len_succ hl11
          obtain ⟨x13, vs13, rfl, hl13⟩ := len_succ hl12
          obtain ⟨x14, vs14, rfl, hl14⟩ := len_succ hl13
          obtain ⟨x15, vs15, rfl, hl15⟩ := len_succ hl14
          obtain ⟨x16, vs16, rfl, hl16⟩ := len_succ hl15
          obtain ⟨x17, vs17, rfl, hl17⟩ := len_succ hl16
          have hnil : vs17 = [] := List.length_eq_zero_iff.1 hl17
          subst hnil
          obtain rfl : x0 = .slice (some ⟨ab, ao, none⟩) n ac := hx0 _ rfl
          obtain rfl : x1 = .slice (some ⟨lb, 0, none⟩) L.length lcap := hx1 _ rfl
          obtain rfl : x2 = .int .i64 (i : Int) := hx2 _ rfl
          obtain rfl : x3 = .pointer (some ⟨lb, i, none⟩) := hx3 _ rfl
          obtain rfl : x4 = .slice (some ⟨cb, 0, none⟩) c.length cc := hx4 _ rfl
          obtain rfl : x5 = .int .i64 s1 := hx5 _ rfl
          obtain rfl : x6 = .pointer (some ⟨sb, 1, none⟩) := hx6 _ rfl
          obtain rfl : x7 = .int .i64 q := hx7 _ rfl
          obtain rfl : x8 = .int .i64 X := hx8 _ rfl
          obtain rfl : x9 = .pointer (some ⟨sb, 0, none⟩) := hx9 _ rfl
          obtain rfl : x10 = .int .i64 p := hx10 _ rfl
          obtain rfl : x11 = .slice (some ⟨lb, 0, none⟩) L.length lcap := hx11 _ rfl
          obtain rfl : x12 = .int .i64 (i : Int) := hx12 _ rfl
          obtain rfl : x13 = .pointer (some ⟨lb, i, none⟩) := hx13 _ rfl
          obtain rfl : x14 = .slice (some ⟨cb, 0, none⟩) c.length cc := hx14 _ rfl
          obtain rfl : x15 = .int .i64 (c.length : Int) := hx15 _ rfl
          obtain rfl : x16 = .int .i64 Y := hx16 _ rfl
          obtain rfl : x17 = .bool false := hx17 _ rfl
          clear hx0 hx1 hx2 hx3 hx4 hx5 hx6 hx7 hx8 hx9 hx10 hx11 hx12 hx13 hx14 hx15 hx16 hx17
          simp only [putAll, Act.put, List.setIfInBounds_toArray, List.set_cons_zero, List.set_cons_succ]
          go_wp2_with fail
          refine ⟨⟨i + 1, by simp, by omega, (HB.out.ext HE3.out).congr fun v _ => ?_, HO.out.ext HE3.out, Ext.trans HE.out HE3.out⟩, by simp [intOf]; omega⟩
          rw [HPUSH.out, HMT.out, Bool.false_and, Bool.or_false]
    · obtain rfl : i = L.length := by omega
      have HBN := Lib.hid (show BRow wr R 4 n (onB A p q (cycL n A)) from by have h := HB.out; rw [List.take_length, HLQ.out] at h; exact h)
      clear hB hO
      go_wp2_with fail
      go_loopw [9, 10] (fun lv kv wq => ∃ k : Nat, kv = .int .i64 (k : Int) ∧ k ≤ n ∧ wq.ownsRow wr.heap.size 3 1 lv (onL n A p q k).length (natsV (onL n A p q k)) ∧ Ext wr wq) (fun _ kv _ => n - (intOf kv).toNat)
      case atStart => exact ⟨0, rfl, Nat.zero_le _, ⟨by simp [natsV], .inl ⟨rfl, by simp [onL]⟩⟩, Ext.refl _⟩
      case round =>
        rename World => wq
        obtain ⟨k, rfl, hk, hown, hEq⟩ := hrel
        obtain ⟨oa, oc, rfl⟩ := own_slice hown
        have HO := Lib.hid hown
        have HEq := Lib.hid hEq
        clear hown hEq
        have hlen := onL_len n A p q k
        by_cases hlt : k < n
        · have c1 := Ext.cell HEq.out (HBN.out.at hlt).1
          have hcb := cell_lt c1
          have HSU := Lib.hid (onL_succ n A p q k)
          cases hz : onB A p q (cycL n A) k with
          | false =>
            rw [hz] at c1 HSU
            have HSU := Lib.hid (show onL n A p q (k + 1) = onL n A p q k by have h := HSU.out; simpa using h)
            clear hz
            go_wp2_with fail
            exact ⟨⟨k + 1, by simp, by omega, by rw [HSU.out]; exact HO.out, HEq.out⟩, by simp [intOf]; omega⟩
          | true =>
            rw [hz] at c1 HSU
            have HSU := Lib.hid (show onL n A p q (k + 1) = onL n A p q k ++ [k] by have h := HSU.out; simpa using h)
            have hsz := HEq.out.size
            have hob : ∀ j, Value.ownBlock (.slice oa (onL n A p q k).length oc) = some j → wr.heap.size ≤ j := fun j hj => own_block HO.out hj
            clear hz
            go_wp2_with (at_builtin; (refine wpList_append_own _ rfl _ _ 23 rfl wr.heap.size 3 i0 (.int .i64 0) 1 8 Tryz.underlying23 HI.out HZ0.out HZ1.out HZ2.out rfl (by decide) _ _ _ rfl (ownsRow_ext HO.out (Ext.alloc (Ext.refl wq) (.cells #[.int .i64 (k : Int)] 3))) ⟨wq.heap.size, 0, none⟩ 1 1 [.int .i64 (k : Int)] rfl rfl (fun j u h => cell_one_new wq _ 3 j u h) (by simp [Value.oneCell']) (by unfold maxLen; omega) (by omega) (by simp; omega) ?_; intro v' w' hown' hgrow hnil; have HO10 := Lib.hid hown'; have HG10 := Lib.hid hgrow; clear hown' hgrow hnil))
            have HE10 := Lib.hid (show Ext wr w' from Below.grown (Ext.alloc HEq.out (.cells #[.int .i64 (k : Int)] 3)) HG10.out (by have := HEq.out.size; simp; omega) (fun j e => hob j e))
            refine ⟨⟨k + 1, by simp, by omega, ?_, HE10.out⟩, by simp [intOf]; omega⟩
            rw [HSU.out]
            have h := HO10.out
            simpa [natsV] using h
        · obtain rfl : k = n := by omega
          have HI := Lib.hid (nats_ints HO.out (by omega))
          go_wp2_with fail
          go_ret
          exact ⟨_, rfl, HI.out, Ext.trans HE1.out (Ext.trans HE.out HEq.out)⟩
/-- what the reference's Critical gives -/
def RCritS (xs : List (List Int)) (e : Ending) (w' : World) : Prop :=
  (matB xs = false ∧ e = two (.slice none 0 0) (.int .i64 2)) ∨
  (matB xs = true ∧ spF xs.length (entF xs) = none ∧ e = two (.slice none 0 0) (.int .i64 10)) ∨
  (matB xs = true ∧ ∃ p q v, spF xs.length (entF xs) = some (p, q) ∧ e = two v (.int .i64 0) ∧ Ints w' v (natI (onL xs.length (entF xs) p q xs.length)))
set_option maxHeartbeats 8000000 in
theorem rCritical_c (u : Value) (xs : List (List Int)) (w : World) (hu : Rows2 w u xs) (hlx : ∀ r ∈ xs, r.length ≤ 1000000) :
    Calls Tryz.prog 25 #[u] w fun e w' => RCritS xs e w' ∧ Ext w w' := by
  have HU := Lib.hid hu
  have HSP := Lib.hid (rSpeed_c u xs w hu hlx)
  obtain ⟨a1, c1, rfl, hl1, hm1, _⟩ := hu.at
  clear hu hlx
  have HZ := Lib.hid (show speedZ xs = speedZ xs from rfl)
  obtain ⟨⟨z1, z2, z3⟩, hz⟩ : ∃ z, z = speedZ xs := ⟨_, rfl⟩
  rw [← hz] at HSP
  simp only at HSP
  unfold speedZ at hz
  by_cases hok : ∃ p q, matB xs = true ∧ spF xs.length (entF xs) = some (p, q)
  · obtain ⟨p, q, hm, hs⟩ := hok
    rw [hm] at hz
    simp only [if_true, hs, Prod.mk.injEq] at hz
    obtain ⟨rfl, rfl, rfl⟩ := hz
    have hn := (matB_ok hm).1
    have hb := spF_bd (matB_ok hm).2.2 hn.2 hs
    have HBA := Lib.hid (matB_ok hm).2.2
    have HS := Lib.hid (fun v w' (h : Ints w' v (natI (onL xs.length (entF xs) z1 z2 xs.length))) => (show RCritS xs (two v (.int .i64 0)) w' from .inr (.inr ⟨hm, z1, z2, v, hs, rfl, h⟩)))
    have HUM := Lib.hid (fun W (h : Ext w W) => rows_mat (HU.out.ext h) (matB_ok hm).2.1 hn.1)
    have hq0 : 0 ≤ z2 ∧ z2 ≤ 6 := by omega
    have hp0 := hb.1
    clear hm hs hb HZ HU
    go_enter Tryz.func25, Tryz.ntmps25
    go_wp2_with fail
    refine HSP.out.mono ?_
    rintro e w1 ⟨rfl, hE⟩
    have HE2 := Lib.hid (Ext.alloc hE (.cells #[.int .i64 z1, .int .i64 z2] 38))
    have HP2 := Lib.hid (show VRow (w1.alloc (.cells #[.int .i64 z1, .int .i64 z2] 38)) _ _ _ from vrow_alloc w1 [.int .i64 z1, .int .i64 z2] 38)
    have m0 := VRow.cell HP2.out (k := 0) rfl
    have m1 := VRow.cell HP2.out (k := 1) rfl
    clear hE
    unfold two
    go_wp2_with fail
    have HMA := Lib.hid (HUM.out _ HE2.out)
    generalize w1.alloc (.cells #[.int .i64 z1, .int .i64 z2] 38) = w2 at *
    refine (rcritical_c _ xs.length (entF xs) z1 z2 w2 hn.1 hn.2 HMA.out HBA.out hp0 hq0).mono ?_
    rintro e w3 ⟨v, rfl, hv, hE⟩
    have HV := Lib.hid hv
    have HE3 := Lib.hid (Ext.trans HE2.out hE)
    clear hv hE m0 m1
    go_wp2_with fail
    go_ret2
    exact ⟨HS.out _ _ HV.out, HE3.out⟩
  · have HBAD := Lib.hid (show z3 ≠ 0 ∧ ∀ W, RCritS xs (two (.slice none 0 0) (.int .i64 z3)) W from by
      cases hm : matB xs with
      | false =>
        rw [hm] at hz
        simp only [Bool.false_eq_true, if_false, Prod.mk.injEq] at hz
        obtain ⟨_, _, rfl⟩ := hz
        exact ⟨by decide, fun W => .inl ⟨hm, rfl⟩⟩
      | true =>
        rw [hm] at hz
        simp only [if_true] at hz
        cases hs : spF xs.length (entF xs) with
        | none =>
          rw [hs] at hz
          simp only [Prod.mk.injEq] at hz
          obtain ⟨_, _, rfl⟩ := hz
          exact ⟨by decide, fun W => .inr (.inl ⟨hm, hs, rfl⟩)⟩
        | some pq => exact absurd ⟨pq.1, pq.2, hm, hs⟩ hok)
    have hb3 : (z3 != 0) = true := by rw [bne_iff_ne]; exact HBAD.out.1
    clear hok hz HZ
    go_enter Tryz.func25, Tryz.ntmps25
    go_wp2_with fail
    refine HSP.out.mono ?_
    rintro e w1 ⟨rfl, hE⟩
    have HE1 := Lib.hid (Ext.alloc hE (.cells #[.int .i64 z1, .int .i64 z2] 38))
    clear hE
    unfold two
    go_wp2_with fail
    go_ret2
    exact ⟨HBAD.out.2 _, HE1.out⟩
end Go.Proofs.YtbcngojiikdigaaGreat

namespace Go.Proofs.YtbcngojiikdigaaGreat
set_option maxRecDepth 100000
open Go.RowKit Go.Shelf
/-- what the reference's Eigen gives -/
def REigS (xs : List (List Int)) (e : Ending) (w' : World) : Prop :=
  (matB xs = false ∧ e = two (.slice none 0 0) (.int .i64 2)) ∨
  (matB xs = true ∧ spF xs.length (entF xs) = none ∧ e = two (.slice none 0 0) (.int .i64 10)) ∨
  (matB xs = true ∧ ∃ p q, spF xs.length (entF xs) = some (p, q) ∧ connB xs.length (lvF p q (entF xs)) = false ∧ e = two (.slice none 0 0) (.int .i64 10)) ∨
  (matB xs = true ∧ ∃ p q f rest v, spF xs.length (entF xs) = some (p, q) ∧ connB xs.length (lvF p q (entF xs)) = true ∧ critL xs.length (lvF p q (entF xs)) xs.length = f :: rest ∧ e = two v (.int .i64 0) ∧ Ints w' v (eigL xs.length (lvF p q (entF xs)) f))
/-- the least of the first numbers -/
theorem mnK_at (n : Nat) (B : MF) (f : Nat) {k : Nat} (hk : k < n) : (colL n B f).getD k 0 = colZ n B f k := by
  rw [List.getD_eq_getElem?_getD, colL_at B f hk]; rfl
theorem mnK_zero {n : Nat} (B : MF) (f : Nat) (hn : 1 ≤ n) : mnK (colL n B f) 0 = colZ n B f 0 := mnK_at n B f (by omega)
theorem mnK_succ {n : Nat} (B : MF) (f : Nat) {k : Nat} (hk : k + 1 < n) : mnK (colL n B f) (k + 1) = if colZ n B f (k + 1) < mnK (colL n B f) k then colZ n B f (k + 1) else mnK (colL n B f) k := by
  show (if (colL n B f).getD (k + 1) 0 < _ then (colL n B f).getD (k + 1) 0 else _) = _
  rw [mnK_at n B f hk]
set_option maxHeartbeats 8000000 in
theorem rEigen_c (u : Value) (xs : List (List Int)) (w : World) (hu : Rows2 w u xs) (hlx : ∀ r ∈ xs, r.length ≤ 1000000) :
    Calls Tryz.prog 33 #[u] w fun e w' => REigS xs e w' ∧ Ext w w' := by
  have HU := Lib.hid hu
  have HM := Lib.hid (fun W (h : Ext w W) => rmatrix_c u xs W (hu.ext h) hlx)
  have HSP := Lib.hid (fun W (h : Ext w W) => rSpeed_c u xs W (Rows2.ext hu h) hlx)
  obtain ⟨a1, c1, rfl, hl1, hm1, _⟩ := hu.at
  clear hu hlx
  cases hx : matB xs with
  | false =>
    rw [hx] at HM
    have HR := Lib.hid (fun W => show REigS xs (two (.slice none 0 0) (.int .i64 2)) W from .inl ⟨hx, rfl⟩)
    clear hx
    go_enter Tryz.func33, Tryz.ntmps33
    go_wp2_with fail
    refine (HM.out _ (Ext.refl _)).mono ?_
    rintro e w1 ⟨rfl, hE⟩
    have HE := Lib.hid hE
    clear hE
    go_wp2_with fail
    go_ret2
    exact ⟨HR.out _, HE.out⟩
  | true =>
    have hn := (matB_ok hx).1
    have HBA := Lib.hid (matB_ok hx).2.2
    have HUM := Lib.hid (fun W (h : Ext w W) => rows_mat (HU.out.ext h) (matB_ok hx).2.1 hn.1)
    rw [hx] at HM
    cases hs : spF xs.length (entF xs) with
    | none =>
      have HZ : speedZ xs = (0, 0, 10) := by unfold speedZ; rw [hx]; simp only [if_true, hs]
      rw [HZ] at HSP
      have HR := Lib.hid (fun W => show REigS xs (two (.slice none 0 0) (.int .i64 10)) W from .inr (.inl ⟨hx, hs, rfl⟩))
      clear hx hs HZ
      go_enter Tryz.func33, Tryz.ntmps33
      go_wp2_with fail
      refine (HM.out _ (Ext.refl _)).mono ?_
      rintro e w1 ⟨rfl, hE⟩
      have HE1 := Lib.hid hE
      clear hE
      go_wp2_with fail
      refine (HSP.out _ HE1.out).mono ?_
      rintro e w2 ⟨rfl, hE⟩
      have HE2 := Lib.hid (Ext.alloc (Ext.trans HE1.out hE) (.cells #[.int .i64 0, .int .i64 0] 38))
      clear hE
      unfold two
      go_wp2_with fail
      go_ret2
      exact ⟨HR.out _, HE2.out⟩
    | some pq =>
      obtain ⟨p, q⟩ := pq
      have HZ : speedZ xs = (p, q, 0) := by unfold speedZ; rw [hx]; simp only [if_true, hs]
      rw [HZ] at HSP
      have hb := spF_bd (matB_ok hx).2.2 hn.2 hs
      have HB := Lib.hid (lvF_bd (matB_ok hx).2.2 hb.1 hb.2)
      have HCN := Lib.hid (conn_lv xs.length p q (entF xs))
      have HONC := Lib.hid (onL_crit hn.1 hs)
      have hq0 : 0 ≤ q ∧ q ≤ 6 := by omega
      have hp0 := hb.1
      cases hc : connB xs.length (lvF p q (entF xs)) with
      | false =>
        have HR := Lib.hid (fun W => show REigS xs (two (.slice none 0 0) (.int .i64 10)) W from .inr (.inr (.inl ⟨hx, p, q, hs, hc, rfl⟩)))
        rw [hc] at HCN
        have HCN2 := Lib.hid HCN.out.symm
        clear hx hs HZ hc HCN
        go_enter Tryz.func33, Tryz.ntmps33
        go_wp2_with fail
        refine (HM.out _ (Ext.refl _)).mono ?_
        rintro e w1 ⟨rfl, hE⟩
        have HE1 := Lib.hid hE
        clear hE
        go_wp2_with fail
        refine (HSP.out _ HE1.out).mono ?_
        rintro e w2 ⟨rfl, hE⟩
        have HE2 := Lib.hid (Ext.alloc (Ext.trans HE1.out hE) (.cells #[.int .i64 p, .int .i64 q] 38))
        clear hE
        unfold two
        go_wp2_with fail
        generalize w2.alloc (.cells #[.int .i64 p, .int .i64 q] 38) = w3 at *
        refine (rconnected_c _ xs.length (entF xs) w3 hn.1 hn.2 (HUM.out _ HE2.out) HBA.out).mono ?_
        rintro e w4 ⟨rfl, hE⟩
        rw [HCN2.out]
        have HE4 := Lib.hid (Ext.trans HE2.out hE)
        clear hE
        go_wp2_with fail
        go_ret2
        exact ⟨HR.out _, HE4.out⟩
      | true =>
        obtain ⟨f, rest, hcr, hf, hcol⟩ := eig_ok hn.1 hs hc
        have HCB := Lib.hid (colZ_bd HB.out hn.2 hf hcol)
        have HCL := Lib.hid (show ∀ i, i < xs.length → val (smF xs.length (lvF p q (entF xs)) xs.length i f) = colZ xs.length (lvF p q (entF xs)) f i from fun i hi => by unfold colZ; rw [clos_star (lvF p q (entF xs)) hn.1 i hi f hf])
        have HR := Lib.hid (fun v W (h : Ints W v (eigL xs.length (lvF p q (entF xs)) f)) => show REigS xs (two v (.int .i64 0)) W from .inr (.inr (.inr ⟨hx, p, q, f, rest, v, hs, hc, hcr, rfl, h⟩)))
        rw [hcr] at HONC
        rw [hc] at HCN
        have HCN2 := Lib.hid HCN.out.symm
        clear hx hs HZ hc HCN hcol hcr
        go_enter Tryz.func33, Tryz.ntmps33
        go_wp2_with fail
        refine (HM.out _ (Ext.refl _)).mono ?_
        rintro e w1 ⟨rfl, hE⟩
        have HE1 := Lib.hid hE
        clear hE
        go_wp2_with fail
        refine (HSP.out _ HE1.out).mono ?_
        rintro e w2 ⟨rfl, hE⟩
        have HE2 := Lib.hid (Ext.alloc (Ext.trans HE1.out hE) (.cells #[.int .i64 p, .int .i64 q] 38))
        have HP2 := Lib.hid (show VRow (w2.alloc (.cells #[.int .i64 p, .int .i64 q] 38)) _ _ _ from vrow_alloc w2 [.int .i64 p, .int .i64 q] 38)
        have m0 := VRow.cell HP2.out (k := 0) rfl
        have m1 := VRow.cell HP2.out (k := 1) rfl
        clear hE
        unfold two
        go_wp2_with fail
        generalize w2.alloc (.cells #[.int .i64 p, .int .i64 q] 38) = w3 at *
        refine (rconnected_c _ xs.length (entF xs) w3 hn.1 hn.2 (HUM.out _ HE2.out) HBA.out).mono ?_
        rintro e w4 ⟨rfl, hE⟩
        rw [HCN2.out]
        have HE4 := Lib.hid (Ext.trans HE2.out hE)
        have HP4 := Lib.hid (VRow.ext HP2.out hE)
        have m0 := VRow.cell HP4.out (k := 0) rfl
        have m1 := VRow.cell HP4.out (k := 1) rfl
        clear hE
        go_wp2_with fail
        have HRC := Lib.hid (rcritical_c _ xs.length (entF xs) p q w4 hn.1 hn.2 (HUM.out _ HE4.out) HBA.out hp0 hq0)
        clear HU HM HSP HE1 HE2 HP2 HCN2
        generalize entF xs = A at *
        clear hb
        generalize xs.length = n at *
        have HR2 := Lib.hid HR.out
        have HUM2 := Lib.hid HUM.out
        clear HR HUM
        refine HRC.out.mono ?_
        rintro e w5 ⟨v5, rfl, hV, hE⟩
        have hV : Ints w5 v5 (natI (f :: rest)) := by rw [← HONC.out]; exact hV
        obtain ⟨vb, vo, vc, rfl, hvc⟩ := nat_cells hV (by simp)
        have d0 := hvc 0 (by simp)
        rw [show gC (f :: rest) 0 = f from rfl, Nat.add_zero] at d0
        obtain ⟨len, hlen⟩ : ∃ len, len = (f :: rest).length := ⟨_, rfl⟩
        have hlp : 0 < len := by rw [hlen]; simp
        rw [← hlen]
        have HE5 := Lib.hid (Ext.trans HE4.out hE)
        have HP5 := Lib.hid (VRow.ext HP4.out hE)
        have m0 := VRow.cell HP5.out (k := 0) rfl
        have m1 := VRow.cell HP5.out (k := 1) rfl
        have k0 := cell_lt d0
        clear hV hvc hE hlen
        go_wp2_with fail
        refine (scaled_c _ n A p q w5 hn.1 hn.2 (HUM2.out _ HE5.out) HBA.out hp0 hq0).mono ?_
        rintro e w6 ⟨r6, rfl, hr, hE⟩
        have HR6 := Lib.hid hr
        have HE6 := Lib.hid (Ext.trans HE5.out hE)
        clear hr hE d0 k0 m0 m1
        go_wp2_with fail
        refine (walks_c _ n _ w6 hn.1 hn.2 HR6.out HB.out).mono ?_
        rintro e w7 ⟨r7, rfl, hr, hE⟩
        have HE7 := Lib.hid (Ext.trans HE6.out hE)
        obtain ⟨rb, ro, rc, rfl, _, _, hrr⟩ := hr.mat
        have HCE := Lib.hid (show ∀ i, i < n → ∃ a o c, w7.cell? ⟨rb, ro + i, none⟩ = some (.slice (some ⟨a, o, none⟩) n c) ∧ w7.cell? ⟨a, o + f, none⟩ = some (.int .i64 (colZ n (lvF p q A) f i)) from fun i hi => by
          obtain ⟨u, c1, a, o, c, rfl, _, _, c2⟩ := hrr i hi
          have c3 := c2 f hf
          unfold iv at c3
          rw [HCL.out i hi] at c3
          exact ⟨a, o, c, c1, c3⟩)
        clear hr hE hrr HCL
        have HMZ := Lib.hid (mnK_zero (lvF p q A) f hn.1)
        have HMS := Lib.hid (fun (k : Nat) (hk : k + 1 < n) => mnK_succ (lvF p q A) f hk)
        have HMB := Lib.hid (mnK_bd (xs := colL n (lvF p q A) f) (L := 72000) (fun x hx => by
          obtain ⟨i, hi, e⟩ := List.getElem_of_mem hx
          rw [colL_len] at hi
          have h := colL_at (lvF p q A) f hi
          rw [List.getElem?_eq_getElem (by rw [colL_len]; exact hi)] at h
          injection h with h
          rw [← e, h]
          exact HCB.out i hi) (by omega))
        have HEL := Lib.hid (show eigL n (lvF p q A) f = (List.range n).map (fun i => colZ n (lvF p q A) f i - mnK (colL n (lvF p q A) f) (n - 1)) from by unfold eigL colL; rw [List.map_map]; rfl)
        generalize mnK (colL n (lvF p q A) f) = mn at *
        generalize hcz : colZ n (lvF p q A) f = cz at *
        clear hcz
        have HFIN := Lib.hid (fun v W (h : Ints W v ((List.range n).map (fun i => cz i - mn (n - 1)))) => HR2.out v W (by rw [HEL.out]; exact h))
        clear HEL HR2 HONC HB HBA HR6 HP4 HP5
        obtain ⟨a0, o0, q0, c1, c2⟩ := HCE.out 0 (by omega)
        rw [Nat.add_zero] at c1
        have k1 := cell_lt c1
        have k2 := cell_lt c2
        have hfz : (f : Int) < (n : Int) := by omega
        have hnz : (0 : Int) < (n : Int) := by omega
        go_wp2_with fail
        clear c1 c2 k1 k2
        go_loopw [8, 9] (fun lv iv' wr => ∃ k : Nat, iv' = .int .i64 ((k : Int) + 1) ∧ k + 1 ≤ n ∧ lv = .int .i64 (mn k) ∧ Ext w7 wr) (fun _ iv' _ => n - (intOf iv').toNat)
        case atStart => exact ⟨0, rfl, hn.1, by rw [HMZ.out], Ext.refl _⟩
        case round =>
          rename World => wr
          obtain ⟨k, rfl, hk, rfl, hE⟩ := hrel
          have HEr := Lib.hid hE
          clear hE
          by_cases hlt : k + 1 < n
          · obtain ⟨a1, o1, q1, c1, c2⟩ := HCE.out (k + 1) hlt
            have c1 := Ext.cell HEr.out c1
            have c2 := Ext.cell HEr.out c2
            have k1 := cell_lt c1
            have k2 := cell_lt c2
            have hz := HMS.out k hlt
            have hkz : (k : Int) + 1 < (n : Int) := by omega
            generalize cz (k + 1) = y at *
            generalize mn k = m at *
            by_cases hym : y < m
            · rw [if_pos hym] at hz
              have HZ := Lib.hid hz
              clear hz
              have hmy : ¬ m < y := by omega
              go_wp2_with fail
              exact ⟨⟨k + 1, by simp, by omega, by rw [HZ.out], HEr.out⟩, by simp [intOf]; omega⟩
            · rw [if_neg hym] at hz
              have HZ := Lib.hid hz
              clear hz
              go_wp2_with fail
              exact ⟨⟨k + 1, by simp, by omega, by rw [HZ.out], HEr.out⟩, by simp [intOf]; omega⟩
          · have hmb := HMB.out (n - 1)
            rw [show n - 1 = k by omega] at HFIN hmb
            generalize mn k = m at *
            have hkn : ¬ (k : Int) + 1 < (n : Int) := by omega
            go_wp2_with fail
            go_loopw [10, 11] (fun ov jv wq => ∃ j : Nat, jv = .int .i64 (j : Int) ∧ j ≤ n ∧ wq.ownsRow w7.heap.size 3 1 ov j (((List.range j).map (fun i => cz i - m)).map (Value.int .i64)) ∧ Ext w7 wq) (fun _ jv _ => n - (intOf jv).toNat)
            case atStart => exact ⟨0, rfl, Nat.zero_le _, ⟨rfl, .inl ⟨rfl, rfl⟩⟩, HEr.out⟩
            case round =>
              rename World => wq
              obtain ⟨j, rfl, hj, hO, hE⟩ := hrel
              obtain ⟨sa, sc, rfl⟩ := own_slice hO
              have HO := Lib.hid hO
              have HEq := Lib.hid hE
              have hwq := hE.size
              clear hO hE
              by_cases hjl : j < n
              · obtain ⟨a1, o1, q1, c1, c2⟩ := HCE.out j hjl
                have c1 := Ext.cell HEq.out c1
                have c2 := Ext.cell HEq.out c2
                have k1 := cell_lt c1
                have k2 := cell_lt c2
                have hcb := HCB.out j hjl
                obtain ⟨y, hy⟩ : ∃ y, y = cz j := ⟨_, rfl⟩
                rw [← hy] at c2 hcb
                have HRS := Lib.hid (show (List.range (j + 1)).map (fun i => cz i - m) = (List.range j).map (fun i => cz i - m) ++ [y - m] from by rw [List.range_succ, List.map_append, hy]; rfl)
                clear hy
                obtain ⟨i0, hi0, hz0, hz1, hz2⟩ := info_parts info3x23
                have HI := Lib.hid hi0
                have HZ0 := Lib.hid hz0
                have HZ1 := Lib.hid hz1
                have HZ2 := Lib.hid hz2
                have hob : ∀ x, Value.ownBlock (.slice sa j sc) = some x → w7.heap.size ≤ x := fun x hx => own_block HO.out hx
                have HOWN := Lib.hid (ownsRow_ext HO.out (Ext.alloc (Ext.refl wq) (.cells #[.int .i64 (y - m)] 3)))
                clear hi0 hz0 hz1 hz2
                go_wp2_with (at_builtin; (refine wpList_append_own _ rfl _ _ 23 rfl w7.heap.size 3 i0 (.int .i64 0) 1 8 Tryz.underlying23 HI.out HZ0.out HZ1.out HZ2.out rfl (by decide) _ _ _ rfl HOWN.out ⟨wq.heap.size, 0, none⟩ 1 1 [.int .i64 (y - m)] rfl rfl (fun j u h => cell_one_new wq _ 3 j u h) (by simp [Value.oneCell']) (by unfold maxLen; omega) (by omega) (by simp; omega) ?_; intro v' w' hown' hgrow hnil; have HO10 := Lib.hid hown'; have HG10 := Lib.hid hgrow; clear hown' hgrow hnil))
                refine ⟨⟨j + 1, by simp, by omega, ?_, Below.grown (Ext.alloc HEq.out (.cells #[.int .i64 (y - m)] 3)) HG10.out (by simp; omega) (fun x e => hob x e)⟩, by simp [intOf]; omega⟩
                rw [HRS.out, List.map_append]
                exact HO10.out
              · obtain rfl : j = n := by omega
                have HI := Lib.hid (own_ints2 (xs := (List.range j).map (fun i => cz i - m)) (by rw [List.length_map, List.length_range]; exact HO.out) (by rw [List.length_map, List.length_range]; omega))
                go_wp2_with fail
                go_ret2
                exact ⟨HFIN.out _ _ HI.out, Ext.trans HE7.out HEq.out⟩
end Go.Proofs.YtbcngojiikdigaaGreat

namespace Go.Proofs.YtbcngojiikdigaaGreat
set_option maxRecDepth 100000
open Go.RowKit Go.Shelf
theorem infoM : (Tryz.prog.info? 22).map (fun i => (i.zero, i.size, i.bytes)) = some (some (.slice none 0 0), 1, 24) := by kernel_rfl
/-- what the reference's Regime gives -/
def RRegS (xs : List (List Int)) (e : Ending) : Prop :=
  (matB xs = false ∧ e = three 0 0 2) ∨
  (matB xs = true ∧ spF xs.length (entF xs) = none ∧ e = three 0 0 10) ∨
  (matB xs = true ∧ ∃ p q, spF xs.length (entF xs) = some (p, q) ∧ connB xs.length (lvF p q (entF xs)) = false ∧ e = three 0 0 10) ∨
  (matB xs = true ∧ ∃ p q c k, spF xs.length (entF xs) = some (p, q) ∧ connB xs.length (lvF p q (entF xs)) = true ∧ e = three c k 0 ∧
    ((c = (periodF xs.length (lvF p q (entF xs)) : Nat) ∧ k = (regK xs.length (lvF p q (entF xs)) : Nat)) ∨ c = 0))
theorem pw_bd9 {n : Nat} {A : MF} (bA : bdF 1000 n A) {k : Nat} (hk : k ≤ 300000) : bdF 1000000000 n (pwF n A k) := (bdF_pw bA k).mono (by omega)
theorem pw_bdp {n : Nat} {A : MF} (bA : bdF 1000 n A) {k : Nat} (hk : k ≤ 300000) : ∀ i, i < n → ∀ j, j < n → ∀ t, t < n → bdE KB (ep (A i t) (pwF n A k t j)) := fun i hi j hj t ht => (bdE_ep (bA i hi t ht) (pw_bd9 bA hk t ht j hj)).mono (by unfold KB; omega)
theorem mul_bd12 {p x : Int} (hp : -6000 ≤ p ∧ p ≤ 6000) (hx : 0 ≤ x ∧ x ≤ 12) : -100000 ≤ x * p ∧ x * p ≤ 100000 := by
  have h1 := Int.mul_le_mul_of_nonneg_left hp.1 hx.1
  have h2 := Int.mul_le_mul_of_nonneg_left hp.2 hx.1
  omega
set_option maxHeartbeats 16000000 in
theorem rRegime_c (u : Value) (xs : List (List Int)) (w : World) (hu : Rows2 w u xs) (hlx : ∀ r ∈ xs, r.length ≤ 1000000) :
    Calls Tryz.prog 35 #[u] w fun e w' => RRegS xs e ∧ Ext w w' := by
  have HU := Lib.hid hu
  have HM := Lib.hid (fun W (h : Ext w W) => rmatrix_c u xs W (hu.ext h) hlx)
  have HSP := Lib.hid (fun W (h : Ext w W) => rSpeed_c u xs W (Rows2.ext hu h) hlx)
  obtain ⟨a1, c1, rfl, hl1, hm1, _⟩ := hu.at
  clear hu hlx
  cases hx : matB xs with
  | false =>
    rw [hx] at HM
    have HR := Lib.hid (show RRegS xs (three 0 0 2) from .inl ⟨hx, rfl⟩)
    clear hx
    go_enter Tryz.func35, Tryz.ntmps35
    go_wp2_with fail
    refine (HM.out _ (Ext.refl _)).mono ?_
    rintro e w1 ⟨rfl, hE⟩
    have HE := Lib.hid hE
    clear hE
    go_wp2_with fail
    (try simp only [Exit.inBlock, Exit.then])
    refine bodyPost_ret (results_tmp3 rfl _ _ _) rfl ?_
    exact ⟨HR.out, HE.out⟩
  | true =>
    have hn := (matB_ok hx).1
    have HBA := Lib.hid (matB_ok hx).2.2
    have HUM := Lib.hid (fun W (h : Ext w W) => rows_mat (HU.out.ext h) (matB_ok hx).2.1 hn.1)
    rw [hx] at HM
    cases hs : spF xs.length (entF xs) with
    | none =>
      have HZ : speedZ xs = (0, 0, 10) := by unfold speedZ; rw [hx]; simp only [if_true, hs]
      rw [HZ] at HSP
      have HR := Lib.hid (show RRegS xs (three 0 0 10) from .inr (.inl ⟨hx, hs, rfl⟩))
      clear hx hs HZ
      go_enter Tryz.func35, Tryz.ntmps35
      go_wp2_with fail
      refine (HM.out _ (Ext.refl _)).mono ?_
      rintro e w1 ⟨rfl, hE⟩
      have HE1 := Lib.hid hE
      clear hE
      go_wp2_with fail
      refine (HSP.out _ HE1.out).mono ?_
      rintro e w2 ⟨rfl, hE⟩
      have HE2 := Lib.hid (Ext.alloc (Ext.trans HE1.out hE) (.cells #[.int .i64 0, .int .i64 0] 38))
      clear hE
      unfold two
      go_wp2_with fail
      (try simp only [Exit.inBlock, Exit.then])
      refine bodyPost_ret (results_tmp3 rfl _ _ _) rfl ?_
      exact ⟨HR.out, HE2.out⟩
    | some pq =>
      obtain ⟨p, q⟩ := pq
      have HZ : speedZ xs = (p, q, 0) := by unfold speedZ; rw [hx]; simp only [if_true, hs]
      rw [HZ] at HSP
      have hb := spF_bd (matB_ok hx).2.2 hn.2 hs
      have HCN := Lib.hid (conn_lv xs.length p q (entF xs))
      have hq0 : 1 ≤ q ∧ q ≤ 6 := by omega
      have hp0 := hb.1
      cases hc : connB xs.length (lvF p q (entF xs)) with
      | false =>
        have HR := Lib.hid (show RRegS xs (three 0 0 10) from .inr (.inr (.inl ⟨hx, p, q, hs, hc, rfl⟩)))
        rw [hc] at HCN
        have HCN2 := Lib.hid HCN.out.symm
        clear hx hs HZ hc HCN
        go_enter Tryz.func35, Tryz.ntmps35
        go_wp2_with fail
        refine (HM.out _ (Ext.refl _)).mono ?_
        rintro e w1 ⟨rfl, hE⟩
        have HE1 := Lib.hid hE
        clear hE
        go_wp2_with fail
        refine (HSP.out _ HE1.out).mono ?_
        rintro e w2 ⟨rfl, hE⟩
        have HE2 := Lib.hid (Ext.alloc (Ext.trans HE1.out hE) (.cells #[.int .i64 p, .int .i64 q] 38))
        clear hE
        unfold two
        go_wp2_with fail
        generalize w2.alloc (.cells #[.int .i64 p, .int .i64 q] 38) = w3 at *
        refine (rconnected_c _ xs.length (entF xs) w3 hn.1 hn.2 (HUM.out _ HE2.out) HBA.out).mono ?_
        rintro e w4 ⟨rfl, hE⟩
        rw [HCN2.out]
        have HE4 := Lib.hid (Ext.trans HE2.out hE)
        clear hE
        go_wp2_with fail
        (try simp only [Exit.inBlock, Exit.then])
        refine bodyPost_ret (results_tmp3 rfl _ _ _) rfl ?_
        exact ⟨HR.out, HE4.out⟩
      | true =>
        have hreg := lv_regular hn.1 hn.2 (matB_ok hx).2.2 hs hc
        have HFOUND := Lib.hid (fun (k : Nat) (h1 : fX xs.length (entF xs) p q k 12 ≠ 0) (h2 : ∀ y, y < k → fX xs.length (entF xs) p q y 12 = 0) => (show RRegS xs (three (fX xs.length (entF xs) p q k 12 : Nat) (k : Nat) 0) from .inr (.inr (.inr ⟨hx, p, q, _, _, hs, hc, rfl, .inl (by obtain ⟨e1, e2⟩ := reg_found hs hreg h1 h2; exact ⟨by rw [e1], by rw [← e2]⟩)⟩))))
        have HNONE := Lib.hid (show RRegS xs (three 0 0 0) from .inr (.inr (.inr ⟨hx, p, q, _, _, hs, hc, rfl, .inr rfl⟩)))
        rw [hc] at HCN
        have HCN2 := Lib.hid HCN.out.symm
        clear hx hs HZ hc HCN hreg
        go_enter Tryz.func35, Tryz.ntmps35
        go_wp2_with fail
        refine (HM.out _ (Ext.refl _)).mono ?_
        rintro e w1 ⟨rfl, hE⟩
        have HE1 := Lib.hid hE
        clear hE
        go_wp2_with fail
        refine (HSP.out _ HE1.out).mono ?_
        rintro e w2 ⟨rfl, hE⟩
        have HE2 := Lib.hid (Ext.alloc (Ext.trans HE1.out hE) (.cells #[.int .i64 p, .int .i64 q] 38))
        have HP2 := Lib.hid (show VRow (w2.alloc (.cells #[.int .i64 p, .int .i64 q] 38)) _ _ _ from vrow_alloc w2 [.int .i64 p, .int .i64 q] 38)
        clear hE
        unfold two
        go_wp2_with fail
        obtain ⟨sb, hsb⟩ : ∃ sb, sb = w2.heap.size := ⟨_, rfl⟩
        rw [← hsb] at HP2 ⊢
        generalize w2.alloc (.cells #[.int .i64 p, .int .i64 q] 38) = w3 at *
        clear hsb
        refine (rconnected_c _ xs.length (entF xs) w3 hn.1 hn.2 (HUM.out _ HE2.out) HBA.out).mono ?_
        rintro e w4 ⟨rfl, hE⟩
        rw [HCN2.out]
        have HE4 := Lib.hid (Ext.trans HE2.out hE)
        have HP4 := Lib.hid (VRow.ext HP2.out hE)
        have HMA := Lib.hid (HUM.out _ HE4.out)
        clear hE HUM HU HM HSP HE1 HE2 HP2 HCN2
        generalize entF xs = A at *
        obtain ⟨n, hnn⟩ : ∃ n, n = xs.length := ⟨_, rfl⟩
        rw [← hnn] at HBA HFOUND HMA hn ⊢
        have HNN := Lib.hid hnn
        clear hnn
        go_wp2_with fail
        refine (roneW_c n w4 hn.1 hn.2).mono ?_
        rintro e w5 ⟨ov, rfl, hO, hE⟩
        have hO := hO.to (by omega)
        obtain ⟨oa, oc, rfl⟩ : ∃ a c, ov = .slice a n c := by obtain ⟨vs, ho, _⟩ := hO; exact own_slice ho
        have HE5 := Lib.hid hE
        have hw5 := hE.size
        have HEA := Lib.hid (Ext.alloc hE (.cells #[.slice oa n oc] 22))
        have HL5 := Lib.hid (show ListM w4.heap.size (w5.alloc (.cells #[.slice oa n oc] 22)) (.slice (some ⟨w5.heap.size, 0, none⟩) 1 1) n 1 (pwF n A) from ⟨[.slice oa n oc], vrow_own (vrow_alloc w5 [.slice oa n oc] 22) hw5 rfl (by omega), fun i u h => by
          match i, h with
          | 0, h => injection h with h; subst h; exact hO.ext (Ext.alloc (Ext.refl _) _)⟩)
        clear hO hE
        obtain ⟨i0, hi0, hz0, hz1, hz2⟩ := info_parts infoM
        have HI := Lib.hid hi0
        have HZ0 := Lib.hid hz0
        have HZ1 := Lib.hid hz1
        have HZ2 := Lib.hid hz2
        clear hi0 hz0 hz1 hz2
        go_wp2_with fail
        generalize w5.alloc (.cells #[.slice oa n oc] 22) = w6 at *
        generalize w5.heap.size = g6 at *
        go_loopw [7, 8] (fun lv kv wr => ∃ k : Nat, kv = .int .i64 (k : Int) ∧ k ≤ 12 ∧ ListM w4.heap.size wr lv n (k + 1) (pwF n A) ∧ Ext w4 wr) (fun _ kv _ => 12 - (intOf kv).toNat)
        case atStart => exact ⟨0, rfl, by omega, HL5.out, HEA.out⟩
        case round =>
          rename World => wr
          obtain ⟨k, rfl, hk, hL, hE⟩ := hrel
          have HE := Lib.hid hE
          have HL := Lib.hid hL
          by_cases hlt : k < 12
          · obtain ⟨vs, ho, hvs⟩ := hL
            obtain ⟨lb, lc, rfl, hl1, hl2, hlb, hvl, _, hcells⟩ := own_hi ho (by omega)
            obtain ⟨uk, huk⟩ := getElem?_len (show k < vs.length by omega)
            have hk5 := hvs k uk huk
            obtain ⟨ka, kc, rfl⟩ : ∃ a c, uk = .slice a n c := by obtain ⟨vs, ho, _⟩ := hk5; exact own_slice ho
            have d1 := hcells k _ huk
            rw [Nat.zero_add] at d1
            have k1 := cell_lt d1
            have HOW := Lib.hid ho
            have HVS := Lib.hid hvs
            have hwr := hE.size
            have HPR := Lib.hid (rproductO_c _ _ n _ _ wr hn.1 hn.2 (HMA.out.ext HE.out) (hk5.mat hn.1 (by omega) ((pw_bd9 HBA.out (by omega)).mono (by unfold KB; omega))) (HBA.out.mono (by unfold KB; omega)) ((pw_bd9 HBA.out (show k ≤ 300000 by omega)).mono (by unfold KB; omega)) (pw_bdp HBA.out (by omega)))
            have HMP := Lib.hid (mul_pw n A k)
            clear ho hvs hk5 hcells hE huk
            go_wp2_with fail
            refine HPR.out.mono ?_
            rintro e w7 ⟨nv, rfl, hN, hE⟩
            have hN := (hN.congr HMP.out).mono hwr
            obtain ⟨na, nc, rfl⟩ : ∃ a c, nv = .slice a n c := by obtain ⟨vs, ho, _⟩ := hN; exact own_slice ho
            have HN := Lib.hid hN
            have HE7 := Lib.hid hE
            have hw7 := hE.size
            have HEa := Lib.hid (Ext.alloc hE (.cells #[.slice na n nc] 22))
            have HOWN := Lib.hid (ownsRow_ext HOW.out HEa.out)
            have HVQ := Lib.hid (fun (i : Nat) (u : Value) (h : vs[i]? = some u) => (HVS.out i u h).ext HEa.out)
            have HNQ := Lib.hid (HN.out.ext (Ext.alloc (Ext.refl _) (.cells #[.slice na n nc] 22)))
            have hob : ∀ x, Value.ownBlock (.slice (some ⟨lb, 0, none⟩) (k + 1) lc) = some x → w4.heap.size ≤ x := fun x hx => own_block HOW.out hx
            clear hN hE d1 k1
            go_wp2_with (at_builtin; (refine wpList_append_own _ rfl _ _ 85 rfl w4.heap.size 22 i0 (.slice none 0 0) 1 24 Tryz.underlying85 HI.out HZ0.out HZ1.out HZ2.out rfl (by decide) _ _ _ rfl HOWN.out ⟨w7.heap.size, 0, none⟩ 1 1 [.slice na n nc] rfl rfl (fun j u h => cell_one_new w7 _ 22 j u h) (by simp [Value.oneCell']) (by unfold maxLen; omega) (by omega) (by simp; omega) ?_; intro v' w' hown' hgrow hnil; have HO10 := Lib.hid hown'; have HG10 := Lib.hid hgrow; clear hown' hgrow hnil))
            exact ⟨⟨k + 1, by simp, by omega, ListM.push HOWN.out HVQ.out HNQ.out HO10.out HG10.out, Below.grown (Ext.trans HE.out HEa.out) HG10.out (by simp; omega) (fun x e => hob x e)⟩, by simp [intOf]; omega⟩
          · have hkz : ¬ (k : Int) < 12 := by omega
            have hL13 := hL
            rw [show k + 1 = 13 by omega] at hL13
            obtain ⟨g, cap, rfl, hg, hcap, hcap2, hV⟩ := hL13.lis
            have HV := Lib.hid hV
            clear hL hE hV HL hlt hk
            generalize (k : Int) = kk at *
            go_wp2_with fail
            go_loopw [10, 9] (fun kv cv wq => ∃ k : Nat, kv = .int .i64 (k : Int) ∧ k ≤ 200000 ∧ cv = .int .i64 0 ∧ (∀ y, y < k → fX n A p q y 12 = 0) ∧ LisV w4.heap.size wq g cap n (fun i => pwF n A (k + i)) ∧ Ext w4 wq) (fun kv _ _ => 200000 - (intOf kv).toNat)
            case atStart => exact ⟨0, rfl, by omega, rfl, fun y hy => by omega, HV.out.congr fun i _ => by rw [Nat.zero_add]; exact eqF.refl _ _, HE.out⟩
            case round =>
              rename World => wq
              obtain ⟨k, rfl, hk, rfl, hno, hV, hE⟩ := hrel
              have HNO := Lib.hid hno
              have HVq := Lib.hid hV
              have HEq := Lib.hid hE
              clear hno hV hE
              have HK := Lib.hid hk
              clear hk
              by_cases hlt : k < 200000
              · have hltz : (k : Int) < 200000 := by omega
                have HLT := Lib.hid hlt
                clear hlt
                go_wp2_with fail
                clear hltz
                have hk := HLT.out
                go_loopw [11, 9] (fun xv cv wt => ∃ x : Nat, xv = .int .i64 ((x : Int) + 1) ∧ x ≤ 12 ∧ cv = .int .i64 (fX n A p q k x : Nat) ∧ Ext wq wt) (fun xv _ _ => 20 - (intOf xv).toNat)
                case atStart => exact ⟨0, rfl, by omega, rfl, Ext.refl _⟩
                case round =>
                  rename World => wt
                  obtain ⟨x, rfl, hx, rfl, hE⟩ := hrel
                  have HEt := Lib.hid hE
                  clear hE
                  have HRET := Lib.hid (fun (h : fX n A p q k x ≠ 0) => (show RRegS xs (three (fX n A p q k x : Nat) (k : Nat) 0) from by
                    have e : fX n A p q k 12 = fX n A p q k x := by have h2 := fX_stays h (12 - x); rw [show x + (12 - x) = 12 by omega] at h2; exact h2
                    rw [← e]
                    exact HFOUND.out k (by rw [e]; exact h) HNO.out))
                  have hwt := HEt.out.size
                  by_cases hz : fX n A p q k x = 0
                  · rw [hz]
                    by_cases hx12 : x < 12
                    · have hV := HVq.out.ext HEt.out
                      obtain ⟨xa, xc, d1, _, hX⟩ := hV.at (show x + 1 < 13 by omega)
                      obtain ⟨za, zc, d2, _, hZ⟩ := hV.at (show 0 < 13 by omega)
                      have k1 := cell_lt d1
                      have k2 := cell_lt d2
                      have HP := Lib.hid (VRow.ext HP4.out (Ext.trans HEq.out HEt.out))
                      have m0 := VRow.cell HP.out (k := 0) rfl
                      have m1 := VRow.cell HP.out (k := 1) rfl
                      obtain ⟨xp, hxp⟩ : ∃ xp, xp = ((x : Int) + 1) * p := ⟨_, rfl⟩
                      have hxb : -100000 ≤ xp ∧ xp ≤ 100000 := by rw [hxp]; exact mul_bd12 hp0 (by omega)
                      have hwx : IntKind.i64.wrap (((x : Int) + 1) * p) = xp := by rw [← hxp]; exact IntWalk.i64_in _ (by omega)
                      have HAH := Lib.hid (fun W (h : Ext wt W) => ahead_c _ _ n _ _ xp q W hn.1 hn.2 ((hX.mat hn.1 (by omega) ((pw_bd9 HBA.out (by omega)).mono (by unfold KB; omega))).ext h) ((hZ.mat hn.1 (by omega) ((pw_bd9 HBA.out (by omega)).mono (by unfold KB; omega))).ext h) (pw_bd9 HBA.out (by omega)) (pw_bd9 HBA.out (by omega)) hxb hq0)
                      have HFX := Lib.hid (show fX n A p q k (x + 1) = if ahB n (pwF n A (k + (x + 1))) (pwF n A (k + 0)) xp q = true then x + 1 else 0 from by
                        show (if fX n A p q k x ≠ 0 then fX n A p q k x else if ahB n (pwF n A (k + (x + 1))) (pwF n A k) (((x + 1 : Nat) : Int) * p) q = true then x + 1 else 0) = _
                        rw [if_neg (by rw [hz]; simp), hxp, Int.natCast_add]; rfl)
                      have D1 := Lib.hid d1
                      have D2 := Lib.hid d2
                      obtain ⟨bb, hbq⟩ : ∃ bb, bb = ahB n (pwF n A (k + (x + 1))) (pwF n A (k + 0)) xp q := ⟨_, rfl⟩
                      rw [← hbq] at HAH
                      have hx13 : (x : Int) + 1 < 13 := by omega
                      have hx0 : ¬ (x : Int) + 1 < 0 := by omega
                      clear hV hX hZ hz hxp k1 k2 m0 m1 d1 d2
                      go_wp2_with fail
                      refine wp_region_stable [⟨[], none⟩, ⟨[], none⟩, ⟨[(0, 62), (1, 63)], none⟩, ⟨[(2, 64)], none⟩, ⟨[], none⟩, ⟨[(4, 66)], none⟩, ⟨[(5, 67)], none⟩, ⟨[], none⟩, ⟨[], none⟩, ⟨[(8, 70)], none⟩, ⟨[(7, 69), (9, 71)], none⟩, ⟨[], none⟩, ⟨[(11, 73)], none⟩, ⟨[(3, 65), (6, 68), (10, 72), (12, 74)], none⟩] (fun x y => Below x.heap.size x y) (MPat [MP.eq (.slice (some ⟨g, 0, none⟩) 13 cap), MP.eq (.int .i64 ((x : Int) + 1)), MP.eq (.pointer (some ⟨g, x + 1, none⟩)), MP.eq (.slice xa n xc), MP.eq (.slice (some ⟨g, 0, none⟩) 13 cap), MP.eq (.pointer (some ⟨g, 0, none⟩)), MP.eq (.slice za n zc), MP.eq (.int .i64 ((x : Int) + 1)), MP.eq (.pointer (some ⟨sb, 0, none⟩)), MP.eq (.int .i64 p), MP.eq (.int .i64 xp), MP.eq (.pointer (some ⟨sb, 1, none⟩)), MP.eq (.int .i64 q), MP.eq (.bool bb)]) (by kernel_rfl) (fun _ _ _ h k => Ext.trans h k) (fun _ => Below.refl _ _) (fun x => (Below.refl x.heap.size x).drew) (MPat.mono _) (by kernel_rfl) ?obs ?rest
                      case obs =>
                        refine ⟨?_, ?_, ?_, ?_, ?_, ?_, ?_, ?_, ?_, ?_, ?_, ?_, ?_, ?_, trivial⟩
                        · intro ev W hf _ _ hst hd
                          have e7 : ev (.tmp 7) = .slice (some ⟨g, 0, none⟩) 13 cap := hf 7 (by kernel_rfl)
                          refine st_value (v := .slice (some ⟨g, 0, none⟩) 13 cap) ?_ (Below.refl _ _) ?_
                          · simp [execOp, go_sem, e7]
                          · exact rfl
                        · intro ev W hf _ _ hst hd
                          have e11 : ev (.tmp 11) = .int .i64 ((x : Int) + 1) := hf 11 (by kernel_rfl)
                          refine st_value (v := .int .i64 ((x : Int) + 1)) ?_ (Below.refl _ _) ?_
                          · simp [execOp, go_sem, e11]
                          · exact rfl
                        · intro ev W hf _ _ hst hd
                          obtain ⟨d62, d63, _⟩ := hd
                          have e62 : ev (.tmp 62) = .slice (some ⟨g, 0, none⟩) 13 cap := d62
                          have e63 : ev (.tmp 63) = .int .i64 ((x : Int) + 1) := d63
                          refine st_value (v := .pointer (some ⟨g, x + 1, none⟩)) ?_ (Below.refl _ _) ?_
                          · simp [execOp, go_sem, e62, e63, hx13, hx0]
                          · exact rfl
                        · intro ev W hf _ _ hst hd
                          obtain ⟨d64, _⟩ := hd
                          have e64 : ev (.tmp 64) = .pointer (some ⟨g, x + 1, none⟩) := d64
                          have q0 := Ext.cell hst D1.out
                          refine st_value (v := .slice xa n xc) ?_ (Below.refl _ _) ?_
                          · simp [execOp, go_sem, e64, q0]
                          · exact rfl
                        · intro ev W hf _ _ hst hd
                          have e7 : ev (.tmp 7) = .slice (some ⟨g, 0, none⟩) 13 cap := hf 7 (by kernel_rfl)
                          refine st_value (v := .slice (some ⟨g, 0, none⟩) 13 cap) ?_ (Below.refl _ _) ?_
                          · simp [execOp, go_sem, e7]
                          · exact rfl
                        · intro ev W hf hcst _ hst hd
                          obtain ⟨d66, _⟩ := hd
                          have e66 : ev (.tmp 66) = .slice (some ⟨g, 0, none⟩) 13 cap := d66
                          refine st_value (v := .pointer (some ⟨g, 0, none⟩)) ?_ (Below.refl _ _) ?_
                          · simp [execOp, go_sem, e66, hcst]
                          · exact rfl
                        · intro ev W hf _ _ hst hd
                          obtain ⟨d67, _⟩ := hd
                          have e67 : ev (.tmp 67) = .pointer (some ⟨g, 0, none⟩) := d67
                          have q0 := Ext.cell hst D2.out
                          refine st_value (v := .slice za n zc) ?_ (Below.refl _ _) ?_
                          · simp [execOp, go_sem, e67, q0]
                          · exact rfl
                        · intro ev W hf _ _ hst hd
                          have e11 : ev (.tmp 11) = .int .i64 ((x : Int) + 1) := hf 11 (by kernel_rfl)
                          refine st_value (v := .int .i64 ((x : Int) + 1)) ?_ (Below.refl _ _) ?_
                          · simp [execOp, go_sem, e11]
                          · exact rfl
                        · intro ev W hf _ _ hst hd
                          have e5 : ev (.tmp 5) = .pointer (some ⟨sb, 0, none⟩) := hf 5 (by kernel_rfl)
                          refine st_value (v := .pointer (some ⟨sb, 0, none⟩)) ?_ (Below.refl _ _) ?_
                          · simp [execOp, go_sem, e5]
                          · exact rfl
                        · intro ev W hf _ _ hst hd
                          obtain ⟨d70, _⟩ := hd
                          have e70 : ev (.tmp 70) = .pointer (some ⟨sb, 0, none⟩) := d70
                          have q0 := VRow.cell (VRow.ext HP.out hst) (k := 0) rfl
                          refine st_value (v := .int .i64 p) ?_ (Below.refl _ _) ?_
                          · simp [execOp, go_sem, e70, q0]
                          · exact rfl
                        · intro ev W hf _ _ hst hd
                          obtain ⟨d69, d71, _⟩ := hd
                          have e69 : ev (.tmp 69) = .int .i64 ((x : Int) + 1) := d69
                          have e71 : ev (.tmp 71) = .int .i64 p := d71
                          refine st_value (v := .int .i64 xp) ?_ (Below.refl _ _) ?_
                          · simp [execOp, go_sem, e69, e71, hwx]
                          · exact rfl
                        · intro ev W hf _ _ hst hd
                          have e5 : ev (.tmp 5) = .pointer (some ⟨sb, 0, none⟩) := hf 5 (by kernel_rfl)
                          refine st_value (v := .pointer (some ⟨sb, 1, none⟩)) ?_ (Below.refl _ _) ?_
                          · simp [execOp, go_sem, e5]
                          · exact rfl
                        · intro ev W hf _ _ hst hd
                          obtain ⟨d73, _⟩ := hd
                          have e73 : ev (.tmp 73) = .pointer (some ⟨sb, 1, none⟩) := d73
                          have q0 := VRow.cell (VRow.ext HP.out hst) (k := 1) rfl
                          refine st_value (v := .int .i64 q) ?_ (Below.refl _ _) ?_
                          · simp [execOp, go_sem, e73, q0]
                          · exact rfl
                        · intro ev W hf _ hfn hst hd
                          obtain ⟨d65, d68, d72, d74, _⟩ := hd
                          have e65 : ev (.tmp 65) = .slice xa n xc := d65
                          have e68 : ev (.tmp 68) = .slice za n zc := d68
                          have e72 : ev (.tmp 72) = .int .i64 xp := d72
                          have e74 : ev (.tmp 74) = .int .i64 q := d74
                          refine st_call (f := 75) (args := #[.slice xa n xc, .slice za n zc, .int .i64 xp, .int .i64 q]) (by simp [execOp, go_sem, hfn, e65, e68, e72, e74]) (HAH.out W hst) (fun _ _ => rfl)
                      case rest =>
                        intro vs w3 hl hst hg
                        have hx0 : ∀ u, vs[0]? = some u → u = .slice (some ⟨g, 0, none⟩) 13 cap := fun u hu => hg 0 u hu
                        have hx1 : ∀ u, vs[1]? = some u → u = .int .i64 ((x : Int) + 1) := fun u hu => hg 1 u hu
                        have hx2 : ∀ u, vs[2]? = some u → u = .pointer (some ⟨g, x + 1, none⟩) := fun u hu => hg 2 u hu
                        have hx3 : ∀ u, vs[3]? = some u → u = .slice xa n xc := fun u hu => hg 3 u hu
                        have hx4 : ∀ u, vs[4]? = some u → u = .slice (some ⟨g, 0, none⟩) 13 cap := fun u hu => hg 4 u hu
                        have hx5 : ∀ u, vs[5]? = some u → u = .pointer (some ⟨g, 0, none⟩) := fun u hu => hg 5 u hu
                        have hx6 : ∀ u, vs[6]? = some u → u = .slice za n zc := fun u hu => hg 6 u hu
                        have hx7 : ∀ u, vs[7]? = some u → u = .int .i64 ((x : Int) + 1) := fun u hu => hg 7 u hu
                        have hx8 : ∀ u, vs[8]? = some u → u = .pointer (some ⟨sb, 0, none⟩) := fun u hu => hg 8 u hu
                        have hx9 : ∀ u, vs[9]? = some u → u = .int .i64 p := fun u hu => hg 9 u hu
                        have hx10 : ∀ u, vs[10]? = some u → u = .int .i64 xp := fun u hu => hg 10 u hu
                        have hx11 : ∀ u, vs[11]? = some u → u = .pointer (some ⟨sb, 1, none⟩) := fun u hu => hg 11 u hu
                        have hx12 : ∀ u, vs[12]? = some u → u = .int .i64 q := fun u hu => hg 12 u hu
                        have hx13 : ∀ u, vs[13]? = some u → u = .bool bb := fun u hu => hg 13 u hu
                        have HE3 := Lib.hid hst
                        clear hg hst
                        obtain ⟨x0, vs0, rfl, hl0⟩ := len_succ hl
                        obtain ⟨x1, vs1, rfl, hl1⟩ := len_succ hl0
                        obtain ⟨x2, vs2, rfl, hl2⟩ := len_succ hl1
                        obtain ⟨x3, vs3, rfl, hl3⟩ := len_succ hl2
                        obtain ⟨x4, vs4, rfl, hl4⟩ := len_succ hl3
                        obtain ⟨x5, vs5, rfl, hl5⟩ := len_succ hl4
                        obtain ⟨x6, vs6, rfl, hl6⟩ := len_succ hl5
                        obtain ⟨x7, vs7, rfl, hl7⟩ := len_succ hl6
                        obtain ⟨x8, vs8, rfl, hl8⟩ := len_succ hl7
                        obtain ⟨x9, vs9, rfl, hl9⟩ := len_succ hl8
                        obtain ⟨x10, vs10, rfl, hl10⟩ := len_succ hl9
                        obtain ⟨x11, vs11, rfl, hl11⟩ := len_succ hl10
                        obtain ⟨x12, vs12, rfl, hl12⟩ := len_succ hl11
                        obtain ⟨x13, vs13, rfl, hl13⟩ := len_succ hl12
                        have hnil : vs13 = [] := List.length_eq_zero_iff.1 hl13
                        subst hnil
                        obtain rfl : x0 = .slice (some ⟨g, 0, none⟩) 13 cap := hx0 _ rfl
                        obtain rfl : x1 = .int .i64 ((x : Int) + 1) := hx1 _ rfl
                        obtain rfl : x2 = .pointer (some ⟨g, x + 1, none⟩) := hx2 _ rfl
                        obtain rfl : x3 = .slice xa n xc := hx3 _ rfl
                        obtain rfl : x4 = .slice (some ⟨g, 0, none⟩) 13 cap := hx4 _ rfl
                        obtain rfl : x5 = .pointer (some ⟨g, 0, none⟩) := hx5 _ rfl
                        obtain rfl : x6 = .slice za n zc := hx6 _ rfl
                        obtain rfl : x7 = .int .i64 ((x : Int) + 1) := hx7 _ rfl
                        obtain rfl : x8 = .pointer (some ⟨sb, 0, none⟩) := hx8 _ rfl
                        obtain rfl : x9 = .int .i64 p := hx9 _ rfl
                        obtain rfl : x10 = .int .i64 xp := hx10 _ rfl
                        obtain rfl : x11 = .pointer (some ⟨sb, 1, none⟩) := hx11 _ rfl
                        obtain rfl : x12 = .int .i64 q := hx12 _ rfl
                        obtain rfl : x13 = .bool bb := hx13 _ rfl
                        clear hx0 hx1 hx2 hx3 hx4 hx5 hx6 hx7 hx8 hx9 hx10 hx11 hx12 hx13
                        simp only [putAll, Act.put, List.setIfInBounds_toArray, List.set_cons_zero, List.set_cons_succ]
                        have HE8 := Lib.hid (Ext.trans HEt.out HE3.out)
                        cases bb with
                        | true =>
                          have HFY := Lib.hid (show fX n A p q k (x + 1) = x + 1 from by rw [HFX.out, if_pos hbq.symm])
                          clear hbq
                          go_wp2_with fail
                          exact ⟨⟨x + 1, by simp, by omega, by rw [HFY.out]; simp, HE8.out⟩, by simp [intOf]; omega⟩
                        | false =>
                          have HFY := Lib.hid (show fX n A p q k (x + 1) = 0 from by rw [HFX.out, if_neg (by rw [← hbq]; simp)])
                          clear hbq
                          go_wp2_with fail
                          exact ⟨⟨x + 1, by simp, by omega, by rw [HFY.out]; rfl, HE8.out⟩, by simp [intOf]; omega⟩
                    · have hxe : x = 12 := by omega
                      have hxz : ¬ (x : Int) + 1 ≤ 12 := by omega
                      have hz : fX n A p q k 12 = 0 := by rw [← hxe]; exact hz
                      clear HRET hxe hx12 hx
                      have HNO2 := Lib.hid (show ∀ y, y < k + 1 → fX n A p q y 12 = 0 from fun y hy => by
                        by_cases e : y = k
                        · rw [e]; exact hz
                        · exact HNO.out y (by omega))
                      have hV := HVq.out.ext HEt.out
                      obtain ⟨xa, xc, d1, _, hX⟩ := hV.at (show 12 < 13 by omega)
                      have k1 := cell_lt d1
                      have HEW := Lib.hid (Ext.trans HEq.out HEt.out)
                      have HPR := Lib.hid (rproductO_c _ _ n _ _ wt hn.1 hn.2 (HMA.out.ext HEW.out) (hX.mat hn.1 (by omega) ((pw_bd9 HBA.out (by omega)).mono (by unfold KB; omega))) (HBA.out.mono (by unfold KB; omega)) ((pw_bd9 HBA.out (show k + 12 ≤ 300000 by omega)).mono (by unfold KB; omega)) (pw_bdp HBA.out (by omega)))
                      have HMP := Lib.hid (mul_pw n A (k + 12))
                      have HV12 := Lib.hid hV
                      clear hV hX hz
                      go_wp2_with fail
                      refine HPR.out.mono ?_
                      rintro e w8 ⟨nv, rfl, hN, hE⟩
                      have hN := (hN.congr HMP.out).mono (show w4.heap.size ≤ wt.heap.size from HEW.out.size)
                      obtain ⟨na, nc, rfl⟩ : ∃ a c, nv = .slice a n c := by obtain ⟨vs, ho, _⟩ := hN; exact own_slice ho
                      have HN8 := Lib.hid hN
                      have HV8 := Lib.hid (HV12.out.ext hE)
                      have HE8 := Lib.hid (Ext.trans HEW.out hE)
                      clear hN hE d1 k1
                      go_wp2_with fail
                      go_loopw [13] (fun xv wz => ∃ x : Nat, xv = .int .i64 (x : Int) ∧ x ≤ 12 ∧ LisV w4.heap.size wz g cap n (fun i => if i < x then pwF n A (k + i + 1) else pwF n A (k + i)) ∧ OutTo w4.heap.size wz (.slice na n nc) n n (pwF n A (k + 12 + 1)) ∧ Ext w4 wz) (fun xv _ => 12 - (intOf xv).toNat)
                      case atStart => exact ⟨0, rfl, by omega, HV8.out.congr fun i _ => by rw [if_neg (by omega)]; exact eqF.refl _ _, HN8.out, HE8.out⟩
                      case round =>
                        rename World => wz
                        obtain ⟨x, rfl, hx2, hV, hN, hE⟩ := hrel
                        by_cases hxl : x < 12
                        · obtain ⟨ya, yc, d1, _, hY⟩ := hV.at (show x + 1 < 13 by omega)
                          obtain ⟨ya0, yc0, d2, f2, _⟩ := hV.at (show x < 13 by omega)
                          have k1 := cell_lt d1
                          have k2 := cell_lt d2
                          rw [if_neg (by omega)] at hY
                          have HPUT := Lib.hid (hV.put hY (show x < 13 by omega) hcap)
                          have HNP := Lib.hid (show OutTo w4.heap.size (wz.setCell ⟨g, x, none⟩ (.slice ya n yc)) (.slice na n nc) n n (pwF n A (k + 12 + 1)) from by
                            obtain ⟨us, h1, _⟩ := hV
                            exact hN.put h1)
                          have HEP := Lib.hid (Below.setCell (p := ⟨g, x, none⟩) hE hg (.slice ya n yc))
                          clear hV hN hE hY
                          go_wp2_with fail
                          refine ⟨⟨x + 1, by simp, by omega, HPUT.out.congr fun i _ => ?_, HNP.out, HEP.out⟩, by simp [intOf]; omega⟩
                          by_cases e : i = x
                          · subst e; rw [if_pos rfl, if_pos (by omega)]; exact eqF.refl _ _
                          · rw [if_neg e]
                            by_cases e2 : i < x
                            · rw [if_pos e2, if_pos (by omega)]; exact eqF.refl _ _
                            · rw [if_neg e2, if_neg (by omega)]; exact eqF.refl _ _
                        · have hxz2 : ¬ (x : Int) < 12 := by omega
                          obtain ⟨ya0, yc0, d2, f2, _⟩ := hV.at (show 12 < 13 by omega)
                          have k2 := cell_lt d2
                          have HPUT := Lib.hid (hV.put hN (show 12 < 13 by omega) hcap)
                          have HEP := Lib.hid (Below.setCell (p := ⟨g, 12, none⟩) hE hg (.slice na n nc))
                          clear hV hN hE
                          go_wp2_with fail
                          refine ⟨⟨k + 1, by simp, by omega, rfl, HNO2.out, HPUT.out.congr fun i hi => ?_, HEP.out⟩, by simp [intOf]; omega⟩
                          by_cases e : i = 12
                          · subst e; rw [if_pos rfl, show k + 12 + 1 = k + 1 + 12 by omega]; exact eqF.refl _ _
                          · rw [if_neg e, if_pos (by omega), show k + i + 1 = k + 1 + i by omega]; exact eqF.refl _ _
                  · have HR := Lib.hid (HRET.out hz)
                    have hzp : 1 ≤ fX n A p q k x := by omega
                    clear hz
                    generalize fX n A p q k x = cc at *
                    have hcb : ((cc : Int) == 0) = false := beq_eq_false_iff_ne.2 (by omega)
                    have hcp : (0 : Int) < (cc : Int) := by omega
                    by_cases hx12 : x < 12
                    · go_wp2_with fail
                      (try simp only [Exit.inBlock, Exit.then])
                      refine bodyPost_ret (results_tmp3 rfl _ _ _) rfl ?_
                      exact ⟨HR.out, Ext.trans HE4.out (Ext.trans HEq.out HEt.out)⟩
                    · go_wp2_with fail
                      (try simp only [Exit.inBlock, Exit.then])
                      refine bodyPost_ret (results_tmp3 rfl _ _ _) rfl ?_
                      exact ⟨HR.out, Ext.trans HE4.out (Ext.trans HEq.out HEt.out)⟩
              · have hltz : ¬ (k : Int) < 200000 := by omega
                clear hlt
                go_wp2_with fail
                (try simp only [Exit.inBlock, Exit.then])
                refine bodyPost_ret (results_tmp3 rfl _ _ _) rfl ?_
                exact ⟨HNONE.out, Ext.trans HE4.out HEq.out⟩
end Go.Proofs.YtbcngojiikdigaaGreat

namespace Go.Proofs.YtbcngojiikdigaaGreat
set_option maxRecDepth 100000
open Go.RowKit Go.Shelf
theorem pace_neq (a b : Int) (w : World) : Sem.run Tryz.prog (binOp .neq 38 (.agg #[.int .i64 a, .int .i64 b]) (.agg #[.int .i64 a, .int .i64 b])) w = .ok (.bool false) w := by
  simp [go_sem]
theorem cyc_two {e : Ending} {base : Nat} {xs : List (List Int)} {w' : World} (h : CycS base xs e w') : ∃ r z, e = two r (.int .i64 z) := by
  rcases h with ⟨_, h⟩ | ⟨_, _, h⟩ | ⟨_, _, _, _, _, r, _, _, h, _⟩
  · exact ⟨_, _, h⟩
  · exact ⟨_, _, h⟩
  · exact ⟨_, _, h⟩
theorem rcyc_two {e : Ending} {xs : List (List Int)} {w' : World} (h : RCycS xs e w') : ∃ r z, e = two r (.int .i64 z) := by
  unfold RCycS at h
  split at h
  · split at h
    · exact ⟨_, _, h⟩
    · obtain ⟨v, h, _⟩ := h
      exact ⟨_, _, h⟩
  · exact ⟨_, _, h⟩
theorem crit_two {e : Ending} {xs : List (List Int)} {w' : World} (h : CritS xs e w') : ∃ r z, e = two r (.int .i64 z) := by
  rcases h with ⟨_, h⟩ | ⟨_, _, h⟩ | ⟨_, _, _, r, _, h, _⟩
  · exact ⟨_, _, h⟩
  · exact ⟨_, _, h⟩
  · exact ⟨_, _, h⟩
theorem rcrit_two {e : Ending} {xs : List (List Int)} {w' : World} (h : RCritS xs e w') : ∃ r z, e = two r (.int .i64 z) := by
  rcases h with ⟨_, h⟩ | ⟨_, _, h⟩ | ⟨_, _, _, r, _, h, _⟩
  · exact ⟨_, _, h⟩
  · exact ⟨_, _, h⟩
  · exact ⟨_, _, h⟩
theorem cyc_both {base : Nat} {xs : List (List Int)} {p q : Value} {z z2 : Int} {w1 w2 : World} (h1 : CycS base xs (two p (.int .i64 z)) w1) (h2 : RCycS xs (two q (.int .i64 z2)) w2) (he : Ext w1 w2) :
    z2 = z ∧ ∃ L, Ints w2 p L ∧ Ints w2 q L := by
  unfold RCycS at h2
  rcases h1 with ⟨m1, e1⟩ | ⟨m1, s1, e1⟩ | ⟨m1, a, b, m, f, r, s1, hle, e1, hr⟩
  · obtain ⟨rfl, f1⟩ := two_inj e1
    rw [m1] at h2
    simp only [Bool.false_eq_true, if_false] at h2
    obtain ⟨rfl, f2⟩ := two_inj h2
    exact ⟨by rw [int_inj f1, int_inj f2], [], ints_none _, ints_none _⟩
  · obtain ⟨rfl, f1⟩ := two_inj e1
    rw [m1, best_no s1] at h2
    simp only [if_true] at h2
    obtain ⟨rfl, f2⟩ := two_inj h2
    exact ⟨by rw [int_inj f1, int_inj f2], [], ints_none _, ints_none _⟩
  · obtain ⟨rfl, f1⟩ := two_inj e1
    rw [m1, best_code s1 hle] at h2
    simp only [if_true] at h2
    obtain ⟨v, e2, hv⟩ := h2
    obtain ⟨rfl, f2⟩ := two_inj e2
    have hlen : (codeC xs.length (lvF a b (entF xs)) f m).length = m := by
      have := hr.1
      simp [natsV] at this
      omega
    refine ⟨by rw [int_inj f1, int_inj f2], _, (nats_ints (c := codeC xs.length (lvF a b (entF xs)) f m) (by rw [hlen]; exact hr) ?_).ext he, hv⟩
    have hn := (matB_ok m1).1
    have := hle.2.1
    omega
theorem crit_both {xs : List (List Int)} {p q : Value} {z z2 : Int} {w1 w2 : World} (h1 : CritS xs (two p (.int .i64 z)) w1) (h2 : RCritS xs (two q (.int .i64 z2)) w2) (he : Ext w1 w2) :
    z2 = z ∧ ∃ L, Ints w2 p L ∧ Ints w2 q L := by
  rcases h1 with ⟨m1, e1⟩ | ⟨m1, s1, e1⟩ | ⟨m1, a, b, r, s1, e1, hr⟩
  · obtain ⟨rfl, f1⟩ := two_inj e1
    rcases h2 with ⟨_, e2⟩ | ⟨m2, _⟩ | ⟨m2, _⟩
    · obtain ⟨rfl, f2⟩ := two_inj e2
      exact ⟨by rw [int_inj f1, int_inj f2], [], ints_none _, ints_none _⟩
    · rw [m1] at m2; cases m2
    · rw [m1] at m2; cases m2
  · obtain ⟨rfl, f1⟩ := two_inj e1
    rcases h2 with ⟨m2, _⟩ | ⟨_, _, e2⟩ | ⟨_, _, _, _, s2, _⟩
    · rw [m1] at m2; cases m2
    · obtain ⟨rfl, f2⟩ := two_inj e2
      exact ⟨by rw [int_inj f1, int_inj f2], [], ints_none _, ints_none _⟩
    · rw [s1] at s2; cases s2
  · obtain ⟨rfl, f1⟩ := two_inj e1
    rcases h2 with ⟨m2, _⟩ | ⟨_, s2, _⟩ | ⟨_, a2, b2, r2, s2, e2, hr2⟩
    · rw [m1] at m2; cases m2
    · rw [s1] at s2; cases s2
    · obtain ⟨rfl, f2⟩ := two_inj e2
      rw [s1] at s2
      injection s2 with s2
      injection s2 with s3 s4
      subst s3 s4
      have hn := (matB_ok m1).1
      rw [onL_crit hn.1 s1] at hr2
      exact ⟨by rw [int_inj f1, int_inj f2], _, hr.ext he, hr2⟩
set_option maxHeartbeats 16000000 in
theorem lspeeds_c (ua : Value) (A : List (List Int)) (w : World) (hA : RowsN w ua A) :
    Calls Tryz.prog 4 #[ua] w fun e w' => e = .returned (.bool true) ∧ Ext w w' := by
  have HA := Lib.hid hA
  have HAR := Lib.hid hA.rows
  have HFA := Lib.hid (fun W (h : Ext w W) => few_c ua A W (Rows2.ext hA.rows h))
  obtain ⟨aa, ca, rfl, _, _, _⟩ := hA.at
  clear hA
  cases hfa : few20 A with
  | false =>
    rw [hfa] at HFA
    clear hfa
    go_enter Tryz.func4, Tryz.ntmps4
    go_wp2_with fail
    refine (HFA.out _ (Ext.refl _)).mono ?_
    rintro e w1 ⟨rfl, hE⟩
    have HE := Lib.hid hE
    clear hE
    go_wp2_with fail
    refine (alive_c w1).mono ?_
    rintro e wz ⟨rfl, hE⟩
    have HEz := Lib.hid (Ext.trans HE.out hE)
    clear hE
    go_wp2_with fail
    go_ret
    exact ⟨rfl, HEz.out⟩
  | true =>
    have HLA := Lib.hid (few20_ok hfa).2
    have HLA1 := Lib.hid (few20_le hfa)
    have hlA := (few20_ok hfa).1
    rw [hfa] at HFA
    clear hfa
    go_enter Tryz.func4, Tryz.ntmps4
    go_wp2_with fail
    refine (HFA.out _ (Ext.refl _)).mono ?_
    rintro e w1 ⟨rfl, hE⟩
    have HE1 := Lib.hid hE
    clear hE
    go_wp2_with fail
    refine (copied_c _ A w1 (HA.out.ext HE1.out) (by omega) HLA1.out).mono ?_
    rintro e w2 ⟨c, rfl, hc, hE⟩
    have HE2 := Lib.hid (Ext.trans HE1.out hE)
    have HC2 := Lib.hid hc
    clear hE hc
    go_wp2_with fail
    refine (Speed_c _ A w2 HC2.out HLA.out).mono ?_
    rintro e w3 ⟨rfl, hE⟩
    have HE3 := Lib.hid (Ext.trans HE2.out hE)
    have HC3 := Lib.hid (Rows2.ext HC2.out hE)
    clear hE
    obtain ⟨z1, hz1⟩ : ∃ z, z = (speedZ A).1 := ⟨_, rfl⟩
    obtain ⟨z2, hz2⟩ : ∃ z, z = (speedZ A).2.1 := ⟨_, rfl⟩
    obtain ⟨z3, hz3⟩ : ∃ z, z = (speedZ A).2.2 := ⟨_, rfl⟩
    have HRS := Lib.hid (fun W (h : Ext w W) => rSpeed_c _ A W (Rows2.ext HAR.out h) HLA.out)
    rw [← hz1, ← hz2, ← hz3] at HRS ⊢
    clear hz1 hz2 hz3
    have HEa := Lib.hid (Ext.alloc HE3.out (.cells #[.int .i64 z1, .int .i64 z2] 38))
    have HPa := Lib.hid (show VRow (w3.alloc (.cells #[.int .i64 z1, .int .i64 z2] 38)) _ _ _ from vrow_alloc w3 [.int .i64 z1, .int .i64 z2] 38)
    have HCa := Lib.hid (Rows2.ext HC3.out (Ext.alloc (Ext.refl w3) (.cells #[.int .i64 z1, .int .i64 z2] 38)))
    unfold two at *
    go_wp2_with fail
    obtain ⟨sa, hsa⟩ : ∃ sa, sa = w3.heap.size := ⟨_, rfl⟩
    rw [← hsa] at HPa ⊢
    generalize w3.alloc (.cells #[.int .i64 z1, .int .i64 z2] 38) = w4 at *
    clear hsa HE3 HC3
    refine (HRS.out w4 HEa.out).mono ?_
    rintro e w5 ⟨rfl, hE⟩
    have HEb := Lib.hid (Ext.alloc (Ext.trans HEa.out hE) (.cells #[.int .i64 z1, .int .i64 z2] 38))
    have hEb := Ext.alloc hE (.cells #[.int .i64 z1, .int .i64 z2] 38)
    have HPb := Lib.hid (show VRow (w5.alloc (.cells #[.int .i64 z1, .int .i64 z2] 38)) _ _ _ from vrow_alloc w5 [.int .i64 z1, .int .i64 z2] 38)
    have HPc := Lib.hid (VRow.ext HPa.out hEb)
    have HC5 := Lib.hid (Rows2.ext HCa.out hEb)
    have m0 := VRow.cell HPc.out (k := 0) rfl
    have m1 := VRow.cell HPc.out (k := 1) rfl
    have m2 := VRow.cell HPb.out (k := 0) rfl
    have m3 := VRow.cell HPb.out (k := 1) rfl
    have hne := pace_neq z1 z2 (w5.alloc (.cells #[.int .i64 z1, .int .i64 z2] 38))
    have hzz : (z3 != z3) = false := by simp
    clear hE hEb HRS HCa HPa
    go_wp2_with fail
    clear m0 m1 m2 m3 hne hzz
    generalize w5.alloc (.cells #[.int .i64 z1, .int .i64 z2] 38) = w6 at *
    refine (Cycle_c _ A w6 HC5.out HLA.out).mono ?_
    rintro e w7 ⟨hS1, hE⟩
    have HE7 := Lib.hid (Ext.trans HEb.out hE)
    have HC7 := Lib.hid (Rows2.ext HC5.out hE)
    obtain ⟨p2, y1, rfl⟩ := cyc_two hS1
    have HS1 := Lib.hid hS1
    clear hE hS1
    unfold two
    go_wp2_with fail
    refine (rCycle_c _ A w7 (Rows2.ext HAR.out HE7.out) HLA.out).mono ?_
    rintro e w8 ⟨hS2, hE⟩
    obtain ⟨q2, y2, rfl⟩ := rcyc_two hS2
    obtain ⟨hz, L2, hp, hq⟩ := cyc_both HS1.out hS2 hE
    subst hz
    have HE8 := Lib.hid (Ext.trans HE7.out hE)
    have HC8 := Lib.hid (Rows2.ext HC7.out hE)
    have HP8 := Lib.hid hp
    have HQ8 := Lib.hid hq
    have hzz : (y2 != y2) = false := by simp
    clear hE hS2 hp hq HS1
    unfold two
    go_wp2_with fail
    refine (same_c _ _ L2 L2 w8 HP8.out HQ8.out).mono ?_
    rintro e w9 ⟨rfl, hE⟩
    have HE9 := Lib.hid (Ext.trans HE8.out hE)
    have HC9 := Lib.hid (Rows2.ext HC8.out hE)
    rw [decide_eq_true rfl]
    clear hE hzz
    go_wp2_with fail
    refine (Critical_c _ A w9 HC9.out HLA.out).mono ?_
    rintro e w10 ⟨hS1, hE⟩
    have HE10 := Lib.hid (Ext.trans HE9.out hE)
    have HC10 := Lib.hid (Rows2.ext HC9.out hE)
    obtain ⟨p3, x1, rfl⟩ := crit_two hS1
    have HS1 := Lib.hid hS1
    clear hE hS1
    unfold two
    go_wp2_with fail
    refine (rCritical_c _ A w10 (Rows2.ext HAR.out HE10.out) HLA.out).mono ?_
    rintro e w11 ⟨hS2, hE⟩
    obtain ⟨q3, x2, rfl⟩ := rcrit_two hS2
    obtain ⟨hz, L3, hp, hq⟩ := crit_both HS1.out hS2 hE
    subst hz
    have HE11 := Lib.hid (Ext.trans HE10.out hE)
    have HC11 := Lib.hid (Rows2.ext HC10.out hE)
    have HP11 := Lib.hid hp
    have HQ11 := Lib.hid hq
    have hzz : (x2 == x2) = true := by simp
    clear hE hS2 hp hq HS1
    unfold two
    go_wp2_with fail
    refine (same_c _ _ L3 L3 w11 HP11.out HQ11.out).mono ?_
    rintro e w12 ⟨rfl, hE⟩
    have HE12 := Lib.hid (Ext.trans HE11.out hE)
    have HC12 := Lib.hid (Rows2.ext HC11.out hE)
    rw [decide_eq_true rfl]
    clear hE hzz
    go_wp2_with fail
    refine (rows_c _ _ A A w12 HC12.out (Rows2.ext HAR.out HE12.out)).mono ?_
    rintro e w13 ⟨rfl, hE⟩
    have HE13 := Lib.hid (Ext.trans HE12.out hE)
    rw [decide_eq_true rfl]
    clear hE
    go_wp2_with fail
    refine (alive_c w13).mono ?_
    rintro e wz ⟨rfl, hE⟩
    have HEz := Lib.hid (Ext.trans HE13.out hE)
    clear hE
    go_wp2_with fail
    go_ret
    exact ⟨rfl, HEz.out⟩
end Go.Proofs.YtbcngojiikdigaaGreat

namespace Go.Proofs.YtbcngojiikdigaaGreat
set_option maxRecDepth 100000
open Go.RowKit Go.Shelf
theorem eig_two {e : Ending} {base : Nat} {xs : List (List Int)} {w' : World} (h : EigenS base xs e w') : ∃ r z, e = two r (.int .i64 z) := by
  rcases h with ⟨_, h⟩ | ⟨_, _, h⟩ | ⟨_, _, _, _, _, h⟩ | ⟨_, _, _, _, _, R, _, _, _, _, h, _⟩
  · exact ⟨_, _, h⟩
  · exact ⟨_, _, h⟩
  · exact ⟨_, _, h⟩
  · exact ⟨_, _, h⟩
theorem reig_two {e : Ending} {xs : List (List Int)} {w' : World} (h : REigS xs e w') : ∃ r z, e = two r (.int .i64 z) := by
  rcases h with ⟨_, h⟩ | ⟨_, _, h⟩ | ⟨_, _, _, _, _, h⟩ | ⟨_, _, _, _, _, v, _, _, _, h, _⟩
  · exact ⟨_, _, h⟩
  · exact ⟨_, _, h⟩
  · exact ⟨_, _, h⟩
  · exact ⟨_, _, h⟩
theorem irow_ints {w : World} {R n : Nat} {L : List Int} (h : IRow w R 3 L) (hl : L.length = n) (hn : n ≤ 1000000) : Ints w (.slice (some ⟨R, 0, none⟩) n n) L :=
  ⟨_, n, by rw [hl], by omega, by omega, VRow.row h⟩
theorem eig_both {base : Nat} {xs : List (List Int)} {p q : Value} {z z2 : Int} {w1 w2 : World} (h1 : EigenS base xs (two p (.int .i64 z)) w1) (h2 : REigS xs (two q (.int .i64 z2)) w2) (he : Ext w1 w2) :
    z2 = z ∧ ∃ L, Ints w2 p L ∧ Ints w2 q L := by
  rcases h1 with ⟨m1, e1⟩ | ⟨m1, s1, e1⟩ | ⟨m1, a, b, s1, c1, e1⟩ | ⟨m1, a, b, f, rest, R, s1, c1, k1, _, e1, hr⟩
  · obtain ⟨rfl, f1⟩ := two_inj e1
    rcases h2 with ⟨_, e2⟩ | ⟨m2, _⟩ | ⟨m2, _⟩ | ⟨m2, _⟩
    · obtain ⟨rfl, f2⟩ := two_inj e2
      exact ⟨by rw [int_inj f1, int_inj f2], [], ints_none _, ints_none _⟩
    · rw [m1] at m2; cases m2
    · rw [m1] at m2; cases m2
    · rw [m1] at m2; cases m2
  · obtain ⟨rfl, f1⟩ := two_inj e1
    rcases h2 with ⟨m2, _⟩ | ⟨_, _, e2⟩ | ⟨_, _, _, s2, _⟩ | ⟨_, _, _, _, _, _, s2, _⟩
    · rw [m1] at m2; cases m2
    · obtain ⟨rfl, f2⟩ := two_inj e2
      exact ⟨by rw [int_inj f1, int_inj f2], [], ints_none _, ints_none _⟩
    · rw [s1] at s2; cases s2
    · rw [s1] at s2; cases s2
  · obtain ⟨rfl, f1⟩ := two_inj e1
    rcases h2 with ⟨m2, _⟩ | ⟨_, s2, _⟩ | ⟨_, _, _, s2, _, e2⟩ | ⟨_, _, _, _, _, _, s2, c2, _⟩
    · rw [m1] at m2; cases m2
    · rw [s1] at s2; cases s2
    · obtain ⟨rfl, f2⟩ := two_inj e2
      exact ⟨by rw [int_inj f1, int_inj f2], [], ints_none _, ints_none _⟩
    · rw [s1] at s2
      injection s2 with s2
      injection s2 with s3 s4
      subst s3 s4
      rw [c1] at c2; cases c2
  · obtain ⟨rfl, f1⟩ := two_inj e1
    rcases h2 with ⟨m2, _⟩ | ⟨_, s2, _⟩ | ⟨_, _, _, s2, c2, e2⟩ | ⟨_, _, _, _, _, _, s2, _, k2, e2, hr2⟩
    · rw [m1] at m2; cases m2
    · rw [s1] at s2; cases s2
    · rw [s1] at s2
      injection s2 with s2
      injection s2 with s3 s4
      subst s3 s4
      rw [c1] at c2; cases c2
    · rw [s1] at s2
      injection s2 with s2
      injection s2 with s3 s4
      subst s3 s4
      rw [k1] at k2
      injection k2 with k3 _
      subst k3
      obtain ⟨rfl, f2⟩ := two_inj e2
      have hn := (matB_ok m1).1
      exact ⟨by rw [int_inj f1, int_inj f2], _, (irow_ints hr (eigL_len _ _ _) (by omega)).ext he, hr2⟩
theorem three_inj {a b c d e f : Int} (h : three a b c = three d e f) : a = d ∧ b = e ∧ c = f := by
  unfold three at h
  injection h with h
  injection h with h
  simp only [Array.mk.injEq, List.cons.injEq, Value.int.injEq, true_and, and_true] at h
  exact h
theorem reg_both {xs : List (List Int)} {e1 e2 : Ending} (h1 : RegZ xs e1) (h2 : RRegS xs e2) : ∃ c k z d m, e1 = three c k z ∧ e2 = three d m z ∧ ((c = d ∧ k = m) ∨ (z = 0 ∧ d = 0)) := by
  rcases h1 with ⟨m1, e1⟩ | ⟨m1, s1, e1⟩ | ⟨m1, a, b, s1, c1, e1⟩ | ⟨m1, a, b, s1, c1, e1⟩
  · rcases h2 with ⟨_, e2⟩ | ⟨m2, _⟩ | ⟨m2, _⟩ | ⟨m2, _⟩
    · exact ⟨_, _, _, _, _, e1, e2, .inl ⟨rfl, rfl⟩⟩
    · rw [m1] at m2; cases m2
    · rw [m1] at m2; cases m2
    · rw [m1] at m2; cases m2
  · rcases h2 with ⟨m2, _⟩ | ⟨_, _, e2⟩ | ⟨_, _, _, s2, _⟩ | ⟨_, _, _, _, _, s2, _⟩
    · rw [m1] at m2; cases m2
    · exact ⟨_, _, _, _, _, e1, e2, .inl ⟨rfl, rfl⟩⟩
    · rw [s1] at s2; cases s2
    · rw [s1] at s2; cases s2
  · rcases h2 with ⟨m2, _⟩ | ⟨_, s2, _⟩ | ⟨_, _, _, _, _, e2⟩ | ⟨_, _, _, _, _, s2, c2, _⟩
    · rw [m1] at m2; cases m2
    · rw [s1] at s2; cases s2
    · exact ⟨_, _, _, _, _, e1, e2, .inl ⟨rfl, rfl⟩⟩
    · rw [s1] at s2
      injection s2 with s2
      injection s2 with s3 s4
      subst s3 s4
      rw [c1] at c2; cases c2
  · rcases h2 with ⟨m2, _⟩ | ⟨_, s2, _⟩ | ⟨_, _, _, s2, c2, _⟩ | ⟨_, _, _, c, k, s2, _, e2, hck⟩
    · rw [m1] at m2; cases m2
    · rw [s1] at s2; cases s2
    · rw [s1] at s2
      injection s2 with s2
      injection s2 with s3 s4
      subst s3 s4
      rw [c1] at c2; cases c2
    · rw [s1] at s2
      injection s2 with s2
      injection s2 with s3 s4
      subst s3 s4
      refine ⟨_, _, _, _, _, e1, e2, ?_⟩
      rcases hck with ⟨g1, g2⟩ | g1
      · exact .inl ⟨g1.symm, g2.symm⟩
      · exact .inr ⟨rfl, g1⟩
set_option maxHeartbeats 16000000 in
theorem lregimes_c (ua : Value) (A : List (List Int)) (w : World) (hA : RowsN w ua A) :
    Calls Tryz.prog 6 #[ua] w fun e w' => e = .returned (.bool true) ∧ Ext w w' := by
  have HA := Lib.hid hA
  have HAR := Lib.hid hA.rows
  have HFA := Lib.hid (fun W (h : Ext w W) => few_c ua A W (Rows2.ext hA.rows h))
  obtain ⟨aa, ca, rfl, _, _, _⟩ := hA.at
  clear hA
  cases hfa : few20 A with
  | false =>
    rw [hfa] at HFA
    clear hfa
    go_enter Tryz.func6, Tryz.ntmps6
    go_wp2_with fail
    refine (HFA.out _ (Ext.refl _)).mono ?_
    rintro e w1 ⟨rfl, hE⟩
    have HE := Lib.hid hE
    clear hE
    go_wp2_with fail
    refine (alive_c w1).mono ?_
    rintro e wz ⟨rfl, hE⟩
    have HEz := Lib.hid (Ext.trans HE.out hE)
    clear hE
    go_wp2_with fail
    go_ret
    exact ⟨rfl, HEz.out⟩
  | true =>
    have HLA := Lib.hid (few20_ok hfa).2
    have HLA1 := Lib.hid (few20_le hfa)
    have hlA := (few20_ok hfa).1
    rw [hfa] at HFA
    clear hfa
    go_enter Tryz.func6, Tryz.ntmps6
    go_wp2_with fail
    refine (HFA.out _ (Ext.refl _)).mono ?_
    rintro e w1 ⟨rfl, hE⟩
    have HE1 := Lib.hid hE
    clear hE
    go_wp2_with fail
    refine (copied_c _ A w1 (HA.out.ext HE1.out) (by omega) HLA1.out).mono ?_
    rintro e w2 ⟨c, rfl, hc, hE⟩
    have HE2 := Lib.hid (Ext.trans HE1.out hE)
    have HC2 := Lib.hid hc
    clear hE hc
    go_wp2_with fail
    refine (Eigen_c _ A w2 HC2.out HLA.out (fun p q hm hs hcn => eig_ok (matB_ok hm).1.1 hs hcn)).mono ?_
    rintro e w3 ⟨hS1, hE⟩
    have HE3 := Lib.hid (Ext.trans HE2.out hE)
    have HC3 := Lib.hid (Rows2.ext HC2.out hE)
    obtain ⟨p1, x1, rfl⟩ := eig_two hS1
    have HS1 := Lib.hid hS1
    clear hE hS1
    unfold two
    go_wp2_with fail
    refine (rEigen_c _ A w3 (Rows2.ext HAR.out HE3.out) HLA.out).mono ?_
    rintro e w4 ⟨hS2, hE⟩
    obtain ⟨q1, x2, rfl⟩ := reig_two hS2
    obtain ⟨hz, L1, hp, hq⟩ := eig_both HS1.out hS2 hE
    subst hz
    have HE4 := Lib.hid (Ext.trans HE3.out hE)
    have HC4 := Lib.hid (Rows2.ext HC3.out hE)
    have HP4 := Lib.hid hp
    have HQ4 := Lib.hid hq
    have hzz : (x2 == x2) = true := by simp
    clear hE hS2 hp hq HS1
    unfold two
    go_wp2_with fail
    refine (same_c _ _ L1 L1 w4 HP4.out HQ4.out).mono ?_
    rintro e w5 ⟨rfl, hE⟩
    have HE5 := Lib.hid (Ext.trans HE4.out hE)
    have HC5 := Lib.hid (Rows2.ext HC4.out hE)
    rw [decide_eq_true rfl]
    clear hE hzz
    go_wp2_with fail
    refine (RegZ_c _ A w5 HC5.out HLA.out).mono ?_
    rintro e w6 ⟨hS1, hE⟩
    have HE6 := Lib.hid (Ext.trans HE5.out hE)
    have HC6 := Lib.hid (Rows2.ext HC5.out hE)
    have HRR := Lib.hid (rRegime_c _ A w6 (Rows2.ext HAR.out HE6.out) HLA.out)
    have HS1 := Lib.hid hS1
    obtain ⟨c1, k1, z1, rfl⟩ : ∃ c k z, e = three c k z := by
      rcases hS1 with ⟨_, h⟩ | ⟨_, _, h⟩ | ⟨_, _, _, _, _, h⟩ | ⟨_, _, _, _, _, h⟩
      · exact ⟨_, _, _, h⟩
      · exact ⟨_, _, _, h⟩
      · exact ⟨_, _, _, h⟩
      · exact ⟨_, _, _, h⟩
    clear hE hS1
    unfold three
    go_wp2_with fail
    refine HRR.out.mono ?_
    rintro e w7 ⟨hS2, hE⟩
    obtain ⟨c2, k2, z2, d, m, e1, rfl, hor⟩ := reg_both HS1.out hS2
    obtain ⟨rfl, rfl, rfl⟩ := three_inj e1
    have HE7 := Lib.hid (Ext.trans HE6.out hE)
    have HC7 := Lib.hid (Rows2.ext HC6.out hE)
    have hzz : (z1 == z1) = true := by simp
    have HOR := Lib.hid hor
    clear hE hS2 HS1 e1 HRR hor
    unfold three
    go_wp2_with fail
    refine (rows_c _ _ A A w7 HC7.out (Rows2.ext HAR.out HE7.out)).mono ?_
    rintro e w8 ⟨rfl, hE⟩
    have HE8 := Lib.hid (Ext.trans HE7.out hE)
    rw [decide_eq_true rfl]
    clear hE hzz
    rcases HOR.out with ⟨rfl, rfl⟩ | ⟨rfl, rfl⟩
    · have hcc : (c1 == c1) = true := by simp
      have hkk : (k1 == k1) = true := by simp
      go_wp2_with fail
      refine (alive_c w8).mono ?_
      rintro e wz ⟨rfl, hE⟩
      have HEz := Lib.hid (Ext.trans HE8.out hE)
      clear hE
      go_wp2_with fail
      go_ret
      exact ⟨rfl, HEz.out⟩
    · by_cases h0 : c1 = 0
      · subst h0
        by_cases h1 : k1 = m
        · subst h1
          have hkk : (k1 == k1) = true := by simp
          go_wp2_with fail
          refine (alive_c w8).mono ?_
          rintro e wz ⟨rfl, hE⟩
          have HEz := Lib.hid (Ext.trans HE8.out hE)
          clear hE
          go_wp2_with fail
          go_ret
          exact ⟨rfl, HEz.out⟩
        · have hkk : (k1 == m) = false := beq_eq_false_iff_ne.2 h1
          go_wp2_with fail
          refine (alive_c w8).mono ?_
          rintro e wz ⟨rfl, hE⟩
          have HEz := Lib.hid (Ext.trans HE8.out hE)
          clear hE
          go_wp2_with fail
          go_ret
          exact ⟨rfl, HEz.out⟩
      · have hcc : (c1 == 0) = false := beq_eq_false_iff_ne.2 h0
        go_wp2_with fail
        refine (alive_c w8).mono ?_
        rintro e wz ⟨rfl, hE⟩
        have HEz := Lib.hid (Ext.trans HE8.out hE)
        clear hE
        go_wp2_with fail
        go_ret
        exact ⟨rfl, HEz.out⟩
end Go.Proofs.YtbcngojiikdigaaGreat
