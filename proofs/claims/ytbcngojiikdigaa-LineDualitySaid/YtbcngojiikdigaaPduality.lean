/- For every list of rows and all numbers, the law LineDuality returns true and leaves its arguments as they were: the numbers of Potential bound the mean of every cycle by Speed, and Cycle has that mean; Speed does not change when vertices are renumbered or the matrix is transposed, and adding a number to all entries adds it to Speed. No condition. -/
import Derived.Test.YtbcngojiikdigaaO1
import Derived.Test.YtbcngojiikdigaaS6b
import Derived.Test.YtbcngojiikdigaaS6c
import Derived.Test.YtbcngojiikdigaaS6d
namespace Go.Proofs.Ytbcngojiikdigaa
set_option maxRecDepth 100000
open Go.RowKit Go.Shelf
set_option maxHeartbeats 8000000 in
theorem duality_law (ua : Value) (A : List (List Int)) (mo : Int) (tu : Int) (w : World) (hA : Rows2 w ua A) (htu : 0 ≤ tu ∧ tu ≤ 255) : Calls Try.prog 3 #[ua, .int .i64 mo, .int .u8 tu] w fun e w' => e = .returned (.bool true) ∧ Ext w w' := by
  obtain ⟨tn, rfl⟩ : ∃ tn : Nat, tu = tn := ⟨tu.toNat, by omega⟩
  have HA := Lib.hid hA
  have HFA := Lib.hid (few_c ua A w hA)
  obtain ⟨aa, ca, rfl, _, _, _⟩ := hA.at
  clear hA
  cases hfa : few20 A with
  | false =>
    rw [hfa] at HFA
    clear hfa
    go_enter Try.func3, Try.ntmps3
    go_wp2_with fail
    refine HFA.out.mono ?_
    rintro e w1 ⟨rfl, hE⟩
    have HE := Lib.hid hE
    clear hE
    go_wp2_with fail
    refine (alive_c w1).mono ?_
    rintro e wz ⟨rfl, hE⟩
    have HEz := Lib.hid (Ext.trans HE.out hE)
    clear hE
    go_wp2_with fail
    go_ret
    exact ⟨rfl, HEz.out⟩
  | true =>
    cases hm : matB A with
    | false =>
      have HLA := Lib.hid (few20_ok hfa).2
      rw [hfa] at HFA
      clear hfa
      go_enter Try.func3, Try.ntmps3
      go_wp2_with fail
      refine HFA.out.mono ?_
      rintro e w1 ⟨rfl, hE⟩
      have HE1 := Lib.hid hE
      clear hE
      have HSP := Lib.hid (fun W (h : Ext w W) => Speed_c _ A W (Rows2.ext HA.out h) HLA.out)
      have HPO := Lib.hid (fun W (h : Ext w W) => Potential_c _ A W (Rows2.ext HA.out h) HLA.out)
      have HCY := Lib.hid (fun W (h : Ext w W) => Cycle_c _ A W (Rows2.ext HA.out h) HLA.out)
      have HP2 := Lib.hid (fun base e w' (h : PotS base A e w') => (pot_two h).1 hm)
      have HC2 := Lib.hid (fun base e w' (h : CycS base A e w') => (cyc_two h).1 hm)
      rw [speedZ_false hm] at HSP
      clear hm
      unfold two at *
      go_wp2_with fail
      refine (HSP.out _ HE1.out).mono ?_
      rintro e w3 ⟨rfl, hE⟩
      have HE3 := Lib.hid (Ext.alloc (Ext.trans HE1.out hE) (.cells #[.int .i64 0, .int .i64 0] 26))
      have hS3 := (show VRow (w3.alloc (.cells #[.int .i64 0, .int .i64 0] 26)) _ _ _ from vrow_alloc w3 [.int .i64 0, .int .i64 0] 26)
      have c0 := VRow.cell hS3 (k := 0) rfl
      have c1 := VRow.cell hS3 (k := 1) rfl
      have HS3 := Lib.hid hS3
      clear hE hS3
      go_wp2_with fail
      clear c0 c1
      generalize w3.alloc (.cells #[.int .i64 0, .int .i64 0] 26) = w4 at *
      obtain ⟨S, hS⟩ : ∃ S, S = w3.heap.size := ⟨_, rfl⟩
      rw [← hS] at HS3
      rw [← hS]
      clear hS
      refine (HPO.out _ HE3.out).mono ?_
      rintro e w5 ⟨hP, hE⟩
      rw [HP2.out _ _ _ hP]
      have HE5 := Lib.hid (Ext.trans HE3.out hE)
      have HS5 := Lib.hid (VRow.ext HS3.out hE)
      clear hE hP
      go_wp2_with fail
      refine (HCY.out _ HE5.out).mono ?_
      rintro e w6 ⟨hC, hE⟩
      rw [HC2.out _ _ _ hC]
      have HE6 := Lib.hid (Ext.trans HE5.out hE)
      have hS6 := VRow.ext HS5.out hE
      have c0 := VRow.cell hS6 (k := 0) rfl
      have c1 := VRow.cell hS6 (k := 1) rfl
      have kS := cell_lt c0
      clear hE hC hS6
      go_wp2_with fail
      refine (alive_c w6).mono ?_
      rintro e wz ⟨rfl, hE⟩
      have HEz := Lib.hid (Ext.trans HE6.out hE)
      clear hE c0 c1
      go_wp2_with fail
      go_ret
      exact ⟨rfl, HEz.out⟩
    | true =>
      cases hs : spF A.length (entF A) with
      | none =>
        have HLA := Lib.hid (few20_ok hfa).2
        rw [hfa] at HFA
        clear hfa
        go_enter Try.func3, Try.ntmps3
        go_wp2_with fail
        refine HFA.out.mono ?_
        rintro e w1 ⟨rfl, hE⟩
        have HE1 := Lib.hid hE
        clear hE
        have HSP := Lib.hid (fun W (h : Ext w W) => Speed_c _ A W (Rows2.ext HA.out h) HLA.out)
        have HPO := Lib.hid (fun W (h : Ext w W) => Potential_c _ A W (Rows2.ext HA.out h) HLA.out)
        have HCY := Lib.hid (fun W (h : Ext w W) => Cycle_c _ A W (Rows2.ext HA.out h) HLA.out)
        have HP2 := Lib.hid (fun base e w' (h : PotS base A e w') => (pot_two h).2.1 hm hs)
        have HC2 := Lib.hid (fun base e w' (h : CycS base A e w') => (cyc_two h).2.1 hm hs)
        rw [speedZ_none hm hs] at HSP
        clear hm hs
        unfold two at *
        go_wp2_with fail
        refine (HSP.out _ HE1.out).mono ?_
        rintro e w3 ⟨rfl, hE⟩
        have HE3 := Lib.hid (Ext.alloc (Ext.trans HE1.out hE) (.cells #[.int .i64 0, .int .i64 0] 26))
        have hS3 := (show VRow (w3.alloc (.cells #[.int .i64 0, .int .i64 0] 26)) _ _ _ from vrow_alloc w3 [.int .i64 0, .int .i64 0] 26)
        have c0 := VRow.cell hS3 (k := 0) rfl
        have c1 := VRow.cell hS3 (k := 1) rfl
        have HS3 := Lib.hid hS3
        clear hE hS3
        go_wp2_with fail
        clear c0 c1
        generalize w3.alloc (.cells #[.int .i64 0, .int .i64 0] 26) = w4 at *
        obtain ⟨S, hS⟩ : ∃ S, S = w3.heap.size := ⟨_, rfl⟩
        rw [← hS] at HS3
        rw [← hS]
        clear hS
        refine (HPO.out _ HE3.out).mono ?_
        rintro e w5 ⟨hP, hE⟩
        rw [HP2.out _ _ _ hP]
        have HE5 := Lib.hid (Ext.trans HE3.out hE)
        have HS5 := Lib.hid (VRow.ext HS3.out hE)
        clear hE hP
        go_wp2_with fail
        refine (HCY.out _ HE5.out).mono ?_
        rintro e w6 ⟨hC, hE⟩
        rw [HC2.out _ _ _ hC]
        have HE6 := Lib.hid (Ext.trans HE5.out hE)
        have hS6 := VRow.ext HS5.out hE
        have c0 := VRow.cell hS6 (k := 0) rfl
        have c1 := VRow.cell hS6 (k := 1) rfl
        have kS := cell_lt c0
        clear hE hC hS6
        go_wp2_with fail
        refine (alive_c w6).mono ?_
        rintro e wz ⟨rfl, hE⟩
        have HEz := Lib.hid (Ext.trans HE6.out hE)
        clear hE c0 c1
        go_wp2_with fail
        go_ret
        exact ⟨rfl, HEz.out⟩
      | some pq =>
        obtain ⟨p, q⟩ := pq
        by_cases hmo : -500 ≤ mo
        · by_cases hmo2 : mo ≤ 500
          · exact duality_in _ A mo tn w HA.out htu hfa hm hs hmo hmo2
          · exact duality_hi _ A mo tn w HA.out htu hfa hm hs hmo hmo2
        · exact duality_lo _ A mo tn w HA.out htu hfa hm hs hmo
end Go.Proofs.Ytbcngojiikdigaa
namespace Go.Proofs.Ytbcngojiikdigaa
open Go.ChangeShapes Go.WideShapes Go.ChangeAt Go.RowKit
theorem trodAll_threez {H : Type} {enc : TypeId × Value → H} {w : World} {base : Nat} {spare : Nat → Bool} {held : Bool} {t t' t'' : TypeId} {args : Array Value} {ds : List (DataW H)} {ps : List MemPlace} (h : DataW.TrodAll enc Try.prog w base spare held [t, t', t''] args.toList ds ps) :
    ∃ v v' v'' d d' d'' p p' p'', args = #[v, v', v''] ∧ ds = [d, d', d''] ∧ ps = p ++ p' ++ p'' ∧ DataW.Trod enc Try.prog w base spare held t v d p ∧ DataW.Trod enc Try.prog w base spare held t' v' d' p' ∧ DataW.Trod enc Try.prog w base spare held t'' v'' d'' p'' := by
  obtain ⟨v, vs, d, ds1, p, q, hargs, rfl, rfl, hd, hrest⟩ := trodAll_cons h
  obtain ⟨v', vs1, d', ds2, p', q1, rfl, rfl, rfl, hd1, hrest1⟩ := trodAll_cons hrest
  obtain ⟨v'', vs2, d'', ds3, p'', q2, rfl, rfl, rfl, hd2, hrest2⟩ := trodAll_cons hrest1
  obtain ⟨rfl, rfl, rfl⟩ := trodAll_nil hrest2
  exact ⟨v, v', v'', d, d', d'', p, p', p'', by cases args; simp_all, rfl, by simp, hd, hd1, hd2⟩
theorem wf_u8 {x : Int} (h : (Lit.int IntKind.u8 x).wf = true) : 0 ≤ x ∧ x ≤ 255 := by
  simp only [Lit.wf, Bool.and_eq_true, decide_eq_true_eq] at h
  have e1 : IntKind.u8.min = 0 := by decide
  have e2 : IntKind.u8.max = 255 := by decide
  rw [e1, e2] at h
  omega
set_option maxRecDepth 100000 in
set_option maxHeartbeats 4000000 in
theorem duality_lifted (os : Os) (started : os.Started) (H : Type) (enc : TypeId × Value → H) :
    ReturnsInHanded {} Try.checked os 3 .any (Rows.lineDualitySpec.pre6 enc Try.prog Try.f3 Rows.lineDualityRow.domain false) (Rows.lineDualitySpec.post enc Try.prog Try.f3 false true false false) := by
  refine returnsInHanded_of_change (C := Try.checked) Try.own started (by kernel_rfl) Try.func3
    (ChangeSpec.witness6 (enc := enc) (C := Try.checked) false ⟨#[], #[.slice none 0 0, .int .i64 0, .int .u8 0], []⟩ 8 (by kernel_rfl) (by kernel_rfl) (by kernel_rfl) (by kernel_rfl)) ?_
  intro W base args ds gs before hval0 hW hcnd _
  have hval : ∀ (j : Nat) t v, Try.f3.params[j]? = some t → args[j]? = some v → Value.okWide Try.prog W .any base t v := hval0
  have hW' := hW
  obtain ⟨p, q, hA0, hV, rfl, hfz, hnd⟩ := hW
  have hA : DataW.TrodAll enc Try.prog W 0 (fun _ => true) true Try.f3.params.toList args.toList ds p := hA0
  rw [Try.params3] at hA hval
  have hA1 := hA
  have hlt : ∀ x ∈ p, x.block < W.heap.size := fun x hx => hW'.lt x (List.mem_append_left _ hx)
  obtain ⟨v0, v1, v2, d0, d1, d2, p0, p1, p2, rfl, rfl, rfl, h0, h1, h2⟩ := trodAll_threez hA
  obtain ⟨rfl, rfl⟩ := trodVars_none hV
  obtain ⟨xs0, hP0⟩ := rows_arg (hval 0 22 v0 rfl rfl) h0
  obtain ⟨x1, rfl, rfl, rfl, hb1⟩ := open_int Try.underlying3 (hval 1 3 v1 rfl rfl) h1
  obtain ⟨x2, rfl, rfl, rfl, hb2⟩ := open_int Try.underlying5 (hval 2 5 v2 rfl rfl) h2
  clear hA0 hval0
  refine (duality_law v0 xs0 x1 x2 W hP0 (wf_u8 hb2)).mono fun e W' ⟨he, hB⟩ => ?_
  subst he
  refine ⟨_, rfl, _, _, _, [], _, [], hW', ?_, trodAll_stays hB _ _ _ _ (by decide +kernel) hA1 hlt, rfl, hB.frame _, fun h => by cases h⟩
  exact trodAll_mk1 (shut_bool Try.underlying4 true)
set_option maxHeartbeats 4000000 in
theorem duality_holds : Rows.LineDualitySaid :=
  OpenClaim.holds_of_wide 3 Try.f3 rfl rfl rfl rfl rfl rfl rfl ⟨rfl, rfl, rfl, rfl, rfl⟩ rfl rfl rfl rfl rfl (by kernel_rfl) Try.func3 (by kernel_rfl)
    (of_decide_eq_true (by kernel_rfl)) (by unfold Func.isWrapper; first | (rw [if_pos (by decide +kernel)]; kernel_rfl) | (rw [if_neg (by decide +kernel)]; exact ⟨rfl, rfl⟩))
    (fun os started H enc _ => duality_lifted os started H enc)
end Go.Proofs.Ytbcngojiikdigaa
