import Derived.Test.YtnpebfchojalcaaB4
namespace Go.Proofs.Ytnpebfchojalcaa
open Go.RowKit Go.Shelf Go.Maps
attribute [local go_sem] Oper.semAt_some
theorem atKey_fold (u z : DataW Unit) (k : Lit) (hk : WideAt.IsKeyLit k) : ∀ (acc : List Lit) (m : DataW Unit), IsMap m → (k ∈ acc → (acc.foldl (fun m x => m.put x u) m).atKey k z = u) ∧ (k ∉ acc → (acc.foldl (fun m x => m.put x u) m).atKey k z = m.atKey k z) := by
  intro acc
  induction acc with
  | nil => intro m _; exact ⟨fun h => by simp at h, fun _ => rfl⟩
  | cons x acc ih =>
    intro m hm
    obtain ⟨i1, i2⟩ := ih _ (hm.put x u)
    rw [List.foldl_cons]
    refine ⟨fun h => ?_, fun h => ?_⟩
    · by_cases h1 : k ∈ acc
      · exact i1 h1
      · rw [i2 h1]
        rcases List.mem_cons.1 h with h2 | h2
        · subst h2; exact atKey_put_same hm hk u z
        · exact absurd h2 h1
    · rw [i2 (fun h1 => h (List.mem_cons_of_mem _ h1))]
      exact atKey_put_other (fun h2 => h (by rw [h2]; exact List.mem_cons_self)) u z
theorem setD_at {ks : List Pt} {p : Pt} (hk : ∀ q ∈ ks, nearPt q) (hp : nearPt p) : (setD ks).atKey (keyL p) (.lit (.bool false)) = .lit (.bool (decide (p ∈ ks))) := by
  unfold setD setOf
  obtain ⟨i1, i2⟩ := atKey_fold (.lit (.bool true)) (.lit (.bool false)) _ (keyL_lit p) (ks.map keyL) _ isMap_empty
  by_cases h : p ∈ ks
  · rw [i1 (List.mem_map.2 ⟨p, h, rfl⟩), decide_eq_true h]
  · rw [i2 (fun hm => by obtain ⟨q, hq, e⟩ := List.mem_map.1 hm; exact h (by rw [← keyL_inj (hk q hq) hp e]; exact hq)), decide_eq_false h]
    rfl
theorem elem_bool (x : Bool) : plainElem (H := Unit) Try.prog 4 (.bool x) = some (.lit (.bool x), []) := plainElem_bool Try.underlying4 x
theorem elem_inv {v : Value} {x : Bool} {ps : List MemPlace} (h : plainElem (H := Unit) Try.prog 4 v = some (.lit (.bool x), ps)) : v = .bool x := by
  unfold plainElem at h
  simp only [Try.underlying4] at h
  cases v <;> simp at h
  obtain ⟨h, _⟩ := h
  subst h; rfl
theorem zero_bool (w : World) : (zeroValue 4).run Try.prog w = .ok (.bool false) w := by
  simp [zeroValue, go_sem]
  rfl
theorem bmap_look {F : Fence} {nF : Nat} (w : World) {ops : Array Oper} {rest : List Oper} {o : Oper} {a : Act} {Q : Exit → Act → World → Prop} (hg : o.guard = none) (m x : Operand) (hop : o.op = Op.lookup 71 m x false)
    (b : Nat) (ks : List Pt) (p : Pt) (hm : a.eval m = .map (some b)) (hown : BMap w b ks) (hx : a.eval x = vecV p.1 p.2) (hks : ∀ q ∈ ks, nearPt q) (hp : nearPt p)
    (hK : wpListIn F nF Try.prog ops Q rest (a.put o.dst (.bool (decide (p ∈ ks)))) w) :
    wpListIn F nF Try.prog ops Q (o :: rest) a w := by
  refine wpListIn_plain hg fun K' hK' => ?_
  obtain ⟨v, pl, hrun, hv⟩ := World.ownsMap.lookup hown vecKeyed Try.underlying71 (zero_bool w) (elem_bool false) (key_vec p hp)
  rw [setD_at hks hp] at hv
  have := elem_inv hv
  subst this
  unfold Oper.wpIn
  refine ⟨by simp [Oper.about, hop], ?_⟩
  rw [Oper.semAt_plain F _ _ (by rw [hop]; intro c hc'; cases hc')]
  simp [execOp, hop, hm, hx, hrun, Result.andThen]
  exact hK' _ _ hK
def avoidB (ks : List Pt) (A B D : Int) : Bool := (nearL A B D).all fun p => decide (p ∉ ks)
theorem avoid_results {g : Nat} {W : World} {b : Bool} (h : VRow W g 4 [.bool b]) (tmps : Array Value) (h4 : tmps.getD 4 undef = .pointer (some ⟨g, 0, none⟩)) : (results Try.f54 tmps).run Try.prog W = .ok (.bool b) W := by
  have c0 := VRow.cell h (k := 0) rfl
  rw [results_cell1 rfl, h4]
  go_simp
set_option maxRecDepth 100000 in
set_option maxHeartbeats 2000000 in
theorem avoids_c (A B D : Int) (b : Nat) (ks : List Pt) (w : World) (hg : gridOk A B D) (hks : ∀ q ∈ ks, nearPt q) (hb : BMap w b ks) :
    Calls Try.prog 54 #[gridV A B D, .map (some b)] w fun e w' => e = .returned (.bool (avoidB ks A B D)) ∧ Ext w w' := by
  have HG := Lib.hid hg
  have HKS := Lib.hid hks
  have HB := Lib.hid hb
  have hbl := hb.lt
  clear hg hks hb
  unfold gridV
  refine calls_marks Try.func54 rfl ?_
  simp only [Try.ntmps54, List.size_toArray, List.length_cons, List.length_nil, Nat.reduceAdd, Nat.reduceSub, Array.replicate_succ, Array.replicate_zero, List.push_toArray, List.append_toArray, List.nil_append, List.cons_append]
  have hE0 := Ext.alloc (Ext.alloc (Ext.alloc (Ext.refl w) (.cells #[.int .i64 A, .int .i64 B, .int .i64 D] 24)) (.cells #[.map (some b)] 71)) (.cells #[.bool false] 4)
  have s1 : (w.alloc (.cells #[.int .i64 A, .int .i64 B, .int .i64 D] 24)).heap.size = w.heap.size + 1 := by simp
  have s2 : ((w.alloc (.cells #[.int .i64 A, .int .i64 B, .int .i64 D] 24)).alloc (.cells #[.map (some b)] 71)).heap.size = w.heap.size + 2 := by simp
  have s3 : (((w.alloc (.cells #[.int .i64 A, .int .i64 B, .int .i64 D] 24)).alloc (.cells #[.map (some b)] 71)).alloc (.cells #[.bool false] 4)).heap.size = w.heap.size + 3 := by simp
  have p0 := (vrow_alloc (w.alloc (.cells #[.int .i64 A, .int .i64 B, .int .i64 D] 24)) [.map (some b)] 71).alloc (.cells #[.bool false] 4)
  have p1 := vrow_alloc ((w.alloc (.cells #[.int .i64 A, .int .i64 B, .int .i64 D] 24)).alloc (.cells #[.map (some b)] 71)) [.bool false] 4
  change VRow (((w.alloc (.cells #[.int .i64 A, .int .i64 B, .int .i64 D] 24)).alloc (.cells #[.map (some b)] 71)).alloc (.cells #[.bool false] 4)) _ _ _ at p0 p1
  rw [s1] at p0
  rw [s2] at p1
  have HP0 := Lib.hid p0
  have HP1 := Lib.hid p1
  have HE0 := Lib.hid hE0
  clear p0 p1 hE0 s1 s2
  go_wp2_with fail
  generalize ((w.alloc (.cells #[.int .i64 A, .int .i64 B, .int .i64 D] 24)).alloc (.cells #[.map (some b)] 71)).alloc (.cells #[.bool false] 4) = w1 at *
  refine (show Calls Try.prog 87 #[gridV A B D] w1 _ from (near_c A B D w1).mono ?_)
  rintro e w2 ⟨rfl, rfl⟩
  have hE1 := Ext.alloc (Ext.refl w1) (.cells #[.int .i64 A, .int .i64 B, .int .i64 D] 24)
  have HP0' := Lib.hid (VRow.ext HP0.out hE1)
  have HP1' := Lib.hid (VRow.ext HP1.out hE1)
  have HE2 := Lib.hid (Ext.trans HE0.out hE1)
  have HGR := Lib.hid (show VRow (w1.alloc (.cells #[.int .i64 A, .int .i64 B, .int .i64 D] 24)) _ _ _ from vrow_alloc w1 [.int .i64 A, .int .i64 B, .int .i64 D] 24)
  rw [s3] at HGR
  have hs5 : (w1.alloc (.cells #[.int .i64 A, .int .i64 B, .int .i64 D] 24)).heap.size = w.heap.size + 4 := by simp [s3]
  have hs4 := s3
  clear hE1 HP0 HP1 HE0 s3
  go_wp2_with fail
  clear hs4
  generalize w1.alloc (.cells #[.int .i64 A, .int .i64 B, .int .i64 D] 24) = w2 at *
  refine (wpIn_wide (n := 9)).1 ?_
  refine wpIn_range_c (gf := 113) (lb := #[.pointer (some ⟨w.heap.size + 3, 0, none⟩)]) rfl (enters_of Try.func113 (by kernel_rfl) rfl) (nearL A B D).length (fun j => j = w.heap.size + 3) (nearA A B D) (fun j hj => by omega) (fun _ => rfl)
    (near_iter (w.heap.size + 3) A B D _ w2 (fun W hH => Held.vrow hH rfl HGR.out) (fun j hj => by omega) HG.out)
    (fun k W => (∀ j p, j < k → (nearL A B D)[j]? = some p → p ∉ ks) ∧ VRow W (w.heap.size + 1) 71 [.map (some b)] ∧ VRow W (w.heap.size + 2) 4 [.bool false] ∧ Ext w W) (fun k W => (∃ p, (nearL A B D)[k]? = some p ∧ p ∈ ks) ∧ VRow W (w.heap.size + 2) 4 [.bool false] ∧ Ext w W) ?_ ?_ ⟨fun j p hj => by omega, HP0'.out, HP1'.out, HE2.out⟩ ?round ?done ?stop
  · rintro k X Y ⟨h1, h2, h3, h4⟩ hb
    exact ⟨h1, Keeps.vrow hb h2, Keeps.vrow hb h3, Keeps.below hb h4 (by omega)⟩
  · rintro k X Y ⟨h1, h2, h3⟩ hb
    exact ⟨h1, Keeps.vrow hb h2, Keeps.below hb h3 (by omega)⟩
  case round =>
    rintro l k W K ⟨h1, h2, h3, h4⟩ hk hlt hK
    simp only [nearA]
    obtain ⟨p, hp⟩ := getElem?_len hk
    have hpd : (nearL A B D).getD k (0, 0) = p := by rw [List.getD_eq_getElem?_getD, hp]; rfl
    rw [hpd]
    have HPM := Lib.hid (nearL_mem HG.out (List.mem_of_getElem? hp))
    have HP := Lib.hid hp
    have H1 := Lib.hid h1
    clear hpd hp h1
    gi_wp2_with fail
    refine hK _ _ (fun W2 hB hlt2 => ?_) (Held.ext (Ext.alloc (Ext.refl W) _) (fun j hj => by omega))
    have hEa := Ext.alloc (Ext.refl W) (.cells #[.int .i64 p.1, .int .i64 p.2] 31)
    have HQ0 := Lib.hid (Keeps.vrow hB (VRow.ext h2 hEa))
    have HQ1 := Lib.hid (Keeps.vrow hB (VRow.ext h3 hEa))
    have HQE := Lib.hid (Keeps.below hB (Ext.trans h4 hEa) (by omega))
    have HQV := Lib.hid (Keeps.vrow hB (vrow_alloc W [.int .i64 p.1, .int .i64 p.2] 31))
    have HBM := Lib.hid (HB.out.ext HQE.out)
    clear h2 h3 h4 hB hEa hK
    have q0 := VRow.cell HQ0.out (k := 0) rfl
    have d0 := VRow.cell HQV.out (k := 0) rfl
    have d1 := VRow.cell HQV.out (k := 1) rfl
    have r0 := VRow.cell HQ1.out (k := 0) rfl
    have f0 := VRow.frozen HQ1.out 0 none
    by_cases hmem : p ∈ ks
    · have hd : decide (p ∈ ks) = true := decide_eq_true hmem
      have HM := Lib.hid hmem
      clear hmem
      gi_wp2_with (gi_at_lookup; refine bmap_look _ rfl _ _ rfl b ks p rfl HBM.out rfl HKS.out (near_pt HPM.out) ?_)
      exact ⟨Held.set _ _ _ (fun j hj => by show j ≠ w.heap.size + 2; omega), ⟨p, HP.out, HM.out⟩, VRow.set HQ1.out 0 _, Below.setCell (p := ⟨w.heap.size + 2, 0, none⟩) HQE.out (by show _ ≤ w.heap.size + 2; omega) _⟩
    · have hd : decide (p ∈ ks) = false := decide_eq_false hmem
      have HM := Lib.hid hmem
      clear hmem
      gi_wp2_with (gi_at_lookup; refine bmap_look _ rfl _ _ rfl b ks p rfl HBM.out rfl HKS.out (near_pt HPM.out) ?_)
      refine ⟨Held.refl _ _, fun j q hj hq => ?_, HQ0.out, HQ1.out, HQE.out⟩
      by_cases hjk : j = k
      · subst hjk
        rw [HP.out] at hq
        injection hq with hq
        rw [← hq]; exact HM.out
      · exact H1.out j q (by omega) hq
  case stop =>
    rintro k W hk ⟨⟨p, h1, h2⟩, h3, h4⟩ hD
    have e : avoidB ks A B D = false := all_false h1 (by simp [h2])
    have HAV := Lib.hid e
    clear e
    dsimp only
    gi_wp2_with fail
    refine marks_cell hD (avoid_results (Keeps.vrow (Keeps.put (B := 0) _ hD rfl (Nat.zero_le _)) h3) _ rfl) ⟨ret_bool HAV.out.symm, Keeps.below (Keeps.put (B := w2.heap.size) _ hD rfl (Nat.le_refl _)) h4 (by omega)⟩
  case done =>
    rintro W ⟨h1, h2, h3, h4⟩ hD
    have e : avoidB ks A B D = true := by
      unfold avoidB
      rw [List.all_eq_true]
      intro p hp
      obtain ⟨j, hj⟩ := List.mem_iff_getElem?.1 hp
      exact decide_eq_true (h1 j p (lt_len hj) hj)
    have HAV := Lib.hid e
    clear e
    have H1 := Lib.hid h1
    clear h1
    have c0 := VRow.cell h3 (k := 0) rfl
    have f0 := VRow.frozen h3 0 none
    dsimp only
    go_wp2_with fail
    have hD2 : (W.setCell ⟨w.heap.size + 2, 0, none⟩ (.bool true)).heap[w2.heap.size]? = some (.deferred (some [])) :=
      (Below.heap_setCell _ _ _ _ (by show w2.heap.size ≠ w.heap.size + 2; omega)).trans hD
    refine marks_cell hD2 (avoid_results (Keeps.vrow (Keeps.put (B := 0) _ hD2 rfl (Nat.zero_le _)) (VRow.set h3 0 _)) _ rfl) ⟨ret_bool HAV.out.symm, Keeps.below (Keeps.put (B := w2.heap.size) _ hD2 rfl (Nat.le_refl _)) (Below.setCell (p := ⟨w.heap.size + 2, 0, none⟩) h4 (by show _ ≤ w.heap.size + 2; omega) _) (by omega)⟩
end Go.Proofs.Ytnpebfchojalcaa
