import Derived.Test.YtnpebfchojalcaaB3
namespace Go.Proofs.Ytnpebfchojalcaa
open Go.RowKit Go.Shelf Go.Maps
attribute [local go_sem] Oper.semAt_some
theorem colN_mem {D : Int} (hD : 1 ≤ D) : ∀ (f : Nat) (y z : Int), z ∈ colN D f y → y ≤ z ∧ z < 12 := by
  intro f
  induction f with
  | zero => intro y z h; simp [colN] at h
  | succ f ih =>
    intro y z h
    simp only [colN] at h
    split at h
    · rcases List.mem_cons.1 h with h | h
      · subst h; omega
      · have := ih _ _ h; omega
    · simp at h
theorem rowsN_mem {A B D : Int} (hA : 1 ≤ A) (hD : 1 ≤ D) : ∀ (f : Nat) (x : Int) (p : Pt), p ∈ rowsN A B D f x → x ≤ p.1 ∧ p.1 < 12 ∧ -11 ≤ p.2 ∧ p.2 < 12 := by
  intro f
  induction f with
  | zero => intro x p h; simp [rowsN] at h
  | succ f ih =>
    intro x p h
    simp only [rowsN] at h
    split at h
    · rcases List.mem_append.1 h with h | h
      · rw [List.mem_map] at h
        obtain ⟨y, hy, rfl⟩ := h
        have := colN_mem hD _ _ _ hy
        have := firstZ_bd (A := A) (B := B) (x := x) hD
        simp only
        omega
      · have := ih _ _ h; omega
    · simp at h
theorem nearL_mem {A B D : Int} (hg : gridOk A B D) {p : Pt} (h : p ∈ nearL A B D) : 0 ≤ p.1 ∧ p.1 < 12 ∧ -11 ≤ p.2 ∧ p.2 < 12 := by
  unfold gridOk at hg
  exact rowsN_mem hg.1 (by omega) _ _ _ h
theorem colN_len {D : Int} : ∀ (f : Nat) (y : Int), (colN D f y).length ≤ f := by
  intro f
  induction f with
  | zero => intro y; simp [colN]
  | succ f ih =>
    intro y
    simp only [colN]
    split
    · have := ih (y + D); simp; omega
    · simp
theorem rowsN_len {A B D : Int} : ∀ (f : Nat) (x : Int), (rowsN A B D f x).length ≤ 23 * f := by
  intro f
  induction f with
  | zero => intro y; simp [rowsN]
  | succ f ih =>
    intro x
    simp only [rowsN]
    split
    · have := ih (x + A); have := colN_len (D := D) 23 (firstZ A B D x); simp; omega
    · simp
theorem nearL_len (A B D : Int) : (nearL A B D).length ≤ 276 := rowsN_len 12 0
/-- the coordinates of a blank -/
def inBlank (q : Pt) : Bool := decide (0 ≤ q.1) && decide (q.1 ≤ 12) && decide (0 ≤ q.2) && decide (q.2 ≤ 12)
def blankB (ps : List Pt) : Bool := validB ps && ps.all inBlank
def collB (ps : List Pt) (v : Pt) : Bool := validB (movedP ps v) && overlapB ps (movedP ps v)
def collL (ps : List Pt) (A B D : Int) : List Pt := (nearL A B D).filter (collB ps)
def collTo (ps : List Pt) (A B D : Int) (k : Nat) : List Pt := ((nearL A B D).take k).filter (collB ps)
theorem collTo_succ {ps : List Pt} {A B D : Int} {k : Nat} {p : Pt} (h : (nearL A B D)[k]? = some p) : collTo ps A B D (k + 1) = collTo ps A B D k ++ if collB ps p = true then [p] else [] := by
  unfold collTo
  rw [take_succ_get h, List.filter_append]
  congr 1
  by_cases hp : collB ps p = true <;> simp [hp]
theorem collTo_len (ps : List Pt) (A B D : Int) (k : Nat) : (collTo ps A B D k).length ≤ 276 := by
  have h1 := List.length_filter_le (collB ps) ((nearL A B D).take k)
  have h2 := List.length_take_le' k (nearL A B D)
  have h3 := nearL_len A B D
  unfold collTo
  omega
theorem collTo_all (ps : List Pt) (A B D : Int) : collTo ps A B D (nearL A B D).length = collL ps A B D := by
  unfold collTo collL
  rw [List.take_length]
theorem blank_parts {ps : List Pt} (h : blankB ps = true) : validB ps = true ∧ ∀ q ∈ ps, 0 ≤ q.1 ∧ q.1 ≤ 12 ∧ 0 ≤ q.2 ∧ q.2 ≤ 12 := by
  simp only [blankB, Bool.and_eq_true, List.all_eq_true] at h
  refine ⟨h.1, fun q hq => ?_⟩
  have := h.2 q hq
  simp only [inBlank, Bool.and_eq_true, decide_eq_true_eq] at this
  omega
theorem move_ok {ps : List Pt} (h : blankB ps = true) {v : Pt} (hv : 0 ≤ v.1 ∧ v.1 < 12 ∧ -11 ≤ v.2 ∧ v.2 < 12) (u : Value) : moveR ps v.1 v.2 u = two u (.int .i64 0) ∧ farB v.1 v.2 = false := by
  obtain ⟨h1, h2⟩ := blank_parts h
  have hn := (valid_near h1).2.2
  have hf : farB v.1 v.2 = false := by simp [farB]; omega
  refine ⟨?_, hf⟩
  unfold moveR
  rw [if_pos ⟨h1, hf⟩]
  have hfar : (movedP ps (v.1, v.2)).any farP = false := by
    rw [List.any_eq_false]
    intro q hq
    unfold movedP at hq
    rw [List.mem_map] at hq
    obtain ⟨r, hr, rfl⟩ := hq
    have := h2 r hr
    intro hfar
    simp only [farP, farB, addP, Bool.or_eq_true] at hfar
    rcases hfar with ((hf | hf) | hf) | hf <;> (have := of_decide_eq_true hf; omega)
  unfold limR
  rw [hfar, if_neg (by decide), if_neg (by unfold movedP; rw [List.length_map]; omega)]
theorem over_ok {ps : List Pt} (h : validB ps = true) (v : Pt) : ∃ er, overlapR ps (movedP ps v) = two (.bool (collB ps v)) (.int .i64 er) := by
  unfold overlapR collB
  by_cases hv : validB (movedP ps v) = true
  · exact ⟨0, by rw [if_pos ⟨h, hv⟩, hv, Bool.true_and]⟩
  · exact ⟨2, by rw [if_neg (fun hh => hv hh.2)]; simp [hv]⟩
theorem BMap.keeps {s : Nat} {A B : World} {b : Nat} {ks : List Pt} (h : BMap A b ks) (hb : Keeps s A B) (hs : b < s) : BMap B b ks := h.of_block (hb.block b ⟨h.lt, .inl hs⟩)
theorem BMap.setOther {A : World} {b : Nat} {ks : List Pt} (h : BMap A b ks) (a : Addr) (v : Value) (hb : b ≠ a.block) : BMap (A.setCell a v) b ks := h.of_block (Below.heap_setCell _ _ _ _ hb)
theorem near_pt {p : Pt} (hp : 0 ≤ p.1 ∧ p.1 < 12 ∧ -11 ≤ p.2 ∧ p.2 < 12) : nearPt p := by unfold nearPt; omega
set_option maxRecDepth 100000 in
set_option maxHeartbeats 2000000 in
theorem collisions_c (v : Value) (ps : List Pt) (A B D : Int) (w : World) (hv : Vecs w v ps) (hbl : blankB ps = true) (hg : gridOk A B D) :
    Calls Try.prog 43 #[v, gridV A B D] w fun e w' => ∃ b, e = .returned (.map (some b)) ∧ BMap w' b (collL ps A B D) ∧ w.heap.size ≤ b ∧ Ext w w' := by
  obtain ⟨a, cap, rfl, hl, hm, hra⟩ := hv.at
  have HBL := Lib.hid hbl
  have HG := Lib.hid hg
  have HV := Lib.hid hv
  have hvalid := (blank_parts hbl).1
  have hn1 := (valid_near hvalid).2
  have HVAL := Lib.hid hvalid
  clear hv hbl hg hra hvalid
  unfold gridV
  refine calls_marks Try.func43 rfl ?_
  simp only [Try.ntmps43, List.size_toArray, List.length_cons, List.length_nil, Nat.reduceAdd, Nat.reduceSub, Array.replicate_succ, Array.replicate_zero, List.push_toArray, List.append_toArray, List.nil_append, List.cons_append]
  have s1 : (w.alloc (.cells #[.slice a ps.length cap] 22)).heap.size = w.heap.size + 1 := by simp
  have s2 : ((w.alloc (.cells #[.slice a ps.length cap] 22)).alloc (.cells #[.int .i64 A, .int .i64 B, .int .i64 D] 24)).heap.size = w.heap.size + 2 := by simp
  have hmm := @run_makeMap Try.prog
  go_wp2_with fail
  clear hmm
  have hE0 := Ext.alloc (Ext.alloc (Ext.alloc (Ext.alloc (Ext.refl w) (.cells #[.slice a ps.length cap] 22)) (.cells #[.int .i64 A, .int .i64 B, .int .i64 D] 24)) (.map #[] 0)) (.cells #[.map (some (w.heap.size + 2))] 71)
  have s3 : (((w.alloc (.cells #[.slice a ps.length cap] 22)).alloc (.cells #[.int .i64 A, .int .i64 B, .int .i64 D] 24)).alloc (.map #[] 0)).heap.size = w.heap.size + 3 := by simp
  have s4 : ((((w.alloc (.cells #[.slice a ps.length cap] 22)).alloc (.cells #[.int .i64 A, .int .i64 B, .int .i64 D] 24)).alloc (.map #[] 0)).alloc (.cells #[.map (some (w.heap.size + 2))] 71)).heap.size = w.heap.size + 4 := by simp
  have p0 := (((vrow_alloc w [.slice a ps.length cap] 22).alloc (.cells #[.int .i64 A, .int .i64 B, .int .i64 D] 24)).alloc (.map #[] 0)).alloc (.cells #[.map (some (w.heap.size + 2))] 71)
  have p1 := bmap_made ((w.alloc (.cells #[.slice a ps.length cap] 22)).alloc (.cells #[.int .i64 A, .int .i64 B, .int .i64 D] 24))
  replace p1 := BMap.ext p1 (Ext.alloc (Ext.refl _) (.cells #[.map (some (w.heap.size + 2))] 71))
  have p2 := vrow_alloc (((w.alloc (.cells #[.slice a ps.length cap] 22)).alloc (.cells #[.int .i64 A, .int .i64 B, .int .i64 D] 24)).alloc (.map #[] 0)) [.map (some (w.heap.size + 2))] 71
  rw [s2] at p1
  rw [s3] at p2
  change VRow ((((w.alloc (.cells #[.slice a ps.length cap] 22)).alloc (.cells #[.int .i64 A, .int .i64 B, .int .i64 D] 24)).alloc (.map #[] 0)).alloc (.cells #[.map (some (w.heap.size + 2))] 71)) _ _ _ at p0 p2
  have HP0 := Lib.hid p0
  have HP1 := Lib.hid p1
  have HP2 := Lib.hid p2
  have HE0 := Lib.hid hE0
  have hs4 := s4
  clear p0 p1 p2 hE0 s1 s2 s3 s4
  generalize (((w.alloc (.cells #[.slice a ps.length cap] 22)).alloc (.cells #[.int .i64 A, .int .i64 B, .int .i64 D] 24)).alloc (.map #[] 0)).alloc (.cells #[.map (some (w.heap.size + 2))] 71) = w1 at *
  refine (show Calls Try.prog 87 #[gridV A B D] w1 _ from (near_c A B D w1).mono ?_)
  rintro e w2 ⟨rfl, rfl⟩
  have hE1 := Ext.alloc (Ext.refl w1) (.cells #[.int .i64 A, .int .i64 B, .int .i64 D] 24)
  have HP0' := Lib.hid (VRow.ext HP0.out hE1)
  have HP1' := Lib.hid (BMap.ext HP1.out hE1)
  have HP2' := Lib.hid (VRow.ext HP2.out hE1)
  have HE2 := Lib.hid (Ext.trans HE0.out hE1)
  have HGR := Lib.hid (show VRow (w1.alloc (.cells #[.int .i64 A, .int .i64 B, .int .i64 D] 24)) _ _ _ from vrow_alloc w1 [.int .i64 A, .int .i64 B, .int .i64 D] 24)
  rw [hs4] at HGR
  have hs5 : (w1.alloc (.cells #[.int .i64 A, .int .i64 B, .int .i64 D] 24)).heap.size = w.heap.size + 5 := by simp [hs4]
  clear hE1 HP0 HP1 HP2 HE0
  go_wp2_with fail
  clear hs4
  generalize w1.alloc (.cells #[.int .i64 A, .int .i64 B, .int .i64 D] 24) = w2 at *
  refine (wpIn_wide (n := 9)).1 ?_
  refine wpIn_range_c (gf := 113) (lb := #[.pointer (some ⟨w.heap.size + 4, 0, none⟩)]) rfl (enters_of Try.func113 (by kernel_rfl) rfl) (nearL A B D).length (fun j => j = w.heap.size + 4) (nearA A B D) (fun j hj => by omega) (fun _ => rfl)
    (near_iter (w.heap.size + 4) A B D _ w2 (fun W hH => Held.vrow hH rfl HGR.out) (fun j hj => by omega) HG.out)
    (fun k W => VRow W w.heap.size 22 [.slice a ps.length cap] ∧ BMap W (w.heap.size + 2) (collTo ps A B D k) ∧ VRow W (w.heap.size + 2 + 1) 71 [.map (some (w.heap.size + 2))] ∧ Ext w W) (fun _ _ => False) ?_ (fun _ _ _ h => h.elim) ⟨HP0'.out, HP1'.out, HP2'.out, HE2.out⟩ ?round ?done (fun _ _ _ h => h.elim)
  · rintro k X Y ⟨h1, h2, h3, h4⟩ hb
    exact ⟨Keeps.vrow hb h1, h2.keeps hb (by omega), Keeps.vrow hb h3, Keeps.below hb h4 (by omega)⟩
  case round =>
    rintro l k W K ⟨h1, h2, h3, h4⟩ hk hlt hK
    simp only [nearA]
    obtain ⟨p, hp⟩ := getElem?_len hk
    have hpd : (nearL A B D).getD k (0, 0) = p := by rw [List.getD_eq_getElem?_getD, hp]; rfl
    rw [hpd]
    have HPM := Lib.hid (nearL_mem HG.out (List.mem_of_getElem? hp))
    have HSU := Lib.hid (collTo_succ (ps := ps) hp)
    have HLN := Lib.hid (collTo_len ps A B D k)
    clear hpd hp
    gi_wp2_with fail
    refine hK _ _ (fun W2 hB hlt2 => ?_) (Held.ext (Ext.alloc (Ext.refl W) _) (fun j hj => by omega))
    have hEa := Ext.alloc (Ext.refl W) (.cells #[.int .i64 p.1, .int .i64 p.2] 31)
    have HQ0 := Lib.hid (Keeps.vrow hB (VRow.ext h1 hEa))
    have HQ1 := Lib.hid ((h2.ext hEa).keeps hB (by omega))
    have HQ2 := Lib.hid (Keeps.vrow hB (VRow.ext h3 hEa))
    have HQE := Lib.hid (Keeps.below hB (Ext.trans h4 hEa) (by omega))
    have HQV := Lib.hid (Keeps.vrow hB (vrow_alloc W [.int .i64 p.1, .int .i64 p.2] 31))
    clear h1 h2 h3 h4 hB hEa hK
    have q0 := VRow.cell HQ0.out (k := 0) rfl
    have d0 := VRow.cell HQV.out (k := 0) rfl
    have d1 := VRow.cell HQV.out (k := 1) rfl
    gi_wp2_with fail
    clear q0 d0 d1
    refine ⟨trivial, ?_⟩
    refine (Open.calls (Open.inRound Open.wide l) (show Calls Try.prog 35 #[.slice a ps.length cap, vecV p.1 p.2] W2 _ from Move_c _ ps p.1 p.2 W2 (HV.out.ext HQE.out))).mono ?_
    rintro e W3 ⟨u, rfl, hu, hE3⟩
    obtain ⟨hmv, hfar⟩ := move_ok HBL.out HPM.out u
    rw [hmv]
    have hu2 := hu HVAL.out hfar
    obtain ⟨au, cu, rfl, hlu, hmu, _⟩ := hu2.at
    have HU := Lib.hid hu2
    have HQ0 := Lib.hid (VRow.ext HQ0.out hE3)
    have HQ1 := Lib.hid (BMap.ext HQ1.out hE3)
    have HQ2 := Lib.hid (VRow.ext HQ2.out hE3)
    have HQV := Lib.hid (VRow.ext HQV.out hE3)
    have HQE3 := Lib.hid (Ext.trans HQE.out hE3)
    have HW23 := Lib.hid hE3
    clear hu hu2 hE3 hmv hfar
    simp only [two]
    have q0 := VRow.cell HQ0.out (k := 0) rfl
    gi_wp2_with fail
    clear q0
    refine ⟨trivial, ?_⟩
    obtain ⟨er, hov⟩ := over_ok HVAL.out p
    have HOV := Lib.hid hov
    clear hov
    refine (Open.calls (Open.inRound Open.wide l) (show Calls Try.prog 36 #[.slice a ps.length cap, .slice au (movedP ps (p.1, p.2)).length cu] W3 _ from Overlap_c _ _ ps (movedP ps (p.1, p.2)) W3 (HV.out.ext HQE3.out) HU.out)).mono ?_
    rintro e W4 ⟨rfl, hE4⟩
    rw [show overlapR ps (movedP ps (p.1, p.2)) = _ from HOV.out]
    have HQ0 := Lib.hid (VRow.ext HQ0.out hE4)
    have HQ1 := Lib.hid (BMap.ext HQ1.out hE4)
    have HQ2 := Lib.hid (VRow.ext HQ2.out hE4)
    have HQV := Lib.hid (VRow.ext HQV.out hE4)
    have HQE4 := Lib.hid (Ext.trans HQE3.out hE4)
    have HW24 := Lib.hid (Ext.trans HW23.out hE4)
    clear hE4 HOV
    have hbd := HQE.out.size
    cases hc : collB ps p with
    | false =>
      have Hc := Lib.hid hc
      clear hc
      simp only [two]
      gi_wp2_with fail
      have e := HSU.out
      rw [Hc.out, if_neg (by decide), List.append_nil] at e
      exact ⟨Held.ext HW24.out (fun j hj => by omega), HQ0.out, by rw [e]; exact HQ1.out, HQ2.out, HQE4.out⟩
    | true =>
      have Hc := Lib.hid hc
      clear hc
      simp only [two]
      have q2 := VRow.cell HQ2.out (k := 0) rfl
      have d0 := VRow.cell HQV.out (k := 0) rfl
      have d1 := VRow.cell HQV.out (k := 1) rfl
      gi_wp2_with (gi_at_mapUpdate; refine bmap_put _ rfl _ _ _ rfl (w.heap.size + 2) (collTo ps A B D k) p rfl HQ1.out (by have := HLN.out; unfold maxLen; omega) rfl rfl (near_pt HPM.out) ?_; intro W5 hB5 hg5)
      have e := HSU.out
      rw [Hc.out, if_pos rfl] at e
      have hlt4 := HQ1.out.lt
      have l0 := VRow.lt HQ0.out
      have l2 := VRow.lt HQ2.out
      have hs24 := HW24.out.size
      exact ⟨(Held.ext HW24.out (fun j hj => by omega)).trans (grown_held hg5 (fun j hj => ⟨by omega, by intro h; injection h with h; omega⟩)), VRow.grown HQ0.out hg5 (by intro h; injection h with h; omega), by rw [e]; exact hB5, VRow.grown HQ2.out hg5 (by intro h; injection h with h; omega), below_grown HQE4.out hg5 (by omega) (by omega)⟩
  case done =>
    rintro W ⟨h1, h2, h3, h4⟩ hD
    rw [collTo_all] at h2
    have c0 := VRow.cell h3 (k := 0) rfl
    dsimp only
    go_wp2_with fail
    refine marks_one hD (fun _ => results_tmp rfl _ _ _) ⟨_, rfl, h2.of_block (World.putObj_heap_other (by omega)), by omega, Below.trans h4 ⟨rfl, rfl, rfl, by simp, fun j hj => World.putObj_heap_other (by omega)⟩⟩
end Go.Proofs.Ytnpebfchojalcaa
