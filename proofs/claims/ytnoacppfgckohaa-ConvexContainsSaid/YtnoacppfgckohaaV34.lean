import Derived.Test.YtnoacppfgckohaaV32
import Derived.Test.YtnoacppfgckohaaM19
namespace Go.Proofs.Ytnoacppfgckohaa
open Go.RowKit Go.Shelf
attribute [local go_sem] Oper.semAt_some
theorem placeK_le (ps : List Pt) (x y : Int) : ∀ k, placeK ps x y k ≤ 1 := by
  intro k
  induction k with
  | zero => simp [placeK]
  | succ k ih => simp only [placeK]; omega
/-- where the points and the vertices lie in their hull -/
theorem hullS_place {ps hs : List Pt} (h : HullS ps 0 hs) : (∀ z ∈ ps, 0 ≤ placeZ hs z.1 z.2) ∧ (∀ i, i < hs.length → placeZ hs (fromP hs i).1 (fromP hs i).2 = 0) ∧ nearP ps := by
  have ok := hullS_ok h rfl
  have ha := valid_around ok.1
  have n : ∀ z : Pt, (∀ i, i < hs.length → 0 ≤ sideK hs z.1 z.2 i) → 0 ≤ placeZ hs z.1 z.2 := fun z hz => by
    rcases Int.lt_or_le (placeZ hs z.1 z.2) 0 with g | g
    · obtain ⟨j, hj, k⟩ := (placeK_neg hs z.1 z.2 hs.length).1 g
      have := hz j hj
      omega
    · exact g
  refine ⟨fun z hz => n z fun i hi => ?_, fun i hi => ?_, ?_⟩
  · rw [← tri_side]
    exact ok.2.2 i hi z hz
  · have a := n (fromP hs i) fun k hk => ha.left hk hi
    have b := placeK_le hs (fromP hs i).1 (fromP hs i).2 hs.length
    have c : placeZ hs (fromP hs i).1 (fromP hs i).2 ≠ 1 := fun e => by
      have := (placeK_one hs (fromP hs i).1 (fromP hs i).2 hs.length).1 e i hi
      rw [← tri_side, tri_first] at this
      exact absurd this (by decide)
    unfold placeZ at *
    omega
  · rcases h with ⟨h, _⟩ | ⟨_, h, _⟩
    · exact absurd rfl h
    · exact h
/-- the hull of a polygon's vertices, in any order -/
theorem hull_again {l hs ts : List Pt} {er : Int} (h : HullS l er ts) (hv : validB hs = true) (hl : l.length ≤ 200) (hm : ∀ z, z ∈ l ↔ z ∈ hs) : er = 0 ∧ ts = hs := by
  have ha := valid_around hv
  have hn := valid_near hv
  have hfl : ∀ s : List Pt, s.Perm l → s.Pairwise leP → 3 ≤ (hullP s).length := fun s hp hw => by
    by_cases g : 3 ≤ (hullP s).length
    · exact g
    · exact absurd (fun a b c ha hb hc => hull_flat hw (by omega) a b c (hp.mem_iff.2 ((hm a).2 ha)) (hp.mem_iff.2 ((hm b).2 hb)) (hp.mem_iff.2 ((hm c).2 hc))) (around_bent ha)
  have one : ∀ s : List Pt, s.Perm l → s.Pairwise leP → hullP s = hs := fun s hp hw => by
    obtain ⟨a, b, c⟩ := hull_around hw (hfl s hp hw)
    exact around_one a ha (fun i hi => (hm _).1 (hp.mem_iff.1 (b i hi))) fun i hi z hz => c i hi z (hp.mem_iff.2 ((hm z).2 hz))
  have hf : hs.any farP = false := by
    rw [List.any_eq_false]
    intro q hq
    have := hn.1 q hq
    simp only [farP, farB, Bool.or_eq_true, decide_eq_true_eq]
    omega
  rcases h with ⟨_, _, h | h | ⟨s, hp, hw, h⟩⟩ | ⟨h0, _, _, s, hp, hw, h, _⟩
  · omega
  · exfalso
    rw [List.any_eq_true] at h
    obtain ⟨q, hq, hg⟩ := h
    have := List.any_eq_false.1 hf q ((hm q).1 hq)
    exact this hg
  · exfalso
    have e := one s hp hw
    have := hfl s hp hw
    rw [e] at h this
    rw [hf] at h
    rcases h with h | h | h
    · omega
    · cases h
    · omega
  · exact ⟨h0, h.trans (one s hp hw)⟩
/-- the vertices that the law picks -/
def pickAt (hs : List Pt) (t : Int) (i : Nat) : Nat := ((i * (1 + 2 * (t.toNat % 4)) + t.toNat) % hs.length)
def pickL (hs : List Pt) (t : Int) (k : Nat) : List Pt := (List.range k).map fun i => fromP hs (pickAt hs t i)
theorem wr_id {n : Int} (h : -1000000 ≤ n ∧ n ≤ 1000000) : wrap64 n = n := by unfold wrap64; omega
theorem pick_num (hs : List Pt) {t : Int} (ht : 0 ≤ t ∧ t ≤ 255) {k : Nat} (hk : k ≤ 32) (_hn : 3 ≤ hs.length ∧ hs.length ≤ 32) :
    (wrap64 (wrap64 ((k : Int) * wrap64 (1 + wrap64 (2 * wrap64 (t.tmod 4)))) + wrap64 t)).tmod (hs.length : Int) = ((pickAt hs t k : Nat) : Int) := by
  obtain ⟨n, rfl⟩ : ∃ n : Nat, t = n := ⟨t.toNat, by omega⟩
  obtain ⟨c, hc⟩ : ∃ c, c = n % 4 := ⟨_, rfl⟩
  have hc4 : c < 4 := by rw [hc]; exact Nat.mod_lt _ (by decide)
  have e1 : ((n : Int).tmod 4) = (c : Int) := by
    rw [Int.tmod_eq_emod_of_nonneg (by omega), hc]; omega
  rw [e1, wr_id (n := (c : Int)) (by omega), wr_id (n := 2 * (c : Int)) (by omega), wr_id (n := 1 + 2 * (c : Int)) (by omega)]
  obtain ⟨d, hd⟩ : ∃ d, d = 1 + 2 * c := ⟨_, rfl⟩
  obtain ⟨g, hg⟩ : ∃ g, g = k * d := ⟨_, rfl⟩
  have hg2 : g ≤ 32 * 7 := by rw [hg]; exact Nat.mul_le_mul hk (by omega)
  have e3 : (k : Int) * (1 + 2 * (c : Int)) = (g : Int) := by rw [hg, Int.natCast_mul, hd]; congr 1
  rw [e3, wr_id (n := (g : Int)) (by omega), wr_id (n := (n : Int)) (by omega), wr_id (n := (g : Int) + n) (by omega)]
  rw [Int.tmod_eq_emod_of_nonneg (by omega), show (g : Int) + n = ((g + n : Nat) : Int) by omega, ← Int.natCast_emod]
  unfold pickAt
  rw [Int.toNat_natCast, ← hc, ← hd, ← hg]
theorem pickL_length (hs : List Pt) (t : Int) (k : Nat) : (pickL hs t k).length = k := by simp [pickL]
theorem pickL_succ (hs : List Pt) (t : Int) (k : Nat) : pickL hs t (k + 1) = pickL hs t k ++ [fromP hs (pickAt hs t k)] := by simp [pickL, List.range_succ]
theorem pickL_mem {hs : List Pt} (h : 0 < hs.length) (t : Int) (k : Nat) : ∀ z, z ∈ pickL hs t k ++ hs ↔ z ∈ hs := fun z => by
  rw [List.mem_append]
  refine ⟨fun g => ?_, .inr⟩
  rcases g with g | g
  · obtain ⟨i, _, rfl⟩ := List.mem_map.1 g
    exact from_mem (Nat.mod_lt _ h)
  · exact g
set_option maxRecDepth 100000 in
set_option maxHeartbeats 4000000 in
theorem contains_law (v : Value) (ps : List Pt) (t : Int) (w : World) (hv : Vecs w v ps) (ht : 0 ≤ t ∧ t ≤ 255) :
    Calls Try.prog 3 #[v, .int .u8 t] w fun e w' => e = .returned (.bool true) ∧ Ext w w' := by
  obtain ⟨a1, c1, rfl, hl1, hm1, hra⟩ := hv.at
  have HV := Lib.hid hv
  have HA := Lib.hid hra
  have HT := Lib.hid ht
  clear hv hra ht
  go_enter Try.func3, Try.ntmps3
  go_wp2_with fail
  refine (few_c _ _ _ w (by omega)).mono ?_
  rintro e w2 ⟨rfl, rfl⟩
  by_cases hf1 : ps.length ≤ 300
  · rw [decide_eq_true hf1]
    go_wp2_with fail
    refine (Hull_c _ ps w HV.out).mono ?_
    rintro e w2 ⟨r, er, hs, rfl, hH, hr, hE⟩
    obtain ⟨a2, c2, rfl, hl2, hm2, hrb⟩ := hr.at
    have HH := Lib.hid hH
    have HR := Lib.hid hr
    have HB := Lib.hid hrb
    have HE2 := Lib.hid hE
    clear hH hr hE hrb
    by_cases k0 : er = 0
    · subst k0
      have HOK := Lib.hid (hullS_ok HH.out rfl).1
      have HPL := Lib.hid (hullS_place HH.out)
      have HMM := Lib.hid (hullS_ok HH.out rfl).2.1
      have hn3 := (valid_near HOK.out).2
      go_wp2_with fail
      refine (valid_c _ hs w2 HR.out).mono ?_
      rintro e w3 ⟨rfl, hE⟩
      rw [HOK.out]
      have HE3 := Lib.hid (Ext.trans HE2.out hE)
      have HE23 := Lib.hid hE
      have HB3 := Lib.hid (HR.out.ext hE)
      clear hE
      go_wp2_with fail
      go_loopw [7] (fun i wr => ∃ k : Nat, k ≤ ps.length ∧ i = .int .i64 k ∧ Ext w3 wr) (fun i _ => ps.length - (intOf i).toNat)
      case atStart => exact ⟨0, Nat.zero_le _, rfl, Ext.refl _⟩
      case round =>
        obtain ⟨k, hk, rfl, hE⟩ := hrel
        have HE4 := Lib.hid hE
        clear hE
        by_cases hlt : k < ps.length
        · obtain ⟨p, hp⟩ := getElem?_len hlt
          obtain ⟨b3, o3, rfl, c3, c4⟩ := HA.out k p hp
          replace c3 := Ext.cell (Ext.trans HE3.out HE4.out) c3
          replace c4 := Ext.cell (Ext.trans HE3.out HE4.out) c4
          have hpm := List.mem_of_getElem? hp
          have hZ := HPL.out.1 p hpm
          have hfar : farB p.1 p.2 = false := by have := HPL.out.2.2 p hpm; simp [farB]; omega
          have HPR := Lib.hid (show placeR hs p.1 p.2 = two (.int .i64 (placeZ hs p.1 p.2)) (.int .i64 0) by unfold placeR; rw [if_pos ⟨HOK.out, hfar⟩])
          obtain ⟨p1, p2⟩ := p
          simp only at c3 c4 hZ HPR
          clear hp hpm hfar
          go_wp2_with fail
          refine (show Calls Try.prog 13 #[.slice a2 hs.length c2, vecV p1 p2] wr _ from (Place_c _ hs p1 p2 wr (HB3.out.ext HE4.out)).mono ?_)
          rintro e wp ⟨rfl, hE⟩
          rw [HPR.out]
          simp only [two]
          have HE5 := Lib.hid (Ext.trans HE4.out hE)
          clear hE HPR c3 c4
          generalize placeZ hs p1 p2 = Z at *
          have hz : ¬ Z < 0 := by omega
          go_wp2
          exact ⟨⟨k + 1, by omega, by simp, HE5.out⟩, by simp [intOf]; omega⟩
        · go_wp2_with fail
          go_loopw [11, 10] (fun i s wq => ∃ k : Nat, k ≤ hs.length ∧ i = .int .i64 k ∧ wq.ownsRow w3.heap.size 31 2 s k (cellsOf (pickL hs t k)) ∧ Ext w3 wq) (fun i _ _ => hs.length - (intOf i).toNat)
          case atStart => exact ⟨0, Nat.zero_le _, rfl, ⟨rfl, .inl ⟨rfl, rfl⟩⟩, HE4.out⟩
          case round =>
            obtain ⟨k, hk, rfl, hO, hE⟩ := hrel
            have HO := Lib.hid hO
            have HE6 := Lib.hid hE
            clear hO hE
            by_cases hlt : k < hs.length
            · obtain ⟨q, hq⟩ := getElem?_len hlt
              obtain ⟨b3, o3, rfl, c3, c4⟩ := HB.out k q hq
              replace c3 := Ext.cell (Ext.trans HE23.out HE6.out) c3
              replace c4 := Ext.cell (Ext.trans HE23.out HE6.out) c4
              have HQ := Lib.hid (fromP_of hq)
              have hZ := HPL.out.2.1 k hlt
              rw [fromP_of hq] at hZ
              have hnr := (valid_near HOK.out).1 q (List.mem_of_getElem? hq)
              have hfar : farB q.1 q.2 = false := by simp [farB]; omega
              have HPR := Lib.hid (show placeR hs q.1 q.2 = two (.int .i64 0) (.int .i64 0) by unfold placeR; rw [if_pos ⟨HOK.out, hfar⟩, hZ])
              obtain ⟨q1, q2⟩ := q
              simp only at c3 c4 HPR
              clear hq hZ hnr hfar
              go_wp2_with fail
              refine (show Calls Try.prog 13 #[.slice (some ⟨b3, o3, none⟩) hs.length c2, vecV q1 q2] wr _ from (Place_c _ hs q1 q2 wr (HB3.out.ext HE6.out)).mono ?_)
              rintro e wp ⟨rfl, hE⟩
              rw [HPR.out]
              simp only [two]
              have HEP := Lib.hid hE
              clear hE
              go_wp2_with fail
              go_loopw [15, 14] (fun j s wq => ∃ (m : Nat) (b : Bool), m ≤ ps.length ∧ j = .int .i64 m ∧ s = .bool b ∧ (b = true ↔ ∃ j, j < m ∧ fromP ps j = fromP hs k) ∧ Ext wp wq) (fun j _ _ => ps.length - (intOf j).toNat)
              case atStart => exact ⟨0, false, Nat.zero_le _, rfl, rfl, by simp, Ext.refl _⟩
              case round =>
                obtain ⟨m, b, hm, rfl, rfl, hb, hE⟩ := hrel
                have HBB := Lib.hid hb
                have HE7 := Lib.hid hE
                clear hb hE
                by_cases hlt2 : m < ps.length
                · obtain ⟨p, hp⟩ := getElem?_len hlt2
                  have HP := Lib.hid (fromP_of hp)
                  cases b with
                  | true =>
                    have HNB := Lib.hid (show true = true ↔ ∃ j, j < m + 1 ∧ fromP ps j = fromP hs k from ⟨fun h => by obtain ⟨j, hj, e⟩ := HBB.out.1 h; exact ⟨j, by omega, e⟩, fun _ => rfl⟩)
                    clear hp c3 c4
                    go_wp2_with fail
                    go_quiet (fail)
                    go_wp2
                    all_goals exact ⟨⟨m + 1, true, by omega, by simp, rfl, by simpa using HNB.out, ext_drewN HE7.out _⟩, by simp [intOf]; omega⟩
                  | false =>
                    obtain ⟨b5, o5, rfl, c5, c6⟩ := HA.out m p hp
                    have HE8 := Lib.hid (Ext.trans (Ext.trans HE6.out HEP.out) HE7.out)
                    replace c5 := Ext.cell (Ext.trans HE3.out HE8.out) c5
                    replace c6 := Ext.cell (Ext.trans HE3.out HE8.out) c6
                    replace c3 := Ext.cell (Ext.trans HEP.out HE7.out) c3
                    replace c4 := Ext.cell (Ext.trans HEP.out HE7.out) c4
                    obtain ⟨p1, p2⟩ := p
                    simp only at c5 c6
                    have HNB := Lib.hid (show ∀ nb : Bool, (nb = true ↔ (p1, p2) = (q1, q2)) → (nb = true ↔ ∃ j, j < m + 1 ∧ fromP ps j = fromP hs k) from fun nb hnb => by
                      rw [hnb]
                      constructor
                      · intro e; exact ⟨m, by omega, by rw [HP.out, HQ.out]; exact e⟩
                      · rintro ⟨j, hj, e⟩
                        by_cases g : j = m
                        · rw [g, HP.out, HQ.out] at e; exact e
                        · exact absurd (HBB.out.2 ⟨j, by omega, e⟩) (by decide))
                    clear hp
                    by_cases h1 : p1 = q1
                    · subst h1
                      by_cases h2 : p2 = q2
                      · subst h2
                        go_wp2_with fail
                        go_quiet (fail)
                        go_wp2
                        all_goals exact ⟨⟨m + 1, true, by omega, by simp, rfl, HNB.out true (by simp), ext_drewN HE7.out _⟩, by simp [intOf]; omega⟩
                      · have hz : (p2 == q2) = false := by simpa using h2
                        have HN2 := Lib.hid (HNB.out false (by simp [h2]))
                        clear h2
                        go_wp2_with fail
                        go_quiet (fail)
                        go_wp2
                        all_goals exact ⟨⟨m + 1, false, by omega, by simp, rfl, HN2.out, ext_drewN HE7.out _⟩, by simp [intOf]; omega⟩
                    · have hz : (p1 == q1) = false := by simpa using h1
                      have HN2 := Lib.hid (HNB.out false (by simp [h1]))
                      clear h1
                      go_wp2_with fail
                      go_quiet (fail)
                      go_wp2
                      all_goals exact ⟨⟨m + 1, false, by omega, by simp, rfl, HN2.out, ext_drewN HE7.out _⟩, by simp [intOf]; omega⟩
                · have hbt : b = true := HBB.out.2 (by
                    obtain ⟨j, hj, e⟩ := mem_from (HMM.out k hlt)
                    exact ⟨j, by omega, e⟩)
                  subst hbt
                  have HE8 := Lib.hid (Ext.trans (Ext.trans HE6.out HEP.out) HE7.out)
                  have HEP9 := Lib.hid HEP.out
                  have HE79 := Lib.hid HE7.out
                  clear c3 c4 HBB HE7 HEP
                  obtain ⟨j, hj⟩ : ∃ j, j = pickAt hs t k := ⟨_, rfl⟩
                  have hX := pick_num hs HT.out (k := k) (by omega) hn3
                  rw [← hj] at hX
                  have hjl : j < hs.length := by rw [hj]; exact Nat.mod_lt _ (by omega)
                  obtain ⟨z, hz⟩ := getElem?_len hjl
                  obtain ⟨b4, o4, e4, c5, c6⟩ := HB.out j z hz
                  obtain ⟨rfl, rfl⟩ : b3 = b4 ∧ o3 = o4 := by injection e4 with e4; injection e4 with e5 e6 e7; exact ⟨e5, e6⟩
                  have HW := Lib.hid (Ext.trans HE23.out HE8.out)
                  replace c5 := Ext.cell HW.out c5
                  replace c6 := Ext.cell HW.out c6
                  have HNX := Lib.hid (show pickL hs t (k + 1) = pickL hs t k ++ [z] by rw [pickL_succ, ← hj, fromP_of hz])
                  have HO9 := Lib.hid (show wr.ownsRow w3.heap.size 31 2 _ k (cellsOf (pickL hs t k)) from ownsRow_ext HO.out (Ext.trans HEP9.out HE79.out))
                  obtain ⟨z1, z2⟩ := z
                  simp only at c5 c6
                  obtain ⟨a', cap', rfl⟩ := own_any HO9.out
                  obtain ⟨i0, hi, hz0_, hz1, hz2⟩ := info_parts info31
                  have HI := Lib.hid hi
                  have HZ0 := Lib.hid hz0_
                  have HZ1 := Lib.hid hz1
                  have HZ2 := Lib.hid hz2
                  have hsz9 := HE8.out.size
                  have hob : ∀ j, Value.ownBlock (.slice a' k cap') = some j → w3.heap.size ≤ j := fun j hj => own_block HO9.out hj
                  have hbw := cell_lt c5
                  clear hi hz0_ hz1 hz2 hz e4 hj
                  go_wp2_with (at_builtin; (refine wpList_append_own _ rfl _ _ 22 rfl w3.heap.size 31 i0 (.agg #[.int .i64 0, .int .i64 0]) 2 16 Try.underlying22 HI.out HZ0.out HZ1.out HZ2.out rfl (by decide) _ _ _ rfl (ownsRow_ext HO9.out (Ext.alloc (Ext.refl wr) (.cells #[.int .i64 z1, .int .i64 z2] 31))) ⟨wr.heap.size, 0, none⟩ 1 1 [.int .i64 z1, .int .i64 z2] rfl rfl (fun j u h => cell_two_new wr _ _ 31 j u h) (by simp [Value.oneCell']) (by unfold maxLen; omega) (by omega) (by simp; omega) ?_; intro v' w' hown' hgrow hnil; obtain ⟨g', cap'', rfl⟩ := ownsRow_succ hown'; have HO10 := Lib.hid hown'; have HG10 := Lib.hid hgrow; clear hown' hgrow hnil))
                  have HE10 := Lib.hid (show Ext w3 w' from Below.grown (Ext.alloc HE8.out (.cells #[.int .i64 z1, .int .i64 z2] 31)) HG10.out (by have := HE8.out.size; simp; omega) (fun j e => hob j e))
                  refine ⟨⟨k + 1, by omega, by (try simp) <;> (try omega), ?_, HE10.out⟩, by (try simp [intOf]) <;> (try omega)⟩
                  rw [HNX.out, cellsOf_append]
                  exact HO10.out
            · obtain rfl : k = hs.length := by omega
              obtain ⟨a', cap', e', _, _, hP⟩ := HB3.out.ext HE6.out
              obtain ⟨rfl, rfl⟩ : a2 = a' ∧ c2 = cap' := by injection e' with e1 e2 e3; exact ⟨e1, e3⟩
              rcases hP with h0 | ⟨b1, o1, rfl, hP⟩
              · rw [h0] at hn3; simp at hn3
              · have HP := Lib.hid hP
                obtain ⟨al, caps, rfl⟩ := own_any HO.out
                obtain ⟨i0, hi, hz0_, hz1, hz2⟩ := info_parts info31
                have HI := Lib.hid hi
                have HZ0 := Lib.hid hz0_
                have HZ1 := Lib.hid hz1
                have HZ2 := Lib.hid hz2
                clear hi hz0_ hz1 hz2 hP e'
                have hlt6 : b1 < wr.heap.size := by
                  obtain ⟨q, hq⟩ := getElem?_len (show 0 < hs.length by omega)
                  exact cell_lt (HP.out 0 q hq).1
                go_wp2_with (at_builtin; refine wpList_append_own _ rfl _ _ 22 rfl w3.heap.size 31 i0 (.agg #[.int .i64 0, .int .i64 0]) 2 16 Try.underlying22 HI.out HZ0.out HZ1.out HZ2.out rfl (by decide) _ _ _ rfl HO.out ⟨b1, o1, none⟩ hs.length c2 (cellsOf hs) rfl (cellsOf_length hs) (pts_cells HP.out) cellsOf_one (by unfold maxLen; omega) (by omega) HE6.out.size ?_; intro v' w' hown' hgrow hnil; have HO4 := Lib.hid hown'; have HG4 := Lib.hid hgrow; clear hown' hgrow hnil)
                have HE7 := Lib.hid (show Ext w3 w' from Below.grown HE6.out HG4.out HE6.out.size (fun j e => own_block HO.out e))
                have hLl : (pickL hs t hs.length ++ hs).length = hs.length + hs.length := by rw [List.length_append, pickL_length]
                have hL : Vecs w' v' (pickL hs t hs.length ++ hs) := vecs_own (base := w3.heap.size) (by rw [hLl, cellsOf_append]; exact HO4.out) (by rw [hLl]; omega)
                refine (Hull_c _ _ w' hL).mono ?_
                rintro e w5 ⟨r5, er5, ts, rfl, hH5, hr5, hE5⟩
                obtain ⟨rfl, rfl⟩ := hull_again hH5 HOK.out (by rw [hLl]; omega) (pickL_mem (by omega) t _)
                have HR5 := Lib.hid hr5
                have HE8 := Lib.hid (Ext.trans HE7.out hE5)
                clear hL hLl hH5 hr5 hE5
                go_wp2_with fail
                refine (same_c _ _ ts ts w5 HR5.out (HB3.out.ext HE8.out)).mono ?_
                rintro e w6 ⟨rfl, hE⟩
                rw [decide_eq_true (rfl : ts = ts)]
                go_wp2_with fail
                refine (alive_c w6).mono ?_
                rintro e wi ⟨rfl, hE2⟩
                go_wp2
                go_ret
                exact ⟨ret_bool (by simp), Ext.trans HE3.out (Ext.trans HE8.out (Ext.trans hE hE2))⟩
    · have hs0 : hs = [] := by
        rcases HH.out with ⟨_, h, _⟩ | ⟨h, _⟩
        · exact h
        · exact absurd h k0
      subst hs0
      have hk0 : (er == 0) = false := by simpa using k0
      go_wp2_with fail
      refine (alive_c w2).mono ?_
      rintro e wi ⟨rfl, hE⟩
      go_wp2
      go_ret
      exact ⟨ret_bool (by simp), Ext.trans HE2.out hE⟩
  · rw [decide_eq_false hf1]
    go_wp2_with fail
    refine (alive_c w).mono ?_
    rintro e wi ⟨rfl, hE2⟩
    go_wp2
    all_goals go_ret
    all_goals exact ⟨ret_bool (by simp), hE2⟩
end Go.Proofs.Ytnoacppfgckohaa
