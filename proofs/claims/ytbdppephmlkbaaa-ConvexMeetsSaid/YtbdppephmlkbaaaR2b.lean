import Derived.Test.YtbdppephmlkbaaaR1
import Derived.Test.YtbdppephmlkbaaaMB
namespace Go.Proofs.Ytbdppephmlkbaaa
set_option maxRecDepth 100000
open Go.RowKit Go.Shelf
attribute [local go_sem] Oper.semAt_some
/-! The reference's Valid. -/
theorem vecs_cells {w : World} {v : Value} {ps : List Pt} (h : Vecs w v ps) (h1 : 1 ≤ ps.length) : ∃ b o cap, v = .slice (some ⟨b, o, none⟩) ps.length cap ∧ ps.length ≤ cap ∧ cap ≤ 9223372036854775807 ∧
    ∀ k, k < ps.length → w.cell? ⟨b, o + k * 2, none⟩ = some (.int .i64 (fromP ps k).1) ∧ w.cell? ⟨b, o + k * 2 + 1, none⟩ = some (.int .i64 (fromP ps k).2) := by
  obtain ⟨a, cap, hv, hl, hm, hr⟩ := h.at
  obtain ⟨p, hp⟩ := getElem?_len (show 0 < ps.length by omega)
  obtain ⟨b, o, rfl, _⟩ := hr 0 p hp
  refine ⟨b, o, cap, hv, hl, hm, fun k hk => ?_⟩
  obtain ⟨q, hq⟩ := getElem?_len hk
  obtain ⟨b', o', e, h3, h4⟩ := hr k q hq
  injection e with e
  injection e with e1 e2
  subst e1 e2
  rw [fromP_of hq]
  exact ⟨h3, h4⟩
theorem low_lowB (a b : Pt) : lowB a.1 a.2 b.1 b.2 = true ↔ lowP a b := by
  unfold lowB lowP
  simp only [Bool.or_eq_true, Bool.and_eq_true, decide_eq_true_iff]
theorem twi_side (ps : List Pt) (z : Pt) (k : Nat) : twiZ (fromP ps k).1 (fromP ps k).2 (toP ps k).1 (toP ps k).2 z.1 z.2 = sideK ps z.1 z.2 k := tri_side ps z k
/-- what the reference asks of an edge -/
def edgeOk (ps : List Pt) (i : Nat) : Prop := (0 < i → lowP (fromP ps 0) (fromP ps i)) ∧ ∀ k, k < ps.length → k ≠ i → k ≠ (i + 1) % ps.length → 0 < sideK ps (fromP ps k).1 (fromP ps k).2 i
theorem valid_edges {ps : List Pt} (h3 : 3 ≤ ps.length) (h32 : ps.length ≤ 32) (hf : ps.any farP = false) : validB ps = true ↔ ∀ i, i < ps.length → edgeOk ps i := by
  constructor
  · intro h i hi
    have r := (valid_around h).refP
    exact ⟨fun h0 => r.low i h0 hi, fun k hk h1 h2 => r.left i k hi hk h1 h2⟩
  · intro h
    exact around_valid (RefP.around ⟨h3, fun i h0 hi => (h i hi).1 h0, fun i k hi hk h1 h2 => (h i hi).2 k hk h1 h2⟩) h32 hf
theorem valid_not {ps : List Pt} (h3 : 3 ≤ ps.length) (h32 : ps.length ≤ 32) (hf : ps.any farP = false) {i : Nat} (hi : i < ps.length) (h : ¬ edgeOk ps i) : validB ps = false := by
  cases hv : validB ps with
  | false => rfl
  | true => exact absurd ((valid_edges h3 h32 hf).1 hv i hi) h
theorem valid_len {ps : List Pt} (h : ¬ (3 ≤ ps.length ∧ ps.length ≤ 32)) : validB ps = false := by
  cases hv : validB ps with
  | false => rfl
  | true => exact absurd ⟨(valid_near hv).2.1, (valid_near hv).2.2⟩ h
theorem valid_far {ps : List Pt} {k : Nat} (hk : k < ps.length) (h : farB (fromP ps k).1 (fromP ps k).2 = true) : validB ps = false := by
  obtain ⟨q, hq⟩ := getElem?_len hk
  have hf : ps.any farP = true := any_at hq (by rw [fromP_of hq] at h; exact h)
  simp [validB, hf]
theorem near_from {ps : List Pt} (h : ∀ k, k < ps.length → farB (fromP ps k).1 (fromP ps k).2 = false) : ps.any farP = false := any_none fun j q hj hq => by
  have := h j hj
  rw [fromP_of hq] at this
  exact this
theorem mod_next {i n : Nat} (hi : i < n) : (i + 1) % n = if i + 1 < n then i + 1 else 0 := by
  split
  · rename_i h; exact Nat.mod_eq_of_lt h
  · rw [show i + 1 = n by omega, Nat.mod_self]
set_option maxHeartbeats 8000000 in
theorem rvalid_c (v : Value) (ps : List Pt) (w : World) (hv : Vecs w v ps) :
    Calls Try.prog 14 #[v] w fun e w' => e = .returned (.bool (validB ps)) ∧ Ext w w' := by
  by_cases h3 : ps.length < 3
  · have HF := Lib.hid (valid_len (ps := ps) (by omega))
    obtain ⟨a, cap, rfl, hl, hm, _⟩ := hv.at
    have h3z : (ps.length : Int) < 3 := by omega
    rw [HF.out]
    clear hv h3
    go_enter Try.func14, Try.ntmps14
    go_wp2_with fail
    go_ret
    exact ⟨rfl, Ext.refl _⟩
  by_cases h32 : 32 < ps.length
  · have HF := Lib.hid (valid_len (ps := ps) (by omega))
    obtain ⟨a, cap, rfl, hl, hm, _⟩ := hv.at
    have h3z : ¬ (ps.length : Int) < 3 := by omega
    have h4z : 32 < (ps.length : Int) := by omega
    rw [HF.out]
    clear hv h3 h32
    go_enter Try.func14, Try.ntmps14
    go_wp2_with fail
    go_ret
    exact ⟨rfl, Ext.refl _⟩
  obtain ⟨b, o, cap, rfl, hl, hm, hc⟩ := vecs_cells hv (by omega)
  have HC := Lib.hid hc
  have h3z : ¬ (ps.length : Int) < 3 := by omega
  have h4z : ¬ 32 < (ps.length : Int) := by omega
  have H3 := Lib.hid (show 3 ≤ ps.length ∧ ps.length ≤ 32 by omega)
  obtain ⟨n, hn⟩ : ∃ n, n = ps.length := ⟨_, rfl⟩
  have hn3 : 3 ≤ n ∧ n ≤ 32 := by omega
  rw [← hn] at HC h3z h4z hl ⊢
  have HN := Lib.hid hn
  clear hv hc h3 h32 hn
  go_enter Try.func14, Try.ntmps14
  go_wp2_with fail
  clear h3z h4z
  go_loopw [4] (fun iv wr => ∃ k : Nat, iv = .int .i64 (k : Int) ∧ k ≤ n ∧ (∀ j, j < k → farB (fromP ps j).1 (fromP ps j).2 = false) ∧ Ext w wr) (fun iv _ => n - (intOf iv).toNat)
  case atStart => exact ⟨0, rfl, Nat.zero_le _, fun j hj => by omega, Ext.refl _⟩
  case round =>
    rename World => wr
    obtain ⟨k, rfl, hk, hall, hE⟩ := hrel
    have HALL := Lib.hid hall
    have HE := Lib.hid hE
    clear hall hE
    by_cases hlt : k < n
    · obtain ⟨c1, c2⟩ := HC.out k hlt
      have c1 := Ext.cell HE.out c1
      have c2 := Ext.cell HE.out c2
      have k1 := cell_lt c1
      obtain ⟨x, hx⟩ : ∃ x, x = (fromP ps k).1 := ⟨_, rfl⟩
      obtain ⟨y, hy⟩ : ∃ y, y = (fromP ps k).2 := ⟨_, rfl⟩
      rw [← hx] at c1
      rw [← hy] at c2
      have HX := Lib.hid hx
      have HY := Lib.hid hy
      clear hx hy
      have hkz : (k : Int) < (n : Int) := by omega
      go_wp2_with fail
      refine (good_c x y _).mono ?_
      rintro e w2 ⟨rfl, hE⟩
      have HE2 := Lib.hid (Ext.trans HE.out hE)
      clear hE c1 c2 k1
      cases hf : farB x y with
      | true =>
        have HF := Lib.hid (show validB ps = false from valid_far (k := k) (by have := HN.out; omega) (by rw [← HX.out, ← HY.out]; exact hf))
        clear hf
        go_wp2_with fail
        go_ret
        exact ⟨ret_bool HF.out.symm, HE2.out⟩
      | false =>
        have HT := Lib.hid (show ∀ j, j < k + 1 → farB (fromP ps j).1 (fromP ps j).2 = false from fun j hj => by
          by_cases e : j = k
          · rw [e, ← HX.out, ← HY.out]; exact hf
          · exact HALL.out j (by omega))
        clear hf
        go_wp2_with fail
        exact ⟨⟨k + 1, by simp, by omega, HT.out, HE2.out⟩, by simp [intOf]; omega⟩
    · have hkz : ¬ (k : Int) < (n : Int) := by omega
      have HNF := Lib.hid (near_from (ps := ps) fun j hj => HALL.out j (by have := HN.out; omega))
      have HNEAR := Lib.hid (show ∀ j, j < n → -1000 ≤ (fromP ps j).1 ∧ (fromP ps j).1 ≤ 1000 ∧ -1000 ≤ (fromP ps j).2 ∧ (fromP ps j).2 ≤ 1000 from fun j hj => far_in (HALL.out j (by omega)))
      clear hlt
      go_wp2_with fail
      go_loopw [5] (fun iv wq => ∃ i : Nat, iv = .int .i64 (i : Int) ∧ i ≤ n ∧ (∀ j, j < i → edgeOk ps j) ∧ Ext w wq) (fun iv _ => n - (intOf iv).toNat)
      case atStart => exact ⟨0, rfl, Nat.zero_le _, fun j hj => by omega, HE.out⟩
      case round =>
        rename World => wq
        obtain ⟨i, rfl, hi, hall, hE⟩ := hrel
        have HALQ := Lib.hid hall
        have HEq := Lib.hid hE
        clear hall hE
        by_cases hil : i < n
        · obtain ⟨c1, c2⟩ := HC.out i hil
          obtain ⟨c3, c4⟩ := HC.out 0 (by omega)
          obtain ⟨x, hx⟩ : ∃ x, x = (fromP ps i).1 := ⟨_, rfl⟩
          obtain ⟨y, hy⟩ : ∃ y, y = (fromP ps i).2 := ⟨_, rfl⟩
          obtain ⟨x0, hx0⟩ : ∃ x, x = (fromP ps 0).1 := ⟨_, rfl⟩
          obtain ⟨y0, hy0⟩ : ∃ y, y = (fromP ps 0).2 := ⟨_, rfl⟩
          rw [← hx] at c1
          rw [← hy] at c2
          rw [← hx0] at c3
          rw [← hy0] at c4
          rw [Nat.zero_mul, Nat.add_zero] at c3 c4
          have D1 := Lib.hid c1
          have D2 := Lib.hid c2
          have C1 := Lib.hid (Ext.cell HEq.out c1)
          have C2 := Lib.hid (Ext.cell HEq.out c2)
          have C3 := Lib.hid (Ext.cell HEq.out c3)
          have C4 := Lib.hid (Ext.cell HEq.out c4)
          have hxb := HNEAR.out i hil
          rw [← hx, ← hy] at hxb
          have HX := Lib.hid hx
          have HY := Lib.hid hy
          have HLOW := Lib.hid (show lowB x0 y0 x y = true ↔ lowP (fromP ps 0) (fromP ps i) from by rw [hx, hy, hx0, hy0]; exact low_lowB _ _)
          have HLW := Lib.hid (fun W => lower_c x0 y0 x y W)
          clear hx hy hx0 hy0 c1 c2 c3 c4
          have hilz : (i : Int) < (n : Int) := by omega
          have hn0 : 0 < n := by omega
          obtain ⟨j, hj⟩ : ∃ j, j = (i + 1) % n := ⟨_, rfl⟩
          have hjn : j < n := by rw [hj]; exact Nat.mod_lt _ (by omega)
          have hjm : ((i : Int) + 1) % (n : Int) = (j : Int) := by rw [hj, Int.natCast_emod, Int.natCast_add]; rfl
          have hjt : ((i : Int) + 1).tmod (n : Int) = (j : Int) := by rw [Int.tmod_eq_emod_of_nonneg (by omega)]; exact hjm
          have HJ := Lib.hid hj
          clear hj
          have hnz : ¬ (n : Int) = 0 := by omega
          by_cases hi0 : 0 < i
          · have HI0 := Lib.hid hi0
            cases hlb : lowB x0 y0 x y with
            | false =>
              have HF := Lib.hid (show validB ps = false from valid_not (i := i) (by have := HN.out; omega) (by have := HN.out; omega) HNF.out (by have := HN.out; omega) (fun h => by
                have h2 := HLOW.out.2 (h.1 hi0)
                rw [hlb] at h2; cases h2))
              rw [hlb] at HLW
              clear hlb
              go_wp2_with fail
              refine wp_region_stable [⟨[], none⟩, ⟨[(0, 32)], none⟩, ⟨[(1, 33)], none⟩, ⟨[(2, 34)], some (34, true)⟩, ⟨[(3, 35), (2, 34)], some (34, true)⟩, ⟨[(4, 36), (2, 34)], some (34, true)⟩, ⟨[(2, 34)], some (34, true)⟩, ⟨[(2, 34)], some (34, true)⟩, ⟨[(6, 38), (7, 39), (2, 34)], some (34, true)⟩, ⟨[(8, 40), (2, 34)], some (34, true)⟩, ⟨[(5, 37), (9, 41), (2, 34)], some (34, true)⟩, ⟨[(10, 42), (2, 34)], some (34, true)⟩, ⟨[(2, 34), (11, 43)], none⟩] (fun x y => Below x.heap.size x y) (MPat [MP.eq (.int .i64 (i : Int)), MP.eq (.bool true), MP.eq (.bool true), MP.eq (.slice (some ⟨b, o, none⟩) n cap), MP.eq (.pointer (some ⟨b, o, none⟩)), MP.eq (vecV x0 y0), MP.eq (.slice (some ⟨b, o, none⟩) n cap), MP.eq (.int .i64 (i : Int)), MP.eq (.pointer (some ⟨b, o + i * 2, none⟩)), MP.eq (vecV x y), MP.eq (.bool false), MP.eq (.bool true), MP.eq (.bool true)]) (by kernel_rfl) (fun _ _ _ h k => Ext.trans h k) (fun _ => Below.refl _ _) (fun x => (Below.refl x.heap.size x).drew) (MPat.mono _) (by kernel_rfl) ?obs ?rest
              case obs =>
                refine ⟨?_, ?_, ?_, ?_, ?_, ?_, ?_, ?_, ?_, ?_, ?_, ?_, ?_, trivial⟩
                · intro ev W hf _ _ hst hd
                  have e5 : ev (.tmp 5) = .int .i64 (i : Int) := hf 5 (by kernel_rfl)
                  refine st_value (v := .int .i64 (i : Int)) ?_ (Below.refl _ _) ?_
                  · simp [execOp, go_sem, e5]
                  · exact rfl
                · intro ev W hf hcst _ hst hd
                  obtain ⟨d32, _⟩ := hd
                  have e32 : ev (.tmp 32) = .int .i64 (i : Int) := d32
                  refine st_value (v := .bool true) ?_ (Below.refl _ _) ?_
                  · simp [execOp, go_sem, e32, hcst, HI0.out]
                  · exact rfl
                · intro ev W hf _ _ hst hd
                  obtain ⟨d33, _⟩ := hd
                  have e33 : ev (.tmp 33) = .bool true := d33
                  refine st_value (v := .bool true) ?_ (Below.refl _ _) ?_
                  · simp [execOp, go_sem, e33]
                  · exact rfl
                · intro ev W hf _ _ hst hd
                  obtain ⟨d34, _⟩ := hd
                  have e0 : ev (.tmp 0) = .slice (some ⟨b, o, none⟩) n cap := hf 0 (by kernel_rfl)
                  have e34 : ev (.tmp 34) = .bool true := d34
                  refine ⟨fun _ => ?_, fun hne => absurd e34 hne⟩
                  refine st_value (v := .slice (some ⟨b, o, none⟩) n cap) ?_ (Below.refl _ _) ?_
                  · simp [execOp, go_sem, e0]
                  · exact rfl
                · intro ev W hf hcst _ hst hd
                  obtain ⟨d35, d34, _⟩ := hd
                  have e35 : ev (.tmp 35) = .slice (some ⟨b, o, none⟩) n cap := d35
                  have e34 : ev (.tmp 34) = .bool true := d34
                  refine ⟨fun _ => ?_, fun hne => absurd e34 hne⟩
                  refine st_value (v := .pointer (some ⟨b, o, none⟩)) ?_ (Below.refl _ _) ?_
                  · simp [execOp, go_sem, e35, hcst, hn0]
                  · exact rfl
                · intro ev W hf _ _ hst hd
                  obtain ⟨d36, d34, _⟩ := hd
                  have e36 : ev (.tmp 36) = .pointer (some ⟨b, o, none⟩) := d36
                  have e34 : ev (.tmp 34) = .bool true := d34
                  refine ⟨fun _ => ?_, fun hne => absurd e34 hne⟩
                  have q0 := Ext.cell hst C3.out
                  have q1 := Ext.cell hst C4.out
                  refine st_value (v := vecV x0 y0) ?_ (Below.refl _ _) ?_
                  · simp [execOp, go_sem, e36, q0, q1, vecV]
                  · exact rfl
                · intro ev W hf _ _ hst hd
                  obtain ⟨d34, _⟩ := hd
                  have e0 : ev (.tmp 0) = .slice (some ⟨b, o, none⟩) n cap := hf 0 (by kernel_rfl)
                  have e34 : ev (.tmp 34) = .bool true := d34
                  refine ⟨fun _ => ?_, fun hne => absurd e34 hne⟩
                  refine st_value (v := .slice (some ⟨b, o, none⟩) n cap) ?_ (Below.refl _ _) ?_
                  · simp [execOp, go_sem, e0]
                  · exact rfl
                · intro ev W hf _ _ hst hd
                  obtain ⟨d34, _⟩ := hd
                  have e5 : ev (.tmp 5) = .int .i64 (i : Int) := hf 5 (by kernel_rfl)
                  have e34 : ev (.tmp 34) = .bool true := d34
                  refine ⟨fun _ => ?_, fun hne => absurd e34 hne⟩
                  refine st_value (v := .int .i64 (i : Int)) ?_ (Below.refl _ _) ?_
                  · simp [execOp, go_sem, e5]
                  · exact rfl
                · intro ev W hf _ _ hst hd
                  obtain ⟨d38, d39, d34, _⟩ := hd
                  have e38 : ev (.tmp 38) = .slice (some ⟨b, o, none⟩) n cap := d38
                  have e39 : ev (.tmp 39) = .int .i64 (i : Int) := d39
                  have e34 : ev (.tmp 34) = .bool true := d34
                  refine ⟨fun _ => ?_, fun hne => absurd e34 hne⟩
                  refine st_value (v := .pointer (some ⟨b, o + i * 2, none⟩)) ?_ (Below.refl _ _) ?_
                  · simp [execOp, go_sem, e38, e39, hil]
                  · exact rfl
                · intro ev W hf _ _ hst hd
                  obtain ⟨d40, d34, _⟩ := hd
                  have e40 : ev (.tmp 40) = .pointer (some ⟨b, o + i * 2, none⟩) := d40
                  have e34 : ev (.tmp 34) = .bool true := d34
                  refine ⟨fun _ => ?_, fun hne => absurd e34 hne⟩
                  have q0 := Ext.cell hst C1.out
                  have q1 := Ext.cell hst C2.out
                  refine st_value (v := vecV x y) ?_ (Below.refl _ _) ?_
                  · simp [execOp, go_sem, e40, q0, q1, vecV]
                  · exact rfl
                · intro ev W hf _ hfn hst hd
                  obtain ⟨d37, d41, d34, _⟩ := hd
                  have e37 : ev (.tmp 37) = vecV x0 y0 := d37
                  have e41 : ev (.tmp 41) = vecV x y := d41
                  have e34 : ev (.tmp 34) = .bool true := d34
                  refine ⟨fun _ => ?_, fun hne => absurd e34 hne⟩
                  refine st_call (f := 49) (args := #[vecV x0 y0, vecV x y]) (by simp [execOp, go_sem, hfn, e37, e41]) (HLW.out W) (fun _ _ => rfl)
                · intro ev W hf _ _ hst hd
                  obtain ⟨d42, d34, _⟩ := hd
                  have e42 : ev (.tmp 42) = .bool false := d42
                  have e34 : ev (.tmp 34) = .bool true := d34
                  refine ⟨fun _ => ?_, fun hne => absurd e34 hne⟩
                  refine st_value (v := .bool true) ?_ (Below.refl _ _) ?_
                  · simp [execOp, go_sem, e42]
                  · exact rfl
                · intro ev W hf hcst _ hst hd
                  obtain ⟨d34, d43, _⟩ := hd
                  have e34 : ev (.tmp 34) = .bool true := d34
                  have e43 : ev (.tmp 43) = .bool true := d43
                  refine st_value (v := .bool true) ?_ (Below.refl _ _) ?_
                  · simp [execOp, go_sem, e34, e43, hcst]
                  · exact rfl
              case rest =>
                intro vs w3 hl hst hg
                have HE3 := Lib.hid hst
                have hvs : vs = [.int .i64 (i : Int), .bool true, .bool true, .slice (some ⟨b, o, none⟩) n cap, .pointer (some ⟨b, o, none⟩), vecV x0 y0, .slice (some ⟨b, o, none⟩) n cap, .int .i64 (i : Int), .pointer (some ⟨b, o + i * 2, none⟩), vecV x y, .bool false, .bool true, .bool true] := list_of hl (fun i u hu => by
                  match i, hu with
                  | 0, hu => exact (congrArg some (hg 0 u hu)).symm
                  | 1, hu => exact (congrArg some (hg 1 u hu)).symm
                  | 2, hu => exact (congrArg some (hg 2 u hu)).symm
                  | 3, hu => exact (congrArg some (hg 3 u hu)).symm
                  | 4, hu => exact (congrArg some (hg 4 u hu)).symm
                  | 5, hu => exact (congrArg some (hg 5 u hu)).symm
                  | 6, hu => exact (congrArg some (hg 6 u hu)).symm
                  | 7, hu => exact (congrArg some (hg 7 u hu)).symm
                  | 8, hu => exact (congrArg some (hg 8 u hu)).symm
                  | 9, hu => exact (congrArg some (hg 9 u hu)).symm
                  | 10, hu => exact (congrArg some (hg 10 u hu)).symm
                  | 11, hu => exact (congrArg some (hg 11 u hu)).symm
                  | 12, hu => exact (congrArg some (hg 12 u hu)).symm
                  | n + 13, hu => exact absurd (lt_len hu) (by rw [hl]; simp))
                clear hg hst hl
                subst hvs
                simp only [putAll, Act.put, List.dropLast, List.setIfInBounds_toArray, List.set_cons_zero, List.set_cons_succ]
                go_wp2_with fail
                go_ret
                exact ⟨ret_bool HF.out.symm, Ext.trans HEq.out HE3.out⟩
            | true =>
              have HL := Lib.hid (show 0 < i → lowP (fromP ps 0) (fromP ps i) from fun _ => HLOW.out.1 hlb)
              rw [hlb] at HLW
              clear hlb
              go_wp2_with fail
              refine wp_region_stable [⟨[], none⟩, ⟨[(0, 32)], none⟩, ⟨[(1, 33)], none⟩, ⟨[(2, 34)], some (34, true)⟩, ⟨[(3, 35), (2, 34)], some (34, true)⟩, ⟨[(4, 36), (2, 34)], some (34, true)⟩, ⟨[(2, 34)], some (34, true)⟩, ⟨[(2, 34)], some (34, true)⟩, ⟨[(6, 38), (7, 39), (2, 34)], some (34, true)⟩, ⟨[(8, 40), (2, 34)], some (34, true)⟩, ⟨[(5, 37), (9, 41), (2, 34)], some (34, true)⟩, ⟨[(10, 42), (2, 34)], some (34, true)⟩, ⟨[(2, 34), (11, 43)], none⟩] (fun x y => Below x.heap.size x y) (MPat [MP.eq (.int .i64 (i : Int)), MP.eq (.bool true), MP.eq (.bool true), MP.eq (.slice (some ⟨b, o, none⟩) n cap), MP.eq (.pointer (some ⟨b, o, none⟩)), MP.eq (vecV x0 y0), MP.eq (.slice (some ⟨b, o, none⟩) n cap), MP.eq (.int .i64 (i : Int)), MP.eq (.pointer (some ⟨b, o + i * 2, none⟩)), MP.eq (vecV x y), MP.eq (.bool true), MP.eq (.bool false), MP.eq (.bool false)]) (by kernel_rfl) (fun _ _ _ h k => Ext.trans h k) (fun _ => Below.refl _ _) (fun x => (Below.refl x.heap.size x).drew) (MPat.mono _) (by kernel_rfl) ?obs ?rest
              case obs =>
                refine ⟨?_, ?_, ?_, ?_, ?_, ?_, ?_, ?_, ?_, ?_, ?_, ?_, ?_, trivial⟩
                · intro ev W hf _ _ hst hd
                  have e5 : ev (.tmp 5) = .int .i64 (i : Int) := hf 5 (by kernel_rfl)
                  refine st_value (v := .int .i64 (i : Int)) ?_ (Below.refl _ _) ?_
                  · simp [execOp, go_sem, e5]
                  · exact rfl
                · intro ev W hf hcst _ hst hd
                  obtain ⟨d32, _⟩ := hd
                  have e32 : ev (.tmp 32) = .int .i64 (i : Int) := d32
                  refine st_value (v := .bool true) ?_ (Below.refl _ _) ?_
                  · simp [execOp, go_sem, e32, hcst, HI0.out]
                  · exact rfl
                · intro ev W hf _ _ hst hd
                  obtain ⟨d33, _⟩ := hd
                  have e33 : ev (.tmp 33) = .bool true := d33
                  refine st_value (v := .bool true) ?_ (Below.refl _ _) ?_
                  · simp [execOp, go_sem, e33]
                  · exact rfl
                · intro ev W hf _ _ hst hd
                  obtain ⟨d34, _⟩ := hd
                  have e0 : ev (.tmp 0) = .slice (some ⟨b, o, none⟩) n cap := hf 0 (by kernel_rfl)
                  have e34 : ev (.tmp 34) = .bool true := d34
                  refine ⟨fun _ => ?_, fun hne => absurd e34 hne⟩
                  refine st_value (v := .slice (some ⟨b, o, none⟩) n cap) ?_ (Below.refl _ _) ?_
                  · simp [execOp, go_sem, e0]
                  · exact rfl
                · intro ev W hf hcst _ hst hd
                  obtain ⟨d35, d34, _⟩ := hd
                  have e35 : ev (.tmp 35) = .slice (some ⟨b, o, none⟩) n cap := d35
                  have e34 : ev (.tmp 34) = .bool true := d34
                  refine ⟨fun _ => ?_, fun hne => absurd e34 hne⟩
                  refine st_value (v := .pointer (some ⟨b, o, none⟩)) ?_ (Below.refl _ _) ?_
                  · simp [execOp, go_sem, e35, hcst, hn0]
                  · exact rfl
                · intro ev W hf _ _ hst hd
                  obtain ⟨d36, d34, _⟩ := hd
                  have e36 : ev (.tmp 36) = .pointer (some ⟨b, o, none⟩) := d36
                  have e34 : ev (.tmp 34) = .bool true := d34
                  refine ⟨fun _ => ?_, fun hne => absurd e34 hne⟩
                  have q0 := Ext.cell hst C3.out
                  have q1 := Ext.cell hst C4.out
                  refine st_value (v := vecV x0 y0) ?_ (Below.refl _ _) ?_
                  · simp [execOp, go_sem, e36, q0, q1, vecV]
                  · exact rfl
                · intro ev W hf _ _ hst hd
                  obtain ⟨d34, _⟩ := hd
                  have e0 : ev (.tmp 0) = .slice (some ⟨b, o, none⟩) n cap := hf 0 (by kernel_rfl)
                  have e34 : ev (.tmp 34) = .bool true := d34
                  refine ⟨fun _ => ?_, fun hne => absurd e34 hne⟩
                  refine st_value (v := .slice (some ⟨b, o, none⟩) n cap) ?_ (Below.refl _ _) ?_
                  · simp [execOp, go_sem, e0]
                  · exact rfl
                · intro ev W hf _ _ hst hd
                  obtain ⟨d34, _⟩ := hd
                  have e5 : ev (.tmp 5) = .int .i64 (i : Int) := hf 5 (by kernel_rfl)
                  have e34 : ev (.tmp 34) = .bool true := d34
                  refine ⟨fun _ => ?_, fun hne => absurd e34 hne⟩
                  refine st_value (v := .int .i64 (i : Int)) ?_ (Below.refl _ _) ?_
                  · simp [execOp, go_sem, e5]
                  · exact rfl
                · intro ev W hf _ _ hst hd
                  obtain ⟨d38, d39, d34, _⟩ := hd
                  have e38 : ev (.tmp 38) = .slice (some ⟨b, o, none⟩) n cap := d38
                  have e39 : ev (.tmp 39) = .int .i64 (i : Int) := d39
                  have e34 : ev (.tmp 34) = .bool true := d34
                  refine ⟨fun _ => ?_, fun hne => absurd e34 hne⟩
                  refine st_value (v := .pointer (some ⟨b, o + i * 2, none⟩)) ?_ (Below.refl _ _) ?_
                  · simp [execOp, go_sem, e38, e39, hil]
                  · exact rfl
                · intro ev W hf _ _ hst hd
                  obtain ⟨d40, d34, _⟩ := hd
                  have e40 : ev (.tmp 40) = .pointer (some ⟨b, o + i * 2, none⟩) := d40
                  have e34 : ev (.tmp 34) = .bool true := d34
                  refine ⟨fun _ => ?_, fun hne => absurd e34 hne⟩
                  have q0 := Ext.cell hst C1.out
                  have q1 := Ext.cell hst C2.out
                  refine st_value (v := vecV x y) ?_ (Below.refl _ _) ?_
                  · simp [execOp, go_sem, e40, q0, q1, vecV]
                  · exact rfl
                · intro ev W hf _ hfn hst hd
                  obtain ⟨d37, d41, d34, _⟩ := hd
                  have e37 : ev (.tmp 37) = vecV x0 y0 := d37
                  have e41 : ev (.tmp 41) = vecV x y := d41
                  have e34 : ev (.tmp 34) = .bool true := d34
                  refine ⟨fun _ => ?_, fun hne => absurd e34 hne⟩
                  refine st_call (f := 49) (args := #[vecV x0 y0, vecV x y]) (by simp [execOp, go_sem, hfn, e37, e41]) (HLW.out W) (fun _ _ => rfl)
                · intro ev W hf _ _ hst hd
                  obtain ⟨d42, d34, _⟩ := hd
                  have e42 : ev (.tmp 42) = .bool true := d42
                  have e34 : ev (.tmp 34) = .bool true := d34
                  refine ⟨fun _ => ?_, fun hne => absurd e34 hne⟩
                  refine st_value (v := .bool false) ?_ (Below.refl _ _) ?_
                  · simp [execOp, go_sem, e42]
                  · exact rfl
                · intro ev W hf hcst _ hst hd
                  obtain ⟨d34, d43, _⟩ := hd
                  have e34 : ev (.tmp 34) = .bool true := d34
                  have e43 : ev (.tmp 43) = .bool false := d43
                  refine st_value (v := .bool false) ?_ (Below.refl _ _) ?_
                  · simp [execOp, go_sem, e34, e43, hcst]
                  · exact rfl
              case rest =>
                intro vs w3 hl hst hg
                have HE3 := Lib.hid hst
                have hvs : vs = [.int .i64 (i : Int), .bool true, .bool true, .slice (some ⟨b, o, none⟩) n cap, .pointer (some ⟨b, o, none⟩), vecV x0 y0, .slice (some ⟨b, o, none⟩) n cap, .int .i64 (i : Int), .pointer (some ⟨b, o + i * 2, none⟩), vecV x y, .bool true, .bool false, .bool false] := list_of hl (fun i u hu => by
                  match i, hu with
                  | 0, hu => exact (congrArg some (hg 0 u hu)).symm
                  | 1, hu => exact (congrArg some (hg 1 u hu)).symm
                  | 2, hu => exact (congrArg some (hg 2 u hu)).symm
                  | 3, hu => exact (congrArg some (hg 3 u hu)).symm
                  | 4, hu => exact (congrArg some (hg 4 u hu)).symm
                  | 5, hu => exact (congrArg some (hg 5 u hu)).symm
                  | 6, hu => exact (congrArg some (hg 6 u hu)).symm
                  | 7, hu => exact (congrArg some (hg 7 u hu)).symm
                  | 8, hu => exact (congrArg some (hg 8 u hu)).symm
                  | 9, hu => exact (congrArg some (hg 9 u hu)).symm
                  | 10, hu => exact (congrArg some (hg 10 u hu)).symm
                  | 11, hu => exact (congrArg some (hg 11 u hu)).symm
                  | 12, hu => exact (congrArg some (hg 12 u hu)).symm
                  | n + 13, hu => exact absurd (lt_len hu) (by rw [hl]; simp))
                clear hg hst hl
                subst hvs
                simp only [putAll, Act.put, List.dropLast, List.setIfInBounds_toArray, List.set_cons_zero, List.set_cons_succ]
                have HE2 := Lib.hid (Ext.trans HEq.out HE3.out)
                clear HE3
                go_wp2_with fail
                go_loopw [7] (fun kv wt => ∃ k : Nat, kv = .int .i64 (k : Int) ∧ k ≤ n ∧ (∀ q, q < k → q ≠ i → q ≠ j → 0 < sideK ps (fromP ps q).1 (fromP ps q).2 i) ∧ Ext w wt) (fun kv _ => n - (intOf kv).toNat)
                case atStart => exact ⟨0, rfl, Nat.zero_le _, fun q hq => by omega, HE2.out⟩
                case round =>
                  rename World => wt
                  obtain ⟨k, rfl, hk, hall, hE⟩ := hrel
                  have HALT := Lib.hid hall
                  have HEt := Lib.hid hE
                  clear hall hE
                  by_cases hkl : k < n
                  · have hklz : (k : Int) < (n : Int) := by omega
                    by_cases hki : k = i
                    · have hkib : ((k : Int) != (i : Int)) = false := by rw [hki]; simp
                      have HT := Lib.hid (show ∀ q, q < k + 1 → q ≠ i → q ≠ j → 0 < sideK ps (fromP ps q).1 (fromP ps q).2 i from fun q hq h1 h2 => HALT.out q (by omega) h1 h2)
                      clear hki
                      go_wp2_with fail
                      refine wp_region_stable [⟨[], none⟩, ⟨[], none⟩, ⟨[(0, 54), (1, 55)], none⟩, ⟨[(2, 56)], none⟩, ⟨[(3, 57)], some (57, true)⟩, ⟨[(3, 57)], some (57, true)⟩, ⟨[(4, 58), (5, 59), (3, 57)], some (57, true)⟩, ⟨[(3, 57), (6, 60)], none⟩, ⟨[(7, 61)], none⟩, ⟨[(8, 62)], some (62, true)⟩, ⟨[(8, 62)], some (62, true)⟩, ⟨[(9, 63), (10, 64), (8, 62)], some (62, true)⟩, ⟨[(11, 65), (8, 62)], some (62, true)⟩, ⟨[(8, 62)], some (62, true)⟩, ⟨[(8, 62)], some (62, true)⟩, ⟨[(13, 67), (14, 68), (8, 62)], some (62, true)⟩, ⟨[(15, 69), (8, 62)], some (62, true)⟩, ⟨[(8, 62)], some (62, true)⟩, ⟨[(8, 62)], some (62, true)⟩, ⟨[(17, 71), (18, 72), (8, 62)], some (62, true)⟩, ⟨[(19, 73), (8, 62)], some (62, true)⟩, ⟨[(12, 66), (16, 70), (20, 74), (8, 62)], some (62, true)⟩, ⟨[(21, 75), (8, 62)], some (62, true)⟩, ⟨[(8, 62), (22, 76)], none⟩] (fun x y => Below x.heap.size x y) (MPat [MP.eq (.int .i64 (k : Int)), MP.eq (.int .i64 (i : Int)), MP.eq (.bool false), MP.eq (.bool false), MP.eq (undef), MP.eq (undef), MP.eq (undef), MP.eq (.bool false), MP.eq (.bool false), MP.eq (undef), MP.eq (undef), MP.eq (undef), MP.eq (undef), MP.eq (undef), MP.eq (undef), MP.eq (undef), MP.eq (undef), MP.eq (undef), MP.eq (undef), MP.eq (undef), MP.eq (undef), MP.eq (undef), MP.eq (undef), MP.eq (.bool false)]) (by kernel_rfl) (fun _ _ _ h k => Ext.trans h k) (fun _ => Below.refl _ _) (fun x => (Below.refl x.heap.size x).drew) (MPat.mono _) (by kernel_rfl) ?obs ?rest
                      case obs =>
                        refine ⟨?_, ?_, ?_, ?_, ?_, ?_, ?_, ?_, ?_, ?_, ?_, ?_, ?_, ?_, ?_, ?_, ?_, ?_, ?_, ?_, ?_, ?_, ?_, ?_, trivial⟩
                        · intro ev W hf _ _ hst hd
                          have e7 : ev (.tmp 7) = .int .i64 (k : Int) := hf 7 (by kernel_rfl)
                          refine st_value (v := .int .i64 (k : Int)) ?_ (Below.refl _ _) ?_
                          · simp [execOp, go_sem, e7]
                          · exact rfl
                        · intro ev W hf _ _ hst hd
                          have e5 : ev (.tmp 5) = .int .i64 (i : Int) := hf 5 (by kernel_rfl)
                          refine st_value (v := .int .i64 (i : Int)) ?_ (Below.refl _ _) ?_
                          · simp [execOp, go_sem, e5]
                          · exact rfl
                        · intro ev W hf _ _ hst hd
                          obtain ⟨d54, d55, _⟩ := hd
                          have e54 : ev (.tmp 54) = .int .i64 (k : Int) := d54
                          have e55 : ev (.tmp 55) = .int .i64 (i : Int) := d55
                          refine st_value (v := .bool false) ?_ (Below.refl _ _) ?_
                          · simp [execOp, go_sem, e54, e55, hkib]
                          · exact rfl
                        · intro ev W hf _ _ hst hd
                          obtain ⟨d56, _⟩ := hd
                          have e56 : ev (.tmp 56) = .bool false := d56
                          refine st_value (v := .bool false) ?_ (Below.refl _ _) ?_
                          · simp [execOp, go_sem, e56]
                          · exact rfl
                        · intro ev W hf _ _ hst hd
                          obtain ⟨d57, _⟩ := hd
                          have e57 : ev (.tmp 57) = .bool false := d57
                          refine ⟨fun hh => ?_, fun _ => rfl⟩
                          rw [e57] at hh
                          simp at hh
                        · intro ev W hf _ _ hst hd
                          obtain ⟨d57, _⟩ := hd
                          have e57 : ev (.tmp 57) = .bool false := d57
                          refine ⟨fun hh => ?_, fun _ => rfl⟩
                          rw [e57] at hh
                          simp at hh
                        · intro ev W hf _ _ hst hd
                          obtain ⟨d58, d59, d57, _⟩ := hd
                          have e57 : ev (.tmp 57) = .bool false := d57
                          refine ⟨fun hh => ?_, fun _ => rfl⟩
                          rw [e57] at hh
                          simp at hh
                        · intro ev W hf hcst _ hst hd
                          obtain ⟨d57, d60, _⟩ := hd
                          have e57 : ev (.tmp 57) = .bool false := d57
                          have e60 : ev (.tmp 60) = undef := d60
                          refine st_value (v := .bool false) ?_ (Below.refl _ _) ?_
                          · simp [execOp, go_sem, e57, e60, hcst]
                          · exact rfl
                        · intro ev W hf _ _ hst hd
                          obtain ⟨d61, _⟩ := hd
                          have e61 : ev (.tmp 61) = .bool false := d61
                          refine st_value (v := .bool false) ?_ (Below.refl _ _) ?_
                          · simp [execOp, go_sem, e61]
                          · exact rfl
                        · intro ev W hf _ _ hst hd
                          obtain ⟨d62, _⟩ := hd
                          have e62 : ev (.tmp 62) = .bool false := d62
                          refine ⟨fun hh => ?_, fun _ => rfl⟩
                          rw [e62] at hh
                          simp at hh
                        · intro ev W hf _ _ hst hd
                          obtain ⟨d62, _⟩ := hd
                          have e62 : ev (.tmp 62) = .bool false := d62
                          refine ⟨fun hh => ?_, fun _ => rfl⟩
                          rw [e62] at hh
                          simp at hh
                        · intro ev W hf _ _ hst hd
                          obtain ⟨d63, d64, d62, _⟩ := hd
                          have e62 : ev (.tmp 62) = .bool false := d62
                          refine ⟨fun hh => ?_, fun _ => rfl⟩
                          rw [e62] at hh
                          simp at hh
                        · intro ev W hf _ _ hst hd
                          obtain ⟨d65, d62, _⟩ := hd
                          have e62 : ev (.tmp 62) = .bool false := d62
                          refine ⟨fun hh => ?_, fun _ => rfl⟩
                          rw [e62] at hh
                          simp at hh
                        · intro ev W hf _ _ hst hd
                          obtain ⟨d62, _⟩ := hd
                          have e62 : ev (.tmp 62) = .bool false := d62
                          refine ⟨fun hh => ?_, fun _ => rfl⟩
                          rw [e62] at hh
                          simp at hh
                        · intro ev W hf _ _ hst hd
                          obtain ⟨d62, _⟩ := hd
                          have e62 : ev (.tmp 62) = .bool false := d62
                          refine ⟨fun hh => ?_, fun _ => rfl⟩
                          rw [e62] at hh
                          simp at hh
                        · intro ev W hf _ _ hst hd
                          obtain ⟨d67, d68, d62, _⟩ := hd
                          have e62 : ev (.tmp 62) = .bool false := d62
                          refine ⟨fun hh => ?_, fun _ => rfl⟩
                          rw [e62] at hh
                          simp at hh
                        · intro ev W hf _ _ hst hd
                          obtain ⟨d69, d62, _⟩ := hd
                          have e62 : ev (.tmp 62) = .bool false := d62
                          refine ⟨fun hh => ?_, fun _ => rfl⟩
                          rw [e62] at hh
                          simp at hh
                        · intro ev W hf _ _ hst hd
                          obtain ⟨d62, _⟩ := hd
                          have e62 : ev (.tmp 62) = .bool false := d62
                          refine ⟨fun hh => ?_, fun _ => rfl⟩
                          rw [e62] at hh
                          simp at hh
                        · intro ev W hf _ _ hst hd
                          obtain ⟨d62, _⟩ := hd
                          have e62 : ev (.tmp 62) = .bool false := d62
                          refine ⟨fun hh => ?_, fun _ => rfl⟩
                          rw [e62] at hh
                          simp at hh
                        · intro ev W hf _ _ hst hd
                          obtain ⟨d71, d72, d62, _⟩ := hd
                          have e62 : ev (.tmp 62) = .bool false := d62
                          refine ⟨fun hh => ?_, fun _ => rfl⟩
                          rw [e62] at hh
                          simp at hh
                        · intro ev W hf _ _ hst hd
                          obtain ⟨d73, d62, _⟩ := hd
                          have e62 : ev (.tmp 62) = .bool false := d62
                          refine ⟨fun hh => ?_, fun _ => rfl⟩
                          rw [e62] at hh
                          simp at hh
                        · intro ev W hf _ _ hst hd
                          obtain ⟨d66, d70, d74, d62, _⟩ := hd
                          have e62 : ev (.tmp 62) = .bool false := d62
                          refine ⟨fun hh => ?_, fun _ => rfl⟩
                          rw [e62] at hh
                          simp at hh
                        · intro ev W hf _ _ hst hd
                          obtain ⟨d75, d62, _⟩ := hd
                          have e62 : ev (.tmp 62) = .bool false := d62
                          refine ⟨fun hh => ?_, fun _ => rfl⟩
                          rw [e62] at hh
                          simp at hh
                        · intro ev W hf hcst _ hst hd
                          obtain ⟨d62, d76, _⟩ := hd
                          have e62 : ev (.tmp 62) = .bool false := d62
                          have e76 : ev (.tmp 76) = undef := d76
                          refine st_value (v := .bool false) ?_ (Below.refl _ _) ?_
                          · simp [execOp, go_sem, e62, e76, hcst]
                          · exact rfl
                      case rest =>
                        intro vs w3 hl hst hg
                        have HE3 := Lib.hid hst
                        have hvs : vs = [.int .i64 (k : Int), .int .i64 (i : Int), .bool false, .bool false, undef, undef, undef, .bool false, .bool false, undef, undef, undef, undef, undef, undef, undef, undef, undef, undef, undef, undef, undef, undef, .bool false] := list_of hl (fun i u hu => by
                          match i, hu with
                          | 0, hu => exact (congrArg some (hg 0 u hu)).symm
                          | 1, hu => exact (congrArg some (hg 1 u hu)).symm
                          | 2, hu => exact (congrArg some (hg 2 u hu)).symm
                          | 3, hu => exact (congrArg some (hg 3 u hu)).symm
                          | 4, hu => exact (congrArg some (hg 4 u hu)).symm
                          | 5, hu => exact (congrArg some (hg 5 u hu)).symm
                          | 6, hu => exact (congrArg some (hg 6 u hu)).symm
                          | 7, hu => exact (congrArg some (hg 7 u hu)).symm
                          | 8, hu => exact (congrArg some (hg 8 u hu)).symm
                          | 9, hu => exact (congrArg some (hg 9 u hu)).symm
                          | 10, hu => exact (congrArg some (hg 10 u hu)).symm
                          | 11, hu => exact (congrArg some (hg 11 u hu)).symm
                          | 12, hu => exact (congrArg some (hg 12 u hu)).symm
                          | 13, hu => exact (congrArg some (hg 13 u hu)).symm
                          | 14, hu => exact (congrArg some (hg 14 u hu)).symm
                          | 15, hu => exact (congrArg some (hg 15 u hu)).symm
                          | 16, hu => exact (congrArg some (hg 16 u hu)).symm
                          | 17, hu => exact (congrArg some (hg 17 u hu)).symm
                          | 18, hu => exact (congrArg some (hg 18 u hu)).symm
                          | 19, hu => exact (congrArg some (hg 19 u hu)).symm
                          | 20, hu => exact (congrArg some (hg 20 u hu)).symm
                          | 21, hu => exact (congrArg some (hg 21 u hu)).symm
                          | 22, hu => exact (congrArg some (hg 22 u hu)).symm
                          | 23, hu => exact (congrArg some (hg 23 u hu)).symm
                          | n + 24, hu => exact absurd (lt_len hu) (by rw [hl]; simp))
                        clear hg hst hl
                        subst hvs
                        simp only [putAll, Act.put, List.dropLast, List.setIfInBounds_toArray, List.set_cons_zero, List.set_cons_succ]
                        go_wp2_with fail
                        exact ⟨⟨k + 1, by simp, by omega, HT.out, Ext.trans HEt.out HE3.out⟩, by simp [intOf]; omega⟩
                    · have hkib : ((k : Int) != (i : Int)) = true := by rw [bne_iff_ne]; omega
                      by_cases hkj : k = j
                      · have hkjb : ((k : Int) != (j : Int)) = false := by rw [hkj]; simp
                        have HT := Lib.hid (show ∀ q, q < k + 1 → q ≠ i → q ≠ j → 0 < sideK ps (fromP ps q).1 (fromP ps q).2 i from fun q hq h1 h2 => HALT.out q (by omega) h1 h2)
                        clear hkj hki
                        go_wp2_with fail
                        refine wp_region_stable [⟨[], none⟩, ⟨[], none⟩, ⟨[(0, 54), (1, 55)], none⟩, ⟨[(2, 56)], none⟩, ⟨[(3, 57)], some (57, true)⟩, ⟨[(3, 57)], some (57, true)⟩, ⟨[(4, 58), (5, 59), (3, 57)], some (57, true)⟩, ⟨[(3, 57), (6, 60)], none⟩, ⟨[(7, 61)], none⟩, ⟨[(8, 62)], some (62, true)⟩, ⟨[(8, 62)], some (62, true)⟩, ⟨[(9, 63), (10, 64), (8, 62)], some (62, true)⟩, ⟨[(11, 65), (8, 62)], some (62, true)⟩, ⟨[(8, 62)], some (62, true)⟩, ⟨[(8, 62)], some (62, true)⟩, ⟨[(13, 67), (14, 68), (8, 62)], some (62, true)⟩, ⟨[(15, 69), (8, 62)], some (62, true)⟩, ⟨[(8, 62)], some (62, true)⟩, ⟨[(8, 62)], some (62, true)⟩, ⟨[(17, 71), (18, 72), (8, 62)], some (62, true)⟩, ⟨[(19, 73), (8, 62)], some (62, true)⟩, ⟨[(12, 66), (16, 70), (20, 74), (8, 62)], some (62, true)⟩, ⟨[(21, 75), (8, 62)], some (62, true)⟩, ⟨[(8, 62), (22, 76)], none⟩] (fun x y => Below x.heap.size x y) (MPat [MP.eq (.int .i64 (k : Int)), MP.eq (.int .i64 (i : Int)), MP.eq (.bool true), MP.eq (.bool true), MP.eq (.int .i64 (k : Int)), MP.eq (.int .i64 (j : Int)), MP.eq (.bool false), MP.eq (.bool false), MP.eq (.bool false), MP.eq (undef), MP.eq (undef), MP.eq (undef), MP.eq (undef), MP.eq (undef), MP.eq (undef), MP.eq (undef), MP.eq (undef), MP.eq (undef), MP.eq (undef), MP.eq (undef), MP.eq (undef), MP.eq (undef), MP.eq (undef), MP.eq (.bool false)]) (by kernel_rfl) (fun _ _ _ h k => Ext.trans h k) (fun _ => Below.refl _ _) (fun x => (Below.refl x.heap.size x).drew) (MPat.mono _) (by kernel_rfl) ?obs ?rest
                        case obs =>
                          refine ⟨?_, ?_, ?_, ?_, ?_, ?_, ?_, ?_, ?_, ?_, ?_, ?_, ?_, ?_, ?_, ?_, ?_, ?_, ?_, ?_, ?_, ?_, ?_, ?_, trivial⟩
                          · intro ev W hf _ _ hst hd
                            have e7 : ev (.tmp 7) = .int .i64 (k : Int) := hf 7 (by kernel_rfl)
                            refine st_value (v := .int .i64 (k : Int)) ?_ (Below.refl _ _) ?_
                            · simp [execOp, go_sem, e7]
                            · exact rfl
                          · intro ev W hf _ _ hst hd
                            have e5 : ev (.tmp 5) = .int .i64 (i : Int) := hf 5 (by kernel_rfl)
                            refine st_value (v := .int .i64 (i : Int)) ?_ (Below.refl _ _) ?_
                            · simp [execOp, go_sem, e5]
                            · exact rfl
                          · intro ev W hf _ _ hst hd
                            obtain ⟨d54, d55, _⟩ := hd
                            have e54 : ev (.tmp 54) = .int .i64 (k : Int) := d54
                            have e55 : ev (.tmp 55) = .int .i64 (i : Int) := d55
                            refine st_value (v := .bool true) ?_ (Below.refl _ _) ?_
                            · simp [execOp, go_sem, e54, e55, hkib]
                            · exact rfl
                          · intro ev W hf _ _ hst hd
                            obtain ⟨d56, _⟩ := hd
                            have e56 : ev (.tmp 56) = .bool true := d56
                            refine st_value (v := .bool true) ?_ (Below.refl _ _) ?_
                            · simp [execOp, go_sem, e56]
                            · exact rfl
                          · intro ev W hf _ _ hst hd
                            obtain ⟨d57, _⟩ := hd
                            have e7 : ev (.tmp 7) = .int .i64 (k : Int) := hf 7 (by kernel_rfl)
                            have e57 : ev (.tmp 57) = .bool true := d57
                            refine ⟨fun _ => ?_, fun hne => absurd e57 hne⟩
                            refine st_value (v := .int .i64 (k : Int)) ?_ (Below.refl _ _) ?_
                            · simp [execOp, go_sem, e7]
                            · exact rfl
                          · intro ev W hf _ _ hst hd
                            obtain ⟨d57, _⟩ := hd
                            have e6 : ev (.tmp 6) = .int .i64 (j : Int) := hf 6 (by kernel_rfl)
                            have e57 : ev (.tmp 57) = .bool true := d57
                            refine ⟨fun _ => ?_, fun hne => absurd e57 hne⟩
                            refine st_value (v := .int .i64 (j : Int)) ?_ (Below.refl _ _) ?_
                            · simp [execOp, go_sem, e6]
                            · exact rfl
                          · intro ev W hf _ _ hst hd
                            obtain ⟨d58, d59, d57, _⟩ := hd
                            have e58 : ev (.tmp 58) = .int .i64 (k : Int) := d58
                            have e59 : ev (.tmp 59) = .int .i64 (j : Int) := d59
                            have e57 : ev (.tmp 57) = .bool true := d57
                            refine ⟨fun _ => ?_, fun hne => absurd e57 hne⟩
                            refine st_value (v := .bool false) ?_ (Below.refl _ _) ?_
                            · simp [execOp, go_sem, e58, e59, hkjb]
                            · exact rfl
                          · intro ev W hf hcst _ hst hd
                            obtain ⟨d57, d60, _⟩ := hd
                            have e57 : ev (.tmp 57) = .bool true := d57
                            have e60 : ev (.tmp 60) = .bool false := d60
                            refine st_value (v := .bool false) ?_ (Below.refl _ _) ?_
                            · simp [execOp, go_sem, e57, e60, hcst]
                            · exact rfl
                          · intro ev W hf _ _ hst hd
                            obtain ⟨d61, _⟩ := hd
                            have e61 : ev (.tmp 61) = .bool false := d61
                            refine st_value (v := .bool false) ?_ (Below.refl _ _) ?_
                            · simp [execOp, go_sem, e61]
                            · exact rfl
                          · intro ev W hf _ _ hst hd
                            obtain ⟨d62, _⟩ := hd
                            have e62 : ev (.tmp 62) = .bool false := d62
                            refine ⟨fun hh => ?_, fun _ => rfl⟩
                            rw [e62] at hh
                            simp at hh
                          · intro ev W hf _ _ hst hd
                            obtain ⟨d62, _⟩ := hd
                            have e62 : ev (.tmp 62) = .bool false := d62
                            refine ⟨fun hh => ?_, fun _ => rfl⟩
                            rw [e62] at hh
                            simp at hh
                          · intro ev W hf _ _ hst hd
                            obtain ⟨d63, d64, d62, _⟩ := hd
                            have e62 : ev (.tmp 62) = .bool false := d62
                            refine ⟨fun hh => ?_, fun _ => rfl⟩
                            rw [e62] at hh
                            simp at hh
                          · intro ev W hf _ _ hst hd
                            obtain ⟨d65, d62, _⟩ := hd
                            have e62 : ev (.tmp 62) = .bool false := d62
                            refine ⟨fun hh => ?_, fun _ => rfl⟩
                            rw [e62] at hh
                            simp at hh
                          · intro ev W hf _ _ hst hd
                            obtain ⟨d62, _⟩ := hd
                            have e62 : ev (.tmp 62) = .bool false := d62
                            refine ⟨fun hh => ?_, fun _ => rfl⟩
                            rw [e62] at hh
                            simp at hh
                          · intro ev W hf _ _ hst hd
                            obtain ⟨d62, _⟩ := hd
                            have e62 : ev (.tmp 62) = .bool false := d62
                            refine ⟨fun hh => ?_, fun _ => rfl⟩
                            rw [e62] at hh
                            simp at hh
                          · intro ev W hf _ _ hst hd
                            obtain ⟨d67, d68, d62, _⟩ := hd
                            have e62 : ev (.tmp 62) = .bool false := d62
                            refine ⟨fun hh => ?_, fun _ => rfl⟩
                            rw [e62] at hh
                            simp at hh
                          · intro ev W hf _ _ hst hd
                            obtain ⟨d69, d62, _⟩ := hd
                            have e62 : ev (.tmp 62) = .bool false := d62
                            refine ⟨fun hh => ?_, fun _ => rfl⟩
                            rw [e62] at hh
                            simp at hh
                          · intro ev W hf _ _ hst hd
                            obtain ⟨d62, _⟩ := hd
                            have e62 : ev (.tmp 62) = .bool false := d62
                            refine ⟨fun hh => ?_, fun _ => rfl⟩
                            rw [e62] at hh
                            simp at hh
                          · intro ev W hf _ _ hst hd
                            obtain ⟨d62, _⟩ := hd
                            have e62 : ev (.tmp 62) = .bool false := d62
                            refine ⟨fun hh => ?_, fun _ => rfl⟩
                            rw [e62] at hh
                            simp at hh
                          · intro ev W hf _ _ hst hd
                            obtain ⟨d71, d72, d62, _⟩ := hd
                            have e62 : ev (.tmp 62) = .bool false := d62
                            refine ⟨fun hh => ?_, fun _ => rfl⟩
                            rw [e62] at hh
                            simp at hh
                          · intro ev W hf _ _ hst hd
                            obtain ⟨d73, d62, _⟩ := hd
                            have e62 : ev (.tmp 62) = .bool false := d62
                            refine ⟨fun hh => ?_, fun _ => rfl⟩
                            rw [e62] at hh
                            simp at hh
                          · intro ev W hf _ _ hst hd
                            obtain ⟨d66, d70, d74, d62, _⟩ := hd
                            have e62 : ev (.tmp 62) = .bool false := d62
                            refine ⟨fun hh => ?_, fun _ => rfl⟩
                            rw [e62] at hh
                            simp at hh
                          · intro ev W hf _ _ hst hd
                            obtain ⟨d75, d62, _⟩ := hd
                            have e62 : ev (.tmp 62) = .bool false := d62
                            refine ⟨fun hh => ?_, fun _ => rfl⟩
                            rw [e62] at hh
                            simp at hh
                          · intro ev W hf hcst _ hst hd
                            obtain ⟨d62, d76, _⟩ := hd
                            have e62 : ev (.tmp 62) = .bool false := d62
                            have e76 : ev (.tmp 76) = undef := d76
                            refine st_value (v := .bool false) ?_ (Below.refl _ _) ?_
                            · simp [execOp, go_sem, e62, e76, hcst]
                            · exact rfl
                        case rest =>
                          intro vs w3 hl hst hg
                          have HE3 := Lib.hid hst
                          have hvs : vs = [.int .i64 (k : Int), .int .i64 (i : Int), .bool true, .bool true, .int .i64 (k : Int), .int .i64 (j : Int), .bool false, .bool false, .bool false, undef, undef, undef, undef, undef, undef, undef, undef, undef, undef, undef, undef, undef, undef, .bool false] := list_of hl (fun i u hu => by
                            match i, hu with
                            | 0, hu => exact (congrArg some (hg 0 u hu)).symm
                            | 1, hu => exact (congrArg some (hg 1 u hu)).symm
                            | 2, hu => exact (congrArg some (hg 2 u hu)).symm
                            | 3, hu => exact (congrArg some (hg 3 u hu)).symm
                            | 4, hu => exact (congrArg some (hg 4 u hu)).symm
                            | 5, hu => exact (congrArg some (hg 5 u hu)).symm
                            | 6, hu => exact (congrArg some (hg 6 u hu)).symm
                            | 7, hu => exact (congrArg some (hg 7 u hu)).symm
                            | 8, hu => exact (congrArg some (hg 8 u hu)).symm
                            | 9, hu => exact (congrArg some (hg 9 u hu)).symm
                            | 10, hu => exact (congrArg some (hg 10 u hu)).symm
                            | 11, hu => exact (congrArg some (hg 11 u hu)).symm
                            | 12, hu => exact (congrArg some (hg 12 u hu)).symm
                            | 13, hu => exact (congrArg some (hg 13 u hu)).symm
                            | 14, hu => exact (congrArg some (hg 14 u hu)).symm
                            | 15, hu => exact (congrArg some (hg 15 u hu)).symm
                            | 16, hu => exact (congrArg some (hg 16 u hu)).symm
                            | 17, hu => exact (congrArg some (hg 17 u hu)).symm
                            | 18, hu => exact (congrArg some (hg 18 u hu)).symm
                            | 19, hu => exact (congrArg some (hg 19 u hu)).symm
                            | 20, hu => exact (congrArg some (hg 20 u hu)).symm
                            | 21, hu => exact (congrArg some (hg 21 u hu)).symm
                            | 22, hu => exact (congrArg some (hg 22 u hu)).symm
                            | 23, hu => exact (congrArg some (hg 23 u hu)).symm
                            | n + 24, hu => exact absurd (lt_len hu) (by rw [hl]; simp))
                          clear hg hst hl
                          subst hvs
                          simp only [putAll, Act.put, List.dropLast, List.setIfInBounds_toArray, List.set_cons_zero, List.set_cons_succ]
                          go_wp2_with fail
                          exact ⟨⟨k + 1, by simp, by omega, HT.out, Ext.trans HEt.out HE3.out⟩, by simp [intOf]; omega⟩
                      · have hkjb : ((k : Int) != (j : Int)) = true := by rw [bne_iff_ne]; omega
                        obtain ⟨e3, e4⟩ := HC.out j hjn
                        obtain ⟨e5, e6⟩ := HC.out k hkl
                        have E1 := Lib.hid (Ext.cell HEt.out D1.out)
                        have E2 := Lib.hid (Ext.cell HEt.out D2.out)
                        have hjb := HNEAR.out j hjn
                        have hkb := HNEAR.out k hkl
                        have HS := Lib.hid (show twiZ x y (fromP ps j).1 (fromP ps j).2 (fromP ps k).1 (fromP ps k).2 = sideK ps (fromP ps k).1 (fromP ps k).2 i from by
                          rw [HX.out, HY.out]
                          have h := twi_side ps (fromP ps k) i
                          rw [to_from, show (i + 1) % ps.length = j by rw [← HN.out, HJ.out]] at h
                          exact h)
                        have HNE := Lib.hid (show k ≠ i ∧ k ≠ j from ⟨hki, hkj⟩)
                        clear hki hkj
                        obtain ⟨sz, hsz⟩ : ∃ sz, sz = sideK ps (fromP ps k).1 (fromP ps k).2 i := ⟨_, rfl⟩
                        rw [← hsz] at HS
                        have HSZ := Lib.hid hsz
                        clear hsz
                        obtain ⟨jx, hjx⟩ : ∃ jx, jx = (fromP ps j).1 := ⟨_, rfl⟩
                        obtain ⟨jy, hjy⟩ : ∃ jy, jy = (fromP ps j).2 := ⟨_, rfl⟩
                        obtain ⟨kx, hkx⟩ : ∃ kx, kx = (fromP ps k).1 := ⟨_, rfl⟩
                        obtain ⟨ky, hky⟩ : ∃ ky, ky = (fromP ps k).2 := ⟨_, rfl⟩
                        rw [← hjx] at e3 hjb HS
                        rw [← hjy] at e4 hjb HS
                        rw [← hkx] at e5 hkb HS
                        rw [← hky] at e6 hkb HS
                        have E3 := Lib.hid (Ext.cell HEt.out e3)
                        have E4 := Lib.hid (Ext.cell HEt.out e4)
                        have E5 := Lib.hid (Ext.cell HEt.out e5)
                        have E6 := Lib.hid (Ext.cell HEt.out e6)
                        clear hjx hjy hkx hky e3 e4 e5 e6
                        have HTW := Lib.hid (fun W => twice_c x y jx jy kx ky W (by omega) (by omega) (by omega) (by omega) (by omega) (by omega))
                        rw [HS.out] at HTW
                        clear HS
                        by_cases hs : sz ≤ 0
                        · have HF := Lib.hid (show validB ps = false from valid_not (i := i) (by have := HN.out; omega) (by have := HN.out; omega) HNF.out (by have := HN.out; omega) (fun h => by
                            have h2 := h.2 k (by have := HN.out; omega) HNE.out.1 (by rw [← HN.out, ← HJ.out]; exact HNE.out.2)
                            rw [← HSZ.out] at h2; omega))
                          have hsz0 : decide (sz ≤ 0) = true := decide_eq_true hs
                          clear hs
                          go_wp2_with fail
                          refine wp_region_stable [⟨[], none⟩, ⟨[], none⟩, ⟨[(0, 54), (1, 55)], none⟩, ⟨[(2, 56)], none⟩, ⟨[(3, 57)], some (57, true)⟩, ⟨[(3, 57)], some (57, true)⟩, ⟨[(4, 58), (5, 59), (3, 57)], some (57, true)⟩, ⟨[(3, 57), (6, 60)], none⟩, ⟨[(7, 61)], none⟩, ⟨[(8, 62)], some (62, true)⟩, ⟨[(8, 62)], some (62, true)⟩, ⟨[(9, 63), (10, 64), (8, 62)], some (62, true)⟩, ⟨[(11, 65), (8, 62)], some (62, true)⟩, ⟨[(8, 62)], some (62, true)⟩, ⟨[(8, 62)], some (62, true)⟩, ⟨[(13, 67), (14, 68), (8, 62)], some (62, true)⟩, ⟨[(15, 69), (8, 62)], some (62, true)⟩, ⟨[(8, 62)], some (62, true)⟩, ⟨[(8, 62)], some (62, true)⟩, ⟨[(17, 71), (18, 72), (8, 62)], some (62, true)⟩, ⟨[(19, 73), (8, 62)], some (62, true)⟩, ⟨[(12, 66), (16, 70), (20, 74), (8, 62)], some (62, true)⟩, ⟨[(21, 75), (8, 62)], some (62, true)⟩, ⟨[(8, 62), (22, 76)], none⟩] (fun x y => Below x.heap.size x y) (MPat [MP.eq (.int .i64 (k : Int)), MP.eq (.int .i64 (i : Int)), MP.eq (.bool true), MP.eq (.bool true), MP.eq (.int .i64 (k : Int)), MP.eq (.int .i64 (j : Int)), MP.eq (.bool true), MP.eq (.bool true), MP.eq (.bool true), MP.eq (.slice (some ⟨b, o, none⟩) n cap), MP.eq (.int .i64 (i : Int)), MP.eq (.pointer (some ⟨b, o + i * 2, none⟩)), MP.eq (vecV x y), MP.eq (.slice (some ⟨b, o, none⟩) n cap), MP.eq (.int .i64 (j : Int)), MP.eq (.pointer (some ⟨b, o + j * 2, none⟩)), MP.eq (vecV jx jy), MP.eq (.slice (some ⟨b, o, none⟩) n cap), MP.eq (.int .i64 (k : Int)), MP.eq (.pointer (some ⟨b, o + k * 2, none⟩)), MP.eq (vecV kx ky), MP.eq (.int .i64 sz), MP.eq (.bool true), MP.eq (.bool true)]) (by kernel_rfl) (fun _ _ _ h k => Ext.trans h k) (fun _ => Below.refl _ _) (fun x => (Below.refl x.heap.size x).drew) (MPat.mono _) (by kernel_rfl) ?obs ?rest
                          case obs =>
                            refine ⟨?_, ?_, ?_, ?_, ?_, ?_, ?_, ?_, ?_, ?_, ?_, ?_, ?_, ?_, ?_, ?_, ?_, ?_, ?_, ?_, ?_, ?_, ?_, ?_, trivial⟩
                            · intro ev W hf _ _ hst hd
                              have e7 : ev (.tmp 7) = .int .i64 (k : Int) := hf 7 (by kernel_rfl)
                              refine st_value (v := .int .i64 (k : Int)) ?_ (Below.refl _ _) ?_
                              · simp [execOp, go_sem, e7]
                              · exact rfl
                            · intro ev W hf _ _ hst hd
                              have e5 : ev (.tmp 5) = .int .i64 (i : Int) := hf 5 (by kernel_rfl)
                              refine st_value (v := .int .i64 (i : Int)) ?_ (Below.refl _ _) ?_
                              · simp [execOp, go_sem, e5]
                              · exact rfl
                            · intro ev W hf _ _ hst hd
                              obtain ⟨d54, d55, _⟩ := hd
                              have e54 : ev (.tmp 54) = .int .i64 (k : Int) := d54
                              have e55 : ev (.tmp 55) = .int .i64 (i : Int) := d55
                              refine st_value (v := .bool true) ?_ (Below.refl _ _) ?_
                              · simp [execOp, go_sem, e54, e55, hkib]
                              · exact rfl
                            · intro ev W hf _ _ hst hd
                              obtain ⟨d56, _⟩ := hd
                              have e56 : ev (.tmp 56) = .bool true := d56
                              refine st_value (v := .bool true) ?_ (Below.refl _ _) ?_
                              · simp [execOp, go_sem, e56]
                              · exact rfl
                            · intro ev W hf _ _ hst hd
                              obtain ⟨d57, _⟩ := hd
                              have e7 : ev (.tmp 7) = .int .i64 (k : Int) := hf 7 (by kernel_rfl)
                              have e57 : ev (.tmp 57) = .bool true := d57
                              refine ⟨fun _ => ?_, fun hne => absurd e57 hne⟩
                              refine st_value (v := .int .i64 (k : Int)) ?_ (Below.refl _ _) ?_
                              · simp [execOp, go_sem, e7]
                              · exact rfl
                            · intro ev W hf _ _ hst hd
                              obtain ⟨d57, _⟩ := hd
                              have e6 : ev (.tmp 6) = .int .i64 (j : Int) := hf 6 (by kernel_rfl)
                              have e57 : ev (.tmp 57) = .bool true := d57
                              refine ⟨fun _ => ?_, fun hne => absurd e57 hne⟩
                              refine st_value (v := .int .i64 (j : Int)) ?_ (Below.refl _ _) ?_
                              · simp [execOp, go_sem, e6]
                              · exact rfl
                            · intro ev W hf _ _ hst hd
                              obtain ⟨d58, d59, d57, _⟩ := hd
                              have e58 : ev (.tmp 58) = .int .i64 (k : Int) := d58
                              have e59 : ev (.tmp 59) = .int .i64 (j : Int) := d59
                              have e57 : ev (.tmp 57) = .bool true := d57
                              refine ⟨fun _ => ?_, fun hne => absurd e57 hne⟩
                              refine st_value (v := .bool true) ?_ (Below.refl _ _) ?_
                              · simp [execOp, go_sem, e58, e59, hkjb]
                              · exact rfl
                            · intro ev W hf hcst _ hst hd
                              obtain ⟨d57, d60, _⟩ := hd
                              have e57 : ev (.tmp 57) = .bool true := d57
                              have e60 : ev (.tmp 60) = .bool true := d60
                              refine st_value (v := .bool true) ?_ (Below.refl _ _) ?_
                              · simp [execOp, go_sem, e57, e60, hcst]
                              · exact rfl
                            · intro ev W hf _ _ hst hd
                              obtain ⟨d61, _⟩ := hd
                              have e61 : ev (.tmp 61) = .bool true := d61
                              refine st_value (v := .bool true) ?_ (Below.refl _ _) ?_
                              · simp [execOp, go_sem, e61]
                              · exact rfl
                            · intro ev W hf _ _ hst hd
                              obtain ⟨d62, _⟩ := hd
                              have e0 : ev (.tmp 0) = .slice (some ⟨b, o, none⟩) n cap := hf 0 (by kernel_rfl)
                              have e62 : ev (.tmp 62) = .bool true := d62
                              refine ⟨fun _ => ?_, fun hne => absurd e62 hne⟩
                              refine st_value (v := .slice (some ⟨b, o, none⟩) n cap) ?_ (Below.refl _ _) ?_
                              · simp [execOp, go_sem, e0]
                              · exact rfl
                            · intro ev W hf _ _ hst hd
                              obtain ⟨d62, _⟩ := hd
                              have e5 : ev (.tmp 5) = .int .i64 (i : Int) := hf 5 (by kernel_rfl)
                              have e62 : ev (.tmp 62) = .bool true := d62
                              refine ⟨fun _ => ?_, fun hne => absurd e62 hne⟩
                              refine st_value (v := .int .i64 (i : Int)) ?_ (Below.refl _ _) ?_
                              · simp [execOp, go_sem, e5]
                              · exact rfl
                            · intro ev W hf _ _ hst hd
                              obtain ⟨d63, d64, d62, _⟩ := hd
                              have e63 : ev (.tmp 63) = .slice (some ⟨b, o, none⟩) n cap := d63
                              have e64 : ev (.tmp 64) = .int .i64 (i : Int) := d64
                              have e62 : ev (.tmp 62) = .bool true := d62
                              refine ⟨fun _ => ?_, fun hne => absurd e62 hne⟩
                              refine st_value (v := .pointer (some ⟨b, o + i * 2, none⟩)) ?_ (Below.refl _ _) ?_
                              · simp [execOp, go_sem, e63, e64, hil]
                              · exact rfl
                            · intro ev W hf _ _ hst hd
                              obtain ⟨d65, d62, _⟩ := hd
                              have e65 : ev (.tmp 65) = .pointer (some ⟨b, o + i * 2, none⟩) := d65
                              have e62 : ev (.tmp 62) = .bool true := d62
                              refine ⟨fun _ => ?_, fun hne => absurd e62 hne⟩
                              have q0 := Ext.cell hst E1.out
                              have q1 := Ext.cell hst E2.out
                              refine st_value (v := vecV x y) ?_ (Below.refl _ _) ?_
                              · simp [execOp, go_sem, e65, q0, q1, vecV]
                              · exact rfl
                            · intro ev W hf _ _ hst hd
                              obtain ⟨d62, _⟩ := hd
                              have e0 : ev (.tmp 0) = .slice (some ⟨b, o, none⟩) n cap := hf 0 (by kernel_rfl)
                              have e62 : ev (.tmp 62) = .bool true := d62
                              refine ⟨fun _ => ?_, fun hne => absurd e62 hne⟩
                              refine st_value (v := .slice (some ⟨b, o, none⟩) n cap) ?_ (Below.refl _ _) ?_
                              · simp [execOp, go_sem, e0]
                              · exact rfl
                            · intro ev W hf _ _ hst hd
                              obtain ⟨d62, _⟩ := hd
                              have e6 : ev (.tmp 6) = .int .i64 (j : Int) := hf 6 (by kernel_rfl)
                              have e62 : ev (.tmp 62) = .bool true := d62
                              refine ⟨fun _ => ?_, fun hne => absurd e62 hne⟩
                              refine st_value (v := .int .i64 (j : Int)) ?_ (Below.refl _ _) ?_
                              · simp [execOp, go_sem, e6]
                              · exact rfl
                            · intro ev W hf _ _ hst hd
                              obtain ⟨d67, d68, d62, _⟩ := hd
                              have e67 : ev (.tmp 67) = .slice (some ⟨b, o, none⟩) n cap := d67
                              have e68 : ev (.tmp 68) = .int .i64 (j : Int) := d68
                              have e62 : ev (.tmp 62) = .bool true := d62
                              refine ⟨fun _ => ?_, fun hne => absurd e62 hne⟩
                              refine st_value (v := .pointer (some ⟨b, o + j * 2, none⟩)) ?_ (Below.refl _ _) ?_
                              · simp [execOp, go_sem, e67, e68, hjn]
                              · exact rfl
                            · intro ev W hf _ _ hst hd
                              obtain ⟨d69, d62, _⟩ := hd
                              have e69 : ev (.tmp 69) = .pointer (some ⟨b, o + j * 2, none⟩) := d69
                              have e62 : ev (.tmp 62) = .bool true := d62
                              refine ⟨fun _ => ?_, fun hne => absurd e62 hne⟩
                              have q0 := Ext.cell hst E3.out
                              have q1 := Ext.cell hst E4.out
                              refine st_value (v := vecV jx jy) ?_ (Below.refl _ _) ?_
                              · simp [execOp, go_sem, e69, q0, q1, vecV]
                              · exact rfl
                            · intro ev W hf _ _ hst hd
                              obtain ⟨d62, _⟩ := hd
                              have e0 : ev (.tmp 0) = .slice (some ⟨b, o, none⟩) n cap := hf 0 (by kernel_rfl)
                              have e62 : ev (.tmp 62) = .bool true := d62
                              refine ⟨fun _ => ?_, fun hne => absurd e62 hne⟩
                              refine st_value (v := .slice (some ⟨b, o, none⟩) n cap) ?_ (Below.refl _ _) ?_
                              · simp [execOp, go_sem, e0]
                              · exact rfl
                            · intro ev W hf _ _ hst hd
                              obtain ⟨d62, _⟩ := hd
                              have e7 : ev (.tmp 7) = .int .i64 (k : Int) := hf 7 (by kernel_rfl)
                              have e62 : ev (.tmp 62) = .bool true := d62
                              refine ⟨fun _ => ?_, fun hne => absurd e62 hne⟩
                              refine st_value (v := .int .i64 (k : Int)) ?_ (Below.refl _ _) ?_
                              · simp [execOp, go_sem, e7]
                              · exact rfl
                            · intro ev W hf _ _ hst hd
                              obtain ⟨d71, d72, d62, _⟩ := hd
                              have e71 : ev (.tmp 71) = .slice (some ⟨b, o, none⟩) n cap := d71
                              have e72 : ev (.tmp 72) = .int .i64 (k : Int) := d72
                              have e62 : ev (.tmp 62) = .bool true := d62
                              refine ⟨fun _ => ?_, fun hne => absurd e62 hne⟩
                              refine st_value (v := .pointer (some ⟨b, o + k * 2, none⟩)) ?_ (Below.refl _ _) ?_
                              · simp [execOp, go_sem, e71, e72, hkl]
                              · exact rfl
                            · intro ev W hf _ _ hst hd
                              obtain ⟨d73, d62, _⟩ := hd
                              have e73 : ev (.tmp 73) = .pointer (some ⟨b, o + k * 2, none⟩) := d73
                              have e62 : ev (.tmp 62) = .bool true := d62
                              refine ⟨fun _ => ?_, fun hne => absurd e62 hne⟩
                              have q0 := Ext.cell hst E5.out
                              have q1 := Ext.cell hst E6.out
                              refine st_value (v := vecV kx ky) ?_ (Below.refl _ _) ?_
                              · simp [execOp, go_sem, e73, q0, q1, vecV]
                              · exact rfl
                            · intro ev W hf _ hfn hst hd
                              obtain ⟨d66, d70, d74, d62, _⟩ := hd
                              have e66 : ev (.tmp 66) = vecV x y := d66
                              have e70 : ev (.tmp 70) = vecV jx jy := d70
                              have e74 : ev (.tmp 74) = vecV kx ky := d74
                              have e62 : ev (.tmp 62) = .bool true := d62
                              refine ⟨fun _ => ?_, fun hne => absurd e62 hne⟩
                              refine st_call (f := 50) (args := #[vecV x y, vecV jx jy, vecV kx ky]) (by simp [execOp, go_sem, hfn, e66, e70, e74]) (HTW.out W) (fun _ _ => rfl)
                            · intro ev W hf hcst _ hst hd
                              obtain ⟨d75, d62, _⟩ := hd
                              have e75 : ev (.tmp 75) = .int .i64 sz := d75
                              have e62 : ev (.tmp 62) = .bool true := d62
                              refine ⟨fun _ => ?_, fun hne => absurd e62 hne⟩
                              refine st_value (v := .bool true) ?_ (Below.refl _ _) ?_
                              · simp [execOp, go_sem, e75, hcst, hsz0]
                              · exact rfl
                            · intro ev W hf hcst _ hst hd
                              obtain ⟨d62, d76, _⟩ := hd
                              have e62 : ev (.tmp 62) = .bool true := d62
                              have e76 : ev (.tmp 76) = .bool true := d76
                              refine st_value (v := .bool true) ?_ (Below.refl _ _) ?_
                              · simp [execOp, go_sem, e62, e76, hcst]
                              · exact rfl
                          case rest =>
                            intro vs w3 hl hst hg
                            have HE3 := Lib.hid hst
                            have hvs : vs = [.int .i64 (k : Int), .int .i64 (i : Int), .bool true, .bool true, .int .i64 (k : Int), .int .i64 (j : Int), .bool true, .bool true, .bool true, .slice (some ⟨b, o, none⟩) n cap, .int .i64 (i : Int), .pointer (some ⟨b, o + i * 2, none⟩), vecV x y, .slice (some ⟨b, o, none⟩) n cap, .int .i64 (j : Int), .pointer (some ⟨b, o + j * 2, none⟩), vecV jx jy, .slice (some ⟨b, o, none⟩) n cap, .int .i64 (k : Int), .pointer (some ⟨b, o + k * 2, none⟩), vecV kx ky, .int .i64 sz, .bool true, .bool true] := list_of hl (fun i u hu => by
                              match i, hu with
                              | 0, hu => exact (congrArg some (hg 0 u hu)).symm
                              | 1, hu => exact (congrArg some (hg 1 u hu)).symm
                              | 2, hu => exact (congrArg some (hg 2 u hu)).symm
                              | 3, hu => exact (congrArg some (hg 3 u hu)).symm
                              | 4, hu => exact (congrArg some (hg 4 u hu)).symm
                              | 5, hu => exact (congrArg some (hg 5 u hu)).symm
                              | 6, hu => exact (congrArg some (hg 6 u hu)).symm
                              | 7, hu => exact (congrArg some (hg 7 u hu)).symm
                              | 8, hu => exact (congrArg some (hg 8 u hu)).symm
                              | 9, hu => exact (congrArg some (hg 9 u hu)).symm
                              | 10, hu => exact (congrArg some (hg 10 u hu)).symm
                              | 11, hu => exact (congrArg some (hg 11 u hu)).symm
                              | 12, hu => exact (congrArg some (hg 12 u hu)).symm
                              | 13, hu => exact (congrArg some (hg 13 u hu)).symm
                              | 14, hu => exact (congrArg some (hg 14 u hu)).symm
                              | 15, hu => exact (congrArg some (hg 15 u hu)).symm
                              | 16, hu => exact (congrArg some (hg 16 u hu)).symm
                              | 17, hu => exact (congrArg some (hg 17 u hu)).symm
                              | 18, hu => exact (congrArg some (hg 18 u hu)).symm
                              | 19, hu => exact (congrArg some (hg 19 u hu)).symm
                              | 20, hu => exact (congrArg some (hg 20 u hu)).symm
                              | 21, hu => exact (congrArg some (hg 21 u hu)).symm
                              | 22, hu => exact (congrArg some (hg 22 u hu)).symm
                              | 23, hu => exact (congrArg some (hg 23 u hu)).symm
                              | n + 24, hu => exact absurd (lt_len hu) (by rw [hl]; simp))
                            clear hg hst hl
                            subst hvs
                            simp only [putAll, Act.put, List.dropLast, List.setIfInBounds_toArray, List.set_cons_zero, List.set_cons_succ]
                            go_wp2_with fail
                            go_ret
                            exact ⟨ret_bool HF.out.symm, Ext.trans HEt.out HE3.out⟩
                        · have HT := Lib.hid (show ∀ q, q < k + 1 → q ≠ i → q ≠ j → 0 < sideK ps (fromP ps q).1 (fromP ps q).2 i from fun q hq h1 h2 => by
                            by_cases e : q = k
                            · rw [e, ← HSZ.out]; omega
                            · exact HALT.out q (by omega) h1 h2)
                          have hsz0 : decide (sz ≤ 0) = false := decide_eq_false hs
                          clear hs
                          go_wp2_with fail
                          refine wp_region_stable [⟨[], none⟩, ⟨[], none⟩, ⟨[(0, 54), (1, 55)], none⟩, ⟨[(2, 56)], none⟩, ⟨[(3, 57)], some (57, true)⟩, ⟨[(3, 57)], some (57, true)⟩, ⟨[(4, 58), (5, 59), (3, 57)], some (57, true)⟩, ⟨[(3, 57), (6, 60)], none⟩, ⟨[(7, 61)], none⟩, ⟨[(8, 62)], some (62, true)⟩, ⟨[(8, 62)], some (62, true)⟩, ⟨[(9, 63), (10, 64), (8, 62)], some (62, true)⟩, ⟨[(11, 65), (8, 62)], some (62, true)⟩, ⟨[(8, 62)], some (62, true)⟩, ⟨[(8, 62)], some (62, true)⟩, ⟨[(13, 67), (14, 68), (8, 62)], some (62, true)⟩, ⟨[(15, 69), (8, 62)], some (62, true)⟩, ⟨[(8, 62)], some (62, true)⟩, ⟨[(8, 62)], some (62, true)⟩, ⟨[(17, 71), (18, 72), (8, 62)], some (62, true)⟩, ⟨[(19, 73), (8, 62)], some (62, true)⟩, ⟨[(12, 66), (16, 70), (20, 74), (8, 62)], some (62, true)⟩, ⟨[(21, 75), (8, 62)], some (62, true)⟩, ⟨[(8, 62), (22, 76)], none⟩] (fun x y => Below x.heap.size x y) (MPat [MP.eq (.int .i64 (k : Int)), MP.eq (.int .i64 (i : Int)), MP.eq (.bool true), MP.eq (.bool true), MP.eq (.int .i64 (k : Int)), MP.eq (.int .i64 (j : Int)), MP.eq (.bool true), MP.eq (.bool true), MP.eq (.bool true), MP.eq (.slice (some ⟨b, o, none⟩) n cap), MP.eq (.int .i64 (i : Int)), MP.eq (.pointer (some ⟨b, o + i * 2, none⟩)), MP.eq (vecV x y), MP.eq (.slice (some ⟨b, o, none⟩) n cap), MP.eq (.int .i64 (j : Int)), MP.eq (.pointer (some ⟨b, o + j * 2, none⟩)), MP.eq (vecV jx jy), MP.eq (.slice (some ⟨b, o, none⟩) n cap), MP.eq (.int .i64 (k : Int)), MP.eq (.pointer (some ⟨b, o + k * 2, none⟩)), MP.eq (vecV kx ky), MP.eq (.int .i64 sz), MP.eq (.bool false), MP.eq (.bool false)]) (by kernel_rfl) (fun _ _ _ h k => Ext.trans h k) (fun _ => Below.refl _ _) (fun x => (Below.refl x.heap.size x).drew) (MPat.mono _) (by kernel_rfl) ?obs ?rest
                          case obs =>
                            refine ⟨?_, ?_, ?_, ?_, ?_, ?_, ?_, ?_, ?_, ?_, ?_, ?_, ?_, ?_, ?_, ?_, ?_, ?_, ?_, ?_, ?_, ?_, ?_, ?_, trivial⟩
                            · intro ev W hf _ _ hst hd
                              have e7 : ev (.tmp 7) = .int .i64 (k : Int) := hf 7 (by kernel_rfl)
                              refine st_value (v := .int .i64 (k : Int)) ?_ (Below.refl _ _) ?_
                              · simp [execOp, go_sem, e7]
                              · exact rfl
                            · intro ev W hf _ _ hst hd
                              have e5 : ev (.tmp 5) = .int .i64 (i : Int) := hf 5 (by kernel_rfl)
                              refine st_value (v := .int .i64 (i : Int)) ?_ (Below.refl _ _) ?_
                              · simp [execOp, go_sem, e5]
                              · exact rfl
                            · intro ev W hf _ _ hst hd
                              obtain ⟨d54, d55, _⟩ := hd
                              have e54 : ev (.tmp 54) = .int .i64 (k : Int) := d54
                              have e55 : ev (.tmp 55) = .int .i64 (i : Int) := d55
                              refine st_value (v := .bool true) ?_ (Below.refl _ _) ?_
                              · simp [execOp, go_sem, e54, e55, hkib]
                              · exact rfl
                            · intro ev W hf _ _ hst hd
                              obtain ⟨d56, _⟩ := hd
                              have e56 : ev (.tmp 56) = .bool true := d56
                              refine st_value (v := .bool true) ?_ (Below.refl _ _) ?_
                              · simp [execOp, go_sem, e56]
                              · exact rfl
                            · intro ev W hf _ _ hst hd
                              obtain ⟨d57, _⟩ := hd
                              have e7 : ev (.tmp 7) = .int .i64 (k : Int) := hf 7 (by kernel_rfl)
                              have e57 : ev (.tmp 57) = .bool true := d57
                              refine ⟨fun _ => ?_, fun hne => absurd e57 hne⟩
                              refine st_value (v := .int .i64 (k : Int)) ?_ (Below.refl _ _) ?_
                              · simp [execOp, go_sem, e7]
                              · exact rfl
                            · intro ev W hf _ _ hst hd
                              obtain ⟨d57, _⟩ := hd
                              have e6 : ev (.tmp 6) = .int .i64 (j : Int) := hf 6 (by kernel_rfl)
                              have e57 : ev (.tmp 57) = .bool true := d57
                              refine ⟨fun _ => ?_, fun hne => absurd e57 hne⟩
                              refine st_value (v := .int .i64 (j : Int)) ?_ (Below.refl _ _) ?_
                              · simp [execOp, go_sem, e6]
                              · exact rfl
                            · intro ev W hf _ _ hst hd
                              obtain ⟨d58, d59, d57, _⟩ := hd
                              have e58 : ev (.tmp 58) = .int .i64 (k : Int) := d58
                              have e59 : ev (.tmp 59) = .int .i64 (j : Int) := d59
                              have e57 : ev (.tmp 57) = .bool true := d57
                              refine ⟨fun _ => ?_, fun hne => absurd e57 hne⟩
                              refine st_value (v := .bool true) ?_ (Below.refl _ _) ?_
                              · simp [execOp, go_sem, e58, e59, hkjb]
                              · exact rfl
                            · intro ev W hf hcst _ hst hd
                              obtain ⟨d57, d60, _⟩ := hd
                              have e57 : ev (.tmp 57) = .bool true := d57
                              have e60 : ev (.tmp 60) = .bool true := d60
                              refine st_value (v := .bool true) ?_ (Below.refl _ _) ?_
                              · simp [execOp, go_sem, e57, e60, hcst]
                              · exact rfl
                            · intro ev W hf _ _ hst hd
                              obtain ⟨d61, _⟩ := hd
                              have e61 : ev (.tmp 61) = .bool true := d61
                              refine st_value (v := .bool true) ?_ (Below.refl _ _) ?_
                              · simp [execOp, go_sem, e61]
                              · exact rfl
                            · intro ev W hf _ _ hst hd
                              obtain ⟨d62, _⟩ := hd
                              have e0 : ev (.tmp 0) = .slice (some ⟨b, o, none⟩) n cap := hf 0 (by kernel_rfl)
                              have e62 : ev (.tmp 62) = .bool true := d62
                              refine ⟨fun _ => ?_, fun hne => absurd e62 hne⟩
                              refine st_value (v := .slice (some ⟨b, o, none⟩) n cap) ?_ (Below.refl _ _) ?_
                              · simp [execOp, go_sem, e0]
                              · exact rfl
                            · intro ev W hf _ _ hst hd
                              obtain ⟨d62, _⟩ := hd
                              have e5 : ev (.tmp 5) = .int .i64 (i : Int) := hf 5 (by kernel_rfl)
                              have e62 : ev (.tmp 62) = .bool true := d62
                              refine ⟨fun _ => ?_, fun hne => absurd e62 hne⟩
                              refine st_value (v := .int .i64 (i : Int)) ?_ (Below.refl _ _) ?_
                              · simp [execOp, go_sem, e5]
                              · exact rfl
                            · intro ev W hf _ _ hst hd
                              obtain ⟨d63, d64, d62, _⟩ := hd
                              have e63 : ev (.tmp 63) = .slice (some ⟨b, o, none⟩) n cap := d63
                              have e64 : ev (.tmp 64) = .int .i64 (i : Int) := d64
                              have e62 : ev (.tmp 62) = .bool true := d62
                              refine ⟨fun _ => ?_, fun hne => absurd e62 hne⟩
                              refine st_value (v := .pointer (some ⟨b, o + i * 2, none⟩)) ?_ (Below.refl _ _) ?_
                              · simp [execOp, go_sem, e63, e64, hil]
                              · exact rfl
                            · intro ev W hf _ _ hst hd
                              obtain ⟨d65, d62, _⟩ := hd
                              have e65 : ev (.tmp 65) = .pointer (some ⟨b, o + i * 2, none⟩) := d65
                              have e62 : ev (.tmp 62) = .bool true := d62
                              refine ⟨fun _ => ?_, fun hne => absurd e62 hne⟩
                              have q0 := Ext.cell hst E1.out
                              have q1 := Ext.cell hst E2.out
                              refine st_value (v := vecV x y) ?_ (Below.refl _ _) ?_
                              · simp [execOp, go_sem, e65, q0, q1, vecV]
                              · exact rfl
                            · intro ev W hf _ _ hst hd
                              obtain ⟨d62, _⟩ := hd
                              have e0 : ev (.tmp 0) = .slice (some ⟨b, o, none⟩) n cap := hf 0 (by kernel_rfl)
                              have e62 : ev (.tmp 62) = .bool true := d62
                              refine ⟨fun _ => ?_, fun hne => absurd e62 hne⟩
                              refine st_value (v := .slice (some ⟨b, o, none⟩) n cap) ?_ (Below.refl _ _) ?_
                              · simp [execOp, go_sem, e0]
                              · exact rfl
                            · intro ev W hf _ _ hst hd
                              obtain ⟨d62, _⟩ := hd
                              have e6 : ev (.tmp 6) = .int .i64 (j : Int) := hf 6 (by kernel_rfl)
                              have e62 : ev (.tmp 62) = .bool true := d62
                              refine ⟨fun _ => ?_, fun hne => absurd e62 hne⟩
                              refine st_value (v := .int .i64 (j : Int)) ?_ (Below.refl _ _) ?_
                              · simp [execOp, go_sem, e6]
                              · exact rfl
                            · intro ev W hf _ _ hst hd
                              obtain ⟨d67, d68, d62, _⟩ := hd
                              have e67 : ev (.tmp 67) = .slice (some ⟨b, o, none⟩) n cap := d67
                              have e68 : ev (.tmp 68) = .int .i64 (j : Int) := d68
                              have e62 : ev (.tmp 62) = .bool true := d62
                              refine ⟨fun _ => ?_, fun hne => absurd e62 hne⟩
                              refine st_value (v := .pointer (some ⟨b, o + j * 2, none⟩)) ?_ (Below.refl _ _) ?_
                              · simp [execOp, go_sem, e67, e68, hjn]
                              · exact rfl
                            · intro ev W hf _ _ hst hd
                              obtain ⟨d69, d62, _⟩ := hd
                              have e69 : ev (.tmp 69) = .pointer (some ⟨b, o + j * 2, none⟩) := d69
                              have e62 : ev (.tmp 62) = .bool true := d62
                              refine ⟨fun _ => ?_, fun hne => absurd e62 hne⟩
                              have q0 := Ext.cell hst E3.out
                              have q1 := Ext.cell hst E4.out
                              refine st_value (v := vecV jx jy) ?_ (Below.refl _ _) ?_
                              · simp [execOp, go_sem, e69, q0, q1, vecV]
                              · exact rfl
                            · intro ev W hf _ _ hst hd
                              obtain ⟨d62, _⟩ := hd
                              have e0 : ev (.tmp 0) = .slice (some ⟨b, o, none⟩) n cap := hf 0 (by kernel_rfl)
                              have e62 : ev (.tmp 62) = .bool true := d62
                              refine ⟨fun _ => ?_, fun hne => absurd e62 hne⟩
                              refine st_value (v := .slice (some ⟨b, o, none⟩) n cap) ?_ (Below.refl _ _) ?_
                              · simp [execOp, go_sem, e0]
                              · exact rfl
                            · intro ev W hf _ _ hst hd
                              obtain ⟨d62, _⟩ := hd
                              have e7 : ev (.tmp 7) = .int .i64 (k : Int) := hf 7 (by kernel_rfl)
                              have e62 : ev (.tmp 62) = .bool true := d62
                              refine ⟨fun _ => ?_, fun hne => absurd e62 hne⟩
                              refine st_value (v := .int .i64 (k : Int)) ?_ (Below.refl _ _) ?_
                              · simp [execOp, go_sem, e7]
                              · exact rfl
                            · intro ev W hf _ _ hst hd
                              obtain ⟨d71, d72, d62, _⟩ := hd
                              have e71 : ev (.tmp 71) = .slice (some ⟨b, o, none⟩) n cap := d71
                              have e72 : ev (.tmp 72) = .int .i64 (k : Int) := d72
                              have e62 : ev (.tmp 62) = .bool true := d62
                              refine ⟨fun _ => ?_, fun hne => absurd e62 hne⟩
                              refine st_value (v := .pointer (some ⟨b, o + k * 2, none⟩)) ?_ (Below.refl _ _) ?_
                              · simp [execOp, go_sem, e71, e72, hkl]
                              · exact rfl
                            · intro ev W hf _ _ hst hd
                              obtain ⟨d73, d62, _⟩ := hd
                              have e73 : ev (.tmp 73) = .pointer (some ⟨b, o + k * 2, none⟩) := d73
                              have e62 : ev (.tmp 62) = .bool true := d62
                              refine ⟨fun _ => ?_, fun hne => absurd e62 hne⟩
                              have q0 := Ext.cell hst E5.out
                              have q1 := Ext.cell hst E6.out
                              refine st_value (v := vecV kx ky) ?_ (Below.refl _ _) ?_
                              · simp [execOp, go_sem, e73, q0, q1, vecV]
                              · exact rfl
                            · intro ev W hf _ hfn hst hd
                              obtain ⟨d66, d70, d74, d62, _⟩ := hd
                              have e66 : ev (.tmp 66) = vecV x y := d66
                              have e70 : ev (.tmp 70) = vecV jx jy := d70
                              have e74 : ev (.tmp 74) = vecV kx ky := d74
                              have e62 : ev (.tmp 62) = .bool true := d62
                              refine ⟨fun _ => ?_, fun hne => absurd e62 hne⟩
                              refine st_call (f := 50) (args := #[vecV x y, vecV jx jy, vecV kx ky]) (by simp [execOp, go_sem, hfn, e66, e70, e74]) (HTW.out W) (fun _ _ => rfl)
                            · intro ev W hf hcst _ hst hd
                              obtain ⟨d75, d62, _⟩ := hd
                              have e75 : ev (.tmp 75) = .int .i64 sz := d75
                              have e62 : ev (.tmp 62) = .bool true := d62
                              refine ⟨fun _ => ?_, fun hne => absurd e62 hne⟩
                              refine st_value (v := .bool false) ?_ (Below.refl _ _) ?_
                              · simp [execOp, go_sem, e75, hcst, hsz0]
                              · exact rfl
                            · intro ev W hf hcst _ hst hd
                              obtain ⟨d62, d76, _⟩ := hd
                              have e62 : ev (.tmp 62) = .bool true := d62
                              have e76 : ev (.tmp 76) = .bool false := d76
                              refine st_value (v := .bool false) ?_ (Below.refl _ _) ?_
                              · simp [execOp, go_sem, e62, e76, hcst]
                              · exact rfl
                          case rest =>
                            intro vs w3 hl hst hg
                            have HE3 := Lib.hid hst
                            have hvs : vs = [.int .i64 (k : Int), .int .i64 (i : Int), .bool true, .bool true, .int .i64 (k : Int), .int .i64 (j : Int), .bool true, .bool true, .bool true, .slice (some ⟨b, o, none⟩) n cap, .int .i64 (i : Int), .pointer (some ⟨b, o + i * 2, none⟩), vecV x y, .slice (some ⟨b, o, none⟩) n cap, .int .i64 (j : Int), .pointer (some ⟨b, o + j * 2, none⟩), vecV jx jy, .slice (some ⟨b, o, none⟩) n cap, .int .i64 (k : Int), .pointer (some ⟨b, o + k * 2, none⟩), vecV kx ky, .int .i64 sz, .bool false, .bool false] := list_of hl (fun i u hu => by
                              match i, hu with
                              | 0, hu => exact (congrArg some (hg 0 u hu)).symm
                              | 1, hu => exact (congrArg some (hg 1 u hu)).symm
                              | 2, hu => exact (congrArg some (hg 2 u hu)).symm
                              | 3, hu => exact (congrArg some (hg 3 u hu)).symm
                              | 4, hu => exact (congrArg some (hg 4 u hu)).symm
                              | 5, hu => exact (congrArg some (hg 5 u hu)).symm
                              | 6, hu => exact (congrArg some (hg 6 u hu)).symm
                              | 7, hu => exact (congrArg some (hg 7 u hu)).symm
                              | 8, hu => exact (congrArg some (hg 8 u hu)).symm
                              | 9, hu => exact (congrArg some (hg 9 u hu)).symm
                              | 10, hu => exact (congrArg some (hg 10 u hu)).symm
                              | 11, hu => exact (congrArg some (hg 11 u hu)).symm
                              | 12, hu => exact (congrArg some (hg 12 u hu)).symm
                              | 13, hu => exact (congrArg some (hg 13 u hu)).symm
                              | 14, hu => exact (congrArg some (hg 14 u hu)).symm
                              | 15, hu => exact (congrArg some (hg 15 u hu)).symm
                              | 16, hu => exact (congrArg some (hg 16 u hu)).symm
                              | 17, hu => exact (congrArg some (hg 17 u hu)).symm
                              | 18, hu => exact (congrArg some (hg 18 u hu)).symm
                              | 19, hu => exact (congrArg some (hg 19 u hu)).symm
                              | 20, hu => exact (congrArg some (hg 20 u hu)).symm
                              | 21, hu => exact (congrArg some (hg 21 u hu)).symm
                              | 22, hu => exact (congrArg some (hg 22 u hu)).symm
                              | 23, hu => exact (congrArg some (hg 23 u hu)).symm
                              | n + 24, hu => exact absurd (lt_len hu) (by rw [hl]; simp))
                            clear hg hst hl
                            subst hvs
                            simp only [putAll, Act.put, List.dropLast, List.setIfInBounds_toArray, List.set_cons_zero, List.set_cons_succ]
                            go_wp2_with fail
                            exact ⟨⟨k + 1, by simp, by omega, HT.out, Ext.trans HEt.out HE3.out⟩, by simp [intOf]; omega⟩
                  · have hklz : ¬ (k : Int) < (n : Int) := by omega
                    have HT := Lib.hid (show ∀ q, q < i + 1 → edgeOk ps q from fun q hq => by
                      by_cases e : q = i
                      · subst e
                        refine ⟨HL.out, fun k2 h1 h2 h3 => HALT.out k2 (by have := HN.out; omega) h2 (by rw [HJ.out, HN.out]; exact h3)⟩
                      · exact HALQ.out q (by omega))
                    go_wp2_with fail
                    exact ⟨⟨i + 1, by simp, by omega, HT.out, HEt.out⟩, by simp [intOf]; omega⟩
          · have HI0 := Lib.hid (show i = 0 by omega)
            have HL := Lib.hid (show 0 < i → lowP (fromP ps 0) (fromP ps i) from fun h => absurd h hi0)
            clear hi0
            go_wp2_with fail
            refine wp_region_stable [⟨[], none⟩, ⟨[(0, 32)], none⟩, ⟨[(1, 33)], none⟩, ⟨[(2, 34)], some (34, true)⟩, ⟨[(3, 35), (2, 34)], some (34, true)⟩, ⟨[(4, 36), (2, 34)], some (34, true)⟩, ⟨[(2, 34)], some (34, true)⟩, ⟨[(2, 34)], some (34, true)⟩, ⟨[(6, 38), (7, 39), (2, 34)], some (34, true)⟩, ⟨[(8, 40), (2, 34)], some (34, true)⟩, ⟨[(5, 37), (9, 41), (2, 34)], some (34, true)⟩, ⟨[(10, 42), (2, 34)], some (34, true)⟩, ⟨[(2, 34), (11, 43)], none⟩] (fun x y => Below x.heap.size x y) (MPat [MP.eq (.int .i64 (i : Int)), MP.eq (.bool false), MP.eq (.bool false), MP.eq (undef), MP.eq (undef), MP.eq (undef), MP.eq (undef), MP.eq (undef), MP.eq (undef), MP.eq (undef), MP.eq (undef), MP.eq (undef), MP.eq (.bool false)]) (by kernel_rfl) (fun _ _ _ h k => Ext.trans h k) (fun _ => Below.refl _ _) (fun x => (Below.refl x.heap.size x).drew) (MPat.mono _) (by kernel_rfl) ?obs ?rest
            case obs =>
              refine ⟨?_, ?_, ?_, ?_, ?_, ?_, ?_, ?_, ?_, ?_, ?_, ?_, ?_, trivial⟩
              · intro ev W hf _ _ hst hd
                have e5 : ev (.tmp 5) = .int .i64 (i : Int) := hf 5 (by kernel_rfl)
                refine st_value (v := .int .i64 (i : Int)) ?_ (Below.refl _ _) ?_
                · simp [execOp, go_sem, e5]
                · exact rfl
              · intro ev W hf hcst _ hst hd
                obtain ⟨d32, _⟩ := hd
                have e32 : ev (.tmp 32) = .int .i64 (i : Int) := d32
                refine st_value (v := .bool false) ?_ (Below.refl _ _) ?_
                · simp [execOp, go_sem, e32, hcst, HI0.out]
                · exact rfl
              · intro ev W hf _ _ hst hd
                obtain ⟨d33, _⟩ := hd
                have e33 : ev (.tmp 33) = .bool false := d33
                refine st_value (v := .bool false) ?_ (Below.refl _ _) ?_
                · simp [execOp, go_sem, e33]
                · exact rfl
              · intro ev W hf _ _ hst hd
                obtain ⟨d34, _⟩ := hd
                have e34 : ev (.tmp 34) = .bool false := d34
                refine ⟨fun hh => ?_, fun _ => rfl⟩
                rw [e34] at hh
                simp at hh
              · intro ev W hf _ _ hst hd
                obtain ⟨d35, d34, _⟩ := hd
                have e34 : ev (.tmp 34) = .bool false := d34
                refine ⟨fun hh => ?_, fun _ => rfl⟩
                rw [e34] at hh
                simp at hh
              · intro ev W hf _ _ hst hd
                obtain ⟨d36, d34, _⟩ := hd
                have e34 : ev (.tmp 34) = .bool false := d34
                refine ⟨fun hh => ?_, fun _ => rfl⟩
                rw [e34] at hh
                simp at hh
              · intro ev W hf _ _ hst hd
                obtain ⟨d34, _⟩ := hd
                have e34 : ev (.tmp 34) = .bool false := d34
                refine ⟨fun hh => ?_, fun _ => rfl⟩
                rw [e34] at hh
                simp at hh
              · intro ev W hf _ _ hst hd
                obtain ⟨d34, _⟩ := hd
                have e34 : ev (.tmp 34) = .bool false := d34
                refine ⟨fun hh => ?_, fun _ => rfl⟩
                rw [e34] at hh
                simp at hh
              · intro ev W hf _ _ hst hd
                obtain ⟨d38, d39, d34, _⟩ := hd
                have e34 : ev (.tmp 34) = .bool false := d34
                refine ⟨fun hh => ?_, fun _ => rfl⟩
                rw [e34] at hh
                simp at hh
              · intro ev W hf _ _ hst hd
                obtain ⟨d40, d34, _⟩ := hd
                have e34 : ev (.tmp 34) = .bool false := d34
                refine ⟨fun hh => ?_, fun _ => rfl⟩
                rw [e34] at hh
                simp at hh
              · intro ev W hf _ _ hst hd
                obtain ⟨d37, d41, d34, _⟩ := hd
                have e34 : ev (.tmp 34) = .bool false := d34
                refine ⟨fun hh => ?_, fun _ => rfl⟩
                rw [e34] at hh
                simp at hh
              · intro ev W hf _ _ hst hd
                obtain ⟨d42, d34, _⟩ := hd
                have e34 : ev (.tmp 34) = .bool false := d34
                refine ⟨fun hh => ?_, fun _ => rfl⟩
                rw [e34] at hh
                simp at hh
              · intro ev W hf hcst _ hst hd
                obtain ⟨d34, d43, _⟩ := hd
                have e34 : ev (.tmp 34) = .bool false := d34
                have e43 : ev (.tmp 43) = undef := d43
                refine st_value (v := .bool false) ?_ (Below.refl _ _) ?_
                · simp [execOp, go_sem, e34, e43, hcst]
                · exact rfl
            case rest =>
              intro vs w3 hl hst hg
              have HE3 := Lib.hid hst
              have hvs : vs = [.int .i64 (i : Int), .bool false, .bool false, undef, undef, undef, undef, undef, undef, undef, undef, undef, .bool false] := list_of hl (fun i u hu => by
                match i, hu with
                | 0, hu => exact (congrArg some (hg 0 u hu)).symm
                | 1, hu => exact (congrArg some (hg 1 u hu)).symm
                | 2, hu => exact (congrArg some (hg 2 u hu)).symm
                | 3, hu => exact (congrArg some (hg 3 u hu)).symm
                | 4, hu => exact (congrArg some (hg 4 u hu)).symm
                | 5, hu => exact (congrArg some (hg 5 u hu)).symm
                | 6, hu => exact (congrArg some (hg 6 u hu)).symm
                | 7, hu => exact (congrArg some (hg 7 u hu)).symm
                | 8, hu => exact (congrArg some (hg 8 u hu)).symm
                | 9, hu => exact (congrArg some (hg 9 u hu)).symm
                | 10, hu => exact (congrArg some (hg 10 u hu)).symm
                | 11, hu => exact (congrArg some (hg 11 u hu)).symm
                | 12, hu => exact (congrArg some (hg 12 u hu)).symm
                | n + 13, hu => exact absurd (lt_len hu) (by rw [hl]; simp))
              clear hg hst hl
              subst hvs
              simp only [putAll, Act.put, List.dropLast, List.setIfInBounds_toArray, List.set_cons_zero, List.set_cons_succ]
              have HE2 := Lib.hid (Ext.trans HEq.out HE3.out)
              clear HE3
              go_wp2_with fail
              go_loopw [7] (fun kv wt => ∃ k : Nat, kv = .int .i64 (k : Int) ∧ k ≤ n ∧ (∀ q, q < k → q ≠ i → q ≠ j → 0 < sideK ps (fromP ps q).1 (fromP ps q).2 i) ∧ Ext w wt) (fun kv _ => n - (intOf kv).toNat)
              case atStart => exact ⟨0, rfl, Nat.zero_le _, fun q hq => by omega, HE2.out⟩
              case round =>
                rename World => wt
                obtain ⟨k, rfl, hk, hall, hE⟩ := hrel
                have HALT := Lib.hid hall
                have HEt := Lib.hid hE
                clear hall hE
                by_cases hkl : k < n
                · have hklz : (k : Int) < (n : Int) := by omega
                  by_cases hki : k = i
                  · have hkib : ((k : Int) != (i : Int)) = false := by rw [hki]; simp
                    have HT := Lib.hid (show ∀ q, q < k + 1 → q ≠ i → q ≠ j → 0 < sideK ps (fromP ps q).1 (fromP ps q).2 i from fun q hq h1 h2 => HALT.out q (by omega) h1 h2)
                    clear hki
                    go_wp2_with fail
                    refine wp_region_stable [⟨[], none⟩, ⟨[], none⟩, ⟨[(0, 54), (1, 55)], none⟩, ⟨[(2, 56)], none⟩, ⟨[(3, 57)], some (57, true)⟩, ⟨[(3, 57)], some (57, true)⟩, ⟨[(4, 58), (5, 59), (3, 57)], some (57, true)⟩, ⟨[(3, 57), (6, 60)], none⟩, ⟨[(7, 61)], none⟩, ⟨[(8, 62)], some (62, true)⟩, ⟨[(8, 62)], some (62, true)⟩, ⟨[(9, 63), (10, 64), (8, 62)], some (62, true)⟩, ⟨[(11, 65), (8, 62)], some (62, true)⟩, ⟨[(8, 62)], some (62, true)⟩, ⟨[(8, 62)], some (62, true)⟩, ⟨[(13, 67), (14, 68), (8, 62)], some (62, true)⟩, ⟨[(15, 69), (8, 62)], some (62, true)⟩, ⟨[(8, 62)], some (62, true)⟩, ⟨[(8, 62)], some (62, true)⟩, ⟨[(17, 71), (18, 72), (8, 62)], some (62, true)⟩, ⟨[(19, 73), (8, 62)], some (62, true)⟩, ⟨[(12, 66), (16, 70), (20, 74), (8, 62)], some (62, true)⟩, ⟨[(21, 75), (8, 62)], some (62, true)⟩, ⟨[(8, 62), (22, 76)], none⟩] (fun x y => Below x.heap.size x y) (MPat [MP.eq (.int .i64 (k : Int)), MP.eq (.int .i64 (i : Int)), MP.eq (.bool false), MP.eq (.bool false), MP.eq (undef), MP.eq (undef), MP.eq (undef), MP.eq (.bool false), MP.eq (.bool false), MP.eq (undef), MP.eq (undef), MP.eq (undef), MP.eq (undef), MP.eq (undef), MP.eq (undef), MP.eq (undef), MP.eq (undef), MP.eq (undef), MP.eq (undef), MP.eq (undef), MP.eq (undef), MP.eq (undef), MP.eq (undef), MP.eq (.bool false)]) (by kernel_rfl) (fun _ _ _ h k => Ext.trans h k) (fun _ => Below.refl _ _) (fun x => (Below.refl x.heap.size x).drew) (MPat.mono _) (by kernel_rfl) ?obs ?rest
                    case obs =>
                      refine ⟨?_, ?_, ?_, ?_, ?_, ?_, ?_, ?_, ?_, ?_, ?_, ?_, ?_, ?_, ?_, ?_, ?_, ?_, ?_, ?_, ?_, ?_, ?_, ?_, trivial⟩
                      · intro ev W hf _ _ hst hd
                        have e7 : ev (.tmp 7) = .int .i64 (k : Int) := hf 7 (by kernel_rfl)
                        refine st_value (v := .int .i64 (k : Int)) ?_ (Below.refl _ _) ?_
                        · simp [execOp, go_sem, e7]
                        · exact rfl
                      · intro ev W hf _ _ hst hd
                        have e5 : ev (.tmp 5) = .int .i64 (i : Int) := hf 5 (by kernel_rfl)
                        refine st_value (v := .int .i64 (i : Int)) ?_ (Below.refl _ _) ?_
                        · simp [execOp, go_sem, e5]
                        · exact rfl
                      · intro ev W hf _ _ hst hd
                        obtain ⟨d54, d55, _⟩ := hd
                        have e54 : ev (.tmp 54) = .int .i64 (k : Int) := d54
                        have e55 : ev (.tmp 55) = .int .i64 (i : Int) := d55
                        refine st_value (v := .bool false) ?_ (Below.refl _ _) ?_
                        · simp [execOp, go_sem, e54, e55, hkib]
                        · exact rfl
                      · intro ev W hf _ _ hst hd
                        obtain ⟨d56, _⟩ := hd
                        have e56 : ev (.tmp 56) = .bool false := d56
                        refine st_value (v := .bool false) ?_ (Below.refl _ _) ?_
                        · simp [execOp, go_sem, e56]
                        · exact rfl
                      · intro ev W hf _ _ hst hd
                        obtain ⟨d57, _⟩ := hd
                        have e57 : ev (.tmp 57) = .bool false := d57
                        refine ⟨fun hh => ?_, fun _ => rfl⟩
                        rw [e57] at hh
                        simp at hh
                      · intro ev W hf _ _ hst hd
                        obtain ⟨d57, _⟩ := hd
                        have e57 : ev (.tmp 57) = .bool false := d57
                        refine ⟨fun hh => ?_, fun _ => rfl⟩
                        rw [e57] at hh
                        simp at hh
                      · intro ev W hf _ _ hst hd
                        obtain ⟨d58, d59, d57, _⟩ := hd
                        have e57 : ev (.tmp 57) = .bool false := d57
                        refine ⟨fun hh => ?_, fun _ => rfl⟩
                        rw [e57] at hh
                        simp at hh
                      · intro ev W hf hcst _ hst hd
                        obtain ⟨d57, d60, _⟩ := hd
                        have e57 : ev (.tmp 57) = .bool false := d57
                        have e60 : ev (.tmp 60) = undef := d60
                        refine st_value (v := .bool false) ?_ (Below.refl _ _) ?_
                        · simp [execOp, go_sem, e57, e60, hcst]
                        · exact rfl
                      · intro ev W hf _ _ hst hd
                        obtain ⟨d61, _⟩ := hd
                        have e61 : ev (.tmp 61) = .bool false := d61
                        refine st_value (v := .bool false) ?_ (Below.refl _ _) ?_
                        · simp [execOp, go_sem, e61]
                        · exact rfl
                      · intro ev W hf _ _ hst hd
                        obtain ⟨d62, _⟩ := hd
                        have e62 : ev (.tmp 62) = .bool false := d62
                        refine ⟨fun hh => ?_, fun _ => rfl⟩
                        rw [e62] at hh
                        simp at hh
                      · intro ev W hf _ _ hst hd
                        obtain ⟨d62, _⟩ := hd
                        have e62 : ev (.tmp 62) = .bool false := d62
                        refine ⟨fun hh => ?_, fun _ => rfl⟩
                        rw [e62] at hh
                        simp at hh
                      · intro ev W hf _ _ hst hd
                        obtain ⟨d63, d64, d62, _⟩ := hd
                        have e62 : ev (.tmp 62) = .bool false := d62
                        refine ⟨fun hh => ?_, fun _ => rfl⟩
                        rw [e62] at hh
                        simp at hh
                      · intro ev W hf _ _ hst hd
                        obtain ⟨d65, d62, _⟩ := hd
                        have e62 : ev (.tmp 62) = .bool false := d62
                        refine ⟨fun hh => ?_, fun _ => rfl⟩
                        rw [e62] at hh
                        simp at hh
                      · intro ev W hf _ _ hst hd
                        obtain ⟨d62, _⟩ := hd
                        have e62 : ev (.tmp 62) = .bool false := d62
                        refine ⟨fun hh => ?_, fun _ => rfl⟩
                        rw [e62] at hh
                        simp at hh
                      · intro ev W hf _ _ hst hd
                        obtain ⟨d62, _⟩ := hd
                        have e62 : ev (.tmp 62) = .bool false := d62
                        refine ⟨fun hh => ?_, fun _ => rfl⟩
                        rw [e62] at hh
                        simp at hh
                      · intro ev W hf _ _ hst hd
                        obtain ⟨d67, d68, d62, _⟩ := hd
                        have e62 : ev (.tmp 62) = .bool false := d62
                        refine ⟨fun hh => ?_, fun _ => rfl⟩
                        rw [e62] at hh
                        simp at hh
                      · intro ev W hf _ _ hst hd
                        obtain ⟨d69, d62, _⟩ := hd
                        have e62 : ev (.tmp 62) = .bool false := d62
                        refine ⟨fun hh => ?_, fun _ => rfl⟩
                        rw [e62] at hh
                        simp at hh
                      · intro ev W hf _ _ hst hd
                        obtain ⟨d62, _⟩ := hd
                        have e62 : ev (.tmp 62) = .bool false := d62
                        refine ⟨fun hh => ?_, fun _ => rfl⟩
                        rw [e62] at hh
                        simp at hh
                      · intro ev W hf _ _ hst hd
                        obtain ⟨d62, _⟩ := hd
                        have e62 : ev (.tmp 62) = .bool false := d62
                        refine ⟨fun hh => ?_, fun _ => rfl⟩
                        rw [e62] at hh
                        simp at hh
                      · intro ev W hf _ _ hst hd
                        obtain ⟨d71, d72, d62, _⟩ := hd
                        have e62 : ev (.tmp 62) = .bool false := d62
                        refine ⟨fun hh => ?_, fun _ => rfl⟩
                        rw [e62] at hh
                        simp at hh
                      · intro ev W hf _ _ hst hd
                        obtain ⟨d73, d62, _⟩ := hd
                        have e62 : ev (.tmp 62) = .bool false := d62
                        refine ⟨fun hh => ?_, fun _ => rfl⟩
                        rw [e62] at hh
                        simp at hh
                      · intro ev W hf _ _ hst hd
                        obtain ⟨d66, d70, d74, d62, _⟩ := hd
                        have e62 : ev (.tmp 62) = .bool false := d62
                        refine ⟨fun hh => ?_, fun _ => rfl⟩
                        rw [e62] at hh
                        simp at hh
                      · intro ev W hf _ _ hst hd
                        obtain ⟨d75, d62, _⟩ := hd
                        have e62 : ev (.tmp 62) = .bool false := d62
                        refine ⟨fun hh => ?_, fun _ => rfl⟩
                        rw [e62] at hh
                        simp at hh
                      · intro ev W hf hcst _ hst hd
                        obtain ⟨d62, d76, _⟩ := hd
                        have e62 : ev (.tmp 62) = .bool false := d62
                        have e76 : ev (.tmp 76) = undef := d76
                        refine st_value (v := .bool false) ?_ (Below.refl _ _) ?_
                        · simp [execOp, go_sem, e62, e76, hcst]
                        · exact rfl
                    case rest =>
                      intro vs w3 hl hst hg
                      have HE3 := Lib.hid hst
                      have hvs : vs = [.int .i64 (k : Int), .int .i64 (i : Int), .bool false, .bool false, undef, undef, undef, .bool false, .bool false, undef, undef, undef, undef, undef, undef, undef, undef, undef, undef, undef, undef, undef, undef, .bool false] := list_of hl (fun i u hu => by
                        match i, hu with
                        | 0, hu => exact (congrArg some (hg 0 u hu)).symm
                        | 1, hu => exact (congrArg some (hg 1 u hu)).symm
                        | 2, hu => exact (congrArg some (hg 2 u hu)).symm
                        | 3, hu => exact (congrArg some (hg 3 u hu)).symm
                        | 4, hu => exact (congrArg some (hg 4 u hu)).symm
                        | 5, hu => exact (congrArg some (hg 5 u hu)).symm
                        | 6, hu => exact (congrArg some (hg 6 u hu)).symm
                        | 7, hu => exact (congrArg some (hg 7 u hu)).symm
                        | 8, hu => exact (congrArg some (hg 8 u hu)).symm
                        | 9, hu => exact (congrArg some (hg 9 u hu)).symm
                        | 10, hu => exact (congrArg some (hg 10 u hu)).symm
                        | 11, hu => exact (congrArg some (hg 11 u hu)).symm
                        | 12, hu => exact (congrArg some (hg 12 u hu)).symm
                        | 13, hu => exact (congrArg some (hg 13 u hu)).symm
                        | 14, hu => exact (congrArg some (hg 14 u hu)).symm
                        | 15, hu => exact (congrArg some (hg 15 u hu)).symm
                        | 16, hu => exact (congrArg some (hg 16 u hu)).symm
                        | 17, hu => exact (congrArg some (hg 17 u hu)).symm
                        | 18, hu => exact (congrArg some (hg 18 u hu)).symm
                        | 19, hu => exact (congrArg some (hg 19 u hu)).symm
                        | 20, hu => exact (congrArg some (hg 20 u hu)).symm
                        | 21, hu => exact (congrArg some (hg 21 u hu)).symm
                        | 22, hu => exact (congrArg some (hg 22 u hu)).symm
                        | 23, hu => exact (congrArg some (hg 23 u hu)).symm
                        | n + 24, hu => exact absurd (lt_len hu) (by rw [hl]; simp))
                      clear hg hst hl
                      subst hvs
                      simp only [putAll, Act.put, List.dropLast, List.setIfInBounds_toArray, List.set_cons_zero, List.set_cons_succ]
                      go_wp2_with fail
                      exact ⟨⟨k + 1, by simp, by omega, HT.out, Ext.trans HEt.out HE3.out⟩, by simp [intOf]; omega⟩
                  · have hkib : ((k : Int) != (i : Int)) = true := by rw [bne_iff_ne]; omega
                    by_cases hkj : k = j
                    · have hkjb : ((k : Int) != (j : Int)) = false := by rw [hkj]; simp
                      have HT := Lib.hid (show ∀ q, q < k + 1 → q ≠ i → q ≠ j → 0 < sideK ps (fromP ps q).1 (fromP ps q).2 i from fun q hq h1 h2 => HALT.out q (by omega) h1 h2)
                      clear hkj hki
                      go_wp2_with fail
                      refine wp_region_stable [⟨[], none⟩, ⟨[], none⟩, ⟨[(0, 54), (1, 55)], none⟩, ⟨[(2, 56)], none⟩, ⟨[(3, 57)], some (57, true)⟩, ⟨[(3, 57)], some (57, true)⟩, ⟨[(4, 58), (5, 59), (3, 57)], some (57, true)⟩, ⟨[(3, 57), (6, 60)], none⟩, ⟨[(7, 61)], none⟩, ⟨[(8, 62)], some (62, true)⟩, ⟨[(8, 62)], some (62, true)⟩, ⟨[(9, 63), (10, 64), (8, 62)], some (62, true)⟩, ⟨[(11, 65), (8, 62)], some (62, true)⟩, ⟨[(8, 62)], some (62, true)⟩, ⟨[(8, 62)], some (62, true)⟩, ⟨[(13, 67), (14, 68), (8, 62)], some (62, true)⟩, ⟨[(15, 69), (8, 62)], some (62, true)⟩, ⟨[(8, 62)], some (62, true)⟩, ⟨[(8, 62)], some (62, true)⟩, ⟨[(17, 71), (18, 72), (8, 62)], some (62, true)⟩, ⟨[(19, 73), (8, 62)], some (62, true)⟩, ⟨[(12, 66), (16, 70), (20, 74), (8, 62)], some (62, true)⟩, ⟨[(21, 75), (8, 62)], some (62, true)⟩, ⟨[(8, 62), (22, 76)], none⟩] (fun x y => Below x.heap.size x y) (MPat [MP.eq (.int .i64 (k : Int)), MP.eq (.int .i64 (i : Int)), MP.eq (.bool true), MP.eq (.bool true), MP.eq (.int .i64 (k : Int)), MP.eq (.int .i64 (j : Int)), MP.eq (.bool false), MP.eq (.bool false), MP.eq (.bool false), MP.eq (undef), MP.eq (undef), MP.eq (undef), MP.eq (undef), MP.eq (undef), MP.eq (undef), MP.eq (undef), MP.eq (undef), MP.eq (undef), MP.eq (undef), MP.eq (undef), MP.eq (undef), MP.eq (undef), MP.eq (undef), MP.eq (.bool false)]) (by kernel_rfl) (fun _ _ _ h k => Ext.trans h k) (fun _ => Below.refl _ _) (fun x => (Below.refl x.heap.size x).drew) (MPat.mono _) (by kernel_rfl) ?obs ?rest
                      case obs =>
                        refine ⟨?_, ?_, ?_, ?_, ?_, ?_, ?_, ?_, ?_, ?_, ?_, ?_, ?_, ?_, ?_, ?_, ?_, ?_, ?_, ?_, ?_, ?_, ?_, ?_, trivial⟩
                        · intro ev W hf _ _ hst hd
                          have e7 : ev (.tmp 7) = .int .i64 (k : Int) := hf 7 (by kernel_rfl)
                          refine st_value (v := .int .i64 (k : Int)) ?_ (Below.refl _ _) ?_
                          · simp [execOp, go_sem, e7]
                          · exact rfl
                        · intro ev W hf _ _ hst hd
                          have e5 : ev (.tmp 5) = .int .i64 (i : Int) := hf 5 (by kernel_rfl)
                          refine st_value (v := .int .i64 (i : Int)) ?_ (Below.refl _ _) ?_
                          · simp [execOp, go_sem, e5]
                          · exact rfl
                        · intro ev W hf _ _ hst hd
                          obtain ⟨d54, d55, _⟩ := hd
                          have e54 : ev (.tmp 54) = .int .i64 (k : Int) := d54
                          have e55 : ev (.tmp 55) = .int .i64 (i : Int) := d55
                          refine st_value (v := .bool true) ?_ (Below.refl _ _) ?_
                          · simp [execOp, go_sem, e54, e55, hkib]
                          · exact rfl
                        · intro ev W hf _ _ hst hd
                          obtain ⟨d56, _⟩ := hd
                          have e56 : ev (.tmp 56) = .bool true := d56
                          refine st_value (v := .bool true) ?_ (Below.refl _ _) ?_
                          · simp [execOp, go_sem, e56]
                          · exact rfl
                        · intro ev W hf _ _ hst hd
                          obtain ⟨d57, _⟩ := hd
                          have e7 : ev (.tmp 7) = .int .i64 (k : Int) := hf 7 (by kernel_rfl)
                          have e57 : ev (.tmp 57) = .bool true := d57
                          refine ⟨fun _ => ?_, fun hne => absurd e57 hne⟩
                          refine st_value (v := .int .i64 (k : Int)) ?_ (Below.refl _ _) ?_
                          · simp [execOp, go_sem, e7]
                          · exact rfl
                        · intro ev W hf _ _ hst hd
                          obtain ⟨d57, _⟩ := hd
                          have e6 : ev (.tmp 6) = .int .i64 (j : Int) := hf 6 (by kernel_rfl)
                          have e57 : ev (.tmp 57) = .bool true := d57
                          refine ⟨fun _ => ?_, fun hne => absurd e57 hne⟩
                          refine st_value (v := .int .i64 (j : Int)) ?_ (Below.refl _ _) ?_
                          · simp [execOp, go_sem, e6]
                          · exact rfl
                        · intro ev W hf _ _ hst hd
                          obtain ⟨d58, d59, d57, _⟩ := hd
                          have e58 : ev (.tmp 58) = .int .i64 (k : Int) := d58
                          have e59 : ev (.tmp 59) = .int .i64 (j : Int) := d59
                          have e57 : ev (.tmp 57) = .bool true := d57
                          refine ⟨fun _ => ?_, fun hne => absurd e57 hne⟩
                          refine st_value (v := .bool false) ?_ (Below.refl _ _) ?_
                          · simp [execOp, go_sem, e58, e59, hkjb]
                          · exact rfl
                        · intro ev W hf hcst _ hst hd
                          obtain ⟨d57, d60, _⟩ := hd
                          have e57 : ev (.tmp 57) = .bool true := d57
                          have e60 : ev (.tmp 60) = .bool false := d60
                          refine st_value (v := .bool false) ?_ (Below.refl _ _) ?_
                          · simp [execOp, go_sem, e57, e60, hcst]
                          · exact rfl
                        · intro ev W hf _ _ hst hd
                          obtain ⟨d61, _⟩ := hd
                          have e61 : ev (.tmp 61) = .bool false := d61
                          refine st_value (v := .bool false) ?_ (Below.refl _ _) ?_
                          · simp [execOp, go_sem, e61]
                          · exact rfl
                        · intro ev W hf _ _ hst hd
                          obtain ⟨d62, _⟩ := hd
                          have e62 : ev (.tmp 62) = .bool false := d62
                          refine ⟨fun hh => ?_, fun _ => rfl⟩
                          rw [e62] at hh
                          simp at hh
                        · intro ev W hf _ _ hst hd
                          obtain ⟨d62, _⟩ := hd
                          have e62 : ev (.tmp 62) = .bool false := d62
                          refine ⟨fun hh => ?_, fun _ => rfl⟩
                          rw [e62] at hh
                          simp at hh
                        · intro ev W hf _ _ hst hd
                          obtain ⟨d63, d64, d62, _⟩ := hd
                          have e62 : ev (.tmp 62) = .bool false := d62
                          refine ⟨fun hh => ?_, fun _ => rfl⟩
                          rw [e62] at hh
                          simp at hh
                        · intro ev W hf _ _ hst hd
                          obtain ⟨d65, d62, _⟩ := hd
                          have e62 : ev (.tmp 62) = .bool false := d62
                          refine ⟨fun hh => ?_, fun _ => rfl⟩
                          rw [e62] at hh
                          simp at hh
                        · intro ev W hf _ _ hst hd
                          obtain ⟨d62, _⟩ := hd
                          have e62 : ev (.tmp 62) = .bool false := d62
                          refine ⟨fun hh => ?_, fun _ => rfl⟩
                          rw [e62] at hh
                          simp at hh
                        · intro ev W hf _ _ hst hd
                          obtain ⟨d62, _⟩ := hd
                          have e62 : ev (.tmp 62) = .bool false := d62
                          refine ⟨fun hh => ?_, fun _ => rfl⟩
                          rw [e62] at hh
                          simp at hh
                        · intro ev W hf _ _ hst hd
                          obtain ⟨d67, d68, d62, _⟩ := hd
                          have e62 : ev (.tmp 62) = .bool false := d62
                          refine ⟨fun hh => ?_, fun _ => rfl⟩
                          rw [e62] at hh
                          simp at hh
                        · intro ev W hf _ _ hst hd
                          obtain ⟨d69, d62, _⟩ := hd
                          have e62 : ev (.tmp 62) = .bool false := d62
                          refine ⟨fun hh => ?_, fun _ => rfl⟩
                          rw [e62] at hh
                          simp at hh
                        · intro ev W hf _ _ hst hd
                          obtain ⟨d62, _⟩ := hd
                          have e62 : ev (.tmp 62) = .bool false := d62
                          refine ⟨fun hh => ?_, fun _ => rfl⟩
                          rw [e62] at hh
                          simp at hh
                        · intro ev W hf _ _ hst hd
                          obtain ⟨d62, _⟩ := hd
                          have e62 : ev (.tmp 62) = .bool false := d62
                          refine ⟨fun hh => ?_, fun _ => rfl⟩
                          rw [e62] at hh
                          simp at hh
                        · intro ev W hf _ _ hst hd
                          obtain ⟨d71, d72, d62, _⟩ := hd
                          have e62 : ev (.tmp 62) = .bool false := d62
                          refine ⟨fun hh => ?_, fun _ => rfl⟩
                          rw [e62] at hh
                          simp at hh
                        · intro ev W hf _ _ hst hd
                          obtain ⟨d73, d62, _⟩ := hd
                          have e62 : ev (.tmp 62) = .bool false := d62
                          refine ⟨fun hh => ?_, fun _ => rfl⟩
                          rw [e62] at hh
                          simp at hh
                        · intro ev W hf _ _ hst hd
                          obtain ⟨d66, d70, d74, d62, _⟩ := hd
                          have e62 : ev (.tmp 62) = .bool false := d62
                          refine ⟨fun hh => ?_, fun _ => rfl⟩
                          rw [e62] at hh
                          simp at hh
                        · intro ev W hf _ _ hst hd
                          obtain ⟨d75, d62, _⟩ := hd
                          have e62 : ev (.tmp 62) = .bool false := d62
                          refine ⟨fun hh => ?_, fun _ => rfl⟩
                          rw [e62] at hh
                          simp at hh
                        · intro ev W hf hcst _ hst hd
                          obtain ⟨d62, d76, _⟩ := hd
                          have e62 : ev (.tmp 62) = .bool false := d62
                          have e76 : ev (.tmp 76) = undef := d76
                          refine st_value (v := .bool false) ?_ (Below.refl _ _) ?_
                          · simp [execOp, go_sem, e62, e76, hcst]
                          · exact rfl
                      case rest =>
                        intro vs w3 hl hst hg
                        have HE3 := Lib.hid hst
                        have hvs : vs = [.int .i64 (k : Int), .int .i64 (i : Int), .bool true, .bool true, .int .i64 (k : Int), .int .i64 (j : Int), .bool false, .bool false, .bool false, undef, undef, undef, undef, undef, undef, undef, undef, undef, undef, undef, undef, undef, undef, .bool false] := list_of hl (fun i u hu => by
                          match i, hu with
                          | 0, hu => exact (congrArg some (hg 0 u hu)).symm
                          | 1, hu => exact (congrArg some (hg 1 u hu)).symm
                          | 2, hu => exact (congrArg some (hg 2 u hu)).symm
                          | 3, hu => exact (congrArg some (hg 3 u hu)).symm
                          | 4, hu => exact (congrArg some (hg 4 u hu)).symm
                          | 5, hu => exact (congrArg some (hg 5 u hu)).symm
                          | 6, hu => exact (congrArg some (hg 6 u hu)).symm
                          | 7, hu => exact (congrArg some (hg 7 u hu)).symm
                          | 8, hu => exact (congrArg some (hg 8 u hu)).symm
                          | 9, hu => exact (congrArg some (hg 9 u hu)).symm
                          | 10, hu => exact (congrArg some (hg 10 u hu)).symm
                          | 11, hu => exact (congrArg some (hg 11 u hu)).symm
                          | 12, hu => exact (congrArg some (hg 12 u hu)).symm
                          | 13, hu => exact (congrArg some (hg 13 u hu)).symm
                          | 14, hu => exact (congrArg some (hg 14 u hu)).symm
                          | 15, hu => exact (congrArg some (hg 15 u hu)).symm
                          | 16, hu => exact (congrArg some (hg 16 u hu)).symm
                          | 17, hu => exact (congrArg some (hg 17 u hu)).symm
                          | 18, hu => exact (congrArg some (hg 18 u hu)).symm
                          | 19, hu => exact (congrArg some (hg 19 u hu)).symm
                          | 20, hu => exact (congrArg some (hg 20 u hu)).symm
                          | 21, hu => exact (congrArg some (hg 21 u hu)).symm
                          | 22, hu => exact (congrArg some (hg 22 u hu)).symm
                          | 23, hu => exact (congrArg some (hg 23 u hu)).symm
                          | n + 24, hu => exact absurd (lt_len hu) (by rw [hl]; simp))
                        clear hg hst hl
                        subst hvs
                        simp only [putAll, Act.put, List.dropLast, List.setIfInBounds_toArray, List.set_cons_zero, List.set_cons_succ]
                        go_wp2_with fail
                        exact ⟨⟨k + 1, by simp, by omega, HT.out, Ext.trans HEt.out HE3.out⟩, by simp [intOf]; omega⟩
                    · have hkjb : ((k : Int) != (j : Int)) = true := by rw [bne_iff_ne]; omega
                      obtain ⟨e3, e4⟩ := HC.out j hjn
                      obtain ⟨e5, e6⟩ := HC.out k hkl
                      have E1 := Lib.hid (Ext.cell HEt.out D1.out)
                      have E2 := Lib.hid (Ext.cell HEt.out D2.out)
                      have hjb := HNEAR.out j hjn
                      have hkb := HNEAR.out k hkl
                      have HS := Lib.hid (show twiZ x y (fromP ps j).1 (fromP ps j).2 (fromP ps k).1 (fromP ps k).2 = sideK ps (fromP ps k).1 (fromP ps k).2 i from by
                        rw [HX.out, HY.out]
                        have h := twi_side ps (fromP ps k) i
                        rw [to_from, show (i + 1) % ps.length = j by rw [← HN.out, HJ.out]] at h
                        exact h)
                      have HNE := Lib.hid (show k ≠ i ∧ k ≠ j from ⟨hki, hkj⟩)
                      clear hki hkj
                      obtain ⟨sz, hsz⟩ : ∃ sz, sz = sideK ps (fromP ps k).1 (fromP ps k).2 i := ⟨_, rfl⟩
                      rw [← hsz] at HS
                      have HSZ := Lib.hid hsz
                      clear hsz
                      obtain ⟨jx, hjx⟩ : ∃ jx, jx = (fromP ps j).1 := ⟨_, rfl⟩
                      obtain ⟨jy, hjy⟩ : ∃ jy, jy = (fromP ps j).2 := ⟨_, rfl⟩
                      obtain ⟨kx, hkx⟩ : ∃ kx, kx = (fromP ps k).1 := ⟨_, rfl⟩
                      obtain ⟨ky, hky⟩ : ∃ ky, ky = (fromP ps k).2 := ⟨_, rfl⟩
                      rw [← hjx] at e3 hjb HS
                      rw [← hjy] at e4 hjb HS
                      rw [← hkx] at e5 hkb HS
                      rw [← hky] at e6 hkb HS
                      have E3 := Lib.hid (Ext.cell HEt.out e3)
                      have E4 := Lib.hid (Ext.cell HEt.out e4)
                      have E5 := Lib.hid (Ext.cell HEt.out e5)
                      have E6 := Lib.hid (Ext.cell HEt.out e6)
                      clear hjx hjy hkx hky e3 e4 e5 e6
                      have HTW := Lib.hid (fun W => twice_c x y jx jy kx ky W (by omega) (by omega) (by omega) (by omega) (by omega) (by omega))
                      rw [HS.out] at HTW
                      clear HS
                      by_cases hs : sz ≤ 0
                      · have HF := Lib.hid (show validB ps = false from valid_not (i := i) (by have := HN.out; omega) (by have := HN.out; omega) HNF.out (by have := HN.out; omega) (fun h => by
                          have h2 := h.2 k (by have := HN.out; omega) HNE.out.1 (by rw [← HN.out, ← HJ.out]; exact HNE.out.2)
                          rw [← HSZ.out] at h2; omega))
                        have hsz0 : decide (sz ≤ 0) = true := decide_eq_true hs
                        clear hs
                        go_wp2_with fail
                        refine wp_region_stable [⟨[], none⟩, ⟨[], none⟩, ⟨[(0, 54), (1, 55)], none⟩, ⟨[(2, 56)], none⟩, ⟨[(3, 57)], some (57, true)⟩, ⟨[(3, 57)], some (57, true)⟩, ⟨[(4, 58), (5, 59), (3, 57)], some (57, true)⟩, ⟨[(3, 57), (6, 60)], none⟩, ⟨[(7, 61)], none⟩, ⟨[(8, 62)], some (62, true)⟩, ⟨[(8, 62)], some (62, true)⟩, ⟨[(9, 63), (10, 64), (8, 62)], some (62, true)⟩, ⟨[(11, 65), (8, 62)], some (62, true)⟩, ⟨[(8, 62)], some (62, true)⟩, ⟨[(8, 62)], some (62, true)⟩, ⟨[(13, 67), (14, 68), (8, 62)], some (62, true)⟩, ⟨[(15, 69), (8, 62)], some (62, true)⟩, ⟨[(8, 62)], some (62, true)⟩, ⟨[(8, 62)], some (62, true)⟩, ⟨[(17, 71), (18, 72), (8, 62)], some (62, true)⟩, ⟨[(19, 73), (8, 62)], some (62, true)⟩, ⟨[(12, 66), (16, 70), (20, 74), (8, 62)], some (62, true)⟩, ⟨[(21, 75), (8, 62)], some (62, true)⟩, ⟨[(8, 62), (22, 76)], none⟩] (fun x y => Below x.heap.size x y) (MPat [MP.eq (.int .i64 (k : Int)), MP.eq (.int .i64 (i : Int)), MP.eq (.bool true), MP.eq (.bool true), MP.eq (.int .i64 (k : Int)), MP.eq (.int .i64 (j : Int)), MP.eq (.bool true), MP.eq (.bool true), MP.eq (.bool true), MP.eq (.slice (some ⟨b, o, none⟩) n cap), MP.eq (.int .i64 (i : Int)), MP.eq (.pointer (some ⟨b, o + i * 2, none⟩)), MP.eq (vecV x y), MP.eq (.slice (some ⟨b, o, none⟩) n cap), MP.eq (.int .i64 (j : Int)), MP.eq (.pointer (some ⟨b, o + j * 2, none⟩)), MP.eq (vecV jx jy), MP.eq (.slice (some ⟨b, o, none⟩) n cap), MP.eq (.int .i64 (k : Int)), MP.eq (.pointer (some ⟨b, o + k * 2, none⟩)), MP.eq (vecV kx ky), MP.eq (.int .i64 sz), MP.eq (.bool true), MP.eq (.bool true)]) (by kernel_rfl) (fun _ _ _ h k => Ext.trans h k) (fun _ => Below.refl _ _) (fun x => (Below.refl x.heap.size x).drew) (MPat.mono _) (by kernel_rfl) ?obs ?rest
                        case obs =>
                          refine ⟨?_, ?_, ?_, ?_, ?_, ?_, ?_, ?_, ?_, ?_, ?_, ?_, ?_, ?_, ?_, ?_, ?_, ?_, ?_, ?_, ?_, ?_, ?_, ?_, trivial⟩
                          · intro ev W hf _ _ hst hd
                            have e7 : ev (.tmp 7) = .int .i64 (k : Int) := hf 7 (by kernel_rfl)
                            refine st_value (v := .int .i64 (k : Int)) ?_ (Below.refl _ _) ?_
                            · simp [execOp, go_sem, e7]
                            · exact rfl
                          · intro ev W hf _ _ hst hd
                            have e5 : ev (.tmp 5) = .int .i64 (i : Int) := hf 5 (by kernel_rfl)
                            refine st_value (v := .int .i64 (i : Int)) ?_ (Below.refl _ _) ?_
                            · simp [execOp, go_sem, e5]
                            · exact rfl
                          · intro ev W hf _ _ hst hd
                            obtain ⟨d54, d55, _⟩ := hd
                            have e54 : ev (.tmp 54) = .int .i64 (k : Int) := d54
                            have e55 : ev (.tmp 55) = .int .i64 (i : Int) := d55
                            refine st_value (v := .bool true) ?_ (Below.refl _ _) ?_
                            · simp [execOp, go_sem, e54, e55, hkib]
                            · exact rfl
                          · intro ev W hf _ _ hst hd
                            obtain ⟨d56, _⟩ := hd
                            have e56 : ev (.tmp 56) = .bool true := d56
                            refine st_value (v := .bool true) ?_ (Below.refl _ _) ?_
                            · simp [execOp, go_sem, e56]
                            · exact rfl
                          · intro ev W hf _ _ hst hd
                            obtain ⟨d57, _⟩ := hd
                            have e7 : ev (.tmp 7) = .int .i64 (k : Int) := hf 7 (by kernel_rfl)
                            have e57 : ev (.tmp 57) = .bool true := d57
                            refine ⟨fun _ => ?_, fun hne => absurd e57 hne⟩
                            refine st_value (v := .int .i64 (k : Int)) ?_ (Below.refl _ _) ?_
                            · simp [execOp, go_sem, e7]
                            · exact rfl
                          · intro ev W hf _ _ hst hd
                            obtain ⟨d57, _⟩ := hd
                            have e6 : ev (.tmp 6) = .int .i64 (j : Int) := hf 6 (by kernel_rfl)
                            have e57 : ev (.tmp 57) = .bool true := d57
                            refine ⟨fun _ => ?_, fun hne => absurd e57 hne⟩
                            refine st_value (v := .int .i64 (j : Int)) ?_ (Below.refl _ _) ?_
                            · simp [execOp, go_sem, e6]
                            · exact rfl
                          · intro ev W hf _ _ hst hd
                            obtain ⟨d58, d59, d57, _⟩ := hd
                            have e58 : ev (.tmp 58) = .int .i64 (k : Int) := d58
                            have e59 : ev (.tmp 59) = .int .i64 (j : Int) := d59
                            have e57 : ev (.tmp 57) = .bool true := d57
                            refine ⟨fun _ => ?_, fun hne => absurd e57 hne⟩
                            refine st_value (v := .bool true) ?_ (Below.refl _ _) ?_
                            · simp [execOp, go_sem, e58, e59, hkjb]
                            · exact rfl
                          · intro ev W hf hcst _ hst hd
                            obtain ⟨d57, d60, _⟩ := hd
                            have e57 : ev (.tmp 57) = .bool true := d57
                            have e60 : ev (.tmp 60) = .bool true := d60
                            refine st_value (v := .bool true) ?_ (Below.refl _ _) ?_
                            · simp [execOp, go_sem, e57, e60, hcst]
                            · exact rfl
                          · intro ev W hf _ _ hst hd
                            obtain ⟨d61, _⟩ := hd
                            have e61 : ev (.tmp 61) = .bool true := d61
                            refine st_value (v := .bool true) ?_ (Below.refl _ _) ?_
                            · simp [execOp, go_sem, e61]
                            · exact rfl
                          · intro ev W hf _ _ hst hd
                            obtain ⟨d62, _⟩ := hd
                            have e0 : ev (.tmp 0) = .slice (some ⟨b, o, none⟩) n cap := hf 0 (by kernel_rfl)
                            have e62 : ev (.tmp 62) = .bool true := d62
                            refine ⟨fun _ => ?_, fun hne => absurd e62 hne⟩
                            refine st_value (v := .slice (some ⟨b, o, none⟩) n cap) ?_ (Below.refl _ _) ?_
                            · simp [execOp, go_sem, e0]
                            · exact rfl
                          · intro ev W hf _ _ hst hd
                            obtain ⟨d62, _⟩ := hd
                            have e5 : ev (.tmp 5) = .int .i64 (i : Int) := hf 5 (by kernel_rfl)
                            have e62 : ev (.tmp 62) = .bool true := d62
                            refine ⟨fun _ => ?_, fun hne => absurd e62 hne⟩
                            refine st_value (v := .int .i64 (i : Int)) ?_ (Below.refl _ _) ?_
                            · simp [execOp, go_sem, e5]
                            · exact rfl
                          · intro ev W hf _ _ hst hd
                            obtain ⟨d63, d64, d62, _⟩ := hd
                            have e63 : ev (.tmp 63) = .slice (some ⟨b, o, none⟩) n cap := d63
                            have e64 : ev (.tmp 64) = .int .i64 (i : Int) := d64
                            have e62 : ev (.tmp 62) = .bool true := d62
                            refine ⟨fun _ => ?_, fun hne => absurd e62 hne⟩
                            refine st_value (v := .pointer (some ⟨b, o + i * 2, none⟩)) ?_ (Below.refl _ _) ?_
                            · simp [execOp, go_sem, e63, e64, hil]
                            · exact rfl
                          · intro ev W hf _ _ hst hd
                            obtain ⟨d65, d62, _⟩ := hd
                            have e65 : ev (.tmp 65) = .pointer (some ⟨b, o + i * 2, none⟩) := d65
                            have e62 : ev (.tmp 62) = .bool true := d62
                            refine ⟨fun _ => ?_, fun hne => absurd e62 hne⟩
                            have q0 := Ext.cell hst E1.out
                            have q1 := Ext.cell hst E2.out
                            refine st_value (v := vecV x y) ?_ (Below.refl _ _) ?_
                            · simp [execOp, go_sem, e65, q0, q1, vecV]
                            · exact rfl
                          · intro ev W hf _ _ hst hd
                            obtain ⟨d62, _⟩ := hd
                            have e0 : ev (.tmp 0) = .slice (some ⟨b, o, none⟩) n cap := hf 0 (by kernel_rfl)
                            have e62 : ev (.tmp 62) = .bool true := d62
                            refine ⟨fun _ => ?_, fun hne => absurd e62 hne⟩
                            refine st_value (v := .slice (some ⟨b, o, none⟩) n cap) ?_ (Below.refl _ _) ?_
                            · simp [execOp, go_sem, e0]
                            · exact rfl
                          · intro ev W hf _ _ hst hd
                            obtain ⟨d62, _⟩ := hd
                            have e6 : ev (.tmp 6) = .int .i64 (j : Int) := hf 6 (by kernel_rfl)
                            have e62 : ev (.tmp 62) = .bool true := d62
                            refine ⟨fun _ => ?_, fun hne => absurd e62 hne⟩
                            refine st_value (v := .int .i64 (j : Int)) ?_ (Below.refl _ _) ?_
                            · simp [execOp, go_sem, e6]
                            · exact rfl
                          · intro ev W hf _ _ hst hd
                            obtain ⟨d67, d68, d62, _⟩ := hd
                            have e67 : ev (.tmp 67) = .slice (some ⟨b, o, none⟩) n cap := d67
                            have e68 : ev (.tmp 68) = .int .i64 (j : Int) := d68
                            have e62 : ev (.tmp 62) = .bool true := d62
                            refine ⟨fun _ => ?_, fun hne => absurd e62 hne⟩
                            refine st_value (v := .pointer (some ⟨b, o + j * 2, none⟩)) ?_ (Below.refl _ _) ?_
                            · simp [execOp, go_sem, e67, e68, hjn]
                            · exact rfl
                          · intro ev W hf _ _ hst hd
                            obtain ⟨d69, d62, _⟩ := hd
                            have e69 : ev (.tmp 69) = .pointer (some ⟨b, o + j * 2, none⟩) := d69
                            have e62 : ev (.tmp 62) = .bool true := d62
                            refine ⟨fun _ => ?_, fun hne => absurd e62 hne⟩
                            have q0 := Ext.cell hst E3.out
                            have q1 := Ext.cell hst E4.out
                            refine st_value (v := vecV jx jy) ?_ (Below.refl _ _) ?_
                            · simp [execOp, go_sem, e69, q0, q1, vecV]
                            · exact rfl
                          · intro ev W hf _ _ hst hd
                            obtain ⟨d62, _⟩ := hd
                            have e0 : ev (.tmp 0) = .slice (some ⟨b, o, none⟩) n cap := hf 0 (by kernel_rfl)
                            have e62 : ev (.tmp 62) = .bool true := d62
                            refine ⟨fun _ => ?_, fun hne => absurd e62 hne⟩
                            refine st_value (v := .slice (some ⟨b, o, none⟩) n cap) ?_ (Below.refl _ _) ?_
                            · simp [execOp, go_sem, e0]
                            · exact rfl
                          · intro ev W hf _ _ hst hd
                            obtain ⟨d62, _⟩ := hd
                            have e7 : ev (.tmp 7) = .int .i64 (k : Int) := hf 7 (by kernel_rfl)
                            have e62 : ev (.tmp 62) = .bool true := d62
                            refine ⟨fun _ => ?_, fun hne => absurd e62 hne⟩
                            refine st_value (v := .int .i64 (k : Int)) ?_ (Below.refl _ _) ?_
                            · simp [execOp, go_sem, e7]
                            · exact rfl
                          · intro ev W hf _ _ hst hd
                            obtain ⟨d71, d72, d62, _⟩ := hd
                            have e71 : ev (.tmp 71) = .slice (some ⟨b, o, none⟩) n cap := d71
                            have e72 : ev (.tmp 72) = .int .i64 (k : Int) := d72
                            have e62 : ev (.tmp 62) = .bool true := d62
                            refine ⟨fun _ => ?_, fun hne => absurd e62 hne⟩
                            refine st_value (v := .pointer (some ⟨b, o + k * 2, none⟩)) ?_ (Below.refl _ _) ?_
                            · simp [execOp, go_sem, e71, e72, hkl]
                            · exact rfl
                          · intro ev W hf _ _ hst hd
                            obtain ⟨d73, d62, _⟩ := hd
                            have e73 : ev (.tmp 73) = .pointer (some ⟨b, o + k * 2, none⟩) := d73
                            have e62 : ev (.tmp 62) = .bool true := d62
                            refine ⟨fun _ => ?_, fun hne => absurd e62 hne⟩
                            have q0 := Ext.cell hst E5.out
                            have q1 := Ext.cell hst E6.out
                            refine st_value (v := vecV kx ky) ?_ (Below.refl _ _) ?_
                            · simp [execOp, go_sem, e73, q0, q1, vecV]
                            · exact rfl
                          · intro ev W hf _ hfn hst hd
                            obtain ⟨d66, d70, d74, d62, _⟩ := hd
                            have e66 : ev (.tmp 66) = vecV x y := d66
                            have e70 : ev (.tmp 70) = vecV jx jy := d70
                            have e74 : ev (.tmp 74) = vecV kx ky := d74
                            have e62 : ev (.tmp 62) = .bool true := d62
                            refine ⟨fun _ => ?_, fun hne => absurd e62 hne⟩
                            refine st_call (f := 50) (args := #[vecV x y, vecV jx jy, vecV kx ky]) (by simp [execOp, go_sem, hfn, e66, e70, e74]) (HTW.out W) (fun _ _ => rfl)
                          · intro ev W hf hcst _ hst hd
                            obtain ⟨d75, d62, _⟩ := hd
                            have e75 : ev (.tmp 75) = .int .i64 sz := d75
                            have e62 : ev (.tmp 62) = .bool true := d62
                            refine ⟨fun _ => ?_, fun hne => absurd e62 hne⟩
                            refine st_value (v := .bool true) ?_ (Below.refl _ _) ?_
                            · simp [execOp, go_sem, e75, hcst, hsz0]
                            · exact rfl
                          · intro ev W hf hcst _ hst hd
                            obtain ⟨d62, d76, _⟩ := hd
                            have e62 : ev (.tmp 62) = .bool true := d62
                            have e76 : ev (.tmp 76) = .bool true := d76
                            refine st_value (v := .bool true) ?_ (Below.refl _ _) ?_
                            · simp [execOp, go_sem, e62, e76, hcst]
                            · exact rfl
                        case rest =>
                          intro vs w3 hl hst hg
                          have HE3 := Lib.hid hst
                          have hvs : vs = [.int .i64 (k : Int), .int .i64 (i : Int), .bool true, .bool true, .int .i64 (k : Int), .int .i64 (j : Int), .bool true, .bool true, .bool true, .slice (some ⟨b, o, none⟩) n cap, .int .i64 (i : Int), .pointer (some ⟨b, o + i * 2, none⟩), vecV x y, .slice (some ⟨b, o, none⟩) n cap, .int .i64 (j : Int), .pointer (some ⟨b, o + j * 2, none⟩), vecV jx jy, .slice (some ⟨b, o, none⟩) n cap, .int .i64 (k : Int), .pointer (some ⟨b, o + k * 2, none⟩), vecV kx ky, .int .i64 sz, .bool true, .bool true] := list_of hl (fun i u hu => by
                            match i, hu with
                            | 0, hu => exact (congrArg some (hg 0 u hu)).symm
                            | 1, hu => exact (congrArg some (hg 1 u hu)).symm
                            | 2, hu => exact (congrArg some (hg 2 u hu)).symm
                            | 3, hu => exact (congrArg some (hg 3 u hu)).symm
                            | 4, hu => exact (congrArg some (hg 4 u hu)).symm
                            | 5, hu => exact (congrArg some (hg 5 u hu)).symm
                            | 6, hu => exact (congrArg some (hg 6 u hu)).symm
                            | 7, hu => exact (congrArg some (hg 7 u hu)).symm
                            | 8, hu => exact (congrArg some (hg 8 u hu)).symm
                            | 9, hu => exact (congrArg some (hg 9 u hu)).symm
                            | 10, hu => exact (congrArg some (hg 10 u hu)).symm
                            | 11, hu => exact (congrArg some (hg 11 u hu)).symm
                            | 12, hu => exact (congrArg some (hg 12 u hu)).symm
                            | 13, hu => exact (congrArg some (hg 13 u hu)).symm
                            | 14, hu => exact (congrArg some (hg 14 u hu)).symm
                            | 15, hu => exact (congrArg some (hg 15 u hu)).symm
                            | 16, hu => exact (congrArg some (hg 16 u hu)).symm
                            | 17, hu => exact (congrArg some (hg 17 u hu)).symm
                            | 18, hu => exact (congrArg some (hg 18 u hu)).symm
                            | 19, hu => exact (congrArg some (hg 19 u hu)).symm
                            | 20, hu => exact (congrArg some (hg 20 u hu)).symm
                            | 21, hu => exact (congrArg some (hg 21 u hu)).symm
                            | 22, hu => exact (congrArg some (hg 22 u hu)).symm
                            | 23, hu => exact (congrArg some (hg 23 u hu)).symm
                            | n + 24, hu => exact absurd (lt_len hu) (by rw [hl]; simp))
                          clear hg hst hl
                          subst hvs
                          simp only [putAll, Act.put, List.dropLast, List.setIfInBounds_toArray, List.set_cons_zero, List.set_cons_succ]
                          go_wp2_with fail
                          go_ret
                          exact ⟨ret_bool HF.out.symm, Ext.trans HEt.out HE3.out⟩
                      · have HT := Lib.hid (show ∀ q, q < k + 1 → q ≠ i → q ≠ j → 0 < sideK ps (fromP ps q).1 (fromP ps q).2 i from fun q hq h1 h2 => by
                          by_cases e : q = k
                          · rw [e, ← HSZ.out]; omega
                          · exact HALT.out q (by omega) h1 h2)
                        have hsz0 : decide (sz ≤ 0) = false := decide_eq_false hs
                        clear hs
                        go_wp2_with fail
                        refine wp_region_stable [⟨[], none⟩, ⟨[], none⟩, ⟨[(0, 54), (1, 55)], none⟩, ⟨[(2, 56)], none⟩, ⟨[(3, 57)], some (57, true)⟩, ⟨[(3, 57)], some (57, true)⟩, ⟨[(4, 58), (5, 59), (3, 57)], some (57, true)⟩, ⟨[(3, 57), (6, 60)], none⟩, ⟨[(7, 61)], none⟩, ⟨[(8, 62)], some (62, true)⟩, ⟨[(8, 62)], some (62, true)⟩, ⟨[(9, 63), (10, 64), (8, 62)], some (62, true)⟩, ⟨[(11, 65), (8, 62)], some (62, true)⟩, ⟨[(8, 62)], some (62, true)⟩, ⟨[(8, 62)], some (62, true)⟩, ⟨[(13, 67), (14, 68), (8, 62)], some (62, true)⟩, ⟨[(15, 69), (8, 62)], some (62, true)⟩, ⟨[(8, 62)], some (62, true)⟩, ⟨[(8, 62)], some (62, true)⟩, ⟨[(17, 71), (18, 72), (8, 62)], some (62, true)⟩, ⟨[(19, 73), (8, 62)], some (62, true)⟩, ⟨[(12, 66), (16, 70), (20, 74), (8, 62)], some (62, true)⟩, ⟨[(21, 75), (8, 62)], some (62, true)⟩, ⟨[(8, 62), (22, 76)], none⟩] (fun x y => Below x.heap.size x y) (MPat [MP.eq (.int .i64 (k : Int)), MP.eq (.int .i64 (i : Int)), MP.eq (.bool true), MP.eq (.bool true), MP.eq (.int .i64 (k : Int)), MP.eq (.int .i64 (j : Int)), MP.eq (.bool true), MP.eq (.bool true), MP.eq (.bool true), MP.eq (.slice (some ⟨b, o, none⟩) n cap), MP.eq (.int .i64 (i : Int)), MP.eq (.pointer (some ⟨b, o + i * 2, none⟩)), MP.eq (vecV x y), MP.eq (.slice (some ⟨b, o, none⟩) n cap), MP.eq (.int .i64 (j : Int)), MP.eq (.pointer (some ⟨b, o + j * 2, none⟩)), MP.eq (vecV jx jy), MP.eq (.slice (some ⟨b, o, none⟩) n cap), MP.eq (.int .i64 (k : Int)), MP.eq (.pointer (some ⟨b, o + k * 2, none⟩)), MP.eq (vecV kx ky), MP.eq (.int .i64 sz), MP.eq (.bool false), MP.eq (.bool false)]) (by kernel_rfl) (fun _ _ _ h k => Ext.trans h k) (fun _ => Below.refl _ _) (fun x => (Below.refl x.heap.size x).drew) (MPat.mono _) (by kernel_rfl) ?obs ?rest
                        case obs =>
                          refine ⟨?_, ?_, ?_, ?_, ?_, ?_, ?_, ?_, ?_, ?_, ?_, ?_, ?_, ?_, ?_, ?_, ?_, ?_, ?_, ?_, ?_, ?_, ?_, ?_, trivial⟩
                          · intro ev W hf _ _ hst hd
                            have e7 : ev (.tmp 7) = .int .i64 (k : Int) := hf 7 (by kernel_rfl)
                            refine st_value (v := .int .i64 (k : Int)) ?_ (Below.refl _ _) ?_
                            · simp [execOp, go_sem, e7]
                            · exact rfl
                          · intro ev W hf _ _ hst hd
                            have e5 : ev (.tmp 5) = .int .i64 (i : Int) := hf 5 (by kernel_rfl)
                            refine st_value (v := .int .i64 (i : Int)) ?_ (Below.refl _ _) ?_
                            · simp [execOp, go_sem, e5]
                            · exact rfl
                          · intro ev W hf _ _ hst hd
                            obtain ⟨d54, d55, _⟩ := hd
                            have e54 : ev (.tmp 54) = .int .i64 (k : Int) := d54
                            have e55 : ev (.tmp 55) = .int .i64 (i : Int) := d55
                            refine st_value (v := .bool true) ?_ (Below.refl _ _) ?_
                            · simp [execOp, go_sem, e54, e55, hkib]
                            · exact rfl
                          · intro ev W hf _ _ hst hd
                            obtain ⟨d56, _⟩ := hd
                            have e56 : ev (.tmp 56) = .bool true := d56
                            refine st_value (v := .bool true) ?_ (Below.refl _ _) ?_
                            · simp [execOp, go_sem, e56]
                            · exact rfl
                          · intro ev W hf _ _ hst hd
                            obtain ⟨d57, _⟩ := hd
                            have e7 : ev (.tmp 7) = .int .i64 (k : Int) := hf 7 (by kernel_rfl)
                            have e57 : ev (.tmp 57) = .bool true := d57
                            refine ⟨fun _ => ?_, fun hne => absurd e57 hne⟩
                            refine st_value (v := .int .i64 (k : Int)) ?_ (Below.refl _ _) ?_
                            · simp [execOp, go_sem, e7]
                            · exact rfl
                          · intro ev W hf _ _ hst hd
                            obtain ⟨d57, _⟩ := hd
                            have e6 : ev (.tmp 6) = .int .i64 (j : Int) := hf 6 (by kernel_rfl)
                            have e57 : ev (.tmp 57) = .bool true := d57
                            refine ⟨fun _ => ?_, fun hne => absurd e57 hne⟩
                            refine st_value (v := .int .i64 (j : Int)) ?_ (Below.refl _ _) ?_
                            · simp [execOp, go_sem, e6]
                            · exact rfl
                          · intro ev W hf _ _ hst hd
                            obtain ⟨d58, d59, d57, _⟩ := hd
                            have e58 : ev (.tmp 58) = .int .i64 (k : Int) := d58
                            have e59 : ev (.tmp 59) = .int .i64 (j : Int) := d59
                            have e57 : ev (.tmp 57) = .bool true := d57
                            refine ⟨fun _ => ?_, fun hne => absurd e57 hne⟩
                            refine st_value (v := .bool true) ?_ (Below.refl _ _) ?_
                            · simp [execOp, go_sem, e58, e59, hkjb]
                            · exact rfl
                          · intro ev W hf hcst _ hst hd
                            obtain ⟨d57, d60, _⟩ := hd
                            have e57 : ev (.tmp 57) = .bool true := d57
                            have e60 : ev (.tmp 60) = .bool true := d60
                            refine st_value (v := .bool true) ?_ (Below.refl _ _) ?_
                            · simp [execOp, go_sem, e57, e60, hcst]
                            · exact rfl
                          · intro ev W hf _ _ hst hd
                            obtain ⟨d61, _⟩ := hd
                            have e61 : ev (.tmp 61) = .bool true := d61
                            refine st_value (v := .bool true) ?_ (Below.refl _ _) ?_
                            · simp [execOp, go_sem, e61]
                            · exact rfl
                          · intro ev W hf _ _ hst hd
                            obtain ⟨d62, _⟩ := hd
                            have e0 : ev (.tmp 0) = .slice (some ⟨b, o, none⟩) n cap := hf 0 (by kernel_rfl)
                            have e62 : ev (.tmp 62) = .bool true := d62
                            refine ⟨fun _ => ?_, fun hne => absurd e62 hne⟩
                            refine st_value (v := .slice (some ⟨b, o, none⟩) n cap) ?_ (Below.refl _ _) ?_
                            · simp [execOp, go_sem, e0]
                            · exact rfl
                          · intro ev W hf _ _ hst hd
                            obtain ⟨d62, _⟩ := hd
                            have e5 : ev (.tmp 5) = .int .i64 (i : Int) := hf 5 (by kernel_rfl)
                            have e62 : ev (.tmp 62) = .bool true := d62
                            refine ⟨fun _ => ?_, fun hne => absurd e62 hne⟩
                            refine st_value (v := .int .i64 (i : Int)) ?_ (Below.refl _ _) ?_
                            · simp [execOp, go_sem, e5]
                            · exact rfl
                          · intro ev W hf _ _ hst hd
                            obtain ⟨d63, d64, d62, _⟩ := hd
                            have e63 : ev (.tmp 63) = .slice (some ⟨b, o, none⟩) n cap := d63
                            have e64 : ev (.tmp 64) = .int .i64 (i : Int) := d64
                            have e62 : ev (.tmp 62) = .bool true := d62
                            refine ⟨fun _ => ?_, fun hne => absurd e62 hne⟩
                            refine st_value (v := .pointer (some ⟨b, o + i * 2, none⟩)) ?_ (Below.refl _ _) ?_
                            · simp [execOp, go_sem, e63, e64, hil]
                            · exact rfl
                          · intro ev W hf _ _ hst hd
                            obtain ⟨d65, d62, _⟩ := hd
                            have e65 : ev (.tmp 65) = .pointer (some ⟨b, o + i * 2, none⟩) := d65
                            have e62 : ev (.tmp 62) = .bool true := d62
                            refine ⟨fun _ => ?_, fun hne => absurd e62 hne⟩
                            have q0 := Ext.cell hst E1.out
                            have q1 := Ext.cell hst E2.out
                            refine st_value (v := vecV x y) ?_ (Below.refl _ _) ?_
                            · simp [execOp, go_sem, e65, q0, q1, vecV]
                            · exact rfl
                          · intro ev W hf _ _ hst hd
                            obtain ⟨d62, _⟩ := hd
                            have e0 : ev (.tmp 0) = .slice (some ⟨b, o, none⟩) n cap := hf 0 (by kernel_rfl)
                            have e62 : ev (.tmp 62) = .bool true := d62
                            refine ⟨fun _ => ?_, fun hne => absurd e62 hne⟩
                            refine st_value (v := .slice (some ⟨b, o, none⟩) n cap) ?_ (Below.refl _ _) ?_
                            · simp [execOp, go_sem, e0]
                            · exact rfl
                          · intro ev W hf _ _ hst hd
                            obtain ⟨d62, _⟩ := hd
                            have e6 : ev (.tmp 6) = .int .i64 (j : Int) := hf 6 (by kernel_rfl)
                            have e62 : ev (.tmp 62) = .bool true := d62
                            refine ⟨fun _ => ?_, fun hne => absurd e62 hne⟩
                            refine st_value (v := .int .i64 (j : Int)) ?_ (Below.refl _ _) ?_
                            · simp [execOp, go_sem, e6]
                            · exact rfl
                          · intro ev W hf _ _ hst hd
                            obtain ⟨d67, d68, d62, _⟩ := hd
                            have e67 : ev (.tmp 67) = .slice (some ⟨b, o, none⟩) n cap := d67
                            have e68 : ev (.tmp 68) = .int .i64 (j : Int) := d68
                            have e62 : ev (.tmp 62) = .bool true := d62
                            refine ⟨fun _ => ?_, fun hne => absurd e62 hne⟩
                            refine st_value (v := .pointer (some ⟨b, o + j * 2, none⟩)) ?_ (Below.refl _ _) ?_
                            · simp [execOp, go_sem, e67, e68, hjn]
                            · exact rfl
                          · intro ev W hf _ _ hst hd
                            obtain ⟨d69, d62, _⟩ := hd
                            have e69 : ev (.tmp 69) = .pointer (some ⟨b, o + j * 2, none⟩) := d69
                            have e62 : ev (.tmp 62) = .bool true := d62
                            refine ⟨fun _ => ?_, fun hne => absurd e62 hne⟩
                            have q0 := Ext.cell hst E3.out
                            have q1 := Ext.cell hst E4.out
                            refine st_value (v := vecV jx jy) ?_ (Below.refl _ _) ?_
                            · simp [execOp, go_sem, e69, q0, q1, vecV]
                            · exact rfl
                          · intro ev W hf _ _ hst hd
                            obtain ⟨d62, _⟩ := hd
                            have e0 : ev (.tmp 0) = .slice (some ⟨b, o, none⟩) n cap := hf 0 (by kernel_rfl)
                            have e62 : ev (.tmp 62) = .bool true := d62
                            refine ⟨fun _ => ?_, fun hne => absurd e62 hne⟩
                            refine st_value (v := .slice (some ⟨b, o, none⟩) n cap) ?_ (Below.refl _ _) ?_
                            · simp [execOp, go_sem, e0]
                            · exact rfl
                          · intro ev W hf _ _ hst hd
                            obtain ⟨d62, _⟩ := hd
                            have e7 : ev (.tmp 7) = .int .i64 (k : Int) := hf 7 (by kernel_rfl)
                            have e62 : ev (.tmp 62) = .bool true := d62
                            refine ⟨fun _ => ?_, fun hne => absurd e62 hne⟩
                            refine st_value (v := .int .i64 (k : Int)) ?_ (Below.refl _ _) ?_
                            · simp [execOp, go_sem, e7]
                            · exact rfl
                          · intro ev W hf _ _ hst hd
                            obtain ⟨d71, d72, d62, _⟩ := hd
                            have e71 : ev (.tmp 71) = .slice (some ⟨b, o, none⟩) n cap := d71
                            have e72 : ev (.tmp 72) = .int .i64 (k : Int) := d72
                            have e62 : ev (.tmp 62) = .bool true := d62
                            refine ⟨fun _ => ?_, fun hne => absurd e62 hne⟩
                            refine st_value (v := .pointer (some ⟨b, o + k * 2, none⟩)) ?_ (Below.refl _ _) ?_
                            · simp [execOp, go_sem, e71, e72, hkl]
                            · exact rfl
                          · intro ev W hf _ _ hst hd
                            obtain ⟨d73, d62, _⟩ := hd
                            have e73 : ev (.tmp 73) = .pointer (some ⟨b, o + k * 2, none⟩) := d73
                            have e62 : ev (.tmp 62) = .bool true := d62
                            refine ⟨fun _ => ?_, fun hne => absurd e62 hne⟩
                            have q0 := Ext.cell hst E5.out
                            have q1 := Ext.cell hst E6.out
                            refine st_value (v := vecV kx ky) ?_ (Below.refl _ _) ?_
                            · simp [execOp, go_sem, e73, q0, q1, vecV]
                            · exact rfl
                          · intro ev W hf _ hfn hst hd
                            obtain ⟨d66, d70, d74, d62, _⟩ := hd
                            have e66 : ev (.tmp 66) = vecV x y := d66
                            have e70 : ev (.tmp 70) = vecV jx jy := d70
                            have e74 : ev (.tmp 74) = vecV kx ky := d74
                            have e62 : ev (.tmp 62) = .bool true := d62
                            refine ⟨fun _ => ?_, fun hne => absurd e62 hne⟩
                            refine st_call (f := 50) (args := #[vecV x y, vecV jx jy, vecV kx ky]) (by simp [execOp, go_sem, hfn, e66, e70, e74]) (HTW.out W) (fun _ _ => rfl)
                          · intro ev W hf hcst _ hst hd
                            obtain ⟨d75, d62, _⟩ := hd
                            have e75 : ev (.tmp 75) = .int .i64 sz := d75
                            have e62 : ev (.tmp 62) = .bool true := d62
                            refine ⟨fun _ => ?_, fun hne => absurd e62 hne⟩
                            refine st_value (v := .bool false) ?_ (Below.refl _ _) ?_
                            · simp [execOp, go_sem, e75, hcst, hsz0]
                            · exact rfl
                          · intro ev W hf hcst _ hst hd
                            obtain ⟨d62, d76, _⟩ := hd
                            have e62 : ev (.tmp 62) = .bool true := d62
                            have e76 : ev (.tmp 76) = .bool false := d76
                            refine st_value (v := .bool false) ?_ (Below.refl _ _) ?_
                            · simp [execOp, go_sem, e62, e76, hcst]
                            · exact rfl
                        case rest =>
                          intro vs w3 hl hst hg
                          have HE3 := Lib.hid hst
                          have hvs : vs = [.int .i64 (k : Int), .int .i64 (i : Int), .bool true, .bool true, .int .i64 (k : Int), .int .i64 (j : Int), .bool true, .bool true, .bool true, .slice (some ⟨b, o, none⟩) n cap, .int .i64 (i : Int), .pointer (some ⟨b, o + i * 2, none⟩), vecV x y, .slice (some ⟨b, o, none⟩) n cap, .int .i64 (j : Int), .pointer (some ⟨b, o + j * 2, none⟩), vecV jx jy, .slice (some ⟨b, o, none⟩) n cap, .int .i64 (k : Int), .pointer (some ⟨b, o + k * 2, none⟩), vecV kx ky, .int .i64 sz, .bool false, .bool false] := list_of hl (fun i u hu => by
                            match i, hu with
                            | 0, hu => exact (congrArg some (hg 0 u hu)).symm
                            | 1, hu => exact (congrArg some (hg 1 u hu)).symm
                            | 2, hu => exact (congrArg some (hg 2 u hu)).symm
                            | 3, hu => exact (congrArg some (hg 3 u hu)).symm
                            | 4, hu => exact (congrArg some (hg 4 u hu)).symm
                            | 5, hu => exact (congrArg some (hg 5 u hu)).symm
                            | 6, hu => exact (congrArg some (hg 6 u hu)).symm
                            | 7, hu => exact (congrArg some (hg 7 u hu)).symm
                            | 8, hu => exact (congrArg some (hg 8 u hu)).symm
                            | 9, hu => exact (congrArg some (hg 9 u hu)).symm
                            | 10, hu => exact (congrArg some (hg 10 u hu)).symm
                            | 11, hu => exact (congrArg some (hg 11 u hu)).symm
                            | 12, hu => exact (congrArg some (hg 12 u hu)).symm
                            | 13, hu => exact (congrArg some (hg 13 u hu)).symm
                            | 14, hu => exact (congrArg some (hg 14 u hu)).symm
                            | 15, hu => exact (congrArg some (hg 15 u hu)).symm
                            | 16, hu => exact (congrArg some (hg 16 u hu)).symm
                            | 17, hu => exact (congrArg some (hg 17 u hu)).symm
                            | 18, hu => exact (congrArg some (hg 18 u hu)).symm
                            | 19, hu => exact (congrArg some (hg 19 u hu)).symm
                            | 20, hu => exact (congrArg some (hg 20 u hu)).symm
                            | 21, hu => exact (congrArg some (hg 21 u hu)).symm
                            | 22, hu => exact (congrArg some (hg 22 u hu)).symm
                            | 23, hu => exact (congrArg some (hg 23 u hu)).symm
                            | n + 24, hu => exact absurd (lt_len hu) (by rw [hl]; simp))
                          clear hg hst hl
                          subst hvs
                          simp only [putAll, Act.put, List.dropLast, List.setIfInBounds_toArray, List.set_cons_zero, List.set_cons_succ]
                          go_wp2_with fail
                          exact ⟨⟨k + 1, by simp, by omega, HT.out, Ext.trans HEt.out HE3.out⟩, by simp [intOf]; omega⟩
                · have hklz : ¬ (k : Int) < (n : Int) := by omega
                  have HT := Lib.hid (show ∀ q, q < i + 1 → edgeOk ps q from fun q hq => by
                    by_cases e : q = i
                    · subst e
                      refine ⟨HL.out, fun k2 h1 h2 h3 => HALT.out k2 (by have := HN.out; omega) h2 (by rw [HJ.out, HN.out]; exact h3)⟩
                    · exact HALQ.out q (by omega))
                  go_wp2_with fail
                  exact ⟨⟨i + 1, by simp, by omega, HT.out, HEt.out⟩, by simp [intOf]; omega⟩
        · have hilz : ¬ (i : Int) < (n : Int) := by omega
          have HT := Lib.hid (show validB ps = true from (valid_edges (by have := HN.out; omega) (by have := HN.out; omega) HNF.out).2 fun j hj => HALQ.out j (by have := HN.out; omega))
          go_wp2_with fail
          go_ret
          exact ⟨ret_bool HT.out.symm, HEq.out⟩
end Go.Proofs.Ytbdppephmlkbaaa
