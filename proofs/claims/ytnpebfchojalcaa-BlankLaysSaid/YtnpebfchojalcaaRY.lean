import Derived.Test.YtnpebfchojalcaaR1
import Derived.Test.YtnpebfchojalcaaMY
import Derived.Test.YtnpebfchojalcaaRX
import Derived.Test.YtnpebfchojalcaaR20
import Derived.Test.YtnpebfchojalcaaMX
namespace Go.Proofs.Ytnpebfchojalcaa
set_option maxRecDepth 100000
open Go.RowKit Go.Shelf
attribute [local go_sem] Oper.semAt_some
/-! The reference's Valid. -/
theorem low_lowB (a b : Pt) : lowB a.1 a.2 b.1 b.2 = true ↔ lowP a b := by
  unfold lowB lowP
  simp only [Bool.or_eq_true, Bool.and_eq_true, decide_eq_true_iff]
/-- what the reference asks of an edge -/
def edgeOk (ps : List Pt) (i : Nat) : Prop := (0 < i → lowP (fromP ps 0) (fromP ps i)) ∧ ∀ k, k < ps.length → k ≠ i → k ≠ (i + 1) % ps.length → 0 < sideK ps (fromP ps k).1 (fromP ps k).2 i
theorem valid_edges {ps : List Pt} (h3 : 3 ≤ ps.length) (h32 : ps.length ≤ 32) (hf : ps.any farP = false) : validB ps = true ↔ ∀ i, i < ps.length → edgeOk ps i := by
  constructor
  · intro h i hi
    have r := (valid_around h).refP
    exact ⟨fun h0 => r.low i h0 hi, fun k hk h1 h2 => r.left i k hi hk h1 h2⟩
  · intro h
    exact around_valid (RefP.around ⟨h3, fun i h0 hi => (h i hi).1 h0, fun i k hi hk h1 h2 => (h i hi).2 k hk h1 h2⟩) h32 hf
theorem valid_not {ps : List Pt} (h3 : 3 ≤ ps.length) (h32 : ps.length ≤ 32) (hf : ps.any farP = false) {i : Nat} (hi : i < ps.length) (h : ¬ edgeOk ps i) : validB ps = false := by
  cases hv : validB ps with
  | false => rfl
  | true => exact absurd ((valid_edges h3 h32 hf).1 hv i hi) h
theorem valid_len {ps : List Pt} (h : ¬ (3 ≤ ps.length ∧ ps.length ≤ 32)) : validB ps = false := by
  cases hv : validB ps with
  | false => rfl
  | true => exact absurd ⟨(valid_near hv).2.1, (valid_near hv).2.2⟩ h
theorem valid_far {ps : List Pt} {k : Nat} (hk : k < ps.length) (h : farB (fromP ps k).1 (fromP ps k).2 = true) : validB ps = false := by
  obtain ⟨q, hq⟩ := getElem?_len hk
  have hf : ps.any farP = true := any_at hq (by rw [fromP_of hq] at h; exact h)
  simp [validB, hf]
theorem near_from {ps : List Pt} (h : ∀ k, k < ps.length → farB (fromP ps k).1 (fromP ps k).2 = false) : ps.any farP = false := any_none fun j q hj hq => by
  have := h j hj
  rw [fromP_of hq] at this
  exact this
set_option maxHeartbeats 8000000 in
theorem rvalid_c (v : Value) (ps : List Pt) (w : World) (hv : Vecs w v ps) :
    Calls Try.prog 92 #[v] w fun e w' => e = .returned (.bool (validB ps)) ∧ Ext w w' := by
  by_cases h3 : ps.length < 3
  · have HF := Lib.hid (valid_len (ps := ps) (by omega))
    obtain ⟨a, cap, rfl, hl, hm, _⟩ := hv.at
    have h3z : (ps.length : Int) < 3 := by omega
    rw [HF.out]
    clear hv h3
    go_enter Try.func92, Try.ntmps92
    go_wp2_with fail
    go_ret
    exact ⟨rfl, Ext.refl _⟩
  by_cases h32 : 32 < ps.length
  · have HF := Lib.hid (valid_len (ps := ps) (by omega))
    obtain ⟨a, cap, rfl, hl, hm, _⟩ := hv.at
    have h3z : ¬ (ps.length : Int) < 3 := by omega
    have h4z : 32 < (ps.length : Int) := by omega
    rw [HF.out]
    clear hv h3 h32
    go_enter Try.func92, Try.ntmps92
    go_wp2_with fail
    go_ret
    exact ⟨rfl, Ext.refl _⟩
  obtain ⟨b, o, cap, rfl, hl, hm, hc⟩ := vecs_cells hv (by omega)
  have HC := Lib.hid hc
  have h3z : ¬ (ps.length : Int) < 3 := by omega
  have h4z : ¬ 32 < (ps.length : Int) := by omega
  have H3 := Lib.hid (show 3 ≤ ps.length ∧ ps.length ≤ 32 by omega)
  obtain ⟨n, hn⟩ : ∃ n, n = ps.length := ⟨_, rfl⟩
  have hn3 : 3 ≤ n ∧ n ≤ 32 := by omega
  rw [← hn] at HC h3z h4z hl ⊢
  have HN := Lib.hid hn
  clear hv hc h3 h32 hn
  go_enter Try.func92, Try.ntmps92
  go_wp2_with fail
  clear h3z h4z
  go_loopw [4] (fun iv wr => ∃ k : Nat, iv = .int .i64 (k : Int) ∧ k ≤ n ∧ (∀ j, j < k → farB (fromP ps j).1 (fromP ps j).2 = false) ∧ Ext w wr) (fun iv _ => n - (intOf iv).toNat)
  case atStart => exact ⟨0, rfl, Nat.zero_le _, fun j hj => by omega, Ext.refl _⟩
  case round =>
    rename World => wr
    obtain ⟨k, rfl, hk, hall, hE⟩ := hrel
    have HALL := Lib.hid hall
    have HE := Lib.hid hE
    clear hall hE
    by_cases hlt : k < n
    · obtain ⟨c1, c2⟩ := HC.out k hlt
      have c1 := Ext.cell HE.out c1
      have c2 := Ext.cell HE.out c2
      have k1 := cell_lt c1
      obtain ⟨x, hx⟩ : ∃ x, x = (fromP ps k).1 := ⟨_, rfl⟩
      obtain ⟨y, hy⟩ : ∃ y, y = (fromP ps k).2 := ⟨_, rfl⟩
      rw [← hx] at c1
      rw [← hy] at c2
      have HX := Lib.hid hx
      have HY := Lib.hid hy
      clear hx hy
      have hkz : (k : Int) < (n : Int) := by omega
      go_wp2_with fail
      refine (good_c x y _).mono ?_
      rintro e w2 ⟨rfl, hE⟩
      have HE2 := Lib.hid (Ext.trans HE.out hE)
      clear hE c1 c2 k1
      cases hf : farB x y with
      | true =>
        have HF := Lib.hid (show validB ps = false from valid_far (k := k) (by have := HN.out; omega) (by rw [← HX.out, ← HY.out]; exact hf))
        clear hf
        go_wp2_with fail
        go_ret
        exact ⟨ret_bool HF.out.symm, HE2.out⟩
      | false =>
        have HT := Lib.hid (show ∀ j, j < k + 1 → farB (fromP ps j).1 (fromP ps j).2 = false from fun j hj => by
          by_cases e : j = k
          · rw [e, ← HX.out, ← HY.out]; exact hf
          · exact HALL.out j (by omega))
        clear hf
        go_wp2_with fail
        exact ⟨⟨k + 1, by simp, by omega, HT.out, HE2.out⟩, by simp [intOf]; omega⟩
    · have hkz : ¬ (k : Int) < (n : Int) := by omega
      have HNF := Lib.hid (near_from (ps := ps) fun j hj => HALL.out j (by have := HN.out; omega))
      have HNEAR := Lib.hid (show ∀ j, j < n → -1000 ≤ (fromP ps j).1 ∧ (fromP ps j).1 ≤ 1000 ∧ -1000 ≤ (fromP ps j).2 ∧ (fromP ps j).2 ≤ 1000 from fun j hj => far_in (HALL.out j (by omega)))
      clear hlt
      go_wp2_with fail
      go_loopw [5] (fun iv wq => ∃ i : Nat, iv = .int .i64 (i : Int) ∧ i ≤ n ∧ (∀ j, j < i → edgeOk ps j) ∧ Ext w wq) (fun iv _ => n - (intOf iv).toNat)
      case atStart => exact ⟨0, rfl, Nat.zero_le _, fun j hj => by omega, HE.out⟩
      case round =>
        rename World => wq
        obtain ⟨i, rfl, hi, hall, hE⟩ := hrel
        have HALQ := Lib.hid hall
        have HEq := Lib.hid hE
        clear hall hE
        by_cases hil : i < n
        · obtain ⟨c1, c2⟩ := HC.out i hil
          obtain ⟨c3, c4⟩ := HC.out 0 (by omega)
          obtain ⟨x, hx⟩ : ∃ x, x = (fromP ps i).1 := ⟨_, rfl⟩
          obtain ⟨y, hy⟩ : ∃ y, y = (fromP ps i).2 := ⟨_, rfl⟩
          obtain ⟨x0, hx0⟩ : ∃ x, x = (fromP ps 0).1 := ⟨_, rfl⟩
          obtain ⟨y0, hy0⟩ : ∃ y, y = (fromP ps 0).2 := ⟨_, rfl⟩
          rw [← hx] at c1
          rw [← hy] at c2
          rw [← hx0] at c3
          rw [← hy0] at c4
          rw [Nat.zero_mul, Nat.add_zero] at c3 c4
          have D1 := Lib.hid c1
          have D2 := Lib.hid c2
          have C1 := Lib.hid (Ext.cell HEq.out c1)
          have C2 := Lib.hid (Ext.cell HEq.out c2)
          have C3 := Lib.hid (Ext.cell HEq.out c3)
          have C4 := Lib.hid (Ext.cell HEq.out c4)
          have hxb := HNEAR.out i hil
          rw [← hx, ← hy] at hxb
          have HX := Lib.hid hx
          have HY := Lib.hid hy
          have HLOW := Lib.hid (show lowB x0 y0 x y = true ↔ lowP (fromP ps 0) (fromP ps i) from by rw [hx, hy, hx0, hy0]; exact low_lowB _ _)
          have HLW := Lib.hid (fun W => lower_c x0 y0 x y W)
          clear hx hy hx0 hy0 c1 c2 c3 c4
          have hilz : (i : Int) < (n : Int) := by omega
          have hn0 : 0 < n := by omega
          obtain ⟨j, hj⟩ : ∃ j, j = (i + 1) % n := ⟨_, rfl⟩
          have hjn : j < n := by rw [hj]; exact Nat.mod_lt _ (by omega)
          have hjm : ((i : Int) + 1) % (n : Int) = (j : Int) := by rw [hj, Int.natCast_emod, Int.natCast_add]; rfl
          have hjt : ((i : Int) + 1).tmod (n : Int) = (j : Int) := by rw [Int.tmod_eq_emod_of_nonneg (by omega)]; exact hjm
          have HJ := Lib.hid hj
          clear hj
          have hnz : ¬ (n : Int) = 0 := by omega
          by_cases hi0 : 0 < i
          · have HI0 := Lib.hid hi0
            cases hlb : lowB x0 y0 x y with
            | false =>
              have HF := Lib.hid (show validB ps = false from valid_not (i := i) (by have := HN.out; omega) (by have := HN.out; omega) HNF.out (by have := HN.out; omega) (fun h => by
                have h2 := HLOW.out.2 (h.1 hi0)
                rw [hlb] at h2; cases h2))
              rw [hlb] at HLW
              clear hlb
              go_wp2_with fail
              refine wp_region_stable [⟨[], none⟩, ⟨[(0, 32)], none⟩, ⟨[(1, 33)], none⟩, ⟨[(2, 34)], some (34, true)⟩, ⟨[(3, 35), (2, 34)], some (34, true)⟩, ⟨[(4, 36), (2, 34)], some (34, true)⟩, ⟨[(2, 34)], some (34, true)⟩, ⟨[(2, 34)], some (34, true)⟩, ⟨[(6, 38), (7, 39), (2, 34)], some (34, true)⟩, ⟨[(8, 40), (2, 34)], some (34, true)⟩, ⟨[(5, 37), (9, 41), (2, 34)], some (34, true)⟩, ⟨[(10, 42), (2, 34)], some (34, true)⟩, ⟨[(2, 34), (11, 43)], none⟩] (fun x y => Below x.heap.size x y) (MPat [MP.eq (.int .i64 (i : Int)), MP.eq (.bool true), MP.eq (.bool true), MP.eq (.slice (some ⟨b, o, none⟩) n cap), MP.eq (.pointer (some ⟨b, o, none⟩)), MP.eq (vecV x0 y0), MP.eq (.slice (some ⟨b, o, none⟩) n cap), MP.eq (.int .i64 (i : Int)), MP.eq (.pointer (some ⟨b, o + i * 2, none⟩)), MP.eq (vecV x y), MP.eq (.bool false), MP.eq (.bool true), MP.eq (.bool true)]) (by kernel_rfl) (fun _ _ _ h k => Ext.trans h k) (fun _ => Below.refl _ _) (fun x => (Below.refl x.heap.size x).drew) (MPat.mono _) (by kernel_rfl) ?obs ?rest
              case obs =>
                refine ⟨?_, ?_, ?_, ?_, ?_, ?_, ?_, ?_, ?_, ?_, ?_, ?_, ?_, trivial⟩
                · intro ev W hf _ _ hst hd
                  have e5 : ev (.tmp 5) = .int .i64 (i : Int) := hf 5 (by kernel_rfl)
                  exact st_value (v := .int .i64 (i : Int)) (by simp [execOp, go_sem, e5]) (Below.refl _ _) rfl
                · rintro ev W hf hcst _ hst ⟨d32, _⟩
                  have e32 : ev (.tmp 32) = .int .i64 (i : Int) := d32
                  exact st_value (v := .bool true) (by simp [execOp, go_sem, e32, hcst, HI0.out]) (Below.refl _ _) rfl
                · rintro ev W hf _ _ hst ⟨d33, _⟩
                  have e33 : ev (.tmp 33) = .bool true := d33
                  exact st_value (v := .bool true) (by simp [execOp, go_sem, e33]) (Below.refl _ _) rfl
                · rintro ev W hf _ _ hst ⟨d34, _⟩
                  have e0 : ev (.tmp 0) = .slice (some ⟨b, o, none⟩) n cap := hf 0 (by kernel_rfl)
                  have e34 : ev (.tmp 34) = .bool true := d34
                  refine ⟨fun _ => ?_, fun hne => absurd e34 hne⟩
                  exact st_value (v := .slice (some ⟨b, o, none⟩) n cap) (by simp [execOp, go_sem, e0]) (Below.refl _ _) rfl
                · rintro ev W hf hcst _ hst ⟨d35, d34, _⟩
                  have e35 : ev (.tmp 35) = .slice (some ⟨b, o, none⟩) n cap := d35
                  have e34 : ev (.tmp 34) = .bool true := d34
                  refine ⟨fun _ => ?_, fun hne => absurd e34 hne⟩
                  exact st_value (v := .pointer (some ⟨b, o, none⟩)) (by simp [execOp, go_sem, e35, hcst, hn0]) (Below.refl _ _) rfl
                · rintro ev W hf _ _ hst ⟨d36, d34, _⟩
                  have e36 : ev (.tmp 36) = .pointer (some ⟨b, o, none⟩) := d36
                  have e34 : ev (.tmp 34) = .bool true := d34
                  refine ⟨fun _ => ?_, fun hne => absurd e34 hne⟩
                  have q0 := Ext.cell hst C3.out
                  have q1 := Ext.cell hst C4.out
                  exact st_value (v := vecV x0 y0) (by simp [execOp, go_sem, e36, q0, q1, vecV]) (Below.refl _ _) rfl
                · rintro ev W hf _ _ hst ⟨d34, _⟩
                  have e0 : ev (.tmp 0) = .slice (some ⟨b, o, none⟩) n cap := hf 0 (by kernel_rfl)
                  have e34 : ev (.tmp 34) = .bool true := d34
                  refine ⟨fun _ => ?_, fun hne => absurd e34 hne⟩
                  exact st_value (v := .slice (some ⟨b, o, none⟩) n cap) (by simp [execOp, go_sem, e0]) (Below.refl _ _) rfl
                · rintro ev W hf _ _ hst ⟨d34, _⟩
                  have e5 : ev (.tmp 5) = .int .i64 (i : Int) := hf 5 (by kernel_rfl)
                  have e34 : ev (.tmp 34) = .bool true := d34
                  refine ⟨fun _ => ?_, fun hne => absurd e34 hne⟩
                  exact st_value (v := .int .i64 (i : Int)) (by simp [execOp, go_sem, e5]) (Below.refl _ _) rfl
                · rintro ev W hf _ _ hst ⟨d38, d39, d34, _⟩
                  have e38 : ev (.tmp 38) = .slice (some ⟨b, o, none⟩) n cap := d38
                  have e39 : ev (.tmp 39) = .int .i64 (i : Int) := d39
                  have e34 : ev (.tmp 34) = .bool true := d34
                  refine ⟨fun _ => ?_, fun hne => absurd e34 hne⟩
                  exact st_value (v := .pointer (some ⟨b, o + i * 2, none⟩)) (by simp [execOp, go_sem, e38, e39, hil]) (Below.refl _ _) rfl
                · rintro ev W hf _ _ hst ⟨d40, d34, _⟩
                  have e40 : ev (.tmp 40) = .pointer (some ⟨b, o + i * 2, none⟩) := d40
                  have e34 : ev (.tmp 34) = .bool true := d34
                  refine ⟨fun _ => ?_, fun hne => absurd e34 hne⟩
                  have q0 := Ext.cell hst C1.out
                  have q1 := Ext.cell hst C2.out
                  exact st_value (v := vecV x y) (by simp [execOp, go_sem, e40, q0, q1, vecV]) (Below.refl _ _) rfl
                · rintro ev W hf _ hfn hst ⟨d37, d41, d34, _⟩
                  have e37 : ev (.tmp 37) = vecV x0 y0 := d37
                  have e41 : ev (.tmp 41) = vecV x y := d41
                  have e34 : ev (.tmp 34) = .bool true := d34
                  refine ⟨fun _ => ?_, fun hne => absurd e34 hne⟩
                  refine st_call (f := 117) (args := #[vecV x0 y0, vecV x y]) (by simp [execOp, go_sem, hfn, e37, e41]) (HLW.out W) (fun _ _ => rfl)
                · rintro ev W hf _ _ hst ⟨d42, d34, _⟩
                  have e42 : ev (.tmp 42) = .bool false := d42
                  have e34 : ev (.tmp 34) = .bool true := d34
                  refine ⟨fun _ => ?_, fun hne => absurd e34 hne⟩
                  exact st_value (v := .bool true) (by simp [execOp, go_sem, e42]) (Below.refl _ _) rfl
                · rintro ev W hf hcst _ hst ⟨d34, d43, _⟩
                  have e34 : ev (.tmp 34) = .bool true := d34
                  have e43 : ev (.tmp 43) = .bool true := d43
                  exact st_value (v := .bool true) (by simp [execOp, go_sem, e34, e43, hcst]) (Below.refl _ _) rfl
              case rest =>
                intro vs w3 hl hst hg
                have HE3 := Lib.hid hst
                have hvs : vs = [.int .i64 (i : Int), .bool true, .bool true, .slice (some ⟨b, o, none⟩) n cap, .pointer (some ⟨b, o, none⟩), vecV x0 y0, .slice (some ⟨b, o, none⟩) n cap, .int .i64 (i : Int), .pointer (some ⟨b, o + i * 2, none⟩), vecV x y, .bool false, .bool true, .bool true] := vs_all hl hg
                clear hg hst hl
                subst hvs
                simp only [putAll, Act.put, List.dropLast, List.setIfInBounds_toArray, List.set_cons_zero, List.set_cons_succ]
                go_wp2_with fail
                go_ret
                exact ⟨ret_bool HF.out.symm, Ext.trans HEq.out HE3.out⟩
            | true =>
              have HL := Lib.hid (show 0 < i → lowP (fromP ps 0) (fromP ps i) from fun _ => HLOW.out.1 hlb)
              rw [hlb] at HLW
              clear hlb
              go_wp2_with fail
              refine wp_region_stable [⟨[], none⟩, ⟨[(0, 32)], none⟩, ⟨[(1, 33)], none⟩, ⟨[(2, 34)], some (34, true)⟩, ⟨[(3, 35), (2, 34)], some (34, true)⟩, ⟨[(4, 36), (2, 34)], some (34, true)⟩, ⟨[(2, 34)], some (34, true)⟩, ⟨[(2, 34)], some (34, true)⟩, ⟨[(6, 38), (7, 39), (2, 34)], some (34, true)⟩, ⟨[(8, 40), (2, 34)], some (34, true)⟩, ⟨[(5, 37), (9, 41), (2, 34)], some (34, true)⟩, ⟨[(10, 42), (2, 34)], some (34, true)⟩, ⟨[(2, 34), (11, 43)], none⟩] (fun x y => Below x.heap.size x y) (MPat [MP.eq (.int .i64 (i : Int)), MP.eq (.bool true), MP.eq (.bool true), MP.eq (.slice (some ⟨b, o, none⟩) n cap), MP.eq (.pointer (some ⟨b, o, none⟩)), MP.eq (vecV x0 y0), MP.eq (.slice (some ⟨b, o, none⟩) n cap), MP.eq (.int .i64 (i : Int)), MP.eq (.pointer (some ⟨b, o + i * 2, none⟩)), MP.eq (vecV x y), MP.eq (.bool true), MP.eq (.bool false), MP.eq (.bool false)]) (by kernel_rfl) (fun _ _ _ h k => Ext.trans h k) (fun _ => Below.refl _ _) (fun x => (Below.refl x.heap.size x).drew) (MPat.mono _) (by kernel_rfl) ?obs ?rest
              case obs =>
                refine ⟨?_, ?_, ?_, ?_, ?_, ?_, ?_, ?_, ?_, ?_, ?_, ?_, ?_, trivial⟩
                · intro ev W hf _ _ hst hd
                  have e5 : ev (.tmp 5) = .int .i64 (i : Int) := hf 5 (by kernel_rfl)
                  exact st_value (v := .int .i64 (i : Int)) (by simp [execOp, go_sem, e5]) (Below.refl _ _) rfl
                · rintro ev W hf hcst _ hst ⟨d32, _⟩
                  have e32 : ev (.tmp 32) = .int .i64 (i : Int) := d32
                  exact st_value (v := .bool true) (by simp [execOp, go_sem, e32, hcst, HI0.out]) (Below.refl _ _) rfl
                · rintro ev W hf _ _ hst ⟨d33, _⟩
                  have e33 : ev (.tmp 33) = .bool true := d33
                  exact st_value (v := .bool true) (by simp [execOp, go_sem, e33]) (Below.refl _ _) rfl
                · rintro ev W hf _ _ hst ⟨d34, _⟩
                  have e0 : ev (.tmp 0) = .slice (some ⟨b, o, none⟩) n cap := hf 0 (by kernel_rfl)
                  have e34 : ev (.tmp 34) = .bool true := d34
                  refine ⟨fun _ => ?_, fun hne => absurd e34 hne⟩
                  exact st_value (v := .slice (some ⟨b, o, none⟩) n cap) (by simp [execOp, go_sem, e0]) (Below.refl _ _) rfl
                · rintro ev W hf hcst _ hst ⟨d35, d34, _⟩
                  have e35 : ev (.tmp 35) = .slice (some ⟨b, o, none⟩) n cap := d35
                  have e34 : ev (.tmp 34) = .bool true := d34
                  refine ⟨fun _ => ?_, fun hne => absurd e34 hne⟩
                  exact st_value (v := .pointer (some ⟨b, o, none⟩)) (by simp [execOp, go_sem, e35, hcst, hn0]) (Below.refl _ _) rfl
                · rintro ev W hf _ _ hst ⟨d36, d34, _⟩
                  have e36 : ev (.tmp 36) = .pointer (some ⟨b, o, none⟩) := d36
                  have e34 : ev (.tmp 34) = .bool true := d34
                  refine ⟨fun _ => ?_, fun hne => absurd e34 hne⟩
                  have q0 := Ext.cell hst C3.out
                  have q1 := Ext.cell hst C4.out
                  exact st_value (v := vecV x0 y0) (by simp [execOp, go_sem, e36, q0, q1, vecV]) (Below.refl _ _) rfl
                · rintro ev W hf _ _ hst ⟨d34, _⟩
                  have e0 : ev (.tmp 0) = .slice (some ⟨b, o, none⟩) n cap := hf 0 (by kernel_rfl)
                  have e34 : ev (.tmp 34) = .bool true := d34
                  refine ⟨fun _ => ?_, fun hne => absurd e34 hne⟩
                  exact st_value (v := .slice (some ⟨b, o, none⟩) n cap) (by simp [execOp, go_sem, e0]) (Below.refl _ _) rfl
                · rintro ev W hf _ _ hst ⟨d34, _⟩
                  have e5 : ev (.tmp 5) = .int .i64 (i : Int) := hf 5 (by kernel_rfl)
                  have e34 : ev (.tmp 34) = .bool true := d34
                  refine ⟨fun _ => ?_, fun hne => absurd e34 hne⟩
                  exact st_value (v := .int .i64 (i : Int)) (by simp [execOp, go_sem, e5]) (Below.refl _ _) rfl
                · rintro ev W hf _ _ hst ⟨d38, d39, d34, _⟩
                  have e38 : ev (.tmp 38) = .slice (some ⟨b, o, none⟩) n cap := d38
                  have e39 : ev (.tmp 39) = .int .i64 (i : Int) := d39
                  have e34 : ev (.tmp 34) = .bool true := d34
                  refine ⟨fun _ => ?_, fun hne => absurd e34 hne⟩
                  exact st_value (v := .pointer (some ⟨b, o + i * 2, none⟩)) (by simp [execOp, go_sem, e38, e39, hil]) (Below.refl _ _) rfl
                · rintro ev W hf _ _ hst ⟨d40, d34, _⟩
                  have e40 : ev (.tmp 40) = .pointer (some ⟨b, o + i * 2, none⟩) := d40
                  have e34 : ev (.tmp 34) = .bool true := d34
                  refine ⟨fun _ => ?_, fun hne => absurd e34 hne⟩
                  have q0 := Ext.cell hst C1.out
                  have q1 := Ext.cell hst C2.out
                  exact st_value (v := vecV x y) (by simp [execOp, go_sem, e40, q0, q1, vecV]) (Below.refl _ _) rfl
                · rintro ev W hf _ hfn hst ⟨d37, d41, d34, _⟩
                  have e37 : ev (.tmp 37) = vecV x0 y0 := d37
                  have e41 : ev (.tmp 41) = vecV x y := d41
                  have e34 : ev (.tmp 34) = .bool true := d34
                  refine ⟨fun _ => ?_, fun hne => absurd e34 hne⟩
                  refine st_call (f := 117) (args := #[vecV x0 y0, vecV x y]) (by simp [execOp, go_sem, hfn, e37, e41]) (HLW.out W) (fun _ _ => rfl)
                · rintro ev W hf _ _ hst ⟨d42, d34, _⟩
                  have e42 : ev (.tmp 42) = .bool true := d42
                  have e34 : ev (.tmp 34) = .bool true := d34
                  refine ⟨fun _ => ?_, fun hne => absurd e34 hne⟩
                  exact st_value (v := .bool false) (by simp [execOp, go_sem, e42]) (Below.refl _ _) rfl
                · rintro ev W hf hcst _ hst ⟨d34, d43, _⟩
                  have e34 : ev (.tmp 34) = .bool true := d34
                  have e43 : ev (.tmp 43) = .bool false := d43
                  exact st_value (v := .bool false) (by simp [execOp, go_sem, e34, e43, hcst]) (Below.refl _ _) rfl
              case rest =>
                intro vs w3 hl hst hg
                have HE3 := Lib.hid hst
                have hvs : vs = [.int .i64 (i : Int), .bool true, .bool true, .slice (some ⟨b, o, none⟩) n cap, .pointer (some ⟨b, o, none⟩), vecV x0 y0, .slice (some ⟨b, o, none⟩) n cap, .int .i64 (i : Int), .pointer (some ⟨b, o + i * 2, none⟩), vecV x y, .bool true, .bool false, .bool false] := vs_all hl hg
                clear hg hst hl
                subst hvs
                simp only [putAll, Act.put, List.dropLast, List.setIfInBounds_toArray, List.set_cons_zero, List.set_cons_succ]
                have HE2 := Lib.hid (Ext.trans HEq.out HE3.out)
                clear HE3
                go_wp2_with fail
                go_loopw [7] (fun kv wt => ∃ k : Nat, kv = .int .i64 (k : Int) ∧ k ≤ n ∧ (∀ q, q < k → q ≠ i → q ≠ j → 0 < sideK ps (fromP ps q).1 (fromP ps q).2 i) ∧ Ext w wt) (fun kv _ => n - (intOf kv).toNat)
                case atStart => exact ⟨0, rfl, Nat.zero_le _, fun q hq => by omega, HE2.out⟩
                case round =>
                  rename World => wt
                  obtain ⟨k, rfl, hk, hall, hE⟩ := hrel
                  have HALT := Lib.hid hall
                  have HEt := Lib.hid hE
                  clear hall hE
                  by_cases hkl : k < n
                  · have hklz : (k : Int) < (n : Int) := by omega
                    by_cases hki : k = i
                    · have hkib : ((k : Int) != (i : Int)) = false := by rw [hki]; simp
                      have HT := Lib.hid (show ∀ q, q < k + 1 → q ≠ i → q ≠ j → 0 < sideK ps (fromP ps q).1 (fromP ps q).2 i from fun q hq h1 h2 => HALT.out q (by omega) h1 h2)
                      clear hki
                      go_wp2_with fail
                      refine wp_region_stable [⟨[], none⟩, ⟨[], none⟩, ⟨[(0, 54), (1, 55)], none⟩, ⟨[(2, 56)], none⟩, ⟨[(3, 57)], some (57, true)⟩, ⟨[(3, 57)], some (57, true)⟩, ⟨[(4, 58), (5, 59), (3, 57)], some (57, true)⟩, ⟨[(3, 57), (6, 60)], none⟩, ⟨[(7, 61)], none⟩, ⟨[(8, 62)], some (62, true)⟩, ⟨[(8, 62)], some (62, true)⟩, ⟨[(9, 63), (10, 64), (8, 62)], some (62, true)⟩, ⟨[(11, 65), (8, 62)], some (62, true)⟩, ⟨[(8, 62)], some (62, true)⟩, ⟨[(8, 62)], some (62, true)⟩, ⟨[(13, 67), (14, 68), (8, 62)], some (62, true)⟩, ⟨[(15, 69), (8, 62)], some (62, true)⟩, ⟨[(8, 62)], some (62, true)⟩, ⟨[(8, 62)], some (62, true)⟩, ⟨[(17, 71), (18, 72), (8, 62)], some (62, true)⟩, ⟨[(19, 73), (8, 62)], some (62, true)⟩, ⟨[(12, 66), (16, 70), (20, 74), (8, 62)], some (62, true)⟩, ⟨[(21, 75), (8, 62)], some (62, true)⟩, ⟨[(8, 62), (22, 76)], none⟩] (fun x y => Below x.heap.size x y) (MPat [MP.eq (.int .i64 (k : Int)), MP.eq (.int .i64 (i : Int)), MP.eq (.bool false), MP.eq (.bool false), MP.eq (undef), MP.eq (undef), MP.eq (undef), MP.eq (.bool false), MP.eq (.bool false), MP.eq (undef), MP.eq (undef), MP.eq (undef), MP.eq (undef), MP.eq (undef), MP.eq (undef), MP.eq (undef), MP.eq (undef), MP.eq (undef), MP.eq (undef), MP.eq (undef), MP.eq (undef), MP.eq (undef), MP.eq (undef), MP.eq (.bool false)]) (by kernel_rfl) (fun _ _ _ h k => Ext.trans h k) (fun _ => Below.refl _ _) (fun x => (Below.refl x.heap.size x).drew) (MPat.mono _) (by kernel_rfl) ?obs ?rest
                      case obs =>
                        refine ⟨?_, ?_, ?_, ?_, ?_, ?_, ?_, ?_, ?_, ?_, ?_, ?_, ?_, ?_, ?_, ?_, ?_, ?_, ?_, ?_, ?_, ?_, ?_, ?_, trivial⟩
                        · intro ev W hf _ _ hst hd
                          have e7 : ev (.tmp 7) = .int .i64 (k : Int) := hf 7 (by kernel_rfl)
                          exact st_value (v := .int .i64 (k : Int)) (by simp [execOp, go_sem, e7]) (Below.refl _ _) rfl
                        · intro ev W hf _ _ hst hd
                          have e5 : ev (.tmp 5) = .int .i64 (i : Int) := hf 5 (by kernel_rfl)
                          exact st_value (v := .int .i64 (i : Int)) (by simp [execOp, go_sem, e5]) (Below.refl _ _) rfl
                        · rintro ev W hf _ _ hst ⟨d54, d55, _⟩
                          have e54 : ev (.tmp 54) = .int .i64 (k : Int) := d54
                          have e55 : ev (.tmp 55) = .int .i64 (i : Int) := d55
                          exact st_value (v := .bool false) (by simp [execOp, go_sem, e54, e55, hkib]) (Below.refl _ _) rfl
                        · rintro ev W hf _ _ hst ⟨d56, _⟩
                          have e56 : ev (.tmp 56) = .bool false := d56
                          exact st_value (v := .bool false) (by simp [execOp, go_sem, e56]) (Below.refl _ _) rfl
                        · rintro ev W hf _ _ hst ⟨d57, _⟩
                          have e57 : ev (.tmp 57) = .bool false := d57
                          exact ⟨fun hh => by simp [e57] at hh, fun _ => rfl⟩
                        · rintro ev W hf _ _ hst ⟨d57, _⟩
                          have e57 : ev (.tmp 57) = .bool false := d57
                          exact ⟨fun hh => by simp [e57] at hh, fun _ => rfl⟩
                        · rintro ev W hf _ _ hst ⟨d58, d59, d57, _⟩
                          have e57 : ev (.tmp 57) = .bool false := d57
                          exact ⟨fun hh => by simp [e57] at hh, fun _ => rfl⟩
                        · rintro ev W hf hcst _ hst ⟨d57, d60, _⟩
                          have e57 : ev (.tmp 57) = .bool false := d57
                          have e60 : ev (.tmp 60) = undef := d60
                          exact st_value (v := .bool false) (by simp [execOp, go_sem, e57, e60, hcst]) (Below.refl _ _) rfl
                        · rintro ev W hf _ _ hst ⟨d61, _⟩
                          have e61 : ev (.tmp 61) = .bool false := d61
                          exact st_value (v := .bool false) (by simp [execOp, go_sem, e61]) (Below.refl _ _) rfl
                        · rintro ev W hf _ _ hst ⟨d62, _⟩
                          have e62 : ev (.tmp 62) = .bool false := d62
                          exact ⟨fun hh => by simp [e62] at hh, fun _ => rfl⟩
                        · rintro ev W hf _ _ hst ⟨d62, _⟩
                          have e62 : ev (.tmp 62) = .bool false := d62
                          exact ⟨fun hh => by simp [e62] at hh, fun _ => rfl⟩
                        · rintro ev W hf _ _ hst ⟨d63, d64, d62, _⟩
                          have e62 : ev (.tmp 62) = .bool false := d62
                          exact ⟨fun hh => by simp [e62] at hh, fun _ => rfl⟩
                        · rintro ev W hf _ _ hst ⟨d65, d62, _⟩
                          have e62 : ev (.tmp 62) = .bool false := d62
                          exact ⟨fun hh => by simp [e62] at hh, fun _ => rfl⟩
                        · rintro ev W hf _ _ hst ⟨d62, _⟩
                          have e62 : ev (.tmp 62) = .bool false := d62
                          exact ⟨fun hh => by simp [e62] at hh, fun _ => rfl⟩
                        · rintro ev W hf _ _ hst ⟨d62, _⟩
                          have e62 : ev (.tmp 62) = .bool false := d62
                          exact ⟨fun hh => by simp [e62] at hh, fun _ => rfl⟩
                        · rintro ev W hf _ _ hst ⟨d67, d68, d62, _⟩
                          have e62 : ev (.tmp 62) = .bool false := d62
                          exact ⟨fun hh => by simp [e62] at hh, fun _ => rfl⟩
                        · rintro ev W hf _ _ hst ⟨d69, d62, _⟩
                          have e62 : ev (.tmp 62) = .bool false := d62
                          exact ⟨fun hh => by simp [e62] at hh, fun _ => rfl⟩
                        · rintro ev W hf _ _ hst ⟨d62, _⟩
                          have e62 : ev (.tmp 62) = .bool false := d62
                          exact ⟨fun hh => by simp [e62] at hh, fun _ => rfl⟩
                        · rintro ev W hf _ _ hst ⟨d62, _⟩
                          have e62 : ev (.tmp 62) = .bool false := d62
                          exact ⟨fun hh => by simp [e62] at hh, fun _ => rfl⟩
                        · rintro ev W hf _ _ hst ⟨d71, d72, d62, _⟩
                          have e62 : ev (.tmp 62) = .bool false := d62
                          exact ⟨fun hh => by simp [e62] at hh, fun _ => rfl⟩
                        · rintro ev W hf _ _ hst ⟨d73, d62, _⟩
                          have e62 : ev (.tmp 62) = .bool false := d62
                          exact ⟨fun hh => by simp [e62] at hh, fun _ => rfl⟩
                        · rintro ev W hf _ _ hst ⟨d66, d70, d74, d62, _⟩
                          have e62 : ev (.tmp 62) = .bool false := d62
                          exact ⟨fun hh => by simp [e62] at hh, fun _ => rfl⟩
                        · rintro ev W hf _ _ hst ⟨d75, d62, _⟩
                          have e62 : ev (.tmp 62) = .bool false := d62
                          exact ⟨fun hh => by simp [e62] at hh, fun _ => rfl⟩
                        · rintro ev W hf hcst _ hst ⟨d62, d76, _⟩
                          have e62 : ev (.tmp 62) = .bool false := d62
                          have e76 : ev (.tmp 76) = undef := d76
                          exact st_value (v := .bool false) (by simp [execOp, go_sem, e62, e76, hcst]) (Below.refl _ _) rfl
                      case rest =>
                        intro vs w3 hl hst hg
                        have HE3 := Lib.hid hst
                        have hvs : vs = [.int .i64 (k : Int), .int .i64 (i : Int), .bool false, .bool false, undef, undef, undef, .bool false, .bool false, undef, undef, undef, undef, undef, undef, undef, undef, undef, undef, undef, undef, undef, undef, .bool false] := vs_all hl hg
                        clear hg hst hl
                        subst hvs
                        simp only [putAll, Act.put, List.dropLast, List.setIfInBounds_toArray, List.set_cons_zero, List.set_cons_succ]
                        go_wp2_with fail
                        exact ⟨⟨k + 1, by simp, by omega, HT.out, Ext.trans HEt.out HE3.out⟩, by simp [intOf]; omega⟩
                    · have hkib : ((k : Int) != (i : Int)) = true := by rw [bne_iff_ne]; omega
                      by_cases hkj : k = j
                      · have hkjb : ((k : Int) != (j : Int)) = false := by rw [hkj]; simp
                        have HT := Lib.hid (show ∀ q, q < k + 1 → q ≠ i → q ≠ j → 0 < sideK ps (fromP ps q).1 (fromP ps q).2 i from fun q hq h1 h2 => HALT.out q (by omega) h1 h2)
                        clear hkj hki
                        go_wp2_with fail
                        refine wp_region_stable [⟨[], none⟩, ⟨[], none⟩, ⟨[(0, 54), (1, 55)], none⟩, ⟨[(2, 56)], none⟩, ⟨[(3, 57)], some (57, true)⟩, ⟨[(3, 57)], some (57, true)⟩, ⟨[(4, 58), (5, 59), (3, 57)], some (57, true)⟩, ⟨[(3, 57), (6, 60)], none⟩, ⟨[(7, 61)], none⟩, ⟨[(8, 62)], some (62, true)⟩, ⟨[(8, 62)], some (62, true)⟩, ⟨[(9, 63), (10, 64), (8, 62)], some (62, true)⟩, ⟨[(11, 65), (8, 62)], some (62, true)⟩, ⟨[(8, 62)], some (62, true)⟩, ⟨[(8, 62)], some (62, true)⟩, ⟨[(13, 67), (14, 68), (8, 62)], some (62, true)⟩, ⟨[(15, 69), (8, 62)], some (62, true)⟩, ⟨[(8, 62)], some (62, true)⟩, ⟨[(8, 62)], some (62, true)⟩, ⟨[(17, 71), (18, 72), (8, 62)], some (62, true)⟩, ⟨[(19, 73), (8, 62)], some (62, true)⟩, ⟨[(12, 66), (16, 70), (20, 74), (8, 62)], some (62, true)⟩, ⟨[(21, 75), (8, 62)], some (62, true)⟩, ⟨[(8, 62), (22, 76)], none⟩] (fun x y => Below x.heap.size x y) (MPat [MP.eq (.int .i64 (k : Int)), MP.eq (.int .i64 (i : Int)), MP.eq (.bool true), MP.eq (.bool true), MP.eq (.int .i64 (k : Int)), MP.eq (.int .i64 (j : Int)), MP.eq (.bool false), MP.eq (.bool false), MP.eq (.bool false), MP.eq (undef), MP.eq (undef), MP.eq (undef), MP.eq (undef), MP.eq (undef), MP.eq (undef), MP.eq (undef), MP.eq (undef), MP.eq (undef), MP.eq (undef), MP.eq (undef), MP.eq (undef), MP.eq (undef), MP.eq (undef), MP.eq (.bool false)]) (by kernel_rfl) (fun _ _ _ h k => Ext.trans h k) (fun _ => Below.refl _ _) (fun x => (Below.refl x.heap.size x).drew) (MPat.mono _) (by kernel_rfl) ?obs ?rest
                        case obs =>
                          refine ⟨?_, ?_, ?_, ?_, ?_, ?_, ?_, ?_, ?_, ?_, ?_, ?_, ?_, ?_, ?_, ?_, ?_, ?_, ?_, ?_, ?_, ?_, ?_, ?_, trivial⟩
                          · intro ev W hf _ _ hst hd
                            have e7 : ev (.tmp 7) = .int .i64 (k : Int) := hf 7 (by kernel_rfl)
                            exact st_value (v := .int .i64 (k : Int)) (by simp [execOp, go_sem, e7]) (Below.refl _ _) rfl
                          · intro ev W hf _ _ hst hd
                            have e5 : ev (.tmp 5) = .int .i64 (i : Int) := hf 5 (by kernel_rfl)
                            exact st_value (v := .int .i64 (i : Int)) (by simp [execOp, go_sem, e5]) (Below.refl _ _) rfl
                          · rintro ev W hf _ _ hst ⟨d54, d55, _⟩
                            have e54 : ev (.tmp 54) = .int .i64 (k : Int) := d54
                            have e55 : ev (.tmp 55) = .int .i64 (i : Int) := d55
                            exact st_value (v := .bool true) (by simp [execOp, go_sem, e54, e55, hkib]) (Below.refl _ _) rfl
                          · rintro ev W hf _ _ hst ⟨d56, _⟩
                            have e56 : ev (.tmp 56) = .bool true := d56
                            exact st_value (v := .bool true) (by simp [execOp, go_sem, e56]) (Below.refl _ _) rfl
                          · rintro ev W hf _ _ hst ⟨d57, _⟩
                            have e7 : ev (.tmp 7) = .int .i64 (k : Int) := hf 7 (by kernel_rfl)
                            have e57 : ev (.tmp 57) = .bool true := d57
                            refine ⟨fun _ => ?_, fun hne => absurd e57 hne⟩
                            exact st_value (v := .int .i64 (k : Int)) (by simp [execOp, go_sem, e7]) (Below.refl _ _) rfl
                          · rintro ev W hf _ _ hst ⟨d57, _⟩
                            have e6 : ev (.tmp 6) = .int .i64 (j : Int) := hf 6 (by kernel_rfl)
                            have e57 : ev (.tmp 57) = .bool true := d57
                            refine ⟨fun _ => ?_, fun hne => absurd e57 hne⟩
                            exact st_value (v := .int .i64 (j : Int)) (by simp [execOp, go_sem, e6]) (Below.refl _ _) rfl
                          · rintro ev W hf _ _ hst ⟨d58, d59, d57, _⟩
                            have e58 : ev (.tmp 58) = .int .i64 (k : Int) := d58
                            have e59 : ev (.tmp 59) = .int .i64 (j : Int) := d59
                            have e57 : ev (.tmp 57) = .bool true := d57
                            refine ⟨fun _ => ?_, fun hne => absurd e57 hne⟩
                            exact st_value (v := .bool false) (by simp [execOp, go_sem, e58, e59, hkjb]) (Below.refl _ _) rfl
                          · rintro ev W hf hcst _ hst ⟨d57, d60, _⟩
                            have e57 : ev (.tmp 57) = .bool true := d57
                            have e60 : ev (.tmp 60) = .bool false := d60
                            exact st_value (v := .bool false) (by simp [execOp, go_sem, e57, e60, hcst]) (Below.refl _ _) rfl
                          · rintro ev W hf _ _ hst ⟨d61, _⟩
                            have e61 : ev (.tmp 61) = .bool false := d61
                            exact st_value (v := .bool false) (by simp [execOp, go_sem, e61]) (Below.refl _ _) rfl
                          · rintro ev W hf _ _ hst ⟨d62, _⟩
                            have e62 : ev (.tmp 62) = .bool false := d62
                            exact ⟨fun hh => by simp [e62] at hh, fun _ => rfl⟩
                          · rintro ev W hf _ _ hst ⟨d62, _⟩
                            have e62 : ev (.tmp 62) = .bool false := d62
                            exact ⟨fun hh => by simp [e62] at hh, fun _ => rfl⟩
                          · rintro ev W hf _ _ hst ⟨d63, d64, d62, _⟩
                            have e62 : ev (.tmp 62) = .bool false := d62
                            exact ⟨fun hh => by simp [e62] at hh, fun _ => rfl⟩
                          · rintro ev W hf _ _ hst ⟨d65, d62, _⟩
                            have e62 : ev (.tmp 62) = .bool false := d62
                            exact ⟨fun hh => by simp [e62] at hh, fun _ => rfl⟩
                          · rintro ev W hf _ _ hst ⟨d62, _⟩
                            have e62 : ev (.tmp 62) = .bool false := d62
                            exact ⟨fun hh => by simp [e62] at hh, fun _ => rfl⟩
                          · rintro ev W hf _ _ hst ⟨d62, _⟩
                            have e62 : ev (.tmp 62) = .bool false := d62
                            exact ⟨fun hh => by simp [e62] at hh, fun _ => rfl⟩
                          · rintro ev W hf _ _ hst ⟨d67, d68, d62, _⟩
                            have e62 : ev (.tmp 62) = .bool false := d62
                            exact ⟨fun hh => by simp [e62] at hh, fun _ => rfl⟩
                          · rintro ev W hf _ _ hst ⟨d69, d62, _⟩
                            have e62 : ev (.tmp 62) = .bool false := d62
                            exact ⟨fun hh => by simp [e62] at hh, fun _ => rfl⟩
                          · rintro ev W hf _ _ hst ⟨d62, _⟩
                            have e62 : ev (.tmp 62) = .bool false := d62
                            exact ⟨fun hh => by simp [e62] at hh, fun _ => rfl⟩
                          · rintro ev W hf _ _ hst ⟨d62, _⟩
                            have e62 : ev (.tmp 62) = .bool false := d62
                            exact ⟨fun hh => by simp [e62] at hh, fun _ => rfl⟩
                          · rintro ev W hf _ _ hst ⟨d71, d72, d62, _⟩
                            have e62 : ev (.tmp 62) = .bool false := d62
                            exact ⟨fun hh => by simp [e62] at hh, fun _ => rfl⟩
                          · rintro ev W hf _ _ hst ⟨d73, d62, _⟩
                            have e62 : ev (.tmp 62) = .bool false := d62
                            exact ⟨fun hh => by simp [e62] at hh, fun _ => rfl⟩
                          · rintro ev W hf _ _ hst ⟨d66, d70, d74, d62, _⟩
                            have e62 : ev (.tmp 62) = .bool false := d62
                            exact ⟨fun hh => by simp [e62] at hh, fun _ => rfl⟩
                          · rintro ev W hf _ _ hst ⟨d75, d62, _⟩
                            have e62 : ev (.tmp 62) = .bool false := d62
                            exact ⟨fun hh => by simp [e62] at hh, fun _ => rfl⟩
                          · rintro ev W hf hcst _ hst ⟨d62, d76, _⟩
                            have e62 : ev (.tmp 62) = .bool false := d62
                            have e76 : ev (.tmp 76) = undef := d76
                            exact st_value (v := .bool false) (by simp [execOp, go_sem, e62, e76, hcst]) (Below.refl _ _) rfl
                        case rest =>
                          intro vs w3 hl hst hg
                          have HE3 := Lib.hid hst
                          have hvs : vs = [.int .i64 (k : Int), .int .i64 (i : Int), .bool true, .bool true, .int .i64 (k : Int), .int .i64 (j : Int), .bool false, .bool false, .bool false, undef, undef, undef, undef, undef, undef, undef, undef, undef, undef, undef, undef, undef, undef, .bool false] := vs_all hl hg
                          clear hg hst hl
                          subst hvs
                          simp only [putAll, Act.put, List.dropLast, List.setIfInBounds_toArray, List.set_cons_zero, List.set_cons_succ]
                          go_wp2_with fail
                          exact ⟨⟨k + 1, by simp, by omega, HT.out, Ext.trans HEt.out HE3.out⟩, by simp [intOf]; omega⟩
                      · have hkjb : ((k : Int) != (j : Int)) = true := by rw [bne_iff_ne]; omega
                        obtain ⟨e3, e4⟩ := HC.out j hjn
                        obtain ⟨e5, e6⟩ := HC.out k hkl
                        have E1 := Lib.hid (Ext.cell HEt.out D1.out)
                        have E2 := Lib.hid (Ext.cell HEt.out D2.out)
                        have hjb := HNEAR.out j hjn
                        have hkb := HNEAR.out k hkl
                        have HS := Lib.hid (show twiZ x y (fromP ps j).1 (fromP ps j).2 (fromP ps k).1 (fromP ps k).2 = sideK ps (fromP ps k).1 (fromP ps k).2 i from by
                          rw [HX.out, HY.out]
                          have h := twi_side ps (fromP ps k) i
                          rw [to_from, show (i + 1) % ps.length = j by rw [← HN.out, HJ.out]] at h
                          exact h)
                        have HNE := Lib.hid (show k ≠ i ∧ k ≠ j from ⟨hki, hkj⟩)
                        clear hki hkj
                        obtain ⟨sz, hsz⟩ : ∃ sz, sz = sideK ps (fromP ps k).1 (fromP ps k).2 i := ⟨_, rfl⟩
                        rw [← hsz] at HS
                        have HSZ := Lib.hid hsz
                        clear hsz
                        obtain ⟨jx, hjx⟩ : ∃ jx, jx = (fromP ps j).1 := ⟨_, rfl⟩
                        obtain ⟨jy, hjy⟩ : ∃ jy, jy = (fromP ps j).2 := ⟨_, rfl⟩
                        obtain ⟨kx, hkx⟩ : ∃ kx, kx = (fromP ps k).1 := ⟨_, rfl⟩
                        obtain ⟨ky, hky⟩ : ∃ ky, ky = (fromP ps k).2 := ⟨_, rfl⟩
                        rw [← hjx] at e3 hjb HS
                        rw [← hjy] at e4 hjb HS
                        rw [← hkx] at e5 hkb HS
                        rw [← hky] at e6 hkb HS
                        have E3 := Lib.hid (Ext.cell HEt.out e3)
                        have E4 := Lib.hid (Ext.cell HEt.out e4)
                        have E5 := Lib.hid (Ext.cell HEt.out e5)
                        have E6 := Lib.hid (Ext.cell HEt.out e6)
                        clear hjx hjy hkx hky e3 e4 e5 e6
                        have HTW := Lib.hid (fun W => twice_c x y jx jy kx ky W (by omega) (by omega) (by omega) (by omega) (by omega) (by omega))
                        rw [HS.out] at HTW
                        clear HS
                        by_cases hs : sz ≤ 0
                        · have HF := Lib.hid (show validB ps = false from valid_not (i := i) (by have := HN.out; omega) (by have := HN.out; omega) HNF.out (by have := HN.out; omega) (fun h => by
                            have h2 := h.2 k (by have := HN.out; omega) HNE.out.1 (by rw [← HN.out, ← HJ.out]; exact HNE.out.2)
                            rw [← HSZ.out] at h2; omega))
                          have hsz0 : decide (sz ≤ 0) = true := decide_eq_true hs
                          clear hs
                          go_wp2_with fail
                          refine wp_region_stable [⟨[], none⟩, ⟨[], none⟩, ⟨[(0, 54), (1, 55)], none⟩, ⟨[(2, 56)], none⟩, ⟨[(3, 57)], some (57, true)⟩, ⟨[(3, 57)], some (57, true)⟩, ⟨[(4, 58), (5, 59), (3, 57)], some (57, true)⟩, ⟨[(3, 57), (6, 60)], none⟩, ⟨[(7, 61)], none⟩, ⟨[(8, 62)], some (62, true)⟩, ⟨[(8, 62)], some (62, true)⟩, ⟨[(9, 63), (10, 64), (8, 62)], some (62, true)⟩, ⟨[(11, 65), (8, 62)], some (62, true)⟩, ⟨[(8, 62)], some (62, true)⟩, ⟨[(8, 62)], some (62, true)⟩, ⟨[(13, 67), (14, 68), (8, 62)], some (62, true)⟩, ⟨[(15, 69), (8, 62)], some (62, true)⟩, ⟨[(8, 62)], some (62, true)⟩, ⟨[(8, 62)], some (62, true)⟩, ⟨[(17, 71), (18, 72), (8, 62)], some (62, true)⟩, ⟨[(19, 73), (8, 62)], some (62, true)⟩, ⟨[(12, 66), (16, 70), (20, 74), (8, 62)], some (62, true)⟩, ⟨[(21, 75), (8, 62)], some (62, true)⟩, ⟨[(8, 62), (22, 76)], none⟩] (fun x y => Below x.heap.size x y) (MPat [MP.eq (.int .i64 (k : Int)), MP.eq (.int .i64 (i : Int)), MP.eq (.bool true), MP.eq (.bool true), MP.eq (.int .i64 (k : Int)), MP.eq (.int .i64 (j : Int)), MP.eq (.bool true), MP.eq (.bool true), MP.eq (.bool true), MP.eq (.slice (some ⟨b, o, none⟩) n cap), MP.eq (.int .i64 (i : Int)), MP.eq (.pointer (some ⟨b, o + i * 2, none⟩)), MP.eq (vecV x y), MP.eq (.slice (some ⟨b, o, none⟩) n cap), MP.eq (.int .i64 (j : Int)), MP.eq (.pointer (some ⟨b, o + j * 2, none⟩)), MP.eq (vecV jx jy), MP.eq (.slice (some ⟨b, o, none⟩) n cap), MP.eq (.int .i64 (k : Int)), MP.eq (.pointer (some ⟨b, o + k * 2, none⟩)), MP.eq (vecV kx ky), MP.eq (.int .i64 sz), MP.eq (.bool true), MP.eq (.bool true)]) (by kernel_rfl) (fun _ _ _ h k => Ext.trans h k) (fun _ => Below.refl _ _) (fun x => (Below.refl x.heap.size x).drew) (MPat.mono _) (by kernel_rfl) ?obs ?rest
                          case obs =>
                            refine ⟨?_, ?_, ?_, ?_, ?_, ?_, ?_, ?_, ?_, ?_, ?_, ?_, ?_, ?_, ?_, ?_, ?_, ?_, ?_, ?_, ?_, ?_, ?_, ?_, trivial⟩
                            · intro ev W hf _ _ hst hd
                              have e7 : ev (.tmp 7) = .int .i64 (k : Int) := hf 7 (by kernel_rfl)
                              exact st_value (v := .int .i64 (k : Int)) (by simp [execOp, go_sem, e7]) (Below.refl _ _) rfl
                            · intro ev W hf _ _ hst hd
                              have e5 : ev (.tmp 5) = .int .i64 (i : Int) := hf 5 (by kernel_rfl)
                              exact st_value (v := .int .i64 (i : Int)) (by simp [execOp, go_sem, e5]) (Below.refl _ _) rfl
                            · rintro ev W hf _ _ hst ⟨d54, d55, _⟩
                              have e54 : ev (.tmp 54) = .int .i64 (k : Int) := d54
                              have e55 : ev (.tmp 55) = .int .i64 (i : Int) := d55
                              exact st_value (v := .bool true) (by simp [execOp, go_sem, e54, e55, hkib]) (Below.refl _ _) rfl
                            · rintro ev W hf _ _ hst ⟨d56, _⟩
                              have e56 : ev (.tmp 56) = .bool true := d56
                              exact st_value (v := .bool true) (by simp [execOp, go_sem, e56]) (Below.refl _ _) rfl
                            · rintro ev W hf _ _ hst ⟨d57, _⟩
                              have e7 : ev (.tmp 7) = .int .i64 (k : Int) := hf 7 (by kernel_rfl)
                              have e57 : ev (.tmp 57) = .bool true := d57
                              refine ⟨fun _ => ?_, fun hne => absurd e57 hne⟩
                              exact st_value (v := .int .i64 (k : Int)) (by simp [execOp, go_sem, e7]) (Below.refl _ _) rfl
                            · rintro ev W hf _ _ hst ⟨d57, _⟩
                              have e6 : ev (.tmp 6) = .int .i64 (j : Int) := hf 6 (by kernel_rfl)
                              have e57 : ev (.tmp 57) = .bool true := d57
                              refine ⟨fun _ => ?_, fun hne => absurd e57 hne⟩
                              exact st_value (v := .int .i64 (j : Int)) (by simp [execOp, go_sem, e6]) (Below.refl _ _) rfl
                            · rintro ev W hf _ _ hst ⟨d58, d59, d57, _⟩
                              have e58 : ev (.tmp 58) = .int .i64 (k : Int) := d58
                              have e59 : ev (.tmp 59) = .int .i64 (j : Int) := d59
                              have e57 : ev (.tmp 57) = .bool true := d57
                              refine ⟨fun _ => ?_, fun hne => absurd e57 hne⟩
                              exact st_value (v := .bool true) (by simp [execOp, go_sem, e58, e59, hkjb]) (Below.refl _ _) rfl
                            · rintro ev W hf hcst _ hst ⟨d57, d60, _⟩
                              have e57 : ev (.tmp 57) = .bool true := d57
                              have e60 : ev (.tmp 60) = .bool true := d60
                              exact st_value (v := .bool true) (by simp [execOp, go_sem, e57, e60, hcst]) (Below.refl _ _) rfl
                            · rintro ev W hf _ _ hst ⟨d61, _⟩
                              have e61 : ev (.tmp 61) = .bool true := d61
                              exact st_value (v := .bool true) (by simp [execOp, go_sem, e61]) (Below.refl _ _) rfl
                            · rintro ev W hf _ _ hst ⟨d62, _⟩
                              have e0 : ev (.tmp 0) = .slice (some ⟨b, o, none⟩) n cap := hf 0 (by kernel_rfl)
                              have e62 : ev (.tmp 62) = .bool true := d62
                              refine ⟨fun _ => ?_, fun hne => absurd e62 hne⟩
                              exact st_value (v := .slice (some ⟨b, o, none⟩) n cap) (by simp [execOp, go_sem, e0]) (Below.refl _ _) rfl
                            · rintro ev W hf _ _ hst ⟨d62, _⟩
                              have e5 : ev (.tmp 5) = .int .i64 (i : Int) := hf 5 (by kernel_rfl)
                              have e62 : ev (.tmp 62) = .bool true := d62
                              refine ⟨fun _ => ?_, fun hne => absurd e62 hne⟩
                              exact st_value (v := .int .i64 (i : Int)) (by simp [execOp, go_sem, e5]) (Below.refl _ _) rfl
                            · rintro ev W hf _ _ hst ⟨d63, d64, d62, _⟩
                              have e63 : ev (.tmp 63) = .slice (some ⟨b, o, none⟩) n cap := d63
                              have e64 : ev (.tmp 64) = .int .i64 (i : Int) := d64
                              have e62 : ev (.tmp 62) = .bool true := d62
                              refine ⟨fun _ => ?_, fun hne => absurd e62 hne⟩
                              exact st_value (v := .pointer (some ⟨b, o + i * 2, none⟩)) (by simp [execOp, go_sem, e63, e64, hil]) (Below.refl _ _) rfl
                            · rintro ev W hf _ _ hst ⟨d65, d62, _⟩
                              have e65 : ev (.tmp 65) = .pointer (some ⟨b, o + i * 2, none⟩) := d65
                              have e62 : ev (.tmp 62) = .bool true := d62
                              refine ⟨fun _ => ?_, fun hne => absurd e62 hne⟩
                              have q0 := Ext.cell hst E1.out
                              have q1 := Ext.cell hst E2.out
                              exact st_value (v := vecV x y) (by simp [execOp, go_sem, e65, q0, q1, vecV]) (Below.refl _ _) rfl
                            · rintro ev W hf _ _ hst ⟨d62, _⟩
                              have e0 : ev (.tmp 0) = .slice (some ⟨b, o, none⟩) n cap := hf 0 (by kernel_rfl)
                              have e62 : ev (.tmp 62) = .bool true := d62
                              refine ⟨fun _ => ?_, fun hne => absurd e62 hne⟩
                              exact st_value (v := .slice (some ⟨b, o, none⟩) n cap) (by simp [execOp, go_sem, e0]) (Below.refl _ _) rfl
                            · rintro ev W hf _ _ hst ⟨d62, _⟩
                              have e6 : ev (.tmp 6) = .int .i64 (j : Int) := hf 6 (by kernel_rfl)
                              have e62 : ev (.tmp 62) = .bool true := d62
                              refine ⟨fun _ => ?_, fun hne => absurd e62 hne⟩
                              exact st_value (v := .int .i64 (j : Int)) (by simp [execOp, go_sem, e6]) (Below.refl _ _) rfl
                            · rintro ev W hf _ _ hst ⟨d67, d68, d62, _⟩
                              have e67 : ev (.tmp 67) = .slice (some ⟨b, o, none⟩) n cap := d67
                              have e68 : ev (.tmp 68) = .int .i64 (j : Int) := d68
                              have e62 : ev (.tmp 62) = .bool true := d62
                              refine ⟨fun _ => ?_, fun hne => absurd e62 hne⟩
                              exact st_value (v := .pointer (some ⟨b, o + j * 2, none⟩)) (by simp [execOp, go_sem, e67, e68, hjn]) (Below.refl _ _) rfl
                            · rintro ev W hf _ _ hst ⟨d69, d62, _⟩
                              have e69 : ev (.tmp 69) = .pointer (some ⟨b, o + j * 2, none⟩) := d69
                              have e62 : ev (.tmp 62) = .bool true := d62
                              refine ⟨fun _ => ?_, fun hne => absurd e62 hne⟩
                              have q0 := Ext.cell hst E3.out
                              have q1 := Ext.cell hst E4.out
                              exact st_value (v := vecV jx jy) (by simp [execOp, go_sem, e69, q0, q1, vecV]) (Below.refl _ _) rfl
                            · rintro ev W hf _ _ hst ⟨d62, _⟩
                              have e0 : ev (.tmp 0) = .slice (some ⟨b, o, none⟩) n cap := hf 0 (by kernel_rfl)
                              have e62 : ev (.tmp 62) = .bool true := d62
                              refine ⟨fun _ => ?_, fun hne => absurd e62 hne⟩
                              exact st_value (v := .slice (some ⟨b, o, none⟩) n cap) (by simp [execOp, go_sem, e0]) (Below.refl _ _) rfl
                            · rintro ev W hf _ _ hst ⟨d62, _⟩
                              have e7 : ev (.tmp 7) = .int .i64 (k : Int) := hf 7 (by kernel_rfl)
                              have e62 : ev (.tmp 62) = .bool true := d62
                              refine ⟨fun _ => ?_, fun hne => absurd e62 hne⟩
                              exact st_value (v := .int .i64 (k : Int)) (by simp [execOp, go_sem, e7]) (Below.refl _ _) rfl
                            · rintro ev W hf _ _ hst ⟨d71, d72, d62, _⟩
                              have e71 : ev (.tmp 71) = .slice (some ⟨b, o, none⟩) n cap := d71
                              have e72 : ev (.tmp 72) = .int .i64 (k : Int) := d72
                              have e62 : ev (.tmp 62) = .bool true := d62
                              refine ⟨fun _ => ?_, fun hne => absurd e62 hne⟩
                              exact st_value (v := .pointer (some ⟨b, o + k * 2, none⟩)) (by simp [execOp, go_sem, e71, e72, hkl]) (Below.refl _ _) rfl
                            · rintro ev W hf _ _ hst ⟨d73, d62, _⟩
                              have e73 : ev (.tmp 73) = .pointer (some ⟨b, o + k * 2, none⟩) := d73
                              have e62 : ev (.tmp 62) = .bool true := d62
                              refine ⟨fun _ => ?_, fun hne => absurd e62 hne⟩
                              have q0 := Ext.cell hst E5.out
                              have q1 := Ext.cell hst E6.out
                              exact st_value (v := vecV kx ky) (by simp [execOp, go_sem, e73, q0, q1, vecV]) (Below.refl _ _) rfl
                            · rintro ev W hf _ hfn hst ⟨d66, d70, d74, d62, _⟩
                              have e66 : ev (.tmp 66) = vecV x y := d66
                              have e70 : ev (.tmp 70) = vecV jx jy := d70
                              have e74 : ev (.tmp 74) = vecV kx ky := d74
                              have e62 : ev (.tmp 62) = .bool true := d62
                              refine ⟨fun _ => ?_, fun hne => absurd e62 hne⟩
                              refine st_call (f := 118) (args := #[vecV x y, vecV jx jy, vecV kx ky]) (by simp [execOp, go_sem, hfn, e66, e70, e74]) (HTW.out W) (fun _ _ => rfl)
                            · rintro ev W hf hcst _ hst ⟨d75, d62, _⟩
                              have e75 : ev (.tmp 75) = .int .i64 sz := d75
                              have e62 : ev (.tmp 62) = .bool true := d62
                              refine ⟨fun _ => ?_, fun hne => absurd e62 hne⟩
                              exact st_value (v := .bool true) (by simp [execOp, go_sem, e75, hcst, hsz0]) (Below.refl _ _) rfl
                            · rintro ev W hf hcst _ hst ⟨d62, d76, _⟩
                              have e62 : ev (.tmp 62) = .bool true := d62
                              have e76 : ev (.tmp 76) = .bool true := d76
                              exact st_value (v := .bool true) (by simp [execOp, go_sem, e62, e76, hcst]) (Below.refl _ _) rfl
                          case rest =>
                            intro vs w3 hl hst hg
                            have HE3 := Lib.hid hst
                            have hvs : vs = [.int .i64 (k : Int), .int .i64 (i : Int), .bool true, .bool true, .int .i64 (k : Int), .int .i64 (j : Int), .bool true, .bool true, .bool true, .slice (some ⟨b, o, none⟩) n cap, .int .i64 (i : Int), .pointer (some ⟨b, o + i * 2, none⟩), vecV x y, .slice (some ⟨b, o, none⟩) n cap, .int .i64 (j : Int), .pointer (some ⟨b, o + j * 2, none⟩), vecV jx jy, .slice (some ⟨b, o, none⟩) n cap, .int .i64 (k : Int), .pointer (some ⟨b, o + k * 2, none⟩), vecV kx ky, .int .i64 sz, .bool true, .bool true] := vs_all hl hg
                            clear hg hst hl
                            subst hvs
                            simp only [putAll, Act.put, List.dropLast, List.setIfInBounds_toArray, List.set_cons_zero, List.set_cons_succ]
                            go_wp2_with fail
                            go_ret
                            exact ⟨ret_bool HF.out.symm, Ext.trans HEt.out HE3.out⟩
                        · have HT := Lib.hid (show ∀ q, q < k + 1 → q ≠ i → q ≠ j → 0 < sideK ps (fromP ps q).1 (fromP ps q).2 i from fun q hq h1 h2 => by
                            by_cases e : q = k
                            · rw [e, ← HSZ.out]; omega
                            · exact HALT.out q (by omega) h1 h2)
                          have hsz0 : decide (sz ≤ 0) = false := decide_eq_false hs
                          clear hs
                          go_wp2_with fail
                          refine wp_region_stable [⟨[], none⟩, ⟨[], none⟩, ⟨[(0, 54), (1, 55)], none⟩, ⟨[(2, 56)], none⟩, ⟨[(3, 57)], some (57, true)⟩, ⟨[(3, 57)], some (57, true)⟩, ⟨[(4, 58), (5, 59), (3, 57)], some (57, true)⟩, ⟨[(3, 57), (6, 60)], none⟩, ⟨[(7, 61)], none⟩, ⟨[(8, 62)], some (62, true)⟩, ⟨[(8, 62)], some (62, true)⟩, ⟨[(9, 63), (10, 64), (8, 62)], some (62, true)⟩, ⟨[(11, 65), (8, 62)], some (62, true)⟩, ⟨[(8, 62)], some (62, true)⟩, ⟨[(8, 62)], some (62, true)⟩, ⟨[(13, 67), (14, 68), (8, 62)], some (62, true)⟩, ⟨[(15, 69), (8, 62)], some (62, true)⟩, ⟨[(8, 62)], some (62, true)⟩, ⟨[(8, 62)], some (62, true)⟩, ⟨[(17, 71), (18, 72), (8, 62)], some (62, true)⟩, ⟨[(19, 73), (8, 62)], some (62, true)⟩, ⟨[(12, 66), (16, 70), (20, 74), (8, 62)], some (62, true)⟩, ⟨[(21, 75), (8, 62)], some (62, true)⟩, ⟨[(8, 62), (22, 76)], none⟩] (fun x y => Below x.heap.size x y) (MPat [MP.eq (.int .i64 (k : Int)), MP.eq (.int .i64 (i : Int)), MP.eq (.bool true), MP.eq (.bool true), MP.eq (.int .i64 (k : Int)), MP.eq (.int .i64 (j : Int)), MP.eq (.bool true), MP.eq (.bool true), MP.eq (.bool true), MP.eq (.slice (some ⟨b, o, none⟩) n cap), MP.eq (.int .i64 (i : Int)), MP.eq (.pointer (some ⟨b, o + i * 2, none⟩)), MP.eq (vecV x y), MP.eq (.slice (some ⟨b, o, none⟩) n cap), MP.eq (.int .i64 (j : Int)), MP.eq (.pointer (some ⟨b, o + j * 2, none⟩)), MP.eq (vecV jx jy), MP.eq (.slice (some ⟨b, o, none⟩) n cap), MP.eq (.int .i64 (k : Int)), MP.eq (.pointer (some ⟨b, o + k * 2, none⟩)), MP.eq (vecV kx ky), MP.eq (.int .i64 sz), MP.eq (.bool false), MP.eq (.bool false)]) (by kernel_rfl) (fun _ _ _ h k => Ext.trans h k) (fun _ => Below.refl _ _) (fun x => (Below.refl x.heap.size x).drew) (MPat.mono _) (by kernel_rfl) ?obs ?rest
                          case obs =>
                            refine ⟨?_, ?_, ?_, ?_, ?_, ?_, ?_, ?_, ?_, ?_, ?_, ?_, ?_, ?_, ?_, ?_, ?_, ?_, ?_, ?_, ?_, ?_, ?_, ?_, trivial⟩
                            · intro ev W hf _ _ hst hd
                              have e7 : ev (.tmp 7) = .int .i64 (k : Int) := hf 7 (by kernel_rfl)
                              exact st_value (v := .int .i64 (k : Int)) (by simp [execOp, go_sem, e7]) (Below.refl _ _) rfl
                            · intro ev W hf _ _ hst hd
                              have e5 : ev (.tmp 5) = .int .i64 (i : Int) := hf 5 (by kernel_rfl)
                              exact st_value (v := .int .i64 (i : Int)) (by simp [execOp, go_sem, e5]) (Below.refl _ _) rfl
                            · rintro ev W hf _ _ hst ⟨d54, d55, _⟩
                              have e54 : ev (.tmp 54) = .int .i64 (k : Int) := d54
                              have e55 : ev (.tmp 55) = .int .i64 (i : Int) := d55
                              exact st_value (v := .bool true) (by simp [execOp, go_sem, e54, e55, hkib]) (Below.refl _ _) rfl
                            · rintro ev W hf _ _ hst ⟨d56, _⟩
                              have e56 : ev (.tmp 56) = .bool true := d56
                              exact st_value (v := .bool true) (by simp [execOp, go_sem, e56]) (Below.refl _ _) rfl
                            · rintro ev W hf _ _ hst ⟨d57, _⟩
                              have e7 : ev (.tmp 7) = .int .i64 (k : Int) := hf 7 (by kernel_rfl)
                              have e57 : ev (.tmp 57) = .bool true := d57
                              refine ⟨fun _ => ?_, fun hne => absurd e57 hne⟩
                              exact st_value (v := .int .i64 (k : Int)) (by simp [execOp, go_sem, e7]) (Below.refl _ _) rfl
                            · rintro ev W hf _ _ hst ⟨d57, _⟩
                              have e6 : ev (.tmp 6) = .int .i64 (j : Int) := hf 6 (by kernel_rfl)
                              have e57 : ev (.tmp 57) = .bool true := d57
                              refine ⟨fun _ => ?_, fun hne => absurd e57 hne⟩
                              exact st_value (v := .int .i64 (j : Int)) (by simp [execOp, go_sem, e6]) (Below.refl _ _) rfl
                            · rintro ev W hf _ _ hst ⟨d58, d59, d57, _⟩
                              have e58 : ev (.tmp 58) = .int .i64 (k : Int) := d58
                              have e59 : ev (.tmp 59) = .int .i64 (j : Int) := d59
                              have e57 : ev (.tmp 57) = .bool true := d57
                              refine ⟨fun _ => ?_, fun hne => absurd e57 hne⟩
                              exact st_value (v := .bool true) (by simp [execOp, go_sem, e58, e59, hkjb]) (Below.refl _ _) rfl
                            · rintro ev W hf hcst _ hst ⟨d57, d60, _⟩
                              have e57 : ev (.tmp 57) = .bool true := d57
                              have e60 : ev (.tmp 60) = .bool true := d60
                              exact st_value (v := .bool true) (by simp [execOp, go_sem, e57, e60, hcst]) (Below.refl _ _) rfl
                            · rintro ev W hf _ _ hst ⟨d61, _⟩
                              have e61 : ev (.tmp 61) = .bool true := d61
                              exact st_value (v := .bool true) (by simp [execOp, go_sem, e61]) (Below.refl _ _) rfl
                            · rintro ev W hf _ _ hst ⟨d62, _⟩
                              have e0 : ev (.tmp 0) = .slice (some ⟨b, o, none⟩) n cap := hf 0 (by kernel_rfl)
                              have e62 : ev (.tmp 62) = .bool true := d62
                              refine ⟨fun _ => ?_, fun hne => absurd e62 hne⟩
                              exact st_value (v := .slice (some ⟨b, o, none⟩) n cap) (by simp [execOp, go_sem, e0]) (Below.refl _ _) rfl
                            · rintro ev W hf _ _ hst ⟨d62, _⟩
                              have e5 : ev (.tmp 5) = .int .i64 (i : Int) := hf 5 (by kernel_rfl)
                              have e62 : ev (.tmp 62) = .bool true := d62
                              refine ⟨fun _ => ?_, fun hne => absurd e62 hne⟩
                              exact st_value (v := .int .i64 (i : Int)) (by simp [execOp, go_sem, e5]) (Below.refl _ _) rfl
                            · rintro ev W hf _ _ hst ⟨d63, d64, d62, _⟩
                              have e63 : ev (.tmp 63) = .slice (some ⟨b, o, none⟩) n cap := d63
                              have e64 : ev (.tmp 64) = .int .i64 (i : Int) := d64
                              have e62 : ev (.tmp 62) = .bool true := d62
                              refine ⟨fun _ => ?_, fun hne => absurd e62 hne⟩
                              exact st_value (v := .pointer (some ⟨b, o + i * 2, none⟩)) (by simp [execOp, go_sem, e63, e64, hil]) (Below.refl _ _) rfl
                            · rintro ev W hf _ _ hst ⟨d65, d62, _⟩
                              have e65 : ev (.tmp 65) = .pointer (some ⟨b, o + i * 2, none⟩) := d65
                              have e62 : ev (.tmp 62) = .bool true := d62
                              refine ⟨fun _ => ?_, fun hne => absurd e62 hne⟩
                              have q0 := Ext.cell hst E1.out
                              have q1 := Ext.cell hst E2.out
                              exact st_value (v := vecV x y) (by simp [execOp, go_sem, e65, q0, q1, vecV]) (Below.refl _ _) rfl
                            · rintro ev W hf _ _ hst ⟨d62, _⟩
                              have e0 : ev (.tmp 0) = .slice (some ⟨b, o, none⟩) n cap := hf 0 (by kernel_rfl)
                              have e62 : ev (.tmp 62) = .bool true := d62
                              refine ⟨fun _ => ?_, fun hne => absurd e62 hne⟩
                              exact st_value (v := .slice (some ⟨b, o, none⟩) n cap) (by simp [execOp, go_sem, e0]) (Below.refl _ _) rfl
                            · rintro ev W hf _ _ hst ⟨d62, _⟩
                              have e6 : ev (.tmp 6) = .int .i64 (j : Int) := hf 6 (by kernel_rfl)
                              have e62 : ev (.tmp 62) = .bool true := d62
                              refine ⟨fun _ => ?_, fun hne => absurd e62 hne⟩
                              exact st_value (v := .int .i64 (j : Int)) (by simp [execOp, go_sem, e6]) (Below.refl _ _) rfl
                            · rintro ev W hf _ _ hst ⟨d67, d68, d62, _⟩
                              have e67 : ev (.tmp 67) = .slice (some ⟨b, o, none⟩) n cap := d67
                              have e68 : ev (.tmp 68) = .int .i64 (j : Int) := d68
                              have e62 : ev (.tmp 62) = .bool true := d62
                              refine ⟨fun _ => ?_, fun hne => absurd e62 hne⟩
                              exact st_value (v := .pointer (some ⟨b, o + j * 2, none⟩)) (by simp [execOp, go_sem, e67, e68, hjn]) (Below.refl _ _) rfl
                            · rintro ev W hf _ _ hst ⟨d69, d62, _⟩
                              have e69 : ev (.tmp 69) = .pointer (some ⟨b, o + j * 2, none⟩) := d69
                              have e62 : ev (.tmp 62) = .bool true := d62
                              refine ⟨fun _ => ?_, fun hne => absurd e62 hne⟩
                              have q0 := Ext.cell hst E3.out
                              have q1 := Ext.cell hst E4.out
                              exact st_value (v := vecV jx jy) (by simp [execOp, go_sem, e69, q0, q1, vecV]) (Below.refl _ _) rfl
                            · rintro ev W hf _ _ hst ⟨d62, _⟩
                              have e0 : ev (.tmp 0) = .slice (some ⟨b, o, none⟩) n cap := hf 0 (by kernel_rfl)
                              have e62 : ev (.tmp 62) = .bool true := d62
                              refine ⟨fun _ => ?_, fun hne => absurd e62 hne⟩
                              exact st_value (v := .slice (some ⟨b, o, none⟩) n cap) (by simp [execOp, go_sem, e0]) (Below.refl _ _) rfl
                            · rintro ev W hf _ _ hst ⟨d62, _⟩
                              have e7 : ev (.tmp 7) = .int .i64 (k : Int) := hf 7 (by kernel_rfl)
                              have e62 : ev (.tmp 62) = .bool true := d62
                              refine ⟨fun _ => ?_, fun hne => absurd e62 hne⟩
                              exact st_value (v := .int .i64 (k : Int)) (by simp [execOp, go_sem, e7]) (Below.refl _ _) rfl
                            · rintro ev W hf _ _ hst ⟨d71, d72, d62, _⟩
                              have e71 : ev (.tmp 71) = .slice (some ⟨b, o, none⟩) n cap := d71
                              have e72 : ev (.tmp 72) = .int .i64 (k : Int) := d72
                              have e62 : ev (.tmp 62) = .bool true := d62
                              refine ⟨fun _ => ?_, fun hne => absurd e62 hne⟩
                              exact st_value (v := .pointer (some ⟨b, o + k * 2, none⟩)) (by simp [execOp, go_sem, e71, e72, hkl]) (Below.refl _ _) rfl
                            · rintro ev W hf _ _ hst ⟨d73, d62, _⟩
                              have e73 : ev (.tmp 73) = .pointer (some ⟨b, o + k * 2, none⟩) := d73
                              have e62 : ev (.tmp 62) = .bool true := d62
                              refine ⟨fun _ => ?_, fun hne => absurd e62 hne⟩
                              have q0 := Ext.cell hst E5.out
                              have q1 := Ext.cell hst E6.out
                              exact st_value (v := vecV kx ky) (by simp [execOp, go_sem, e73, q0, q1, vecV]) (Below.refl _ _) rfl
                            · rintro ev W hf _ hfn hst ⟨d66, d70, d74, d62, _⟩
                              have e66 : ev (.tmp 66) = vecV x y := d66
                              have e70 : ev (.tmp 70) = vecV jx jy := d70
                              have e74 : ev (.tmp 74) = vecV kx ky := d74
                              have e62 : ev (.tmp 62) = .bool true := d62
                              refine ⟨fun _ => ?_, fun hne => absurd e62 hne⟩
                              refine st_call (f := 118) (args := #[vecV x y, vecV jx jy, vecV kx ky]) (by simp [execOp, go_sem, hfn, e66, e70, e74]) (HTW.out W) (fun _ _ => rfl)
                            · rintro ev W hf hcst _ hst ⟨d75, d62, _⟩
                              have e75 : ev (.tmp 75) = .int .i64 sz := d75
                              have e62 : ev (.tmp 62) = .bool true := d62
                              refine ⟨fun _ => ?_, fun hne => absurd e62 hne⟩
                              exact st_value (v := .bool false) (by simp [execOp, go_sem, e75, hcst, hsz0]) (Below.refl _ _) rfl
                            · rintro ev W hf hcst _ hst ⟨d62, d76, _⟩
                              have e62 : ev (.tmp 62) = .bool true := d62
                              have e76 : ev (.tmp 76) = .bool false := d76
                              exact st_value (v := .bool false) (by simp [execOp, go_sem, e62, e76, hcst]) (Below.refl _ _) rfl
                          case rest =>
                            intro vs w3 hl hst hg
                            have HE3 := Lib.hid hst
                            have hvs : vs = [.int .i64 (k : Int), .int .i64 (i : Int), .bool true, .bool true, .int .i64 (k : Int), .int .i64 (j : Int), .bool true, .bool true, .bool true, .slice (some ⟨b, o, none⟩) n cap, .int .i64 (i : Int), .pointer (some ⟨b, o + i * 2, none⟩), vecV x y, .slice (some ⟨b, o, none⟩) n cap, .int .i64 (j : Int), .pointer (some ⟨b, o + j * 2, none⟩), vecV jx jy, .slice (some ⟨b, o, none⟩) n cap, .int .i64 (k : Int), .pointer (some ⟨b, o + k * 2, none⟩), vecV kx ky, .int .i64 sz, .bool false, .bool false] := vs_all hl hg
                            clear hg hst hl
                            subst hvs
                            simp only [putAll, Act.put, List.dropLast, List.setIfInBounds_toArray, List.set_cons_zero, List.set_cons_succ]
                            go_wp2_with fail
                            exact ⟨⟨k + 1, by simp, by omega, HT.out, Ext.trans HEt.out HE3.out⟩, by simp [intOf]; omega⟩
                  · have hklz : ¬ (k : Int) < (n : Int) := by omega
                    have HT := Lib.hid (show ∀ q, q < i + 1 → edgeOk ps q from fun q hq => by
                      by_cases e : q = i
                      · subst e
                        refine ⟨HL.out, fun k2 h1 h2 h3 => HALT.out k2 (by have := HN.out; omega) h2 (by rw [HJ.out, HN.out]; exact h3)⟩
                      · exact HALQ.out q (by omega))
                    go_wp2_with fail
                    exact ⟨⟨i + 1, by simp, by omega, HT.out, HEt.out⟩, by simp [intOf]; omega⟩
          · have HI0 := Lib.hid (show i = 0 by omega)
            have HL := Lib.hid (show 0 < i → lowP (fromP ps 0) (fromP ps i) from fun h => absurd h hi0)
            clear hi0
            go_wp2_with fail
            refine wp_region_stable [⟨[], none⟩, ⟨[(0, 32)], none⟩, ⟨[(1, 33)], none⟩, ⟨[(2, 34)], some (34, true)⟩, ⟨[(3, 35), (2, 34)], some (34, true)⟩, ⟨[(4, 36), (2, 34)], some (34, true)⟩, ⟨[(2, 34)], some (34, true)⟩, ⟨[(2, 34)], some (34, true)⟩, ⟨[(6, 38), (7, 39), (2, 34)], some (34, true)⟩, ⟨[(8, 40), (2, 34)], some (34, true)⟩, ⟨[(5, 37), (9, 41), (2, 34)], some (34, true)⟩, ⟨[(10, 42), (2, 34)], some (34, true)⟩, ⟨[(2, 34), (11, 43)], none⟩] (fun x y => Below x.heap.size x y) (MPat [MP.eq (.int .i64 (i : Int)), MP.eq (.bool false), MP.eq (.bool false), MP.eq (undef), MP.eq (undef), MP.eq (undef), MP.eq (undef), MP.eq (undef), MP.eq (undef), MP.eq (undef), MP.eq (undef), MP.eq (undef), MP.eq (.bool false)]) (by kernel_rfl) (fun _ _ _ h k => Ext.trans h k) (fun _ => Below.refl _ _) (fun x => (Below.refl x.heap.size x).drew) (MPat.mono _) (by kernel_rfl) ?obs ?rest
            case obs =>
              refine ⟨?_, ?_, ?_, ?_, ?_, ?_, ?_, ?_, ?_, ?_, ?_, ?_, ?_, trivial⟩
              · intro ev W hf _ _ hst hd
                have e5 : ev (.tmp 5) = .int .i64 (i : Int) := hf 5 (by kernel_rfl)
                exact st_value (v := .int .i64 (i : Int)) (by simp [execOp, go_sem, e5]) (Below.refl _ _) rfl
              · rintro ev W hf hcst _ hst ⟨d32, _⟩
                have e32 : ev (.tmp 32) = .int .i64 (i : Int) := d32
                exact st_value (v := .bool false) (by simp [execOp, go_sem, e32, hcst, HI0.out]) (Below.refl _ _) rfl
              · rintro ev W hf _ _ hst ⟨d33, _⟩
                have e33 : ev (.tmp 33) = .bool false := d33
                exact st_value (v := .bool false) (by simp [execOp, go_sem, e33]) (Below.refl _ _) rfl
              · rintro ev W hf _ _ hst ⟨d34, _⟩
                have e34 : ev (.tmp 34) = .bool false := d34
                exact ⟨fun hh => by simp [e34] at hh, fun _ => rfl⟩
              · rintro ev W hf _ _ hst ⟨d35, d34, _⟩
                have e34 : ev (.tmp 34) = .bool false := d34
                exact ⟨fun hh => by simp [e34] at hh, fun _ => rfl⟩
              · rintro ev W hf _ _ hst ⟨d36, d34, _⟩
                have e34 : ev (.tmp 34) = .bool false := d34
                exact ⟨fun hh => by simp [e34] at hh, fun _ => rfl⟩
              · rintro ev W hf _ _ hst ⟨d34, _⟩
                have e34 : ev (.tmp 34) = .bool false := d34
                exact ⟨fun hh => by simp [e34] at hh, fun _ => rfl⟩
              · rintro ev W hf _ _ hst ⟨d34, _⟩
                have e34 : ev (.tmp 34) = .bool false := d34
                exact ⟨fun hh => by simp [e34] at hh, fun _ => rfl⟩
              · rintro ev W hf _ _ hst ⟨d38, d39, d34, _⟩
                have e34 : ev (.tmp 34) = .bool false := d34
                exact ⟨fun hh => by simp [e34] at hh, fun _ => rfl⟩
              · rintro ev W hf _ _ hst ⟨d40, d34, _⟩
                have e34 : ev (.tmp 34) = .bool false := d34
                exact ⟨fun hh => by simp [e34] at hh, fun _ => rfl⟩
              · rintro ev W hf _ _ hst ⟨d37, d41, d34, _⟩
                have e34 : ev (.tmp 34) = .bool false := d34
                exact ⟨fun hh => by simp [e34] at hh, fun _ => rfl⟩
              · rintro ev W hf _ _ hst ⟨d42, d34, _⟩
                have e34 : ev (.tmp 34) = .bool false := d34
                exact ⟨fun hh => by simp [e34] at hh, fun _ => rfl⟩
              · rintro ev W hf hcst _ hst ⟨d34, d43, _⟩
                have e34 : ev (.tmp 34) = .bool false := d34
                have e43 : ev (.tmp 43) = undef := d43
                exact st_value (v := .bool false) (by simp [execOp, go_sem, e34, e43, hcst]) (Below.refl _ _) rfl
            case rest =>
              intro vs w3 hl hst hg
              have HE3 := Lib.hid hst
              have hvs : vs = [.int .i64 (i : Int), .bool false, .bool false, undef, undef, undef, undef, undef, undef, undef, undef, undef, .bool false] := vs_all hl hg
              clear hg hst hl
              subst hvs
              simp only [putAll, Act.put, List.dropLast, List.setIfInBounds_toArray, List.set_cons_zero, List.set_cons_succ]
              have HE2 := Lib.hid (Ext.trans HEq.out HE3.out)
              clear HE3
              go_wp2_with fail
              go_loopw [7] (fun kv wt => ∃ k : Nat, kv = .int .i64 (k : Int) ∧ k ≤ n ∧ (∀ q, q < k → q ≠ i → q ≠ j → 0 < sideK ps (fromP ps q).1 (fromP ps q).2 i) ∧ Ext w wt) (fun kv _ => n - (intOf kv).toNat)
              case atStart => exact ⟨0, rfl, Nat.zero_le _, fun q hq => by omega, HE2.out⟩
              case round =>
                rename World => wt
                obtain ⟨k, rfl, hk, hall, hE⟩ := hrel
                have HALT := Lib.hid hall
                have HEt := Lib.hid hE
                clear hall hE
                by_cases hkl : k < n
                · have hklz : (k : Int) < (n : Int) := by omega
                  by_cases hki : k = i
                  · have hkib : ((k : Int) != (i : Int)) = false := by rw [hki]; simp
                    have HT := Lib.hid (show ∀ q, q < k + 1 → q ≠ i → q ≠ j → 0 < sideK ps (fromP ps q).1 (fromP ps q).2 i from fun q hq h1 h2 => HALT.out q (by omega) h1 h2)
                    clear hki
                    go_wp2_with fail
                    refine wp_region_stable [⟨[], none⟩, ⟨[], none⟩, ⟨[(0, 54), (1, 55)], none⟩, ⟨[(2, 56)], none⟩, ⟨[(3, 57)], some (57, true)⟩, ⟨[(3, 57)], some (57, true)⟩, ⟨[(4, 58), (5, 59), (3, 57)], some (57, true)⟩, ⟨[(3, 57), (6, 60)], none⟩, ⟨[(7, 61)], none⟩, ⟨[(8, 62)], some (62, true)⟩, ⟨[(8, 62)], some (62, true)⟩, ⟨[(9, 63), (10, 64), (8, 62)], some (62, true)⟩, ⟨[(11, 65), (8, 62)], some (62, true)⟩, ⟨[(8, 62)], some (62, true)⟩, ⟨[(8, 62)], some (62, true)⟩, ⟨[(13, 67), (14, 68), (8, 62)], some (62, true)⟩, ⟨[(15, 69), (8, 62)], some (62, true)⟩, ⟨[(8, 62)], some (62, true)⟩, ⟨[(8, 62)], some (62, true)⟩, ⟨[(17, 71), (18, 72), (8, 62)], some (62, true)⟩, ⟨[(19, 73), (8, 62)], some (62, true)⟩, ⟨[(12, 66), (16, 70), (20, 74), (8, 62)], some (62, true)⟩, ⟨[(21, 75), (8, 62)], some (62, true)⟩, ⟨[(8, 62), (22, 76)], none⟩] (fun x y => Below x.heap.size x y) (MPat [MP.eq (.int .i64 (k : Int)), MP.eq (.int .i64 (i : Int)), MP.eq (.bool false), MP.eq (.bool false), MP.eq (undef), MP.eq (undef), MP.eq (undef), MP.eq (.bool false), MP.eq (.bool false), MP.eq (undef), MP.eq (undef), MP.eq (undef), MP.eq (undef), MP.eq (undef), MP.eq (undef), MP.eq (undef), MP.eq (undef), MP.eq (undef), MP.eq (undef), MP.eq (undef), MP.eq (undef), MP.eq (undef), MP.eq (undef), MP.eq (.bool false)]) (by kernel_rfl) (fun _ _ _ h k => Ext.trans h k) (fun _ => Below.refl _ _) (fun x => (Below.refl x.heap.size x).drew) (MPat.mono _) (by kernel_rfl) ?obs ?rest
                    case obs =>
                      refine ⟨?_, ?_, ?_, ?_, ?_, ?_, ?_, ?_, ?_, ?_, ?_, ?_, ?_, ?_, ?_, ?_, ?_, ?_, ?_, ?_, ?_, ?_, ?_, ?_, trivial⟩
                      · intro ev W hf _ _ hst hd
                        have e7 : ev (.tmp 7) = .int .i64 (k : Int) := hf 7 (by kernel_rfl)
                        exact st_value (v := .int .i64 (k : Int)) (by simp [execOp, go_sem, e7]) (Below.refl _ _) rfl
                      · intro ev W hf _ _ hst hd
                        have e5 : ev (.tmp 5) = .int .i64 (i : Int) := hf 5 (by kernel_rfl)
                        exact st_value (v := .int .i64 (i : Int)) (by simp [execOp, go_sem, e5]) (Below.refl _ _) rfl
                      · rintro ev W hf _ _ hst ⟨d54, d55, _⟩
                        have e54 : ev (.tmp 54) = .int .i64 (k : Int) := d54
                        have e55 : ev (.tmp 55) = .int .i64 (i : Int) := d55
                        exact st_value (v := .bool false) (by simp [execOp, go_sem, e54, e55, hkib]) (Below.refl _ _) rfl
                      · rintro ev W hf _ _ hst ⟨d56, _⟩
                        have e56 : ev (.tmp 56) = .bool false := d56
                        exact st_value (v := .bool false) (by simp [execOp, go_sem, e56]) (Below.refl _ _) rfl
                      · rintro ev W hf _ _ hst ⟨d57, _⟩
                        have e57 : ev (.tmp 57) = .bool false := d57
                        exact ⟨fun hh => by simp [e57] at hh, fun _ => rfl⟩
                      · rintro ev W hf _ _ hst ⟨d57, _⟩
                        have e57 : ev (.tmp 57) = .bool false := d57
                        exact ⟨fun hh => by simp [e57] at hh, fun _ => rfl⟩
                      · rintro ev W hf _ _ hst ⟨d58, d59, d57, _⟩
                        have e57 : ev (.tmp 57) = .bool false := d57
                        exact ⟨fun hh => by simp [e57] at hh, fun _ => rfl⟩
                      · rintro ev W hf hcst _ hst ⟨d57, d60, _⟩
                        have e57 : ev (.tmp 57) = .bool false := d57
                        have e60 : ev (.tmp 60) = undef := d60
                        exact st_value (v := .bool false) (by simp [execOp, go_sem, e57, e60, hcst]) (Below.refl _ _) rfl
                      · rintro ev W hf _ _ hst ⟨d61, _⟩
                        have e61 : ev (.tmp 61) = .bool false := d61
                        exact st_value (v := .bool false) (by simp [execOp, go_sem, e61]) (Below.refl _ _) rfl
                      · rintro ev W hf _ _ hst ⟨d62, _⟩
                        have e62 : ev (.tmp 62) = .bool false := d62
                        exact ⟨fun hh => by simp [e62] at hh, fun _ => rfl⟩
                      · rintro ev W hf _ _ hst ⟨d62, _⟩
                        have e62 : ev (.tmp 62) = .bool false := d62
                        exact ⟨fun hh => by simp [e62] at hh, fun _ => rfl⟩
                      · rintro ev W hf _ _ hst ⟨d63, d64, d62, _⟩
                        have e62 : ev (.tmp 62) = .bool false := d62
                        exact ⟨fun hh => by simp [e62] at hh, fun _ => rfl⟩
                      · rintro ev W hf _ _ hst ⟨d65, d62, _⟩
                        have e62 : ev (.tmp 62) = .bool false := d62
                        exact ⟨fun hh => by simp [e62] at hh, fun _ => rfl⟩
                      · rintro ev W hf _ _ hst ⟨d62, _⟩
                        have e62 : ev (.tmp 62) = .bool false := d62
                        exact ⟨fun hh => by simp [e62] at hh, fun _ => rfl⟩
                      · rintro ev W hf _ _ hst ⟨d62, _⟩
                        have e62 : ev (.tmp 62) = .bool false := d62
                        exact ⟨fun hh => by simp [e62] at hh, fun _ => rfl⟩
                      · rintro ev W hf _ _ hst ⟨d67, d68, d62, _⟩
                        have e62 : ev (.tmp 62) = .bool false := d62
                        exact ⟨fun hh => by simp [e62] at hh, fun _ => rfl⟩
                      · rintro ev W hf _ _ hst ⟨d69, d62, _⟩
                        have e62 : ev (.tmp 62) = .bool false := d62
                        exact ⟨fun hh => by simp [e62] at hh, fun _ => rfl⟩
                      · rintro ev W hf _ _ hst ⟨d62, _⟩
                        have e62 : ev (.tmp 62) = .bool false := d62
                        exact ⟨fun hh => by simp [e62] at hh, fun _ => rfl⟩
                      · rintro ev W hf _ _ hst ⟨d62, _⟩
                        have e62 : ev (.tmp 62) = .bool false := d62
                        exact ⟨fun hh => by simp [e62] at hh, fun _ => rfl⟩
                      · rintro ev W hf _ _ hst ⟨d71, d72, d62, _⟩
                        have e62 : ev (.tmp 62) = .bool false := d62
                        exact ⟨fun hh => by simp [e62] at hh, fun _ => rfl⟩
                      · rintro ev W hf _ _ hst ⟨d73, d62, _⟩
                        have e62 : ev (.tmp 62) = .bool false := d62
                        exact ⟨fun hh => by simp [e62] at hh, fun _ => rfl⟩
                      · rintro ev W hf _ _ hst ⟨d66, d70, d74, d62, _⟩
                        have e62 : ev (.tmp 62) = .bool false := d62
                        exact ⟨fun hh => by simp [e62] at hh, fun _ => rfl⟩
                      · rintro ev W hf _ _ hst ⟨d75, d62, _⟩
                        have e62 : ev (.tmp 62) = .bool false := d62
                        exact ⟨fun hh => by simp [e62] at hh, fun _ => rfl⟩
                      · rintro ev W hf hcst _ hst ⟨d62, d76, _⟩
                        have e62 : ev (.tmp 62) = .bool false := d62
                        have e76 : ev (.tmp 76) = undef := d76
                        exact st_value (v := .bool false) (by simp [execOp, go_sem, e62, e76, hcst]) (Below.refl _ _) rfl
                    case rest =>
                      intro vs w3 hl hst hg
                      have HE3 := Lib.hid hst
                      have hvs : vs = [.int .i64 (k : Int), .int .i64 (i : Int), .bool false, .bool false, undef, undef, undef, .bool false, .bool false, undef, undef, undef, undef, undef, undef, undef, undef, undef, undef, undef, undef, undef, undef, .bool false] := vs_all hl hg
                      clear hg hst hl
                      subst hvs
                      simp only [putAll, Act.put, List.dropLast, List.setIfInBounds_toArray, List.set_cons_zero, List.set_cons_succ]
                      go_wp2_with fail
                      exact ⟨⟨k + 1, by simp, by omega, HT.out, Ext.trans HEt.out HE3.out⟩, by simp [intOf]; omega⟩
                  · have hkib : ((k : Int) != (i : Int)) = true := by rw [bne_iff_ne]; omega
                    by_cases hkj : k = j
                    · have hkjb : ((k : Int) != (j : Int)) = false := by rw [hkj]; simp
                      have HT := Lib.hid (show ∀ q, q < k + 1 → q ≠ i → q ≠ j → 0 < sideK ps (fromP ps q).1 (fromP ps q).2 i from fun q hq h1 h2 => HALT.out q (by omega) h1 h2)
                      clear hkj hki
                      go_wp2_with fail
                      refine wp_region_stable [⟨[], none⟩, ⟨[], none⟩, ⟨[(0, 54), (1, 55)], none⟩, ⟨[(2, 56)], none⟩, ⟨[(3, 57)], some (57, true)⟩, ⟨[(3, 57)], some (57, true)⟩, ⟨[(4, 58), (5, 59), (3, 57)], some (57, true)⟩, ⟨[(3, 57), (6, 60)], none⟩, ⟨[(7, 61)], none⟩, ⟨[(8, 62)], some (62, true)⟩, ⟨[(8, 62)], some (62, true)⟩, ⟨[(9, 63), (10, 64), (8, 62)], some (62, true)⟩, ⟨[(11, 65), (8, 62)], some (62, true)⟩, ⟨[(8, 62)], some (62, true)⟩, ⟨[(8, 62)], some (62, true)⟩, ⟨[(13, 67), (14, 68), (8, 62)], some (62, true)⟩, ⟨[(15, 69), (8, 62)], some (62, true)⟩, ⟨[(8, 62)], some (62, true)⟩, ⟨[(8, 62)], some (62, true)⟩, ⟨[(17, 71), (18, 72), (8, 62)], some (62, true)⟩, ⟨[(19, 73), (8, 62)], some (62, true)⟩, ⟨[(12, 66), (16, 70), (20, 74), (8, 62)], some (62, true)⟩, ⟨[(21, 75), (8, 62)], some (62, true)⟩, ⟨[(8, 62), (22, 76)], none⟩] (fun x y => Below x.heap.size x y) (MPat [MP.eq (.int .i64 (k : Int)), MP.eq (.int .i64 (i : Int)), MP.eq (.bool true), MP.eq (.bool true), MP.eq (.int .i64 (k : Int)), MP.eq (.int .i64 (j : Int)), MP.eq (.bool false), MP.eq (.bool false), MP.eq (.bool false), MP.eq (undef), MP.eq (undef), MP.eq (undef), MP.eq (undef), MP.eq (undef), MP.eq (undef), MP.eq (undef), MP.eq (undef), MP.eq (undef), MP.eq (undef), MP.eq (undef), MP.eq (undef), MP.eq (undef), MP.eq (undef), MP.eq (.bool false)]) (by kernel_rfl) (fun _ _ _ h k => Ext.trans h k) (fun _ => Below.refl _ _) (fun x => (Below.refl x.heap.size x).drew) (MPat.mono _) (by kernel_rfl) ?obs ?rest
                      case obs =>
                        refine ⟨?_, ?_, ?_, ?_, ?_, ?_, ?_, ?_, ?_, ?_, ?_, ?_, ?_, ?_, ?_, ?_, ?_, ?_, ?_, ?_, ?_, ?_, ?_, ?_, trivial⟩
                        · intro ev W hf _ _ hst hd
                          have e7 : ev (.tmp 7) = .int .i64 (k : Int) := hf 7 (by kernel_rfl)
                          exact st_value (v := .int .i64 (k : Int)) (by simp [execOp, go_sem, e7]) (Below.refl _ _) rfl
                        · intro ev W hf _ _ hst hd
                          have e5 : ev (.tmp 5) = .int .i64 (i : Int) := hf 5 (by kernel_rfl)
                          exact st_value (v := .int .i64 (i : Int)) (by simp [execOp, go_sem, e5]) (Below.refl _ _) rfl
                        · rintro ev W hf _ _ hst ⟨d54, d55, _⟩
                          have e54 : ev (.tmp 54) = .int .i64 (k : Int) := d54
                          have e55 : ev (.tmp 55) = .int .i64 (i : Int) := d55
                          exact st_value (v := .bool true) (by simp [execOp, go_sem, e54, e55, hkib]) (Below.refl _ _) rfl
                        · rintro ev W hf _ _ hst ⟨d56, _⟩
                          have e56 : ev (.tmp 56) = .bool true := d56
                          exact st_value (v := .bool true) (by simp [execOp, go_sem, e56]) (Below.refl _ _) rfl
                        · rintro ev W hf _ _ hst ⟨d57, _⟩
                          have e7 : ev (.tmp 7) = .int .i64 (k : Int) := hf 7 (by kernel_rfl)
                          have e57 : ev (.tmp 57) = .bool true := d57
                          refine ⟨fun _ => ?_, fun hne => absurd e57 hne⟩
                          exact st_value (v := .int .i64 (k : Int)) (by simp [execOp, go_sem, e7]) (Below.refl _ _) rfl
                        · rintro ev W hf _ _ hst ⟨d57, _⟩
                          have e6 : ev (.tmp 6) = .int .i64 (j : Int) := hf 6 (by kernel_rfl)
                          have e57 : ev (.tmp 57) = .bool true := d57
                          refine ⟨fun _ => ?_, fun hne => absurd e57 hne⟩
                          exact st_value (v := .int .i64 (j : Int)) (by simp [execOp, go_sem, e6]) (Below.refl _ _) rfl
                        · rintro ev W hf _ _ hst ⟨d58, d59, d57, _⟩
                          have e58 : ev (.tmp 58) = .int .i64 (k : Int) := d58
                          have e59 : ev (.tmp 59) = .int .i64 (j : Int) := d59
                          have e57 : ev (.tmp 57) = .bool true := d57
                          refine ⟨fun _ => ?_, fun hne => absurd e57 hne⟩
                          exact st_value (v := .bool false) (by simp [execOp, go_sem, e58, e59, hkjb]) (Below.refl _ _) rfl
                        · rintro ev W hf hcst _ hst ⟨d57, d60, _⟩
                          have e57 : ev (.tmp 57) = .bool true := d57
                          have e60 : ev (.tmp 60) = .bool false := d60
                          exact st_value (v := .bool false) (by simp [execOp, go_sem, e57, e60, hcst]) (Below.refl _ _) rfl
                        · rintro ev W hf _ _ hst ⟨d61, _⟩
                          have e61 : ev (.tmp 61) = .bool false := d61
                          exact st_value (v := .bool false) (by simp [execOp, go_sem, e61]) (Below.refl _ _) rfl
                        · rintro ev W hf _ _ hst ⟨d62, _⟩
                          have e62 : ev (.tmp 62) = .bool false := d62
                          exact ⟨fun hh => by simp [e62] at hh, fun _ => rfl⟩
                        · rintro ev W hf _ _ hst ⟨d62, _⟩
                          have e62 : ev (.tmp 62) = .bool false := d62
                          exact ⟨fun hh => by simp [e62] at hh, fun _ => rfl⟩
                        · rintro ev W hf _ _ hst ⟨d63, d64, d62, _⟩
                          have e62 : ev (.tmp 62) = .bool false := d62
                          exact ⟨fun hh => by simp [e62] at hh, fun _ => rfl⟩
                        · rintro ev W hf _ _ hst ⟨d65, d62, _⟩
                          have e62 : ev (.tmp 62) = .bool false := d62
                          exact ⟨fun hh => by simp [e62] at hh, fun _ => rfl⟩
                        · rintro ev W hf _ _ hst ⟨d62, _⟩
                          have e62 : ev (.tmp 62) = .bool false := d62
                          exact ⟨fun hh => by simp [e62] at hh, fun _ => rfl⟩
                        · rintro ev W hf _ _ hst ⟨d62, _⟩
                          have e62 : ev (.tmp 62) = .bool false := d62
                          exact ⟨fun hh => by simp [e62] at hh, fun _ => rfl⟩
                        · rintro ev W hf _ _ hst ⟨d67, d68, d62, _⟩
                          have e62 : ev (.tmp 62) = .bool false := d62
                          exact ⟨fun hh => by simp [e62] at hh, fun _ => rfl⟩
                        · rintro ev W hf _ _ hst ⟨d69, d62, _⟩
                          have e62 : ev (.tmp 62) = .bool false := d62
                          exact ⟨fun hh => by simp [e62] at hh, fun _ => rfl⟩
                        · rintro ev W hf _ _ hst ⟨d62, _⟩
                          have e62 : ev (.tmp 62) = .bool false := d62
                          exact ⟨fun hh => by simp [e62] at hh, fun _ => rfl⟩
                        · rintro ev W hf _ _ hst ⟨d62, _⟩
                          have e62 : ev (.tmp 62) = .bool false := d62
                          exact ⟨fun hh => by simp [e62] at hh, fun _ => rfl⟩
                        · rintro ev W hf _ _ hst ⟨d71, d72, d62, _⟩
                          have e62 : ev (.tmp 62) = .bool false := d62
                          exact ⟨fun hh => by simp [e62] at hh, fun _ => rfl⟩
                        · rintro ev W hf _ _ hst ⟨d73, d62, _⟩
                          have e62 : ev (.tmp 62) = .bool false := d62
                          exact ⟨fun hh => by simp [e62] at hh, fun _ => rfl⟩
                        · rintro ev W hf _ _ hst ⟨d66, d70, d74, d62, _⟩
                          have e62 : ev (.tmp 62) = .bool false := d62
                          exact ⟨fun hh => by simp [e62] at hh, fun _ => rfl⟩
                        · rintro ev W hf _ _ hst ⟨d75, d62, _⟩
                          have e62 : ev (.tmp 62) = .bool false := d62
                          exact ⟨fun hh => by simp [e62] at hh, fun _ => rfl⟩
                        · rintro ev W hf hcst _ hst ⟨d62, d76, _⟩
                          have e62 : ev (.tmp 62) = .bool false := d62
                          have e76 : ev (.tmp 76) = undef := d76
                          exact st_value (v := .bool false) (by simp [execOp, go_sem, e62, e76, hcst]) (Below.refl _ _) rfl
                      case rest =>
                        intro vs w3 hl hst hg
                        have HE3 := Lib.hid hst
                        have hvs : vs = [.int .i64 (k : Int), .int .i64 (i : Int), .bool true, .bool true, .int .i64 (k : Int), .int .i64 (j : Int), .bool false, .bool false, .bool false, undef, undef, undef, undef, undef, undef, undef, undef, undef, undef, undef, undef, undef, undef, .bool false] := vs_all hl hg
                        clear hg hst hl
                        subst hvs
                        simp only [putAll, Act.put, List.dropLast, List.setIfInBounds_toArray, List.set_cons_zero, List.set_cons_succ]
                        go_wp2_with fail
                        exact ⟨⟨k + 1, by simp, by omega, HT.out, Ext.trans HEt.out HE3.out⟩, by simp [intOf]; omega⟩
                    · have hkjb : ((k : Int) != (j : Int)) = true := by rw [bne_iff_ne]; omega
                      obtain ⟨e3, e4⟩ := HC.out j hjn
                      obtain ⟨e5, e6⟩ := HC.out k hkl
                      have E1 := Lib.hid (Ext.cell HEt.out D1.out)
                      have E2 := Lib.hid (Ext.cell HEt.out D2.out)
                      have hjb := HNEAR.out j hjn
                      have hkb := HNEAR.out k hkl
                      have HS := Lib.hid (show twiZ x y (fromP ps j).1 (fromP ps j).2 (fromP ps k).1 (fromP ps k).2 = sideK ps (fromP ps k).1 (fromP ps k).2 i from by
                        rw [HX.out, HY.out]
                        have h := twi_side ps (fromP ps k) i
                        rw [to_from, show (i + 1) % ps.length = j by rw [← HN.out, HJ.out]] at h
                        exact h)
                      have HNE := Lib.hid (show k ≠ i ∧ k ≠ j from ⟨hki, hkj⟩)
                      clear hki hkj
                      obtain ⟨sz, hsz⟩ : ∃ sz, sz = sideK ps (fromP ps k).1 (fromP ps k).2 i := ⟨_, rfl⟩
                      rw [← hsz] at HS
                      have HSZ := Lib.hid hsz
                      clear hsz
                      obtain ⟨jx, hjx⟩ : ∃ jx, jx = (fromP ps j).1 := ⟨_, rfl⟩
                      obtain ⟨jy, hjy⟩ : ∃ jy, jy = (fromP ps j).2 := ⟨_, rfl⟩
                      obtain ⟨kx, hkx⟩ : ∃ kx, kx = (fromP ps k).1 := ⟨_, rfl⟩
                      obtain ⟨ky, hky⟩ : ∃ ky, ky = (fromP ps k).2 := ⟨_, rfl⟩
                      rw [← hjx] at e3 hjb HS
                      rw [← hjy] at e4 hjb HS
                      rw [← hkx] at e5 hkb HS
                      rw [← hky] at e6 hkb HS
                      have E3 := Lib.hid (Ext.cell HEt.out e3)
                      have E4 := Lib.hid (Ext.cell HEt.out e4)
                      have E5 := Lib.hid (Ext.cell HEt.out e5)
                      have E6 := Lib.hid (Ext.cell HEt.out e6)
                      clear hjx hjy hkx hky e3 e4 e5 e6
                      have HTW := Lib.hid (fun W => twice_c x y jx jy kx ky W (by omega) (by omega) (by omega) (by omega) (by omega) (by omega))
                      rw [HS.out] at HTW
                      clear HS
                      by_cases hs : sz ≤ 0
                      · have HF := Lib.hid (show validB ps = false from valid_not (i := i) (by have := HN.out; omega) (by have := HN.out; omega) HNF.out (by have := HN.out; omega) (fun h => by
                          have h2 := h.2 k (by have := HN.out; omega) HNE.out.1 (by rw [← HN.out, ← HJ.out]; exact HNE.out.2)
                          rw [← HSZ.out] at h2; omega))
                        have hsz0 : decide (sz ≤ 0) = true := decide_eq_true hs
                        clear hs
                        go_wp2_with fail
                        refine wp_region_stable [⟨[], none⟩, ⟨[], none⟩, ⟨[(0, 54), (1, 55)], none⟩, ⟨[(2, 56)], none⟩, ⟨[(3, 57)], some (57, true)⟩, ⟨[(3, 57)], some (57, true)⟩, ⟨[(4, 58), (5, 59), (3, 57)], some (57, true)⟩, ⟨[(3, 57), (6, 60)], none⟩, ⟨[(7, 61)], none⟩, ⟨[(8, 62)], some (62, true)⟩, ⟨[(8, 62)], some (62, true)⟩, ⟨[(9, 63), (10, 64), (8, 62)], some (62, true)⟩, ⟨[(11, 65), (8, 62)], some (62, true)⟩, ⟨[(8, 62)], some (62, true)⟩, ⟨[(8, 62)], some (62, true)⟩, ⟨[(13, 67), (14, 68), (8, 62)], some (62, true)⟩, ⟨[(15, 69), (8, 62)], some (62, true)⟩, ⟨[(8, 62)], some (62, true)⟩, ⟨[(8, 62)], some (62, true)⟩, ⟨[(17, 71), (18, 72), (8, 62)], some (62, true)⟩, ⟨[(19, 73), (8, 62)], some (62, true)⟩, ⟨[(12, 66), (16, 70), (20, 74), (8, 62)], some (62, true)⟩, ⟨[(21, 75), (8, 62)], some (62, true)⟩, ⟨[(8, 62), (22, 76)], none⟩] (fun x y => Below x.heap.size x y) (MPat [MP.eq (.int .i64 (k : Int)), MP.eq (.int .i64 (i : Int)), MP.eq (.bool true), MP.eq (.bool true), MP.eq (.int .i64 (k : Int)), MP.eq (.int .i64 (j : Int)), MP.eq (.bool true), MP.eq (.bool true), MP.eq (.bool true), MP.eq (.slice (some ⟨b, o, none⟩) n cap), MP.eq (.int .i64 (i : Int)), MP.eq (.pointer (some ⟨b, o + i * 2, none⟩)), MP.eq (vecV x y), MP.eq (.slice (some ⟨b, o, none⟩) n cap), MP.eq (.int .i64 (j : Int)), MP.eq (.pointer (some ⟨b, o + j * 2, none⟩)), MP.eq (vecV jx jy), MP.eq (.slice (some ⟨b, o, none⟩) n cap), MP.eq (.int .i64 (k : Int)), MP.eq (.pointer (some ⟨b, o + k * 2, none⟩)), MP.eq (vecV kx ky), MP.eq (.int .i64 sz), MP.eq (.bool true), MP.eq (.bool true)]) (by kernel_rfl) (fun _ _ _ h k => Ext.trans h k) (fun _ => Below.refl _ _) (fun x => (Below.refl x.heap.size x).drew) (MPat.mono _) (by kernel_rfl) ?obs ?rest
                        case obs =>
                          refine ⟨?_, ?_, ?_, ?_, ?_, ?_, ?_, ?_, ?_, ?_, ?_, ?_, ?_, ?_, ?_, ?_, ?_, ?_, ?_, ?_, ?_, ?_, ?_, ?_, trivial⟩
                          · intro ev W hf _ _ hst hd
                            have e7 : ev (.tmp 7) = .int .i64 (k : Int) := hf 7 (by kernel_rfl)
                            exact st_value (v := .int .i64 (k : Int)) (by simp [execOp, go_sem, e7]) (Below.refl _ _) rfl
                          · intro ev W hf _ _ hst hd
                            have e5 : ev (.tmp 5) = .int .i64 (i : Int) := hf 5 (by kernel_rfl)
                            exact st_value (v := .int .i64 (i : Int)) (by simp [execOp, go_sem, e5]) (Below.refl _ _) rfl
                          · rintro ev W hf _ _ hst ⟨d54, d55, _⟩
                            have e54 : ev (.tmp 54) = .int .i64 (k : Int) := d54
                            have e55 : ev (.tmp 55) = .int .i64 (i : Int) := d55
                            exact st_value (v := .bool true) (by simp [execOp, go_sem, e54, e55, hkib]) (Below.refl _ _) rfl
                          · rintro ev W hf _ _ hst ⟨d56, _⟩
                            have e56 : ev (.tmp 56) = .bool true := d56
                            exact st_value (v := .bool true) (by simp [execOp, go_sem, e56]) (Below.refl _ _) rfl
                          · rintro ev W hf _ _ hst ⟨d57, _⟩
                            have e7 : ev (.tmp 7) = .int .i64 (k : Int) := hf 7 (by kernel_rfl)
                            have e57 : ev (.tmp 57) = .bool true := d57
                            refine ⟨fun _ => ?_, fun hne => absurd e57 hne⟩
                            exact st_value (v := .int .i64 (k : Int)) (by simp [execOp, go_sem, e7]) (Below.refl _ _) rfl
                          · rintro ev W hf _ _ hst ⟨d57, _⟩
                            have e6 : ev (.tmp 6) = .int .i64 (j : Int) := hf 6 (by kernel_rfl)
                            have e57 : ev (.tmp 57) = .bool true := d57
                            refine ⟨fun _ => ?_, fun hne => absurd e57 hne⟩
                            exact st_value (v := .int .i64 (j : Int)) (by simp [execOp, go_sem, e6]) (Below.refl _ _) rfl
                          · rintro ev W hf _ _ hst ⟨d58, d59, d57, _⟩
                            have e58 : ev (.tmp 58) = .int .i64 (k : Int) := d58
                            have e59 : ev (.tmp 59) = .int .i64 (j : Int) := d59
                            have e57 : ev (.tmp 57) = .bool true := d57
                            refine ⟨fun _ => ?_, fun hne => absurd e57 hne⟩
                            exact st_value (v := .bool true) (by simp [execOp, go_sem, e58, e59, hkjb]) (Below.refl _ _) rfl
                          · rintro ev W hf hcst _ hst ⟨d57, d60, _⟩
                            have e57 : ev (.tmp 57) = .bool true := d57
                            have e60 : ev (.tmp 60) = .bool true := d60
                            exact st_value (v := .bool true) (by simp [execOp, go_sem, e57, e60, hcst]) (Below.refl _ _) rfl
                          · rintro ev W hf _ _ hst ⟨d61, _⟩
                            have e61 : ev (.tmp 61) = .bool true := d61
                            exact st_value (v := .bool true) (by simp [execOp, go_sem, e61]) (Below.refl _ _) rfl
                          · rintro ev W hf _ _ hst ⟨d62, _⟩
                            have e0 : ev (.tmp 0) = .slice (some ⟨b, o, none⟩) n cap := hf 0 (by kernel_rfl)
                            have e62 : ev (.tmp 62) = .bool true := d62
                            refine ⟨fun _ => ?_, fun hne => absurd e62 hne⟩
                            exact st_value (v := .slice (some ⟨b, o, none⟩) n cap) (by simp [execOp, go_sem, e0]) (Below.refl _ _) rfl
                          · rintro ev W hf _ _ hst ⟨d62, _⟩
                            have e5 : ev (.tmp 5) = .int .i64 (i : Int) := hf 5 (by kernel_rfl)
                            have e62 : ev (.tmp 62) = .bool true := d62
                            refine ⟨fun _ => ?_, fun hne => absurd e62 hne⟩
                            exact st_value (v := .int .i64 (i : Int)) (by simp [execOp, go_sem, e5]) (Below.refl _ _) rfl
                          · rintro ev W hf _ _ hst ⟨d63, d64, d62, _⟩
                            have e63 : ev (.tmp 63) = .slice (some ⟨b, o, none⟩) n cap := d63
                            have e64 : ev (.tmp 64) = .int .i64 (i : Int) := d64
                            have e62 : ev (.tmp 62) = .bool true := d62
                            refine ⟨fun _ => ?_, fun hne => absurd e62 hne⟩
                            exact st_value (v := .pointer (some ⟨b, o + i * 2, none⟩)) (by simp [execOp, go_sem, e63, e64, hil]) (Below.refl _ _) rfl
                          · rintro ev W hf _ _ hst ⟨d65, d62, _⟩
                            have e65 : ev (.tmp 65) = .pointer (some ⟨b, o + i * 2, none⟩) := d65
                            have e62 : ev (.tmp 62) = .bool true := d62
                            refine ⟨fun _ => ?_, fun hne => absurd e62 hne⟩
                            have q0 := Ext.cell hst E1.out
                            have q1 := Ext.cell hst E2.out
                            exact st_value (v := vecV x y) (by simp [execOp, go_sem, e65, q0, q1, vecV]) (Below.refl _ _) rfl
                          · rintro ev W hf _ _ hst ⟨d62, _⟩
                            have e0 : ev (.tmp 0) = .slice (some ⟨b, o, none⟩) n cap := hf 0 (by kernel_rfl)
                            have e62 : ev (.tmp 62) = .bool true := d62
                            refine ⟨fun _ => ?_, fun hne => absurd e62 hne⟩
                            exact st_value (v := .slice (some ⟨b, o, none⟩) n cap) (by simp [execOp, go_sem, e0]) (Below.refl _ _) rfl
                          · rintro ev W hf _ _ hst ⟨d62, _⟩
                            have e6 : ev (.tmp 6) = .int .i64 (j : Int) := hf 6 (by kernel_rfl)
                            have e62 : ev (.tmp 62) = .bool true := d62
                            refine ⟨fun _ => ?_, fun hne => absurd e62 hne⟩
                            exact st_value (v := .int .i64 (j : Int)) (by simp [execOp, go_sem, e6]) (Below.refl _ _) rfl
                          · rintro ev W hf _ _ hst ⟨d67, d68, d62, _⟩
                            have e67 : ev (.tmp 67) = .slice (some ⟨b, o, none⟩) n cap := d67
                            have e68 : ev (.tmp 68) = .int .i64 (j : Int) := d68
                            have e62 : ev (.tmp 62) = .bool true := d62
                            refine ⟨fun _ => ?_, fun hne => absurd e62 hne⟩
                            exact st_value (v := .pointer (some ⟨b, o + j * 2, none⟩)) (by simp [execOp, go_sem, e67, e68, hjn]) (Below.refl _ _) rfl
                          · rintro ev W hf _ _ hst ⟨d69, d62, _⟩
                            have e69 : ev (.tmp 69) = .pointer (some ⟨b, o + j * 2, none⟩) := d69
                            have e62 : ev (.tmp 62) = .bool true := d62
                            refine ⟨fun _ => ?_, fun hne => absurd e62 hne⟩
                            have q0 := Ext.cell hst E3.out
                            have q1 := Ext.cell hst E4.out
                            exact st_value (v := vecV jx jy) (by simp [execOp, go_sem, e69, q0, q1, vecV]) (Below.refl _ _) rfl
                          · rintro ev W hf _ _ hst ⟨d62, _⟩
                            have e0 : ev (.tmp 0) = .slice (some ⟨b, o, none⟩) n cap := hf 0 (by kernel_rfl)
                            have e62 : ev (.tmp 62) = .bool true := d62
                            refine ⟨fun _ => ?_, fun hne => absurd e62 hne⟩
                            exact st_value (v := .slice (some ⟨b, o, none⟩) n cap) (by simp [execOp, go_sem, e0]) (Below.refl _ _) rfl
                          · rintro ev W hf _ _ hst ⟨d62, _⟩
                            have e7 : ev (.tmp 7) = .int .i64 (k : Int) := hf 7 (by kernel_rfl)
                            have e62 : ev (.tmp 62) = .bool true := d62
                            refine ⟨fun _ => ?_, fun hne => absurd e62 hne⟩
                            exact st_value (v := .int .i64 (k : Int)) (by simp [execOp, go_sem, e7]) (Below.refl _ _) rfl
                          · rintro ev W hf _ _ hst ⟨d71, d72, d62, _⟩
                            have e71 : ev (.tmp 71) = .slice (some ⟨b, o, none⟩) n cap := d71
                            have e72 : ev (.tmp 72) = .int .i64 (k : Int) := d72
                            have e62 : ev (.tmp 62) = .bool true := d62
                            refine ⟨fun _ => ?_, fun hne => absurd e62 hne⟩
                            exact st_value (v := .pointer (some ⟨b, o + k * 2, none⟩)) (by simp [execOp, go_sem, e71, e72, hkl]) (Below.refl _ _) rfl
                          · rintro ev W hf _ _ hst ⟨d73, d62, _⟩
                            have e73 : ev (.tmp 73) = .pointer (some ⟨b, o + k * 2, none⟩) := d73
                            have e62 : ev (.tmp 62) = .bool true := d62
                            refine ⟨fun _ => ?_, fun hne => absurd e62 hne⟩
                            have q0 := Ext.cell hst E5.out
                            have q1 := Ext.cell hst E6.out
                            exact st_value (v := vecV kx ky) (by simp [execOp, go_sem, e73, q0, q1, vecV]) (Below.refl _ _) rfl
                          · rintro ev W hf _ hfn hst ⟨d66, d70, d74, d62, _⟩
                            have e66 : ev (.tmp 66) = vecV x y := d66
                            have e70 : ev (.tmp 70) = vecV jx jy := d70
                            have e74 : ev (.tmp 74) = vecV kx ky := d74
                            have e62 : ev (.tmp 62) = .bool true := d62
                            refine ⟨fun _ => ?_, fun hne => absurd e62 hne⟩
                            refine st_call (f := 118) (args := #[vecV x y, vecV jx jy, vecV kx ky]) (by simp [execOp, go_sem, hfn, e66, e70, e74]) (HTW.out W) (fun _ _ => rfl)
                          · rintro ev W hf hcst _ hst ⟨d75, d62, _⟩
                            have e75 : ev (.tmp 75) = .int .i64 sz := d75
                            have e62 : ev (.tmp 62) = .bool true := d62
                            refine ⟨fun _ => ?_, fun hne => absurd e62 hne⟩
                            exact st_value (v := .bool true) (by simp [execOp, go_sem, e75, hcst, hsz0]) (Below.refl _ _) rfl
                          · rintro ev W hf hcst _ hst ⟨d62, d76, _⟩
                            have e62 : ev (.tmp 62) = .bool true := d62
                            have e76 : ev (.tmp 76) = .bool true := d76
                            exact st_value (v := .bool true) (by simp [execOp, go_sem, e62, e76, hcst]) (Below.refl _ _) rfl
                        case rest =>
                          intro vs w3 hl hst hg
                          have HE3 := Lib.hid hst
                          have hvs : vs = [.int .i64 (k : Int), .int .i64 (i : Int), .bool true, .bool true, .int .i64 (k : Int), .int .i64 (j : Int), .bool true, .bool true, .bool true, .slice (some ⟨b, o, none⟩) n cap, .int .i64 (i : Int), .pointer (some ⟨b, o + i * 2, none⟩), vecV x y, .slice (some ⟨b, o, none⟩) n cap, .int .i64 (j : Int), .pointer (some ⟨b, o + j * 2, none⟩), vecV jx jy, .slice (some ⟨b, o, none⟩) n cap, .int .i64 (k : Int), .pointer (some ⟨b, o + k * 2, none⟩), vecV kx ky, .int .i64 sz, .bool true, .bool true] := vs_all hl hg
                          clear hg hst hl
                          subst hvs
                          simp only [putAll, Act.put, List.dropLast, List.setIfInBounds_toArray, List.set_cons_zero, List.set_cons_succ]
                          go_wp2_with fail
                          go_ret
                          exact ⟨ret_bool HF.out.symm, Ext.trans HEt.out HE3.out⟩
                      · have HT := Lib.hid (show ∀ q, q < k + 1 → q ≠ i → q ≠ j → 0 < sideK ps (fromP ps q).1 (fromP ps q).2 i from fun q hq h1 h2 => by
                          by_cases e : q = k
                          · rw [e, ← HSZ.out]; omega
                          · exact HALT.out q (by omega) h1 h2)
                        have hsz0 : decide (sz ≤ 0) = false := decide_eq_false hs
                        clear hs
                        go_wp2_with fail
                        refine wp_region_stable [⟨[], none⟩, ⟨[], none⟩, ⟨[(0, 54), (1, 55)], none⟩, ⟨[(2, 56)], none⟩, ⟨[(3, 57)], some (57, true)⟩, ⟨[(3, 57)], some (57, true)⟩, ⟨[(4, 58), (5, 59), (3, 57)], some (57, true)⟩, ⟨[(3, 57), (6, 60)], none⟩, ⟨[(7, 61)], none⟩, ⟨[(8, 62)], some (62, true)⟩, ⟨[(8, 62)], some (62, true)⟩, ⟨[(9, 63), (10, 64), (8, 62)], some (62, true)⟩, ⟨[(11, 65), (8, 62)], some (62, true)⟩, ⟨[(8, 62)], some (62, true)⟩, ⟨[(8, 62)], some (62, true)⟩, ⟨[(13, 67), (14, 68), (8, 62)], some (62, true)⟩, ⟨[(15, 69), (8, 62)], some (62, true)⟩, ⟨[(8, 62)], some (62, true)⟩, ⟨[(8, 62)], some (62, true)⟩, ⟨[(17, 71), (18, 72), (8, 62)], some (62, true)⟩, ⟨[(19, 73), (8, 62)], some (62, true)⟩, ⟨[(12, 66), (16, 70), (20, 74), (8, 62)], some (62, true)⟩, ⟨[(21, 75), (8, 62)], some (62, true)⟩, ⟨[(8, 62), (22, 76)], none⟩] (fun x y => Below x.heap.size x y) (MPat [MP.eq (.int .i64 (k : Int)), MP.eq (.int .i64 (i : Int)), MP.eq (.bool true), MP.eq (.bool true), MP.eq (.int .i64 (k : Int)), MP.eq (.int .i64 (j : Int)), MP.eq (.bool true), MP.eq (.bool true), MP.eq (.bool true), MP.eq (.slice (some ⟨b, o, none⟩) n cap), MP.eq (.int .i64 (i : Int)), MP.eq (.pointer (some ⟨b, o + i * 2, none⟩)), MP.eq (vecV x y), MP.eq (.slice (some ⟨b, o, none⟩) n cap), MP.eq (.int .i64 (j : Int)), MP.eq (.pointer (some ⟨b, o + j * 2, none⟩)), MP.eq (vecV jx jy), MP.eq (.slice (some ⟨b, o, none⟩) n cap), MP.eq (.int .i64 (k : Int)), MP.eq (.pointer (some ⟨b, o + k * 2, none⟩)), MP.eq (vecV kx ky), MP.eq (.int .i64 sz), MP.eq (.bool false), MP.eq (.bool false)]) (by kernel_rfl) (fun _ _ _ h k => Ext.trans h k) (fun _ => Below.refl _ _) (fun x => (Below.refl x.heap.size x).drew) (MPat.mono _) (by kernel_rfl) ?obs ?rest
                        case obs =>
                          refine ⟨?_, ?_, ?_, ?_, ?_, ?_, ?_, ?_, ?_, ?_, ?_, ?_, ?_, ?_, ?_, ?_, ?_, ?_, ?_, ?_, ?_, ?_, ?_, ?_, trivial⟩
                          · intro ev W hf _ _ hst hd
                            have e7 : ev (.tmp 7) = .int .i64 (k : Int) := hf 7 (by kernel_rfl)
                            exact st_value (v := .int .i64 (k : Int)) (by simp [execOp, go_sem, e7]) (Below.refl _ _) rfl
                          · intro ev W hf _ _ hst hd
                            have e5 : ev (.tmp 5) = .int .i64 (i : Int) := hf 5 (by kernel_rfl)
                            exact st_value (v := .int .i64 (i : Int)) (by simp [execOp, go_sem, e5]) (Below.refl _ _) rfl
                          · rintro ev W hf _ _ hst ⟨d54, d55, _⟩
                            have e54 : ev (.tmp 54) = .int .i64 (k : Int) := d54
                            have e55 : ev (.tmp 55) = .int .i64 (i : Int) := d55
                            exact st_value (v := .bool true) (by simp [execOp, go_sem, e54, e55, hkib]) (Below.refl _ _) rfl
                          · rintro ev W hf _ _ hst ⟨d56, _⟩
                            have e56 : ev (.tmp 56) = .bool true := d56
                            exact st_value (v := .bool true) (by simp [execOp, go_sem, e56]) (Below.refl _ _) rfl
                          · rintro ev W hf _ _ hst ⟨d57, _⟩
                            have e7 : ev (.tmp 7) = .int .i64 (k : Int) := hf 7 (by kernel_rfl)
                            have e57 : ev (.tmp 57) = .bool true := d57
                            refine ⟨fun _ => ?_, fun hne => absurd e57 hne⟩
                            exact st_value (v := .int .i64 (k : Int)) (by simp [execOp, go_sem, e7]) (Below.refl _ _) rfl
                          · rintro ev W hf _ _ hst ⟨d57, _⟩
                            have e6 : ev (.tmp 6) = .int .i64 (j : Int) := hf 6 (by kernel_rfl)
                            have e57 : ev (.tmp 57) = .bool true := d57
                            refine ⟨fun _ => ?_, fun hne => absurd e57 hne⟩
                            exact st_value (v := .int .i64 (j : Int)) (by simp [execOp, go_sem, e6]) (Below.refl _ _) rfl
                          · rintro ev W hf _ _ hst ⟨d58, d59, d57, _⟩
                            have e58 : ev (.tmp 58) = .int .i64 (k : Int) := d58
                            have e59 : ev (.tmp 59) = .int .i64 (j : Int) := d59
                            have e57 : ev (.tmp 57) = .bool true := d57
                            refine ⟨fun _ => ?_, fun hne => absurd e57 hne⟩
                            exact st_value (v := .bool true) (by simp [execOp, go_sem, e58, e59, hkjb]) (Below.refl _ _) rfl
                          · rintro ev W hf hcst _ hst ⟨d57, d60, _⟩
                            have e57 : ev (.tmp 57) = .bool true := d57
                            have e60 : ev (.tmp 60) = .bool true := d60
                            exact st_value (v := .bool true) (by simp [execOp, go_sem, e57, e60, hcst]) (Below.refl _ _) rfl
                          · rintro ev W hf _ _ hst ⟨d61, _⟩
                            have e61 : ev (.tmp 61) = .bool true := d61
                            exact st_value (v := .bool true) (by simp [execOp, go_sem, e61]) (Below.refl _ _) rfl
                          · rintro ev W hf _ _ hst ⟨d62, _⟩
                            have e0 : ev (.tmp 0) = .slice (some ⟨b, o, none⟩) n cap := hf 0 (by kernel_rfl)
                            have e62 : ev (.tmp 62) = .bool true := d62
                            refine ⟨fun _ => ?_, fun hne => absurd e62 hne⟩
                            exact st_value (v := .slice (some ⟨b, o, none⟩) n cap) (by simp [execOp, go_sem, e0]) (Below.refl _ _) rfl
                          · rintro ev W hf _ _ hst ⟨d62, _⟩
                            have e5 : ev (.tmp 5) = .int .i64 (i : Int) := hf 5 (by kernel_rfl)
                            have e62 : ev (.tmp 62) = .bool true := d62
                            refine ⟨fun _ => ?_, fun hne => absurd e62 hne⟩
                            exact st_value (v := .int .i64 (i : Int)) (by simp [execOp, go_sem, e5]) (Below.refl _ _) rfl
                          · rintro ev W hf _ _ hst ⟨d63, d64, d62, _⟩
                            have e63 : ev (.tmp 63) = .slice (some ⟨b, o, none⟩) n cap := d63
                            have e64 : ev (.tmp 64) = .int .i64 (i : Int) := d64
                            have e62 : ev (.tmp 62) = .bool true := d62
                            refine ⟨fun _ => ?_, fun hne => absurd e62 hne⟩
                            exact st_value (v := .pointer (some ⟨b, o + i * 2, none⟩)) (by simp [execOp, go_sem, e63, e64, hil]) (Below.refl _ _) rfl
                          · rintro ev W hf _ _ hst ⟨d65, d62, _⟩
                            have e65 : ev (.tmp 65) = .pointer (some ⟨b, o + i * 2, none⟩) := d65
                            have e62 : ev (.tmp 62) = .bool true := d62
                            refine ⟨fun _ => ?_, fun hne => absurd e62 hne⟩
                            have q0 := Ext.cell hst E1.out
                            have q1 := Ext.cell hst E2.out
                            exact st_value (v := vecV x y) (by simp [execOp, go_sem, e65, q0, q1, vecV]) (Below.refl _ _) rfl
                          · rintro ev W hf _ _ hst ⟨d62, _⟩
                            have e0 : ev (.tmp 0) = .slice (some ⟨b, o, none⟩) n cap := hf 0 (by kernel_rfl)
                            have e62 : ev (.tmp 62) = .bool true := d62
                            refine ⟨fun _ => ?_, fun hne => absurd e62 hne⟩
                            exact st_value (v := .slice (some ⟨b, o, none⟩) n cap) (by simp [execOp, go_sem, e0]) (Below.refl _ _) rfl
                          · rintro ev W hf _ _ hst ⟨d62, _⟩
                            have e6 : ev (.tmp 6) = .int .i64 (j : Int) := hf 6 (by kernel_rfl)
                            have e62 : ev (.tmp 62) = .bool true := d62
                            refine ⟨fun _ => ?_, fun hne => absurd e62 hne⟩
                            exact st_value (v := .int .i64 (j : Int)) (by simp [execOp, go_sem, e6]) (Below.refl _ _) rfl
                          · rintro ev W hf _ _ hst ⟨d67, d68, d62, _⟩
                            have e67 : ev (.tmp 67) = .slice (some ⟨b, o, none⟩) n cap := d67
                            have e68 : ev (.tmp 68) = .int .i64 (j : Int) := d68
                            have e62 : ev (.tmp 62) = .bool true := d62
                            refine ⟨fun _ => ?_, fun hne => absurd e62 hne⟩
                            exact st_value (v := .pointer (some ⟨b, o + j * 2, none⟩)) (by simp [execOp, go_sem, e67, e68, hjn]) (Below.refl _ _) rfl
                          · rintro ev W hf _ _ hst ⟨d69, d62, _⟩
                            have e69 : ev (.tmp 69) = .pointer (some ⟨b, o + j * 2, none⟩) := d69
                            have e62 : ev (.tmp 62) = .bool true := d62
                            refine ⟨fun _ => ?_, fun hne => absurd e62 hne⟩
                            have q0 := Ext.cell hst E3.out
                            have q1 := Ext.cell hst E4.out
                            exact st_value (v := vecV jx jy) (by simp [execOp, go_sem, e69, q0, q1, vecV]) (Below.refl _ _) rfl
                          · rintro ev W hf _ _ hst ⟨d62, _⟩
                            have e0 : ev (.tmp 0) = .slice (some ⟨b, o, none⟩) n cap := hf 0 (by kernel_rfl)
                            have e62 : ev (.tmp 62) = .bool true := d62
                            refine ⟨fun _ => ?_, fun hne => absurd e62 hne⟩
                            exact st_value (v := .slice (some ⟨b, o, none⟩) n cap) (by simp [execOp, go_sem, e0]) (Below.refl _ _) rfl
                          · rintro ev W hf _ _ hst ⟨d62, _⟩
                            have e7 : ev (.tmp 7) = .int .i64 (k : Int) := hf 7 (by kernel_rfl)
                            have e62 : ev (.tmp 62) = .bool true := d62
                            refine ⟨fun _ => ?_, fun hne => absurd e62 hne⟩
                            exact st_value (v := .int .i64 (k : Int)) (by simp [execOp, go_sem, e7]) (Below.refl _ _) rfl
                          · rintro ev W hf _ _ hst ⟨d71, d72, d62, _⟩
                            have e71 : ev (.tmp 71) = .slice (some ⟨b, o, none⟩) n cap := d71
                            have e72 : ev (.tmp 72) = .int .i64 (k : Int) := d72
                            have e62 : ev (.tmp 62) = .bool true := d62
                            refine ⟨fun _ => ?_, fun hne => absurd e62 hne⟩
                            exact st_value (v := .pointer (some ⟨b, o + k * 2, none⟩)) (by simp [execOp, go_sem, e71, e72, hkl]) (Below.refl _ _) rfl
                          · rintro ev W hf _ _ hst ⟨d73, d62, _⟩
                            have e73 : ev (.tmp 73) = .pointer (some ⟨b, o + k * 2, none⟩) := d73
                            have e62 : ev (.tmp 62) = .bool true := d62
                            refine ⟨fun _ => ?_, fun hne => absurd e62 hne⟩
                            have q0 := Ext.cell hst E5.out
                            have q1 := Ext.cell hst E6.out
                            exact st_value (v := vecV kx ky) (by simp [execOp, go_sem, e73, q0, q1, vecV]) (Below.refl _ _) rfl
                          · rintro ev W hf _ hfn hst ⟨d66, d70, d74, d62, _⟩
                            have e66 : ev (.tmp 66) = vecV x y := d66
                            have e70 : ev (.tmp 70) = vecV jx jy := d70
                            have e74 : ev (.tmp 74) = vecV kx ky := d74
                            have e62 : ev (.tmp 62) = .bool true := d62
                            refine ⟨fun _ => ?_, fun hne => absurd e62 hne⟩
                            refine st_call (f := 118) (args := #[vecV x y, vecV jx jy, vecV kx ky]) (by simp [execOp, go_sem, hfn, e66, e70, e74]) (HTW.out W) (fun _ _ => rfl)
                          · rintro ev W hf hcst _ hst ⟨d75, d62, _⟩
                            have e75 : ev (.tmp 75) = .int .i64 sz := d75
                            have e62 : ev (.tmp 62) = .bool true := d62
                            refine ⟨fun _ => ?_, fun hne => absurd e62 hne⟩
                            exact st_value (v := .bool false) (by simp [execOp, go_sem, e75, hcst, hsz0]) (Below.refl _ _) rfl
                          · rintro ev W hf hcst _ hst ⟨d62, d76, _⟩
                            have e62 : ev (.tmp 62) = .bool true := d62
                            have e76 : ev (.tmp 76) = .bool false := d76
                            exact st_value (v := .bool false) (by simp [execOp, go_sem, e62, e76, hcst]) (Below.refl _ _) rfl
                        case rest =>
                          intro vs w3 hl hst hg
                          have HE3 := Lib.hid hst
                          have hvs : vs = [.int .i64 (k : Int), .int .i64 (i : Int), .bool true, .bool true, .int .i64 (k : Int), .int .i64 (j : Int), .bool true, .bool true, .bool true, .slice (some ⟨b, o, none⟩) n cap, .int .i64 (i : Int), .pointer (some ⟨b, o + i * 2, none⟩), vecV x y, .slice (some ⟨b, o, none⟩) n cap, .int .i64 (j : Int), .pointer (some ⟨b, o + j * 2, none⟩), vecV jx jy, .slice (some ⟨b, o, none⟩) n cap, .int .i64 (k : Int), .pointer (some ⟨b, o + k * 2, none⟩), vecV kx ky, .int .i64 sz, .bool false, .bool false] := vs_all hl hg
                          clear hg hst hl
                          subst hvs
                          simp only [putAll, Act.put, List.dropLast, List.setIfInBounds_toArray, List.set_cons_zero, List.set_cons_succ]
                          go_wp2_with fail
                          exact ⟨⟨k + 1, by simp, by omega, HT.out, Ext.trans HEt.out HE3.out⟩, by simp [intOf]; omega⟩
                · have hklz : ¬ (k : Int) < (n : Int) := by omega
                  have HT := Lib.hid (show ∀ q, q < i + 1 → edgeOk ps q from fun q hq => by
                    by_cases e : q = i
                    · subst e
                      refine ⟨HL.out, fun k2 h1 h2 h3 => HALT.out k2 (by have := HN.out; omega) h2 (by rw [HJ.out, HN.out]; exact h3)⟩
                    · exact HALQ.out q (by omega))
                  go_wp2_with fail
                  exact ⟨⟨i + 1, by simp, by omega, HT.out, HEt.out⟩, by simp [intOf]; omega⟩
        · have hilz : ¬ (i : Int) < (n : Int) := by omega
          have HT := Lib.hid (show validB ps = true from (valid_edges (by have := HN.out; omega) (by have := HN.out; omega) HNF.out).2 fun j hj => HALQ.out j (by have := HN.out; omega))
          go_wp2_with fail
          go_ret
          exact ⟨ret_bool HT.out.symm, HEq.out⟩
end Go.Proofs.Ytnpebfchojalcaa

namespace Go.Proofs.Ytnpebfchojalcaa
set_option maxRecDepth 100000
open Go.RowKit Go.Shelf
attribute [local go_sem] Oper.semAt_some
/-! The reference's result and Hull. -/
/-- what result gives -/
def resV (v : Value) (ps : List Pt) : Ending := if ps.any farP = true then two (.slice none 0 0) (.int .i64 4) else if 32 < ps.length then two (.slice none 0 0) (.int .i64 8) else two v (.int .i64 0)
theorem any_far {ps : List Pt} {k : Nat} (hk : k < ps.length) (h : farB (fromP ps k).1 (fromP ps k).2 = true) : ps.any farP = true := by
  obtain ⟨q, hq⟩ := getElem?_len hk
  exact any_at hq (by rw [fromP_of hq] at h; exact h)
set_option maxHeartbeats 4000000 in
theorem result_c (v : Value) (ps : List Pt) (w : World) (hv : Vecs w v ps) (h1 : 1 ≤ ps.length) :
    Calls Try.prog 109 #[v] w fun e w' => e = resV v ps ∧ Ext w w' := by
  obtain ⟨b, o, cap, rfl, hl, hm, hc⟩ := vecs_cells hv h1
  have HC := Lib.hid hc
  obtain ⟨n, hn⟩ : ∃ n, n = ps.length := ⟨_, rfl⟩
  rw [← hn] at HC hl ⊢
  have HN := Lib.hid hn
  clear hv hc hn h1
  go_enter Try.func109, Try.ntmps109
  go_wp2_with fail
  go_loopw [4] (fun iv wr => ∃ k : Nat, iv = .int .i64 (k : Int) ∧ k ≤ n ∧ (∀ j, j < k → farB (fromP ps j).1 (fromP ps j).2 = false) ∧ Ext w wr) (fun iv _ => n - (intOf iv).toNat)
  case atStart => exact ⟨0, rfl, Nat.zero_le _, fun j hj => by omega, Ext.refl _⟩
  case round =>
    rename World => wr
    obtain ⟨k, rfl, hk, hall, hE⟩ := hrel
    have HALL := Lib.hid hall
    have HE := Lib.hid hE
    clear hall hE
    by_cases hlt : k < n
    · obtain ⟨c1, c2⟩ := HC.out k hlt
      have c1 := Ext.cell HE.out c1
      have c2 := Ext.cell HE.out c2
      have k1 := cell_lt c1
      obtain ⟨x, hx⟩ : ∃ x, x = (fromP ps k).1 := ⟨_, rfl⟩
      obtain ⟨y, hy⟩ : ∃ y, y = (fromP ps k).2 := ⟨_, rfl⟩
      rw [← hx] at c1
      rw [← hy] at c2
      have HX := Lib.hid hx
      have HY := Lib.hid hy
      clear hx hy
      have hkz : (k : Int) < (n : Int) := by omega
      go_wp2_with fail
      refine (good_c x y _).mono ?_
      rintro e w2 ⟨rfl, hE⟩
      have HE2 := Lib.hid (Ext.trans HE.out hE)
      clear hE c1 c2 k1
      cases hf : farB x y with
      | true =>
        have HF := Lib.hid (show ps.any farP = true from any_far (k := k) (by have := HN.out; omega) (by rw [← HX.out, ← HY.out]; exact hf))
        clear hf
        go_wp2_with fail
        go_ret2
        exact ⟨(show resV _ ps = _ from if_pos HF.out).symm, HE2.out⟩
      | false =>
        have HT := Lib.hid (show ∀ j, j < k + 1 → farB (fromP ps j).1 (fromP ps j).2 = false from fun j hj => by
          by_cases e : j = k
          · rw [e, ← HX.out, ← HY.out]; exact hf
          · exact HALL.out j (by omega))
        clear hf
        go_wp2_with fail
        exact ⟨⟨k + 1, by simp, by omega, HT.out, HE2.out⟩, by simp [intOf]; omega⟩
    · have hkz : ¬ (k : Int) < (n : Int) := by omega
      have HNF := Lib.hid (near_from (ps := ps) fun j hj => HALL.out j (by have := HN.out; omega))
      clear hlt
      have hn := HN.out
      by_cases h32 : 32 < n
      · have h32z : 32 < (n : Int) := by omega
        have HR := Lib.hid (show resV (.slice (some ⟨b, o, none⟩) n cap) ps = two (.slice none 0 0) (.int .i64 8) from by unfold resV; rw [if_neg (by rw [HNF.out]; decide), if_pos (by omega)])
        clear hn
        go_wp2_with fail
        go_ret2
        exact ⟨HR.out.symm, HE.out⟩
      · have h32z : ¬ 32 < (n : Int) := by omega
        have HR := Lib.hid (show resV (.slice (some ⟨b, o, none⟩) n cap) ps = two (.slice (some ⟨b, o, none⟩) n cap) (.int .i64 0) from by unfold resV; rw [if_neg (by rw [HNF.out]; decide), if_neg (by omega)])
        clear hn
        go_wp2_with fail
        go_ret2
        exact ⟨HR.out.symm, HE.out⟩

/-- what the reference's Hull answers -/
def RHullS (ps : List Pt) (er : Int) (hs : List Pt) : Prop :=
  (200 < ps.length ∧ er = 3 ∧ hs = []) ∨ (ps.length ≤ 200 ∧ ps.any farP = true ∧ er = 2 ∧ hs = []) ∨
  (ps.length ≤ 200 ∧ ps.any farP = false ∧ ((ps = [] ∧ er = 10 ∧ hs = []) ∨ ∃ K, 1 ≤ ps.length ∧ WrapEnd ps (lowK ps (ps.length - 1)) K ∧
    ((K < 3 ∧ er = 10 ∧ hs = []) ∨ (3 ≤ K ∧ 32 < K ∧ er = 8 ∧ hs = []) ∨ (3 ≤ K ∧ K ≤ 32 ∧ er = 0 ∧ hs = wrapL ps (lowK ps (ps.length - 1)) K))))
end Go.Proofs.Ytnpebfchojalcaa

namespace Go.Proofs.Ytnpebfchojalcaa
set_option maxRecDepth 100000
open Go.RowKit Go.Shelf
attribute [local go_sem] Oper.semAt_some
theorem nil_vecs (w : World) : Vecs w (.slice none 0 0) [] := ⟨none, 0, rfl, Nat.le_refl _, by decide, .inl rfl⟩
/-- the error of points as a polygon, and what is returned -/
def limE (ts : List Pt) : Int := if ts.any farP = true then 4 else if 32 < ts.length then 8 else 0
def limL (ts : List Pt) : List Pt := if ts.any farP = true then [] else if 32 < ts.length then [] else ts
def moveE (ps : List Pt) (x y : Int) : Int := if validB ps = true ∧ farB x y = false then limE (movedP ps (x, y)) else 2
def moveL (ps : List Pt) (x y : Int) : List Pt := if validB ps = true ∧ farB x y = false then limL (movedP ps (x, y)) else []
/-! The reference's Move, Flip, Sum and Mixed. -/
theorem lim_vecs {v : Value} {ts : List Pt} {w : World} (h : Vecs w v ts) : ∃ r, resV v ts = two r (.int .i64 (limE ts)) ∧ Vecs w r (limL ts) := by
  unfold resV limE limL
  split
  · exact ⟨_, rfl, nil_vecs w⟩
  · split
    · exact ⟨_, rfl, nil_vecs w⟩
    · exact ⟨v, rfl, h⟩
set_option maxHeartbeats 1000000 in
theorem rMove_o (v : Value) (ps : List Pt) (x y : Int) (w : World) (hv : Vecs w v ps) :
    Calls Try.prog 82 #[v, vecV x y] w fun e w' => ∃ r, e = .returned (.tuple #[r, .int .i64 (moveE ps x y)]) ∧ Vecs w' r (moveL ps x y) ∧ Ext w w' := by
  obtain ⟨a, cap, rfl, hl, hm, hra⟩ := hv.at
  have hE0 := Ext.alloc (Ext.refl w) (.cells #[.int .i64 x, .int .i64 y] 31)
  have HV := Lib.hid (hv.ext hE0)
  have HE0 := Lib.hid hE0
  have HB := Lib.hid (show VRow (w.alloc (.cells #[.int .i64 x, .int .i64 y] 31)) _ _ _ from vrow_alloc w [.int .i64 x, .int .i64 y] 31)
  clear hv hE0 hra
  cases hf : validB ps with
  | false =>
    have HR := Lib.hid (show moveE ps x y = 2 ∧ moveL ps x y = [] by simp [moveE, moveL, hf])
    generalize moveE ps x y = em at *
    generalize moveL ps x y = lm at *
    have Hf := Lib.hid hf
    clear hf
    go_enter Try.func82, Try.ntmps82
    go_wp2_with fail
    refine (rvalid_c _ ps _ HV.out).mono ?_
    rintro e w2 ⟨rfl, hE⟩
    rw [Hf.out]
    go_wp2_with fail
    go_ret2
    exact ⟨.slice none 0 0, by rw [HR.out.1]; rfl, by rw [HR.out.2]; exact nil_vecs _, Ext.trans HE0.out hE⟩
  | true =>
    cases hg : farB x y with
    | true =>
      have HR := Lib.hid (show moveE ps x y = 2 ∧ moveL ps x y = [] by simp [moveE, moveL, hg])
      generalize moveE ps x y = em at *
      generalize moveL ps x y = lm at *
      have Hf := Lib.hid hf
      have Hg := Lib.hid hg
      clear hf hg
      go_enter Try.func82, Try.ntmps82
      go_wp2_with fail
      refine (rvalid_c _ ps _ HV.out).mono ?_
      rintro e w2 ⟨rfl, hE⟩
      rw [Hf.out]
      have hb := VRow.ext HB.out hE
      have b0 := VRow.cell hb (k := 0) rfl
      have b1 := VRow.cell hb (k := 1) rfl
      go_wp2_with fail
      refine (show Calls Try.prog 108 #[vecV x y] _ _ from (good_c x y _).mono ?_)
      rintro e w3 ⟨rfl, hE3⟩
      rw [Hg.out]
      clear b0 b1
      go_wp2_with fail
      go_ret2
      exact ⟨.slice none 0 0, by rw [HR.out.1]; rfl, by rw [HR.out.2]; exact nil_vecs _, Ext.trans HE0.out (Ext.trans hE hE3)⟩
    | false =>
      have HR := Lib.hid (show moveE ps x y = limE (movedP ps (x, y)) ∧ moveL ps x y = limL (movedP ps (x, y)) by simp [moveE, moveL, hf, hg])
      generalize moveE ps x y = em at *
      generalize moveL ps x y = lm at *
      have Hf := Lib.hid hf
      have Hg := Lib.hid hg
      clear hf hg
      go_enter Try.func82, Try.ntmps82
      go_wp2_with fail
      refine (rvalid_c _ ps _ HV.out).mono ?_
      rintro e w2 ⟨rfl, hE⟩
      rw [Hf.out]
      have hb := VRow.ext HB.out hE
      have b0 := VRow.cell hb (k := 0) rfl
      have b1 := VRow.cell hb (k := 1) rfl
      go_wp2_with fail
      refine (show Calls Try.prog 108 #[vecV x y] _ _ from (good_c x y _).mono ?_)
      rintro e w3 ⟨rfl, hE3⟩
      rw [Hg.out]
      have HE3 := Lib.hid (Ext.trans hE hE3)
      clear b0 b1 hb hE hE3
      have hb := VRow.ext HB.out HE3.out
      have b0 := VRow.cell hb (k := 0) rfl
      have b1 := VRow.cell hb (k := 1) rfl
      go_wp2_with fail
      refine (show Calls Try.prog 110 #[.slice a ps.length cap, vecV x y] w3 _ from (moved_c _ ps x y w3 (HV.out.ext HE3.out) (near_L (valid_near Hf.out).1) (by have := far_in Hg.out; omega) (by have := far_in Hg.out; omega) (by have := (valid_near Hf.out).2; omega) (by have := (valid_near Hf.out).2; omega)).mono ?_)
      rintro e w4 ⟨r, rfl, hO, hE4⟩
      have hln : (movedP ps (x, y)).length = ps.length := moved_length ps (x, y)
      have hv4 := vecs_own (qs := movedP ps (x, y)) (by rw [hln]; exact hO) (by rw [hln]; have := (valid_near Hf.out).2; omega)
      have h14 : 1 ≤ (movedP ps (x, y)).length := by rw [hln]; have := (valid_near Hf.out).2; omega
      clear b0 b1 hb hO hln
      generalize movedP ps (x, y) = ms at *
      have HV4 := Lib.hid hv4
      have H14 := Lib.hid h14
      have HE4 := Lib.hid (Ext.trans HE0.out (Ext.trans HE3.out hE4))
      clear hE4 hv4 h14
      go_wp2_with fail
      refine (result_c r ms w4 HV4.out H14.out).mono ?_
      rintro e w5 ⟨he, hE⟩
      obtain ⟨r5, e5, hv5⟩ := lim_vecs (HV4.out.ext hE)
      rw [e5] at he
      subst he
      have HV5 := Lib.hid hv5
      have HE5 := Lib.hid (Ext.trans HE4.out hE)
      clear hE hv5 e5
      unfold two
      generalize limE ms = el at *
      generalize limL ms = ll at *
      go_wp2_with fail
      go_ret2
      exact ⟨r5, by rw [HR.out.1]; rfl, by rw [HR.out.2]; exact HV5.out, HE5.out⟩
end Go.Proofs.Ytnpebfchojalcaa

namespace Go.Proofs.Ytnpebfchojalcaa
set_option maxRecDepth 100000
open Go.RowKit Go.Shelf
attribute [local go_sem] Oper.semAt_some
/-! The reference's sums. -/
theorem cellsOf_get : ∀ (qs : List Pt) (j : Nat) (u : Value), (cellsOf qs)[j]? = some u → ∃ (k : Nat) (q : Pt), qs[k]? = some q ∧ ((j = k * 2 ∧ u = .int .i64 q.1) ∨ (j = k * 2 + 1 ∧ u = .int .i64 q.2)) := by
  intro qs
  induction qs with
  | nil => intro j u h; simp [cellsOf] at h
  | cons a r ih =>
    intro j u h
    match j, h with
    | 0, h => simp [cellsOf] at h; exact ⟨0, a, rfl, .inl ⟨rfl, h.symm⟩⟩
    | 1, h => simp [cellsOf] at h; exact ⟨0, a, rfl, .inr ⟨rfl, h.symm⟩⟩
    | j + 2, h =>
      obtain ⟨k, q, hk, hh⟩ := ih j u (by simpa [cellsOf] using h)
      exact ⟨k + 1, q, by simpa using hk, hh.imp (fun ⟨a, b⟩ => ⟨by omega, b⟩) (fun ⟨a, b⟩ => ⟨by omega, b⟩)⟩
theorem add_addr (b o j : Nat) : (⟨b, o, none⟩ : Addr).add j = ⟨b, o + j, none⟩ := by
  unfold Addr.add
  cases j with
  | zero => rfl
  | succ j => simp
theorem cellsOf_one {qs : List Pt} : ∀ u ∈ cellsOf qs, u.oneCell' = true := by
  intro u hu
  obtain ⟨j, hj⟩ := List.mem_iff_getElem?.1 hu
  obtain ⟨k, q, hk, hh⟩ := cellsOf_get qs j u hj
  rcases hh with ⟨_, rfl⟩ | ⟨_, rfl⟩ <;> rfl
theorem row_cells {W : World} {base n : Nat} {v : Value} {xs : List Value} (h : W.ownsRow base 31 2 v n xs) (hn : 0 < n) : ∃ g cap, v = .slice (some ⟨g, 0, none⟩) n cap ∧ base ≤ g ∧ n ≤ cap ∧ cap ≤ 9223372036854775807 ∧
    ∀ (j : Nat) (u : Value), xs[j]? = some u → W.cell? ((⟨g, 0, none⟩ : Addr).add j) = some u := by
  rcases h.2 with ⟨_, h0⟩ | ⟨g, cap, cur, hv, hb, hc, hnc, hm, hsz, htk⟩
  · omega
  · refine ⟨g, cap, hv, hb, hnc, by unfold maxLen at hm; omega, fun j u hj => ?_⟩
    rw [← htk, List.getElem?_take] at hj
    split at hj
    · rw [Array.getElem?_toList] at hj
      rw [add_addr, Nat.zero_add]
      simp [World.cell?, hc, hj]
    · cases hj
theorem mul_32 {k n m : Nat} (hk : k ≤ n) (hn : n ≤ 32) (hm : m ≤ 32) : k * m ≤ 1024 := Nat.le_trans (Nat.mul_le_mul (Nat.le_trans hk hn) hm) (by decide)
theorem all_near {ps qs : List Pt} (h1 : nearP ps) (h2 : nearP qs) {k : Nat} (hk : k ≤ ps.length) : ∀ q, q ∈ allK ps qs k → (-4000 ≤ q.1 ∧ q.1 ≤ 4000) ∧ (-4000 ≤ q.2 ∧ q.2 ≤ 4000) := by
  intro q hq
  obtain ⟨i, j, hi, hj, rfl⟩ := (all_mem k).1 hq
  have a := h1 _ (from_mem (show i < ps.length by omega))
  have b := h2 _ (from_mem hj)
  unfold addP
  dsimp only
  omega
set_option maxHeartbeats 4000000 in
theorem sums_c (u v : Value) (ps qs : List Pt) (w : World) (hu : Vecs w u ps) (hv : Vecs w v qs) (hn1 : nearP ps) (hn2 : nearP qs) (h1 : 3 ≤ ps.length) (h2 : ps.length ≤ 32) (k1 : 3 ≤ qs.length) (k2 : qs.length ≤ 32) :
    Calls Try.prog 132 #[u, v] w fun e w' => ∃ r K, e = .returned r ∧ WrapEnd (allK ps qs ps.length) (lowK (allK ps qs ps.length) ((allK ps qs ps.length).length - 1)) K ∧
      w'.ownsRow w.heap.size 31 2 r K (cellsOf (wrapL (allK ps qs ps.length) (lowK (allK ps qs ps.length) ((allK ps qs ps.length).length - 1)) K)) ∧ Ext w w' := by
  obtain ⟨b, o, cap, rfl, hl, hm, hc⟩ := vecs_cells hu (by omega)
  obtain ⟨a2, cap2, rfl, hl2, hm2, _⟩ := hv.at
  have HC := Lib.hid hc
  have HV := Lib.hid hv
  have HNQ := Lib.hid (near_L hn2)
  have HNP := Lib.hid (fun (k : Nat) (hk : k < ps.length) => from_nearF (near_L hn1) hk)
  have HAL := Lib.hid (fun (k : Nat) => all_len ps qs k)
  have HAN := Lib.hid (all_near hn1 hn2 (Nat.le_refl ps.length))
  have HML := Lib.hid (fun (v : Pt) => moved_length qs v)
  have HST := Lib.hid (fun (k : Nat) => (show cellsOf (allK ps qs (k + 1)) = cellsOf (allK ps qs k) ++ cellsOf (movedP qs (fromP ps k)) from by rw [allK, cellsOf_append]))
  obtain ⟨i0, hi0, hz0, hz1, hz2⟩ := info_parts info31
  have HI := Lib.hid hi0
  have HZ0 := Lib.hid hz0
  have HZ1 := Lib.hid hz1
  have HZ2 := Lib.hid hz2
  obtain ⟨n, hnn⟩ : ∃ n, n = ps.length := ⟨_, rfl⟩
  obtain ⟨m, hmm⟩ : ∃ m, m = qs.length := ⟨_, rfl⟩
  rw [← hnn] at HC HNP HAN hl h1 h2 ⊢
  rw [← hmm] at HAL HML HV hl2 k1 k2 ⊢
  have HM := Lib.hid hmm
  clear hu hv hc hn1 hn2 hnn hmm hi0 hz0 hz1 hz2
  go_enter Try.func132, Try.ntmps132
  go_wp2_with fail
  go_loopw [5, 6] (fun u iv wr => ∃ k : Nat, iv = .int .i64 (k : Int) ∧ k ≤ n ∧ wr.ownsRow w.heap.size 31 2 u (k * m) (cellsOf (allK ps qs k)) ∧ Ext w wr) (fun _ iv _ => n - (intOf iv).toNat)
  case atStart => exact ⟨0, rfl, Nat.zero_le _, ⟨by simp [allK, cellsOf], .inl ⟨rfl, Nat.zero_mul m⟩⟩, Ext.refl _⟩
  case round =>
    rename World => wr
    obtain ⟨k, rfl, hk, hR, hE⟩ := hrel
    obtain ⟨a1, c1, rfl⟩ := row_slice hR
    have HR := Lib.hid hR
    have HE := Lib.hid hE
    clear hR hE
    have hkm := mul_32 hk h2 k2
    by_cases hlt : k < n
    · obtain ⟨d1, d2⟩ := HC.out k hlt
      have d1 := Ext.cell HE.out d1
      have d2 := Ext.cell HE.out d2
      have kk := cell_lt d1
      have hbd := HNP.out k hlt
      have HMV := Lib.hid (fun (W : World) (hW : Vecs W (.slice a2 m cap2) qs) => moved_c (.slice a2 m cap2) qs (fromP ps k).1 (fromP ps k).2 W hW HNQ.out (by omega) (by omega) (by have := HM.out; omega) (by have := HM.out; omega))
      generalize hfk : fromP ps k = pk at *
      have HFK := Lib.hid hfk
      clear hfk
      obtain ⟨px, py⟩ := pk
      dsimp only at HMV d1 d2 hbd
      go_wp2_with fail
      refine (show Calls Try.prog 110 #[_, vecV px py] _ _ from (HMV.out wr (HV.out.ext HE.out)).mono ?_)
      rintro e w2 ⟨r, rfl, hO, hE⟩
      rw [← HM.out] at hO
      obtain ⟨g2, cap3, rfl, hb2, hl3, hm3, hcl⟩ := row_cells hO (by omega)
      have HCL := Lib.hid hcl
      have HE2 := Lib.hid (Ext.trans HE.out hE)
      have HR2 := Lib.hid (ownsRow_ext HR.out hE)
      have hs2 := HE2.out.size
      have HLN := Lib.hid (show (cellsOf (movedP qs (px, py))).length = m * 2 by rw [cellsOf_length, HML.out])
      clear hE hO hcl d1 d2 kk
      go_wp2_with (at_builtin; refine wpList_append_own _ rfl _ _ 22 rfl w.heap.size 31 i0 (.agg #[.int .i64 0, .int .i64 0]) 2 16 Try.underlying22 HI.out HZ0.out HZ1.out HZ2.out rfl (by decide) _ _ _ rfl HR2.out ⟨g2, 0, none⟩ m cap3 (cellsOf (movedP qs (px, py))) rfl HLN.out HCL.out cellsOf_one (by unfold maxLen; omega) (by omega) (by omega) ?_; intro v' w' hown' hgrow hnil; have HO4 := Lib.hid hown'; have HG4 := Lib.hid hgrow; clear hown' hgrow hnil)
      obtain ⟨a4, c4, e4⟩ := row_slice HO4.out
      subst e4
      refine ⟨⟨k + 1, by simp, by omega, by rw [Nat.succ_mul, HST.out, HFK.out]; exact HO4.out, Below.trans HE2.out ((row_below HR2.out HG4.out (by omega)).mono (by omega))⟩, by simp [intOf]; omega⟩
    · obtain rfl : k = n := by omega
      have HL := Lib.hid (HAL.out k)
      have HV5 := Lib.hid (vecs_own (by rw [HL.out]; exact HR.out) (by rw [HL.out]; omega))
      have hk1 : 1 ≤ k * m := Nat.mul_pos (by omega) (by omega)
      go_wp2_with fail
      refine (wrap_c _ (allK ps qs k) wr HV5.out HAN.out (by rw [HL.out]; omega) (by rw [HL.out]; omega)).mono ?_
      rintro e w2 ⟨r, K, rfl, hW, hO, hE⟩
      have HW := Lib.hid hW
      have HO := Lib.hid (row_base hO HE.out.size)
      have HE2 := Lib.hid (Ext.trans HE.out hE)
      clear hE hO hW
      go_wp2_with fail
      go_ret
      exact ⟨r, K, rfl, HW.out, HO.out, HE2.out⟩
end Go.Proofs.Ytnpebfchojalcaa

namespace Go.Proofs.Ytnpebfchojalcaa
set_option maxRecDepth 100000
open Go.RowKit Go.Shelf
attribute [local go_sem] Oper.semAt_some
/-! The reference's overlap, Overlap and Inside. -/
theorem neg_near {ps : List Pt} (h : nearP ps) : nearP (ps.map negP) := fun q hq => by
  obtain ⟨z, hz, rfl⟩ := List.mem_map.1 hq
  have := h z hz
  unfold negP
  dsimp only
  omega
theorem gap_place {ps qs : List Pt} {K : Nat} (h1 : validB ps = true) (h2 : validB qs = true) (W : WrapEnd (allK ps (qs.map negP) ps.length) (lowK (allK ps (qs.map negP) ps.length) ((allK ps (qs.map negP) ps.length).length - 1)) K) :
    ∃ ss, wrapL (allK ps (qs.map negP) ps.length) (lowK (allK ps (qs.map negP) ps.length) ((allK ps (qs.map negP) ps.length).length - 1)) K = ss ∧ K = ss.length ∧ nearF ss ∧ 3 ≤ ss.length ∧ ss.length ≤ 64 ∧ (placeZ ss 0 0 = 1 ↔ overlapB ps qs = true) := by
  have hp := valid_around h1
  have hq := valid_around h2
  obtain ⟨ds, hs⟩ := sorted_some hp (around_flip hq)
  obtain ⟨e1, e2⟩ := wrap_gap hp hq hs W
  have n1 := valid_near h1
  have n2 := valid_near h2
  have f2 := valid_near (valid_flip h2)
  have M : Merged ps (flipP qs) ds := ⟨hp.rolls, (around_flip hq).rolls, hs⟩
  have l := sum_len hs
  refine ⟨_, e1, e2, fun q hz => ?_, (sum_around hp (around_flip hq) hs).three, by omega, place_sum hp hq hs⟩
  have := sum_box M n1.1 f2.1 q hz
  omega
set_option maxHeartbeats 1000000 in
theorem roverlap_c (u v : Value) (ps qs : List Pt) (w : World) (hu : Vecs w u ps) (hv : Vecs w v qs) (h1 : validB ps = true) (h2 : validB qs = true) :
    Calls Try.prog 111 #[u, v] w fun e w' => e = .returned (.bool (overlapB ps qs)) ∧ Ext w w' := by
  obtain ⟨a, cap, rfl, hl, hm, _⟩ := hu.at
  obtain ⟨a2, cap2, rfl, hl2, hm2, _⟩ := hv.at
  have HU := Lib.hid hu
  have HV := Lib.hid hv
  have n1 := valid_near h1
  have n2 := valid_near h2
  have HN1 := Lib.hid n1.1
  have HN2 := Lib.hid n2.1
  have s1 := n1.2
  have s2 := n2.2
  have H1 := Lib.hid h1
  have H2 := Lib.hid h2
  have HLN := Lib.hid (neg_length qs)
  clear hu hv h1 h2 n1 n2
  go_enter Try.func111, Try.ntmps111
  go_wp2_with fail
  refine (flipped_c _ qs w HV.out (near_L HN2.out) (by omega) (by omega)).mono ?_
  rintro e w2 ⟨r, rfl, hO, hE⟩
  have HV2 := Lib.hid (vecs_own (qs := qs.map negP) (by rw [HLN.out]; exact hO) (by rw [HLN.out]; omega))
  have HE2 := Lib.hid hE
  clear hO hE
  go_wp2_with fail
  refine (sums_c _ _ ps (qs.map negP) w2 (HU.out.ext HE2.out) HV2.out HN1.out (neg_near HN2.out) s1.1 s1.2 (by rw [HLN.out]; omega) (by rw [HLN.out]; omega)).mono ?_
  rintro e w3 ⟨r3, K, rfl, hW, hO, hE⟩
  obtain ⟨ss, e1, e2, hL, h3, h64, hpl⟩ := gap_place H1.out H2.out hW
  rw [e1, e2] at hO
  have HV3 := Lib.hid (vecs_own hO (by omega))
  have HE3 := Lib.hid (Ext.trans HE2.out hE)
  have HL := Lib.hid hL
  have HPL := Lib.hid hpl
  clear hO hE hW e1 e2 hL hpl
  go_wp2_with fail
  refine (show Calls Try.prog 131 #[_, vecV 0 0] _ _ from (rplace_l _ ss 0 0 w3 HV3.out HL.out h3 h64 (by omega)).mono ?_)
  rintro e w4 ⟨rfl, hE⟩
  have HE4 := Lib.hid (Ext.trans HE3.out hE)
  have HBE := Lib.hid (show (placeZ ss 0 0 == 1) = overlapB ps qs from by rw [Bool.eq_iff_iff, beq_iff_eq]; exact HPL.out)
  clear hE
  generalize placeZ ss 0 0 = Z at *
  go_wp2_with fail
  go_ret
  exact ⟨ret_bool HBE.out, HE4.out⟩
set_option maxHeartbeats 1000000 in
theorem rOverlap_c (u v : Value) (ps qs : List Pt) (w : World) (hu : Vecs w u ps) (hv : Vecs w v qs) :
    Calls Try.prog 83 #[u, v] w fun e w' => e = overlapR ps qs ∧ Ext w w' := by
  obtain ⟨a, cap, rfl, hl, hm, _⟩ := hu.at
  obtain ⟨a2, cap2, rfl, hl2, hm2, _⟩ := hv.at
  have HU := Lib.hid hu
  have HV := Lib.hid hv
  clear hu hv
  cases h1 : validB ps with
  | false =>
    have HR := Lib.hid (show overlapR ps qs = two (.bool false) (.int .i64 2) by simp [overlapR, h1])
    generalize overlapR ps qs = R at *
    have H1 := Lib.hid h1
    clear h1
    go_enter Try.func83, Try.ntmps83
    go_wp2_with fail
    refine (rvalid_c _ ps _ HU.out).mono ?_
    rintro e w2 ⟨rfl, hE⟩
    rw [H1.out]
    go_wp2_with fail
    go_ret2
    exact ⟨HR.out.symm, hE⟩
  | true =>
    cases h2 : validB qs with
    | false =>
      have HR := Lib.hid (show overlapR ps qs = two (.bool false) (.int .i64 2) by simp [overlapR, h2])
      generalize overlapR ps qs = R at *
      have H1 := Lib.hid h1
      have H2 := Lib.hid h2
      clear h1 h2
      go_enter Try.func83, Try.ntmps83
      go_wp2_with fail
      refine (rvalid_c _ ps _ HU.out).mono ?_
      rintro e w2 ⟨rfl, hE⟩
      rw [H1.out]
      have HE := Lib.hid hE
      clear hE
      go_wp2_with fail
      refine (rvalid_c _ qs _ (HV.out.ext HE.out)).mono ?_
      rintro e w3 ⟨rfl, hE3⟩
      rw [H2.out]
      go_wp2_with fail
      go_ret2
      exact ⟨HR.out.symm, Ext.trans HE.out hE3⟩
    | true =>
      have HR := Lib.hid (show overlapR ps qs = two (.bool (overlapB ps qs)) (.int .i64 0) by simp [overlapR, h1, h2])
      generalize overlapR ps qs = R at *
      have H1 := Lib.hid h1
      have H2 := Lib.hid h2
      clear h1 h2
      go_enter Try.func83, Try.ntmps83
      go_wp2_with fail
      refine (rvalid_c _ ps _ HU.out).mono ?_
      rintro e w2 ⟨rfl, hE⟩
      rw [H1.out]
      have HE := Lib.hid hE
      clear hE
      go_wp2_with fail
      refine (rvalid_c _ qs _ (HV.out.ext HE.out)).mono ?_
      rintro e w3 ⟨rfl, hE3⟩
      rw [H2.out]
      have HE3 := Lib.hid (Ext.trans HE.out hE3)
      clear hE3
      go_wp2_with fail
      refine (roverlap_c _ _ ps qs w3 (HU.out.ext HE3.out) (HV.out.ext HE3.out) H1.out H2.out).mono ?_
      rintro e w4 ⟨rfl, hE⟩
      have HE4 := Lib.hid (Ext.trans HE3.out hE)
      clear hE
      generalize overlapB ps qs = ob at *
      go_wp2_with fail
      go_ret2
      exact ⟨HR.out.symm, HE4.out⟩
end Go.Proofs.Ytnpebfchojalcaa
