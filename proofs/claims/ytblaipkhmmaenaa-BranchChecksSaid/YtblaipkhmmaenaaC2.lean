import Derived.Test.YtblaipkhmmaenaaC1
import Derived.Test.YtblaipkhmmaenaaL2
namespace Go.Proofs.Ytblaipkhmmaenaa
open Go.RowKit
theorem ext_drewN {w w1 : World} (h : Ext w w1) (n : Nat) : Ext w (w1.drewN n) := ⟨h.os, h.tape, h.output, h.size, h.block⟩
theorem wrap64_sub2 (a b : Int) : wrap64 (wrap64 a - wrap64 b) = wrap64 (a - b) := by unfold wrap64; omega
theorem colZ_get {A : List (List Int)} {m k : Nat} {r : List Int} {x : Int} (h : A[m]? = some r) (h2 : r[k]? = some x) : (colZ A k)[m]? = some x := by
  simp [colZ, h, List.getD, h2]
def restZ (p : Who) (y : List Int) (d : Int) (costs : List Int) (j : Nat) : Int := costs.getD j 0 * d - dotZ y (colZ p.A j)
def partZ (p : Who) (y : List Int) (d : Int) (lo hi costs : List Int) (j : Nat) : Int := min (lo.getD j 0 * restZ p y d costs j) (hi.getD j 0 * restZ p y d costs j)
def boundK (p : Who) (y : List Int) (d : Int) (lo hi costs : List Int) : Nat → Int
  | 0 => dotZ y p.B
  | k + 1 => boundK p y d lo hi costs k + partZ p y d lo hi costs k
def boundZ (p : Who) (y : List Int) (d : Int) (lo hi costs : List Int) : Int := boundK p y d lo hi costs costs.length
theorem leafP {n : Nat} {y : List Int} {d : Int} (h : leafB n y d = true) : y.length = n ∧ 1 ≤ d ∧ d ≤ 1099511627776 ∧ ∀ z ∈ y, 0 ≤ z ∧ z ≤ 1099511627776 := by
  simp only [leafB, Bool.and_eq_true, decide_eq_true_eq, List.all_eq_true] at h
  exact ⟨h.1.1.1, h.1.1.2, h.1.2, fun z hz => by have := h.2 z hz; simpa [proofB] using this⟩
theorem mul_bd {m n a b : Int} (hm : 0 ≤ m) (hn : 0 ≤ n) (ha : -m ≤ a ∧ a ≤ m) (hb : -n ≤ b ∧ b ≤ n) : -(m * n) ≤ a * b ∧ a * b ≤ m * n := by
  have h := dotZ_bd m n hm hn [a] [b] (by simpa using ha) (by simpa using hb)
  simp only [dotZ, List.length_singleton, Int.natCast_one, Int.one_mul, Int.add_zero] at h
  omega
theorem rowsIn {p : Who} (hv : whoB p = true) : ∀ r ∈ p.A, ∀ z ∈ r, -30 ≤ z ∧ z ≤ 30 := by
  obtain ⟨_, _, _, hp⟩ := whoP hv
  intro r hr
  simp only [programB, equationsB, rowsB, Bool.and_eq_true] at hp
  have h9 := hp.1.1.2
  rw [List.all_eq_true] at h9
  have := h9 r hr
  simp only [rowB, Bool.and_eq_true] at this
  exact withinAll this.2
theorem colZ_bd {p : Who} (hv : whoB p = true) (k : Nat) : ∀ z ∈ colZ p.A k, -30 ≤ z ∧ z ≤ 30 := by
  intro z hz
  simp only [colZ, List.mem_map] at hz
  obtain ⟨r, hr, rfl⟩ := hz
  by_cases hk : k < r.length
  · rw [List.getD, List.getElem?_eq_getElem hk]
    exact rowsIn hv r hr _ (List.getElem_mem hk)
  · rw [List.getD, List.getElem?_eq_none (by omega)]
    simp
theorem restZ_bd {p : Who} (hv : whoB p = true) {y : List Int} {d : Int} (hl : leafB p.A.length y d = true) {costs : List Int} (hcb : ∀ x ∈ costs, -1000 ≤ x ∧ x ≤ 1000) {k : Nat} (hk : k < costs.length) :
    -1297423720775680 ≤ restZ p y d costs k ∧ restZ p y d costs k ≤ 1297423720775680 := by
  obtain ⟨h5, _, _, hp⟩ := whoP hv
  obtain ⟨hyl, hd1, hd2, hy⟩ := leafP hl
  have hc : -1000 ≤ costs.getD k 0 ∧ costs.getD k 0 ≤ 1000 := by
    rw [List.getD, List.getElem?_eq_getElem hk]
    exact hcb _ (List.getElem_mem hk)
  have h1 := mul_bd (m := 1000) (n := 1099511627776) (by omega) (by omega) hc ⟨by omega, hd2⟩
  have h2 := dotZ_bd 1099511627776 30 (by omega) (by omega) y (colZ p.A k) (fun z hz => by have := hy z hz; omega) (colZ_bd hv k)
  have h3 := (pB hp).1
  have h4 : p.prg.A = p.A := rfl
  rw [h4] at h3
  have h6 : (y.length : Int) * (1099511627776 * 30) ≤ 6 * (1099511627776 * 30) := Int.mul_le_mul_of_nonneg_right (by omega) (by omega)
  unfold restZ
  omega
theorem restW {p : Who} (hv : whoB p = true) {y : List Int} {d : Int} (hl : leafB p.A.length y d = true) {costs : List Int} (hcb : ∀ x ∈ costs, -1000 ≤ x ∧ x ≤ 1000) {k : Nat} (hk : k < costs.length) {co : Int} (hco : costs[k]? = some co) :
    wrap64 (co * d - dotZ y (colZ p.A k)) = restZ p y d costs k := by
  have h := restZ_bd hv hl hcb hk
  have e : restZ p y d costs k = co * d - dotZ y (colZ p.A k) := by simp [restZ, List.getD, hco]
  rw [e] at h ⊢
  generalize co * d - dotZ y (colZ p.A k) = R at *
  unfold wrap64
  omega
theorem part_w {R z : Int} (h : -1297423720775680 ≤ R ∧ R ≤ 1297423720775680) (hz : 0 ≤ z ∧ z ≤ 7) : wrap64 (z * R) = z * R := by
  have h1 : -(7 * 1297423720775680) ≤ z * R ∧ z * R ≤ 7 * 1297423720775680 := by
    obtain ⟨h0, h7⟩ := hz
    have : z = 0 ∨ z = 1 ∨ z = 2 ∨ z = 3 ∨ z = 4 ∨ z = 5 ∨ z = 6 ∨ z = 7 := by omega
    rcases this with rfl | rfl | rfl | rfl | rfl | rfl | rfl | rfl <;> omega
  generalize z * R = Q at *
  unfold wrap64
  omega
theorem boxcells {w : World} {g k : Nat} {lo hi : List Int} {lz hz : Int} (h : VRow w g 58 (lo.map (Value.int .i64) ++ hi.map (Value.int .i64))) (hlo : lo.length = 5) (h1 : lo[k]? = some lz) (h2 : hi[k]? = some hz) :
    w.cell? ⟨g, k, none⟩ = some (.int .i64 lz) ∧ w.cell? ⟨g, 5 + k, none⟩ = some (.int .i64 hz) := by
  have hk : k < lo.length := (List.getElem?_eq_some_iff.1 h1).1
  refine ⟨VRow.cell h (by rw [List.getElem?_append_left (by simpa using hk)]; simp [h1]), VRow.cell h ?_⟩
  rw [List.getElem?_append_right (by simp; omega)]
  simp [hlo, h2]
theorem part_eq {p : Who} {y : List Int} {d : Int} {costs lo hi : List Int} {k : Nat} {lz hz : Int} (h1 : lo[k]? = some lz) (h2 : hi[k]? = some hz) :
    partZ p y d lo hi costs k = min (lz * restZ p y d costs k) (hz * restZ p y d costs k) := by
  simp [partZ, List.getD, h1, h2]
theorem boundsB' {p : Who} (hv : whoB p = true) : ∀ z ∈ p.B, -1000 ≤ z ∧ z ≤ 1000 := by
  obtain ⟨_, _, _, hp⟩ := whoP hv
  simp only [programB, equationsB, costsB, Bool.and_eq_true] at hp
  exact withinAll hp.1.2.2
theorem part_bd {R z : Int} (h : -1297423720775680 ≤ R ∧ R ≤ 1297423720775680) (hz : 0 ≤ z ∧ z ≤ 7) : -(7 * 1297423720775680) ≤ z * R ∧ z * R ≤ 7 * 1297423720775680 := by
  obtain ⟨h0, h7⟩ := hz
  have : z = 0 ∨ z = 1 ∨ z = 2 ∨ z = 3 ∨ z = 4 ∨ z = 5 ∨ z = 6 ∨ z = 7 := by omega
  rcases this with rfl | rfl | rfl | rfl | rfl | rfl | rfl | rfl <;> omega
theorem getD_in {l : List Int} {k : Nat} (h : ∀ x ∈ l, 0 ≤ x ∧ x ≤ 7) : 0 ≤ l.getD k 0 ∧ l.getD k 0 ≤ 7 := by
  by_cases hk : k < l.length
  · rw [List.getD, List.getElem?_eq_getElem hk]
    exact h _ (List.getElem_mem hk)
  · rw [List.getD, List.getElem?_eq_none (by omega)]
    simp
theorem boundK_bd {p : Who} (hv : whoB p = true) {y lo hi : List Int} {d : Int} (hl : leafB p.A.length y d = true) {costs : List Int} (hcl : costs.length ≤ p.C.length) (hcb : ∀ x ∈ costs, -1000 ≤ x ∧ x ≤ 1000)
    (hlb : ∀ x ∈ lo, 0 ≤ x ∧ x ≤ 7) (hhb : ∀ x ∈ hi, 0 ≤ x ∧ x ≤ 7) : ∀ k, k ≤ costs.length → -(6597069766656000 + k * (7 * 1297423720775680)) ≤ boundK p y d lo hi costs k ∧ boundK p y d lo hi costs k ≤ 6597069766656000 + k * (7 * 1297423720775680)
  | 0, _ => by
    obtain ⟨hyl, hd1, hd2, hy⟩ := leafP hl
    have h2 := dotZ_bd 1099511627776 1000 (by omega) (by omega) y p.B (fun z hz => by have := hy z hz; omega) (boundsB' hv)
    have h3 := (pB (whoP hv).2.2.2).1
    have h4 : p.prg.A = p.A := rfl
    rw [h4] at h3
    have h6 : (y.length : Int) * (1099511627776 * 1000) ≤ 6 * (1099511627776 * 1000) := Int.mul_le_mul_of_nonneg_right (by omega) (by omega)
    simp only [boundK]
    omega
  | k + 1, hk => by
    have ih := boundK_bd hv (lo := lo) (hi := hi) hl hcl hcb hlb hhb k (by omega)
    have hr := restZ_bd hv hl hcb (k := k) (by omega)
    have h1 := part_bd hr (getD_in (k := k) hlb)
    have h2 := part_bd hr (getD_in (k := k) hhb)
    simp only [boundK, partZ]
    push_cast
    omega
theorem boundZ_bd {p : Who} (hv : whoB p = true) {y lo hi : List Int} {d : Int} (hl : leafB p.A.length y d = true) {costs : List Int} (hcl : costs.length ≤ p.C.length) (hcb : ∀ x ∈ costs, -1000 ≤ x ∧ x ≤ 1000)
    (hlb : ∀ x ∈ lo, 0 ≤ x ∧ x ≤ 7) (hhb : ∀ x ∈ hi, 0 ≤ x ∧ x ≤ 7) : -72057594037927936 ≤ boundZ p y d lo hi costs ∧ boundZ p y d lo hi costs ≤ 72057594037927936 := by
  have h := boundK_bd hv (lo := lo) (hi := hi) hl hcl hcb hlb hhb costs.length (Nat.le_refl _)
  have h5 := (whoP hv).1
  have h6 : (costs.length : Int) ≤ 5 := by omega
  unfold boundZ
  omega
theorem boundW {p : Who} (hv : whoB p = true) {y lo hi : List Int} {d : Int} (hl : leafB p.A.length y d = true) {costs : List Int} (hcl : costs.length ≤ p.C.length) (hcb : ∀ x ∈ costs, -1000 ≤ x ∧ x ≤ 1000)
    (hlb : ∀ x ∈ lo, 0 ≤ x ∧ x ≤ 7) (hhb : ∀ x ∈ hi, 0 ≤ x ∧ x ≤ 7) : wrap64 (boundK p y d lo hi costs costs.length) = boundK p y d lo hi costs costs.length := by
  have h := boundZ_bd hv hl hcl hcb hlb hhb
  unfold boundZ at h
  generalize boundK p y d lo hi costs costs.length = Z at *
  unfold wrap64
  omega
set_option maxRecDepth 100000 in
set_option maxHeartbeats 2000000 in
theorem bound_c (a b c u g v cv : Value) (nv na d : Int) (p : Who) (y lo hi costs : List Int) (w : World) (h : WhoAt w a b c u p) (hv : whoB p = true) (hy : Ints w v y) (hc : Ints w cv costs) (hleaf : leafB p.A.length y d = true)
    (hlo : lo.length = 5) (hhi : hi.length = 5) (hlb : ∀ x ∈ lo, 0 ≤ x ∧ x ≤ 7) (hhb : ∀ x ∈ hi, 0 ≤ x ∧ x ≤ 7) (hcl : costs.length = p.C.length) (hcb : ∀ x ∈ costs, -1000 ≤ x ∧ x ≤ 1000) :
    Calls Try.prog 63 #[.agg #[a, b, c, u, g], .agg #[.int .i64 nv, .int .i64 na, v, .int .i64 d], .agg (lo.map (Value.int .i64) ++ hi.map (Value.int .i64)).toArray, cv] w fun e w' => e = .returned (.int .i64 (boundZ p y d lo hi costs)) ∧ Ext w w' := by
  have HE := Lib.hid (Ext.alloc (Ext.alloc (Ext.alloc (Ext.refl w) (.cells #[a, b, c, u, g] 54)) (.cells #[.int .i64 nv, .int .i64 na, v, .int .i64 d] 40)) (.cells (lo.map (Value.int .i64) ++ hi.map (Value.int .i64)).toArray 58))
  have hm0 := VRow.alloc (VRow.alloc (vrow_alloc w [a, b, c, u, g] 54) (.cells #[.int .i64 nv, .int .i64 na, v, .int .i64 d] 40)) (.cells (lo.map (Value.int .i64) ++ hi.map (Value.int .i64)).toArray 58)
  have hn0 := VRow.alloc (vrow_alloc (w.alloc (.cells #[a, b, c, u, g] 54)) [.int .i64 nv, .int .i64 na, v, .int .i64 d] 40) (.cells (lo.map (Value.int .i64) ++ hi.map (Value.int .i64)).toArray 58)
  have hb0 := vrow_alloc ((w.alloc (.cells #[a, b, c, u, g] 54)).alloc (.cells #[.int .i64 nv, .int .i64 na, v, .int .i64 d] 40)) (lo.map (Value.int .i64) ++ hi.map (Value.int .i64)) 58
  have hy' := hy.at
  obtain ⟨ay, cy, rfl, hyc, hym, _⟩ := hy'
  have hc' := hc.at
  obtain ⟨ac, cc, rfl, hcc, hcm, _⟩ := hc'
  have hB := h.1.2.1.at
  obtain ⟨ab, cb, rfl, hbc, hbm, _⟩ := hB
  have hA := h.1.1.at
  obtain ⟨aa, ca, rfl, hac, ham, _⟩ := hA
  dsimp only at *
  have H := Lib.hid (h.ext HE.out)
  have Hy := Lib.hid (hy.ext HE.out)
  have Hc := Lib.hid (hc.ext HE.out)
  have Hv := Lib.hid hv
  have Hleaf := Lib.hid hleaf
  have Hlb := Lib.hid hlb
  have Hhb := Lib.hid hhb
  have Hlo := Lib.hid hlo
  have Hhi := Lib.hid hhi
  have Hcl := Lib.hid hcl
  have Hcb := Lib.hid hcb
  have HM := Lib.hid hm0
  have HN := Lib.hid hn0
  have HB := Lib.hid hb0
  clear h hy hc hv hleaf hlb hhb hlo hhi hcl hcb hm0 hn0 hb0
  go_enter Try.func63, Try.ntmps63
  go_wp2
  have hs1 : (w.alloc (.cells #[.slice aa p.A.length ca, .slice ab p.B.length cb, c, u, g] 54)).heap.size = w.heap.size + 1 := by simp
  have hs2 : ((w.alloc (.cells #[.slice aa p.A.length ca, .slice ab p.B.length cb, c, u, g] 54)).alloc (.cells #[.int .i64 nv, .int .i64 na, .slice ay y.length cy, .int .i64 d] 40)).heap.size = w.heap.size + 1 + 1 := by simp
  rw [hs1] at HN
  rw [hs2] at HB
  clear hs1 hs2
  change Hid (VRow (World.alloc _ (.cells (lo.map (Value.int .i64) ++ hi.map (Value.int .i64)).toArray 58)) _ _ _) at HB
  change Hid (VRow (((w.alloc (.cells #[.slice aa p.A.length ca, .slice ab p.B.length cb, c, u, g] 54)).alloc (.cells #[.int .i64 nv, .int .i64 na, .slice ay y.length cy, .int .i64 d] 40)).alloc (.cells (lo.map (Value.int .i64) ++ hi.map (Value.int .i64)).toArray 58)) _ _ _) at HN HM HB
  generalize (((w.alloc (.cells #[.slice aa p.A.length ca, .slice ab p.B.length cb, c, u, g] 54)).alloc (.cells #[.int .i64 nv, .int .i64 na, .slice ay y.length cy, .int .i64 d] 40)).alloc (.cells (lo.map (Value.int .i64) ++ hi.map (Value.int .i64)).toArray 58)) = w1 at *
  generalize w.heap.size = s at *
  have hyl : y.length = p.A.length := by have h9 := Hleaf.out; simp only [leafB, Bool.and_eq_true, decide_eq_true_eq] at h9; exact h9.1.1.1
  have hpB := (pB (whoP Hv.out).2.2.2)
  have hbl : p.B.length = p.A.length := hpB.2.2.1
  go_loop [9, 20] (fun s i => ∃ k : Nat, k ≤ y.length ∧ i = .int .i64 k ∧ s = .int .i64 (wrap64 (dotZ (y.take k) p.B))) (fun _ i => y.length - (intOf i).toNat)
  case atStart => exact ⟨0, Nat.zero_le _, rfl, by simp [dotZ_nil, wrap64]⟩
  case round =>
    obtain ⟨k, hk, rfl, rfl⟩ := hrel
    by_cases hlt : k < y.length
    · obtain ⟨z, hz⟩ := getElem?_len hlt
      obtain ⟨z2, hz2⟩ := getElem?_len (show k < p.B.length by omega)
      obtain ⟨_, _, e2, _, _, hr2⟩ := Hy.out.at
      simp only [Value.slice.injEq] at e2
      obtain ⟨rfl, _, rfl⟩ := e2
      obtain ⟨b2, o2, rfl, hc2⟩ := hr2 k z hz
      obtain ⟨_, _, e3, _, _, hr3⟩ := H.out.1.2.1.at
      simp only [Value.slice.injEq] at e3
      obtain ⟨rfl, _, rfl⟩ := e3
      obtain ⟨b3, o3, rfl, hc3⟩ := hr3 k z2 hz2
      have q1 := VRow.cell HM.out (k := 1) rfl
      have Hs := Lib.hid (dotZ_take_succ y p.B k z z2 hz hz2)
      clear hr2 hr3 hz hz2
      have hi2 : (k : Int) < (y.length : Int) := by omega
      have hi3 : (k : Int) < (p.B.length : Int) := by omega
      have Hyl := Lib.hid hyl
      have Hbl := Lib.hid hbl
      clear hyl hbl hpB
      go_wp2
      refine ⟨⟨k + 1, by omega, by go_num, ?_⟩, by simp [intOf]; omega⟩
      rw [Hs.out, wrap64_add, wrap64_add']
    · have hk' : k = y.length := by omega
      subst hk'
      have Hyl := Lib.hid hyl
      have Hbl := Lib.hid hbl
      clear hyl hbl hpB
      rw [List.take_length]
      go_wp2
      go_loopw [9, 38] (fun s i wr => ∃ k : Nat, k ≤ costs.length ∧ i = .int .i64 k ∧ s = .int .i64 (wrap64 (boundK p y d lo hi costs k)) ∧ ∃ n, wr = w1.drewN n) (fun _ i _ => costs.length - (intOf i).toNat)
      case atStart => exact ⟨0, Nat.zero_le _, rfl, rfl, 0, rfl⟩
      case round =>
        obtain ⟨k, hk, rfl, rfl, n, rfl⟩ := hrel
        by_cases hlt : k < costs.length
        · obtain ⟨co, hco⟩ := getElem?_len hlt
          obtain ⟨_, _, e2, _, _, hr2⟩ := Hc.out.at
          simp only [Value.slice.injEq] at e2
          obtain ⟨rfl, _, rfl⟩ := e2
          obtain ⟨b4, o4, rfl, hc4⟩ := hr2 k co hco
          have Hco := Lib.hid hco
          clear hr2 hco
          have hi4 : (k : Int) < (costs.length : Int) := by omega
          have q2 : (w1.drewN n).cell? ⟨s + 1, 2, none⟩ = _ := VRow.cell (VRow.drewN HN.out n) (k := 2) rfl
          have q3 : (w1.drewN n).cell? ⟨s + 1, 3, none⟩ = _ := VRow.cell (VRow.drewN HN.out n) (k := 3) rfl
          have q4 : (w1.drewN n).cell? ⟨s, 0, none⟩ = _ := VRow.cell (VRow.drewN HM.out n) (k := 0) rfl
          go_wp2
          go_loop [14, 50] (fun r i => ∃ m : Nat, m ≤ y.length ∧ i = .int .i64 m ∧ r = .int .i64 (wrap64 (co * d - dotZ (y.take m) (colZ p.A k)))) (fun _ i => y.length - (intOf i).toNat)
          case atStart => exact ⟨0, Nat.zero_le _, rfl, by simp [dotZ_nil]⟩
          case round =>
            obtain ⟨m, hm, rfl, rfl⟩ := hrel
            by_cases hmt : m < y.length
            · obtain ⟨z, hz⟩ := getElem?_len hmt
              obtain ⟨_, _, e2, _, _, hr2⟩ := Hy.out.at
              simp only [Value.slice.injEq] at e2
              obtain ⟨rfl, _, rfl⟩ := e2
              obtain ⟨b2, o2, rfl, hc2⟩ := hr2 m z hz
              obtain ⟨r, hr⟩ := getElem?_len (show m < p.A.length by rw [← Hyl.out]; exact hmt)
              obtain ⟨_, _, e3, _, _, hr3⟩ := H.out.1.1.at
              simp only [Value.slice.injEq] at e3
              obtain ⟨rfl, _, rfl⟩ := e3
              obtain ⟨b3, o3, uu, rfl, hc3, hur⟩ := hr3 m r hr
              obtain ⟨ar, cr, rfl, hrl, hrm, hrr⟩ := hur.at
              have hrl2 : r.length = p.C.length := (pB (whoP Hv.out).2.2.2).2.2.2 r (List.mem_of_getElem? hr)
              obtain ⟨x, hx⟩ := getElem?_len (show k < r.length by rw [hrl2, ← Hcl.out]; exact hlt)
              obtain ⟨b5, o5, rfl, hc5⟩ := hrr k x hx
              have hi5 : (k : Int) < (r.length : Int) := by rw [hrl2, ← Hcl.out]; omega
              have hi6 : (m : Int) < (p.A.length : Int) := by rw [← Hyl.out]; omega
              have hi7 : (m : Int) < (y.length : Int) := by omega
              have Hs := Lib.hid (dotZ_take_succ y (colZ p.A k) m z x hz (colZ_get hr hx))
              clear hr2 hr3 hrr hz hr hx hur hrl2
              go_wp2
              refine ⟨⟨m + 1, by omega, by go_num, ?_⟩, by simp [intOf]; omega⟩
              rw [Hs.out, wrap64_sub2, Int.sub_sub]
            · have hmk : m = y.length := by omega
              subst hmk
              rw [List.take_length]
              have hR := restW Hv.out Hleaf.out Hcb.out hlt Hco.out
              rw [hR]
              have HR := Lib.hid (restZ_bd Hv.out Hleaf.out Hcb.out hlt)
              obtain ⟨lz, hlz⟩ := getElem?_len (show k < lo.length by rw [Hlo.out]; have := Hcl.out; have := (whoP Hv.out).1; omega)
              obtain ⟨hz, hhz⟩ := getElem?_len (show k < hi.length by rw [Hhi.out]; have := Hcl.out; have := (whoP Hv.out).1; omega)
              have hk5 : (k : Int) < 5 := by have := Hcl.out; have := (whoP Hv.out).1; omega
              have Hq := Lib.hid (boxcells (k := k) (lz := lz) (hz := hz) HB.out Hlo.out hlz hhz)
              have q5 := Hq.out.1
              have q6 := Hq.out.2
              have HP := Lib.hid (part_eq (p := p) (y := y) (d := d) (costs := costs) hlz hhz)
              have Hl7 := Lib.hid (Hlb.out lz (List.mem_of_getElem? hlz))
              have Hh7 := Lib.hid (Hhb.out hz (List.mem_of_getElem? hhz))
              clear hR hlz hhz
              generalize restZ p y d costs k = R at *
              have hw1 : wrap64 (lz * R) = lz * R := part_w HR.out Hl7.out
              have hw2 : wrap64 (hz * R) = hz * R := part_w HR.out Hh7.out
              go_wp2
              go_quiet (fail)
              go_wp2
              refine ⟨⟨k + 1, by omega, by go_num, ?_, _, (by first | rfl | exact World.drewN_drewN _ _ _)⟩, by simp [intOf]; omega⟩
              have e : (if hz * R < lz * R then hz * R else lz * R) = partZ p y d lo hi costs k := by rw [HP.out]; split <;> omega
              rw [e, boundK, wrap64_add]
        · have hk' : k = costs.length := by omega
          subst hk'
          have HBD := Lib.hid (boundW Hv.out Hleaf.out (by rw [Hcl.out]; exact Nat.le_refl _) Hcb.out Hlb.out Hhb.out)
          go_wp2
          go_ret
          refine ⟨ret_int ?_, ext_drewN HE.out _⟩
          rw [HBD.out]
          rfl
end Go.Proofs.Ytblaipkhmmaenaa
