import Derived.Test.YtbcngojiikdigaaGreatL27
namespace Go.Proofs.YtbcngojiikdigaaGreat
set_option maxRecDepth 100000
open Go.RowKit Go.Shelf
theorem take_eq_succ {α : Type} {xs ys : List α} {k : Nat} {x : α} (hx : xs[k]? = some x) (hy : ys[k]? = some x) (h : xs.take k = ys.take k) : xs.take (k + 1) = ys.take (k + 1) := by
  rw [take_succ_get hx, take_succ_get hy, h]
theorem ne_of_get {α : Type} {xs ys : List α} {k : Nat} {x y : α} (hx : xs[k]? = some x) (hy : ys[k]? = some y) (h : x ≠ y) : xs ≠ ys := by
  rintro rfl
  rw [hx] at hy
  exact h (by injection hy)
set_option maxHeartbeats 1000000 in
theorem same_c (u v : Value) (xs ys : List Int) (w : World) (hx : Ints w u xs) (hy : Ints w v ys) :
    Calls Tryz.prog 19 #[u, v] w fun e w' => e = .returned (.bool (decide (xs = ys))) ∧ Ext w w' := by
  obtain ⟨ax, cx, rfl, hxc, hxm, hrx⟩ := hx.at
  obtain ⟨ay, cy, rfl, hyc, hym, hry⟩ := hy.at
  have HX := Lib.hid hrx
  have HY := Lib.hid hry
  clear hx hy hrx hry
  by_cases hl : xs.length = ys.length
  · have hb : ((xs.length : Int) != (ys.length : Int)) = false := by rw [hl]; simp
    have hl1 : xs.length ≤ ys.length := by omega
    have hl2 : ys.length ≤ xs.length := by omega
    clear hl
    go_enter Tryz.func19, Tryz.ntmps19
    go_wp2_with fail
    clear hb
    go_loopw [5] (fun i wr => ∃ k : Nat, k ≤ xs.length ∧ i = .int .i64 k ∧ xs.take k = ys.take k ∧ Ext w wr) (fun i _ => xs.length - (intOf i).toNat)
    case atStart => exact ⟨0, Nat.zero_le _, rfl, rfl, Ext.refl _⟩
    case round =>
      rename World => wr
      obtain ⟨k, hk, rfl, ht, hE⟩ := hrel
      have Ht := Lib.hid ht
      have HE := Lib.hid hE
      clear ht hE
      by_cases hlt : k < xs.length
      · obtain ⟨x, hx⟩ := getElem?_len hlt
        obtain ⟨y, hy⟩ := getElem?_len (show k < ys.length by omega)
        obtain ⟨bx, ox, rfl, h1⟩ := HX.out k x hx
        obtain ⟨b, o, rfl, h2⟩ := HY.out k y hy
        replace h1 := Ext.cell HE.out h1
        replace h2 := Ext.cell HE.out h2
        have hc1 := cell_lt h1
        have hc2 := cell_lt h2
        have Hx := Lib.hid hx
        have Hy := Lib.hid hy
        clear hx hy
        have hi1 : (k : Int) < (xs.length : Int) := by omega
        have hi2 : (k : Int) < (ys.length : Int) := by omega
        by_cases hxy : x = y
        · subst hxy
          have hxb : (x != x) = false := by simp
          go_wp2_with fail
          go_quiet (fail)
          go_wp2_with fail
          refine ⟨⟨k + 1, by omega, by simp, take_eq_succ Hx.out Hy.out Ht.out, ext_drewN HE.out _⟩, by simp [intOf]; omega⟩
        · have hxy' : (x != y) = true := by simpa using hxy
          have HN := Lib.hid (ne_of_get Hx.out Hy.out hxy)
          clear hxy
          go_wp2_with fail
          go_quiet (fail)
          go_wp2_with fail
          go_ret
          exact ⟨ret_bool (decide_eq_false HN.out).symm, ext_drewN HE.out _⟩
      · have he : xs = ys := by
          have := Ht.out
          rwa [List.take_of_length_le (by omega), List.take_of_length_le (by omega)] at this
        have He := Lib.hid he
        clear he
        go_wp2_with fail
        go_ret
        exact ⟨ret_bool (decide_eq_true He.out).symm, HE.out⟩
  · have hb : ((xs.length : Int) != (ys.length : Int)) = true := by rw [bne_iff_ne]; omega
    have Hl := Lib.hid (show xs ≠ ys from fun e => hl (by rw [e]))
    clear hl
    go_enter Tryz.func19, Tryz.ntmps19
    go_wp2_with fail
    go_ret
    exact ⟨ret_bool (decide_eq_false Hl.out).symm, Ext.refl _⟩
/-- what is asked for the search to come to an end -/
def StartOk (n p : Nat) (B : MF) (m : Nat) : Prop := m ≤ 40 ∧ (12000 : Int) * ((4 * 2 ^ m + 2 * p : Nat) : Int) ≤ KB ∧ p ≤ 1000000 ∧ (∀ t, t < m → agB n B p (2 ^ t) = false) ∧ agB n B p (2 ^ m) = true ∧ agB n B p 0 = false
def three (a b c : Int) : Ending := .returned (.tuple #[.int .i64 a, .int .i64 b, .int .i64 c])
theorem results_tmp3 {fn : Func} {t u v : Tmp} (h : fn.results = #[.tmp t, .tmp u, .tmp v]) (tmps : Array Value) (P : Program) (w : World) :
    (results fn tmps).run P w = .ok (.tuple #[tmps.getD t undef, tmps.getD u undef, tmps.getD v undef]) w := by
  simp only [results, h]
  simp only [Array.mapM_eq_foldlM, List.foldlM_toArray']
  simp
/-- what Regime gives -/
def RegimeS (xs : List (List Int)) (e : Ending) : Prop :=
  (matB xs = false ∧ e = three 0 0 2) ∨
  (matB xs = true ∧ spF xs.length (entF xs) = none ∧ e = three 0 0 10) ∨
  (matB xs = true ∧ ∃ p q, spF xs.length (entF xs) = some (p, q) ∧ connB xs.length (lvF p q (entF xs)) = false ∧ e = three 0 0 10) ∨
  (matB xs = true ∧ ∃ p q m, spF xs.length (entF xs) = some (p, q) ∧ connB xs.length (lvF p q (entF xs)) = true ∧ StartOk xs.length (periodF xs.length (lvF p q (entF xs))) (lvF p q (entF xs)) m ∧
    e = three (periodF xs.length (lvF p q (entF xs)) : Nat) ((stH (agB xs.length (lvF p q (entF xs)) (periodF xs.length (lvF p q (entF xs)))) m (m + 1) + 1 : Nat) : Int) 0)
set_option maxHeartbeats 4000000 in
theorem Regime_c (u : Value) (xs : List (List Int)) (w : World) (hu : Rows2 w u xs) (hlx : ∀ r ∈ xs, r.length ≤ 1000000)
    (hok : ∀ p q, matB xs = true → spF xs.length (entF xs) = some (p, q) → connB xs.length (lvF p q (entF xs)) = true → ∃ m, StartOk xs.length (periodF xs.length (lvF p q (entF xs))) (lvF p q (entF xs)) m) :
    Calls Tryz.prog 34 #[u] w fun e w' => RegimeS xs e ∧ Ext w w' := by
  have HL := Lib.hid (repeating_c u xs w hu hlx)
  have HOK := Lib.hid hok
  obtain ⟨a1, c1, rfl, hl1, hm1, _⟩ := hu.at
  clear hu hlx hok
  go_enter Tryz.func34, Tryz.ntmps34
  go_wp2_with fail
  refine HL.out.mono ?_
  rintro e w1 ⟨hS, hE⟩
  have HE := Lib.hid hE
  clear hE
  rcases hS with ⟨hm, rfl⟩ | ⟨hm, hs, rfl⟩ | ⟨hm, p, q, hs, hc, rfl⟩ | ⟨hm, p, q, r, hs, hc, rfl, hr⟩
  · have HS := Lib.hid (show RegimeS xs (three 0 0 2) from .inl ⟨hm, rfl⟩)
    clear hm
    unfold two
    go_wp2_with fail
    (try simp only [Exit.inBlock, Exit.then])
    refine bodyPost_ret (results_tmp3 rfl _ _ _) rfl ?_
    exact ⟨HS.out, HE.out⟩
  · have HS := Lib.hid (show RegimeS xs (three 0 0 10) from .inr (.inl ⟨hm, hs, rfl⟩))
    clear hm hs
    unfold two
    go_wp2_with fail
    (try simp only [Exit.inBlock, Exit.then])
    refine bodyPost_ret (results_tmp3 rfl _ _ _) rfl ?_
    exact ⟨HS.out, HE.out⟩
  · have HS := Lib.hid (show RegimeS xs (three 0 0 10) from .inr (.inr (.inl ⟨hm, p, q, hs, hc, rfl⟩)))
    clear hm hs hc
    unfold two
    go_wp2_with fail
    (try simp only [Exit.inBlock, Exit.then])
    refine bodyPost_ret (results_tmp3 rfl _ _ _) rfl ?_
    exact ⟨HS.out, HE.out⟩
  · have hn := (matB_ok hm).1
    have hb := spF_bd (matB_ok hm).2.2 hn.2 hs
    have HB := Lib.hid (lvF_bd (matB_ok hm).2.2 hb.1 hb.2)
    obtain ⟨m, hst⟩ := HOK.out p q hm hs hc
    have HS := Lib.hid (show RegimeS xs (three (periodF xs.length (lvF p q (entF xs)) : Nat) ((stH (agB xs.length (lvF p q (entF xs)) (periodF xs.length (lvF p q (entF xs)))) m (m + 1) + 1 : Nat) : Int) 0) from .inr (.inr (.inr ⟨hm, p, q, m, hs, hc, hst, rfl⟩)))
    have HR := Lib.hid hr
    obtain ⟨ra, rc, rfl⟩ := (hr.mat (by omega)).len
    obtain ⟨n, hnn⟩ : ∃ n, n = xs.length := ⟨_, rfl⟩
    rw [← hnn] at HB HS HR hn hst
    clear hm hs hc hr hb HOK HL hl1 hm1
    generalize hlv : lvF p q (entF xs) = B at *
    have HST := Lib.hid hst
    have HNN := Lib.hid hnn
    unfold two
    rw [← hnn]
    clear hlv hst hnn
    go_wp2_with fail
    refine (period_c _ n B w1 hn.1 hn.2 (HR.out.mat (by omega)) HB.out).mono ?_
    rintro e w2 ⟨rfl, hE⟩
    have HE2 := Lib.hid (Ext.trans HE.out hE)
    have HR2 := Lib.hid (HR.out.ext hE)
    clear hE
    generalize periodF n B = pp at *
    go_wp2_with fail
    refine (start_c _ _ n pp m B 12000 w2 hn.1 hn.2 HR2.out HB.out (by decide) HST.out.2.2.1 HST.out.1 HST.out.2.1 HST.out.2.2.2.1 HST.out.2.2.2.2.1 HST.out.2.2.2.2.2).mono ?_
    rintro e w3 ⟨rfl, hE⟩
    have HE3 := Lib.hid (Ext.trans HE2.out hE)
    clear hE
    generalize stH (agB n B pp) m (m + 1) + 1 = zz at *
    go_wp2_with fail
    (try simp only [Exit.inBlock, Exit.then])
    refine bodyPost_ret (results_tmp3 rfl _ _ _) rfl ?_
    exact ⟨HS.out, HE3.out⟩
end Go.Proofs.YtbcngojiikdigaaGreat
