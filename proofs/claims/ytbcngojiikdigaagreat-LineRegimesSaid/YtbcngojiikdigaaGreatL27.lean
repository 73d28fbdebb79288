import Derived.Test.YtbcngojiikdigaaGreatL26
namespace Go.Proofs.YtbcngojiikdigaaGreat
set_option maxRecDepth 100000
open Go.RowKit Go.Shelf
/-- a column of the closure, as numbers -/
def colZ (n : Nat) (B : MF) (f i : Nat) : Int := val (closF n B i f)
def colL (n : Nat) (B : MF) (f : Nat) : List Int := (List.range n).map (colZ n B f)
theorem colL_len (n : Nat) (B : MF) (f : Nat) : (colL n B f).length = n := by simp [colL]
theorem colL_at {n : Nat} (B : MF) (f : Nat) {i : Nat} (hi : i < n) : (colL n B f)[i]? = some (colZ n B f i) := by simp [colL, hi]
/-- the vector of Eigen -/
def eigL (n : Nat) (B : MF) (f : Nat) : List Int := (colL n B f).map (fun x => x - mnK (colL n B f) (n - 1))
theorem eigL_len (n : Nat) (B : MF) (f : Nat) : (eigL n B f).length = n := by simp [eigL, colL_len]
theorem eigL_at {n : Nat} (B : MF) (f : Nat) {i : Nat} (hi : i < n) : (eigL n B f)[i]? = some (colZ n B f i - mnK (colL n B f) (n - 1)) := by simp [eigL, colL_at B f hi]
theorem own_first {w : World} {base n : Nat} {v : Value} {xs : List Value} {x : Value} (h : w.ownsRow base 3 1 v n (x :: xs)) : ∃ g cap, v = .slice (some ⟨g, 0, none⟩) n cap ∧ 0 < n ∧ base ≤ g ∧ w.cell? ⟨g, 0, none⟩ = some x := by
  obtain ⟨h1, h⟩ := h
  have hn : n = xs.length + 1 := by simpa using h1.symm
  rcases h with ⟨_, h⟩ | ⟨g, cap, cu, hv, hb, hc, h1, h2, h3, h4⟩
  · omega
  · refine ⟨g, cap, hv, by omega, hb, ?_⟩
    have hx : (x :: xs)[0]? = some x := rfl
    rw [← h4] at hx
    rw [List.getElem?_take_of_lt (by omega), Array.getElem?_toList] at hx
    simp [World.cell?, hc, hx]
theorem MatAt.row {w : World} {b o n c : Nat} {M : MF} (h : MatAt w (.slice (some ⟨b, o, none⟩) n c) n M) {i : Nat} (hi : i < n) : ∃ u, w.cell? ⟨b, o + i, none⟩ = some u ∧ VecAt w u n (M i) := by
  obtain ⟨b', o', c', e, _, _, h⟩ := h
  simp only [Value.slice.injEq, Option.some.injEq, Addr.mk.injEq] at e
  obtain ⟨⟨rfl, rfl, _⟩, _⟩ := e
  exact h i hi
/-- what Eigen gives -/
def EigenS (base : Nat) (xs : List (List Int)) (e : Ending) (w' : World) : Prop :=
  (matB xs = false ∧ e = two (.slice none 0 0) (.int .i64 2)) ∨
  (matB xs = true ∧ spF xs.length (entF xs) = none ∧ e = two (.slice none 0 0) (.int .i64 10)) ∨
  (matB xs = true ∧ ∃ p q, spF xs.length (entF xs) = some (p, q) ∧ connB xs.length (lvF p q (entF xs)) = false ∧ e = two (.slice none 0 0) (.int .i64 10)) ∨
  (matB xs = true ∧ ∃ p q f rest R, spF xs.length (entF xs) = some (p, q) ∧ connB xs.length (lvF p q (entF xs)) = true ∧ critL xs.length (lvF p q (entF xs)) xs.length = f :: rest ∧ base ≤ R ∧ e = two (.slice (some ⟨R, 0, none⟩) xs.length xs.length) (.int .i64 0) ∧ IRow w' R 3 (eigL xs.length (lvF p q (entF xs)) f))
/-- what is asked for Eigen to have a first critical vertex, which is reached from all -/
def EigOk (n : Nat) (B : MF) : Prop := ∃ f rest, critL n B n = f :: rest ∧ f < n ∧ ∀ i, i < n → ∃ y, closF n B i f = some y
theorem mnK_bd {xs : List Int} {L : Int} (h : ∀ x ∈ xs, -L ≤ x ∧ x ≤ L) (hL : 0 ≤ L) : ∀ k, -L ≤ mnK xs k ∧ mnK xs k ≤ L := by
  have hd : ∀ k, -L ≤ xs.getD k 0 ∧ xs.getD k 0 ≤ L := fun k => by
    rw [List.getD_eq_getElem?_getD]
    cases hk : xs[k]? with
    | none => simp; omega
    | some x => exact h x (List.mem_of_getElem? hk)
  intro k
  induction k with
  | zero => exact hd 0
  | succ k ih =>
    simp only [mnK]
    split
    · exact hd (k + 1)
    · exact ih
theorem colZ_bd {n f : Nat} {B : MF} (hB : bdF 12000 n B) (hn : n ≤ 6) (hf : f < n) (hc : ∀ i, i < n → ∃ y, closF n B i f = some y) : ∀ i, i < n → -72000 ≤ colZ n B f i ∧ colZ n B f i ≤ 72000 := by
  intro i hi
  obtain ⟨y, hy⟩ := hc i hi
  have hb : bdF (12000 * ((n - 1 : Nat) : Int)) n (closF n B) := bdF_pw (bdF_add ((bdF_one n).mono (by decide)) hB) (n - 1)
  have h := hb i hi f hf y hy
  unfold colZ
  rw [hy]
  show -72000 ≤ y ∧ y ≤ 72000
  omega
set_option maxHeartbeats 4000000 in
theorem Eigen_c (u : Value) (xs : List (List Int)) (w : World) (hu : Rows2 w u xs) (hlx : ∀ r ∈ xs, r.length ≤ 1000000)
    (hok : ∀ p q, matB xs = true → spF xs.length (entF xs) = some (p, q) → connB xs.length (lvF p q (entF xs)) = true → EigOk xs.length (lvF p q (entF xs))) :
    Calls Tryz.prog 32 #[u] w fun e w' => EigenS w.heap.size xs e w' ∧ Ext w w' := by
  have HL := Lib.hid (repeating_c u xs w hu hlx)
  have HOK := Lib.hid hok
  obtain ⟨a1, c1, rfl, hl1, hm1, _⟩ := hu.at
  clear hu hlx hok
  go_enter Tryz.func32, Tryz.ntmps32
  go_wp2_with fail
  refine HL.out.mono ?_
  rintro e w1 ⟨hS, hE⟩
  have HE := Lib.hid hE
  clear hE
  rcases hS with ⟨hm, rfl⟩ | ⟨hm, hs, rfl⟩ | ⟨hm, p, q, hs, hc, rfl⟩ | ⟨hm, p, q, r, hs, hc, rfl, hr⟩
  · have HS := Lib.hid (fun w' => (show EigenS w.heap.size xs (two (.slice none 0 0) (.int .i64 2)) w' from .inl ⟨hm, rfl⟩))
    clear hm
    unfold two
    go_wp2_with fail
    go_ret2
    exact ⟨HS.out _, HE.out⟩
  · have HS := Lib.hid (fun w' => (show EigenS w.heap.size xs (two (.slice none 0 0) (.int .i64 10)) w' from .inr (.inl ⟨hm, hs, rfl⟩)))
    clear hm hs
    unfold two
    go_wp2_with fail
    go_ret2
    exact ⟨HS.out _, HE.out⟩
  · have HS := Lib.hid (fun w' => (show EigenS w.heap.size xs (two (.slice none 0 0) (.int .i64 10)) w' from .inr (.inr (.inl ⟨hm, p, q, hs, hc, rfl⟩))))
    clear hm hs hc
    unfold two
    go_wp2_with fail
    go_ret2
    exact ⟨HS.out _, HE.out⟩
  · have hn := (matB_ok hm).1
    have hb := spF_bd (matB_ok hm).2.2 hn.2 hs
    have HB := Lib.hid (lvF_bd (matB_ok hm).2.2 hb.1 hb.2)
    obtain ⟨f, rest, hcr, hf, hcol⟩ := HOK.out p q hm hs hc
    have HCB := Lib.hid (colZ_bd HB.out hn.2 hf hcol)
    have HS := Lib.hid (fun R w' (h1 : w.heap.size ≤ R) (h2 : IRow w' R 3 (eigL xs.length (lvF p q (entF xs)) f)) => (show EigenS w.heap.size xs (two (.slice (some ⟨R, 0, none⟩) xs.length xs.length) (.int .i64 0)) w' from .inr (.inr (.inr ⟨hm, p, q, f, rest, R, hs, hc, hcr, h1, rfl, h2⟩))))
    have HR := Lib.hid hr
    obtain ⟨ra, rc, rfl⟩ := (hr.mat (by omega)).len
    obtain ⟨n, hnn⟩ : ∃ n, n = xs.length := ⟨_, rfl⟩
    rw [← hnn] at HB HCB HS HR hn hcr hf
    clear hm hs hc hr hb hcol HOK HL hl1 hm1
    generalize hlv : lvF p q (entF xs) = B at *
    unfold two at *
    have HCR := Lib.hid hcr
    clear hcr hlv
    have hwE := HE.out.size
    rw [← hnn]
    have HNN := Lib.hid hnn
    clear hnn
    go_wp2_with fail
    refine (critical_c _ n B 12000 w1 hn.1 hn.2 (HR.out.mat (by omega)) HB.out (by omega) (by omega)).mono ?_
    rintro e w2 ⟨v, rfl, hv, hE⟩
    rw [HCR.out] at hv
    obtain ⟨g, cap, rfl, hlen, hg, cg⟩ := own_first hv
    have HE2 := Lib.hid (Ext.trans HE.out hE)
    have HR2 := Lib.hid (HR.out.ext hE)
    have hgl := cell_lt cg
    obtain ⟨len, hlen2⟩ : ∃ len, len = (f :: rest).length := ⟨_, rfl⟩
    rw [← hlen2] at hlen ⊢
    clear hE hv hlen2
    have hmk := run_make_ints n (by omega)
    have HP1 := Lib.hid (vrow_rep w2 (.int .i64 0) n 3)
    have HEm := Lib.hid (Ext.alloc (Ext.refl w2) (.cells (Array.replicate n (.int .i64 0)) 3))
    have HR3 := Lib.hid ((HR2.out.ext HEm.out).mat (by omega))
    have hs3 : (w2.alloc (.cells (Array.replicate n (.int .i64 0)) 3)).heap.size = w2.heap.size + 1 := by simp
    have hw2 := HE2.out.size
    have HE3 := Lib.hid (Ext.trans HE2.out HEm.out)
    go_wp2_with fail
    clear hmk cg
    generalize w2.alloc (.cells (Array.replicate n (.int .i64 0)) 3) = w3 at *
    refine (closure_c _ n B 12000 w3 hn.1 hn.2 HR3.out HB.out (by omega) (by unfold KB; omega)).mono ?_
    rintro e w4 ⟨r4, rfl, hr4, hE⟩
    have HX4 := Lib.hid (MatX.new (D := w2.heap.size) hr4 (by omega) (by omega))
    obtain ⟨b4, o4, c4, rfl, _, _, _⟩ := hr4.mat (by omega)
    have HP4 := Lib.hid (VRow.ext HP1.out hE)
    have HE4 := Lib.hid (Ext.trans HE3.out hE)
    clear hr4 hE
    go_wp2_with fail
    go_loopw [30] (fun i wr => ∃ (k : Nat) (us : List Value), i = .int .i64 k ∧ k ≤ n ∧ VRow wr w2.heap.size 3 us ∧ us.length = n ∧ (∀ j, j < k → us[j]? = some (.int .i64 (colZ n B f j))) ∧ MatX w2.heap.size wr (.slice (some ⟨b4, o4, none⟩) n c4) n (closF n B) ∧ Ext w wr) (fun i _ => n - (intOf i).toNat)
    case atStart => exact ⟨0, _, rfl, Nat.zero_le _, HP4.out, by simp, fun j h => by omega, HX4.out, HE4.out⟩
    case round =>
      rename World => wr
      obtain ⟨k, us, rfl, hk, hus, hul, hst, hM, hE⟩ := hrel
      have HUS := Lib.hid hus
      have HST := Lib.hid hst
      have HUL := Lib.hid hul
      have HM := Lib.hid hM
      have HE := Lib.hid hE
      clear hus hst hM hE hul
      by_cases hlt : k < n
      · obtain ⟨u, cu, hu⟩ := MatAt.row HM.out.mat hlt
        obtain ⟨rb, ro, rcc, rfl, _, _, hr⟩ := hu
        have cr := hr f hf
        have hcb := cell_lt cu
        have hcb2 := cell_lt cr
        change _ = some (Value.int .i64 (colZ n B f k)) at cr
        have HPUT := Lib.hid (show ∀ j, j < k + 1 → (us.set k (.int .i64 (colZ n B f k)))[j]? = some (.int .i64 (colZ n B f j)) from fun j hj => by
          by_cases e : j = k
          · subst e; rw [List.getElem?_set_self (by rw [HUL.out]; exact hlt)]
          · rw [List.getElem?_set_ne (fun h => e h.symm)]; exact HST.out j (by omega))
        generalize colZ n B f k = z at *
        obtain ⟨u0, hu0⟩ := getElem?_len (show k < us.length by rw [HUL.out]; exact hlt)
        have m0 := VRow.cell HUS.out hu0
        have f0 := VRow.frozen HUS.out k none
        clear hu0 hr
        go_wp2_with fail
        exact ⟨⟨k + 1, _, by simp, by omega, VRow.set HUS.out k (.int .i64 z), by rw [List.length_set]; exact HUL.out, HPUT.out, HM.out.set k _, Below.setCell (p := ⟨w2.heap.size, k, none⟩) HE.out (by show w.heap.size ≤ w2.heap.size; omega) _⟩, by simp [intOf]; omega⟩
      · obtain rfl : k = n := by omega
        have hus : us = (colL k B f).map (Value.int .i64) := list_of (by rw [HUL.out]; simp [colL_len]) (fun i u hu => by
          have hi := lt_len hu
          rw [HUL.out] at hi
          rw [HST.out i hi] at hu
          rw [← hu, List.getElem?_map, colL_at B f hi]; rfl)
        subst hus
        have HI := Lib.hid (show Ints wr (.slice (some ⟨w2.heap.size, 0, none⟩) k k) (colL k B f) from IRow.ints' HUS.out (by rw [colL_len]) (by rw [colL_len]; exact Nat.le_refl _) (by omega))
        have HMI := Lib.hid (min_c _ (colL k B f) wr HI.out (by rw [colL_len]; exact hn.1) (by rw [colL_len]; omega))
        rw [colL_len] at HMI
        have hmb := mnK_bd (xs := colL k B f) (L := 72000) (fun x hx => by
          obtain ⟨i, hi⟩ := List.mem_iff_getElem?.1 hx
          have hl := lt_len hi
          rw [colL_len] at hl
          rw [colL_at B f hl] at hi
          injection hi with hi
          subst hi
          exact HCB.out i hl) (by omega) (k - 1)
        have HEG := Lib.hid (fun (i : Nat) (hi : i < k) => eigL_at B f hi)
        have HEL := Lib.hid (eigL_len k B f)
        have HUS := Lib.hid (show VRow wr w2.heap.size 3 ((colL k B f).map (Value.int .i64)) from HUS.out)
        generalize mnK (colL k B f) (k - 1) = mm at *
        go_wp2_with fail
        refine HMI.out.mono ?_
        rintro e w5 ⟨rfl, hE5⟩
        have HE5 := Lib.hid (Ext.trans HE.out hE5)
        have HU5 := Lib.hid (VRow.ext HUS.out hE5)
        clear hE5
        go_wp2_with fail
        go_loopw [47] (fun i wq => ∃ (j : Nat) (us : List Value), i = .int .i64 j ∧ j ≤ k ∧ VRow wq w2.heap.size 3 us ∧ us.length = k ∧ (∀ x, x < j → us[x]? = some (.int .i64 (colZ k B f x - mm))) ∧ (∀ x, j ≤ x → x < k → us[x]? = some (.int .i64 (colZ k B f x))) ∧ Ext w wq) (fun i _ => k - (intOf i).toNat)
        case atStart => exact ⟨0, _, rfl, Nat.zero_le _, HU5.out, by simp [colL_len], fun j h => by omega, fun x _ hx => by rw [List.getElem?_map, colL_at B f hx]; rfl, HE5.out⟩
        case round =>
          rename World => wq
          obtain ⟨j, us, rfl, hj, hus, hul, hst, hst2, hE⟩ := hrel
          have HUS := Lib.hid hus
          have HST := Lib.hid hst
          have HST2 := Lib.hid hst2
          have HUL := Lib.hid hul
          have HE := Lib.hid hE
          clear hus hst hst2 hE hul
          by_cases hlt : j < k
          · have hu0 := HST2.out j (Nat.le_refl _) hlt
            have m0 := VRow.cell HUS.out hu0
            have f0 := VRow.frozen HUS.out j none
            have hcb := cell_lt m0
            have hzb := HCB.out j hlt
            have HPUT := Lib.hid (show ∀ x, x < j + 1 → (us.set j (.int .i64 (colZ k B f j - mm)))[x]? = some (.int .i64 (colZ k B f x - mm)) from fun x hx => by
              by_cases e : x = j
              · subst e; rw [List.getElem?_set_self (by rw [HUL.out]; exact hlt)]
              · rw [List.getElem?_set_ne (fun h => e h.symm)]; exact HST.out x (by omega))
            have HPUT2 := Lib.hid (show ∀ x, j + 1 ≤ x → x < k → (us.set j (.int .i64 (colZ k B f j - mm)))[x]? = some (.int .i64 (colZ k B f x)) from fun x hx hxk => by
              rw [List.getElem?_set_ne (by omega)]; exact HST2.out x (by omega) hxk)
            generalize colZ k B f j = z at *
            clear hu0
            go_wp2_with fail
            exact ⟨⟨j + 1, _, by simp, by omega, VRow.set HUS.out j (.int .i64 (z - mm)), by rw [List.length_set]; exact HUL.out, HPUT.out, HPUT2.out, Below.setCell (p := ⟨w2.heap.size, j, none⟩) HE.out (by show w.heap.size ≤ w2.heap.size; omega) _⟩, by simp [intOf]; omega⟩
          · obtain rfl : j = k := by omega
            have hus : us = (eigL j B f).map (Value.int .i64) := list_of (by rw [HUL.out]; simp [HEL.out]) (fun i u hu => by
              have hi := lt_len hu
              rw [HUL.out] at hi
              rw [HST.out i hi] at hu
              rw [← hu, List.getElem?_map, HEG.out i hi]; rfl)
            subst hus
            have HFIN := Lib.hid (HS.out w2.heap.size wq (by omega) HUS.out)
            go_wp2_with fail
            go_ret2
            exact ⟨HFIN.out, HE.out⟩
end Go.Proofs.YtbcngojiikdigaaGreat
