import Derived.Test.YtnoacppfgckohaaV28
import Derived.Test.YtnoacppfgckohaaS3
import Derived.WalkSmall
namespace Go.Proofs.Ytnoacppfgckohaa
open Go.RowKit Go.Shelf
attribute [local go_sem] Oper.semAt_some
def lenV : Value → Nat
  | .slice _ n _ => n
  | _ => 0
theorem popP_sub (v : Pt) : ∀ st : List Pt, (∀ x ∈ popP st v, x ∈ st) ∧ (popP st v).length ≤ st.length
  | [] => ⟨fun _ h => h, Nat.le_refl _⟩
  | [_] => ⟨fun _ h => h, Nat.le_refl _⟩
  | b :: a :: l => by
    have ih := popP_sub v (a :: l)
    simp only [popP]
    split
    · exact ⟨fun _ h => h, Nat.le_refl _⟩
    · exact ⟨fun x h => List.mem_cons_of_mem _ (ih.1 x h), Nat.le_trans ih.2 (by simp)⟩
theorem popP_short {v : Pt} {st : List Pt} (h : st.length ≤ 1) : popP st v = st := by
  match st, h with
  | [], _ => rfl
  | [_], _ => rfl
theorem bendS_snoc (l : List Pt) (v : Pt) : bendS (l ++ [v]) = v :: popP (bendS l) v := by simp [bendS]
theorem bendS_mem (l : List Pt) : ∀ m : List Pt, m <+: l → (∀ x ∈ bendS m, x ∈ l) ∧ (bendS m).length ≤ m.length := by
  intro m
  generalize hn : m.length = n
  induction n generalizing m with
  | zero =>
    intro _
    obtain rfl := List.length_eq_zero_iff.1 hn
    exact ⟨fun x h => by simp [bendS] at h, Nat.le_refl _⟩
  | succ n ih =>
    intro hm
    have hne : m ≠ [] := fun e => by rw [e] at hn; simp at hn
    have e := List.dropLast_concat_getLast hne
    have ih' := ih m.dropLast (by simp [hn]) ((List.dropLast_prefix m).trans hm)
    have hl : m.getLast hne ∈ l := hm.subset (List.getLast_mem hne)
    rw [← e, bendS_snoc]
    have p := popP_sub (m.getLast hne) (bendS m.dropLast)
    refine ⟨fun x hx => ?_, ?_⟩
    · rcases List.mem_cons.1 hx with rfl | hx
      · exact hl
      · exact ih'.1 x (p.1 x hx)
    · have := ih'.2
      simp only [List.length_cons]
      omega
theorem own_any {W : World} {base n : Nat} {v : Value} {xs : List Value} (h : W.ownsRow base 31 2 v n xs) : ∃ a cap, v = .slice a n cap := by
  rcases h.2 with ⟨rfl, rfl⟩ | ⟨g, cap, cur, hv, _⟩
  · exact ⟨_, _, rfl⟩
  · exact ⟨_, _, hv⟩
set_option maxRecDepth 100000 in
set_option maxHeartbeats 4000000 in
theorem bend_c (v : Value) (ps : List Pt) (w : World) (hv : Vecs w v ps) (hw : wideP ps) (hn : ps.length ≤ 1000) :
    Calls Try.prog 51 #[v] w fun e w' => ∃ r, e = .returned r ∧ w'.ownsRow w.heap.size 31 2 r (bendS ps).length (cellsOf (bendS ps).reverse) ∧ Ext w w' := by
  obtain ⟨a, cap, rfl, hl, hm, hra⟩ := hv.at
  have HA := Lib.hid hra
  have HWP := Lib.hid hw
  have HBM := Lib.hid (bendS_mem ps)
  clear hv hra hw
  go_enter Try.func51, Try.ntmps51
  go_wp2_with fail
  go_loopw [8, 3] (fun i s wr => ∃ k : Nat, k ≤ ps.length ∧ i = .int .i64 k ∧ wr.ownsRow w.heap.size 31 2 s (bendS (ps.take k)).length (cellsOf (bendS (ps.take k)).reverse) ∧ Ext w wr) (fun i _ _ => ps.length - (intOf i).toNat)
  case atStart => exact ⟨0, Nat.zero_le _, rfl, ⟨rfl, .inl ⟨rfl, rfl⟩⟩, Ext.refl _⟩
  case round =>
    obtain ⟨k, hk, rfl, hO, hE⟩ := hrel
    have HO := Lib.hid hO
    have HE := Lib.hid hE
    clear hO hE
    by_cases hlt : k < ps.length
    · obtain ⟨q, hq⟩ := getElem?_len hlt
      obtain ⟨b, o, rfl, hc0, hc1⟩ := HA.out k q hq
      replace hc0 := Ext.cell HE.out hc0
      replace hc1 := Ext.cell HE.out hc1
      have HST := Lib.hid (show bendS (ps.take (k + 1)) = q :: popP (bendS (ps.take k)) q by rw [take_succ_get hq, bendS_snoc])
      have HQ := Lib.hid (HWP.out q (List.mem_of_getElem? hq))
      have hbm := HBM.out (ps.take k) (List.take_prefix k ps)
      have hbl : (bendS (ps.take k)).length ≤ 1000 := by have := hbm.2; rw [List.length_take] at this; omega
      have HIN := Lib.hid (show ∀ x ∈ bendS (ps.take k), in4 x.1 ∧ in4 x.2 from fun x hx => by have := HWP.out x (hbm.1 x hx); unfold in4; omega)
      have hgl := cell_lt hc0
      generalize hst : bendS (ps.take k) = st at *
      go_wp2_with fail
      clear hc0 hc1 hq hst hbm
      have HB := Lib.hid (vrow_alloc wr [.int .i64 q.1, .int .i64 q.2] 31)
      change RowKit.Hid (VRow (wr.alloc (.cells #[.int .i64 q.1, .int .i64 q.2] 31)) _ _ _) at HB
      have HE8 := Lib.hid (Ext.trans HE.out (Ext.alloc (Ext.refl wr) (.cells #[.int .i64 q.1, .int .i64 q.2] 31)))
      have HO8 := Lib.hid (ownsRow_ext HO.out (Ext.alloc (Ext.refl wr) (.cells #[.int .i64 q.1, .int .i64 q.2] 31)))
      have hs8 : (wr.alloc (.cells #[.int .i64 q.1, .int .i64 q.2] 31)).heap.size = wr.heap.size + 1 := by simp
      clear HO HE
      generalize wr.alloc (.cells #[.int .i64 q.1, .int .i64 q.2] 31) = w8 at *
      obtain ⟨r9, hr9⟩ : ∃ r, r = wr.heap.size := ⟨_, rfl⟩
      rw [← hr9] at HB hs8 ⊢
      clear hr9
      go_loopw [3] (fun s wr2 => ∃ sk : List Pt, popP sk q = popP st q ∧ (∀ x ∈ sk, in4 x.1 ∧ in4 x.2) ∧ sk.length ≤ 1000 ∧ wr2.ownsRow w.heap.size 31 2 s sk.length (cellsOf sk.reverse) ∧ VRow wr2 r9 31 [.int .i64 q.1, .int .i64 q.2] ∧ Ext w wr2) (fun s _ => lenV s)
      case atStart => exact ⟨st, rfl, HIN.out, hbl, HO8.out, HB.out, HE8.out⟩
      case round =>
        clear HB HE8 HO8 HIN hbl hs8
        obtain ⟨sk, hpop, hin, hsl, hO, hB, hE⟩ := hrel
        have HPOP := Lib.hid hpop
        have HIN := Lib.hid hin
        have HO := Lib.hid hO
        have HB := Lib.hid hB
        have HE := Lib.hid hE
        have hrl := VRow.lt hB
        obtain ⟨a', cap', rfl⟩ := own_any hO
        clear hpop hin hO hB hE
        by_cases h1 : sk.length ≤ 1
        · have HS := Lib.hid (show bendS (ps.take (k + 1)) = q :: sk by rw [HST.out, ← HPOP.out, popP_short h1])
          clear HST HPOP HIN
          have hgt : ¬ ((sk.length : Int) > 1) := by omega
          go_wp2_with fail
          refine wp_region_stable [⟨[], none⟩, ⟨[(0, 12)], none⟩, ⟨[(1, 13)], none⟩, ⟨[(2, 14)], none⟩, ⟨[(3, 15)], some (15, true)⟩, ⟨[(3, 15)], some (15, true)⟩, ⟨[(5, 17), (3, 15)], some (15, true)⟩, ⟨[(6, 18), (3, 15)], some (15, true)⟩, ⟨[(4, 16), (7, 19), (3, 15)], some (15, true)⟩, ⟨[(8, 20), (3, 15)], some (15, true)⟩, ⟨[(3, 15)], some (15, true)⟩, ⟨[(3, 15)], some (15, true)⟩, ⟨[(11, 23), (3, 15)], some (15, true)⟩, ⟨[(12, 24), (3, 15)], some (15, true)⟩, ⟨[(10, 22), (13, 25), (3, 15)], some (15, true)⟩, ⟨[(14, 26), (3, 15)], some (15, true)⟩, ⟨[(3, 15)], some (15, true)⟩, ⟨[(9, 21), (15, 27), (16, 28), (3, 15)], some (15, true)⟩, ⟨[(17, 29), (3, 15)], some (15, true)⟩, ⟨[(3, 15), (18, 30)], none⟩] (fun x y => Below x.heap.size x y) (MPat [MP.eq (.slice a' sk.length cap'), MP.eq (.int .i64 sk.length), MP.eq (.bool false), MP.eq (.bool false), MP.eq (undef), MP.eq (undef), MP.eq (undef), MP.eq (undef), MP.eq (undef), MP.eq (undef), MP.eq (undef), MP.eq (undef), MP.eq (undef), MP.eq (undef), MP.eq (undef), MP.eq (undef), MP.eq (undef), MP.eq (undef), MP.eq (undef), MP.eq (.bool false)]) (by kernel_rfl) (fun _ _ _ h k => Ext.trans h k) (fun _ => Below.refl _ _) (fun x => (Below.refl x.heap.size x).drew) (MPat.mono _) (by kernel_rfl) ?obs ?rest
          case obs =>
            refine ⟨?_, ?_, ?_, ?_, ?_, ?_, ?_, ?_, ?_, ?_, ?_, ?_, ?_, ?_, ?_, ?_, ?_, ?_, ?_, ?_, trivial⟩
            · intro ev W hf _ _ hst hd
              have e3 : ev (.tmp 3) = .slice a' sk.length cap' := hf 3 (by kernel_rfl)
              refine st_value (v := .slice a' sk.length cap') ?_ (Below.refl _ _) ?_
              · simp [execOp, go_sem, e3]
              · exact rfl
            · intro ev W hf _ _ hst hd
              obtain ⟨d12, _⟩ := hd
              have e12 : ev (.tmp 12) = .slice a' sk.length cap' := d12
              refine st_value (v := .int .i64 sk.length) ?_ (Below.refl _ _) ?_
              · simp [go_sem, e12]
              · exact rfl
            · intro ev W hf hcst _ hst hd
              obtain ⟨d13, _⟩ := hd
              have e13 : ev (.tmp 13) = .int .i64 sk.length := d13
              refine st_value (v := .bool false) ?_ (Below.refl _ _) ?_
              · simp [execOp, go_sem, e13, hcst, hgt]
              · exact rfl
            · intro ev W hf _ _ hst hd
              obtain ⟨d14, _⟩ := hd
              have e14 : ev (.tmp 14) = .bool false := d14
              refine st_value (v := .bool false) ?_ (Below.refl _ _) ?_
              · simp [execOp, go_sem, e14]
              · exact rfl
            · intro ev W hf _ _ hst hd
              obtain ⟨d15, _⟩ := hd
              have e15 : ev (.tmp 15) = .bool false := d15
              refine ⟨fun hh => ?_, fun _ => rfl⟩
              rw [e15] at hh
              simp at hh
            · intro ev W hf _ _ hst hd
              obtain ⟨d15, _⟩ := hd
              have e15 : ev (.tmp 15) = .bool false := d15
              refine ⟨fun hh => ?_, fun _ => rfl⟩
              rw [e15] at hh
              simp at hh
            · intro ev W hf _ _ hst hd
              obtain ⟨d17, d15, _⟩ := hd
              have e15 : ev (.tmp 15) = .bool false := d15
              refine ⟨fun hh => ?_, fun _ => rfl⟩
              rw [e15] at hh
              simp at hh
            · intro ev W hf _ _ hst hd
              obtain ⟨d18, d15, _⟩ := hd
              have e15 : ev (.tmp 15) = .bool false := d15
              refine ⟨fun hh => ?_, fun _ => rfl⟩
              rw [e15] at hh
              simp at hh
            · intro ev W hf _ _ hst hd
              obtain ⟨d16, d19, d15, _⟩ := hd
              have e15 : ev (.tmp 15) = .bool false := d15
              refine ⟨fun hh => ?_, fun _ => rfl⟩
              rw [e15] at hh
              simp at hh
            · intro ev W hf _ _ hst hd
              obtain ⟨d20, d15, _⟩ := hd
              have e15 : ev (.tmp 15) = .bool false := d15
              refine ⟨fun hh => ?_, fun _ => rfl⟩
              rw [e15] at hh
              simp at hh
            · intro ev W hf _ _ hst hd
              obtain ⟨d15, _⟩ := hd
              have e15 : ev (.tmp 15) = .bool false := d15
              refine ⟨fun hh => ?_, fun _ => rfl⟩
              rw [e15] at hh
              simp at hh
            · intro ev W hf _ _ hst hd
              obtain ⟨d15, _⟩ := hd
              have e15 : ev (.tmp 15) = .bool false := d15
              refine ⟨fun hh => ?_, fun _ => rfl⟩
              rw [e15] at hh
              simp at hh
            · intro ev W hf _ _ hst hd
              obtain ⟨d23, d15, _⟩ := hd
              have e15 : ev (.tmp 15) = .bool false := d15
              refine ⟨fun hh => ?_, fun _ => rfl⟩
              rw [e15] at hh
              simp at hh
            · intro ev W hf _ _ hst hd
              obtain ⟨d24, d15, _⟩ := hd
              have e15 : ev (.tmp 15) = .bool false := d15
              refine ⟨fun hh => ?_, fun _ => rfl⟩
              rw [e15] at hh
              simp at hh
            · intro ev W hf _ _ hst hd
              obtain ⟨d22, d25, d15, _⟩ := hd
              have e15 : ev (.tmp 15) = .bool false := d15
              refine ⟨fun hh => ?_, fun _ => rfl⟩
              rw [e15] at hh
              simp at hh
            · intro ev W hf _ _ hst hd
              obtain ⟨d26, d15, _⟩ := hd
              have e15 : ev (.tmp 15) = .bool false := d15
              refine ⟨fun hh => ?_, fun _ => rfl⟩
              rw [e15] at hh
              simp at hh
            · intro ev W hf _ _ hst hd
              obtain ⟨d15, _⟩ := hd
              have e15 : ev (.tmp 15) = .bool false := d15
              refine ⟨fun hh => ?_, fun _ => rfl⟩
              rw [e15] at hh
              simp at hh
            · intro ev W hf _ _ hst hd
              obtain ⟨d21, d27, d28, d15, _⟩ := hd
              have e15 : ev (.tmp 15) = .bool false := d15
              refine ⟨fun hh => ?_, fun _ => rfl⟩
              rw [e15] at hh
              simp at hh
            · intro ev W hf _ _ hst hd
              obtain ⟨d29, d15, _⟩ := hd
              have e15 : ev (.tmp 15) = .bool false := d15
              refine ⟨fun hh => ?_, fun _ => rfl⟩
              rw [e15] at hh
              simp at hh
            · intro ev W hf hcst _ hst hd
              obtain ⟨d15, d30, _⟩ := hd
              have e15 : ev (.tmp 15) = .bool false := d15
              have e30 : ev (.tmp 30) = undef := d30
              refine st_value (v := .bool false) ?_ (Below.refl _ _) ?_
              · simp [execOp, go_sem, e15, e30, hcst]
              · exact rfl
          case rest =>
            intro vs w3 hl hst hg
            have hx0 : ∀ u, vs[0]? = some u → u = .slice a' sk.length cap' := fun u hu => hg 0 u hu
            have hx1 : ∀ u, vs[1]? = some u → u = .int .i64 sk.length := fun u hu => hg 1 u hu
            have hx2 : ∀ u, vs[2]? = some u → u = .bool false := fun u hu => hg 2 u hu
            have hx3 : ∀ u, vs[3]? = some u → u = .bool false := fun u hu => hg 3 u hu
            have hx4 : ∀ u, vs[4]? = some u → u = undef := fun u hu => hg 4 u hu
            have hx5 : ∀ u, vs[5]? = some u → u = undef := fun u hu => hg 5 u hu
            have hx6 : ∀ u, vs[6]? = some u → u = undef := fun u hu => hg 6 u hu
            have hx7 : ∀ u, vs[7]? = some u → u = undef := fun u hu => hg 7 u hu
            have hx8 : ∀ u, vs[8]? = some u → u = undef := fun u hu => hg 8 u hu
            have hx9 : ∀ u, vs[9]? = some u → u = undef := fun u hu => hg 9 u hu
            have hx10 : ∀ u, vs[10]? = some u → u = undef := fun u hu => hg 10 u hu
            have hx11 : ∀ u, vs[11]? = some u → u = undef := fun u hu => hg 11 u hu
            have hx12 : ∀ u, vs[12]? = some u → u = undef := fun u hu => hg 12 u hu
            have hx13 : ∀ u, vs[13]? = some u → u = undef := fun u hu => hg 13 u hu
            have hx14 : ∀ u, vs[14]? = some u → u = undef := fun u hu => hg 14 u hu
            have hx15 : ∀ u, vs[15]? = some u → u = undef := fun u hu => hg 15 u hu
            have hx16 : ∀ u, vs[16]? = some u → u = undef := fun u hu => hg 16 u hu
            have hx17 : ∀ u, vs[17]? = some u → u = undef := fun u hu => hg 17 u hu
            have hx18 : ∀ u, vs[18]? = some u → u = undef := fun u hu => hg 18 u hu
            have hx19 : ∀ u, vs[19]? = some u → u = .bool false := fun u hu => hg 19 u hu
            have HE3 := Lib.hid hst
            clear hg hst
            obtain ⟨x0, vs0, rfl, hl0⟩ := len_succ hl
            obtain ⟨x1, vs1, rfl, hl1⟩ := len_succ hl0
            obtain ⟨x2, vs2, rfl, hl2⟩ := len_succ hl1
            obtain ⟨x3, vs3, rfl, hl3⟩ := len_succ hl2
            obtain ⟨x4, vs4, rfl, hl4⟩ := len_succ hl3
            obtain ⟨x5, vs5, rfl, hl5⟩ := len_succ hl4
            obtain ⟨x6, vs6, rfl, hl6⟩ := len_succ hl5
            obtain ⟨x7, vs7, rfl, hl7⟩ := len_succ hl6
            obtain ⟨x8, vs8, rfl, hl8⟩ := len_succ hl7
            obtain ⟨x9, vs9, rfl, hl9⟩ := len_succ hl8
            obtain ⟨x10, vs10, rfl, hl10⟩ := len_succ hl9
            obtain ⟨x11, vs11, rfl, hl11⟩ := len_succ hl10
            obtain ⟨x12, vs12, rfl, hl12⟩ := len_succ hl11
            obtain ⟨x13, vs13, rfl, hl13⟩ := len_succ hl12
            obtain ⟨x14, vs14, rfl, hl14⟩ := len_succ hl13
            obtain ⟨x15, vs15, rfl, hl15⟩ := len_succ hl14
            obtain ⟨x16, vs16, rfl, hl16⟩ := len_succ hl15
            obtain ⟨x17, vs17, rfl, hl17⟩ := len_succ hl16
            obtain ⟨x18, vs18, rfl, hl18⟩ := len_succ hl17
            obtain ⟨x19, vs19, rfl, hl19⟩ := len_succ hl18
            have hnil : vs19 = [] := List.length_eq_zero_iff.1 hl19
            subst hnil
            obtain rfl : x0 = .slice a' sk.length cap' := hx0 _ rfl
            obtain rfl : x1 = .int .i64 sk.length := hx1 _ rfl
            obtain rfl : x2 = .bool false := hx2 _ rfl
            obtain rfl : x3 = .bool false := hx3 _ rfl
            obtain rfl : x4 = undef := hx4 _ rfl
            obtain rfl : x5 = undef := hx5 _ rfl
            obtain rfl : x6 = undef := hx6 _ rfl
            obtain rfl : x7 = undef := hx7 _ rfl
            obtain rfl : x8 = undef := hx8 _ rfl
            obtain rfl : x9 = undef := hx9 _ rfl
            obtain rfl : x10 = undef := hx10 _ rfl
            obtain rfl : x11 = undef := hx11 _ rfl
            obtain rfl : x12 = undef := hx12 _ rfl
            obtain rfl : x13 = undef := hx13 _ rfl
            obtain rfl : x14 = undef := hx14 _ rfl
            obtain rfl : x15 = undef := hx15 _ rfl
            obtain rfl : x16 = undef := hx16 _ rfl
            obtain rfl : x17 = undef := hx17 _ rfl
            obtain rfl : x18 = undef := hx18 _ rfl
            obtain rfl : x19 = .bool false := hx19 _ rfl
            clear hx0 hx1 hx2 hx3 hx4 hx5 hx6 hx7 hx8 hx9 hx10 hx11 hx12 hx13 hx14 hx15 hx16 hx17 hx18 hx19
            simp only [putAll, Act.put, List.setIfInBounds_toArray, List.set_cons_zero, List.set_cons_succ]
            have hB9 := VRow.ext HB.out HE3.out
            have HO39 := Lib.hid (ownsRow_ext HO.out HE3.out)
            have HE39 := Lib.hid (Ext.trans HE.out HE3.out)
            have d0 := VRow.cell hB9 (k := 0) rfl
            have d1 := VRow.cell hB9 (k := 1) rfl
            obtain ⟨i0, hi, hz0_, hz1, hz2⟩ := info_parts info31
            have HI := Lib.hid hi
            have HZ0 := Lib.hid hz0_
            have HZ1 := Lib.hid hz1
            have HZ2 := Lib.hid hz2
            clear hi hz0_ hz1 hz2 hB9
            have hsz9 := HE39.out.size
            have hob : ∀ j, Value.ownBlock (.slice a' sk.length cap') = some j → w.heap.size ≤ j := fun j hj => own_block HO39.out hj
            go_wp2_with (at_builtin; (refine wpList_append_own _ rfl _ _ 22 rfl w.heap.size 31 i0 (.agg #[.int .i64 0, .int .i64 0]) 2 16 Try.underlying22 HI.out HZ0.out HZ1.out HZ2.out rfl (by decide) _ _ _ rfl (ownsRow_ext HO39.out (Ext.alloc (Ext.refl w3) (.cells #[.int .i64 q.1, .int .i64 q.2] 31))) ⟨w3.heap.size, 0, none⟩ 1 1 [.int .i64 q.1, .int .i64 q.2] rfl rfl (fun j u h => cell_two_new w3 _ _ 31 j u h) (by simp [Value.oneCell']) (by unfold maxLen; omega) (by omega) (by simp; omega) ?_; intro v' w' hown' hgrow hnil; obtain ⟨g', cap'', rfl⟩ := ownsRow_succ hown'; have HO9 := Lib.hid hown'; have HG9 := Lib.hid hgrow; clear d0 d1 hown' hgrow hnil))
            have HE9 := Lib.hid (show Ext w w' from Below.grown (Ext.alloc HE39.out (.cells #[.int .i64 q.1, .int .i64 q.2] 31)) HG9.out (by have := HE39.out.size; simp; omega) (fun j e => hob j e))
            refine ⟨⟨k + 1, by omega, by (try simp) <;> (try omega), ?_, HE9.out⟩, by (try simp [intOf]) <;> (try omega)⟩
            rw [HS.out]
            have hce : cellsOf (q :: sk).reverse = cellsOf (sk).reverse ++ [.int .i64 q.1, .int .i64 q.2] := by rw [List.reverse_cons, cellsOf_append]; rfl
            rw [hce]
            have h9 := HO9.out
            exact h9
        · obtain ⟨b1, sk1, rfl⟩ : ∃ b1 sk1, sk = b1 :: sk1 := by
            cases sk with
            | nil => simp at h1
            | cons x l => exact ⟨x, l, rfl⟩
          obtain ⟨a1, l, rfl⟩ : ∃ a1 l, sk1 = a1 :: l := by
            cases sk1 with
            | nil => simp at h1
            | cons x l => exact ⟨x, l, rfl⟩
          obtain ⟨g, cap1, e, hg1, hg2, hg3, hg4⟩ := own_form HO.out (by simp)
          obtain ⟨rfl, rfl⟩ : a' = some ⟨g, 0, none⟩ ∧ cap' = cap1 := by injection e with e1 e2 e3; exact ⟨e1, e3⟩
          clear e
          obtain ⟨n, hN⟩ : ∃ n, n = (b1 :: a1 :: l).length := ⟨_, rfl⟩
          obtain ⟨m, hM⟩ : ∃ m, m = (a1 :: l).length := ⟨_, rfl⟩
          obtain ⟨j, hJ⟩ : ∃ j, j = l.length := ⟨_, rfl⟩
          have hpt := own_pts (qs := (b1 :: a1 :: l).reverse) HO.out (by simp) (by simp at hsl ⊢; omega)
          have p1 := hpt j a1 (by rw [hJ]; simp)
          have p2 := hpt m b1 (by rw [hM]; simp)
          rw [Nat.zero_add] at p1 p2
          have HC1 := Lib.hid p1
          have HC2 := Lib.hid p2
          clear hpt p1 p2
          have HO := Lib.hid (show wr.ownsRow w.heap.size 31 2 (.slice (some ⟨g, 0, none⟩) n cap') n (cellsOf (b1 :: a1 :: l).reverse) by rw [hN]; exact HO.out)
          rw [← hN] at hsl hg3 ⊢
          have hnm : n = m + 1 := by rw [hN, hM]; rfl
          have hmj : m = j + 1 := by rw [hM, hJ]; rfl
          have HML := Lib.hid hM
          have HNL := Lib.hid hN
          clear hN hM hJ
          have hgt : (n : Int) > 1 := by omega
          have hjn : j < n := by omega
          have hmn : m < n := by omega
          have HW1 := Lib.hid (show IntKind.i64.wrap ((n : Int) - 2) = (j : Int) by rw [show (n : Int) - 2 = (j : Int) by omega]; exact IntWalk.i64_in _ (by omega))
          have HW2 := Lib.hid (show IntKind.i64.wrap ((n : Int) - 1) = (m : Int) by rw [show (n : Int) - 1 = (m : Int) by omega]; exact IntWalk.i64_in _ (by omega))
          have HI1 := Lib.hid (HIN.out a1 (by simp))
          have HI2 := Lib.hid (HIN.out b1 (by simp))
          have HI3 := Lib.hid (show in4 q.1 ∧ in4 q.2 by have := HQ.out; unfold in4; omega)
          have Hnm := Lib.hid hnm
          have Hmj := Lib.hid hmj
          clear hnm hmj
          cases hlb : leftB a1 b1 q with
          | true =>
            have HS := Lib.hid (show bendS (ps.take (k + 1)) = q :: b1 :: a1 :: l by rw [HST.out, ← HPOP.out]; simp only [popP]; rw [if_pos hlb])
            have HLB := Lib.hid (show leftB (a1.1, a1.2) (b1.1, b1.2) (q.1, q.2) = true from hlb)
            clear HST HPOP HIN hlb
            go_wp2_with fail
            refine wp_region_stable [⟨[], none⟩, ⟨[(0, 12)], none⟩, ⟨[(1, 13)], none⟩, ⟨[(2, 14)], none⟩, ⟨[(3, 15)], some (15, true)⟩, ⟨[(3, 15)], some (15, true)⟩, ⟨[(5, 17), (3, 15)], some (15, true)⟩, ⟨[(6, 18), (3, 15)], some (15, true)⟩, ⟨[(4, 16), (7, 19), (3, 15)], some (15, true)⟩, ⟨[(8, 20), (3, 15)], some (15, true)⟩, ⟨[(3, 15)], some (15, true)⟩, ⟨[(3, 15)], some (15, true)⟩, ⟨[(11, 23), (3, 15)], some (15, true)⟩, ⟨[(12, 24), (3, 15)], some (15, true)⟩, ⟨[(10, 22), (13, 25), (3, 15)], some (15, true)⟩, ⟨[(14, 26), (3, 15)], some (15, true)⟩, ⟨[(3, 15)], some (15, true)⟩, ⟨[(9, 21), (15, 27), (16, 28), (3, 15)], some (15, true)⟩, ⟨[(17, 29), (3, 15)], some (15, true)⟩, ⟨[(3, 15), (18, 30)], none⟩] (fun x y => Below x.heap.size x y) (MPat [MP.eq (.slice (some ⟨g, 0, none⟩) n cap'), MP.eq (.int .i64 n), MP.eq (.bool true), MP.eq (.bool true), MP.eq (.slice (some ⟨g, 0, none⟩) n cap'), MP.eq (.slice (some ⟨g, 0, none⟩) n cap'), MP.eq (.int .i64 n), MP.eq (.int .i64 j), MP.eq (.pointer (some ⟨g, j * 2, none⟩)), MP.eq (vecV a1.1 a1.2), MP.eq (.slice (some ⟨g, 0, none⟩) n cap'), MP.eq (.slice (some ⟨g, 0, none⟩) n cap'), MP.eq (.int .i64 n), MP.eq (.int .i64 m), MP.eq (.pointer (some ⟨g, m * 2, none⟩)), MP.eq (vecV b1.1 b1.2), MP.eq (vecV q.1 q.2), MP.eq (.bool true), MP.eq (.bool false), MP.eq (.bool false)]) (by kernel_rfl) (fun _ _ _ h k => Ext.trans h k) (fun _ => Below.refl _ _) (fun x => (Below.refl x.heap.size x).drew) (MPat.mono _) (by kernel_rfl) ?obs ?rest
            case obs =>
              refine ⟨?_, ?_, ?_, ?_, ?_, ?_, ?_, ?_, ?_, ?_, ?_, ?_, ?_, ?_, ?_, ?_, ?_, ?_, ?_, ?_, trivial⟩
              · intro ev W hf _ _ hst hd
                have e3 : ev (.tmp 3) = .slice (some ⟨g, 0, none⟩) n cap' := hf 3 (by kernel_rfl)
                refine st_value (v := .slice (some ⟨g, 0, none⟩) n cap') ?_ (Below.refl _ _) ?_
                · simp [execOp, go_sem, e3]
                · exact rfl
              · intro ev W hf _ _ hst hd
                obtain ⟨d12, _⟩ := hd
                have e12 : ev (.tmp 12) = .slice (some ⟨g, 0, none⟩) n cap' := d12
                refine st_value (v := .int .i64 n) ?_ (Below.refl _ _) ?_
                · simp [go_sem, e12]
                · exact rfl
              · intro ev W hf hcst _ hst hd
                obtain ⟨d13, _⟩ := hd
                have e13 : ev (.tmp 13) = .int .i64 n := d13
                refine st_value (v := .bool true) ?_ (Below.refl _ _) ?_
                · simp [execOp, go_sem, e13, hcst, hgt]
                · exact rfl
              · intro ev W hf _ _ hst hd
                obtain ⟨d14, _⟩ := hd
                have e14 : ev (.tmp 14) = .bool true := d14
                refine st_value (v := .bool true) ?_ (Below.refl _ _) ?_
                · simp [execOp, go_sem, e14]
                · exact rfl
              · intro ev W hf _ _ hst hd
                obtain ⟨d15, _⟩ := hd
                have e3 : ev (.tmp 3) = .slice (some ⟨g, 0, none⟩) n cap' := hf 3 (by kernel_rfl)
                have e15 : ev (.tmp 15) = .bool true := d15
                refine ⟨fun _ => ?_, fun hne => absurd e15 hne⟩
                refine st_value (v := .slice (some ⟨g, 0, none⟩) n cap') ?_ (Below.refl _ _) ?_
                · simp [execOp, go_sem, e3]
                · exact rfl
              · intro ev W hf _ _ hst hd
                obtain ⟨d15, _⟩ := hd
                have e3 : ev (.tmp 3) = .slice (some ⟨g, 0, none⟩) n cap' := hf 3 (by kernel_rfl)
                have e15 : ev (.tmp 15) = .bool true := d15
                refine ⟨fun _ => ?_, fun hne => absurd e15 hne⟩
                refine st_value (v := .slice (some ⟨g, 0, none⟩) n cap') ?_ (Below.refl _ _) ?_
                · simp [execOp, go_sem, e3]
                · exact rfl
              · intro ev W hf _ _ hst hd
                obtain ⟨d17, d15, _⟩ := hd
                have e17 : ev (.tmp 17) = .slice (some ⟨g, 0, none⟩) n cap' := d17
                have e15 : ev (.tmp 15) = .bool true := d15
                refine ⟨fun _ => ?_, fun hne => absurd e15 hne⟩
                refine st_value (v := .int .i64 n) ?_ (Below.refl _ _) ?_
                · simp [go_sem, e17]
                · exact rfl
              · intro ev W hf hcst _ hst hd
                obtain ⟨d18, d15, _⟩ := hd
                have e18 : ev (.tmp 18) = .int .i64 n := d18
                have e15 : ev (.tmp 15) = .bool true := d15
                refine ⟨fun _ => ?_, fun hne => absurd e15 hne⟩
                refine st_value (v := .int .i64 j) ?_ (Below.refl _ _) ?_
                · simp [execOp, go_sem, e18, hcst, HW1.out]
                · exact rfl
              · intro ev W hf _ _ hst hd
                obtain ⟨d16, d19, d15, _⟩ := hd
                have e16 : ev (.tmp 16) = .slice (some ⟨g, 0, none⟩) n cap' := d16
                have e19 : ev (.tmp 19) = .int .i64 j := d19
                have e15 : ev (.tmp 15) = .bool true := d15
                refine ⟨fun _ => ?_, fun hne => absurd e15 hne⟩
                refine st_value (v := .pointer (some ⟨g, j * 2, none⟩)) ?_ (Below.refl _ _) ?_
                · simp [execOp, go_sem, e16, e19, hjn]
                · exact rfl
              · intro ev W hf _ _ hst hd
                obtain ⟨d20, d15, _⟩ := hd
                have e20 : ev (.tmp 20) = .pointer (some ⟨g, j * 2, none⟩) := d20
                have e15 : ev (.tmp 15) = .bool true := d15
                refine ⟨fun _ => ?_, fun hne => absurd e15 hne⟩
                have k0 := Ext.cell hst HC1.out.1
                have k1 := Ext.cell hst HC1.out.2
                refine st_value (v := vecV a1.1 a1.2) ?_ (Below.refl _ _) ?_
                · simp [execOp, go_sem, e20, k0, k1]
                · exact rfl
              · intro ev W hf _ _ hst hd
                obtain ⟨d15, _⟩ := hd
                have e3 : ev (.tmp 3) = .slice (some ⟨g, 0, none⟩) n cap' := hf 3 (by kernel_rfl)
                have e15 : ev (.tmp 15) = .bool true := d15
                refine ⟨fun _ => ?_, fun hne => absurd e15 hne⟩
                refine st_value (v := .slice (some ⟨g, 0, none⟩) n cap') ?_ (Below.refl _ _) ?_
                · simp [execOp, go_sem, e3]
                · exact rfl
              · intro ev W hf _ _ hst hd
                obtain ⟨d15, _⟩ := hd
                have e3 : ev (.tmp 3) = .slice (some ⟨g, 0, none⟩) n cap' := hf 3 (by kernel_rfl)
                have e15 : ev (.tmp 15) = .bool true := d15
                refine ⟨fun _ => ?_, fun hne => absurd e15 hne⟩
                refine st_value (v := .slice (some ⟨g, 0, none⟩) n cap') ?_ (Below.refl _ _) ?_
                · simp [execOp, go_sem, e3]
                · exact rfl
              · intro ev W hf _ _ hst hd
                obtain ⟨d23, d15, _⟩ := hd
                have e23 : ev (.tmp 23) = .slice (some ⟨g, 0, none⟩) n cap' := d23
                have e15 : ev (.tmp 15) = .bool true := d15
                refine ⟨fun _ => ?_, fun hne => absurd e15 hne⟩
                refine st_value (v := .int .i64 n) ?_ (Below.refl _ _) ?_
                · simp [go_sem, e23]
                · exact rfl
              · intro ev W hf hcst _ hst hd
                obtain ⟨d24, d15, _⟩ := hd
                have e24 : ev (.tmp 24) = .int .i64 n := d24
                have e15 : ev (.tmp 15) = .bool true := d15
                refine ⟨fun _ => ?_, fun hne => absurd e15 hne⟩
                refine st_value (v := .int .i64 m) ?_ (Below.refl _ _) ?_
                · simp [execOp, go_sem, e24, hcst, HW2.out]
                · exact rfl
              · intro ev W hf _ _ hst hd
                obtain ⟨d22, d25, d15, _⟩ := hd
                have e22 : ev (.tmp 22) = .slice (some ⟨g, 0, none⟩) n cap' := d22
                have e25 : ev (.tmp 25) = .int .i64 m := d25
                have e15 : ev (.tmp 15) = .bool true := d15
                refine ⟨fun _ => ?_, fun hne => absurd e15 hne⟩
                refine st_value (v := .pointer (some ⟨g, m * 2, none⟩)) ?_ (Below.refl _ _) ?_
                · simp [execOp, go_sem, e22, e25, hmn]
                · exact rfl
              · intro ev W hf _ _ hst hd
                obtain ⟨d26, d15, _⟩ := hd
                have e26 : ev (.tmp 26) = .pointer (some ⟨g, m * 2, none⟩) := d26
                have e15 : ev (.tmp 15) = .bool true := d15
                refine ⟨fun _ => ?_, fun hne => absurd e15 hne⟩
                have k0 := Ext.cell hst HC2.out.1
                have k1 := Ext.cell hst HC2.out.2
                refine st_value (v := vecV b1.1 b1.2) ?_ (Below.refl _ _) ?_
                · simp [execOp, go_sem, e26, k0, k1]
                · exact rfl
              · intro ev W hf _ _ hst hd
                obtain ⟨d15, _⟩ := hd
                have e5 : ev (.tmp 5) = .pointer (some ⟨r9, 0, none⟩) := hf 5 (by kernel_rfl)
                have e15 : ev (.tmp 15) = .bool true := d15
                refine ⟨fun _ => ?_, fun hne => absurd e15 hne⟩
                have kk := VRow.ext HB.out hst
                have k0 := VRow.cell kk (k := 0) rfl
                have k1 := VRow.cell kk (k := 1) rfl
                refine st_value (v := vecV q.1 q.2) ?_ (Below.refl _ _) ?_
                · simp [execOp, go_sem, e5, k0, k1]
                · exact rfl
              · intro ev W hf _ hfn hst hd
                obtain ⟨d21, d27, d28, d15, _⟩ := hd
                have e21 : ev (.tmp 21) = vecV a1.1 a1.2 := d21
                have e27 : ev (.tmp 27) = vecV b1.1 b1.2 := d27
                have e28 : ev (.tmp 28) = vecV q.1 q.2 := d28
                have e15 : ev (.tmp 15) = .bool true := d15
                refine ⟨fun _ => ?_, fun hne => absurd e15 hne⟩
                refine st_call (f := 65) (args := #[vecV a1.1 a1.2, vecV b1.1 b1.2, vecV q.1 q.2]) (by simp [execOp, go_sem, hfn, e21, e27, e28]) (by rw [← HLB.out]; exact leftOf_c a1.1 a1.2 b1.1 b1.2 q.1 q.2 W HI1.out HI2.out HI3.out) (fun _ _ => rfl)
              · intro ev W hf _ _ hst hd
                obtain ⟨d29, d15, _⟩ := hd
                have e29 : ev (.tmp 29) = .bool true := d29
                have e15 : ev (.tmp 15) = .bool true := d15
                refine ⟨fun _ => ?_, fun hne => absurd e15 hne⟩
                refine st_value (v := .bool false) ?_ (Below.refl _ _) ?_
                · simp [execOp, go_sem, e29]
                · exact rfl
              · intro ev W hf hcst _ hst hd
                obtain ⟨d15, d30, _⟩ := hd
                have e15 : ev (.tmp 15) = .bool true := d15
                have e30 : ev (.tmp 30) = .bool false := d30
                refine st_value (v := .bool false) ?_ (Below.refl _ _) ?_
                · simp [execOp, go_sem, e15, e30, hcst]
                · exact rfl
            case rest =>
              intro vs w3 hl hst hg
              have hx0 : ∀ u, vs[0]? = some u → u = .slice (some ⟨g, 0, none⟩) n cap' := fun u hu => hg 0 u hu
              have hx1 : ∀ u, vs[1]? = some u → u = .int .i64 n := fun u hu => hg 1 u hu
              have hx2 : ∀ u, vs[2]? = some u → u = .bool true := fun u hu => hg 2 u hu
              have hx3 : ∀ u, vs[3]? = some u → u = .bool true := fun u hu => hg 3 u hu
              have hx4 : ∀ u, vs[4]? = some u → u = .slice (some ⟨g, 0, none⟩) n cap' := fun u hu => hg 4 u hu
              have hx5 : ∀ u, vs[5]? = some u → u = .slice (some ⟨g, 0, none⟩) n cap' := fun u hu => hg 5 u hu
              have hx6 : ∀ u, vs[6]? = some u → u = .int .i64 n := fun u hu => hg 6 u hu
              have hx7 : ∀ u, vs[7]? = some u → u = .int .i64 j := fun u hu => hg 7 u hu
              have hx8 : ∀ u, vs[8]? = some u → u = .pointer (some ⟨g, j * 2, none⟩) := fun u hu => hg 8 u hu
              have hx9 : ∀ u, vs[9]? = some u → u = vecV a1.1 a1.2 := fun u hu => hg 9 u hu
              have hx10 : ∀ u, vs[10]? = some u → u = .slice (some ⟨g, 0, none⟩) n cap' := fun u hu => hg 10 u hu
              have hx11 : ∀ u, vs[11]? = some u → u = .slice (some ⟨g, 0, none⟩) n cap' := fun u hu => hg 11 u hu
              have hx12 : ∀ u, vs[12]? = some u → u = .int .i64 n := fun u hu => hg 12 u hu
              have hx13 : ∀ u, vs[13]? = some u → u = .int .i64 m := fun u hu => hg 13 u hu
              have hx14 : ∀ u, vs[14]? = some u → u = .pointer (some ⟨g, m * 2, none⟩) := fun u hu => hg 14 u hu
              have hx15 : ∀ u, vs[15]? = some u → u = vecV b1.1 b1.2 := fun u hu => hg 15 u hu
              have hx16 : ∀ u, vs[16]? = some u → u = vecV q.1 q.2 := fun u hu => hg 16 u hu
              have hx17 : ∀ u, vs[17]? = some u → u = .bool true := fun u hu => hg 17 u hu
              have hx18 : ∀ u, vs[18]? = some u → u = .bool false := fun u hu => hg 18 u hu
              have hx19 : ∀ u, vs[19]? = some u → u = .bool false := fun u hu => hg 19 u hu
              have HE3 := Lib.hid hst
              clear hg hst
              obtain ⟨x0, vs0, rfl, hl0⟩ := len_succ hl
              obtain ⟨x1, vs1, rfl, hl1⟩ := len_succ hl0
              obtain ⟨x2, vs2, rfl, hl2⟩ := len_succ hl1
              obtain ⟨x3, vs3, rfl, hl3⟩ := len_succ hl2
              obtain ⟨x4, vs4, rfl, hl4⟩ := len_succ hl3
              obtain ⟨x5, vs5, rfl, hl5⟩ := len_succ hl4
              obtain ⟨x6, vs6, rfl, hl6⟩ := len_succ hl5
              obtain ⟨x7, vs7, rfl, hl7⟩ := len_succ hl6
              obtain ⟨x8, vs8, rfl, hl8⟩ := len_succ hl7
              obtain ⟨x9, vs9, rfl, hl9⟩ := len_succ hl8
              obtain ⟨x10, vs10, rfl, hl10⟩ := len_succ hl9
              obtain ⟨x11, vs11, rfl, hl11⟩ := len_succ hl10
              obtain ⟨x12, vs12, rfl, hl12⟩ := len_succ hl11
              obtain ⟨x13, vs13, rfl, hl13⟩ := len_succ hl12
              obtain ⟨x14, vs14, rfl, hl14⟩ := len_succ hl13
              obtain ⟨x15, vs15, rfl, hl15⟩ := len_succ hl14
              obtain ⟨x16, vs16, rfl, hl16⟩ := len_succ hl15
              obtain ⟨x17, vs17, rfl, hl17⟩ := len_succ hl16
              obtain ⟨x18, vs18, rfl, hl18⟩ := len_succ hl17
              obtain ⟨x19, vs19, rfl, hl19⟩ := len_succ hl18
              have hnil : vs19 = [] := List.length_eq_zero_iff.1 hl19
              subst hnil
              obtain rfl : x0 = .slice (some ⟨g, 0, none⟩) n cap' := hx0 _ rfl
              obtain rfl : x1 = .int .i64 n := hx1 _ rfl
              obtain rfl : x2 = .bool true := hx2 _ rfl
              obtain rfl : x3 = .bool true := hx3 _ rfl
              obtain rfl : x4 = .slice (some ⟨g, 0, none⟩) n cap' := hx4 _ rfl
              obtain rfl : x5 = .slice (some ⟨g, 0, none⟩) n cap' := hx5 _ rfl
              obtain rfl : x6 = .int .i64 n := hx6 _ rfl
              obtain rfl : x7 = .int .i64 j := hx7 _ rfl
              obtain rfl : x8 = .pointer (some ⟨g, j * 2, none⟩) := hx8 _ rfl
              obtain rfl : x9 = vecV a1.1 a1.2 := hx9 _ rfl
              obtain rfl : x10 = .slice (some ⟨g, 0, none⟩) n cap' := hx10 _ rfl
              obtain rfl : x11 = .slice (some ⟨g, 0, none⟩) n cap' := hx11 _ rfl
              obtain rfl : x12 = .int .i64 n := hx12 _ rfl
              obtain rfl : x13 = .int .i64 m := hx13 _ rfl
              obtain rfl : x14 = .pointer (some ⟨g, m * 2, none⟩) := hx14 _ rfl
              obtain rfl : x15 = vecV b1.1 b1.2 := hx15 _ rfl
              obtain rfl : x16 = vecV q.1 q.2 := hx16 _ rfl
              obtain rfl : x17 = .bool true := hx17 _ rfl
              obtain rfl : x18 = .bool false := hx18 _ rfl
              obtain rfl : x19 = .bool false := hx19 _ rfl
              clear hx0 hx1 hx2 hx3 hx4 hx5 hx6 hx7 hx8 hx9 hx10 hx11 hx12 hx13 hx14 hx15 hx16 hx17 hx18 hx19
              simp only [putAll, Act.put, List.setIfInBounds_toArray, List.set_cons_zero, List.set_cons_succ]
              have hB9 := VRow.ext HB.out HE3.out
              have HO39 := Lib.hid (ownsRow_ext HO.out HE3.out)
              have HE39 := Lib.hid (Ext.trans HE.out HE3.out)
              have d0 := VRow.cell hB9 (k := 0) rfl
              have d1 := VRow.cell hB9 (k := 1) rfl
              obtain ⟨i0, hi, hz0_, hz1, hz2⟩ := info_parts info31
              have HI := Lib.hid hi
              have HZ0 := Lib.hid hz0_
              have HZ1 := Lib.hid hz1
              have HZ2 := Lib.hid hz2
              clear hi hz0_ hz1 hz2 hB9
              have hsz9 := HE39.out.size
              have hob : ∀ j, Value.ownBlock (.slice (some ⟨g, 0, none⟩) n cap') = some j → w.heap.size ≤ j := fun j hj => own_block HO39.out hj
              go_wp2_with (at_builtin; (refine wpList_append_own _ rfl _ _ 22 rfl w.heap.size 31 i0 (.agg #[.int .i64 0, .int .i64 0]) 2 16 Try.underlying22 HI.out HZ0.out HZ1.out HZ2.out rfl (by decide) _ _ _ rfl (ownsRow_ext HO39.out (Ext.alloc (Ext.refl w3) (.cells #[.int .i64 q.1, .int .i64 q.2] 31))) ⟨w3.heap.size, 0, none⟩ 1 1 [.int .i64 q.1, .int .i64 q.2] rfl rfl (fun j u h => cell_two_new w3 _ _ 31 j u h) (by simp [Value.oneCell']) (by unfold maxLen; omega) (by omega) (by simp; omega) ?_; intro v' w' hown' hgrow hnil; obtain ⟨g', cap'', rfl⟩ := ownsRow_succ hown'; have HO9 := Lib.hid hown'; have HG9 := Lib.hid hgrow; clear d0 d1 hown' hgrow hnil))
              have HE9 := Lib.hid (show Ext w w' from Below.grown (Ext.alloc HE39.out (.cells #[.int .i64 q.1, .int .i64 q.2] 31)) HG9.out (by have := HE39.out.size; simp; omega) (fun j e => hob j e))
              refine ⟨⟨k + 1, by omega, by (try simp) <;> (try omega), ?_, HE9.out⟩, by (try simp [intOf]) <;> (try omega)⟩
              rw [HS.out]
              have hce : cellsOf (q :: (b1 :: a1 :: l)).reverse = cellsOf ((b1 :: a1 :: l)).reverse ++ [.int .i64 q.1, .int .i64 q.2] := by rw [List.reverse_cons, cellsOf_append]; rfl
              rw [hce]
              have h9 := HO9.out
              rw [show (q :: b1 :: a1 :: l).length = n + 1 by rw [HNL.out]; rfl]
              exact h9
          | false =>
            have HPP := Lib.hid (show popP (a1 :: l) q = popP st q by rw [← HPOP.out]; simp only [popP]; rw [if_neg (by rw [hlb]; decide)])
            have HLB := Lib.hid (show leftB (a1.1, a1.2) (b1.1, b1.2) (q.1, q.2) = false from hlb)
            clear HST HPOP hlb
            go_wp2_with fail
            refine wp_region_stable [⟨[], none⟩, ⟨[(0, 12)], none⟩, ⟨[(1, 13)], none⟩, ⟨[(2, 14)], none⟩, ⟨[(3, 15)], some (15, true)⟩, ⟨[(3, 15)], some (15, true)⟩, ⟨[(5, 17), (3, 15)], some (15, true)⟩, ⟨[(6, 18), (3, 15)], some (15, true)⟩, ⟨[(4, 16), (7, 19), (3, 15)], some (15, true)⟩, ⟨[(8, 20), (3, 15)], some (15, true)⟩, ⟨[(3, 15)], some (15, true)⟩, ⟨[(3, 15)], some (15, true)⟩, ⟨[(11, 23), (3, 15)], some (15, true)⟩, ⟨[(12, 24), (3, 15)], some (15, true)⟩, ⟨[(10, 22), (13, 25), (3, 15)], some (15, true)⟩, ⟨[(14, 26), (3, 15)], some (15, true)⟩, ⟨[(3, 15)], some (15, true)⟩, ⟨[(9, 21), (15, 27), (16, 28), (3, 15)], some (15, true)⟩, ⟨[(17, 29), (3, 15)], some (15, true)⟩, ⟨[(3, 15), (18, 30)], none⟩] (fun x y => Below x.heap.size x y) (MPat [MP.eq (.slice (some ⟨g, 0, none⟩) n cap'), MP.eq (.int .i64 n), MP.eq (.bool true), MP.eq (.bool true), MP.eq (.slice (some ⟨g, 0, none⟩) n cap'), MP.eq (.slice (some ⟨g, 0, none⟩) n cap'), MP.eq (.int .i64 n), MP.eq (.int .i64 j), MP.eq (.pointer (some ⟨g, j * 2, none⟩)), MP.eq (vecV a1.1 a1.2), MP.eq (.slice (some ⟨g, 0, none⟩) n cap'), MP.eq (.slice (some ⟨g, 0, none⟩) n cap'), MP.eq (.int .i64 n), MP.eq (.int .i64 m), MP.eq (.pointer (some ⟨g, m * 2, none⟩)), MP.eq (vecV b1.1 b1.2), MP.eq (vecV q.1 q.2), MP.eq (.bool false), MP.eq (.bool true), MP.eq (.bool true)]) (by kernel_rfl) (fun _ _ _ h k => Ext.trans h k) (fun _ => Below.refl _ _) (fun x => (Below.refl x.heap.size x).drew) (MPat.mono _) (by kernel_rfl) ?obs ?rest
            case obs =>
              refine ⟨?_, ?_, ?_, ?_, ?_, ?_, ?_, ?_, ?_, ?_, ?_, ?_, ?_, ?_, ?_, ?_, ?_, ?_, ?_, ?_, trivial⟩
              · intro ev W hf _ _ hst hd
                have e3 : ev (.tmp 3) = .slice (some ⟨g, 0, none⟩) n cap' := hf 3 (by kernel_rfl)
                refine st_value (v := .slice (some ⟨g, 0, none⟩) n cap') ?_ (Below.refl _ _) ?_
                · simp [execOp, go_sem, e3]
                · exact rfl
              · intro ev W hf _ _ hst hd
                obtain ⟨d12, _⟩ := hd
                have e12 : ev (.tmp 12) = .slice (some ⟨g, 0, none⟩) n cap' := d12
                refine st_value (v := .int .i64 n) ?_ (Below.refl _ _) ?_
                · simp [go_sem, e12]
                · exact rfl
              · intro ev W hf hcst _ hst hd
                obtain ⟨d13, _⟩ := hd
                have e13 : ev (.tmp 13) = .int .i64 n := d13
                refine st_value (v := .bool true) ?_ (Below.refl _ _) ?_
                · simp [execOp, go_sem, e13, hcst, hgt]
                · exact rfl
              · intro ev W hf _ _ hst hd
                obtain ⟨d14, _⟩ := hd
                have e14 : ev (.tmp 14) = .bool true := d14
                refine st_value (v := .bool true) ?_ (Below.refl _ _) ?_
                · simp [execOp, go_sem, e14]
                · exact rfl
              · intro ev W hf _ _ hst hd
                obtain ⟨d15, _⟩ := hd
                have e3 : ev (.tmp 3) = .slice (some ⟨g, 0, none⟩) n cap' := hf 3 (by kernel_rfl)
                have e15 : ev (.tmp 15) = .bool true := d15
                refine ⟨fun _ => ?_, fun hne => absurd e15 hne⟩
                refine st_value (v := .slice (some ⟨g, 0, none⟩) n cap') ?_ (Below.refl _ _) ?_
                · simp [execOp, go_sem, e3]
                · exact rfl
              · intro ev W hf _ _ hst hd
                obtain ⟨d15, _⟩ := hd
                have e3 : ev (.tmp 3) = .slice (some ⟨g, 0, none⟩) n cap' := hf 3 (by kernel_rfl)
                have e15 : ev (.tmp 15) = .bool true := d15
                refine ⟨fun _ => ?_, fun hne => absurd e15 hne⟩
                refine st_value (v := .slice (some ⟨g, 0, none⟩) n cap') ?_ (Below.refl _ _) ?_
                · simp [execOp, go_sem, e3]
                · exact rfl
              · intro ev W hf _ _ hst hd
                obtain ⟨d17, d15, _⟩ := hd
                have e17 : ev (.tmp 17) = .slice (some ⟨g, 0, none⟩) n cap' := d17
                have e15 : ev (.tmp 15) = .bool true := d15
                refine ⟨fun _ => ?_, fun hne => absurd e15 hne⟩
                refine st_value (v := .int .i64 n) ?_ (Below.refl _ _) ?_
                · simp [go_sem, e17]
                · exact rfl
              · intro ev W hf hcst _ hst hd
                obtain ⟨d18, d15, _⟩ := hd
                have e18 : ev (.tmp 18) = .int .i64 n := d18
                have e15 : ev (.tmp 15) = .bool true := d15
                refine ⟨fun _ => ?_, fun hne => absurd e15 hne⟩
                refine st_value (v := .int .i64 j) ?_ (Below.refl _ _) ?_
                · simp [execOp, go_sem, e18, hcst, HW1.out]
                · exact rfl
              · intro ev W hf _ _ hst hd
                obtain ⟨d16, d19, d15, _⟩ := hd
                have e16 : ev (.tmp 16) = .slice (some ⟨g, 0, none⟩) n cap' := d16
                have e19 : ev (.tmp 19) = .int .i64 j := d19
                have e15 : ev (.tmp 15) = .bool true := d15
                refine ⟨fun _ => ?_, fun hne => absurd e15 hne⟩
                refine st_value (v := .pointer (some ⟨g, j * 2, none⟩)) ?_ (Below.refl _ _) ?_
                · simp [execOp, go_sem, e16, e19, hjn]
                · exact rfl
              · intro ev W hf _ _ hst hd
                obtain ⟨d20, d15, _⟩ := hd
                have e20 : ev (.tmp 20) = .pointer (some ⟨g, j * 2, none⟩) := d20
                have e15 : ev (.tmp 15) = .bool true := d15
                refine ⟨fun _ => ?_, fun hne => absurd e15 hne⟩
                have k0 := Ext.cell hst HC1.out.1
                have k1 := Ext.cell hst HC1.out.2
                refine st_value (v := vecV a1.1 a1.2) ?_ (Below.refl _ _) ?_
                · simp [execOp, go_sem, e20, k0, k1]
                · exact rfl
              · intro ev W hf _ _ hst hd
                obtain ⟨d15, _⟩ := hd
                have e3 : ev (.tmp 3) = .slice (some ⟨g, 0, none⟩) n cap' := hf 3 (by kernel_rfl)
                have e15 : ev (.tmp 15) = .bool true := d15
                refine ⟨fun _ => ?_, fun hne => absurd e15 hne⟩
                refine st_value (v := .slice (some ⟨g, 0, none⟩) n cap') ?_ (Below.refl _ _) ?_
                · simp [execOp, go_sem, e3]
                · exact rfl
              · intro ev W hf _ _ hst hd
                obtain ⟨d15, _⟩ := hd
                have e3 : ev (.tmp 3) = .slice (some ⟨g, 0, none⟩) n cap' := hf 3 (by kernel_rfl)
                have e15 : ev (.tmp 15) = .bool true := d15
                refine ⟨fun _ => ?_, fun hne => absurd e15 hne⟩
                refine st_value (v := .slice (some ⟨g, 0, none⟩) n cap') ?_ (Below.refl _ _) ?_
                · simp [execOp, go_sem, e3]
                · exact rfl
              · intro ev W hf _ _ hst hd
                obtain ⟨d23, d15, _⟩ := hd
                have e23 : ev (.tmp 23) = .slice (some ⟨g, 0, none⟩) n cap' := d23
                have e15 : ev (.tmp 15) = .bool true := d15
                refine ⟨fun _ => ?_, fun hne => absurd e15 hne⟩
                refine st_value (v := .int .i64 n) ?_ (Below.refl _ _) ?_
                · simp [go_sem, e23]
                · exact rfl
              · intro ev W hf hcst _ hst hd
                obtain ⟨d24, d15, _⟩ := hd
                have e24 : ev (.tmp 24) = .int .i64 n := d24
                have e15 : ev (.tmp 15) = .bool true := d15
                refine ⟨fun _ => ?_, fun hne => absurd e15 hne⟩
                refine st_value (v := .int .i64 m) ?_ (Below.refl _ _) ?_
                · simp [execOp, go_sem, e24, hcst, HW2.out]
                · exact rfl
              · intro ev W hf _ _ hst hd
                obtain ⟨d22, d25, d15, _⟩ := hd
                have e22 : ev (.tmp 22) = .slice (some ⟨g, 0, none⟩) n cap' := d22
                have e25 : ev (.tmp 25) = .int .i64 m := d25
                have e15 : ev (.tmp 15) = .bool true := d15
                refine ⟨fun _ => ?_, fun hne => absurd e15 hne⟩
                refine st_value (v := .pointer (some ⟨g, m * 2, none⟩)) ?_ (Below.refl _ _) ?_
                · simp [execOp, go_sem, e22, e25, hmn]
                · exact rfl
              · intro ev W hf _ _ hst hd
                obtain ⟨d26, d15, _⟩ := hd
                have e26 : ev (.tmp 26) = .pointer (some ⟨g, m * 2, none⟩) := d26
                have e15 : ev (.tmp 15) = .bool true := d15
                refine ⟨fun _ => ?_, fun hne => absurd e15 hne⟩
                have k0 := Ext.cell hst HC2.out.1
                have k1 := Ext.cell hst HC2.out.2
                refine st_value (v := vecV b1.1 b1.2) ?_ (Below.refl _ _) ?_
                · simp [execOp, go_sem, e26, k0, k1]
                · exact rfl
              · intro ev W hf _ _ hst hd
                obtain ⟨d15, _⟩ := hd
                have e5 : ev (.tmp 5) = .pointer (some ⟨r9, 0, none⟩) := hf 5 (by kernel_rfl)
                have e15 : ev (.tmp 15) = .bool true := d15
                refine ⟨fun _ => ?_, fun hne => absurd e15 hne⟩
                have kk := VRow.ext HB.out hst
                have k0 := VRow.cell kk (k := 0) rfl
                have k1 := VRow.cell kk (k := 1) rfl
                refine st_value (v := vecV q.1 q.2) ?_ (Below.refl _ _) ?_
                · simp [execOp, go_sem, e5, k0, k1]
                · exact rfl
              · intro ev W hf _ hfn hst hd
                obtain ⟨d21, d27, d28, d15, _⟩ := hd
                have e21 : ev (.tmp 21) = vecV a1.1 a1.2 := d21
                have e27 : ev (.tmp 27) = vecV b1.1 b1.2 := d27
                have e28 : ev (.tmp 28) = vecV q.1 q.2 := d28
                have e15 : ev (.tmp 15) = .bool true := d15
                refine ⟨fun _ => ?_, fun hne => absurd e15 hne⟩
                refine st_call (f := 65) (args := #[vecV a1.1 a1.2, vecV b1.1 b1.2, vecV q.1 q.2]) (by simp [execOp, go_sem, hfn, e21, e27, e28]) (by rw [← HLB.out]; exact leftOf_c a1.1 a1.2 b1.1 b1.2 q.1 q.2 W HI1.out HI2.out HI3.out) (fun _ _ => rfl)
              · intro ev W hf _ _ hst hd
                obtain ⟨d29, d15, _⟩ := hd
                have e29 : ev (.tmp 29) = .bool false := d29
                have e15 : ev (.tmp 15) = .bool true := d15
                refine ⟨fun _ => ?_, fun hne => absurd e15 hne⟩
                refine st_value (v := .bool true) ?_ (Below.refl _ _) ?_
                · simp [execOp, go_sem, e29]
                · exact rfl
              · intro ev W hf hcst _ hst hd
                obtain ⟨d15, d30, _⟩ := hd
                have e15 : ev (.tmp 15) = .bool true := d15
                have e30 : ev (.tmp 30) = .bool true := d30
                refine st_value (v := .bool true) ?_ (Below.refl _ _) ?_
                · simp [execOp, go_sem, e15, e30, hcst]
                · exact rfl
            case rest =>
              intro vs w3 hl hst hg
              have hx0 : ∀ u, vs[0]? = some u → u = .slice (some ⟨g, 0, none⟩) n cap' := fun u hu => hg 0 u hu
              have hx1 : ∀ u, vs[1]? = some u → u = .int .i64 n := fun u hu => hg 1 u hu
              have hx2 : ∀ u, vs[2]? = some u → u = .bool true := fun u hu => hg 2 u hu
              have hx3 : ∀ u, vs[3]? = some u → u = .bool true := fun u hu => hg 3 u hu
              have hx4 : ∀ u, vs[4]? = some u → u = .slice (some ⟨g, 0, none⟩) n cap' := fun u hu => hg 4 u hu
              have hx5 : ∀ u, vs[5]? = some u → u = .slice (some ⟨g, 0, none⟩) n cap' := fun u hu => hg 5 u hu
              have hx6 : ∀ u, vs[6]? = some u → u = .int .i64 n := fun u hu => hg 6 u hu
              have hx7 : ∀ u, vs[7]? = some u → u = .int .i64 j := fun u hu => hg 7 u hu
              have hx8 : ∀ u, vs[8]? = some u → u = .pointer (some ⟨g, j * 2, none⟩) := fun u hu => hg 8 u hu
              have hx9 : ∀ u, vs[9]? = some u → u = vecV a1.1 a1.2 := fun u hu => hg 9 u hu
              have hx10 : ∀ u, vs[10]? = some u → u = .slice (some ⟨g, 0, none⟩) n cap' := fun u hu => hg 10 u hu
              have hx11 : ∀ u, vs[11]? = some u → u = .slice (some ⟨g, 0, none⟩) n cap' := fun u hu => hg 11 u hu
              have hx12 : ∀ u, vs[12]? = some u → u = .int .i64 n := fun u hu => hg 12 u hu
              have hx13 : ∀ u, vs[13]? = some u → u = .int .i64 m := fun u hu => hg 13 u hu
              have hx14 : ∀ u, vs[14]? = some u → u = .pointer (some ⟨g, m * 2, none⟩) := fun u hu => hg 14 u hu
              have hx15 : ∀ u, vs[15]? = some u → u = vecV b1.1 b1.2 := fun u hu => hg 15 u hu
              have hx16 : ∀ u, vs[16]? = some u → u = vecV q.1 q.2 := fun u hu => hg 16 u hu
              have hx17 : ∀ u, vs[17]? = some u → u = .bool false := fun u hu => hg 17 u hu
              have hx18 : ∀ u, vs[18]? = some u → u = .bool true := fun u hu => hg 18 u hu
              have hx19 : ∀ u, vs[19]? = some u → u = .bool true := fun u hu => hg 19 u hu
              have HE3 := Lib.hid hst
              clear hg hst
              obtain ⟨x0, vs0, rfl, hl0⟩ := len_succ hl
              obtain ⟨x1, vs1, rfl, hl1⟩ := len_succ hl0
              obtain ⟨x2, vs2, rfl, hl2⟩ := len_succ hl1
              obtain ⟨x3, vs3, rfl, hl3⟩ := len_succ hl2
              obtain ⟨x4, vs4, rfl, hl4⟩ := len_succ hl3
              obtain ⟨x5, vs5, rfl, hl5⟩ := len_succ hl4
              obtain ⟨x6, vs6, rfl, hl6⟩ := len_succ hl5
              obtain ⟨x7, vs7, rfl, hl7⟩ := len_succ hl6
              obtain ⟨x8, vs8, rfl, hl8⟩ := len_succ hl7
              obtain ⟨x9, vs9, rfl, hl9⟩ := len_succ hl8
              obtain ⟨x10, vs10, rfl, hl10⟩ := len_succ hl9
              obtain ⟨x11, vs11, rfl, hl11⟩ := len_succ hl10
              obtain ⟨x12, vs12, rfl, hl12⟩ := len_succ hl11
              obtain ⟨x13, vs13, rfl, hl13⟩ := len_succ hl12
              obtain ⟨x14, vs14, rfl, hl14⟩ := len_succ hl13
              obtain ⟨x15, vs15, rfl, hl15⟩ := len_succ hl14
              obtain ⟨x16, vs16, rfl, hl16⟩ := len_succ hl15
              obtain ⟨x17, vs17, rfl, hl17⟩ := len_succ hl16
              obtain ⟨x18, vs18, rfl, hl18⟩ := len_succ hl17
              obtain ⟨x19, vs19, rfl, hl19⟩ := len_succ hl18
              have hnil : vs19 = [] := List.length_eq_zero_iff.1 hl19
              subst hnil
              obtain rfl : x0 = .slice (some ⟨g, 0, none⟩) n cap' := hx0 _ rfl
              obtain rfl : x1 = .int .i64 n := hx1 _ rfl
              obtain rfl : x2 = .bool true := hx2 _ rfl
              obtain rfl : x3 = .bool true := hx3 _ rfl
              obtain rfl : x4 = .slice (some ⟨g, 0, none⟩) n cap' := hx4 _ rfl
              obtain rfl : x5 = .slice (some ⟨g, 0, none⟩) n cap' := hx5 _ rfl
              obtain rfl : x6 = .int .i64 n := hx6 _ rfl
              obtain rfl : x7 = .int .i64 j := hx7 _ rfl
              obtain rfl : x8 = .pointer (some ⟨g, j * 2, none⟩) := hx8 _ rfl
              obtain rfl : x9 = vecV a1.1 a1.2 := hx9 _ rfl
              obtain rfl : x10 = .slice (some ⟨g, 0, none⟩) n cap' := hx10 _ rfl
              obtain rfl : x11 = .slice (some ⟨g, 0, none⟩) n cap' := hx11 _ rfl
              obtain rfl : x12 = .int .i64 n := hx12 _ rfl
              obtain rfl : x13 = .int .i64 m := hx13 _ rfl
              obtain rfl : x14 = .pointer (some ⟨g, m * 2, none⟩) := hx14 _ rfl
              obtain rfl : x15 = vecV b1.1 b1.2 := hx15 _ rfl
              obtain rfl : x16 = vecV q.1 q.2 := hx16 _ rfl
              obtain rfl : x17 = .bool false := hx17 _ rfl
              obtain rfl : x18 = .bool true := hx18 _ rfl
              obtain rfl : x19 = .bool true := hx19 _ rfl
              clear hx0 hx1 hx2 hx3 hx4 hx5 hx6 hx7 hx8 hx9 hx10 hx11 hx12 hx13 hx14 hx15 hx16 hx17 hx18 hx19
              simp only [putAll, Act.put, List.setIfInBounds_toArray, List.set_cons_zero, List.set_cons_succ]
              have HO9 := Lib.hid (ownsRow_ext HO.out HE3.out)
              have HB9 := Lib.hid (VRow.ext HB.out HE3.out)
              have HE9 := Lib.hid (Ext.trans HE.out HE3.out)
              have hw2 := HW2.out
              have hnm := Hnm.out
              have hw3 : wrap64 ((n : Int) - 1) = (m : Int) := by unfold wrap64; omega
              have hmc : m ≤ cap' := by omega
              go_wp2
              refine ⟨⟨a1 :: l, HPP.out, fun x hx => HIN.out x (List.mem_cons_of_mem _ hx), ?_, ?_, HB9.out, HE9.out⟩, ?_⟩
              · have := HML.out; omega
              · have h := HO9.out
                rw [hnm, List.reverse_cons, cellsOf_append] at h
                rw [← HML.out]
                refine ownsRow_pop ?_ h
                rw [cellsOf_length, List.length_reverse, ← HML.out]
              · show m < n
                omega
    · obtain rfl : k = ps.length := by omega
      have HO' := Lib.hid (show wr.ownsRow w.heap.size 31 2 _ (bendS ps).length (cellsOf (bendS ps).reverse) by have := HO.out; rwa [List.take_length] at this)
      clear HO
      go_wp2_with fail
      go_ret
      exact ⟨_, rfl, HO'.out, HE.out⟩
end Go.Proofs.Ytnoacppfgckohaa
