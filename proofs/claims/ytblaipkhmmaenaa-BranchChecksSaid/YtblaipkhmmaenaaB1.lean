import Derived.Test.YtblaipkhmmaenaaW12
import Derived.Test.YtblaipkhmmaenaaR2
namespace Go.Proofs.Ytblaipkhmmaenaa
open Go.RowKit
structure Who where
  A : List (List Int)
  B : List Int
  C : List Int
  U : List Int
abbrev Who.prg (p : Who) : Prg := ⟨p.A, p.B, p.C⟩
def WhoAt (w : World) (a b c u : Value) (p : Who) : Prop := PrgAt w a b c p.prg ∧ Ints w u p.U
theorem WhoAt.ext {w w' : World} {a b c u : Value} {p : Who} (h : WhoAt w a b c u p) (he : Ext w w') : WhoAt w' a b c u p := ⟨prgAt_ext h.1 he, h.2.ext he⟩
def upB (x : Int) : Bool := decide (0 ≤ x) && decide (x ≤ 7)
def whoB (p : Who) : Bool := decide (p.C.length ≤ 5) && decide (p.U.length = p.C.length) && p.U.all upB && programB p.prg
def lightB (p : Who) : Bool := decide (p.A.length ≤ 20) && decide (p.B.length ≤ 20) && decide (p.C.length ≤ 20) && decide (p.U.length ≤ 20) && p.A.all (fun r => decide (r.length ≤ 20))
set_option maxHeartbeats 400000 in
theorem bdot_c (u v : Value) (xs ys : List Int) (w : World) (hx : Ints w u xs) (hy : Ints w v ys) (hl : xs.length ≤ ys.length) :
    Calls Try.prog 35 #[u, v] w fun e w' => e = .returned (.int .i64 (wrap64 (dotZ xs ys))) ∧ w = w' := by
  obtain ⟨ax, cx, rfl, hxc, hxm, hrx⟩ := hx
  obtain ⟨ay, cy, rfl, hyc, hym, hry⟩ := hy
  go_enter Try.func35, Try.ntmps35
  go_wp2
  go_loop [5, 10] (fun s i => ∃ k : Nat, k ≤ xs.length ∧ i = .int .i64 k ∧ s = .int .i64 (wrap64 (dotZ (xs.take k) ys))) (fun _ i => xs.length - (intOf i).toNat)
  case atStart => exact ⟨0, Nat.zero_le _, rfl, by simp [dotZ_nil, wrap64]⟩
  case round =>
    obtain ⟨k, hk, rfl, rfl⟩ := hrel
    by_cases hlt : k < xs.length
    · obtain ⟨bx, ox, rfl, hcx⟩ := hrx.at (by simp; omega)
      obtain ⟨b, o, rfl, hcy⟩ := hry.at (by simp; omega)
      obtain ⟨x, hx⟩ := getElem?_len hlt
      obtain ⟨y, hy⟩ := getElem?_len (show k < ys.length by omega)
      have h1 := hcx k (.int .i64 x) (by simp [hx])
      have h2 := hcy k (.int .i64 y) (by simp [hy])
      have Hs := Lib.hid (dotZ_take_succ xs ys k x y hx hy)
      clear hcx hcy hrx hry hx hy
      go_wp2
      refine ⟨⟨k + 1, by omega, by go_num, ?_⟩, by simp [intOf]; omega⟩
      rw [Hs.out, wrap64_add, wrap64_add']
    · go_wp2
      go_ret
      refine ⟨ret_int ?_, rfl⟩
      rw [List.take_of_length_le (by omega)]

set_option maxHeartbeats 400000 in
theorem sdot_c (u v : Value) (xs ys : List Int) (w : World) (hx : Ints w u xs) (hy : Ints w v ys) (hl : xs.length ≤ ys.length) :
    Calls Try.prog 25 #[u, v] w fun e w' => e = .returned (.int .i64 (wrap64 (dotZ xs ys))) ∧ ∃ n, w' = w.drewN n := by
  obtain ⟨ax, cx, rfl, hxc, hxm, hrx⟩ := hx.at
  obtain ⟨ay, cy, rfl, hyc, hym, hry⟩ := hy.at
  clear hx hy
  go_enter Try.func25, Try.ntmps25
  go_wp2
  go_loopw [5, 6] (fun s i wr => ∃ k : Nat, k ≤ xs.length ∧ i = .int .i64 k ∧ s = .int .i64 (wrap64 (dotZ (xs.take k) ys)) ∧ ∃ n, wr = w.drewN n) (fun _ i _ => xs.length - (intOf i).toNat)
  case atStart => exact ⟨0, Nat.zero_le _, rfl, by simp [dotZ_nil, wrap64], 0, rfl⟩
  case round =>
    obtain ⟨k, hk, rfl, rfl, n, rfl⟩ := hrel
    by_cases hlt : k < xs.length
    · obtain ⟨x, hx⟩ := getElem?_len hlt
      obtain ⟨y, hy⟩ := getElem?_len (show k < ys.length by omega)
      obtain ⟨bx, ox, rfl, h1⟩ := hrx k x hx
      obtain ⟨b, o, rfl, h2⟩ := hry k y hy
      have Hs := Lib.hid (dotZ_take_succ xs ys k x y hx hy)
      clear hrx hry hx hy
      have hi1 : (k : Int) < (xs.length : Int) := by omega
      have hi2 : (k : Int) < (ys.length : Int) := by omega
      go_wp2
      go_quiet (fail)
      go_wp2
      refine ⟨⟨k + 1, by omega, by go_num, ?_, _, (by first | rfl | exact World.drewN_drewN _ _ _)⟩, by simp [intOf]; omega⟩
      rw [Hs.out, wrap64_add, wrap64_add']
    · go_wp2
      go_ret
      refine ⟨ret_int ?_, n, rfl⟩
      rw [List.take_of_length_le (by omega)]

set_option maxHeartbeats 1000000 in
theorem light_c (a b c u : Value) (p : Who) (w : World) (h : WhoAt w a b c u p) :
    Calls Try.prog 9 #[.agg #[a, b, c, u]] w fun e w' => e = .returned (.bool (lightB p)) ∧ Ext w w' := by
  have hA := h.1.1.ext (Ext.alloc (Ext.refl w) (.cells #[a, b, c, u] 25))
  obtain ⟨ax, cx, rfl, hxc, hxm, hrx⟩ := hA.at
  obtain ⟨ay, cy, rfl, hyc, hym, _⟩ := h.1.2.1.at
  obtain ⟨az, cz, rfl, hzc, hzm, _⟩ := h.1.2.2.at
  obtain ⟨au, cu, rfl, huc, hum, _⟩ := h.2.at
  dsimp only at *
  have HE := Lib.hid (Ext.alloc (Ext.refl w) (.cells #[.slice ax p.A.length cx, .slice ay p.B.length cy, .slice az p.C.length cz, .slice au p.U.length cu] 25))
  have h0 := Lib.hid (vrow_alloc w [.slice ax p.A.length cx, .slice ay p.B.length cy, .slice az p.C.length cz, .slice au p.U.length cu] 25)
  have Hrx := Lib.hid hrx
  clear h hrx hA
  by_cases h1 : p.A.length ≤ 20
  · by_cases h2 : p.B.length ≤ 20
    · by_cases h3 : p.C.length ≤ 20
      · by_cases h4 : p.U.length ≤ 20
        · have q0 := VRow.cell h0.out (k := 0) rfl
          change (w.alloc (.cells #[.slice ax p.A.length cx, .slice ay p.B.length cy, .slice az p.C.length cz, .slice au p.U.length cu] 25)).cell? _ = _ at q0
          go_enter Try.func9, Try.ntmps9
          go_wp2
          generalize w.alloc (.cells #[.slice ax p.A.length cx, .slice ay p.B.length cy, .slice az p.C.length cz, .slice au p.U.length cu] 25) = w1 at *
          go_loop [3] (fun i => ∃ k : Nat, k ≤ p.A.length ∧ (p.A.take k).all (fun r => decide (r.length ≤ 20)) = true ∧ i = .int .i64 k) (fun i => p.A.length - (intOf i).toNat)
          case atStart => exact ⟨0, Nat.zero_le _, rfl, rfl⟩
          case round =>
            obtain ⟨k, hk, hall, rfl⟩ := hrel
            by_cases hlt : k < p.A.length
            · have Hall := Lib.hid hall
              clear hall
              obtain ⟨x, hxk⟩ := getElem?_len hlt
              obtain ⟨b, o, u, rfl, hc, hu⟩ := Hrx.out k x hxk
              obtain ⟨ar, cr, rfl, hrc, hrm, _⟩ := hu.at
              have Hx := Lib.hid hxk
              clear hxk hu
              by_cases hr30 : x.length ≤ 20
              · go_wp2
                refine ⟨⟨k + 1, by omega, ?_, by go_num⟩, by simp [intOf]; omega⟩
                exact all_take_succ Hx.out Hall.out (by simp; omega)
              · go_wp2
                go_ret
                refine ⟨ret_bool ?_, HE.out⟩
                have := all_false (p := fun r : List Int => decide (r.length ≤ 20)) Hx.out (by simp; omega)
                simp only [lightB, this, Bool.and_false]
            · have Hd := Lib.hid (all_done (by omega) hall)
              clear hall
              go_wp2
              go_ret
              refine ⟨ret_bool ?_, HE.out⟩
              simp only [lightB, Hd.out, h1, h2, h3, h4, decide_true, Bool.true_and]
        · go_enter Try.func9, Try.ntmps9
          go_wp2
          go_ret
          refine ⟨ret_bool ?_, HE.out⟩
          simp [lightB, h4]
      · go_enter Try.func9, Try.ntmps9
        go_wp2
        go_ret
        refine ⟨ret_bool ?_, HE.out⟩
        simp [lightB, h3]
    · go_enter Try.func9, Try.ntmps9
      go_wp2
      go_ret
      refine ⟨ret_bool ?_, HE.out⟩
      simp [lightB, h2]
  · go_enter Try.func9, Try.ntmps9
    go_wp2
    go_ret
    refine ⟨ret_bool ?_, HE.out⟩
    simp [lightB, h1]
end Go.Proofs.Ytblaipkhmmaenaa
