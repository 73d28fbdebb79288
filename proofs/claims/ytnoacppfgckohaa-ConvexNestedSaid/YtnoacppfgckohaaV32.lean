import Derived.Test.YtnoacppfgckohaaV31
namespace Go.Proofs.Ytnoacppfgckohaa
open Go.RowKit Go.Shelf
attribute [local go_sem] Oper.semAt_some
/-- what Hull answers -/
def HullS (ps : List Pt) (er : Int) (hs : List Pt) : Prop :=
  (er ≠ 0 ∧ hs = [] ∧ (200 < ps.length ∨ ps.any farP = true ∨ ∃ s, s.Perm ps ∧ s.Pairwise leP ∧ ((hullP s).length < 3 ∨ (hullP s).any farP = true ∨ 32 < (hullP s).length))) ∨
  (er = 0 ∧ nearP ps ∧ ps.length ≤ 200 ∧ ∃ s, s.Perm ps ∧ s.Pairwise leP ∧ hs = hullP s ∧ 3 ≤ hs.length ∧ hs.length ≤ 32 ∧ hs.any farP = false)
theorem hullS_ok {ps hs : List Pt} {er : Int} (h : HullS ps er hs) (h0 : er = 0) : validB hs = true ∧ (∀ i, i < hs.length → fromP hs i ∈ ps) ∧ ∀ i, i < hs.length → ∀ z ∈ ps, 0 ≤ triP (fromP hs i) (toP hs i) z := by
  rcases h with ⟨h, _⟩ | ⟨_, _, _, s, hp, hw, rfl, h3, h32, hf⟩
  · exact absurd h0 h
  · obtain ⟨a, b, c⟩ := hull_around hw h3
    exact ⟨around_valid a h32 hf, fun i hi => hp.mem_iff.1 (b i hi), fun i hi z hz => c i hi z (hp.mem_iff.2 hz)⟩
set_option maxRecDepth 100000 in
set_option maxHeartbeats 1000000 in
theorem Hull_c (v : Value) (ps : List Pt) (w : World) (hv : Vecs w v ps) :
    Calls Try.prog 11 #[v] w fun e w' => ∃ r er hs, e = .returned (.tuple #[r, .int .i64 er]) ∧ HullS ps er hs ∧ Vecs w' r hs ∧ Ext w w' := by
  obtain ⟨a, cap, rfl, hl, hm, _⟩ := hv.at
  have HV := Lib.hid hv
  clear hv
  by_cases h2 : 200 < ps.length
  · go_enter Try.func11, Try.ntmps11
    go_wp2
    all_goals go_ret2
    all_goals exact ⟨_, 3, [], rfl, .inl ⟨by decide, rfl, .inl h2⟩, nil_vecs _, Ext.refl _⟩
  · cases hf : ps.any farP with
    | true =>
      have Hf := Lib.hid hf
      clear hf
      go_enter Try.func11, Try.ntmps11
      go_wp2_with fail
      refine (contains27_c _ farP ps _ (far_pred ps _) HV.out).mono ?_
      rintro e w2 ⟨rfl, hE⟩
      rw [Hf.out]
      go_wp2
      all_goals go_ret2
      all_goals exact ⟨_, 2, [], rfl, .inl ⟨by decide, rfl, .inr (.inl Hf.out)⟩, nil_vecs _, hE⟩
    | false =>
      have Hf := Lib.hid hf
      have HN := Lib.hid (near_of hf)
      clear hf
      go_enter Try.func11, Try.ntmps11
      go_wp2_with fail
      refine (contains27_c _ farP ps _ (far_pred ps _) HV.out).mono ?_
      rintro e w2 ⟨rfl, hE⟩
      rw [Hf.out]
      have HE2 := Lib.hid hE
      clear hE
      go_wp2_with fail
      refine (hull_c _ ps w2 (HV.out.ext HE2.out) HN.out (by omega)).mono ?_
      rintro e w3 ⟨r, s, rfl, hp, hs, hr, hE⟩
      have HP := Lib.hid hp
      have HS := Lib.hid hs
      have HR := Lib.hid hr
      have HE3 := Lib.hid (Ext.trans HE2.out hE)
      obtain ⟨a3, c3, rfl, hl3, hm3, _⟩ := hr.at
      clear hp hs hr hE
      by_cases h3 : (hullP s).length < 3
      · go_wp2
        all_goals go_ret2
        all_goals exact ⟨_, 10, [], rfl, .inl ⟨by decide, rfl, .inr (.inr ⟨s, HP.out, HS.out, .inl h3⟩)⟩, nil_vecs _, HE3.out⟩
      · have HQ := Lib.hid (show ∀ er hs, ((hullP s).any farP = true ∧ er = 4 ∧ hs = []) ∨ ((hullP s).any farP = false ∧ 32 < (hullP s).length ∧ er = 8 ∧ hs = []) ∨ ((hullP s).any farP = false ∧ ¬ 32 < (hullP s).length ∧ er = 0 ∧ hs = hullP s) → HullS ps er hs from by
          rintro er hs (⟨k, rfl, rfl⟩ | ⟨k, l, rfl, rfl⟩ | ⟨k, l, rfl, rfl⟩)
          · exact .inl ⟨by decide, rfl, .inr (.inr ⟨s, HP.out, HS.out, .inr (.inl k)⟩)⟩
          · exact .inl ⟨by decide, rfl, .inr (.inr ⟨s, HP.out, HS.out, .inr (.inr l)⟩)⟩
          · exact .inr ⟨rfl, HN.out, by omega, s, HP.out, HS.out, rfl, by omega, by omega, k⟩)
        generalize hullP s = hs at *
        obtain ⟨ra, er, ts, hR, hT⟩ : ∃ ra er ts, limR (.slice a3 hs.length c3) hs = two ra (.int .i64 er) ∧ ((hs.any farP = true ∧ er = 4 ∧ ts = [] ∧ ra = .slice none 0 0) ∨ (hs.any farP = false ∧ 32 < hs.length ∧ er = 8 ∧ ts = [] ∧ ra = .slice none 0 0) ∨ (hs.any farP = false ∧ ¬ 32 < hs.length ∧ er = 0 ∧ ts = hs ∧ ra = .slice a3 hs.length c3)) := by
          unfold limR
          cases hk : hs.any farP with
          | true => exact ⟨_, 4, [], by rw [if_pos rfl], .inl ⟨rfl, rfl, rfl, rfl⟩⟩
          | false =>
            by_cases hl : 32 < hs.length
            · exact ⟨_, 8, [], by rw [if_neg (by decide), if_pos hl], .inr (.inl ⟨rfl, hl, rfl, rfl, rfl⟩)⟩
            · exact ⟨_, 0, hs, by rw [if_neg (by decide), if_neg hl], .inr (.inr ⟨rfl, hl, rfl, rfl, rfl⟩)⟩
        have HRR := Lib.hid hR
        have HT := Lib.hid hT
        clear hR hT
        go_wp2_with fail
        refine (limited_c _ hs w3 HR.out).mono ?_
        rintro e w4 ⟨rfl, hE⟩
        rw [HRR.out]
        simp only [two]
        go_wp2
        go_ret2
        refine ⟨ra, er, ts, rfl, HQ.out er ts ?_, ?_, Ext.trans HE3.out hE⟩
        · rcases HT.out with ⟨p, q, r, _⟩ | ⟨p, q, r, t, _⟩ | ⟨p, q, r, t, _⟩
          · exact .inl ⟨p, q, r⟩
          · exact .inr (.inl ⟨p, q, r, t⟩)
          · exact .inr (.inr ⟨p, q, r, t⟩)
        · rcases HT.out with ⟨_, _, r, t⟩ | ⟨_, _, _, r, t⟩ | ⟨_, _, _, r, t⟩
          · rw [r, t]; exact nil_vecs _
          · rw [r, t]; exact nil_vecs _
          · rw [r, t]; exact HR.out.ext hE
end Go.Proofs.Ytnoacppfgckohaa
