/- Contracts of threshfloorlaw.folds and FoldSays. -/
import Derived.Test.YtikiijjkbdkpoaaGrpd
import Derived.Test.YtikiijjkbdkpoaaRise0
import Derived.Test.YtikiijjkbdkpoaaSame0
namespace Go.Proofs.Ytikiijjkbdkpoaa
open Go.ChangeShapes Go.WideShapes Go.ChangeAt Go.RowKit
open Grp
def litG : List (ByteArray × Int) := [(⟨#[97]⟩, 2), (⟨#[97]⟩, 3)]
theorem grp_lit : grp 1 litG = [(⟨#[97]⟩, 5)] := by decide +kernel
theorem groups_lit (g : Nat) (w : World) (c0 : w.cell? ⟨g, 0, none⟩ = some (.string ⟨#[97]⟩)) (c1 : w.cell? ⟨g, 1, none⟩ = some (.int .i64 2)) (c2 : w.cell? ⟨g, 2, none⟩ = some (.string ⟨#[97]⟩)) (c3 : w.cell? ⟨g, 3, none⟩ = some (.int .i64 3)) :
    Calls Try.prog 12 #[.int .i64 1, .slice (some ⟨g, 0, none⟩) 2 2] w fun e w' => (∃ b off cap, e = .returned (.slice (some ⟨b, off, none⟩) 1 cap) ∧ w'.cell? ⟨b, off + 1, none⟩ = some (.int .i64 5)) ∧ Below w.heap.size w w' := by
  refine (groups_any 1 (.slice (some ⟨g, 0, none⟩) 2 2) litG w ⟨_, _, rfl, fun i hi => ?_⟩ (by decide)).mono ?_
  · have hi' : i < 2 := hi
    match i, hi' with
    | 0, _ => exact ⟨g, 0, rfl, c0, c1⟩
    | 1, _ => exact ⟨g, 0, rfl, c2, c3⟩
  · rintro e w' ⟨u, rfl, z4, hb⟩
    rw [grp_lit] at z4
    obtain ⟨a, cap, rfl, hc⟩ := z4
    obtain ⟨b, off, rfl, _, k1⟩ := hc 0 (by decide)
    exact ⟨⟨b, off, cap, rfl, k1⟩, hb⟩
set_option maxRecDepth 100000 in
theorem folds_any (w : World) : Calls Try.prog 5 #[] w fun e w' => e = .returned (.bool true) ∧ Below w.heap.size w w' := by
  go_enter Try.func5, Try.ntmps5
  go_wp2_with (go_at_call 12; refine (groups_lit _ _ (by simp) (by simp) (by simp) (by simp)).mono ?_; rintro e w1 ⟨⟨b, off, cap, rfl, k0⟩, hb1⟩)
  go_ret
  exact ⟨rfl, blw_step (blw_box _) hb1⟩
theorem isPairs_blw {w w' : World} {v : Value} {l : List (ByteArray × Int)} (h : IsPairs w v l) (hb : Below w.heap.size w w') : IsPairs w' v l := isPairs_below h hb
theorem samePairs_true (v u : Value) (l : List (ByteArray × Int)) (w : World) (h : IsPairs w v l) (h' : IsPairs w u l) (hl : l.length ≤ maxLen) :
    Calls Try.prog 11 #[v, u] w fun e w' => e = .returned (.bool true) ∧ Below w.heap.size w w' := by
  refine (samePairs_any v u l l w h h' hl).mono ?_
  rintro e w' ⟨rfl, n, rfl⟩
  exact ⟨by simp, blw_drewN _ _⟩
def big (a b : Int) : Bool := decide (1099511627776 < a) || decide (a < -1099511627776) || decide (1099511627776 < b) || decide (b < -1099511627776)
set_option maxRecDepth 100000 in
set_option maxHeartbeats 4000000 in
theorem foldSays_walk (kind a b : Int) (v : Value) (l : List (ByteArray × Int)) (w : World) (h : IsPairs w v l) (hlm : l.length ≤ maxLen) :
    Calls Try.prog 3 #[.int .i64 kind, .int .i64 a, .int .i64 b, v] w fun e w' => e = .returned (.bool true) ∧ Below w.heap.size w w' := by
  have H := Lib.hid h
  have HM := Lib.hid hlm
  clear hlm
  obtain ⟨ao, cap, hv, _⟩ := h
  obtain ⟨n, hn⟩ : ∃ n, n = l.length := ⟨_, rfl⟩
  subst hv
  rw [← hn] at H ⊢
  have HN := Lib.hid hn
  clear hn
  go_enter Try.func3, Try.ntmps3
  go_wp2_with (go_at_call 5; refine Hid.out ?_)
  refine Lib.hid ?_
  refine (folds_any _).mono ?_
  rintro _ w1 ⟨rfl, hb1⟩
  have HL := Lib.hid (lightPairs_any _ l 60 w1 (isPairs_below H.out hb1) HM.out)
  by_cases hlt : (decide ((l.length : Int) ≤ 60) && lightB l) = true
  · rw [hlt] at HL
    have hn60 : n ≤ 60 := by
      have h1 := hlt
      simp only [Bool.and_eq_true, decide_eq_true_eq] at h1
      have := HN.out
      omega
    clear hlt
    go_wp2_with (go_at_call 6; refine Hid.out ?_)
    refine Lib.hid ?_
    refine HL.out.mono ?_
    rintro _ _ ⟨rfl, rfl⟩
    by_cases hk : kindB kind = true
    · have hkb : 1 ≤ kind ∧ kind ≤ 4 := by simpa [kindB] using hk
      have CK : Hid (∀ w, Calls Try.prog 8 #[.int .i64 kind] w fun e w' => e = .returned .nilIface ∧ w' = w) := by
        intro w
        have := foldCheck_any kind w
        unfold kindV at this
        rw [if_pos hk] at this
        exact this
      obtain ⟨hk1, hk4⟩ := hkb
      clear hk
      go_wp2_with (go_at_call 8; refine Hid.out ?_)
      refine Lib.hid ?_
      refine (CK.out _).mono ?_
      rintro _ _ ⟨rfl, rfl⟩
      go_wp2_with (go_at_call 7; refine Hid.out ?_)
      refine Lib.hid ?_
      refine (same_nil _).mono ?_
      rintro _ w2 ⟨rfl, hb2⟩
      have hbw2 := blw_step hb1 hb2
      have HR := Lib.hid (rising_any _ l w2 (isPairs_below H.out hbw2) (by have := HN.out; omega))
      go_wp2_with (go_at_call 9; refine Hid.out ?_)
      refine Lib.hid ?_
      refine HR.out.mono ?_
      rintro _ w3 ⟨r, rfl, _, hb3⟩
      have hbw3 := blw_step hbw2 hb3
      clear HR CK HL
      cases r with
      | false =>
        go_wp2
        go_ret
        exact ⟨rfl, hbw3⟩
      | true =>
        have HF : Hid (∀ w, Calls Try.prog 10 #[.int .i64 kind, .int .i64 a] w fun e w' => e = .returned (.int .i64 (if kind = 4 then 1 else a)) ∧ w' = w) := fun w => first_any kind a w
        have TW := Lib.hid (two_any kind a b)
        have TR := Lib.hid (twoR_any kind a b)
        have hgl := grp_len kind l
        have HG := Lib.hid (groups_any kind _ l w3 (isPairs_below H.out hbw3) (by have := HN.out; omega))
        generalize two kind a b = t at *
        by_cases h4 : kind = 4
        · subst h4
          go_wp2_with (go_at_call 10; refine Hid.out ?_)
          refine Lib.hid ?_
          refine (HF.out _).mono ?_
          rintro _ _ ⟨rfl, rfl⟩
          go_wp2_with (go_at_call 12; refine Hid.out ?_)
          refine Lib.hid ?_
          refine HG.out.mono ?_
          rintro _ w4 ⟨u4, rfl, g4, hb4⟩
          have hbw4 := blw_step hbw3 hb4
          have HG2 := Lib.hid (grouped_any 4 _ l w4 (isPairs_below H.out hbw4) (by have := HN.out; omega))
          go_wp2_with (go_at_call 13; refine Hid.out ?_)
          refine Lib.hid ?_
          refine HG2.out.mono ?_
          rintro _ w5 ⟨u5, rfl, g5, hb5⟩
          have hbw5 := blw_step hbw4 hb5
          have HS := Lib.hid (samePairs_true u4 u5 _ w5 (isPairs_below g4 hb5) g5 (by have := HN.out; unfold maxLen; omega))
          go_wp2_with (go_at_call 11; refine Hid.out ?_)
          refine Lib.hid ?_
          refine HS.out.mono ?_
          rintro _ w6 ⟨rfl, hb6⟩
          have hbw6 := blw_step hbw5 hb6
          clear HG HG2 HS g4 g5 HF
          cases g1 : decide (1099511627776 < a) with
          | true =>
            go_wp2
            all_goals go_ret
            all_goals exact ⟨by simp, hbw6⟩
          | false =>
            cases g2 : decide (a < -1099511627776) with
            | true =>
              go_wp2
              all_goals go_ret
              all_goals exact ⟨by simp, hbw6⟩
            | false =>
              cases g3 : decide (1099511627776 < b) with
              | true =>
                go_wp2
                all_goals go_ret
                all_goals exact ⟨by simp, hbw6⟩
              | false =>
                cases g4 : decide (b < -1099511627776) with
                | true =>
                  go_wp2
                  all_goals go_ret
                  all_goals exact ⟨by simp, hbw6⟩
                | false =>
                  go_wp2_with (first | (go_at_call 14; refine (TW.out _).mono ?_; rintro _ _ ⟨rfl, rfl⟩) | (go_at_call 15; refine (TR.out _).mono ?_; rintro _ _ ⟨rfl, rfl⟩))
                  all_goals go_ret
                  all_goals exact ⟨by simp, hbw6⟩
        · have h4' : (kind == 4) = false := by simpa using h4
          rw [if_neg h4] at HF
          go_wp2_with (go_at_call 10; refine Hid.out ?_)
          refine Lib.hid ?_
          refine (HF.out _).mono ?_
          rintro _ _ ⟨rfl, rfl⟩
          go_wp2_with (go_at_call 12; refine Hid.out ?_)
          refine Lib.hid ?_
          refine HG.out.mono ?_
          rintro _ w4 ⟨u4, rfl, g4, hb4⟩
          have hbw4 := blw_step hbw3 hb4
          have HG2 := Lib.hid (grouped_any kind _ l w4 (isPairs_below H.out hbw4) (by have := HN.out; omega))
          go_wp2_with (go_at_call 13; refine Hid.out ?_)
          refine Lib.hid ?_
          refine HG2.out.mono ?_
          rintro _ w5 ⟨u5, rfl, g5, hb5⟩
          have hbw5 := blw_step hbw4 hb5
          have HS := Lib.hid (samePairs_true u4 u5 _ w5 (isPairs_below g4 hb5) g5 (by have := HN.out; unfold maxLen; omega))
          go_wp2_with (go_at_call 11; refine Hid.out ?_)
          refine Lib.hid ?_
          refine HS.out.mono ?_
          rintro _ w6 ⟨rfl, hb6⟩
          have hbw6 := blw_step hbw5 hb6
          clear HG HG2 HS g4 g5 HF
          cases g1 : decide (1099511627776 < a) with
          | true =>
            go_wp2
            all_goals go_ret
            all_goals exact ⟨by simp, hbw6⟩
          | false =>
            cases g2 : decide (a < -1099511627776) with
            | true =>
              go_wp2
              all_goals go_ret
              all_goals exact ⟨by simp, hbw6⟩
            | false =>
              cases g3 : decide (1099511627776 < b) with
              | true =>
                go_wp2
                all_goals go_ret
                all_goals exact ⟨by simp, hbw6⟩
              | false =>
                cases g4 : decide (b < -1099511627776) with
                | true =>
                  go_wp2
                  all_goals go_ret
                  all_goals exact ⟨by simp, hbw6⟩
                | false =>
                  go_wp2_with (first | (go_at_call 14; refine (TW.out _).mono ?_; rintro _ _ ⟨rfl, rfl⟩) | (go_at_call 15; refine (TR.out _).mono ?_; rintro _ _ ⟨rfl, rfl⟩))
                  all_goals go_ret
                  all_goals exact ⟨by simp, hbw6⟩
    · have CK : Hid (∀ w, Calls Try.prog 8 #[.int .i64 kind] w fun e w' => e = .returned (.iface 41 (.int .i64 3)) ∧ w' = w) := by
        intro w
        have := foldCheck_any kind w
        unfold kindV at this
        rw [if_neg hk] at this
        exact this
      have hkb : kind < 1 ∨ 4 < kind := by
        by_cases h1 : 1 ≤ kind
        · by_cases h2 : kind ≤ 4
          · exact absurd (by simp [kindB, h1, h2]) hk
          · omega
        · omega
      clear hk
      rcases hkb with hk1 | hk1
      · go_wp2_with (go_at_call 8; refine Hid.out ?_)
        refine Lib.hid ?_
        refine (CK.out _).mono ?_
        rintro _ _ ⟨rfl, rfl⟩
        go_wp2_with (go_at_call 7; refine Hid.out ?_)
        refine Lib.hid ?_
        refine (same_err 3 _ (by omega)).mono ?_
        rintro _ w2 ⟨rfl, hb2⟩
        have hbw2 := blw_step hb1 hb2
        have HR := Lib.hid (rising_any _ l w2 (isPairs_below H.out hbw2) (by have := HN.out; omega))
        go_wp2_with (go_at_call 9; refine Hid.out ?_)
        refine Lib.hid ?_
        refine HR.out.mono ?_
        rintro _ w3 ⟨r, rfl, _, hb3⟩
        have hbw3 := blw_step hbw2 hb3
        clear HR CK HL
        go_wp2
        go_ret
        exact ⟨rfl, hbw3⟩
      · have hk0 : 1 ≤ kind := by omega
        go_wp2_with (go_at_call 8; refine Hid.out ?_)
        refine Lib.hid ?_
        refine (CK.out _).mono ?_
        rintro _ _ ⟨rfl, rfl⟩
        go_wp2_with (go_at_call 7; refine Hid.out ?_)
        refine Lib.hid ?_
        refine (same_err 3 _ (by omega)).mono ?_
        rintro _ w2 ⟨rfl, hb2⟩
        have hbw2 := blw_step hb1 hb2
        have HR := Lib.hid (rising_any _ l w2 (isPairs_below H.out hbw2) (by have := HN.out; omega))
        go_wp2_with (go_at_call 9; refine Hid.out ?_)
        refine Lib.hid ?_
        refine HR.out.mono ?_
        rintro _ w3 ⟨r, rfl, _, hb3⟩
        have hbw3 := blw_step hbw2 hb3
        clear HR CK HL
        go_wp2
        go_ret
        exact ⟨rfl, hbw3⟩
  · rw [Bool.eq_false_iff.2 hlt] at HL
    clear hlt
    go_wp2_with (go_at_call 6; refine Hid.out ?_)
    refine Lib.hid ?_
    refine HL.out.mono ?_
    rintro _ _ ⟨rfl, rfl⟩
    go_wp2
    go_ret
    exact ⟨rfl, hb1⟩
end Go.Proofs.Ytikiijjkbdkpoaa
