/- Queues: the walk of the law TopTurn. -/
import Derived.Test.YtddbgbokkpeffaaQ5
namespace Go.Proofs.Ytddbgbokkpeffaa
open Go.ChangeShapes Go.WideShapes Go.ChangeAt Go.RowKit
open Pk
theorem one_turn (a b h : Int) (hb : h < b) : Turn [(a, b)] [h] [true] 1 0 := by
  refine .inr ⟨0, rfl, by decide, ?_, ?_, ?_⟩
  · simp [okB, cOf, hb]
  · intro k hk _
    have : k = 0 := by omega
    subst this
    exact less_irrefl _ _ _
  · intro j hj _
    omega
/-- One queue, made of letters: its turn it is. -/
theorem one_pick (a b h : Int) (h1 : 1 ≤ a ∧ a ≤ 9) (h2 : 0 ≤ b ∧ b ≤ 1000) (h3 : 0 ≤ h ∧ h ≤ 1000) (hb : h < b) (w w1 : World) (hw1 : w1 = ((w.alloc (.cells #[.int .i64 a, .int .i64 b] 33)).alloc (.cells #[.int .i64 h] 3)).alloc (.cells #[.bool true] 4)) :
    Calls Try.prog 11 #[.slice (some ⟨w.heap.size, 0, none⟩) 1 1, .slice (some ⟨w.heap.size + 1, 0, none⟩) 1 1, .slice (some ⟨w.heap.size + 1 + 1, 0, none⟩) 1 1] w1 fun e w' => e = .returned (.int .i64 0) ∧ Below w.heap.size w w' := by
  have hb1 : Below w.heap.size w w1 := by rw [hw1]; exact blw_step (blw_step (blw_box _) (blw_box _)) (blw_box _)
  have k1 : IsQs w1 (.slice (some ⟨w.heap.size, 0, none⟩) 1 1) [(a, b)] := by rw [hw1]; exact isQs_blw (isQs_blw (isQs_lit w _ _ _ _ _ _ rfl rfl rfl) (blw_box _)) (blw_box _)
  have k2 : IsIs w1 (.slice (some ⟨w.heap.size + 1, 0, none⟩) 1 1) [h] := by rw [hw1]; exact isIs_blw (isIs_lit _ _ _ _ _ _ _ (by simp) rfl rfl) (blw_box _)
  have k3 : IsBs w1 (.slice (some ⟨w.heap.size + 1 + 1, 0, none⟩) 1 1) [true] := by rw [hw1]; exact isBs_lit _ _ _ _ _ _ _ (by simp) rfl rfl
  refine (pick_any _ _ _ _ _ _ w1 k1 k2 k3 ⟨fun q hq => by simp at hq; subst hq; exact ⟨h1.1, h1.2, h2.1, h2.2⟩, fun x hx => by simp at hx; subst hx; exact h3⟩ (by simp)).mono ?_
  rintro _ w2 ⟨r, rfl, hr, hb2⟩
  obtain rfl : r = 0 := hr.out.unique (one_turn a b h hb)
  exact ⟨rfl, blw_step hb1 hb2⟩
theorem less_at {l : List (Int × Int)} {has : List Int} {k i : Nat} (hk : k < l.length) (hi : i < l.length) (hk' : k < has.length) (hi' : i < has.length) : less l has k i = decide (has[k] * l[i].1 < has[i] * l[k].1) := by
  unfold less wOf
  rw [getD_lt _ _ _ hi, getD_lt _ _ _ hi', getD_lt _ _ _ hk', getD_lt _ _ _ hk]
theorem ok_at {l : List (Int × Int)} {has : List Int} {wants : List Bool} {k : Nat} (hk : k < l.length) (hk' : k < has.length) (hw : k < wants.length) : okB l has wants k = (wants[k] && decide (has[k] < l[k].2)) := by
  unfold okB cOf
  rw [getD_lt _ _ _ hw, getD_lt _ _ _ hk', getD_lt _ _ _ hk]
set_option maxRecDepth 100000 in
set_option maxHeartbeats 4000000 in
theorem topTurn_walk (lv hv wv : Value) (l : List (Int × Int)) (has : List Int) (wants : List Bool) (w : World) (h1 : IsQs w lv l) (h2 : IsIs w hv has) (h3 : IsBs w wv wants) (k1 : l.length ≤ maxLen) :
    Calls Try.prog 4 #[lv, hv, wv] w fun e w' => e = .returned (.bool true) ∧ Below w.heap.size w w' := by
  have K1 := Lib.hid k1
  have H1 := Lib.hid h1
  have H2 := Lib.hid h2
  have H3 := Lib.hid h3
  obtain ⟨la, lc, rfl, q1⟩ := h1
  obtain ⟨ha, hc, rfl, q2⟩ := h2
  obtain ⟨wa, wc, rfl, q3⟩ := h3
  have HQ1 := Lib.hid q1
  have HQ2 := Lib.hid q2
  have HQ3 := Lib.hid q3
  clear q1 q2 q3 k1
  obtain ⟨w1, hw1⟩ : ∃ w1, w1 = ((w.alloc (.cells #[.int .i64 1, .int .i64 1] 33)).alloc (.cells #[.int .i64 0] 3)).alloc (.cells #[.bool true] 4) := ⟨_, rfl⟩
  have D := Lib.hid (one_pick 1 1 0 (by decide) (by decide) (by decide) (by decide) w w1 hw1)
  have HW := Lib.hid hw1
  clear hw1
  have F2 : Hid (∀ w1, Below w.heap.size w w1 → Calls Try.prog 9 #[.slice la l.length lc] w1 fun e w' => e = .returned (errV (faultQ l)) ∧ Below w1.heap.size w1 w') := fun w1 hb => qcheck_any _ l w1 (isQs_blw H1.out hb) K1.out
  cases g1 : decide ((10 : Int) < l.length) with
  | true =>
    go_enter Try.func4, Try.ntmps4
    go_wp2_with (go_at_call 11; refine Hid.out ?_)
    refine Lib.hid ?_
    rw [← HW.out]
    refine D.out.mono ?_
    rintro _ w2 ⟨rfl, hb2⟩
    go_wp2
    all_goals go_ret
    all_goals exact ⟨rfl, hb2⟩
  | false =>
    have n1 : l.length ≤ 10 := by have := of_decide_eq_false g1; omega
    have HGD : Hid (faultQ l = 0 → (∀ j (h : j < has.length), 0 ≤ has[j] ∧ has[j] ≤ 1000) → GoodQ l has ∧ l.length ≤ 4 ∧ 1 ≤ l.length) := fun a b => good_of a b
    have hfp := faultQ_pos l
    generalize faultQ l = f at *
    by_cases hf : f = 0
    · subst hf
      have eE : errV 0 = .nilIface := rfl
      rw [eE] at F2
      clear eE
      by_cases hls : has.length = l.length ∧ wants.length = l.length
      · obtain ⟨hl1, hl2⟩ := hls
        have e1 : has.length ≤ l.length := by omega
        have e2 : l.length ≤ has.length := by omega
        have e3 : wants.length ≤ l.length := by omega
        have e4 : l.length ≤ wants.length := by omega
        have E1 := Lib.hid hl1
        have E2 := Lib.hid hl2
        have x1 : ((has.length : Int) != (l.length : Int)) = false := by rw [hl1]; simp
        have x2 : ((wants.length : Int) != (l.length : Int)) = false := by rw [hl2]; simp
        have x3 : (has.length != l.length) = false := by rw [hl1]; simp
        have x4 : (wants.length != l.length) = false := by rw [hl2]; simp
        clear hl1 hl2
        go_enter Try.func4, Try.ntmps4
        go_wp2_with (go_at_call 11; refine Hid.out ?_)
        refine Lib.hid ?_
        rw [← HW.out]
        refine D.out.mono ?_
        rintro _ w2 ⟨rfl, hb2⟩
        go_wp2_with (go_at_call 9; refine (F2.out _ hb2).mono ?_; rintro _ w3 ⟨rfl, hb3⟩)
        have hb4 : Below w.heap.size w w3 := blw_step hb2 hb3
        clear F2 D HW hb2 hb3 x1 x2 x3 x4
        go_loop [7] (fun i => ∃ k : Nat, k ≤ has.length ∧ i = .int .i64 k ∧ Hid (∀ j (h : j < has.length), j < k → 0 ≤ has[j] ∧ has[j] ≤ 1000)) (fun i => has.length - (intOf i).toNat)
        case atStart => exact ⟨0, Nat.zero_le _, rfl, fun j _ h => absurd h (by omega)⟩
        case round =>
          obtain ⟨k, hk, rfl, HP⟩ := hrel
          by_cases hlt : k < has.length
          · obtain ⟨b, off, rfl, c0⟩ := HQ2.out k hlt
            replace c0 := cell_blw c0 hb4
            have HS : Hid (0 ≤ has[k] → has[k] ≤ 1000 → ∀ j (h : j < has.length), j < k + 1 → 0 ≤ has[j] ∧ has[j] ≤ 1000) := fun a b j h hj => by
              by_cases e : j = k
              · subst e; exact ⟨a, b⟩
              · exact HP.out j h (by omega)
            clear HQ1 HQ2 HQ3 HP
            generalize has[k] = x at c0 HS
            cases e5 : decide (x < 0) with
            | true =>
              go_wp2
              all_goals go_ret
              all_goals exact ⟨rfl, hb4⟩
            | false =>
              cases e6 : decide (1000 < x) with
              | true =>
                go_wp2
                all_goals go_ret
                all_goals exact ⟨rfl, hb4⟩
              | false =>
                have HS2 := Lib.hid (HS.out (by have := of_decide_eq_false e5; omega) (by have := of_decide_eq_false e6; omega))
                clear HS
                go_wp2
                go_round
                case rel => exact ⟨k + 1, by omega, by go_num, HS2⟩
                case measure => simp [intOf]; omega
          · have HA : Hid (∀ j (h : j < has.length), 0 ≤ has[j] ∧ has[j] ≤ 1000) := fun j h => HP.out j h (by omega)
            clear HP
            obtain ⟨hgood, hl4, hl1⟩ := HGD.out (by trivial) HA.out
            have HG := Lib.hid hgood
            clear hgood HGD
            have P1 : Hid (Calls Try.prog 11 #[.slice la l.length lc, .slice ha has.length hc, .slice wa wants.length wc] w3 fun e w' => ∃ r : Int, e = .returned (.int .i64 r) ∧ Hid (Turn l has wants l.length r) ∧ Below w3.heap.size w3 w') := by
              have hP := pick_any _ _ _ l has wants w3 (isQs_blw H1.out hb4) (isIs_blw H2.out hb4) (isBs_blw H3.out hb4) HG.out (by omega)
              rw [show min (min l.length has.length) wants.length = l.length by omega] at hP
              exact hP
            go_wp2_with (go_at_call 11; refine Hid.out ?_)
            refine Lib.hid ?_
            refine P1.out.mono ?_
            rintro _ w4 ⟨r, rfl, HR, hb5'⟩
            have hb5 : Below w.heap.size w w4 := blw_step hb4 hb5'
            clear P1 hb5' hb4
            rcases HR.out with ⟨hnone, hr⟩ | ⟨i, hr, hil, hok, hmin, _⟩
            · have HN := Lib.hid hnone
              subst hr
              clear HR hnone
              have g0 : decide ((l.length : Int) ≤ -1) = false := decide_eq_false (by omega)
              go_wp2
              go_quiet (fail)
              have hb6 : Below w.heap.size w (w4.drewN nq) := blw_step hb5 (blw_drewN _ _)
              generalize w4.drewN nq = w5 at *
              go_wp2
              go_loopw [9] (fun i wr => ∃ j : Nat, j ≤ l.length ∧ i = .int .i64 j ∧ Below w.heap.size w wr) (fun i _ => l.length - (intOf i).toNat)
              case atStart => exact ⟨0, Nat.zero_le _, rfl, hb6⟩
              case round =>
                obtain ⟨j, hj, rfl, hb7⟩ := hrel
                by_cases hlt : j < l.length
                · obtain ⟨lb, lo, rfl, c0, c1⟩ := HQ1.out j hlt
                  obtain ⟨hb', ho, rfl, c2⟩ := HQ2.out j (by omega)
                  obtain ⟨wb, wo, rfl, c3⟩ := HQ3.out j (by omega)
                  replace c0 := cell_blw c0 hb7
                  replace c1 := cell_blw c1 hb7
                  replace c2 := cell_blw c2 hb7
                  replace c3 := cell_blw c3 hb7
                  have HOK : Hid ((wants[j]'(by omega) && decide (has[j]'(by omega) < l[j].2)) = false) := by
                    have := HN.out j hlt
                    rw [ok_at hlt (by omega) (by omega)] at this
                    exact this
                  clear HQ1 HQ2 HQ3
                  generalize l[j] = q at c0 c1 HOK
                  generalize has[j]'(by omega) = x at c2 HOK
                  generalize wants[j]'(by omega) = y at c3 HOK
                  obtain ⟨qw, qc⟩ := q
                  simp only at c0 c1 HOK
                  cases y with
                  | false =>
                    go_wp2
                    go_quiet (fail)
                    have hb8 : Below w.heap.size w (wr.drewN nq) := blw_step hb7 (blw_drewN _ _)
                    generalize wr.drewN nq = w6 at *
                    go_wp2
                    go_roundw
                    case rel => exact ⟨j + 1, by omega, by go_num, hb8⟩
                    case measure => simp [intOf]; omega
                  | true =>
                    have g5 : decide (qc ≤ x) = true := by
                      have := HOK.out
                      rw [Bool.true_and] at this
                      exact decide_eq_true (by have := of_decide_eq_false this; omega)
                    clear HOK
                    go_wp2
                    go_quiet (fail)
                    have hb8 : Below w.heap.size w (wr.drewN nq) := blw_step hb7 (blw_drewN _ _)
                    generalize wr.drewN nq = w6 at *
                    go_wp2
                    go_roundw
                    case rel => exact ⟨j + 1, by omega, by go_num, hb8⟩
                    case measure => simp [intOf]; omega
                · clear HQ1 HQ2 HQ3
                  go_wp2
                  all_goals go_ret
                  all_goals exact ⟨rfl, hb7⟩
            · have HM := Lib.hid hmin
              subst hr
              clear HR hmin
              have hih : i < has.length := by omega
              have hiw : i < wants.length := by omega
              have g0 : decide (l.length ≤ i) = false := decide_eq_false (by omega)
              obtain ⟨lb, lo, rfl, c0, c1⟩ := HQ1.out i hil
              obtain ⟨hb', ho, rfl, c2⟩ := HQ2.out i hih
              obtain ⟨wb, wo, rfl, c3⟩ := HQ3.out i hiw
              have d0 := Lib.hid c0
              have d2 := Lib.hid c2
              replace c0 := cell_blw c0 hb5
              replace c1 := cell_blw c1 hb5
              replace c2 := cell_blw c2 hb5
              replace c3 := cell_blw c3 hb5
              rw [ok_at hil hih hiw, Bool.and_eq_true, decide_eq_true_eq] at hok
              obtain ⟨hok1, hok2⟩ := hok
              rw [hok1] at c3
              clear hok1
              have gi := HG.out.1 l[i] (List.getElem_mem hil)
              have gh := HA.out i hih
              have HL : Hid (∀ k (hk : k < l.length) (hk' : k < has.length), less l has k i = decide (has[k] * l[i].1 < has[i] * l[k].1)) := fun k hk hk' => less_at hk hil hk' hih
              generalize l[i] = p at c0 c1 d0 gi hok2 HL
              generalize has[i] = z at c2 d2 gh hok2 HL
              obtain ⟨pw, pc⟩ := p
              simp only at c0 c1 d0 gi hok2 HL
              have g2 : decide (pc ≤ z) = false := decide_eq_false (by omega)
              go_wp2
              go_quiet (fail)
              have hb6 : Below w.heap.size w (w4.drewN nq) := blw_step hb5 (blw_drewN _ _)
              generalize w4.drewN nq = w5 at *
              clear c0 c1 c2 c3
              go_wp2
              go_loopw [9] (fun i wr => ∃ j : Nat, j ≤ l.length ∧ i = .int .i64 j ∧ Below w.heap.size w wr) (fun i _ => l.length - (intOf i).toNat)
              case atStart => exact ⟨0, Nat.zero_le _, rfl, hb6⟩
              case round =>
                obtain ⟨j, hj, rfl, hb7⟩ := hrel
                by_cases hlt : j < l.length
                · have hjh : j < has.length := by omega
                  have hjw : j < wants.length := by omega
                  obtain ⟨_, _, e, c0, c1⟩ := HQ1.out j hlt
                  injection e with e; injection e with e1' e2'; subst e1' e2'
                  obtain ⟨_, _, e, c2⟩ := HQ2.out j hjh
                  injection e with e; injection e with e1' e2'; subst e1' e2'
                  obtain ⟨_, _, e, c3⟩ := HQ3.out j hjw
                  injection e with e; injection e with e1' e2'; subst e1' e2'
                  replace c0 := cell_blw c0 hb7
                  replace c1 := cell_blw c1 hb7
                  replace c2 := cell_blw c2 hb7
                  replace c3 := cell_blw c3 hb7
                  have c4 := cell_blw d0.out hb7
                  have c5 := cell_blw d2.out hb7
                  have HOK : Hid (okB l has wants j = (wants[j] && decide (has[j] < l[j].2))) := ok_at hlt hjh hjw
                  have HLE : Hid (okB l has wants j = true → decide (has[j] * pw < z * l[j].1) = false) := fun h => by
                    have := HM.out j hlt h
                    rw [HL.out j hlt hjh] at this
                    exact this
                  have gj := HG.out.1 l[j] (List.getElem_mem hlt)
                  have gk := HA.out j hjh
                  clear HQ1 HQ2 HQ3 HL HM
                  generalize l[j] = q at c0 c1 HOK HLE gj
                  generalize has[j] = x at c2 HOK HLE gk
                  generalize wants[j] = y at c3 HOK
                  obtain ⟨qw, qc⟩ := q
                  simp only at c0 c1 HOK HLE gj
                  cases y with
                  | false =>
                    clear HLE HOK
                    go_wp2
                    go_quiet (fail)
                    have hb8 : Below w.heap.size w (wr.drewN nq) := blw_step hb7 (blw_drewN _ _)
                    generalize wr.drewN nq = w6 at *
                    go_wp2
                    go_roundw
                    case rel => exact ⟨j + 1, by omega, by go_num, hb8⟩
                    case measure => simp [intOf]; omega
                  | true =>
                    cases g5 : decide (qc ≤ x) with
                    | true =>
                      clear HLE HOK
                      go_wp2
                      go_quiet (fail)
                      have hb8 : Below w.heap.size w (wr.drewN nq) := blw_step hb7 (blw_drewN _ _)
                      generalize wr.drewN nq = w6 at *
                      go_wp2
                      go_roundw
                      case rel => exact ⟨j + 1, by omega, by go_num, hb8⟩
                      case measure => simp [intOf]; omega
                    | false =>
                      have g8 := HLE.out (by rw [HOK.out, decide_eq_true (by have := of_decide_eq_false g5; omega)]; rfl)
                      clear HLE HOK
                      have m1 : 0 ≤ x * pw := Int.mul_nonneg gk.1 (by omega)
                      have m2 : x * pw ≤ 1000 * 9 := Int.mul_le_mul gk.2 gi.2.1 (by omega) (by omega)
                      have m3 : 0 ≤ z * qw := Int.mul_nonneg gh.1 (by omega)
                      have m4 : z * qw ≤ 1000 * 9 := Int.mul_le_mul gh.2 gj.2.1 (by omega) (by omega)
                      have E3 : IntKind.i64.wrap (x * pw) = x * pw := wrap_small _ m1 (by omega)
                      have E4 : IntKind.i64.wrap (z * qw) = z * qw := wrap_small _ m3 (by omega)
                      have hd0 : decide ((i : Int) < 0) = false := decide_eq_false (by omega)
                      go_wp2
                      go_quiet (fail)
                      have hb8 : Below w.heap.size w (wr.drewN nq) := blw_step hb7 (blw_drewN _ _)
                      have hb9 : Below wr.heap.size wr (wr.drewN nq) := blw_drewN _ _
                      replace c0 := cell_blw c0 hb9
                      replace c2 := cell_blw c2 hb9
                      replace c4 := cell_blw c4 hb9
                      replace c5 := cell_blw c5 hb9
                      generalize wr.drewN nq = w6 at *
                      clear c1 c3 hb9 hb7
                      go_wp2
                      go_quiet (fail)
                      have hb10 : Below w.heap.size w (w6.drewN nq) := blw_step hb8 (blw_drewN _ _)
                      generalize w6.drewN nq = w7 at *
                      go_wp2
                      go_roundw
                      case rel => exact ⟨j + 1, by omega, by go_num, hb10⟩
                      case measure => simp [intOf]; omega
                · clear HQ1 HQ2 HQ3
                  go_wp2
                  all_goals go_ret
                  all_goals exact ⟨rfl, hb7⟩
      · by_cases hl1 : has.length = l.length
        · have hl2 : ¬ wants.length = l.length := fun h => hls ⟨hl1, h⟩
          have x1 : ((has.length : Int) != (l.length : Int)) = false := by rw [hl1]; simp
          have x2 : ((wants.length : Int) != (l.length : Int)) = true := by simp; omega
          have x3 : (has.length != l.length) = false := by rw [hl1]; simp
          have x4 : (wants.length != l.length) = true := by simp; omega
          clear hl1 hl2 hls
          go_enter Try.func4, Try.ntmps4
          go_wp2_with (go_at_call 11; refine Hid.out ?_)
          refine Lib.hid ?_
          rw [← HW.out]
          refine D.out.mono ?_
          rintro _ w2 ⟨rfl, hb2⟩
          go_wp2_with (go_at_call 9; refine (F2.out _ hb2).mono ?_; rintro _ w3 ⟨rfl, hb3⟩)
          all_goals go_ret
          all_goals exact ⟨rfl, blw_step hb2 hb3⟩
        · have x1 : ((has.length : Int) != (l.length : Int)) = true := by simp; omega
          have x3 : (has.length != l.length) = true := by simp; omega
          clear hl1 hls
          go_enter Try.func4, Try.ntmps4
          go_wp2_with (go_at_call 11; refine Hid.out ?_)
          refine Lib.hid ?_
          rw [← HW.out]
          refine D.out.mono ?_
          rintro _ w2 ⟨rfl, hb2⟩
          go_wp2_with (go_at_call 9; refine (F2.out _ hb2).mono ?_; rintro _ w3 ⟨rfl, hb3⟩)
          all_goals go_ret
          all_goals exact ⟨rfl, blw_step hb2 hb3⟩
    · have eE : errV f = .iface 37 (.int .i64 f) := if_neg hf
      rw [eE] at F2
      clear eE hf
      go_enter Try.func4, Try.ntmps4
      go_wp2_with (go_at_call 11; refine Hid.out ?_)
      refine Lib.hid ?_
      rw [← HW.out]
      refine D.out.mono ?_
      rintro _ w2 ⟨rfl, hb2⟩
      go_wp2_with (go_at_call 9; refine (F2.out _ hb2).mono ?_; rintro _ w3 ⟨rfl, hb3⟩)
      all_goals go_ret
      all_goals exact ⟨rfl, blw_step hb2 hb3⟩
end Go.Proofs.Ytddbgbokkpeffaa
