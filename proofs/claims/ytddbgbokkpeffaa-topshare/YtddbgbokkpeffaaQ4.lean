/- Queues: the document's answers: which fault, whose turn; an error by its number. -/
import Derived.Test.YtddbgbokkpeffaaQ3
namespace Go.Proofs.Ytddbgbokkpeffaa
open Go.ChangeShapes Go.WideShapes Go.ChangeAt Go.RowKit
namespace Pk
theorem turn_zero (l : List (Int × Int)) (has : List Int) (wants : List Bool) : Turn l has wants 0 (-1) := .inl ⟨fun i hi => absurd hi (by omega), rfl⟩
theorem turn_skip {l : List (Int × Int)} {has : List Int} {wants : List Bool} {k : Nat} {b : Int} (h : Turn l has wants k b) (hk : okB l has wants k = false) : Turn l has wants (k + 1) b := by
  have hc : ∀ y, y < k + 1 → okB l has wants y = true → y < k := fun y hy hy' => by
    by_cases e : y = k
    · subst e; rw [hk] at hy'; cases hy'
    · omega
  rcases h with ⟨h1, h2⟩ | ⟨i, h1, h2, h3, h4, h5⟩
  · refine .inl ⟨fun y hy => ?_, h2⟩
    by_cases e : y = k
    · subst e; exact hk
    · exact h1 y (by omega)
  · exact .inr ⟨i, h1, by omega, h3, fun y hy hy' => h4 y (hc y hy hy') hy', h5⟩
theorem turn_first {l : List (Int × Int)} {has : List Int} {wants : List Bool} {k : Nat} (h : Turn l has wants k (-1)) (hk : okB l has wants k = true) : Turn l has wants (k + 1) (k : Nat) := by
  rcases h with ⟨h1, h2⟩ | ⟨i, h1, _⟩
  · refine .inr ⟨k, rfl, by omega, hk, fun y hy hy' => ?_, fun j hj hj' => ?_⟩
    · by_cases e : y = k
      · subst e; exact less_irrefl _ _ _
      · rw [h1 y (by omega)] at hy'; cases hy'
    · rw [h1 j hj] at hj'; cases hj'
  · omega
theorem turn_keep {l : List (Int × Int)} {has : List Int} {wants : List Bool} {k i : Nat} (h : Turn l has wants k (i : Nat)) (hl : less l has k i = false) : Turn l has wants (k + 1) (i : Nat) := by
  rcases h with ⟨_, h2⟩ | ⟨i', h1, h2, h3, h4, h5⟩
  · omega
  · have : i = i' := by omega
    subst this
    refine .inr ⟨i, rfl, by omega, h3, fun y hy hy' => ?_, h5⟩
    by_cases e : y = k
    · subst e; exact hl
    · exact h4 y (by omega) hy'
theorem turn_better {l : List (Int × Int)} {has : List Int} {wants : List Bool} {k i : Nat} (hg : GoodQ l has) (hkl : k < l.length) (h : Turn l has wants k (i : Nat)) (hk : okB l has wants k = true) (hl : less l has k i = true) : Turn l has wants (k + 1) (k : Nat) := by
  rcases h with ⟨_, h2⟩ | ⟨i', h1, h2, h3, h4, h5⟩
  · omega
  · have : i = i' := by omega
    subst this
    refine .inr ⟨k, rfl, by omega, hk, fun y hy hy' => ?_, fun j hj hj' => ?_⟩
    · by_cases e : y = k
      · subst e; exact less_irrefl _ _ _
      · cases hyk : less l has y k with
        | false => rfl
        | true =>
          have a := less_neg hg (i := y) (j := i) (k := k) (by omega) (by omega) hkl hl (less_asymm hyk)
          rw [h4 y (by omega) hy'] at a; cases a
    · cases hkj : less l has k j with
      | true => rfl
      | false =>
        have a := less_neg hg (i := j) (j := i) (k := k) (by omega) (by omega) hkl hl hkj
        rw [h4 j hj hj'] at a; cases a
theorem Turn.lt {l : List (Int × Int)} {has : List Int} {wants : List Bool} {n : Nat} {r : Int} (h : Turn l has wants n r) : r = -1 ∨ ∃ i : Nat, r = i ∧ i < n := by
  rcases h with ⟨_, h2⟩ | ⟨i, h1, h2, _⟩
  · exact .inl h2
  · exact .inr ⟨i, h1, h2⟩
end Pk
open Pk
theorem faultQ_pos (l : List (Int × Int)) : 0 ≤ faultQ l := by
  unfold faultQ
  split
  · omega
  · split <;> omega
theorem assert_err (n : Int) (w : World) : Sem.run Try.prog (Instr.typeAssert (Value.iface 37 (Value.int IntKind.i64 n)) 29 37 true) w = .ok (.tuple #[.int .i64 n, .bool true]) w := by kernel_rfl
set_option maxRecDepth 100000 in
theorem same_any (n : Int) (h : 0 ≤ n) (w : World) : Calls Try.prog 8 #[errV n, .int .i64 n] w fun e w' => e = .returned (.bool true) ∧ w' = w := by
  unfold errV
  by_cases h0 : n = 0
  · rw [if_pos h0]
    subst h0
    go_enter Try.func8, Try.ntmps8
    go_wp2
    go_ret
    exact ⟨rfl, rfl⟩
  · rw [if_neg h0]
    have hp : 0 < n := by omega
    clear h0 h
    have ta := assert_err n
    go_enter Try.func8, Try.ntmps8
    go_wp2
    go_ret
    exact ⟨rfl, rfl⟩
set_option maxRecDepth 100000 in
set_option maxHeartbeats 1000000 in
theorem qfault_any (v : Value) (l : List (Int × Int)) (w : World) (h : IsQs w v l) (hl : l.length ≤ maxLen) :
    Calls Try.prog 7 #[v] w fun e w' => e = .returned (.int .i64 (faultQ l)) ∧ w' = w := by
  unfold maxLen at hl
  obtain ⟨a, cap, rfl, hc⟩ := h
  have HC := Lib.hid hc
  clear hc
  unfold faultQ
  by_cases h1 : l.length < 1
  · rw [if_pos (.inl h1)]
    go_enter Try.func7, Try.ntmps7
    go_wp2
    all_goals go_ret
    all_goals exact ⟨rfl, rfl⟩
  · by_cases h4 : 4 < l.length
    · rw [if_pos (.inr h4)]
      go_enter Try.func7, Try.ntmps7
      go_wp2
      all_goals go_ret
      all_goals exact ⟨rfl, rfl⟩
    · rw [if_neg (by omega)]
      obtain ⟨F, hF⟩ : ∃ F : Int, F = if l.any badQ then 1 else 0 := ⟨_, rfl⟩
      rw [← hF]
      have HF := Lib.hid hF
      clear hF
      go_enter Try.func7, Try.ntmps7
      go_wp2
      go_loop [3] (fun i => ∃ k : Nat, k ≤ l.length ∧ i = .int .i64 k ∧ Hid ((l.take k).any badQ = false)) (fun i => l.length - (intOf i).toNat)
      case atStart => exact ⟨0, Nat.zero_le _, rfl, rfl⟩
      case round =>
        obtain ⟨k, hk, rfl, HP⟩ := hrel
        by_cases hlt : k < l.length
        · obtain ⟨b, off, rfl, c0, c1⟩ := HC.out k hlt
          have HB : Hid (badQ l[k] = (decide (l[k].1 < 1) || decide (9 < l[k].1) || decide (l[k].2 < 0) || decide (12 < l[k].2))) := rfl
          have HOUT : Hid (badQ l[k] = true → l.any badQ = true) := any_out l k hlt
          have HST : Hid (badQ l[k] = false → (l.take (k + 1)).any badQ = false) := any_step l k hlt HP.out
          clear HC HP
          generalize l[k] = q at c0 c1 HB HOUT HST
          obtain ⟨qw, qc⟩ := q
          simp only at c0 c1 HB
          cases g1 : decide (qw < 1) with
          | true =>
            have HALL := Lib.hid (HOUT.out (by rw [HB.out, g1]; rfl))
            clear HB HOUT HST
            go_wp2
            all_goals go_ret
            all_goals exact ⟨by rw [HF.out, HALL.out]; rfl, rfl⟩
          | false =>
            cases g2 : decide (9 < qw) with
            | true =>
              have HALL := Lib.hid (HOUT.out (by rw [HB.out, g1, g2]; rfl))
              clear HB HOUT HST
              go_wp2
              all_goals go_ret
              all_goals exact ⟨by rw [HF.out, HALL.out]; rfl, rfl⟩
            | false =>
              cases g3 : decide (qc < 0) with
              | true =>
                have HALL := Lib.hid (HOUT.out (by rw [HB.out, g1, g2, g3]; rfl))
                clear HB HOUT HST
                go_wp2
                all_goals go_ret
                all_goals exact ⟨by rw [HF.out, HALL.out]; rfl, rfl⟩
              | false =>
                cases g4 : decide (12 < qc) with
                | true =>
                  have HALL := Lib.hid (HOUT.out (by rw [HB.out, g1, g2, g3, g4]; rfl))
                  clear HB HOUT HST
                  go_wp2
                  all_goals go_ret
                  all_goals exact ⟨by rw [HF.out, HALL.out]; rfl, rfl⟩
                | false =>
                  have hn := HST.out (by rw [HB.out, g1, g2, g3, g4]; rfl)
                  clear HB HOUT HST
                  go_wp2
                  go_round
                  case rel => exact ⟨k + 1, by omega, by go_num, hn⟩
                  case measure => simp [intOf]; omega
        · have HALL : Hid (l.any badQ = false) := by
            have := HP.out
            rw [List.take_of_length_le (by omega)] at this
            exact this
          clear HC HP
          go_wp2
          go_ret
          exact ⟨by rw [HF.out, HALL.out]; rfl, rfl⟩
set_option maxRecDepth 100000 in
set_option maxHeartbeats 4000000 in
theorem picked_any (lv hv wv : Value) (l : List (Int × Int)) (has : List Int) (wants : List Bool) (w : World) (h1 : IsQs w lv l) (h2 : IsIs w hv has) (h3 : IsBs w wv wants) (hg : GoodQ l has) (hll : l.length ≤ 1000000) :
    Calls Try.prog 12 #[lv, hv, wv] w fun e w' => ∃ r : Int, e = .returned (.int .i64 r) ∧ Hid (Turn l has wants (min (min l.length has.length) wants.length) r) ∧ Below w.heap.size w w' := by
  obtain ⟨la, lc, rfl, q1⟩ := h1
  obtain ⟨ha, hc, rfl, q2⟩ := h2
  obtain ⟨wa, wc, rfl, q3⟩ := h3
  have HQ1 := Lib.hid q1
  have HQ2 := Lib.hid q2
  have HQ3 := Lib.hid q3
  have HG := Lib.hid hg
  clear q1 q2 q3 hg
  obtain ⟨n, hn⟩ : ∃ n, n = min (min l.length has.length) wants.length := ⟨_, rfl⟩
  rw [← hn]
  have HN := Lib.hid hn
  clear hn
  go_enter Try.func12, Try.ntmps12
  go_wp2
  go_loopw [7, 8] (fun bv kv wr => ∃ (k : Nat) (b : Int), k ≤ l.length ∧ kv = .int .i64 k ∧ bv = .int .i64 b ∧ Hid (Turn l has wants (min k n) b) ∧ Below w.heap.size w wr) (fun _ kv _ => l.length - (intOf kv).toNat)
  case atStart => exact ⟨0, -1, Nat.zero_le _, rfl, rfl, by rw [Nat.zero_min]; exact turn_zero _ _ _, Below.refl _ _⟩
  case round =>
    obtain ⟨k, b, hk, rfl, rfl, HT, hb⟩ := hrel
    by_cases hlt : k < l.length
    · obtain ⟨lb, lo, rfl, c0, c1⟩ := HQ1.out k hlt
      replace c0 := cell_blw c0 hb
      replace c1 := cell_blw c1 hb
      cases g1 : decide (has.length ≤ k) with
      | true =>
        have HT' : Hid (Turn l has wants (min (k + 1) n) b) := by
          have e : min (k + 1) n = min k n := by have := HN.out; have := of_decide_eq_true g1; omega
          show Turn _ _ _ _ _
          rw [e]; exact HT.out
        clear HQ1 HQ2 HQ3 HT
        go_wp2
        go_quiet (fail)
        have hb2 : Below w.heap.size w (wr.drewN nq) := blw_step hb (blw_drewN _ _)
        generalize wr.drewN nq = w3 at *
        go_wp2
        go_roundw
        case rel => exact ⟨k + 1, b, by omega, by go_num, rfl, HT', hb2⟩
        case measure => simp [intOf]; omega
      | false =>
        have hkh : k < has.length := by have := of_decide_eq_false g1; omega
        cases g2 : decide (wants.length ≤ k) with
        | true =>
          have HT' : Hid (Turn l has wants (min (k + 1) n) b) := by
            have e : min (k + 1) n = min k n := by have := HN.out; have := of_decide_eq_true g2; omega
            show Turn _ _ _ _ _
            rw [e]; exact HT.out
          clear HQ1 HQ2 HQ3 HT
          go_wp2
          go_quiet (fail)
          have hb2 : Below w.heap.size w (wr.drewN nq) := blw_step hb (blw_drewN _ _)
          generalize wr.drewN nq = w3 at *
          go_wp2
          go_roundw
          case rel => exact ⟨k + 1, b, by omega, by go_num, rfl, HT', hb2⟩
          case measure => simp [intOf]; omega
        | false =>
          have hkw : k < wants.length := by have := of_decide_eq_false g2; omega
          have hkn : k < n := by have := HN.out; omega
          obtain ⟨hb', ho, rfl, c2⟩ := HQ2.out k hkh
          obtain ⟨wb, wo, rfl, c3⟩ := HQ3.out k hkw
          replace c2 := cell_blw c2 hb
          replace c3 := cell_blw c3 hb
          have HOK : Hid (okB l has wants k = (wants[k] && decide (has[k] < l[k].2))) := by
            show _ = _
            unfold okB cOf
            rw [getD_lt _ _ _ hkw, getD_lt _ _ _ hkh, getD_lt _ _ _ hlt]
          have hT : Turn l has wants k b := by
            have := HT.out
            rw [Nat.min_eq_left (by omega)] at this
            exact this
          have e1 : min (k + 1) n = k + 1 := by omega
          have g3 := HG.out.1 l[k] (List.getElem_mem hlt)
          have g4 := HG.out.2 has[k] (List.getElem_mem hkh)
          have HTD := Lib.hid hT
          have HLS : Hid (∀ i : Nat, ∀ (hi : i < l.length) (hi' : i < has.length), less l has k i = decide (has[k] * l[i].1 < has[i] * l[k].1)) := fun i hi hi' => by
            unfold less wOf
            rw [getD_lt _ _ _ hi, getD_lt _ _ _ hi', getD_lt _ _ _ hkh, getD_lt _ _ _ hlt]
          have E1 := Lib.hid e1
          clear hT HT e1
          generalize l[k] = q at c0 c1 HOK g3 HLS
          generalize has[k] = x at c2 HOK g4 HLS
          generalize wants[k] = y at c3 HOK
          obtain ⟨qw, qc⟩ := q
          simp only at c0 c1 HOK g3 HLS
          cases y with
          | false =>
            have HT' : Hid (Turn l has wants (min (k + 1) n) b) := by
              show Turn _ _ _ _ _
              rw [E1.out]; exact turn_skip HTD.out (by rw [HOK.out]; rfl)
            clear HQ1 HQ2 HQ3 HTD HOK
            go_wp2
            go_quiet (fail)
            have hb2 : Below w.heap.size w (wr.drewN nq) := blw_step hb (blw_drewN _ _)
            generalize wr.drewN nq = w3 at *
            go_wp2
            go_roundw
            case rel => exact ⟨k + 1, b, by omega, by go_num, rfl, HT', hb2⟩
            case measure => simp [intOf]; omega
          | true =>
            cases g5 : decide (qc ≤ x) with
            | true =>
              have HT' : Hid (Turn l has wants (min (k + 1) n) b) := by
                show Turn _ _ _ _ _
                rw [E1.out]; exact turn_skip HTD.out (by rw [HOK.out, decide_eq_false (by have := of_decide_eq_true g5; omega)]; rfl)
              clear HQ1 HQ2 HQ3 HTD HOK
              go_wp2
              go_quiet (fail)
              have hb2 : Below w.heap.size w (wr.drewN nq) := blw_step hb (blw_drewN _ _)
              generalize wr.drewN nq = w3 at *
              go_wp2
              go_roundw
              case rel => exact ⟨k + 1, b, by omega, by go_num, rfl, HT', hb2⟩
              case measure => simp [intOf]; omega
            | false =>
              have HOK' : Hid (okB l has wants k = true) := by
                show _ = _
                rw [HOK.out, decide_eq_true (by have := of_decide_eq_false g5; omega)]; rfl
              clear HOK
              go_wp2
              go_quiet (fail)
              have hb2 : Below w.heap.size w (wr.drewN nq) := blw_step hb (blw_drewN _ _)
              have hb1 : Below wr.heap.size wr (wr.drewN nq) := blw_drewN _ _
              replace c0 := cell_blw c0 hb1
              replace c1 := cell_blw c1 hb1
              replace c2 := cell_blw c2 hb1
              generalize wr.drewN nq = w3 at *
              clear c3 hb1
              rcases HTD.out.lt with hbe | ⟨i, hbe, hik⟩
              · subst hbe
                have HT' : Hid (Turn l has wants (min (k + 1) n) (k : Nat)) := by
                  show Turn _ _ _ _ _
                  rw [E1.out]; exact turn_first HTD.out HOK'.out
                clear HQ1 HQ2 HQ3 HTD HOK'
                go_wp2
                go_quiet (fail)
                have hb3 : Below w.heap.size w (w3.drewN nq) := blw_step hb2 (blw_drewN _ _)
                generalize w3.drewN nq = w4 at *
                go_wp2
                go_roundw
                case rel => exact ⟨k + 1, (k : Nat), by omega, by go_num, rfl, HT', hb3⟩
                case measure => simp [intOf]; omega
              · subst hbe
                have hil : i < l.length := by omega
                have hih : i < has.length := by omega
                obtain ⟨_, _, e, c4, _⟩ := HQ1.out i hil
                injection e with e; injection e with e1 e2; subst e1 e2
                obtain ⟨_, _, e, c5⟩ := HQ2.out i hih
                injection e with e; injection e with e1 e2; subst e1 e2
                replace c4 := cell_blw c4 hb2
                replace c5 := cell_blw c5 hb2
                have HL := Lib.hid (HLS.out i hil hih)
                have g6 := HG.out.1 l[i] (List.getElem_mem hil)
                have g7 := HG.out.2 has[i] (List.getElem_mem hih)
                have HTK : Hid (less l has k i = false → Turn l has wants (k + 1) (i : Nat)) := fun h => turn_keep HTD.out h
                have HTB : Hid (less l has k i = true → Turn l has wants (k + 1) (k : Nat)) := fun h => turn_better HG.out hlt HTD.out HOK'.out h
                clear HQ1 HQ2 HQ3 HLS HTD HOK'
                generalize l[i] = p at c4 HL g6
                generalize has[i] = z at c5 HL g7
                obtain ⟨pw, pc⟩ := p
                simp only at c4 HL g6
                have m1 : 0 ≤ x * pw := Int.mul_nonneg g4.1 (by omega)
                have m2 : x * pw ≤ 1000 * 9 := Int.mul_le_mul g4.2 g6.2.1 (by omega) (by omega)
                have m3 : 0 ≤ z * qw := Int.mul_nonneg g7.1 (by omega)
                have m4 : z * qw ≤ 1000 * 9 := Int.mul_le_mul g7.2 g3.2.1 (by omega) (by omega)
                have hd0 : decide ((i : Int) < 0) = false := decide_eq_false (by omega)
                cases g8 : decide (x * pw < z * qw) with
                | true =>
                  have HT' : Hid (Turn l has wants (min (k + 1) n) (k : Nat)) := by
                    show Turn _ _ _ _ _
                    rw [E1.out]; exact HTB.out (by rw [HL.out]; exact g8)
                  clear HTK HTB HL
                  go_wp2
                  go_quiet (fail)
                  have hb3 : Below w.heap.size w (w3.drewN nq) := blw_step hb2 (blw_drewN _ _)
                  generalize w3.drewN nq = w4 at *
                  go_wp2
                  go_roundw
                  case rel => exact ⟨k + 1, (k : Nat), by omega, by go_num, rfl, HT', hb3⟩
                  case measure => simp [intOf]; omega
                | false =>
                  have HT' : Hid (Turn l has wants (min (k + 1) n) (i : Nat)) := by
                    show Turn _ _ _ _ _
                    rw [E1.out]; exact HTK.out (by rw [HL.out]; exact g8)
                  clear HTK HTB HL
                  go_wp2
                  go_quiet (fail)
                  have hb3 : Below w.heap.size w (w3.drewN nq) := blw_step hb2 (blw_drewN _ _)
                  generalize w3.drewN nq = w4 at *
                  go_wp2
                  go_roundw
                  case rel => exact ⟨k + 1, (i : Nat), by omega, by go_num, rfl, HT', hb3⟩
                  case measure => simp [intOf]; omega
    · have HT' : Hid (Turn l has wants n b) := by
        have h1 := HT.out
        rw [Nat.min_eq_right (by have := HN.out; omega)] at h1
        exact h1
      clear HQ1 HQ2 HQ3 HT
      go_wp2
      go_ret
      exact ⟨_, rfl, HT', hb⟩
end Go.Proofs.Ytddbgbokkpeffaa
