/- Queues: the walk of the law QueueSays. -/
import Derived.Test.YtddbgbokkpeffaaQ4
namespace Go.Proofs.Ytddbgbokkpeffaa
open Go.ChangeShapes Go.WideShapes Go.ChangeAt Go.RowKit
open Pk
theorem cell_new (w : World) (cs : Array Value) (t : TypeId) (b i : Nat) (v : Value) (hb : b = w.heap.size) (h : cs[i]? = some v) : (w.alloc (.cells cs t)).cell? ⟨b, i, none⟩ = some v := by
  subst hb
  rw [cell_of_row _ _ _ _ _ _ (heap_alloc_new _ _)]
  exact h
theorem isIs_lit (w : World) (b n cap : Nat) (L : List Int) (cs : Array Value) (t : TypeId) (hb : b = w.heap.size) (hc : cs = (cellsI L).toArray) (hn : n = L.length) : IsIs (w.alloc (.cells cs t)) (.slice (some ⟨b, 0, none⟩) n cap) L := by
  subst hn
  refine ⟨_, _, rfl, fun i hi => ⟨b, 0, rfl, ?_⟩⟩
  rw [Nat.zero_add]
  exact cell_new w cs t b i _ hb (by rw [hc]; simp [cellsI, hi])
theorem isBs_lit (w : World) (b n cap : Nat) (L : List Bool) (cs : Array Value) (t : TypeId) (hb : b = w.heap.size) (hc : cs = (L.map Value.bool).toArray) (hn : n = L.length) : IsBs (w.alloc (.cells cs t)) (.slice (some ⟨b, 0, none⟩) n cap) L := by
  subst hn
  refine ⟨_, _, rfl, fun i hi => ⟨b, 0, rfl, ?_⟩⟩
  rw [Nat.zero_add]
  exact cell_new w cs t b i _ hb (by rw [hc]; simp [hi])
def cellsQ (L : List (Int × Int)) : List Value := L.flatMap fun q => [.int .i64 q.1, .int .i64 q.2]
theorem cellsQ_length (L : List (Int × Int)) : (cellsQ L).length = L.length * 2 := by
  induction L with
  | nil => rfl
  | cons q L ih => unfold cellsQ at ih ⊢; simp at ih ⊢; omega
theorem cellsQ_at (L : List (Int × Int)) : ∀ i (h : i < L.length), (cellsQ L)[i * 2]? = some (.int .i64 L[i].1) ∧ (cellsQ L)[i * 2 + 1]? = some (.int .i64 L[i].2) := by
  induction L with
  | nil => intro i h; simp at h
  | cons q L ih =>
    intro i h
    cases i with
    | zero => exact ⟨rfl, rfl⟩
    | succ i =>
      have e1 : (i + 1) * 2 = i * 2 + 2 := by omega
      have := ih i (by simpa using h)
      rw [e1]
      exact this
theorem isQs_lit (w : World) (b n cap : Nat) (L : List (Int × Int)) (cs : Array Value) (t : TypeId) (hb : b = w.heap.size) (hc : cs = (cellsQ L).toArray) (hn : n = L.length) : IsQs (w.alloc (.cells cs t)) (.slice (some ⟨b, 0, none⟩) n cap) L := by
  subst hn
  refine ⟨_, _, rfl, fun i hi => ⟨b, 0, rfl, ?_, ?_⟩⟩
  · rw [Nat.zero_add]
    exact cell_new w cs t b _ _ hb (by rw [hc]; simpa using (cellsQ_at L i hi).1)
  · rw [Nat.zero_add]
    exact cell_new w cs t b _ _ hb (by rw [hc]; simpa using (cellsQ_at L i hi).2)
theorem turns_turn : Turn [(1, 5), (3, 5)] [1, 2] [true, true] 2 1 := by
  refine .inr ⟨1, rfl, by decide, by decide, ?_, ?_⟩
  · intro k hk _
    have : k = 0 ∨ k = 1 := by omega
    rcases this with rfl | rfl <;> decide
  · intro j hj _
    have : j = 0 := by omega
    subst this
    decide
set_option maxRecDepth 100000 in
set_option maxHeartbeats 1000000 in
theorem turns_any (w : World) : Calls Try.prog 6 #[] w fun e w' => e = .returned (.bool true) ∧ Below w.heap.size w w' := by
  obtain ⟨w1, hw1⟩ : ∃ w1, w1 = ((w.alloc (.cells #[.int .i64 1, .int .i64 5, .int .i64 3, .int .i64 5] 33)).alloc (.cells #[.int .i64 1, .int .i64 2] 3)).alloc (.cells #[.bool true, .bool true] 4) := ⟨_, rfl⟩
  have h1 : IsQs w1 (.slice (some ⟨w.heap.size, 0, none⟩) 2 2) [(1, 5), (3, 5)] := by rw [hw1]; exact isQs_blw (isQs_blw (isQs_lit w _ _ _ _ _ _ rfl rfl rfl) (blw_box _)) (blw_box _)
  have h2 : IsIs w1 (.slice (some ⟨w.heap.size + 1, 0, none⟩) 2 2) [1, 2] := by rw [hw1]; exact isIs_blw (isIs_lit _ _ _ _ _ _ _ (by simp) rfl rfl) (blw_box _)
  have h3 : IsBs w1 (.slice (some ⟨w.heap.size + 1 + 1, 0, none⟩) 2 2) [true, true] := by rw [hw1]; exact isBs_lit _ _ _ _ _ _ _ (by simp) rfl rfl
  have D := Lib.hid (pick_any _ _ _ _ _ _ w1 h1 h2 h3 ⟨by decide, by decide⟩ (by decide))
  have HW := Lib.hid hw1
  have hb1 : Below w.heap.size w w1 := by rw [hw1]; exact blw_step (blw_step (blw_box _) (blw_box _)) (blw_box _)
  clear h1 h2 h3 hw1
  go_enter Try.func6, Try.ntmps6
  go_wp2_with (go_at_call 11; refine Hid.out ?_)
  refine Lib.hid ?_
  rw [← HW.out]
  refine D.out.mono ?_
  rintro _ w2 ⟨r, rfl, hr, hb2⟩
  obtain rfl : r = 1 := hr.out.unique turns_turn
  clear hr D
  go_wp2
  go_ret
  exact ⟨rfl, blw_step hb1 hb2⟩
theorem less_int (xw xc yw yc n m : Int) (h1 : 0 ≤ xw ∧ xw ≤ 9) (h2 : 0 ≤ yw ∧ yw ≤ 9) (h3 : 0 ≤ xc) (h4 : 0 ≤ yc) (h5 : 0 ≤ n ∧ n ≤ 1000) (h6 : 0 ≤ m ∧ m ≤ 1000) (w : World) :
    Calls Try.prog 10 #[.agg #[.int .i64 xw, .int .i64 xc], .agg #[.int .i64 yw, .int .i64 yc], .int .i64 n, .int .i64 m] w fun e w' => e = .returned (.bool (decide (n * yw < m * xw))) ∧ Below w.heap.size w w' := by
  obtain ⟨xw, rfl⟩ := Int.eq_ofNat_of_zero_le (a := xw) (by omega)
  obtain ⟨xc, rfl⟩ := Int.eq_ofNat_of_zero_le (a := xc) (by omega)
  obtain ⟨yw, rfl⟩ := Int.eq_ofNat_of_zero_le (a := yw) (by omega)
  obtain ⟨yc, rfl⟩ := Int.eq_ofNat_of_zero_le (a := yc) (by omega)
  obtain ⟨n, rfl⟩ := Int.eq_ofNat_of_zero_le (a := n) (by omega)
  obtain ⟨m, rfl⟩ := Int.eq_ofNat_of_zero_le (a := m) (by omega)
  have hE : decide ((n : Int) * (yw : Int) < (m : Int) * (xw : Int)) = decide (n * yw < m * xw) := by
    rw [decide_eq_decide, ← Int.natCast_mul, ← Int.natCast_mul]; exact Int.ofNat_lt
  rw [hE]
  exact less_any xw xc yw yc n m (by omega) (by omega) (by omega) (by omega) w
theorem good_of {l : List (Int × Int)} {has : List Int} (hf : faultQ l = 0) (hh : ∀ j (h : j < has.length), 0 ≤ has[j] ∧ has[j] ≤ 1000) : GoodQ l has ∧ l.length ≤ 4 ∧ 1 ≤ l.length := by
  unfold faultQ at hf
  by_cases h : l.length < 1 ∨ 4 < l.length
  · rw [if_pos h] at hf; omega
  · rw [if_neg h] at hf
    cases hb : l.any badQ with
    | true => rw [hb] at hf; simp at hf
    | false =>
      refine ⟨⟨fun q hq => ?_, fun x hx => ?_⟩, by omega, by omega⟩
      · have := List.any_eq_false.1 hb q hq
        unfold badQ at this
        simp at this
        omega
      · obtain ⟨j, hj, rfl⟩ := List.getElem_of_mem hx
        exact hh j hj
set_option maxRecDepth 100000 in
set_option maxHeartbeats 4000000 in
theorem queueSays_walk (lv hv wv : Value) (l : List (Int × Int)) (has : List Int) (wants : List Bool) (w : World) (h1 : IsQs w lv l) (h2 : IsIs w hv has) (h3 : IsBs w wv wants) (k1 : l.length ≤ maxLen) :
    Calls Try.prog 3 #[lv, hv, wv] w fun e w' => e = .returned (.bool true) ∧ Below w.heap.size w w' := by
  have hmix : Try.prog.follows .mixedOrders = true := by kernel_rfl
  have T0 := Lib.hid (turns_any w)
  have K1 := Lib.hid k1
  have H1 := Lib.hid h1
  have H2 := Lib.hid h2
  have H3 := Lib.hid h3
  obtain ⟨la, lc, rfl, q1⟩ := h1
  obtain ⟨ha, hc, rfl, q2⟩ := h2
  obtain ⟨wa, wc, rfl, q3⟩ := h3
  have HQ1 := Lib.hid q1
  have HQ2 := Lib.hid q2
  clear q1 q2 q3 k1
  by_cases g : 10 < l.length ∨ 10 < has.length ∨ 10 < wants.length
  · cases g1 : decide ((10 : Int) < l.length) with
    | true =>
      clear g
      go_enter Try.func3, Try.ntmps3
      go_wp2_with (go_at_call 6; refine T0.out.mono ?_; rintro _ w1 ⟨rfl, hb1⟩)
      all_goals go_ret
      all_goals exact ⟨rfl, hb1⟩
    | false =>
      cases g2 : decide ((10 : Int) < has.length) with
      | true =>
        clear g
        go_enter Try.func3, Try.ntmps3
        go_wp2_with (go_at_call 6; refine T0.out.mono ?_; rintro _ w1 ⟨rfl, hb1⟩)
        all_goals go_ret
        all_goals exact ⟨rfl, hb1⟩
      | false =>
        have g3 : decide ((10 : Int) < wants.length) = true := by
          have := of_decide_eq_false g1
          have := of_decide_eq_false g2
          exact decide_eq_true (by omega)
        clear g
        go_enter Try.func3, Try.ntmps3
        go_wp2_with (go_at_call 6; refine T0.out.mono ?_; rintro _ w1 ⟨rfl, hb1⟩)
        all_goals go_ret
        all_goals exact ⟨rfl, hb1⟩
  · have n1 : l.length ≤ 10 := by omega
    have n2 : has.length ≤ 10 := by omega
    have n3 : wants.length ≤ 10 := by omega
    clear g
    have F1 : Hid (∀ w1, Below w.heap.size w w1 → Calls Try.prog 7 #[.slice la l.length lc] w1 fun e w' => e = .returned (.int .i64 (faultQ l)) ∧ w' = w1) := fun w1 hb => qfault_any _ l w1 (isQs_blw H1.out hb) K1.out
    have F2 : Hid (∀ w1, Below w.heap.size w w1 → Calls Try.prog 9 #[.slice la l.length lc] w1 fun e w' => e = .returned (errV (faultQ l)) ∧ Below w1.heap.size w1 w') := fun w1 hb => qcheck_any _ l w1 (isQs_blw H1.out hb) K1.out
    have F3 : Hid (∀ w1, Calls Try.prog 8 #[errV (faultQ l), .int .i64 (faultQ l)] w1 fun e w' => e = .returned (.bool true) ∧ w' = w1) := fun w1 => same_any _ (faultQ_pos l) w1
    have HGD : Hid (faultQ l = 0 → (∀ j (h : j < has.length), 0 ≤ has[j] ∧ has[j] ≤ 1000) → GoodQ l has ∧ l.length ≤ 4 ∧ 1 ≤ l.length) := fun a b => good_of a b
    have hfp := faultQ_pos l
    generalize faultQ l = f at *
    generalize hev : errV f = ev at *
    clear hev
    go_enter Try.func3, Try.ntmps3
    go_wp2_with (first | (go_at_call 6; refine T0.out.mono ?_; rintro _ w1 ⟨rfl, hb1⟩) | (go_at_call 7; refine (F1.out _ hb1).mono ?_; rintro _ w9 ⟨rfl, h9⟩; rw [h9]; clear h9 w9) | (go_at_call 9; refine (F2.out _ hb1).mono ?_; rintro _ w2 ⟨rfl, hb2⟩) | (go_at_call 8; refine (F3.out _).mono ?_; rintro _ w9 ⟨rfl, h9⟩; rw [h9]; clear h9 w9))
    have hb3 : Below w.heap.size w w2 := blw_step hb1 hb2
    clear F1 F2 F3 T0 hb1 hb2
    generalize decide ((10 : Int) < l.length) = d1
    generalize decide ((10 : Int) < has.length) = d2
    generalize decide ((10 : Int) < wants.length) = d3
    go_loop [9] (fun i => ∃ k : Nat, k ≤ has.length ∧ i = .int .i64 k ∧ Hid (∀ j (h : j < has.length), j < k → 0 ≤ has[j] ∧ has[j] ≤ 1000)) (fun i => has.length - (intOf i).toNat)
    case atStart => exact ⟨0, Nat.zero_le _, rfl, fun j _ h => absurd h (by omega)⟩
    case round =>
      obtain ⟨k, hk, rfl, HP⟩ := hrel
      by_cases hlt : k < has.length
      · obtain ⟨b, off, rfl, c0⟩ := HQ2.out k hlt
        replace c0 := cell_blw c0 hb3
        have HS : Hid (0 ≤ has[k] → has[k] ≤ 1000 → ∀ j (h : j < has.length), j < k + 1 → 0 ≤ has[j] ∧ has[j] ≤ 1000) := fun a b j h hj => by
          by_cases e : j = k
          · subst e; exact ⟨a, b⟩
          · exact HP.out j h (by omega)
        clear HQ1 HQ2 HP
        generalize has[k] = x at c0 HS
        cases e1 : decide (x < 0) with
        | true =>
          go_wp2
          all_goals go_ret
          all_goals exact ⟨rfl, hb3⟩
        | false =>
          cases e2 : decide (1000 < x) with
          | true =>
            go_wp2
            all_goals go_ret
            all_goals exact ⟨rfl, hb3⟩
          | false =>
            have HS' := HS.out (by have := of_decide_eq_false e1; omega) (by have := of_decide_eq_false e2; omega)
            have HS2 := Lib.hid HS'
            clear HS' HS
            go_wp2
            go_round
            case rel => exact ⟨k + 1, by omega, by go_num, HS2⟩
            case measure => simp [intOf]; omega
      · have HA : Hid (∀ j (h : j < has.length), 0 ≤ has[j] ∧ has[j] ≤ 1000) := fun j h => HP.out j h (by omega)
        clear HP
        cases e1 : decide (0 < f) with
        | true =>
          clear HQ1 HQ2
          go_wp2
          all_goals go_ret
          all_goals exact ⟨rfl, hb3⟩
        | false =>
          obtain ⟨hgood, hl4, hl1⟩ := HGD.out (by have := of_decide_eq_false e1; omega) HA.out
          have HG := Lib.hid hgood
          clear hgood HGD hl1
          go_wp2
          go_loopw [10] (fun i wr => ∃ j : Nat, j ≤ 4 ∧ i = .int .i64 j ∧ Below w.heap.size w wr) (fun i _ => 4 - (intOf i).toNat)
          case atStart => exact ⟨0, Nat.zero_le _, rfl, hb3⟩
          case round =>
            obtain ⟨j, hj, rfl, hb4⟩ := hrel
            by_cases hcc : j + 1 < l.length ∧ j + 1 < has.length
            · obtain ⟨j1, hj1e⟩ : ∃ j1, j1 = j + 1 := ⟨_, rfl⟩
              rw [← hj1e] at hcc
              obtain ⟨hj1, hj2⟩ := hcc
              have E1 : (j : Int) + 1 = (j1 : Int) := by omega
              have E2 : IntKind.i64.wrap (j1 : Int) = (j1 : Int) := wrap_small _ (by omega) (by omega)
              have hj3 : j < l.length := by omega
              have hj4 : j < has.length := by omega
              obtain ⟨lb, lo, rfl, c0, c1⟩ := HQ1.out j hj3
              obtain ⟨_, _, e, c2, c3⟩ := HQ1.out j1 hj1
              injection e with e; injection e with e1' e2'; subst e1' e2'
              obtain ⟨hb', ho, rfl, c4⟩ := HQ2.out j hj4
              obtain ⟨_, _, e, c5⟩ := HQ2.out j1 hj2
              injection e with e; injection e with e1' e2'; subst e1' e2'
              have g0 := HG.out.1 l[j] (List.getElem_mem hj3)
              have g1 := HG.out.1 l[j1] (List.getElem_mem hj1)
              have g2 := HA.out j hj4
              have g3 := HA.out j1 hj2
              clear HQ1 HQ2
              generalize l[j] = p at c0 c1 g0
              generalize l[j1] = q at c2 c3 g1
              generalize has[j] = x at c4 g2
              generalize has[j1] = y at c5 g3
              obtain ⟨pw, pc⟩ := p
              obtain ⟨qw, qc⟩ := q
              simp only at c0 c1 c2 c3 g0 g1
              have D := Lib.hid (fun d os => Calls.regrown_of (w := wr) (d := d) (os := os) (less_int pw pc qw qc x y (by omega) (by omega) (by omega) (by omega) g2 g3 _))
              have m1 : 0 ≤ x * qw := Int.mul_nonneg g2.1 (by omega)
              have m2 : x * qw ≤ 1000 * 9 := Int.mul_le_mul g2.2 g1.2.1 (by omega) (by omega)
              have m3 : 0 ≤ y * pw := Int.mul_nonneg g3.1 (by omega)
              have m4 : y * pw ≤ 1000 * 9 := Int.mul_le_mul g3.2 g0.2.1 (by omega) (by omega)
              have E3 : IntKind.i64.wrap (x * qw) = x * qw := wrap_small _ m1 (by omega)
              have E4 : IntKind.i64.wrap (y * pw) = y * pw := wrap_small _ m3 (by omega)
              replace c0 := cell_regrown (cell_blw c0 hb4)
              replace c1 := cell_regrown (cell_blw c1 hb4)
              replace c2 := cell_regrown (cell_blw c2 hb4)
              replace c3 := cell_regrown (cell_blw c3 hb4)
              replace c4 := cell_regrown (cell_blw c4 hb4)
              replace c5 := cell_regrown (cell_blw c5 hb4)
              have HJ := Lib.hid hj1e
              clear hj1e
              cases g8 : decide (x * qw < y * pw) with
              | true =>
                rw [g8] at D
                go_wp2
                refine wp_region_quiet_below hmix (by kernel_rfl) ?_
                repeat (quiet_step (first | (go_at_call 10; exact D.out _ _)))
                refine wpQuiet_nil ?_
                intro _ hw'
                obtain ⟨⟨dq, osq⟩, hw''⟩ := hw'
                subst hw''
                have hb5 : Below w.heap.size w (Sort.grow (redrawn wr dq) osq) := blw_step hb4 (below_regrown wr dq osq)
                generalize Sort.grow (redrawn wr dq) osq = w5 at *
                go_wp2
                go_roundw
                case rel => exact ⟨j1, by omega, by go_num, hb5⟩
                case measure => have := HJ.out; simp [intOf]; omega
              | false =>
                rw [g8] at D
                go_wp2
                refine wp_region_quiet_below hmix (by kernel_rfl) ?_
                repeat (quiet_step (first | (go_at_call 10; exact D.out _ _)))
                refine wpQuiet_nil ?_
                intro _ hw'
                obtain ⟨⟨dq, osq⟩, hw''⟩ := hw'
                subst hw''
                have hb5 : Below w.heap.size w (Sort.grow (redrawn wr dq) osq) := blw_step hb4 (below_regrown wr dq osq)
                generalize Sort.grow (redrawn wr dq) osq = w5 at *
                go_wp2
                go_roundw
                case rel => exact ⟨j1, by omega, by go_num, hb5⟩
                case measure => have := HJ.out; simp [intOf]; omega
            · have P1 := Lib.hid (pick_any _ _ _ l has wants wr (isQs_blw H1.out hb4) (isIs_blw H2.out hb4) (isBs_blw H3.out hb4) HG.out (by omega))
              have P2 : Hid (∀ w', Below w.heap.size w w' → Calls Try.prog 12 #[.slice la l.length lc, .slice ha has.length hc, .slice wa wants.length wc] w' fun e w'' => ∃ r : Int, e = .returned (.int .i64 r) ∧ Hid (Turn l has wants (min (min l.length has.length) wants.length) r) ∧ Below w'.heap.size w' w'') := fun w' hb => picked_any _ _ _ l has wants w' (isQs_blw H1.out hb) (isIs_blw H2.out hb) (isBs_blw H3.out hb) HG.out (by omega)
              clear HQ1 HQ2
              by_cases hc1 : j + 1 < l.length
              · have hc1' : (j : Int) + 1 < l.length := by omega
                have hc2' : ¬ (j : Int) + 1 < has.length := by omega
                clear hcc
                go_wp2_with (first | (go_at_call 11; refine P1.out.mono ?_; rintro _ w5 ⟨r, rfl, HR, hb5⟩) | (go_at_call 12; refine (P2.out _ (blw_step hb4 hb5)).mono ?_; rintro _ w6 ⟨r2, rfl, HR2, hb6⟩))
                all_goals go_ret
                all_goals (refine ⟨?_, blw_step hb4 (blw_step hb5 hb6)⟩; rw [HR.out.unique HR2.out]; simp)
              · have hc1' : ¬ (j : Int) + 1 < l.length := by omega
                clear hcc
                go_wp2_with (first | (go_at_call 11; refine P1.out.mono ?_; rintro _ w5 ⟨r, rfl, HR, hb5⟩) | (go_at_call 12; refine (P2.out _ (blw_step hb4 hb5)).mono ?_; rintro _ w6 ⟨r2, rfl, HR2, hb6⟩))
                all_goals go_ret
                all_goals (refine ⟨?_, blw_step hb4 (blw_step hb5 hb6)⟩; rw [HR.out.unique HR2.out]; simp)
end Go.Proofs.Ytddbgbokkpeffaa
