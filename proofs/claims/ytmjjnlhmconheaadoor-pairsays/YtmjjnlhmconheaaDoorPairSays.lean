/- The law PairSays, walked: whatever the pairs, the text and the number, it returns true, and turns nothing that was there. -/
import Derived.Test.YtmjjnlhmconheaaDoorSmall
namespace Go.Proofs.YtmjjnlhmconheaaDoor
open Go.ChangeShapes Go.WideShapes Go.ChangeAt Go.RowKit
open Num

theorem parse_lit (w : World) (E : Env w) : Calls Tryd.prog 14 #[.string ⟨#[49, 58, 97, 32, 45, 53, 10]⟩] w fun e w' => (∃ a cap, e = .returned (.tuple #[.slice a 1 cap, .nilIface]) ∧ ∃ b off, a = some ⟨b, off, none⟩ ∧ w'.cell? ⟨b, off, none⟩ = some (.string ⟨#[97]⟩) ∧ w'.cell? ⟨b, off + 1, none⟩ = some (.int .i64 (-5))) ∧ Below w.heap.size w w' := by
  have hp : pairsL [49, 58, 97, 32, 45, 53, 10] = some [([97], -5)] := by decide +kernel
  refine (parse_any [49, 58, 97, 32, 45, 53, 10] w E (by decide)).mono ?_
  rintro e w' ⟨⟨v, rfl, hv⟩, hb⟩
  rw [hp] at hv ⊢
  obtain ⟨a, cap, rfl, hc⟩ := hv
  obtain ⟨b, off, rfl, c0, c1⟩ := hc 0 (by decide)
  exact ⟨⟨_, cap, rfl, b, off, rfl, by simpa [conv, bs] using c0, by simpa [conv] using c1⟩, hb⟩
theorem text_lit (w : World) (E : Env w) (b off cap : Nat) (c0 : w.cell? ⟨b, off, none⟩ = some (.string ⟨#[97]⟩)) (c1 : w.cell? ⟨b, off + 1, none⟩ = some (.int .i64 (-5))) :
    Calls Tryd.prog 17 #[.slice (some ⟨b, off, none⟩) 1 cap] w fun e w' => e = .returned (.string ⟨#[49, 58, 97, 32, 45, 53, 10]⟩) ∧ Below w.heap.size w w' := by
  have ht : textL [(⟨#[97]⟩, -5)] = [49, 58, 97, 32, 45, 53, 10] := by decide +kernel
  have := text_any (.slice (some ⟨b, off, none⟩) 1 cap) [(⟨#[97]⟩, -5)] w E ⟨_, cap, rfl, fun i hi => by
    have : i = 0 := by simp at hi; omega
    subst this
    exact ⟨b, off, rfl, by simpa using c0, by simpa using c1⟩⟩ (by intro p hp; simp only [List.mem_singleton] at hp; subst hp; decide) (by decide)
  rw [ht] at this
  exact this
set_option maxRecDepth 100000 in
set_option maxHeartbeats 1000000 in
theorem pairs_any (w : World) (E : Env w) : Calls Tryd.prog 5 #[] w fun e w' => e = .returned (.bool true) ∧ Below w.heap.size w w' := by
  have hE := eqPair ⟨#[97]⟩ ⟨#[97]⟩ (-5) (-5)
  go_enter Tryd.func5, Tryd.ntmps5
  go_wp2_with (first | (go_at_call 14; refine (parse_lit _ E).mono ?_; rintro e w1 ⟨⟨a, cap, rfl, b, off, rfl, c0, c1⟩, hb1⟩) | (go_at_call 7; refine (same_nil _).mono ?_; rintro e w2 ⟨rfl, hb2⟩; have d0 := cell_below c0 hb2; have d1 := cell_below c1 hb2) | (go_at_call 17; refine (text_lit _ ((E.below hb1).below hb2) _ _ _ d0 d1).mono ?_; rintro e w3 ⟨rfl, hb3⟩))
  go_ret
  exact ⟨rfl, below_trans (below_trans hb1 hb2) hb3⟩

theorem parseT_length : ∀ (f : Nat) (l : List UInt8) (ps : List (List UInt8 × Int)), parseT f l = some ps → ps.length ≤ l.length := by
  intro f
  induction f with
  | zero => intro l ps h; simp [parseT] at h
  | succ f ih =>
    intro l ps h
    simp only [parseT] at h
    split at h
    · injection h with h; subst h; simp
    · split at h
      · rename_i hs
        cases hp : parseT f (stepT l).2.1 with
        | none => rw [hp] at h; simp at h
        | some qs =>
          rw [hp] at h
          simp only [Option.map_some, Option.some.injEq] at h
          subst h
          have h1 := ih _ _ hp
          have h2 := stepT_lt l hs
          rw [List.length_cons]
          omega
      · simp at h
theorem pairsL_length (l : List UInt8) : (((pairsL l).getD []).map conv).length ≤ l.length := by
  rw [List.length_map]
  cases h : pairsL l with
  | none => simp
  | some ps => exact parseT_length _ _ _ h
theorem same_fault (b : Bool) (w : World) : Calls Tryd.prog 7 #[faultV b, .int .i64 (faultN b)] w fun e w' => e = .returned (.bool true) ∧ Below w.heap.size w w' := by
  cases b with
  | false => exact same_nil w
  | true => exact same_err 1 w (by decide)
theorem same_errV (b : Bool) (w : World) : Calls Tryd.prog 7 #[errV b 4, .int .i64 (if b then 0 else 4)] w fun e w' => e = .returned (.bool true) ∧ Below w.heap.size w w' := by
  cases b with
  | true => exact same_nil w
  | false => exact same_err 4 w (by decide)
theorem light_mem {l : List (ByteArray × Int)} (h : lightB l = true) {p : ByteArray × Int} (hp : p ∈ l) : p.1.size ≤ 60 := by
  unfold lightB at h
  rw [List.all_eq_true] at h
  simpa using h p hp
theorem below_same {w w' : World} (h : w' = w) : Below w.heap.size w w' := by rw [h]; exact Below.refl _ _

set_option maxRecDepth 100000 in
set_option maxHeartbeats 4000000 in
theorem pairSays_walk (v : Value) (l : List (ByteArray × Int)) (t : List UInt8) (many : Int) (w : World) (E : Env w) (h : IsPairs w v l) (hl : l.length ≤ maxLen) (ht : t.length ≤ maxLen)
    (hf : ∀ p ∈ l, -9223372036854775808 ≤ p.2 ∧ p.2 ≤ 9223372036854775807) :
    Calls Tryd.prog 3 #[v, .string (bs t), .int .i64 many] w fun e w' => e = .returned (.bool true) ∧ Below w.heap.size w w' := by
  have hst := bs_size t
  unfold maxLen at hl ht
  obtain ⟨a, cap, rfl, hcell⟩ := h
  have h : IsPairs w (.slice a l.length cap) l := ⟨a, cap, rfl, hcell⟩
  have L1 : Hid (∀ w, IsPairs w (.slice a l.length cap) l → Calls Tryd.prog 6 #[.slice a l.length cap, .int .i64 60] w fun e w' => e = .returned (.bool (decide ((l.length : Int) ≤ 60) && lightB l)) ∧ w' = w) := fun w h => lightPairs_any _ l 60 w h (by unfold maxLen; omega)
  by_cases hc : (decide ((l.length : Int) ≤ 60) && lightB l) = true ∧ t.length ≤ 2000
  · obtain ⟨hc1, hc2⟩ := hc
    rw [hc1] at L1
    rw [Bool.and_eq_true, decide_eq_true_eq] at hc1
    obtain ⟨hl6, hlb⟩ := hc1
    have hfit : Hid (Fits l) := fun p hp => ⟨by have := light_mem hlb hp; omega, hf p hp⟩
    have hlight : Hid (∀ p ∈ l, p.1.size ≤ 60) := fun p hp => light_mem hlb hp
    have hs2 : (bs t).size ≤ 2000 := by omega
    have hmix : Tryd.prog.follows .mixedOrders = true := by kernel_rfl
    clear hlb hst hl ht
    go_enter Tryd.func3, Tryd.ntmps3
    go_wp2_with (first | (go_at_call 5; refine (pairs_any _ E).mono ?_; rintro e w1 ⟨rfl, hb1⟩) | (go_at_call 6; refine (L1.out _ (h.below hb1)).mono ?_; rintro e w2 ⟨rfl, rfl⟩))
    go_loopw [8] (fun i wr => ∃ k : Nat, k ≤ l.length ∧ i = .int .i64 k ∧ Below w.heap.size w wr) (fun i _ => l.length - (intOf i).toNat)
    case atStart => exact ⟨0, Nat.zero_le _, rfl, hb1⟩
    case round =>
      obtain ⟨k, hk, rfl, hb⟩ := hrel
      clear hb1 L1
      by_cases hlt : k < l.length
      · obtain ⟨b, off, rfl, c0, c1⟩ := hcell k hlt
        have k0 := cell_regrown (cell_below c0 hb)
        have k1 := cell_regrown (cell_below c1 hb)
        have hs60 := hlight.out l[k] (List.getElem_mem hlt)
        have hq := ksum_bd l[k].1.data.toList
        have hms : l[k].1.size ≤ maxLen := by unfold maxLen; omega
        have K1 : Hid (∀ d os, Calls Tryd.prog 8 #[.agg #[.string l[k].1, .int .i64 l[k].2]] (Sort.grow (redrawn wr d) os) fun e w'' => e = .returned (faultV (badB (l[k].1, l[k].2))) ∧ ∃ p : Regrown, w'' = Sort.grow (redrawn wr p.d) p.os) := fun d os => Calls.regrown_of (check_any _ _ _)
        have K2 : Hid (∀ d os, Calls Tryd.prog 9 #[.agg #[.string l[k].1, .int .i64 l[k].2]] (Sort.grow (redrawn wr d) os) fun e w'' => e = .returned (.int .i64 (faultN (badB (l[k].1, l[k].2)))) ∧ ∃ p : Regrown, w'' = Sort.grow (redrawn wr p.d) p.os) := fun d os => Calls.regrown_of (pairFault_any _ _ _)
        have K3 : Hid (∀ d os, Calls Tryd.prog 7 #[faultV (badB (l[k].1, l[k].2)), .int .i64 (faultN (badB (l[k].1, l[k].2)))] (Sort.grow (redrawn wr d) os) fun e w'' => e = .returned (.bool true) ∧ ∃ p : Regrown, w'' = Sort.grow (redrawn wr p.d) p.os) := fun d os => Calls.regrown_of (same_fault _ _)
        have K4 : Hid (∀ d os, Calls Tryd.prog 10 #[.string l[k].1] (Sort.grow (redrawn wr d) os) fun e w'' => e = .returned (.int .u32 (ksum l[k].1.data.toList)) ∧ ∃ p : Regrown, w'' = Sort.grow (redrawn wr p.d) p.os) := fun d os => Calls.regrown_of ((sum_any _ _ hms).mono fun _ _ h => ⟨h.1, below_same h.2⟩)
        have K5 : Hid (∀ d os, Calls Tryd.prog 11 #[.string l[k].1] (Sort.grow (redrawn wr d) os) fun e w'' => e = .returned (.int .i64 (ksum l[k].1.data.toList)) ∧ ∃ p : Regrown, w'' = Sort.grow (redrawn wr p.d) p.os) := fun d os => Calls.regrown_of ((keySum_any _ _ hms).mono fun _ _ h => ⟨h.1, below_same h.2⟩)
        have K6 : Hid (1 ≤ many → many ≤ 1000 → ∀ w, Calls Tryd.prog 12 #[.string l[k].1, .int .i64 many] w fun e w' => e = .returned (.int .i64 (ksum l[k].1.data.toList % many)) ∧ Below w.heap.size w w') := fun h1 h2 w => (slice_any _ many w hms h1 h2).mono fun _ _ h => ⟨h.1, below_same h.2⟩
        have K7 : Hid (1 ≤ many → many ≤ 1000 → ∀ w, Calls Tryd.prog 13 #[.string l[k].1, .int .i64 many] w fun e w' => e = .returned (.int .i64 (ksum l[k].1.data.toList % many)) ∧ Below w.heap.size w w') := fun h1 h2 w => (sliceOf_any _ many w hms h1 h2).mono fun _ _ h => ⟨h.1, below_same h.2⟩
        have C0 := Lib.hid (cell_below c0 hb)
        clear c0 c1 hcell
        generalize l[k] = pp at *
        obtain ⟨s, m⟩ := pp
        simp only at *
        generalize badB (s, m) = bd at *
        generalize faultV bd = fv at *
        generalize faultN bd = fn at *
        generalize ksum s.data.toList = q at *
        have e1 : IntKind.i64.wrap q = q := wrap_small _ (by omega) (by omega)
        go_wp2
        refine wp_region_quiet_below hmix (by kernel_rfl) ?_
        repeat (quiet_step (first | (go_at_call 8; exact K1.out _ _) | (go_at_call 9; exact K2.out _ _) | (go_at_call 7; exact K3.out _ _) | (go_at_call 10; exact K4.out _ _) | (go_at_call 11; exact K5.out _ _)))
        refine wpQuiet_nil ?_
        intro _ hw'
        obtain ⟨⟨dq, osq⟩, hw''⟩ := hw'
        subst hw''
        have hb3 : Below w.heap.size w (Sort.grow (redrawn wr dq) osq) := hb.trans ((below_regrown wr dq osq).mono hb.size)
        have k2 : (Sort.grow (redrawn wr dq) osq).cell? ⟨b, off + k * 2, none⟩ = some (.string s) := cell_below C0.out (below_regrown wr dq osq)
        generalize Sort.grow (redrawn wr dq) osq = w3 at *
        have k3 := cell_regrown k2
        clear K1 K2 K3 K4 K5 k0 k1 k2 C0
        by_cases hm1 : 1 ≤ many
        · by_cases hm2 : many ≤ 1000
          · have K8 : Hid (∀ d os, Calls Tryd.prog 12 #[.string s, .int .i64 many] (Sort.grow (redrawn w3 d) os) fun e w'' => e = .returned (.int .i64 (q % many)) ∧ ∃ p : Regrown, w'' = Sort.grow (redrawn w3 p.d) p.os) := fun d os => Calls.regrown_of (K6.out hm1 hm2 _)
            have K9 : Hid (∀ d os, Calls Tryd.prog 13 #[.string s, .int .i64 many] (Sort.grow (redrawn w3 d) os) fun e w'' => e = .returned (.int .i64 (q % many)) ∧ ∃ p : Regrown, w'' = Sort.grow (redrawn w3 p.d) p.os) := fun d os => Calls.regrown_of (K7.out hm1 hm2 _)
            have g1 : decide (1 ≤ many) = true := decide_eq_true hm1
            have g2 : decide (many ≤ 1000) = true := decide_eq_true hm2
            clear K6 K7
            go_wp2
            refine wp_region_quiet_below hmix (by kernel_rfl) ?_
            repeat (first | go_big_quiet_step (first | (go_at_call 12; exact K8.out _ _) | (go_at_call 13; exact K9.out _ _)) | quiet_step (first | (go_at_call 12; exact K8.out _ _) | (go_at_call 13; exact K9.out _ _)))
            refine wpQuiet_nil ?_
            intro _ hw2
            obtain ⟨⟨dq2, osq2⟩, hw2'⟩ := hw2
            subst hw2'
            have hb4 : Below w.heap.size w (Sort.grow (redrawn w3 dq2) osq2) := hb3.trans ((below_regrown w3 dq2 osq2).mono hb3.size)
            generalize Sort.grow (redrawn w3 dq2) osq2 = w4 at *
            clear k3
            go_wp2
            go_roundw
            case rel => exact ⟨k + 1, by omega, by go_num, hb4⟩
            case measure => simp [intOf]; omega
          · have g1 : decide (1 ≤ many) = true := decide_eq_true hm1
            have g2 : decide (many ≤ 1000) = false := decide_eq_false hm2
            clear K6 K7
            go_wp2
            go_quiet (fail)
            have hb4 : Below w.heap.size w (w3.drewN nq) := hb3.trans ((below_drewN w3 nq).mono hb3.size)
            generalize w3.drewN nq = w4 at *
            clear k3
            go_wp2
            go_roundw
            case rel => exact ⟨k + 1, by omega, by go_num, hb4⟩
            case measure => simp [intOf]; omega
        · have g1 : decide (1 ≤ many) = false := decide_eq_false hm1
          clear K6 K7
          go_wp2
          go_quiet (fail)
          have hb4 : Below w.heap.size w (w3.drewN nq) := hb3.trans ((below_drewN w3 nq).mono hb3.size)
          generalize w3.drewN nq = w4 at *
          clear k3
          go_wp2
          go_roundw
          case rel => exact ⟨k + 1, by omega, by go_num, hb4⟩
          case measure => simp [intOf]; omega
      · have P1 : Hid (∀ w, Env w → Calls Tryd.prog 14 #[.string (bs t)] w fun e w' => (∃ v, e = .returned (.tuple #[v, errV (pairsL t).isSome 4]) ∧ IsPairs w' v (((pairsL t).getD []).map conv)) ∧ Below w.heap.size w w') := fun w E => parse_any t w E (by omega)
        have P2 : Hid (∀ w, Calls Tryd.prog 15 #[.string (bs t)] w fun e w' => (∃ v, e = .returned (.tuple #[v, .int .i64 (if (pairsL t).isSome then 0 else 4)]) ∧ IsPairs w' v (((pairsL t).getD []).map conv)) ∧ Below w.heap.size w w') := fun w => pairsOf_any t w (by omega)
        have P3 : Hid (∀ w, Calls Tryd.prog 7 #[errV (pairsL t).isSome 4, .int .i64 (if (pairsL t).isSome then 0 else 4)] w fun e w' => e = .returned (.bool true) ∧ Below w.heap.size w w') := fun w => same_errV _ w
        have hLl := pairsL_length t
        generalize ((pairsL t).getD []).map conv = L at *
        generalize errV (pairsL t).isSome 4 = ev at *
        generalize (if (pairsL t).isSome = true then (0 : Int) else 4) = fn at *
        have P4 : Hid (∀ x y w, IsPairs w x L → IsPairs w y L → Calls Tryd.prog 16 #[x, y] w fun e w' => e = .returned (.bool true) ∧ Below w.heap.size w w') := fun x y w hx hy => (samePairs_any x y L L w hx hy (by unfold maxLen; omega)).mono fun e w' ⟨he, n, hw⟩ => ⟨by rw [he]; simp, by rw [hw]; exact below_drewN _ _⟩
        have P5 : Hid (∀ w, Env w → IsPairs w (.slice a l.length cap) l → Calls Tryd.prog 17 #[.slice a l.length cap] w fun e w' => e = .returned (.string (bs (textL l))) ∧ Below w.heap.size w w') := fun w E h => text_any _ l w E h hfit.out (by omega)
        have P6 : Hid (∀ w, IsPairs w (.slice a l.length cap) l → Calls Tryd.prog 18 #[.slice a l.length cap] w fun e w' => e = .returned (.string (bs (textL l))) ∧ Below w.heap.size w w') := fun w h => pairsText_any _ l w h hfit.out (by omega)
        generalize bs (textL l) = tx at *
        have hbeq : (tx.toList == tx.toList) = true := by simp
        clear hcell hfit hlight
        go_wp2_with (first | (go_at_call 14; refine (P1.out _ (E.below hb)).mono ?_; rintro e w5 ⟨⟨x, rfl, hx⟩, hb5⟩; have B5 := hb.trans (hb5.mono hb.size)) | (go_at_call 15; refine (P2.out _).mono ?_; rintro e w6 ⟨⟨y, rfl, hy⟩, hb6⟩; have B6 := B5.trans (hb6.mono B5.size)) | (go_at_call 7; refine (P3.out _).mono ?_; rintro e w7 ⟨rfl, hb7⟩; have B7 := B6.trans (hb7.mono B6.size)) | (go_at_call 16; refine (P4.out _ _ _ ((hx.below hb6).below hb7) (hy.below hb7)).mono ?_; rintro e w8 ⟨rfl, hb8⟩; have B8 := B7.trans (hb8.mono B7.size)) | (go_at_call 17; refine (P5.out _ (E.below B8) (h.below B8)).mono ?_; rintro e w9 ⟨rfl, hb9⟩; have B9 := B8.trans (hb9.mono B8.size)) | (go_at_call 18; refine (P6.out _ (h.below B9)).mono ?_; rintro e w10 ⟨rfl, hb10⟩; have B10 := B9.trans (hb10.mono B9.size)))
        go_ret
        exact ⟨rfl, B10⟩
  · have hc' : (decide ((l.length : Int) ≤ 60) && lightB l) = false ∨ 2000 < t.length := by
      by_cases hx : (decide ((l.length : Int) ≤ 60) && lightB l) = true
      · exact .inr (Nat.lt_of_not_le fun h => hc ⟨hx, h⟩)
      · exact .inl (by simpa using hx)
    clear hc
    rcases hc' with hx | hx
    · rw [hx] at L1
      clear hx hst
      go_enter Tryd.func3, Tryd.ntmps3
      go_wp2_with (first | (go_at_call 5; refine (pairs_any _ E).mono ?_; rintro e w1 ⟨rfl, hb1⟩) | (go_at_call 6; refine (L1.out _ (h.below hb1)).mono ?_; rintro e w2 ⟨rfl, rfl⟩))
      all_goals go_ret
      all_goals exact ⟨rfl, hb1⟩
    · have hs2 : 2000 < (bs t).size := by omega
      clear hst hx
      generalize (decide ((l.length : Int) ≤ 60) && lightB l) = lb at *
      cases lb
      all_goals
        go_enter Tryd.func3, Tryd.ntmps3
        go_wp2_with (first | (go_at_call 5; refine (pairs_any _ E).mono ?_; rintro e w1 ⟨rfl, hb1⟩) | (go_at_call 6; refine (L1.out _ (h.below hb1)).mono ?_; rintro e w2 ⟨rfl, rfl⟩))
        go_ret
        exact ⟨rfl, hb1⟩
end Go.Proofs.YtmjjnlhmconheaaDoor
