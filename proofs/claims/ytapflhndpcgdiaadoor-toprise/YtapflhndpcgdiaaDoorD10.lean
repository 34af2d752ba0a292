/- Folders: the walk of the law TopRise. -/
import Derived.Test.YtapflhndpcgdiaaDoorD9
namespace Go.Proofs.YtapflhndpcgdiaaDoor
open Go.ChangeShapes Go.WideShapes Go.ChangeAt Go.RowKit
open Grp Stable
def litR : List (ByteArray × Int) := [(⟨#[97]⟩, 1)]
theorem litR_grp : grp 2 litR = [(⟨#[97]⟩, 1)] := by decide +kernel
theorem litR_sorted : Sorted litR := List.pairwise_singleton _ _
theorem litR_text : (bs (textL [(⟨#[97]⟩, 1)])).toList = [49, 58, 97, 32, 49, 10] := by rw [bs_toList]; decide +kernel
theorem litR_fits : Fits [((⟨#[97]⟩ : ByteArray), (1 : Int))] := by intro p hp; simp only [List.mem_singleton] at hp; subst hp; decide
set_option maxRecDepth 1000000 in
set_option maxHeartbeats 4000000 in
theorem topRise_walk (kind : Int) (v : Value) (ls : List (List (ByteArray × Int))) (w : World) (E : Env w) (h : IsLists w v ls) (hl : ls.length ≤ maxLen) (hll : ∀ l ∈ ls, l.length ≤ maxLen) (hfit : ∀ l ∈ ls, ∀ p ∈ l, -9223372036854775808 ≤ p.2 ∧ p.2 ≤ 9223372036854775807) :
    Calls Tryd.prog 6 #[.int .i64 kind, v] w fun e w' => e = .returned (.bool true) ∧ Below w.heap.size w w' := by
  unfold maxLen at hl
  obtain ⟨w2, hw2⟩ : ∃ w2, w2 = (w.alloc (.cells #[.string ⟨#[97]⟩, .int .i64 1] 30)).alloc (.cells #[.slice (some ⟨w.heap.size, 0, none⟩) 1 1] 22) := ⟨_, rfl⟩
  have hb2 : Below w.heap.size w w2 := by
    rw [hw2]
    exact ((Below.refl _ _).alloc (Nat.le_refl _) _).alloc (by simp) _
  have k1 : Blk w2 w.heap.size 30 [.string ⟨#[97]⟩, .int .i64 1] := by
    rw [hw2]
    exact (Blk.new w _ _).blw (blw_box _)
  have k2 : Blk w2 (w.heap.size + 1) 22 [.slice (some ⟨w.heap.size, 0, none⟩) 1 1] := by
    rw [hw2]
    have h := Blk.new (w.alloc (.cells #[.string ⟨#[97]⟩, .int .i64 1] 30)) #[.slice (some ⟨w.heap.size, 0, none⟩) 1 1] 22
    rw [show (w.alloc (.cells #[.string ⟨#[97]⟩, .int .i64 1] 30)).heap.size = w.heap.size + 1 by simp] at h
    exact h
  have hL : IsLists w2 (.slice (some ⟨w.heap.size + 1, 0, none⟩) 1 1) [[(⟨#[97]⟩, 1)]] := by
    refine ⟨some ⟨w.heap.size + 1, 0, none⟩, 1, rfl, fun i hi => ?_⟩
    match i, hi with
    | 0, _ =>
      refine ⟨w.heap.size + 1, 0, .slice (some ⟨w.heap.size, 0, none⟩) 1 1, rfl, k2.at rfl, some ⟨w.heap.size, 0, none⟩, 1, rfl, fun j hj => ?_⟩
      match j, hj with
      | 0, _ => exact ⟨w.heap.size, 0, rfl, k1.at rfl, k1.at rfl⟩
  have NL := Lib.hid (new_ok 2 _ _ w2 (by decide) hL (by decide) (by decide))
  have HE : Hid (∀ w1, Below w.heap.size w w1 → Env w1) := fun w1 h1 => E.below h1
  have HLS : Hid (∀ w1, Below w.heap.size w w1 → IsLists w1 v ls) := fun w1 h1 => h.blw h1
  have HW2 := Lib.hid hw2
  obtain ⟨ao, lc, rfl, hlc⟩ := h
  have HC := Lib.hid hlc
  have HLL := Lib.hid hll
  have HFT := Lib.hid hfit
  obtain ⟨n, hn⟩ : ∃ n, n = ls.length := ⟨_, rfl⟩
  rw [← hn] at HLS hl ⊢
  have HN := Lib.hid hn
  clear hlc hll hfit hn E hw2 k1 k2 hL
  go_enter Tryd.func6, Tryd.ntmps6
  go_wp2_with (go_at_call 25; refine Hid.out ?_)
  refine Lib.hid ?_
  rw [← HW2.out]
  refine NL.out.mono ?_
  clear NL HW2
  rintro _ w4 ⟨R0, kv0, Z0, ks0, ss0, rfl, hfr⟩
  obtain ⟨rfl, hsl⟩ := fresh_grp hfr litR_sorted (SE.refl _)
  rw [litR_grp] at hsl
  have hss0 : ss0.length = 1 := hsl
  obtain ⟨ko, kc, ekv, -⟩ := hfr.run.keys w4 (Below.refl _ _)
  subst ekv
  have hb4 := blw_step hb2 hfr.bel
  have ST : Hid (Calls Tryd.prog 28 #[.pointer (some ⟨R0, 0, none⟩), .int .i64 1] w4 fun e w'' => e = .returned (.bool true) ∧ Below w.heap.size w w'' ∧ ∃ mv, IsRun w'' R0 2 (.slice ko ss0.length kc) ss0 mv [(⟨#[97]⟩, 1)]) := by
    refine (step_any R0 0 2 1 ko kc ss0 ks0 none 0 (grp 2 litR) w4 hfr.run (by rw [hfr.flat]) hfr.segs (Nat.zero_le _) (by omega) (by rw [hfr.flat]; decide) (by decide) (by decide)).mono ?_
    rintro e w'' ⟨a', mo', mc', ha', rfl, hr, hF, _⟩
    have ha1 : a' = 1 := by rw [ha', hss0]; rfl
    subst ha1
    rw [litR_grp] at hr
    refine ⟨by rw [hss0]; rfl, ?_, _, hr⟩
    have h2 := hb2.size
    have h3 := hfr.low
    exact hb4.trans (hF.below hb4.size (by omega) (fun b hb => by cases hb))
  clear hfr hsl hb2
  dsimp only
  go_wp2_with (go_at_call 28; refine Hid.out ?_)
  refine Lib.hid ?_
  refine ST.out.mono ?_
  clear ST
  rintro _ w5 ⟨rfl, hb5, mv, hr5⟩
  have O5 := Lib.hid (out_any R0 2 _ mv ss0 _ w5 (HE.out _ hb5) hr5 litR_fits (by decide))
  have hT := litR_text
  generalize bs (textL [(⟨#[97]⟩, 1)]) = tx at O5 hT
  clear hr5 hb4
  go_wp2_with (go_at_call 29; refine Hid.out ?_)
  refine Lib.hid ?_
  refine O5.out.mono ?_
  clear O5
  rintro _ w1 ⟨rfl, hb51⟩
  have hb1 := blw_step hb5 hb51
  clear hb5 hb51
  by_cases h6 : 6 < n
  · go_wp2
    go_ret
    exact ⟨rfl, hb1⟩
  · have FC := Lib.hid (foldCheck_any kind w1)
    have hmix : Tryd.prog.follows .mixedOrders = true := by kernel_rfl
    by_cases hkb : kindB kind = true
    · rw [show kindV kind = .nilIface by unfold kindV; rw [hkb]; rfl] at FC
      have NW := Lib.hid (fun w' (hb' : Below w.heap.size w w') (h1 : ls.length ≤ 1000) (h2 : ls.flatten.length ≤ 1000) => new_ok kind (.slice ao n lc) ls w' hkb (HLS.out w' hb') h1 h2)
      clear hkb
      go_wp2_with (go_at_call 32; refine FC.out.mono ?_; rintro _ w2 ⟨rfl, h2⟩; rw [h2]; clear h2 w2)
      clear FC
      go_loopg [7] n (fun gg iv wr => ∃ i : Nat, gg = n - i ∧ i ≤ n ∧ iv = .int .i64 i ∧ Hid (∀ j (h : j < ls.length), j < i → ls[j].length ≤ 40 ∧ lightB ls[j] = true) ∧ Below w1.heap.size w1 wr)
      case atStart => exact ⟨0, rfl, Nat.zero_le _, rfl, (show ∀ j (h : j < _), j < 0 → _ from fun j h h0 => by omega), Below.refl _ _⟩
      case round =>
        obtain ⟨i, hgi, hi, rfl, HA, hb⟩ := hrel
        have HGI := Lib.hid hgi
        clear hgi
        have hbw := blw_step hb1 hb
        by_cases hlt : i < n
        · have hil : i < ls.length := by have := HN.out; omega
          obtain ⟨b, off, u, rfl, c0, hu⟩ := HC.out i hil
          have c1 := (hbw.cell (block_lt c0)).trans c0
          have hu1 := isPairs_below hu hbw
          have hml := HLL.out _ (List.getElem_mem hil)
          have LP := Lib.hid (lightPairs_any u ls[i] 40 wr hu1 hml)
          obtain ⟨uo, uc, rfl, huc⟩ := id hu1
          have HU := Lib.hid huc
          obtain ⟨m, hm⟩ : ∃ m, m = ls[i].length := ⟨_, rfl⟩
          rw [← hm] at c1 LP
          have HM := Lib.hid hm
          clear c0 hu hu1 huc hm
          by_cases hL : (decide ((m : Int) ≤ 40) && lightB ls[i]) = true
          · rw [hL] at LP
            rw [Bool.and_eq_true, decide_eq_true_eq] at hL
            have hm40 : m ≤ 40 := by omega
            have HL := Lib.hid hL
            clear hL
            go_wp2_with (go_at_call 8; refine LP.out.mono ?_; rintro _ w2 ⟨rfl, h2⟩; rw [h2]; clear h2 w2)
            obtain ⟨wi, hwi⟩ : ∃ wi, wi = wr := ⟨_, rfl⟩
            have C1 : Hid (∀ w', Below wi.heap.size wi w' → w'.cell? ⟨b, off + i, none⟩ = some (.slice uo m uc)) := fun w' h' => by rw [hwi] at h'; exact (h'.cell (block_lt c1)).trans c1
            have HU2 : Hid (∀ w', Below wi.heap.size wi w' → ∀ k (h : k < ls[i].length), ∃ ub uoff, uo = some ⟨ub, uoff, none⟩ ∧ w'.cell? ⟨ub, uoff + k * 2, none⟩ = some (.string ls[i][k].1) ∧ w'.cell? ⟨ub, uoff + k * 2 + 1, none⟩ = some (.int .i64 ls[i][k].2)) := fun w' h' k hk => by
              rw [hwi] at h'
              obtain ⟨ub, uoff, e, p0, p1⟩ := HU.out k hk
              exact ⟨ub, uoff, e, (h'.cell (block_lt p0)).trans p0, (h'.cell (block_lt p1)).trans p1⟩
            have hbwi : Below w.heap.size w wi := by rw [hwi]; exact hbw
            have hb1i : Below w1.heap.size w1 wi := by rw [hwi]; exact hb
            have HST : Hid (Below wi.heap.size wi wr) := by rw [hwi]; exact Below.refl _ _
            clear LP HU c1 hwi
            go_loopg [8] m (fun gg kv wq => ∃ k : Nat, gg = m - k ∧ k ≤ m ∧ kv = .int .i64 k ∧ Below wi.heap.size wi wq)
            case atStart => exact ⟨0, rfl, Nat.zero_le _, rfl, HST.out⟩
            case round =>
              clear HST
              obtain ⟨k, hgk, hk, rfl, hbk⟩ := hrel
              have HGK := Lib.hid hgk
              clear hgk
              have c3 := C1.out _ hbk
              by_cases hkm : k < m
              · have hkl : k < ls[i].length := by have := HM.out; omega
                obtain ⟨ub, uoff, rfl, p0, p1⟩ := HU2.out _ hbk k hkl
                have a3 : ∀ d os, (Sort.grow (redrawn wr d) os).cell? ⟨b, off + i, none⟩ = some (.slice (some ⟨ub, uoff, none⟩) m uc) := fun d os => C1.out _ (blw_step hbk (below_regrown wr d os))
                have a0 : ∀ d os, (Sort.grow (redrawn wr d) os).cell? ⟨ub, uoff + k * 2, none⟩ = some (.string ls[i][k].1) := fun d os => ((below_regrown wr d os).cell (block_lt p0)).trans p0
                have a1 : ∀ d os, (Sort.grow (redrawn wr d) os).cell? ⟨ub, uoff + k * 2 + 1, none⟩ = some (.int .i64 ls[i][k].2) := fun d os => ((below_regrown wr d os).cell (block_lt p1)).trans p1
                have K1 : Hid (∀ d os, Calls Tryd.prog 10 #[.agg #[.string ls[i][k].1, .int .i64 ls[i][k].2]] (Sort.grow (redrawn wr d) os) fun e w'' => e = .returned (faultV (badB (ls[i][k].1, ls[i][k].2))) ∧ ∃ p : Regrown, w'' = Sort.grow (redrawn wr p.d) p.os) := fun d os => Calls.regrown_of (check_any _ _ _)
                generalize badB (ls[i][k].1, ls[i][k].2) = bd at K1
                obtain ⟨x, hx⟩ : ∃ x, x = ls[i][k].1 := ⟨_, rfl⟩
                obtain ⟨y, hy⟩ : ∃ y, y = ls[i][k].2 := ⟨_, rfl⟩
                rw [← hx] at a0 K1
                rw [← hy] at a1 K1
                clear hx hy p0 p1 c3
                cases bd with
                | true =>
                  have K2 : Hid (∀ d os, Calls Tryd.prog 10 #[.agg #[.string x, .int .i64 y]] (Sort.grow (redrawn wr d) os) fun e w'' => e = .returned (.iface 58 (.int .i64 1)) ∧ ∃ p : Regrown, w'' = Sort.grow (redrawn wr p.d) p.os) := K1
                  have c3 := C1.out _ hbk
                  clear K1
                  go_wp2
                  refine wp_region_quiet_below hmix (by kernel_rfl) ?_
                  repeat (first | go_big_quiet_step (first | (go_at_call 10; exact K2.out _ _)) | quiet_step (first | (go_at_call 10; exact K2.out _ _)))
                  refine wpQuiet_nil ?_
                  intro _ hw2
                  obtain ⟨⟨dq2, osq2⟩, hw2'⟩ := hw2
                  subst hw2'
                  have hb67 := blw_step hbk (below_regrown wr dq2 osq2)
                  generalize Sort.grow (redrawn wr dq2) osq2 = w7 at *
                  clear K2 a0 a1 a3 c3
                  go_wp2
                  go_ret
                  exact ⟨rfl, blw_step hbwi hb67⟩
                | false =>
                  have K2 : Hid (∀ d os, Calls Tryd.prog 10 #[.agg #[.string x, .int .i64 y]] (Sort.grow (redrawn wr d) os) fun e w'' => e = .returned .nilIface ∧ ∃ p : Regrown, w'' = Sort.grow (redrawn wr p.d) p.os) := K1
                  have c3 := C1.out _ hbk
                  clear K1
                  by_cases hk0 : k = 0
                  · subst hk0
                    simp only [Nat.zero_mul, Nat.add_zero] at a0 a1
                    go_wp2
                    refine wp_region_quiet_below hmix (by kernel_rfl) ?_
                    repeat (first | go_big_quiet_step (first | (go_at_call 10; exact K2.out _ _)) | quiet_step (first | (go_at_call 10; exact K2.out _ _)))
                    refine wpQuiet_nil ?_
                    intro _ hw2
                    obtain ⟨⟨dq2, osq2⟩, hw2'⟩ := hw2
                    subst hw2'
                    have hb67 := blw_step hbk (below_regrown wr dq2 osq2)
                    generalize Sort.grow (redrawn wr dq2) osq2 = w7 at *
                    clear K2 a0 a1 a3 c3
                    go_wp2
                    go_roundg (m - 1)
                    case measure => have := HGK.out; omega
                    case rel => exact ⟨1, rfl, by omega, by go_num, hb67⟩
                  · obtain ⟨k1, hk1⟩ : ∃ k1 : Nat, (k : Int) - 1 = (k1 : Int) := ⟨k - 1, by omega⟩
                    have hk1m : k1 < m := by omega
                    have hkpos : (0 : Int) < (k : Int) := by omega
                    have hwk1 : IntKind.i64.wrap (k1 : Int) = (k1 : Int) := wrap_small _ (by omega) (by omega)
                    obtain ⟨ub', uoff', eu, q0, -⟩ := HU2.out _ hbk k1 (by have := HM.out; omega)
                    rw [Option.some.injEq, Addr.mk.injEq] at eu
                    obtain ⟨rfl, rfl, -⟩ := eu
                    have b0 : ∀ d os, (Sort.grow (redrawn wr d) os).cell? ⟨ub, uoff + k1 * 2, none⟩ = some (.string (ls[i][k1]'(by have := HM.out; omega)).1) := fun d os => ((below_regrown wr d os).cell (block_lt q0)).trans q0
                    generalize (ls[i][k1]'(by have := HM.out; omega)).1 = x' at b0
                    clear q0
                    have gk : decide (0 < (k : Int)) = true := decide_eq_true hkpos
                    have gk2 : decide (0 < k) = true := decide_eq_true (by omega)
                    have gk3 : 0 < k := by omega
                    cases hcm : Op.bytesLess x.toList x'.toList with
                    | true =>
                      go_wp2
                      refine wp_region_quiet_below hmix (by kernel_rfl) ?_
                      repeat (first | go_big_quiet_step (first | (go_at_call 10; exact K2.out _ _)) | quiet_step (first | (go_at_call 10; exact K2.out _ _)))
                      refine wpQuiet_nil ?_
                      intro _ hw2
                      obtain ⟨⟨dq2, osq2⟩, hw2'⟩ := hw2
                      subst hw2'
                      have hb67 := blw_step hbk (below_regrown wr dq2 osq2)
                      generalize Sort.grow (redrawn wr dq2) osq2 = w7 at *
                      clear K2 a0 a1 a3 c3 b0
                      go_wp2
                      go_ret
                      exact ⟨rfl, blw_step hbwi hb67⟩
                    | false =>
                      go_wp2
                      refine wp_region_quiet_below hmix (by kernel_rfl) ?_
                      repeat (first | go_big_quiet_step (first | (go_at_call 10; exact K2.out _ _)) | quiet_step (first | (go_at_call 10; exact K2.out _ _)))
                      refine wpQuiet_nil ?_
                      intro _ hw2
                      obtain ⟨⟨dq2, osq2⟩, hw2'⟩ := hw2
                      subst hw2'
                      have hb67 := blw_step hbk (below_regrown wr dq2 osq2)
                      generalize Sort.grow (redrawn wr dq2) osq2 = w7 at *
                      clear K2 a0 a1 a3 c3 b0
                      go_wp2
                      go_roundg (m - (k + 1))
                      case measure => have := HGK.out; omega
                      case rel => exact ⟨k + 1, rfl, by omega, by go_num, hb67⟩
              · have HA2 : Hid (∀ j (h : j < ls.length), j < i + 1 → ls[j].length ≤ 40 ∧ lightB ls[j] = true) := fun j h hj => by
                  by_cases e : j = i
                  · subst e
                    exact ⟨by have := HM.out; omega, HL.out.2⟩
                  · exact HA.out j h (by omega)
                go_wp2
                go_roundg (n - (i + 1))
                case measure => have := HGI.out; omega
                case rel => exact ⟨i + 1, rfl, by omega, by go_num, HA2, blw_step hb1i hbk⟩
          · have hL' : (decide ((m : Int) ≤ 40) && lightB ls[i]) = false := by simpa using hL
            rw [hL'] at LP
            clear hL hL'
            go_wp2_with (go_at_call 8; refine LP.out.mono ?_; rintro _ w2 ⟨rfl, h2⟩; rw [h2]; clear h2 w2)
            go_ret
            exact ⟨rfl, hbw⟩
        · have HALL : Hid (∀ l ∈ ls, l.length ≤ 40 ∧ lightB l = true) := fun l hl => by
            obtain ⟨j, hj, rfl⟩ := List.getElem_of_mem hl
            exact HA.out j hj (by have := HN.out; omega)
          have hfl : ls.flatten.length ≤ 240 := by
            have h1 := flat_small (m := 40) (fun l hl => (HALL.out l hl).1)
            have := HN.out
            omega
          have HFI : Hid (Fits ls.flatten) := fun p hp => by
            obtain ⟨l, hl, hp⟩ := List.mem_flatten.1 hp
            have h1 := light_keys (HALL.out l hl).2 p hp
            have h2 := HFT.out l hl p hp
            exact ⟨by omega, h2.1, h2.2⟩
          have hls6 : ls.length ≤ 6 := by have := HN.out; omega
          clear HA
          go_wp2_with (go_at_call 25; refine Hid.out ?_)
          refine Lib.hid ?_
          refine (NW.out wr hbw (by omega) (by omega)).mono ?_
          clear NW
          rintro _ w3 ⟨R, kv, Z, ks, ss, rfl, hfr⟩
          have hbw3 := blw_step hbw hfr.bel
          obtain ⟨ko, kc, ekv, -⟩ := hfr.run.keys w3 (Below.refl _ _)
          subst ekv
          obtain ⟨M, hM⟩ : ∃ M, M = grp kind Z := ⟨_, rfl⟩
          have hMs : M.length = ss.length := by rw [hM, ← hfr.flat]; exact segs_grp_len hfr.segs
          have hM240 : M.length ≤ 240 := by
            rw [hM]
            have h1 := grp_len kind Z
            have := hfr.len
            omega
          have HMF : Hid (Fits M) := by rw [hM]; exact fits_grp kind Z (fits_se hfr.se HFI.out)
          have ST : Hid (Calls Tryd.prog 28 #[.pointer (some ⟨R, 0, none⟩), .int .i64 1048576] w3 fun e w'' => ∃ ob : Bool, e = .returned (.bool ob) ∧ Below w.heap.size w w'' ∧ ∃ mv, IsRun w'' R kind (.slice ko ss.length kc) ss mv M) := by
            refine (step_any R 0 kind 1048576 ko kc ss ks none 0 M w3 hfr.run (by rw [hfr.flat]; exact hM) hfr.segs (Nat.zero_le _) (by omega) (by rw [hfr.flat, hfr.len]; omega) (by decide) (by decide)).mono ?_
            rintro e w'' ⟨a', mo', mc', ha', rfl, hr, hF, _⟩
            have ha1 : a' = M.length := by rw [ha', hMs]; omega
            rw [ha1, List.take_length] at hr
            refine ⟨_, rfl, ?_, _, hr⟩
            have h2 := hbw.size
            have h3 := hfr.low
            exact hbw3.trans (hF.below hbw3.size (by omega) (fun b hb => by cases hb))
          have HRI : Hid (∀ (i : Nat) (a c : ByteArray × Int), M[i]? = some a → M[i + 1]? = some c → bl (key a) (key c) = true) := fun i a c ha hc => by
            obtain ⟨h1, rfl⟩ := List.getElem?_eq_some_iff.1 hc
            obtain ⟨h0, rfl⟩ := List.getElem?_eq_some_iff.1 ha
            exact made_rise hfr.segs hfr.flat hfr.sorted hM i h1
          have HAL : Hid (∀ l ∈ ls, ∀ p ∈ l, ∃ q ∈ M, q.1 = p.1) := fun l hl p hp => made_all hfr.segs hfr.flat hM p (hfr.se.mem (List.mem_flatten.2 ⟨l, hl, hp⟩))
          obtain ⟨q, hq⟩ : ∃ q, q = M.length := ⟨_, rfl⟩
          have HQ := Lib.hid hq
          have hq240 : q ≤ 240 := by omega
          clear hfr hM hMs hM240 hbw3 HFI hfl hq
          dsimp only
          go_wp2_with (go_at_call 28; refine Hid.out ?_)
          refine Lib.hid ?_
          refine ST.out.mono ?_
          clear ST
          rintro _ w5 ⟨ob, rfl, hb5, mv, hr5⟩
          have OT := Lib.hid (out_any R kind _ mv ss M w5 (HE.out _ hb5) hr5 HMF.out (by have := HQ.out; omega))
          have RD : Hid (∀ w6, Below w.heap.size w w6 → Calls Tryd.prog 16 #[.string (bs (textL M))] w6 fun e w' => ∃ v, e = .returned (.tuple #[v, .nilIface]) ∧ w'.ownsRow w6.heap.size 30 2 v M.length (cellsP M) ∧ Below w6.heap.size w6 w') := fun w6 h6 => readOwn M w6 (HE.out _ h6) HMF.out (by have := HQ.out; omega)
          generalize bs (textL M) = tm at OT RD
          clear hr5
          go_wp2_with (go_at_call 29; refine Hid.out ?_)
          refine Lib.hid ?_
          refine OT.out.mono ?_
          clear OT
          rintro _ w6 ⟨rfl, hb6⟩
          have hb56 := blw_step hb5 hb6
          have R6 := Lib.hid (RD.out w6 hb56)
          clear RD hb5 hb6
          go_wp2_with (go_at_call 16; refine Hid.out ?_)
          refine Lib.hid ?_
          refine R6.out.mono ?_
          clear R6
          rintro _ w7 ⟨lv, rfl, hrow, hb7⟩
          have hb07 := blw_step hb56 hb7
          obtain ⟨lo, lcc, elv, hmc⟩ := owns_isPairs hrow
          subst elv
          have HMC := Lib.hid hmc
          rw [← HQ.out]
          clear hrow hmc hb56 hb7 hbw hb hb1
          dsimp only
          have HLO : Hid (∀ w', Below w7.heap.size w7 w' → ∀ j (h : j < M.length), ∃ mb moff, lo = some ⟨mb, moff, none⟩ ∧ w'.cell? ⟨mb, moff + j * 2, none⟩ = some (.string M[j].1)) := fun w' h' j hj => by
            obtain ⟨mb, moff, e, m0, _⟩ := HMC.out j hj
            exact ⟨mb, moff, e, (h'.cell (block_lt m0)).trans m0⟩
          have HLC : Hid (∀ w', Below w7.heap.size w7 w' → ∀ i (h : i < ls.length), ∃ b off uo uc, ao = some ⟨b, off, none⟩ ∧ w'.cell? ⟨b, off + i, none⟩ = some (.slice uo ls[i].length uc) ∧ ∀ k (h : k < ls[i].length), ∃ ub uoff, uo = some ⟨ub, uoff, none⟩ ∧ w'.cell? ⟨ub, uoff + k * 2, none⟩ = some (.string ls[i][k].1)) := fun w' h' i hi => by
            obtain ⟨b, off, u, e, c0, hu⟩ := HC.out i hi
            have hb' := blw_step hb07 h'
            obtain ⟨uo, uc, eu, huc⟩ := isPairs_below hu hb'
            subst eu
            refine ⟨b, off, uo, uc, e, (hb'.cell (block_lt c0)).trans c0, fun k hk => ?_⟩
            obtain ⟨ub, uoff, e2, p0, _⟩ := huc k hk
            exact ⟨ub, uoff, e2, p0⟩
          go_wp2
          go_loopg [11] q (fun gg iv wq => ∃ i : Nat, gg = q + 1 - i ∧ 1 ≤ i ∧ iv = .int .i64 i ∧ (i ≤ q ∨ i = 1) ∧ Below w7.heap.size w7 wq)
          case atStart => exact ⟨1, by omega, Nat.le_refl _, rfl, .inr rfl, Below.refl _ _⟩
          case round =>
            obtain ⟨i, hgi, hi1, rfl, hiq, hbq⟩ := hrel
            have HGI := Lib.hid hgi
            have hi240 : i ≤ 241 := by omega
            clear hgi
            by_cases hlt : i < q
            · obtain ⟨i1, hi1e⟩ : ∃ i1 : Nat, (i : Int) - 1 = (i1 : Int) := ⟨i - 1, by omega⟩
              have hi1q : i1 < q := by omega
              have hwi1 : IntKind.i64.wrap (i1 : Int) = (i1 : Int) := wrap_small _ (by omega) (by omega)
              obtain ⟨mb, moff, rfl, m0⟩ := HLO.out _ hbq i (by have := HQ.out; omega)
              obtain ⟨mb', moff', e2, m1⟩ := HLO.out _ hbq i1 (by have := HQ.out; omega)
              rw [Option.some.injEq, Addr.mk.injEq] at e2
              obtain ⟨rfl, rfl, -⟩ := e2
              have hcm : Op.bytesLess (M[i1]'(by have := HQ.out; omega)).1.toList (M[i]'(by have := HQ.out; omega)).1.toList = true := by
                refine HRI.out i1 _ _ (List.getElem?_eq_getElem _) ?_
                rw [show i1 + 1 = i by omega]
                exact List.getElem?_eq_getElem _
              generalize (M[i1]'(by have := HQ.out; omega)).1 = y at *
              generalize (M[i]'(by have := HQ.out; omega)).1 = x at *
              have hcm2 : Op.bytesLess x.toList y.toList = false := lt_le hcm
              have hcm3 : (x.toList == y.toList) = false := by
                rw [beq_eq_false_iff_ne]
                intro e
                have h := bl_irrefl x.toList
                rw [e] at hcm
                have h2 : bl y.toList y.toList = true := hcm
                rw [bl_irrefl] at h2
                cases h2
              clear hcm
              go_wp2
              go_quiet (fail)
              have hb3 : Below w7.heap.size w7 (wr.drewN nq) := blw_step hbq (blw_drewN _ _)
              generalize wr.drewN nq = w8 at *
              clear m0 m1
              go_wp2
              go_roundg (q + 1 - (i + 1))
              case measure => have := HGI.out; omega
              case rel => exact ⟨i + 1, rfl, by omega, by go_num, .inl (by omega), hb3⟩
            · go_wp2
              go_loopg [12] n (fun gg iv wq => ∃ i : Nat, gg = n - i ∧ i ≤ n ∧ iv = .int .i64 i ∧ Below w7.heap.size w7 wq)
              case atStart => exact ⟨0, rfl, Nat.zero_le _, rfl, hbq⟩
              case round =>
                clear hbq
                obtain ⟨i', hgi', hi', rfl, hbq⟩ := hrel
                have HGI' := Lib.hid hgi'
                clear hgi'
                by_cases hlt' : i' < n
                · have hil : i' < ls.length := by have := HN.out; omega
                  obtain ⟨m, hm⟩ : ∃ m, m = ls[i'].length := ⟨_, rfl⟩
                  have HM' := Lib.hid hm
                  have hm40 : m ≤ 40 := by rw [hm]; exact (HALL.out _ (List.getElem_mem hil)).1
                  clear hm
                  go_wp2
                  go_loopg [13] m (fun gg kv wq => ∃ k : Nat, gg = m - k ∧ k ≤ m ∧ kv = .int .i64 k ∧ Below w7.heap.size w7 wq)
                  case atStart => exact ⟨0, rfl, Nat.zero_le _, rfl, hbq⟩
                  case round =>
                    clear hbq
                    obtain ⟨k, hgk, hk, rfl, hbq⟩ := hrel
                    have HGK := Lib.hid hgk
                    clear hgk
                    obtain ⟨b, off, uo, uc, rfl, c1, hcell⟩ := HLC.out _ hbq i' hil
                    rw [← HM'.out] at c1
                    have HCL := Lib.hid hcell
                    clear hcell
                    by_cases hkm' : k < m
                    · have hkm : k < ls[i'].length := by have := HM'.out; omega
                      have hAL := HAL.out ls[i'] (List.getElem_mem hil) ls[i'][k] (List.getElem_mem hkm)
                      have HEX : Hid (∃ j, j < q ∧ ∃ p : ByteArray × Int, M[j]? = some p ∧ p.1 = ls[i'][k].1) := by
                        obtain ⟨p, hp, e⟩ := hAL
                        obtain ⟨j, hj, rfl⟩ := List.getElem_of_mem hp
                        exact ⟨j, by have := HQ.out; omega, _, List.getElem?_eq_getElem hj, e⟩
                      obtain ⟨ub, uoff, rfl, p0⟩ := HCL.out k hkm
                      obtain ⟨x, hx⟩ : ∃ x, x = ls[i'][k].1 := ⟨_, rfl⟩
                      rw [← hx] at p0 HEX
                      obtain ⟨wk, hwk⟩ : ∃ wk, wk = wr := ⟨_, rfl⟩
                      have C1 : Hid (∀ w', Below wk.heap.size wk w' → w'.cell? ⟨b, off + i', none⟩ = some (.slice (some ⟨ub, uoff, none⟩) m uc)) := fun w' h' => by rw [hwk] at h'; exact (h'.cell (block_lt c1)).trans c1
                      have P0 : Hid (∀ w', Below wk.heap.size wk w' → w'.cell? ⟨ub, uoff + k * 2, none⟩ = some (.string x)) := fun w' h' => by rw [hwk] at h'; exact (h'.cell (block_lt p0)).trans p0
                      have hbk : Below w7.heap.size w7 wk := by rw [hwk]; exact hbq
                      have HST : Hid (Below wk.heap.size wk wr) := by rw [hwk]; exact Below.refl _ _
                      clear hAL hx p0 hwk
                      go_wp2
                      clear c1
                      go_loopg [14, 15] q (fun gg fv jv wq => ∃ (j : Nat) (fb : Bool), gg = q - j ∧ j ≤ q ∧ jv = .int .i64 j ∧ fv = .bool fb ∧ Hid (∀ j' p, j' < j → M[j']? = some p → p.1 = x → fb = true) ∧ Below wk.heap.size wk wq)
                      case atStart => exact ⟨0, false, rfl, Nat.zero_le _, rfl, rfl, (show ∀ j' p, j' < 0 → _ from fun j' p h => by omega), HST.out⟩
                      case round =>
                        clear HST
                        obtain ⟨j, fb, hgj, hj, rfl, rfl, HFB, hbj⟩ := hrel
                        have HGJ := Lib.hid hgj
                        clear hgj
                        have c3 := C1.out _ hbj
                        have p3 := P0.out _ hbj
                        by_cases hjq : j < q
                        · have hjM : j < M.length := by have := HQ.out; omega
                          obtain ⟨mb, moff, rfl, m0⟩ := HLO.out _ (blw_step hbk hbj) j hjM
                          obtain ⟨z, hz⟩ : ∃ z, z = M[j].1 := ⟨_, rfl⟩
                          rw [← hz] at m0
                          have HFB2 : Hid (∀ fb' : Bool, (fb = true → fb' = true) → (z = x → fb' = true) → ∀ j' p, j' < j + 1 → M[j']? = some p → p.1 = x → fb' = true) := fun fb' h1 h2 j' p hj' hp hpx => by
                            by_cases e : j' = j
                            · subst e
                              rw [List.getElem?_eq_getElem hjM, Option.some.injEq] at hp
                              exact h2 (by rw [hz, hp, hpx])
                            · exact h1 (HFB.out j' p (by omega) hp hpx)
                          clear hz
                          cases fb with
                          | true =>
                            go_wp2
                            go_quiet (fail)
                            have hb3 : Below wk.heap.size wk (wr.drewN nq) := blw_step hbj (blw_drewN _ _)
                            generalize wr.drewN nq = w8 at *
                            clear m0 c3 p3
                            go_wp2
                            go_roundg (q - (j + 1))
                            case measure => have := HGJ.out; omega
                            case rel => exact ⟨j + 1, true, rfl, by omega, by go_num, rfl, (show ∀ j' p, j' < j + 1 → M[j']? = some p → p.1 = x → true = true from fun _ _ _ _ _ => rfl), hb3⟩
                          | false =>
                            obtain ⟨eb, heb⟩ : ∃ eb, (z.toList == x.toList) = eb := ⟨_, rfl⟩
                            have HF3 : Hid (∀ j' p, j' < j + 1 → M[j']? = some p → p.1 = x → eb = true) := HFB2.out eb (fun h => by cases h) (fun h => by rw [← heb, h]; simp)
                            go_wp2
                            go_quiet (fail)
                            have hb3 : Below wk.heap.size wk (wr.drewN nq) := blw_step hbj (blw_drewN _ _)
                            generalize wr.drewN nq = w8 at *
                            clear m0 c3 p3 heb
                            go_wp2
                            go_roundg (q - (j + 1))
                            case measure => have := HGJ.out; omega
                            case rel => exact ⟨j + 1, eb, rfl, by omega, by go_num, rfl, HF3, hb3⟩
                        · have hfb : fb = true := by
                            obtain ⟨j', hj', p, hp, hpx⟩ := HEX.out
                            exact HFB.out j' p (by omega) hp hpx
                          subst hfb
                          go_wp2
                          go_roundg (m - (k + 1))
                          case measure => have := HGK.out; omega
                          case rel => exact ⟨k + 1, rfl, by omega, by go_num, blw_step hbk hbj⟩
                    · go_wp2
                      go_roundg (n - (i' + 1))
                      case measure => have := HGI'.out; omega
                      case rel => exact ⟨i' + 1, rfl, by omega, by go_num, hbq⟩
                · go_wp2
                  go_ret
                  exact ⟨rfl, blw_step hb07 hbq⟩
    · have hkb' : kindB kind = false := by simpa using hkb
      rw [show kindV kind = .iface 58 (.int .i64 3) by unfold kindV; rw [hkb']; rfl] at FC
      clear hkb hkb'
      go_wp2_with (go_at_call 32; refine FC.out.mono ?_; rintro _ w2 ⟨rfl, h2⟩; rw [h2]; clear h2 w2)
      go_ret
      exact ⟨rfl, hb1⟩
end Go.Proofs.YtapflhndpcgdiaaDoor
