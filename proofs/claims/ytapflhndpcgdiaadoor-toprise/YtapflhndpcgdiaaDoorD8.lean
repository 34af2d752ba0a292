/- Folders: the walk of the law FolderSays. -/
import Derived.Test.YtapflhndpcgdiaaDoorD7
import Derived.Lib.QuietBelow
namespace Go.Proofs.YtapflhndpcgdiaaDoor
open Go.ChangeShapes Go.WideShapes Go.ChangeAt Go.RowKit
open Grp Stable
/-- A slice of numbers. -/
def IsNs (w : World) (v : Value) (l : List Int) : Prop :=
  ∃ a cap, v = .slice a l.length cap ∧ ∀ i (h : i < l.length), ∃ b off, a = some ⟨b, off, none⟩ ∧ w.cell? ⟨b, off + i, none⟩ = some (.int .i64 l[i])
theorem IsLists.blw {w w' : World} {v : Value} {ls : List (List (ByteArray × Int))} (h : IsLists w v ls) (hb : Below w.heap.size w w') : IsLists w' v ls := by
  obtain ⟨a, c, e, hc⟩ := h
  refine ⟨a, c, e, fun i hi => ?_⟩
  obtain ⟨b, off, u, ea, c0, hu⟩ := hc i hi
  exact ⟨b, off, u, ea, (hb.cell (block_lt c0)).trans c0, isPairs_below hu hb⟩
theorem light_keys {l : List (ByteArray × Int)} (h : lightB l = true) : ∀ p ∈ l, p.1.size ≤ 60 := fun p hp => by
  unfold lightB at h
  rw [List.all_eq_true] at h
  simpa using h p hp
theorem flat_small {ls : List (List (ByteArray × Int))} {m : Nat} (h : ∀ l ∈ ls, l.length ≤ m) : ls.flatten.length ≤ ls.length * m := by
  induction ls with
  | nil => simp
  | cons l ls ih =>
    have h1 := h l List.mem_cons_self
    have h2 := ih (fun x hx => h x (List.mem_cons_of_mem _ hx))
    rw [List.flatten_cons, List.length_append, List.length_cons, Nat.succ_mul]
    omega
theorem owns_fr {w w' : World} {R base : Nat} {o : Option Nat} {e : TypeId} {size : Nat} {v : Value} {n : Nat} {xs : List Value} (h : w.ownsRow base e size v n xs) (hF : Fr w w' R o) (hb : ∀ b, v.ownBlock = some b → b ≠ R ∧ some b ≠ o) : w'.ownsRow base e size v n xs := by
  refine ⟨h.1, ?_⟩
  rcases h.2 with h0 | ⟨g, cap, cur, a1, a2, a3, a4⟩
  · exact .inl h0
  · obtain ⟨b1, b2⟩ := hb g (by rw [a1]; rfl)
    have hg : g < w.heap.size := by
      rcases Nat.lt_or_ge g w.heap.size with h | h
      · exact h
      · rw [Array.getElem?_eq_none h] at a3; cases a3
    exact .inr ⟨g, cap, cur, a1, a2, (hF.block g hg b1 b2).trans a3, a4⟩
/-- The law's state between two steps: the run, and the groups that are held against it. -/
structure FS (W : World) (kind : Int) (Z M : List (ByteArray × Int)) (av : Value) (a R : Nat) (ko : Option Addr) (kc : Nat) (ss : List (List (ByteArray × Int))) (ks : List ByteArray) (mo : Option Addr) (mc : Nat) (wr : World) : Prop where
  run : IsRun wr R kind (.slice ko ss.length kc) ss (.slice mo a mc) (M.take a)
  segs : Segs ks ss
  flat : ss.flatten = Z
  low : W.heap.size ≤ R
  own : ∀ b, (Value.slice mo a mc).ownBlock = some b → W.heap.size ≤ b
  all : wr.ownsRow W.heap.size 30 2 av M.length (cellsP M)
  apart : ∀ b, av.ownBlock = some b → b ≠ R ∧ some b ≠ (Value.slice mo a mc).ownBlock
  bel : Below W.heap.size W wr
theorem FS.blw {W wr w' : World} {kind : Int} {Z M : List (ByteArray × Int)} {av : Value} {a R kc mc : Nat} {ko mo : Option Addr} {ss : List (List (ByteArray × Int))} {ks : List ByteArray} (h : FS W kind Z M av a R ko kc ss ks mo mc wr) (hb : Below wr.heap.size wr w') : FS W kind Z M av a R ko kc ss ks mo mc w' :=
  ⟨h.run.blw hb, h.segs, h.flat, h.low, h.own, owns_blw h.all hb, h.apart, h.bel.trans (hb.mono h.bel.size)⟩
theorem FS.step {W wr w' : World} {kind : Int} {Z M : List (ByteArray × Int)} {av : Value} {a a' R kc mc mc' : Nat} {ko mo mo' : Option Addr} {ss : List (List (ByteArray × Int))} {ks : List ByteArray} (h : FS W kind Z M av a R ko kc ss ks mo mc wr) (hr : IsRun w' R kind (.slice ko ss.length kc) ss (.slice mo' a' mc') (M.take a')) (hF : Fr wr w' R (Value.slice mo a mc).ownBlock) (ho : (Value.slice mo' a' mc').ownBlock = (Value.slice mo a mc).ownBlock ∨ ∀ b, (Value.slice mo' a' mc').ownBlock = some b → wr.heap.size ≤ b) : FS W kind Z M av a' R ko kc ss ks mo' mc' w' := by
  refine ⟨hr, h.segs, h.flat, h.low, fun b hb => ?_, owns_fr h.all hF h.apart, fun b hb => ⟨(h.apart b hb).1, fun e => ?_⟩, h.bel.trans (hF.below h.bel.size h.low h.own)⟩
  · rcases ho with ho | ho
    · exact h.own b (by rw [← ho]; exact hb)
    · have := ho b hb; have := h.bel.size; omega
  · rcases ho with ho | ho
    · exact (h.apart b hb).2 (by rw [e, ho])
    · have h1 := ho b e.symm
      have h2 := (h.all.lt b hb).2
      omega
/-- A new run that has been told where the elder one stood. -/
theorem FS.renew {W w7 w8 w9 w10 : World} {kind : Int} {ls : List (List (ByteArray × Int))} {Z M : List (ByteArray × Int)} {av kv : Value} {a R R2 kc kc2 mc lc : Nat} {ko ko2 mo lo : Option Addr} {ss ss2 : List (List (ByteArray × Int))} {ks ks2 : List ByteArray} (h : FS W kind Z M av a R ko kc ss ks mo mc w7) (hf : Fresh w7 w8 ls kind R2 kv Z ks2 ss2) (hb9 : Below w8.heap.size w8 w9) (hr : IsRun w10 R2 kind (.slice ko2 ss2.length kc2) ss2 (.slice lo a lc) (M.take a)) (hF : Fr w9 w10 R2 none) (ho : ∀ b, (Value.slice lo a lc).ownBlock = some b → w9.heap.size ≤ b) : FS W kind Z M av a R2 ko2 kc2 ss2 ks2 lo lc w10 := by
  have hb79 := blw_step hf.bel hb9
  have h9 := h.blw hb79
  have hs7 := h.bel.size
  have hs79 := hb79.size
  have hlow := hf.low
  refine ⟨hr, hf.segs, hf.flat, by omega, fun b hb => by have := ho b hb; omega, owns_fr h9.all hF (fun b hb => ?_), fun b hb => ?_, h9.bel.trans (hF.below h9.bel.size (by omega) (fun b hb => by cases hb))⟩
  · have h1 := (h.all.lt b hb).2
    exact ⟨by omega, fun e => by cases e⟩
  · have h1 := (h.all.lt b hb).2
    refine ⟨by omega, fun e => ?_⟩
    have h2 := ho b e.symm
    omega
theorem isPairs_tk {w : World} {a : Option Addr} {n cap : Nat} {l : List (ByteArray × Int)} (h : IsPairs w (.slice a n cap) l) (k : Nat) (hk : k ≤ l.length) (cap' : Nat) : IsPairs w (.slice a k cap') (l.take k) := by
  obtain ⟨a', c', e, hc⟩ := h
  injection e with e1 e2 e3
  subst e1
  refine ⟨a, cap', by simp; omega, fun i hi => ?_⟩
  have hi' : i < l.length := by simp at hi; omega
  obtain ⟨b, off, ea, c0, c1⟩ := hc i hi'
  exact ⟨b, off, ea, by simpa using c0, by simpa using c1⟩
theorem keys_of {kind : Int} {ks : List ByteArray} {ss : List (List (ByteArray × Int))} {M : List (ByteArray × Int)} (h : Segs ks ss) (hM : M = grp kind ss.flatten) (a : Nat) : ∀ (i : Nat) (hi : i < (M.take a).length), ks[i]? = some (M.take a)[i].1 := by
  obtain ⟨M', h1, h2, _⟩ := grp_segs kind h
  rw [← hM] at h1
  subst h1
  intro i hi
  have hi2 : i < M.length := by rw [List.length_take] at hi; omega
  rw [← h2, List.getElem?_map, List.getElem?_eq_getElem hi2, List.getElem_take]
  rfl
set_option maxRecDepth 1000000 in
set_option maxHeartbeats 4000000 in
theorem folderSays_walk (kind : Int) (v sv : Value) (ls : List (List (ByteArray × Int))) (steps : List Int) (w : World) (E : Env w) (h : IsLists w v ls) (hl : ls.length ≤ maxLen) (hll : ∀ l ∈ ls, l.length ≤ maxLen) (hfit : ∀ l ∈ ls, ∀ p ∈ l, -9223372036854775808 ≤ p.2 ∧ p.2 ≤ 9223372036854775807) (hs : IsNs w sv steps) (hsl : steps.length ≤ maxLen) (hsf : ∀ n ∈ steps, -9223372036854775808 ≤ n ∧ n ≤ 9223372036854775807) :
    Calls Tryd.prog 5 #[.int .i64 kind, v, sv] w fun e w' => e = .returned (.bool true) ∧ Below w.heap.size w w' := by
  unfold maxLen at hl hsl
  have FG := Lib.hid (foldings_any w E)
  have HE : Hid (∀ w1, Below w.heap.size w w1 → Env w1) := fun w1 h1 => E.below h1
  have HLS : Hid (∀ w1, Below w.heap.size w w1 → IsLists w1 v ls) := fun w1 h1 => h.blw h1
  obtain ⟨ao, lc, rfl, hlc⟩ := h
  obtain ⟨so, sc, rfl, hsc⟩ := hs
  have HC := Lib.hid hlc
  have HSC := Lib.hid hsc
  have HLL := Lib.hid hll
  have HFT := Lib.hid hfit
  have HSF := Lib.hid hsf
  obtain ⟨n, hn⟩ : ∃ n, n = ls.length := ⟨_, rfl⟩
  obtain ⟨q, hq⟩ : ∃ q, q = steps.length := ⟨_, rfl⟩
  rw [← hn] at HLS hl ⊢
  rw [← hq] at hsl ⊢
  have HN := Lib.hid hn
  have HQ := Lib.hid hq
  clear hlc hsc hll hfit hsf hn hq E
  go_enter Tryd.func5, Tryd.ntmps5
  go_wp2_with (go_at_call 23; refine Hid.out ?_)
  refine Lib.hid ?_
  refine FG.out.mono ?_
  clear FG
  rintro _ w1 ⟨rfl, hb1⟩
  by_cases h6 : 6 < n
  · go_wp2
    go_ret
    exact ⟨rfl, hb1⟩
  · by_cases h30 : 30 < q
    · go_wp2
      go_ret
      exact ⟨rfl, hb1⟩
    · go_wp2
      go_loopg [8] n (fun gg iv wr => ∃ i : Nat, gg = n - i ∧ i ≤ n ∧ iv = .int .i64 i ∧ Hid (∀ j (h : j < ls.length), j < i → ls[j].length ≤ 40 ∧ lightB ls[j] = true) ∧ Below w1.heap.size w1 wr)
      case atStart => exact ⟨0, rfl, Nat.zero_le _, rfl, (show ∀ j (h : j < _), j < 0 → _ from fun j h h0 => by omega), Below.refl _ _⟩
      case round =>
        obtain ⟨i, hgi, hi, rfl, HA, hb⟩ := hrel
        have HGI := Lib.hid hgi
        clear hgi
        have hbw := blw_step hb1 hb
        by_cases hlt : i < n
        · have hil : i < ls.length := by have := HN.out; omega
          obtain ⟨b, off, u, rfl, c0, hu⟩ := HC.out i hil
          have c1 := (hbw.cell (block_lt c0)).trans c0
          have hu1 := isPairs_below hu hbw
          have hml := HLL.out _ (List.getElem_mem hil)
          have LP := Lib.hid (lightPairs_any u ls[i] 40 wr hu1 hml)
          obtain ⟨uo, uc, rfl, huc⟩ := id hu1
          have HU := Lib.hid huc
          have HU1 := Lib.hid hu1
          obtain ⟨m, hm⟩ : ∃ m, m = ls[i].length := ⟨_, rfl⟩
          rw [← hm] at c1 LP HU1
          have HM := Lib.hid hm
          clear c0 hu hu1 huc hm
          by_cases hL : (decide ((m : Int) ≤ 40) && lightB ls[i]) = true
          · rw [hL] at LP
            rw [Bool.and_eq_true, decide_eq_true_eq] at hL
            have hm40 : m ≤ 40 := by omega
            have HL := Lib.hid hL
            have RI := Lib.hid (rising_any _ ls[i] wr HU1.out (by have := HM.out; omega))
            clear hL
            go_wp2_with (first | (go_at_call 8; refine LP.out.mono ?_; rintro _ w2 ⟨rfl, h2⟩; rw [h2]; clear h2 w2) | (go_at_call 24; refine Hid.out ?_))
            refine Lib.hid ?_
            refine RI.out.mono ?_
            clear RI LP
            rintro _ w2 ⟨r, rfl, -, hb2⟩
            have c2 := (hb2.cell (block_lt c1)).trans c1
            cases r with
            | false =>
              go_wp2
              go_ret
              exact ⟨rfl, blw_step hbw hb2⟩
            | true =>
              clear c1
              go_wp2
              go_loopg [9] m (fun gg kv wq => ∃ k : Nat, gg = m - k ∧ k ≤ m ∧ kv = .int .i64 k ∧ Below w2.heap.size w2 wq)
              case atStart => exact ⟨0, rfl, Nat.zero_le _, rfl, Below.refl _ _⟩
              case round =>
                obtain ⟨k, hgk, hk, rfl, hbk⟩ := hrel
                have HGK := Lib.hid hgk
                clear hgk
                have c3 := (hbk.cell (block_lt c2)).trans c2
                have hlt2 : i < n := hlt
                have hlt3 : (i : Int) < (n : Int) := by omega
                have hb2k := blw_step hb2 hbk
                by_cases hkm : k < m
                · have hkl : k < ls[i].length := by have := HM.out; omega
                  obtain ⟨ub, uoff, rfl, p0, p1⟩ := HU.out k hkl
                  replace p0 := (hb2k.cell (block_lt p0)).trans p0
                  replace p1 := (hb2k.cell (block_lt p1)).trans p1
                  generalize ls[i][k].1 = x at *
                  generalize ls[i][k].2 = y at *
                  have PF := Lib.hid (pairFault_any x y wr)
                  generalize badB (x, y) = bd at PF
                  cases bd with
                  | true =>
                    go_wp2_with (go_at_call 11; refine PF.out.mono ?_; rintro _ w4 ⟨rfl, hb4⟩; unfold faultN; simp only [if_true])
                    go_ret
                    exact ⟨rfl, blw_step hbw (blw_step hb2k hb4)⟩
                  | false =>
                    go_wp2_with (go_at_call 11; refine PF.out.mono ?_; rintro _ w4 ⟨rfl, hb4⟩; unfold faultN; simp only [Bool.false_eq_true, if_false])
                    go_roundg (m - (k + 1))
                    case measure => have := HGK.out; omega
                    case rel => exact ⟨k + 1, rfl, by omega, by go_num, blw_step hbk hb4⟩
                · have HA2 : Hid (∀ j (h : j < ls.length), j < i + 1 → ls[j].length ≤ 40 ∧ lightB ls[j] = true) := fun j h hj => by
                    by_cases e : j = i
                    · subst e
                      exact ⟨by have := HM.out; omega, HL.out.2⟩
                    · exact HA.out j h (by omega)
                  go_wp2
                  go_roundg (n - (i + 1))
                  case measure => have := HGI.out; omega
                  case rel => exact ⟨i + 1, rfl, by omega, by go_num, HA2, blw_step hb hb2k⟩
          · have hL' : (decide ((m : Int) ≤ 40) && lightB ls[i]) = false := by simpa using hL
            rw [hL'] at LP
            clear hL hL'
            go_wp2_with (go_at_call 8; refine LP.out.mono ?_; rintro _ w2 ⟨rfl, h2⟩; rw [h2]; clear h2 w2)
            go_ret
            exact ⟨rfl, hbw⟩
        · have HALL : Hid (∀ l ∈ ls, l.length ≤ 40 ∧ lightB l = true) := fun l hl => by
            obtain ⟨j, hj, rfl⟩ := List.getElem_of_mem hl
            exact HA.out j hj (by have := HN.out; omega)
          have hfl : ls.flatten.length ≤ 240 := by
            have h1 := flat_small (m := 40) (fun l hl => (HALL.out l hl).1)
            have := HN.out
            omega
          have HFI : Hid (Fits ls.flatten) := fun p hp => by
            obtain ⟨l, hl, hp⟩ := List.mem_flatten.1 hp
            have h1 := light_keys (HALL.out l hl).2 p hp
            have h2 := HFT.out l hl p hp
            exact ⟨by omega, h2.1, h2.2⟩
          have hls6 : ls.length ≤ 6 := by have := HN.out; omega
          clear HA HALL
          by_cases hkb : kindB kind = true
          · have NW := Lib.hid (fun w' (hb' : Below w.heap.size w w') => new_ok kind (.slice ao n lc) ls w' hkb (HLS.out w' hb') (by omega) (by omega))
            have hk12 : (1 : Int) ≤ kind ∧ kind ≤ 4 := by unfold kindB at hkb; rw [Bool.and_eq_true, decide_eq_true_eq, decide_eq_true_eq] at hkb; exact hkb
            have hk1 : ¬ kind < 1 := by omega
            have hk2 : ¬ 4 < kind := by omega
            have MG := Lib.hid (fun w' (hb' : Below w.heap.size w w') => merged_any (.slice ao n lc) ls w' (HLS.out w' hb') (by omega) (by omega))
            clear hkb hk12
            go_wp2_with (go_at_call 25; refine Hid.out ?_)
            refine Lib.hid ?_
            refine (NW.out wr hbw).mono ?_
            rintro _ w3 ⟨R, kv, Z, ks, ss, rfl, hfr⟩
            have hb3 := hfr.bel
            have hbw3 := blw_step hbw hb3
            have HFR := Lib.hid hfr
            clear hfr
            dsimp only
            go_wp2_with (go_at_call 27; refine Hid.out ?_)
            refine Lib.hid ?_
            refine (MG.out w3 hbw3).mono ?_
            clear MG
            rintro _ w4 ⟨zu, Z2, rfl, hso, hse, hzl, hzp, hb4⟩
            obtain rfl : Z2 = Z := sorted_unique Z2 Z hso HFR.out.sorted ((hse.symm).trans HFR.out.se)
            have GO := Lib.hid (grouped_own kind zu Z2 w4 hzp (by omega))
            obtain ⟨zo, zc, rfl, -⟩ := id hzp
            have HSE := Lib.hid hse
            have HZL := Lib.hid hzl
            clear hso hse hzp hzl
            dsimp only
            go_wp2_with (go_at_call 26; refine Hid.out ?_)
            refine Lib.hid ?_
            refine GO.out.mono ?_
            clear GO
            rintro _ w5 ⟨av, rfl, hall, hb5⟩
            obtain ⟨M, hM⟩ : ∃ M, M = grp kind Z2 := ⟨_, rfl⟩
            rw [← hM] at hall
            obtain ⟨aa, ac, rfl, hac⟩ := owns_cap hall
            have hMl : M.length ≤ 240 := by
              rw [hM]
              have h1 := grp_len kind Z2
              have := HZL.out
              omega
            have HMF : Hid (Fits M) := by rw [hM]; exact fits_grp kind Z2 (fits_se HSE.out HFI.out)
            have HMZ := Lib.hid hM
            have hb45 := blw_step hb4 hb5
            obtain ⟨ko, kc, ekv, -⟩ := HFR.out.run.keys w3 (Below.refl _ _)
            subst ekv
            have HZ24 : Hid (Z2.length ≤ 240) := by show _ ≤ _; have := HZL.out; omega
            obtain ⟨wo, hwo⟩ : ∃ wo, wo = wr := ⟨_, rfl⟩
            have F0 : Hid (FS wo kind Z2 M (.slice aa M.length ac) 0 R ko kc ss ks none 0 w5) := by
              rw [hwo]
              refine ⟨HFR.out.run.blw hb45, HFR.out.segs, HFR.out.flat, HFR.out.low, fun b hb => (by cases hb), owns_lowR hall (Nat.le_trans hb3.size hb4.size), fun b hb => ?_, hb3.trans (hb45.mono hb3.size)⟩
              have h1 := (hall.lt b hb).1
              have h2 := HFR.out.run.blk.lt
              have h3 := hb4.size
              exact ⟨by omega, fun e => by cases e⟩
            obtain ⟨Ml, hMll⟩ : ∃ Ml, Ml = M.length := ⟨_, rfl⟩
            rw [← hMll] at hac hMl F0 ⊢
            have HML := Lib.hid hMll
            have HZS := Lib.hid (And.intro HFR.out.sorted HFR.out.se)
            have hmix : Tryd.prog.follows .mixedOrders = true := by kernel_rfl
            have hbo : Below w.heap.size w wo := by rw [hwo]; exact hbw
            clear hall hM hb3 hbw3 hb4 hb5 hb45 HFR HSE HZL hMll hwo
            dsimp only
            go_wp2
            go_loopg [10, 13, 14] q (fun gg rv tv iv wq => ∃ (i a R : Nat) (ko : Option Addr) (kc : Nat) (ss : List (List (ByteArray × Int))) (ks : List ByteArray) (mo : Option Addr) (mc : Nat), gg = q - i ∧ i ≤ q ∧ iv = .int .i64 i ∧ tv = .int .i64 a ∧ a ≤ Ml ∧ rv = .pointer (some ⟨R, 0, none⟩) ∧ Hid (FS wo kind Z2 M (.slice aa Ml ac) a R ko kc ss ks mo mc wq))
            case atStart => exact ⟨0, 0, R, ko, kc, ss, ks, none, 0, rfl, Nat.zero_le _, rfl, rfl, Nat.zero_le _, rfl, F0⟩
            case round =>
              clear F0
              obtain ⟨i, a, R, ko, kc, ss, ks, mo, mc, hgi, hi, rfl, rfl, haM, rfl, HF⟩ := hrel
              have HGI := Lib.hid hgi
              clear hgi
              have hbq : Below w.heap.size w wr := hbo.trans (HF.out.bel.mono hbo.size)
              by_cases hiq : i < q
              · have his : i < steps.length := by have := HQ.out; omega
                obtain ⟨sb, soff, rfl, s0⟩ := HSC.out i his
                have s1 := (hbq.cell (block_lt s0)).trans s0
                have hxr := HSF.out _ (List.getElem_mem his)
                clear s0
                obtain ⟨x, hxe⟩ : ∃ x, steps[i] = x := ⟨_, rfl⟩
                have HXE := Lib.hid hxe
                rw [hxe] at s1 hxr
                clear hxe
                have hss : ss.length = Ml := by
                  rw [HML.out, HMZ.out, ← HF.out.flat]
                  exact (segs_grp_len HF.out.segs).symm
                have HSS := Lib.hid hss
                have ST := Lib.hid (step_any R a kind x ko kc ss ks mo mc M wr HF.out.run (by rw [HF.out.flat]; exact HMZ.out) HF.out.segs (by omega) (by omega) (by rw [HF.out.flat]; have := HZ24.out; omega) hxr.1 hxr.2)
                obtain ⟨d, hd⟩ : ∃ d : Nat, (Ml : Int) - (a : Int) = (d : Int) := ⟨Ml - a, by omega⟩
                obtain ⟨c, hc⟩ : ∃ c : Nat, min (max 0 x) (d : Int) = (c : Int) := ⟨(min (max 0 x) (d : Int)).toNat, by omega⟩
                have hcd : c ≤ d := by omega
                have hdm : d ≤ 240 := by omega
                have HCE : Hid (c = min x.toNat (Ml - a)) := by show _ = _; omega
                clear hss
                go_wp2_with (go_at_call 28; refine Hid.out ?_)
                refine Lib.hid ?_
                refine ST.out.mono ?_
                clear ST
                rintro _ w6 ⟨a', mo', mc', ha', rfl, hr6, hF6, ho6⟩
                have F6 := Lib.hid (HF.out.step hr6 hF6 ho6)
                have haa : (a : Int) + (c : Int) = (a' : Int) := by
                  rw [HSS.out, ← HCE.out] at ha'
                  omega
                have ha'M : a' ≤ Ml := by omega
                have ha'c : a' ≤ ac := by omega
                obtain ⟨ob, hob⟩ : ∃ ob, ob = decide (a' = ss.length) := ⟨_, rfl⟩
                rw [← hob]
                have hEq : ((a' : Int) == (Ml : Int)) = ob := by
                  rw [hob, HSS.out]
                  by_cases e : a' = Ml
                  · simp [e]
                  · rw [decide_eq_false e, beq_eq_false_iff_ne]; omega
                have hb6 : Below w.heap.size w w6 := hbo.trans (F6.out.bel.mono hbo.size)
                have s6 : w6.cell? ⟨sb, soff + i, none⟩ = some (.int .i64 x) := by
                  obtain ⟨sb', soff', es, s0⟩ := HSC.out i his
                  rw [Option.some.injEq, Addr.mk.injEq] at es
                  obtain ⟨rfl, rfl, -⟩ := es
                  rw [HXE.out] at s0
                  exact (hb6.cell (block_lt s0)).trans s0
                have HALLR : Hid (∀ w', Below w6.heap.size w6 w' → w'.ownsRow wo.heap.size 30 2 (.slice aa Ml ac) M.length (cellsP M)) := fun w' h' => owns_blw F6.out.all h'
                clear hr6 hF6 ho6 HF ha' hob s1
                have K1 : Hid (∀ d os, Calls Tryd.prog 29 #[.pointer (some ⟨R, 0, none⟩)] (Sort.grow (redrawn w6 d) os) fun e w'' => e = .returned (.string (bs (textL (M.take a')))) ∧ ∃ p : Regrown, w'' = Sort.grow (redrawn w6 p.d) p.os) := fun d os => Calls.regrown_of (out_any R kind _ _ ss (M.take a') _ (HE.out _ (blw_step hb6 (below_regrown w6 d os))) (F6.out.run.blw (below_regrown w6 d os)) (fits_take _ HMF.out) (by rw [List.length_take]; have := HML.out; omega))
                have K2 : Hid (∀ d os, Calls Tryd.prog 20 #[.slice aa a' ac] (Sort.grow (redrawn w6 d) os) fun e w'' => e = .returned (.string (bs (textL (M.take a')))) ∧ ∃ p : Regrown, w'' = Sort.grow (redrawn w6 p.d) p.os) := fun d os => Calls.regrown_of (pairsText_any _ (M.take a') _ (isPairs_tk (owns_isPairs (HALLR.out _ (below_regrown w6 d os))) a' (by have := HML.out; omega) ac) (fits_take _ HMF.out) (by rw [List.length_take]; have := HML.out; omega))
                generalize bs (textL (M.take a')) = tx at K1 K2
                dsimp only
                go_wp2
                refine wp_region_quiet_below hmix (by kernel_rfl) ?_
                repeat (first | go_big_quiet_step (first | (go_at_call 29; exact K1.out _ _) | (go_at_call 20; exact K2.out _ _)) | quiet_step (first | (go_at_call 29; exact K1.out _ _) | (go_at_call 20; exact K2.out _ _)))
                refine wpQuiet_nil ?_
                intro _ hw2
                obtain ⟨⟨dq2, osq2⟩, hw2'⟩ := hw2
                subst hw2'
                have hb67 : Below w6.heap.size w6 (Sort.grow (redrawn w6 dq2) osq2) := below_regrown w6 dq2 osq2
                have F7 := Lib.hid (F6.out.blw hb67)
                have hb7 := blw_step hb6 hb67
                generalize Sort.grow (redrawn w6 dq2) osq2 = w7 at *
                clear K1 K2 F6 hb6 hb67 s6 HALLR
                go_wp2_with (go_at_call 25; refine Hid.out ?_)
                refine Lib.hid ?_
                refine (NW.out w7 hb7).mono ?_
                rintro _ w8 ⟨R2, kv2, Z3, ks2, ss2, rfl, hfr2⟩
                obtain rfl : Z3 = Z2 := sorted_unique Z3 Z2 hfr2.sorted HZS.out.1 ((hfr2.se.symm).trans HZS.out.2)
                obtain ⟨ko2, kc2, ekv, -⟩ := hfr2.run.keys w8 (Below.refl _ _)
                subst ekv
                have HR2 := Lib.hid hfr2
                have hb8 := blw_step hb7 hfr2.bel
                have SV := Lib.hid (save_any R kind _ _ ss (M.take a') w8 (HE.out _ hb8) (F7.out.run.blw hfr2.bel) (fits_take _ HMF.out) (by rw [List.length_take]; have := HML.out; omega))
                have hss2 : ss2.length = Ml := by
                  rw [HML.out, HMZ.out, ← hfr2.flat]
                  exact (segs_grp_len hfr2.segs).symm
                have hlt' : (M.take a').length = a' := by rw [List.length_take]; have := HML.out; omega
                have LD : Hid (∀ w9, Below w8.heap.size w8 w9 → Calls Tryd.prog 30 #[.pointer (some ⟨R2, 0, none⟩), .string (bs (textL (M.take a')))] w9 fun e w' => ∃ (lo : Option Addr) (lc : Nat), e = .returned (.bool true) ∧ IsRun w' R2 kind (.slice ko2 ss2.length kc2) ss2 (.slice lo a' lc) (M.take a') ∧ Fr w9 w' R2 none ∧ ∀ b, (Value.slice lo a' lc).ownBlock = some b → w9.heap.size ≤ b) := fun w9 h9 => by
                  have h := load_any R2 kind ko2 kc2 _ ss2 ks2 [] (M.take a') w9 (HE.out _ (blw_step hb8 h9)) (HR2.out.run.blw h9) HR2.out.segs (fits_take _ HMF.out) (keys_of HR2.out.segs (by rw [HR2.out.flat]; exact HMZ.out) a') (by omega) (by omega)
                  rw [hlt'] at h
                  exact h
                generalize bs (textL (M.take a')) = tx at SV LD
                have hs1 := hfr2.bel.size
                clear hfr2 hss2 hlt'
                dsimp only
                go_wp2_with (go_at_call 31; refine Hid.out ?_)
                refine Lib.hid ?_
                refine SV.out.mono ?_
                clear SV
                rintro _ w9 ⟨rfl, hb9⟩
                have L9 := Lib.hid (LD.out w9 hb9)
                clear LD
                go_wp2_with (go_at_call 30; refine Hid.out ?_)
                refine Lib.hid ?_
                refine L9.out.mono ?_
                clear L9
                rintro _ w10 ⟨lo, lcc, rfl, hr10, hF10, ho10⟩
                have F10 := Lib.hid (F7.out.renew HR2.out hb9 hr10 hF10 ho10)
                clear F7 HR2 hb9 hr10 hF10 ho10 hb7 hb8
                go_wp2
                go_roundg (q - (i + 1))
                case measure => have := HGI.out; omega
                case rel => exact ⟨i + 1, a', R2, ko2, kc2, ss2, ks2, lo, lcc, rfl, by omega, by go_num, rfl, ha'M, rfl, F10⟩
              · have hac' : a ≤ ac := by omega
                have HALLR : Hid (∀ w', Below wr.heap.size wr w' → w'.ownsRow wo.heap.size 30 2 (.slice aa Ml ac) M.length (cellsP M)) := fun w' h' => owns_blw HF.out.all h'
                have K1 : Hid (∀ d os, Calls Tryd.prog 29 #[.pointer (some ⟨R, 0, none⟩)] (Sort.grow (redrawn wr d) os) fun e w'' => e = .returned (.string (bs (textL (M.take a)))) ∧ ∃ p : Regrown, w'' = Sort.grow (redrawn wr p.d) p.os) := fun d os => Calls.regrown_of (out_any R kind _ _ ss (M.take a) _ (HE.out _ (blw_step hbq (below_regrown wr d os))) (HF.out.run.blw (below_regrown wr d os)) (fits_take _ HMF.out) (by rw [List.length_take]; have := HML.out; omega))
                have K2 : Hid (∀ d os, Calls Tryd.prog 20 #[.slice aa a ac] (Sort.grow (redrawn wr d) os) fun e w'' => e = .returned (.string (bs (textL (M.take a)))) ∧ ∃ p : Regrown, w'' = Sort.grow (redrawn wr p.d) p.os) := fun d os => Calls.regrown_of (pairsText_any _ (M.take a) _ (isPairs_tk (owns_isPairs (HALLR.out _ (below_regrown wr d os))) a (by have := HML.out; omega) ac) (fits_take _ HMF.out) (by rw [List.length_take]; have := HML.out; omega))
                generalize bs (textL (M.take a)) = tx at K1 K2
                clear HALLR
                go_wp2
                refine wp_region_quiet_below hmix (by kernel_rfl) ?_
                repeat (first | go_big_quiet_step (first | (go_at_call 29; exact K1.out _ _) | (go_at_call 20; exact K2.out _ _)) | quiet_step (first | (go_at_call 29; exact K1.out _ _) | (go_at_call 20; exact K2.out _ _)))
                refine wpQuiet_nil ?_
                intro _ hw2
                obtain ⟨⟨dq2, osq2⟩, hw2'⟩ := hw2
                subst hw2'
                have hb67 : Below wr.heap.size wr (Sort.grow (redrawn wr dq2) osq2) := below_regrown wr dq2 osq2
                have hb7 := blw_step hbq hb67
                generalize Sort.grow (redrawn wr dq2) osq2 = w7 at *
                clear K1 K2 HF hbq hb67
                go_wp2
                go_ret
                exact ⟨rfl, hb7⟩
          · have hkb' : kindB kind = false := by simpa using hkb
            have hk12 : kind < 1 ∨ 4 < kind := by
              unfold kindB at hkb'
              rw [Bool.and_eq_false_iff, decide_eq_false_iff_not, decide_eq_false_iff_not] at hkb'
              omega
            have NB := Lib.hid (new_bad kind (.slice ao n lc) wr hkb')
            have SM := Lib.hid (same_err 3 wr (by decide))
            clear hkb hkb'
            go_wp2_with (go_at_call 25; refine Hid.out ?_)
            refine Lib.hid ?_
            refine NB.out.mono ?_
            rintro _ w3 ⟨rfl, h3⟩
            rw [h3]
            clear h3 w3
            dsimp only
            rcases hk12 with hk1 | hk1
            case' inr => have hk0 : ¬ kind < 1 := by omega
            all_goals
              go_wp2_with (go_at_call 9; refine SM.out.mono ?_; rintro _ w4 ⟨rfl, hb4⟩)
              go_ret
              exact ⟨rfl, blw_step hbw hb4⟩
end Go.Proofs.YtapflhndpcgdiaaDoor
