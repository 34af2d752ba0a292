/- The law TopPairs, walked: whatever the two lists of pairs, it returns true, and turns nothing that was there. Written by tpl/mk_topp.py. -/
import Derived.Test.YtmjjnlhmconheaaDoorBack
import Derived.Test.YtmjjnlhmconheaaDoorMrgD
import Derived.Laws.NewBlocks
namespace Go.Proofs.YtmjjnlhmconheaaDoor
open Go.ChangeShapes Go.WideShapes Go.ChangeAt Go.RowKit
open Num Stable
theorem isPairs_from {w : World} {ao : Option Addr} {n cap : Nat} {l : List (ByteArray × Int)} (h : IsPairs w (.slice ao n cap) l) (hl : 0 < l.length) : ∃ b off, ao = some ⟨b, off, none⟩ ∧ ∀ i, i < l.length → w.cell? ⟨b, off + i * 2, none⟩ = some (.string (pr l i).1) ∧ w.cell? ⟨b, off + i * 2 + 1, none⟩ = some (.int .i64 (pr l i).2) := by
  obtain ⟨a, c, e, hc⟩ := h
  injection e with e1 e2 e3
  obtain ⟨b, off, ea, _⟩ := hc 0 hl
  refine ⟨b, off, e1.trans ea, fun i hi => ?_⟩
  obtain ⟨b', off', ea', c0, c1⟩ := hc i hi
  rw [ea] at ea'
  injection ea' with ea'
  injection ea' with e4 e5
  subst e4 e5
  rw [pr_eq l i hi] at c0 c1
  exact ⟨c0, c1⟩
theorem litX (w : World) (E : Env w) (g : Nat) (c0 : w.cell? ⟨g, 0, none⟩ = some (.string ⟨#[120]⟩)) (c1 : w.cell? ⟨g, 1, none⟩ = some (.int .i64 1)) :
    Calls Tryd.prog 17 #[.slice (some ⟨g, 0, none⟩) 1 1] w fun e w' => e = .returned (.string ⟨#[49, 58, 120, 32, 49, 10]⟩) ∧ Below w.heap.size w w' := by
  have ht : textL [(⟨#[120]⟩, 1)] = [49, 58, 120, 32, 49, 10] := by decide +kernel
  have := text_any (.slice (some ⟨g, 0, none⟩) 1 1) [(⟨#[120]⟩, 1)] w E ⟨_, _, rfl, fun i hi => by
    have : i = 0 := by simp at hi; omega
    subst this
    exact ⟨g, 0, rfl, by simpa using c0, by simpa using c1⟩⟩ (by intro p hp; simp only [List.mem_singleton] at hp; subst hp; decide) (by decide)
  rw [ht] at this
  exact this
theorem readBack (l : List (ByteArray × Int)) (w : World) (E : Env w) (hf : Fits l) (hl : l.length ≤ 100) :
    Calls Tryd.prog 14 #[.string (bs (textL l))] w fun e w' => ∃ a cap, e = .returned (.tuple #[.slice a l.length cap, .nilIface]) ∧ Hid (IsPairs w' (.slice a l.length cap) l) ∧ Below w.heap.size w w' := by
  refine (parse_any (textL l) w E (by have := textL_len hf; omega)).mono ?_
  rintro e w' ⟨⟨v, rfl, hv⟩, hb⟩
  obtain ⟨h1, h2⟩ := pairs_conv l hf
  rw [h1] at hv
  rw [h2]
  have hv' := hv
  obtain ⟨a, cap, rfl, _⟩ := hv
  exact ⟨a, cap, rfl, hv', hb⟩
theorem sameTrue (v u : Value) (Z : List (ByteArray × Int)) (w : World) (h : IsPairs w v Z) (h' : IsPairs w u Z) (hl : Z.length ≤ 1000000) :
    Calls Tryd.prog 16 #[v, u] w fun e w' => e = .returned (.bool true) ∧ Below w.heap.size w w' := by
  refine (samePairs_any v u Z Z w h h' (by unfold maxLen; omega)).mono ?_
  rintro e w' ⟨rfl, n, rfl⟩
  exact ⟨by simp, below_drewN _ _⟩
theorem sortShape (v : Value) (l : List (ByteArray × Int)) (n : Nat) (hn : n = l.length) (w : World) (h : IsPairs w v l) (hl : l.length ≤ 1000000) :
    Calls Tryd.prog 19 #[v] w fun e w' => ∃ a cap Z, e = .returned (.slice a n cap) ∧ Hid (Sorted Z ∧ SE l Z ∧ Z.length = n) ∧ Hid (IsPairs w' (.slice a n cap) Z) ∧ Below w.heap.size w w' := by
  refine (sort_any v l w h hl).mono ?_
  rintro e w' ⟨u, Z, rfl, z1, z2, z3, z4, hb⟩
  have z5 := z4
  obtain ⟨a, cap, rfl, _⟩ := z4
  rw [z3, ← hn] at z5 ⊢
  exact ⟨a, cap, Z, rfl, ⟨z1, z2, z3.trans hn.symm⟩, z5, hb⟩
theorem isLists_two {w : World} {g : Nat} {x y : Value} {S T : List (ByteArray × Int)} (c0 : w.cell? ⟨g, 0, none⟩ = some x) (c1 : w.cell? ⟨g, 1, none⟩ = some y) (hS : IsPairs w x S) (hT : IsPairs w y T) : IsLists w (.slice (some ⟨g, 0, none⟩) 2 2) [S, T] := by
  refine ⟨_, _, rfl, fun i hi => ?_⟩
  have hi' : i < 2 := hi
  match i, hi' with
  | 0, _ => exact ⟨g, 0, x, rfl, c0, hS⟩
  | 1, _ => exact ⟨g, 0, y, rfl, c1, hT⟩
theorem rise_at {S : List (ByteArray × Int)} (h : Sorted S) (i : Nat) (h1 : 1 ≤ i) (h2 : i < S.length) : bl (key (pr S i)) (key (pr S (i - 1))) = false :=
  sorted_pr (A := []) (C := []) (by simp) h (Nat.zero_le _) (by omega) (by simpa using h2)
set_option maxRecDepth 100000 in
set_option maxHeartbeats 8000000 in
theorem topPairs_walk (v u : Value) (la lb : List (ByteArray × Int)) (w : World) (E : Env w) (h : IsPairs w v la) (h' : IsPairs w u lb) (hl : la.length ≤ maxLen) (hl' : lb.length ≤ maxLen) (hf : ∀ p ∈ la, -9223372036854775808 ≤ p.2 ∧ p.2 ≤ 9223372036854775807) :
    Calls Tryd.prog 4 #[v, u] w fun e w' => e = .returned (.bool true) ∧ Below w.heap.size w w' := by
  have HA := Lib.hid h
  have HB := Lib.hid h'
  have HF := Lib.hid hf
  unfold maxLen at hl hl'
  obtain ⟨aa, ca, hv, _⟩ := h
  obtain ⟨ab, cb, hu, _⟩ := h'
  obtain ⟨na, hna⟩ : ∃ n, n = la.length := ⟨_, rfl⟩
  obtain ⟨nb, hnb⟩ : ∃ n, n = lb.length := ⟨_, rfl⟩
  subst hv hu
  rw [← hna] at HA hl ⊢
  rw [← hnb] at HB hl' ⊢
  have HNA := Lib.hid hna
  have HNB := Lib.hid hnb
  have L1 := Lib.hid (fun w (h : IsPairs w (.slice aa na ca) la) => lightPairs_any _ la 40 w h (by have := HNA.out; unfold maxLen; omega))
  have L2 := Lib.hid (fun w (h : IsPairs w (.slice ab nb cb) lb) => lightPairs_any _ lb 40 w h (by have := HNB.out; unfold maxLen; omega))
  rw [show decide ((la.length : Int) ≤ 40) = decide ((na : Int) ≤ 40) by rw [hna]] at L1
  rw [show decide ((lb.length : Int) ≤ 40) = decide ((nb : Int) ≤ 40) by rw [hnb]] at L2
  clear hna hnb hf
  have h0 : Below w.heap.size w (w.alloc (.cells #[.string ⟨#[120]⟩, .int .i64 1] 30)) := (Below.refl _ _).alloc (Nat.le_refl _) _
  have E0 := Lib.hid (E.below h0)
  go_enter Tryd.func4, Tryd.ntmps4
  go_wp2_with (go_at_call 17; refine Hid.out ?_)
  refine Lib.hid ?_
  refine (litX _ E0.out _ (by simp) (by simp)).mono ?_
  rintro _ w1 ⟨rfl, hb0⟩
  have hb1 := below_trans h0 hb0
  clear h0 hb0 E0
  cases hla : (decide ((na : Int) ≤ 40) && lightB la) with
  | false =>
    rw [hla] at L1
    go_wp2_with (go_at_call 6; refine Hid.out ?_)
    refine Lib.hid ?_
    refine (L1.out _ (isPairs_below HA.out hb1)).mono ?_
    rintro _ w2 ⟨rfl, rfl⟩
    go_wp2
    go_ret
    exact ⟨rfl, hb1⟩
  | true =>
    rw [hla] at L1
    go_wp2_with (go_at_call 6; refine Hid.out ?_)
    refine Lib.hid ?_
    refine (L1.out _ (isPairs_below HA.out hb1)).mono ?_
    rintro _ w2 ⟨rfl, rfl⟩
    cases hlb : (decide ((nb : Int) ≤ 40) && lightB lb) with
    | false =>
      rw [hlb] at L2
      go_wp2_with (go_at_call 6; refine Hid.out ?_)
      refine Lib.hid ?_
      refine (L2.out _ (isPairs_below HB.out hb1)).mono ?_
      rintro _ w2 ⟨rfl, rfl⟩
      go_wp2
      go_ret
      exact ⟨rfl, hb1⟩
    | true =>
      rw [hlb] at L2
      have hna : na ≤ 40 := by
        rw [Bool.and_eq_true, decide_eq_true_eq] at hla
        omega
      have hnb : nb ≤ 40 := by
        rw [Bool.and_eq_true, decide_eq_true_eq] at hlb
        omega
      have HFT : Hid (Fits la) := by
        rw [Bool.and_eq_true] at hla
        exact fun p hp => ⟨by have := light_mem hla.2 hp; omega, HF.out p hp⟩
      clear hla hlb
      go_wp2_with (go_at_call 6; refine Hid.out ?_)
      refine Lib.hid ?_
      refine (L2.out _ (isPairs_below HB.out hb1)).mono ?_
      rintro _ w2 ⟨rfl, rfl⟩
      clear L1 L2
      go_wp2_with (go_at_call 17; refine Hid.out ?_)
      refine Lib.hid ?_
      refine (text_any _ la _ (E.below hb1) (isPairs_below HA.out hb1) HFT.out (by have := HNA.out; omega)).mono ?_
      rintro _ w3 ⟨rfl, hb3⟩
      replace hb3 := below_trans hb1 hb3
      have P1 := Lib.hid (readBack la w3 (E.below hb3) HFT.out (by have := HNA.out; omega))
      rw [← HNA.out] at P1
      generalize bs (textL la) = tx at *
      clear hb1
      go_wp2_with (go_at_call 14; refine Hid.out ?_)
      refine Lib.hid ?_
      refine P1.out.mono ?_
      rintro _ w4 ⟨al, cl, rfl, HL, hb4⟩
      replace hb4 := below_trans hb3 hb4
      clear P1 hb3
      go_wp2_with (go_at_call 19; refine Hid.out ?_)
      refine Lib.hid ?_
      refine (sortShape _ la na HNA.out w4 (isPairs_below HA.out hb4) (by have := HNA.out; omega)).mono ?_
      rintro _ w5 ⟨asv, cs, S, rfl, HZ, HS, hb5⟩
      have HL5 := Lib.hid (isPairs_below HL.out hb5)
      replace hb5 := below_trans hb4 hb5
      clear hb4 HL
      go_wp2_with (go_at_call 19; refine Hid.out ?_)
      refine Lib.hid ?_
      refine (sortShape _ lb nb HNB.out w5 (isPairs_below HB.out hb5) (by have := HNB.out; omega)).mono ?_
      rintro _ w6 ⟨atv, ct, T, rfl, HZT, HT, hb6⟩
      have HL6 := Lib.hid (isPairs_below HL5.out hb6)
      have HS6 := Lib.hid (isPairs_below HS.out hb6)
      replace hb6 := below_trans hb5 hb6
      clear hb5 HL5 HS
      go_wp2_with (go_at_call 16; refine Hid.out ?_)
      refine Lib.hid ?_
      refine (sameTrue _ _ la w6 HL6.out (isPairs_below HA.out hb6) (by have := HNA.out; omega)).mono ?_
      rintro _ w7 ⟨rfl, hb7⟩
      have HS7 := Lib.hid (isPairs_below HS6.out hb7)
      have HT7 := Lib.hid (isPairs_below HT.out hb7)
      replace hb7 := below_trans hb6 hb7
      clear hb6 HL6 HS6 HT
      go_wp2_with (go_at_call 19; refine Hid.out ?_)
      refine Lib.hid ?_
      refine (sortShape _ S na HZ.out.2.2.symm w7 HS7.out (by have := HZ.out.2.2; omega)).mono ?_
      rintro _ w8 ⟨ar, cr, S2, rfl, HZ2, HR, hb8⟩
      have hSS : S2 = S := sorted_unique _ _ HZ2.out.1 HZ.out.1 HZ2.out.2.1.symm
      subst hSS
      have HS8 := Lib.hid (isPairs_below HS7.out hb8)
      have HT8 := Lib.hid (isPairs_below HT7.out hb8)
      replace hb8 := below_trans hb7 hb8
      clear hb7 HS7 HT7 HZ2
      go_wp2_with (go_at_call 16; refine Hid.out ?_)
      refine Lib.hid ?_
      refine (sameTrue _ _ S2 w8 HR.out HS8.out (by have := HZ.out.2.2; omega)).mono ?_
      rintro _ w9 ⟨rfl, hb9⟩
      have HS9 := Lib.hid (isPairs_below HS8.out hb9)
      have HT9 := Lib.hid (isPairs_below HT8.out hb9)
      replace hb9 := below_trans hb8 hb9
      clear hb8 HS8 HT8 HR
      go_wp2_with fail
      go_loopw [9] (fun iv wr => ∃ i : Nat, iv = .int .i64 i ∧ 1 ≤ i ∧ i ≤ na + 1 ∧ Below w9.heap.size w9 wr) (fun iv _ => na - (intOf iv).toNat)
      case atStart => exact ⟨1, by go_num, Nat.le_refl _, by omega, Below.refl _ _⟩
      case round =>
        obtain ⟨i, rfl, hi1, hin, hb⟩ := hrel
        by_cases hlt : i < na
        · obtain ⟨b, off, ea, hc⟩ := isPairs_from HS9.out (by have := HZ.out.2.2; omega)
          subst ea
          have e1 : IntKind.i64.wrap ((i : Int) - 1) = ((i - 1 : Nat) : Int) := by rw [wrap_small _ (by omega) (by omega)]; omega
          have hi2 : i - 1 < na := by omega
          have k0 := cell_below (hc i (by have := HZ.out.2.2; omega)).1 hb
          have k1 := cell_below (hc (i - 1) (by have := HZ.out.2.2; omega)).1 hb
          have hcm : Op.bytesLess (pr S2 i).1.toList (pr S2 (i - 1)).1.toList = false := rise_at HZ.out.1 i hi1 (by have := HZ.out.2.2; omega)
          generalize pr S2 i = px at *
          generalize pr S2 (i - 1) = py at *
          clear hc
          go_wp2
          go_quiet (fail)
          have HB2 := below_trans hb (below_drewN wr nq)
          generalize wr.drewN nq = w3 at *
          clear k0 k1
          go_wp2
          go_roundw
          case rel => exact ⟨i + 1, by go_num, by omega, by omega, HB2⟩
          case measure => simp [intOf]; omega
        · have HPA := Lib.hid (isPairs_below HA.out (below_trans hb9 hb))
          have HPB := Lib.hid (isPairs_below HB.out (below_trans hb9 hb))
          have HPS := Lib.hid (isPairs_below HS9.out hb)
          have HPT := Lib.hid (isPairs_below HT9.out hb)
          have hbw := below_trans hb9 hb
          clear hb9 hb HS9 HT9
          go_wp2_with (at_builtin; refine Hid.out ?_)
          refine Lib.hid ?_
          refine wpList_append_pairs (w0 := wr) rfl (.tmp 74) (.tmp 75) rfl (.slice none 0 0) [] rfl (owns_nil _ _) (.slice aa na ca) la rfl HPA.out (by have := HNA.out; simp; omega) (Below.refl _ _) ?_
          intro v10 w10 hown10 hb10
          have HO10 := Lib.hid hown10
          clear hown10
          go_wp2_with (at_builtin; refine Hid.out ?_)
          refine Lib.hid ?_
          refine wpList_append_pairs (w0 := wr) rfl (.tmp 77) (.tmp 78) rfl v10 ([] ++ la) rfl HO10.out (.slice ab nb cb) lb rfl (isPairs_below HPB.out hb10) (by have := HNA.out; have := HNB.out; simp; omega) hb10 ?_
          intro v11 w11 hown11 hb11
          have HBO := Lib.hid (owns_isPairs hown11)
          have h12 : Below w11.heap.size w11 (w11.alloc (.cells #[.slice asv na cs, .slice atv nb ct] 22)) := (Below.refl _ _).alloc (Nat.le_refl _) _
          have HM := Lib.hid (fun c0 c1 => merge_any _ [S2, T] (w11.alloc (.cells #[.slice asv na cs, .slice atv nb ct] 22)) (isLists_two (g := w11.heap.size) (x := .slice asv na cs) (y := .slice atv nb ct) c0 c1 (isPairs_below HPS.out (below_trans hb11 h12)) (isPairs_below HPT.out (below_trans hb11 h12))) (by simp) (by have h1 := HZ.out.2.2; have h2 := HZT.out.2.2; simp; omega))
          have HBO12 := Lib.hid (isPairs_below HBO.out h12)
          have hb12 := below_trans hb11 h12
          clear hown11 HO10 hb10 hb11 HBO
          go_wp2_with (go_at_call 20; refine Hid.out ?_)
          refine Lib.hid ?_
          refine (HM.out (by simp) (by simp)).mono ?_
          rintro _ w13 ⟨um, Z, rfl, m1, m2, m3, m4, hb13⟩
          have HZ13 := Lib.hid (And.intro m1 (And.intro m2 m3))
          have HBO13 := Lib.hid (isPairs_below HBO12.out hb13)
          have hbw13 := below_trans hbw (below_trans hb12 hb13)
          clear HM h12 hb12 hb13 HBO12 m1 m2 m3
          go_wp2_with (go_at_call 19; refine Hid.out ?_)
          refine Lib.hid ?_
          refine (sort_any _ _ w13 HBO13.out (by have := HNA.out; have := HNB.out; simp; omega)).mono ?_
          rintro _ w14 ⟨us, Z', rfl, y1, y2, y3, y4, hb14⟩
          have hZZ : Z' = Z := by
            refine sorted_unique _ _ y1 HZ13.out.1 (y2.symm.trans ?_)
            have hse : SE (la ++ lb) (S2 ++ T) := HZ.out.2.1.append HZT.out.2.1
            have hfl : [S2, T].flatten = S2 ++ T := by simp
            have h13 := HZ13.out.2.1
            rw [hfl] at h13
            rw [List.nil_append]
            exact hse.trans h13
          subst hZZ
          have HLZ : Hid (Z'.length ≤ 1000000) := by
            have h1 := HZ13.out.2.2
            have h2 := HZ.out.2.2
            have h3 := HZT.out.2.2
            show _ ≤ _
            rw [h1]; simp; omega
          have HM14 := Lib.hid (isPairs_below m4 hb14)
          have hbw14 := below_trans hbw13 hb14
          clear y1 y2 y3 hb14 hbw13 m4
          go_wp2_with (go_at_call 16; refine Hid.out ?_)
          refine Lib.hid ?_
          refine (sameTrue _ _ Z' w14 HM14.out y4 HLZ.out).mono ?_
          rintro _ w15 ⟨rfl, hb15⟩
          have hbw15 := below_trans hbw14 hb15
          go_wp2
          go_ret
          exact ⟨rfl, hbw15⟩
end Go.Proofs.YtmjjnlhmconheaaDoor
