/- Put together of Jt1, Jt2. -/
import Derived.Test.YtfjpgjkfmcedoaaGreatDoorG5
import Derived.Test.YtfjpgjkfmcedoaaGreatDoorG9
import Derived.Deep.LoopGhost
/- The document's text of a job: a quoted text. -/
namespace Go.Proofs.YtfjpgjkfmcedoaaGreatDoor
open Go.ChangeShapes Go.WideShapes Go.ChangeAt Go.RowKit
set_option maxRecDepth 100000 in
set_option maxHeartbeats 4000000 in
theorem rquoted_any (s : List UInt8) (w : World) (hs : s.length ≤ 1100000) :
    Calls Tryz.prog 22 #[.string (bs s)] w fun e w' => e = .returned (.string (bs (quoteL s))) ∧ w' = w := by
  obtain ⟨S, hS⟩ : ∃ S, S = bs s := ⟨_, rfl⟩
  have hsz : S.size = s.length := by rw [hS, bs_size]
  have HS := Lib.hid hS
  obtain ⟨sl, hsl⟩ : ∃ n, n = s.length := ⟨_, rfl⟩
  rw [← hsl] at hsz hs
  have HSL := Lib.hid hsl
  rw [← hS]
  have q0 : (⟨#[34]⟩ : ByteArray) = bs (34 :: quoL (s.take 0)) := rfl
  have Q0 := Lib.hid q0
  clear hS hsl q0
  go_enter Tryz.func22, Tryz.ntmps22
  go_wp2
  go_loopg [3, 4] sl (fun gg tv iv wr => ∃ i : Nat, gg = sl - i ∧ i ≤ sl ∧ tv = .string (bs (34 :: quoL (s.take i))) ∧ iv = .int .i64 i ∧ wr = w)
  case atStart => exact ⟨0, rfl, Nat.zero_le _, by rw [← Q0.out], rfl, rfl⟩
  case round =>
    obtain ⟨i, hgi, hi, rfl, rfl, rfl⟩ := hrel
    have HGI := Lib.hid hgi
    clear hgi
    have hql : (quoL (s.take i)).length ≤ 2200000 := by
      have h1 := quoL_len (s.take i)
      have h2 : (s.take i).length ≤ i := List.length_take_le i s
      omega
    by_cases hlt : i < sl
    · obtain ⟨c, hc⟩ : ∃ c, s[i]? = some c := ⟨s[i]'(by rw [← HSL.out]; exact hlt), by simp⟩
      have hix : ∀ h : i < S.size, S[i]'h = c := by
        have e := HS.out
        subst e
        exact fun h => bs_get hc h
      obtain ⟨i1, hi1⟩ : ∃ n, n = i + 1 := ⟨_, rfl⟩
      have ha1 : (i : Int) + 1 = (i1 : Int) := by omega
      have hex : S.extract i i1 = bs [c] := by rw [HS.out, hi1]; exact bs_oneL hc
      have hqt := quoL_take hc
      have g1 : decide ((i : Int) < (sl : Int)) = true := decide_eq_true (by omega)
      have hlo : (0 : Int) ≤ (i : Int) := by omega
      have hle : (i : Int) ≤ (i1 : Int) := by omega
      have hle2 : (i1 : Int) ≤ (sl : Int) := by omega
      have HI1 := Lib.hid hi1
      have HLT := Lib.hid hlt
      have HWK : Hid (IntKind.i64.wrap (i1 : Int) = (i1 : Int)) := by show _ = _; rw [IntKind.wrap_i64]; omega
      have HVK : Hid (wrap64 (i1 : Int) = (i1 : Int)) := by show _ = _; unfold wrap64; omega
      obtain ⟨U, hU⟩ : ∃ U, U = 34 :: quoL (s.take i) := ⟨_, rfl⟩
      have hul : U.length ≤ 2200001 := by rw [hU]; simp; omega
      have hcat : ¬ 9223372036854775807 < (bs U).size + (bs [c]).size := by rw [bs_size, bs_size]; simp; omega
      have hcat2 : ¬ 9223372036854775807 < (bs U).size + (⟨#[92]⟩ : ByteArray).size := by rw [bs_size]; simp [ByteArray.size]; omega
      have hcat3 : ¬ 9223372036854775807 < (bs (U ++ [92])).size + (bs [c]).size := by rw [bs_size, bs_size]; simp; omega
      have happ : bs U ++ bs [c] = bs (U ++ [c]) := by rw [bs_append]
      have happ2 : bs U ++ ⟨#[92]⟩ = bs (U ++ [92]) := by
        apply ByteArray.ext
        simp [bs]
      have happ3 : bs (U ++ [92]) ++ bs [c] = bs (U ++ [92] ++ [c]) := by rw [bs_append]
      rw [← hU]
      by_cases hq : c = 34 ∨ c = 92
      · rw [if_pos hq] at hqt
        have HQ : Hid (U ++ [92] ++ [c] = 34 :: quoL (s.take i1)) := by show _ = _; rw [hi1, hqt, hU]; simp
        rcases hq with rfl | rfl
        · have he : (((34 : UInt8).toNat : Int) == 34) = true := rfl
          clear hc hi1 hqt hlt hU hql
          have hwk := HWK.out
          have hvk := HVK.out
          go_wp2
          go_roundg (sl - i1)
          case measure => clear hwk hvk; have := HGI.out; have := HI1.out; have := HLT.out; omega
          case rel => exact ⟨i1, rfl, by clear hwk hvk; omega, by rw [← HQ.out, List.append_assoc]; rfl, rfl, rfl⟩
        · have he : (((92 : UInt8).toNat : Int) == 34) = false := rfl
          have he2 : (((92 : UInt8).toNat : Int) == 92) = true := rfl
          clear hc hi1 hqt hlt hU hql
          have hwk := HWK.out
          have hvk := HVK.out
          go_wp2
          go_roundg (sl - i1)
          case measure => clear hwk hvk; have := HGI.out; have := HI1.out; have := HLT.out; omega
          case rel => exact ⟨i1, rfl, by clear hwk hvk; omega, by rw [← HQ.out, List.append_assoc]; rfl, rfl, rfl⟩
      · rw [if_neg hq] at hqt
        have HQ : Hid (U ++ [c] = 34 :: quoL (s.take i1)) := by show _ = _; rw [hi1, hqt, hU]; simp
        have he : ((c.toNat : Int) == 34) = false := by
          simp only [beq_eq_false_iff_ne, ne_eq]
          intro e
          exact hq (.inl (UInt8.toNat_inj.1 (by show c.toNat = 34; omega)))
        have he2 : ((c.toNat : Int) == 92) = false := by
          simp only [beq_eq_false_iff_ne, ne_eq]
          intro e
          exact hq (.inr (UInt8.toNat_inj.1 (by show c.toNat = 92; omega)))
        clear hc hi1 hqt hlt hU hql hq
        have hwk := HWK.out
        have hvk := HVK.out
        go_wp2
        go_roundg (sl - i1)
        case measure => clear hwk hvk; have := HGI.out; have := HI1.out; have := HLT.out; omega
        case rel => exact ⟨i1, rfl, by clear hwk hvk; omega, by rw [← HQ.out], rfl, rfl⟩
    · have e : i = sl := by omega
      have g1 : decide ((i : Int) < (sl : Int)) = false := decide_eq_false (by omega)
      have HFIN : Hid (bs (34 :: quoL (s.take i)) ++ ⟨#[34]⟩ = bs (quoteL s)) := by
        show _ = _
        rw [List.take_of_length_le (by rw [← HSL.out]; omega)]
        apply ByteArray.ext
        simp [bs, quoteL]
      have hcat : ¬ 9223372036854775807 < (bs (34 :: quoL (s.take i))).size + (⟨#[34]⟩ : ByteArray).size := by rw [bs_size]; simp [ByteArray.size]; omega
      clear e hql
      have hfin := HFIN.out
      go_wp2
      go_ret
      exact ⟨rfl, rfl⟩
end Go.Proofs.YtfjpgjkfmcedoaaGreatDoor
/- The document's exprText: its parts. Written by tpl/mk_jt.py. -/
namespace Go.Proofs.YtfjpgjkfmcedoaaGreatDoor
open Go.ChangeShapes Go.WideShapes Go.ChangeAt Go.RowKit
theorem txtL_part (l : List Ex) (i : Nat) : (Ex.txt.txtL (l.take i)).length ≤ (Ex.txt.txtL l).length := by
  have h : Ex.txt.txtL l = Ex.txt.txtL (l.take i) ++ Ex.txt.txtL (l.drop i) := by rw [← txtL_append, List.take_append_drop]
  rw [h, List.length_append]
  omega
theorem bs_blank (T : List UInt8) : bs T ++ ⟨#[32]⟩ = bs (T ++ [32]) := by
  apply ByteArray.ext
  simp [bs]
set_option maxRecDepth 1000000 in
set_option maxHeartbeats 4000000 in
theorem jt_b0 (wE : World) (B ln cap b off : Nat) (k n : Int) (st : List UInt8) (a : Option Addr) (l : List Ex) (A : Nat → Value) (T0 : List UInt8) (w0 : World) (K : Act → World → Prop) (s0 s2 s3 s6 s7 s8 s9 s10 s11 s12 s13 s14 s15 s16 s17 s18 s19 s20 s21 s22 s23 s24 s25 s26 s27 s28 s29 s30 s31 s32 s33 s34 s35 s36 s37 s38 s39 s40 s41 s42 s43 s44 s45 s46 s47 s48 s49 s50 s51 s52 s53 s54 s55 s56 : Value)
    (HBE : Hid (Below wE.heap.size wE w0))
    (HB : Hid (Blk w0 B 44 [.int .i64 k, .int .i64 n, .string (bs st), .slice a ln cap]))
    (HLN : Hid (ln = l.length))
    (HA : Hid (0 < l.length → a = some ⟨b, off, none⟩))
    (HC : Hid (∀ (i : Nat) (x : Ex), l[i]? = some x → wE.cell? ⟨b, off + i * 4, none⟩ = some (.int .i64 x.k) ∧ wE.cell? ⟨b, off + i * 4 + 1, none⟩ = some (.int .i64 x.n) ∧ wE.cell? ⟨b, off + i * 4 + 2, none⟩ = some (.string (bs x.s)) ∧ wE.cell? ⟨b, off + i * 4 + 3, none⟩ = some (A i)))
    (HS : Hid (∀ (i : Nat) (x : Ex), l[i]? = some x → ∃ xa xc, A i = .slice xa x.a.length xc))
    (HI : Hid (∀ (i : Nat) (x : Ex), l[i]? = some x → ∀ w', Below wE.heap.size wE w' → Calls Tryz.prog 21 #[x.val (A i)] w' fun r w'' => r = .returned (.string (bs x.txt)) ∧ Below w'.heap.size w' w''))
    (hT : T0.length + (Ex.txt.txtL l).length ≤ 1000000000)
    (hl : ln ≤ 1000)
    (HK : Hid (∀ (z5 z40 z41 z42 z43 z44 z45 z46 z47 z48 z49 z50 z51 z52 z53 z54 z55 : Value) (wx : World), Below w0.heap.size w0 wx → K ⟨#[s0, .pointer (some ⟨B, 0, none⟩), s2, s3, .string (bs (T0 ++ Ex.txt.txtL l)), z5, s6, s7, s8, s9, s10, s11, s12, s13, s14, s15, s16, s17, s18, s19, s20, s21, s22, s23, s24, s25, s26, s27, s28, s29, s30, s31, s32, s33, s34, s35, s36, s37, s38, s39, z40, z41, z42, z43, z44, z45, z46, z47, z48, z49, z50, z51, z52, z53, z54, z55, s56], []⟩ wx)) :
    Code.wp Tryz.prog (pieceIn Tryz.f21.body 0) (Exit.then K fun _ _ _ => False) ⟨#[s0, .pointer (some ⟨B, 0, none⟩), s2, s3, .string (bs T0), .int .i64 0, s6, s7, s8, s9, s10, s11, s12, s13, s14, s15, s16, s17, s18, s19, s20, s21, s22, s23, s24, s25, s26, s27, s28, s29, s30, s31, s32, s33, s34, s35, s36, s37, s38, s39, s40, s41, s42, s43, s44, s45, s46, s47, s48, s49, s50, s51, s52, s53, s54, s55, s56], []⟩ w0 := by
  have HT := Lib.hid hT
  have T00 : Hid (bs T0 = bs (T0 ++ Ex.txt.txtL (l.take 0))) := by show _ = _; simp [Ex.txt.txtL]
  have B0 : Hid (Below w0.heap.size w0 w0) := Below.refl _ _
  clear hT
  conv => arg 2; whnf
  go_wp2_with fail
  go_loopg [4, 5] ln (fun gg tv iv wr => ∃ (i : Nat) (T : List UInt8), gg = ln - i ∧ i ≤ ln ∧ tv = .string (bs T) ∧ iv = .int .i64 i ∧ Hid (T = T0 ++ Ex.txt.txtL (l.take i)) ∧ Hid (Below w0.heap.size w0 wr))
  case atStart => exact ⟨0, T0, rfl, Nat.zero_le _, rfl, rfl, (by show _ = _; simp [Ex.txt.txtL]), B0⟩
  case round =>
    clear B0 T00
    obtain ⟨i, T, hgi, hi, rfl, rfl, HTT, HBR⟩ := hrel
    have HGI := Lib.hid hgi
    clear hgi
    have k3 := (HB.out.blw HBR.out).at (i := 3) (v := .slice a ln cap) rfl
    by_cases hlt : i < ln
    · obtain ⟨x, hx⟩ : ∃ x, l[i]? = some x := ⟨l[i]'(by rw [← HLN.out]; exact hlt), by simp⟩
      have ea := HA.out (by rw [← HLN.out]; omega)
      subst ea
      have hbw : Below wE.heap.size wE wr := below_trans HBE.out HBR.out
      obtain ⟨c0, c1, c2, c3⟩ := HC.out i x hx
      replace c0 := cell_below c0 hbw
      replace c1 := cell_below c1 hbw
      replace c2 := cell_below c2 hbw
      replace c3 := cell_below c3 hbw
      obtain ⟨xa, xc, hA⟩ := HS.out i x hx
      have I := Lib.hid (HI.out i x hx wr hbw)
      rw [hA] at c3 I
      unfold Ex.val at I
      have htk := txtL_take hx
      have hpl := txtL_part l (i + 1)
      have htt := HTT.out
      have hll : T.length + 1 + x.txt.length ≤ 1000000000 := by
        rw [htk, List.length_append] at hpl
        have h0 := HT.out
        rw [htt, List.length_append]
        simp only [List.length_cons] at hpl
        omega
      have HTN : Hid (T ++ [32] ++ x.txt = T0 ++ Ex.txt.txtL (l.take (i + 1))) := by show _ = _; rw [htk, htt]; simp
      obtain ⟨Z, hZ⟩ : ∃ Z, Z = x.txt := ⟨_, rfl⟩
      rw [← hZ] at I HTN hll
      have happ := bs_blank T
      have happ2 : bs (T ++ [32]) ++ bs Z = bs (T ++ [32] ++ Z) := by rw [bs_append]
      have hcat : ¬ 9223372036854775807 < (bs T).size + (⟨#[32]⟩ : ByteArray).size := by rw [bs_size]; simp [ByteArray.size]; omega
      have hcat2 : ¬ 9223372036854775807 < (bs (T ++ [32])).size + (bs Z).size := by rw [bs_size, bs_size]; simp; omega
      have HLT := Lib.hid hlt
      have hin : (i : Int) < (ln : Int) := by omega
      clear hx hA htk hpl htt hZ hll
      go_wp2_with (go_at_call 21; refine Hid.out ?_)
      refine Lib.hid ?_
      refine I.out.mono ?_
      rintro _ w2 ⟨rfl, hb2⟩
      have HB2 : Hid (Below w0.heap.size w0 w2) := below_trans HBR.out hb2
      clear c0 c1 c2 c3 k3 hb2 I
      go_wp2
      go_roundg (ln - (i + 1))
      case measure => have := HGI.out; have := HLT.out; omega
      case rel => exact ⟨i + 1, T ++ [32] ++ Z, rfl, HLT.out, by first | rfl | simp, by go_num, HTN, HB2⟩
    · have hTE : Hid (T = T0 ++ Ex.txt.txtL l) := by
        show _ = _
        rw [HTT.out, List.take_of_length_le (by rw [← HLN.out]; omega)]
      rw [hTE.out]
      go_wp2
      exact HK.out _ _ _ _ _ _ _ _ _ _ _ _ _ _ _ _ _ wr HBR.out
end Go.Proofs.YtfjpgjkfmcedoaaGreatDoor
