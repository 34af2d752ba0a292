/- Journals: the law TopJournal: how many entries end ahead of the cut. -/
import Derived.Test.YtifbjngkdifenaaDoorJ11
namespace Go.Proofs.YtifbjngkdifenaaDoor
open Go.ChangeShapes Go.WideShapes Go.ChangeAt Go.RowKit
open Num
set_option maxRecDepth 1000000 in
set_option maxHeartbeats 4000000 in
theorem b4_any (eo : Option Addr) (ec n : Nat) (r : List Int) (w : World) (K : Act → World → Prop) (Q0 : Exit → Act → World → Prop) (s0 s1 s2 s3 s4 s5 s7 s8 s9 s11 s13 s14 s15 s16 s17 s18 s19 s20 s21 s22 s23 s24 s25 s26 s27 s28 s29 s30 s31 s32 s33 s34 s35 s36 s37 s38 s39 s40 s41 s42 s43 s44 s45 s46 s47 s48 s49 s50 s51 s52 s53 s54 s55 s56 s57 s58 s59 s60 s61 s62 s63 s64 s65 s66 s67 s68 s69 s70 s71 s72 s73 s74 s75 s76 s77 s78 s79 s80 s81 s82 s83 s84 s85 s86 s87 s88 s89 s90 s91 s92 s93 s94 s95 s96 s97 s98 s99 s100 s101 s102 s103 s104 s105 s106 s107 s108 s109 s110 s111 s112 s113 s114 s115 s116 s117 s118 s119 s120 s121 s122 s123 s124 s125 s126 s127 s128 s129 s130 s131 s132 s133 s134 s135 s136 s137 s138 s139 s140 s141 s142 s143 s144 s145 s146 s147 s148 s149 s150 s151 s152 s153 s154 : Value)
    (hIs : IsIs w (.slice eo r.length ec) r) (hr : r.length ≤ 10)
    (HK : Hid (∀ M : Nat, M ≤ r.length → (∀ j (h : j < r.length), j < M → r[j] ≤ n) → (∀ h : M < r.length, (n : Int) < r[M]) → ∀ (z93 z94 z95 z96 z97 z98 z99 z100 z101 z102 z103 z104 z105 z106 : Value), K ⟨#[s0, s1, s2, s3, s4, s5, .slice eo r.length ec, s7, s8, s9, .int .i64 n, s11, .int .i64 (M : Nat), s13, s14, s15, s16, s17, s18, s19, s20, s21, s22, s23, s24, s25, s26, s27, s28, s29, s30, s31, s32, s33, s34, s35, s36, s37, s38, s39, s40, s41, s42, s43, s44, s45, s46, s47, s48, s49, s50, s51, s52, s53, s54, s55, s56, s57, s58, s59, s60, s61, s62, s63, s64, s65, s66, s67, s68, s69, s70, s71, s72, s73, s74, s75, s76, s77, s78, s79, s80, s81, s82, s83, s84, s85, s86, s87, s88, s89, s90, s91, s92, z93, z94, z95, z96, z97, z98, z99, z100, z101, z102, z103, z104, z105, z106, s107, s108, s109, s110, s111, s112, s113, s114, s115, s116, s117, s118, s119, s120, s121, s122, s123, s124, s125, s126, s127, s128, s129, s130, s131, s132, s133, s134, s135, s136, s137, s138, s139, s140, s141, s142, s143, s144, s145, s146, s147, s148, s149, s150, s151, s152, s153, s154], []⟩ w)) :
    Code.wp Tryd.prog (pieceIn Tryd.f4.body 4) (Exit.then K Q0) ⟨#[s0, s1, s2, s3, s4, s5, .slice eo r.length ec, s7, s8, s9, .int .i64 n, s11, .int .i64 0, s13, s14, s15, s16, s17, s18, s19, s20, s21, s22, s23, s24, s25, s26, s27, s28, s29, s30, s31, s32, s33, s34, s35, s36, s37, s38, s39, s40, s41, s42, s43, s44, s45, s46, s47, s48, s49, s50, s51, s52, s53, s54, s55, s56, s57, s58, s59, s60, s61, s62, s63, s64, s65, s66, s67, s68, s69, s70, s71, s72, s73, s74, s75, s76, s77, s78, s79, s80, s81, s82, s83, s84, s85, s86, s87, s88, s89, s90, s91, s92, s93, s94, s95, s96, s97, s98, s99, s100, s101, s102, s103, s104, s105, s106, s107, s108, s109, s110, s111, s112, s113, s114, s115, s116, s117, s118, s119, s120, s121, s122, s123, s124, s125, s126, s127, s128, s129, s130, s131, s132, s133, s134, s135, s136, s137, s138, s139, s140, s141, s142, s143, s144, s145, s146, s147, s148, s149, s150, s151, s152, s153, s154], []⟩ w := by
  obtain ⟨a, c, e, hc⟩ := hIs
  simp only [Value.slice.injEq] at e
  obtain ⟨rfl, _, rfl⟩ := e
  have HC := Lib.hid hc
  clear hc
  conv => arg 2; whnf
  go_wp2_with fail
  go_loopg [12] r.length (fun gg mv wr => ∃ M : Nat, gg = r.length - M ∧ M ≤ r.length ∧ mv = .int .i64 M ∧ wr = w ∧ Hid (∀ j (h : j < r.length), j < M → r[j] ≤ n))
  case atStart => exact ⟨0, rfl, Nat.zero_le _, rfl, rfl, fun j h h0 => by omega⟩
  case round =>
    obtain ⟨M, hgk, hM, rfl, rfl, HA⟩ := hrel
    have HG := Lib.hid hgk
    clear hgk
    by_cases hlt : M < r.length
    · obtain ⟨b, off, rfl, c0⟩ := HC.out M hlt
      have HL : Hid (r[M] ≤ n → ∀ j (h : j < r.length), j < M + 1 → r[j] ≤ n) := fun hx j h hj => by
        by_cases e : j = M
        · subst e; exact hx
        · exact HA.out j h (by omega)
      have HS : Hid ((n : Int) < r[M] → ∀ h : M < r.length, (n : Int) < r[M]) := fun hx _ => hx
      clear HC
      by_cases hx : r[M] ≤ n
      · have HL2 := Lib.hid (HL.out hx)
        go_wp2
        go_roundg (r.length - (M + 1))
        case measure => have := HG.out; omega
        case rel => exact ⟨M + 1, rfl, by omega, by go_num, rfl, HL2⟩
      · have HS2 := Lib.hid (HS.out (by omega))
        go_wp2
        exact HK.out M hM HA.out HS2.out _ _ _ _ _ _ _ _ _ _ _ _ _ _
    · go_wp2
      exact HK.out M hM HA.out (fun h => absurd h hlt) _ _ _ _ _ _ _ _ _ _ _ _ _ _
end Go.Proofs.YtifbjngkdifenaaDoor
