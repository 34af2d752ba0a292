/- Journals: the law TopJournal: its pieces; the loop over the bytes of a kind. -/
import Derived.Test.YtifbjngkdifenaaDoorJ10
import Derived.Deep.LoopGhost
import Derived.Deep.DeepCutAuto
import Derived.Deep.CutBlock
namespace Go.Proofs.YtifbjngkdifenaaDoor
open Go.ChangeShapes Go.WideShapes Go.ChangeAt Go.RowKit
open Num
/-- The block of that number in a piece of code. -/
def findBlock (n : Nat) : Code → Option Code
  | .block k c => if k = n then some (.block k c) else findBlock n c
  | .loop c => findBlock n c
  | .scope c => findBlock n c
  | .seq a b => match findBlock n a with
    | some c => some c
    | none => findBlock n b
  | .cond _ a b => match findBlock n a with
    | some c => some c
    | none => findBlock n b
  | _ => none
/-- The region of that number in a piece of code. -/
def findRegion (n : Nat) : Code → Option Code
  | .region k l b => if k = n then some (.region k l b) else none
  | .block _ c => findRegion n c
  | .loop c => findRegion n c
  | .scope c => findRegion n c
  | .seq a b => match findRegion n a with
    | some c => some c
    | none => findRegion n b
  | .cond _ a b => match findRegion n a with
    | some c => some c
    | none => findRegion n b
  | _ => none
def regionIn (o : Option Code) (n : Nat) : Code := ((o.bind (findRegion n)).getD .skip)
def pieceIn (o : Option Code) (n : Nat) : Code := ((o.bind (findBlock n)).getD .skip)
theorem wp_norm {c : Code} {K : Act → World → Prop} {Q0 : Exit → Act → World → Prop} {a : Act} {w : World} (h : c.wp Tryd.prog (Exit.then K fun _ _ _ => False) a w) : c.wp Tryd.prog (Exit.then K Q0) a w :=
  wp_mono h fun e a w hq => by
    cases e with
    | normal => exact hq
    | exit id => exact False.elim hq
    | goto l => exact False.elim hq
    | ret => exact False.elim hq
    | panic ch => exact False.elim hq
    | outgrown => exact False.elim hq
theorem at_bs2 (x : List UInt8) (j : Nat) (h : j < x.length) (hq : j < (bs x).size) : (bs x)[j]'hq = x[j]'h := by simp only [bs]; rfl
theorem byte_at {x : List UInt8} {j : Nat} {b : UInt8} (hq : j < (bs x).size) (hx : x[j]? = some b) : (bs x)[j]'hq = b := by
  obtain ⟨h, rfl⟩ := List.getElem?_eq_some_iff.1 hx
  exact at_bs2 x j h hq
set_option maxRecDepth 1000000 in
set_option maxHeartbeats 4000000 in
theorem b2_any (G8 : Nat) (k : List UInt8) (w : World) (K : Act → World → Prop) (Q0 : Exit → Act → World → Prop) (s0 s1 s2 s3 s4 s5 s6 s7 s10 s11 s12 s13 s14 s15 s16 s17 s18 s19 s20 s21 s22 s23 s24 s25 s26 s27 s28 s29 s30 s31 s32 s33 s34 s35 s36 s37 s38 s39 s40 s41 s42 s43 s44 s45 s46 s47 s48 s49 s50 s51 s52 s53 s54 s55 s56 s57 s58 s59 s60 s61 s62 s63 s64 s65 s66 s67 s68 s69 s70 s71 s72 s73 s74 s75 s76 s77 s78 s79 s80 s81 s82 s83 s84 s85 s86 s87 s88 s89 s90 s91 s92 s93 s94 s95 s96 s97 s98 s99 s100 s101 s102 s103 s104 s105 s106 s107 s108 s109 s110 s111 s112 s113 s114 s115 s116 s117 s118 s119 s120 s121 s122 s123 s124 s125 s126 s127 s128 s129 s130 s131 s132 s133 s134 s135 s136 s137 s138 s139 s140 s141 s142 s143 s144 s145 s146 s147 s148 s149 s150 s151 s152 s153 s154 : Value)
    (hk : k.length ≤ 20) (c0 : w.cell? ⟨G8, 0, none⟩ = some (.string (bs k)))
    (HK : Hid ((∀ c ∈ k, 97 ≤ c.toNat ∧ c.toNat ≤ 122) → ∀ (z4 z9 z52 z53 z54 z55 z56 z57 z58 z59 z60 z61 z62 z63 z64 z65 z66 z67 z68 z69 z70 : Value), K ⟨#[s0, s1, s2, s3, z4, s5, s6, s7, .pointer (some ⟨G8, 0, none⟩), z9, s10, s11, s12, s13, s14, s15, s16, s17, s18, s19, s20, s21, s22, s23, s24, s25, s26, s27, s28, s29, s30, s31, s32, s33, s34, s35, s36, s37, s38, s39, s40, s41, s42, s43, s44, s45, s46, s47, s48, s49, s50, s51, z52, z53, z54, z55, z56, z57, z58, z59, z60, z61, z62, z63, z64, z65, z66, z67, z68, z69, z70, s71, s72, s73, s74, s75, s76, s77, s78, s79, s80, s81, s82, s83, s84, s85, s86, s87, s88, s89, s90, s91, s92, s93, s94, s95, s96, s97, s98, s99, s100, s101, s102, s103, s104, s105, s106, s107, s108, s109, s110, s111, s112, s113, s114, s115, s116, s117, s118, s119, s120, s121, s122, s123, s124, s125, s126, s127, s128, s129, s130, s131, s132, s133, s134, s135, s136, s137, s138, s139, s140, s141, s142, s143, s144, s145, s146, s147, s148, s149, s150, s151, s152, s153, s154], []⟩ w))
    (HR : Hid (∀ (z9 z52 z53 z54 z55 z56 z57 z58 z59 z60 z61 z62 z63 z64 z65 z66 z67 z68 z69 z70 : Value), Q0 .ret ⟨#[s0, s1, s2, s3, .bool true, s5, s6, s7, .pointer (some ⟨G8, 0, none⟩), z9, s10, s11, s12, s13, s14, s15, s16, s17, s18, s19, s20, s21, s22, s23, s24, s25, s26, s27, s28, s29, s30, s31, s32, s33, s34, s35, s36, s37, s38, s39, s40, s41, s42, s43, s44, s45, s46, s47, s48, s49, s50, s51, z52, z53, z54, z55, z56, z57, z58, z59, z60, z61, z62, z63, z64, z65, z66, z67, z68, z69, z70, s71, s72, s73, s74, s75, s76, s77, s78, s79, s80, s81, s82, s83, s84, s85, s86, s87, s88, s89, s90, s91, s92, s93, s94, s95, s96, s97, s98, s99, s100, s101, s102, s103, s104, s105, s106, s107, s108, s109, s110, s111, s112, s113, s114, s115, s116, s117, s118, s119, s120, s121, s122, s123, s124, s125, s126, s127, s128, s129, s130, s131, s132, s133, s134, s135, s136, s137, s138, s139, s140, s141, s142, s143, s144, s145, s146, s147, s148, s149, s150, s151, s152, s153, s154], []⟩ w)) :
    Code.wp Tryd.prog (pieceIn Tryd.f4.body 2) (Exit.then K Q0) ⟨#[s0, s1, s2, s3, s4, s5, s6, s7, .pointer (some ⟨G8, 0, none⟩), .int .i64 0, s10, s11, s12, s13, s14, s15, s16, s17, s18, s19, s20, s21, s22, s23, s24, s25, s26, s27, s28, s29, s30, s31, s32, s33, s34, s35, s36, s37, s38, s39, s40, s41, s42, s43, s44, s45, s46, s47, s48, s49, s50, s51, s52, s53, s54, s55, s56, s57, s58, s59, s60, s61, s62, s63, s64, s65, s66, s67, s68, s69, s70, s71, s72, s73, s74, s75, s76, s77, s78, s79, s80, s81, s82, s83, s84, s85, s86, s87, s88, s89, s90, s91, s92, s93, s94, s95, s96, s97, s98, s99, s100, s101, s102, s103, s104, s105, s106, s107, s108, s109, s110, s111, s112, s113, s114, s115, s116, s117, s118, s119, s120, s121, s122, s123, s124, s125, s126, s127, s128, s129, s130, s131, s132, s133, s134, s135, s136, s137, s138, s139, s140, s141, s142, s143, s144, s145, s146, s147, s148, s149, s150, s151, s152, s153, s154], []⟩ w := by
  have hsz := bs_size k
  have hsz20 : (bs k).size ≤ 20 := by omega
  obtain ⟨q, hq⟩ : ∃ q, q = (bs k).size := ⟨_, rfl⟩
  have HQ := Lib.hid hq
  have HS := Lib.hid hsz
  clear hsz hk hq
  conv => arg 2; whnf
  go_wp2_with fail
  go_loopg [9] k.length (fun gg iv wr => ∃ i : Nat, gg = k.length - i ∧ i ≤ k.length ∧ iv = .int .i64 i ∧ wr = w ∧ Hid (∀ c ∈ k.take i, 97 ≤ c.toNat ∧ c.toNat ≤ 122))
  case atStart => exact ⟨0, rfl, Nat.zero_le _, rfl, rfl, fun c hc => by simp at hc⟩
  case round =>
    obtain ⟨i, hgk, hi, rfl, rfl, HA⟩ := hrel
    have HG := Lib.hid hgk
    clear hgk
    by_cases hlt : i < k.length
    · have hlt2 : i < (bs k).size := by rw [HS.out]; exact hlt
      obtain ⟨x, hx⟩ : ∃ x, k[i]? = some x := ⟨k[i], List.getElem?_eq_getElem hlt⟩
      have hbx := byte_at hlt2 hx
      have HX := Lib.hid hx
      clear hx
      by_cases h1 : (x.toNat : Int) < 97
      · have HR' := HR
        go_wp2
        exact HR.out _ _ _ _ _ _ _ _ _ _ _ _ _ _ _ _ _ _ _ _
      · by_cases h2 : (122 : Int) < (x.toNat : Int)
        · go_wp2
          exact HR.out _ _ _ _ _ _ _ _ _ _ _ _ _ _ _ _ _ _ _ _
        · have HA2 : Hid (∀ c ∈ k.take (i + 1), 97 ≤ c.toNat ∧ c.toNat ≤ 122) := fun c hc => by
            rw [List.take_succ_eq_append_getElem hlt, List.mem_append, List.mem_singleton] at hc
            rcases hc with hc | hc
            · exact HA.out c hc
            · have e : c = x := by have h := HX.out; rw [List.getElem?_eq_getElem hlt, Option.some.injEq] at h; exact hc.trans h
              rw [e]
              omega
          go_wp2
          go_roundg (k.length - (i + 1))
          case measure => have := HG.out; omega
          case rel => exact ⟨i + 1, rfl, by omega, by go_num, rfl, HA2⟩
    · have hn : ¬ i < (bs k).size := by rw [HS.out]; exact hlt
      have HA2 : Hid (∀ c ∈ k, 97 ≤ c.toNat ∧ c.toNat ≤ 122) := by
        have h := HA.out
        rw [List.take_of_length_le (by omega)] at h
        exact h
      go_wp2
      exact HK.out HA2.out _ _ _ _ _ _ _ _ _ _ _ _ _ _ _ _ _ _ _ _ _
end Go.Proofs.YtifbjngkdifenaaDoor
