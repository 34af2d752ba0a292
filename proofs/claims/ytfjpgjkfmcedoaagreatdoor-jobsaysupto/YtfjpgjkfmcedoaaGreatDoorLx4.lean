/- The document's lexer: a word's kind. Written by tpl/mk_lx4.py. -/
import Derived.Test.YtfjpgjkfmcedoaaGreatDoorLx3
import Derived.Test.YtfjpgjkfmcedoaaGreatDoorJt3
namespace Go.Proofs.YtfjpgjkfmcedoaaGreatDoor
open Go.ChangeShapes Go.WideShapes Go.ChangeAt Go.RowKit
theorem nameL_kind {w : List UInt8} {i : Int} (h1 : 1 ≤ i) (h : nameK w = i) : w = nameL i := by
  subst h
  unfold nameK at h1 ⊢
  repeat' split
  all_goals first | (subst_vars; rfl) | (exfalso; simp_all)
theorem nameL_eq (w : List UInt8) (i : Int) (h1 : 1 ≤ i) (h2 : i ≤ 10) : (nameL i == w) = decide (nameK w = i) := by
  rw [Bool.eq_iff_iff, beq_iff_eq, decide_eq_true_eq]
  constructor
  · intro e
    rw [← e]
    exact nameK_name i h1 h2
  · intro e
    exact (nameL_kind h1 e).symm
/-- The kind that a word has, of those ahead of a number. -/
def kindTo (w : List UInt8) (i : Int) : Int := if nameK w < i then nameK w else 0
theorem kindTo_one (w : List UInt8) : kindTo w 1 = 0 := by
  unfold kindTo
  have := (nameK_rng w).1
  split
  · omega
  · rfl
theorem kindTo_end (w : List UInt8) : kindTo w 11 = nameK w := by
  unfold kindTo
  have := (nameK_rng w).2
  rw [if_pos (by omega)]
theorem kindTo_at {w : List UInt8} {i : Int} (h : nameK w = i) : kindTo w (i + 1) = i := by
  unfold kindTo
  rw [if_pos (by omega), h]
theorem kindTo_not {w : List UInt8} {i : Int} (h : ¬ nameK w = i) : kindTo w (i + 1) = kindTo w i := by
  unfold kindTo
  by_cases h2 : nameK w < i
  · rw [if_pos h2, if_pos (by omega)]
  · rw [if_neg h2, if_neg (by omega)]
set_option maxRecDepth 1000000 in
set_option maxHeartbeats 4000000 in
theorem lx_b0 (NB EB : Nat) (wd : List UInt8) (w0 : World) (K : Act → World → Prop) (s0 s1 s2 s3 s4 s9 s10 s11 s12 s13 s14 s15 s16 s17 s18 s19 s20 s21 s22 s23 s24 s25 s26 s27 s28 s29 s30 s31 s32 s33 s34 s35 s36 s37 s38 s39 s40 s41 s42 s43 s44 s45 s46 s47 s48 s49 s50 s51 s52 s53 s54 s55 s56 s57 s58 s59 s60 s61 s62 s63 s64 s65 s66 s67 s68 s69 s70 s71 s72 s73 s74 s75 s76 s77 s78 s79 s80 s81 s82 s83 s84 s85 s86 s87 s88 s89 s90 s91 s92 s93 s94 s95 s96 s97 s98 s99 s100 s101 s102 s103 s104 : Value)
    (HN : Hid (Blk w0 NB 9 nmV))
    (HE : Hid (Blk w0 EB 44 [.int .i64 0, .int .i64 0, .string ⟨#[]⟩, .slice none 0 0]))
    (hne : NB ≠ EB)
    (HK : Hid (∀ (z8 z18 z19 z20 z21 z22 z23 z24 z25 z26 z27 z28 z29 : Value) (wx : World), Blk wx EB 44 [.int .i64 (nameK wd), .int .i64 0, .string ⟨#[]⟩, .slice none 0 0] → Only EB w0 wx → K ⟨#[s0, s1, s2, s3, s4, .slice (some ⟨NB, 0, none⟩) 11 11, .pointer (some ⟨EB, 0, none⟩), .string (bs wd), z8, s9, s10, s11, s12, s13, s14, s15, s16, s17, z18, z19, z20, z21, z22, z23, z24, z25, z26, z27, z28, z29, s30, s31, s32, s33, s34, s35, s36, s37, s38, s39, s40, s41, s42, s43, s44, s45, s46, s47, s48, s49, s50, s51, s52, s53, s54, s55, s56, s57, s58, s59, s60, s61, s62, s63, s64, s65, s66, s67, s68, s69, s70, s71, s72, s73, s74, s75, s76, s77, s78, s79, s80, s81, s82, s83, s84, s85, s86, s87, s88, s89, s90, s91, s92, s93, s94, s95, s96, s97, s98, s99, s100, s101, s102, s103, s104], []⟩ wx)) :
    Code.wp Tryz.prog (pieceIn Tryz.f28.body 0) (Exit.then K fun _ _ _ => False) ⟨#[s0, s1, s2, s3, s4, .slice (some ⟨NB, 0, none⟩) 11 11, .pointer (some ⟨EB, 0, none⟩), .string (bs wd), .int .i64 1, s9, s10, s11, s12, s13, s14, s15, s16, s17, s18, s19, s20, s21, s22, s23, s24, s25, s26, s27, s28, s29, s30, s31, s32, s33, s34, s35, s36, s37, s38, s39, s40, s41, s42, s43, s44, s45, s46, s47, s48, s49, s50, s51, s52, s53, s54, s55, s56, s57, s58, s59, s60, s61, s62, s63, s64, s65, s66, s67, s68, s69, s70, s71, s72, s73, s74, s75, s76, s77, s78, s79, s80, s81, s82, s83, s84, s85, s86, s87, s88, s89, s90, s91, s92, s93, s94, s95, s96, s97, s98, s99, s100, s101, s102, s103, s104], []⟩ w0 := by
  have K0 : Hid (Blk w0 EB 44 [.int .i64 (kindTo wd 1), .int .i64 0, .string ⟨#[]⟩, .slice none 0 0]) := by
    show Blk _ _ _ _
    rw [kindTo_one]
    exact HE.out
  have O0 : Hid (Only EB w0 w0) := Only.refl _ _
  conv => arg 2; whnf
  go_wp2_with fail
  go_loopg [8] 10 (fun gg iv wr => ∃ i : Int, gg = (11 - i).toNat ∧ 1 ≤ i ∧ i ≤ 11 ∧ iv = .int .i64 i ∧ Hid (Blk wr EB 44 [.int .i64 (kindTo wd i), .int .i64 0, .string ⟨#[]⟩, .slice none 0 0]) ∧ Hid (Only EB w0 wr))
  case atStart => exact ⟨1, by rfl, by omega, by omega, rfl, K0, O0⟩
  case round =>
    clear K0 O0
    obtain ⟨i, hgi, hi1, hi11, rfl, HK0, HO⟩ := hrel
    have HGI := Lib.hid hgi
    clear hgi
    by_cases hlt : i ≤ 10
    · have HNR : Hid (Blk wr NB 9 nmV) := (HO.out.block NB HN.out.lt (fun e => hne (Option.some.inj e))).trans HN.out
      have n0 := HNR.out.at (nmV_at i hi1 hlt)
      have e0 := HK0.out.at (i := 0) (v := .int .i64 (kindTo wd i)) rfl
      have f0 := HK0.out.frozen 0
      have hteq : ((bs (nameL i)).toList == (bs wd).toList) = decide (nameK wd = i) := by rw [bs_toList, bs_toList]; exact nameL_eq wd i hi1 hlt
      have hi0 : (0 : Int) ≤ i := by omega
      have hlt11 : i < 11 := by omega
      obtain ⟨i1, hi1e⟩ : ∃ x, x = i + 1 := ⟨_, rfl⟩
      have ha1 : i + 1 = i1 := hi1e.symm
      have HI1 := Lib.hid hi1e
      have hvk : wrap64 i1 = i1 := by unfold wrap64; omega
      by_cases hk : nameK wd = i
      · have HKN : Hid (Blk (wr.setCell ⟨EB, 0, none⟩ (.int .i64 i)) EB 44 [.int .i64 (kindTo wd i1), .int .i64 0, .string ⟨#[]⟩, .slice none 0 0]) := by
          show Blk _ _ _ _
          have h := HK0.out.set 0 (.int .i64 i)
          rw [hi1e, kindTo_at hk]
          exact h
        have HON : Hid (Only EB w0 (wr.setCell ⟨EB, 0, none⟩ (.int .i64 i))) := HO.out.setCell 0 _
        rw [decide_eq_true hk] at hteq
        clear hk hi1e
        go_wp2
        go_roundg (11 - i1).toNat
        case measure => have := HGI.out; have := HI1.out; omega
        case rel => exact ⟨i1, rfl, by have := HI1.out; omega, by have := HI1.out; omega, rfl, HKN, HON⟩
      · have HKN : Hid (Blk wr EB 44 [.int .i64 (kindTo wd i1), .int .i64 0, .string ⟨#[]⟩, .slice none 0 0]) := by
          show Blk _ _ _ _
          rw [hi1e, kindTo_not hk]
          exact HK0.out
        rw [decide_eq_false hk] at hteq
        clear hk hi1e
        go_wp2
        go_roundg (11 - i1).toNat
        case measure => have := HGI.out; have := HI1.out; omega
        case rel => exact ⟨i1, rfl, by have := HI1.out; omega, by have := HI1.out; omega, rfl, HKN, HO⟩
    · have e : i = 11 := by omega
      have HKF : Hid (Blk wr EB 44 [.int .i64 (nameK wd), .int .i64 0, .string ⟨#[]⟩, .slice none 0 0]) := by
        show Blk _ _ _ _
        have h := HK0.out
        rw [e, kindTo_end] at h
        exact h
      clear e
      go_wp2
      exact HK.out _ _ _ _ _ _ _ _ _ _ _ _ _ wr HKF.out HO.out
end Go.Proofs.YtfjpgjkfmcedoaaGreatDoor
