/- Put together of Jo1, Jo2, RdJ. -/
import Derived.Test.YtfjpgjkfmcedoaaGreatDoorLx9
import Derived.Test.YtfjpgjkfmcedoaaGreatDoorJt5
import Derived.Test.YtfjpgjkfmcedoaaGreatDoorRd3
/- JobOf: the fold that a word names. Written by tpl/mk_jo1.py. -/
namespace Go.Proofs.YtfjpgjkfmcedoaaGreatDoor
open Go.ChangeShapes Go.WideShapes Go.ChangeAt Go.RowKit
/-- The fold that a word names. -/
def foldK (w : List UInt8) : Int := if w = foldL 1 then 1 else if w = foldL 2 then 2 else if w = foldL 3 then 3 else if w = foldL 4 then 4 else 0
theorem foldK_rng (w : List UInt8) : 0 ≤ foldK w ∧ foldK w ≤ 4 := by
  unfold foldK
  repeat' split
  all_goals omega
theorem foldK_name (i : Nat) (h1 : 1 ≤ i) (h2 : i ≤ 4) : foldK (foldL i) = i := by
  have : i = 1 ∨ i = 2 ∨ i = 3 ∨ i = 4 := by omega
  rcases this with rfl | rfl | rfl | rfl <;> decide +kernel
theorem foldK_is {w : List UInt8} {i : Nat} (h1 : 1 ≤ i) (h : foldK w = i) : w = foldL i := by
  unfold foldK at h
  repeat' split at h
  all_goals first | (obtain rfl : i = 1 := by omega); assumption | (obtain rfl : i = 2 := by omega); assumption | (obtain rfl : i = 3 := by omega); assumption | (obtain rfl : i = 4 := by omega); assumption | (exfalso; omega)
theorem foldL_eq (w : List UInt8) (i : Nat) (h1 : 1 ≤ i) (h2 : i ≤ 4) : (foldL i == w) = decide (foldK w = i) := by
  rw [Bool.eq_iff_iff, beq_iff_eq, decide_eq_true_eq]
  constructor
  · intro e
    rw [← e]
    exact foldK_name i h1 h2
  · intro e
    exact (foldK_is h1 e).symm
/-- The fold that a word names, of those ahead of a number. -/
def foldTo (w : List UInt8) (i : Nat) : Int := if foldK w < i then foldK w else 0
theorem foldTo_one (w : List UInt8) : foldTo w 1 = 0 := by
  unfold foldTo
  have := (foldK_rng w).1
  split
  · omega
  · rfl
theorem foldTo_end (w : List UInt8) : foldTo w 5 = foldK w := by
  unfold foldTo
  have := (foldK_rng w).2
  rw [if_pos (by omega)]
theorem foldTo_at {w : List UInt8} {i : Nat} (h : foldK w = i) : foldTo w (i + 1) = i := by
  unfold foldTo
  rw [if_pos (by omega), h]
theorem foldTo_not {w : List UInt8} {i : Nat} (h : ¬ foldK w = i) : foldTo w (i + 1) = foldTo w i := by
  unfold foldTo
  by_cases h2 : foldK w < i
  · rw [if_pos h2, if_pos (by omega)]
  · rw [if_neg h2, if_neg (by omega)]
theorem nmF_nat (i : Nat) (h1 : 1 ≤ i) (h2 : i ≤ 4) : nmF[i]? = some (.string (bs (foldL i))) := by
  have : i = 1 ∨ i = 2 ∨ i = 3 ∨ i = 4 := by omega
  rcases this with rfl | rfl | rfl | rfl <;> rfl
set_option maxRecDepth 1000000 in
set_option maxHeartbeats 4000000 in
theorem jo_b0 (NB JB : Nat) (wd : List UInt8) (w0 : World) (K : Act → World → Prop) (s0 s1 s2 s3 s5 s6 s7 s9 s12 s13 s14 s15 s16 s17 s18 s19 s20 s21 s22 s23 s24 s25 s26 s27 s28 s29 s30 s31 s32 s33 s34 s35 s36 s37 s38 s39 s40 s41 s42 s43 s44 s45 s46 s47 s48 s49 s50 s51 s52 s53 s54 s55 s56 s57 s58 s59 s60 s61 s62 s63 s64 s65 s66 s67 s68 s69 s70 s71 s72 s73 s74 s75 s76 s77 s78 s79 s80 s81 s82 s83 s84 s85 s86 s87 s88 s89 s90 s91 s92 s93 s94 s95 s96 s97 s98 s99 s100 s101 s102 s103 s104 s105 s106 s107 s108 s109 s110 s111 s112 s113 s114 s115 s116 s117 s118 s119 s120 s121 s122 s123 s124 s125 s126 s127 s128 s129 s130 s131 s132 s133 s134 s135 s136 s137 s138 s139 s140 s141 s142 s143 s144 s145 s146 s147 s148 s149 s150 s151 s152 s153 s154 s155 s156 s157 s158 s159 s160 s161 s162 s163 s164 s165 s166 s167 s168 s169 s170 s171 s172 s173 s174 s175 s176 s177 s178 : Value)
    (HN : Hid (Blk w0 NB 9 nmF))
    (HE : Hid (Blk w0 JB 24 [.slice none 0 0, .int .i64 (0), .bool false, .int .i64 0]))
    (hne : NB ≠ JB)
    (HK : Hid (∀ (z11 z50 z51 z52 z53 z54 z55 z56 z57 z58 z59 z60 z61 : Value) (wx : World), Blk wx JB 24 [.slice none 0 0, .int .i64 (foldK wd), .bool false, .int .i64 0] → Only JB w0 wx → K ⟨#[s0, s1, s2, s3, .slice (some ⟨NB, 0, none⟩) 5 5, s5, s6, s7, .pointer (some ⟨JB, 0, none⟩), s9, .string (bs wd), z11, s12, s13, s14, s15, s16, s17, s18, s19, s20, s21, s22, s23, s24, s25, s26, s27, s28, s29, s30, s31, s32, s33, s34, s35, s36, s37, s38, s39, s40, s41, s42, s43, s44, s45, s46, s47, s48, s49, z50, z51, z52, z53, z54, z55, z56, z57, z58, z59, z60, z61, s62, s63, s64, s65, s66, s67, s68, s69, s70, s71, s72, s73, s74, s75, s76, s77, s78, s79, s80, s81, s82, s83, s84, s85, s86, s87, s88, s89, s90, s91, s92, s93, s94, s95, s96, s97, s98, s99, s100, s101, s102, s103, s104, s105, s106, s107, s108, s109, s110, s111, s112, s113, s114, s115, s116, s117, s118, s119, s120, s121, s122, s123, s124, s125, s126, s127, s128, s129, s130, s131, s132, s133, s134, s135, s136, s137, s138, s139, s140, s141, s142, s143, s144, s145, s146, s147, s148, s149, s150, s151, s152, s153, s154, s155, s156, s157, s158, s159, s160, s161, s162, s163, s164, s165, s166, s167, s168, s169, s170, s171, s172, s173, s174, s175, s176, s177, s178], []⟩ wx)) :
    Code.wp Tryz.prog (pieceIn Tryz.f12.body 0) (Exit.then K fun _ _ _ => False) ⟨#[s0, s1, s2, s3, .slice (some ⟨NB, 0, none⟩) 5 5, s5, s6, s7, .pointer (some ⟨JB, 0, none⟩), s9, .string (bs wd), .int .i64 1, s12, s13, s14, s15, s16, s17, s18, s19, s20, s21, s22, s23, s24, s25, s26, s27, s28, s29, s30, s31, s32, s33, s34, s35, s36, s37, s38, s39, s40, s41, s42, s43, s44, s45, s46, s47, s48, s49, s50, s51, s52, s53, s54, s55, s56, s57, s58, s59, s60, s61, s62, s63, s64, s65, s66, s67, s68, s69, s70, s71, s72, s73, s74, s75, s76, s77, s78, s79, s80, s81, s82, s83, s84, s85, s86, s87, s88, s89, s90, s91, s92, s93, s94, s95, s96, s97, s98, s99, s100, s101, s102, s103, s104, s105, s106, s107, s108, s109, s110, s111, s112, s113, s114, s115, s116, s117, s118, s119, s120, s121, s122, s123, s124, s125, s126, s127, s128, s129, s130, s131, s132, s133, s134, s135, s136, s137, s138, s139, s140, s141, s142, s143, s144, s145, s146, s147, s148, s149, s150, s151, s152, s153, s154, s155, s156, s157, s158, s159, s160, s161, s162, s163, s164, s165, s166, s167, s168, s169, s170, s171, s172, s173, s174, s175, s176, s177, s178], []⟩ w0 := by
  have K0 : Hid (Blk w0 JB 24 [.slice none 0 0, .int .i64 (foldTo wd 1), .bool false, .int .i64 0]) := by
    show Blk _ _ _ _
    rw [foldTo_one]
    exact HE.out
  have O0 : Hid (Only JB w0 w0) := Only.refl _ _
  conv => arg 2; whnf
  go_wp2_with fail
  go_loopg [11] 4 (fun gg iv wr => ∃ i : Nat, gg = 5 - i ∧ 1 ≤ i ∧ i ≤ 5 ∧ iv = .int .i64 (i : Int) ∧ Hid (Blk wr JB 24 [.slice none 0 0, .int .i64 (foldTo wd i), .bool false, .int .i64 0]) ∧ Hid (Only JB w0 wr))
  case atStart => exact ⟨1, by rfl, by omega, by omega, rfl, K0, O0⟩
  case round =>
    clear K0 O0
    obtain ⟨i, hgi, hi1, hi5, rfl, HK0, HO⟩ := hrel
    have HGI := Lib.hid hgi
    clear hgi
    by_cases hlt : i ≤ 4
    · have HNR : Hid (Blk wr NB 9 nmF) := (HO.out.block NB HN.out.lt (fun e => hne (Option.some.inj e))).trans HN.out
      have n0 := HNR.out.at (nmF_nat i hi1 hlt)
      have e1 := HK0.out.at (i := 1) (v := .int .i64 (foldTo wd i)) rfl
      have f1 := HK0.out.frozen 1
      have hteq : ((bs (foldL i)).toList == (bs wd).toList) = decide (foldK wd = i) := by rw [bs_toList, bs_toList]; exact foldL_eq wd i hi1 hlt
      obtain ⟨i1, hi1e⟩ : ∃ x, x = i + 1 := ⟨_, rfl⟩
      have ha1 : (i : Int) + 1 = (i1 : Int) := by omega
      have HI1 := Lib.hid hi1e
      have hvk : wrap64 (i1 : Int) = (i1 : Int) := by unfold wrap64; omega
      by_cases hk : foldK wd = i
      · have HKN : Hid (Blk (wr.setCell ⟨JB, 1, none⟩ (.int .i64 (i : Int))) JB 24 [.slice none 0 0, .int .i64 (foldTo wd i1), .bool false, .int .i64 0]) := by
          show Blk _ _ _ _
          have h := HK0.out.set 1 (.int .i64 (i : Int))
          rw [hi1e, foldTo_at hk]
          exact h
        have HON : Hid (Only JB w0 (wr.setCell ⟨JB, 1, none⟩ (.int .i64 (i : Int)))) := HO.out.setCell 1 _
        rw [decide_eq_true hk] at hteq
        clear hk hi1e
        go_wp2
        go_roundg (5 - i1)
        case measure => have := HGI.out; have := HI1.out; omega
        case rel => exact ⟨i1, rfl, by have := HI1.out; omega, by have := HI1.out; omega, rfl, HKN, HON⟩
      · have HKN : Hid (Blk wr JB 24 [.slice none 0 0, .int .i64 (foldTo wd i1), .bool false, .int .i64 0]) := by
          show Blk _ _ _ _
          rw [hi1e, foldTo_not hk]
          exact HK0.out
        rw [decide_eq_false hk] at hteq
        clear hk hi1e
        go_wp2
        go_roundg (5 - i1)
        case measure => have := HGI.out; have := HI1.out; omega
        case rel => exact ⟨i1, rfl, by have := HI1.out; omega, by have := HI1.out; omega, rfl, HKN, HO⟩
    · have e : i = 5 := by omega
      have HKF : Hid (Blk wr JB 24 [.slice none 0 0, .int .i64 (foldK wd), .bool false, .int .i64 0]) := by
        show Blk _ _ _ _
        have h := HK0.out
        rw [e, foldTo_end] at h
        exact h
      clear e
      go_wp2
      exact HK.out _ _ _ _ _ _ _ _ _ _ _ _ _ wr HKF.out HO.out
end Go.Proofs.YtfjpgjkfmcedoaaGreatDoor
/- JobOf: a rule's line, as the lexer goes through it (plain). -/
namespace Go.Proofs.YtfjpgjkfmcedoaaGreatDoor
open Go.ChangeShapes Go.WideShapes Go.ChangeAt Go.RowKit
theorem peekL_is (s p : List UInt8) : peekL s p = (p ++ [32]).isPrefixOf s := rfl
theorem peek_word {s p : List UInt8} (h : peekL s p = true) (hp : ∀ b ∈ p, b ≠ 32) : wordR s = p := by
  unfold peekL at h
  rw [List.isPrefixOf_iff_prefix] at h
  obtain ⟨t, rfl⟩ := h
  rw [List.append_assoc]
  exact wordR_app (.inr ⟨t, rfl⟩) hp
theorem drop_app {s x y : List UInt8} {p : Nat} (h : s.drop p = x ++ y) : s.drop (p + x.length) = y := by
  rw [← List.drop_drop, h, List.drop_left]
/-- A rule's line behind what says when. -/
def keyVal (r : Rl) : List UInt8 := [107, 101, 121, 32] ++ r.key.txt ++ [32, 118, 97, 108, 32] ++ r.val.txt
theorem faultE_dep {e : Ex} {t c : Bool} (h : faultE e t c = 0) : e.dep ≤ 5 := by
  unfold faultE at h
  split at h
  · rename_i h1
    exact h1.2
  · cases h
theorem rule_deps {r : Rl} (h : ruleFault r = 0) : r.key.dep ≤ 5 ∧ r.val.dep ≤ 5 ∧ ((r.when = 1 ∨ r.when = 2) → r.iff.dep ≤ 5) := by
  unfold ruleFault at h
  by_cases h1 : whenFault r ≠ 0
  · rw [if_pos h1] at h; exact absurd h h1
  · rw [if_neg h1] at h
    by_cases h2 : faultE r.key true r.each ≠ 0
    · rw [if_pos h2] at h; exact absurd h h2
    · rw [if_neg h2] at h
      refine ⟨faultE_dep (by simpa using h2), faultE_dep h, fun hw => ?_⟩
      have h3 : whenFault r = 0 := by simpa using h1
      unfold whenFault at h3
      rw [if_neg (by omega), if_pos hw] at h3
      split at h3
      · exact faultE_dep h3
      · cases h3
theorem kv_walk {line : List UInt8} {r : Rl} {p : Nat} (hf : ruleFault r = 0) (h : line.drop p = keyVal r) :
    wordR (line.drop p) = [107, 101, 121] ∧ ∀ key p6 b6, LexE line (p + 4) 1 key p6 b6 → key = r.key ∧ b6 = false ∧ wordR (line.drop p6) = [118, 97, 108] ∧ ∀ val p8 b8, LexE line (p6 + 4) 1 val p8 b8 → val = r.val ∧ b8 = false := by
  obtain ⟨ok1, ok2, -⟩ := rule_parts hf
  obtain ⟨d1, d2, -⟩ := rule_deps hf
  have e1 : line.drop p = [107, 101, 121, 32] ++ (r.key.txt ++ ([32, 118, 97, 108, 32] ++ r.val.txt)) := by rw [h]; simp [keyVal]
  have e2 : line.drop (p + 4) = r.key.txt ++ ([32, 118, 97, 108, 32] ++ r.val.txt) := drop_app e1
  refine ⟨by rw [e1]; rfl, fun key p6 b6 hE => ?_⟩
  obtain ⟨f1, f2, f3⟩ := hE.2.2.2 r.key _ _ _ ok1 (by omega) e2 (.inr ⟨_, rfl⟩)
  have e3 : line.drop p6 = [118, 97, 108, 32] ++ r.val.txt := by
    have e4 := drop_app e2
    rw [f2, ← List.drop_drop, e4]
    rfl
  refine ⟨f1, f3, by rw [e3]; rfl, fun val p8 b8 hV => ?_⟩
  have e5 : line.drop (p6 + 4) = r.val.txt ++ [] := by rw [List.append_nil]; exact drop_app e3
  obtain ⟨g1, -, g3⟩ := hV.2.2.2 r.val _ _ _ ok2 (by omega) e5 (.inl rfl)
  exact ⟨g1, g3⟩
theorem w_walk {line : List UInt8} {r : Rl} {p : Nat} (hf : ruleFault r = 0) (hw : r.when = 1 ∨ r.when = 2) (h : line.drop p = r.iff.txt ++ ([32] ++ quoteL r.s ++ [32] ++ keyVal r)) :
    ∀ iff p3 b3, LexE line p 1 iff p3 b3 → iff = r.iff ∧ b3 = false ∧ (lexT line p3 b3).1 = r.s ∧ (lexT line p3 b3).2.2 = false ∧ line.drop (lexT line p3 b3).2.1 = keyVal r := by
  obtain ⟨-, -, hq⟩ := rule_parts hf
  obtain ⟨-, -, d3⟩ := rule_deps hf
  have ok : r.iff.ok true r.each = true := by
    rcases hq with hq | hq
    · omega
    · exact hq.2.1
  intro iff p3 b3 hE
  obtain ⟨f1, f2, rfl⟩ := hE.2.2.2 r.iff _ _ _ ok (by have := d3 hw; omega) h (.inr ⟨quoteL r.s ++ 32 :: keyVal r, by simp⟩)
  have e3 : line.drop p3 = quoteL r.s ++ (32 :: keyVal r) := by
    have e4 := drop_app h
    rw [f2, ← List.drop_drop, e4]
    simp
  have e5 := lexT_quo e3 (.inr ⟨_, rfl⟩)
  rw [e5]
  refine ⟨f1, rfl, rfl, rfl, ?_⟩
  show line.drop (p3 + (quoteL r.s).length + 1) = _
  rw [← List.drop_drop, drop_app e3]
  rfl
/-- What the lexer meets ahead of a rule's expressions. -/
theorem when_walk {line : List UInt8} {r : Rl} (hf : ruleFault r = 0) (h : line = lineR r) :
    peekL line [101, 97, 99, 104] = r.each ∧ ∀ p, p = (if r.each then 5 else 0) →
      (r.when = 1 → peekL (line.drop p) [115, 97, 109, 101] = true ∧ line.drop (p + 5) = r.iff.txt ++ ([32] ++ quoteL r.s ++ [32] ++ keyVal r)) ∧
      (r.when = 2 → peekL (line.drop p) [115, 97, 109, 101] = false ∧ peekL (line.drop p) [111, 116, 104, 101, 114] = true ∧ line.drop (p + 6) = r.iff.txt ++ ([32] ++ quoteL r.s ++ [32] ++ keyVal r)) ∧
      (r.when = 0 → peekL (line.drop p) [115, 97, 109, 101] = false ∧ peekL (line.drop p) [111, 116, 104, 101, 114] = false ∧ line.drop p = keyVal r ∧ r.iff = .mk 0 0 [] [] ∧ r.s = []) := by
  obtain ⟨-, -, hq⟩ := rule_parts hf
  obtain ⟨each, when, iff, s, key, val⟩ := r
  have hl : line = ruleHd ⟨each, when, iff, s, key, val⟩ ++ ([107, 101, 121, 32] ++ key.txt ++ [32, 118, 97, 108, 32] ++ val.txt) := h
  obtain ⟨h1, h2⟩ := each_pre hl
  refine ⟨h1, ?_⟩
  intro p hp
  have hd : line.drop p = takeR eachT line := by
    unfold takeR
    rw [h1, hp]
    cases each with
    | true => rfl
    | false => rfl
  rw [h2] at hd
  refine ⟨fun hw => ?_, fun hw => ?_, fun hw => ?_⟩
  · simp only at hw
    rw [if_pos hw] at hd
    have e : line.drop p = sameT ++ (iff.txt ++ ([32] ++ quoteL s ++ [32] ++ keyVal ⟨each, when, iff, s, key, val⟩)) := by rw [hd]; simp [keyVal]
    exact ⟨by rw [e]; exact prefix_app sameT _, drop_app e⟩
  · simp only at hw
    rw [if_neg (by omega), if_pos hw] at hd
    have e : line.drop p = otherT ++ (iff.txt ++ ([32] ++ quoteL s ++ [32] ++ keyVal ⟨each, when, iff, s, key, val⟩)) := by rw [hd]; simp [keyVal]
    exact ⟨by rw [e]; rfl, by rw [e]; exact prefix_app otherT _, drop_app e⟩
  · simp only at hw
    rw [if_neg (by omega), if_neg (by omega)] at hd
    have e : line.drop p = keyVal ⟨each, when, iff, s, key, val⟩ := by rw [hd]; simp [keyVal]
    rcases hq with hq | hq
    · exact ⟨by rw [e]; rfl, by rw [e]; rfl, e, hq.2.1, hq.2.2⟩
    · simp only at hq
      omega
end Go.Proofs.YtfjpgjkfmcedoaaGreatDoor
/- Rules as they are gathered. Written by tpl/mk_rdj.py. -/
namespace Go.Proofs.YtfjpgjkfmcedoaaGreatDoor
open Go.ChangeShapes Go.WideShapes Go.ChangeAt Go.RowKit
def rowR (x : Rl) (si sk sv : Value) : List Value := [.bool x.each, .int .i64 x.when, .int .i64 x.iff.k, .int .i64 x.iff.n, .string (bs x.iff.s), si, .string (bs x.s), .int .i64 x.key.k, .int .i64 x.key.n, .string (bs x.key.s), sk, .int .i64 x.val.k, .int .i64 x.val.n, .string (bs x.val.s), sv]
theorem rowR_len (x : Rl) (si sk sv : Value) : (rowR x si sk sv).length = 15 := rfl
def cellsR (l : List Rl) (A : Nat → Value × Value × Value) : List Value := l.zipIdx.flatMap fun p => rowR p.1 (A p.2).1 (A p.2).2.1 (A p.2).2.2
theorem cellsR_snoc (l : List Rl) (A : Nat → Value × Value × Value) (x : Rl) : cellsR (l ++ [x]) A = cellsR l A ++ rowR x (A l.length).1 (A l.length).2.1 (A l.length).2.2 := by
  unfold cellsR; rw [List.zipIdx_append]; simp
theorem cellsR_gen (A A' : Nat → Value × Value × Value) : ∀ (l : List Rl) (m : Nat), (∀ j, j < l.length → A (m + j) = A' (m + j)) → ((l.zipIdx m).flatMap fun p => rowR p.1 (A p.2).1 (A p.2).2.1 (A p.2).2.2) = ((l.zipIdx m).flatMap fun p => rowR p.1 (A' p.2).1 (A' p.2).2.1 (A' p.2).2.2) := by
  intro l
  induction l with
  | nil => intro m _; rfl
  | cons x l ih =>
    intro m h
    have h0 := h 0 (by simp)
    rw [Nat.add_zero] at h0
    rw [List.zipIdx_cons, List.flatMap_cons, List.flatMap_cons, ih (m + 1) (fun j hj => by have := h (j + 1) (by simpa using hj); rw [show m + 1 + j = m + (j + 1) by omega]; exact this), h0]
theorem cellsR_congr (l : List Rl) (A A' : Nat → Value × Value × Value) (h : ∀ j, j < l.length → A j = A' j) : cellsR l A = cellsR l A' :=
  cellsR_gen A A' l 0 (fun j hj => by rw [Nat.zero_add]; exact h j hj)
theorem cellsR_at (A : Nat → Value × Value × Value) : ∀ (l : List Rl) (m i : Nat) (x : Rl) (j : Nat), l[i]? = some x → j < 15 → ((l.zipIdx m).flatMap fun p => rowR p.1 (A p.2).1 (A p.2).2.1 (A p.2).2.2)[i * 15 + j]? = (rowR x (A (m + i)).1 (A (m + i)).2.1 (A (m + i)).2.2)[j]? := by
  intro l
  induction l with
  | nil => intro m i x j hx; simp at hx
  | cons y l ih =>
    intro m i x j hx hj
    rw [List.zipIdx_cons, List.flatMap_cons]
    cases i with
    | zero =>
      simp at hx
      subst hx
      rw [List.getElem?_append_left (by rw [rowR_len]; omega)]
      simp
    | succ i =>
      rw [List.getElem?_append_right (by rw [rowR_len]; omega), rowR_len, show (i + 1) * 15 + j - 15 = i * 15 + j by omega, ih (m + 1) i x j (by simpa using hx) hj, show m + 1 + i = m + (i + 1) by omega]
/-- The row of the rules that have been read; where each one's expressions lie. -/
def RulesAt (B base : Nat) (wr : World) (rv : Value) (rs : List Rl) : Prop :=
  ∃ (A : Nat → Value × Value × Value) (lo hi : Nat → Nat), wr.ownsRow base 46 15 rv rs.length (cellsR rs A) ∧ (∀ g, rv.ownBlock = some g → B < g) ∧
    ∀ j x, rs[j]? = some x → B < lo j ∧ hi j ≤ wr.heap.size ∧ (∀ g, rv.ownBlock = some g → g < lo j ∨ hi j ≤ g) ∧ IsExW (lo j) (hi j) wr (A j).1 x.iff ∧ IsExW (lo j) (hi j) wr (A j).2.1 x.key ∧ IsExW (lo j) (hi j) wr (A j).2.2 x.val
theorem RulesAt.zero (B base : Nat) (wr : World) : RulesAt B base wr (.slice none 0 0) [] :=
  ⟨fun _ => (undef, undef, undef), fun _ => 0, fun _ => 0, World.ownsRow_nil _ _ _ _, fun g h => by simp [Value.ownBlock] at h, fun j x h => by simp at h⟩
theorem RulesAt.lower {B base : Nat} {wr w' : World} {rv : Value} {rs : List Rl} (h : RulesAt B base wr rv rs) (hb : Below wr.heap.size wr w') : RulesAt B base w' rv rs := by
  obtain ⟨A, lo, hi, h1, h2, h3⟩ := h
  refine ⟨A, lo, hi, h1.kept (row := none) ⟨hb.os, hb.tape, hb.output, hb.size, fun k hk _ => hb.block k hk⟩ ?_, h2, fun j x hx => ?_⟩
  · cases rv.ownBlock with
    | none => exact .inl rfl
    | some k => exact .inr (by simp)
  · obtain ⟨a, b, c, d1, d2, d3⟩ := h3 j x hx
    have hk := Keeps.of_below (lo := lo j) hb b
    exact ⟨a, Nat.le_trans b hb.size, c, d1.carry hk, d2.carry hk, d3.carry hk⟩
theorem RulesAt.put {B base j : Nat} {wr : World} {rv v : Value} {rs : List Rl} (h : RulesAt B base wr rv rs) : RulesAt B base (wr.setCell ⟨B, j, none⟩ v) rv rs := by
  obtain ⟨A, lo, hi, h1, h2, h3⟩ := h
  refine ⟨A, lo, hi, ownsRow_setCell_other h1 (fun e => by have := h2 _ e; simp at this) v, h2, fun j' x hx => ?_⟩
  obtain ⟨a, b, c, d1, d2, d3⟩ := h3 j' x hx
  exact ⟨a, by simpa using b, c, d1.put (by omega) v, d2.put (by omega) v, d3.put (by omega) v⟩
theorem RulesAt.drew {B base : Nat} {wr : World} {rv : Value} {rs : List Rl} (h : RulesAt B base wr rv rs) : RulesAt B base wr.drew rv rs := h
/-- One more: read in w1, appended in w2, which comes to be w3. -/
theorem RulesAt.more {B base g cap H : Nat} {w1 w2 w3 : World} {rv si sk sv : Value} {rs : List Rl} {x : Rl} (h : RulesAt B base w1 rv rs) (hB : B < w1.heap.size)
    (hk : RulesAt B base w2 rv rs) (hxi : IsExW (w1.heap.size + 1) H w2 si x.iff) (hxk : IsExW (w1.heap.size + 1) H w2 sk x.key) (hxv : IsExW (w1.heap.size + 1) H w2 sv x.val) (hH : H ≤ w2.heap.size)
    (ho : ∀ A, w2.ownsRow base 46 15 rv rs.length (cellsR rs A) → w3.ownsRow base 46 15 (.slice (some ⟨g, 0, none⟩) (rs.length + 1) cap) (rs.length + 1) (cellsR rs A ++ rowR x si sk sv))
    (hg : w2.grownBy w3 rv.ownBlock) (hat : rv.ownBlock = some g ∨ g = w2.heap.size) (hBB : B < w2.heap.size) : RulesAt B base w3 (.slice (some ⟨g, 0, none⟩) (rs.length + 1) cap) (rs ++ [x]) := by
  obtain ⟨A0, lo0, hi0, o0, b0, _⟩ := h
  obtain ⟨A, lo, hi, h1, h2, h3⟩ := hk
  have hlt : ∀ g', rv.ownBlock = some g' → g' < w1.heap.size := fun g' e => (o0.lt g' e).2
  refine ⟨fun j => if j = rs.length then (si, sk, sv) else A j, fun j => if j = rs.length then w1.heap.size + 1 else lo j, fun j => if j = rs.length then H else hi j, ?_, ?_, ?_⟩
  · have e := ho A h1
    rw [cellsR_snoc, List.length_append, List.length_singleton]
    simp only [if_true]
    rw [cellsR_congr rs (fun j => if j = rs.length then (si, sk, sv) else A j) A (fun j hj => if_neg (by omega))]
    exact e
  · intro g' e
    have e' : g' = g := by simpa [Value.ownBlock] using e.symm
    subst e'
    rcases hat with hat | hat
    · exact h2 _ hat
    · rw [hat]; exact hBB
  · intro j y hy
    by_cases hj : j < rs.length
    · rw [List.getElem?_append_left hj] at hy
      obtain ⟨a, b, c, d1, d2, d3⟩ := h3 j y hy
      have hne : ¬ j = rs.length := by omega
      simp only [if_neg hne]
      have hkp := Keeps.of_grown hg b c
      refine ⟨a, Nat.le_trans b hg.size, ?_, d1.carry hkp, d2.carry hkp, d3.carry hkp⟩
      intro g' e
      have e' : g' = g := by simpa [Value.ownBlock] using e.symm
      subst e'
      rcases hat with hat | hat
      · exact c _ hat
      · right; omega
    · have hlen : j = rs.length := by
        have := (List.getElem?_eq_some_iff.1 hy).1
        simp at this; omega
      subst hlen
      simp only [List.getElem?_concat_length, Option.some.injEq] at hy
      subst hy
      simp only [if_true]
      have hkp : Keeps (w1.heap.size + 1) H w2 w3 := Keeps.of_grown hg hH (fun g' e => .inl (by have := hlt g' e; omega))
      refine ⟨by omega, Nat.le_trans hH hg.size, ?_, hxi.carry hkp, hxk.carry hkp, hxv.carry hkp⟩
      intro g' e
      have e' : g' = g := by simpa [Value.ownBlock] using e.symm
      subst e'
      rcases hat with hat | hat
      · have := hlt _ hat; exact .inl (by omega)
      · right; omega
/-- What has been read are rules. -/
theorem RulesAt.done {B base : Nat} {wr : World} {rv : Value} {rs : List Rl} (h : RulesAt B base wr rv rs) : ∀ w', Keeps (B + 1) wr.heap.size wr w' → IsRules w' rv rs := by
  obtain ⟨A, lo, hi, h1, h2, h3⟩ := h
  intro w' hk
  have kids : ∀ i x, rs[i]? = some x → IsEx w' (A i).1 x.iff ∧ IsEx w' (A i).2.1 x.key ∧ IsEx w' (A i).2.2 x.val := fun i x hx => by
    obtain ⟨a, b, _, d1, d2, d3⟩ := h3 i x hx
    have hks := hk.sub (lo' := lo i) (hi' := hi i) (by omega) b
    exact ⟨d1 w' hks, d2 w' hks, d3 w' hks⟩
  rcases h1.2 with ⟨rfl, h0⟩ | ⟨g, cap, cur, rfl, _, hg, hr⟩
  · have e : rs = [] := List.eq_nil_of_length_eq_zero h0
    subst e
    exact ⟨none, 0, 0, 0, fun _ => undef, fun _ => undef, fun _ => undef, rfl, fun h => by simp at h, fun i x hx => by simp at hx⟩
  · refine ⟨some ⟨g, 0, none⟩, cap, g, 0, fun i => (A i).1, fun i => (A i).2.1, fun i => (A i).2.2, rfl, fun _ => rfl, fun i x hx => ⟨?_, kids i x hx⟩⟩
    have hlt := (List.getElem?_eq_some_iff.1 hx).1
    have hblk := hk g (h2 g rfl) (blockLt hg)
    have cell : ∀ j, j < 15 → w'.cell? ⟨g, 0 + i * 15 + j, none⟩ = (rowR x (A i).1 (A i).2.1 (A i).2.2)[j]? := fun j hj => by
      have e := cellsR_at A rs 0 i x j hx hj
      rw [Nat.zero_add] at e
      rw [World.cell?_of_block (a := ⟨g, 0 + i * 15 + j, none⟩) hblk, Nat.zero_add, h1.cellAt (i * 15 + j) (by omega)]
      exact e
    exact ⟨cell 0 (by omega), cell 1 (by omega), cell 2 (by omega), cell 3 (by omega), cell 4 (by omega), cell 5 (by omega), cell 6 (by omega), cell 7 (by omega), cell 8 (by omega), cell 9 (by omega), cell 10 (by omega), cell 11 (by omega), cell 12 (by omega), cell 13 (by omega), cell 14 (by omega)⟩
end Go.Proofs.YtfjpgjkfmcedoaaGreatDoor
