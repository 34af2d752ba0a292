/- Contract of job.readHead: a job's first line. -/
import Derived.Test.YtfjpgjkfmcedoaaGreatDoorRdR
namespace Go.Proofs.YtfjpgjkfmcedoaaGreatDoor
open Go.ChangeShapes Go.WideShapes Go.ChangeAt Go.RowKit
/-- A fold's number, of so many names. -/
def foldR (x : List UInt8) : Nat → Int
  | 0 => 0
  | k + 1 => if foldL k = x then (k : Int) else foldR x k
theorem foldR_name (f : Int) (h1 : 1 ≤ f) (h2 : f ≤ 4) : foldR (foldL f.toNat) 5 = f := by
  have : f = 1 ∨ f = 2 ∨ f = 3 ∨ f = 4 := by omega
  rcases this with rfl | rfl | rfl | rfl <;> decide +kernel
theorem foldL_plain (k : Nat) : ∀ b ∈ foldL k, b ≠ 32 ∧ b ≠ 10 := by
  unfold foldL
  repeat' split
  all_goals (intro b hb; simp only [List.mem_cons, List.not_mem_nil, or_false] at hb <;> first | (rcases hb with rfl | rfl | rfl | rfl | rfl | rfl | rfl | rfl <;> decide) | (rcases hb with rfl | rfl | rfl | rfl | rfl <;> decide) | (rcases hb with rfl | rfl | rfl <;> decide))
/-- What is read of a job's first line. -/
def ReadsH (line : List UInt8) (fo : Int) (ea : Bool) (sl : Int) : Prop :=
  (-9223372036854775808 ≤ sl ∧ sl ≤ 9223372036854775807) ∧ ∀ j, jobFault j = 0 → line ++ [10] = headL j → fo = j.fold ∧ ea = j.early ∧ sl = j.slices
theorem head_reads {line : List UInt8} {sl : Int} (hb : -9223372036854775808 ≤ sl ∧ sl ≤ 9223372036854775807)
    (hn : ∀ v, -9223372036854775808 ≤ v → v ≤ 9223372036854775807 → wordR ((line.drop (wordR line).length).drop 1) = Lib.itoa v → sl = v) :
    ReadsH line (foldR (wordR line) 5) (earlyT.isPrefixOf (((line.drop (wordR line).length).drop 1).drop (wordR ((line.drop (wordR line).length).drop 1)).length)) sl := by
  refine ⟨hb, fun j hj hl => ?_⟩
  obtain ⟨f1, f2, f3, f4⟩ := fault_in hj
  unfold headL at hl
  have e := (List.append_inj' hl rfl).1
  have e1 : line = foldL j.fold.toNat ++ (32 :: (Lib.itoa j.slices ++ (if j.early then earlyT else []))) := by rw [e]; simp [earlyT]
  have hw : wordR line = foldL j.fold.toNat := by rw [e1]; exact wordR_app (.inr ⟨_, rfl⟩) (fun b hb => (foldL_plain _ b hb).1)
  have hd : (line.drop (wordR line).length).drop 1 = Lib.itoa j.slices ++ (if j.early then earlyT else []) := by rw [hw, e1]; simp
  have hst : Stop1 (if j.early then earlyT else []) := by
    split
    · exact .inr ⟨_, rfl⟩
    · exact .inl rfl
  have hw2 : wordR ((line.drop (wordR line).length).drop 1) = Lib.itoa j.slices := by rw [hd]; exact wordR_app hst (fun b hb => (itoa_plain _ b hb).1)
  refine ⟨by rw [hw]; exact foldR_name _ f1 f2, ?_, hn j.slices (by omega) (by omega) hw2⟩
  rw [hw2, hd]
  simp only [List.drop_left]
  cases j.early <;> decide
theorem wpList_indexR {w : World} {ops : Array Oper} {rest : List Oper} {o : Oper} {a : Act} {Q : Exit → Act → World → Prop} (hgd : o.guard = none) (t : TypeId) (x i : Operand) (ho : o.op = .index t x i) (xv iv v : Value) (hx : a.eval x = xv) (hi : a.eval i = iv)
    (hrun : ∀ w : World, (Instr.index t xv iv).run Tryz.prog w = .ok v w) (h : wpList Tryz.prog ops Q rest (a.put o.dst v) w) : wpList Tryz.prog ops Q (o :: rest) a w :=
  wpList_plain hgd fun _ hK => by
    unfold Oper.wp execOp
    simp only [ho, hx, hi, Sem.run_bind, Sem.run_pure, Result.andThen_ok, hrun]
    exact hK _ _ h
/-- While a job's first line is read. -/
structure ZSt (P B : Nat) (r : List UInt8) (fo : Int) (ea : Bool) (sl : Int) (w wr : World) : Prop where
  rd : RdAt P r wr
  res : wr.heap[w.heap.size]? = some (.cells #[.slice none 0 0, .int .i64 0, .bool false, .int .i64 0] 24 (0, 0))
  ex : wr.heap[B]? = some (.cells #[.slice none 0 0, .int .i64 fo, .bool ea, .int .i64 sl] 24 (0, 0))
  bel : Below w.heap.size w wr
  ltP : w.heap.size < P
  ltB : P < B
theorem ZSt.read {P B : Nat} {r r' : List UInt8} {fo sl : Int} {ea : Bool} {w wr w' : World} (h : ZSt P B r fo ea sl w wr) (hr : RdAt P r' w') (ho : Only P wr w') : ZSt P B r' fo ea sl w w' := by
  have h1 := h.ltP
  have h2 := h.ltB
  exact ⟨hr, (ho.block _ (blockLt h.res) (by simp; omega)).trans h.res, (ho.block _ (blockLt h.ex) (by simp; omega)).trans h.ex, below_of_only h.bel (by omega) ho, h1, h2⟩
theorem ZSt.put {P B : Nat} (j : Nat) {r : List UInt8} {fo sl fo' sl' : Int} {ea ea' : Bool} {v : Value} {w wr : World} (h : ZSt P B r fo ea sl w wr) (hc : #[.slice none 0 0, .int .i64 fo, .bool ea, .int .i64 sl].setIfInBounds j v = #[.slice none 0 0, .int .i64 fo', .bool ea', .int .i64 sl']) : ZSt P B r fo' ea' sl' w (wr.setCell ⟨B, j, none⟩ v) := by
  have h1 := h.ltP
  have h2 := h.ltB
  refine ⟨rd_far (by omega) h.rd, (Below.heap_setCell wr ⟨B, j, none⟩ v _ (fun e => by simp at e; omega)).trans h.res, ?_, h.bel.setCell (p := ⟨B, j, none⟩) (by simp; omega) v, h1, h2⟩
  rw [← hc]; exact heap_set h.ex v
theorem ZSt.c (i : Nat) {P B : Nat} {r : List UInt8} {fo sl : Int} {ea : Bool} {w wr : World} (h : ZSt P B r fo ea sl w wr) : wr.cell? ⟨B, i, none⟩ = #[.slice none 0 0, .int .i64 fo, .bool ea, .int .i64 sl][i]? := cell_of_row wr B i _ _ (0, 0) h.ex
theorem ZSt.f (i : Nat) {P B : Nat} {r : List UInt8} {fo sl : Int} {ea : Bool} {w wr : World} (h : ZSt P B r fo ea sl w wr) : wr.frozen? ⟨B, i, none⟩ = false := frozen_of_row wr B i _ _ h.ex
set_option maxRecDepth 100000 in
set_option maxHeartbeats 1000000 in
theorem readHead_any (line : List UInt8) (w : World) (E : EnvR w) (hs : line.length ≤ 1000) :
    Calls Tryz.prog 41 #[.string (bs line)] w fun v w' => ∃ fo ea sl, v = .returned (.agg #[.slice none 0 0, .int .i64 fo, .bool ea, .int .i64 sl]) ∧ ReadsH line fo ea sl ∧ Below w.heap.size w w' := by
  have HE := Lib.hid E
  clear E
  obtain ⟨P, hP⟩ : ∃ P, P = w.heap.size + 1 := ⟨_, rfl⟩
  obtain ⟨B, hB⟩ : ∃ B, B = P + 1 := ⟨_, rfl⟩
  obtain ⟨w1, hw1⟩ : ∃ w1, w1 = ((w.alloc (.cells #[.slice none 0 0, .int .i64 0, .bool false, .int .i64 0] 24)).alloc (.cells #[.string (bs line)] 89)).alloc (.cells #[.slice none 0 0, .int .i64 0, .bool false, .int .i64 0] 24) := ⟨_, rfl⟩
  have Z1 : Hid (ZSt P B line 0 false 0 w w1) := by
    rw [hw1]
    refine ⟨?_, ?_, ?_, below_trans (below_trans (below_box _) (below_box _)) (below_box _), by omega, by omega⟩
    · show _ = _
      rw [hP, Lib.alloc_old _ _ _ (by simp)]
      have := heap_alloc_new (w.alloc (.cells #[.slice none 0 0, .int .i64 0, .bool false, .int .i64 0] 24)) (.cells #[.string (bs line)] 89)
      simpa using this
    · rw [Lib.alloc_old _ _ _ (by simp; omega), Lib.alloc_old _ _ _ (by simp)]
      exact heap_alloc_new _ _
    · rw [hB, hP]
      have := heap_alloc_new ((w.alloc (.cells #[.slice none 0 0, .int .i64 0, .bool false, .int .i64 0] 24)).alloc (.cells #[.string (bs line)] 89)) (.cells #[.slice none 0 0, .int .i64 0, .bool false, .int .i64 0] 24)
      simpa using this
  have WD := Lib.hid (rword_any P line w1 Z1.out.rd (HE.out.lower Z1.out.bel).toEnvJ.toEnvT.toEnvS.toEnv0 (by omega))
  have HW1 := Lib.hid hw1
  have HP := Lib.hid hP
  have HB := Lib.hid hB
  have hwl := wordR_len line
  clear hw1 hP hB
  go_enter Tryz.func41, Tryz.ntmps41
  go_wp2_with (go_at_call 55; refine Hid.out ?_)
  rw [← HW1.out, ← HP.out, ← HB.out]
  clear HW1 HP HB
  refine Lib.hid ?_
  refine WD.out.mono ?_
  rintro _ w2 ⟨rfl, r2, o2⟩
  have Z2 := Lib.hid (Z1.out.read r2 o2)
  clear WD Z1 r2 o2
  have FO := (HE.out.lower Z2.out.bel).toEnvJ.fo
  have g0 := FO 0 (by omega)
  have g1 := FO 1 (by omega)
  have g2 := FO 2 (by omega)
  have g3 := FO 3 (by omega)
  have g4 := FO 4 (by omega)
  clear FO
  obtain ⟨x, hx⟩ : ∃ x, x = wordR line := ⟨_, rfl⟩
  rw [← hx] at Z2 ⊢
  have HX := Lib.hid hx
  clear hx
  obtain ⟨s1, hs1⟩ : ∃ s1, s1 = line.drop x.length := ⟨_, rfl⟩
  rw [← hs1] at Z2
  have HS1 := Lib.hid hs1
  have hl1 : s1.length ≤ line.length := by rw [hs1]; simp
  clear hs1
  go_wp2_with fail
  go_loopw [6, 7, 12] (fun _ _ kv wr => ∃ k : Nat, k ≤ 5 ∧ kv = .int .i64 k ∧ Hid (ZSt P B s1 (foldR x k) false 0 w wr)) (fun _ _ kv _ => 5 - (intOf kv).toNat)
  case atStart => exact ⟨0, by omega, by go_num, Z2⟩
  case round =>
    obtain ⟨k, hk, rfl, Z⟩ := hrel
    clear Z2 g0 g1 g2 g3 g4
    have c1 : wr.cell? ⟨B, 1, none⟩ = some (.int .i64 (foldR x k)) := Z.out.c 1
    have f1 := Z.out.f 1
    by_cases h5 : k < 5
    · have hkk : k = 0 ∨ k = 1 ∨ k = 2 ∨ k = 3 ∨ k = 4 := by omega
      rcases hkk with rfl | rfl | rfl | rfl | rfl
      · have hix : ∀ w : World, (Instr.index 75 (.agg #[.string (bs (foldL 0)), .string (bs (foldL 1)), .string (bs (foldL 2)), .string (bs (foldL 3)), .string (bs (foldL 4))]) (.int .i64 ((0 : Nat) : Int))).run Tryz.prog w = .ok (.string (bs (foldL 0))) w := fun _ => by kernel_rfl
        by_cases he : foldL 0 = x
        · have hE : ((bs (foldL 0)).toList == (bs x).toList) = true := by rw [bs_toList, bs_toList, he]; simp
          have hZ : Hid (ZSt P B s1 (foldR x (0 + 1)) false 0 w (wr.setCell ⟨B, 1, none⟩ (.int .i64 0))) := by
            have : foldR x (0 + 1) = ((0 : Nat) : Int) := by simp only [foldR]; rw [if_pos he]
            rw [this]
            exact Z.out.put 1 rfl
          clear he Z
          have HIX := Lib.hid hix
          clear hix
          go_wp2_with (refine wpList_indexR rfl 75 (.tmp 11) (.tmp 12) rfl _ _ _ rfl rfl HIX.out ?_)
          go_roundw
          case rel => exact ⟨0 + 1, by omega, by go_num, hZ⟩
          case measure => simp [intOf]
        · have hE : ((bs (foldL 0)).toList == (bs x).toList) = false := by rw [bs_toList, bs_toList]; simpa using he
          have hZ : Hid (ZSt P B s1 (foldR x (0 + 1)) false 0 w wr) := by
            have : foldR x (0 + 1) = foldR x 0 := by simp only [foldR]; rw [if_neg he]
            rw [this]
            exact Z.out
          clear he Z
          have HIX := Lib.hid hix
          clear hix
          go_wp2_with (refine wpList_indexR rfl 75 (.tmp 11) (.tmp 12) rfl _ _ _ rfl rfl HIX.out ?_)
          go_roundw
          case rel => exact ⟨0 + 1, by omega, by go_num, hZ⟩
          case measure => simp [intOf]
      · have hix : ∀ w : World, (Instr.index 75 (.agg #[.string (bs (foldL 0)), .string (bs (foldL 1)), .string (bs (foldL 2)), .string (bs (foldL 3)), .string (bs (foldL 4))]) (.int .i64 ((1 : Nat) : Int))).run Tryz.prog w = .ok (.string (bs (foldL 1))) w := fun _ => by kernel_rfl
        by_cases he : foldL 1 = x
        · have hE : ((bs (foldL 1)).toList == (bs x).toList) = true := by rw [bs_toList, bs_toList, he]; simp
          have hZ : Hid (ZSt P B s1 (foldR x (1 + 1)) false 0 w (wr.setCell ⟨B, 1, none⟩ (.int .i64 1))) := by
            have : foldR x (1 + 1) = ((1 : Nat) : Int) := by simp only [foldR]; rw [if_pos he]
            rw [this]
            exact Z.out.put 1 rfl
          clear he Z
          have HIX := Lib.hid hix
          clear hix
          go_wp2_with (refine wpList_indexR rfl 75 (.tmp 11) (.tmp 12) rfl _ _ _ rfl rfl HIX.out ?_)
          go_roundw
          case rel => exact ⟨1 + 1, by omega, by go_num, hZ⟩
          case measure => simp [intOf]
        · have hE : ((bs (foldL 1)).toList == (bs x).toList) = false := by rw [bs_toList, bs_toList]; simpa using he
          have hZ : Hid (ZSt P B s1 (foldR x (1 + 1)) false 0 w wr) := by
            have : foldR x (1 + 1) = foldR x 1 := by simp only [foldR]; rw [if_neg he]
            rw [this]
            exact Z.out
          clear he Z
          have HIX := Lib.hid hix
          clear hix
          go_wp2_with (refine wpList_indexR rfl 75 (.tmp 11) (.tmp 12) rfl _ _ _ rfl rfl HIX.out ?_)
          go_roundw
          case rel => exact ⟨1 + 1, by omega, by go_num, hZ⟩
          case measure => simp [intOf]
      · have hix : ∀ w : World, (Instr.index 75 (.agg #[.string (bs (foldL 0)), .string (bs (foldL 1)), .string (bs (foldL 2)), .string (bs (foldL 3)), .string (bs (foldL 4))]) (.int .i64 ((2 : Nat) : Int))).run Tryz.prog w = .ok (.string (bs (foldL 2))) w := fun _ => by kernel_rfl
        by_cases he : foldL 2 = x
        · have hE : ((bs (foldL 2)).toList == (bs x).toList) = true := by rw [bs_toList, bs_toList, he]; simp
          have hZ : Hid (ZSt P B s1 (foldR x (2 + 1)) false 0 w (wr.setCell ⟨B, 1, none⟩ (.int .i64 2))) := by
            have : foldR x (2 + 1) = ((2 : Nat) : Int) := by simp only [foldR]; rw [if_pos he]
            rw [this]
            exact Z.out.put 1 rfl
          clear he Z
          have HIX := Lib.hid hix
          clear hix
          go_wp2_with (refine wpList_indexR rfl 75 (.tmp 11) (.tmp 12) rfl _ _ _ rfl rfl HIX.out ?_)
          go_roundw
          case rel => exact ⟨2 + 1, by omega, by go_num, hZ⟩
          case measure => simp [intOf]
        · have hE : ((bs (foldL 2)).toList == (bs x).toList) = false := by rw [bs_toList, bs_toList]; simpa using he
          have hZ : Hid (ZSt P B s1 (foldR x (2 + 1)) false 0 w wr) := by
            have : foldR x (2 + 1) = foldR x 2 := by simp only [foldR]; rw [if_neg he]
            rw [this]
            exact Z.out
          clear he Z
          have HIX := Lib.hid hix
          clear hix
          go_wp2_with (refine wpList_indexR rfl 75 (.tmp 11) (.tmp 12) rfl _ _ _ rfl rfl HIX.out ?_)
          go_roundw
          case rel => exact ⟨2 + 1, by omega, by go_num, hZ⟩
          case measure => simp [intOf]
      · have hix : ∀ w : World, (Instr.index 75 (.agg #[.string (bs (foldL 0)), .string (bs (foldL 1)), .string (bs (foldL 2)), .string (bs (foldL 3)), .string (bs (foldL 4))]) (.int .i64 ((3 : Nat) : Int))).run Tryz.prog w = .ok (.string (bs (foldL 3))) w := fun _ => by kernel_rfl
        by_cases he : foldL 3 = x
        · have hE : ((bs (foldL 3)).toList == (bs x).toList) = true := by rw [bs_toList, bs_toList, he]; simp
          have hZ : Hid (ZSt P B s1 (foldR x (3 + 1)) false 0 w (wr.setCell ⟨B, 1, none⟩ (.int .i64 3))) := by
            have : foldR x (3 + 1) = ((3 : Nat) : Int) := by simp only [foldR]; rw [if_pos he]
            rw [this]
            exact Z.out.put 1 rfl
          clear he Z
          have HIX := Lib.hid hix
          clear hix
          go_wp2_with (refine wpList_indexR rfl 75 (.tmp 11) (.tmp 12) rfl _ _ _ rfl rfl HIX.out ?_)
          go_roundw
          case rel => exact ⟨3 + 1, by omega, by go_num, hZ⟩
          case measure => simp [intOf]
        · have hE : ((bs (foldL 3)).toList == (bs x).toList) = false := by rw [bs_toList, bs_toList]; simpa using he
          have hZ : Hid (ZSt P B s1 (foldR x (3 + 1)) false 0 w wr) := by
            have : foldR x (3 + 1) = foldR x 3 := by simp only [foldR]; rw [if_neg he]
            rw [this]
            exact Z.out
          clear he Z
          have HIX := Lib.hid hix
          clear hix
          go_wp2_with (refine wpList_indexR rfl 75 (.tmp 11) (.tmp 12) rfl _ _ _ rfl rfl HIX.out ?_)
          go_roundw
          case rel => exact ⟨3 + 1, by omega, by go_num, hZ⟩
          case measure => simp [intOf]
      · have hix : ∀ w : World, (Instr.index 75 (.agg #[.string (bs (foldL 0)), .string (bs (foldL 1)), .string (bs (foldL 2)), .string (bs (foldL 3)), .string (bs (foldL 4))]) (.int .i64 ((4 : Nat) : Int))).run Tryz.prog w = .ok (.string (bs (foldL 4))) w := fun _ => by kernel_rfl
        by_cases he : foldL 4 = x
        · have hE : ((bs (foldL 4)).toList == (bs x).toList) = true := by rw [bs_toList, bs_toList, he]; simp
          have hZ : Hid (ZSt P B s1 (foldR x (4 + 1)) false 0 w (wr.setCell ⟨B, 1, none⟩ (.int .i64 4))) := by
            have : foldR x (4 + 1) = ((4 : Nat) : Int) := by simp only [foldR]; rw [if_pos he]
            rw [this]
            exact Z.out.put 1 rfl
          clear he Z
          have HIX := Lib.hid hix
          clear hix
          go_wp2_with (refine wpList_indexR rfl 75 (.tmp 11) (.tmp 12) rfl _ _ _ rfl rfl HIX.out ?_)
          go_roundw
          case rel => exact ⟨4 + 1, by omega, by go_num, hZ⟩
          case measure => simp [intOf]
        · have hE : ((bs (foldL 4)).toList == (bs x).toList) = false := by rw [bs_toList, bs_toList]; simpa using he
          have hZ : Hid (ZSt P B s1 (foldR x (4 + 1)) false 0 w wr) := by
            have : foldR x (4 + 1) = foldR x 4 := by simp only [foldR]; rw [if_neg he]
            rw [this]
            exact Z.out
          clear he Z
          have HIX := Lib.hid hix
          clear hix
          go_wp2_with (refine wpList_indexR rfl 75 (.tmp 11) (.tmp 12) rfl _ _ _ rfl rfl HIX.out ?_)
          go_roundw
          case rel => exact ⟨4 + 1, by omega, by go_num, hZ⟩
          case measure => simp [intOf]
    · obtain rfl : k = 5 := by omega
      clear c1 f1
      have SK := Lib.hid (skip_any P s1 1 wr Z.out.rd (by omega) (by omega))
      go_wp2_with (go_at_call 56; refine Hid.out ?_)
      refine Lib.hid ?_
      refine SK.out.mono ?_
      rintro _ w3 ⟨rfl, r3, o3⟩
      have Z3 := Lib.hid (Z.out.read r3 o3)
      have hl3 : (s1.drop 1).length ≤ s1.length := by simp
      have NB := Lib.hid (number_any P (s1.drop 1) w3 r3 (HE.out.lower Z3.out.bel) w Z3.out.bel (Nat.le_of_lt Z3.out.ltP) HE.out (by omega))
      clear SK Z r3 o3
      go_wp2_with (go_at_call 57; refine Hid.out ?_)
      refine Lib.hid ?_
      refine NB.out.mono ?_
      rintro _ w4 ⟨sl, rfl, hsl, hn, r4, o4⟩
      have Z4 := Lib.hid (Z3.out.read r4 o4)
      have HN := Lib.hid hn
      obtain ⟨s2, hs2⟩ : ∃ s2, s2 = (s1.drop 1).drop (wordR (s1.drop 1)).length := ⟨_, rfl⟩
      rw [← hs2] at Z4
      have HS2 := Lib.hid hs2
      clear NB Z3 r4 o4 hn hs2
      have c3 : w4.cell? ⟨B, 3, none⟩ = some (.int .i64 0) := Z4.out.c 3
      have f3 := Z4.out.f 3
      obtain ⟨w5, hw5⟩ : ∃ y, y = w4.setCell ⟨B, 3, none⟩ (.int .i64 sl) := ⟨_, rfl⟩
      have Z5 : Hid (ZSt P B s2 (foldR x 5) false sl w w5) := by
        rw [hw5]
        exact Z4.out.put 3 rfl
      have HW5 := Lib.hid hw5
      have TK : Hid (Calls Tryz.prog 58 #[.pointer (some ⟨P, 0, none⟩), .string ⟨#[32, 101, 97, 114, 108, 121]⟩] w5 fun e w' => e = .returned (.bool (earlyT.isPrefixOf s2)) ∧ RdAt P (takeR earlyT s2) w' ∧ Only P w5 w') := take_any P s2 earlyT w5 Z5.out.rd
      clear Z4 hw5
      go_wp2_with (go_at_call 58; refine Hid.out ?_)
      rw [← HW5.out]
      clear c3 f3 HW5
      refine Lib.hid ?_
      refine TK.out.mono ?_
      rintro _ w6 ⟨rfl, r6, o6⟩
      have Z6 := Lib.hid (Z5.out.read r6 o6)
      clear TK Z5 r6 o6
      obtain ⟨ea, hea⟩ : ∃ ea, ea = earlyT.isPrefixOf s2 := ⟨_, rfl⟩
      rw [← hea]
      have HFIN : Hid (ReadsH line (foldR x 5) ea sl) := by
        show ReadsH _ _ _ _
        have h1 := head_reads (line := line) hsl (by rw [← HX.out, ← HS1.out]; exact HN.out)
        rw [← HX.out, ← HS1.out, ← HS2.out, ← hea] at h1
        exact h1
      clear hea HN
      generalize takeR earlyT s2 = s3 at Z6
      generalize foldR x 5 = fo at *
      have q0 : w6.cell? ⟨B, 0, none⟩ = some (.slice none 0 0) := Z6.out.c 0
      have q1 : w6.cell? ⟨B, 1, none⟩ = some (.int .i64 fo) := Z6.out.c 1
      have q2 : w6.cell? ⟨B, 2, none⟩ = some (.bool false) := Z6.out.c 2
      have q3 : w6.cell? ⟨B, 3, none⟩ = some (.int .i64 sl) := Z6.out.c 3
      have f2 := Z6.out.f 2
      have p0 : w6.cell? ⟨w.heap.size, 0, none⟩ = some (.slice none 0 0) := by rw [cell_of_row _ _ _ _ _ _ Z6.out.res]; rfl
      have p1 : w6.cell? ⟨w.heap.size, 1, none⟩ = some (.int .i64 0) := by rw [cell_of_row _ _ _ _ _ _ Z6.out.res]; rfl
      have p2 : w6.cell? ⟨w.heap.size, 2, none⟩ = some (.bool false) := by rw [cell_of_row _ _ _ _ _ _ Z6.out.res]; rfl
      have p3 : w6.cell? ⟨w.heap.size, 3, none⟩ = some (.int .i64 0) := by rw [cell_of_row _ _ _ _ _ _ Z6.out.res]; rfl
      have e0 := frozen_of_row w6 w.heap.size 0 _ _ Z6.out.res
      have e1 := frozen_of_row w6 w.heap.size 1 _ _ Z6.out.res
      have e2 := frozen_of_row w6 w.heap.size 2 _ _ Z6.out.res
      have e3 := frozen_of_row w6 w.heap.size 3 _ _ Z6.out.res
      have hBne : ¬ B = w.heap.size := by have := Z6.out.ltP; have := Z6.out.ltB; omega
      have hBne2 : ¬ w.heap.size = B := fun e => hBne e.symm
      have Z7 : Hid (ZSt P B s3 fo ea sl w (w6.setCell ⟨B, 2, none⟩ (.bool ea))) := Z6.out.put 2 rfl
      clear Z6
      go_wp2
      (try simp only [Exit.inBlock, Exit.then])
      have g1 := heap_set (j := 0) Z7.out.res (.slice none 0 0)
      have g2 := heap_set (j := 1) g1 (.int .i64 fo)
      have g3 := heap_set (j := 2) g2 (.bool ea)
      have g4 := heap_set (j := 3) g3 (.int .i64 sl)
      refine bodyPost_ret (results_cell_row rfl _ _ w.heap.size 24 #[.slice none 0 0, .int .i64 fo, .bool ea, .int .i64 sl] (0, 0) _ rfl g4 Tryz.underlying24 rfl (by kernel_rfl)) rfl ?_
      exact ⟨fo, ea, sl, rfl, HFIN.out, (((Z7.out.bel.setCell (p := ⟨w.heap.size, 0, none⟩) (Nat.le_refl _) _).setCell (p := ⟨w.heap.size, 1, none⟩) (Nat.le_refl _) _).setCell (p := ⟨w.heap.size, 2, none⟩) (Nat.le_refl _) _).setCell (p := ⟨w.heap.size, 3, none⟩) (Nat.le_refl _) _⟩
end Go.Proofs.YtfjpgjkfmcedoaaGreatDoor
