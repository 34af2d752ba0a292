/- Contracts of the document's answer: Words, Str, Int over expressions that may be. -/
import Derived.Test.YtahklpihbkdclaaDoorExR
namespace Go.Proofs.YtahklpihbkdclaaDoor
open Go.ChangeShapes Go.WideShapes Go.ChangeAt Go.RowKit
/-- Words so far, and the word that is begun. -/
def wst (acc : List (List UInt8)) (cur : List UInt8) : List UInt8 → List (List UInt8) × List UInt8
  | [] => (acc, cur)
  | b :: r => if b = 32 then wst (if cur = [] then acc else acc ++ [cur]) [] r else wst acc (cur ++ [b]) r
theorem wst_go (l : List UInt8) : ∀ acc cur, (wst acc cur l).1 ++ (if (wst acc cur l).2 = [] then [] else [(wst acc cur l).2]) = acc ++ wgo cur l := by
  induction l with
  | nil => intro acc cur; rfl
  | cons b r ih =>
    intro acc cur
    unfold wst wgo
    by_cases hb : b = 32
    · rw [if_pos hb, if_pos hb, ih]
      by_cases hc : cur = []
      · rw [if_pos hc, if_pos hc]
      · rw [if_neg hc, if_neg hc]; simp
    · rw [if_neg hb, if_neg hb, ih]
theorem wst_snoc (l : List UInt8) (b : UInt8) : ∀ acc cur, wst acc cur (l ++ [b]) = if b = 32 then ((if (wst acc cur l).2 = [] then (wst acc cur l).1 else (wst acc cur l).1 ++ [(wst acc cur l).2]), []) else ((wst acc cur l).1, (wst acc cur l).2 ++ [b]) := by
  induction l with
  | nil => intro acc cur; by_cases hb : b = 32 <;> by_cases hc : cur = [] <;> simp [wst, hb, hc]
  | cons x r ih =>
    intro acc cur
    simp only [List.cons_append, wst]
    split <;> exact ih _ _
theorem wst_len (l : List UInt8) : ∀ acc cur, (wst acc cur l).1.length ≤ acc.length + l.length ∧ (wst acc cur l).2.length ≤ cur.length + l.length := by
  induction l with
  | nil => intro acc cur; simp [wst]
  | cons b r ih =>
    intro acc cur
    unfold wst
    split
    · have h := ih (if cur = [] then acc else acc ++ [cur]) []
      have h2 : (if cur = [] then acc else acc ++ [cur]).length ≤ acc.length + 1 := by split <;> simp
      simp only [List.length_cons, List.length_nil] at h ⊢
      omega
    · have h := ih acc (cur ++ [b])
      simp only [List.length_cons, List.length_nil, List.length_append] at h ⊢
      omega
theorem bs_one (l : List UInt8) (k : Nat) (x : UInt8) (hx : l[k]? = some x) : (bs l).extract k (k + 1) = bs [x] := by
  obtain ⟨hk, rfl⟩ := List.getElem?_eq_some_iff.1 hx
  apply ByteArray.ext
  apply Array.ext'
  rw [ByteArray.data_extract]
  simp only [bs, Array.toList_extract, List.extract_eq_take_drop]
  simp [List.take_one, List.head?_drop, hk]
/-- Words so far at a place. -/
def wat (s : List UInt8) (i : Nat) : List (List UInt8) × List UInt8 := if i ≤ s.length then wst [] [] (s.take i) else (wordsL s, [])
theorem wat_zero (s : List UInt8) : wat s 0 = ([], []) := by simp [wat, wst]
theorem wat_some {s : List UInt8} {i : Nat} {x : UInt8} (hx : s[i]? = some x) : wat s (i + 1) = if x = 32 then ((if (wat s i).2 = [] then (wat s i).1 else (wat s i).1 ++ [(wat s i).2]), []) else ((wat s i).1, (wat s i).2 ++ [x]) := by
  have hi : i < s.length := (List.getElem?_eq_some_iff.1 hx).1
  have e1 : wat s i = wst [] [] (s.take i) := if_pos (by omega)
  have e2 : wat s (i + 1) = wst [] [] (s.take (i + 1)) := if_pos (by omega)
  rw [e1, e2, take_snoc hx, wst_snoc]
theorem wat_end {s : List UInt8} {i : Nat} (hi : i = s.length) : wat s (i + 1) = ((if (wat s i).2 = [] then (wat s i).1 else (wat s i).1 ++ [(wat s i).2]), []) := by
  have h := wst_go s [] []
  have e1 : wat s i = wst [] [] s := by
    have e0 : wat s i = wst [] [] (s.take i) := if_pos (by omega)
    rw [e0, List.take_of_length_le (by omega)]
  have e2 : wat s (i + 1) = (wordsL s, []) := if_neg (by omega)
  rw [e1, e2]
  have h2 : wordsL s = (wst [] [] s).1 ++ (if (wst [] [] s).2 = [] then [] else [(wst [] [] s).2]) := by rw [h]; rfl
  rw [h2]
  by_cases hc : (wst [] [] s).2 = [] <;> simp [hc]
theorem wat_all (s : List UInt8) (i : Nat) (h : s.length < i) : wat s i = (wordsL s, []) := by unfold wat; rw [if_neg (by omega)]
theorem wat_len (s : List UInt8) (i : Nat) : (wat s i).1.length ≤ s.length ∧ (wat s i).2.length ≤ s.length := by
  unfold wat
  split
  · have h := wst_len (s.take i) [] []
    rw [List.length_take] at h
    simp only [List.length_nil] at h
    omega
  · exact ⟨words_len s, by simp⟩
set_option maxRecDepth 100000 in
set_option maxHeartbeats 2000000 in
theorem rwords_any (s : List UInt8) (w : World) (hs : s.length ≤ 1000000) :
    Calls Tryd.prog 31 #[.string (bs s)] w fun e w' => ∃ a cap, e = .returned (.slice a (wordsL s).length cap) ∧ Hid (IsTexts w' (.slice a (wordsL s).length cap) ((wordsL s).map bs)) ∧ Below w.heap.size w w' := by
  obtain ⟨i0, hi, hz0, hz1, hz2⟩ := info_parts infoStr
  have hsz : (bs s).size ≤ 1000000 := by rw [bs_size]; exact hs
  have HS := Lib.hid (bs_size s)
  go_enter Tryd.func31, Tryd.ntmps31
  go_wp2
  go_loopw [3, 4, 5] (fun lv cv iv wr => ∃ (i : Nat) (acc : List (List UInt8)) (cur : List UInt8), i ≤ (bs s).size + 1 ∧ iv = .int .i64 i ∧ cv = .string (bs cur) ∧ Hid (wat s i = (acc, cur)) ∧ acc.length ≤ 1000000 ∧ (bs cur).size ≤ 1000000 ∧ wr.ownsRow w.heap.size 9 1 lv acc.length (strs acc) ∧ Below w.heap.size w wr) (fun _ _ iv _ => (bs s).size + 1 - (intOf iv).toNat)
  case atStart => exact ⟨0, [], [], Nat.zero_le _, rfl, rfl, wat_zero s, by simp, by decide, World.ownsRow_nil _ _ _ _, Below.refl _ _⟩
  case round =>
    obtain ⟨i, acc, cur, hil, rfl, rfl, HWA, hal, hcl, hown, hb⟩ := hrel
    by_cases hend : (bs s).size < i
    · have hfin : Hid (acc = wordsL s) := by
        show _ = _
        have h1 := HWA.out
        rw [wat_all s i (by have := HS.out; omega)] at h1
        injection h1 with h1 h2
        exact h1.symm
      have h1 := isTexts_of hown
      rw [hfin.out] at h1
      have hfv := Lib.hid h1
      clear h1 hown
      obtain ⟨a, cap, hv, _⟩ := id hfv.out
      rw [List.length_map] at hv
      subst hv
      go_wp2
      go_ret
      exact ⟨a, cap, rfl, hfv, hb⟩
    by_cases hlt : i < (bs s).size
    · obtain ⟨x, hx⟩ : ∃ x, s[i]? = some x := ⟨s[i]'(by have := HS.out; omega), by simp⟩
      have hby := byte_is hlt 32 32 rfl
      by_cases hc : x = 32
      · have hb2 : decide (s[i]? = some (32 : UInt8)) = true := by rw [hx, hc]; simp
        rw [hb2] at hby
        have HNX := Lib.hid (wat_some hx)
        have HNL := Lib.hid (wat_len s (i + 1))
        have HPU : Hid (wat s (i + 1) = ((if cur = [] then acc else acc ++ [cur]), [])) := by
          show _ = _
          rw [HNX.out, if_pos hc, HWA.out]
        clear hb2 hx HNX
        cases hcur : cur with
        | nil =>
          subst hcur
          have hT : (bs []).toList.isEmpty = true := by rw [bs_toList]; rfl
          have HP2 : Hid (wat s (i + 1) = (acc, [])) := by
            have h1 := HPU.out
            rw [if_pos rfl] at h1
            exact h1
          clear HPU
          go_wp2
          go_roundw
          case rel => exact ⟨i + 1, acc, [], by omega, by go_num, rfl, HP2, hal, by decide, hown, hb⟩
          case measure => simp [intOf]; omega
        | cons c0 c1 =>
          rw [← hcur]
          have hT : (bs cur).toList.isEmpty = false := by rw [bs_toList, hcur]; rfl
          have HP2 : Hid (wat s (i + 1) = (acc ++ [cur], [])) := by
            have h1 := HPU.out
            rw [if_neg (by rw [hcur]; simp)] at h1
            exact h1
          have hal2 : (acc ++ [cur]).length ≤ 1000000 := by
            have h1 := HNL.out.1
            rw [HP2.out] at h1
            exact Nat.le_trans h1 hs
          clear HPU hcur
          go_wp2_with (at_builtin; refine Hid.out ?_)
          refine Lib.hid ?_
          have hbs := hb.size
          refine wpList_append_own _ rfl (.tmp 31) (.tmp 33) 58 rfl w.heap.size 9 i0 (.string ⟨#[]⟩) 1 16 Tryd.underlying58 hi hz0 hz1 hz2 rfl (by decide) _ _ _ rfl (hown.alloc _) ⟨wr.heap.size, 0, none⟩ 1 1 (strs [cur]) rfl rfl ?c1 (strs_one _) ?c2 ?c3 ?c4 ?_
          case c1 => exact lit_cells rfl (show 1 ≤ maxLen by decide)
          case c2 => unfold maxLen; omega
          case c3 => omega
          case c4 => simp; omega
          intro v2 w2 hown2 hg2 _
          have hb2 : Below w.heap.size w w2 := (hb.alloc (by omega) _).grown hg2 (by simp; omega) (fun k hk => (hown.lt k hk).1)
          have hown3 : Hid (w2.ownsRow w.heap.size 9 1 v2 (acc ++ [cur]).length (strs (acc ++ [cur]))) := by
            show World.ownsRow _ _ _ _ _ _ _
            rw [strs_append, List.length_append]
            exact hown2
          clear hown hown2 hg2 hb
          go_wp2
          go_roundw
          case rel => exact ⟨i + 1, acc ++ [cur], [], by omega, by go_num, rfl, HP2, hal2, by decide, hown3.out, hb2⟩
          case measure => simp [intOf]; omega
      · have hb2 : decide (s[i]? = some (32 : UInt8)) = false := by rw [hx]; simp [hc]
        rw [hb2] at hby
        have HNX := Lib.hid (wat_some hx)
        have HNL := Lib.hid (wat_len s (i + 1))
        have HPU : Hid (wat s (i + 1) = (acc, cur ++ [x])) := by
          show _ = _
          rw [HNX.out, if_neg hc, HWA.out]
        have hcl2 : (bs (cur ++ [x])).size ≤ 1000000 := by
          have h1 := HNL.out.2
          rw [HPU.out] at h1
          rw [bs_size]
          exact Nat.le_trans h1 hs
        obtain ⟨j, hj⟩ : ∃ j, j = i + 1 := ⟨_, rfl⟩
        have hj1 : (i : Int) + 1 = (j : Int) := by omega
        have hj2 : i ≤ j := by omega
        have hj3 : j ≤ (bs s).size := by omega
        have hj4 : i < j := by omega
        have HEX := Lib.hid (bs_one s i x hx)
        rw [← hj] at HEX HPU
        have HAP : Hid (bs cur ++ bs [x] = bs (cur ++ [x])) := bs_append _ _
        have h1s : ((bs s).extract i j).size = 1 := by rw [HEX.out]; rfl
        clear hb2 hx HNX hj HNL
        have n1 : ¬ 9223372036854775807 < (bs cur).size + 1 := by omega
        go_wp2
        go_roundw
        case rel => exact ⟨j, acc, cur ++ [x], by omega, rfl, by rw [← HAP.out, ← HEX.out], HPU, hal, hcl2, hown, hb⟩
        case measure => simp [intOf]; omega
    · have HNL := Lib.hid (wat_len s (i + 1))
      have HPU : Hid (wat s (i + 1) = ((if cur = [] then acc else acc ++ [cur]), [])) := by
        show _ = _
        rw [wat_end (by have := HS.out; omega), HWA.out]
      cases hcur : cur with
      | nil =>
        subst hcur
        have hT : (bs []).toList.isEmpty = true := by rw [bs_toList]; rfl
        have HP2 : Hid (wat s (i + 1) = (acc, [])) := by
          have h1 := HPU.out
          rw [if_pos rfl] at h1
          exact h1
        clear HPU
        go_wp2
        go_roundw
        case rel => exact ⟨i + 1, acc, [], by omega, by go_num, rfl, HP2, hal, by decide, hown, hb⟩
        case measure => simp [intOf]; omega
      | cons c0 c1 =>
        rw [← hcur]
        have hT : (bs cur).toList.isEmpty = false := by rw [bs_toList, hcur]; rfl
        have HP2 : Hid (wat s (i + 1) = (acc ++ [cur], [])) := by
          have h1 := HPU.out
          rw [if_neg (by rw [hcur]; simp)] at h1
          exact h1
        have hal2 : (acc ++ [cur]).length ≤ 1000000 := by
          have h1 := HNL.out.1
          rw [HP2.out] at h1
          exact Nat.le_trans h1 hs
        clear HPU hcur
        go_wp2_with (at_builtin; refine Hid.out ?_)
        refine Lib.hid ?_
        have hbs := hb.size
        refine wpList_append_own _ rfl (.tmp 31) (.tmp 33) 58 rfl w.heap.size 9 i0 (.string ⟨#[]⟩) 1 16 Tryd.underlying58 hi hz0 hz1 hz2 rfl (by decide) _ _ _ rfl (hown.alloc _) ⟨wr.heap.size, 0, none⟩ 1 1 (strs [cur]) rfl rfl ?c1 (strs_one _) ?c2 ?c3 ?c4 ?_
        case c1 => exact lit_cells rfl (show 1 ≤ maxLen by decide)
        case c2 => unfold maxLen; omega
        case c3 => omega
        case c4 => simp; omega
        intro v2 w2 hown2 hg2 _
        have hb2 : Below w.heap.size w w2 := (hb.alloc (by omega) _).grown hg2 (by simp; omega) (fun k hk => (hown.lt k hk).1)
        have hown3 : Hid (w2.ownsRow w.heap.size 9 1 v2 (acc ++ [cur]).length (strs (acc ++ [cur]))) := by
          show World.ownsRow _ _ _ _ _ _ _
          rw [strs_append, List.length_append]
          exact hown2
        clear hown hown2 hg2 hb
        go_wp2
        go_roundw
        case rel => exact ⟨i + 1, acc ++ [cur], [], by omega, by go_num, rfl, HP2, hal2, by decide, hown3.out, hb2⟩
        case measure => simp [intOf]; omega
end Go.Proofs.YtahklpihbkdclaaDoor
