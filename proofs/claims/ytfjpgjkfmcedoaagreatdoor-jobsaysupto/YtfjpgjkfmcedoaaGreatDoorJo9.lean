/- JobOf. Written by tpl/mk_jo9.py. -/
import Derived.Test.YtfjpgjkfmcedoaaGreatDoorJo8
import Derived.Test.YtfjpgjkfmcedoaaGreatDoorJf2
import Derived.Test.YtfjpgjkfmcedoaaGreatDoorRdP
namespace Go.Proofs.YtfjpgjkfmcedoaaGreatDoor
open Go.ChangeShapes Go.WideShapes Go.ChangeAt Go.RowKit
open Pp.Num (numB)
theorem joined_last {l : List (List UInt8)} (h : l ≠ []) : (joined l).getLast? = some 10 := by
  obtain ⟨l', x, rfl⟩ : ∃ l' x, l = l' ++ [x] := ⟨l.dropLast, l.getLast h, (List.dropLast_concat_getLast h).symm⟩
  rw [joined_snoc, ← List.append_assoc, List.getLast?_concat]
theorem jobL_last (j : Jb) : (jobL j).getLast? = some 10 := by
  rw [jobL_joined]
  exact joined_last (by simp)
/-- The job that these lines would be. -/
def JobOfSaid (s : List UInt8) (w : World) (v : Ending) (w' : World) : Prop :=
  ((∃ j' rv, v = .returned (.tuple #[Jb.value j' rv, .int .i64 0]) ∧ IsRules w' rv j'.rules ∧ (∀ w'' : World, (∀ k, w.heap.size < k → k < w'.heap.size → w''.heap[k]? = w'.heap[k]?) → IsRules w'' rv j'.rules) ∧ textJ j' = (s, 0) ∧ rulesWt j'.rules ≤ 13 * (s.length + 1) ∧ (∀ r ∈ j'.rules, r.fit) ∧ ∀ j, textJ j = (s, 0) → j' = j) ∨
   (v = .returned (.tuple #[zeroJ, .int .i64 (if 800 < s.length then 2 else 4)]) ∧ ∀ j, textJ j ≠ (s, 0))) ∧ Below w.heap.size w w'
theorem headIs_of {head : List UInt8} {n : Int} {a1 a2 : Nat} {ea : Bool} (h1 : a1 = (wordR head).length + 1) (h2 : a2 = a1 + (wordR (head.drop a1)).length + 1) (hn : numB (wordR (head.drop a1)) = some n) (he : ea = if a2 ≤ head.length then (head.drop a2 == [101, 97, 114, 108, 121]) else false) : HeadIs head (foldK (wordR head)) ea n := by
  intro j hf hj
  obtain ⟨f1, f2, f3, f4⟩ := fault_in hf
  obtain ⟨g1, g2⟩ := head_walk f1 f2 (by omega) (by omega) hj
  obtain ⟨g3, g4⟩ := g2 a1 h1
  obtain ⟨g5, g6⟩ := g4 a2 h2
  refine ⟨g1, ?_, ?_⟩
  · rw [he]
    split
    · rename_i h; exact g5 h
    · rename_i h; exact (g6 h).symm
  · rw [hn] at g3
    injection g3
theorem noHead {head s rest : List UInt8} {a1 : Nat} (h1 : a1 = (wordR head).length + 1) (hn : numB (wordR (head.drop a1)) = none) (hs : s = joined [head] ++ rest) (hp : ∀ b ∈ head, b ≠ 10) : ∀ j, jobFault j = 0 → jobL j ≠ s := by
  intro j hf hj
  obtain ⟨B', e, -⟩ := job_prefix hf hs (by intro x hx; rw [List.mem_singleton] at hx; rw [hx]; exact hp) hj
  injection e with e1 e2
  obtain ⟨f1, f2, f3, f4⟩ := fault_in hf
  obtain ⟨-, g2⟩ := head_walk f1 f2 (by omega) (by omega) e1.symm
  rw [(g2 a1 h1).1] at hn
  cases hn
theorem noJob {s : List UInt8} (h : ∀ j, jobFault j = 0 → jobL j ≠ s) : ∀ j, textJ j ≠ (s, 0) := fun j e => by
  obtain ⟨a, b, -⟩ := textJ_is e
  exact h j a b
set_option maxRecDepth 1000000 in
set_option maxHeartbeats 8000000 in
theorem rjobOf_any (s : List UInt8) (w : World) (hs : s.length ≤ 100000) :
    Calls Tryz.prog 12 #[.string (bs s)] w (JobOfSaid s w) := by
  have hsz := bs_size s
  by_cases h8 : 800 < s.length
  · have h8' : 800 < (bs s).size := by omega
    have HNO : Hid (∀ j, textJ j ≠ (s, 0)) := fun j e => by have := (textJ_is e).2.2; omega
    have H8 := Lib.hid h8
    clear hsz h8 hs
    go_enter Tryz.func12, Tryz.ntmps12
    go_wp2
    refine bodyPost_ret (v := .tuple #[zeroJ, .int .i64 2]) (by simp [results, Tryz.results12, go_sem, zeroJ]) rfl ⟨.inr ⟨by rw [if_pos H8.out], HNO.out⟩, ?_⟩
    first | exact below_box _ | exact (((((below_box _).setCell (p := ⟨w.heap.size, 0, none⟩) (Nat.le_refl _) _).setCell (p := ⟨w.heap.size, 1, none⟩) (Nat.le_refl _) _).setCell (p := ⟨w.heap.size, 2, none⟩) (Nat.le_refl _) _).setCell (p := ⟨w.heap.size, 3, none⟩) (Nat.le_refl _) _)
  have h8' : ¬ 800 < (bs s).size := by omega
  have h8n : s.length ≤ 800 := by omega
  have H8 := Lib.hid h8
  clear h8 hs
  by_cases h0 : s = []
  · subst h0
    have HNO : Hid (∀ j, jobFault j = 0 → jobL j ≠ []) := fun j _ e => by
      have := jobL_last j
      rw [e] at this
      cases this
    clear hsz h8' h8n
    have h1 : (bs []).toList.isEmpty = true := by rw [bs_toList]; rfl
    have hz0 : ¬ 800 < (bs []).size := by rw [bs_size]; simp
    go_enter Tryz.func12, Tryz.ntmps12
    go_wp2
    refine bodyPost_ret (v := .tuple #[zeroJ, .int .i64 4]) (by simp [results, Tryz.results12, go_sem, zeroJ]) rfl ⟨.inr ⟨by rw [if_neg H8.out], noJob HNO.out⟩, ?_⟩
    first | exact below_box _ | exact (((((below_box _).setCell (p := ⟨w.heap.size, 0, none⟩) (Nat.le_refl _) _).setCell (p := ⟨w.heap.size, 1, none⟩) (Nat.le_refl _) _).setCell (p := ⟨w.heap.size, 2, none⟩) (Nat.le_refl _) _).setCell (p := ⟨w.heap.size, 3, none⟩) (Nat.le_refl _) _)
  have h1 : (bs s).toList.isEmpty = false := by rw [bs_toList]; simpa using h0
  obtain ⟨t, c, htc⟩ : ∃ t c, s = t ++ [c] := ⟨s.dropLast, s.getLast h0, (List.dropLast_concat_getLast h0).symm⟩
  obtain ⟨m, hm⟩ : ∃ m, m = t.length := ⟨_, rfl⟩
  have hsm : (bs s).size = m + 1 := by rw [hsz, htc, hm]; simp
  obtain ⟨B, hB⟩ : ∃ B, B = bs s := ⟨_, rfl⟩
  rw [← hB] at h1 hsz h8' hsm ⊢
  have hix2 : ∀ h : m < B.size, B[m]'h = c := by
    subst hm hB htc
    intro h
    have e : ((t ++ [c]).toArray)[t.length]'(by simp) = c := by simp
    exact e
  have hix3 : ∀ h : B.size - 1 < B.size, B[B.size - 1]'h = c := by
    intro h
    have e : B.size - 1 = m := by omega
    simp only [e]
    exact hix2 _
  have hpos : 1 ≤ B.size := by omega
  have hm1 : wrap64 ((B.size : Int) - 1) = (m : Int) := by rw [hsm]; unfold wrap64; omega
  have hm2 : (m : Int) < (B.size : Int) := by omega
  have HB := Lib.hid hB
  have HTC := Lib.hid htc
  clear hsz hB htc hm h0 hsm
  by_cases hc : c = 10
  · have he : ((c.toNat : Int) == 10) = true := by rw [hc]; rfl
    have heb : ((c.toNat : Int) != 10) = false := by rw [hc]; rfl
    have hlast : s.getLast? = some 10 := by rw [HTC.out, hc]; simp
    obtain ⟨head, rest, hcut, hs2, hpl, hends⟩ := cut_line hlast
    have HS2 := Lib.hid hs2
    have HCUT := Lib.hid hcut
    have HPL := Lib.hid hpl
    have L0 : Hid (Ls s head rest [] []) := ⟨by rw [HS2.out]; simp [joined], by intro x hx; rw [List.mem_singleton] at hx; rw [hx]; exact hpl, hends, trivial⟩
    have hhl : head.length ≤ 800 := by
      have h := congrArg List.length hs2
      simp at h
      omega
    obtain ⟨w1, hw1⟩ : ∃ w1, w1 = w.alloc (.cells #[.slice none 0 0, .int .i64 0, .bool false, .int .i64 0] 24) := ⟨_, rfl⟩
    have hb1 : Below w.heap.size w w1 := by rw [hw1]; exact below_box _
    have hz1 : w1.heap[w.heap.size]? = some (.cells #[.slice none 0 0, .int .i64 0, .bool false, .int .i64 0] 24 (0, 0)) := by rw [hw1]; exact heap_alloc_new _ _
    have hs1 : w1.heap.size = w.heap.size + 1 := by rw [hw1]; simp
    obtain ⟨w2, hw2⟩ : ∃ w2, w2 = w1.alloc (.cells nmF.toArray 9) := ⟨_, rfl⟩
    have hb2 : Below w1.heap.size w1 w2 := by rw [hw2]; exact below_box _
    obtain ⟨NB, hNB⟩ : ∃ NB, NB = w.heap.size + 1 := ⟨_, rfl⟩
    have N2 : Blk w2 NB 9 nmF := by rw [hw2, hNB, ← hs1]; exact Blk.new _ _ _
    have hs2' : w2.heap.size = NB + 1 := by rw [hw2, hNB, ← hs1]; simp
    have hz2 := (hb2.block _ (blockLt hz1)).trans hz1
    have hb02 : Below w.heap.size w w2 := below_trans hb1 hb2
    rw [hw1] at hw2
    unfold nmF at hw2
    have HW2 := Lib.hid hw2
    have HNB := Lib.hid hNB
    have UP : Hid (Calls Tryz.prog 24 #[.string (bs s), .int .u8 10] w2 fun e w'' => e = .returned (.tuple #[.string (bs head), .string (bs rest), .bool true]) ∧ Below w2.heap.size w2 w'') := by
      have h := Pp.upTo_any (bs s) 10 w2 (by rw [bs_size]; unfold maxLen; omega)
      rw [bs_data, HCUT.out] at h
      refine h.mono ?_
      rintro e w'' ⟨rfl, n, rfl⟩
      exact ⟨rfl, below_drewN _ _⟩
    have hNl : w.heap.size < NB := by omega
    clear hNB hc hlast hcut hs2 hpl hends hw1 hw2 hs1 hb1 hb2 hz1 HCUT
    go_enter Tryz.func12, Tryz.ntmps12
    go_upto_region 6 with fail
    have hbb := HB.out
    subst hbb
    rw [← HW2.out, ← HNB.out]
    clear HB HW2 h1 hix2 hix3 hpos hm1 hm2 he heb h8'
    go_wp2_with (go_at_call 24; refine Hid.out ?_)
    refine Lib.hid ?_
    refine UP.out.mono ?_
    rintro _ w3 ⟨rfl, hb3⟩
    have hz3 := (hb3.block _ (blockLt hz2)).trans hz2
    have N3 := N2.blw hb3
    have hb03 := below_trans hb02 hb3
    have hs3 := hb3.size
    obtain ⟨JB, hJB⟩ : ∃ JB, JB = w3.heap.size := ⟨_, rfl⟩
    obtain ⟨w4, hw4⟩ : ∃ w4, w4 = w3.alloc (.cells #[.slice none 0 0, .int .i64 0, .bool false, .int .i64 0] 24) := ⟨_, rfl⟩
    have hb4 : Below w3.heap.size w3 w4 := by rw [hw4]; exact below_box _
    have E4 : Blk w4 JB 24 [.slice none 0 0, .int .i64 0, .bool false, .int .i64 0] := by rw [hw4]; exact blk_new hJB
    have hs4 : w4.heap.size = JB + 1 := by rw [hw4, hJB]; simp
    obtain ⟨P, hP⟩ : ∃ P, P = JB + 1 := ⟨_, rfl⟩
    obtain ⟨w5, hw5⟩ : ∃ w5, w5 = w4.alloc (.cells #[.string (bs head), .int .i64 0, .bool false] 64) := ⟨_, rfl⟩
    have hb5 : Below w4.heap.size w4 w5 := by rw [hw5]; exact below_box _
    have L5 : Hid (Blk w5 P 64 (lexC head 0 false)) := by
      show Blk _ _ _ _
      rw [hw5]
      exact blk_new (by omega)
    have E5 := E4.blw hb5
    have hb35 := below_trans hb4 hb5
    have N5 := N3.blw hb35
    have hz5 := (hb35.block _ (blockLt hz3)).trans hz3
    rw [hw4] at hw5
    have HW5 := Lib.hid hw5
    have HJB := Lib.hid hJB
    have HPP := Lib.hid hP
    have hlr : w.heap.size < w3.heap.size := by omega
    have hPJ : JB < P := by omega
    have hNJ : NB < JB := by omega
    have HB03 := Lib.hid hb03
    have HB35 := Lib.hid hb35
    have WD := Lib.hid (lword_any P head 0 false w5 L5.out (by omega) (by omega))
    rw [List.drop_zero, Nat.zero_add] at WD
    obtain ⟨W1, hW1⟩ : ∃ W, W = wordR head := ⟨_, rfl⟩
    obtain ⟨a1, ha1⟩ : ∃ a, a = W1.length + 1 := ⟨_, rfl⟩
    rw [← hW1, ← ha1] at WD
    have HA1 : Hid (a1 = (wordR head).length + 1) := by rw [← hW1]; exact ha1
    have HW1 := Lib.hid hW1
    have ha1b : a1 ≤ 801 := by have := wordR_len head; rw [ha1, hW1]; omega
    clear hW1 ha1
    clear hw4 hw5 hJB hP hb3 hb4 hb5 E4 hs4 UP hb02 N2 hz2 hs2' hs3 hb03 hb35 hz3 N3
    go_upto_region 9 with fail
    rw [← HW5.out, ← HJB.out, ← HPP.out]
    clear HW5
    go_wp2_with (go_at_call 25; refine Hid.out ?_)
    refine Lib.hid ?_
    refine WD.out.mono ?_
    rintro _ w6 ⟨rfl, lx6⟩
    have N6 : Hid (Blk w6 NB 9 nmF) := (lx6.only.block _ N5.lt (by simp; omega)).trans N5
    have E6 : Hid (Blk w6 JB 24 [.slice none 0 0, .int .i64 (0), .bool false, .int .i64 0]) := (lx6.only.block _ E5.lt (by simp; omega)).trans E5
    have hz6 := (lx6.only.block _ (blockLt hz5) (by simp; omega)).trans hz5
    have hb6 : Hid (Below w3.heap.size w3 w6) := below_of_only HB35.out (by have := HJB.out; omega) lx6.only
    have lq6 := lx6.at'
    have hne : NB ≠ JB := by omega
    clear WD L5 N5 E5 hz5 lx6 HB35
    go_upto_block 0 with fail
    refine wp_norm (jo_b0 NB JB W1 _ _ _ _ _ _ _ _ _ _ _ _ _ _ _ _ _ _ _ _ _ _ _ _ _ _ _ _ _ _ _ _ _ _ _ _ _ _ _ _ _ _ _ _ _ _ _ _ _ _ _ _ _ _ _ _ _ _ _ _ _ _ _ _ _ _ _ _ _ _ _ _ _ _ _ _ _ _ _ _ _ _ _ _ _ _ _ _ _ _ _ _ _ _ _ _ _ _ _ _ _ _ _ _ _ _ _ _ _ _ _ _ _ _ _ _ _ _ _ _ _ _ _ _ _ _ _ _ _ _ _ _ _ _ _ _ _ _ _ _ _ _ _ _ _ _ _ _ _ _ _ _ _ _ _ _ _ _ _ _ _ _ _ _ _ _ _ _ _ _ _ _ _ _ _ _ _ N6 E6 hne ?_)
    refine Lib.hid ?_
    intro z11 z50 z51 z52 z53 z54 z55 z56 z57 z58 z59 z60 z61 w7 hE7 hO7
    have E7 := Lib.hid hE7
    have L7 := Lib.hid ((hO7.block _ lq6.lt (by simp; omega)).trans lq6)
    have hz7 := (hO7.block _ (blockLt hz6) (by simp; omega)).trans hz6
    have hb7 : Hid (Below w3.heap.size w3 w7) := below_of_only hb6.out (by have := HJB.out; omega) hO7
    have WD : Hid (Calls Tryz.prog 25 #[.pointer (some ⟨P, 0, none⟩)] w7 fun e w' => e = .returned (.string (bs (wordR (head.drop a1)))) ∧ LxAt P head (a1 + (wordR (head.drop a1)).length + 1) false w7 w') := lword_any P head a1 false w7 L7.out (by omega) (by omega)
    obtain ⟨W2, hW2⟩ : ∃ W, W = wordR (head.drop a1) := ⟨_, rfl⟩
    obtain ⟨a2, ha2⟩ : ∃ a, a = a1 + W2.length + 1 := ⟨_, rfl⟩
    rw [← hW2, ← ha2] at WD
    have HA2 : Hid (a2 = a1 + (wordR (head.drop a1)).length + 1) := by rw [← hW2]; exact ha2
    have HW2 := Lib.hid hW2
    have hW2l : W2.length ≤ 800 := by have := wordR_len (head.drop a1); rw [List.length_drop] at this; rw [hW2]; omega
    have ha2b : a2 ≤ 1700 := by omega
    obtain ⟨nb, hnb⟩ : ∃ nb, nb = numB W2 := ⟨_, rfl⟩
    have HNU : Hid (∀ w6, Calls Tryz.prog 26 #[.string (bs W2)] w6 fun e w' => (∃ x, e = .returned (.tuple #[.int .i64 x, .bool nb.isSome]) ∧ ∀ v, nb = some v → x = v) ∧ w' = w6) := by
      intro w6
      rw [hnb]
      have h := Pp.number_any (bs W2) w6 (by rw [bs_size]; unfold maxLen; omega)
      unfold Pp.NumSaid at h
      rw [show (bs W2).data.toList = W2 from rfl] at h
      exact h
    have HNN : Hid (nb = numB (wordR (head.drop a1))) := by show _ = _; rw [← hW2]; exact hnb
    clear hW2 ha2 hnb hE7 hO7 lq6 hz6 hb6 N6 E6 hW2l
    go_upto_region 15 with fail
    go_wp2_with (go_at_call 25; refine Hid.out ?_)
    refine Lib.hid ?_
    refine WD.out.mono ?_
    rintro _ w8 ⟨rfl, lx8⟩
    have E8 : Hid (Blk w8 JB 24 [.slice none 0 0, .int .i64 (foldK W1), .bool false, .int .i64 0]) := (lx8.only.block _ E7.out.lt (by simp; omega)).trans E7.out
    have hz8 := (lx8.only.block _ (blockLt hz7) (by simp; omega)).trans hz7
    have hb8 : Hid (Below w3.heap.size w3 w8) := below_of_only hb7.out (by have := HJB.out; omega) lx8.only
    have L8 := Lib.hid lx8.at'
    have NU8 := Lib.hid (HNU.out w8)
    clear WD lx8 E7 hz7 hb7 L7 HNU
    go_wp2_with (go_at_call 26; refine Hid.out ?_)
    refine Lib.hid ?_
    refine NU8.out.mono ?_
    rintro _ w8 ⟨⟨n, rfl, hx⟩, rfl⟩
    have HX := Lib.hid hx
    have c3 : w8.cell? ⟨JB, 3, none⟩ = some (.int .i64 0) := E8.out.at (i := 3) rfl
    have f3 := E8.out.frozen 3
    have E9 : Hid (Blk (w8.setCell ⟨JB, 3, none⟩ (.int .i64 n)) JB 24 [.slice none 0 0, .int .i64 (foldK W1), .bool false, .int .i64 n]) := E8.out.set 3 _
    have hz9 := (Below.heap_setCell w8 ⟨JB, 3, none⟩ (.int .i64 n) w.heap.size (by simp; omega)).trans hz8
    have L9 := Lib.hid (L8.out.other (g' := JB) 3 (.int .i64 n) (by omega))
    have hb9 : Hid (Below w3.heap.size w3 (w8.setCell ⟨JB, 3, none⟩ (.int .i64 n))) := hb8.out.setCell (p := ⟨JB, 3, none⟩) (by have := HJB.out; simp; omega) _
    clear hx NU8
    go_upto_region 17 with fail
    generalize w8.setCell ⟨JB, 3, none⟩ (.int .i64 n) = w9 at *
    clear c3 f3 E8 hz8 L8 hb8
    rcases nb with _ | v
    · have HNH : Hid (∀ j, jobFault j = 0 → jobL j ≠ s) := noHead HA1.out HNN.out.symm L0.out.all HPL.out
      clear HX
      have hz := hz9
      have p0 : w9.cell? ⟨w.heap.size, 0, none⟩ = some (.slice none 0 0) := by rw [cell_of_row _ _ _ _ _ _ hz]; rfl
      have p1 : w9.cell? ⟨w.heap.size, 1, none⟩ = some (.int .i64 0) := by rw [cell_of_row _ _ _ _ _ _ hz]; rfl
      have p2 : w9.cell? ⟨w.heap.size, 2, none⟩ = some (.bool false) := by rw [cell_of_row _ _ _ _ _ _ hz]; rfl
      have p3 : w9.cell? ⟨w.heap.size, 3, none⟩ = some (.int .i64 0) := by rw [cell_of_row _ _ _ _ _ _ hz]; rfl
      have e0 := frozen_of_row w9 w.heap.size 0 _ _ hz
      have e1 := frozen_of_row w9 w.heap.size 1 _ _ hz
      have e2 := frozen_of_row w9 w.heap.size 2 _ _ hz
      have e3 := frozen_of_row w9 w.heap.size 3 _ _ hz
      have hbz : Hid (Below w.heap.size w w9) := below_trans HB03.out hb9.out
      have HZ := Lib.hid hz
      clear hz
      go_wp2
      (try simp only [Exit.inBlock, Exit.then])
      have g1 := heap_set (j := 0) HZ.out (.slice none 0 0)
      have g2 := heap_set (j := 1) g1 (.int .i64 0)
      have g3 := heap_set (j := 2) g2 (.bool false)
      have g4 := heap_set (j := 3) g3 (.int .i64 0)
      have hb5 : Below w.heap.size w ((((w9.setCell ⟨w.heap.size, 0, none⟩ (.slice none 0 0)).setCell ⟨w.heap.size, 1, none⟩ (.int .i64 0)).setCell ⟨w.heap.size, 2, none⟩ (.bool false)).setCell ⟨w.heap.size, 3, none⟩ (.int .i64 0)) := (((hbz.out.setCell (p := ⟨w.heap.size, 0, none⟩) (Nat.le_refl _) _).setCell (p := ⟨w.heap.size, 1, none⟩) (Nat.le_refl _) _).setCell (p := ⟨w.heap.size, 2, none⟩) (Nat.le_refl _) _).setCell (p := ⟨w.heap.size, 3, none⟩) (Nat.le_refl _) _
      clear g1 g2 g3 p0 p1 p2 p3 e0 e1 e2 e3
      generalize ((((w9.setCell ⟨w.heap.size, 0, none⟩ (.slice none 0 0)).setCell ⟨w.heap.size, 1, none⟩ (.int .i64 0)).setCell ⟨w.heap.size, 2, none⟩ (.bool false)).setCell ⟨w.heap.size, 3, none⟩ (.int .i64 0)) = wz at *
      have z0 : wz.cell? ⟨w.heap.size, 0, none⟩ = some (.slice none 0 0) := by rw [cell_of_row _ _ _ _ _ _ g4]; rfl
      have z1 : wz.cell? ⟨w.heap.size, 1, none⟩ = some (.int .i64 0) := by rw [cell_of_row _ _ _ _ _ _ g4]; rfl
      have z2 : wz.cell? ⟨w.heap.size, 2, none⟩ = some (.bool false) := by rw [cell_of_row _ _ _ _ _ _ g4]; rfl
      have z3 : wz.cell? ⟨w.heap.size, 3, none⟩ = some (.int .i64 0) := by rw [cell_of_row _ _ _ _ _ _ g4]; rfl
      exact bodyPost_ret (v := .tuple #[zeroJ, .int .i64 4]) (by simp [results, Tryz.results12, go_sem, z0, z1, z2, z3, zeroJ]) rfl ⟨.inr ⟨by rw [if_neg H8.out], noJob HNH.out⟩, hb5⟩
    · have HNV : Hid (numB (wordR (head.drop a1)) = some n) := by
        show _ = _
        rw [← HNN.out, HX.out v rfl]
      clear HNN HX
      have l1 : w9.cell? ⟨P, 1, none⟩ = some (.int .i64 (a2 : Int)) := L9.out.at (i := 1) rfl
      have hhs : (bs head).size = head.length := bs_size head
      obtain ⟨ea, hea⟩ : ∃ b, b = (if a2 ≤ head.length then (head.drop a2 == [101, 97, 114, 108, 121]) else false) := ⟨_, rfl⟩
      have HHI : Hid (HeadIs head (foldK W1) ea n) := by
        show HeadIs _ _ _ _
        rw [HW1.out]
        exact headIs_of HA1.out HA2.out HNV.out hea
      have HEA := Lib.hid hea
      obtain ⟨hl, hhl2⟩ : ∃ n, n = head.length := ⟨_, rfl⟩
      rw [← hhl2] at hhs
      have HHL := Lib.hid hhl2
      have HS9 := Lib.hid hz9
      clear HNV hea hhl2 hz9
      go_upto_region 19 with fail
      go_upto_if 79 with fail
      go_cut [] from 21 to 178 (fun wx => Hid (Blk wx JB 24 [.slice none 0 0, .int .i64 (foldK W1), .bool ea, .int .i64 n]) ∧ Hid (Only JB w9 wx))
      case first =>
        by_cases hle : a2 ≤ hl
        · have hlx : (a2 : Int) ≤ ((bs head).size : Int) := by omega
          have hlx2 : a2 ≤ (bs head).size := by omega
          have hee : Hid (ea = (head.drop a2 == [101, 97, 114, 108, 121])) := by
            show _ = _
            rw [HEA.out, if_pos (by rw [← HHL.out]; exact hle)]
          have c2 : w9.cell? ⟨JB, 2, none⟩ = some (.bool false) := E9.out.at (i := 2) rfl
          have f2 := E9.out.frozen 2
          have heq : ((bs (head.drop a2)).toList == [101, 97, 114, 108, 121]) = ea := by rw [bs_toList]; exact hee.out.symm
          have heq2 : ((bs (head.drop a2)).toList == (⟨#[101, 97, 114, 108, 121]⟩ : ByteArray).toList) = ea := by rw [show (⟨#[101, 97, 114, 108, 121]⟩ : ByteArray) = bs [101, 97, 114, 108, 121] from rfl, bs_toList, bs_toList]; exact hee.out.symm
          have hex : (bs head).extract a2 hl = bs (head.drop a2) := by
            rw [HHL.out]
            rw [bs_mid, List.take_of_length_le (by simp)]
          have E10 : Hid (Blk (w9.setCell ⟨JB, 2, none⟩ (.bool ea)) JB 24 [.slice none 0 0, .int .i64 (foldK W1), .bool ea, .int .i64 n]) := E9.out.set 2 _
          have O10 : Hid (Only JB w9 (w9.setCell ⟨JB, 2, none⟩ (.bool ea))) := (Only.refl _ _).setCell 2 _
          go_upto_region 20 with fail
          go_wp2
          go_meet
          case rel => exact ⟨E10, O10⟩
        · have hlx : ¬ (a2 : Int) ≤ ((bs head).size : Int) := by omega
          have hef : ea = false := by
            rw [HEA.out, if_neg (by rw [← HHL.out]; exact hle)]
          subst hef
          go_wp2
          go_meet
          case rel => exact ⟨E9, Only.refl _ _⟩
      case rest =>
        obtain ⟨E10, O10⟩ := hcut
        generalize wc = w10 at *
        have J10 : Hid (JSt JB (.slice none 0 0) (foldK W1) ea n w.heap.size w3 w10) := by
          have h1 := HJB.out
          refine ⟨(O10.out.block _ (blockLt HS9.out) (by simp; omega)).trans HS9.out, E10.out, below_of_only hb9.out (by omega) O10.out, hlr, by omega⟩
        have hsl : Hid (s.length ≤ 1000) := by show _ ≤ _; omega
        have hRB : w.heap.size ≤ w.heap.size := Nat.le_refl _
        clear l1 E9 E10 O10 L9 hb9 HS9 hhs
        go_upto_block 2 with fail
        refine wp_normR (jo_b2 JB w.heap.size s head rest (foldK W1) n ea w w3 _ _ _ _ _ _ _ _ _ _ _ _ _ _ _ _ _ _ _ _ _ _ _ _ _ _ _ _ _ _ _ _ _ _ _ _ _ _ _ _ _ _ _ _ _ _ _ _ _ _ _ _ _ _ _ _ _ _ _ _ _ _ _ _ _ _ _ _ _ _ _ _ _ _ _ _ _ _ _ _ _ _ _ _ _ _ _ _ _ _ _ _ _ _ _ _ _ _ _ _ _ _ _ _ _ _ _ _ _ _ _ _ _ _ _ _ _ _ _ _ _ _ _ _ _ _ _ _ _ _ _ _ _ _ _ _ _ _ _ _ _ _ _ _ _ _ _ _ _ _ _ _ _ _ _ _ _ _ _ _ _ _ _ _ _ _ _ _ _ _ _ _ _ _ _ _ _ _ _ J10 L0 hsl HB03 hRB ?_ ?_)
        · refine Lib.hid ?_
          intro z3 z6 z14 z15 z16 z17 z18 z88 z89 z90 z91 z92 z93 z94 z95 z96 z97 z98 z99 z100 z101 z102 z103 z104 z105 z106 z107 z108 z109 z110 z111 z112 z113 z114 z115 z116 z117 z118 z119 z120 z121 z122 z123 z124 z125 z126 z127 z128 z129 z130 z131 z132 z133 z134 z135 z136 z137 z138 z139 z140 z141 z142 z143 z144 z145 z146 z147 z148 z149 z150 z151 z152 z153 z154 z155 z156 z157 z158 z159 z160 done rs rv2 w11 hL hJ hR
          have L11 := Lib.hid hL
          have J11 := Lib.hid hJ
          have R11 := Lib.hid hR
          clear hL hJ hR J10 L0
          obtain ⟨hwt, hft, -⟩ := lexRs_wt L11.out.lex
          have hjl : (joined done).length ≤ s.length := by
            rw [L11.out.all]
            simp [joined]
            omega
          have HUN : Hid (∀ j, jobFault j = 0 → jobL j = s → (⟨rs, foldK W1, ea, n⟩ : Jb) = j) := fun j hf hj => jobOf_uniq hf hj (by have := L11.out.all; rw [List.append_nil] at this; exact this) L11.out.plain L11.out.lex HHI.out
          have HWT : Hid (rulesWt rs ≤ 13 * (s.length + 1)) := by show _ ≤ _; omega
          have HFT := Lib.hid hft
          have HDN := Lib.hid R11.out.done
          have hIR := R11.out.done w11 (fun _ _ _ => rfl)
          obtain ⟨ra, rc, hrv⟩ := hIR.slice
          subst hrv
          have HIR := Lib.hid hIR
          obtain ⟨rn, hrn⟩ : ∃ n, n = rs.length := ⟨_, rfl⟩
          obtain ⟨j', hj'⟩ : ∃ j' : Jb, j' = ⟨rs, foldK W1, ea, n⟩ := ⟨_, rfl⟩
          have JF : Hid (Calls Tryz.prog 6 #[.agg #[.slice ra rs.length rc, .int .i64 (foldK W1), .bool ea, .int .i64 n]] w11 fun v w' => v = .returned (.int .i64 ((jobFault j' : Nat) : Int)) ∧ Below w11.heap.size w11 w') := by
            rw [hj']
            exact rJobFault_any ⟨rs, foldK W1, ea, n⟩ (.slice ra rs.length rc) w11 hIR (by have := HWT.out; show rulesWt rs ≤ _; omega)
          have JT : Hid (jobFault j' = 0 → ∀ w', Below w11.heap.size w11 w' → Calls Tryz.prog 10 #[.agg #[.slice ra rs.length rc, .int .i64 (foldK W1), .bool ea, .int .i64 n]] w' fun e w'' => e = .returned (.tuple #[.string (bs (if 800 < (jobL j').length then [] else jobL j')), .int .i64 (if 800 < (jobL j').length then 2 else 0)]) ∧ Below w'.heap.size w' w'') := by
            rw [hj']
            intro hf w' hb
            exact rjobText_any ⟨rs, foldK W1, ea, n⟩ (.slice ra rs.length rc) w' (HIR.out.lower hb) hf (by have := HWT.out; show rulesWt rs ≤ _; omega) (fun i x hx => HFT.out x (List.mem_of_getElem? hx))
          have HJ' := Lib.hid hj'
          rw [← hj'] at HUN
          rw [← hrn] at JF JT HDN HIR J11
          have HRN := Lib.hid hrn
          have q0 : w11.cell? ⟨JB, 0, none⟩ = some (.slice ra rn rc) := by rw [cell_of_row _ _ _ _ _ _ J11.out.ex]; rfl
          have q1 : w11.cell? ⟨JB, 1, none⟩ = some (.int .i64 (foldK W1)) := by rw [cell_of_row _ _ _ _ _ _ J11.out.ex]; rfl
          have q2 : w11.cell? ⟨JB, 2, none⟩ = some (.bool ea) := by rw [cell_of_row _ _ _ _ _ _ J11.out.ex]; rfl
          have q3 : w11.cell? ⟨JB, 3, none⟩ = some (.int .i64 n) := by rw [cell_of_row _ _ _ _ _ _ J11.out.ex]; rfl
          obtain ⟨FO, hFO⟩ : ∃ x, x = foldK W1 := ⟨_, rfl⟩
          rw [← hFO] at JF JT J11 q1 HJ'
          obtain ⟨ft, hft2⟩ : ∃ x, x = jobFault j' := ⟨_, rfl⟩
          rw [← hft2] at JF JT
          have HFTE := Lib.hid hft2
          clear hwt hft hjl hIR hj' hrn L11 HHI hFO hft2
          clear HPP HNB HS2 HPL HA1 HA2 HEA HHL HW1 HW2
          go_wp2_with (go_at_call 6; refine Hid.out ?_)
          refine Lib.hid ?_
          refine JF.out.mono ?_
          rintro _ w12 ⟨rfl, hb12⟩
          have HB12 := Lib.hid hb12
          have J12 := Lib.hid (J11.out.lower hb12)
          clear q0 q1 q2 q3 hb12
          by_cases hf0 : 0 < ft
          · have hf1 : (0 : Int) < (ft : Int) := by omega
            have HNO : Hid (∀ j, jobFault j = 0 → jobL j ≠ s) := fun j hf hj => by
              have e := HUN.out j hf hj
              rw [← e, ← HFTE.out] at hf
              omega
            clear hf0
            have hz := J12.out.res
            have p0 : w12.cell? ⟨w.heap.size, 0, none⟩ = some (.slice none 0 0) := by rw [cell_of_row _ _ _ _ _ _ hz]; rfl
            have p1 : w12.cell? ⟨w.heap.size, 1, none⟩ = some (.int .i64 0) := by rw [cell_of_row _ _ _ _ _ _ hz]; rfl
            have p2 : w12.cell? ⟨w.heap.size, 2, none⟩ = some (.bool false) := by rw [cell_of_row _ _ _ _ _ _ hz]; rfl
            have p3 : w12.cell? ⟨w.heap.size, 3, none⟩ = some (.int .i64 0) := by rw [cell_of_row _ _ _ _ _ _ hz]; rfl
            have e0 := frozen_of_row w12 w.heap.size 0 _ _ hz
            have e1 := frozen_of_row w12 w.heap.size 1 _ _ hz
            have e2 := frozen_of_row w12 w.heap.size 2 _ _ hz
            have e3 := frozen_of_row w12 w.heap.size 3 _ _ hz
            have hbz : Hid (Below w.heap.size w w12) := below_trans HB03.out J12.out.bel
            have HZ := Lib.hid hz
            clear hz
            go_wp2
            (try simp only [Exit.inBlock, Exit.then])
            have g1 := heap_set (j := 0) HZ.out (.slice none 0 0)
            have g2 := heap_set (j := 1) g1 (.int .i64 0)
            have g3 := heap_set (j := 2) g2 (.bool false)
            have g4 := heap_set (j := 3) g3 (.int .i64 0)
            have hb5 : Below w.heap.size w ((((w12.setCell ⟨w.heap.size, 0, none⟩ (.slice none 0 0)).setCell ⟨w.heap.size, 1, none⟩ (.int .i64 0)).setCell ⟨w.heap.size, 2, none⟩ (.bool false)).setCell ⟨w.heap.size, 3, none⟩ (.int .i64 0)) := (((hbz.out.setCell (p := ⟨w.heap.size, 0, none⟩) (Nat.le_refl _) _).setCell (p := ⟨w.heap.size, 1, none⟩) (Nat.le_refl _) _).setCell (p := ⟨w.heap.size, 2, none⟩) (Nat.le_refl _) _).setCell (p := ⟨w.heap.size, 3, none⟩) (Nat.le_refl _) _
            clear g1 g2 g3 p0 p1 p2 p3 e0 e1 e2 e3
            generalize ((((w12.setCell ⟨w.heap.size, 0, none⟩ (.slice none 0 0)).setCell ⟨w.heap.size, 1, none⟩ (.int .i64 0)).setCell ⟨w.heap.size, 2, none⟩ (.bool false)).setCell ⟨w.heap.size, 3, none⟩ (.int .i64 0)) = wz at *
            have z0 : wz.cell? ⟨w.heap.size, 0, none⟩ = some (.slice none 0 0) := by rw [cell_of_row _ _ _ _ _ _ g4]; rfl
            have z1 : wz.cell? ⟨w.heap.size, 1, none⟩ = some (.int .i64 0) := by rw [cell_of_row _ _ _ _ _ _ g4]; rfl
            have z2 : wz.cell? ⟨w.heap.size, 2, none⟩ = some (.bool false) := by rw [cell_of_row _ _ _ _ _ _ g4]; rfl
            have z3 : wz.cell? ⟨w.heap.size, 3, none⟩ = some (.int .i64 0) := by rw [cell_of_row _ _ _ _ _ _ g4]; rfl
            exact bodyPost_ret (v := .tuple #[zeroJ, .int .i64 4]) (by simp [results, Tryz.results12, go_sem, z0, z1, z2, z3, zeroJ]) rfl ⟨.inr ⟨by rw [if_neg H8.out], noJob HNO.out⟩, hb5⟩
          · have hf1 : ¬ (0 : Int) < (ft : Int) := by omega
            have hfz : ft = 0 := by omega
            have HF0 : Hid (jobFault j' = 0) := by show _ = _; rw [← HFTE.out]; exact hfz
            have q0 : w12.cell? ⟨JB, 0, none⟩ = some (.slice ra rn rc) := by rw [cell_of_row _ _ _ _ _ _ J12.out.ex]; rfl
            have q1 : w12.cell? ⟨JB, 1, none⟩ = some (.int .i64 FO) := by rw [cell_of_row _ _ _ _ _ _ J12.out.ex]; rfl
            have q2 : w12.cell? ⟨JB, 2, none⟩ = some (.bool ea) := by rw [cell_of_row _ _ _ _ _ _ J12.out.ex]; rfl
            have q3 : w12.cell? ⟨JB, 3, none⟩ = some (.int .i64 n) := by rw [cell_of_row _ _ _ _ _ _ J12.out.ex]; rfl
            have JT2 := Lib.hid (JT.out hfz w12 HB12.out)
            have HLJ : Hid (jobL j' = s ∨ jobL j' ≠ s) := Classical.em _
            obtain ⟨big, hbig⟩ : ∃ b, b = decide (800 < (jobL j').length) := ⟨_, rfl⟩
            obtain ⟨RT, hRT⟩ : ∃ x, x = (if 800 < (jobL j').length then [] else jobL j') := ⟨_, rfl⟩
            obtain ⟨RN, hRN⟩ : ∃ x : Int, x = (if 800 < (jobL j').length then 2 else 0) := ⟨_, rfl⟩
            rw [← hRT, ← hRN] at JT2
            have HRT := Lib.hid hRT
            have HRNN := Lib.hid hRN
            clear hf0 hfz JT JF hbig hRT hRN HFTE
            go_wp2_with (go_at_call 10; refine Hid.out ?_)
            clear hf1
            refine Lib.hid ?_
            refine JT2.out.mono ?_
            rintro _ w13 ⟨rfl, hb13⟩
            have J13 := Lib.hid (J12.out.lower hb13)
            have HB13 := Lib.hid (below_trans HB12.out hb13)
            clear q0 q1 q2 q3 JT2 hb13 J12
            by_cases hlen : 800 < (jobL j').length
            · have hrn : RN = 2 := by rw [HRNN.out, if_pos hlen]
              have HNO : Hid (∀ j, jobFault j = 0 → jobL j ≠ s) := fun j hf hj => by
                have e := HUN.out j hf hj
                rw [e, hj] at hlen
                omega
              subst hrn
              clear hlen
              have hz := J13.out.res
              have p0 : w13.cell? ⟨w.heap.size, 0, none⟩ = some (.slice none 0 0) := by rw [cell_of_row _ _ _ _ _ _ hz]; rfl
              have p1 : w13.cell? ⟨w.heap.size, 1, none⟩ = some (.int .i64 0) := by rw [cell_of_row _ _ _ _ _ _ hz]; rfl
              have p2 : w13.cell? ⟨w.heap.size, 2, none⟩ = some (.bool false) := by rw [cell_of_row _ _ _ _ _ _ hz]; rfl
              have p3 : w13.cell? ⟨w.heap.size, 3, none⟩ = some (.int .i64 0) := by rw [cell_of_row _ _ _ _ _ _ hz]; rfl
              have e0 := frozen_of_row w13 w.heap.size 0 _ _ hz
              have e1 := frozen_of_row w13 w.heap.size 1 _ _ hz
              have e2 := frozen_of_row w13 w.heap.size 2 _ _ hz
              have e3 := frozen_of_row w13 w.heap.size 3 _ _ hz
              have hbz : Hid (Below w.heap.size w w13) := below_trans HB03.out J13.out.bel
              have HZ := Lib.hid hz
              clear hz
              go_wp2
              (try simp only [Exit.inBlock, Exit.then])
              have g1 := heap_set (j := 0) HZ.out (.slice none 0 0)
              have g2 := heap_set (j := 1) g1 (.int .i64 0)
              have g3 := heap_set (j := 2) g2 (.bool false)
              have g4 := heap_set (j := 3) g3 (.int .i64 0)
              have hb5 : Below w.heap.size w ((((w13.setCell ⟨w.heap.size, 0, none⟩ (.slice none 0 0)).setCell ⟨w.heap.size, 1, none⟩ (.int .i64 0)).setCell ⟨w.heap.size, 2, none⟩ (.bool false)).setCell ⟨w.heap.size, 3, none⟩ (.int .i64 0)) := (((hbz.out.setCell (p := ⟨w.heap.size, 0, none⟩) (Nat.le_refl _) _).setCell (p := ⟨w.heap.size, 1, none⟩) (Nat.le_refl _) _).setCell (p := ⟨w.heap.size, 2, none⟩) (Nat.le_refl _) _).setCell (p := ⟨w.heap.size, 3, none⟩) (Nat.le_refl _) _
              clear g1 g2 g3 p0 p1 p2 p3 e0 e1 e2 e3
              generalize ((((w13.setCell ⟨w.heap.size, 0, none⟩ (.slice none 0 0)).setCell ⟨w.heap.size, 1, none⟩ (.int .i64 0)).setCell ⟨w.heap.size, 2, none⟩ (.bool false)).setCell ⟨w.heap.size, 3, none⟩ (.int .i64 0)) = wz at *
              have z0 : wz.cell? ⟨w.heap.size, 0, none⟩ = some (.slice none 0 0) := by rw [cell_of_row _ _ _ _ _ _ g4]; rfl
              have z1 : wz.cell? ⟨w.heap.size, 1, none⟩ = some (.int .i64 0) := by rw [cell_of_row _ _ _ _ _ _ g4]; rfl
              have z2 : wz.cell? ⟨w.heap.size, 2, none⟩ = some (.bool false) := by rw [cell_of_row _ _ _ _ _ _ g4]; rfl
              have z3 : wz.cell? ⟨w.heap.size, 3, none⟩ = some (.int .i64 0) := by rw [cell_of_row _ _ _ _ _ _ g4]; rfl
              exact bodyPost_ret (v := .tuple #[zeroJ, .int .i64 4]) (by simp [results, Tryz.results12, go_sem, z0, z1, z2, z3, zeroJ]) rfl ⟨.inr ⟨by rw [if_neg H8.out], noJob HNO.out⟩, hb5⟩
            · have hrn : RN = 0 := by rw [HRNN.out, if_neg hlen]
              have hrt : RT = jobL j' := by rw [HRT.out, if_neg hlen]
              subst hrn
              by_cases heq : RT = s
              · have HTX : Hid (textJ j' = (s, 0)) := by
                  show _ = _
                  unfold textJ
                  rw [if_neg (by rw [HF0.out]; simp), if_neg hlen, ← hrt, heq]
                have HUN2 : Hid (∀ j, textJ j = (s, 0) → j' = j) := fun j e => by
                  obtain ⟨a, b, -⟩ := textJ_is e
                  exact HUN.out j a b
                have he1 : ((bs RT).toList == (bs s).toList) = true := by rw [bs_toList, bs_toList, heq]; simp
                have he2 : (bs RT).toList = (bs s).toList := by rw [heq]
                have HB1 : Hid (JB ≥ w3.heap.size) := by show _ ≥ _; have := HJB.out; omega
                have q0 : w13.cell? ⟨JB, 0, none⟩ = some (.slice ra rn rc) := by rw [cell_of_row _ _ _ _ _ _ J13.out.ex]; rfl
                have q1 : w13.cell? ⟨JB, 1, none⟩ = some (.int .i64 FO) := by rw [cell_of_row _ _ _ _ _ _ J13.out.ex]; rfl
                have q2 : w13.cell? ⟨JB, 2, none⟩ = some (.bool ea) := by rw [cell_of_row _ _ _ _ _ _ J13.out.ex]; rfl
                have q3 : w13.cell? ⟨JB, 3, none⟩ = some (.int .i64 n) := by rw [cell_of_row _ _ _ _ _ _ J13.out.ex]; rfl
                have hz := J13.out.res
                have p0 : w13.cell? ⟨w.heap.size, 0, none⟩ = some (.slice none 0 0) := by rw [cell_of_row _ _ _ _ _ _ hz]; rfl
                have p1 : w13.cell? ⟨w.heap.size, 1, none⟩ = some (.int .i64 0) := by rw [cell_of_row _ _ _ _ _ _ hz]; rfl
                have p2 : w13.cell? ⟨w.heap.size, 2, none⟩ = some (.bool false) := by rw [cell_of_row _ _ _ _ _ _ hz]; rfl
                have p3 : w13.cell? ⟨w.heap.size, 3, none⟩ = some (.int .i64 0) := by rw [cell_of_row _ _ _ _ _ _ hz]; rfl
                have e0 := frozen_of_row w13 w.heap.size 0 _ _ hz
                have e1 := frozen_of_row w13 w.heap.size 1 _ _ hz
                have e2 := frozen_of_row w13 w.heap.size 2 _ _ hz
                have e3 := frozen_of_row w13 w.heap.size 3 _ _ hz
                have HZ := Lib.hid hz
                have HBZ := Lib.hid (below_trans HB03.out J13.out.bel)
                have hBne : ¬ JB = w.heap.size := by omega
                have hBne2 : ¬ w.heap.size = JB := fun e => hBne e.symm
                clear hlen hrt heq hz
                go_wp2
                (try simp only [Exit.inBlock, Exit.then])
                have g1 := heap_set (j := 0) HZ.out (.slice ra rn rc)
                have g2 := heap_set (j := 1) g1 (.int .i64 FO)
                have g3 := heap_set (j := 2) g2 (.bool ea)
                have g4 := heap_set (j := 3) g3 (.int .i64 n)
                have hb5 : Below w.heap.size w ((((w13.setCell ⟨w.heap.size, 0, none⟩ (.slice ra rn rc)).setCell ⟨w.heap.size, 1, none⟩ (.int .i64 FO)).setCell ⟨w.heap.size, 2, none⟩ (.bool ea)).setCell ⟨w.heap.size, 3, none⟩ (.int .i64 n)) := (((HBZ.out.setCell (p := ⟨w.heap.size, 0, none⟩) (Nat.le_refl _) _).setCell (p := ⟨w.heap.size, 1, none⟩) (Nat.le_refl _) _).setCell (p := ⟨w.heap.size, 2, none⟩) (Nat.le_refl _) _).setCell (p := ⟨w.heap.size, 3, none⟩) (Nat.le_refl _) _
                have HI6 : Hid (∀ w'' : World, (∀ k, w.heap.size < k → k < ((((w13.setCell ⟨w.heap.size, 0, none⟩ (.slice ra rn rc)).setCell ⟨w.heap.size, 1, none⟩ (.int .i64 FO)).setCell ⟨w.heap.size, 2, none⟩ (.bool ea)).setCell ⟨w.heap.size, 3, none⟩ (.int .i64 n)).heap.size → w''.heap[k]? = ((((w13.setCell ⟨w.heap.size, 0, none⟩ (.slice ra rn rc)).setCell ⟨w.heap.size, 1, none⟩ (.int .i64 FO)).setCell ⟨w.heap.size, 2, none⟩ (.bool ea)).setCell ⟨w.heap.size, 3, none⟩ (.int .i64 n)).heap[k]?) → IsRules w'' (.slice ra rn rc) rs) := by
                  intro w'' hag
                  refine HDN.out _ (fun k hk1 hk2 => ?_)
                  have h24 := HB13.out.size
                  have hJ := HB1.out
                  rw [hag k (by omega) (by simp only [World.size_setCell]; omega), Below.heap_setCell _ ⟨w.heap.size, 3, none⟩ _ k (fun e => by simp at e; omega), Below.heap_setCell _ ⟨w.heap.size, 2, none⟩ _ k (fun e => by simp at e; omega), Below.heap_setCell _ ⟨w.heap.size, 1, none⟩ _ k (fun e => by simp at e; omega), Below.heap_setCell _ ⟨w.heap.size, 0, none⟩ _ k (fun e => by simp at e; omega)]
                  exact HB13.out.block k hk2
                clear g1 g2 g3 p0 p1 p2 p3 e0 e1 e2 e3 q0 q1 q2 q3
                generalize ((((w13.setCell ⟨w.heap.size, 0, none⟩ (.slice ra rn rc)).setCell ⟨w.heap.size, 1, none⟩ (.int .i64 FO)).setCell ⟨w.heap.size, 2, none⟩ (.bool ea)).setCell ⟨w.heap.size, 3, none⟩ (.int .i64 n)) = wz at *
                have z0 : wz.cell? ⟨w.heap.size, 0, none⟩ = some (.slice ra rn rc) := by rw [cell_of_row _ _ _ _ _ _ g4]; rfl
                have z1 : wz.cell? ⟨w.heap.size, 1, none⟩ = some (.int .i64 FO) := by rw [cell_of_row _ _ _ _ _ _ g4]; rfl
                have z2 : wz.cell? ⟨w.heap.size, 2, none⟩ = some (.bool ea) := by rw [cell_of_row _ _ _ _ _ _ g4]; rfl
                have z3 : wz.cell? ⟨w.heap.size, 3, none⟩ = some (.int .i64 n) := by rw [cell_of_row _ _ _ _ _ _ g4]; rfl
                have hv : Jb.value j' (.slice ra rn rc) = .agg #[.slice ra rn rc, .int .i64 FO, .bool ea, .int .i64 n] := by rw [HJ'.out]; rfl
                have hrj : j'.rules = rs := by rw [HJ'.out]
                refine bodyPost_ret (v := .tuple #[Jb.value j' (.slice ra rn rc), .int .i64 0]) (by rw [hv]; simp [results, Tryz.results12, go_sem, z0, z1, z2, z3]) rfl ⟨.inl ⟨j', _, rfl, ?_, ?_, HTX.out, ?_, ?_, HUN2.out⟩, hb5⟩
                · rw [hrj]; exact HI6.out wz (fun _ _ _ => rfl)
                · rw [hrj]; exact HI6.out
                · rw [hrj]; exact HWT.out
                · rw [hrj]; exact HFT.out
              · have HNO : Hid (∀ j, jobFault j = 0 → jobL j ≠ s) := fun j hf hj => by
                  have e := HUN.out j hf hj
                  rw [e, hj] at hrt
                  exact heq hrt
                have he1 : ((bs RT).toList == (bs s).toList) = false := by rw [bs_toList, bs_toList]; simpa using heq
                have he2 : ¬ (bs RT).toList = (bs s).toList := by rw [bs_toList, bs_toList]; exact heq
                clear hlen hrt heq
                have hz := J13.out.res
                have p0 : w13.cell? ⟨w.heap.size, 0, none⟩ = some (.slice none 0 0) := by rw [cell_of_row _ _ _ _ _ _ hz]; rfl
                have p1 : w13.cell? ⟨w.heap.size, 1, none⟩ = some (.int .i64 0) := by rw [cell_of_row _ _ _ _ _ _ hz]; rfl
                have p2 : w13.cell? ⟨w.heap.size, 2, none⟩ = some (.bool false) := by rw [cell_of_row _ _ _ _ _ _ hz]; rfl
                have p3 : w13.cell? ⟨w.heap.size, 3, none⟩ = some (.int .i64 0) := by rw [cell_of_row _ _ _ _ _ _ hz]; rfl
                have e0 := frozen_of_row w13 w.heap.size 0 _ _ hz
                have e1 := frozen_of_row w13 w.heap.size 1 _ _ hz
                have e2 := frozen_of_row w13 w.heap.size 2 _ _ hz
                have e3 := frozen_of_row w13 w.heap.size 3 _ _ hz
                have hbz : Hid (Below w.heap.size w w13) := below_trans HB03.out J13.out.bel
                have HZ := Lib.hid hz
                clear hz
                go_wp2
                (try simp only [Exit.inBlock, Exit.then])
                have g1 := heap_set (j := 0) HZ.out (.slice none 0 0)
                have g2 := heap_set (j := 1) g1 (.int .i64 0)
                have g3 := heap_set (j := 2) g2 (.bool false)
                have g4 := heap_set (j := 3) g3 (.int .i64 0)
                have hb5 : Below w.heap.size w ((((w13.setCell ⟨w.heap.size, 0, none⟩ (.slice none 0 0)).setCell ⟨w.heap.size, 1, none⟩ (.int .i64 0)).setCell ⟨w.heap.size, 2, none⟩ (.bool false)).setCell ⟨w.heap.size, 3, none⟩ (.int .i64 0)) := (((hbz.out.setCell (p := ⟨w.heap.size, 0, none⟩) (Nat.le_refl _) _).setCell (p := ⟨w.heap.size, 1, none⟩) (Nat.le_refl _) _).setCell (p := ⟨w.heap.size, 2, none⟩) (Nat.le_refl _) _).setCell (p := ⟨w.heap.size, 3, none⟩) (Nat.le_refl _) _
                clear g1 g2 g3 p0 p1 p2 p3 e0 e1 e2 e3
                generalize ((((w13.setCell ⟨w.heap.size, 0, none⟩ (.slice none 0 0)).setCell ⟨w.heap.size, 1, none⟩ (.int .i64 0)).setCell ⟨w.heap.size, 2, none⟩ (.bool false)).setCell ⟨w.heap.size, 3, none⟩ (.int .i64 0)) = wz at *
                have z0 : wz.cell? ⟨w.heap.size, 0, none⟩ = some (.slice none 0 0) := by rw [cell_of_row _ _ _ _ _ _ g4]; rfl
                have z1 : wz.cell? ⟨w.heap.size, 1, none⟩ = some (.int .i64 0) := by rw [cell_of_row _ _ _ _ _ _ g4]; rfl
                have z2 : wz.cell? ⟨w.heap.size, 2, none⟩ = some (.bool false) := by rw [cell_of_row _ _ _ _ _ _ g4]; rfl
                have z3 : wz.cell? ⟨w.heap.size, 3, none⟩ = some (.int .i64 0) := by rw [cell_of_row _ _ _ _ _ _ g4]; rfl
                exact bodyPost_ret (v := .tuple #[zeroJ, .int .i64 4]) (by simp [results, Tryz.results12, go_sem, z0, z1, z2, z3, zeroJ]) rfl ⟨.inr ⟨by rw [if_neg H8.out], noJob HNO.out⟩, hb5⟩
        · refine Lib.hid ?_
          intro z6 z14 z15 z16 z17 z18 z88 z89 z90 z91 z92 z93 z94 z95 z96 z97 z98 z99 z100 z101 z102 z103 z104 z105 z106 z107 z108 z109 z110 z111 z112 z113 z114 z115 z116 z117 z118 z119 z120 z121 z122 z123 z124 z125 z126 z127 z128 z129 z130 z131 z132 z133 z134 z135 z136 z137 z138 z139 z140 z141 z142 z143 z144 z145 z146 z147 z148 z149 z150 z151 z152 z153 z154 z155 z156 z157 z158 z159 z160 wz hno g4 hb5
          have HNO := Lib.hid hno
          have z0 : wz.cell? ⟨w.heap.size, 0, none⟩ = some (.slice none 0 0) := by rw [cell_of_row _ _ _ _ _ _ g4]; rfl
          have z1 : wz.cell? ⟨w.heap.size, 1, none⟩ = some (.int .i64 0) := by rw [cell_of_row _ _ _ _ _ _ g4]; rfl
          have z2 : wz.cell? ⟨w.heap.size, 2, none⟩ = some (.bool false) := by rw [cell_of_row _ _ _ _ _ _ g4]; rfl
          have z3 : wz.cell? ⟨w.heap.size, 3, none⟩ = some (.int .i64 0) := by rw [cell_of_row _ _ _ _ _ _ g4]; rfl
          exact bodyPost_ret (v := .tuple #[zeroJ, .int .i64 4]) (by simp [results, Tryz.results12, go_sem, z0, z1, z2, z3, zeroJ]) rfl ⟨.inr ⟨by rw [if_neg H8.out], noJob HNO.out⟩, hb5⟩
  · have he : ((c.toNat : Int) == 10) = false := by
      rw [beq_eq_false_iff_ne]
      intro h
      exact hc (UInt8.toNat_inj.1 (by show c.toNat = 10; omega))
    have heb : ((c.toNat : Int) != 10) = true := by rw [bne, he]; rfl
    have HNO : Hid (∀ j, jobFault j = 0 → jobL j ≠ s) := fun j _ e => by
      have h := jobL_last j
      rw [e, HTC.out, List.getLast?_concat] at h
      injection h with h
      exact hc h
    clear hc
    go_enter Tryz.func12, Tryz.ntmps12
    go_wp2
    refine bodyPost_ret (v := .tuple #[zeroJ, .int .i64 4]) (by simp [results, Tryz.results12, go_sem, zeroJ]) rfl ⟨.inr ⟨by rw [if_neg H8.out], noJob HNO.out⟩, ?_⟩
    first | exact below_box _ | exact (((((below_box _).setCell (p := ⟨w.heap.size, 0, none⟩) (Nat.le_refl _) _).setCell (p := ⟨w.heap.size, 1, none⟩) (Nat.le_refl _) _).setCell (p := ⟨w.heap.size, 2, none⟩) (Nat.le_refl _) _).setCell (p := ⟨w.heap.size, 3, none⟩) (Nat.le_refl _) _)
end Go.Proofs.YtfjpgjkfmcedoaaGreatDoor
