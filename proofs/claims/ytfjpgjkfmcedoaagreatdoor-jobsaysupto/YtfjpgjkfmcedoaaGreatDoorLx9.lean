/- The document's lexer: an expression. Written by tpl/mk_lx9.py. -/
import Derived.Test.YtfjpgjkfmcedoaaGreatDoorG14
namespace Go.Proofs.YtfjpgjkfmcedoaaGreatDoor
open Go.ChangeShapes Go.WideShapes Go.ChangeAt Go.RowKit
theorem LSt.bad {P B a : Nat} {s t : List UInt8} {b : Bool} {k n : Int} {sv : Value} {w wr : World} (h : LSt P B s a b k n t sv w wr) : LSt P B s a true k n t sv w (wr.setCell ⟨P, 2, none⟩ (.bool true)) :=
  h.read (h.lx.set 2 _) ((Only.refl P wr).setCell 2 _)
theorem lsaid_row {P B a : Nat} {s t : List UInt8} {b : Bool} {k n : Int} {sv : Value} {w wr : World} (h : LSt P B s a b k n t sv w wr) (v0 v1 v2 v3 : Value) :
    ((((wr.setCell ⟨w.heap.size, 0, none⟩ v0).setCell ⟨w.heap.size, 1, none⟩ v1).setCell ⟨w.heap.size, 2, none⟩ v2).setCell ⟨w.heap.size, 3, none⟩ v3).heap[w.heap.size]? = some (.cells #[v0, v1, v2, v3] 44 (0, 0)) := by
  have g1 := heap_set (j := 0) h.res v0
  have g2 := heap_set (j := 1) g1 v1
  have g3 := heap_set (j := 2) g2 v2
  exact heap_set (j := 3) g3 v3
theorem lsaid_end {P B a d a' : Nat} {s t : List UInt8} {b' : Bool} {k n : Int} {sv : Value} {ks : List Ex} {w wr : World} (X : LSt P B s a' b' k n t sv w wr) (hx : IsExW (B + 1) wr.heap.size wr sv (.mk k n t ks)) (he : LexE s a d (.mk k n t ks) a' b') :
    LexSaid P s a d w (.returned ((Ex.mk k n t ks).val sv)) ((((wr.setCell ⟨w.heap.size, 0, none⟩ (.int .i64 k)).setCell ⟨w.heap.size, 1, none⟩ (.int .i64 n)).setCell ⟨w.heap.size, 2, none⟩ (.string (bs t))).setCell ⟨w.heap.size, 3, none⟩ sv) := by
  have h1 := X.ltP
  have h2 := X.ltB
  have hne : P ≠ w.heap.size := by omega
  have ltw : w.heap.size < B + 1 := by omega
  refine ⟨_, a', b', sv, rfl, ((((hx.put ltw _).put ltw _).put ltw _).put ltw _).wide (by omega) (by simp), he, ?_, only_setCell (only_setCell (only_setCell (only_setCell X.only (Nat.le_refl _) _) (Nat.le_refl _) _) (Nat.le_refl _) _) (Nat.le_refl _) _⟩
  exact (((X.lx.other 0 _ hne).other 1 _ hne).other 2 _ hne).other 3 _ hne
set_option maxRecDepth 100000 in
set_option maxHeartbeats 8000000 in
theorem lexpr_any (m : Nat) : ∀ (d a P : Nat) (s : List UInt8) (w : World), 7 - d < m → d ≤ 6 → s.length ≤ 1000 → a ≤ s.length + 1 → Blk w P 64 (lexC s a false) →
    Calls Tryz.prog 28 #[.pointer (some ⟨P, 0, none⟩), .int .i64 (d : Int)] w (LexSaid P s a d w) := by
  induction m with
  | zero => intro d a P s w h; omega
  | succ m ih =>
    intro d a P s w hm hd hs ha hl
    have IH : d ≤ 5 → Hid (∀ a w1, Blk w1 P 64 (lexC s a false) → a ≤ s.length + 1 → Calls Tryz.prog 28 #[.pointer (some ⟨P, 0, none⟩), .int .i64 ((d + 1 : Nat) : Int)] w1 (LexSaid P s a (d + 1) w1)) := fun h5 a w1 h1 h2 => ih (d + 1) a P s w1 (by omega) (by omega) hs h2 h1
    have hPw := hl.lt
    obtain ⟨w1, hw1⟩ : ∃ w1, w1 = w.alloc (.cells #[.int .i64 0, .int .i64 0, .string ⟨#[]⟩, .slice none 0 0] 44) := ⟨_, rfl⟩
    have hb1 : Below w.heap.size w w1 := by rw [hw1]; exact below_box _
    have hs1 : w1.heap.size = w.heap.size + 1 := by rw [hw1]; simp
    have R1 : Blk w1 w.heap.size 44 [.int .i64 0, .int .i64 0, .string ⟨#[]⟩, .slice none 0 0] := by rw [hw1]; exact Blk.new _ _ _
    obtain ⟨w2, hw2⟩ : ∃ w2, w2 = w1.alloc (.cells nmV.toArray 9) := ⟨_, rfl⟩
    have hb2 : Below w1.heap.size w1 w2 := by rw [hw2]; exact below_box _
    have hs2 : w2.heap.size = w.heap.size + 2 := by rw [hw2, ← Nat.add_zero 2]; simp; omega
    have N2 : Blk w2 (w.heap.size + 1) 9 nmV := by rw [hw2, ← hs1]; exact Blk.new _ _ _
    obtain ⟨w3, hw3⟩ : ∃ w3, w3 = w2.alloc (.cells #[.int .i64 0, .int .i64 0, .string ⟨#[]⟩, .slice none 0 0] 44) := ⟨_, rfl⟩
    have hb3 : Below w2.heap.size w2 w3 := by rw [hw3]; exact below_box _
    have E3 : Blk w3 (w.heap.size + 2) 44 [.int .i64 0, .int .i64 0, .string ⟨#[]⟩, .slice none 0 0] := by rw [hw3, ← hs2]; exact Blk.new _ _ _
    have R3 := (R1.blw hb2).blw hb3
    have N3 := N2.blw hb3
    have hb03 : Below w.heap.size w w3 := below_trans (below_trans hb1 hb2) hb3
    have L3 := hl.blw hb03
    rw [hw2, hw1] at hw3
    unfold nmV at hw3
    have HW3 := Lib.hid hw3
    obtain ⟨W, hW⟩ : ∃ W, W = wordR (s.drop a) := ⟨_, rfl⟩
    obtain ⟨a1, ha1⟩ : ∃ n, n = a + W.length + 1 := ⟨_, rfl⟩
    obtain ⟨k, hk⟩ : ∃ k, k = nameK W := ⟨_, rfl⟩
    have WD : Hid (Calls Tryz.prog 25 #[.pointer (some ⟨P, 0, none⟩)] w3 fun e w' => e = .returned (.string (bs W)) ∧ LxAt P s a1 false w3 w') := by
      rw [ha1, hW]
      exact lword_any P s a false w3 L3 hs (by omega)
    have BAD0 : Hid (k = 0 ∨ 6 ≤ d → LexE s a d (.mk k 0 [] []) a1 true) := by
      rw [hk, ha1, hW]
      exact fun h => lexE_bad0 h
    have BAD1 : Hid (∀ n a', LexN k s a1 n a' true → LexE s a d (.mk k n [] []) a' true) := by
      rw [hk, ha1, hW]
      exact fun n a' h => lexE_bad1 h
    have NODE : Hid (k ≠ 0 → ∀ n t a2 a3 b3 i ks ai bi, LexN k s a1 n a2 false → LexW k s a2 t a3 b3 → LexK s a3 (d + 1) b3 i ks ai bi → i ≤ partsK k → (bi = false → i = partsK k) → LexE s a d (.mk k n t ks) ai bi) := by
      rw [hk, ha1, hW]
      exact fun h n t a2 a3 b3 i ks ai bi h1 h2 h3 h4 h5 => lexE_node h h1 h2 h3 h4 h5
    have hk10 : 0 ≤ k ∧ k ≤ 10 := by rw [hk]; exact nameK_rng W
    have HA1 : Hid (k ≠ 0 → a1 ≤ s.length + 1) := by
      show _ → _
      intro h
      rw [ha1, hW]
      refine (word_pos ha).2 fun e => h ?_
      rw [hk, hW, e]
      rfl
    have hA2 : a1 ≤ s.length + 2 := by rw [ha1, hW]; exact (word_pos ha).1
    have HKW := Lib.hid hk
    clear hk ha1 hW
    clear ih hl hw1 hw2 hw3 hb1 hb2 hb3 hs1 hs2 R1 N2
    go_enter Tryz.func28, Tryz.ntmps28
    go_upto_region 3 with fail
    rw [← HW3.out]
    obtain ⟨EB, hEB⟩ : ∃ EB, EB = w.heap.size + 1 + 1 := ⟨_, rfl⟩
    obtain ⟨NB, hNB⟩ : ∃ NB, NB = w.heap.size + 1 := ⟨_, rfl⟩
    rw [← hEB, ← hNB]
    rw [show w.heap.size + 2 = EB from hEB.symm] at E3
    rw [← hNB] at N3
    have hlE : w.heap.size < EB := by omega
    have hne : NB ≠ EB := by omega
    have hlN : w.heap.size < NB := by omega
    clear HW3 hEB hNB
    go_wp2_with (go_at_call 25; refine Hid.out ?_)
    refine Lib.hid ?_
    refine WD.out.mono ?_
    rintro _ w4 ⟨rfl, lx4⟩
    have R4 := (lx4.only.block _ R3.lt (by simp; omega)).trans R3
    have N4 : Hid (Blk w4 NB 9 nmV) := (lx4.only.block _ N3.lt (by simp; omega)).trans N3
    have E4 : Hid (Blk w4 EB 44 [.int .i64 0, .int .i64 0, .string ⟨#[]⟩, .slice none 0 0]) := (lx4.only.block _ E3.lt (by simp; omega)).trans E3
    have O4 : Only P w w4 := (Only.of_below hb03).trans lx4.only
    go_upto_block 0 with fail
    refine wp_norm (lx_b0 NB EB W _ _ _ _ _ _ _ _ _ _ _ _ _ _ _ _ _ _ _ _ _ _ _ _ _ _ _ _ _ _ _ _ _ _ _ _ _ _ _ _ _ _ _ _ _ _ _ _ _ _ _ _ _ _ _ _ _ _ _ _ _ _ _ _ _ _ _ _ _ _ _ _ _ _ _ _ _ _ _ _ _ _ _ _ _ _ _ _ _ _ _ _ _ _ _ _ _ _ _ _ _ _ _ N4 E4 hne ?_)
    refine Lib.hid ?_
    intro z8 z18 z19 z20 z21 z22 z23 z24 z25 z26 z27 z28 z29 w5 hE5 hO5
    rw [← HKW.out] at hE5
    have X5 : Hid (LSt P EB s a1 false k 0 [] (.slice none 0 0) w w5) := by
      refine ⟨(hO5.block P lx4.at'.lt (by simp; omega)).trans lx4.at', (hO5.block _ (blockLt R4) (by simp; omega)).trans R4, hE5, ?_, hPw, hlE⟩
      exact only_far O4 hO5.size hO5.os hO5.tape hO5.output (fun j hj => hO5.block j (Nat.lt_of_lt_of_le hj O4.size) (by simp; omega))
    clear hE5 hO5 O4 R4 N4 E4 lx4 R3 N3 E3 L3 hb03 WD
    have e0 := X5.out.c 0
    by_cases hbad : k = 0 ∨ 6 ≤ d
    · have HLE := Lib.hid (BAD0.out hbad)
      have HEX : Hid (IsExW (EB + 1) w5.heap.size w5 (.slice none 0 0) (.mk k 0 [] [])) := (KidsAt.zero EB w w5).done k 0 []
      have l2 := X5.out.lx.at (i := 2) (v := .bool false) rfl
      have lf := X5.out.lx.frozen 2
      have X6 : Hid (LSt P EB s a1 true k 0 [] (.slice none 0 0) w (w5.setCell ⟨P, 2, none⟩ (.bool true))) := X5.out.bad
      have HEX : Hid (IsExW (EB + 1) (w5.setCell ⟨P, 2, none⟩ (.bool true)).heap.size (w5.setCell ⟨P, 2, none⟩ (.bool true)) (.slice none 0 0) (.mk k 0 [] [])) := (KidsAt.zero EB w _).done k 0 []
      clear IH BAD0 BAD1 NODE HA1 HKW
      by_cases hk0 : k = 0
      · have g0 : (k == 0) = true := by rw [beq_iff_eq]; exact hk0
        clear hbad hk0
        go_upto_region 11 with fail
        generalize w5.setCell ⟨P, 2, none⟩ (.bool true) = w6 at *
        clear e0 l2 lf X5
        have q0 : w6.cell? ⟨EB, 0, none⟩ = some (.int .i64 k) := X6.out.c 0
        have q1 : w6.cell? ⟨EB, 1, none⟩ = some (.int .i64 0) := X6.out.c 1
        have q2 : w6.cell? ⟨EB, 2, none⟩ = some (.string (bs [])) := X6.out.c 2
        have q3 : w6.cell? ⟨EB, 3, none⟩ = some ((.slice none 0 0)) := X6.out.c 3
        have p0 : w6.cell? ⟨w.heap.size, 0, none⟩ = some (.int .i64 0) := by rw [cell_of_row _ _ _ _ _ _ X6.out.res]; rfl
        have p1 : w6.cell? ⟨w.heap.size, 1, none⟩ = some (.int .i64 0) := by rw [cell_of_row _ _ _ _ _ _ X6.out.res]; rfl
        have p2 : w6.cell? ⟨w.heap.size, 2, none⟩ = some (.string ⟨#[]⟩) := by rw [cell_of_row _ _ _ _ _ _ X6.out.res]; rfl
        have p3 : w6.cell? ⟨w.heap.size, 3, none⟩ = some (.slice none 0 0) := by rw [cell_of_row _ _ _ _ _ _ X6.out.res]; rfl
        have f0 := frozen_of_row w6 w.heap.size 0 _ _ X6.out.res
        have f1 := frozen_of_row w6 w.heap.size 1 _ _ X6.out.res
        have f2 := frozen_of_row w6 w.heap.size 2 _ _ X6.out.res
        have f3 := frozen_of_row w6 w.heap.size 3 _ _ X6.out.res
        have hBne : ¬ EB = w.heap.size := by have := X6.out.ltB; omega
        go_wp2
        (try simp only [Exit.inBlock, Exit.then])
        refine bodyPost_ret (results_cell_row rfl _ _ w.heap.size 44 #[.int .i64 k, .int .i64 0, .string (bs []), (.slice none 0 0)] (0, 0) _ rfl (lsaid_row X6.out _ _ _ _) Tryz.underlying44 rfl (by kernel_rfl)) rfl ?_
        exact lsaid_end X6.out HEX.out HLE.out
      · have g0 : (k == 0) = false := by rw [beq_eq_false_iff_ne]; exact hk0
        have h5d : (5 : Int) < (d : Int) := by omega
        clear hbad hk0
        go_upto_region 11 with fail
        generalize w5.setCell ⟨P, 2, none⟩ (.bool true) = w6 at *
        clear e0 l2 lf X5
        have q0 : w6.cell? ⟨EB, 0, none⟩ = some (.int .i64 k) := X6.out.c 0
        have q1 : w6.cell? ⟨EB, 1, none⟩ = some (.int .i64 0) := X6.out.c 1
        have q2 : w6.cell? ⟨EB, 2, none⟩ = some (.string (bs [])) := X6.out.c 2
        have q3 : w6.cell? ⟨EB, 3, none⟩ = some ((.slice none 0 0)) := X6.out.c 3
        have p0 : w6.cell? ⟨w.heap.size, 0, none⟩ = some (.int .i64 0) := by rw [cell_of_row _ _ _ _ _ _ X6.out.res]; rfl
        have p1 : w6.cell? ⟨w.heap.size, 1, none⟩ = some (.int .i64 0) := by rw [cell_of_row _ _ _ _ _ _ X6.out.res]; rfl
        have p2 : w6.cell? ⟨w.heap.size, 2, none⟩ = some (.string ⟨#[]⟩) := by rw [cell_of_row _ _ _ _ _ _ X6.out.res]; rfl
        have p3 : w6.cell? ⟨w.heap.size, 3, none⟩ = some (.slice none 0 0) := by rw [cell_of_row _ _ _ _ _ _ X6.out.res]; rfl
        have f0 := frozen_of_row w6 w.heap.size 0 _ _ X6.out.res
        have f1 := frozen_of_row w6 w.heap.size 1 _ _ X6.out.res
        have f2 := frozen_of_row w6 w.heap.size 2 _ _ X6.out.res
        have f3 := frozen_of_row w6 w.heap.size 3 _ _ X6.out.res
        have hBne : ¬ EB = w.heap.size := by have := X6.out.ltB; omega
        go_wp2
        (try simp only [Exit.inBlock, Exit.then])
        refine bodyPost_ret (results_cell_row rfl _ _ w.heap.size 44 #[.int .i64 k, .int .i64 0, .string (bs []), (.slice none 0 0)] (0, 0) _ rfl (lsaid_row X6.out _ _ _ _) Tryz.underlying44 rfl (by kernel_rfl)) rfl ?_
        exact lsaid_end X6.out HEX.out HLE.out
    · have hk0 : k ≠ 0 := fun e => hbad (.inl e)
      have hd5 : d ≤ 5 := by omega
      have g0 : (k == 0) = false := by rw [beq_eq_false_iff_ne]; exact hk0
      have h5d : ¬ (5 : Int) < (d : Int) := by omega
      have HA := HA1.out hk0
      have NOD := Lib.hid (NODE.out hk0)
      have IHD := IH hd5
      have hN := hasNum_is k (by omega) hk10.2
      have hT := hasTxt_is k (by omega) hk10.2
      have hm22 : partsK k ≤ 2 := by
        unfold partsK
        repeat' split
        all_goals omega
      clear hbad IH BAD0 NODE HA1 HKW
      by_cases hq : k = 3 ∨ k = 6 ∨ k = 7
      · have hT4 : hasTxt k = false := by rw [hT]; exact decide_eq_false (by omega)
        rw [decide_eq_true hq] at hN
        have g4 : (k == 4) = false := by rw [beq_eq_false_iff_ne]; omega
        obtain ⟨W2, hW2⟩ : ∃ W2, W2 = wordR (s.drop a1) := ⟨_, rfl⟩
        obtain ⟨a2, ha2⟩ : ∃ n, n = a1 + W2.length + 1 := ⟨_, rfl⟩
        obtain ⟨nb, hnb⟩ : ∃ nb, nb = Pp.Num.numB W2 := ⟨_, rfl⟩
        have hwl : W2.length ≤ 1000 := by rw [hW2]; have := wordR_len (s.drop a1); simp at this; omega
        have WD2 : Hid (Calls Tryz.prog 25 #[.pointer (some ⟨P, 0, none⟩)] w5 fun e w' => e = .returned (.string (bs W2)) ∧ LxAt P s a2 false w5 w') := by
          rw [ha2, hW2]
          exact lword_any P s a1 false w5 X5.out.lx hs (by omega)
        have HNN : Hid (∀ x b, b = nb.isNone → (∀ v, nb = some v → x = v) → LexN k s a1 x a2 b) := by
          intro x b h1 h2
          unfold LexN
          rw [if_pos hN, ← hW2, ← hnb]
          exact ⟨ha2, h1, h2⟩
        have NB : Hid (∀ w6, Calls Tryz.prog 26 #[.string (bs W2)] w6 fun e w' => (∃ x, e = .returned (.tuple #[.int .i64 x, .bool nb.isSome]) ∧ ∀ v, nb = some v → x = v) ∧ w' = w6) := by
          intro w6
          rw [hnb]
          have h := Pp.number_any (bs W2) w6 (by rw [bs_size]; unfold maxLen; omega)
          unfold Pp.NumSaid at h
          rw [show (bs W2).data.toList = W2 from rfl] at h
          exact h
        have HTW : Hid (LexW k s a2 [] a2 false) := by
          show LexW _ _ _ _ _ _
          unfold LexW
          rw [hT4, if_neg (by simp)]
          exact ⟨rfl, rfl, rfl⟩
        clear hN hT hT4 hW2 ha2 hnb hwl
        rcases hq with hq | hq | hq
        all_goals
          first
          | (have g3 : (k == 3) = true := by rw [beq_iff_eq]; exact hq)
          | (have g3 : (k == 3) = false := by rw [beq_eq_false_iff_ne]; omega)
          first
          | (have g6 : (k == 6) = true := by rw [beq_iff_eq]; exact hq)
          | (have g6 : (k == 6) = false := by rw [beq_eq_false_iff_ne]; omega)
          first
          | (have g7 : (k == 7) = true := by rw [beq_iff_eq]; exact hq)
          | (have g7 : (k == 7) = false := by rw [beq_eq_false_iff_ne]; omega)
          clear hq
          go_wp2_with (go_at_call 25; refine Hid.out ?_)
          refine Lib.hid ?_
          refine WD2.out.mono ?_
          rintro _ w6 ⟨rfl, lx6⟩
          have X6 := Lib.hid (X5.out.read lx6.at' lx6.only)
          have c1 : w6.cell? ⟨EB, 1, none⟩ = some (.int .i64 0) := X6.out.c 1
          have f1 := X6.out.f 1
          have NB6 := Lib.hid (NB.out w6)
          clear WD2 lx6 X5 e0
          go_wp2_with (go_at_call 26; refine Hid.out ?_)
          refine Lib.hid ?_
          refine NB6.out.mono ?_
          rintro _ w6 ⟨⟨x, rfl, hx⟩, rfl⟩
          have HX := Lib.hid hx
          clear hx NB NB6
          have X7 : Hid (LSt P EB s a2 false k x [] (.slice none 0 0) w (w6.setCell ⟨EB, 1, none⟩ (.int .i64 x))) := X6.out.put (by rfl)
          rcases nb with _ | v
          · have HLE : Hid (LexE s a d (.mk k x [] []) a2 true) := BAD1.out x a2 (HNN.out x true rfl (fun v e => by cases e))
            go_upto_region 16 with fail
            generalize w6.setCell ⟨EB, 1, none⟩ (.int .i64 x) = w7 at *
            clear c1 f1 X6 HX HNN NOD IHD HTW BAD1
            have l2 := X7.out.lx.at (i := 2) (v := .bool false) rfl
            have lf := X7.out.lx.frozen 2
            have X8 : Hid (LSt P EB s a2 true k x [] (.slice none 0 0) w (w7.setCell ⟨P, 2, none⟩ (.bool true))) := X7.out.bad
            have HEX : Hid (IsExW (EB + 1) (w7.setCell ⟨P, 2, none⟩ (.bool true)).heap.size (w7.setCell ⟨P, 2, none⟩ (.bool true)) (.slice none 0 0) (.mk k x [] [])) := (KidsAt.zero EB w _).done k x []
            go_upto_region 17 with fail
            generalize w7.setCell ⟨P, 2, none⟩ (.bool true) = w8 at *
            clear l2 lf X7
            have q0 : w8.cell? ⟨EB, 0, none⟩ = some (.int .i64 k) := X8.out.c 0
            have q1 : w8.cell? ⟨EB, 1, none⟩ = some (.int .i64 x) := X8.out.c 1
            have q2 : w8.cell? ⟨EB, 2, none⟩ = some (.string (bs [])) := X8.out.c 2
            have q3 : w8.cell? ⟨EB, 3, none⟩ = some ((.slice none 0 0)) := X8.out.c 3
            have p0 : w8.cell? ⟨w.heap.size, 0, none⟩ = some (.int .i64 0) := by rw [cell_of_row _ _ _ _ _ _ X8.out.res]; rfl
            have p1 : w8.cell? ⟨w.heap.size, 1, none⟩ = some (.int .i64 0) := by rw [cell_of_row _ _ _ _ _ _ X8.out.res]; rfl
            have p2 : w8.cell? ⟨w.heap.size, 2, none⟩ = some (.string ⟨#[]⟩) := by rw [cell_of_row _ _ _ _ _ _ X8.out.res]; rfl
            have p3 : w8.cell? ⟨w.heap.size, 3, none⟩ = some (.slice none 0 0) := by rw [cell_of_row _ _ _ _ _ _ X8.out.res]; rfl
            have f0 := frozen_of_row w8 w.heap.size 0 _ _ X8.out.res
            have f1 := frozen_of_row w8 w.heap.size 1 _ _ X8.out.res
            have f2 := frozen_of_row w8 w.heap.size 2 _ _ X8.out.res
            have f3 := frozen_of_row w8 w.heap.size 3 _ _ X8.out.res
            have hBne : ¬ EB = w.heap.size := by have := X8.out.ltB; omega
            go_wp2
            (try simp only [Exit.inBlock, Exit.then])
            refine bodyPost_ret (results_cell_row rfl _ _ w.heap.size 44 #[.int .i64 k, .int .i64 x, .string (bs []), (.slice none 0 0)] (0, 0) _ rfl (lsaid_row X8.out _ _ _ _) Tryz.underlying44 rfl (by kernel_rfl)) rfl ?_
            exact lsaid_end X8.out HEX.out HLE.out
          · have HN0 : Hid (LexN k s a1 x a2 false) := HNN.out x false rfl HX.out
            have hps : Hid (PosL s a2 false) := (lexN_pos HN0.out).2.1 HA
            go_upto_region 18 with fail
            generalize w6.setCell ⟨EB, 1, none⟩ (.int .i64 x) = w7 at *
            clear c1 f1 X6 HX HNN BAD1
            have e0 := X7.out.c 0
            go_upto_region 20 with fail
            go_upto_block 2 with fail
            refine wp_norm (lx_b2 k _ _ _ _ _ _ _ _ _ _ _ _ _ _ _ _ _ _ _ _ _ _ _ _ _ _ _ _ _ _ _ _ _ _ _ _ _ _ _ _ _ _ _ _ _ _ _ _ _ _ _ _ _ _ _ _ _ _ _ _ _ _ _ _ _ _ _ _ _ _ _ _ _ _ _ _ _ _ _ _ _ _ _ _ _ _ _ _ _ _ _ _ _ _ _ _ _ _ _ _ _ _ _ _ _  ?_)
            refine Lib.hid ?_
            rintro z76 z77 z78 z79 z80 z81 _ rfl
            go_upto_block 3 with fail
            refine wp_norm (lx_b3 P EB s _ d (partsK k) _ k x [] w _ _ _ _ _ _ _ _ _ _ _ _ _ _ _ _ _ _ _ _ _ _ _ _ _ _ _ _ _ _ _ _ _ _ _ _ _ _ _ _ _ _ _ _ _ _ _ _ _ _ _ _ _ _ _ _ _ _ _ _ _ _ _ _ _ _ _ _ _ _ _ _ _ _ _ _ _ _ _ _ _ _ _ _ _ _ _ _ _ _ _ _ _ _ _ _ _ _ _ _ _ _ X7 hd5 hm22 hps IHD ?_)
            refine Lib.hid ?_
            intro z12 z13 z82 z83 z84 z85 z86 z87 z88 z89 z90 z91 z92 z93 z94 z95 z96 z97 z98 z99 z100 z101 z102 z103 i ks ai bi sv wr hX hK hL hi he
            have XF := Lib.hid hX
            have HLE : Hid (LexE s a d (.mk k x [] ks) ai bi) := NOD.out x [] _ _ _ i ks ai bi HN0.out HTW.out hL hi he
            have hex := hK.done k x []
            obtain ⟨sa, sc, hsv⟩ := hex.self.slice
            simp only [Ex.a] at hsv
            subst hsv
            have HEX := Lib.hid hex
            clear hX hK hL hi he hex e0 X7 IHD NOD HTW HN0 hps
            have q0 : wr.cell? ⟨EB, 0, none⟩ = some (.int .i64 k) := XF.out.c 0
            have q1 : wr.cell? ⟨EB, 1, none⟩ = some (.int .i64 x) := XF.out.c 1
            have q2 : wr.cell? ⟨EB, 2, none⟩ = some (.string (bs [])) := XF.out.c 2
            have q3 : wr.cell? ⟨EB, 3, none⟩ = some ((.slice sa ks.length sc)) := XF.out.c 3
            have p0 : wr.cell? ⟨w.heap.size, 0, none⟩ = some (.int .i64 0) := by rw [cell_of_row _ _ _ _ _ _ XF.out.res]; rfl
            have p1 : wr.cell? ⟨w.heap.size, 1, none⟩ = some (.int .i64 0) := by rw [cell_of_row _ _ _ _ _ _ XF.out.res]; rfl
            have p2 : wr.cell? ⟨w.heap.size, 2, none⟩ = some (.string ⟨#[]⟩) := by rw [cell_of_row _ _ _ _ _ _ XF.out.res]; rfl
            have p3 : wr.cell? ⟨w.heap.size, 3, none⟩ = some (.slice none 0 0) := by rw [cell_of_row _ _ _ _ _ _ XF.out.res]; rfl
            have f0 := frozen_of_row wr w.heap.size 0 _ _ XF.out.res
            have f1 := frozen_of_row wr w.heap.size 1 _ _ XF.out.res
            have f2 := frozen_of_row wr w.heap.size 2 _ _ XF.out.res
            have f3 := frozen_of_row wr w.heap.size 3 _ _ XF.out.res
            have hBne : ¬ EB = w.heap.size := by have := XF.out.ltB; omega
            go_wp2
            (try simp only [Exit.inBlock, Exit.then])
            refine bodyPost_ret (results_cell_row rfl _ _ w.heap.size 44 #[.int .i64 k, .int .i64 x, .string (bs []), (.slice sa ks.length sc)] (0, 0) _ rfl (lsaid_row XF.out _ _ _ _) Tryz.underlying44 rfl (by kernel_rfl)) rfl ?_
            exact lsaid_end XF.out HEX.out HLE.out
      · have g3 : (k == 3) = false := by rw [beq_eq_false_iff_ne]; omega
        have g6 : (k == 6) = false := by rw [beq_eq_false_iff_ne]; omega
        have g7 : (k == 7) = false := by rw [beq_eq_false_iff_ne]; omega
        rw [decide_eq_false hq] at hN
        have HN0 : Hid (LexN k s a1 0 a1 false) := by
          show LexN _ _ _ _ _ _
          unfold LexN
          rw [hN, if_neg (by simp)]
          exact ⟨rfl, rfl, rfl⟩
        by_cases h4 : k = 4
        · have g4 : (k == 4) = true := by rw [beq_iff_eq]; exact h4
          rw [decide_eq_true h4] at hT
          have QU := Lib.hid (lquoted_any P s a1 false w5 X5.out.lx hs (by omega))
          have HTW : Hid (LexW k s a1 (lexT s a1 false).1 (lexT s a1 false).2.1 (lexT s a1 false).2.2) := by
            show LexW _ _ _ _ _ _
            unfold LexW
            rw [if_pos hT]
          clear hN hT hq h4
          generalize (lexT s a1 false).1 = t at *
          generalize (lexT s a1 false).2.1 = a3 at *
          generalize (lexT s a1 false).2.2 = b3 at *
          go_wp2_with (go_at_call 29; refine Hid.out ?_)
          refine Lib.hid ?_
          refine QU.out.mono ?_
          rintro _ w6 ⟨rfl, lx6⟩
          have X6 := Lib.hid (X5.out.read lx6.at' lx6.only)
          have c2 : w6.cell? ⟨EB, 2, none⟩ = some (.string ⟨#[]⟩) := X6.out.c 2
          have f2 := X6.out.f 2
          have X7 : Hid (LSt P EB s a3 b3 k 0 t (.slice none 0 0) w (w6.setCell ⟨EB, 2, none⟩ (.string (bs t)))) := X6.out.put (by rfl)
          clear QU lx6 X5 e0
          go_upto_region 20 with fail
          generalize w6.setCell ⟨EB, 2, none⟩ (.string (bs t)) = w7 at *
          clear c2 f2 X6
          have hps : Hid (PosL s a3 b3) := lexW_pos HTW.out HA
          have e0 := X7.out.c 0
          go_upto_block 2 with fail
          refine wp_norm (lx_b2 k _ _ _ _ _ _ _ _ _ _ _ _ _ _ _ _ _ _ _ _ _ _ _ _ _ _ _ _ _ _ _ _ _ _ _ _ _ _ _ _ _ _ _ _ _ _ _ _ _ _ _ _ _ _ _ _ _ _ _ _ _ _ _ _ _ _ _ _ _ _ _ _ _ _ _ _ _ _ _ _ _ _ _ _ _ _ _ _ _ _ _ _ _ _ _ _ _ _ _ _ _ _ _ _ _  ?_)
          refine Lib.hid ?_
          rintro z76 z77 z78 z79 z80 z81 _ rfl
          go_upto_block 3 with fail
          refine wp_norm (lx_b3 P EB s _ d (partsK k) _ k 0 t w _ _ _ _ _ _ _ _ _ _ _ _ _ _ _ _ _ _ _ _ _ _ _ _ _ _ _ _ _ _ _ _ _ _ _ _ _ _ _ _ _ _ _ _ _ _ _ _ _ _ _ _ _ _ _ _ _ _ _ _ _ _ _ _ _ _ _ _ _ _ _ _ _ _ _ _ _ _ _ _ _ _ _ _ _ _ _ _ _ _ _ _ _ _ _ _ _ _ _ _ _ _ X7 hd5 hm22 hps IHD ?_)
          refine Lib.hid ?_
          intro z12 z13 z82 z83 z84 z85 z86 z87 z88 z89 z90 z91 z92 z93 z94 z95 z96 z97 z98 z99 z100 z101 z102 z103 i ks ai bi sv wr hX hK hL hi he
          have XF := Lib.hid hX
          have HLE : Hid (LexE s a d (.mk k 0 t ks) ai bi) := NOD.out 0 t _ _ _ i ks ai bi HN0.out HTW.out hL hi he
          have hex := hK.done k 0 t
          obtain ⟨sa, sc, hsv⟩ := hex.self.slice
          simp only [Ex.a] at hsv
          subst hsv
          have HEX := Lib.hid hex
          clear hX hK hL hi he hex e0 X7 IHD NOD HTW HN0 hps
          have q0 : wr.cell? ⟨EB, 0, none⟩ = some (.int .i64 k) := XF.out.c 0
          have q1 : wr.cell? ⟨EB, 1, none⟩ = some (.int .i64 0) := XF.out.c 1
          have q2 : wr.cell? ⟨EB, 2, none⟩ = some (.string (bs t)) := XF.out.c 2
          have q3 : wr.cell? ⟨EB, 3, none⟩ = some ((.slice sa ks.length sc)) := XF.out.c 3
          have p0 : wr.cell? ⟨w.heap.size, 0, none⟩ = some (.int .i64 0) := by rw [cell_of_row _ _ _ _ _ _ XF.out.res]; rfl
          have p1 : wr.cell? ⟨w.heap.size, 1, none⟩ = some (.int .i64 0) := by rw [cell_of_row _ _ _ _ _ _ XF.out.res]; rfl
          have p2 : wr.cell? ⟨w.heap.size, 2, none⟩ = some (.string ⟨#[]⟩) := by rw [cell_of_row _ _ _ _ _ _ XF.out.res]; rfl
          have p3 : wr.cell? ⟨w.heap.size, 3, none⟩ = some (.slice none 0 0) := by rw [cell_of_row _ _ _ _ _ _ XF.out.res]; rfl
          have f0 := frozen_of_row wr w.heap.size 0 _ _ XF.out.res
          have f1 := frozen_of_row wr w.heap.size 1 _ _ XF.out.res
          have f2 := frozen_of_row wr w.heap.size 2 _ _ XF.out.res
          have f3 := frozen_of_row wr w.heap.size 3 _ _ XF.out.res
          have hBne : ¬ EB = w.heap.size := by have := XF.out.ltB; omega
          go_wp2
          (try simp only [Exit.inBlock, Exit.then])
          refine bodyPost_ret (results_cell_row rfl _ _ w.heap.size 44 #[.int .i64 k, .int .i64 0, .string (bs t), (.slice sa ks.length sc)] (0, 0) _ rfl (lsaid_row XF.out _ _ _ _) Tryz.underlying44 rfl (by kernel_rfl)) rfl ?_
          exact lsaid_end XF.out HEX.out HLE.out
        · have g4 : (k == 4) = false := by rw [beq_eq_false_iff_ne]; exact h4
          rw [decide_eq_false h4] at hT
          have HTW : Hid (LexW k s a1 [] a1 false) := by
            show LexW _ _ _ _ _ _
            unfold LexW
            rw [hT, if_neg (by simp)]
            exact ⟨rfl, rfl, rfl⟩
          have hps : Hid (PosL s a1 false) := ⟨by omega, fun _ => HA⟩
          have X7 := X5
          clear hN hT hq h4 X5
          generalize w5 = w7 at *
          go_upto_block 2 with fail
          refine wp_norm (lx_b2 k _ _ _ _ _ _ _ _ _ _ _ _ _ _ _ _ _ _ _ _ _ _ _ _ _ _ _ _ _ _ _ _ _ _ _ _ _ _ _ _ _ _ _ _ _ _ _ _ _ _ _ _ _ _ _ _ _ _ _ _ _ _ _ _ _ _ _ _ _ _ _ _ _ _ _ _ _ _ _ _ _ _ _ _ _ _ _ _ _ _ _ _ _ _ _ _ _ _ _ _ _ _ _ _ _  ?_)
          refine Lib.hid ?_
          rintro z76 z77 z78 z79 z80 z81 _ rfl
          go_upto_block 3 with fail
          refine wp_norm (lx_b3 P EB s _ d (partsK k) _ k 0 [] w _ _ _ _ _ _ _ _ _ _ _ _ _ _ _ _ _ _ _ _ _ _ _ _ _ _ _ _ _ _ _ _ _ _ _ _ _ _ _ _ _ _ _ _ _ _ _ _ _ _ _ _ _ _ _ _ _ _ _ _ _ _ _ _ _ _ _ _ _ _ _ _ _ _ _ _ _ _ _ _ _ _ _ _ _ _ _ _ _ _ _ _ _ _ _ _ _ _ _ _ _ _ X7 hd5 hm22 hps IHD ?_)
          refine Lib.hid ?_
          intro z12 z13 z82 z83 z84 z85 z86 z87 z88 z89 z90 z91 z92 z93 z94 z95 z96 z97 z98 z99 z100 z101 z102 z103 i ks ai bi sv wr hX hK hL hi he
          have XF := Lib.hid hX
          have HLE : Hid (LexE s a d (.mk k 0 [] ks) ai bi) := NOD.out 0 [] _ _ _ i ks ai bi HN0.out HTW.out hL hi he
          have hex := hK.done k 0 []
          obtain ⟨sa, sc, hsv⟩ := hex.self.slice
          simp only [Ex.a] at hsv
          subst hsv
          have HEX := Lib.hid hex
          clear hX hK hL hi he hex e0 X7 IHD NOD HTW HN0 hps
          have q0 : wr.cell? ⟨EB, 0, none⟩ = some (.int .i64 k) := XF.out.c 0
          have q1 : wr.cell? ⟨EB, 1, none⟩ = some (.int .i64 0) := XF.out.c 1
          have q2 : wr.cell? ⟨EB, 2, none⟩ = some (.string (bs [])) := XF.out.c 2
          have q3 : wr.cell? ⟨EB, 3, none⟩ = some ((.slice sa ks.length sc)) := XF.out.c 3
          have p0 : wr.cell? ⟨w.heap.size, 0, none⟩ = some (.int .i64 0) := by rw [cell_of_row _ _ _ _ _ _ XF.out.res]; rfl
          have p1 : wr.cell? ⟨w.heap.size, 1, none⟩ = some (.int .i64 0) := by rw [cell_of_row _ _ _ _ _ _ XF.out.res]; rfl
          have p2 : wr.cell? ⟨w.heap.size, 2, none⟩ = some (.string ⟨#[]⟩) := by rw [cell_of_row _ _ _ _ _ _ XF.out.res]; rfl
          have p3 : wr.cell? ⟨w.heap.size, 3, none⟩ = some (.slice none 0 0) := by rw [cell_of_row _ _ _ _ _ _ XF.out.res]; rfl
          have f0 := frozen_of_row wr w.heap.size 0 _ _ XF.out.res
          have f1 := frozen_of_row wr w.heap.size 1 _ _ XF.out.res
          have f2 := frozen_of_row wr w.heap.size 2 _ _ XF.out.res
          have f3 := frozen_of_row wr w.heap.size 3 _ _ XF.out.res
          have hBne : ¬ EB = w.heap.size := by have := XF.out.ltB; omega
          go_wp2
          (try simp only [Exit.inBlock, Exit.then])
          refine bodyPost_ret (results_cell_row rfl _ _ w.heap.size 44 #[.int .i64 k, .int .i64 0, .string (bs []), (.slice sa ks.length sc)] (0, 0) _ rfl (lsaid_row XF.out _ _ _ _) Tryz.underlying44 rfl (by kernel_rfl)) rfl ?_
          exact lsaid_end XF.out HEX.out HLE.out
end Go.Proofs.YtfjpgjkfmcedoaaGreatDoor
