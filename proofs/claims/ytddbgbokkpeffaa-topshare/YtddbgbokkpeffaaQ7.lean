/- Queues: the walk of the law TopShare. -/
import Derived.Test.YtddbgbokkpeffaaQ6
import Derived.Test.YtddbgbokkpeffaaBlk
namespace Go.Proofs.Ytddbgbokkpeffaa
open Go.ChangeShapes Go.WideShapes Go.ChangeAt Go.RowKit
open Pk
theorem and63 (x : Int) : 0 ≤ bits .and .i64 x 63 ∧ bits .and .i64 x 63 ≤ 63 := by
  have h2 : (BitVec.ofInt 64 (63 : Int)).toNat = 63 := by decide
  have e : bits .and .i64 x 63 = IntKind.i64.wrap ((BitVec.ofInt 64 x &&& BitVec.ofInt 64 63).toNat : Int) := rfl
  have hle : (BitVec.ofInt 64 x &&& BitVec.ofInt 64 63).toNat ≤ 63 := by
    rw [BitVec.toNat_and, h2]; exact Nat.and_le_right
  rw [e, wrap_small _ (by omega) (by omega)]
  omega
/-- None has, for what it weighs, more than one slot more than any other. -/
def Share (l : List (Int × Int)) (H : List Int) : Prop := ∀ i j, i < l.length → j < l.length → (H.getD i 0 - 1) * wOf l j ≤ H.getD j 0 * wOf l i
theorem share_zero (l : List (Int × Int)) (n : Nat) (hg : ∀ q ∈ l, 1 ≤ q.1) : Share l (List.replicate n 0) := by
  intro i j hi hj
  have e : ∀ k, (List.replicate n (0 : Int)).getD k 0 = 0 := fun k => by
    rw [List.getD_eq_getElem?_getD, List.getElem?_replicate]; split <;> rfl
  have hw : 1 ≤ wOf l j := by unfold wOf; rw [getD_lt _ _ _ hj]; exact hg _ (List.getElem_mem hj)
  rw [e, e]
  omega
theorem getD_set (H : List Int) (k : Nat) (v : Int) (hk : k < H.length) (i : Nat) : (H.set k v).getD i 0 = if i = k then v else H.getD i 0 := by
  rw [List.getD_eq_getElem?_getD, List.getElem?_set, List.getD_eq_getElem?_getD]
  by_cases h : k = i
  · subst h; simp [hk]
  · rw [if_neg h, if_neg (fun e => h e.symm)]
theorem share_step {l : List (Int × Int)} {H : List Int} (hg : ∀ q ∈ l, 1 ≤ q.1) (hs : Share l H) (k : Nat) (hk : k < H.length) (hkl : k < l.length) (hmin : ∀ j, j < l.length → ¬ H.getD j 0 * wOf l k < H.getD k 0 * wOf l j) : Share l (H.set k (H.getD k 0 + 1)) := by
  have hw : ∀ j, j < l.length → 1 ≤ wOf l j := fun j hj => by unfold wOf; rw [getD_lt _ _ _ hj]; exact hg _ (List.getElem_mem hj)
  intro i j hi hj
  have h1 := hs i j hi hj
  have h2 := hmin j hj
  have h3 := hw i hi
  have h4 := hw j hj
  have h5 := hw k hkl
  rw [getD_set H k _ hk i, getD_set H k _ hk j]
  by_cases e1 : i = k
  · subst e1
    rw [if_pos rfl]
    by_cases e2 : j = i
    · subst e2
      rw [if_pos rfl, Int.add_sub_cancel, Int.add_mul]
      omega
    · rw [if_neg e2, Int.add_sub_cancel]
      omega
  · rw [if_neg e1]
    by_cases e2 : j = k
    · subst e2
      rw [if_pos rfl, Int.add_mul]
      omega
    · rw [if_neg e2]
      exact h1
/-- The queues as the law makes them anew. -/
def bigOf (l : List (Int × Int)) : List (Int × Int) := l.map fun q => (q.1, 1000)
theorem bigOf_length (l : List (Int × Int)) : (bigOf l).length = l.length := by simp [bigOf]
theorem bigOf_at (l : List (Int × Int)) (i : Nat) (h : i < l.length) : (bigOf l)[i]'(by rw [bigOf_length]; exact h) = (l[i].1, 1000) := by simp [bigOf]
theorem wOf_big (l : List (Int × Int)) (i : Nat) (h : i < l.length) : wOf (bigOf l) i = wOf l i := by
  unfold wOf
  rw [getD_lt _ _ _ (by rw [bigOf_length]; exact h), getD_lt _ _ _ h, bigOf_at l i h]
theorem cellsQ_append (A B : List (Int × Int)) : cellsQ (A ++ B) = cellsQ A ++ cellsQ B := by simp [cellsQ]
def wantsAt (n k : Nat) : List Value := List.replicate k (.bool true) ++ List.replicate (n - k) (.bool false)
def bigAt (l : List (Int × Int)) (k : Nat) : List Value := cellsQ (bigOf (l.take k)) ++ List.replicate ((l.length - k) * 2) (.int .i64 0)
theorem wantsAt_len (n k : Nat) (h : k ≤ n) : (wantsAt n k).length = n := by simp [wantsAt]; omega
theorem wantsAt_step (n k : Nat) (h : k < n) : (wantsAt n k).set k (.bool true) = wantsAt n (k + 1) := by
  unfold wantsAt
  have e : n - k = (n - (k + 1)) + 1 := by omega
  rw [e, List.replicate_succ, set_mid _ _ _ _ _ (by simp)]
  rw [List.replicate_succ', List.append_assoc]
  rfl
theorem bigAt_len (l : List (Int × Int)) (k : Nat) (h : k ≤ l.length) : (bigAt l k).length = l.length * 2 := by
  simp [bigAt, cellsQ_length, bigOf_length]; omega
theorem bigAt_step (l : List (Int × Int)) (k : Nat) (h : k < l.length) : ((bigAt l k).set (k * 2) (.int .i64 l[k].1)).set (k * 2 + 1) (.int .i64 1000) = bigAt l (k + 1) := by
  unfold bigAt
  have e : (l.length - k) * 2 = (l.length - (k + 1)) * 2 + 1 + 1 := by omega
  have hl : (cellsQ (bigOf (l.take k))).length = k * 2 := by rw [cellsQ_length, bigOf_length, List.length_take]; omega
  rw [e, List.replicate_succ, List.replicate_succ, set_mid _ _ _ _ _ hl.symm]
  have e2 : cellsQ (bigOf (l.take k)) ++ Value.int .i64 l[k].1 :: Value.int .i64 0 :: List.replicate ((l.length - (k + 1)) * 2) (Value.int .i64 0) = (cellsQ (bigOf (l.take k)) ++ [Value.int .i64 l[k].1]) ++ Value.int .i64 0 :: List.replicate ((l.length - (k + 1)) * 2) (Value.int .i64 0) := by simp
  rw [e2, set_mid _ _ _ _ _ (by simp [hl])]
  rw [List.take_succ_eq_append_getElem h]
  have e3 : bigOf (l.take k ++ [l[k]]) = bigOf (l.take k) ++ [(l[k].1, 1000)] := by unfold bigOf; rw [List.map_append]; rfl
  rw [e3, cellsQ_append]
  simp [cellsQ]
theorem isIs_blk {w : World} {g : Nat} {H : List Int} {n : Nat} (h : Blk w g 3 (cellsI H)) (hn : n = H.length) : IsIs w (.slice (some ⟨g, 0, none⟩) n n) H := by
  subst hn
  refine ⟨_, _, rfl, fun i hi => ⟨g, 0, rfl, ?_⟩⟩
  rw [Nat.zero_add]
  exact h.at (by simp [cellsI, hi])
theorem isBs_blk {w : World} {g n : Nat} (h : Blk w g 4 (wantsAt n n)) : IsBs w (.slice (some ⟨g, 0, none⟩) n n) (List.replicate n true) := by
  refine ⟨some ⟨g, 0, none⟩, n, by simp, fun i hi => ⟨g, 0, rfl, ?_⟩⟩
  rw [Nat.zero_add]
  rw [List.length_replicate] at hi
  exact h.at (by simp [wantsAt, hi])
theorem isQs_blk {w : World} {g n : Nat} {l : List (Int × Int)} (hn : n = l.length) (h : Blk w g 33 (bigAt l n)) : IsQs w (.slice (some ⟨g, 0, none⟩) n n) (bigOf l) := by
  subst hn
  have e : bigAt l l.length = cellsQ (bigOf l) := by simp [bigAt]
  rw [e] at h
  refine ⟨some ⟨g, 0, none⟩, l.length, by rw [bigOf_length], fun i hi => ⟨g, 0, rfl, ?_, ?_⟩⟩
  · rw [Nat.zero_add]; exact h.at (cellsQ_at _ i hi).1
  · rw [Nat.zero_add]; exact h.at (cellsQ_at _ i hi).2
theorem infoBool : (Try.prog.info? 4).map (fun i => (i.zero, i.size, i.bytes)) = some (some (.bool false), 1, 1) := by kernel_rfl
theorem infoQueue : (Try.prog.info? 33).map (fun i => (i.zero, i.size, i.bytes)) = some (some (.agg #[.int .i64 0, .int .i64 0]), 2, 16) := by kernel_rfl
theorem made_two (n : Nat) : (madeCells (Value.agg #[.int .i64 0, .int .i64 0]).cells (n * 2)).toList = List.replicate (n * 2) (.int .i64 0) := by
  apply List.ext_getElem?
  intro j
  by_cases hj : j < n * 2
  · have : j % 2 = 0 ∨ j % 2 = 1 := by omega
    rcases this with h | h <;> simp [madeCells, hj, Value.cells, h]
  · simp [madeCells, hj]
theorem blw_made {w w1 : World} (h : w.grownBy w1 none) : Below w.heap.size w w1 := ⟨h.os, h.tape, h.output, h.size, fun k hk => h.block k hk (by simp)⟩
theorem check_nil {l : List (Int × Int)} (hf : faultQ l = 0) : (∀ q ∈ l, 1 ≤ q.1 ∧ q.1 ≤ 9) ∧ l.length ≤ 4 ∧ 1 ≤ l.length := by
  obtain ⟨h1, h2, h3⟩ := good_of (has := []) hf (fun j h => absurd h (by simp))
  exact ⟨fun q hq => ⟨(h1.1 q hq).1, (h1.1 q hq).2.1⟩, h2, h3⟩
set_option maxRecDepth 100000 in
set_option maxHeartbeats 4000000 in
theorem topShare_walk (lv : Value) (many : Int) (l : List (Int × Int)) (w : World) (h1 : IsQs w lv l) (k1 : l.length ≤ maxLen) :
    Calls Try.prog 5 #[lv, .int .i64 many] w fun e w' => e = .returned (.bool true) ∧ Below w.heap.size w w' := by
  obtain ⟨i1, hi1, hz10, hz11, hz12⟩ := info_parts infoInt
  obtain ⟨i2, hi2, hz20, hz21, hz22⟩ := info_parts infoBool
  obtain ⟨i3, hi3, hz30, hz31, hz32⟩ := info_parts infoQueue
  have K1 := Lib.hid k1
  have H1 := Lib.hid h1
  obtain ⟨la, lc, rfl, q1⟩ := h1
  have HQ1 := Lib.hid q1
  clear q1 k1
  obtain ⟨w1, hw1⟩ : ∃ w1, w1 = ((w.alloc (.cells #[.int .i64 2, .int .i64 3] 33)).alloc (.cells #[.int .i64 1] 3)).alloc (.cells #[.bool true] 4) := ⟨_, rfl⟩
  have D := Lib.hid (one_pick 2 3 1 (by decide) (by decide) (by decide) (by decide) w w1 hw1)
  have HW := Lib.hid hw1
  clear hw1
  have F2 : Hid (∀ w1, Below w.heap.size w w1 → Calls Try.prog 9 #[.slice la l.length lc] w1 fun e w' => e = .returned (errV (faultQ l)) ∧ Below w1.heap.size w1 w') := fun w1 hb => qcheck_any _ l w1 (isQs_blw H1.out hb) K1.out
  have HGD : Hid (faultQ l = 0 → (∀ q ∈ l, 1 ≤ q.1 ∧ q.1 ≤ 9) ∧ l.length ≤ 4 ∧ 1 ≤ l.length) := fun a => check_nil a
  generalize faultQ l = f at *
  by_cases hf : f = 0
  · subst hf
    obtain ⟨hw9, hl4, hl1⟩ := HGD.out rfl
    have HW9 := Lib.hid hw9
    clear hw9 HGD
    have eE : errV 0 = .nilIface := rfl
    rw [eE] at F2
    clear eE
    obtain ⟨n, hn⟩ : ∃ n, n = l.length := ⟨_, rfl⟩
    have HN := Lib.hid hn
    rw [← hn] at F2 hl4 hl1 H1 ⊢
    clear hn
    go_enter Try.func5, Try.ntmps5
    go_wp2_with (go_at_call 11; refine Hid.out ?_)
    refine Lib.hid ?_
    rw [← HW.out]
    refine D.out.mono ?_
    rintro _ w2 ⟨rfl, hb2⟩
    go_wp2_with (first | (go_at_call 9; refine (F2.out _ hb2).mono ?_; rintro _ w3 ⟨rfl, hb3⟩) | (at_make; refine Hid.out ?_))
    refine Lib.hid ?_
    have hb4 : Below w.heap.size w w3 := blw_step hb2 hb3
    refine wpList_make_full w3 rfl (.tmp 23) (.tmp 23) 23 rfl w3.heap.size 3 i1 _ 1 Try.underlying23 hi1 hz10 hz11 _ _ _ _ n rfl rfl rfl rfl (by rw [hz12]; omega) (by unfold maxLen; omega) (Nat.le_refl _) ?_
    intro w4 hown4 hgrow4
    go_wp2_with (at_make; refine Hid.out ?_)
    refine Lib.hid ?_
    refine wpList_make_full w4 rfl (.tmp 26) (.tmp 26) 24 rfl w4.heap.size 4 i2 _ 1 Try.underlying24 hi2 hz20 hz21 _ _ _ _ n rfl rfl rfl rfl (by rw [hz22]; omega) (by unfold maxLen; omega) (Nat.le_refl _) ?_
    intro w5 hown5 hgrow5
    go_wp2_with (at_make; refine Hid.out ?_)
    refine Lib.hid ?_
    refine wpList_make_full w5 rfl (.tmp 29) (.tmp 29) 22 rfl w5.heap.size 33 i3 _ 2 Try.underlying22 hi3 hz30 hz31 _ _ _ _ n rfl rfl rfl rfl (by rw [hz32]; omega) (by unfold maxLen; omega) (Nat.le_refl _) ?_
    intro w6 hown6 hgrow6
    go_wp2
    have B1 : Blk w6 w3.heap.size 3 (cellsI (List.replicate n 0)) := by
      have h := (owns_blk hown4).1
      rw [Nat.mul_one, show (Value.int .i64 0).cells = #[.int .i64 0] from rfl, toList_madeCells_one] at h
      have e : cellsI (List.replicate n 0) = List.replicate n (.int .i64 0) := by simp [cellsI]
      rw [e]
      exact (h.blw (blw_made hgrow5)).blw (blw_made hgrow6)
    have B2 : Blk w6 w4.heap.size 4 (wantsAt n 0) := by
      have h := (owns_blk hown5).1
      rw [Nat.mul_one, show (Value.bool false).cells = #[.bool false] from rfl, toList_madeCells_one] at h
      have e : wantsAt n 0 = List.replicate n (.bool false) := by simp [wantsAt]
      rw [e]
      exact h.blw (blw_made hgrow6)
    have B3 : Blk w6 w5.heap.size 33 (bigAt l 0) := by
      have h := (owns_blk hown6).1
      rw [made_two] at h
      have e : bigAt l 0 = List.replicate (n * 2) (.int .i64 0) := by simp [bigAt, bigOf, cellsQ, HN.out]
      rw [e]
      exact h
    have hb6 : Below w.heap.size w w6 := blw_step (blw_step (blw_step hb4 (blw_made hgrow4)) (blw_made hgrow5)) (blw_made hgrow6)
    have s1 : w.heap.size ≤ w3.heap.size := hb4.size
    have s2 : w3.heap.size < w4.heap.size := (owns_blk hown4).1.lt
    have s3 : w4.heap.size < w5.heap.size := (owns_blk hown5).1.lt
    clear hown4 hown5 hown6 hgrow4 hgrow5 hgrow6 hi1 hi2 hi3 hz10 hz11 hz12 hz20 hz21 hz22 hz30 hz31 hz32 hb2 hb3 hb4 F2 D HW
    generalize w3.heap.size = g1 at *
    generalize w4.heap.size = g2 at *
    generalize w5.heap.size = g3 at *
    have HB1 := Lib.hid B1
    have HB2 := Lib.hid B2
    have HB3 := Lib.hid B3
    clear B1 B2 B3
    go_loopw [8] (fun i wr => ∃ k : Nat, k ≤ n ∧ i = .int .i64 k ∧ Below w.heap.size w wr ∧ Hid (Blk wr g1 3 (cellsI (List.replicate n 0)) ∧ Blk wr g2 4 (wantsAt n k) ∧ Blk wr g3 33 (bigAt l k))) (fun i _ => n - (intOf i).toNat)
    case atStart => exact ⟨0, Nat.zero_le _, rfl, hb6, HB1.out, HB2.out, HB3.out⟩
    case round =>
      obtain ⟨k, hk, rfl, hb7, HB⟩ := hrel
      clear HB1 HB2 HB3 hb6
      by_cases hlt : k < n
      · have hkl : k < l.length := by have := HN.out; omega
        obtain ⟨lb, lo, rfl, c0, _⟩ := HQ1.out k hkl
        have f2 := HB.out.2.1.frozen k
        obtain ⟨x2, e2⟩ : ∃ x, wr.cell? ⟨g2, k, none⟩ = some x := ⟨_, HB.out.2.1.at (List.getElem?_eq_getElem (by rw [wantsAt_len _ _ hk]; exact hlt))⟩
        have hln : (bigAt l k).length = l.length * 2 := bigAt_len l k (by omega)
        have hb8 : Below w.heap.size w (wr.setCell ⟨g2, k, none⟩ (.bool true)) := hb7.setCell (show w.heap.size ≤ g2 by omega) _
        have N3 : Hid (Blk (wr.setCell ⟨g2, k, none⟩ (.bool true)) g3 33 (bigAt l k)) := HB.out.2.2.other _ _ (by omega)
        have N2 : Hid (Blk (wr.setCell ⟨g2, k, none⟩ (.bool true)) g2 4 (wantsAt n (k + 1))) := by
          have h := HB.out.2.1.set k (.bool true)
          rw [wantsAt_step n k hlt] at h
          exact h
        have N1 : Hid (Blk (wr.setCell ⟨g2, k, none⟩ (.bool true)) g1 3 (cellsI (List.replicate n 0))) := HB.out.1.other _ _ (by omega)
        have c0 := cell_blw c0 hb8
        have f3 := N3.out.frozen (k * 2)
        have f4 := N3.out.frozen (k * 2 + 1)
        obtain ⟨x3, e3⟩ : ∃ x, (wr.setCell ⟨g2, k, none⟩ (.bool true)).cell? ⟨g3, k * 2, none⟩ = some x := ⟨_, N3.out.at (List.getElem?_eq_getElem (by omega))⟩
        obtain ⟨x4, e4⟩ : ∃ x, (wr.setCell ⟨g2, k, none⟩ (.bool true)).cell? ⟨g3, k * 2 + 1, none⟩ = some x := ⟨_, N3.out.at (List.getElem?_eq_getElem (by omega))⟩
        have HST := Lib.hid (bigAt_step l k hkl)
        generalize l[k] = q at c0 HST
        obtain ⟨qw, qc⟩ := q
        simp only at c0 HST
        clear HQ1 hln
        go_wp2
        have M1 := N1.out.other (k * 2) (.int .i64 qw) (show g1 ≠ g3 by omega)
        have M2 := N2.out.other (k * 2) (.int .i64 qw) (show g2 ≠ g3 by omega)
        have M3 := N3.out.set (k * 2) (.int .i64 qw)
        have O1 := Lib.hid (M1.other (k * 2 + 1) (.int .i64 1000) (show g1 ≠ g3 by omega))
        have O2 := Lib.hid (M2.other (k * 2 + 1) (.int .i64 1000) (show g2 ≠ g3 by omega))
        have O3' := M3.set (k * 2 + 1) (.int .i64 1000)
        rw [HST.out] at O3'
        have O3 := Lib.hid O3'
        have hb9 : Below w.heap.size w (((wr.setCell ⟨g2, k, none⟩ (.bool true)).setCell ⟨g3, k * 2, none⟩ (.int .i64 qw)).setCell ⟨g3, k * 2 + 1, none⟩ (.int .i64 1000)) := (hb8.setCell (show w.heap.size ≤ g3 by omega) _).setCell (show w.heap.size ≤ g3 by omega) _
        clear M1 M2 M3 O3'
        go_roundw
        case rel => exact ⟨k + 1, by omega, by go_num, hb9, O1.out, O2.out, O3.out⟩
        case measure => simp [intOf]; omega
      · have hkn : k = n := by omega
        have HB' : Hid (Blk wr g1 3 (cellsI (List.replicate n 0)) ∧ Blk wr g2 4 (wantsAt n n) ∧ Blk wr g3 33 (bigAt l n)) := by
          have h := HB.out
          rw [hkn] at h
          exact h
        clear HB hkn
        obtain ⟨m, hm⟩ : ∃ m, bits .and .i64 many 63 = m := ⟨_, rfl⟩
        have hm2 := and63 many
        rw [hm] at hm2
        go_wp2
        go_loopw [9, 10, 11, 12] (fun cv _ _ _ wr => ∃ (c : Nat) (H : List Int), (c : Int) ≤ m ∧ cv = .int .i64 c ∧ Below w.heap.size w wr ∧ Hid (H.length = n ∧ Share l H ∧ (∀ x ∈ H, 0 ≤ x ∧ x ≤ c) ∧ Blk wr g1 3 (cellsI H) ∧ Blk wr g2 4 (wantsAt n n) ∧ Blk wr g3 33 (bigAt l n))) (fun cv _ _ _ _ => m.toNat - (intOf cv).toNat)
        case atStart => exact ⟨0, List.replicate n 0, by omega, rfl, hb7, by simp, share_zero l n (fun q hq => (HW9.out q hq).1), fun x hx => by rw [List.mem_replicate] at hx; omega, HB'.out.1, HB'.out.2.1, HB'.out.2.2⟩
        case round =>
          obtain ⟨c, H, hc, rfl, hb8, HH⟩ := hrel
          clear HB' hb7
          by_cases hlt2 : (c : Int) < m
          · have hHl : H.length = l.length := HH.out.1.trans HN.out
            have P1 : Hid (Calls Try.prog 11 #[.slice (some ⟨g3, 0, none⟩) n n, .slice (some ⟨g1, 0, none⟩) n n, .slice (some ⟨g2, 0, none⟩) n n] wr fun e w' => ∃ i : Nat, e = .returned (.int .i64 i) ∧ i < n ∧ Hid (∀ j, j < l.length → ¬ H.getD j 0 * wOf l i < H.getD i 0 * wOf l j) ∧ Below wr.heap.size wr w') := by
              obtain ⟨a1, a2, a3, a4, a5, a6⟩ := HH.out
              have hG : GoodQ (bigOf l) H := ⟨fun q hq => by
                unfold bigOf at hq
                rw [List.mem_map] at hq
                obtain ⟨q', hq', rfl⟩ := hq
                have := HW9.out q' hq'
                exact ⟨this.1, this.2, by simp, by simp⟩, fun x hx => by have := a3 x hx; omega⟩
              have hP := pick_any _ _ _ (bigOf l) H (List.replicate n true) wr (isQs_blk HN.out a6) (isIs_blk a4 a1.symm) (isBs_blk a5) hG (by rw [bigOf_length, ← HN.out]; omega)
              refine hP.mono ?_
              rintro _ w' ⟨r, rfl, HR, hb'⟩
              have en : min (min (bigOf l).length H.length) (List.replicate n true).length = n := by rw [bigOf_length, List.length_replicate, ← HN.out]; omega
              have hR := HR.out
              rw [en] at hR
              have hok : ∀ j, j < n → okB (bigOf l) H (List.replicate n true) j = true := fun j hj => by
                have j1 : j < l.length := by have := HN.out; omega
                rw [ok_at (by rw [bigOf_length]; exact j1) (by omega) (by simpa using hj), bigOf_at l j j1]
                have := a3 (H[j]'(by omega)) (List.getElem_mem (by omega))
                simp
                omega
              rcases hR with ⟨h0, _⟩ | ⟨i, rfl, hin, _, hmin, _⟩
              · have := h0 0 (by omega)
                rw [hok 0 (by omega)] at this; cases this
              · refine ⟨i, rfl, hin, fun j hj => ?_, hb'⟩
                have hjn : j < n := by have := HN.out; omega
                have hil : i < l.length := by have := HN.out; omega
                have := hmin j hjn (hok j hjn)
                unfold less at this
                rw [wOf_big l i hil, wOf_big l j hj] at this
                exact of_decide_eq_false this
            clear hHl
            go_wp2_with (go_at_call 11; refine Hid.out ?_)
            refine Lib.hid ?_
            refine P1.out.mono ?_
            rintro _ w8 ⟨i, rfl, hin, HM, hb9'⟩
            have hb9 : Below w.heap.size w w8 := blw_step hb8 hb9'
            have iH : i < H.length := by have := HH.out.1; omega
            have il : i < l.length := by have := HN.out; omega
            obtain ⟨x, hx⟩ : ∃ x, x = H.getD i 0 := ⟨_, rfl⟩
            have hxH : H[i]? = some x := by rw [hx, List.getD_eq_getElem?_getD, List.getElem?_eq_getElem iH]; rfl
            have hx0 := HH.out.2.2.1 x (by rw [hx, getD_lt _ _ _ iH]; exact List.getElem_mem iH)
            have N1 : Hid (Blk w8 g1 3 (cellsI H)) := HH.out.2.2.2.1.blw hb9'
            have N2 : Hid (Blk w8 g2 4 (wantsAt n n)) := HH.out.2.2.2.2.1.blw hb9'
            have N3 : Hid (Blk w8 g3 33 (bigAt l n)) := HH.out.2.2.2.2.2.blw hb9'
            have c0 : w8.cell? ⟨g1, i, none⟩ = some (.int .i64 x) := N1.out.at (by rw [show (cellsI H)[i]? = (H[i]?).map (fun x => Value.int .i64 x) by simp [cellsI], hxH]; rfl)
            have f0 := N1.out.frozen i
            have hset : (cellsI H).set i (.int .i64 (x + 1)) = cellsI (H.set i (x + 1)) := by unfold cellsI; rw [List.map_set]
            have HS : Hid (Share l (H.set i (x + 1))) := by
              have h := share_step (fun q hq => (HW9.out q hq).1) HH.out.2.1 i iH il (fun j hj => by have := HM.out j hj; omega)
              rw [← hx] at h
              exact h
            have HBD : Hid (∀ y ∈ H.set i (x + 1), 0 ≤ y ∧ y ≤ ((c + 1 : Nat) : Int)) := fun y hy => by
              rcases List.mem_or_eq_of_mem_set hy with h | h
              · have := HH.out.2.2.1 y h; omega
              · omega
            have HLN : Hid ((H.set i (x + 1)).length = n) := by show _ = _; rw [List.length_set]; exact HH.out.1
            have hd0 : decide ((i : Int) < 0) = false := decide_eq_false (by omega)
            have hd1 : decide (n ≤ i) = false := decide_eq_false (by omega)
            have O1 : Hid (Blk (w8.setCell ⟨g1, i, none⟩ (.int .i64 (x + 1))) g1 3 (cellsI (H.set i (x + 1)))) := by
              have h := N1.out.set i (.int .i64 (x + 1))
              rw [hset] at h
              exact h
            have O2 : Hid (Blk (w8.setCell ⟨g1, i, none⟩ (.int .i64 (x + 1))) g2 4 (wantsAt n n)) := N2.out.other _ _ (by omega)
            have O3 : Hid (Blk (w8.setCell ⟨g1, i, none⟩ (.int .i64 (x + 1))) g3 33 (bigAt l n)) := N3.out.other _ _ (by omega)
            have hb10 : Below w.heap.size w (w8.setCell ⟨g1, i, none⟩ (.int .i64 (x + 1))) := hb9.setCell (show w.heap.size ≤ g1 from s1) _
            clear hset hx hxH P1 HH HM N1 N2 N3 hb9' hb8
            generalize H.set i (x + 1) = H2 at *
            go_wp2
            generalize w8.setCell ⟨g1, i, none⟩ (.int .i64 (x + 1)) = w9 at *
            clear c0 f0 hb9
            go_loopw [11, 12] (fun av _ wr => ∃ a : Nat, a ≤ n ∧ av = .int .i64 a ∧ Below w9.heap.size w9 wr) (fun av _ _ => n - (intOf av).toNat)
            case atStart => exact ⟨0, Nat.zero_le _, rfl, Below.refl _ _⟩
            case round =>
              obtain ⟨a, ha, rfl, hb11⟩ := hrel
              by_cases hlt3 : a < n
              · go_wp2
                generalize wr = w10 at *
                go_loopw [12] (fun bv wr => ∃ b : Nat, b ≤ n ∧ bv = .int .i64 b ∧ Below w9.heap.size w9 wr) (fun bv _ => n - (intOf bv).toNat)
                case atStart => exact ⟨0, Nat.zero_le _, rfl, hb11⟩
                case round =>
                  obtain ⟨b, hb, rfl, hb12⟩ := hrel
                  by_cases hlt4 : b < n
                  · have al : a < l.length := by have := HN.out; omega
                    have bl : b < l.length := by have := HN.out; omega
                    have aH : a < H2.length := by have := HLN.out; omega
                    have bH : b < H2.length := by have := HLN.out; omega
                    obtain ⟨lb, lo, rfl, c0, _⟩ := HQ1.out a al
                    obtain ⟨_, _, e, c1, _⟩ := HQ1.out b bl
                    injection e with e; injection e with e1' e2'; subst e1' e2'
                    have bb := blw_step hb10 hb12
                    replace c0 := cell_blw c0 bb
                    replace c1 := cell_blw c1 bb
                    have BH := O1.out.blw hb12
                    have c2 : wr.cell? ⟨g1, a, none⟩ = some (.int .i64 H2[a]) := BH.at (by simp [cellsI, aH])
                    have c3 : wr.cell? ⟨g1, b, none⟩ = some (.int .i64 H2[b]) := BH.at (by simp [cellsI, bH])
                    have hsh := HS.out a b al bl
                    unfold wOf at hsh
                    rw [getD_lt _ _ _ aH, getD_lt _ _ _ bH, getD_lt _ _ _ al, getD_lt _ _ _ bl] at hsh
                    have k1 := HW9.out l[a] (List.getElem_mem al)
                    have k2 := HW9.out l[b] (List.getElem_mem bl)
                    have k3 := HBD.out H2[a] (List.getElem_mem aH)
                    have k4 := HBD.out H2[b] (List.getElem_mem bH)
                    clear BH HQ1 H1
                    generalize l[a] = p at c0 hsh k1
                    generalize l[b] = q at c1 hsh k2
                    generalize H2[a] = y at c2 hsh k3
                    generalize H2[b] = z at c3 hsh k4
                    obtain ⟨pw, pc⟩ := p
                    obtain ⟨qw, qc⟩ := q
                    simp only at c0 c1 hsh k1 k2
                    have m1 : -9 ≤ (y - 1) * qw := by
                      have h1 : 0 ≤ y * qw := Int.mul_nonneg k3.1 (by omega)
                      have h2 : (y - 1) * qw = y * qw - qw := by rw [Int.sub_mul]; omega
                      omega
                    have m2 : z * pw ≤ 64 * 9 := Int.mul_le_mul (by omega) k1.2 (by omega) (by omega)
                    have m3 : 0 ≤ z * pw := Int.mul_nonneg k4.1 (by omega)
                    have E1 : IntKind.i64.wrap (y - 1) = y - 1 := by rw [IntKind.wrap_i64]; omega
                    have E2 : IntKind.i64.wrap ((y - 1) * qw) = (y - 1) * qw := by rw [IntKind.wrap_i64]; omega
                    have E3 : IntKind.i64.wrap (z * pw) = z * pw := wrap_small _ m3 (by omega)
                    have g9 : decide (z * pw < (y - 1) * qw) = false := decide_eq_false (by omega)
                    go_wp2
                    go_quiet (fail)
                    have hb13 : Below w9.heap.size w9 (wr.drewN nq) := blw_step hb12 (blw_drewN _ _)
                    generalize wr.drewN nq = w11 at *
                    clear c0 c1 c2 c3 bb
                    go_wp2
                    go_roundw
                    case rel => exact ⟨b + 1, by omega, by go_num, hb13⟩
                    case measure => simp [intOf]; omega
                  · clear HQ1
                    go_wp2
                    go_roundw
                    case rel => exact ⟨a + 1, by omega, by go_num, hb12⟩
                    case measure => simp [intOf]; omega
              · clear HQ1
                go_wp2
                go_roundw
                case rel => exact ⟨c + 1, H2, by omega, by go_num, blw_step hb10 hb11, HLN.out, HS.out, HBD.out, O1.out.blw hb11, O2.out.blw hb11, O3.out.blw hb11⟩
                case measure => simp [intOf]; omega
          · clear HQ1
            go_wp2
            all_goals go_ret
            all_goals exact ⟨rfl, hb8⟩
  · have eE : errV f = .iface 37 (.int .i64 f) := if_neg hf
    rw [eE] at F2
    clear eE hf HGD
    go_enter Try.func5, Try.ntmps5
    go_wp2_with (go_at_call 11; refine Hid.out ?_)
    refine Lib.hid ?_
    rw [← HW.out]
    refine D.out.mono ?_
    rintro _ w2 ⟨rfl, hb2⟩
    go_wp2_with (go_at_call 9; refine (F2.out _ hb2).mono ?_; rintro _ w3 ⟨rfl, hb3⟩)
    all_goals go_ret
    all_goals exact ⟨rfl, blw_step hb2 hb3⟩
end Go.Proofs.Ytddbgbokkpeffaa
