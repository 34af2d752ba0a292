/- The law TopExpr, walked: whatever the two expressions, the text and the number, it returns true, and turns nothing that was there. Written by tpl/mk_tope.py. -/
import Derived.Test.YtahklpihbkdclabDoorExU
namespace Go.Proofs.YtahklpihbkdclabDoor
open Go.ChangeShapes Go.WideShapes Go.ChangeAt Go.RowKit
theorem isEx_nil (w : World) (k n : Int) (s : List UInt8) : IsEx w (.slice none 0 0) (.mk k n s []) :=
  IsEx.mk k n s none 0 [] 0 0 (fun _ => undef) (fun h => absurd h (by simp)) (fun i x hx => by simp at hx) (fun i x hx => by simp at hx)
theorem isEx_one {w : World} {g : Nat} {x : Ex} {A : Value} (k n : Int) (s : List UInt8) (c : Nat) (c0 : w.cell? ⟨g, 0, none⟩ = some (.int .i64 x.k)) (c1 : w.cell? ⟨g, 1, none⟩ = some (.int .i64 x.n)) (c2 : w.cell? ⟨g, 2, none⟩ = some (.string (bs x.s))) (c3 : w.cell? ⟨g, 3, none⟩ = some A) (hx : IsEx w A x) : IsEx w (.slice (some ⟨g, 0, none⟩) 1 c) (.mk k n s [x]) := by
  refine IsEx.mk k n s (some ⟨g, 0, none⟩) c [x] g 0 (fun _ => A) (fun _ => rfl) (fun i y hy => ?_) (fun i y hy => ?_)
  · match i, hy with
    | 0, hy => simp at hy; subst hy; simpa using ⟨c0, c1, c2, c3⟩
  · match i, hy with
    | 0, hy => simp at hy; subst hy; exact hx
theorem isEx_two {w : World} {g : Nat} {x y : Ex} {A B : Value} (k n : Int) (s : List UInt8) (c : Nat) (c0 : w.cell? ⟨g, 0, none⟩ = some (.int .i64 x.k)) (c1 : w.cell? ⟨g, 1, none⟩ = some (.int .i64 x.n)) (c2 : w.cell? ⟨g, 2, none⟩ = some (.string (bs x.s))) (c3 : w.cell? ⟨g, 3, none⟩ = some A)
    (d0 : w.cell? ⟨g, 4, none⟩ = some (.int .i64 y.k)) (d1 : w.cell? ⟨g, 5, none⟩ = some (.int .i64 y.n)) (d2 : w.cell? ⟨g, 6, none⟩ = some (.string (bs y.s))) (d3 : w.cell? ⟨g, 7, none⟩ = some B) (hx : IsEx w A x) (hy : IsEx w B y) : IsEx w (.slice (some ⟨g, 0, none⟩) 2 c) (.mk k n s [x, y]) := by
  refine IsEx.mk k n s (some ⟨g, 0, none⟩) c [x, y] g 0 (fun i => if i = 0 then A else B) (fun _ => rfl) (fun i z hz => ?_) (fun i z hz => ?_)
  · match i, hz with
    | 0, hz => simp at hz; subst hz; simpa using ⟨c0, c1, c2, c3⟩
    | 1, hz => simp at hz; subst hz; simpa using ⟨d0, d1, d2, d3⟩
  · match i, hz with
    | 0, hz => simp at hz; subst hz; exact hx
    | 1, hz => simp at hz; subst hz; exact hy
theorem err_cases (n : Nat) : (n = 0 ∧ errV n = .nilIface) ∨ (n ≠ 0 ∧ errV n = .iface 52 (.int .i64 n)) := by
  unfold errV
  by_cases h : n = 0
  · exact .inl ⟨h, if_pos h⟩
  · exact .inr ⟨h, if_neg h⟩
theorem strLit (w : World) (E : EnvS w) (ra : Option Addr) (rc : Nat) (h : IsTexts w (.slice ra 2 rc) ((wordsL [97, 98, 32, 99]).map bs)) :
    Calls Tryd.prog 9 #[.agg #[.int .i64 2, .int .i64 0, .string ⟨#[]⟩, .slice none 0 0], .agg #[.string (bs [97, 98, 32, 99]), .string ⟨#[]⟩, .slice ra 2 rc]] w fun r w' => r = .returned (.string ⟨#[97, 98, 32, 99]⟩) ∧ Below w.heap.size w w' :=
  StrX_any (ofL [97, 98, 32, 99]) ra rc (isEx_nil w 2 0 []) h (by decide) (by decide) (by decide) E
theorem of_len (l : List UInt8) (hl : l.length ≤ 200) {e : Ex} {t : Bool} (hf : faultE e t false = 0) (hw : e.wt ≤ 100000000) : e.len (ofL l) ≤ 200000000 := by
  have h1 := len_le (ofL l) 200 (by simp [ofL]) hl (fun x hx => by have := word_len (l := l) (cur := []) hx; simp at this; omega) e
  have h2 := fault_cnt hf
  omega
theorem of_far (l : List UInt8) (hl : l.length ≤ 200) {e : Ex} {t : Bool} (hf : faultE e t false = 0) (hw : e.wt ≤ 100000000) : e.far (ofL l) ≤ 200000000 := by
  have h1 := far_le (ofL l) 200 (by simp [ofL]) hl (fun x hx => by have := word_len (l := l) (cur := []) hx; simp at this; omega) (Nat.le_trans (words_len l) hl) e _ _ (fault_ok hf)
  have h2 := fault_cnt hf
  omega
theorem strAt (l : List UInt8) (hl : l.length ≤ 200) (m : Nat) (hm : m = (wordsL l).length) (rb : Option Addr) (rd : Nat) {w : World} {sv : Value} {e : Ex} (h : IsEx w sv e) (hR : IsTexts w (.slice rb m rd) ((wordsL l).map bs)) (hw : e.wt ≤ 100000000) (hf : faultE e true false = 0) (E : EnvS w) :
    Calls Tryd.prog 9 #[e.val sv, .agg #[.string (bs l), .string ⟨#[]⟩, .slice rb m rd]] w fun r w' => r = .returned (.string (bs (e.str (ofL l)))) ∧ Below w.heap.size w w' := by
  subst hm
  exact StrX_any (ofL l) rb rd h hR (by omega) (fault_more hf) (by have := of_len l hl hf hw; omega) E
theorem intAt (l : List UInt8) (hl : l.length ≤ 200) (m : Nat) (hm : m = (wordsL l).length) (rb : Option Addr) (rd : Nat) {w : World} {sv : Value} {e : Ex} (h : IsEx w sv e) (hR : IsTexts w (.slice rb m rd) ((wordsL l).map bs)) (hw : e.wt ≤ 100000000) (hf : faultE e false false = 0) (E : EnvS w) :
    Calls Tryd.prog 12 #[e.val sv, .agg #[.string (bs l), .string ⟨#[]⟩, .slice rb m rd]] w fun r w' => r = .returned (.int .i64 (e.num (ofL l))) ∧ Below w.heap.size w w' := by
  subst hm
  exact IntX_any (ofL l) rb rd h hR (by omega) (fault_more hf) (by have := of_far l hl hf hw; omega) E
set_option maxRecDepth 100000 in
set_option maxHeartbeats 8000000 in
theorem topExpr_walk (e o : Ex) (se so : Value) (l : List UInt8) (n : Int) (w : World) (E : EnvS w) (he : IsEx w se e) (ho : IsEx w so o) (hwe : e.wt ≤ 2000000) (hwo : o.wt ≤ 2000000) (hl : l.length ≤ 2000000) :
    Calls Tryd.prog 4 #[e.val se, o.val so, .string (bs l), .int .i64 n] w fun r w' => r = .returned (.bool true) ∧ Below w.heap.size w w' := by
  obtain ⟨ae, ce, rfl⟩ := he.slice
  obtain ⟨ao, co, rfl⟩ := ho.slice
  have LE := Lib.hid (fun w (h : IsEx w (.slice ae e.a.length ce) e) => lightExpr_any h (by omega))
  have LO := Lib.hid (fun w (h : IsEx w (.slice ao o.a.length co) o) => lightExpr_any h (by omega))
  have CE := Lib.hid (fun w (h : IsEx w (.slice ae e.a.length ce) e) E => check_any h (by omega) true false E)
  have CO := Lib.hid (fun w (h : IsEx w (.slice ao o.a.length co) o) E => check_any h (by omega) true false E)
  have HI := Lib.hid he
  have HO := Lib.hid ho
  have HE := Lib.hid E
  clear he ho E
  unfold Ex.val at LE LO CE CO ⊢
  have hsz : (bs l).size ≤ 2000000 := by rw [bs_size]; exact hl
  have HSZ := Lib.hid (bs_size l)
  obtain ⟨w1, hw1⟩ : ∃ w1, w1 = (w.alloc (.cells #[.int .i64 e.k, .int .i64 e.n, .string (bs e.s), .slice ae e.a.length ce] 28)).alloc (.cells #[.int .i64 o.k, .int .i64 o.n, .string (bs o.s), .slice ao o.a.length co] 28) := ⟨_, rfl⟩
  have hb1 : Below w.heap.size w w1 := by rw [hw1]; exact below_trans (below_box _) (below_box _)
  have e0 : w1.cell? ⟨w.heap.size, 0, none⟩ = some (.int .i64 e.k) := by rw [hw1]; simp
  have e1 : w1.cell? ⟨w.heap.size, 1, none⟩ = some (.int .i64 e.n) := by rw [hw1]; simp
  have e2 : w1.cell? ⟨w.heap.size, 2, none⟩ = some (.string (bs e.s)) := by rw [hw1]; simp
  have e3 : w1.cell? ⟨w.heap.size, 3, none⟩ = some (.slice ae e.a.length ce) := by rw [hw1]; simp
  have o0 : w1.cell? ⟨w.heap.size + 1, 0, none⟩ = some (.int .i64 o.k) := by rw [hw1]; simp
  have o1 : w1.cell? ⟨w.heap.size + 1, 1, none⟩ = some (.int .i64 o.n) := by rw [hw1]; simp
  have o2 : w1.cell? ⟨w.heap.size + 1, 2, none⟩ = some (.string (bs o.s)) := by rw [hw1]; simp
  have o3 : w1.cell? ⟨w.heap.size + 1, 3, none⟩ = some (.slice ao o.a.length co) := by rw [hw1]; simp
  have hz1 : Hid (w1.heap.size = w.heap.size + 2) := by rw [hw1]; show _ = _; simp
  go_enter Tryd.func4, Tryd.ntmps4
  go_wp2_with (go_at_call 8; refine Hid.out ?_)
  refine Lib.hid ?_
  rw [← hw1]
  clear hw1
  refine (of_any [97, 98, 32, 99] 2 rfl w1 (HE.out.lower hb1).toEnv0 (by decide)).mono ?_
  rintro _ w2 ⟨ra, rc, rfl, HT2, hb2, _⟩
  obtain ⟨w3, hw3⟩ : ∃ w3, w3 = w2.alloc (.cells #[.string (bs [97, 98, 32, 99]), .string ⟨#[]⟩, .slice ra 2 rc] 30) := ⟨_, rfl⟩
  have hb3 : Below w2.heap.size w2 w3 := by rw [hw3]; exact below_box _
  have hb13 := below_trans hb2 hb3
  have hb03 := below_trans hb1 hb13
  replace e0 := cell_below e0 hb13
  replace e1 := cell_below e1 hb13
  replace e2 := cell_below e2 hb13
  replace e3 := cell_below e3 hb13
  replace o0 := cell_below o0 hb13
  replace o1 := cell_below o1 hb13
  replace o2 := cell_below o2 hb13
  replace o3 := cell_below o3 hb13
  have hg3 : Hid (w3.heap[w2.heap.size]? = some (.cells #[.string (bs [97, 98, 32, 99]), .string ⟨#[]⟩, .slice ra 2 rc] 30 (0, 0))) := by
    rw [hw3]; exact heap_alloc_new _ _
  have hz2 : Hid (w.heap.size + 2 ≤ w2.heap.size) := by
    show _ ≤ _
    have := hb2.size
    have := hz1.out
    omega
  have hz3 : Hid (w2.heap.size < w3.heap.size) := by rw [hw3]; show _ < _; simp
  go_wp2_with (go_at_call 9; refine Hid.out ?_)
  refine Lib.hid ?_
  rw [← hw3]
  clear hw3
  refine (strLit w3 (HE.out.lower hb03) ra rc (HT2.out.below hb3)).mono ?_
  rintro _ w4 ⟨rfl, hb34⟩
  have hg4 : Hid (w4.heap[w2.heap.size]? = some (.cells #[.string (bs [97, 98, 32, 99]), .string ⟨#[]⟩, .slice ra 2 rc] 30 (0, 0))) := by
    show _ = _
    rw [hb34.block _ hz3.out]; exact hg3.out
  replace e0 := cell_below e0 hb34
  replace e1 := cell_below e1 hb34
  replace e2 := cell_below e2 hb34
  replace e3 := cell_below e3 hb34
  replace o0 := cell_below o0 hb34
  replace o1 := cell_below o1 hb34
  replace o2 := cell_below o2 hb34
  replace o3 := cell_below o3 hb34
  have hb4 := below_trans hb03 hb34
  have hz4 : Hid (w2.heap.size < w4.heap.size) := Nat.lt_of_lt_of_le hz3.out hb34.size
  clear hb1 hb2 hb3 hb13 hb03 hb34 hg3 HT2 hz1 hz3
  generalize w2.heap.size = g at *
  go_wp2_with (go_at_call 10; refine Hid.out ?_)
  refine Lib.hid ?_
  refine (LE.out _ (HI.out.lower hb4)).mono ?_
  rintro _ w5 ⟨g1, rfl, hb45⟩
  have hg5 : Hid (w5.heap[g]? = some (.cells #[.string (bs [97, 98, 32, 99]), .string ⟨#[]⟩, .slice ra 2 rc] 30 (0, 0))) := by
    show _ = _
    rw [hb45.block _ hz4.out]; exact hg4.out
  replace e0 := cell_below e0 hb45
  replace e1 := cell_below e1 hb45
  replace e2 := cell_below e2 hb45
  replace e3 := cell_below e3 hb45
  replace o0 := cell_below o0 hb45
  replace o1 := cell_below o1 hb45
  replace o2 := cell_below o2 hb45
  replace o3 := cell_below o3 hb45
  have hb5 := below_trans hb4 hb45
  have hz5 : Hid (g < w5.heap.size) := Nat.lt_of_lt_of_le hz4.out hb45.size
  clear hb4 hb45 hg4 hz4
  cases g1 with
  | false =>
    go_wp2
    go_ret
    exact ⟨rfl, hb5⟩
  | true =>
  go_wp2_with (go_at_call 10; refine Hid.out ?_)
  refine Lib.hid ?_
  refine (LO.out _ (HO.out.lower hb5)).mono ?_
  rintro _ w6 ⟨g2, rfl, hb56⟩
  have hg6 : Hid (w6.heap[g]? = some (.cells #[.string (bs [97, 98, 32, 99]), .string ⟨#[]⟩, .slice ra 2 rc] 30 (0, 0))) := by
    show _ = _
    rw [hb56.block _ hz5.out]; exact hg5.out
  replace e0 := cell_below e0 hb56
  replace e1 := cell_below e1 hb56
  replace e2 := cell_below e2 hb56
  replace e3 := cell_below e3 hb56
  replace o0 := cell_below o0 hb56
  replace o1 := cell_below o1 hb56
  replace o2 := cell_below o2 hb56
  replace o3 := cell_below o3 hb56
  have hb6 := below_trans hb5 hb56
  have hz6 : Hid (g < w6.heap.size) := Nat.lt_of_lt_of_le hz5.out hb56.size
  clear hb5 hb56 hg5 hz5
  cases g2 with
  | false =>
    go_wp2
    go_ret
    exact ⟨rfl, hb6⟩
  | true =>
  by_cases hl2 : ¬ (bs l).size ≤ 200
  · go_wp2
    go_ret
    exact ⟨rfl, hb6⟩
  replace hl2 := Decidable.not_not.1 hl2
  go_wp2_with (go_at_call 11; refine Hid.out ?_)
  refine Lib.hid ?_
  refine (CE.out _ (HI.out.lower hb6) (HE.out.lower hb6)).mono ?_
  rintro _ w7 ⟨rfl, hb67⟩
  have hg7 : Hid (w7.heap[g]? = some (.cells #[.string (bs [97, 98, 32, 99]), .string ⟨#[]⟩, .slice ra 2 rc] 30 (0, 0))) := by
    show _ = _
    rw [hb67.block _ hz6.out]; exact hg6.out
  replace e0 := cell_below e0 hb67
  replace e1 := cell_below e1 hb67
  replace e2 := cell_below e2 hb67
  replace e3 := cell_below e3 hb67
  replace o0 := cell_below o0 hb67
  replace o1 := cell_below o1 hb67
  replace o2 := cell_below o2 hb67
  replace o3 := cell_below o3 hb67
  have hb7 := below_trans hb6 hb67
  have hz7 : Hid (g < w7.heap.size) := Nat.lt_of_lt_of_le hz6.out hb67.size
  clear hb6 hb67 hg6 hz6
  rcases (err_cases (faultE e true false)).symm with ⟨hfe, hve⟩ | ⟨hfe, hve⟩
  · rw [hve]
    go_wp2
    go_ret
    exact ⟨rfl, hb7⟩
  rw [hve]
  go_wp2_with (go_at_call 11; refine Hid.out ?_)
  refine Lib.hid ?_
  refine (CO.out _ (HO.out.lower hb7) (HE.out.lower hb7)).mono ?_
  rintro _ w8 ⟨rfl, hb78⟩
  have hg8 : Hid (w8.heap[g]? = some (.cells #[.string (bs [97, 98, 32, 99]), .string ⟨#[]⟩, .slice ra 2 rc] 30 (0, 0))) := by
    show _ = _
    rw [hb78.block _ hz7.out]; exact hg7.out
  replace e0 := cell_below e0 hb78
  replace e1 := cell_below e1 hb78
  replace e2 := cell_below e2 hb78
  replace e3 := cell_below e3 hb78
  replace o0 := cell_below o0 hb78
  replace o1 := cell_below o1 hb78
  replace o2 := cell_below o2 hb78
  replace o3 := cell_below o3 hb78
  have hb8 := below_trans hb7 hb78
  have hz8 : Hid (g < w8.heap.size) := Nat.lt_of_lt_of_le hz7.out hb78.size
  clear hb7 hb78 hg7 hz7
  rcases (err_cases (faultE o true false)).symm with ⟨hfo, hvo⟩ | ⟨hfo, hvo⟩
  · rw [hvo]
    go_wp2
    go_ret
    exact ⟨rfl, hb8⟩
  rw [hvo]
  obtain ⟨m, hm⟩ : ∃ m, m = (wordsL l).length := ⟨_, rfl⟩
  have HOF := Lib.hid (of_any l m hm w8 (HE.out.lower hb8).toEnv0 (by have := HSZ.out; omega))
  have HM := Lib.hid hm
  have HFE := Lib.hid hfe
  have HFO := Lib.hid hfo
  clear hm hfe hfo hve hvo LE LO CE CO
  go_wp2_with (go_at_call 8; refine Hid.out ?_)
  refine Lib.hid ?_
  refine HOF.out.mono ?_
  rintro _ w9 ⟨rb, rd, rfl, HT9, hb89, HF9⟩
  have hg9 : w9.heap[g]? = some (.cells #[.string (bs [97, 98, 32, 99]), .string ⟨#[]⟩, .slice ra 2 rc] 30 (0, 0)) := by
    rw [hb89.block _ hz8.out]; exact hg8.out
  replace e0 := cell_below e0 hb89
  replace e1 := cell_below e1 hb89
  replace e2 := cell_below e2 hb89
  replace e3 := cell_below e3 hb89
  replace o0 := cell_below o0 hb89
  replace o1 := cell_below o1 hb89
  replace o2 := cell_below o2 hb89
  replace o3 := cell_below o3 hb89
  have hb9 := below_trans hb8 hb89
  have q0 : w9.cell? ⟨g, 0, none⟩ = some (.string (bs [97, 98, 32, 99])) := by rw [cell_of_row _ _ _ _ _ _ hg9]; rfl
  have q1 : w9.cell? ⟨g, 1, none⟩ = some (.string ⟨#[]⟩) := by rw [cell_of_row _ _ _ _ _ _ hg9]; rfl
  have q2 : w9.cell? ⟨g, 2, none⟩ = some (.slice ra 2 rc) := by rw [cell_of_row _ _ _ _ _ _ hg9]; rfl
  have f0 := frozen_of_row w9 g 0 _ _ hg9
  have f1 := frozen_of_row w9 g 1 _ _ hg9
  have f2 := frozen_of_row w9 g 2 _ _ hg9
  obtain ⟨w10, hw10⟩ : ∃ w10, w10 = ((w9.setCell ⟨g, 0, none⟩ (.string (bs l))).setCell ⟨g, 1, none⟩ (.string ⟨#[]⟩)).setCell ⟨g, 2, none⟩ (.slice rb m rd) := ⟨_, rfl⟩
  have g1 := heap_setCell_same w9 g 0 _ _ (.string (bs l)) hg9
  have g2 := heap_setCell_same _ g 1 _ _ (.string ⟨#[]⟩) g1
  have g3 := heap_setCell_same _ g 2 _ _ (.slice rb m rd) g2
  have hle : w.heap.size ≤ g := by have := hz2.out; omega
  have hb10 : Hid (Below w.heap.size w w10) := by
    rw [hw10]
    exact below_setCell g2 (below_setCell g1 (below_setCell hg9 hb9 hle _) hle _) hle _
  have hne : ∀ x : Addr, rb = some x → x.block ≠ g := fun x hx => by have h1 := HF9.out x hx; have h2 := hz8.out; omega
  have HT10 : Hid (IsTexts w10 (.slice rb m rd) ((wordsL l).map bs)) := by
    rw [hw10]
    exact texts_far hne (texts_far hne (texts_far hne HT9.out))
  have HR10 : Hid (w10.cell? ⟨g, 0, none⟩ = some (.string (bs l)) ∧ w10.cell? ⟨g, 1, none⟩ = some (.string ⟨#[]⟩) ∧ w10.cell? ⟨g, 2, none⟩ = some (.slice rb m rd)) := by
    rw [hw10]
    exact ⟨by rw [cell_of_row _ _ _ _ _ _ g3]; rfl, by rw [cell_of_row _ _ _ _ _ _ g3]; rfl, by rw [cell_of_row _ _ _ _ _ _ g3]; rfl⟩
  have HEO : Hid ((w10.cell? ⟨w.heap.size, 0, none⟩ = some (.int .i64 e.k) ∧ w10.cell? ⟨w.heap.size, 1, none⟩ = some (.int .i64 e.n) ∧ w10.cell? ⟨w.heap.size, 2, none⟩ = some (.string (bs e.s)) ∧ w10.cell? ⟨w.heap.size, 3, none⟩ = some (.slice ae e.a.length ce)) ∧ (w10.cell? ⟨w.heap.size + 1, 0, none⟩ = some (.int .i64 o.k) ∧ w10.cell? ⟨w.heap.size + 1, 1, none⟩ = some (.int .i64 o.n) ∧ w10.cell? ⟨w.heap.size + 1, 2, none⟩ = some (.string (bs o.s)) ∧ w10.cell? ⟨w.heap.size + 1, 3, none⟩ = some (.slice ao o.a.length co))) := by
    rw [hw10]
    have h2 := hz2.out
    have n0 : w.heap.size ≠ g := by omega
    have n1 : w.heap.size + 1 ≠ g := by omega
    exact ⟨⟨cell_far n0 (cell_far n0 (cell_far n0 e0)), cell_far n0 (cell_far n0 (cell_far n0 e1)), cell_far n0 (cell_far n0 (cell_far n0 e2)), cell_far n0 (cell_far n0 (cell_far n0 e3))⟩, cell_far n1 (cell_far n1 (cell_far n1 o0)), cell_far n1 (cell_far n1 (cell_far n1 o1)), cell_far n1 (cell_far n1 (cell_far n1 o2)), cell_far n1 (cell_far n1 (cell_far n1 o3))⟩
  have HW10 := Lib.hid hw10
  clear hw10 g1 g2 g3 hle hne hb8 hb89 hb9 hg8 HT9 HF9 HOF
  have X := HEO.out
  have Y := HR10.out
  rw [HW10.out] at X Y
  obtain ⟨⟨x0, x1, x2, x3⟩, y0, y1, y2, y3⟩ := X
  obtain ⟨z0, z1, z2⟩ := Y
  clear e0 e1 e2 e3 o0 o1 o2 o3
  go_wp2_with (go_at_call 9; refine Hid.out ?_)
  refine Lib.hid ?_
  rw [← HW10.out]
  clear q0 q1 q2 f0 f1 f2 x0 x1 x2 x3 y0 y1 y2 y3 z0 z1 z2 HW10 hg9
  have hlb : l.length ≤ 200 := by have := HSZ.out; omega
  have T1 := Lib.hid (strAt l hlb m HM.out rb rd (HI.out.lower hb10.out) HT10.out (by omega) HFE.out (HE.out.lower hb10.out))
  unfold Ex.val at T1
  refine T1.out.mono ?_
  rintro _ w11 ⟨rfl, hb1011⟩
  have hb11 := below_trans hb10.out hb1011
  obtain ⟨⟨e0, e1, e2, e3⟩, o0, o1, o2, o3⟩ := HEO.out
  obtain ⟨r0, r1, r2⟩ := HR10.out
  replace e0 := cell_below e0 hb1011
  replace e1 := cell_below e1 hb1011
  replace e2 := cell_below e2 hb1011
  replace e3 := cell_below e3 hb1011
  replace o0 := cell_below o0 hb1011
  replace o1 := cell_below o1 hb1011
  replace o2 := cell_below o2 hb1011
  replace o3 := cell_below o3 hb1011
  replace r0 := cell_below r0 hb1011
  replace r1 := cell_below r1 hb1011
  replace r2 := cell_below r2 hb1011
  have HT11 := Lib.hid (HT10.out.below hb1011)
  have T2 := Lib.hid (strAt l hlb m HM.out rb rd (HO.out.lower hb11) HT11.out (by omega) HFO.out (HE.out.lower hb11))
  unfold Ex.val at T2
  clear HEO HR10 HT10 T1 hb1011 hb10
  go_wp2_with (go_at_call 9; refine Hid.out ?_)
  refine Lib.hid ?_
  refine T2.out.mono ?_
  rintro _ w12 ⟨rfl, hb1112⟩
  have hb12 := below_trans hb11 hb1112
  replace e0 := cell_below e0 hb1112
  replace e1 := cell_below e1 hb1112
  replace e2 := cell_below e2 hb1112
  replace e3 := cell_below e3 hb1112
  replace o0 := cell_below o0 hb1112
  replace o1 := cell_below o1 hb1112
  replace o2 := cell_below o2 hb1112
  replace o3 := cell_below o3 hb1112
  replace r0 := cell_below r0 hb1112
  replace r1 := cell_below r1 hb1112
  replace r2 := cell_below r2 hb1112
  have HT12 := Lib.hid (HT11.out.below hb1112)
  clear T2 HT11 hb1112 hb11
  have hbA : Below w12.heap.size w12 ((w12.alloc (.cells #[.int .i64 e.k, .int .i64 e.n, .string (bs e.s), .slice ae e.a.length ce] 28)).alloc (.cells #[.int .i64 6, .int .i64 (bits BinOp.and IntKind.i64 n 63), .string ⟨#[]⟩, .slice (some ⟨w12.heap.size, 0, none⟩) 1 1] 28)) := below_trans (below_box _) (below_box _)
  have hbB : Below w12.heap.size w12 ((((w12.alloc (.cells #[.int .i64 e.k, .int .i64 e.n, .string (bs e.s), .slice ae e.a.length ce] 28)).alloc (.cells #[.int .i64 6, .int .i64 (bits BinOp.and IntKind.i64 n 63), .string ⟨#[]⟩, .slice (some ⟨w12.heap.size, 0, none⟩) 1 1] 28)).alloc (.cells #[.int .i64 e.k, .int .i64 e.n, .string (bs e.s), .slice ae e.a.length ce, .int .i64 o.k, .int .i64 o.n, .string (bs o.s), .slice ao o.a.length co] 28)).alloc (.cells #[.int .i64 5, .int .i64 0, .string ⟨#[]⟩, .slice (some ⟨w12.heap.size + 2, 0, none⟩) 2 2] 28)) := below_trans (below_trans (below_trans (below_box _) (below_box _)) (below_box _)) (below_box _)
  have hbC : Below w12.heap.size w12 (((((w12.alloc (.cells #[.int .i64 e.k, .int .i64 e.n, .string (bs e.s), .slice ae e.a.length ce] 28)).alloc (.cells #[.int .i64 6, .int .i64 (bits BinOp.and IntKind.i64 n 63), .string ⟨#[]⟩, .slice (some ⟨w12.heap.size, 0, none⟩) 1 1] 28)).alloc (.cells #[.int .i64 e.k, .int .i64 e.n, .string (bs e.s), .slice ae e.a.length ce, .int .i64 o.k, .int .i64 o.n, .string (bs o.s), .slice ao o.a.length co] 28)).alloc (.cells #[.int .i64 5, .int .i64 0, .string ⟨#[]⟩, .slice (some ⟨w12.heap.size + 2, 0, none⟩) 2 2] 28)).alloc (.cells #[.int .i64 e.k, .int .i64 e.n, .string (bs e.s), .slice ae e.a.length ce] 28)) := below_trans (below_trans (below_trans (below_trans (below_box _) (below_box _)) (below_box _)) (below_box _)) (below_box _)
  obtain ⟨v1, hv1⟩ : ∃ v, v = w12.alloc (.cells #[.int .i64 e.k, .int .i64 e.n, .string (bs e.s), .slice ae e.a.length ce] 28) := ⟨_, rfl⟩
  have z1 : v1.heap.size = w12.heap.size + 1 := by rw [hv1]; simp
  have b1 : Below w12.heap.size w12 v1 := by rw [hv1]; exact below_box _
  have k1 : v1.heap[w12.heap.size]? = some (.cells #[.int .i64 e.k, .int .i64 e.n, .string (bs e.s), .slice ae e.a.length ce] 28) := by rw [hv1]; exact heap_alloc_new _ _
  obtain ⟨v2, hv2⟩ : ∃ v, v = v1.alloc (.cells #[.int .i64 6, .int .i64 (bits BinOp.and IntKind.i64 n 63), .string ⟨#[]⟩, .slice (some ⟨w12.heap.size, 0, none⟩) 1 1] 28) := ⟨_, rfl⟩
  have z2 : v2.heap.size = w12.heap.size + 2 := by rw [hv2]; simp [z1]
  have b2 : Below v1.heap.size v1 v2 := by rw [hv2]; exact below_box _
  have k2 : v2.heap[w12.heap.size + 1]? = some (.cells #[.int .i64 6, .int .i64 (bits BinOp.and IntKind.i64 n 63), .string ⟨#[]⟩, .slice (some ⟨w12.heap.size, 0, none⟩) 1 1] 28) := by rw [hv2, ← z1]; exact heap_alloc_new _ _
  obtain ⟨v3, hv3⟩ : ∃ v, v = v2.alloc (.cells #[.int .i64 e.k, .int .i64 e.n, .string (bs e.s), .slice ae e.a.length ce, .int .i64 o.k, .int .i64 o.n, .string (bs o.s), .slice ao o.a.length co] 28) := ⟨_, rfl⟩
  have z3 : v3.heap.size = w12.heap.size + 3 := by rw [hv3]; simp [z2]
  have b3 : Below v2.heap.size v2 v3 := by rw [hv3]; exact below_box _
  have k3 : v3.heap[w12.heap.size + 2]? = some (.cells #[.int .i64 e.k, .int .i64 e.n, .string (bs e.s), .slice ae e.a.length ce, .int .i64 o.k, .int .i64 o.n, .string (bs o.s), .slice ao o.a.length co] 28) := by rw [hv3, ← z2]; exact heap_alloc_new _ _
  obtain ⟨v4, hv4⟩ : ∃ v, v = v3.alloc (.cells #[.int .i64 5, .int .i64 0, .string ⟨#[]⟩, .slice (some ⟨w12.heap.size + 2, 0, none⟩) 2 2] 28) := ⟨_, rfl⟩
  have z4 : v4.heap.size = w12.heap.size + 4 := by rw [hv4]; simp [z3]
  have b4 : Below v3.heap.size v3 v4 := by rw [hv4]; exact below_box _
  have k4 : v4.heap[w12.heap.size + 3]? = some (.cells #[.int .i64 5, .int .i64 0, .string ⟨#[]⟩, .slice (some ⟨w12.heap.size + 2, 0, none⟩) 2 2] 28) := by rw [hv4, ← z3]; exact heap_alloc_new _ _
  obtain ⟨v5, hv5⟩ : ∃ v, v = v4.alloc (.cells #[.int .i64 e.k, .int .i64 e.n, .string (bs e.s), .slice ae e.a.length ce] 28) := ⟨_, rfl⟩
  have z5 : v5.heap.size = w12.heap.size + 5 := by rw [hv5]; simp [z4]
  have b5 : Below v4.heap.size v4 v5 := by rw [hv5]; exact below_box _
  have k5 : v5.heap[w12.heap.size + 4]? = some (.cells #[.int .i64 e.k, .int .i64 e.n, .string (bs e.s), .slice ae e.a.length ce] 28) := by rw [hv5, ← z4]; exact heap_alloc_new _ _
  obtain ⟨v6, hv6⟩ : ∃ v, v = v5.alloc (.cells #[.int .i64 o.k, .int .i64 o.n, .string (bs o.s), .slice ao o.a.length co] 28) := ⟨_, rfl⟩
  have z6 : v6.heap.size = w12.heap.size + 6 := by rw [hv6]; simp [z5]
  have b6 : Below v5.heap.size v5 v6 := by rw [hv6]; exact below_box _
  have k6 : v6.heap[w12.heap.size + 5]? = some (.cells #[.int .i64 o.k, .int .i64 o.n, .string (bs o.s), .slice ao o.a.length co] 28) := by rw [hv6, ← z5]; exact heap_alloc_new _ _
  obtain ⟨v7, hv7⟩ : ∃ v, v = v6.alloc (.cells #[.int .i64 8, .int .i64 0, .string ⟨#[]⟩, .slice (some ⟨w12.heap.size + 4, 0, none⟩) 1 1, .int .i64 8, .int .i64 0, .string ⟨#[]⟩, .slice (some ⟨w12.heap.size + 5, 0, none⟩) 1 1] 28) := ⟨_, rfl⟩
  have z7 : v7.heap.size = w12.heap.size + 7 := by rw [hv7]; simp [z6]
  have b7 : Below v6.heap.size v6 v7 := by rw [hv7]; exact below_box _
  have k7 : v7.heap[w12.heap.size + 6]? = some (.cells #[.int .i64 8, .int .i64 0, .string ⟨#[]⟩, .slice (some ⟨w12.heap.size + 4, 0, none⟩) 1 1, .int .i64 8, .int .i64 0, .string ⟨#[]⟩, .slice (some ⟨w12.heap.size + 5, 0, none⟩) 1 1] 28) := by rw [hv7, ← z6]; exact heap_alloc_new _ _
  obtain ⟨v8, hv8⟩ : ∃ v, v = v7.alloc (.cells #[.int .i64 10, .int .i64 0, .string ⟨#[]⟩, .slice (some ⟨w12.heap.size + 6, 0, none⟩) 2 2] 28) := ⟨_, rfl⟩
  have z8 : v8.heap.size = w12.heap.size + 8 := by rw [hv8]; simp [z7]
  have b8 : Below v7.heap.size v7 v8 := by rw [hv8]; exact below_box _
  have k8 : v8.heap[w12.heap.size + 7]? = some (.cells #[.int .i64 10, .int .i64 0, .string ⟨#[]⟩, .slice (some ⟨w12.heap.size + 6, 0, none⟩) 2 2] 28) := by rw [hv8, ← z7]; exact heap_alloc_new _ _
  have hw13 : v8 = ((((((((w12.alloc (.cells #[.int .i64 e.k, .int .i64 e.n, .string (bs e.s), .slice ae e.a.length ce] 28)).alloc (.cells #[.int .i64 6, .int .i64 (bits BinOp.and IntKind.i64 n 63), .string ⟨#[]⟩, .slice (some ⟨w12.heap.size, 0, none⟩) 1 1] 28)).alloc (.cells #[.int .i64 e.k, .int .i64 e.n, .string (bs e.s), .slice ae e.a.length ce, .int .i64 o.k, .int .i64 o.n, .string (bs o.s), .slice ao o.a.length co] 28)).alloc (.cells #[.int .i64 5, .int .i64 0, .string ⟨#[]⟩, .slice (some ⟨w12.heap.size + 2, 0, none⟩) 2 2] 28)).alloc (.cells #[.int .i64 e.k, .int .i64 e.n, .string (bs e.s), .slice ae e.a.length ce] 28)).alloc (.cells #[.int .i64 o.k, .int .i64 o.n, .string (bs o.s), .slice ao o.a.length co] 28)).alloc (.cells #[.int .i64 8, .int .i64 0, .string ⟨#[]⟩, .slice (some ⟨w12.heap.size + 4, 0, none⟩) 1 1, .int .i64 8, .int .i64 0, .string ⟨#[]⟩, .slice (some ⟨w12.heap.size + 5, 0, none⟩) 1 1] 28)).alloc (.cells #[.int .i64 10, .int .i64 0, .string ⟨#[]⟩, .slice (some ⟨w12.heap.size + 6, 0, none⟩) 2 2] 28)) := by rw [hv8, hv7, hv6, hv5, hv4, hv3, hv2, hv1]
  have c8 : Below v8.heap.size v8 v8 := Below.refl _ _
  have c7 : Below v7.heap.size v7 v8 := below_trans b8 c8
  have c6 : Below v6.heap.size v6 v8 := below_trans b7 c7
  have c5 : Below v5.heap.size v5 v8 := below_trans b6 c6
  have c4 : Below v4.heap.size v4 v8 := below_trans b5 c5
  have c3 : Below v3.heap.size v3 v8 := below_trans b4 c4
  have c2 : Below v2.heap.size v2 v8 := below_trans b3 c3
  have c1 : Below v1.heap.size v1 v8 := below_trans b2 c2
  have c0 : Below w12.heap.size w12 v8 := below_trans b1 c1
  have y1 := k1
  rw [← c1.block _ (by rw [z1]; omega)] at y1
  have y2 := k2
  rw [← c2.block _ (by rw [z2]; omega)] at y2
  have y3 := k3
  rw [← c3.block _ (by rw [z3]; omega)] at y3
  have y4 := k4
  rw [← c4.block _ (by rw [z4]; omega)] at y4
  have y5 := k5
  rw [← c5.block _ (by rw [z5]; omega)] at y5
  have y6 := k6
  rw [← c6.block _ (by rw [z6]; omega)] at y6
  have y7 := k7
  rw [← c7.block _ (by rw [z7]; omega)] at y7
  have y8 := k8
  rw [← c8.block _ (by rw [z8]; omega)] at y8
  generalize v8 = w13 at *
  have hb1213 : Hid (Below w12.heap.size w12 w13) := c0
  clear hv1 hv2 hv3 hv4 hv5 hv6 hv7 hv8 z1 z2 z3 z4 z5 z6 z7 z8 b1 b2 b3 b4 b5 b6 b7 b8 k1 k2 k3 k4 k5 k6 k7 k8 c0 c1 c2 c3 c4 c5 c6 c7 c8
  have eA0 := cell_below e0 hbA
  have eA1 := cell_below e1 hbA
  have eA2 := cell_below e2 hbA
  have eA3 := cell_below e3 hbA
  have oA0 := cell_below o0 hbA
  have oA1 := cell_below o1 hbA
  have oA2 := cell_below o2 hbA
  have oA3 := cell_below o3 hbA
  have eB0 := cell_below e0 hbB
  have eB1 := cell_below e1 hbB
  have eB2 := cell_below e2 hbB
  have eB3 := cell_below e3 hbB
  have oC0 := cell_below o0 hbC
  have oC1 := cell_below o1 hbC
  have oC2 := cell_below o2 hbC
  have oC3 := cell_below o3 hbC
  have pA0 : Hid (w13.cell? ⟨w12.heap.size, 0, none⟩ = some (.int .i64 e.k)) := by show _ = _; rw [cell_of_row _ _ _ _ _ _ y1]; rfl
  have pA1 : Hid (w13.cell? ⟨w12.heap.size, 1, none⟩ = some (.int .i64 e.n)) := by show _ = _; rw [cell_of_row _ _ _ _ _ _ y1]; rfl
  have pA2 : Hid (w13.cell? ⟨w12.heap.size, 2, none⟩ = some (.string (bs e.s))) := by show _ = _; rw [cell_of_row _ _ _ _ _ _ y1]; rfl
  have pA3 : Hid (w13.cell? ⟨w12.heap.size, 3, none⟩ = some (.slice ae e.a.length ce)) := by show _ = _; rw [cell_of_row _ _ _ _ _ _ y1]; rfl
  have l0 : Hid (w13.cell? ⟨w12.heap.size + 1, 0, none⟩ = some (.int .i64 6)) := by show _ = _; rw [cell_of_row _ _ _ _ _ _ y2]; rfl
  have l1 : Hid (w13.cell? ⟨w12.heap.size + 1, 1, none⟩ = some (.int .i64 (bits BinOp.and IntKind.i64 n 63))) := by show _ = _; rw [cell_of_row _ _ _ _ _ _ y2]; rfl
  have l2 : Hid (w13.cell? ⟨w12.heap.size + 1, 2, none⟩ = some (.string ⟨#[]⟩)) := by show _ = _; rw [cell_of_row _ _ _ _ _ _ y2]; rfl
  have l3 : Hid (w13.cell? ⟨w12.heap.size + 1, 3, none⟩ = some (.slice (some ⟨w12.heap.size, 0, none⟩) 1 1)) := by show _ = _; rw [cell_of_row _ _ _ _ _ _ y2]; rfl
  have pB0 : Hid (w13.cell? ⟨w12.heap.size + 2, 0, none⟩ = some (.int .i64 e.k)) := by show _ = _; rw [cell_of_row _ _ _ _ _ _ y3]; rfl
  have pB1 : Hid (w13.cell? ⟨w12.heap.size + 2, 1, none⟩ = some (.int .i64 e.n)) := by show _ = _; rw [cell_of_row _ _ _ _ _ _ y3]; rfl
  have pB2 : Hid (w13.cell? ⟨w12.heap.size + 2, 2, none⟩ = some (.string (bs e.s))) := by show _ = _; rw [cell_of_row _ _ _ _ _ _ y3]; rfl
  have pB3 : Hid (w13.cell? ⟨w12.heap.size + 2, 3, none⟩ = some (.slice ae e.a.length ce)) := by show _ = _; rw [cell_of_row _ _ _ _ _ _ y3]; rfl
  have pB4 : Hid (w13.cell? ⟨w12.heap.size + 2, 4, none⟩ = some (.int .i64 o.k)) := by show _ = _; rw [cell_of_row _ _ _ _ _ _ y3]; rfl
  have pB5 : Hid (w13.cell? ⟨w12.heap.size + 2, 5, none⟩ = some (.int .i64 o.n)) := by show _ = _; rw [cell_of_row _ _ _ _ _ _ y3]; rfl
  have pB6 : Hid (w13.cell? ⟨w12.heap.size + 2, 6, none⟩ = some (.string (bs o.s))) := by show _ = _; rw [cell_of_row _ _ _ _ _ _ y3]; rfl
  have pB7 : Hid (w13.cell? ⟨w12.heap.size + 2, 7, none⟩ = some (.slice ao o.a.length co)) := by show _ = _; rw [cell_of_row _ _ _ _ _ _ y3]; rfl
  have m0 : Hid (w13.cell? ⟨w12.heap.size + 3, 0, none⟩ = some (.int .i64 5)) := by show _ = _; rw [cell_of_row _ _ _ _ _ _ y4]; rfl
  have m1 : Hid (w13.cell? ⟨w12.heap.size + 3, 1, none⟩ = some (.int .i64 0)) := by show _ = _; rw [cell_of_row _ _ _ _ _ _ y4]; rfl
  have m2 : Hid (w13.cell? ⟨w12.heap.size + 3, 2, none⟩ = some (.string ⟨#[]⟩)) := by show _ = _; rw [cell_of_row _ _ _ _ _ _ y4]; rfl
  have m3 : Hid (w13.cell? ⟨w12.heap.size + 3, 3, none⟩ = some (.slice (some ⟨w12.heap.size + 2, 0, none⟩) 2 2)) := by show _ = _; rw [cell_of_row _ _ _ _ _ _ y4]; rfl
  have pC0 : Hid (w13.cell? ⟨w12.heap.size + 4, 0, none⟩ = some (.int .i64 e.k)) := by show _ = _; rw [cell_of_row _ _ _ _ _ _ y5]; rfl
  have pC1 : Hid (w13.cell? ⟨w12.heap.size + 4, 1, none⟩ = some (.int .i64 e.n)) := by show _ = _; rw [cell_of_row _ _ _ _ _ _ y5]; rfl
  have pC2 : Hid (w13.cell? ⟨w12.heap.size + 4, 2, none⟩ = some (.string (bs e.s))) := by show _ = _; rw [cell_of_row _ _ _ _ _ _ y5]; rfl
  have pC3 : Hid (w13.cell? ⟨w12.heap.size + 4, 3, none⟩ = some (.slice ae e.a.length ce)) := by show _ = _; rw [cell_of_row _ _ _ _ _ _ y5]; rfl
  have pD0 : Hid (w13.cell? ⟨w12.heap.size + 5, 0, none⟩ = some (.int .i64 o.k)) := by show _ = _; rw [cell_of_row _ _ _ _ _ _ y6]; rfl
  have pD1 : Hid (w13.cell? ⟨w12.heap.size + 5, 1, none⟩ = some (.int .i64 o.n)) := by show _ = _; rw [cell_of_row _ _ _ _ _ _ y6]; rfl
  have pD2 : Hid (w13.cell? ⟨w12.heap.size + 5, 2, none⟩ = some (.string (bs o.s))) := by show _ = _; rw [cell_of_row _ _ _ _ _ _ y6]; rfl
  have pD3 : Hid (w13.cell? ⟨w12.heap.size + 5, 3, none⟩ = some (.slice ao o.a.length co)) := by show _ = _; rw [cell_of_row _ _ _ _ _ _ y6]; rfl
  have pE0 : Hid (w13.cell? ⟨w12.heap.size + 6, 0, none⟩ = some (.int .i64 8)) := by show _ = _; rw [cell_of_row _ _ _ _ _ _ y7]; rfl
  have pE1 : Hid (w13.cell? ⟨w12.heap.size + 6, 1, none⟩ = some (.int .i64 0)) := by show _ = _; rw [cell_of_row _ _ _ _ _ _ y7]; rfl
  have pE2 : Hid (w13.cell? ⟨w12.heap.size + 6, 2, none⟩ = some (.string ⟨#[]⟩)) := by show _ = _; rw [cell_of_row _ _ _ _ _ _ y7]; rfl
  have pE3 : Hid (w13.cell? ⟨w12.heap.size + 6, 3, none⟩ = some (.slice (some ⟨w12.heap.size + 4, 0, none⟩) 1 1)) := by show _ = _; rw [cell_of_row _ _ _ _ _ _ y7]; rfl
  have pE4 : Hid (w13.cell? ⟨w12.heap.size + 6, 4, none⟩ = some (.int .i64 8)) := by show _ = _; rw [cell_of_row _ _ _ _ _ _ y7]; rfl
  have pE5 : Hid (w13.cell? ⟨w12.heap.size + 6, 5, none⟩ = some (.int .i64 0)) := by show _ = _; rw [cell_of_row _ _ _ _ _ _ y7]; rfl
  have pE6 : Hid (w13.cell? ⟨w12.heap.size + 6, 6, none⟩ = some (.string ⟨#[]⟩)) := by show _ = _; rw [cell_of_row _ _ _ _ _ _ y7]; rfl
  have pE7 : Hid (w13.cell? ⟨w12.heap.size + 6, 7, none⟩ = some (.slice (some ⟨w12.heap.size + 5, 0, none⟩) 1 1)) := by show _ = _; rw [cell_of_row _ _ _ _ _ _ y7]; rfl
  have s0 : Hid (w13.cell? ⟨w12.heap.size + 7, 0, none⟩ = some (.int .i64 10)) := by show _ = _; rw [cell_of_row _ _ _ _ _ _ y8]; rfl
  have s1 : Hid (w13.cell? ⟨w12.heap.size + 7, 1, none⟩ = some (.int .i64 0)) := by show _ = _; rw [cell_of_row _ _ _ _ _ _ y8]; rfl
  have s2 : Hid (w13.cell? ⟨w12.heap.size + 7, 2, none⟩ = some (.string ⟨#[]⟩)) := by show _ = _; rw [cell_of_row _ _ _ _ _ _ y8]; rfl
  have s3 : Hid (w13.cell? ⟨w12.heap.size + 7, 3, none⟩ = some (.slice (some ⟨w12.heap.size + 6, 0, none⟩) 2 2)) := by show _ = _; rw [cell_of_row _ _ _ _ _ _ y8]; rfl
  have hb13 : Below w.heap.size w w13 := below_trans hb12 hb1213.out
  have xe : Hid (IsEx w13 (.slice ae e.a.length ce) e) := HI.out.lower hb13
  have xo : Hid (IsEx w13 (.slice ao o.a.length co) o) := HO.out.lower hb13
  have XL : Hid (IsEx w13 (.slice (some ⟨w12.heap.size, 0, none⟩) 1 1) (.mk 6 (bits BinOp.and IntKind.i64 n 63) [] [e])) := isEx_one _ _ _ _ pA0.out pA1.out pA2.out pA3.out xe.out
  have XM : Hid (IsEx w13 (.slice (some ⟨w12.heap.size + 2, 0, none⟩) 2 2) (.mk 5 0 [] [e, o])) := isEx_two _ _ _ _ pB0.out pB1.out pB2.out pB3.out pB4.out pB5.out pB6.out pB7.out xe.out xo.out
  have XC : Hid (IsEx w13 (.slice (some ⟨w12.heap.size + 4, 0, none⟩) 1 1) (.mk 8 0 [] [e])) := isEx_one _ _ _ _ pC0.out pC1.out pC2.out pC3.out xe.out
  have XD : Hid (IsEx w13 (.slice (some ⟨w12.heap.size + 5, 0, none⟩) 1 1) (.mk 8 0 [] [o])) := isEx_one _ _ _ _ pD0.out pD1.out pD2.out pD3.out xo.out
  have XS : Hid (IsEx w13 (.slice (some ⟨w12.heap.size + 6, 0, none⟩) 2 2) (.mk 10 0 [] [.mk 8 0 [] [e], .mk 8 0 [] [o]])) := isEx_two _ _ _ _ pE0.out pE1.out pE2.out pE3.out pE4.out pE5.out pE6.out pE7.out XC.out XD.out
  clear hbA hbB hbC pA0 pA1 pA2 pA3 pB0 pB1 pB2 pB3 pB4 pB5 pB6 pB7 pC0 pC1 pC2 pC3 pD0 pD1 pD2 pD3 pE0 pE1 pE2 pE3 pE4 pE5 pE6 pE7 xe xo XC XD
  have HW13 := Lib.hid hw13
  clear hw13 y1 y2 y3 y4 y5 y6 y7 y8
  go_wp2_with (go_at_call 11; refine Hid.out ?_)
  refine Lib.hid ?_
  rw [← HW13.out]
  have CL := Lib.hid (check_any XL.out (by simp [Ex.wt, Ex.wt.wtL]; omega) true false (HE.out.lower hb13))
  have SM : Hid (∀ w, Below w13.heap.size w13 w → Calls Tryd.prog 11 #[(Ex.mk 5 0 [] [e, o]).val (.slice (some ⟨w12.heap.size + 2, 0, none⟩) 2 2), .bool true, .bool false] w fun r w' => r = .returned (errV (faultE (.mk 5 0 [] [e, o]) true false)) ∧ Below w.heap.size w w') := fun w hb => check_any (XM.out.lower hb) (by simp [Ex.wt, Ex.wt.wtL]; omega) true false ((HE.out.lower hb13).lower hb)
  have SS : Hid (∀ w, Below w13.heap.size w13 w → Calls Tryd.prog 11 #[(Ex.mk 10 0 [] [.mk 8 0 [] [e], .mk 8 0 [] [o]]).val (.slice (some ⟨w12.heap.size + 6, 0, none⟩) 2 2), .bool false, .bool false] w fun r w' => r = .returned (errV (faultE (.mk 10 0 [] [.mk 8 0 [] [e], .mk 8 0 [] [o]]) false false)) ∧ Below w.heap.size w w') := fun w hb => check_any (XS.out.lower hb) (by simp [Ex.wt, Ex.wt.wtL]; omega) false false ((HE.out.lower hb13).lower hb)
  have HR13 := Lib.hid (And.intro (cell_below r0 hb1213.out) (And.intro (cell_below r1 hb1213.out) (cell_below r2 hb1213.out)))
  have HT13 := Lib.hid (HT12.out.below hb1213.out)
  have HE13 := Lib.hid (HE.out.lower hb13)
  clear HW13 r0 r1 r2 e0 e1 e2 e3 o0 o1 o2 o3 eA0 eA1 eA2 eA3 oA0 oA1 oA2 oA3 eB0 eB1 eB2 eB3 oC0 oC1 oC2 oC3 hb1213 HT12 hb12
  generalize (bits BinOp.and IntKind.i64 n 63) = K at *
  generalize w12.heap.size = h at *
  unfold Ex.val at CL SM SS
  simp only [Ex.k, Ex.n, Ex.s] at CL SM SS
  refine CL.out.mono ?_
  rintro _ w14 ⟨rfl, hb14⟩
  obtain ⟨fl, hfl⟩ : ∃ f, f = faultE (.mk 6 K [] [e]) true false := ⟨_, rfl⟩
  obtain ⟨fm, hfm⟩ : ∃ f, f = faultE (.mk 5 0 [] [e, o]) true false := ⟨_, rfl⟩
  obtain ⟨fs, hfs⟩ : ∃ f, f = faultE (.mk 10 0 [] [.mk 8 0 [] [e], .mk 8 0 [] [o]]) false false := ⟨_, rfl⟩
  rw [← hfl]
  rw [← hfm] at SM
  rw [← hfs] at SS
  have HFL := Lib.hid hfl
  have HFM := Lib.hid hfm
  have HFS := Lib.hid hfs
  clear hfl hfm hfs CL
  rcases (err_cases fl).symm with ⟨h0, hv⟩ | ⟨h0, hv⟩
  · rw [hv]
    go_wp2
    go_ret
    exact ⟨rfl, below_trans hb13 hb14⟩
  rw [hv]
  have hl0 := Lib.hid (HFL.out.symm.trans h0)
  clear h0 hv
  have m0' := cell_below m0.out hb14
  have m1' := cell_below m1.out hb14
  have m2' := cell_below m2.out hb14
  have m3' := cell_below m3.out hb14
  go_wp2_with (go_at_call 11; refine Hid.out ?_)
  refine Lib.hid ?_
  refine (SM.out _ hb14).mono ?_
  rintro _ w15 ⟨rfl, hb15⟩
  replace hb15 := below_trans hb14 hb15
  clear m0' m1' m2' m3' hb14
  rcases (err_cases fm).symm with ⟨h0, hv⟩ | ⟨h0, hv⟩
  · rw [hv]
    go_wp2
    go_ret
    exact ⟨rfl, below_trans hb13 hb15⟩
  rw [hv]
  have hm0 := Lib.hid (HFM.out.symm.trans h0)
  clear h0 hv
  have s0' := cell_below s0.out hb15
  have s1' := cell_below s1.out hb15
  have s2' := cell_below s2.out hb15
  have s3' := cell_below s3.out hb15
  go_wp2_with (go_at_call 11; refine Hid.out ?_)
  refine Lib.hid ?_
  refine (SS.out _ hb15).mono ?_
  rintro _ w16 ⟨rfl, hb16⟩
  replace hb16 := below_trans hb15 hb16
  clear s0' s1' s2' s3' hb15
  rcases (err_cases fs).symm with ⟨h0, hv⟩ | ⟨h0, hv⟩
  · rw [hv]
    go_wp2
    go_ret
    exact ⟨rfl, below_trans hb13 hb16⟩
  rw [hv]
  have hs0 := Lib.hid (HFS.out.symm.trans h0)
  clear h0 hv SM SS HFL HFM HFS
  have TL : Hid (∀ w, Below w13.heap.size w13 w → Calls Tryd.prog 9 #[(Ex.mk 6 K [] [e]).val (.slice (some ⟨h, 0, none⟩) 1 1), .agg #[.string (bs l), .string ⟨#[]⟩, .slice rb m rd]] w fun r w' => r = .returned (.string (bs ((Ex.mk 6 K [] [e]).str (ofL l)))) ∧ Below w.heap.size w w') := fun w hb => strAt l hlb m HM.out rb rd (XL.out.lower hb) (HT13.out.below hb) (by simp [Ex.wt, Ex.wt.wtL]; omega) hl0.out (HE13.out.lower hb)
  have TM : Hid (∀ w, Below w13.heap.size w13 w → Calls Tryd.prog 9 #[(Ex.mk 5 0 [] [e, o]).val (.slice (some ⟨h + 2, 0, none⟩) 2 2), .agg #[.string (bs l), .string ⟨#[]⟩, .slice rb m rd]] w fun r w' => r = .returned (.string (bs ((Ex.mk 5 0 [] [e, o]).str (ofL l)))) ∧ Below w.heap.size w w') := fun w hb => strAt l hlb m HM.out rb rd (XM.out.lower hb) (HT13.out.below hb) (by simp [Ex.wt, Ex.wt.wtL]; omega) hm0.out (HE13.out.lower hb)
  have TS : Hid (∀ w, Below w13.heap.size w13 w → Calls Tryd.prog 12 #[(Ex.mk 10 0 [] [.mk 8 0 [] [e], .mk 8 0 [] [o]]).val (.slice (some ⟨h + 6, 0, none⟩) 2 2), .agg #[.string (bs l), .string ⟨#[]⟩, .slice rb m rd]] w fun r w' => r = .returned (.int .i64 ((Ex.mk 10 0 [] [.mk 8 0 [] [e], .mk 8 0 [] [o]]).num (ofL l))) ∧ Below w.heap.size w w') := fun w hb => intAt l hlb m HM.out rb rd (XS.out.lower hb) (HT13.out.below hb) (by simp [Ex.wt, Ex.wt.wtL]; omega) hs0.out (HE13.out.lower hb)
  obtain ⟨kk, hkk⟩ : ∃ kk : Nat, K = (kk : Int) := by
    have := ok_text (fault_ok hl0.out)
    rcases this with h1 | h1 | ⟨h1, _⟩ | h1 | ⟨h1, _⟩ | ⟨_, _, h2, h3, _⟩
    · exact absurd h1 (by decide)
    · exact absurd h1 (by decide)
    · exact absurd h1 (by decide)
    · exact absurd h1 (by decide)
    · exact absurd h1 (by decide)
    · exact ⟨K.toNat, by omega⟩
  subst hkk
  have v1 : (Ex.mk 6 (kk : Int) [] [e]).str (ofL l) = (e.str (ofL l)).take kk := by simp [Ex.str, Ex.str.strL]
  have v2 : (Ex.mk 5 0 [] [e, o]).str (ofL l) = e.str (ofL l) ++ o.str (ofL l) := by simp [Ex.str, Ex.str.strL]
  have v3 : (Ex.mk 10 0 [] [.mk 8 0 [] [e], .mk 8 0 [] [o]]).num (ofL l) = ((e.str (ofL l)).length : Int) + ((o.str (ofL l)).length : Int) := by simp [Ex.num, Ex.num.numL, Ex.str.strL]
  rw [v1] at TL
  rw [v2] at TM
  rw [v3] at TS
  have y1 := str_len (ofL l) e
  have y2 := str_len (ofL l) o
  have y3 := of_len l hlb HFE.out (by omega)
  have y4 := of_len l hlb HFO.out (by omega)
  clear v1 v2 v3 XL XM XS HI HO hwe hwo HFE HFO hl0 hm0 hs0
  generalize e.str (ofL l) = S at *
  generalize o.str (ofL l) = T at *
  have hS : S.length ≤ 200000000 := by omega
  have hT : T.length ≤ 200000000 := by omega
  clear y1 y2 y3 y4
  unfold Ex.val at TL TM TS
  simp only [Ex.k, Ex.n, Ex.s] at TL TM TS
  have l0' := cell_below l0.out hb16
  have l1' := cell_below l1.out hb16
  have l2' := cell_below l2.out hb16
  have l3' := cell_below l3.out hb16
  have R16 := HR13.out
  obtain ⟨r0, r1, r2⟩ := R16
  have r0' := cell_below r0 hb16
  have r1' := cell_below r1 hb16
  have r2' := cell_below r2 hb16
  clear r0 r1 r2
  go_wp2_with (go_at_call 9; refine Hid.out ?_)
  refine Lib.hid ?_
  refine (TL.out _ hb16).mono ?_
  rintro _ w17 ⟨rfl, hb17⟩
  replace hb17 := below_trans hb16 hb17
  clear l0' l1' l2' l3' r0' r1' r2' hb16
  have m0' := cell_below m0.out hb17
  have m1' := cell_below m1.out hb17
  have m2' := cell_below m2.out hb17
  have m3' := cell_below m3.out hb17
  have R17 := HR13.out
  obtain ⟨r0, r1, r2⟩ := R17
  replace r0 := cell_below r0 hb17
  replace r1 := cell_below r1 hb17
  replace r2 := cell_below r2 hb17
  go_wp2_with (go_at_call 9; refine Hid.out ?_)
  refine Lib.hid ?_
  refine (TM.out _ hb17).mono ?_
  rintro _ w18 ⟨rfl, hb18⟩
  replace hb18 := below_trans hb17 hb18
  clear m0' m1' m2' m3' r0 r1 r2 hb17
  have s0' := cell_below s0.out hb18
  have s1' := cell_below s1.out hb18
  have s2' := cell_below s2.out hb18
  have s3' := cell_below s3.out hb18
  have R18 := HR13.out
  obtain ⟨r0, r1, r2⟩ := R18
  replace r0 := cell_below r0 hb18
  replace r1 := cell_below r1 hb18
  replace r2 := cell_below r2 hb18
  have zS := bs_size S
  have zT := bs_size T
  have n1 : ¬ 9223372036854775807 < (bs S).size + (bs T).size := by omega
  have q1 : ((bs (S ++ T)).toList == (bs S ++ bs T).toList) = true := by rw [bs_append]; simp
  have HzS := Lib.hid zS
  have HzT := Lib.hid zT
  clear zS zT
  go_wp2_with (go_at_call 12; refine Hid.out ?_)
  refine Lib.hid ?_
  refine (TS.out _ hb18).mono ?_
  rintro _ w19 ⟨rfl, hb19⟩
  have zST : Hid ((S.length : Int) + (T.length : Int) = ((bs (S ++ T)).size : Int)) := by
    show _ = _
    rw [bs_size, List.length_append]; omega
  rw [zST.out]
  have hlc : (S.take kk).length = min kk S.length := List.length_take
  have hmin : min (kk : Int) ((bs S).size : Int) = ((bs (S.take kk)).size : Int) := by
    rw [bs_size, bs_size, hlc]; omega
  have hle : (bs (S.take kk)).size ≤ (bs S).size := by rw [bs_size, bs_size, hlc]; omega
  have hex : (((bs S).extract 0 (bs (S.take kk)).size).toList == (bs (S.take kk)).toList) = true := by
    have h1 : (S.take kk).length ≤ S.length := by rw [hlc]; omega
    rw [bs_take, bs_size]
    have h2 : S.take (S.take kk).length = S.take kk := by
      rw [hlc]
      by_cases hk : kk ≤ S.length
      · rw [Nat.min_eq_left hk]
      · rw [Nat.min_eq_right (by omega), List.take_of_length_le (Nat.le_refl _), List.take_of_length_le (by omega)]
    rw [h2]; simp
  have hsl : (bs S).size ≤ 200000000 := by rw [bs_size]; exact hS
  have hst : (bs (S ++ T)).size ≤ 400000000 := by rw [bs_size, List.length_append]; omega
  clear hlc TL TM TS s0' s1' s2' s3' r0 r1 r2 l0 l1 l2 l3 m0 m1 m2 m3 s0 s1 s2 s3
  generalize bs (S.take kk) = C at *
  generalize bs (S ++ T) = B at *
  generalize bs S = Sb at *
  go_wp2
  go_ret
  exact ⟨rfl, below_trans hb13 (below_trans hb18 hb19)⟩
end Go.Proofs.YtahklpihbkdclabDoor
