/- Contract of job.read: a text, line by line. -/
import Derived.Test.YtfjpgjkfmcedoaaGreatDoorG15
namespace Go.Proofs.YtfjpgjkfmcedoaaGreatDoor
open Go.ChangeShapes Go.WideShapes Go.ChangeAt Go.RowKit
/-- While a job is read. -/
structure JSt (B : Nat) (rv : Value) (fo : Int) (ea : Bool) (sl : Int) (b0 : Nat) (w2 wr : World) : Prop where
  res : wr.heap[b0]? = some (.cells #[.slice none 0 0, .int .i64 0, .bool false, .int .i64 0] 24 (0, 0))
  ex : wr.heap[B]? = some (.cells #[rv, .int .i64 fo, .bool ea, .int .i64 sl] 24 (0, 0))
  bel : Below w2.heap.size w2 wr
  lt0 : b0 < w2.heap.size
  ltB : w2.heap.size ≤ B
theorem JSt.lower {B b0 : Nat} {rv : Value} {fo sl : Int} {ea : Bool} {w2 wr w' : World} (h : JSt B rv fo ea sl b0 w2 wr) (hb : Below wr.heap.size wr w') : JSt B rv fo ea sl b0 w2 w' :=
  ⟨(hb.block _ (blockLt h.res)).trans h.res, (hb.block _ (blockLt h.ex)).trans h.ex, below_trans h.bel hb, h.lt0, h.ltB⟩
theorem JSt.drew {B b0 : Nat} {rv : Value} {fo sl : Int} {ea : Bool} {w2 wr : World} (h : JSt B rv fo ea sl b0 w2 wr) : JSt B rv fo ea sl b0 w2 wr.drew := ⟨h.res, h.ex, h.bel.drew, h.lt0, h.ltB⟩
theorem JSt.grown {B b0 : Nat} {rv : Value} {fo sl : Int} {ea : Bool} {w2 wr w' : World} {row : Option Nat} (h : JSt B rv fo ea sl b0 w2 wr) (hg : wr.grownBy w' row) (hr : ∀ g, row = some g → B < g) : JSt B rv fo ea sl b0 w2 w' := by
  have h1 := h.lt0
  have h2 := h.ltB
  have hne : ∀ b, b ≤ B → some b ≠ row := fun b hb e => by have := hr b e.symm; omega
  exact ⟨(hg.block _ (blockLt h.res) (hne _ (by omega))).trans h.res, (hg.block _ (blockLt h.ex) (hne _ (Nat.le_refl _))).trans h.ex, ⟨hg.os.trans h.bel.os, hg.tape.trans h.bel.tape, hg.output.trans h.bel.output, Nat.le_trans h.bel.size hg.size, fun k hk => (hg.block k (Nat.lt_of_lt_of_le hk h.bel.size) (hne k (by omega))).trans (h.bel.block k hk)⟩, h1, h2⟩
theorem JSt.put {B b0 : Nat} {rv rv' : Value} {fo sl : Int} {ea : Bool} {w2 wr : World} (h : JSt B rv fo ea sl b0 w2 wr) : JSt B rv' fo ea sl b0 w2 (wr.setCell ⟨B, 0, none⟩ rv') := by
  have h1 := h.lt0
  have h2 := h.ltB
  refine ⟨(Below.heap_setCell wr ⟨B, 0, none⟩ rv' _ (fun e => by simp at e; omega)).trans h.res, heap_set h.ex rv', h.bel.setCell (p := ⟨B, 0, none⟩) (by simp; omega) rv', h1, h2⟩
theorem len_sum : ∀ (l : List (List UInt8)) (y : List UInt8), y ∈ l → y.length + 1 ≤ (l.map fun x => x.length + 1).sum := by
  intro l
  induction l with
  | nil => intro y hy; cases hy
  | cons a l ih =>
    intro y hy
    simp only [List.map_cons, List.sum_cons]
    rcases List.mem_cons.1 hy with rfl | hy
    · omega
    · have := ih y hy; omega
theorem ruleInfo : (Tryz.prog.info? 46).map (fun i => (i.zero, i.size, i.bytes)) = some (some (.agg zeroR), 15, 200) := by kernel_rfl
def ReadSaid (s : List UInt8) (w : World) (v : Ending) (w' : World) : Prop :=
  ∃ j' rv, v = .returned (Jb.value j' rv) ∧ (∀ w'', Keeps (w.heap.size + 1) w'.heap.size w' w'' → IsRules w'' rv j'.rules) ∧ ReadsJ s j' ∧ Below w.heap.size w w'
set_option maxRecDepth 100000 in
set_option maxHeartbeats 1000000 in
theorem read_any (s : List UInt8) (w : World) (E : EnvR w) (hs : s.length ≤ 1000) :
    Calls Tryz.prog 23 #[.string (bs s)] w (ReadSaid s w) := by
  have HE := Lib.hid E
  clear E
  have htl := trim_len s
  obtain ⟨w1, hw1⟩ : ∃ w1, w1 = w.alloc (.cells #[.slice none 0 0, .int .i64 0, .bool false, .int .i64 0] 24) := ⟨_, rfl⟩
  have hb1 : Below w.heap.size w w1 := by rw [hw1]; exact below_box _
  have hz1 : Hid (w1.heap[w.heap.size]? = some (.cells #[.slice none 0 0, .int .i64 0, .bool false, .int .i64 0] 24 (0, 0))) := by rw [hw1]; exact heap_alloc_new _ _
  have hsz1 : Hid (w1.heap.size = w.heap.size + 1) := by
    show _ = _
    rw [hw1]; simp
  have HW1 := Lib.hid hw1
  clear hw1
  have TR : Hid (Calls Tryz.prog 40 #[.string (bs s), .string ⟨#[10]⟩] w1 fun e w' => e = .returned (.string (bs (trimN s))) ∧ w' = w1) := by
    have h := Any.strings_TrimSuffix Tryz.lays102 (bs s) ⟨#[10]⟩ w1 (by rw [bs_size]; omega)
    rw [bs_data] at h
    exact h
  have SP := Lib.hid (split_any 10 (trimN s) w1 (HE.out.lower hb1).toEnvJ.toEnvT.toEnvS.toEnv0 (by omega))
  obtain ⟨x, xs, hxs⟩ : ∃ x xs, spl 10 (trimN s) = x :: xs := by
    cases h : spl 10 (trimN s) with
    | nil => exact absurd h (spl_ne 10 (trimN s))
    | cons x xs => exact ⟨x, xs, rfl⟩
  have hsum := spl_sum 10 (trimN s)
  rw [hxs] at SP hsum
  have HXS := Lib.hid hxs
  clear hxs
  have hlen : ∀ y ∈ x :: xs, y.length ≤ 1000 := by
    intro y hy
    have := len_sum (x :: xs) y hy
    omega
  have hcnt : xs.length ≤ 1000 := by
    have : ∀ l : List (List UInt8), l.length ≤ (l.map fun x => x.length + 1).sum := by
      intro l
      induction l with
      | nil => simp
      | cons a l ih => simp only [List.map_cons, List.sum_cons, List.length_cons]; omega
    have := this (x :: xs)
    simp only [List.length_cons] at this
    omega
  have HLEN := Lib.hid hlen
  obtain ⟨n, hn⟩ : ∃ n, n = xs.length := ⟨_, rfl⟩
  simp only [List.length_cons] at SP
  rw [← hn] at SP hcnt
  have HN := Lib.hid hn
  clear hlen hsum hn
  go_enter Tryz.func23, Tryz.ntmps23
  go_wp2_with (go_at_call 40; refine Hid.out ?_)
  rw [← HW1.out]
  refine Lib.hid ?_
  refine TR.out.mono ?_
  rintro _ w0 ⟨rfl, h0⟩
  rw [h0]
  clear h0 w0 TR
  have HXT : Hid (spl 10 (trimN s) = x :: xs) := HXS.out
  clear HXS
  obtain ⟨ts, hts⟩ : ∃ ts, ts = trimN s := ⟨_, rfl⟩
  rw [← hts] at SP ⊢
  clear hts
  go_wp2_with (go_at_call 39; refine Hid.out ?_)
  refine Lib.hid ?_
  refine SP.out.mono ?_
  rintro _ w2 ⟨lb, rfl, hcell, hb2⟩
  have HC := Lib.hid hcell
  have hb02 := below_trans hb1 hb2
  have c0 := hcell 0 x rfl
  have RH := Lib.hid (readHead_any x w2 (HE.out.lower hb02) (HLEN.out x (List.mem_cons_self ..)))
  have hz2 : Hid (w2.heap[w.heap.size]? = some (.cells #[.slice none 0 0, .int .i64 0, .bool false, .int .i64 0] 24 (0, 0))) := by
    show _ = _
    rw [hb2.block _ (by have := hsz1.out; omega)]; exact hz1.out
  have hlt2 : Hid (w.heap.size < w2.heap.size) := by
    have := hsz1.out
    have := hb2.size
    show _ < _
    omega
  clear SP hcell hz1 hsz1 HW1
  go_wp2_with (go_at_call 41; refine Hid.out ?_)
  refine Lib.hid ?_
  refine RH.out.mono ?_
  rintro _ w3 ⟨fo, ea, sl, rfl, hrh, hb3⟩
  have HRH := Lib.hid hrh
  obtain ⟨B, hB⟩ : ∃ B, B = w3.heap.size := ⟨_, rfl⟩
  obtain ⟨w4, hw4⟩ : ∃ w4, w4 = w3.alloc (.cells #[.slice none 0 0, .int .i64 fo, .bool ea, .int .i64 sl] 24) := ⟨_, rfl⟩
  have J4 : Hid (JSt B (.slice none 0 0) fo ea sl w.heap.size w2 w4) := by
    refine ⟨?_, by rw [hw4, hB]; exact heap_alloc_new _ _, below_trans hb3 (by rw [hw4]; exact below_box _), hlt2.out, by rw [hB]; exact hb3.size⟩
    rw [hw4, (below_box (w := w3) _).block _ (Nat.lt_of_lt_of_le hlt2.out hb3.size), hb3.block _ hlt2.out]
    exact hz2.out
  have HW4 := Lib.hid hw4
  have HBD := Lib.hid hB
  clear RH hrh hw4 hz2 hb3 c0
  rcases Nat.eq_zero_or_pos n with hz | hz
  · subst hz
    have hx0 : xs = [] := List.eq_nil_of_length_eq_zero HN.out.symm
    have R4 := Lib.hid (RulesAt.zero B w2.heap.size w4)
    have HFIN : Hid (ReadsJ s ⟨[], fo, ea, sl⟩) := job_reads HXT.out HRH.out (by rw [hx0]; trivial)
    go_wp2_with fail
    rw [← HW4.out, ← HBD.out]
    clear HW4 HBD hB hx0
    go_loopw [6, 17] (fun _ kv wr => kv = .int .i64 0 ∧ wr = w4) (fun _ _ _ => 0)
    case atStart => exact ⟨rfl, rfl⟩
    case round =>
      obtain ⟨rfl, rfl⟩ := hrel
      have q0 : wr.cell? ⟨B, 0, none⟩ = some (.slice none 0 0) := by rw [cell_of_row _ _ _ _ _ _ J4.out.ex]; rfl
      have q1 : wr.cell? ⟨B, 1, none⟩ = some (.int .i64 fo) := by rw [cell_of_row _ _ _ _ _ _ J4.out.ex]; rfl
      have q2 : wr.cell? ⟨B, 2, none⟩ = some (.bool ea) := by rw [cell_of_row _ _ _ _ _ _ J4.out.ex]; rfl
      have q3 : wr.cell? ⟨B, 3, none⟩ = some (.int .i64 sl) := by rw [cell_of_row _ _ _ _ _ _ J4.out.ex]; rfl
      have p0 : wr.cell? ⟨w.heap.size, 0, none⟩ = some (.slice none 0 0) := by rw [cell_of_row _ _ _ _ _ _ J4.out.res]; rfl
      have p1 : wr.cell? ⟨w.heap.size, 1, none⟩ = some (.int .i64 0) := by rw [cell_of_row _ _ _ _ _ _ J4.out.res]; rfl
      have p2 : wr.cell? ⟨w.heap.size, 2, none⟩ = some (.bool false) := by rw [cell_of_row _ _ _ _ _ _ J4.out.res]; rfl
      have p3 : wr.cell? ⟨w.heap.size, 3, none⟩ = some (.int .i64 0) := by rw [cell_of_row _ _ _ _ _ _ J4.out.res]; rfl
      have e0 := frozen_of_row wr w.heap.size 0 _ _ J4.out.res
      have e1 := frozen_of_row wr w.heap.size 1 _ _ J4.out.res
      have e2 := frozen_of_row wr w.heap.size 2 _ _ J4.out.res
      have e3 := frozen_of_row wr w.heap.size 3 _ _ J4.out.res
      have hBlt : w.heap.size < B := by have := J4.out.lt0; have := J4.out.ltB; omega
      have hBne : ¬ B = w.heap.size := by omega
      have hBne2 : ¬ w.heap.size = B := fun e => hBne e.symm
      go_wp2
      (try simp only [Exit.inBlock, Exit.then])
      have g1 := heap_set (j := 0) J4.out.res (.slice none 0 0)
      have g2 := heap_set (j := 1) g1 (.int .i64 fo)
      have g3 := heap_set (j := 2) g2 (.bool ea)
      have g4 := heap_set (j := 3) g3 (.int .i64 sl)
      refine bodyPost_ret (results_cell_row rfl _ _ w.heap.size 24 #[.slice none 0 0, .int .i64 fo, .bool ea, .int .i64 sl] (0, 0) _ rfl g4 Tryz.underlying24 rfl (by kernel_rfl)) rfl ?_
      have hbel : Below w.heap.size w wr := below_trans hb02 J4.out.bel
      refine ⟨⟨[], fo, ea, sl⟩, .slice none 0 0, rfl, ?_, HFIN.out, (((hbel.setCell (p := ⟨w.heap.size, 0, none⟩) (Nat.le_refl _) _).setCell (p := ⟨w.heap.size, 1, none⟩) (Nat.le_refl _) _).setCell (p := ⟨w.heap.size, 2, none⟩) (Nat.le_refl _) _).setCell (p := ⟨w.heap.size, 3, none⟩) (Nat.le_refl _) _⟩
      intro wq hkk
      refine R4.out.done _ (fun k hk1 hk2 => ?_)
      rw [hkk k (by omega) (by simpa using hk2)]
      rw [Below.heap_setCell _ ⟨w.heap.size, 3, none⟩ _ k (fun e => by simp at e; omega), Below.heap_setCell _ ⟨w.heap.size, 2, none⟩ _ k (fun e => by simp at e; omega), Below.heap_setCell _ ⟨w.heap.size, 1, none⟩ _ k (fun e => by simp at e; omega), Below.heap_setCell _ ⟨w.heap.size, 0, none⟩ _ k (fun e => by simp at e; omega)]
  · go_wp2_with fail
    rw [← HW4.out, ← HBD.out]
    clear HW4 HBD hB
    go_loopw [6, 17] (fun _ kv wr => ∃ (k : Nat) (rs : List Rl) (rv : Value), kv = .int .i64 k ∧ k ≤ n ∧ rs.length = k ∧ Hid (JSt B rv fo ea sl w.heap.size w2 wr) ∧ Hid (RulesAt B w2.heap.size wr rv rs) ∧ Hid (ReadsL (xs.take k) rs)) (fun _ kv _ => n - (intOf kv).toNat)
    case atStart => exact ⟨0, [], .slice none 0 0, by go_num, Nat.zero_le _, rfl, J4, RulesAt.zero _ _ _, trivial⟩
    case round =>
      obtain ⟨k, rs, rv, rfl, hkn, hrs, J, R, RL⟩ := hrel
      clear J4
      by_cases hlt : k < n
      · obtain ⟨y, hy⟩ : ∃ y, xs[k]? = some y := ⟨xs[k]'(by have := HN.out; omega), by simp⟩
        have cy := cell_below (HC.out (k + 1) y (by simpa using hy)) J.out.bel
        rw [show k + 1 = 1 + k by omega] at cy
        have HY : Hid (xs.take (k + 1) = xs.take k ++ [y]) := take_snoc hy
        have hly : y.length ≤ 1000 := HLEN.out y (List.mem_cons_of_mem _ (List.mem_of_getElem? hy))
        have RR := Lib.hid (readRule_any y wr.drew ((HE.out.lower (below_trans hb02 J.out.bel)).lower (w' := wr.drew) ⟨rfl, rfl, rfl, Nat.le_refl _, fun _ _ => rfl⟩) hly)
        have c8 : wr.cell? ⟨B, 0, none⟩ = some rv := by rw [cell_of_row _ _ _ _ _ _ J.out.ex]; rfl
        have hB8 : B < wr.heap.size := blockLt J.out.ex
        obtain ⟨i0, hi, hz0, hz1, hz2⟩ := info_parts ruleInfo
        clear hy
        go_wp2_with fail
        go_region_law (first | (refine step_append_lies _ rfl (.tmp 22) (.tmp 25) 22 rfl w2.heap.size 46 i0 (.agg zeroR) 15 200 Tryz.underlying22 hi hz0 hz1 hz2 rfl (by decide) rv rs.length (cellsR rs A9) (by simp [Act.eval]) (own9.out.alloc _) ⟨w9.heap.size, 0, none⟩ 1 1 [.bool rl.each, .int .i64 rl.when, .int .i64 rl.iff.k, .int .i64 rl.iff.n, .string (bs rl.iff.s), .slice ai rl.iff.a.length ci, .string (bs rl.s), .int .i64 rl.key.k, .int .i64 rl.key.n, .string (bs rl.key.s), .slice ak rl.key.a.length ck, .int .i64 rl.val.k, .int .i64 rl.val.n, .string (bs rl.val.s), .slice av rl.val.a.length cv] (by simp [Act.eval]) rfl (World.news_of_block (heap_alloc_new _ _)) one9.out (by decide) (by unfold maxLen; omega) (by omega) (by have := le9.out; simp; omega) _ rfl ?_; intro g cap w10 hown10 hgrow10 hat10 hlt10; have J10 := Lib.hid ((J9.out.lower (below_box _)).grown hgrow10 bb9.out); have c10 : w10.cell? ⟨B, 0, none⟩ = some rv := (by rw [cell_of_row _ _ _ _ _ _ J10.out.ex]; rfl); have f10 := frozen_of_row w10 B 0 _ _ J10.out.ex) | (go_simp; go_at_call 42; refine RR.out.mono ?_; rintro _ w9 ⟨rl, ai, ci, ak, ck, av, cv, rfl, xi9, xk9, xv9, rr9, hb9⟩; unfold Rl.value; have J9 := Lib.hid (J.out.drew.lower hb9); have R9 := Lib.hid (R.out.drew.lower hb9); obtain ⟨A9, lo9, hi9, own9', bb9', _⟩ := R9.out; have own9 := Lib.hid own9'; have bb9 := Lib.hid bb9'; have c9 : w9.cell? ⟨B, 0, none⟩ = some rv := (by rw [cell_of_row _ _ _ _ _ _ J9.out.ex]; rfl); have le9 : Hid (w2.heap.size ≤ w9.heap.size) := J9.out.bel.size; have hB9 : B < w9.heap.size := blockLt J9.out.ex; have one9 : Hid (∀ u ∈ [Value.bool rl.each, .int .i64 rl.when, .int .i64 rl.iff.k, .int .i64 rl.iff.n, .string (bs rl.iff.s), .slice ai rl.iff.a.length ci, .string (bs rl.s), .int .i64 rl.key.k, .int .i64 rl.key.n, .string (bs rl.key.s), .slice ak rl.key.a.length ck, .int .i64 rl.val.k, .int .i64 rl.val.n, .string (bs rl.val.s), .slice av rl.val.a.length cv], u.oneCell' = true) := (fun u hu => by simp only [List.mem_cons, List.not_mem_nil, or_false] at hu; rcases hu with rfl | rfl | rfl | rfl | rfl | rfl | rfl | rfl | rfl | rfl | rfl | rfl | rfl | rfl | rfl <;> rfl)))
        all_goals
          have hgx : (w9.alloc (.cells #[.bool rl.each, .int .i64 rl.when, .int .i64 rl.iff.k, .int .i64 rl.iff.n, .string (bs rl.iff.s), .slice ai rl.iff.a.length ci, .string (bs rl.s), .int .i64 rl.key.k, .int .i64 rl.key.n, .string (bs rl.key.s), .slice ak rl.key.a.length ck, .int .i64 rl.val.k, .int .i64 rl.val.n, .string (bs rl.val.s), .slice av rl.val.a.length cv] 46)).grownBy w10 rv.ownBlock := hgrow10
          have hbx : Below w9.heap.size w9 (w9.alloc (.cells #[.bool rl.each, .int .i64 rl.when, .int .i64 rl.iff.k, .int .i64 rl.iff.n, .string (bs rl.iff.s), .slice ai rl.iff.a.length ci, .string (bs rl.s), .int .i64 rl.key.k, .int .i64 rl.key.n, .string (bs rl.key.s), .slice ak rl.key.a.length ck, .int .i64 rl.val.k, .int .i64 rl.val.n, .string (bs rl.val.s), .slice av rl.val.a.length cv] 46)) := below_box _
          have R10 : Hid (RulesAt B w2.heap.size w10 (.slice (some ⟨g, 0, none⟩) (rs.length + 1) cap) (rs ++ [rl])) := by
            have hkp : Keeps (wr.drew.heap.size + 1) w9.heap.size w9 (w9.alloc (.cells #[.bool rl.each, .int .i64 rl.when, .int .i64 rl.iff.k, .int .i64 rl.iff.n, .string (bs rl.iff.s), .slice ai rl.iff.a.length ci, .string (bs rl.s), .int .i64 rl.key.k, .int .i64 rl.key.n, .string (bs rl.key.s), .slice ak rl.key.a.length ck, .int .i64 rl.val.k, .int .i64 rl.val.n, .string (bs rl.val.s), .slice av rl.val.a.length cv] 46)) := Keeps.of_below hbx (Nat.le_refl _)
            refine RulesAt.more (w1 := wr.drew) (w2 := w9.alloc (.cells #[.bool rl.each, .int .i64 rl.when, .int .i64 rl.iff.k, .int .i64 rl.iff.n, .string (bs rl.iff.s), .slice ai rl.iff.a.length ci, .string (bs rl.s), .int .i64 rl.key.k, .int .i64 rl.key.n, .string (bs rl.key.s), .slice ak rl.key.a.length ck, .int .i64 rl.val.k, .int .i64 rl.val.n, .string (bs rl.val.s), .slice av rl.val.a.length cv] 46)) (H := w9.heap.size) R.out.drew hB8 (R9.out.lower hbx) (xi9.carry hkp) (xk9.carry hkp) (xv9.carry hkp) (by simp) (fun A hA => ?_) hgx ?_ (by simp; omega)
            · rw [owns_unique hA (own9.out.alloc _)]; exact hown10
            · rcases hat10 with h | h
              · exact .inl h
              · exact .inr h
          have J11 : Hid (JSt B (.slice (some ⟨g, 0, none⟩) (rs.length + 1) cap) fo ea sl w.heap.size w2 (w10.setCell ⟨B, 0, none⟩ (.slice (some ⟨g, 0, none⟩) (rs.length + 1) cap))) := J10.out.put
          have R11 : Hid (RulesAt B w2.heap.size (w10.setCell ⟨B, 0, none⟩ (.slice (some ⟨g, 0, none⟩) (rs.length + 1) cap)) (.slice (some ⟨g, 0, none⟩) (rs.length + 1) cap) (rs ++ [rl])) := R10.out.put
          have RL11 : Hid (ReadsL (xs.take (k + 1)) (rs ++ [rl])) := by
            rw [HY.out]
            exact readsL_snoc RL.out rr9
          clear R10 J10 hown10 hgrow10 hat10 hlt10 c10 f10 c9 own9' bb9' hgx hbx xi9 xk9 xv9
          rw [hrs] at J11 R11
          generalize w10.setCell ⟨B, 0, none⟩ (.slice (some ⟨g, 0, none⟩) (k + 1) cap) = w11 at *
          go_wp2
          go_roundw
          case rel => exact ⟨k + 1, rs ++ [rl], _, by go_num, by omega, by simp [hrs], J11, R11, RL11⟩
          case measure => simp [intOf]; omega
      · have hkn2 : k = n := by omega
        have HFIN : Hid (ReadsJ s ⟨rs, fo, ea, sl⟩) := by
          have h1 := RL.out
          rw [List.take_of_length_le (by have := HN.out; omega)] at h1
          exact job_reads HXT.out HRH.out h1
        clear hkn2
        obtain ⟨ra, rc, hrv⟩ := (R.out.done wr (fun _ _ _ => rfl)).slice
        obtain ⟨m, hm⟩ : ∃ m, m = rs.length := ⟨_, rfl⟩
        rw [← hm] at hrv
        subst hrv
        clear hm hrs
        have q0 : wr.cell? ⟨B, 0, none⟩ = some (.slice ra m rc) := by rw [cell_of_row _ _ _ _ _ _ J.out.ex]; rfl
        have q1 : wr.cell? ⟨B, 1, none⟩ = some (.int .i64 fo) := by rw [cell_of_row _ _ _ _ _ _ J.out.ex]; rfl
        have q2 : wr.cell? ⟨B, 2, none⟩ = some (.bool ea) := by rw [cell_of_row _ _ _ _ _ _ J.out.ex]; rfl
        have q3 : wr.cell? ⟨B, 3, none⟩ = some (.int .i64 sl) := by rw [cell_of_row _ _ _ _ _ _ J.out.ex]; rfl
        have p0 : wr.cell? ⟨w.heap.size, 0, none⟩ = some (.slice none 0 0) := by rw [cell_of_row _ _ _ _ _ _ J.out.res]; rfl
        have p1 : wr.cell? ⟨w.heap.size, 1, none⟩ = some (.int .i64 0) := by rw [cell_of_row _ _ _ _ _ _ J.out.res]; rfl
        have p2 : wr.cell? ⟨w.heap.size, 2, none⟩ = some (.bool false) := by rw [cell_of_row _ _ _ _ _ _ J.out.res]; rfl
        have p3 : wr.cell? ⟨w.heap.size, 3, none⟩ = some (.int .i64 0) := by rw [cell_of_row _ _ _ _ _ _ J.out.res]; rfl
        have e0 := frozen_of_row wr w.heap.size 0 _ _ J.out.res
        have e1 := frozen_of_row wr w.heap.size 1 _ _ J.out.res
        have e2 := frozen_of_row wr w.heap.size 2 _ _ J.out.res
        have e3 := frozen_of_row wr w.heap.size 3 _ _ J.out.res
        have hBlt : w.heap.size < B := by have := J.out.lt0; have := J.out.ltB; omega
        have hBne : ¬ B = w.heap.size := by omega
        have hBne2 : ¬ w.heap.size = B := fun e => hBne e.symm
        go_wp2
        (try simp only [Exit.inBlock, Exit.then])
        have g1 := heap_set (j := 0) J.out.res (.slice ra m rc)
        have g2 := heap_set (j := 1) g1 (.int .i64 fo)
        have g3 := heap_set (j := 2) g2 (.bool ea)
        have g4 := heap_set (j := 3) g3 (.int .i64 sl)
        refine bodyPost_ret (results_cell_row rfl _ _ w.heap.size 24 #[.slice ra m rc, .int .i64 fo, .bool ea, .int .i64 sl] (0, 0) _ rfl g4 Tryz.underlying24 rfl (by kernel_rfl)) rfl ?_
        have hbel : Below w.heap.size w wr := below_trans hb02 J.out.bel
        refine ⟨⟨rs, fo, ea, sl⟩, .slice ra m rc, rfl, ?_, HFIN.out, (((hbel.setCell (p := ⟨w.heap.size, 0, none⟩) (Nat.le_refl _) _).setCell (p := ⟨w.heap.size, 1, none⟩) (Nat.le_refl _) _).setCell (p := ⟨w.heap.size, 2, none⟩) (Nat.le_refl _) _).setCell (p := ⟨w.heap.size, 3, none⟩) (Nat.le_refl _) _⟩
        intro wq hkk
        refine R.out.done _ (fun k hk1 hk2 => ?_)
        rw [hkk k (by omega) (by simpa using hk2)]
        rw [Below.heap_setCell _ ⟨w.heap.size, 3, none⟩ _ k (fun e => by simp at e; omega), Below.heap_setCell _ ⟨w.heap.size, 2, none⟩ _ k (fun e => by simp at e; omega), Below.heap_setCell _ ⟨w.heap.size, 1, none⟩ _ k (fun e => by simp at e; omega), Below.heap_setCell _ ⟨w.heap.size, 0, none⟩ _ k (fun e => by simp at e; omega)]
end Go.Proofs.YtfjpgjkfmcedoaaGreatDoor
