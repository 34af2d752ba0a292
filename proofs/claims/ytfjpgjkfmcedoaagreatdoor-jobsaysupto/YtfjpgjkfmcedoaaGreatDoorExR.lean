/- Contracts of the document's answer over expressions: noEnd, parts, shaped, ExprFault. -/
import Derived.Test.YtfjpgjkfmcedoaaGreatDoorG3
namespace Go.Proofs.YtfjpgjkfmcedoaaGreatDoor
open Go.ChangeShapes Go.WideShapes Go.ChangeAt Go.RowKit
theorem at_bs (x : List UInt8) (j : Nat) (h : j < x.length) (hq : j < (bs x).size) : (bs x)[j]'hq = x[j]'h := by simp only [bs]; rfl
theorem byte_is {x : List UInt8} {j : Nat} (hq : j < (bs x).size) (c : UInt8) (n : Int) (hn : n = (c.toNat : Int)) : ((((bs x)[j]'hq).toNat : Int) == n) = decide (x[j]? = some c) := by
  have h : j < x.length := by rw [bs_size] at hq; exact hq
  rw [at_bs x j h hq, List.getElem?_eq_getElem h, hn]
  by_cases hc : x[j] = c
  · simp [hc]
  · rw [decide_eq_false (by simpa using hc), beq_eq_false_iff_ne]
    intro hh
    exact hc (UInt8.toNat_inj.1 (by omega))
set_option maxRecDepth 100000 in
theorem noEnd_any (s : List UInt8) (w : World) (hs : s.length ≤ 1000000000) :
    Calls Tryz.prog 15 #[.string (bs s)] w fun r w' => r = .returned (.bool (!s.contains 10)) ∧ w' = w := by
  have hsz : (bs s).size ≤ 1000000000 := by rw [bs_size]; exact hs
  have HS := Lib.hid (bs_size s)
  obtain ⟨R, hR⟩ : ∃ R, R = !s.contains 10 := ⟨_, rfl⟩
  rw [← hR]
  have HR := Lib.hid hR
  clear hR
  go_enter Tryz.func15, Tryz.ntmps15
  go_wp2
  go_loop [3] (fun iv => ∃ i : Nat, i ≤ (bs s).size ∧ iv = .int .i64 i ∧ Hid ((s.take i).contains 10 = false)) (fun iv => (bs s).size - (intOf iv).toNat)
  case atStart => exact ⟨0, Nat.zero_le _, rfl, (show _ = false from rfl)⟩
  case round =>
    obtain ⟨i, hi, rfl, hp⟩ := hrel
    by_cases hlt : i < (bs s).size
    · obtain ⟨x, hx⟩ : ∃ x, s[i]? = some x := ⟨s[i]'(by have := HS.out; omega), by simp⟩
      have hb := byte_is hlt 10 10 rfl
      by_cases hc : x = 10
      · subst hc
        rw [hx] at hb
        simp only [decide_true] at hb
        have hin : Hid (s.contains 10 = true) := by
          show _ = true
          rw [List.contains_iff_mem]
          exact List.mem_of_getElem? hx
        clear hx
        go_wp2
        go_ret
        have h2 := hin.out
        exact ⟨ret_bool (by rw [HR.out, h2]; rfl), rfl⟩
      · have hb2 : decide (s[i]? = some (10 : UInt8)) = false := by rw [hx]; simp [hc]
        rw [hb2] at hb
        have hnx : Hid ((s.take (i + 1)).contains 10 = false) := by
          show _ = false
          rw [take_snoc hx]
          have h3 := hp.out
          have hc' : ¬ (10 = x) := fun h => hc h.symm
          simp at h3 ⊢
          exact ⟨h3, hc'⟩
        clear hb2 hx
        go_wp2
        go_round
        case rel => exact ⟨i + 1, by omega, by go_num, hnx⟩
        case measure => simp [intOf]; omega
    · have hall : Hid (s.contains 10 = false) := by
        show _ = false
        have h3 := hp.out
        rw [List.take_of_length_le (by have := HS.out; omega)] at h3
        exact h3
      go_wp2
      go_ret
      have h2 := hall.out
      exact ⟨ret_bool (by rw [HR.out, h2]; rfl), rfl⟩
set_option maxRecDepth 100000 in
set_option maxHeartbeats 1000000 in
theorem parts_any {w : World} {sv : Value} {e : Ex} (h : IsEx w sv e) : e.wt ≤ 1000000000 → ∀ w', Below w.heap.size w w' →
    Calls Tryz.prog 32 #[e.val sv] w' fun r w'' => r = .returned (.tuple #[.int .i64 e.cnt, .int .i64 e.dep]) ∧ Below w'.heap.size w' w'' := by
  induction h using IsEx.ind with
  | mk k n s a cap l b off A ha hc kids ih =>
    intro hw w1 hb
    simp only [Ex.wt] at hw
    simp only [Ex.val, Ex.k, Ex.n, Ex.s, Ex.cnt, Ex.dep]
    have hl := len_wtL l
    have hcw : Ex.cnt.cntL l ≤ Ex.wt.wtL l := by
      clear hl hw hc kids ih ha
      induction l with
      | nil => simp [Ex.cnt.cntL]
      | cons x l ih => have := cnt_wt x; simp only [Ex.cnt.cntL, Ex.wt.wtL]; omega
    have hdw : Ex.dep.depL l ≤ Ex.cnt.cntL l := by
      clear hl hw hc kids ih ha hcw
      induction l with
      | nil => simp [Ex.dep.depL]
      | cons x l ih => have := dep_cnt x; simp only [Ex.cnt.cntL, Ex.dep.depL]; omega
    have HA := Lib.hid ha
    have HC := Lib.hid hc
    clear ha hc
    go_enter Tryz.func32, Tryz.ntmps32
    go_wp2
    go_loopw [4, 5, 6] (fun nv dv iv wr => ∃ (i c p : Nat), i ≤ l.length ∧ iv = .int .i64 i ∧ nv = .int .i64 c ∧ dv = .int .i64 p ∧ c ≤ 1 + Ex.cnt.cntL l ∧ p ≤ Ex.dep.depL l ∧ Hid (c = 1 + Ex.cnt.cntL (l.take i) ∧ p = Ex.dep.depL (l.take i)) ∧ Below w1.heap.size w1 wr ∧ wr.cell? ⟨w1.heap.size, 3, none⟩ = some (.slice a l.length cap)) (fun _ _ iv _ => l.length - (intOf iv).toNat)
    case atStart => exact ⟨0, 1, 0, Nat.zero_le _, rfl, rfl, rfl, by omega, by omega, ⟨rfl, rfl⟩, below_box _, by simp⟩
    case round =>
      obtain ⟨i, c, p, hi, rfl, rfl, rfl, hcl, hpl, hcp, hbr, cb⟩ := hrel
      by_cases hlt : i < l.length
      · obtain ⟨x, hx⟩ : ∃ x, l[i]? = some x := ⟨l[i], by simp⟩
        have ea := HA.out (by omega)
        subst ea
        have hbw := below_trans hb hbr
        obtain ⟨c0, c1, c2, c3⟩ := HC.out i x hx
        replace c0 := cell_below c0 hbw
        replace c1 := cell_below c1 hbw
        replace c2 := cell_below c2 hbw
        replace c3 := cell_below c3 hbw
        have I := Lib.hid (ih i x hx (by have := wt_kid hx; omega) wr hbw)
        have hn1 : Hid (c + x.cnt = 1 + Ex.cnt.cntL (l.take (i + 1)) ∧ max p x.dep = Ex.dep.depL (l.take (i + 1))) := by
          obtain ⟨h1, h2⟩ := hcp.out
          rw [h1, h2]
          exact ⟨by rw [cntL_take hx]; omega, by rw [depL_take hx]⟩
        have hc2 : c + x.cnt ≤ 1 + Ex.cnt.cntL l := by
          rw [hn1.out.1]
          have := cntL_le l (i + 1)
          omega
        have hp2 : max p x.dep ≤ Ex.dep.depL l := by
          rw [hn1.out.2]
          exact depL_le l (i + 1)
        clear hx ih
        unfold Ex.val at I
        generalize x.cnt = xc at *
        generalize x.dep = xd at *
        go_wp2_with (go_at_call 32; refine Hid.out ?_)
        refine Lib.hid ?_
        refine I.out.mono ?_
        rintro _ w2 ⟨rfl, hb2⟩
        have cb2 := cell_below cb hb2
        have hmx : max (p : Int) (xd : Int) = ((max p xd : Nat) : Int) := by omega
        clear c0 c1 c2 c3
        go_wp2
        go_roundw
        case rel => exact ⟨i + 1, c + xc, max p xd, by omega, by go_num, by go_num, by first | rfl | (rw [hmx]) | simp, hc2, hp2, hn1, below_trans hbr hb2, cb2⟩
        case measure => simp [intOf]; omega
      · have hfin : Hid (c = 1 + Ex.cnt.cntL l ∧ p = Ex.dep.depL l) := by
          have h1 := hcp.out
          rw [List.take_of_length_le (by omega)] at h1
          exact h1
        go_wp2
        go_ret2
        obtain ⟨h1, h2⟩ := hfin.out
        refine ⟨?_, hbr⟩
        rw [← h1, ← h2]
        simp
        omega
end Go.Proofs.YtfjpgjkfmcedoaaGreatDoor
