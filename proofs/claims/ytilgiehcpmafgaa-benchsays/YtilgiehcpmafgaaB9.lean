/- Benches: the tasks counted by what a function says of their jobs. -/
import Derived.Test.YtilgiehcpmafgaaB8
import Derived.Test.YtilgiehcpmafgaaT5
namespace Go.Proofs.Ytilgiehcpmafgaa
open Go.ChangeShapes Go.WideShapes Go.ChangeAt Go.RowKit
open Bn
def one (c : List Int) (s : Sl) : List Int :=
  if s.taken = true ∧ 0 ≤ s.job.tmod 5 ∧ s.job.tmod 5 < 3 then c.set (s.job.tmod 5).toNat (c.getD (s.job.tmod 5).toNat 0 + 1) else c
def cnts (L : List Sl) (k : Nat) : List Int := (L.take k).foldl one [0, 0, 0]
theorem cnts_succ {L : List Sl} {k : Nat} (hk : k < L.length) : cnts L (k + 1) = one (cnts L k) L[k] := by
  unfold cnts
  rw [List.take_succ_eq_append_getElem hk, List.foldl_append]
  rfl
theorem one_len (c : List Int) (s : Sl) : (one c s).length = c.length := by
  unfold one
  split <;> simp
theorem cnts_ok (L : List Sl) (k : Nat) (hk : k ≤ L.length) : (cnts L k).length = 3 ∧ ∀ x ∈ cnts L k, 0 ≤ x ∧ x ≤ k := by
  induction k with
  | zero => simp [cnts]
  | succ k ih =>
    obtain ⟨h1, h2⟩ := ih (by omega)
    rw [cnts_succ (by omega)]
    refine ⟨by rw [one_len, h1], fun x hx => ?_⟩
    unfold one at hx
    split at hx
    · rcases List.mem_or_eq_of_mem_set hx with h | h
      · have := h2 x h; omega
      · rw [List.getD_eq_getElem?_getD, List.getElem?_eq_getElem (by omega), Option.getD_some] at h
        have := h2 _ (List.getElem_mem (l := cnts L k) (by omega : (L[k].job.tmod 5).toNat < (cnts L k).length))
        omega
    · have := h2 x hx; omega
set_option maxRecDepth 100000 in
set_option maxHeartbeats 2000000 in
theorem bcount_any {lo hi P W S g cap : Nat} {L : List Sl} (w : World) (h : IsB w lo hi P W S g cap L) :
    Calls Try.prog 25 #[.pointer (some ⟨P, 0, none⟩), .int .i64 3, .func (.func 26) #[] #[]] w fun e w' => ∃ v, e = .returned v ∧ w'.ownsRow w.heap.size 3 1 v (cnts L L.length).length (cellsI (cnts L L.length)) ∧ Below w.heap.size w w' := by
  have hmk : ∀ w', (Instr.makeSlice 42 (.int .i64 3) (.int .i64 3)).run Try.prog w' = .ok (.slice (some ⟨w'.heap.size, 0, none⟩) 3 3) (w'.alloc (.cells (made 3) 3)) := fun w' => make_run 3 (by omega) w'
  have H := Lib.hid h
  have C2 := h.row.at (i := 2) (v := .slice (some ⟨g, 0, none⟩) L.length cap) rfl
  have hsm := h.small
  have C3 : (w.alloc (.cells (made 3) 3)).cell? ⟨P, 2, none⟩ = some (.slice (some ⟨g, 0, none⟩) L.length cap) := cell_blw C2 (blw_box _)
  have hn1 : 1 ≤ L.length := by
    have h1 := h.w1
    have h2 := h.s1
    rw [h.len]
    exact Nat.mul_pos (by omega) (by omega)
  obtain ⟨w1, hw1⟩ : ∃ w1, w1 = w.alloc (.cells (made 3) 3) := ⟨_, rfl⟩
  have hb1 : Below w.heap.size w w1 := by rw [hw1]; exact blw_box _
  have hs1 : w1.heap.size = w.heap.size + 1 := by rw [hw1]; simp
  have O1 : Hid (w1.ownsRow w.heap.size 3 1 (.slice (some ⟨w.heap.size, 0, none⟩) 3 3) (cnts L 0).length (cellsI (cnts L 0))) := by
    rw [hw1]
    exact owns_of_blk (L := [0, 0, 0]) (blk_made (n := 3)) (Nat.le_refl _) rfl (by decide)
  have D := Lib.hid (clone_any w1 (h.blw hb1))
  have HW := Lib.hid hw1
  clear h hw1
  go_enter Try.func25, Try.ntmps25
  go_wp2_with (go_at_call 42; refine Hid.out ?_)
  refine Lib.hid ?_
  rw [← HW.out]
  refine D.out.mono ?_
  obtain ⟨Gc, hGc⟩ : ∃ Gc, Gc = w.heap.size := ⟨_, rfl⟩
  rintro _ w2 ⟨v, rfl, ho2, hb2⟩
  obtain ⟨q, cap2, ev, hq⟩ : ∃ q cap2, v = .slice (some ⟨q, 0, none⟩) L.length cap2 ∧ w1.heap.size ≤ q := by
    obtain ⟨_, ⟨_, h0⟩ | ⟨q, cap2, _, e2, h3, _⟩⟩ := id ho2
    · omega
    · exact ⟨q, cap2, e2, h3⟩
  subst ev
  have hb02 := blw_step hb1 hb2
  have O2 := Lib.hid (owns_blw O1.out hb2)
  have Q2 := Lib.hid ho2
  obtain ⟨n, hn⟩ : ∃ n, n = L.length := ⟨_, rfl⟩
  rw [hs1] at hq
  rw [← hGc] at hq O2 ⊢
  rw [← hn] at hsm hn1 Q2 ⊢
  have HN := Lib.hid hn
  have HG := Lib.hid hGc
  have hGw : w.heap.size ≤ Gc := by omega
  have HS1 := Lib.hid hs1
  clear HW D O1 ho2 hb1 hb2 hs1 hn C2 C3 H hmk hGc
  go_wp2
  go_loopw [9, 10, 25] (fun _ _ kv wr => ∃ k : Nat, k ≤ n ∧ kv = .int .i64 k ∧ Hid (wr.ownsRow Gc 3 1 (.slice (some ⟨Gc, 0, none⟩) 3 3) (cnts L k).length (cellsI (cnts L k))) ∧ Hid (wr.ownsRow (Gc + 1) 84 6 (.slice (some ⟨q, 0, none⟩) n cap2) n (cellsS L)) ∧ Below w.heap.size w wr) (fun _ _ kv _ => n - (intOf kv).toNat)
  case atStart => exact ⟨0, Nat.zero_le _, rfl, O2, (by have h := Q2.out; rw [HS1.out, ← HG.out] at h; exact h), hb02⟩
  case round =>
    obtain ⟨k, hk, rfl, HO, HQ, hb⟩ := hrel
    by_cases hlt : k < n
    · have hkl : k < L.length := by have := HN.out; omega
      have hq' : q < wr.heap.size := (HQ.out.lt q rfl).2
      have hg' : Gc < wr.heap.size := (HO.out.lt Gc rfl).2
      have cc : ∀ i, i < 6 → wr.cell? ⟨q, k * 6 + i, none⟩ = L[k].cells[i]? := fun i hi6 => by rw [HQ.out.cellAt _ (by omega), cellsS_at L k hkl i hi6]
      have c0 : wr.cell? ⟨q, k * 6, none⟩ = some (.int .i64 L[k].pw) := cc 0 (by omega)
      have c1 : wr.cell? ⟨q, k * 6 + 1, none⟩ = some (.int .i64 L[k].ps) := cc 1 (by omega)
      have c2 : wr.cell? ⟨q, k * 6 + 2, none⟩ = some (.bool L[k].taken) := cc 2 (by omega)
      have c3 : wr.cell? ⟨q, k * 6 + 3, none⟩ = some (.int .i64 L[k].job) := cc 3 (by omega)
      have c4 : wr.cell? ⟨q, k * 6 + 4, none⟩ = some (.bool L[k].fold) := cc 4 (by omega)
      have c5 : wr.cell? ⟨q, k * 6 + 5, none⟩ = some (.int .i64 L[k].index) := cc 5 (by omega)
      have hok := cnts_ok L k (by omega)
      have T0 : Hid (L[k].taken = false → cnts L (k + 1) = cnts L k) := fun e => by rw [cnts_succ hkl, one, if_neg (by rw [e]; simp)]
      have T1 : Hid (¬ (0 ≤ L[k].job.tmod 5 ∧ L[k].job.tmod 5 < 3) → cnts L (k + 1) = cnts L k) := fun e => by rw [cnts_succ hkl, one, if_neg (fun e' => e e'.2)]
      have T2 : Hid (∀ (m : Nat) (hm : m < (cnts L k).length), m < 3 → L[k].taken = true → L[k].job.tmod 5 = m → cnts L (k + 1) = (cnts L k).set m ((cnts L k)[m] + 1)) := fun m hm hm3 e1 e2 => by
        rw [cnts_succ hkl, one, if_pos ⟨e1, by omega, by omega⟩, e2, Int.toNat_natCast, List.getD_eq_getElem?_getD, List.getElem?_eq_getElem hm, Option.getD_some]
      have TK : Hid (∀ w', Calls Try.prog 43 #[.func (.func 26) #[] #[], .int .i64 L[k].job] w' fun e w'' => e = .returned (.int .i64 (L[k].job.tmod 5)) ∧ Below w'.heap.size w' w'') := fun w' => take_any _ w'
      have HX : Hid (∀ (m : Nat) (hm : m < (cnts L k).length), 0 ≤ (cnts L k)[m] ∧ (cnts L k)[m] ≤ 12) := fun m hm => by
        have := hok.2 _ (List.getElem_mem hm)
        omega
      have HOK := Lib.hid hok.1
      clear cc hok
      generalize L[k].job.tmod 5 = t at *
      generalize L[k].taken = tk at *
      generalize L[k].pw = q0 at *
      generalize L[k].ps = q1 at *
      generalize L[k].job = q3 at *
      generalize L[k].fold = q4 at *
      generalize L[k].index = q5 at *
      cases tk with
      | false =>
        have T0' := Lib.hid (T0.out rfl)
        clear T0 T1 T2 TK HX
        go_wp2
        go_roundw
        case rel => exact ⟨k + 1, by omega, by go_num, (by rw [T0'.out]; exact HO.out.alloc _), HQ.out.alloc _, blw_step hb (blw_box _)⟩
        case measure => simp [intOf]; omega
      | true =>
        by_cases hin : 0 ≤ t ∧ t < 3
        · obtain ⟨m, hm⟩ : ∃ m : Nat, t = m := ⟨t.toNat, by omega⟩
          subst hm
          have hm3 : m < 3 := by omega
          have hmi : (m : Int) < 3 := by omega
          have hm0 : (0 : Int) ≤ (m : Int) := by omega
          have hml : m < (cnts L k).length := by rw [HOK.out]; exact hm3
          have T2' := Lib.hid (T2.out m hml hm3 rfl rfl)
          have hx := HX.out m hml
          have F4 : Hid (∀ w4, Below wr.heap.size wr w4 → w4.cell? ⟨Gc, m, none⟩ = some (.int .i64 (cnts L k)[m]) ∧ w4.frozen? ⟨Gc, m, none⟩ = false) := fun w4 h4 => owns_cell (owns_blw HO.out h4) hml
          clear T0 T1 T2 HX
          generalize (cnts L k)[m] = x at *
          obtain ⟨hx0, hx1⟩ := hx
          go_wp2_with (go_at_call 43; refine (TK.out _).mono ?_; rintro _ w4 ⟨rfl, hb4⟩; have hb34 : Below wr.heap.size wr w4 := blw_step (blw_box _) hb4; obtain ⟨f1, f2⟩ := F4.out w4 hb34)
          go_roundw
          case rel => exact ⟨k + 1, by omega, by go_num, (by rw [T2'.out]; exact owns_store (owns_blw HO.out hb34) HOK.out.symm _), owns_setCell (owns_blw HQ.out hb34) (Nat.lt_succ_self _), (blw_step hb hb34).setCell (p := ⟨Gc, m, none⟩) hGw _⟩
          case measure => simp [intOf]; omega
        · have T1' := Lib.hid (T1.out hin)
          clear T0 T1 T2 HX
          go_wp2_with (go_at_call 43; refine (TK.out _).mono ?_; rintro _ w4 ⟨rfl, hb4⟩; have hb34 : Below wr.heap.size wr w4 := blw_step (blw_box _) hb4)
          all_goals
            refine ⟨⟨k + 1, by omega, by go_num, (by rw [T1'.out]; exact owns_blw HO.out hb34), owns_blw HQ.out hb34, blw_step hb hb34⟩, ?_⟩
            simp [intOf]
            omega
    · have e : k = n := by omega
      subst e
      go_wp2
      go_ret
      exact ⟨_, rfl, (by have h := HO.out; rw [HN.out, HG.out] at h; rw [HG.out]; exact h), hb⟩
end Go.Proofs.Ytilgiehcpmafgaa
