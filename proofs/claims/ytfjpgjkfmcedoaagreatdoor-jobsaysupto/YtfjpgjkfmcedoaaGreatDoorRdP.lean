/- Contract of job.Parse: the job whose text this is, or an error. -/
import Derived.Test.YtfjpgjkfmcedoaaGreatDoorRdK
namespace Go.Proofs.YtfjpgjkfmcedoaaGreatDoor
open Go.ChangeShapes Go.WideShapes Go.ChangeAt Go.RowKit
def zeroJ : Value := .agg #[.slice none 0 0, .int .i64 0, .bool false, .int .i64 0]
def JobSaid (s : List UInt8) (w : World) (v : Ending) (w' : World) : Prop :=
  ((∃ j' rv, v = .returned (.tuple #[Jb.value j' rv, .nilIface]) ∧ IsRules w' rv j'.rules ∧ (∀ w'' : World, (∀ k, w.heap.size < k → k < w'.heap.size → w''.heap[k]? = w'.heap[k]?) → IsRules w'' rv j'.rules) ∧ textJ j' = (s, 0) ∧ rulesWt j'.rules ≤ 10 * (s.length + 1) ∧ (∀ r ∈ j'.rules, r.fit) ∧ ∀ j, textJ j = (s, 0) → j' = j) ∨
   (v = .returned (.tuple #[zeroJ, .iface 50 (.int .i64 (if 800 < s.length then 2 else 4))]) ∧ ∀ j, textJ j ≠ (s, 0))) ∧ Below w.heap.size w w'
theorem textJ_is {j : Jb} {s : List UInt8} (h : textJ j = (s, 0)) : jobFault j = 0 ∧ jobL j = s ∧ s.length ≤ 800 := by
  unfold textJ at h
  by_cases h1 : jobFault j ≠ 0
  · rw [if_pos h1] at h
    injection h with _ h
    exact absurd h h1
  · rw [if_neg h1] at h
    by_cases h2 : 800 < (jobL j).length
    · rw [if_pos h2] at h
      injection h with _ h
      cases h
    · rw [if_neg h2] at h
      injection h with h _
      exact ⟨by simpa using h1, h, by rw [← h]; omega⟩
set_option maxRecDepth 100000 in
set_option maxHeartbeats 1000000 in
theorem parse_any (s : List UInt8) (w : World) (E : EnvR w) (hs : s.length ≤ 1000) :
    Calls Tryz.prog 11 #[.string (bs s)] w (JobSaid s w) := by
  have HE := Lib.hid E
  clear E
  have hsz := bs_size s
  by_cases h8 : 800 < s.length
  · have h8' : 800 < (bs s).size := by omega
    have HNO : Hid (∀ j, textJ j ≠ (s, 0)) := fun j e => by have := (textJ_is e).2.2; omega
    have H8 := Lib.hid h8
    clear hsz h8
    go_enter Tryz.func11, Tryz.ntmps11
    go_wp2
    refine bodyPost_ret (v := .tuple #[zeroJ, .iface 50 (.int .i64 2)]) (by simp [results, Tryz.results11, go_sem, zeroJ]) rfl ⟨.inr ⟨by rw [if_pos H8.out], HNO.out⟩, ?_⟩
    first | exact below_box _ | exact (((((below_box _).setCell (p := ⟨w.heap.size, 0, none⟩) (Nat.le_refl _) _).setCell (p := ⟨w.heap.size, 1, none⟩) (Nat.le_refl _) _).setCell (p := ⟨w.heap.size, 2, none⟩) (Nat.le_refl _) _).setCell (p := ⟨w.heap.size, 3, none⟩) (Nat.le_refl _) _)
  · have h8' : (bs s).size ≤ 800 := by omega
    have H8 := Lib.hid h8
    clear hsz h8
    obtain ⟨w1, hw1⟩ : ∃ w1, w1 = w.alloc (.cells #[.slice none 0 0, .int .i64 0, .bool false, .int .i64 0] 24) := ⟨_, rfl⟩
    have hb1 : Below w.heap.size w w1 := by rw [hw1]; exact below_box _
    have hz1 : w1.heap[w.heap.size]? = some (.cells #[.slice none 0 0, .int .i64 0, .bool false, .int .i64 0] 24 (0, 0)) := by rw [hw1]; exact heap_alloc_new _ _
    have RD := Lib.hid (read_any s w1 (HE.out.lower hb1) hs)
    have HW1 := Lib.hid hw1
    have HZ1 := Lib.hid hz1
    clear hw1 hz1
    go_enter Tryz.func11, Tryz.ntmps11
    go_wp2_with (go_at_call 23; refine Hid.out ?_)
    rw [← HW1.out]
    refine Lib.hid ?_
    refine RD.out.mono ?_
    rintro _ w2 ⟨j, rv, rfl, hir, hrj, hb2⟩
    have hsl := hir w2 (fun _ _ _ => rfl)
    obtain ⟨ra, rc, hrv⟩ := hsl.slice
    subst hrv
    have HIW := Lib.hid hir
    unfold Jb.value
    obtain ⟨w3, hw3⟩ : ∃ w3, w3 = w2.alloc (.cells #[.slice ra j.rules.length rc, .int .i64 j.fold, .bool j.early, .int .i64 j.slices] 24) := ⟨_, rfl⟩
    have hb3 : Below w2.heap.size w2 w3 := by rw [hw3]; exact below_box _
    obtain ⟨B, hB⟩ : ∃ B, B = w2.heap.size := ⟨_, rfl⟩
    have hx3 : w3.heap[B]? = some (.cells #[.slice ra j.rules.length rc, .int .i64 j.fold, .bool j.early, .int .i64 j.slices] 24 (0, 0)) := by rw [hw3, hB]; exact heap_alloc_new _ _
    have hb13 := below_trans hb2 hb3
    have hb03 := below_trans hb1 hb13
    have hIR3 := hsl.lower hb3
    have TX := Lib.hid (jobText_any j (.slice ra j.rules.length rc) w3 hIR3 (by have := hrj.1; omega) (HE.out.lower hb03).toEnvJ (fun i x hx => hrj.2.1 x (List.mem_of_getElem? hx)))
    unfold Jb.value at TX
    have HZ3 : Hid (w3.heap[w.heap.size]? = some (.cells #[.slice none 0 0, .int .i64 0, .bool false, .int .i64 0] 24 (0, 0))) := by
      show _ = _
      rw [hb13.block _ (blockLt HZ1.out)]; exact HZ1.out
    have HW3 := Lib.hid hw3
    have HBD := Lib.hid hB
    have HIR := Lib.hid hIR3
    have HRJ := Lib.hid hrj
    have hBlt : w.heap.size < B := by
      have a := blockLt HZ1.out
      have b := hb2.size
      omega
    have HX3 := Lib.hid hx3
    have hsz1 : Hid (w.heap.size < w1.heap.size) := blockLt HZ1.out
    clear hw3 hB RD hir hsl hIR3 hrj hx3 HZ1 HW1
    obtain ⟨T, hT⟩ : ∃ T, T = textJ j := ⟨_, rfl⟩
    rw [← hT] at TX
    have HT := Lib.hid hT
    clear hT
    go_wp2_with (go_at_call 9; refine Hid.out ?_)
    rw [← HW3.out, ← HBD.out]
    clear HW3 HBD
    refine Lib.hid ?_
    refine TX.out.mono ?_
    rintro _ w4 ⟨rfl, hb4⟩
    have hz4 : w4.heap[w.heap.size]? = some (.cells #[.slice none 0 0, .int .i64 0, .bool false, .int .i64 0] 24 (0, 0)) := by rw [hb4.block _ (blockLt HZ3.out)]; exact HZ3.out
    have hx4 : w4.heap[B]? = some (.cells #[.slice ra j.rules.length rc, .int .i64 j.fold, .bool j.early, .int .i64 j.slices] 24 (0, 0)) := by rw [hb4.block _ (blockLt HX3.out)]; exact HX3.out
    have hb04 := below_trans hb03 hb4
    have HI4 := Lib.hid (HIR.out.lower hb4)
    have p0 : w4.cell? ⟨w.heap.size, 0, none⟩ = some (.slice none 0 0) := by rw [cell_of_row _ _ _ _ _ _ hz4]; rfl
    have p1 : w4.cell? ⟨w.heap.size, 1, none⟩ = some (.int .i64 0) := by rw [cell_of_row _ _ _ _ _ _ hz4]; rfl
    have p2 : w4.cell? ⟨w.heap.size, 2, none⟩ = some (.bool false) := by rw [cell_of_row _ _ _ _ _ _ hz4]; rfl
    have p3 : w4.cell? ⟨w.heap.size, 3, none⟩ = some (.int .i64 0) := by rw [cell_of_row _ _ _ _ _ _ hz4]; rfl
    have e0 := frozen_of_row w4 w.heap.size 0 _ _ hz4
    have e1 := frozen_of_row w4 w.heap.size 1 _ _ hz4
    have e2 := frozen_of_row w4 w.heap.size 2 _ _ hz4
    have e3 := frozen_of_row w4 w.heap.size 3 _ _ hz4
    have q0 : w4.cell? ⟨B, 0, none⟩ = some (.slice ra j.rules.length rc) := by rw [cell_of_row _ _ _ _ _ _ hx4]; rfl
    have q1 : w4.cell? ⟨B, 1, none⟩ = some (.int .i64 j.fold) := by rw [cell_of_row _ _ _ _ _ _ hx4]; rfl
    have q2 : w4.cell? ⟨B, 2, none⟩ = some (.bool j.early) := by rw [cell_of_row _ _ _ _ _ _ hx4]; rfl
    have q3 : w4.cell? ⟨B, 3, none⟩ = some (.int .i64 j.slices) := by rw [cell_of_row _ _ _ _ _ _ hx4]; rfl
    have hBne : ¬ B = w.heap.size := by omega
    have hBne2 : ¬ w.heap.size = B := fun e => hBne e.symm
    have HZ4 := Lib.hid hz4
    clear hz4 hx4 TX
    rcases (errV_cases T.2).symm with ⟨h0, hv⟩ | ⟨h0, hv⟩
    · rw [hv]
      have HNO : Hid (∀ j', textJ j' ≠ (s, 0)) := fun j' e => by
        obtain ⟨a, b, _⟩ := textJ_is e
        have e2 := HRJ.out.2.2 j' a b
        rw [← e2, ← HT.out] at e
        rw [e] at h0
        exact h0 rfl
      clear hv h0
      go_wp2
      (try simp only [Exit.inBlock, Exit.then])
      have g1 := heap_set (j := 0) HZ4.out (.slice none 0 0)
      have g2 := heap_set (j := 1) g1 (.int .i64 0)
      have g3 := heap_set (j := 2) g2 (.bool false)
      have g4 := heap_set (j := 3) g3 (.int .i64 0)
      have z0 : ((((w4.setCell ⟨w.heap.size, 0, none⟩ (.slice none 0 0)).setCell ⟨w.heap.size, 1, none⟩ (.int .i64 0)).setCell ⟨w.heap.size, 2, none⟩ (.bool false)).setCell ⟨w.heap.size, 3, none⟩ (.int .i64 0)).cell? ⟨w.heap.size, 0, none⟩ = some (.slice none 0 0) := by rw [cell_of_row _ _ _ _ _ _ g4]; rfl
      have z1 : ((((w4.setCell ⟨w.heap.size, 0, none⟩ (.slice none 0 0)).setCell ⟨w.heap.size, 1, none⟩ (.int .i64 0)).setCell ⟨w.heap.size, 2, none⟩ (.bool false)).setCell ⟨w.heap.size, 3, none⟩ (.int .i64 0)).cell? ⟨w.heap.size, 1, none⟩ = some (.int .i64 0) := by rw [cell_of_row _ _ _ _ _ _ g4]; rfl
      have z2 : ((((w4.setCell ⟨w.heap.size, 0, none⟩ (.slice none 0 0)).setCell ⟨w.heap.size, 1, none⟩ (.int .i64 0)).setCell ⟨w.heap.size, 2, none⟩ (.bool false)).setCell ⟨w.heap.size, 3, none⟩ (.int .i64 0)).cell? ⟨w.heap.size, 2, none⟩ = some (.bool false) := by rw [cell_of_row _ _ _ _ _ _ g4]; rfl
      have z3 : ((((w4.setCell ⟨w.heap.size, 0, none⟩ (.slice none 0 0)).setCell ⟨w.heap.size, 1, none⟩ (.int .i64 0)).setCell ⟨w.heap.size, 2, none⟩ (.bool false)).setCell ⟨w.heap.size, 3, none⟩ (.int .i64 0)).cell? ⟨w.heap.size, 3, none⟩ = some (.int .i64 0) := by rw [cell_of_row _ _ _ _ _ _ g4]; rfl
      have hb5 : Below w.heap.size w ((((w4.setCell ⟨w.heap.size, 0, none⟩ (.slice none 0 0)).setCell ⟨w.heap.size, 1, none⟩ (.int .i64 0)).setCell ⟨w.heap.size, 2, none⟩ (.bool false)).setCell ⟨w.heap.size, 3, none⟩ (.int .i64 0)) := (((hb04.setCell (p := ⟨w.heap.size, 0, none⟩) (Nat.le_refl _) _).setCell (p := ⟨w.heap.size, 1, none⟩) (Nat.le_refl _) _).setCell (p := ⟨w.heap.size, 2, none⟩) (Nat.le_refl _) _).setCell (p := ⟨w.heap.size, 3, none⟩) (Nat.le_refl _) _
      clear g1 g2 g3 g4 p0 p1 p2 p3 e0 e1 e2 e3 q0 q1 q2 q3
      generalize ((((w4.setCell ⟨w.heap.size, 0, none⟩ (.slice none 0 0)).setCell ⟨w.heap.size, 1, none⟩ (.int .i64 0)).setCell ⟨w.heap.size, 2, none⟩ (.bool false)).setCell ⟨w.heap.size, 3, none⟩ (.int .i64 0)) = w5 at *
      exact bodyPost_ret (v := .tuple #[zeroJ, .iface 50 (.int .i64 4)]) (by simp [results, Tryz.results11, go_sem, z0, z1, z2, z3, zeroJ]) rfl ⟨.inr ⟨by rw [if_neg H8.out], HNO.out⟩, hb5⟩
    · rw [hv]
      clear hv
      by_cases hts : T.1 = s
      · have hE : ((bs T.1).toList == (bs s).toList) = true := by rw [bs_toList, bs_toList, hts]; simp
        have HTX : Hid (textJ j = (s, 0)) := by
          show _ = _
          rw [← HT.out, ← hts, ← h0]
        have HUN : Hid (∀ j', textJ j' = (s, 0) → j = j') := fun j' e => by
          obtain ⟨a, b, _⟩ := textJ_is e
          exact HRJ.out.2.2 j' a b
        have HWF : Hid (rulesWt j.rules ≤ 10 * (s.length + 1) ∧ ∀ r ∈ j.rules, r.fit) := ⟨HRJ.out.1, HRJ.out.2.1⟩
        clear hts h0
        go_wp2
        (try simp only [Exit.inBlock, Exit.then])
        have g1 := heap_set (j := 0) HZ4.out (.slice ra j.rules.length rc)
        have g2 := heap_set (j := 1) g1 (.int .i64 j.fold)
        have g3 := heap_set (j := 2) g2 (.bool j.early)
        have g4 := heap_set (j := 3) g3 (.int .i64 j.slices)
        have z0 : ((((w4.setCell ⟨w.heap.size, 0, none⟩ (.slice ra j.rules.length rc)).setCell ⟨w.heap.size, 1, none⟩ (.int .i64 j.fold)).setCell ⟨w.heap.size, 2, none⟩ (.bool j.early)).setCell ⟨w.heap.size, 3, none⟩ (.int .i64 j.slices)).cell? ⟨w.heap.size, 0, none⟩ = some (.slice ra j.rules.length rc) := by rw [cell_of_row _ _ _ _ _ _ g4]; rfl
        have z1 : ((((w4.setCell ⟨w.heap.size, 0, none⟩ (.slice ra j.rules.length rc)).setCell ⟨w.heap.size, 1, none⟩ (.int .i64 j.fold)).setCell ⟨w.heap.size, 2, none⟩ (.bool j.early)).setCell ⟨w.heap.size, 3, none⟩ (.int .i64 j.slices)).cell? ⟨w.heap.size, 1, none⟩ = some (.int .i64 j.fold) := by rw [cell_of_row _ _ _ _ _ _ g4]; rfl
        have z2 : ((((w4.setCell ⟨w.heap.size, 0, none⟩ (.slice ra j.rules.length rc)).setCell ⟨w.heap.size, 1, none⟩ (.int .i64 j.fold)).setCell ⟨w.heap.size, 2, none⟩ (.bool j.early)).setCell ⟨w.heap.size, 3, none⟩ (.int .i64 j.slices)).cell? ⟨w.heap.size, 2, none⟩ = some (.bool j.early) := by rw [cell_of_row _ _ _ _ _ _ g4]; rfl
        have z3 : ((((w4.setCell ⟨w.heap.size, 0, none⟩ (.slice ra j.rules.length rc)).setCell ⟨w.heap.size, 1, none⟩ (.int .i64 j.fold)).setCell ⟨w.heap.size, 2, none⟩ (.bool j.early)).setCell ⟨w.heap.size, 3, none⟩ (.int .i64 j.slices)).cell? ⟨w.heap.size, 3, none⟩ = some (.int .i64 j.slices) := by rw [cell_of_row _ _ _ _ _ _ g4]; rfl
        have hb5 : Below w.heap.size w ((((w4.setCell ⟨w.heap.size, 0, none⟩ (.slice ra j.rules.length rc)).setCell ⟨w.heap.size, 1, none⟩ (.int .i64 j.fold)).setCell ⟨w.heap.size, 2, none⟩ (.bool j.early)).setCell ⟨w.heap.size, 3, none⟩ (.int .i64 j.slices)) := (((hb04.setCell (p := ⟨w.heap.size, 0, none⟩) (Nat.le_refl _) _).setCell (p := ⟨w.heap.size, 1, none⟩) (Nat.le_refl _) _).setCell (p := ⟨w.heap.size, 2, none⟩) (Nat.le_refl _) _).setCell (p := ⟨w.heap.size, 3, none⟩) (Nat.le_refl _) _
        have HI5 : Hid (IsRules ((((w4.setCell ⟨w.heap.size, 0, none⟩ (.slice ra j.rules.length rc)).setCell ⟨w.heap.size, 1, none⟩ (.int .i64 j.fold)).setCell ⟨w.heap.size, 2, none⟩ (.bool j.early)).setCell ⟨w.heap.size, 3, none⟩ (.int .i64 j.slices)) (.slice ra j.rules.length rc) j.rules) := by
          refine HIW.out _ (fun k hk1 hk2 => ?_)
          have hlt := hsz1.out
          rw [Below.heap_setCell _ ⟨w.heap.size, 3, none⟩ _ k (fun e => by simp at e; omega), Below.heap_setCell _ ⟨w.heap.size, 2, none⟩ _ k (fun e => by simp at e; omega), Below.heap_setCell _ ⟨w.heap.size, 1, none⟩ _ k (fun e => by simp at e; omega), Below.heap_setCell _ ⟨w.heap.size, 0, none⟩ _ k (fun e => by simp at e; omega)]
          exact (below_trans hb3 hb4).block k hk2
        have HI6 : Hid (∀ w'' : World, (∀ k, w.heap.size < k → k < ((((w4.setCell ⟨w.heap.size, 0, none⟩ (.slice ra j.rules.length rc)).setCell ⟨w.heap.size, 1, none⟩ (.int .i64 j.fold)).setCell ⟨w.heap.size, 2, none⟩ (.bool j.early)).setCell ⟨w.heap.size, 3, none⟩ (.int .i64 j.slices)).heap.size → w''.heap[k]? = ((((w4.setCell ⟨w.heap.size, 0, none⟩ (.slice ra j.rules.length rc)).setCell ⟨w.heap.size, 1, none⟩ (.int .i64 j.fold)).setCell ⟨w.heap.size, 2, none⟩ (.bool j.early)).setCell ⟨w.heap.size, 3, none⟩ (.int .i64 j.slices)).heap[k]?) → IsRules w'' (.slice ra j.rules.length rc) j.rules) := by
          intro w'' hag
          refine HIW.out _ (fun k hk1 hk2 => ?_)
          have hlt := hsz1.out
          have h24 := (below_trans hb3 hb4).size
          rw [hag k (by omega) (by simp only [World.size_setCell]; omega), Below.heap_setCell _ ⟨w.heap.size, 3, none⟩ _ k (fun e => by simp at e; omega), Below.heap_setCell _ ⟨w.heap.size, 2, none⟩ _ k (fun e => by simp at e; omega), Below.heap_setCell _ ⟨w.heap.size, 1, none⟩ _ k (fun e => by simp at e; omega), Below.heap_setCell _ ⟨w.heap.size, 0, none⟩ _ k (fun e => by simp at e; omega)]
          exact (below_trans hb3 hb4).block k hk2
        clear g1 g2 g3 g4 p0 p1 p2 p3 e0 e1 e2 e3 q0 q1 q2 q3
        generalize ((((w4.setCell ⟨w.heap.size, 0, none⟩ (.slice ra j.rules.length rc)).setCell ⟨w.heap.size, 1, none⟩ (.int .i64 j.fold)).setCell ⟨w.heap.size, 2, none⟩ (.bool j.early)).setCell ⟨w.heap.size, 3, none⟩ (.int .i64 j.slices)) = w5 at *
        exact bodyPost_ret (v := .tuple #[Jb.value j (.slice ra j.rules.length rc), .nilIface]) (by simp [results, Tryz.results11, go_sem, z0, z1, z2, z3, Jb.value]) rfl ⟨.inl ⟨j, _, rfl, HI5.out, HI6.out, HTX.out, HWF.out.1, HWF.out.2, HUN.out⟩, hb5⟩
      · have hE : ((bs T.1).toList == (bs s).toList) = false := by rw [bs_toList, bs_toList]; simpa using hts
        have HNO : Hid (∀ j', textJ j' ≠ (s, 0)) := fun j' e => by
          obtain ⟨a, b, _⟩ := textJ_is e
          have e2 := HRJ.out.2.2 j' a b
          rw [← e2, ← HT.out] at e
          rw [e] at hts
          exact hts rfl
        clear hts h0
        go_wp2
        (try simp only [Exit.inBlock, Exit.then])
        have g1 := heap_set (j := 0) HZ4.out (.slice none 0 0)
        have g2 := heap_set (j := 1) g1 (.int .i64 0)
        have g3 := heap_set (j := 2) g2 (.bool false)
        have g4 := heap_set (j := 3) g3 (.int .i64 0)
        have z0 : ((((w4.setCell ⟨w.heap.size, 0, none⟩ (.slice none 0 0)).setCell ⟨w.heap.size, 1, none⟩ (.int .i64 0)).setCell ⟨w.heap.size, 2, none⟩ (.bool false)).setCell ⟨w.heap.size, 3, none⟩ (.int .i64 0)).cell? ⟨w.heap.size, 0, none⟩ = some (.slice none 0 0) := by rw [cell_of_row _ _ _ _ _ _ g4]; rfl
        have z1 : ((((w4.setCell ⟨w.heap.size, 0, none⟩ (.slice none 0 0)).setCell ⟨w.heap.size, 1, none⟩ (.int .i64 0)).setCell ⟨w.heap.size, 2, none⟩ (.bool false)).setCell ⟨w.heap.size, 3, none⟩ (.int .i64 0)).cell? ⟨w.heap.size, 1, none⟩ = some (.int .i64 0) := by rw [cell_of_row _ _ _ _ _ _ g4]; rfl
        have z2 : ((((w4.setCell ⟨w.heap.size, 0, none⟩ (.slice none 0 0)).setCell ⟨w.heap.size, 1, none⟩ (.int .i64 0)).setCell ⟨w.heap.size, 2, none⟩ (.bool false)).setCell ⟨w.heap.size, 3, none⟩ (.int .i64 0)).cell? ⟨w.heap.size, 2, none⟩ = some (.bool false) := by rw [cell_of_row _ _ _ _ _ _ g4]; rfl
        have z3 : ((((w4.setCell ⟨w.heap.size, 0, none⟩ (.slice none 0 0)).setCell ⟨w.heap.size, 1, none⟩ (.int .i64 0)).setCell ⟨w.heap.size, 2, none⟩ (.bool false)).setCell ⟨w.heap.size, 3, none⟩ (.int .i64 0)).cell? ⟨w.heap.size, 3, none⟩ = some (.int .i64 0) := by rw [cell_of_row _ _ _ _ _ _ g4]; rfl
        have hb5 : Below w.heap.size w ((((w4.setCell ⟨w.heap.size, 0, none⟩ (.slice none 0 0)).setCell ⟨w.heap.size, 1, none⟩ (.int .i64 0)).setCell ⟨w.heap.size, 2, none⟩ (.bool false)).setCell ⟨w.heap.size, 3, none⟩ (.int .i64 0)) := (((hb04.setCell (p := ⟨w.heap.size, 0, none⟩) (Nat.le_refl _) _).setCell (p := ⟨w.heap.size, 1, none⟩) (Nat.le_refl _) _).setCell (p := ⟨w.heap.size, 2, none⟩) (Nat.le_refl _) _).setCell (p := ⟨w.heap.size, 3, none⟩) (Nat.le_refl _) _
        clear g1 g2 g3 g4 p0 p1 p2 p3 e0 e1 e2 e3 q0 q1 q2 q3
        generalize ((((w4.setCell ⟨w.heap.size, 0, none⟩ (.slice none 0 0)).setCell ⟨w.heap.size, 1, none⟩ (.int .i64 0)).setCell ⟨w.heap.size, 2, none⟩ (.bool false)).setCell ⟨w.heap.size, 3, none⟩ (.int .i64 0)) = w5 at *
        exact bodyPost_ret (v := .tuple #[zeroJ, .iface 50 (.int .i64 4)]) (by simp [results, Tryz.results11, go_sem, z0, z1, z2, z3, zeroJ]) rfl ⟨.inr ⟨by rw [if_neg H8.out], HNO.out⟩, hb5⟩
end Go.Proofs.YtfjpgjkfmcedoaaGreatDoor
