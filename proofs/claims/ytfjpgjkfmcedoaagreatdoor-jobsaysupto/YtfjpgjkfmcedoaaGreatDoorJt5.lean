/- The document's JobText. Written by tpl/mk_jt4.py. -/
import Derived.Test.YtfjpgjkfmcedoaaGreatDoorJt4
import Derived.Test.YtfjpgjkfmcedoaaGreatDoorRd3
import Derived.Lib.QuietBelow
namespace Go.Proofs.YtfjpgjkfmcedoaaGreatDoor
open Go.ChangeShapes Go.WideShapes Go.ChangeAt Go.RowKit
/-- The names of foldings, as they are written out. -/
def nmF : List Value := [.string ⟨#[]⟩, .string ⟨#[115, 117, 109]⟩, .string ⟨#[108, 101, 97, 115, 116]⟩, .string ⟨#[103, 114, 101, 97, 116, 101, 115, 116]⟩, .string ⟨#[99, 111, 117, 110, 116]⟩]
theorem rulesL_len (l : List Rl) : (∀ r ∈ l, r.fit) → (rulesL l).length ≤ 44 * rulesWt l := by
  induction l with
  | nil => intro _; simp [rulesL]
  | cons r l ih =>
    intro h
    have h1 := ruleL_len r (h r (by simp))
    have h2 := ih (fun x hx => h x (by simp [hx]))
    have e1 : rulesL (r :: l) = ruleL r ++ rulesL l := by simp [rulesL]
    have e2 : rulesWt (r :: l) = r.wt + rulesWt l := by simp [rulesWt]
    rw [e1, e2, List.length_append]
    omega
theorem nmF_at (k : Int) (h1 : 1 ≤ k) (h2 : k ≤ 4) : nmF[k.toNat]? = some (.string (bs (foldL k.toNat))) := by
  have h : k = 1 ∨ k = 2 ∨ k = 3 ∨ k = 4 := by omega
  rcases h with rfl | rfl | rfl | rfl <;> rfl
set_option maxRecDepth 1000000 in
set_option maxHeartbeats 8000000 in
theorem rjobText_any (j : Jb) (rv : Value) (w : World) (h : IsRules w rv j.rules) (hf : jobFault j = 0) (hw : rulesWt j.rules ≤ 1100000) (hfit : ∀ (i : Nat) x, j.rules[i]? = some x → x.fit) :
    Calls Tryz.prog 10 #[j.value rv] w fun e w' => e = .returned (.tuple #[.string (bs (if 800 < (jobL j).length then [] else jobL j)), .int .i64 (if 800 < (jobL j).length then 2 else 0)]) ∧ Below w.heap.size w w' := by
  have hmix : Tryz.prog.follows .mixedOrders = true := by kernel_rfl
  have HRF := Lib.hid (rulesFault_all (jobFault_rules hf))
  obtain ⟨hf1, hf4, hs1, hs4⟩ := fault_in hf
  have hr4 : j.rules.length ≤ 4 := by
    unfold jobFault at hf
    by_cases h : j.rules.length < 1 ∨ 4 < j.rules.length
    · rw [if_pos h] at hf; cases hf
    · omega
  obtain ⟨l, fo, ea, sl⟩ := j
  simp only [Jb.value] at *
  obtain ⟨RT, hRT⟩ : ∃ X, X = (if 800 < (jobL ⟨l, fo, ea, sl⟩).length then [] else jobL ⟨l, fo, ea, sl⟩) := ⟨_, rfl⟩
  obtain ⟨RN, hRN⟩ : ∃ X : Int, X = (if 800 < (jobL ⟨l, fo, ea, sl⟩).length then 2 else 0) := ⟨_, rfl⟩
  rw [← hRT, ← hRN]
  have HRT := Lib.hid hRT
  have HRNN := Lib.hid hRN
  clear hRT hRN
  have HRS := Lib.hid h
  obtain ⟨ra, rc, rfl⟩ := h.slice
  have HHL := Lib.hid (headL_len ⟨l, fo, ea, sl⟩ (by simp only; omega) (by simp only; omega))
  have HJL : Hid (jobL ⟨l, fo, ea, sl⟩ = headL ⟨l, fo, ea, sl⟩ ++ rulesL l) := rfl
  have HHD : Hid (headL ⟨l, fo, ea, sl⟩ = foldL fo.toNat ++ [32] ++ Lib.itoa sl ++ (if ea then [32, 101, 97, 114, 108, 121] else []) ++ [10]) := rfl
  have hNM := nmF_at fo hf1 hf4
  obtain ⟨rn, hrn⟩ : ∃ n, n = l.length := ⟨_, rfl⟩
  rw [← hrn] at HRS hr4 ⊢
  have HRN := Lib.hid hrn
  obtain ⟨w1, hw1⟩ : ∃ w1, w1 = w.alloc (.cells #[.slice ra rn rc, .int .i64 fo, .bool ea, .int .i64 sl] 24) := ⟨_, rfl⟩
  obtain ⟨P, hP⟩ : ∃ P, P = w.heap.size := ⟨_, rfl⟩
  have hb1 : Below w.heap.size w w1 := by rw [hw1]; exact below_box _
  have E1 : Blk w1 P 24 [.slice ra rn rc, .int .i64 fo, .bool ea, .int .i64 sl] := by rw [hw1, hP]; exact Blk.new _ _ _
  have hs1' : w1.heap.size = w.heap.size + 1 := by rw [hw1]; simp
  obtain ⟨w2, hw2⟩ : ∃ w2, w2 = w1.alloc (.cells nmF.toArray 9) := ⟨_, rfl⟩
  obtain ⟨NB, hNB⟩ : ∃ NB, NB = w1.heap.size := ⟨_, rfl⟩
  have hb2 : Below w1.heap.size w1 w2 := by rw [hw2]; exact below_box _
  have N2 : Blk w2 NB 9 nmF := by rw [hw2, hNB]; exact Blk.new _ _ _
  have E2 := Lib.hid (E1.blw hb2)
  have HB2 : Hid (Below w.heap.size w w2) := below_trans hb1 hb2
  have q0 : w2.cell? ⟨NB, fo.toNat, none⟩ = some (.string (bs (foldL fo.toNat))) := N2.at hNM
  have q1 := E2.out.at (i := 1) (v := .int .i64 fo) rfl
  have q2 := E2.out.at (i := 2) (v := .bool ea) rfl
  have q3 := E2.out.at (i := 3) (v := .int .i64 sl) rfl
  rw [hs1'] at hNB
  rw [hw1] at hw2
  unfold nmF at hw2
  have HW2 := Lib.hid hw2
  have HNB := Lib.hid hNB
  have HPP := Lib.hid hP
  have DC := Lib.hid (fun d os => Calls.regrown_of (Pp.decimal_any sl (Sort.grow (redrawn w2 d) os) (by omega) (by omega)))
  have hfo0 : (0 : Int) ≤ fo := by omega
  have hfo5 : fo < 5 := by omega
  have HWT := Lib.hid hw
  have HFT := Lib.hid hfit
  have hfl := foldL_len fo.toNat
  have hil := Lib.itoa_length_le sl (by omega) (by omega)
  obtain ⟨TI, hTI⟩ : ∃ X, X = Lib.itoa sl := ⟨_, rfl⟩
  obtain ⟨TF, hTF⟩ : ∃ X, X = foldL fo.toNat := ⟨_, rfl⟩
  rw [← hTI] at hil HHD
  rw [← hTF] at hfl HHD q0
  rw [show (⟨(Lib.itoa sl).toArray⟩ : ByteArray) = bs TI by rw [hTI]; rfl] at DC
  obtain ⟨A0, hA0⟩ : ∃ X, X = TF ++ [32] := ⟨_, rfl⟩
  have rA0 : bs TF ++ (⟨#[32]⟩ : ByteArray) = bs A0 := by rw [hA0]; apply ByteArray.ext; simp [bs]
  have zA0 : ¬ 9223372036854775807 < (bs TF).size + ((⟨#[32]⟩ : ByteArray)).size := by rw [bs_size]; simp [ByteArray.size]; omega
  have yA0 : ¬ 9223372036854775807 < (bs TF).size + 1 := by rw [bs_size]; omega
  have lA0 : A0.length ≤ 11 := by rw [hA0, List.length_append]; simp; omega
  have HA0 := Lib.hid hA0
  clear hA0
  obtain ⟨A1, hA1⟩ : ∃ X, X = A0 ++ TI := ⟨_, rfl⟩
  have rA1 : bs A0 ++ bs TI = bs A1 := by rw [hA1]; rw [bs_append]
  have zA1 : ¬ 9223372036854775807 < (bs A0).size + (bs TI).size := by rw [bs_size]; rw [bs_size]; omega
  have lA1 : A1.length ≤ 49000011 := by rw [hA1, List.length_append]; omega
  have HA1 := Lib.hid hA1
  clear hA1
  clear h hf hf1 hf4 hs1 hs4 hrn hw1 hP hb1 E1 hs1' hw2 hNB hb2 N2 hw hfit hNM hTI hTF
  go_enter Tryz.func10, Tryz.ntmps10
  go_upto_region 2 with fail
  rw [← HW2.out, ← HNB.out, ← HPP.out]
  clear HW2 HNB HPP
  have k0 := cell_regrown q0
  have k1 := cell_regrown q1
  have k2 := cell_regrown q2
  have k3 := cell_regrown q3
  refine wp_region_quiet_below hmix (by kernel_rfl) ?_
  repeat (quiet_step (first | (go_at_call 20; exact DC.out _ _)))
  refine wpQuiet_nil ?_
  intro _ hw'
  obtain ⟨⟨dq, osq⟩, hw''⟩ := hw'
  subst hw''
  have HB3 : Hid (Below w2.heap.size w2 (Sort.grow (redrawn w2 dq) osq)) := below_regrown _ _ _
  generalize Sort.grow (redrawn w2 dq) osq = w3 at *
  clear k0 k1 k2 k3 q0 q1 q2 q3 DC
  have E3 := Lib.hid (E2.out.blw HB3.out)
  have q2 := E3.out.at (i := 2) (v := .bool ea) rfl
  have HA1E : Hid (A1 = TF ++ [32] ++ TI) := by show _ = _; rw [HA1.out, HA0.out]
  have HB03 : Hid (Below w.heap.size w w3) := below_trans HB2.out HB3.out
  cases ea with
  | true =>
    obtain ⟨B0, hB0⟩ : ∃ X, X = A1 ++ [32, 101, 97, 114, 108, 121] := ⟨_, rfl⟩
    have rB0 : bs A1 ++ (⟨#[32, 101, 97, 114, 108, 121]⟩ : ByteArray) = bs B0 := by rw [hB0]; apply ByteArray.ext; simp [bs]
    have zB0 : ¬ 9223372036854775807 < (bs A1).size + ((⟨#[32, 101, 97, 114, 108, 121]⟩ : ByteArray)).size := by rw [bs_size]; simp [ByteArray.size]; omega
    have yB0 : ¬ 9223372036854775807 < (bs A1).size + 6 := by rw [bs_size]; omega
    have lB0 : B0.length ≤ 49000017 := by rw [hB0, List.length_append]; simp; omega
    have HB0 := Lib.hid hB0
    clear hB0
    obtain ⟨B1, hB1⟩ : ∃ X, X = B0 ++ [10] := ⟨_, rfl⟩
    have rB1 : bs B0 ++ (⟨#[10]⟩ : ByteArray) = bs B1 := by rw [hB1]; apply ByteArray.ext; simp [bs]
    have zB1 : ¬ 9223372036854775807 < (bs B0).size + ((⟨#[10]⟩ : ByteArray)).size := by rw [bs_size]; simp [ByteArray.size]; omega
    have yB1 : ¬ 9223372036854775807 < (bs B0).size + 1 := by rw [bs_size]; omega
    have lB1 : B1.length ≤ 49000018 := by rw [hB1, List.length_append]; simp; omega
    have HB1 := Lib.hid hB1
    clear hB1
    have HT0 : Hid (B1 = headL ⟨l, fo, true, sl⟩) := by
      show _ = _
      rw [HHD.out, HB1.out, HB0.out, HA1E.out]
      simp
    clear HHD
    go_wp2
    clear q2
    go_loopg [5, 6] rn (fun gg tv iv wr => ∃ (i : Nat) (T : List UInt8), gg = rn - i ∧ i ≤ rn ∧ tv = .string (bs T) ∧ iv = .int .i64 i ∧ Hid (T = B1 ++ rulesL (l.take i)) ∧ Hid (Below w3.heap.size w3 wr))
    case atStart => exact ⟨0, B1, rfl, Nat.zero_le _, rfl, rfl, (by show _ = _; simp [rulesL]), (Below.refl _ _ : Below w3.heap.size w3 w3)⟩
    case round =>
      obtain ⟨i, T, hgi, hi, rfl, rfl, HTT, HBR⟩ := hrel
      have HGI := Lib.hid hgi
      clear hgi
      have HBW : Hid (Below w.heap.size w wr) := below_trans HB03.out HBR.out
      have HJR := Lib.hid (E3.out.blw HBR.out)
      have k0 := HJR.out.at (i := 0) (v := .slice ra rn rc) rfl
      have hTl : T.length ≤ 60000000 := by
        have h1 := rulesL_len (l.take i) (fun r hr => (by obtain ⟨k, hk⟩ := List.getElem?_of_mem (List.mem_of_mem_take hr); exact HFT.out k r hk))
        have h2 := rulesWt_le l i
        have h3 := HWT.out
        have h4 := HHL.out
        rw [← HT0.out] at h4
        rw [HTT.out, List.length_append]
        omega
      by_cases hlt : i < rn
      · obtain ⟨r, hr⟩ : ∃ r, l[i]? = some r := ⟨l[i]'(by rw [← HRN.out]; exact hlt), by simp⟩
        have hwr : r.wt ≤ 1100000 := by have h1 := rule_wt hr; have h2 := HWT.out; omega
        have hft := HFT.out i r hr
        have hrf := HRF.out r (List.mem_of_getElem? hr)
        have HTN : Hid (T ++ ruleL r = B1 ++ rulesL (l.take (i + 1))) := by show _ = _; rw [HTT.out, rulesL_take hr, List.append_assoc]
        have hin : (i : Int) < (rn : Int) := by omega
        have HR := Lib.hid hr
        have HLT := Lib.hid hlt
        clear hr
        go_upto_block 1 with fail
        refine wp_norm (jt_b1 w P i rn rc fo sl true r ra l T wr _ _ _ _ _ _ _ _ _ _ _ _ _ _ _ _ _ _ _ _ _ _ _ _ _ _ _ _ _ _ _ _ _ _ _ _ _ _ _ _ _ _ _ _ _ _ _ _ _ _ _ _ _ _ _ _ _ _ _ _ _ _ _ _ _ _ _ _ _ _ _ _ _ _ _ _ _ _ _ _ _ _ _ _ _ HBW HJR HRS HRN.out HR.out hrf hft hwr (by omega) hr4 ?_)
        refine Lib.hid ?_
        intro z7 z32 z33 z34 z35 z36 z37 z38 z39 z40 z41 z42 z43 z44 z45 z46 z47 z48 z49 z50 z51 z52 z53 z54 z55 z56 z57 z58 z59 z60 z61 z62 z63 z64 z65 z66 z67 z68 z69 z70 z71 z72 z73 z74 z75 z76 z77 z78 z79 z80 z81 z82 wx hbx
        have HBX : Hid (Below w3.heap.size w3 wx) := below_trans HBR.out hbx
        clear hbx k0
        go_wp2
        go_roundg (rn - (i + 1))
        case measure => have := HGI.out; have := HLT.out; omega
        case rel => exact ⟨i + 1, T ++ ruleL r, rfl, HLT.out, rfl, by go_num, HTN, HBX⟩
      · have hTE : Hid (T = jobL ⟨l, fo, true, sl⟩) := by
          show _ = _
          rw [HJL.out, HTT.out, List.take_of_length_le (by rw [← HRN.out]; omega), HT0.out]
        obtain ⟨tl, htl⟩ : ∃ n, n = T.length := ⟨_, rfl⟩
        have hsz : (bs T).size = tl := by rw [bs_size, htl]
        have htl2 : tl ≤ 60000000 := by omega
        have HTLN : Hid ((jobL ⟨l, fo, true, sl⟩).length = tl) := by show _ = _; rw [← hTE.out, htl]
        clear htl hTl
        by_cases h8 : 800 < tl
        · have g8 : decide ((800 : Int) < (tl : Int)) = true := decide_eq_true (by omega)
          have g8b : decide (800 < tl) = true := decide_eq_true h8
          have HX1 : Hid (RT = []) := by show _ = _; rw [HRT.out]; exact if_pos (by rw [HTLN.out]; exact h8)
          have HX2 : Hid (RN = 2) := by show _ = _; rw [HRNN.out]; exact if_pos (by rw [HTLN.out]; exact h8)
          go_wp2
          go_ret2
          exact ⟨by rw [HX1.out, HX2.out]; rfl, HBW.out⟩
        · have g8 : decide ((800 : Int) < (tl : Int)) = false := decide_eq_false (by omega)
          have g8b : decide (800 < tl) = false := decide_eq_false h8
          have HX1 : Hid (RT = T) := by
            show _ = _
            rw [HRT.out, if_neg (by rw [HTLN.out]; exact h8), hTE.out]
          have HX2 : Hid (RN = 0) := by show _ = _; rw [HRNN.out]; exact if_neg (by rw [HTLN.out]; exact h8)
          go_wp2
          go_ret2
          exact ⟨by rw [HX1.out, HX2.out]; rfl, HBW.out⟩
  | false =>
    obtain ⟨C0, hC0⟩ : ∃ X, X = A1 ++ [10] := ⟨_, rfl⟩
    have rC0 : bs A1 ++ (⟨#[10]⟩ : ByteArray) = bs C0 := by rw [hC0]; apply ByteArray.ext; simp [bs]
    have zC0 : ¬ 9223372036854775807 < (bs A1).size + ((⟨#[10]⟩ : ByteArray)).size := by rw [bs_size]; simp [ByteArray.size]; omega
    have yC0 : ¬ 9223372036854775807 < (bs A1).size + 1 := by rw [bs_size]; omega
    have lC0 : C0.length ≤ 49000012 := by rw [hC0, List.length_append]; simp; omega
    have HC0 := Lib.hid hC0
    clear hC0
    have HT0 : Hid (C0 = headL ⟨l, fo, false, sl⟩) := by
      show _ = _
      rw [HHD.out, HC0.out, HA1E.out]
      simp
    clear HHD
    go_wp2
    clear q2
    go_loopg [5, 6] rn (fun gg tv iv wr => ∃ (i : Nat) (T : List UInt8), gg = rn - i ∧ i ≤ rn ∧ tv = .string (bs T) ∧ iv = .int .i64 i ∧ Hid (T = C0 ++ rulesL (l.take i)) ∧ Hid (Below w3.heap.size w3 wr))
    case atStart => exact ⟨0, C0, rfl, Nat.zero_le _, rfl, rfl, (by show _ = _; simp [rulesL]), (Below.refl _ _ : Below w3.heap.size w3 w3)⟩
    case round =>
      obtain ⟨i, T, hgi, hi, rfl, rfl, HTT, HBR⟩ := hrel
      have HGI := Lib.hid hgi
      clear hgi
      have HBW : Hid (Below w.heap.size w wr) := below_trans HB03.out HBR.out
      have HJR := Lib.hid (E3.out.blw HBR.out)
      have k0 := HJR.out.at (i := 0) (v := .slice ra rn rc) rfl
      have hTl : T.length ≤ 60000000 := by
        have h1 := rulesL_len (l.take i) (fun r hr => (by obtain ⟨k, hk⟩ := List.getElem?_of_mem (List.mem_of_mem_take hr); exact HFT.out k r hk))
        have h2 := rulesWt_le l i
        have h3 := HWT.out
        have h4 := HHL.out
        rw [← HT0.out] at h4
        rw [HTT.out, List.length_append]
        omega
      by_cases hlt : i < rn
      · obtain ⟨r, hr⟩ : ∃ r, l[i]? = some r := ⟨l[i]'(by rw [← HRN.out]; exact hlt), by simp⟩
        have hwr : r.wt ≤ 1100000 := by have h1 := rule_wt hr; have h2 := HWT.out; omega
        have hft := HFT.out i r hr
        have hrf := HRF.out r (List.mem_of_getElem? hr)
        have HTN : Hid (T ++ ruleL r = C0 ++ rulesL (l.take (i + 1))) := by show _ = _; rw [HTT.out, rulesL_take hr, List.append_assoc]
        have hin : (i : Int) < (rn : Int) := by omega
        have HR := Lib.hid hr
        have HLT := Lib.hid hlt
        clear hr
        go_upto_block 1 with fail
        refine wp_norm (jt_b1 w P i rn rc fo sl false r ra l T wr _ _ _ _ _ _ _ _ _ _ _ _ _ _ _ _ _ _ _ _ _ _ _ _ _ _ _ _ _ _ _ _ _ _ _ _ _ _ _ _ _ _ _ _ _ _ _ _ _ _ _ _ _ _ _ _ _ _ _ _ _ _ _ _ _ _ _ _ _ _ _ _ _ _ _ _ _ _ _ _ _ _ _ _ _ HBW HJR HRS HRN.out HR.out hrf hft hwr (by omega) hr4 ?_)
        refine Lib.hid ?_
        intro z7 z32 z33 z34 z35 z36 z37 z38 z39 z40 z41 z42 z43 z44 z45 z46 z47 z48 z49 z50 z51 z52 z53 z54 z55 z56 z57 z58 z59 z60 z61 z62 z63 z64 z65 z66 z67 z68 z69 z70 z71 z72 z73 z74 z75 z76 z77 z78 z79 z80 z81 z82 wx hbx
        have HBX : Hid (Below w3.heap.size w3 wx) := below_trans HBR.out hbx
        clear hbx k0
        go_wp2
        go_roundg (rn - (i + 1))
        case measure => have := HGI.out; have := HLT.out; omega
        case rel => exact ⟨i + 1, T ++ ruleL r, rfl, HLT.out, rfl, by go_num, HTN, HBX⟩
      · have hTE : Hid (T = jobL ⟨l, fo, false, sl⟩) := by
          show _ = _
          rw [HJL.out, HTT.out, List.take_of_length_le (by rw [← HRN.out]; omega), HT0.out]
        obtain ⟨tl, htl⟩ : ∃ n, n = T.length := ⟨_, rfl⟩
        have hsz : (bs T).size = tl := by rw [bs_size, htl]
        have htl2 : tl ≤ 60000000 := by omega
        have HTLN : Hid ((jobL ⟨l, fo, false, sl⟩).length = tl) := by show _ = _; rw [← hTE.out, htl]
        clear htl hTl
        by_cases h8 : 800 < tl
        · have g8 : decide ((800 : Int) < (tl : Int)) = true := decide_eq_true (by omega)
          have g8b : decide (800 < tl) = true := decide_eq_true h8
          have HX1 : Hid (RT = []) := by show _ = _; rw [HRT.out]; exact if_pos (by rw [HTLN.out]; exact h8)
          have HX2 : Hid (RN = 2) := by show _ = _; rw [HRNN.out]; exact if_pos (by rw [HTLN.out]; exact h8)
          go_wp2
          go_ret2
          exact ⟨by rw [HX1.out, HX2.out]; rfl, HBW.out⟩
        · have g8 : decide ((800 : Int) < (tl : Int)) = false := decide_eq_false (by omega)
          have g8b : decide (800 < tl) = false := decide_eq_false h8
          have HX1 : Hid (RT = T) := by
            show _ = _
            rw [HRT.out, if_neg (by rw [HTLN.out]; exact h8), hTE.out]
          have HX2 : Hid (RN = 0) := by show _ = _; rw [HRNN.out]; exact if_neg (by rw [HTLN.out]; exact h8)
          go_wp2
          go_ret2
          exact ⟨by rw [HX1.out, HX2.out]; rfl, HBW.out⟩
end Go.Proofs.YtfjpgjkfmcedoaaGreatDoor
