/- Mapper: the walk of TopWhen. -/
import Derived.Test.YtahhcabmpcjddaaDoorW1
namespace Go.Proofs.YtahhcabmpcjddaaDoor
open Go.ChangeShapes Go.WideShapes Go.ChangeAt Go.RowKit
set_option maxRecDepth 100000 in
set_option maxHeartbeats 4000000 in
theorem topWhen_walk (r : Rl) (ai ak av : Option Addr) (ci ck cv : Nat) (kind : Int) (s line : List UInt8) (w : World) (E : EnvS w) (xi : IsEx w (.slice ai r.iff.a.length ci) r.iff) (xk : IsEx w (.slice ak r.key.a.length ck) r.key) (xv : IsEx w (.slice av r.val.a.length cv) r.val) (hw : r.wt + s.length ≤ 1000000000) (hl : line.length ≤ 1000000000) :
    Calls Tryd.prog 4 #[r.value (.slice ai r.iff.a.length ci) (.slice ak r.key.a.length ck) (.slice av r.val.a.length cv), .int .i64 kind, .string (bs s), .string (bs line)] w fun e w' => e = .returned (.bool true) ∧ Below w.heap.size w w' := by
  have RD := Lib.hid (fun w E => ready_any w E)
  have hwa : rulesWt [askR r s] ≤ 1000000000 := by
    unfold Rl.wt at hw
    simp only [rulesWt, askR, Rl.wt, List.map_cons, List.map_nil, List.sum_cons, List.sum_nil]
    omega
  have LJ := Lib.hid (fun w rv h => lightJob_any ⟨[askR r s], kind, false, 1⟩ rv w h hwa)
  have CK := Lib.hid (fun w rv h E => jobCheck_any ⟨[askR r s], kind, false, 1⟩ rv w h hwa E)
  have XI := Lib.hid (fun w' (hb : Below w.heap.size w w') => xi.lower hb)
  have XK := Lib.hid (fun w' (hb : Below w.heap.size w w') => xk.lower hb)
  have XV := Lib.hid (fun w' (hb : Below w.heap.size w w') => xv.lower hb)
  have HE := Lib.hid (fun w' (hb : Below w.heap.size w w') => E.lower hb)
  have hsz : (bs line).size ≤ 1000000000 := by rw [bs_size]; exact hl
  have HLS : Hid ((bs line).size = line.length) := bs_size line
  obtain ⟨A, hA⟩ : ∃ A, A = w.heap.size := ⟨_, rfl⟩
  obtain ⟨w0, hw0⟩ : ∃ w0, w0 = w.alloc (.cells #[.bool r.each, .int .i64 r.when, .int .i64 r.iff.k, .int .i64 r.iff.n, .string (bs r.iff.s), .slice ai r.iff.a.length ci, .string (bs r.s), .int .i64 r.key.k, .int .i64 r.key.n, .string (bs r.key.s), .slice ak r.key.a.length ck, .int .i64 r.val.k, .int .i64 r.val.n, .string (bs r.val.s), .slice av r.val.a.length cv] 50) := ⟨_, rfl⟩
  have hR0 : Blk w0 A 50 (ruleCells r ai ak av ci ck cv) := by rw [hw0]; exact blk_new hA
  have hb0 : Below w.heap.size w w0 := by rw [hw0]; exact below_box _
  have HR0 := Lib.hid hR0
  have HB0 := Lib.hid hb0
  have HW0 := Lib.hid hw0
  have HA := Lib.hid hA
  clear xi xk xv E hw hwa hw0 hA hR0 hb0
  unfold Rl.value
  go_enter Tryd.func4, Tryd.ntmps4
  go_upto_region 1 with fail
  rw [← HW0.out, ← HA.out]
  clear HW0
  go_wp2_with (go_at_call 18; refine Hid.out ?_)
  refine Lib.hid ?_
  refine (RD.out _ (HE.out _ HB0.out)).mono ?_
  rintro _ w1 ⟨rfl, hb1⟩
  have R1 := Lib.hid (HR0.out.blw hb1)
  have HB1 := Lib.hid (below_trans HB0.out hb1)
  clear hb1 HR0 HB0 RD
  have q6 := R1.out.at (i := 6) (v := .string (bs r.s)) rfl
  have f6 := R1.out.frozen 6
  have q1 := R1.out.at (i := 1) (v := .int .i64 r.when) rfl
  have f1 := R1.out.frozen 1
  go_upto_region 6 with fail
  obtain ⟨w2, hw2⟩ : ∃ w2, w2 = (w1.setCell ⟨A, 6, none⟩ (.string (bs s))).setCell ⟨A, 1, none⟩ (.int .i64 1) := ⟨_, rfl⟩
  have R2 : Hid (Blk w2 A 50 [.bool r.each, .int .i64 1, .int .i64 r.iff.k, .int .i64 r.iff.n, .string (bs r.iff.s), .slice ai r.iff.a.length ci, .string (bs s), .int .i64 r.key.k, .int .i64 r.key.n, .string (bs r.key.s), .slice ak r.key.a.length ck, .int .i64 r.val.k, .int .i64 r.val.n, .string (bs r.val.s), .slice av r.val.a.length cv]) := by
    show Blk _ _ _ _
    rw [hw2]
    exact (R1.out.set 6 (.string (bs s))).set 1 (.int .i64 1)
  have HB2 : Hid (Below w.heap.size w w2) := by
    show Below _ _ _
    rw [hw2]
    exact (HB1.out.setCell (p := ⟨A, 6, none⟩) (by rw [HA.out]; exact Nat.le_refl _) _).setCell (p := ⟨A, 1, none⟩) (by rw [HA.out]; exact Nat.le_refl _) _
  rw [← hw2]
  clear hw2 q1 q6 f1 f6 R1 HB1
  have q0 := R2.out.at (i := 0) (v := .bool r.each) rfl
  have q1 := R2.out.at (i := 1) (v := .int .i64 1) rfl
  have q2 := R2.out.at (i := 2) (v := .int .i64 r.iff.k) rfl
  have q3 := R2.out.at (i := 3) (v := .int .i64 r.iff.n) rfl
  have q4 := R2.out.at (i := 4) (v := .string (bs r.iff.s)) rfl
  have q5 := R2.out.at (i := 5) (v := .slice ai r.iff.a.length ci) rfl
  have q6 := R2.out.at (i := 6) (v := .string (bs s)) rfl
  have q7 := R2.out.at (i := 7) (v := .int .i64 r.key.k) rfl
  have q8 := R2.out.at (i := 8) (v := .int .i64 r.key.n) rfl
  have q9 := R2.out.at (i := 9) (v := .string (bs r.key.s)) rfl
  have q10 := R2.out.at (i := 10) (v := .slice ak r.key.a.length ck) rfl
  have q11 := R2.out.at (i := 11) (v := .int .i64 r.val.k) rfl
  have q12 := R2.out.at (i := 12) (v := .int .i64 r.val.n) rfl
  have q13 := R2.out.at (i := 13) (v := .string (bs r.val.s)) rfl
  have q14 := R2.out.at (i := 14) (v := .slice av r.val.a.length cv) rfl
  obtain ⟨B1, hB1⟩ : ∃ B1, B1 = w2.heap.size := ⟨_, rfl⟩
  obtain ⟨J, hJ⟩ : ∃ J, J = w2.heap.size + 1 := ⟨_, rfl⟩
  obtain ⟨w3, hw3⟩ : ∃ w3, w3 = w2.alloc (.cells #[.bool r.each, .int .i64 1, .int .i64 r.iff.k, .int .i64 r.iff.n, .string (bs r.iff.s), .slice ai r.iff.a.length ci, .string (bs s), .int .i64 r.key.k, .int .i64 r.key.n, .string (bs r.key.s), .slice ak r.key.a.length ck, .int .i64 r.val.k, .int .i64 r.val.n, .string (bs r.val.s), .slice av r.val.a.length cv] 50) := ⟨_, rfl⟩
  obtain ⟨w4, hw4⟩ : ∃ w4, w4 = w3.alloc (.cells #[.slice (some ⟨B1, 0, none⟩) 1 1, .int .i64 kind, .bool false, .int .i64 1] 24) := ⟨_, rfl⟩
  have hs3 : w3.heap.size = w2.heap.size + 1 := by rw [hw3]; simp
  have hb23 : Below w2.heap.size w2 w3 := by rw [hw3]; exact below_box _
  have hb34 : Below w3.heap.size w3 w4 := by rw [hw4]; exact below_box _
  have hbB : Blk w3 B1 50 (ruleCells (askR r s) ai ak av ci ck cv) := by rw [hw3]; exact blk_new hB1
  have S4 : Hid (WS w w4 A J [.bool r.each, .int .i64 1, .int .i64 r.iff.k, .int .i64 r.iff.n, .string (bs r.iff.s), .slice ai r.iff.a.length ci, .string (bs s), .int .i64 r.key.k, .int .i64 r.key.n, .string (bs r.key.s), .slice ak r.key.a.length ck, .int .i64 r.val.k, .int .i64 r.val.n, .string (bs r.val.s), .slice av r.val.a.length cv] [.slice (some ⟨B1, 0, none⟩) 1 1, .int .i64 kind, .bool false, .int .i64 1] []) := by
    refine ⟨below_trans HB2.out (below_trans hb23 hb34), Nat.le_of_eq HA.out.symm, ?_, (R2.out.blw hb23).blw hb34, ?_, fun p hp => by cases hp⟩
    · have := HB2.out.size; omega
    · rw [hw4]; exact blk_new (by rw [hs3]; exact hJ)
  have IRa : Hid (∀ w', Below w4.heap.size w4 w' → IsRules w' (.slice (some ⟨B1, 0, none⟩) 1 1) [askR r s]) := fun w' hb' => isRules_one (hbB.blw (below_trans hb34 hb')) (XI.out _ (below_trans S4.out.bel hb')) (XK.out _ (below_trans S4.out.bel hb')) (XV.out _ (below_trans S4.out.bel hb'))
  have HW : Hid (w4 = (w2.alloc (.cells #[.bool r.each, .int .i64 1, .int .i64 r.iff.k, .int .i64 r.iff.n, .string (bs r.iff.s), .slice ai r.iff.a.length ci, .string (bs s), .int .i64 r.key.k, .int .i64 r.key.n, .string (bs r.key.s), .slice ak r.key.a.length ck, .int .i64 r.val.k, .int .i64 r.val.n, .string (bs r.val.s), .slice av r.val.a.length cv] 50)).alloc (.cells #[.slice (some ⟨w2.heap.size, 0, none⟩) 1 1, .int .i64 kind, .bool false, .int .i64 1] 24)) := by
    show _ = _
    rw [hw4, hw3, hB1]
  have HJ := Lib.hid hJ
  clear hw3 hw4 hB1 hJ hs3 hb23 hb34 hbB HB2 R2
  go_upto_region 7 with fail
  rw [← HW.out, ← HJ.out]
  clear HW HJ q0 q1 q2 q3 q4 q5 q6 q7 q8 q9 q10 q11 q12 q13 q14
  have j0 := S4.out.job.at (i := 0) (v := .slice (some ⟨B1, 0, none⟩) 1 1) rfl
  have j1 := S4.out.job.at (i := 1) (v := .int .i64 kind) rfl
  have j2 := S4.out.job.at (i := 2) (v := .bool false) rfl
  have j3 := S4.out.job.at (i := 3) (v := .int .i64 1) rfl
  go_wp2_with (go_at_call 10; refine Hid.out ?_)
  refine Lib.hid ?_
  refine (LJ.out w4 _ (IRa.out _ (Below.refl _ _))).mono ?_
  rintro _ w5 ⟨g, rfl, hb45⟩
  have S5 := Lib.hid (S4.out.below hb45)
  have HB45 := Lib.hid hb45
  clear j0 j1 j2 j3 S4 LJ hb45
  cases g with
  | false =>
    go_wp2
    go_ret
    exact ⟨rfl, S5.out.bel⟩
  | true =>
  by_cases hlen : 120 < (bs line).size
  · go_wp2
    go_ret
    exact ⟨rfl, S5.out.bel⟩
  have hl120 : Hid (line.length ≤ 120) := by show _ ≤ _; have := HLS.out; omega
  have j0 := S5.out.job.at (i := 0) (v := .slice (some ⟨B1, 0, none⟩) 1 1) rfl
  have j1 := S5.out.job.at (i := 1) (v := .int .i64 kind) rfl
  have j2 := S5.out.job.at (i := 2) (v := .bool false) rfl
  have j3 := S5.out.job.at (i := 3) (v := .int .i64 1) rfl
  have CK5 := Lib.hid (CK.out w5 _ (IRa.out _ HB45.out) (HE.out _ S5.out.bel))
  obtain ⟨f, hf⟩ : ∃ f, f = jobFault ⟨[askR r s], kind, false, 1⟩ := ⟨_, rfl⟩
  rw [← hf] at CK5
  have HF := Lib.hid hf
  clear hf CK
  go_wp2_with (go_at_call 12; refine Hid.out ?_)
  refine Lib.hid ?_
  refine CK5.out.mono ?_
  rintro _ w6 ⟨rfl, hb56⟩
  have S6 := Lib.hid (S5.out.below hb56)
  have IRA := Lib.hid (IRa.out w6 (below_trans HB45.out hb56))
  clear j0 j1 j2 j3 S5 CK5 hb56 IRa HB45
  rcases (errV_cases f).symm with ⟨h0, hv⟩ | ⟨h0, hv⟩
  · rw [hv]
    go_wp2
    go_ret
    exact ⟨rfl, S6.out.bel⟩
  rw [hv]
  have HF0 : Hid (jobFault ⟨[askR r s], kind, false, 1⟩ = 0) := by show _ = _; rw [← HF.out]; exact h0
  have HFA : Hid (ruleFault (askR r s) = 0) := rulesFault_all (jobFault_parts HF0.out).2.2.2.2.2.2 _ (by simp)
  have HK1 : Hid (1 ≤ kind ∧ kind ≤ 4) := ⟨(jobFault_parts HF0.out).2.2.1, (jobFault_parts HF0.out).2.2.2.1⟩
  clear hv h0 HF
  have HS := Lib.hid (ask_s HFA.out)
  have PAa := Lib.hid (fun w' rv h E => pairs_any ⟨[askR r s], kind, false, 1⟩ rv line w' h (small_wt HFA.out HS.out) HF0.out (by have := hl120.out; omega) E)
  have PAb := Lib.hid (fun w' rv h E => pairs_any ⟨[notR r s], kind, false, 1⟩ rv line w' h (small_wt (not_fault HFA.out) HS.out) (one_fault HK1.out.1 HK1.out.2 (by decide) (by decide) (not_fault HFA.out)) (by have := hl120.out; omega) E)
  have PAc := Lib.hid (fun w' rv h E => pairs_any ⟨[anyR r], kind, false, 1⟩ rv line w' h (small_wt (any_fault HFA.out) (Nat.zero_le _)) (one_fault HK1.out.1 HK1.out.2 (by decide) (by decide) (any_fault HFA.out)) (by have := hl120.out; omega) E)
  have HPE : Hid ((rulesP [askR r s] kind line ++ rulesP [notR r s] kind line).Perm (rulesP [anyR r] kind line)) := by
    show List.Perm _ _
    rw [rulesP_one, rulesP_one, rulesP_one]
    exact when_perm r s kind (ofL line)
  have HLC : Hid ((rulesP [anyR r] kind line).length ≤ 121) := by
    show _ ≤ _
    have h1 := rulesP_len [anyR r] kind line
    have := hl120.out
    simp only [List.length_cons, List.length_nil] at h1
    omega
  generalize rulesP [askR r s] kind line = La at *
  generalize rulesP [notR r s] kind line = Lb at *
  generalize rulesP [anyR r] kind line = Lc at *
  obtain ⟨la, hla⟩ : ∃ la, la = La.length := ⟨_, rfl⟩
  obtain ⟨lb, hlb⟩ : ∃ lb, lb = Lb.length := ⟨_, rfl⟩
  obtain ⟨lc, hlc⟩ : ∃ lc, lc = Lc.length := ⟨_, rfl⟩
  have HLa := Lib.hid hla
  have HLb := Lib.hid hlb
  have HLc := Lib.hid hlc
  have hsum : la + lb = lc := by
    have h := HPE.out.length_eq
    rw [List.length_append] at h
    omega
  have hlc1 : lc ≤ 121 := by rw [hlc]; exact HLC.out
  have HSUM := Lib.hid hsum
  clear hla hlb hlc hsum HF0
  have j0 := S6.out.job.at (i := 0) (v := .slice (some ⟨B1, 0, none⟩) 1 1) rfl
  have j1 := S6.out.job.at (i := 1) (v := .int .i64 kind) rfl
  have j2 := S6.out.job.at (i := 2) (v := .bool false) rfl
  have j3 := S6.out.job.at (i := 3) (v := .int .i64 1) rfl
  have P6 := Lib.hid (PAa.out w6 _ IRA.out (HE.out _ S6.out.bel))
  go_wp2_with (go_at_call 19; refine Hid.out ?_)
  refine Lib.hid ?_
  refine P6.out.mono ?_
  rintro _ w7 ⟨ua, rfl, hrow, hb67⟩
  have S7 := Lib.hid ((S6.out.below hb67).add hrow)
  obtain ⟨uaa, uac, eua⟩ := isPairs_slice (Pp.owns_isPairs hrow)
  rw [← HLa.out] at eua
  subst eua
  clear P6 PAa S6 IRA hrow hb67 j0 j1 j2 j3
  dsimp only
  have q0 := S7.out.rule.at (i := 0) (v := .bool r.each) rfl
  have q1 := S7.out.rule.at (i := 1) (v := .int .i64 1) rfl
  have q2 := S7.out.rule.at (i := 2) (v := .int .i64 r.iff.k) rfl
  have q3 := S7.out.rule.at (i := 3) (v := .int .i64 r.iff.n) rfl
  have q4 := S7.out.rule.at (i := 4) (v := .string (bs r.iff.s)) rfl
  have q5 := S7.out.rule.at (i := 5) (v := .slice ai r.iff.a.length ci) rfl
  have q6 := S7.out.rule.at (i := 6) (v := .string (bs s)) rfl
  have q7 := S7.out.rule.at (i := 7) (v := .int .i64 r.key.k) rfl
  have q8 := S7.out.rule.at (i := 8) (v := .int .i64 r.key.n) rfl
  have q9 := S7.out.rule.at (i := 9) (v := .string (bs r.key.s)) rfl
  have q10 := S7.out.rule.at (i := 10) (v := .slice ak r.key.a.length ck) rfl
  have q11 := S7.out.rule.at (i := 11) (v := .int .i64 r.val.k) rfl
  have q12 := S7.out.rule.at (i := 12) (v := .int .i64 r.val.n) rfl
  have q13 := S7.out.rule.at (i := 13) (v := .string (bs r.val.s)) rfl
  have q14 := S7.out.rule.at (i := 14) (v := .slice av r.val.a.length cv) rfl
  have f1 := S7.out.rule.frozen 1
  go_upto_region 11 with fail
  obtain ⟨w8, hw8⟩ : ∃ w8, w8 = w7.setCell ⟨A, 1, none⟩ (.int .i64 2) := ⟨_, rfl⟩
  have S8 : Hid (WS w w8 A J [.bool r.each, .int .i64 2, .int .i64 r.iff.k, .int .i64 r.iff.n, .string (bs r.iff.s), .slice ai r.iff.a.length ci, .string (bs s), .int .i64 r.key.k, .int .i64 r.key.n, .string (bs r.key.s), .slice ak r.key.a.length ck, .int .i64 r.val.k, .int .i64 r.val.n, .string (bs r.val.s), .slice av r.val.a.length cv] [.slice (some ⟨B1, 0, none⟩) 1 1, .int .i64 kind, .bool false, .int .i64 1] [(.slice uaa la uac, La)]) := by
    have h := S7.out.putRule 1 (.int .i64 2)
    rw [← hw8] at h
    exact h
  rw [← hw8]
  clear hw8 S7 f1 q0 q1 q2 q3 q4 q5 q6 q7 q8 q9 q10 q11 q12 q13 q14
  have q0 := S8.out.rule.at (i := 0) (v := .bool r.each) rfl
  have q1 := S8.out.rule.at (i := 1) (v := .int .i64 2) rfl
  have q2 := S8.out.rule.at (i := 2) (v := .int .i64 r.iff.k) rfl
  have q3 := S8.out.rule.at (i := 3) (v := .int .i64 r.iff.n) rfl
  have q4 := S8.out.rule.at (i := 4) (v := .string (bs r.iff.s)) rfl
  have q5 := S8.out.rule.at (i := 5) (v := .slice ai r.iff.a.length ci) rfl
  have q6 := S8.out.rule.at (i := 6) (v := .string (bs s)) rfl
  have q7 := S8.out.rule.at (i := 7) (v := .int .i64 r.key.k) rfl
  have q8 := S8.out.rule.at (i := 8) (v := .int .i64 r.key.n) rfl
  have q9 := S8.out.rule.at (i := 9) (v := .string (bs r.key.s)) rfl
  have q10 := S8.out.rule.at (i := 10) (v := .slice ak r.key.a.length ck) rfl
  have q11 := S8.out.rule.at (i := 11) (v := .int .i64 r.val.k) rfl
  have q12 := S8.out.rule.at (i := 12) (v := .int .i64 r.val.n) rfl
  have q13 := S8.out.rule.at (i := 13) (v := .string (bs r.val.s)) rfl
  have q14 := S8.out.rule.at (i := 14) (v := .slice av r.val.a.length cv) rfl
  obtain ⟨B2, hB2⟩ : ∃ B2, B2 = w8.heap.size := ⟨_, rfl⟩
  obtain ⟨w9, hw9⟩ : ∃ w9, w9 = w8.alloc (.cells #[.bool r.each, .int .i64 2, .int .i64 r.iff.k, .int .i64 r.iff.n, .string (bs r.iff.s), .slice ai r.iff.a.length ci, .string (bs s), .int .i64 r.key.k, .int .i64 r.key.n, .string (bs r.key.s), .slice ak r.key.a.length ck, .int .i64 r.val.k, .int .i64 r.val.n, .string (bs r.val.s), .slice av r.val.a.length cv] 50) := ⟨_, rfl⟩
  have hb89 : Below w8.heap.size w8 w9 := by rw [hw9]; exact below_box _
  have RB2 : Hid (Blk w9 B2 50 (ruleCells (notR r s) ai ak av ci ck cv)) := by
    show Blk _ _ _ _
    rw [hw9]; exact blk_new hB2
  have S9 := Lib.hid (S8.out.below hb89)
  have S10 := Lib.hid (S9.out.putJob 0 (.slice (some ⟨B2, 0, none⟩) 1 1))
  have RB3 : Hid (Blk (w9.setCell ⟨J, 0, none⟩ (.slice (some ⟨B2, 0, none⟩) 1 1)) B2 50 (ruleCells (notR r s) ai ak av ci ck cv)) := blk_other RB2.out S9.out.job (by decide)
  have m0 := S8.out.job.at (i := 0) (v := .slice (some ⟨B1, 0, none⟩) 1 1) rfl
  have n0 := S9.out.job.at (i := 0) (v := .slice (some ⟨B1, 0, none⟩) 1 1) rfl
  have g0 := S8.out.job.frozen 0
  have g9 := S9.out.job.frozen 0
  rw [hw9] at n0 g9
  have HW9 := Lib.hid hw9
  have HB2 := Lib.hid hB2
  clear hw9 hB2 hb89 RB2 S8 S9 m0 g0
  go_upto_region 12 with fail
  rw [← HW9.out, ← HB2.out]
  obtain ⟨w10, hw10⟩ : ∃ w10, w10 = w9.setCell ⟨J, 0, none⟩ (.slice (some ⟨B2, 0, none⟩) 1 1) := ⟨_, rfl⟩
  rw [← hw10] at S10 RB3
  rw [← hw10]
  clear hw10 HW9 HB2 n0 g9 q0 q1 q2 q3 q4 q5 q6 q7 q8 q9 q10 q11 q12 q13 q14
  have IRb : Hid (IsRules w10 (.slice (some ⟨B2, 0, none⟩) 1 1) [notR r s]) := isRules_one RB3.out (XI.out _ S10.out.bel) (XK.out _ S10.out.bel) (XV.out _ S10.out.bel)
  replace S10 : Hid (WS w w10 A J [.bool r.each, .int .i64 2, .int .i64 r.iff.k, .int .i64 r.iff.n, .string (bs r.iff.s), .slice ai r.iff.a.length ci, .string (bs s), .int .i64 r.key.k, .int .i64 r.key.n, .string (bs r.key.s), .slice ak r.key.a.length ck, .int .i64 r.val.k, .int .i64 r.val.n, .string (bs r.val.s), .slice av r.val.a.length cv] [.slice (some ⟨B2, 0, none⟩) 1 1, .int .i64 kind, .bool false, .int .i64 1] [(.slice uaa la uac, La)]) := S10
  have j0 := S10.out.job.at (i := 0) (v := .slice (some ⟨B2, 0, none⟩) 1 1) rfl
  have j1 := S10.out.job.at (i := 1) (v := .int .i64 kind) rfl
  have j2 := S10.out.job.at (i := 2) (v := .bool false) rfl
  have j3 := S10.out.job.at (i := 3) (v := .int .i64 1) rfl
  have P10 := Lib.hid (PAb.out w10 _ IRb.out (HE.out _ S10.out.bel))
  go_wp2_with (go_at_call 19; refine Hid.out ?_)
  refine Lib.hid ?_
  refine P10.out.mono ?_
  rintro _ w11 ⟨ub, rfl, hrow, hb1011⟩
  have S11 := Lib.hid ((S10.out.below hb1011).add hrow)
  obtain ⟨uba, ubc, eub⟩ := isPairs_slice (Pp.owns_isPairs hrow)
  rw [← HLb.out] at eub
  subst eub
  clear P10 PAb S10 IRb RB3 hrow hb1011 j0 j1 j2 j3
  dsimp only
  obtain ⟨w12, hw12⟩ : ∃ w12, w12 = (((((w11.setCell ⟨A, 1, none⟩ (.int .i64 0)).setCell ⟨A, 6, none⟩ (.string ⟨#[]⟩)).setCell ⟨A, 2, none⟩ (.int .i64 0)).setCell ⟨A, 3, none⟩ (.int .i64 0)).setCell ⟨A, 4, none⟩ (.string ⟨#[]⟩)).setCell ⟨A, 5, none⟩ (.slice none 0 0) := ⟨_, rfl⟩
  have S12 : Hid (WS w w12 A J [.bool r.each, .int .i64 0, .int .i64 0, .int .i64 0, .string ⟨#[]⟩, .slice none 0 0, .string ⟨#[]⟩, .int .i64 r.key.k, .int .i64 r.key.n, .string (bs r.key.s), .slice ak r.key.a.length ck, .int .i64 r.val.k, .int .i64 r.val.n, .string (bs r.val.s), .slice av r.val.a.length cv] [.slice (some ⟨B2, 0, none⟩) 1 1, .int .i64 kind, .bool false, .int .i64 1] [(.slice uba lb ubc, Lb), (.slice uaa la uac, La)]) := by
    have h := (((((S11.out.putRule 1 (.int .i64 0)).putRule 6 (.string ⟨#[]⟩)).putRule 2 (.int .i64 0)).putRule 3 (.int .i64 0)).putRule 4 (.string ⟨#[]⟩)).putRule 5 (.slice none 0 0)
    rw [← hw12] at h
    exact h
  have q0 := S11.out.rule.at (i := 0) (v := .bool r.each) rfl
  have q1 := S11.out.rule.at (i := 1) (v := .int .i64 2) rfl
  have q2 := S11.out.rule.at (i := 2) (v := .int .i64 r.iff.k) rfl
  have q3 := S11.out.rule.at (i := 3) (v := .int .i64 r.iff.n) rfl
  have q4 := S11.out.rule.at (i := 4) (v := .string (bs r.iff.s)) rfl
  have q5 := S11.out.rule.at (i := 5) (v := .slice ai r.iff.a.length ci) rfl
  have q6 := S11.out.rule.at (i := 6) (v := .string (bs s)) rfl
  have q7 := S11.out.rule.at (i := 7) (v := .int .i64 r.key.k) rfl
  have q8 := S11.out.rule.at (i := 8) (v := .int .i64 r.key.n) rfl
  have q9 := S11.out.rule.at (i := 9) (v := .string (bs r.key.s)) rfl
  have q10 := S11.out.rule.at (i := 10) (v := .slice ak r.key.a.length ck) rfl
  have q11 := S11.out.rule.at (i := 11) (v := .int .i64 r.val.k) rfl
  have q12 := S11.out.rule.at (i := 12) (v := .int .i64 r.val.n) rfl
  have q13 := S11.out.rule.at (i := 13) (v := .string (bs r.val.s)) rfl
  have q14 := S11.out.rule.at (i := 14) (v := .slice av r.val.a.length cv) rfl
  have f1 := S11.out.rule.frozen 1
  have f2 := S11.out.rule.frozen 2
  have f3 := S11.out.rule.frozen 3
  have f4 := S11.out.rule.frozen 4
  have f5 := S11.out.rule.frozen 5
  have f6 := S11.out.rule.frozen 6
  have HW12 := Lib.hid hw12
  clear hw12
  go_upto_region 16 with fail
  rw [← HW12.out]
  clear HW12 S11 f1 f2 f3 f4 f5 f6 q0 q1 q2 q3 q4 q5 q6 q7 q8 q9 q10 q11 q12 q13 q14
  have q0 := S12.out.rule.at (i := 0) (v := .bool r.each) rfl
  have q1 := S12.out.rule.at (i := 1) (v := .int .i64 0) rfl
  have q2 := S12.out.rule.at (i := 2) (v := .int .i64 0) rfl
  have q3 := S12.out.rule.at (i := 3) (v := .int .i64 0) rfl
  have q4 := S12.out.rule.at (i := 4) (v := .string ⟨#[]⟩) rfl
  have q5 := S12.out.rule.at (i := 5) (v := .slice none 0 0) rfl
  have q6 := S12.out.rule.at (i := 6) (v := .string ⟨#[]⟩) rfl
  have q7 := S12.out.rule.at (i := 7) (v := .int .i64 r.key.k) rfl
  have q8 := S12.out.rule.at (i := 8) (v := .int .i64 r.key.n) rfl
  have q9 := S12.out.rule.at (i := 9) (v := .string (bs r.key.s)) rfl
  have q10 := S12.out.rule.at (i := 10) (v := .slice ak r.key.a.length ck) rfl
  have q11 := S12.out.rule.at (i := 11) (v := .int .i64 r.val.k) rfl
  have q12 := S12.out.rule.at (i := 12) (v := .int .i64 r.val.n) rfl
  have q13 := S12.out.rule.at (i := 13) (v := .string (bs r.val.s)) rfl
  have q14 := S12.out.rule.at (i := 14) (v := .slice av r.val.a.length cv) rfl
  obtain ⟨B3, hB3⟩ : ∃ B3, B3 = w12.heap.size := ⟨_, rfl⟩
  obtain ⟨w13, hw13⟩ : ∃ w13, w13 = w12.alloc (.cells #[.bool r.each, .int .i64 0, .int .i64 0, .int .i64 0, .string ⟨#[]⟩, .slice none 0 0, .string ⟨#[]⟩, .int .i64 r.key.k, .int .i64 r.key.n, .string (bs r.key.s), .slice ak r.key.a.length ck, .int .i64 r.val.k, .int .i64 r.val.n, .string (bs r.val.s), .slice av r.val.a.length cv] 50) := ⟨_, rfl⟩
  have hb1213 : Below w12.heap.size w12 w13 := by rw [hw13]; exact below_box _
  have RB2 : Hid (Blk w13 B3 50 (ruleCells (anyR r) none ak av 0 ck cv)) := by
    show Blk _ _ _ _
    rw [hw13]; exact blk_new hB3
  have S13 := Lib.hid (S12.out.below hb1213)
  have S14 := Lib.hid (S13.out.putJob 0 (.slice (some ⟨B3, 0, none⟩) 1 1))
  have RB3 : Hid (Blk (w13.setCell ⟨J, 0, none⟩ (.slice (some ⟨B3, 0, none⟩) 1 1)) B3 50 (ruleCells (anyR r) none ak av 0 ck cv)) := blk_other RB2.out S13.out.job (by decide)
  have n0 := S13.out.job.at (i := 0) (v := .slice (some ⟨B2, 0, none⟩) 1 1) rfl
  have g9 := S13.out.job.frozen 0
  rw [hw13] at n0 g9
  have HW9 := Lib.hid hw13
  have HB2 := Lib.hid hB3
  clear hw13 hB3 hb1213 RB2 S12 S13
  go_upto_region 17 with fail
  rw [← HW9.out, ← HB2.out]
  obtain ⟨w14, hw14⟩ : ∃ w14, w14 = w13.setCell ⟨J, 0, none⟩ (.slice (some ⟨B3, 0, none⟩) 1 1) := ⟨_, rfl⟩
  rw [← hw14] at S14 RB3
  rw [← hw14]
  clear hw14 HW9 HB2 n0 g9 q0 q1 q2 q3 q4 q5 q6 q7 q8 q9 q10 q11 q12 q13 q14
  have IRc : Hid (IsRules w14 (.slice (some ⟨B3, 0, none⟩) 1 1) [anyR r]) := isRules_one RB3.out (nilEx _ _) (XK.out _ S14.out.bel) (XV.out _ S14.out.bel)
  replace S14 : Hid (WS w w14 A J [.bool r.each, .int .i64 0, .int .i64 0, .int .i64 0, .string ⟨#[]⟩, .slice none 0 0, .string ⟨#[]⟩, .int .i64 r.key.k, .int .i64 r.key.n, .string (bs r.key.s), .slice ak r.key.a.length ck, .int .i64 r.val.k, .int .i64 r.val.n, .string (bs r.val.s), .slice av r.val.a.length cv] [.slice (some ⟨B3, 0, none⟩) 1 1, .int .i64 kind, .bool false, .int .i64 1] [(.slice uba lb ubc, Lb), (.slice uaa la uac, La)]) := S14
  have j0 := S14.out.job.at (i := 0) (v := .slice (some ⟨B3, 0, none⟩) 1 1) rfl
  have j1 := S14.out.job.at (i := 1) (v := .int .i64 kind) rfl
  have j2 := S14.out.job.at (i := 2) (v := .bool false) rfl
  have j3 := S14.out.job.at (i := 3) (v := .int .i64 1) rfl
  have P14 := Lib.hid (PAc.out w14 _ IRc.out (HE.out _ S14.out.bel))
  go_wp2_with (go_at_call 19; refine Hid.out ?_)
  refine Lib.hid ?_
  refine P14.out.mono ?_
  rintro _ w15 ⟨uc, rfl, hrow, hb1415⟩
  have S15 := Lib.hid ((S14.out.below hb1415).add hrow)
  obtain ⟨uca, ucc, euc⟩ := isPairs_slice (Pp.owns_isPairs hrow)
  rw [← HLc.out] at euc
  subst euc
  clear P14 PAc S14 IRc RB3 hrow hb1415 j0 j1 j2 j3
  dsimp only
  have QA : Hid (∀ w', Below w15.heap.size w15 w' → Pp.IsPairs w' (.slice uaa la uac) La) := fun w' hb' => by
    obtain ⟨b, h⟩ := S15.out.rows (.slice uaa la uac, La) (by simp)
    exact Pp.isPairs_below (Pp.owns_isPairs h) hb'
  have QB : Hid (∀ w', Below w15.heap.size w15 w' → Pp.IsPairs w' (.slice uba lb ubc) Lb) := fun w' hb' => by
    obtain ⟨b, h⟩ := S15.out.rows (.slice uba lb ubc, Lb) (by simp)
    exact Pp.isPairs_below (Pp.owns_isPairs h) hb'
  have QC : Hid (∀ w', Below w15.heap.size w15 w' → Pp.IsPairs w' (.slice uca lc ucc) Lc) := fun w' hb' => by
    obtain ⟨b, h⟩ := S15.out.rows (.slice uca lc ucc, Lc) (by simp)
    exact Pp.isPairs_below (Pp.owns_isPairs h) hb'
  have HB15 := Lib.hid S15.out.bel
  have hLa : La.length ≤ 121 := by have := HLa.out; have := HSUM.out; omega
  have hLb : Lb.length ≤ 121 := by have := HLb.out; have := HSUM.out; omega
  have HL1 := Lib.hid hLa
  have HL2 := Lib.hid hLb
  clear S15 hLa hLb
  go_wp2_with (at_builtin; refine Hid.out ?_)
  refine Lib.hid ?_
  refine Pp.wpList_append_pairs (w0 := w15) rfl (.tmp 58) (.tmp 59) rfl _ [] rfl (Pp.owns_nil _ _) _ La rfl (QA.out _ (Below.refl _ _)) (by have := HL1.out; simp; omega) (Below.refl _ _) ?_
  intro v1 w16 hown16 hb16
  rw [List.nil_append] at hown16
  have HO16 := Lib.hid hown16
  have HB16 := Lib.hid hb16
  clear hown16 hb16
  go_wp2_with (at_builtin; refine Hid.out ?_)
  refine Lib.hid ?_
  refine Pp.wpList_append_pairs (w0 := w15) rfl (.tmp 61) (.tmp 62) rfl _ La rfl HO16.out _ Lb rfl (QB.out _ HB16.out) (by have := HL1.out; have := HL2.out; omega) HB16.out ?_
  intro v2 w17 hown17 hb17
  have hbo := Pp.owns_isPairs hown17
  have QX : Hid (∀ w', Below w17.heap.size w17 w' → Pp.IsPairs w' v2 (La ++ Lb)) := fun w' hb' => Pp.isPairs_below hbo hb'
  have QC17 : Hid (∀ w', Below w17.heap.size w17 w' → Pp.IsPairs w' (.slice uca lc ucc) Lc) := fun w' hb' => QC.out w' (below_trans hb17 hb')
  have HB17 := Lib.hid (below_trans HB15.out hb17)
  have HXL : Hid ((La ++ Lb).length ≤ 242) := by show _ ≤ _; rw [List.length_append]; have := HL1.out; have := HL2.out; omega
  have HYL : Hid (Lc.length ≤ 121) := by show _ ≤ _; have := HLc.out; omega
  have hsi : (la : Int) + (lb : Int) = (lc : Int) := by have := HSUM.out; omega
  have KE := Lib.hid (Pp.Tot.keys_srt_perm HPE.out)
  have GE := Lib.hid (Pp.Tot.grp_srt_perm 1 HPE.out)
  have SX := Lib.hid (fun w' hb' => sort_fn v2 (La ++ Lb) w' (QX.out w' hb') (by have := HXL.out; omega))
  have SY := Lib.hid (fun w' hb' => sort_fn (.slice uca lc ucc) Lc w' (QC17.out w' hb') (by have := HYL.out; omega))
  have HZX : Hid ((Pp.Tot.srt (La ++ Lb)).length ≤ 242) := by show _ ≤ _; rw [Pp.Tot.srt_len]; exact HXL.out
  have HZY : Hid ((Pp.Tot.srt Lc).length ≤ 121) := by show _ ≤ _; rw [Pp.Tot.srt_len]; exact HYL.out
  obtain ⟨v2a, v2c, ev2⟩ := isPairs_slice hbo
  obtain ⟨l2, hl2⟩ : ∃ l2, l2 = (La ++ Lb).length := ⟨_, rfl⟩
  rw [← hl2] at ev2
  subst ev2
  generalize Pp.Tot.srt (La ++ Lb) = ZX at *
  generalize Pp.Tot.srt Lc = ZY at *
  clear hown17 hb17 hbo QA QB QC HO16 HB16 HB15 QX QC17 HPE hl2
  have GXs := Lib.hid (fun w' u (h : Pp.IsPairs w' u ZX) => Pp.groups_any 1 u ZX w' h (by have := HZX.out; omega))
  have GYs := Lib.hid (fun w' u (h : Pp.IsPairs w' u ZY) => Pp.groups_any 1 u ZY w' h (by have := HZY.out; omega))
  have KXs := Lib.hid (fun w' u (h : Pp.IsPairs w' u ZX) => keys_any u ZX w' h (by have := HZX.out; omega))
  have KYs := Lib.hid (fun w' u (h : Pp.IsPairs w' u ZY) => keys_any u ZY w' h (by have := HZY.out; omega))
  have HKL : Hid ((Pp.Tot.keysOf ZX).length ≤ 242) := by show _ ≤ _; unfold Pp.Tot.keysOf; rw [List.length_map]; exact HZX.out
  have HGL : Hid ((Pp.Grp.grp 1 ZX).length ≤ 242) := Nat.le_trans (Pp.Grp.grp_len 1 ZX) HZX.out
  rw [← KE.out] at KYs
  rw [← GE.out] at GYs
  generalize Pp.Tot.keysOf ZX = kx at *
  generalize Pp.Grp.grp 1 ZX = gx at *
  clear KE GE
  go_wp2_with (go_at_call 21; refine Hid.out ?_)
  refine Lib.hid ?_
  refine (SX.out w17 (Below.refl _ _)).mono ?_
  rintro _ w18 ⟨u1, rfl, hp1, hb18⟩
  have K1 := Lib.hid (KXs.out w18 u1 hp1)
  obtain ⟨u1a, u1c, eu⟩ := isPairs_slice hp1
  subst eu
  clear hp1
  dsimp only
  go_wp2_with (go_at_call 20; refine Hid.out ?_)
  refine Lib.hid ?_
  refine K1.out.mono ?_
  rintro _ w19 ⟨u2, rfl, ht2, hb1819⟩
  have hb19 := below_trans hb18 hb1819
  have HT2 := Lib.hid ht2
  obtain ⟨u2a, u2c, eu, -⟩ := ht2
  subst eu
  clear K1 hb18 hb1819
  dsimp only
  go_wp2_with (go_at_call 21; refine Hid.out ?_)
  refine Lib.hid ?_
  refine (SY.out w19 hb19).mono ?_
  rintro _ w20 ⟨u3, rfl, hp3, hb1920⟩
  have hb20 := below_trans hb19 hb1920
  have K3 := Lib.hid (KYs.out w20 u3 hp3)
  have HT3 : Hid (IsTexts w20 (.slice u2a kx.length u2c) kx) := IsTexts.below HT2.out hb1920
  obtain ⟨u3a, u3c, eu⟩ := isPairs_slice hp3
  subst eu
  clear hp3 hb19 hb1920 HT2
  dsimp only
  go_wp2_with (go_at_call 20; refine Hid.out ?_)
  refine Lib.hid ?_
  refine K3.out.mono ?_
  rintro _ w21 ⟨u4, rfl, ht4, hb2021⟩
  have hb21 := below_trans hb20 hb2021
  have ST := Lib.hid (sameTexts_any (.slice u2a kx.length u2c) u4 kx kx w21 (IsTexts.below HT3.out hb2021) ht4 (by unfold maxLen; have := HKL.out; omega))
  rw [decide_eq_true rfl] at ST
  obtain ⟨u4a, u4c, eu, -⟩ := ht4
  subst eu
  clear K3 HT3 hb20 hb2021
  dsimp only
  go_wp2_with (go_at_call 17; refine Hid.out ?_)
  refine Lib.hid ?_
  refine ST.out.mono ?_
  rintro _ w22 ⟨rfl, nd, hd⟩
  have hb22 : Below w17.heap.size w17 w22 := by rw [hd]; exact below_trans hb21 (below_drewN _ _)
  clear hd ST hb21
  go_wp2_with (go_at_call 21; refine Hid.out ?_)
  refine Lib.hid ?_
  refine (SX.out w22 hb22).mono ?_
  rintro _ w23 ⟨u5, rfl, hp5, hb2223⟩
  have hb23 := below_trans hb22 hb2223
  have G5 := Lib.hid (GXs.out w23 u5 hp5)
  obtain ⟨u5a, u5c, eu⟩ := isPairs_slice hp5
  subst eu
  clear hp5 hb22 hb2223
  dsimp only
  go_wp2_with (go_at_call 23; refine Hid.out ?_)
  refine Lib.hid ?_
  refine G5.out.mono ?_
  rintro _ w24 ⟨u6, rfl, hp6, hb2324⟩
  have hb24 := below_trans hb23 hb2324
  have HP6 := Lib.hid hp6
  obtain ⟨u6a, u6c, eu⟩ := isPairs_slice hp6
  subst eu
  clear hp6 hb23 hb2324 G5
  dsimp only
  go_wp2_with (go_at_call 21; refine Hid.out ?_)
  refine Lib.hid ?_
  refine (SY.out w24 hb24).mono ?_
  rintro _ w25 ⟨u7, rfl, hp7, hb2425⟩
  have hb25 := below_trans hb24 hb2425
  have G7 := Lib.hid (GYs.out w25 u7 hp7)
  have HP7 : Hid (Pp.IsPairs w25 (.slice u6a gx.length u6c) gx) := Pp.isPairs_below HP6.out hb2425
  obtain ⟨u7a, u7c, eu⟩ := isPairs_slice hp7
  subst eu
  clear hp7 hb24 hb2425 HP6
  dsimp only
  go_wp2_with (go_at_call 23; refine Hid.out ?_)
  refine Lib.hid ?_
  refine G7.out.mono ?_
  rintro _ w26 ⟨u8, rfl, hp8, hb2526⟩
  have hb26 := below_trans hb25 hb2526
  have SP := Lib.hid (Pp.samePairs_any (.slice u6a gx.length u6c) u8 gx gx w26 (Pp.isPairs_below HP7.out hb2526) hp8 (by unfold maxLen; have := HGL.out; omega))
  rw [decide_eq_true rfl] at SP
  obtain ⟨u8a, u8c, eu⟩ := isPairs_slice hp8
  subst eu
  clear hp8 hb25 hb2526 HP7 G7
  dsimp only
  go_wp2_with (go_at_call 22; refine Hid.out ?_)
  refine Lib.hid ?_
  refine SP.out.mono ?_
  rintro _ w27 ⟨rfl, nd2, hd2⟩
  have hb27 : Below w.heap.size w w27 := by rw [hd2]; exact below_trans HB17.out (below_trans hb26 (below_drewN _ _))
  clear hd2 SP hb26
  go_wp2
  go_ret
  exact ⟨rfl, hb27⟩
end Go.Proofs.YtahhcabmpcjddaaDoor
