/- The walk of the law TopJob. -/
import Derived.Test.YthmojcalllbclaaDoorSameJ
import Derived.Test.YthmojcalllbclaaDoorRdP
namespace Go.Proofs.YthmojcalllbclaaDoor
open Go.ChangeShapes Go.WideShapes Go.ChangeAt Go.RowKit
open SameJ
/-- The text that the law reads first, and the job whose text it is. -/
def text0 : List UInt8 := [115, 117, 109, 32, 50, 10, 107, 101, 121, 32, 108, 105, 110, 101, 32, 118, 97, 108, 32, 109, 97, 110, 121, 10]
def job0 : Jb := ⟨[⟨false, 0, .mk 0 0 [] [], [], .mk 2 0 [] [], .mk 9 0 [] []⟩], 1, false, 2⟩
theorem text0_is : textJ job0 = (text0, 0) := by kernel_rfl
theorem jb_slice (j : Jb) (a : Option Addr) (n cap : Nat) : j.value (.slice a n cap) = .agg #[.slice a n cap, .int .i64 j.fold, .bool j.early, .int .i64 j.slices] := rfl
set_option maxRecDepth 100000 in
set_option maxHeartbeats 4000000 in
theorem topJob_walk (j : Jb) (rv : Value) (s : List UInt8) (w : World) (E : EnvR w) (h : IsRules w rv j.rules) (hw : rulesWt j.rules ≤ 1100000) (hf : ∀ (i : Nat) x, j.rules[i]? = some x → x.fit) (hs : s.length ≤ 1048576) :
    Calls Tryd.prog 5 #[j.value rv, .string (bs s)] w fun e w' => e = .returned (.bool true) ∧ Below w.heap.size w w' := by
  have HE := Lib.hid E
  have HI := Lib.hid h
  have HF := Lib.hid hf
  have HSZ := Lib.hid (bs_size s)
  obtain ⟨a, cap, hrv⟩ := h.slice
  subst hrv
  have HV : Hid (j.value (.slice a j.rules.length cap) = .agg #[.slice a j.rules.length cap, .int .i64 j.fold, .bool j.early, .int .i64 j.slices]) := rfl
  clear h hf E
  obtain ⟨n, hn⟩ : ∃ n, n = j.rules.length := ⟨_, rfl⟩
  rw [← hn] at HI HV ⊢
  have HN := Lib.hid hn
  clear hn
  obtain ⟨w1, hw1⟩ : ∃ w1, w1 = w.alloc (.cells #[.slice a n cap, .int .i64 j.fold, .bool j.early, .int .i64 j.slices] 41) := ⟨_, rfl⟩
  have hb1 : Below w.heap.size w w1 := by rw [hw1]; exact below_box _
  have R1 : Hid (w1.heap[w.heap.size]? = some (.cells #[.slice a n cap, .int .i64 j.fold, .bool j.early, .int .i64 j.slices] 41 (0, 0))) := by show _ = _; rw [hw1]; exact row_new _ _ _
  have HW1 := Lib.hid hw1
  have P1 := Lib.hid (parse_any text0 w1 (HE.out.lower hb1) (by decide))
  have ht0 : bs text0 = ⟨#[115, 117, 109, 32, 50, 10, 107, 101, 121, 32, 108, 105, 110, 101, 32, 118, 97, 108, 32, 109, 97, 110, 121, 10]⟩ := rfl
  rw [ht0] at P1
  rw [HV.out]
  clear hw1 ht0
  go_enter Tryd.func5, Tryd.ntmps5
  go_wp2_with (go_at_call 13; refine Hid.out ?_)
  refine Lib.hid ?_
  rw [← HW1.out]
  refine P1.out.mono ?_
  rintro _ w2 ⟨⟨j0, rv0, rfl, hI0, _, _, _, _, hU0⟩ | ⟨_, hno⟩, hb2⟩
  · obtain rfl : j0 = job0 := hU0 job0 text0_is
    obtain ⟨a0, cap0, hrv0⟩ := hI0.slice
    subst hrv0
    have ev0 : Jb.value job0 (.slice a0 job0.rules.length cap0) = .agg #[.slice a0 1 cap0, .int .i64 1, .bool false, .int .i64 2] := rfl
    rw [ev0]
    clear hI0 hU0 ev0 P1
    obtain ⟨w3, hw3⟩ : ∃ w3, w3 = w2.alloc (.cells #[.slice a0 1 cap0, .int .i64 1, .bool false, .int .i64 2] 41) := ⟨_, rfl⟩
    have hb3 : Below w2.heap.size w2 w3 := by rw [hw3]; exact below_box _
    have R3 : Hid (w3.heap[w2.heap.size]? = some (.cells #[.slice a0 1 cap0, .int .i64 1, .bool false, .int .i64 2] 41 (0, 0))) := by show _ = _; rw [hw3]; exact row_new _ _ _
    have hb23 := below_trans hb2 hb3
    have hb03 := below_trans hb1 hb23
    have Q1 := Lib.hid (row_below R1.out hb23)
    have k0 : (w2.alloc (.cells #[.slice a0 1 cap0, .int .i64 1, .bool false, .int .i64 2] 41)).cell? ⟨w.heap.size, 0, none⟩ = some (.slice a n cap) := by rw [← hw3]; exact row_at Q1.out rfl
    have k1 : (w2.alloc (.cells #[.slice a0 1 cap0, .int .i64 1, .bool false, .int .i64 2] 41)).cell? ⟨w.heap.size, 1, none⟩ = some (.int .i64 j.fold) := by rw [← hw3]; exact row_at Q1.out rfl
    have k2 : (w2.alloc (.cells #[.slice a0 1 cap0, .int .i64 1, .bool false, .int .i64 2] 41)).cell? ⟨w.heap.size, 2, none⟩ = some (.bool j.early) := by rw [← hw3]; exact row_at Q1.out rfl
    have k3 : (w2.alloc (.cells #[.slice a0 1 cap0, .int .i64 1, .bool false, .int .i64 2] 41)).cell? ⟨w.heap.size, 3, none⟩ = some (.int .i64 j.slices) := by rw [← hw3]; exact row_at Q1.out rfl
    have LJ := lightJob_any j (.slice a n cap) w3 (HI.out.lower hb03) (by omega)
    rw [HV.out] at LJ
    have HLJ := Lib.hid LJ
    have HW3 := Lib.hid hw3
    go_wp2_with (go_at_call 14; refine Hid.out ?_)
    refine Lib.hid ?_
    rw [← HW3.out]
    refine HLJ.out.mono ?_
    rintro _ w4 ⟨g, rfl, hb4⟩
    have hb04 := below_trans hb03 hb4
    clear k0 k1 k2 k3 HLJ LJ hw3
    cases g with
    | false =>
      go_wp2
      go_ret
      exact ⟨rfl, hb04⟩
    | true =>
      cases gs : decide ((900 : Int) < (bs s).size) with
      | true =>
        go_wp2
        go_ret
        exact ⟨rfl, hb04⟩
      | false =>
        have hs9 : s.length ≤ 900 := by have := of_decide_eq_false gs; have := HSZ.out; omega
        have Q4 := Lib.hid (row_below Q1.out hb4)
        have R4 := Lib.hid (row_below R3.out hb4)
        have k0 := row_at Q4.out (i := 0) (v := .slice a n cap) rfl
        have k1 := row_at Q4.out (i := 1) (v := .int .i64 j.fold) rfl
        have k2 := row_at Q4.out (i := 2) (v := .bool j.early) rfl
        have k3 := row_at Q4.out (i := 3) (v := .int .i64 j.slices) rfl
        have TX := jobText_any j (.slice a n cap) w4 (HI.out.lower hb04) hw (HE.out.lower hb04).toEnvJ HF.out
        rw [HV.out] at TX
        have HTX := Lib.hid TX
        clear TX
        go_wp2_with (go_at_call 15; refine Hid.out ?_)
        refine Lib.hid ?_
        refine HTX.out.mono ?_
        rintro _ w5 ⟨rfl, hb5⟩
        have hb05 := below_trans hb04 hb5
        have R5 := Lib.hid (row_below R4.out hb5)
        have Q5 := Lib.hid (row_below Q4.out hb5)
        have hXw : w.heap.size ≤ w2.heap.size := (below_trans hb1 hb2).size
        clear k0 k1 k2 k3 HTX hb3 HW3 R3 R4 hb23 hb03 hb2
        generalize w2.heap.size = X at *
        obtain ⟨TT, hTT⟩ : ∃ TT, TT = textJ j := ⟨_, rfl⟩
        rw [← hTT]
        have HTT := Lib.hid hTT
        clear hTT
        -- what is left: the text s is read, and written anew
        rcases errV_cases TT.2 with ⟨h0, hv⟩ | ⟨h0, hv⟩
        · rw [hv]
          clear hv
          have HJ : Hid (textJ j = (TT.1, 0)) := by
            show _ = _
            rw [← HTT.out, ← h0]
          have hl8 := (textJ_is HJ.out).2.2
          clear h0
          generalize TT.1 = tx at *
          have P2 := Lib.hid (parse_any tx w5 (HE.out.lower hb05) (by omega))
          go_wp2_with (go_at_call 13; refine Hid.out ?_)
          refine Lib.hid ?_
          refine P2.out.mono ?_
          rintro _ w6 ⟨⟨j1, rv1, rfl, hI1, _, _, _, _, hU1⟩ | ⟨_, hno⟩, hb6⟩
          · obtain rfl : j1 = j := hU1 j HJ.out
            obtain ⟨a1, cap1, hrv1⟩ := hI1.slice
            subst hrv1
            have HI1 := Lib.hid hI1
            rw [← HN.out] at HI1
            have ev1 : Jb.value j1 (.slice a1 j1.rules.length cap1) = .agg #[.slice a1 n cap1, .int .i64 j1.fold, .bool j1.early, .int .i64 j1.slices] := by rw [← HN.out]; rfl
            have HEV1 : Hid (Jb.value j1 (.slice a1 n cap1) = .agg #[.slice a1 n cap1, .int .i64 j1.fold, .bool j1.early, .int .i64 j1.slices]) := rfl
            rw [ev1]
            obtain ⟨w7, hw7⟩ : ∃ w7, w7 = w6.alloc (.cells #[.slice a1 n cap1, .int .i64 j1.fold, .bool j1.early, .int .i64 j1.slices] 41) := ⟨_, rfl⟩
            have hb7 : Below w6.heap.size w6 w7 := by rw [hw7]; exact below_box _
            have hb67 := below_trans hb6 hb7
            have hb07 := below_trans hb05 hb67
            have Q7 := Lib.hid (row_below Q5.out hb67)
            have R7 := Lib.hid (row_below R5.out hb67)
            have k0 : (w6.alloc (.cells #[.slice a1 n cap1, .int .i64 j1.fold, .bool j1.early, .int .i64 j1.slices] 41)).cell? ⟨w.heap.size, 0, none⟩ = some (.slice a n cap) := by rw [← hw7]; exact row_at Q7.out rfl
            have k1 : (w6.alloc (.cells #[.slice a1 n cap1, .int .i64 j1.fold, .bool j1.early, .int .i64 j1.slices] 41)).cell? ⟨w.heap.size, 1, none⟩ = some (.int .i64 j1.fold) := by rw [← hw7]; exact row_at Q7.out rfl
            have k2 : (w6.alloc (.cells #[.slice a1 n cap1, .int .i64 j1.fold, .bool j1.early, .int .i64 j1.slices] 41)).cell? ⟨w.heap.size, 2, none⟩ = some (.bool j1.early) := by rw [← hw7]; exact row_at Q7.out rfl
            have k3 : (w6.alloc (.cells #[.slice a1 n cap1, .int .i64 j1.fold, .bool j1.early, .int .i64 j1.slices] 41)).cell? ⟨w.heap.size, 3, none⟩ = some (.int .i64 j1.slices) := by rw [← hw7]; exact row_at Q7.out rfl
            have SJ := sameJob_any j1 (.slice a1 n cap1) (.slice a n cap) w7 (HI1.out.lower hb7) (HI.out.lower hb07) (by omega)
            rw [HEV1.out, HV.out] at SJ
            have HSJ := Lib.hid SJ
            have HW7 := Lib.hid hw7
            clear SJ hw7 ev1 hI1 hU1 P2
            go_wp2_with (go_at_call 16; refine Hid.out ?_)
            refine Lib.hid ?_
            rw [← HW7.out]
            refine HSJ.out.mono ?_
            rintro _ w8 ⟨rfl, hb8⟩
            have hb08 := below_trans hb07 hb8
            have R8 := Lib.hid (row_below R7.out hb8)
            clear k0 k1 k2 k3 HSJ
            have PS := Lib.hid (parse_any s w8 (HE.out.lower hb08) (by omega))
            have hXN : X < w8.heap.size := (Array.getElem?_eq_some_iff.1 R8.out).1
            go_wp2_with (go_at_call 13; refine Hid.out ?_)
            refine Lib.hid ?_
            refine PS.out.mono ?_
            rintro _ wM ⟨⟨j2, rv2, rfl, hI2, hG2, hT2, hw2, hf2, _⟩ | ⟨rfl, _⟩, hbM⟩
            · have hb0M := below_trans hb08 hbM
              have RM := Lib.hid (row_below R8.out hbM)
              obtain ⟨a2, cap2, hrv2⟩ := hI2.slice
              subst hrv2
              have HT2 := Lib.hid hT2
              have HF2 := Lib.hid hf2
              have HW2 := Lib.hid hw2
              have HG2 := Lib.hid hG2
              obtain ⟨m2, hm2⟩ : ∃ m2, m2 = j2.rules.length := ⟨_, rfl⟩
              rw [← hm2] at HG2
              have ev2 : Jb.value j2 (.slice a2 j2.rules.length cap2) = .agg #[.slice a2 m2 cap2, .int .i64 j2.fold, .bool j2.early, .int .i64 j2.slices] := by rw [hm2]; rfl
              have HEV : Hid (Jb.value j2 (.slice a2 m2 cap2) = .agg #[.slice a2 m2 cap2, .int .i64 j2.fold, .bool j2.early, .int .i64 j2.slices]) := rfl
              rw [ev2]
              clear ev2 hm2 hI2 hG2 hT2 hf2 hw2
              have x0 := row_at RM.out (i := 0) (v := .slice a0 1 cap0) rfl
              have x1 := row_at RM.out (i := 1) (v := .int .i64 1) rfl
              have x2 := row_at RM.out (i := 2) (v := .bool false) rfl
              have x3 := row_at RM.out (i := 3) (v := .int .i64 2) rfl
              have y0 := frozen_of_row wM X 0 _ _ RM.out
              have y1 := frozen_of_row wM X 1 _ _ RM.out
              have y2 := frozen_of_row wM X 2 _ _ RM.out
              have y3 := frozen_of_row wM X 3 _ _ RM.out
              have g1 := heap_set (j := 0) RM.out (.slice a2 m2 cap2)
              have g2 := heap_set (j := 1) g1 (.int .i64 j2.fold)
              have g3 := heap_set (j := 2) g2 (.bool j2.early)
              have g4 := heap_set (j := 3) g3 (.int .i64 j2.slices)
              have z0 : ((((wM.setCell ⟨X, 0, none⟩ (.slice a2 m2 cap2)).setCell ⟨X, 1, none⟩ (.int .i64 j2.fold)).setCell ⟨X, 2, none⟩ (.bool j2.early)).setCell ⟨X, 3, none⟩ (.int .i64 j2.slices)).cell? ⟨X, 0, none⟩ = some (.slice a2 m2 cap2) := by rw [cell_of_row _ _ _ _ _ _ g4]; rfl
              have z1 : ((((wM.setCell ⟨X, 0, none⟩ (.slice a2 m2 cap2)).setCell ⟨X, 1, none⟩ (.int .i64 j2.fold)).setCell ⟨X, 2, none⟩ (.bool j2.early)).setCell ⟨X, 3, none⟩ (.int .i64 j2.slices)).cell? ⟨X, 1, none⟩ = some (.int .i64 j2.fold) := by rw [cell_of_row _ _ _ _ _ _ g4]; rfl
              have z2 : ((((wM.setCell ⟨X, 0, none⟩ (.slice a2 m2 cap2)).setCell ⟨X, 1, none⟩ (.int .i64 j2.fold)).setCell ⟨X, 2, none⟩ (.bool j2.early)).setCell ⟨X, 3, none⟩ (.int .i64 j2.slices)).cell? ⟨X, 2, none⟩ = some (.bool j2.early) := by rw [cell_of_row _ _ _ _ _ _ g4]; rfl
              have z3 : ((((wM.setCell ⟨X, 0, none⟩ (.slice a2 m2 cap2)).setCell ⟨X, 1, none⟩ (.int .i64 j2.fold)).setCell ⟨X, 2, none⟩ (.bool j2.early)).setCell ⟨X, 3, none⟩ (.int .i64 j2.slices)).cell? ⟨X, 3, none⟩ = some (.int .i64 j2.slices) := by rw [cell_of_row _ _ _ _ _ _ g4]; rfl
              have hb7 : Below w.heap.size w ((((wM.setCell ⟨X, 0, none⟩ (.slice a2 m2 cap2)).setCell ⟨X, 1, none⟩ (.int .i64 j2.fold)).setCell ⟨X, 2, none⟩ (.bool j2.early)).setCell ⟨X, 3, none⟩ (.int .i64 j2.slices)) := (((hb0M.setCell (p := ⟨X, 0, none⟩) hXw _).setCell (p := ⟨X, 1, none⟩) hXw _).setCell (p := ⟨X, 2, none⟩) hXw _).setCell (p := ⟨X, 3, none⟩) hXw _
              have HI7 : Hid (IsRules ((((wM.setCell ⟨X, 0, none⟩ (.slice a2 m2 cap2)).setCell ⟨X, 1, none⟩ (.int .i64 j2.fold)).setCell ⟨X, 2, none⟩ (.bool j2.early)).setCell ⟨X, 3, none⟩ (.int .i64 j2.slices)) (.slice a2 m2 cap2) j2.rules) := HG2.out _ (fun k hk1 hk2 => by
                rw [Below.heap_setCell _ ⟨X, 3, none⟩ _ k (fun e => by simp at e; omega), Below.heap_setCell _ ⟨X, 2, none⟩ _ k (fun e => by simp at e; omega), Below.heap_setCell _ ⟨X, 1, none⟩ _ k (fun e => by simp at e; omega), Below.heap_setCell _ ⟨X, 0, none⟩ _ k (fun e => by simp at e; omega)])
              have T7 := jobText_any j2 (.slice a2 m2 cap2) _ HI7.out (by have := HW2.out; omega) (HE.out.lower hb7).toEnvJ (fun i x hx => HF2.out x (List.mem_of_getElem? hx))
              rw [HEV.out, HT2.out] at T7
              have e0 : errV ((s, 0) : List UInt8 × Nat).2 = .nilIface := rfl
              rw [e0] at T7
              have HT7 := Lib.hid T7
              clear g1 g2 g3 g4 T7 e0 HI7 HG2
              go_wp2_with (go_at_call 15; refine Hid.out ?_)
              refine Lib.hid ?_
              refine HT7.out.mono ?_
              rintro _ w8 ⟨rfl, hb8⟩
              clear z0 z1 z2 z3 x0 x1 x2 x3 y0 y1 y2 y3 HT7
              go_wp2
              go_ret
              exact ⟨by simp, below_trans hb7 hb8⟩
            · have hb0M := below_trans hb08 hbM
              have RM := Lib.hid (row_below R8.out hbM)
              have x0 := row_at RM.out (i := 0) (v := .slice a0 1 cap0) rfl
              have x1 := row_at RM.out (i := 1) (v := .int .i64 1) rfl
              have x2 := row_at RM.out (i := 2) (v := .bool false) rfl
              have x3 := row_at RM.out (i := 3) (v := .int .i64 2) rfl
              have y0 := frozen_of_row wM X 0 _ _ RM.out
              have y1 := frozen_of_row wM X 1 _ _ RM.out
              have y2 := frozen_of_row wM X 2 _ _ RM.out
              have y3 := frozen_of_row wM X 3 _ _ RM.out
              have hb7 : Below w.heap.size w ((((wM.setCell ⟨X, 0, none⟩ (.slice none 0 0)).setCell ⟨X, 1, none⟩ (.int .i64 0)).setCell ⟨X, 2, none⟩ (.bool false)).setCell ⟨X, 3, none⟩ (.int .i64 0)) := (((hb0M.setCell (p := ⟨X, 0, none⟩) hXw _).setCell (p := ⟨X, 1, none⟩) hXw _).setCell (p := ⟨X, 2, none⟩) hXw _).setCell (p := ⟨X, 3, none⟩) hXw _
              unfold zeroJ
              clear PS
              go_wp2
              all_goals go_ret
              all_goals exact ⟨rfl, hb7⟩
          · exact absurd HJ.out (hno j)
        · rw [hv]
          clear hv h0
          have PS := Lib.hid (parse_any s w5 (HE.out.lower hb05) (by omega))
          have hXN : X < w5.heap.size := (Array.getElem?_eq_some_iff.1 R5.out).1
          go_wp2_with (go_at_call 13; refine Hid.out ?_)
          refine Lib.hid ?_
          refine PS.out.mono ?_
          rintro _ wM ⟨⟨j2, rv2, rfl, hI2, hG2, hT2, hw2, hf2, _⟩ | ⟨rfl, _⟩, hbM⟩
          · have hb0M := below_trans hb05 hbM
            have RM := Lib.hid (row_below R5.out hbM)
            obtain ⟨a2, cap2, hrv2⟩ := hI2.slice
            subst hrv2
            have HT2 := Lib.hid hT2
            have HF2 := Lib.hid hf2
            have HW2 := Lib.hid hw2
            have HG2 := Lib.hid hG2
            obtain ⟨m2, hm2⟩ : ∃ m2, m2 = j2.rules.length := ⟨_, rfl⟩
            rw [← hm2] at HG2
            have ev2 : Jb.value j2 (.slice a2 j2.rules.length cap2) = .agg #[.slice a2 m2 cap2, .int .i64 j2.fold, .bool j2.early, .int .i64 j2.slices] := by rw [hm2]; rfl
            have HEV : Hid (Jb.value j2 (.slice a2 m2 cap2) = .agg #[.slice a2 m2 cap2, .int .i64 j2.fold, .bool j2.early, .int .i64 j2.slices]) := rfl
            rw [ev2]
            clear ev2 hm2 hI2 hG2 hT2 hf2 hw2
            have x0 := row_at RM.out (i := 0) (v := .slice a0 1 cap0) rfl
            have x1 := row_at RM.out (i := 1) (v := .int .i64 1) rfl
            have x2 := row_at RM.out (i := 2) (v := .bool false) rfl
            have x3 := row_at RM.out (i := 3) (v := .int .i64 2) rfl
            have y0 := frozen_of_row wM X 0 _ _ RM.out
            have y1 := frozen_of_row wM X 1 _ _ RM.out
            have y2 := frozen_of_row wM X 2 _ _ RM.out
            have y3 := frozen_of_row wM X 3 _ _ RM.out
            have g1 := heap_set (j := 0) RM.out (.slice a2 m2 cap2)
            have g2 := heap_set (j := 1) g1 (.int .i64 j2.fold)
            have g3 := heap_set (j := 2) g2 (.bool j2.early)
            have g4 := heap_set (j := 3) g3 (.int .i64 j2.slices)
            have z0 : ((((wM.setCell ⟨X, 0, none⟩ (.slice a2 m2 cap2)).setCell ⟨X, 1, none⟩ (.int .i64 j2.fold)).setCell ⟨X, 2, none⟩ (.bool j2.early)).setCell ⟨X, 3, none⟩ (.int .i64 j2.slices)).cell? ⟨X, 0, none⟩ = some (.slice a2 m2 cap2) := by rw [cell_of_row _ _ _ _ _ _ g4]; rfl
            have z1 : ((((wM.setCell ⟨X, 0, none⟩ (.slice a2 m2 cap2)).setCell ⟨X, 1, none⟩ (.int .i64 j2.fold)).setCell ⟨X, 2, none⟩ (.bool j2.early)).setCell ⟨X, 3, none⟩ (.int .i64 j2.slices)).cell? ⟨X, 1, none⟩ = some (.int .i64 j2.fold) := by rw [cell_of_row _ _ _ _ _ _ g4]; rfl
            have z2 : ((((wM.setCell ⟨X, 0, none⟩ (.slice a2 m2 cap2)).setCell ⟨X, 1, none⟩ (.int .i64 j2.fold)).setCell ⟨X, 2, none⟩ (.bool j2.early)).setCell ⟨X, 3, none⟩ (.int .i64 j2.slices)).cell? ⟨X, 2, none⟩ = some (.bool j2.early) := by rw [cell_of_row _ _ _ _ _ _ g4]; rfl
            have z3 : ((((wM.setCell ⟨X, 0, none⟩ (.slice a2 m2 cap2)).setCell ⟨X, 1, none⟩ (.int .i64 j2.fold)).setCell ⟨X, 2, none⟩ (.bool j2.early)).setCell ⟨X, 3, none⟩ (.int .i64 j2.slices)).cell? ⟨X, 3, none⟩ = some (.int .i64 j2.slices) := by rw [cell_of_row _ _ _ _ _ _ g4]; rfl
            have hb7 : Below w.heap.size w ((((wM.setCell ⟨X, 0, none⟩ (.slice a2 m2 cap2)).setCell ⟨X, 1, none⟩ (.int .i64 j2.fold)).setCell ⟨X, 2, none⟩ (.bool j2.early)).setCell ⟨X, 3, none⟩ (.int .i64 j2.slices)) := (((hb0M.setCell (p := ⟨X, 0, none⟩) hXw _).setCell (p := ⟨X, 1, none⟩) hXw _).setCell (p := ⟨X, 2, none⟩) hXw _).setCell (p := ⟨X, 3, none⟩) hXw _
            have HI7 : Hid (IsRules ((((wM.setCell ⟨X, 0, none⟩ (.slice a2 m2 cap2)).setCell ⟨X, 1, none⟩ (.int .i64 j2.fold)).setCell ⟨X, 2, none⟩ (.bool j2.early)).setCell ⟨X, 3, none⟩ (.int .i64 j2.slices)) (.slice a2 m2 cap2) j2.rules) := HG2.out _ (fun k hk1 hk2 => by
              rw [Below.heap_setCell _ ⟨X, 3, none⟩ _ k (fun e => by simp at e; omega), Below.heap_setCell _ ⟨X, 2, none⟩ _ k (fun e => by simp at e; omega), Below.heap_setCell _ ⟨X, 1, none⟩ _ k (fun e => by simp at e; omega), Below.heap_setCell _ ⟨X, 0, none⟩ _ k (fun e => by simp at e; omega)])
            have T7 := jobText_any j2 (.slice a2 m2 cap2) _ HI7.out (by have := HW2.out; omega) (HE.out.lower hb7).toEnvJ (fun i x hx => HF2.out x (List.mem_of_getElem? hx))
            rw [HEV.out, HT2.out] at T7
            have e0 : errV ((s, 0) : List UInt8 × Nat).2 = .nilIface := rfl
            rw [e0] at T7
            have HT7 := Lib.hid T7
            clear g1 g2 g3 g4 T7 e0 HI7 HG2
            go_wp2_with (go_at_call 15; refine Hid.out ?_)
            refine Lib.hid ?_
            refine HT7.out.mono ?_
            rintro _ w8 ⟨rfl, hb8⟩
            clear z0 z1 z2 z3 x0 x1 x2 x3 y0 y1 y2 y3 HT7
            go_wp2
            go_ret
            exact ⟨by simp, below_trans hb7 hb8⟩
          · have hb0M := below_trans hb05 hbM
            have RM := Lib.hid (row_below R5.out hbM)
            have x0 := row_at RM.out (i := 0) (v := .slice a0 1 cap0) rfl
            have x1 := row_at RM.out (i := 1) (v := .int .i64 1) rfl
            have x2 := row_at RM.out (i := 2) (v := .bool false) rfl
            have x3 := row_at RM.out (i := 3) (v := .int .i64 2) rfl
            have y0 := frozen_of_row wM X 0 _ _ RM.out
            have y1 := frozen_of_row wM X 1 _ _ RM.out
            have y2 := frozen_of_row wM X 2 _ _ RM.out
            have y3 := frozen_of_row wM X 3 _ _ RM.out
            have hb7 : Below w.heap.size w ((((wM.setCell ⟨X, 0, none⟩ (.slice none 0 0)).setCell ⟨X, 1, none⟩ (.int .i64 0)).setCell ⟨X, 2, none⟩ (.bool false)).setCell ⟨X, 3, none⟩ (.int .i64 0)) := (((hb0M.setCell (p := ⟨X, 0, none⟩) hXw _).setCell (p := ⟨X, 1, none⟩) hXw _).setCell (p := ⟨X, 2, none⟩) hXw _).setCell (p := ⟨X, 3, none⟩) hXw _
            unfold zeroJ
            clear PS
            go_wp2
            all_goals go_ret
            all_goals exact ⟨rfl, hb7⟩
  · exact absurd text0_is (hno job0)
end Go.Proofs.YthmojcalllbclaaDoor
