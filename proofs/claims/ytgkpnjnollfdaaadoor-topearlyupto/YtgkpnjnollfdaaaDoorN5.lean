/- Mapper: a run in memory; New. -/
import Derived.Test.YtgkpnjnollfdaaaDoorN4
namespace Go.Proofs.YtgkpnjnollfdaaaDoor
open Go.ChangeShapes Go.WideShapes Go.ChangeAt Go.RowKit
/-- A run: its own block, its rules and its lines (which lie below it), the row of what is made. -/
structure IsMR (w : World) (R : Nat) (j : Jb) (rv lv : Value) (lines : List (List UInt8)) (done : Nat) (mv : Value) (made : List (ByteArray × Int)) : Prop where
  blk : Blk w R 93 [rv, .int .i64 j.fold, .bool j.early, .int .i64 j.slices, lv, .int .i64 done, mv]
  rules : ∀ w', Below R w w' → IsRules w' rv j.rules
  lines : ∀ w', Below R w w' → IsTexts w' lv (lines.map bs)
  row : w.ownsRow (R + 1) 25 2 mv made.length (Pp.cellsP made)
theorem IsMR.blw {w w' : World} {R : Nat} {j : Jb} {rv lv mv : Value} {lines : List (List UInt8)} {done : Nat} {made : List (ByteArray × Int)} (h : IsMR w R j rv lv lines done mv made) (hb : Below w.heap.size w w') : IsMR w' R j rv lv lines done mv made :=
  ⟨h.blk.blw hb, fun w2 h2 => h.rules w2 ((hb.mono (Nat.le_of_lt h.blk.lt)).trans h2), fun w2 h2 => h.lines w2 ((hb.mono (Nat.le_of_lt h.blk.lt)).trans h2), ow_below h.row hb⟩
theorem texts_src {w : World} {a : Option Addr} {n cap : Nat} {l : List (List UInt8)} (h : IsTexts w (.slice a n cap) (l.map bs)) : (a = none → n = 0) ∧ ∀ ad, a = some ad → ∀ j u, (strs l)[j]? = some u → w.cell? (ad.add j) = some u := by
  obtain ⟨a', cap', e, hc⟩ := h
  injection e with e1 e2 e3
  subst e1
  refine ⟨fun ha => ?_, fun ad had j u hu => ?_⟩
  · rcases Nat.eq_zero_or_pos n with h0 | h0
    · exact h0
    · obtain ⟨b, off, e, _⟩ := hc 0 (by omega)
      rw [ha] at e; cases e
  · have hj : j < (l.map bs).length := by have := (List.getElem?_eq_some_iff.1 hu).1; simpa [strs] using this
    obtain ⟨b, off, e, c0⟩ := hc j hj
    rw [had] at e
    injection e with e
    subst e
    have hu2 : u = .string (l.map bs)[j] := by
      simp only [strs, List.getElem?_map] at hu
      have hj2 : j < l.length := by simpa using hj
      rw [List.getElem?_eq_getElem hj2, Option.map_some, Option.some.injEq] at hu
      rw [← hu]; simp
    have hadd : (⟨b, off, none⟩ : Addr).add j = ⟨b, off + j, none⟩ := by unfold Addr.add; split <;> simp_all
    rw [hadd, hu2]
    exact c0
set_option maxRecDepth 100000 in
set_option maxHeartbeats 1000000 in
theorem new_bad (j : Jb) (rv lv : Value) (w : World) (h : IsRules w rv j.rules) (hw : rulesWt j.rules ≤ 1000000) (hf : jobFault j ≠ 0) (E : EnvS w) :
    Calls Tryd.prog 18 #[j.value rv, lv] w fun r w' => r = .returned (.tuple #[.pointer none, errV (jobFault j)]) ∧ Below w.heap.size w w' := by
  have CK := Lib.hid (fun w h E => jobCheck_any j rv w h (by omega) E)
  have H := Lib.hid h
  obtain ⟨a, cap, rfl⟩ := h.slice
  have HE := Lib.hid E
  obtain ⟨f, hff⟩ : ∃ f, f = jobFault j := ⟨_, rfl⟩
  rw [← hff] at CK hf ⊢
  clear h E hff
  obtain ⟨l, fo, ea, sl⟩ := j
  simp only [Jb.value] at *
  generalize l.length = n at *
  have hv : errV f = .iface 77 (.int .i64 f) := if_neg hf
  rw [hv] at CK ⊢
  go_enter Tryd.func18, Tryd.ntmps18
  go_wp2_with (go_at_call 17; refine Hid.out ?_)
  refine Lib.hid ?_
  refine (CK.out _ (H.out.lower (below_box _)) (HE.out.lower (below_box _))).mono ?_
  rintro _ w1 ⟨rfl, hb1⟩
  go_wp2
  go_ret2
  exact ⟨rfl, below_trans (below_box _) hb1⟩
set_option maxRecDepth 100000 in
set_option maxHeartbeats 1000000 in
theorem new_many (j : Jb) (rv : Value) (la : Option Addr) (ln lc : Nat) (w : World) (h : IsRules w rv j.rules) (hw : rulesWt j.rules ≤ 1000000) (hf : jobFault j = 0) (hn : 60 < ln) (E : EnvS w) :
    Calls Tryd.prog 18 #[j.value rv, .slice la ln lc] w fun r w' => r = .returned (.tuple #[.pointer none, .iface 77 (.int .i64 2)]) ∧ Below w.heap.size w w' := by
  have CK := Lib.hid (fun w h E => jobCheck_any j rv w h (by omega) E)
  have H := Lib.hid h
  obtain ⟨a, cap, rfl⟩ := h.slice
  have HE := Lib.hid E
  rw [hf, show errV 0 = .nilIface from rfl] at CK
  clear h E hf
  obtain ⟨l, fo, ea, sl⟩ := j
  simp only [Jb.value] at *
  generalize l.length = n at *
  go_enter Tryd.func18, Tryd.ntmps18
  go_wp2_with (go_at_call 17; refine Hid.out ?_)
  refine Lib.hid ?_
  refine (CK.out _ (H.out.lower (below_box _)) (HE.out.lower (below_box _))).mono ?_
  rintro _ w1 ⟨rfl, hb1⟩
  go_wp2
  go_ret2
  exact ⟨rfl, below_trans (below_box _) hb1⟩
/-- What New hands back. -/
def MadeNew (w : World) (j : Jb) (lines : List (List UInt8)) (r : Ending) (w' : World) : Prop :=
  ∃ R rv lv, r = .returned (.tuple #[.pointer (some ⟨R, 0, none⟩), .nilIface]) ∧ IsMR w' R j rv lv lines 0 (.slice none 0 0) [] ∧ w.heap.size ≤ R ∧ Below w.heap.size w w'
set_option maxRecDepth 100000 in
set_option maxHeartbeats 1000000 in
theorem new_ok (j : Jb) (rv lv : Value) (lines : List (List UInt8)) (w : World) (h : IsRules w rv j.rules) (hw : rulesWt j.rules ≤ 1000000) (hf : jobFault j = 0) (ht : IsTexts w lv (lines.map bs)) (hn : lines.length ≤ 60) (E : EnvS w) :
    Calls Tryd.prog 18 #[j.value rv, lv] w (MadeNew w j lines) := by
  have CK := Lib.hid (fun w h E => jobCheck_any j rv w h (by omega) E)
  have CJ := Lib.hid (fun w h => copyJob_any j rv w h hw)
  have H := Lib.hid h
  have HT := Lib.hid ht
  obtain ⟨a, cap, rfl⟩ := h.slice
  obtain ⟨la, lc, rfl, -⟩ := ht
  have HE := Lib.hid E
  rw [hf, show errV 0 = .nilIface from rfl] at CK
  clear h E hf
  obtain ⟨ln, hln⟩ : ∃ ln, ln = (lines.map bs).length := ⟨_, rfl⟩
  rw [← hln] at HT ⊢
  have hn2 : ln ≤ 60 := by rw [hln, List.length_map]; exact hn
  have CL : Hid (∀ w', Below w.heap.size w w' → Calls Tryd.prog 44 #[.slice la ln lc] w' fun e w'' => ∃ v, e = .returned v ∧ w''.ownsRow w'.heap.size 9 1 v ln (strs lines) ∧ Below w'.heap.size w' w'') := fun w' hb' => by
    obtain ⟨h1, h2⟩ := texts_src (IsTexts.below HT.out hb')
    exact cloneS_any la ln lc (strs lines) w' (by rw [hln]; simp [strs]) h1 h2 (strs_one lines) (by omega)
  have HLN := Lib.hid hln
  clear hln hn
  unfold CopyJ at CJ
  obtain ⟨l, fo, ea, sl⟩ := j
  simp only [Jb.value] at *
  obtain ⟨n, hnn⟩ : ∃ n, n = l.length := ⟨_, rfl⟩
  rw [← hnn] at H CK CJ ⊢
  have HNN := Lib.hid hnn
  clear hnn
  go_enter Tryd.func18, Tryd.ntmps18
  go_wp2_with (go_at_call 17; refine Hid.out ?_)
  refine Lib.hid ?_
  refine (CK.out _ (H.out.lower (below_box _)) (HE.out.lower (below_box _))).mono ?_
  rintro _ w1 ⟨rfl, hb1⟩
  have JB := Lib.hid ((blk_new (w := w) (cs := #[.slice a n cap, .int .i64 fo, .bool ea, .int .i64 sl]) (t := 37) rfl).blw hb1)
  have hb01 := below_trans (below_box _) hb1
  have k0 := JB.out.at (i := 0) (v := .slice a n cap) rfl
  have k1 := JB.out.at (i := 1) (v := .int .i64 fo) rfl
  have k2 := JB.out.at (i := 2) (v := .bool ea) rfl
  have k3 := JB.out.at (i := 3) (v := .int .i64 sl) rfl
  clear hb1 CK
  go_wp2_with (go_at_call 43; refine Hid.out ?_)
  refine Lib.hid ?_
  refine (CJ.out w1 (H.out.lower hb01)).mono ?_
  rintro _ w2 ⟨va, vc, rfl, HR, hb12⟩
  have hb02 := below_trans hb01 hb12
  have HRU := Lib.hid HR
  clear k0 k1 k2 k3 JB CJ HR hb01
  dsimp only
  go_wp2_with (go_at_call 44; refine Hid.out ?_)
  refine Lib.hid ?_
  refine (CL.out w2 hb02).mono ?_
  rintro _ w3 ⟨v, rfl, hrow, hb23⟩
  have hb03 := below_trans hb02 hb23
  have HROW := Lib.hid hrow
  have HB23 := Lib.hid hb23
  clear CL hrow hb23 hb02 hb12
  obtain ⟨w4, hw4⟩ : ∃ w4, w4 = w3.alloc (.cells #[.slice va n vc, .int .i64 fo, .bool ea, .int .i64 sl, v, .int .i64 0, .slice none 0 0] 93) := ⟨_, rfl⟩
  obtain ⟨R, hR⟩ : ∃ R, R = w3.heap.size := ⟨_, rfl⟩
  have hb34 : Below w3.heap.size w3 w4 := by rw [hw4]; exact below_box _
  have HF : Hid (IsMR w4 R ⟨l, fo, ea, sl⟩ (.slice va n vc) v lines 0 (.slice none 0 0) []) := by
    refine ⟨?_, fun w' h' => ?_, fun w' h' => ?_, World.ownsRow_nil _ _ _ _⟩
    · rw [hw4]; exact blk_new hR
    · rw [hR] at h'
      have hbb : Below w3.heap.size w3 w' := hb34.trans h'
      exact HRU.out w' (fun k _ hk => (hbb.block k (Nat.lt_of_lt_of_le hk HB23.out.size)).trans (HB23.out.block k hk))
    · rw [hR] at h'
      have hbb : Below w3.heap.size w3 w' := hb34.trans h'
      have h := HROW.out
      rw [HLN.out, List.length_map] at h
      exact IsTexts.below (isTexts_of h) hbb
  have HB := Lib.hid (below_trans hb03 hb34)
  have HS : Hid (w.heap.size ≤ R) := by show _ ≤ _; rw [hR]; exact hb03.size
  have HW := Lib.hid hw4
  have HRR := Lib.hid hR
  obtain ⟨vla, vlc, ev⟩ : ∃ vla vlc, v = .slice vla ln vlc := by
    rcases row_slice HROW.out with ⟨h1, h2⟩ | ⟨g, c, h1, _⟩
    · exact ⟨_, _, by rw [h1, h2]⟩
    · exact ⟨_, _, h1⟩
  subst ev
  clear hw4 hR hb34 hb03 HROW HB23 HRU
  dsimp only
  go_wp2
  rw [← HW.out, ← HRR.out]
  go_ret2
  exact ⟨R, _, _, rfl, HF.out, HS.out, HB.out⟩
end Go.Proofs.YtgkpnjnollfdaaaDoor
