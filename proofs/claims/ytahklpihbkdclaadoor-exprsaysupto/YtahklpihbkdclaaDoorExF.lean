/- Contracts of ExprFault, same and exprs. -/
import Derived.Test.YtahklpihbkdclaaDoorExQ
import Derived.Test.YtahklpihbkdclaaDoorExW
namespace Go.Proofs.YtahklpihbkdclaaDoor
open Go.ChangeShapes Go.WideShapes Go.ChangeAt Go.RowKit
set_option maxRecDepth 100000 in
set_option maxHeartbeats 1000000 in
theorem exprFault_any {w : World} {sv : Value} {e : Ex} (h : IsEx w sv e) (hw : e.wt ≤ 1000000000) (text each : Bool) :
    Calls Tryd.prog 27 #[e.val sv, .bool text, .bool each] w fun r w' => r = .returned (.int .i64 (faultE e text each)) ∧ Below w.heap.size w w' := by
  obtain ⟨a, cap, rfl⟩ := h.slice
  have C := Lib.hid (parts_any h hw)
  have M := Lib.hid (shaped_any h hw text each)
  have hcw := cnt_wt e
  have hdc := dep_cnt e
  clear h
  unfold Ex.val at C M ⊢
  obtain ⟨R, hR⟩ : ∃ R : Nat, R = faultE e text each := ⟨_, rfl⟩
  rw [← hR]
  unfold faultE at hR
  have HR := Lib.hid hR
  clear hR
  generalize e.cnt = c at *
  generalize e.dep = d at *
  go_enter Tryd.func27, Tryd.ntmps27
  go_wp2_with (go_at_call 50; refine Hid.out ?_)
  refine Lib.hid ?_
  refine (C.out _ (below_box _)).mono ?_
  rintro _ w2 ⟨rfl, hb2⟩
  by_cases hc : ¬ c ≤ 30
  · go_wp2
    go_ret
    exact ⟨by rw [HR.out, if_neg (by omega)]; rfl, below_trans (below_box _) hb2⟩
  replace hc := Decidable.not_not.1 hc
  by_cases hd : ¬ d ≤ 5
  · go_wp2
    go_ret
    exact ⟨by rw [HR.out, if_neg (by omega)]; rfl, below_trans (below_box _) hb2⟩
  replace hd := Decidable.not_not.1 hd
  have k0 := cell_below (a := ⟨w.heap.size, 0, none⟩) (v := .int .i64 e.k) (by simp) hb2
  have k1 := cell_below (a := ⟨w.heap.size, 1, none⟩) (v := .int .i64 e.n) (by simp) hb2
  have k2 := cell_below (a := ⟨w.heap.size, 2, none⟩) (v := .string (bs e.s)) (by simp) hb2
  have k3 := cell_below (a := ⟨w.heap.size, 3, none⟩) (v := .slice a e.a.length cap) (by simp) hb2
  have hb3 := below_trans (below_box _) hb2
  clear hb2
  have HOK : Hid (R = if e.ok text each = true then 0 else 3) := by
    show R = _
    have h1 := HR.out
    rw [if_pos ⟨hc, hd⟩] at h1
    exact h1
  generalize e.ok text each = g at *
  go_wp2_with (go_at_call 51; refine Hid.out ?_)
  refine Lib.hid ?_
  refine (M.out _ hb3).mono ?_
  rintro _ w4 ⟨rfl, hb4⟩
  cases g with
  | true =>
    go_wp2
    go_ret
    have h1 := HOK.out
    simp at h1
    exact ⟨by rw [h1]; rfl, below_trans hb3 hb4⟩
  | false =>
    go_wp2
    go_ret
    have h1 := HOK.out
    simp at h1
    exact ⟨by rw [h1]; rfl, below_trans hb3 hb4⟩
theorem assert_err (n : Int) (w : World) : Sem.run Tryd.prog (Instr.typeAssert (Value.iface 23 (Value.int IntKind.i64 n)) 27 23 true) w = .ok (.tuple #[.int .i64 n, .bool true]) w := by kernel_rfl
set_option maxRecDepth 100000 in
theorem same_any (f : Nat) (w : World) : Calls Tryd.prog 7 #[errV f, .int .i64 f] w fun e w' => e = .returned (.bool true) ∧ w' = w := by
  unfold errV
  by_cases h : f = 0
  · subst h
    rw [if_pos rfl]
    go_enter Tryd.func7, Tryd.ntmps7
    go_wp2
    go_ret
    exact ⟨rfl, rfl⟩
  · rw [if_neg h]
    have ta := assert_err f
    have hf : 0 < f := by omega
    go_enter Tryd.func7, Tryd.ntmps7
    go_wp2
    go_ret
    exact ⟨rfl, rfl⟩
theorem isEx_none (w : World) (k n : Int) (s : List UInt8) : IsEx w (.slice none 0 0) (.mk k n s []) :=
  IsEx.mk k n s none 0 [] 0 0 (fun _ => undef) (fun h => absurd h (by simp)) (fun i x hx => by simp at hx) (fun i x hx => by simp at hx)
theorem litStr (w : World) (E : EnvS w) (ra : Option Addr) (rd : Nat) (h : IsTexts w (.slice ra 2 rd) ((wordsL [97, 32, 98, 99]).map bs)) :
    Calls Tryd.prog 34 #[.agg #[.int .i64 3, .int .i64 1, .string ⟨#[]⟩, .slice none 0 0], .agg #[.string (bs [97, 32, 98, 99]), .string ⟨#[]⟩, .slice ra 2 rd]] w fun r w' => r = .returned (.string ⟨#[98, 99]⟩) ∧ Below w.heap.size w w' :=
  StrX_any (ofL [97, 32, 98, 99]) ra rd (isEx_none w 3 1 []) h (by decide) (by decide) (by decide) E
theorem litInt (w : World) (E : EnvS w) (ra : Option Addr) (rd : Nat) (h : IsTexts w (.slice ra 2 rd) ((wordsL [97, 32, 98, 99]).map bs)) :
    Calls Tryd.prog 36 #[.agg #[.int .i64 9, .int .i64 0, .string ⟨#[]⟩, .slice none 0 0], .agg #[.string (bs [97, 32, 98, 99]), .string ⟨#[]⟩, .slice ra 2 rd]] w fun r w' => r = .returned (.int .i64 2) ∧ Below w.heap.size w w' :=
  IntX_any (ofL [97, 32, 98, 99]) ra rd (isEx_none w 9 0 []) h (by decide) (by decide) (by decide) E
set_option maxRecDepth 100000 in
set_option maxHeartbeats 1000000 in
theorem exprs_any (w : World) (E : EnvS w) : Calls Tryd.prog 25 #[] w fun r w' => r = .returned (.bool true) ∧ Below w.heap.size w w' := by
  have HE := Lib.hid E
  clear E
  go_enter Tryd.func25, Tryd.ntmps25
  go_wp2_with (go_at_call 33; refine Hid.out ?_)
  refine Lib.hid ?_
  refine (of_any [97, 32, 98, 99] 2 rfl w HE.out.toEnv0 (by decide)).mono ?_
  rintro _ w2 ⟨ra, rd, rfl, HT2, hb2, _⟩
  obtain ⟨w3, hw3⟩ : ∃ w3, w3 = w2.alloc (.cells #[.string (bs [97, 32, 98, 99]), .string ⟨#[]⟩, .slice ra 2 rd] 61) := ⟨_, rfl⟩
  have hb3 : Below w2.heap.size w2 w3 := by rw [hw3]; exact below_box _
  have r0 : w3.cell? ⟨w2.heap.size, 0, none⟩ = some (.string (bs [97, 32, 98, 99])) := by rw [hw3]; simp
  have r1 : w3.cell? ⟨w2.heap.size, 1, none⟩ = some (.string ⟨#[]⟩) := by rw [hw3]; simp
  have r2 : w3.cell? ⟨w2.heap.size, 2, none⟩ = some (.slice ra 2 rd) := by rw [hw3]; simp
  have hb03 := below_trans hb2 hb3
  go_wp2_with (go_at_call 34; refine Hid.out ?_)
  refine Lib.hid ?_
  rw [← hw3]
  clear hw3
  refine (litStr w3 (HE.out.lower hb03) ra rd (HT2.out.below hb3)).mono ?_
  rintro _ w4 ⟨rfl, hb34⟩
  replace r0 := cell_below r0 hb34
  replace r1 := cell_below r1 hb34
  replace r2 := cell_below r2 hb34
  have hb04 := below_trans hb03 hb34
  have HT4 := Lib.hid ((HT2.out.below hb3).below hb34)
  clear hb2 hb3 hb03 hb34 HT2
  go_wp2_with (go_at_call 36; refine Hid.out ?_)
  refine Lib.hid ?_
  refine (litInt w4 (HE.out.lower hb04) ra rd HT4.out).mono ?_
  rintro _ w5 ⟨rfl, hb45⟩
  go_wp2
  go_ret
  exact ⟨rfl, below_trans hb04 hb45⟩
end Go.Proofs.YtahklpihbkdclaaDoor
