/- Contracts of expr.Of, Str and Int. -/
import Derived.Test.YtmgpacenooncjaaGreatDoorExT
import Derived.Laws.CopyOwn
namespace Go.Proofs.YtmgpacenooncjaaGreatDoor
open Go.ChangeShapes Go.WideShapes Go.ChangeAt Go.RowKit
theorem below_setCell {B g i : Nat} {w0 w : World} {cs : Array Value} {t : TypeId} {fr : Nat × Nat} (hg : w.heap[g]? = some (.cells cs t fr)) (hb : Below B w0 w) (hBg : B ≤ g) (v : Value) : Below B w0 (w.setCell ⟨g, i, none⟩ v) := by
  rw [setCell_eq_setRow w g i cs t fr v hg]
  exact below_setRow hb hBg _
theorem cell_far {w : World} {a : Addr} {g i : Nat} {v x : Value} (hne : a.block ≠ g) (h : w.cell? a = some x) : (w.setCell ⟨g, i, none⟩ v).cell? a = some x := by
  rw [World.cell?_of_block (heap_setCell_other w ⟨g, i, none⟩ a.block v hne)]
  exact h
theorem texts_far {w : World} {a : Option Addr} {n cap g i : Nat} {v : Value} {l : List ByteArray} (hf : ∀ x : Addr, a = some x → x.block ≠ g) (h : IsTexts w (.slice a n cap) l) : IsTexts (w.setCell ⟨g, i, none⟩ v) (.slice a n cap) l := by
  obtain ⟨a', c', e, hc⟩ := h
  injection e with e1 e2 e3
  subst e1 e3
  refine ⟨a, cap, by rw [e2], fun j hj => ?_⟩
  obtain ⟨b, off, ea, c0⟩ := hc j hj
  exact ⟨b, off, ea, cell_far (a := ⟨b, off + j, none⟩) (hf ⟨b, off, none⟩ ea) c0⟩
/-- The record of a line. -/
def ofL (l : List UInt8) : Rc := ⟨l, [], wordsL l⟩
def OfSaid (l : List UInt8) (n : Nat) (w : World) (r : Ending) (w' : World) : Prop :=
  ∃ a cap, r = .returned (.agg #[.string (bs l), .string ⟨#[]⟩, .slice a n cap]) ∧ Hid (IsTexts w' (.slice a n cap) ((wordsL l).map bs)) ∧ Below w.heap.size w w' ∧ Hid (∀ x : Addr, a = some x → w.heap.size ≤ x.block)
set_option maxRecDepth 100000 in
theorem of_any (l : List UInt8) (n : Nat) (hn : n = (wordsL l).length) (w : World) (E : Env0 w) (hl : l.length ≤ 1000000) :
    Calls Tryz.prog 46 #[.string (bs l)] w fun r w' => OfSaid l n w r w' := by
  have W := Lib.hid (fun w E => words_any l w E hl)
  have HE := Lib.hid E
  unfold WordsSaid at W
  unfold OfSaid
  rw [← hn] at W
  have HN := Lib.hid hn
  clear hn
  go_enter Tryz.func46, Tryz.ntmps46
  go_wp2_with (go_at_call 75; refine Hid.out ?_)
  refine Lib.hid ?_
  refine (W.out _ (HE.out.below (below_box _))).mono ?_
  rintro _ w2 ⟨a, cap, rfl, HT, hb2, HF⟩
  have hg : w2.heap[w.heap.size]? = some (.cells #[.string ⟨#[]⟩, .string ⟨#[]⟩, .slice none 0 0] 86 (0, 0)) := by
    rw [hb2.block w.heap.size (by simp)]
    exact heap_alloc_new _ _
  have hfar : Hid (∀ x : Addr, a = some x → w.heap.size < x.block) := by
    show ∀ x : Addr, _
    intro x hx
    have := HF.out x hx
    simp at this
    omega
  have hb3 := below_trans (below_box _) hb2
  have q0 : w2.cell? ⟨w.heap.size, 0, none⟩ = some (.string ⟨#[]⟩) := by rw [cell_of_row _ _ _ _ _ _ hg]; rfl
  have q1 : w2.cell? ⟨w.heap.size, 1, none⟩ = some (.string ⟨#[]⟩) := by rw [cell_of_row _ _ _ _ _ _ hg]; rfl
  have q2 : w2.cell? ⟨w.heap.size, 2, none⟩ = some (.slice none 0 0) := by rw [cell_of_row _ _ _ _ _ _ hg]; rfl
  have f0 := frozen_of_row w2 w.heap.size 0 _ _ hg
  have f1 := frozen_of_row w2 w.heap.size 1 _ _ hg
  have f2 := frozen_of_row w2 w.heap.size 2 _ _ hg
  have HG := Lib.hid hg
  have HB3 := Lib.hid hb3
  clear hg hb3 hb2
  go_wp2
  (try simp only [Exit.inBlock, Exit.then])
  have g1 := heap_setCell_same w2 w.heap.size 0 _ _ (.string (bs l)) HG.out
  have g2 := heap_setCell_same _ w.heap.size 1 _ _ (.string ⟨#[]⟩) g1
  have g3 := heap_setCell_same _ w.heap.size 2 _ _ (.slice a n cap) g2
  refine bodyPost_ret (results_cell_row rfl _ _ w.heap.size 86 #[.string (bs l), .string ⟨#[]⟩, .slice a n cap] (0, 0) _ rfl g3 Tryz.underlying86 rfl (by kernel_rfl)) rfl ?_
  have hne : ∀ x : Addr, a = some x → x.block ≠ w.heap.size := fun x hx => by have := hfar.out x hx; omega
  exact ⟨a, cap, rfl, texts_far hne (texts_far hne (texts_far hne HT.out)), below_setCell g2 (below_setCell g1 (below_setCell HG.out HB3.out (Nat.le_refl _) _) (Nat.le_refl _) _) (Nat.le_refl _) _, fun x hx => by have := hfar.out x hx; omega⟩
theorem ok_more (e : Ex) : ∀ t c, e.ok t c = true → e.ok t true = true := by
  refine Ex.ind (P := fun e => ∀ t c, e.ok t c = true → e.ok t true = true) ?_ e
  intro k n s a ih t c h
  have hL : ∀ t', Ex.ok.okL a t' c = true → Ex.ok.okL a t' true = true := by
    clear h
    induction a with
    | nil => intro _ _; rfl
    | cons x a ihl =>
      intro t' h
      simp only [Ex.ok.okL, Bool.and_eq_true] at h ⊢
      exact ⟨ih x (by simp) t' c h.1, ihl (fun e he => ih e (by simp [he])) t' h.2⟩
  simp only [Ex.ok, Bool.and_eq_true] at h ⊢
  refine ⟨?_, hL _ h.2⟩
  have h1 := h.1
  simp only [hdOk, Bool.and_eq_true] at h1 ⊢
  simp only [Bool.not_true, Bool.and_false, Bool.not_false, and_true]
  exact ⟨⟨⟨⟨h1.1.1.1.1.1, h1.1.1.1.2⟩, h1.1.1.2⟩, h1.1.2⟩, h1.2⟩
theorem fault_ok {e : Ex} {t c : Bool} (h : faultE e t c = 0) : e.ok t c = true := by
  unfold faultE at h
  split at h
  · split at h
    · assumption
    · omega
  · omega
theorem fault_cnt {e : Ex} {t c : Bool} (h : faultE e t c = 0) : e.cnt ≤ 30 := by
  unfold faultE at h
  split at h
  · rename_i h1; exact h1.1
  · omega
theorem fault_more {e : Ex} {t c : Bool} (h : faultE e t c = 0) : faultE e t true = 0 := by
  have h2 := ok_more e t c (fault_ok h)
  unfold faultE at h ⊢
  split at h
  · rename_i h1
    rw [if_pos h1, if_pos h2]
  · omega
set_option maxRecDepth 100000 in
set_option maxHeartbeats 1000000 in
theorem StrX_any (R : Rc) (ra : Option Addr) (rc : Nat) {w : World} {sv : Value} {e : Ex} (h : IsEx w sv e) (hR : IsTexts w (.slice ra R.words.length rc) (R.words.map bs)) (hw : e.wt ≤ 1000000000) (hf : faultE e true true = 0) (hlen : e.len R ≤ 1000000000) (E : EnvS w) :
    Calls Tryz.prog 76 #[e.val sv, recV R ra rc] w fun r w' => r = .returned (.string (bs (e.str R))) ∧ Below w.heap.size w w' := by
  obtain ⟨a, cap, rfl⟩ := h.slice
  have HI := Lib.hid h
  have HR := Lib.hid hR
  have HE := Lib.hid E
  have C := Lib.hid (fun w (h : IsEx w (.slice a e.a.length cap) e) E => check_any h hw true true E)
  rw [hf] at C
  have S := Lib.hid (str_any R ra rc true h hR (fault_ok hf) hlen)
  clear h hR E hf hlen
  unfold Ex.val at C S ⊢
  unfold recV at S ⊢
  unfold errV at C
  simp only [if_pos] at C
  generalize hX : bs (e.str R) = X at *
  obtain ⟨w2, hw2⟩ : ∃ w2, w2 = (w.alloc (.cells #[.int .i64 e.k, .int .i64 e.n, .string (bs e.s), .slice a e.a.length cap] 56)).alloc (.cells #[.string (bs R.line), .string (bs R.it), .slice ra R.words.length rc] 86) := ⟨_, rfl⟩
  have hbx : Below w.heap.size w w2 := by rw [hw2]; exact below_trans (below_box _) (below_box _)
  have e0 : w2.cell? ⟨w.heap.size, 0, none⟩ = some (.int .i64 e.k) := by rw [hw2]; simp
  have e1 : w2.cell? ⟨w.heap.size, 1, none⟩ = some (.int .i64 e.n) := by rw [hw2]; simp
  have e2 : w2.cell? ⟨w.heap.size, 2, none⟩ = some (.string (bs e.s)) := by rw [hw2]; simp
  have e3 : w2.cell? ⟨w.heap.size, 3, none⟩ = some (.slice a e.a.length cap) := by rw [hw2]; simp
  have r0 : w2.cell? ⟨w.heap.size + 1, 0, none⟩ = some (.string (bs R.line)) := by rw [hw2]; simp
  have r1 : w2.cell? ⟨w.heap.size + 1, 1, none⟩ = some (.string (bs R.it)) := by rw [hw2]; simp
  have r2 : w2.cell? ⟨w.heap.size + 1, 2, none⟩ = some (.slice ra R.words.length rc) := by rw [hw2]; simp
  go_enter Tryz.func76, Tryz.ntmps76
  go_wp2_with (go_at_call 92; refine Hid.out ?_)
  refine Lib.hid ?_
  rw [← hw2]
  clear hw2
  refine (C.out _ (HI.out.lower hbx) (HE.out.lower hbx)).mono ?_
  rintro _ w3 ⟨rfl, hb3⟩
  replace e0 := cell_below e0 hb3
  replace e1 := cell_below e1 hb3
  replace e2 := cell_below e2 hb3
  replace e3 := cell_below e3 hb3
  replace r0 := cell_below r0 hb3
  replace r1 := cell_below r1 hb3
  replace r2 := cell_below r2 hb3
  have hb4 := below_trans hbx hb3
  clear hbx hb3
  go_wp2_with (go_at_call 97; refine Hid.out ?_)
  refine Lib.hid ?_
  refine (S.out _ hb4).mono ?_
  rintro _ w5 ⟨rfl, hb5⟩
  go_wp2
  go_ret
  exact ⟨rfl, below_trans hb4 hb5⟩
set_option maxRecDepth 100000 in
set_option maxHeartbeats 1000000 in
theorem IntX_any (R : Rc) (ra : Option Addr) (rc : Nat) {w : World} {sv : Value} {e : Ex} (h : IsEx w sv e) (hR : IsTexts w (.slice ra R.words.length rc) (R.words.map bs)) (hw : e.wt ≤ 1000000000) (hf : faultE e false true = 0) (hlen : e.far R ≤ 1000000000) (E : EnvS w) :
    Calls Tryz.prog 78 #[e.val sv, recV R ra rc] w fun r w' => r = .returned (.int .i64 (e.num R)) ∧ Below w.heap.size w w' := by
  obtain ⟨a, cap, rfl⟩ := h.slice
  have HI := Lib.hid h
  have HR := Lib.hid hR
  have HE := Lib.hid E
  have C := Lib.hid (fun w (h : IsEx w (.slice a e.a.length cap) e) E => check_any h hw false true E)
  rw [hf] at C
  have S := Lib.hid (num_any R ra rc true h hR (fault_ok hf) hlen)
  clear h hR E hf hlen
  unfold Ex.val at C S ⊢
  unfold recV at S ⊢
  unfold errV at C
  simp only [if_pos] at C
  generalize hX : e.num R = X at *
  obtain ⟨w2, hw2⟩ : ∃ w2, w2 = (w.alloc (.cells #[.int .i64 e.k, .int .i64 e.n, .string (bs e.s), .slice a e.a.length cap] 56)).alloc (.cells #[.string (bs R.line), .string (bs R.it), .slice ra R.words.length rc] 86) := ⟨_, rfl⟩
  have hbx : Below w.heap.size w w2 := by rw [hw2]; exact below_trans (below_box _) (below_box _)
  have e0 : w2.cell? ⟨w.heap.size, 0, none⟩ = some (.int .i64 e.k) := by rw [hw2]; simp
  have e1 : w2.cell? ⟨w.heap.size, 1, none⟩ = some (.int .i64 e.n) := by rw [hw2]; simp
  have e2 : w2.cell? ⟨w.heap.size, 2, none⟩ = some (.string (bs e.s)) := by rw [hw2]; simp
  have e3 : w2.cell? ⟨w.heap.size, 3, none⟩ = some (.slice a e.a.length cap) := by rw [hw2]; simp
  have r0 : w2.cell? ⟨w.heap.size + 1, 0, none⟩ = some (.string (bs R.line)) := by rw [hw2]; simp
  have r1 : w2.cell? ⟨w.heap.size + 1, 1, none⟩ = some (.string (bs R.it)) := by rw [hw2]; simp
  have r2 : w2.cell? ⟨w.heap.size + 1, 2, none⟩ = some (.slice ra R.words.length rc) := by rw [hw2]; simp
  go_enter Tryz.func78, Tryz.ntmps78
  go_wp2_with (go_at_call 92; refine Hid.out ?_)
  refine Lib.hid ?_
  rw [← hw2]
  clear hw2
  refine (C.out _ (HI.out.lower hbx) (HE.out.lower hbx)).mono ?_
  rintro _ w3 ⟨rfl, hb3⟩
  replace e0 := cell_below e0 hb3
  replace e1 := cell_below e1 hb3
  replace e2 := cell_below e2 hb3
  replace e3 := cell_below e3 hb3
  replace r0 := cell_below r0 hb3
  replace r1 := cell_below r1 hb3
  replace r2 := cell_below r2 hb3
  have hb4 := below_trans hbx hb3
  clear hbx hb3
  go_wp2_with (go_at_call 98; refine Hid.out ?_)
  refine Lib.hid ?_
  refine (S.out _ hb4).mono ?_
  rintro _ w5 ⟨rfl, hb5⟩
  go_wp2
  go_ret
  exact ⟨rfl, below_trans hb4 hb5⟩
end Go.Proofs.YtmgpacenooncjaaGreatDoor
