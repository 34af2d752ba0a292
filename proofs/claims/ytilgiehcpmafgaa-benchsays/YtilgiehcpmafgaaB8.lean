/- Benches: what Count asks of a slot; a row of slots copied. -/
import Derived.Test.YtilgiehcpmafgaaB7
import Derived.Defers
import Derived.Recover
import Derived.Laws.Pointers
import Derived.Laws.Cover3
namespace Go.Proofs.Ytilgiehcpmafgaa
open Go.ChangeShapes Go.WideShapes Go.ChangeAt Go.RowKit
open Bn
theorem catch_idle (p : Addr) (w : World) :
    CallsD Try.prog 49 #[.pointer (some p)] .returning w fun e u' w' => e = .returned (.tuple #[]) ∧ u' = .returning ∧ w' = w := by
  refine callsD_of_wpS Try.func49 rfl fun c₀ cs hu => ?_
  apply wpS_seq
  apply wpS_region
  simp [wpOpsS, go_sem, recoverD, hu, Try.ntmps49, Exit.thenS]
  refine wpS_cond (t := false) (by simp [Act.eval, Array.replicate]) ?_
  simp only [Bool.false_eq_true, if_false]
  refine wpS_of_wp (wp_skip ?_)
  cases c₀
  simp_all [bodyPostS, results, Try.results49]
set_option maxRecDepth 100000 in
set_option maxHeartbeats 1000000 in
theorem which_any (j : Int) (w : World) :
    Calls Try.prog 26 #[.int .i64 j] w fun e w' => e = .returned (.int .i64 (j.tmod 5)) ∧ w' = w := by
  go_enter Try.func26, Try.ntmps26
  go_wp2
  go_ret
  exact ⟨rfl, rfl⟩
set_option maxRecDepth 100000 in
set_option maxHeartbeats 1000000 in
theorem take_any (j : Int) (w : World) :
    Calls Try.prog 43 #[.func (.func 26) #[] #[], .int .i64 j] w fun e w' => e = .returned (.int .i64 (j.tmod 5)) ∧ Below w.heap.size w w' := by
  have hmf : ∀ (fn : Fn) (first cap : Array Value) (w : World), (Instr.makeFunc fn first cap).run Try.prog w = .ok (.func fn first cap) w := fun _ _ _ _ => rfl
  go_enter_defers Try.func43, Try.ntmps43
  go_wp2_with (go_at_call 26; refine (which_any j _).mono ?_; rintro _ _ ⟨rfl, rfl⟩)
  refine leaves_cons (f := 49) (args := #[.pointer (some ⟨w.heap.size, 0, none⟩)]) (by simp) (by simp [go_sem]) ?_
  refine (catch_idle ⟨w.heap.size, 0, none⟩ _).mono ?_
  rintro e u' w'' ⟨rfl, rfl, rfl⟩
  simp [Leaves, settle, results, Try.results43, go_sem]
  exact blw_box _
theorem eql_nil {P : Program} (w : World) (t e : TypeId) (a : Option Addr) (l c : Nat) (h : P.underlying t = some (.slice e)) : (binOp .eql t (.slice a l c) (.slice none 0 0)).run P w = .ok (.bool a.isNone) w := by
  simp only [binOp]
  simp [run_equal_slice_nil w t e a l c h]
theorem cellsS_one (L : List Sl) : ∀ u ∈ cellsS L, u.oneCell' = true := by
  intro u hu
  simp only [cellsS, List.mem_flatMap] at hu
  obtain ⟨s, _, hs⟩ := hu
  simp [Sl.cells] at hs
  rcases hs with rfl | rfl | rfl | rfl | rfl | rfl <;> rfl
set_option maxRecDepth 100000 in
set_option maxHeartbeats 1000000 in
theorem clone_any {lo hi P W S g cap : Nat} {L : List Sl} (w : World) (h : IsB w lo hi P W S g cap L) :
    Calls Try.prog 42 #[.slice (some ⟨g, 0, none⟩) L.length cap] w fun e w' => ∃ v, e = .returned v ∧ w'.ownsRow w.heap.size 84 6 v L.length (cellsS L) ∧ Below w.heap.size w w' := by
  obtain ⟨i0, hi0, hz0, hz1, hz2⟩ := info_parts infoSlot
  have H := Lib.hid h
  have hl := h.small
  clear h
  have heq : ∀ w', (binOp .eql 80 (.slice (some ⟨g, 0, none⟩) L.length cap) (.slice none 0 0)).run Try.prog w' = .ok (.bool false) w' := fun w' => eql_nil w' 80 84 _ _ _ Try.underlying80
  go_enter Try.func42, Try.ntmps42
  go_wp2_with (at_builtin; refine Hid.out ?_)
  refine Lib.hid ?_
  have hb1 : Below w.heap.size w (w.alloc (.cells #[] 84)) := blw_box _
  have h1 := H.out.blw hb1
  have o0 : (w.alloc (.cells #[] 84)).ownsRow w.heap.size 84 6 (.slice (some ⟨w.heap.size, 0, none⟩) 0 0) 0 [] := World.ownsRow_lit (base := w.heap.size) (size := 6) (e := 84) w #[] 0 (Nat.le_refl _) (by decide) (by rfl)
  refine wpList_append_own _ rfl (.tmp 5) (.tmp 6) 80 rfl w.heap.size 84 i0 (.agg #[.int .i64 0, .int .i64 0, .bool false, .int .i64 0, .bool false, .int .i64 0]) 6 48 Try.underlying80 hi0 hz0 hz1 hz2 rfl (by decide) (.slice (some ⟨w.heap.size, 0, none⟩) 0 0) 0 [] rfl o0 ⟨g, 0, none⟩ L.length cap (cellsS L) rfl (cellsS_length L) (h1.ow.cells rfl) (cellsS_one L) ?c2 ?c3 ?c4 ?_
  case c2 => unfold maxLen; omega
  case c3 => omega
  case c4 => simp
  intro v2 w2 hown2 hg2 _
  have hb2 : Below w.heap.size w w2 := hb1.grown hg2 (by simp) (fun k hk => by simp [Value.ownBlock] at hk; omega)
  rw [List.nil_append, Nat.zero_add] at hown2
  have HO := Lib.hid hown2
  clear hown2 hg2 h1 o0
  go_wp2
  go_ret
  exact ⟨v2, rfl, HO.out, hb2⟩
end Go.Proofs.Ytilgiehcpmafgaa
