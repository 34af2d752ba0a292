/- For every job, every list of texts and every list of numbers the law TopStop (in whichever steps a run goes, wherever it stops and is begun anew, its pairs are the same) returns true, and its arguments read behind the call as before.
   Narrower than for every input: the arguments hold together at most 1048576 values and letters. Its only other premise is the card's own: the variables that the row lists hold what their initialisers lay. Written by tpl/mk_card.py. -/
import Derived.Test.YtmgpacenooncjaaGreatDoorTie
import Derived.Test.YtmgpacenooncjaaGreatDoorG2
import Derived.Test.YtmgpacenooncjaaGreatDoorG4
import Derived.Test.YtmgpacenooncjaaGreatDoorG5
import Derived.Test.YtmgpacenooncjaaGreatDoorN8
import Derived.OpenShut
import Derived.ShutString
import Derived.ChangeOld
import Derived.Deep.DeepWitnessRowRef
namespace Go.Proofs.YtmgpacenooncjaaGreatDoor
open Go.ChangeShapes Go.WideShapes Go.ChangeAt Go.RowKit
open Go.ChangeMaps (open_string shut_string)
namespace topStopU

theorem own : ownKnob Tryz.prog.godebug = none := by kernel_rfl
theorem laidOut : laidOutB Tryz.prog = true := by kernel_rfl
theorem rowsInJ : 24 < Tryz.prog.types.size := of_decide_eq_true (by kernel_rfl)
theorem rowsInT : 25 < Tryz.prog.types.size := of_decide_eq_true (by kernel_rfl)
theorem rowsInN : 26 < Tryz.prog.types.size := of_decide_eq_true (by kernel_rfl)

set_option maxRecDepth 100000 in
theorem contract (H : Type) (enc : TypeId × Value → H) (W : World) (base : Nat) (args : Array Value) (ds gs : List (DataW H)) (before : List MemPlace)
    (hval : ∀ (j : Nat) t v, Tryz.f4.params[j]? = some t → args[j]? = some v → Value.okWide Tryz.prog W .any base t v)
    (hW : DataW.Whole enc Tryz.prog Tryz.f4.params.toList Rows.topStopSpec.vars false W args.toList ds gs before) (hk : Rows.uptoBulkAll ds ≤ 1048576) (E : EnvS W ∧ Pp.Env W) :
    Calls Tryz.prog 4 args W fun e W' => ∃ v, e = .returned v ∧ Rows.topStopSpec.post enc Tryz.prog Tryz.f4 false true false false W args v W' := by
  have hW' := hW
  obtain ⟨p, q, hA0, hV, rfl, hfz, hnd⟩ := hW
  have hA : DataW.TrodAll enc Tryz.prog W 0 (fun _ => true) true Tryz.f4.params.toList args.toList ds p := hA0
  rw [Tryz.params4] at hA hval
  obtain ⟨v0, vs0, d0, ds0, p0, q0, hargs, rfl, rfl, h0, r0⟩ := trodAll_cons hA
  obtain ⟨v1, vs1, d1, ds1, p1, q1, rfl, rfl, rfl, h1, r1⟩ := trodAll_cons r0
  obtain ⟨v2, vs2, d2, ds2, p2, q2, rfl, rfl, rfl, h2, r2⟩ := trodAll_cons r1
  obtain ⟨rfl, rfl, rfl⟩ := trodAll_nil r2
  obtain rfl : args = #[v0, v1, v2] := by cases args; simp_all
  obtain ⟨rfl, rfl⟩ := trodVars_none hV
  simp only [Rows.uptoBulkAll] at hk
  have k0 := h0
  have lt0 : ∀ x ∈ p0, x.block < W.heap.size := by obtain ⟨m, hm⟩ := k0; exact DataW.trod_lt m _ _ _ hm
  obtain ⟨j0, a0, c0, rfl, y0, x0, b0⟩ := OpenR.jobC (hval 0 24 v0 rfl rfl) h0
  have k1 := h1
  have lt1 : ∀ x ∈ p1, x.block < W.heap.size := by obtain ⟨m, hm⟩ := k1; exact DataW.trod_lt m _ _ _ hm
  obtain ⟨l1, a1, c1, rfl, z1, x1, b1⟩ := OpenT.linesC (hval 1 25 v1 rfl rfl) h1
  have k2 := h2
  have lt2 : ∀ x ∈ p2, x.block < W.heap.size := by obtain ⟨m, hm⟩ := k2; exact DataW.trod_lt m _ _ _ hm
  obtain ⟨l2, a2, c2, rfl, x2, b2, z2⟩ := OpenI.nums (hval 2 26 v2 rfl rfl) h2
  clear hA0
  have walk := topStop_walk stepDoes j0 a0 c0 a1 c1 l1 a2 c2 l2 W E.1 E.2 x0 (by omega) x1 (by omega) x2 z2 (by omega)
  refine walk.mono fun e W' ⟨he, bel⟩ => ?_
  subst he
  exact ⟨_, rfl, _, _, _, [], _, [], hW', trodAll_mk1 (shut_bool Tryz.underlying4 _), (trodAll_cons_mk (Below.trod laidOut (by kernel_rfl) rowsInJ k0 bel lt0) (trodAll_cons_mk (Below.trod laidOut (by kernel_rfl) rowsInT k1 bel lt1) (trodAll_cons_mk (Below.trod laidOut (by kernel_rfl) rowsInN k2 bel lt2) trodAll_mk0))), rfl, bel.frame _, fun h => by cases h⟩

def args0 : Array Value := #[.agg #[.slice none 0 0, .int .i64 0, .bool false, .int .i64 0], .slice none 0 0, .slice none 0 0]
theorem laid_met (os : Os) : laidMet Tryz.prog Rows.topStopUptoRow.laid ((Laid.laidS (World.holding Tryz.prog default ⟨#[], #[], []⟩).heap.size (World.holding Tryz.prog os ⟨Laid.errBlocks, #[], []⟩)).forCall (fun _ _ => 0) ⟨#[], args0, []⟩).memory :=
  laidMet_of_run' 300 (by kernel_rfl) (by kernel_rfl)
theorem reads (os : Os) {H : Type} (enc : TypeId × Value → H) : ∃ places, DataW.whole enc Tryz.prog ((Laid.laidS (World.holding Tryz.prog default ⟨#[], #[], []⟩).heap.size (World.holding Tryz.prog os ⟨Laid.errBlocks, #[], []⟩)).forCall (fun _ _ => 0) ⟨#[], args0, []⟩).memory Tryz.f4.params.toList Rows.topStopSpec.vars false args0.toList 8 = some ([.agg [.nil, .lit (.int .i64 0), .lit (.bool false), .lit (.int .i64 0)], .nil, .nil], [], places) :=
  ⟨[], by kernel_rfl⟩

set_option maxRecDepth 100000 in
theorem lifted (os : Os) (started : os.Started) (H : Type) (enc : TypeId × Value → H) (F : Stop.Interp) :
    ReturnsInHanded {} Tryz.checked os 4 .any ((Rows.OpenSpec.upto Rows.topStopSpec).preRow enc Tryz.prog Tryz.f4 Rows.topStopUptoRow.domain false Rows.topStopUptoRow.laid) (((Rows.OpenSpec.upto Rows.topStopSpec).at F).post enc Tryz.prog Tryz.f4 false true false false) := by
  obtain ⟨places, hx⟩ := reads os enc
  refine returnsInHanded_of_row (C := Tryz.checked) (s := Rows.OpenSpec.upto Rows.topStopSpec) own started (by kernel_rfl) Tryz.func4
    (witness_row_at (enc := enc) (C := Tryz.checked) false (Laid.laidS (World.holding Tryz.prog default ⟨#[], #[], []⟩).heap.size (World.holding Tryz.prog os ⟨Laid.errBlocks, #[], []⟩)) args0 rfl (by kernel_rfl) (by kernel_rfl) (by kernel_rfl)
      (OpenSpec.preRow_of_cond 8 hx (by kernel_rfl) (fun k hk => by cases hk; kernel_rfl) (by kernel_rfl) (laid_met os))) ?_
  intro W base args ds gs before hval hW q1 q2 q3 hL hS _
  have hk : Rows.uptoBulkAll ds ≤ 1048576 := by
    have hk0 := of_decide_eq_true (q2 _ rfl)
    first | exact hk0 | (rw [OpenE.all_append] at hk0; omega)
  exact contract H enc W base args ds gs before hval hW hk (Laid.envP_of (show laidMet _ _ _ from hL) hS)

theorem said : Rows.TopStopUptoSaid :=
  OpenClaim.holds_of_cond 4 Tryz.f4 rfl rfl rfl rfl rfl rfl rfl ⟨rfl, rfl, rfl, rfl, rfl⟩ rfl rfl rfl rfl rfl (by kernel_rfl) Tryz.func4 (by kernel_rfl)
    (of_decide_eq_true (by kernel_rfl)) (by unfold Func.isWrapper; first | (rw [if_pos (by decide +kernel)]; kernel_rfl) | (rw [if_neg (by decide +kernel)]; exact ⟨rfl, rfl⟩))
    (fun os started H enc _ F => by rw [OpenClaim.pre_eq_preRow]; exact lifted os started H enc F)

theorem plain (f : FuncId) (fn : Func) (hf : Tryz.pinned.checked.prog.funcNamed "threshfloor/threshfloortop.TopStop" = some f) (hfn : Tryz.pinned.checked.prog.funcs[f]? = some fn) :
    true = Tryz.pinned.checked.prog.looks [] ∧ ∀ (j : Nat) t, fn.params[j]? = some t → Tryz.pinned.checked.prog.wantsStandIn t = false := by
  obtain rfl : f = 4 := Option.some.inj ((show Tryz.prog.funcNamed "threshfloor/threshfloortop.TopStop" = some 4 by kernel_rfl).symm.trans hf) |>.symm
  obtain rfl : fn = Tryz.f4 := (Option.some.inj (Tryz.func4.symm.trans hfn)).symm
  refine ⟨by kernel_rfl, fun j t ht => ?_⟩
  rw [Tryz.params4] at ht
  have hm := Array.mem_of_getElem? ht
  simp only [List.mem_toArray, List.mem_cons, List.not_mem_nil, or_false] at hm
  rcases hm with rfl | rfl | rfl
  · exact (show Tryz.prog.wantsStandIn 24 = false by kernel_rfl)
  · exact (show Tryz.prog.wantsStandIn 25 = false by kernel_rfl)
  · exact (show Tryz.prog.wantsStandIn 26 = false by kernel_rfl)
end topStopU
/-- The given statement. -/
theorem topStopUpto_holds : Rows.TopStopUptoCardSaid :=
  Claim7.holds_tied_plain_at .later [] _ _ _ _ topStopU.said (fun _ h => by cases h) (by kernel_rfl) (fun _ h => by cases h) topStopUpto_row_tie rfl ⟨rfl, rfl⟩ (by kernel_rfl) rfl topStopU.plain (by kernel_rfl)
#print axioms topStopUpto_holds
end Go.Proofs.YtmgpacenooncjaaGreatDoor
