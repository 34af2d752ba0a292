/- What the walks of ExprSays share. Written by tpl/mk_exprs.py. -/
import Derived.Test.YtahklpihbkdclaaDoorExF
namespace Go.Proofs.YtahklpihbkdclaaDoor
open Go.ChangeShapes Go.WideShapes Go.ChangeAt Go.RowKit
theorem and_1023 (n : Int) : ∃ j : Nat, j ≤ 1023 ∧ bits BinOp.and IntKind.i64 n 1023 = (j : Int) := by
  refine ⟨(BitVec.ofInt 64 n &&& BitVec.ofInt 64 1023).toNat, ?_, ?_⟩
  · rw [BitVec.toNat_and]
    exact Nat.and_le_right
  · have h : (BitVec.ofInt 64 n &&& BitVec.ofInt 64 1023).toNat ≤ 1023 := by rw [BitVec.toNat_and]; exact Nat.and_le_right
    show IntKind.i64.wrap ((BitVec.ofInt 64 n &&& BitVec.ofInt 64 1023).toNat : Int) = _
    exact wrap_mid _ (by omega) (by omega)
theorem rc_len (l it : List UInt8) (hl : l.length ≤ 300) (hit : it.length ≤ 300) {e : Ex} {t c : Bool} (hf : faultE e t c = 0) (hw : e.wt ≤ 100000000) : e.len (rc l it) ≤ 200000000 := by
  have h1 := len_le (rc l it) 300 hit hl (fun x hx => by have := word_len (l := l) (cur := []) hx; simp at this; omega) e
  have h2 := fault_cnt hf
  omega
theorem rc_far (l it : List UInt8) (hl : l.length ≤ 300) (hit : it.length ≤ 300) {e : Ex} {t c : Bool} (hf : faultE e t c = 0) (hw : e.wt ≤ 100000000) : e.far (rc l it) ≤ 200000000 := by
  have h1 := far_le (rc l it) 300 hit hl (fun x hx => by have := word_len (l := l) (cur := []) hx; simp at this; omega) (Nat.le_trans (words_len l) hl) e _ _ (fault_ok hf)
  have h2 := fault_cnt hf
  omega
theorem sStr (l it : List UInt8) (hl : l.length ≤ 300) (hit : it.length ≤ 300) (m : Nat) (hm : m = (wordsL l).length) (rb : Option Addr) (rd : Nat) {w : World} {sv : Value} {e : Ex} {c : Bool} (h : IsEx w sv e) (hR : IsTexts w (.slice rb m rd) ((wordsL l).map bs)) (hw : e.wt ≤ 100000000) (hf : faultE e true c = 0) (E : EnvS w) :
    Calls Tryd.prog 34 #[e.val sv, .agg #[.string (bs l), .string (bs it), .slice rb m rd]] w fun r w' => r = .returned (.string (bs (e.str (rc l it)))) ∧ Below w.heap.size w w' := by
  subst hm
  exact StrX_any (rc l it) rb rd h hR (by omega) (fault_more hf) (by have := rc_len l it hl hit hf hw; omega) E
theorem sInt (l it : List UInt8) (hl : l.length ≤ 300) (hit : it.length ≤ 300) (m : Nat) (hm : m = (wordsL l).length) (rb : Option Addr) (rd : Nat) {w : World} {sv : Value} {e : Ex} {c : Bool} (h : IsEx w sv e) (hR : IsTexts w (.slice rb m rd) ((wordsL l).map bs)) (hw : e.wt ≤ 100000000) (hf : faultE e false c = 0) (E : EnvS w) :
    Calls Tryd.prog 36 #[e.val sv, .agg #[.string (bs l), .string (bs it), .slice rb m rd]] w fun r w' => r = .returned (.int .i64 (e.num (rc l it))) ∧ Below w.heap.size w w' := by
  subst hm
  exact IntX_any (rc l it) rb rd h hR (by omega) (fault_more hf) (by have := rc_far l it hl hit hf hw; omega) E
end Go.Proofs.YtahklpihbkdclaaDoor
