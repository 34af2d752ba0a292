/- Mapper: what turns when a run goes on; an append of pairs, at a step of a region that draws. -/
import Derived.Test.YtgkpnjnollfdaaaDoorN5
import Derived.Maps.AppendAt
import Derived.Deep.RegionLaw
namespace Go.Proofs.YtgkpnjnollfdaaaDoor
open Go.ChangeShapes Go.WideShapes Go.ChangeAt Go.RowKit
/-- Nothing has turned but a block, a row's, and what is new. -/
structure FrM (w w' : World) (R : Nat) (o : Option Nat) : Prop where
  os : w'.os = w.os
  tape : w'.tape = w.tape
  output : w'.output = w.output
  size : w.heap.size ≤ w'.heap.size
  block : ∀ k, k < w.heap.size → k ≠ R → some k ≠ o → w'.heap[k]? = w.heap[k]?
theorem FrM.refl (w : World) (R : Nat) (o : Option Nat) : FrM w w R o := ⟨rfl, rfl, rfl, Nat.le_refl _, fun _ _ _ _ => rfl⟩
theorem FrM.of_blw {w w' : World} (h : Below w.heap.size w w') (R : Nat) (o : Option Nat) : FrM w w' R o := ⟨h.os, h.tape, h.output, h.size, fun k hk _ _ => h.block k hk⟩
theorem FrM.blw {w w1 w2 : World} {R : Nat} {o : Option Nat} (h : FrM w w1 R o) (k : Below w1.heap.size w1 w2) : FrM w w2 R o :=
  ⟨k.os.trans h.os, k.tape.trans h.tape, k.output.trans h.output, Nat.le_trans h.size k.size, fun i hi h1 h2 => (k.block i (Nat.lt_of_lt_of_le hi h.size)).trans (h.block i hi h1 h2)⟩
theorem FrM.put {w w1 : World} {R : Nat} {o : Option Nat} (h : FrM w w1 R o) (i : Nat) (v : Value) : FrM w (w1.setCell ⟨R, i, none⟩ v) R o := by
  have k := Only.setCell (Only.refl R w1) i v
  exact ⟨k.os.trans h.os, k.tape.trans h.tape, k.output.trans h.output, Nat.le_trans h.size k.size, fun j hj h1 h2 => (k.block j (Nat.lt_of_lt_of_le hj h.size) (fun e => h1 (Option.some.inj e))).trans (h.block j hj h1 h2)⟩
theorem FrM.grown {w w1 w2 : World} {R : Nat} {o o' : Option Nat} (h : FrM w w1 R o) (k : w1.grownBy w2 o') (ho : o' = o ∨ ∀ b, o' = some b → w.heap.size ≤ b) : FrM w w2 R o :=
  ⟨k.os.trans h.os, k.tape.trans h.tape, k.output.trans h.output, Nat.le_trans h.size k.size, fun j hj h1 h2 => (k.block j (Nat.lt_of_lt_of_le hj h.size) (fun e => by
    rcases ho with rfl | ho
    · exact h2 e
    · have := ho j e.symm; omega)).trans (h.block j hj h1 h2)⟩
theorem FrM.below {w w' : World} {R B : Nat} {o : Option Nat} (h : FrM w w' R o) (hB : B ≤ w.heap.size) (hR : B ≤ R) (ho : ∀ b, o = some b → B ≤ b) : Below B w w' :=
  ⟨h.os, h.tape, h.output, h.size, fun k hk => h.block k (by omega) (by omega) (fun e => by have := ho k e.symm; omega)⟩
theorem IsMR.blk_grown {wr w9 w10 : World} {R : Nat} {j : Jb} {rv lv mv : Value} {lines : List (List UInt8)} {done : Nat} {l : List (ByteArray × Int)} (h : IsMR wr R j rv lv lines done mv l) (hb9 : Below wr.heap.size wr w9) (hg : w9.grownBy w10 mv.ownBlock) : Blk w10 R 93 [rv, .int .i64 j.fold, .bool j.early, .int .i64 j.slices, lv, .int .i64 done, mv] := by
  have r9 := ow_below h.row hb9
  exact (hg.block R (Nat.lt_of_lt_of_le h.blk.lt hb9.size) (fun e => by have := (r9.lt _ e.symm).1; omega)).trans (h.blk.blw hb9)
theorem IsMR.more {wr w9 w10 : World} {R : Nat} {j : Jb} {rv lv mv nv : Value} {lines : List (List UInt8)} {done : Nat} {l l' : List (ByteArray × Int)} (h : IsMR wr R j rv lv lines done mv l) (hb9 : Below wr.heap.size wr w9) (hg : w9.grownBy w10 mv.ownBlock) (ho : w10.ownsRow (R + 1) 25 2 nv l'.length (Pp.cellsP l')) : IsMR (w10.setCell ⟨R, 6, none⟩ nv) R j rv lv lines done nv l' := by
  have r9 := ow_below h.row hb9
  have hRl := h.blk.lt
  have b10 : Below R wr w10 := (hb9.mono (Nat.le_of_lt hRl)).grown hg (by have := hb9.size; omega) (fun q hq => by have := (r9.lt q hq).1; omega)
  have b11 : Below R wr (w10.setCell ⟨R, 6, none⟩ nv) := b10.setCell (p := ⟨R, 6, none⟩) (Nat.le_refl _) _
  exact ⟨(h.blk_grown hb9 hg).set 6 nv, fun w' h' => h.rules w' (b11.trans h'), fun w' h' => h.lines w' (b11.trans h'), row_stay ho (Nat.lt_succ_self _)⟩
/-- An append of pairs to an own row: what comes out, where it lies, what has turned. -/
theorem run_append_prs {w : World} {base n c : Nat} {v xv : Value} {A B : List (ByteArray × Int)} (ty : TypeId) (hown : w.ownsRow base 25 2 v n (Pp.cellsP A)) (hn : n = A.length) (hB : Pp.IsPairs w xv B) (hc : c = B.length) (hlen : A.length + B.length ≤ 1000000) (hbase : base ≤ w.heap.size) :
    ∃ va vc w', (Builtin.append_ #[22, 22] ty #[v, xv]).run Tryd.prog w = .ok (.slice va (A ++ B).length vc) w' ∧ w'.ownsRow base 25 2 (.slice va (A ++ B).length vc) (A ++ B).length (Pp.cellsP (A ++ B)) ∧ w.grownBy w' v.ownBlock ∧ ((Value.slice va (A ++ B).length vc).ownBlock = v.ownBlock ∨ (Value.slice va (A ++ B).length vc).ownBlock = some w.heap.size) := by
  have shape : ∀ (v' : Value) (w' : World), w'.ownsRow base 25 2 v' (A ++ B).length (Pp.cellsP (A ++ B)) → ∃ va vc, v' = .slice va (A ++ B).length vc := fun v' w' h => by
    rcases row_slice h with ⟨h1, h2⟩ | ⟨g, c, h1, _⟩
    · exact ⟨_, _, by rw [h1, h2]⟩
    · exact ⟨_, _, h1⟩
  obtain ⟨i0, hi, hz0, hz1, hz2⟩ := info_parts Pp.pairInfo
  have hB' := hB
  obtain ⟨ao, cc, rfl, _⟩ := hB
  cases ao with
  | none =>
    obtain ⟨rfl, _⟩ := Pp.isPairs_none hB'
    have hA : w.ownsRow base 25 2 v (A ++ []).length (Pp.cellsP (A ++ [])) := by rw [List.append_nil, ← hn]; exact hown
    obtain ⟨va, vc, e⟩ := shape v w hA
    rw [e] at hA hown ⊢
    refine ⟨va, vc, w, Pp.run_append_nilx (P := Tryd.prog) base 22 ty 25 i0 2 cc Tryd.underlying22 hi _ _ _ hown, hA, ⟨rfl, rfl, rfl, Nat.le_refl _, fun _ _ _ => rfl⟩, .inl rfl⟩
  | some ad =>
    obtain ⟨v', w', hr, h2, h3, h4, h5⟩ := run_append_own_at (P := Tryd.prog) w base 22 ty 25 i0 (.agg #[.string ⟨#[]⟩, .int .i64 0]) 2 24 Tryd.underlying22 hi hz0 hz1 hz2 rfl (by decide) v n _ hown ad B.length cc (Pp.cellsP B) (Pp.cellsP_length B) (Pp.cellsP_src hB') (Pp.cellsP_one B) (by unfold maxLen; omega) (by omega) hbase
    have hA : w'.ownsRow base 25 2 v' (A ++ B).length (Pp.cellsP (A ++ B)) := by
      rw [List.length_append, Pp.cellsP_append, ← hn]
      exact h2
    obtain ⟨va, vc, rfl⟩ := shape v' w' hA
    exact ⟨va, vc, w', hr, hA, h3, h5⟩
theorem step_append_prs {w : World} {ops : Array Oper} {o : Oper} {a : Act} {K : Act → World → Prop} {Q : Exit → Act → World → Prop} {E : Prop} (hgd : o.guard = none) (s x : Operand)
    (ho : o.op = .call { callee := .builtin .append, args := #[s, x], argTypes := #[22, 22] })
    {base n : Nat} {v xv : Value} {A B : List (ByteArray × Int)} (hs : a.eval s = v) (hown : w.ownsRow base 25 2 v n (Pp.cellsP A)) (hn : n = A.length) (hx : a.eval x = xv) (hB : Pp.IsPairs w xv B) (hlen : A.length + B.length ≤ 1000000) (hbase : base ≤ w.heap.size) {N : Nat} (hN : (A ++ B).length = N)
    (h : ∀ va vc w', w'.ownsRow base 25 2 (.slice va N vc) N (Pp.cellsP (A ++ B)) → w.grownBy w' v.ownBlock → ((Value.slice va N vc).ownBlock = v.ownBlock ∨ (Value.slice va N vc).ownBlock = some w.heap.size) → K (a.put o.dst (.slice va N vc)) w') :
    if Region.wanted o (yielded ops a.tmps) = true then Oper.wp Tryd.prog o a w K Q else E := by
  have hw : Region.wanted o (yielded ops a.tmps) = true := by simp [Region.wanted, hgd]
  rw [if_pos hw]
  obtain ⟨va, vc, w', hr, h2, h3, h4⟩ := run_append_prs o.type hown hn hB rfl hlen hbase
  rw [hN] at hr h2 h4
  unfold Oper.wp execOp
  simp only [ho, resolve, invoke, builtin, Sem.run_bind, Sem.run_pure, Result.andThen_ok, List.map_toArray, List.map_cons, List.map_nil, hs, hx, hr]
  exact h va vc w' h2 h3 h4
end Go.Proofs.YtgkpnjnollfdaaaDoor
