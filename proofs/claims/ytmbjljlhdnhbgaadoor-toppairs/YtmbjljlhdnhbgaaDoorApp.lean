/- A slice of pairs that a call itself grows by append of whole slices. -/
import Derived.Test.YtmbjljlhdnhbgaaDoorSort
namespace Go.Proofs.YtmbjljlhdnhbgaaDoor
open Go.ChangeShapes Go.WideShapes Go.ChangeAt Go.RowKit
open Stable
theorem cellsP_append (A B : List (ByteArray × Int)) : cellsP (A ++ B) = cellsP A ++ cellsP B := by unfold cellsP; simp
theorem run_append_nilx {P : Program} {w : World} (base : Nat) (t ty e : TypeId) (i : TypeInfo) (size c : Nat) (ht : P.underlying t = some (.slice e)) (hi : P.info? e = some i)
    (v : Value) (n : Nat) (xs : List Value) (hown : w.ownsRow base e size v n xs) :
    (Builtin.append_ #[t, t] ty #[v, .slice none 0 c]).run P w = .ok v w := by
  rcases hown.2 with ⟨rfl, rfl⟩ | ⟨g, cap, cur, rfl, _, _, hnc, _⟩
  · simp [Builtin.append_, run_underlying ht, sizeOf, typeInfo, hi, Builtin.lenOf, Builtin.firstCells]
  · simp [Builtin.append_, run_underlying ht, sizeOf, typeInfo, hi, Builtin.lenOf, Builtin.firstCells, hnc, storeCells]
theorem isPairs_none {w : World} {n cap : Nat} {l : List (ByteArray × Int)} (h : IsPairs w (.slice none n cap) l) : l = [] ∧ n = 0 := by
  obtain ⟨a, c, e, hc⟩ := h
  injection e with e1 e2 e3
  cases l with
  | nil => exact ⟨rfl, by rw [e2]; rfl⟩
  | cons p l =>
    obtain ⟨b, off, ea, _⟩ := hc 0 (by simp)
    rw [ea] at e1; cases e1
theorem wpList_append_pairs {w w0 : World} {ops : Array Oper} {rest : List Oper} {o : Oper} {a : Act} {Q : Exit → Act → World → Prop} (hgd : o.guard = none) (s x : Operand)
    (ho : o.op = .call { callee := .builtin .append, args := #[s, x], argTypes := #[31, 31] })
    (v : Value) (A : List (ByteArray × Int)) (hs : a.eval s = v) (hown : w.ownsRow w0.heap.size 35 2 v A.length (cellsP A))
    (xv : Value) (B : List (ByteArray × Int)) (hx : a.eval x = xv) (hB : IsPairs w xv B) (hlen : A.length + B.length ≤ 1000000) (hb : Below w0.heap.size w0 w)
    (h : ∀ v' w', w'.ownsRow w0.heap.size 35 2 v' (A ++ B).length (cellsP (A ++ B)) → Below w0.heap.size w0 w' → wpList Tryd.prog ops Q rest (a.put o.dst v') w') : wpList Tryd.prog ops Q (o :: rest) a w := by
  obtain ⟨i0, hi, hz0, hz1, hz2⟩ := info_parts pairInfo
  have hB' := hB
  obtain ⟨ao, c, rfl, _⟩ := hB
  cases ao with
  | none =>
    obtain ⟨rfl, _⟩ := isPairs_none hB'
    refine wpList_plain hgd fun K hK' => ?_
    have hrun := run_append_nilx (P := Tryd.prog) w0.heap.size 31 o.type 35 i0 2 c Tryd.underlying31 hi v _ _ hown
    have hx' : a.eval x = .slice none 0 c := hx
    unfold Oper.wp
    simp [execOp, ho, resolve, invoke, builtin, hs, hx', hrun, Result.andThen]
    exact hK' _ _ (h v w (by rw [List.append_nil]; exact hown) hb)
  | some ad =>
    refine wpList_append_own w hgd s x 31 ho w0.heap.size 35 i0 (.agg #[.string ⟨#[]⟩, .int .i64 0]) 2 24 Tryd.underlying31 hi hz0 hz1 hz2 rfl (by decide) v _ _ hs hown ad B.length c (cellsP B) hx (cellsP_length B) (cellsP_src hB') (cellsP_one B) (by unfold maxLen; omega) (by omega) hb.size ?_
    intro v' w' ho' hg' _
    refine h v' w' ?_ (hb.grown hg' hb.size (fun k hk => (hown.lt k hk).1))
    rw [List.length_append, cellsP_append]
    exact ho'
theorem owns_nil (w : World) (base : Nat) : w.ownsRow base 35 2 (.slice none 0 0) ([] : List (ByteArray × Int)).length (cellsP []) := ⟨rfl, .inl ⟨rfl, rfl⟩⟩
theorem owns_row {w : World} {base : Nat} {v : Value} {L : List (ByteArray × Int)} (h : w.ownsRow base 35 2 v L.length (cellsP L)) :
    (v = .slice none 0 0 ∧ L = []) ∨ ∃ g cap, v = .slice (some ⟨g, 0, none⟩) L.length cap ∧ base ≤ g ∧ Row g L w := by
  rcases h.2 with ⟨h1, h2⟩ | ⟨g, cap, cur, h1, h2, h3, _, _, _, h7⟩
  · exact .inl ⟨h1, List.eq_nil_of_length_eq_zero h2⟩
  · exact .inr ⟨g, cap, h1, h2, cur, h3, h7⟩
theorem isPairs_zero (w : World) (a : Option Addr) (cap : Nat) : IsPairs w (.slice a 0 cap) [] := ⟨a, cap, rfl, fun i hi => absurd hi (by simp)⟩
theorem owns_isPairs {w : World} {base : Nat} {v : Value} {L : List (ByteArray × Int)} (h : w.ownsRow base 35 2 v L.length (cellsP L)) : IsPairs w v L := by
  rcases owns_row h with ⟨rfl, rfl⟩ | ⟨g, cap, rfl, _, hr⟩
  · exact isPairs_zero _ _ _
  · exact hr.isPairs rfl
end Go.Proofs.YtmbjljlhdnhbgaaDoor
