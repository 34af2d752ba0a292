/- A slice of pairs that a call itself owns: copied, grown by append of whole slices. -/
import Derived.Test.YtmgpacenooncjaaGreatDoorPpMem
import Derived.OwnWalk
import Derived.Laws.CopyRow
import Derived.Outline
namespace Go.Proofs.YtmgpacenooncjaaGreatDoor.Pp
open Go.ChangeShapes Go.WideShapes Go.ChangeAt Go.RowKit
theorem addr_add (b off j : Nat) : (⟨b, off, none⟩ : Addr).add j = ⟨b, off + j, none⟩ := by
  unfold Addr.add
  split
  · rename_i h; subst h; rfl
  · rfl
theorem cellsP_one (l : List (ByteArray × Int)) : ∀ u ∈ cellsP l, u.oneCell' = true := by
  intro u hu
  unfold cellsP at hu
  rw [List.mem_flatMap] at hu
  obtain ⟨p, _, hp⟩ := hu
  simp only [List.mem_cons, List.not_mem_nil, or_false] at hp
  rcases hp with rfl | rfl <;> rfl
theorem cellsP_src {w : World} {ad : Addr} {n cap : Nat} {l : List (ByteArray × Int)} (h : IsPairs w (.slice (some ad) n cap) l) : ∀ j u, (cellsP l)[j]? = some u → w.cell? (ad.add j) = some u := by
  intro j u hu
  have hj : j < (cellsP l).length := (List.getElem?_eq_some_iff.1 hu).1
  rw [cellsP_length] at hj
  obtain ⟨a, c, e, hc⟩ := h
  injection e with e1 e2 e3
  obtain ⟨b, off, ea, c0, c1⟩ := hc (j / 2) (by omega)
  rw [ea] at e1
  injection e1 with e1
  subst e1
  obtain ⟨k0, k1⟩ := cellsP_at l (j / 2) (by omega)
  rw [addr_add]
  rcases Nat.mod_two_eq_zero_or_one j with hm | hm
  · have ej : j / 2 * 2 = j := by omega
    rw [ej] at c0 k0
    rw [k0] at hu
    rw [c0]; exact hu
  · have ej : j / 2 * 2 + 1 = j := by omega
    rw [show off + j / 2 * 2 + 1 = off + j by omega] at c1
    rw [ej] at k1
    rw [k1] at hu
    rw [c1]; exact hu
theorem pairInfo : (Tryz.prog.info? 67).map (fun i => (i.zero, i.size, i.bytes)) = some (some (.agg #[.string ⟨#[]⟩, .int .i64 0]), 2, 24) := by kernel_rfl
theorem pairSize : (Tryz.prog.info? 67).map (·.size) = some 2 := by kernel_rfl
theorem only_setRow (w : World) (g : Nat) (cs : Array Value) : Only g w (w.setRow g cs) :=
  ⟨rfl, rfl, rfl, by simp [World.setRow], fun k _ hne => setRow_other w g k cs (fun e => hne (by rw [e]))⟩
set_option maxRecDepth 100000 in
theorem copy_pairs {w : World} {g n cap : Nat} {ao : Option Addr} {cur : Array Value} {l : List (ByteArray × Int)} (hg : w.heap[g]? = some (.cells cur 67 (0, 0))) (hn : n = l.length) (hsz : cur.size = n * 2) (h : IsPairs w (.slice ao n cap) l) :
    ∃ w2, (∀ ty, (Builtin.copy_ #[42, 42] ty #[.slice (some ⟨g, 0, none⟩) n n, .slice ao n cap]).run Tryz.prog w = .ok (goInt n) w2) ∧ Row g l w2 ∧ Only g w w2 := by
  cases hq : Tryz.prog.info? 67 with
  | none => have := pairSize; rw [hq] at this; cases this
  | some i =>
    have hi : i.size = 2 := by have := pairSize; rw [hq] at this; simpa using this
    cases ao with
    | none =>
      have hl : l = [] := by
        cases l with
        | nil => rfl
        | cons p l =>
          obtain ⟨a, c, e, hc⟩ := h
          injection e with e1
          obtain ⟨b, off, ea, _⟩ := hc 0 (by simp)
          rw [ea] at e1; cases e1
      subst hl
      refine ⟨w, fun ty => ?_, ⟨cur, hg, rfl⟩, Only.refl _ _⟩
      subst hn
      simp [Builtin.copy_, run_underlying Tryz.underlying42, Builtin.lenOf, Builtin.firstCells, sizeOf, typeInfo, hq, storeCells]
    | some ad =>
      have hl := run_loadCells_list (P := Tryz.prog) w ad (cellsP l) (cellsP_src h)
      have hlen : (cellsP l).length = n * 2 := by rw [cellsP_length, hn]
      have hst := run_storeCells_at Tryz.prog g 0 67 (cellsP l) 0 cur w hg (by omega) (cellsP_one l)
      refine ⟨w.setRow g (cur.toList.take (0 + 0) ++ cellsP l ++ cur.toList.drop (0 + 0 + (cellsP l).length)).toArray, fun ty => ?_, ⟨_, setRow_heap w g cur _ _ _ hg, ?_⟩, only_setRow _ _ _⟩
      · rw [hlen] at hl
        simp [Builtin.copy_, run_underlying Tryz.underlying42, Builtin.lenOf, Builtin.firstCells, sizeOf, typeInfo, hq, hi, hl, hst]
      · rw [← hn]
        simp [hlen]
theorem Row.isPairs {g n cap : Nat} {l : List (ByteArray × Int)} {w : World} (h : Row g l w) (hn : n = l.length) : IsPairs w (.slice (some ⟨g, 0, none⟩) n cap) l := by
  subst hn
  refine ⟨_, _, rfl, fun i hi => ⟨g, 0, rfl, ?_⟩⟩
  simp only [Nat.zero_add]
  exact h.at i hi
theorem block_lt {w : World} {a : Addr} {v : Value} (h : w.cell? a = some v) : a.block < w.heap.size := by
  cases a with
  | mk b off spot =>
    rcases Nat.lt_or_ge b w.heap.size with hb | hb
    · exact hb
    · simp [World.cell?, Array.getElem?_eq_none hb] at h
theorem isPairs_below {w w' : World} {v : Value} {l : List (ByteArray × Int)} (h : IsPairs w v l) (hb : Below w.heap.size w w') : IsPairs w' v l := by
  obtain ⟨a, cap, e, hc⟩ := h
  refine ⟨a, cap, e, fun i hi => ?_⟩
  obtain ⟨b, off, ea, c0, c1⟩ := hc i hi
  exact ⟨b, off, ea, (hb.cell (block_lt c0)).trans c0, (hb.cell (block_lt c1)).trans c1⟩
theorem cellsP_append (A B : List (ByteArray × Int)) : cellsP (A ++ B) = cellsP A ++ cellsP B := by unfold cellsP; simp
theorem run_append_nilx {P : Program} {w : World} (base : Nat) (t ty e : TypeId) (i : TypeInfo) (size c : Nat) (ht : P.underlying t = some (.slice e)) (hi : P.info? e = some i)
    (v : Value) (n : Nat) (xs : List Value) (hown : w.ownsRow base e size v n xs) :
    (Builtin.append_ #[t, t] ty #[v, .slice none 0 c]).run P w = .ok v w := by
  rcases hown.2 with ⟨rfl, rfl⟩ | ⟨g, cap, cur, rfl, _, _, hnc, _⟩
  · simp [Builtin.append_, run_underlying ht, sizeOf, typeInfo, hi, Builtin.lenOf, Builtin.firstCells]
  · simp [Builtin.append_, run_underlying ht, sizeOf, typeInfo, hi, Builtin.lenOf, Builtin.firstCells, hnc, storeCells]
theorem isPairs_none {w : World} {n cap : Nat} {l : List (ByteArray × Int)} (h : IsPairs w (.slice none n cap) l) : l = [] ∧ n = 0 := by
  obtain ⟨a, c, e, hc⟩ := h
  injection e with e1 e2 e3
  cases l with
  | nil => exact ⟨rfl, by rw [e2]; rfl⟩
  | cons p l =>
    obtain ⟨b, off, ea, _⟩ := hc 0 (by simp)
    rw [ea] at e1; cases e1
theorem wpList_append_pairs {w w0 : World} {ops : Array Oper} {rest : List Oper} {o : Oper} {a : Act} {Q : Exit → Act → World → Prop} (hgd : o.guard = none) (s x : Operand)
    (ho : o.op = .call { callee := .builtin .append, args := #[s, x], argTypes := #[42, 42] })
    (v : Value) (A : List (ByteArray × Int)) (hs : a.eval s = v) (hown : w.ownsRow w0.heap.size 67 2 v A.length (cellsP A))
    (xv : Value) (B : List (ByteArray × Int)) (hx : a.eval x = xv) (hB : IsPairs w xv B) (hlen : A.length + B.length ≤ 1000000) (hb : Below w0.heap.size w0 w)
    (h : ∀ v' w', w'.ownsRow w0.heap.size 67 2 v' (A ++ B).length (cellsP (A ++ B)) → Below w0.heap.size w0 w' → wpList Tryz.prog ops Q rest (a.put o.dst v') w') : wpList Tryz.prog ops Q (o :: rest) a w := by
  obtain ⟨i0, hi, hz0, hz1, hz2⟩ := info_parts pairInfo
  have hB' := hB
  obtain ⟨ao, c, rfl, _⟩ := hB
  cases ao with
  | none =>
    obtain ⟨rfl, _⟩ := isPairs_none hB'
    refine wpList_plain hgd fun K hK' => ?_
    have hrun := run_append_nilx (P := Tryz.prog) w0.heap.size 42 o.type 67 i0 2 c Tryz.underlying42 hi v _ _ hown
    have hx' : a.eval x = .slice none 0 c := hx
    unfold Oper.wp
    simp [execOp, ho, resolve, invoke, builtin, hs, hx', hrun, Result.andThen]
    exact hK' _ _ (h v w (by rw [List.append_nil]; exact hown) hb)
  | some ad =>
    refine wpList_append_own w hgd s x 42 ho w0.heap.size 67 i0 (.agg #[.string ⟨#[]⟩, .int .i64 0]) 2 24 Tryz.underlying42 hi hz0 hz1 hz2 rfl (by decide) v _ _ hs hown ad B.length c (cellsP B) hx (cellsP_length B) (cellsP_src hB') (cellsP_one B) (by unfold maxLen; omega) (by omega) hb.size ?_
    intro v' w' ho' hg' _
    refine h v' w' ?_ (hb.grown hg' hb.size (fun k hk => (hown.lt k hk).1))
    rw [List.length_append, cellsP_append]
    exact ho'
theorem owns_nil (w : World) (base : Nat) : w.ownsRow base 67 2 (.slice none 0 0) ([] : List (ByteArray × Int)).length (cellsP []) := ⟨rfl, .inl ⟨rfl, rfl⟩⟩
theorem owns_row {w : World} {base : Nat} {v : Value} {L : List (ByteArray × Int)} (h : w.ownsRow base 67 2 v L.length (cellsP L)) :
    (v = .slice none 0 0 ∧ L = []) ∨ ∃ g cap, v = .slice (some ⟨g, 0, none⟩) L.length cap ∧ base ≤ g ∧ Row g L w := by
  rcases h.2 with ⟨h1, h2⟩ | ⟨g, cap, cur, h1, h2, h3, _, _, _, h7⟩
  · exact .inl ⟨h1, List.eq_nil_of_length_eq_zero h2⟩
  · exact .inr ⟨g, cap, h1, h2, cur, h3, h7⟩
theorem isPairs_zero (w : World) (a : Option Addr) (cap : Nat) : IsPairs w (.slice a 0 cap) [] := ⟨a, cap, rfl, fun i hi => absurd hi (by simp)⟩
theorem owns_isPairs {w : World} {base : Nat} {v : Value} {L : List (ByteArray × Int)} (h : w.ownsRow base 67 2 v L.length (cellsP L)) : IsPairs w v L := by
  rcases owns_row h with ⟨rfl, rfl⟩ | ⟨g, cap, rfl, _, hr⟩
  · exact isPairs_zero _ _ _
  · exact hr.isPairs rfl
end Go.Proofs.YtmgpacenooncjaaGreatDoor.Pp
