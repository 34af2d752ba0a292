/- Own rows and whole blocks side by side, told apart by their types; structs loaded and stored whole. -/
import Derived.Test.YtmgpacenooncjaaGreatDoorBlk
import Derived.Test.YtmgpacenooncjaaGreatDoorOnl
import Derived.Below
import Derived.Laws.Rows
import Derived.Laws.Tables
namespace Go.Proofs.YtmgpacenooncjaaGreatDoor
open Go.ChangeShapes Go.WideShapes Go.ChangeAt Go.RowKit
/-- A row of another type stays, whatever is written into a row. -/
theorem ow_grown {w w' : World} {B B' n n' size size' : Nat} {e e' : TypeId} {u v : Value} {xs xs' : List Value} (h : w.ownsRow B e size v n xs) (hu : w.ownsRow B' e' size' u n' xs') (hne : e ≠ e') (hg : w.grownBy w' u.ownBlock) : w'.ownsRow B e size v n xs := by
  refine ⟨h.1, ?_⟩
  rcases h.2 with h0 | ⟨b, cap, cur, a1, a2, a3, a4⟩
  · exact .inl h0
  · refine .inr ⟨b, cap, cur, a1, a2, (hg.block b (Array.getElem?_eq_some_iff.1 a3).1 ?_).trans a3, a4⟩
    intro hb
    rcases hu.2 with ⟨rfl, _⟩ | ⟨b', cap', cur', rfl, _, c3, _⟩
    · simp [Value.ownBlock] at hb
    · simp [Value.ownBlock] at hb
      subst hb
      rw [a3] at c3
      simp only [Option.some.injEq, Obj.cells.injEq] at c3
      exact hne c3.2.1
/-- A row stays, whatever is written into a block of another type. -/
theorem ow_other {w : World} {B n size g i : Nat} {e t : TypeId} {v x : Value} {xs ys : List Value} (h : w.ownsRow B e size v n xs) (hk : Blk w g t ys) (hne : e ≠ t) : (w.setCell ⟨g, i, none⟩ x).ownsRow B e size v n xs := by
  refine ⟨h.1, ?_⟩
  rcases h.2 with h0 | ⟨b, cap, cur, a1, a2, a3, a4⟩
  · exact .inl h0
  · refine .inr ⟨b, cap, cur, a1, a2, (Below.heap_setCell w ⟨g, i, none⟩ x b ?_).trans a3, a4⟩
    intro hb
    have hb : b = g := hb
    subst hb
    unfold Blk at hk
    rw [a3] at hk
    simp only [Option.some.injEq, Obj.cells.injEq] at hk
    exact hne hk.2.1
theorem ow_low {w : World} {lo base : Nat} {e : TypeId} {size : Nat} {v : Value} {n : Nat} {xs : List Value} (h : w.ownsRow base e size v n xs) (hl : lo ≤ base) : w.ownsRow lo e size v n xs :=
  ⟨h.1, h.2.imp id (fun ⟨g, cap, cur, a, b, c⟩ => ⟨g, cap, cur, a, Nat.le_trans hl b, c⟩)⟩
theorem ow_below {w w' : World} {base : Nat} {e : TypeId} {size : Nat} {v : Value} {n : Nat} {xs : List Value} (h : w.ownsRow base e size v n xs) (hb : Below w.heap.size w w') : w'.ownsRow base e size v n xs := by
  refine h.kept (row := none) ⟨hb.os, hb.tape, hb.output, hb.size, fun k hk _ => hb.block k hk⟩ ?_
  cases v.ownBlock with
  | none => exact .inl rfl
  | some k => exact .inr (by simp)
/-- A block stays, whatever is written into a row of another type. -/
theorem blk_ow {w w' : World} {g B' n' size' : Nat} {t e' : TypeId} {u : Value} {ys xs' : List Value} (h : Blk w g t ys) (hu : w.ownsRow B' e' size' u n' xs') (hne : t ≠ e') (hg : w.grownBy w' u.ownBlock) : Blk w' g t ys := by
  refine (hg.block g h.lt ?_).trans h
  intro hb
  rcases hu.2 with ⟨rfl, _⟩ | ⟨b', cap', cur', rfl, _, c3, _⟩
  · simp [Value.ownBlock] at hb
  · simp [Value.ownBlock] at hb
    subst hb
    unfold Blk at h
    rw [h] at c3
    simp only [Option.some.injEq, Obj.cells.injEq] at c3
    exact hne c3.2.1
/-- A block of another type than one that is written stays. -/
theorem blk_other {w : World} {g g' i : Nat} {t t' : TypeId} {xs ys : List Value} {x : Value} (h : Blk w g t xs) (h' : Blk w g' t' ys) (hne : t ≠ t') : Blk (w.setCell ⟨g', i, none⟩ x) g t xs := by
  refine h.other i x fun e => ?_
  subst e
  unfold Blk at h h'
  rw [h] at h'
  simp only [Option.some.injEq, Obj.cells.injEq] at h'
  exact hne h'.2.1
theorem blk_setRow {w : World} {g : Nat} {t : TypeId} {old : List Value} (h : Blk w g t old) (cs : Array Value) : Blk (w.setRow g cs) g t cs.toList := by
  unfold Blk at h ⊢
  rw [setRow_heap w g _ cs t (0, 0) h]
theorem below_setR {w wr : World} {b : Nat} (h : Below w.heap.size w wr) (hb : w.heap.size ≤ b) (cs : Array Value) : Below w.heap.size w (wr.setRow b cs) :=
  ⟨h.os, h.tape, h.output, Nat.le_trans h.size (by simp [World.setRow]), fun k hk => (setRow_other wr b k cs (by omega)).trans (h.block k hk)⟩
theorem rowLoad {w : World} {g n : Nat} {t : TypeId} {fs : Array Field} {cs : List Value} (hu : Tryz.prog.underlying t = some (.struct fs)) (hs : (Tryz.prog.info? t).map (·.size) = some n) (h : Blk w g t cs) (h2 : cs.length = n) : (Instr.loadAt t (.pointer (some ⟨g, 0, none⟩))).run Tryz.prog w = .ok (.agg cs.toArray) w := by
  simp only [Instr.loadAt, Instr.sureAddr, Sem.run_bind, Sem.run_pure, Result.andThen_ok, run_loadVar_row w g t t cs.toArray (0, 0) _ h hu rfl (by rw [hs]; simp [h2])]
theorem rowStore {w : World} {g n : Nat} {t : TypeId} {old : List Value} (hs : (Tryz.prog.info? t).map (·.size) = some n) (h : Blk w g t old) (cs : Array Value) (h2 : old.length = n ∧ cs.size = n) (h3 : cs.all (·.oneCell') = true) : (Instr.storeAt t (.pointer (some ⟨g, 0, none⟩)) (.agg cs)).run Tryz.prog w = .ok () (w.setRow g cs) := by
  simp only [Instr.storeAt, Instr.sureAddr, Sem.run_bind, Sem.run_pure, Result.andThen_ok, run_storeVar_row w g t t old.toArray cs h (by rw [h2.2]; exact hs) (by simp [h2.1, h2.2]) h3]
theorem wpList_loadAll {w : World} {ops : Array Oper} {rest : List Oper} {o : Oper} {a : Act} {Q : Exit → Act → World → Prop} (hgd : o.guard = none) (t : TypeId) (x : Operand) (ho : o.op = .load t x) (g n : Nat) (fs : Array Field) (cs : List Value) (hx : a.eval x = .pointer (some ⟨g, 0, none⟩))
    (hu : Tryz.prog.underlying t = some (.struct fs)) (hs : (Tryz.prog.info? t).map (·.size) = some n) (hg : Blk w g t cs) (h2 : cs.length = n) (h : wpList Tryz.prog ops Q rest (a.put o.dst (.agg cs.toArray)) w) : wpList Tryz.prog ops Q (o :: rest) a w :=
  wpList_plain hgd fun _ hK => by
    unfold Oper.wp execOp
    simp only [ho, hx, Sem.run_bind, Sem.run_pure, Result.andThen_ok, rowLoad hu hs hg h2]
    exact hK _ _ h
theorem wpList_storeAll {w : World} {ops : Array Oper} {rest : List Oper} {o : Oper} {a : Act} {Q : Exit → Act → World → Prop} (hgd : o.guard = none) (t : TypeId) (x y : Operand) (ho : o.op = .store t x y) (g n : Nat) (old : List Value) (cs : Array Value) (hx : a.eval x = .pointer (some ⟨g, 0, none⟩)) (hy : a.eval y = .agg cs)
    (hs : (Tryz.prog.info? t).map (·.size) = some n) (hg : Blk w g t old) (h2 : old.length = n ∧ cs.size = n) (h3 : cs.all (·.oneCell') = true) (h : wpList Tryz.prog ops Q rest (a.put o.dst undef) (w.setRow g cs)) : wpList Tryz.prog ops Q (o :: rest) a w :=
  wpList_plain hgd fun _ hK => by
    unfold Oper.wp execOp
    simp only [ho, hx, hy, Sem.run_bind, Sem.run_pure, Result.andThen_ok, rowStore hs hg cs h2 h3]
    exact hK _ _ h
end Go.Proofs.YtmgpacenooncjaaGreatDoor
