/- Journals: the walk of Parse. -/
import Derived.Test.YtifbjngkdifenaaDoorJ6
import Derived.Deep.LoopGhost
namespace Go.Proofs.YtifbjngkdifenaaDoor
open Go.ChangeShapes Go.WideShapes Go.ChangeAt Go.RowKit
open Num
theorem oneL_len {s r : List UInt8} {e : Ent} (h : oneL s = some (e, r)) : r.length < s.length := by
  unfold oneL at h
  have l1 := cutAt_le 10 s
  split at h
  · cases h
  · split at h
    · cases h
    · split at h
      · cases h
      · split at h
        · cases h
        · split at h
          · cases h
          · split at h
            · cases h
            · rename_i hc
              split at h
              · rename_i hd
                simp only [Option.some.injEq, Prod.mk.injEq] at h
                obtain ⟨_, rfl⟩ := h
                have h2 := (cutL_len hc).2
                rename_i r' _
                cases r' with
                | nil => cases hd
                | cons x r' =>
                  simp only [List.drop_succ_cons, List.drop_zero, List.length_cons] at h2 ⊢
                  omega
              · cases h
/-- Entries, one behind the other, at most so many. -/
def parF : Nat → List UInt8 → List Ent
  | 0, _ => []
  | n + 1, s => match oneL s with
    | none => []
    | some (e, r) => e :: parF n r
theorem parF_more : ∀ (n : Nat) (s : List UInt8), s.length < n → ∀ m, n ≤ m → parF m s = parF n s := by
  intro n
  induction n with
  | zero => intro s h; omega
  | succ n ih =>
    intro s h m hm
    obtain ⟨k, rfl⟩ : ∃ k, m = k + 1 := ⟨m - 1, by omega⟩
    simp only [parF]
    cases ho : oneL s with
    | none => rfl
    | some p =>
      obtain ⟨e, r⟩ := p
      have hl := oneL_len ho
      simp only
      rw [ih r (by omega) k (by omega)]
/-- A journal's entries. -/
def parL (s : List UInt8) : List Ent := parF (s.length + 1) s
theorem parL_none {s : List UInt8} (h : oneL s = none) : parL s = [] := by unfold parL; simp only [parF, h]
theorem parL_some {s r : List UInt8} {e : Ent} (h : oneL s = some (e, r)) : parL s = e :: parL r := by
  have hl := oneL_len h
  unfold parL
  simp only [parF, h]
  rw [parF_more (r.length + 1) r (Nat.lt_succ_self _) s.length (by omega)]
  rfl
/-- An entry, and where its rows lie. -/
structure EV where
  e : Ent
  vn : Value
  vt : Value
def cellsE (L : List EV) : List Value := L.flatMap fun x => [.string (bs x.e.kind), x.vn, x.vt]
theorem cellsE_append (A B : List EV) : cellsE (A ++ B) = cellsE A ++ cellsE B := by simp [cellsE]
theorem cellsE_length (L : List EV) : (cellsE L).length = L.length * 3 := by
  induction L with
  | nil => rfl
  | cons x L ih =>
    unfold cellsE at ih ⊢
    rw [List.flatMap_cons, List.length_append, ih]
    simp only [List.length_cons, List.length_nil]
    omega
def Good (B : Nat) (w : World) (x : EV) : Prop := w.ownsRow B 3 1 x.vn x.e.n.length (cellsI x.e.n) ∧ w.ownsRow B 9 1 x.vt x.e.texts.length (strs x.e.texts)
theorem Good.below {B : Nat} {w w' : World} {x : EV} (h : Good B w x) (hb : Below w.heap.size w w') : Good B w' x := ⟨owns_below h.1 hb, owns_below h.2 hb⟩
/-- A row of another type stays, whatever is written into a row. -/
theorem owns_grown {w w' : World} {B B' n n' size size' : Nat} {e e' : TypeId} {u v : Value} {xs xs' : List Value} (h : w.ownsRow B e size v n xs) (hu : w.ownsRow B' e' size' u n' xs') (hne : e ≠ e') (hg : w.grownBy w' u.ownBlock) : w'.ownsRow B e size v n xs := by
  refine ⟨h.1, ?_⟩
  rcases h.2 with h0 | ⟨b, cap, cur, a1, a2, a3, a4⟩
  · exact .inl h0
  · refine .inr ⟨b, cap, cur, a1, a2, (hg.block b (Array.getElem?_eq_some_iff.1 a3).1 ?_).trans a3, a4⟩
    intro hb
    rcases hu.2 with ⟨rfl, _⟩ | ⟨b', cap', cur', rfl, _, c3, _⟩
    · simp [Value.ownBlock] at hb
    · simp [Value.ownBlock] at hb
      subst hb
      rw [a3] at c3
      simp only [Option.some.injEq, Obj.cells.injEq] at c3
      exact hne c3.2.1
theorem Good.grown {B B' n' size' : Nat} {w w' : World} {x : EV} {u : Value} {xs' : List Value} (h : Good B w x) (hu : w.ownsRow B' 25 size' u n' xs') (hg : w.grownBy w' u.ownBlock) : Good B w' x := ⟨owns_grown h.1 hu (by decide) hg, owns_grown h.2 hu (by decide) hg⟩
theorem owns_other {w : World} {B n size g i : Nat} {e t : TypeId} {v x : Value} {xs ys : List Value} (h : w.ownsRow B e size v n xs) (hk : Blk w g t ys) (hne : e ≠ t) : (w.setCell ⟨g, i, none⟩ x).ownsRow B e size v n xs := by
  refine ⟨h.1, ?_⟩
  rcases h.2 with h0 | ⟨b, cap, cur, a1, a2, a3, a4⟩
  · exact .inl h0
  · refine .inr ⟨b, cap, cur, a1, a2, (Below.heap_setCell w ⟨g, i, none⟩ x b ?_).trans a3, a4⟩
    intro hb
    have hb : b = g := hb
    subst hb
    unfold Blk at hk
    rw [a3] at hk
    simp only [Option.some.injEq, Obj.cells.injEq] at hk
    exact hne hk.2.1
theorem Good.store {B g i : Nat} {w : World} {x : EV} {u : Value} {ys : List Value} (h : Good B w x) (hk : Blk w g 25 ys) : Good B (w.setCell ⟨g, i, none⟩ u) x := ⟨owns_other h.1 hk (by decide), owns_other h.2 hk (by decide)⟩
end Go.Proofs.YtifbjngkdifenaaDoor
