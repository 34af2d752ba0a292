/- Benches: the pieces of the law BenchSays: its blocks of code, taken out of the translation. -/
import Derived.Test.YtilgiehcpmafgaaB13
import Derived.Deep.LoopGhost
import Derived.Deep.DeepCutAuto
import Derived.Deep.CutBlock
namespace Go.Proofs.Ytilgiehcpmafgaa
open Go.ChangeShapes Go.WideShapes Go.ChangeAt Go.RowKit
open Bn
/-- The block of that number in a piece of code. -/
def findBlock (n : Nat) : Code → Option Code
  | .block k c => if k = n then some (.block k c) else findBlock n c
  | .loop c => findBlock n c
  | .scope c => findBlock n c
  | .seq a b => match findBlock n a with
    | some c => some c
    | none => findBlock n b
  | .cond _ a b => match findBlock n a with
    | some c => some c
    | none => findBlock n b
  | _ => none
/-- The region of that number in a piece of code. -/
def findRegion (n : Nat) : Code → Option Code
  | .region k l b => if k = n then some (.region k l b) else none
  | .block _ c => findRegion n c
  | .loop c => findRegion n c
  | .scope c => findRegion n c
  | .seq a b => match findRegion n a with
    | some c => some c
    | none => findRegion n b
  | .cond _ a b => match findRegion n a with
    | some c => some c
    | none => findRegion n b
  | _ => none
def regionIn (o : Option Code) (n : Nat) : Code := ((o.bind (findRegion n)).getD .skip)
theorem wp_norm {c : Code} {K : Act → World → Prop} {Q0 : Exit → Act → World → Prop} {a : Act} {w : World} (h : c.wp Try.prog (Exit.then K fun _ _ _ => False) a w) : c.wp Try.prog (Exit.then K Q0) a w :=
  wp_mono h fun e a w hq => by
    cases e with
    | normal => exact hq
    | exit id => exact False.elim hq
    | goto l => exact False.elim hq
    | ret => exact False.elim hq
    | panic ch => exact False.elim hq
    | outgrown => exact False.elim hq
def pieceIn (o : Option Code) (n : Nat) : Code := ((o.bind (findBlock n)).getD .skip)
/-- The act is there, at the m-th slot, or nowhere. -/
structure SwAt (W S : Nat) (L : List Sl) (ta tb : Int) (m : Nat) : Prop where
  ix : idx (isPlace ta tb) L = m
  lt : m < L.length
  sm : m < 12
structure SwF (w : World) (A B n13 n14 n15 : Nat) (ta tb tj ti : Int) (fo : Bool) : Prop where
  h13 : B + 2 ≤ n13
  h14 : B + 2 ≤ n14
  h15 : B + 2 ≤ n15
  hAB : A ≤ B
  c1 : w.cell? ⟨n13, 1, none⟩ = some (.int .i64 ta)
  c2 : w.cell? ⟨n13, 2, none⟩ = some (.int .i64 tb)
  p0 : w.cell? ⟨n14, 0, none⟩ = some (.int .i64 ta)
  p1 : w.cell? ⟨n14, 1, none⟩ = some (.int .i64 tb)
  t0 : w.cell? ⟨n15, 0, none⟩ = some (.int .i64 tj)
  t1 : w.cell? ⟨n15, 1, none⟩ = some (.bool fo)
  t2 : w.cell? ⟨n15, 2, none⟩ = some (.int .i64 ti)
  jp : 0 ≤ tj
/-- No job of a slot is below 0. -/
def JobsOk (L : List Sl) : Prop := ∀ s ∈ L, 0 ≤ s.job
theorem JobsOk.set {L : List Sl} (h : JobsOk L) (k : Nat) (s : Sl) (hs : 0 ≤ s.job) : JobsOk (L.set k s) := fun x hx => by
  rcases List.mem_or_eq_of_mem_set hx with h1 | h1
  · exact h x h1
  · rw [h1]; exact hs
theorem Win.mono {lo hi lo' hi' : Nat} {w w' : World} (h : Win lo hi w w') (h1 : lo' ≤ lo) (h2 : hi ≤ hi') : Win lo' hi' w w' := ⟨h.os, h.tape, h.output, h.size, fun k hk hd => h.block k hk (by omega)⟩
theorem Arr.of {t1 t2 : TypeId} {w w' : World} {lo hi G : Nat} {L : List Sl} {O I : List Value} (h : Arr t1 t2 w G L O I) (k : Win lo hi w w') (hG : G + 1 < lo) : Arr t1 t2 w' G L O I :=
  { h with
    on := (k.block G h.on.lt (.inl (by omega))).trans h.on
    tk := (k.block (G + 1) h.tk.lt (.inl (by omega))).trans h.tk }
theorem Win.up {lo hi lo' hi' : Nat} {w w' : World} (h : Win lo hi w w') (h1 : w.heap.size ≤ lo) : Win lo' hi' w w' := ⟨h.os, h.tape, h.output, h.size, fun k hk _ => h.block k hk (.inl (by omega))⟩
theorem Arr.setO {t1 t2 : TypeId} {w : World} {G : Nat} {L : List Sl} {O I : List Value} (h : Arr t1 t2 w G L O I) {m : Nat} (hm : m < L.length) : w.cell? ⟨G, m, none⟩ = some (.bool L[m].taken) ∧ w.frozen? ⟨G, m, none⟩ = false := ⟨h.cellOn hm, h.on.frozen _⟩
theorem Arr.cellI {t1 t2 : TypeId} {w : World} {G : Nat} {L : List Sl} {O I : List Value} (h : Arr t1 t2 w G L O I) {k i : Nat} (hk : k < 12) (hi : i < 3) : ∃ v, w.cell? ⟨G + 1, k * 3 + i, none⟩ = some v ∧ w.frozen? ⟨G + 1, k * 3 + i, none⟩ = false := by
  have hl : k * 3 + i < I.length := by rw [h.il]; omega
  exact ⟨I[k * 3 + i], (h.tk.cell _).trans (List.getElem?_eq_getElem hl), h.tk.frozen _⟩
end Go.Proofs.Ytilgiehcpmafgaa
