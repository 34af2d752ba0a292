/- Benches: the law's own two arrays. -/
import Derived.Test.YtilgiehcpmafgaaB12
namespace Go.Proofs.Ytilgiehcpmafgaa
open Go.ChangeShapes Go.WideShapes Go.ChangeAt Go.RowKit
open Bn
/-- Which slots are taken, and by which tasks, in two blocks of the law's own. -/
structure Arr (t1 t2 : TypeId) (w : World) (G : Nat) (L : List Sl) (O I : List Value) : Prop where
  on : Blk w G t1 O
  tk : Blk w (G + 1) t2 I
  ll : L.length ≤ 12
  ol : O.length = 12
  il : I.length = 36
  os : ∀ k (h : k < L.length), O[k]? = some (.bool L[k].taken)
  ts : ∀ k (h : k < L.length), L[k].taken = true → I[k * 3]? = some (.int .i64 L[k].job) ∧ I[k * 3 + 1]? = some (.bool L[k].fold) ∧ I[k * 3 + 2]? = some (.int .i64 L[k].index)
theorem Arr.blw {t1 t2 : TypeId} {w w' : World} {G : Nat} {L : List Sl} {O I : List Value} (h : Arr t1 t2 w G L O I) (hb : Below w.heap.size w w') : Arr t1 t2 w' G L O I :=
  { h with
    on := h.on.blw hb
    tk := h.tk.blw hb }
theorem Arr.win {t1 t2 : TypeId} {w w' : World} {lo hi G : Nat} {L : List Sl} {O I : List Value} (h : Arr t1 t2 w G L O I) (k : Win lo hi w w') (hG : hi ≤ G) : Arr t1 t2 w' G L O I :=
  { h with
    on := (k.block G h.on.lt (.inr hG)).trans h.on
    tk := (k.block (G + 1) h.tk.lt (.inr (Nat.le_succ_of_le hG))).trans h.tk }
theorem Arr.cellOn {t1 t2 : TypeId} {w : World} {G : Nat} {L : List Sl} {O I : List Value} (h : Arr t1 t2 w G L O I) {k : Nat} (hk : k < L.length) : w.cell? ⟨G, k, none⟩ = some (.bool L[k].taken) := (h.on.cell k).trans (h.os k hk)
theorem Arr.putAt {t1 t2 : TypeId} {w : World} {G : Nat} {L : List Sl} {O I : List Value} (h : Arr t1 t2 w G L O I) {k : Nat} (hk : k < L.length) (j i : Int) (f : Bool) :
    Arr t1 t2 ((((w.setCell ⟨G, k, none⟩ (.bool true)).setCell ⟨G + 1, k * 3, none⟩ (.int .i64 j)).setCell ⟨G + 1, k * 3 + 1, none⟩ (.bool f)).setCell ⟨G + 1, k * 3 + 2, none⟩ (.int .i64 i)) G (L.set k (L[k].put j f i)) (O.set k (.bool true)) (((I.set (k * 3) (.int .i64 j)).set (k * 3 + 1) (.bool f)).set (k * 3 + 2) (.int .i64 i)) := by
  have hl := h.ll
  have n1 : G ≠ G + 1 := by omega
  have n2 : G + 1 ≠ G := by omega
  refine ⟨(((h.on.set k _).other _ _ n1).other _ _ n1).other _ _ n1, (((h.tk.other _ _ n2).set _ _).set _ _).set _ _, by rw [List.length_set]; exact hl, by rw [List.length_set]; exact h.ol, by rw [List.length_set, List.length_set, List.length_set]; exact h.il, ?_, ?_⟩
  · intro m hm
    have hm' : m < L.length := by rw [List.length_set] at hm; exact hm
    by_cases e : m = k
    · subst e
      rw [List.getElem_set_self, List.getElem?_set_self (by rw [h.ol]; omega)]
      rfl
    · rw [List.getElem_set_ne (fun e' => e e'.symm), List.getElem?_set_ne (fun e' => e e'.symm)]
      exact h.os m hm'
  · intro m hm ht
    have hm' : m < L.length := by rw [List.length_set] at hm; exact hm
    by_cases e : m = k
    · subst e
      rw [List.getElem_set_self]
      refine ⟨?_, ?_, ?_⟩
      · rw [List.getElem?_set_ne (by omega), List.getElem?_set_ne (by omega), List.getElem?_set_self (by rw [h.il]; omega)]; rfl
      · rw [List.getElem?_set_ne (by omega), List.getElem?_set_self (by rw [List.length_set, h.il]; omega)]; rfl
      · rw [List.getElem?_set_self (by rw [List.length_set, List.length_set, h.il]; omega)]; rfl
    · rw [List.getElem_set_ne (fun e' => e e'.symm)] at ht ⊢
      have h3 := h.ts m hm' ht
      refine ⟨?_, ?_, ?_⟩
      · rw [List.getElem?_set_ne (by omega), List.getElem?_set_ne (by omega), List.getElem?_set_ne (by omega)]; exact h3.1
      · rw [List.getElem?_set_ne (by omega), List.getElem?_set_ne (by omega), List.getElem?_set_ne (by omega)]; exact h3.2.1
      · rw [List.getElem?_set_ne (by omega), List.getElem?_set_ne (by omega), List.getElem?_set_ne (by omega)]; exact h3.2.2
theorem Arr.freeAt {t1 t2 : TypeId} {w : World} {G : Nat} {L : List Sl} {O I : List Value} (h : Arr t1 t2 w G L O I) {k : Nat} (hk : k < L.length) :
    Arr t1 t2 (w.setCell ⟨G, k, none⟩ (.bool false)) G (L.set k L[k].free) (O.set k (.bool false)) I := by
  have hl := h.ll
  have n2 : G + 1 ≠ G := by omega
  refine ⟨h.on.set k _, h.tk.other _ _ n2, by rw [List.length_set]; exact hl, by rw [List.length_set]; exact h.ol, h.il, ?_, ?_⟩
  · intro m hm
    have hm' : m < L.length := by rw [List.length_set] at hm; exact hm
    by_cases e : m = k
    · subst e
      rw [List.getElem_set_self, List.getElem?_set_self (by rw [h.ol]; omega)]
      rfl
    · rw [List.getElem_set_ne (fun e' => e e'.symm), List.getElem?_set_ne (fun e' => e e'.symm)]
      exact h.os m hm'
  · intro m hm ht
    have hm' : m < L.length := by rw [List.length_set] at hm; exact hm
    by_cases e : m = k
    · subst e
      rw [List.getElem_set_self] at ht
      exact absurd (show false = true from ht) (by decide)
    · rw [List.getElem_set_ne (fun e' => e e'.symm)] at ht ⊢
      exact h.ts m hm' ht
end Go.Proofs.Ytilgiehcpmafgaa
