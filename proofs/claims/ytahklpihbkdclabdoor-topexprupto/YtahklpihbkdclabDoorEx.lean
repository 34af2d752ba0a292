/- Expressions: plain trees, what they are, and how they lie in memory. -/
import Derived.Test.YtahklpihbkdclabDoorTxt
namespace Go.Proofs.YtahklpihbkdclabDoor
open Go.ChangeShapes Go.WideShapes Go.ChangeAt Go.RowKit

/-- An expression: its kind, its number, its text, those in it. -/
inductive Ex where
  | mk (k n : Int) (s : List UInt8) (a : List Ex)
namespace Ex
def k : Ex → Int | .mk k _ _ _ => k
def n : Ex → Int | .mk _ n _ _ => n
def s : Ex → List UInt8 | .mk _ _ s _ => s
def a : Ex → List Ex | .mk _ _ _ a => a
end Ex
mutual
theorem Ex.ind {P : Ex → Prop} (h : ∀ k n s a, (∀ e ∈ a, P e) → P (.mk k n s a)) : ∀ e, P e
  | .mk k n s a => h k n s a (Ex.indL h a)
theorem Ex.indL {P : Ex → Prop} (h : ∀ k n s a, (∀ e ∈ a, P e) → P (.mk k n s a)) : ∀ (a : List Ex) (e : Ex), e ∈ a → P e
  | [], _, he => absurd he (List.not_mem_nil)
  | x :: r, e, he => (List.mem_cons.1 he).elim (fun q => by rw [q]; exact Ex.ind h x) (fun q => Ex.indL h r e q)
end
/-- The value of an expression whose list is this. -/
def Ex.val (e : Ex) (sv : Value) : Value := .agg #[.int .i64 e.k, .int .i64 e.n, .string (bs e.s), sv]
/-- A list's value, of an expression, as it lies in a world. -/
inductive IsEx (w : World) : Value → Ex → Prop
  | mk (k n : Int) (s : List UInt8) (a : Option Addr) (cap : Nat) (l : List Ex) (b off : Nat) (A : Nat → Value)
      (ha : 0 < l.length → a = some ⟨b, off, none⟩)
      (hc : ∀ i x, l[i]? = some x → w.cell? ⟨b, off + i * 4, none⟩ = some (.int .i64 x.k) ∧ w.cell? ⟨b, off + i * 4 + 1, none⟩ = some (.int .i64 x.n) ∧ w.cell? ⟨b, off + i * 4 + 2, none⟩ = some (.string (bs x.s)) ∧ w.cell? ⟨b, off + i * 4 + 3, none⟩ = some (A i))
      (kids : ∀ i x, l[i]? = some x → IsEx w (A i) x) : IsEx w (.slice a l.length cap) (.mk k n s l)
theorem IsEx.lower {w w' : World} {v : Value} {e : Ex} (h : IsEx w v e) (hb : Below w.heap.size w w') : IsEx w' v e := by
  induction h with
  | mk k n s a cap l b off A ha hc kids ih =>
    refine .mk k n s a cap l b off A ha (fun i x hx => ?_) ih
    obtain ⟨c0, c1, c2, c3⟩ := hc i x hx
    exact ⟨cell_below c0 hb, cell_below c1 hb, cell_below c2 hb, cell_below c3 hb⟩
theorem IsEx.slice {w : World} {v : Value} {e : Ex} (h : IsEx w v e) : ∃ a cap, v = .slice a e.a.length cap := by
  cases h with
  | mk k n s a cap l => exact ⟨a, cap, rfl⟩

/- Sums over an expression. -/
mutual
def Ex.wt : Ex → Nat
  | .mk _ _ s a => 1 + s.length + wtL a
def wtL : List Ex → Nat
  | [] => 0
  | e :: r => e.wt + wtL r
end
mutual
def Ex.cnt : Ex → Nat
  | .mk _ _ _ a => 1 + cntL a
def cntL : List Ex → Nat
  | [] => 0
  | e :: r => e.cnt + cntL r
end
mutual
def Ex.dep : Ex → Nat
  | .mk _ _ _ a => 1 + depL a
def depL : List Ex → Nat
  | [] => 0
  | e :: r => max e.dep (depL r)
end
theorem wtL_append (a b : List Ex) : wtL (a ++ b) = wtL a + wtL b := by
  induction a with
  | nil => simp [wtL]
  | cons x a ih => simp only [List.cons_append, wtL, ih]; omega
theorem cntL_append (a b : List Ex) : cntL (a ++ b) = cntL a + cntL b := by
  induction a with
  | nil => simp [cntL]
  | cons x a ih => simp only [List.cons_append, cntL, ih]; omega
theorem depL_append (a b : List Ex) : depL (a ++ b) = max (depL a) (depL b) := by
  induction a with
  | nil => simp [depL]
  | cons x a ih => simp only [List.cons_append, depL, ih]; omega
theorem take_snoc {α : Type} {l : List α} {i : Nat} {x : α} (hx : l[i]? = some x) : l.take (i + 1) = l.take i ++ [x] := by
  obtain ⟨hi, rfl⟩ := List.getElem?_eq_some_iff.1 hx
  exact List.take_succ_eq_append_getElem hi
theorem wtL_take {l : List Ex} {i : Nat} {x : Ex} (hx : l[i]? = some x) : wtL (l.take (i + 1)) = wtL (l.take i) + x.wt := by rw [take_snoc hx, wtL_append]; simp [wtL]
theorem cntL_take {l : List Ex} {i : Nat} {x : Ex} (hx : l[i]? = some x) : cntL (l.take (i + 1)) = cntL (l.take i) + x.cnt := by rw [take_snoc hx, cntL_append]; simp [cntL]
theorem depL_take {l : List Ex} {i : Nat} {x : Ex} (hx : l[i]? = some x) : depL (l.take (i + 1)) = max (depL (l.take i)) x.dep := by rw [take_snoc hx, depL_append]; simp [depL]
theorem wtL_le (l : List Ex) (i : Nat) : wtL (l.take i) ≤ wtL l := by
  conv => rhs; rw [← List.take_append_drop i l, wtL_append]
  omega
theorem cntL_le (l : List Ex) (i : Nat) : cntL (l.take i) ≤ cntL l := by
  conv => rhs; rw [← List.take_append_drop i l, cntL_append]
  omega
theorem depL_le (l : List Ex) (i : Nat) : depL (l.take i) ≤ depL l := by
  conv => rhs; rw [← List.take_append_drop i l, depL_append]
  omega
theorem wt_kid {l : List Ex} {i : Nat} {x : Ex} (hx : l[i]? = some x) : x.wt ≤ wtL l := by
  have h1 := wtL_take hx
  have h2 := wtL_le l (i + 1)
  omega
theorem cnt_kid {l : List Ex} {i : Nat} {x : Ex} (hx : l[i]? = some x) : x.cnt ≤ cntL l := by
  have h1 := cntL_take hx
  have h2 := cntL_le l (i + 1)
  omega
theorem dep_kid {l : List Ex} {i : Nat} {x : Ex} (hx : l[i]? = some x) : x.dep ≤ depL l := by
  have h1 := depL_take hx
  have h2 := depL_le l (i + 1)
  omega
theorem cnt_pos (e : Ex) : 1 ≤ e.cnt := by cases e; simp only [Ex.cnt]; omega
theorem dep_pos (e : Ex) : 1 ≤ e.dep := by cases e; simp only [Ex.dep]; omega
theorem cnt_wt (e : Ex) : e.cnt ≤ e.wt := by
  refine Ex.ind (P := fun e => e.cnt ≤ e.wt) ?_ e
  intro k n s a ih
  simp only [Ex.cnt, Ex.wt]
  have : cntL a ≤ wtL a := by
    induction a with
    | nil => simp [cntL]
    | cons x a ihl =>
      have h1 := ih x (by simp)
      have h2 := ihl (fun e he => ih e (by simp [he]))
      simp only [cntL, wtL]; omega
  omega
theorem dep_cnt (e : Ex) : e.dep ≤ e.cnt := by
  refine Ex.ind (P := fun e => e.dep ≤ e.cnt) ?_ e
  intro k n s a ih
  simp only [Ex.cnt, Ex.dep]
  have : depL a ≤ cntL a := by
    induction a with
    | nil => simp [depL]
    | cons x a ihl =>
      have h1 := ih x (by simp)
      have h2 := ihl (fun e he => ih e (by simp [he]))
      simp only [cntL, depL]; omega
  omega
theorem len_cntL (a : List Ex) : a.length ≤ cntL a := by
  induction a with
  | nil => simp
  | cons x a ih => have := cnt_pos x; simp only [cntL, List.length_cons]; omega
theorem len_wtL (a : List Ex) : a.length ≤ wtL a := by
  induction a with
  | nil => simp
  | cons x a ih => have := cnt_pos x; have := cnt_wt x; simp only [wtL, List.length_cons]; omega
end Go.Proofs.YtahklpihbkdclabDoor
