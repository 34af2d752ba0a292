/- Expressions: plain trees, what they are, and how they lie in memory. -/
import Derived.Test.YtmgpacenooncjaaGreatDoorTxt
namespace Go.Proofs.YtmgpacenooncjaaGreatDoor
open Go.ChangeShapes Go.WideShapes Go.ChangeAt Go.RowKit

/-- An expression: its kind, its number, its text, those in it. -/
structure Ex where
  fk : Int
  fn : Int
  fs : List UInt8
  fa : List Ex
namespace Ex
def k : Ex → Int | .mk k _ _ _ => k
def n : Ex → Int | .mk _ n _ _ => n
def s : Ex → List UInt8 | .mk _ _ s _ => s
def a : Ex → List Ex | .mk _ _ _ a => a
end Ex
theorem Ex.ind {P : Ex → Prop} (h : ∀ k n s a, (∀ e ∈ a, P e) → P (.mk k n s a)) (e : Ex) : P e :=
  Ex.rec (motive_1 := P) (motive_2 := fun a => ∀ e ∈ a, P e) (fun k n s a ih => h k n s a ih) (fun _ he => absurd he List.not_mem_nil)
    (fun x r hx hr e he => (List.mem_cons.1 he).elim (fun q => by rw [q]; exact hx) (fun q => hr e q)) e
/-- The value of an expression whose list is this. -/
def Ex.val (e : Ex) (sv : Value) : Value := .agg #[.int .i64 e.k, .int .i64 e.n, .string (bs e.s), sv]
/-- A list's value, of an expression, as it lies in a world: so deep at most. -/
def IsExN (w : World) : Nat → Value → Ex → Prop
  | 0, _, _ => False
  | d + 1, v, e => ∃ (a : Option Addr) (cap b off : Nat) (A : Nat → Value), v = .slice a e.a.length cap ∧ (0 < e.a.length → a = some ⟨b, off, none⟩) ∧
      (∀ i x, e.a[i]? = some x → w.cell? ⟨b, off + i * 4, none⟩ = some (.int .i64 x.k) ∧ w.cell? ⟨b, off + i * 4 + 1, none⟩ = some (.int .i64 x.n) ∧ w.cell? ⟨b, off + i * 4 + 2, none⟩ = some (.string (bs x.s)) ∧ w.cell? ⟨b, off + i * 4 + 3, none⟩ = some (A i)) ∧
      ∀ i x, e.a[i]? = some x → IsExN w d (A i) x
/-- A list's value, of an expression, as it lies in a world. -/
def IsEx (w : World) (v : Value) (e : Ex) : Prop := ∃ d, IsExN w d v e
theorem IsExN.more {w : World} : ∀ (d d' : Nat) (v : Value) (e : Ex), d ≤ d' → IsExN w d v e → IsExN w d' v e
  | 0, _, _, _, _, h => absurd h (by simp [IsExN])
  | d + 1, 0, _, _, hd, _ => by omega
  | d + 1, d' + 1, _, _, hd, h => by
    obtain ⟨a, cap, b, off, A, h1, h2, h3, h4⟩ := h
    exact ⟨a, cap, b, off, A, h1, h2, h3, fun i x hx => IsExN.more d d' _ _ (by omega) (h4 i x hx)⟩
theorem IsEx.mk {w : World} (k n : Int) (s : List UInt8) (a : Option Addr) (cap : Nat) (l : List Ex) (b off : Nat) (A : Nat → Value)
    (ha : 0 < l.length → a = some ⟨b, off, none⟩)
    (hc : ∀ i x, l[i]? = some x → w.cell? ⟨b, off + i * 4, none⟩ = some (.int .i64 x.k) ∧ w.cell? ⟨b, off + i * 4 + 1, none⟩ = some (.int .i64 x.n) ∧ w.cell? ⟨b, off + i * 4 + 2, none⟩ = some (.string (bs x.s)) ∧ w.cell? ⟨b, off + i * 4 + 3, none⟩ = some (A i))
    (kids : ∀ i x, l[i]? = some x → IsEx w (A i) x) : IsEx w (.slice a l.length cap) (.mk k n s l) := by
  have all : ∀ m, m ≤ l.length → ∃ D, ∀ i x, i < m → l[i]? = some x → IsExN w D (A i) x := by
    intro m
    induction m with
    | zero => intro _; exact ⟨0, fun i x hi _ => absurd hi (by omega)⟩
    | succ m ih =>
      intro hm
      obtain ⟨D, hD⟩ := ih (by omega)
      obtain ⟨d, hd⟩ := kids m l[m] (by simp)
      refine ⟨max D d, fun i x hi hx => ?_⟩
      by_cases him : i < m
      · exact IsExN.more D _ _ _ (by omega) (hD i x him hx)
      · obtain rfl : i = m := by omega
        rw [List.getElem?_eq_getElem (by omega), Option.some.injEq] at hx
        subst hx
        exact IsExN.more d _ _ _ (by omega) hd
  obtain ⟨D, hD⟩ := all l.length (Nat.le_refl _)
  exact ⟨D + 1, a, cap, b, off, A, rfl, ha, hc, fun i x hx => hD i x (List.getElem?_eq_some_iff.1 hx).1 hx⟩
theorem IsEx.ind {w : World} {motive : (v : Value) → (e : Ex) → IsEx w v e → Prop}
    (mk : ∀ (k n : Int) (s : List UInt8) (a : Option Addr) (cap : Nat) (l : List Ex) (b off : Nat) (A : Nat → Value) (ha : 0 < l.length → a = some ⟨b, off, none⟩)
      (hc : ∀ i x, l[i]? = some x → w.cell? ⟨b, off + i * 4, none⟩ = some (.int .i64 x.k) ∧ w.cell? ⟨b, off + i * 4 + 1, none⟩ = some (.int .i64 x.n) ∧ w.cell? ⟨b, off + i * 4 + 2, none⟩ = some (.string (bs x.s)) ∧ w.cell? ⟨b, off + i * 4 + 3, none⟩ = some (A i))
      (kids : ∀ i x, l[i]? = some x → IsEx w (A i) x) (_ : ∀ i x (hx : l[i]? = some x), motive (A i) x (kids i x hx)), motive (.slice a l.length cap) (.mk k n s l) (IsEx.mk k n s a cap l b off A ha hc kids))
    {v : Value} {e : Ex} (h : IsEx w v e) : motive v e h := by
  have all : ∀ (d : Nat) (v : Value) (e : Ex) (hd : IsExN w d v e), motive v e ⟨d, hd⟩ := by
    intro d
    induction d with
    | zero => intro v e hd; exact absurd hd (by simp [IsExN])
    | succ d ih =>
      intro v e hd
      obtain ⟨a, cap, b, off, A, h1, h2, h3, h4⟩ := hd
      subst h1
      obtain ⟨k, n, s, l⟩ := e
      exact mk k n s a cap l b off A h2 h3 (fun i x hx => ⟨d, h4 i x hx⟩) (fun i x hx => ih (A i) x (h4 i x hx))
  obtain ⟨d, hd⟩ := h
  exact all d v e hd
theorem IsEx.lower {w w' : World} {v : Value} {e : Ex} (h : IsEx w v e) (hb : Below w.heap.size w w') : IsEx w' v e := by
  induction h using IsEx.ind with
  | mk k n s a cap l b off A ha hc kids ih =>
    refine IsEx.mk k n s a cap l b off A ha (fun i x hx => ?_) ih
    obtain ⟨c0, c1, c2, c3⟩ := hc i x hx
    exact ⟨cell_below c0 hb, cell_below c1 hb, cell_below c2 hb, cell_below c3 hb⟩
theorem IsEx.slice {w : World} {v : Value} {e : Ex} (h : IsEx w v e) : ∃ a cap, v = .slice a e.a.length cap := by
  induction h using IsEx.ind with
  | mk k n s a cap l => exact ⟨a, cap, rfl⟩

/- Sums over an expression. -/
def Ex.wt : Ex → Nat
  | .mk _ _ s a => 1 + s.length + wtL a
  where wtL : List Ex → Nat
  | [] => 0
  | e :: r => e.wt + wtL r
def Ex.cnt : Ex → Nat
  | .mk _ _ _ a => 1 + cntL a
  where cntL : List Ex → Nat
  | [] => 0
  | e :: r => e.cnt + cntL r
def Ex.dep : Ex → Nat
  | .mk _ _ _ a => 1 + depL a
  where depL : List Ex → Nat
  | [] => 0
  | e :: r => max e.dep (depL r)
theorem wtL_append (a b : List Ex) : Ex.wt.wtL (a ++ b) = Ex.wt.wtL a + Ex.wt.wtL b := by
  induction a with
  | nil => simp [Ex.wt.wtL]
  | cons x a ih => simp only [List.cons_append, Ex.wt.wtL, ih]; omega
theorem cntL_append (a b : List Ex) : Ex.cnt.cntL (a ++ b) = Ex.cnt.cntL a + Ex.cnt.cntL b := by
  induction a with
  | nil => simp [Ex.cnt.cntL]
  | cons x a ih => simp only [List.cons_append, Ex.cnt.cntL, ih]; omega
theorem depL_append (a b : List Ex) : Ex.dep.depL (a ++ b) = max (Ex.dep.depL a) (Ex.dep.depL b) := by
  induction a with
  | nil => simp [Ex.dep.depL]
  | cons x a ih => simp only [List.cons_append, Ex.dep.depL, ih]; omega
theorem take_snoc {α : Type} {l : List α} {i : Nat} {x : α} (hx : l[i]? = some x) : l.take (i + 1) = l.take i ++ [x] := by
  obtain ⟨hi, rfl⟩ := List.getElem?_eq_some_iff.1 hx
  exact List.take_succ_eq_append_getElem hi
theorem wtL_take {l : List Ex} {i : Nat} {x : Ex} (hx : l[i]? = some x) : Ex.wt.wtL (l.take (i + 1)) = Ex.wt.wtL (l.take i) + x.wt := by rw [take_snoc hx, wtL_append]; simp [Ex.wt.wtL]
theorem cntL_take {l : List Ex} {i : Nat} {x : Ex} (hx : l[i]? = some x) : Ex.cnt.cntL (l.take (i + 1)) = Ex.cnt.cntL (l.take i) + x.cnt := by rw [take_snoc hx, cntL_append]; simp [Ex.cnt.cntL]
theorem depL_take {l : List Ex} {i : Nat} {x : Ex} (hx : l[i]? = some x) : Ex.dep.depL (l.take (i + 1)) = max (Ex.dep.depL (l.take i)) x.dep := by rw [take_snoc hx, depL_append]; simp [Ex.dep.depL]
theorem wtL_le (l : List Ex) (i : Nat) : Ex.wt.wtL (l.take i) ≤ Ex.wt.wtL l := by
  conv => rhs; rw [← List.take_append_drop i l, wtL_append]
  omega
theorem cntL_le (l : List Ex) (i : Nat) : Ex.cnt.cntL (l.take i) ≤ Ex.cnt.cntL l := by
  conv => rhs; rw [← List.take_append_drop i l, cntL_append]
  omega
theorem depL_le (l : List Ex) (i : Nat) : Ex.dep.depL (l.take i) ≤ Ex.dep.depL l := by
  conv => rhs; rw [← List.take_append_drop i l, depL_append]
  omega
theorem wt_kid {l : List Ex} {i : Nat} {x : Ex} (hx : l[i]? = some x) : x.wt ≤ Ex.wt.wtL l := by
  have h1 := wtL_take hx
  have h2 := wtL_le l (i + 1)
  omega
theorem cnt_kid {l : List Ex} {i : Nat} {x : Ex} (hx : l[i]? = some x) : x.cnt ≤ Ex.cnt.cntL l := by
  have h1 := cntL_take hx
  have h2 := cntL_le l (i + 1)
  omega
theorem dep_kid {l : List Ex} {i : Nat} {x : Ex} (hx : l[i]? = some x) : x.dep ≤ Ex.dep.depL l := by
  have h1 := depL_take hx
  have h2 := depL_le l (i + 1)
  omega
theorem cnt_pos (e : Ex) : 1 ≤ e.cnt := by cases e; simp only [Ex.cnt]; omega
theorem dep_pos (e : Ex) : 1 ≤ e.dep := by cases e; simp only [Ex.dep]; omega
theorem cnt_wt (e : Ex) : e.cnt ≤ e.wt := by
  refine Ex.ind (P := fun e => e.cnt ≤ e.wt) ?_ e
  intro k n s a ih
  simp only [Ex.cnt, Ex.wt]
  have : Ex.cnt.cntL a ≤ Ex.wt.wtL a := by
    induction a with
    | nil => simp [Ex.cnt.cntL]
    | cons x a ihl =>
      have h1 := ih x (by simp)
      have h2 := ihl (fun e he => ih e (by simp [he]))
      simp only [Ex.cnt.cntL, Ex.wt.wtL]; omega
  omega
theorem dep_cnt (e : Ex) : e.dep ≤ e.cnt := by
  refine Ex.ind (P := fun e => e.dep ≤ e.cnt) ?_ e
  intro k n s a ih
  simp only [Ex.cnt, Ex.dep]
  have : Ex.dep.depL a ≤ Ex.cnt.cntL a := by
    induction a with
    | nil => simp [Ex.dep.depL]
    | cons x a ihl =>
      have h1 := ih x (by simp)
      have h2 := ihl (fun e he => ih e (by simp [he]))
      simp only [Ex.cnt.cntL, Ex.dep.depL]; omega
  omega
theorem len_cntL (a : List Ex) : a.length ≤ Ex.cnt.cntL a := by
  induction a with
  | nil => simp
  | cons x a ih => have := cnt_pos x; simp only [Ex.cnt.cntL, List.length_cons]; omega
theorem len_wtL (a : List Ex) : a.length ≤ Ex.wt.wtL a := by
  induction a with
  | nil => simp
  | cons x a ih => have := cnt_pos x; have := cnt_wt x; simp only [Ex.wt.wtL, List.length_cons]; omega
end Go.Proofs.YtmgpacenooncjaaGreatDoor
