/- Put together of Ex, ExA. -/
import Derived.Test.YtfjpgjkfmcedoaaGreatDoorG1
/- Expressions: plain trees, what they are, and how they lie in memory. -/
namespace Go.Proofs.YtfjpgjkfmcedoaaGreatDoor
open Go.ChangeShapes Go.WideShapes Go.ChangeAt Go.RowKit

/-- An expression: its kind, its number, its text, those in it. -/
structure Ex where
  fk : Int
  fn : Int
  fs : List UInt8
  fa : List Ex
namespace Ex
def k : Ex → Int | .mk k _ _ _ => k
def n : Ex → Int | .mk _ n _ _ => n
def s : Ex → List UInt8 | .mk _ _ s _ => s
def a : Ex → List Ex | .mk _ _ _ a => a
end Ex
theorem Ex.ind {P : Ex → Prop} (h : ∀ k n s a, (∀ e ∈ a, P e) → P (.mk k n s a)) (e : Ex) : P e :=
  Ex.rec (motive_1 := P) (motive_2 := fun a => ∀ e ∈ a, P e) (fun k n s a ih => h k n s a ih) (fun _ he => absurd he List.not_mem_nil)
    (fun x r hx hr e he => (List.mem_cons.1 he).elim (fun q => by rw [q]; exact hx) (fun q => hr e q)) e
/-- The value of an expression whose list is this. -/
def Ex.val (e : Ex) (sv : Value) : Value := .agg #[.int .i64 e.k, .int .i64 e.n, .string (bs e.s), sv]
/-- A list's value, of an expression, as it lies in a world: so deep at most. -/
def IsExN (w : World) : Nat → Value → Ex → Prop
  | 0, _, _ => False
  | d + 1, v, e => ∃ (a : Option Addr) (cap b off : Nat) (A : Nat → Value), v = .slice a e.a.length cap ∧ (0 < e.a.length → a = some ⟨b, off, none⟩) ∧
      (∀ i x, e.a[i]? = some x → w.cell? ⟨b, off + i * 4, none⟩ = some (.int .i64 x.k) ∧ w.cell? ⟨b, off + i * 4 + 1, none⟩ = some (.int .i64 x.n) ∧ w.cell? ⟨b, off + i * 4 + 2, none⟩ = some (.string (bs x.s)) ∧ w.cell? ⟨b, off + i * 4 + 3, none⟩ = some (A i)) ∧
      ∀ i x, e.a[i]? = some x → IsExN w d (A i) x
/-- A list's value, of an expression, as it lies in a world. -/
def IsEx (w : World) (v : Value) (e : Ex) : Prop := ∃ d, IsExN w d v e
theorem IsExN.more {w : World} : ∀ (d d' : Nat) (v : Value) (e : Ex), d ≤ d' → IsExN w d v e → IsExN w d' v e
  | 0, _, _, _, _, h => absurd h (by simp [IsExN])
  | d + 1, 0, _, _, hd, _ => by omega
  | d + 1, d' + 1, _, _, hd, h => by
    obtain ⟨a, cap, b, off, A, h1, h2, h3, h4⟩ := h
    exact ⟨a, cap, b, off, A, h1, h2, h3, fun i x hx => IsExN.more d d' _ _ (by omega) (h4 i x hx)⟩
theorem IsEx.mk {w : World} (k n : Int) (s : List UInt8) (a : Option Addr) (cap : Nat) (l : List Ex) (b off : Nat) (A : Nat → Value)
    (ha : 0 < l.length → a = some ⟨b, off, none⟩)
    (hc : ∀ i x, l[i]? = some x → w.cell? ⟨b, off + i * 4, none⟩ = some (.int .i64 x.k) ∧ w.cell? ⟨b, off + i * 4 + 1, none⟩ = some (.int .i64 x.n) ∧ w.cell? ⟨b, off + i * 4 + 2, none⟩ = some (.string (bs x.s)) ∧ w.cell? ⟨b, off + i * 4 + 3, none⟩ = some (A i))
    (kids : ∀ i x, l[i]? = some x → IsEx w (A i) x) : IsEx w (.slice a l.length cap) (.mk k n s l) := by
  have all : ∀ m, m ≤ l.length → ∃ D, ∀ i x, i < m → l[i]? = some x → IsExN w D (A i) x := by
    intro m
    induction m with
    | zero => intro _; exact ⟨0, fun i x hi _ => absurd hi (by omega)⟩
    | succ m ih =>
      intro hm
      obtain ⟨D, hD⟩ := ih (by omega)
      obtain ⟨d, hd⟩ := kids m l[m] (by simp)
      refine ⟨max D d, fun i x hi hx => ?_⟩
      by_cases him : i < m
      · exact IsExN.more D _ _ _ (by omega) (hD i x him hx)
      · obtain rfl : i = m := by omega
        rw [List.getElem?_eq_getElem (by omega), Option.some.injEq] at hx
        subst hx
        exact IsExN.more d _ _ _ (by omega) hd
  obtain ⟨D, hD⟩ := all l.length (Nat.le_refl _)
  exact ⟨D + 1, a, cap, b, off, A, rfl, ha, hc, fun i x hx => hD i x (List.getElem?_eq_some_iff.1 hx).1 hx⟩
theorem IsEx.ind {w : World} {motive : (v : Value) → (e : Ex) → IsEx w v e → Prop}
    (mk : ∀ (k n : Int) (s : List UInt8) (a : Option Addr) (cap : Nat) (l : List Ex) (b off : Nat) (A : Nat → Value) (ha : 0 < l.length → a = some ⟨b, off, none⟩)
      (hc : ∀ i x, l[i]? = some x → w.cell? ⟨b, off + i * 4, none⟩ = some (.int .i64 x.k) ∧ w.cell? ⟨b, off + i * 4 + 1, none⟩ = some (.int .i64 x.n) ∧ w.cell? ⟨b, off + i * 4 + 2, none⟩ = some (.string (bs x.s)) ∧ w.cell? ⟨b, off + i * 4 + 3, none⟩ = some (A i))
      (kids : ∀ i x, l[i]? = some x → IsEx w (A i) x) (_ : ∀ i x (hx : l[i]? = some x), motive (A i) x (kids i x hx)), motive (.slice a l.length cap) (.mk k n s l) (IsEx.mk k n s a cap l b off A ha hc kids))
    {v : Value} {e : Ex} (h : IsEx w v e) : motive v e h := by
  have all : ∀ (d : Nat) (v : Value) (e : Ex) (hd : IsExN w d v e), motive v e ⟨d, hd⟩ := by
    intro d
    induction d with
    | zero => intro v e hd; exact absurd hd (by simp [IsExN])
    | succ d ih =>
      intro v e hd
      obtain ⟨a, cap, b, off, A, h1, h2, h3, h4⟩ := hd
      subst h1
      obtain ⟨k, n, s, l⟩ := e
      exact mk k n s a cap l b off A h2 h3 (fun i x hx => ⟨d, h4 i x hx⟩) (fun i x hx => ih (A i) x (h4 i x hx))
  obtain ⟨d, hd⟩ := h
  exact all d v e hd
theorem IsEx.lower {w w' : World} {v : Value} {e : Ex} (h : IsEx w v e) (hb : Below w.heap.size w w') : IsEx w' v e := by
  induction h using IsEx.ind with
  | mk k n s a cap l b off A ha hc kids ih =>
    refine IsEx.mk k n s a cap l b off A ha (fun i x hx => ?_) ih
    obtain ⟨c0, c1, c2, c3⟩ := hc i x hx
    exact ⟨cell_below c0 hb, cell_below c1 hb, cell_below c2 hb, cell_below c3 hb⟩
theorem IsEx.slice {w : World} {v : Value} {e : Ex} (h : IsEx w v e) : ∃ a cap, v = .slice a e.a.length cap := by
  induction h using IsEx.ind with
  | mk k n s a cap l => exact ⟨a, cap, rfl⟩

/- Sums over an expression. -/
def Ex.wt : Ex → Nat
  | .mk _ _ s a => 1 + s.length + wtL a
  where wtL : List Ex → Nat
  | [] => 0
  | e :: r => e.wt + wtL r
def Ex.cnt : Ex → Nat
  | .mk _ _ _ a => 1 + cntL a
  where cntL : List Ex → Nat
  | [] => 0
  | e :: r => e.cnt + cntL r
def Ex.dep : Ex → Nat
  | .mk _ _ _ a => 1 + depL a
  where depL : List Ex → Nat
  | [] => 0
  | e :: r => max e.dep (depL r)
theorem wtL_append (a b : List Ex) : Ex.wt.wtL (a ++ b) = Ex.wt.wtL a + Ex.wt.wtL b := by
  induction a with
  | nil => simp [Ex.wt.wtL]
  | cons x a ih => simp only [List.cons_append, Ex.wt.wtL, ih]; omega
theorem cntL_append (a b : List Ex) : Ex.cnt.cntL (a ++ b) = Ex.cnt.cntL a + Ex.cnt.cntL b := by
  induction a with
  | nil => simp [Ex.cnt.cntL]
  | cons x a ih => simp only [List.cons_append, Ex.cnt.cntL, ih]; omega
theorem depL_append (a b : List Ex) : Ex.dep.depL (a ++ b) = max (Ex.dep.depL a) (Ex.dep.depL b) := by
  induction a with
  | nil => simp [Ex.dep.depL]
  | cons x a ih => simp only [List.cons_append, Ex.dep.depL, ih]; omega
theorem take_snoc {α : Type} {l : List α} {i : Nat} {x : α} (hx : l[i]? = some x) : l.take (i + 1) = l.take i ++ [x] := by
  obtain ⟨hi, rfl⟩ := List.getElem?_eq_some_iff.1 hx
  exact List.take_succ_eq_append_getElem hi
theorem wtL_take {l : List Ex} {i : Nat} {x : Ex} (hx : l[i]? = some x) : Ex.wt.wtL (l.take (i + 1)) = Ex.wt.wtL (l.take i) + x.wt := by rw [take_snoc hx, wtL_append]; simp [Ex.wt.wtL]
theorem cntL_take {l : List Ex} {i : Nat} {x : Ex} (hx : l[i]? = some x) : Ex.cnt.cntL (l.take (i + 1)) = Ex.cnt.cntL (l.take i) + x.cnt := by rw [take_snoc hx, cntL_append]; simp [Ex.cnt.cntL]
theorem depL_take {l : List Ex} {i : Nat} {x : Ex} (hx : l[i]? = some x) : Ex.dep.depL (l.take (i + 1)) = max (Ex.dep.depL (l.take i)) x.dep := by rw [take_snoc hx, depL_append]; simp [Ex.dep.depL]
theorem wtL_le (l : List Ex) (i : Nat) : Ex.wt.wtL (l.take i) ≤ Ex.wt.wtL l := by
  conv => rhs; rw [← List.take_append_drop i l, wtL_append]
  omega
theorem cntL_le (l : List Ex) (i : Nat) : Ex.cnt.cntL (l.take i) ≤ Ex.cnt.cntL l := by
  conv => rhs; rw [← List.take_append_drop i l, cntL_append]
  omega
theorem depL_le (l : List Ex) (i : Nat) : Ex.dep.depL (l.take i) ≤ Ex.dep.depL l := by
  conv => rhs; rw [← List.take_append_drop i l, depL_append]
  omega
theorem wt_kid {l : List Ex} {i : Nat} {x : Ex} (hx : l[i]? = some x) : x.wt ≤ Ex.wt.wtL l := by
  have h1 := wtL_take hx
  have h2 := wtL_le l (i + 1)
  omega
theorem cnt_kid {l : List Ex} {i : Nat} {x : Ex} (hx : l[i]? = some x) : x.cnt ≤ Ex.cnt.cntL l := by
  have h1 := cntL_take hx
  have h2 := cntL_le l (i + 1)
  omega
theorem dep_kid {l : List Ex} {i : Nat} {x : Ex} (hx : l[i]? = some x) : x.dep ≤ Ex.dep.depL l := by
  have h1 := depL_take hx
  have h2 := depL_le l (i + 1)
  omega
theorem cnt_pos (e : Ex) : 1 ≤ e.cnt := by cases e; simp only [Ex.cnt]; omega
theorem dep_pos (e : Ex) : 1 ≤ e.dep := by cases e; simp only [Ex.dep]; omega
theorem cnt_wt (e : Ex) : e.cnt ≤ e.wt := by
  refine Ex.ind (P := fun e => e.cnt ≤ e.wt) ?_ e
  intro k n s a ih
  simp only [Ex.cnt, Ex.wt]
  have : Ex.cnt.cntL a ≤ Ex.wt.wtL a := by
    induction a with
    | nil => simp [Ex.cnt.cntL]
    | cons x a ihl =>
      have h1 := ih x (by simp)
      have h2 := ihl (fun e he => ih e (by simp [he]))
      simp only [Ex.cnt.cntL, Ex.wt.wtL]; omega
  omega
theorem dep_cnt (e : Ex) : e.dep ≤ e.cnt := by
  refine Ex.ind (P := fun e => e.dep ≤ e.cnt) ?_ e
  intro k n s a ih
  simp only [Ex.cnt, Ex.dep]
  have : Ex.dep.depL a ≤ Ex.cnt.cntL a := by
    induction a with
    | nil => simp [Ex.dep.depL]
    | cons x a ihl =>
      have h1 := ih x (by simp)
      have h2 := ihl (fun e he => ih e (by simp [he]))
      simp only [Ex.cnt.cntL, Ex.dep.depL]; omega
  omega
theorem len_cntL (a : List Ex) : a.length ≤ Ex.cnt.cntL a := by
  induction a with
  | nil => simp
  | cons x a ih => have := cnt_pos x; simp only [Ex.cnt.cntL, List.length_cons]; omega
theorem len_wtL (a : List Ex) : a.length ≤ Ex.wt.wtL a := by
  induction a with
  | nil => simp
  | cons x a ih => have := cnt_pos x; have := cnt_wt x; simp only [Ex.wt.wtL, List.length_cons]; omega
end Go.Proofs.YtfjpgjkfmcedoaaGreatDoor
/- Contracts of weight, LightExpr and expr.count: how much, and how many. -/
namespace Go.Proofs.YtfjpgjkfmcedoaaGreatDoor
open Go.ChangeShapes Go.WideShapes Go.ChangeAt Go.RowKit
theorem below_box {w : World} (o : Obj) : Below w.heap.size w (w.alloc o) := (Below.refl _ _).alloc (Nat.le_refl _) _
set_option maxRecDepth 100000 in
set_option maxHeartbeats 1000000 in
theorem weight_any {w : World} {sv : Value} {e : Ex} (h : IsEx w sv e) : e.wt ≤ 1000000000 → ∀ w', Below w.heap.size w w' →
    Calls Tryz.prog 31 #[e.val sv, .int .i64 400] w' fun r w'' => ∃ c : Nat, r = .returned (.int .i64 c) ∧ c ≤ e.wt ∧ Below w'.heap.size w' w'' := by
  induction h using IsEx.ind with
  | mk k n s a cap l b off A ha hc kids ih =>
    intro hw w1 hb
    simp only [Ex.wt] at hw
    simp only [Ex.val, Ex.k, Ex.n, Ex.s, Ex.wt]
    have hl := len_wtL l
    have hsz : (bs s).size ≤ 1000000000 := by rw [bs_size]; omega
    have HS := Lib.hid (bs_size s)
    have HA := Lib.hid ha
    have HC := Lib.hid hc
    clear ha hc
    go_enter Tryz.func31, Tryz.ntmps31
    go_wp2
    go_loopw [5, 6] (fun nv iv wr => ∃ (i m : Nat), i ≤ l.length ∧ iv = .int .i64 i ∧ nv = .int .i64 m ∧ m ≤ 1 + (bs s).size + Ex.wt.wtL (l.take i) ∧ Below w1.heap.size w1 wr ∧ wr.cell? ⟨w1.heap.size, 3, none⟩ = some (.slice a l.length cap)) (fun _ iv _ => l.length - (intOf iv).toNat)
    case atStart => exact ⟨0, 1 + (bs s).size, Nat.zero_le _, rfl, by go_num, by omega, below_box _, by simp⟩
    case round =>
      obtain ⟨i, m, hi, rfl, rfl, hm, hbr, cb⟩ := hrel
      by_cases hlt : i < l.length
      · by_cases h4 : m ≤ 400
        · obtain ⟨x, hx⟩ : ∃ x, l[i]? = some x := ⟨l[i], by simp⟩
          have ea := HA.out (by omega)
          subst ea
          have hbw := below_trans hb hbr
          obtain ⟨c0, c1, c2, c3⟩ := HC.out i x hx
          replace c0 := cell_below c0 hbw
          replace c1 := cell_below c1 hbw
          replace c2 := cell_below c2 hbw
          replace c3 := cell_below c3 hbw
          have I := Lib.hid (ih i x hx (by have := wt_kid hx; omega) wr hbw)
          have hwt := wtL_take hx
          have hwk := wt_kid hx
          have HX := Lib.hid hx
          clear hx ih
          unfold Ex.val at I
          go_wp2_with (go_at_call 31; refine Hid.out ?_)
          refine Lib.hid ?_
          refine I.out.mono ?_
          rintro _ w2 ⟨c, rfl, hcw, hb2⟩
          have cb2 := cell_below cb hb2
          go_wp2
          go_roundw
          case rel => exact ⟨i + 1, m + c, by omega, by go_num, by go_num, by omega, below_trans hbr hb2, cb2⟩
          case measure => simp [intOf]; omega
        · go_wp2
          go_ret
          exact ⟨m, rfl, by have := wtL_le l i; have := HS.out; omega, hbr⟩
      · go_wp2
        go_ret
        exact ⟨m, rfl, by have := wtL_le l i; have := HS.out; omega, hbr⟩
set_option maxRecDepth 100000 in
theorem lightExpr_any {w : World} {sv : Value} {e : Ex} (h : IsEx w sv e) (hw : e.wt ≤ 1000000000) :
    Calls Tryz.prog 14 #[e.val sv] w fun r w' => ∃ g : Bool, r = .returned (.bool g) ∧ Below w.heap.size w w' := by
  obtain ⟨a, cap, rfl⟩ := h.slice
  have W := Lib.hid (weight_any h hw)
  unfold Ex.val at W ⊢
  go_enter Tryz.func14, Tryz.ntmps14
  go_wp2_with (go_at_call 31; refine Hid.out ?_)
  refine Lib.hid ?_
  refine (W.out _ (below_box _)).mono ?_
  rintro _ w2 ⟨c, rfl, _, hb2⟩
  by_cases h4 : c ≤ 400
  · go_wp2
    go_ret
    exact ⟨_, rfl, below_trans (below_box _) hb2⟩
  · go_wp2
    go_ret
    exact ⟨_, rfl, below_trans (below_box _) hb2⟩
/-- How many, from so many on, at that depth: 31 where it is too many or too deep. -/
def upBy (sn d c p : Nat) : Nat := if sn + c ≤ 30 ∧ d + p ≤ 6 then sn + c else 31
theorem upBy_le (sn d c p : Nat) : upBy sn d c p ≤ 31 := by unfold upBy; split <;> omega
theorem upBy_step (sn d c p c' p' : Nat) (h : upBy (sn + 1) (d + 1) c p ≤ 30) : upBy (upBy (sn + 1) (d + 1) c p) (d + 1) c' p' = upBy (sn + 1) (d + 1) (c + c') (max p p') := by
  unfold upBy at h ⊢
  split at h
  · rename_i h1
    rw [if_pos h1]
    by_cases h2 : sn + 1 + c + c' ≤ 30 ∧ d + 1 + p' ≤ 6
    · rw [if_pos h2, if_pos (by omega)]; omega
    · rw [if_neg h2, if_neg (by omega)]
  · omega
set_option maxRecDepth 100000 in
set_option maxHeartbeats 1000000 in
theorem count_any {w : World} {sv : Value} {e : Ex} (h : IsEx w sv e) : e.wt ≤ 1000000000 → ∀ d sn : Nat, d ≤ 6 → sn ≤ 30 → ∀ w', Below w.heap.size w w' →
    Calls Tryz.prog 45 #[e.val sv, .int .i64 d, .int .i64 sn] w' fun r w'' => r = .returned (.int .i64 (upBy sn d e.cnt e.dep : Nat)) ∧ Below w'.heap.size w' w'' := by
  induction h using IsEx.ind with
  | mk k n s a cap l b off A ha hc kids ih =>
    intro hw d sn hd hsn w1 hb
    simp only [Ex.wt] at hw
    simp only [Ex.val, Ex.k, Ex.n, Ex.s, Ex.cnt, Ex.dep]
    have hl := len_wtL l
    have HA := Lib.hid ha
    have HC := Lib.hid hc
    clear ha hc
    by_cases hd5 : d ≤ 5
    · go_enter Tryz.func45, Tryz.ntmps45
      go_wp2
      go_loopw [2, 7] (fun nv iv wr => ∃ (i m : Nat), i ≤ l.length ∧ iv = .int .i64 i ∧ nv = .int .i64 m ∧ m ≤ 31 ∧ Hid (m = upBy (sn + 1) (d + 1) (Ex.cnt.cntL (l.take i)) (Ex.dep.depL (l.take i))) ∧ Below w1.heap.size w1 wr ∧ wr.cell? ⟨w1.heap.size, 3, none⟩ = some (.slice a l.length cap)) (fun _ iv _ => l.length - (intOf iv).toNat)
      case atStart => exact ⟨0, sn + 1, Nat.zero_le _, rfl, by go_num, by omega, (show sn + 1 = _ by simp only [List.take_zero, Ex.cnt.cntL, Ex.dep.depL, upBy]; split <;> omega), below_box _, by simp⟩
      case round =>
        obtain ⟨i, m, hi, rfl, rfl, hm, HM, hbr, cb⟩ := hrel
        by_cases hlt : i < l.length
        · by_cases h4 : m ≤ 30
          · obtain ⟨x, hx⟩ : ∃ x, l[i]? = some x := ⟨l[i], by simp⟩
            have ea := HA.out (by omega)
            subst ea
            have hbw := below_trans hb hbr
            obtain ⟨c0, c1, c2, c3⟩ := HC.out i x hx
            replace c0 := cell_below c0 hbw
            replace c1 := cell_below c1 hbw
            replace c2 := cell_below c2 hbw
            replace c3 := cell_below c3 hbw
            have I := Lib.hid (ih i x hx (by have := wt_kid hx; omega) (d + 1) m (by omega) h4 wr hbw)
            have hnx : Hid (upBy m (d + 1) x.cnt x.dep = upBy (sn + 1) (d + 1) (Ex.cnt.cntL (l.take (i + 1))) (Ex.dep.depL (l.take (i + 1)))) := by
              show _ = _
              have h5 := h4
              rw [HM.out] at h5 ⊢
              rw [upBy_step _ _ _ _ _ _ h5, cntL_take hx, depL_take hx]
            have hul := upBy_le m (d + 1) x.cnt x.dep
            clear hx ih
            unfold Ex.val at I
            generalize upBy m (d + 1) x.cnt x.dep = m2 at *
            rw [show (((d + 1 : Nat)) : Int) = (d : Int) + 1 by omega] at I
            go_wp2_with (go_at_call 45; refine Hid.out ?_)
            refine Lib.hid ?_
            refine I.out.mono ?_
            rintro _ w2 ⟨rfl, hb2⟩
            have cb2 := cell_below cb hb2
            go_wp2
            go_roundw
            case rel => exact ⟨i + 1, m2, by omega, by go_num, rfl, by omega, hnx, below_trans hbr hb2, cb2⟩
            case measure => simp [intOf]; omega
          · have hfin : Hid (m = upBy sn d (1 + Ex.cnt.cntL l) (1 + Ex.dep.depL l)) := by
              show m = _
              have h1 := HM.out
              have h2 := cntL_le l i
              have h3 := depL_le l i
              unfold upBy at h1 ⊢
              split at h1
              · omega
              · rw [if_neg (by omega)]; exact h1
            go_wp2
            go_ret
            exact ⟨by rw [← hfin.out]; rfl, hbr⟩
        · have hfin : Hid (m = upBy sn d (1 + Ex.cnt.cntL l) (1 + Ex.dep.depL l)) := by
            show m = _
            have h1 := HM.out
            rw [List.take_of_length_le (by omega)] at h1
            rw [h1]
            unfold upBy
            by_cases h2 : sn + 1 + Ex.cnt.cntL l ≤ 30 ∧ d + 1 + Ex.dep.depL l ≤ 6
            · rw [if_pos h2, if_pos (by omega)]; omega
            · rw [if_neg h2, if_neg (by omega)]
          go_wp2
          go_ret
          exact ⟨by rw [← hfin.out]; rfl, hbr⟩
    · have hfin : Hid (upBy sn d (1 + Ex.cnt.cntL l) (1 + Ex.dep.depL l) = 31) := by
        show _ = 31
        unfold upBy
        rw [if_neg (by omega)]
      go_enter Tryz.func45, Tryz.ntmps45
      go_wp2
      go_ret
      exact ⟨by rw [hfin.out]; rfl, below_box _⟩
end Go.Proofs.YtfjpgjkfmcedoaaGreatDoor
