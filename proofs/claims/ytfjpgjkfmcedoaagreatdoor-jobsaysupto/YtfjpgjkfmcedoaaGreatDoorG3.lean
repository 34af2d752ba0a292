/- Put together of LaidX, ExS, ExT, ExU, Nam. -/
import Derived.Test.YtfjpgjkfmcedoaaGreatDoorG1
import Derived.Test.YtfjpgjkfmcedoaaGreatDoorExM
import Derived.OpenShut
import Derived.Lib.QuietBelow
import Derived.Laws.CopyOwn
import Derived.Maps.RangeWalk
import Derived.Maps.OwnSet
import Derived.StringKeys
/- What the rows list of the table of kinds gives, and a world in which it is so. -/
namespace Go.Proofs.YtfjpgjkfmcedoaaGreatDoor
open Go.ChangeShapes Go.WideShapes Go.ChangeAt Go.RowKit
namespace Laid
theorem c5 : Tryz.prog.cellsOf 95 = 5 := by kernel_rfl
theorem ci : Tryz.prog.cellsOf 3 = 1 := by kernel_rfl
theorem cb : Tryz.prog.cellsOf 4 = 1 := by kernel_rfl
def shD (k : Nat) : DataW Unit := .agg [.lit (.int .i64 (lowK k)), .lit (.int .i64 (highK k)), .lit (.int .i64 (bytesK k)), .lit (.int .i64 (partsK k)), .lit (.bool (textsK k))]
theorem shapes_datum : (Rows.laid_threshfloor_expr_shapes : DataW Unit) = .agg ((List.range 11).map shD) := by kernel_rfl
set_option maxRecDepth 100000 in
theorem shape_elem {H : Type} {enc : TypeId × Value → H} {w : World} {base : Nat} {sp : Nat → Bool} {held : Bool} {fuel : Nat} {cs : List Value} {a0 a1 a2 a3 : Int} {a4 : Bool} {p : List MemPlace}
    (h : DataW.trod enc Tryz.prog w base sp held fuel 95 cs = some (.agg [.lit (.int .i64 a0), .lit (.int .i64 a1), .lit (.int .i64 a2), .lit (.int .i64 a3), .lit (.bool a4)], p)) : cs = [.int .i64 a0, .int .i64 a1, .int .i64 a2, .int .i64 a3, .bool a4] := by
  obtain ⟨xs, n', hn', hxy, hcl, hxl, hf⟩ := DataW.trod_struct Tryz.underlying95 h
  rw [c5] at hcl
  match xs, hxl, cs, hcl with
  | [y0, y1, y2, y3, y4], _, [v0, v1, v2, v3, v4], _ =>
    have g0 := hf 0 _ rfl
    have g1 := hf 1 _ rfl
    have g2 := hf 2 _ rfl
    have g3 := hf 3 _ rfl
    have g4 := hf 4 _ rfl
    simp [ci, cb] at g0 g1 g2 g3 g4
    obtain ⟨k0, e0, rfl, _⟩ := DataW.trod_int Tryz.underlying3 g0
    obtain ⟨k1, e1, rfl, _⟩ := DataW.trod_int Tryz.underlying3 g1
    obtain ⟨k2, e2, rfl, _⟩ := DataW.trod_int Tryz.underlying3 g2
    obtain ⟨k3, e3, rfl, _⟩ := DataW.trod_int Tryz.underlying3 g3
    obtain ⟨k4, e4, rfl⟩ := DataW.trod_bool Tryz.underlying4 g4
    simp at hxy e0 e1 e2 e3 e4
    obtain ⟨⟨rfl, rfl, rfl, rfl, rfl⟩, _⟩ := hxy
    rw [e0, e1, e2, e3, e4]
theorem gSh : Tryz.prog.globalNamed "threshfloor/expr.shapes" = some 1 := by kernel_rfl
theorem tSh : (Tryz.prog.globals[1]?).map (·.type) = some 109 := by kernel_rfl
theorem envS_of {W : World} {rest : List (String × DataW Unit)} (hs : W.ShapedOpen Tryz.prog) (h : laidMet Tryz.prog (("threshfloor/expr.shapes", Rows.laid_threshfloor_expr_shapes) :: rest) W) : EnvS W := by
  refine ⟨env0_of hs, ?_⟩
  obtain ⟨ps, ⟨g', t', cs, fuel, p, q, hg', ht', hvar, hd, _, _⟩, _⟩ := h
  obtain rfl := Option.some.inj (gSh.symm.trans hg')
  obtain rfl := Option.some.inj (tSh.symm.trans ht')
  rw [shapes_datum] at hd
  obtain ⟨xs, m, _, ex, hlen, hl, hel⟩ := DataW.trod_array Tryz.underlying109 hd
  intro k hk
  have hx : xs[k]?.map (·.1) = some (shD k) := by
    have h1 : (DataW.agg ((List.range 11).map shD) : DataW Unit) = .agg (xs.map (·.1)) := congrArg Prod.fst ex
    injection h1 with h1
    rw [← List.getElem?_map, ← h1, List.getElem?_map, List.getElem?_range (by omega)]
    rfl
  cases hy : xs[k]? with
  | none => rw [hy] at hx; cases hx
  | some y =>
    rw [hy] at hx
    obtain ⟨yd, yp⟩ := y
    simp only [Option.map_some, Option.some.injEq] at hx
    subst hx
    have he := hel k (by omega)
    rw [hy, c5] at he
    have hc := shape_elem he
    have cell : ∀ j v, [Value.int .i64 (lowK k), .int .i64 (highK k), .int .i64 (bytesK k), .int .i64 (partsK k), .bool (textsK k)][j]? = some v → W.cell? ⟨1, k * 5 + j, none⟩ = some v := by
      intro j v hv
      rw [World.var?_cell gSh hvar (k * 5 + j)]
      rw [← hc] at hv
      have hj : j < 5 := by
        have := (List.getElem?_eq_some_iff.1 hv).1
        simp at this
        omega
      rw [List.getElem?_take, if_pos hj, List.getElem?_drop] at hv
      simpa using hv
    exact ⟨cell 0 _ rfl, cell 1 _ rfl, cell 2 _ rfl, cell 3 _ rfl, cell 4 _ rfl⟩
/-- A world with the decoder's tables and that of kinds laid. -/
def laidX (w : World) : World := put (laidU w) 1 (tabOf Rows.laid_threshfloor_expr_shapes)
end Laid
end Go.Proofs.YtfjpgjkfmcedoaaGreatDoor
/- Contracts of expr.Check, Of, word, str, num, Str and Int: what expressions are. -/
namespace Go.Proofs.YtfjpgjkfmcedoaaGreatDoor
open Go.ChangeShapes Go.WideShapes Go.ChangeAt Go.RowKit
/-- What is wrong with an expression: 0: nothing. -/
def faultE (e : Ex) (text each : Bool) : Nat := if e.cnt ≤ 30 ∧ e.dep ≤ 5 then (if e.ok text each then 0 else 3) else 2
def errV (n : Nat) : Value := if n = 0 then .nilIface else .iface 50 (.int .i64 n)
theorem upBy_good (e : Ex) : (upBy 0 1 e.cnt e.dep ≤ 30) ↔ (e.cnt ≤ 30 ∧ e.dep ≤ 5) := by
  unfold upBy
  split <;> omega
set_option maxRecDepth 100000 in
set_option maxHeartbeats 1000000 in
theorem check_any {w : World} {sv : Value} {e : Ex} (h : IsEx w sv e) (hw : e.wt ≤ 1000000000) (text each : Bool) (E : EnvS w) :
    Calls Tryz.prog 35 #[e.val sv, .bool text, .bool each] w fun r w' => r = .returned (errV (faultE e text each)) ∧ Below w.heap.size w w' := by
  obtain ⟨a, cap, rfl⟩ := h.slice
  have C := Lib.hid (count_any h hw 1 0 (by omega) (by omega))
  have M := Lib.hid (may_any h hw text each)
  have G := Lib.hid (upBy_good e)
  have HE := Lib.hid E
  clear E h
  unfold Ex.val at C M ⊢
  unfold faultE
  generalize upBy 0 1 e.cnt e.dep = c at *
  go_enter Tryz.func35, Tryz.ntmps35
  go_wp2_with (go_at_call 45; refine Hid.out ?_)
  refine Lib.hid ?_
  refine (C.out _ (below_box _)).mono ?_
  rintro _ w2 ⟨rfl, hb2⟩
  by_cases hc : c ≤ 30
  · have hgd := Lib.hid (G.out.1 hc)
    have k0 := cell_below (a := ⟨w.heap.size, 0, none⟩) (v := .int .i64 e.k) (by simp) hb2
    have k1 := cell_below (a := ⟨w.heap.size, 1, none⟩) (v := .int .i64 e.n) (by simp) hb2
    have k2 := cell_below (a := ⟨w.heap.size, 2, none⟩) (v := .string (bs e.s)) (by simp) hb2
    have k3 := cell_below (a := ⟨w.heap.size, 3, none⟩) (v := .slice a e.a.length cap) (by simp) hb2
    have hb3 := below_trans (below_box _) hb2
    clear hb2
    go_wp2_with (go_at_call 46; refine Hid.out ?_)
    refine Lib.hid ?_
    refine (M.out _ hb3 (HE.out.lower hb3)).mono ?_
    rintro _ w4 ⟨rfl, hb4⟩
    cases hok : e.ok text each with
    | true =>
      go_wp2
      go_ret
      exact ⟨by first | rfl | (rw [if_pos hgd.out]; rfl), below_trans hb3 hb4⟩
    | false =>
      go_wp2
      go_ret
      exact ⟨by first | rfl | (rw [if_pos hgd.out]; rfl), below_trans hb3 hb4⟩
  · have hgd := Lib.hid (fun h => hc (G.out.2 h))
    go_wp2
    go_ret
    exact ⟨by first | rfl | (rw [if_neg hgd.out]; rfl), below_trans (below_box _) hb2⟩
/-- A record: its line, the word that is looked at, its words. -/
structure Rc where
  line : List UInt8
  it : List UInt8
  words : List (List UInt8)
/-- What a text is. -/
def Ex.str (R : Rc) : Ex → List UInt8
  | .mk k n s a => if k = 1 then R.it else if k = 2 then R.line else if k = 3 then (R.words[n.toNat]?).getD [] else if k = 4 then s else if k = 5 then strL a else (strL a).take n.toNat
  where strL : List Ex → List UInt8
  | [] => []
  | e :: r => e.str R ++ strL r
/-- How long a text is at most, uncut. -/
def Ex.len (R : Rc) : Ex → Nat
  | .mk k n s a => if k = 1 then R.it.length else if k = 2 then R.line.length else if k = 3 then ((R.words[n.toNat]?).getD []).length else if k = 4 then s.length else lenL a
  where lenL : List Ex → Nat
  | [] => 0
  | e :: r => e.len R + lenL r
/-- What a number is. -/
def Ex.num (R : Rc) : Ex → Int
  | .mk k n _ a => if k = 7 then n else if k = 8 then ((Ex.str.strL R a).length : Int) else if k = 9 then (R.words.length : Int) else numL a
  where numL : List Ex → Int
  | [] => 0
  | e :: r => e.num R + numL r
/-- How far from 0 a number is at most. -/
def Ex.far (R : Rc) : Ex → Nat
  | .mk k n _ a => if k = 7 then n.natAbs else if k = 8 then Ex.len.lenL R a else if k = 9 then R.words.length else farL a
  where farL : List Ex → Nat
  | [] => 0
  | e :: r => e.far R + farL r
theorem str_len (R : Rc) (e : Ex) : (e.str R).length ≤ e.len R := by
  refine Ex.ind (P := fun e => (e.str R).length ≤ e.len R) ?_ e
  intro k n s a ih
  have hL : (Ex.str.strL R a).length ≤ Ex.len.lenL R a := by
    induction a with
    | nil => simp [Ex.str.strL]
    | cons x a ihl =>
      have h1 := ih x (by simp)
      have h2 := ihl (fun e he => ih e (by simp [he]))
      simp only [Ex.str.strL, Ex.len.lenL, List.length_append]; omega
  simp only [Ex.str, Ex.len]
  split
  · omega
  split
  · omega
  split
  · omega
  split
  · omega
  split
  · exact hL
  · rw [List.length_take]; omega
theorem strL_len (R : Rc) (a : List Ex) : (Ex.str.strL R a).length ≤ Ex.len.lenL R a := by
  induction a with
  | nil => simp [Ex.str.strL]
  | cons x a ihl =>
    have h1 := str_len R x
    simp only [Ex.str.strL, Ex.len.lenL, List.length_append]; omega
theorem num_far (R : Rc) (e : Ex) : (e.num R).natAbs ≤ e.far R := by
  refine Ex.ind (P := fun e => (e.num R).natAbs ≤ e.far R) ?_ e
  intro k n s a ih
  have hL : (Ex.num.numL R a).natAbs ≤ Ex.far.farL R a := by
    induction a with
    | nil => simp [Ex.num.numL]
    | cons x a ihl =>
      have h1 := ih x (by simp)
      have h2 := ihl (fun e he => ih e (by simp [he]))
      simp only [Ex.num.numL, Ex.far.farL]; omega
  have hS := strL_len R a
  simp only [Ex.num, Ex.far]
  split
  · omega
  split
  · omega
  split
  · omega
  · exact hL
theorem len_le (R : Rc) (M : Nat) (h1 : R.it.length ≤ M) (h2 : R.line.length ≤ M) (h3 : ∀ x ∈ R.words, x.length ≤ M) (e : Ex) : e.len R ≤ M * e.cnt + e.wt := by
  refine Ex.ind (P := fun e => e.len R ≤ M * e.cnt + e.wt) ?_ e
  intro k n s a ih
  have hL : Ex.len.lenL R a ≤ M * Ex.cnt.cntL a + Ex.wt.wtL a := by
    induction a with
    | nil => simp [Ex.len.lenL]
    | cons x a ihl =>
      have h1 := ih x (by simp)
      have h2 := ihl (fun e he => ih e (by simp [he]))
      simp only [Ex.len.lenL, Ex.cnt.cntL, Ex.wt.wtL, Nat.mul_add]; omega
  simp only [Ex.len, Ex.cnt, Ex.wt, Nat.mul_add, Nat.mul_one]
  split
  · omega
  split
  · omega
  split
  · have : ((R.words[n.toNat]?).getD []).length ≤ M := by
      cases hx : R.words[n.toNat]? with
      | none => simp
      | some x => exact h3 x (List.mem_of_getElem? hx)
    omega
  split
  · omega
  · omega
theorem far_le (R : Rc) (M : Nat) (h1 : R.it.length ≤ M) (h2 : R.line.length ≤ M) (h3 : ∀ x ∈ R.words, x.length ≤ M) (h4 : R.words.length ≤ M) (e : Ex) : ∀ t c, e.ok t c = true → e.far R ≤ (M + 1000) * e.cnt + e.wt := by
  refine Ex.ind (P := fun e => ∀ t c, e.ok t c = true → e.far R ≤ (M + 1000) * e.cnt + e.wt) ?_ e
  intro k n s a ih t c hok
  simp only [Ex.ok, Bool.and_eq_true] at hok
  have hlenL : Ex.len.lenL R a ≤ M * Ex.cnt.cntL a + Ex.wt.wtL a := by
    clear hok ih
    induction a with
    | nil => simp [Ex.len.lenL]
    | cons x a ihl =>
      have h5 := len_le R M h1 h2 h3 x
      simp only [Ex.len.lenL, Ex.cnt.cntL, Ex.wt.wtL, Nat.mul_add]; omega
  have hL : Ex.far.farL R a ≤ (M + 1000) * Ex.cnt.cntL a + Ex.wt.wtL a := by
    have hk := hok.2
    clear hlenL
    clear hok
    induction a with
    | nil => simp [Ex.far.farL]
    | cons x a ihl =>
      simp only [Ex.ok.okL, Bool.and_eq_true] at hk
      have h5 := ih x (by simp) _ _ hk.1
      have h6 := ihl (fun e he => ih e (by simp [he])) hk.2
      simp only [Ex.far.farL, Ex.cnt.cntL, Ex.wt.wtL, Nat.mul_add]; omega
  have hh := hok.1
  simp only [Ex.far, Ex.cnt, Ex.wt, Nat.mul_add, Nat.mul_one]
  split
  · rename_i hk
    subst hk
    simp only [hdOk, Bool.and_eq_true, decide_eq_true_eq] at hh
    have h7 := hh.1.1.1.2
    have h8 := hh.1.1.2
    simp only [lowK, highK] at h7 h8
    simp at h7 h8
    omega
  split
  · simp only [Nat.add_mul]; omega
  split
  · omega
  · omega
end Go.Proofs.YtfjpgjkfmcedoaaGreatDoor
/- Contracts of expr.word, str and num: what expressions that may be are. -/
namespace Go.Proofs.YtfjpgjkfmcedoaaGreatDoor
open Go.ChangeShapes Go.WideShapes Go.ChangeAt Go.RowKit
/-- A record's value, its words' list this. -/
def recV (R : Rc) (a : Option Addr) (cap : Nat) : Value := .agg #[.string (bs R.line), .string (bs R.it), .slice a R.words.length cap]
theorem texts_get {w : World} {a : Option Addr} {n cap : Nat} {ws : List (List UInt8)} (h : IsTexts w (.slice a n cap) (ws.map bs)) (k : Nat) (x : List UInt8) (hx : ws[k]? = some x) : ∃ b off, a = some ⟨b, off, none⟩ ∧ w.cell? ⟨b, off + k, none⟩ = some (.string (bs x)) := by
  obtain ⟨a', c, e, hc⟩ := h
  injection e with e1 e2 e3
  obtain ⟨hk, rfl⟩ := List.getElem?_eq_some_iff.1 hx
  obtain ⟨b, off, ea, c0⟩ := hc k (by simpa using hk)
  exact ⟨b, off, e1.trans ea, by simpa using c0⟩
theorem wrap_mid (n : Int) (h0 : -9223372036854775808 ≤ n) (h1 : n < 9223372036854775808) : IntKind.i64.wrap n = n := by
  unfold IntKind.wrap
  simp [IntKind.bits, IntKind.signed]
  omega
theorem ok_text {k n : Int} {s : List UInt8} {l : List Ex} {each : Bool} (h : (Ex.mk k n s l).ok true each = true) : (k = 1 ∨ k = 2 ∨ (k = 3 ∧ 0 ≤ n ∧ n ≤ 120) ∨ k = 4 ∨ (k = 5 ∧ l.length = 2 ∧ Ex.ok.okL l true each = true) ∨ (k = 6 ∧ l.length = 1 ∧ 0 ≤ n ∧ n ≤ 120 ∧ Ex.ok.okL l true each = true)) := by
  simp only [Ex.ok, hdOk, Bool.and_eq_true, decide_eq_true_eq] at h
  obtain ⟨⟨⟨⟨⟨⟨⟨h1, h2⟩, h3⟩, h4⟩, h5⟩, h6⟩, h7⟩, h8⟩ := h
  simp only [beq_iff_eq, isTxt, Bool.and_eq_true, decide_eq_true_eq] at h2
  have hk : k = 1 ∨ k = 2 ∨ k = 3 ∨ k = 4 ∨ k = 5 ∨ k = 6 := by omega
  rcases hk with rfl | rfl | rfl | rfl | rfl | rfl
  · exact .inl rfl
  · exact .inr (.inl rfl)
  · simp [lowK, highK] at h4 h5; exact .inr (.inr (.inl ⟨rfl, h4, h5⟩))
  · exact .inr (.inr (.inr (.inl rfl)))
  · simp [partsK, textsK] at h7 h8; exact .inr (.inr (.inr (.inr (.inl ⟨rfl, h7, h8⟩))))
  · simp [partsK, textsK, lowK, highK] at h4 h5 h7 h8; exact .inr (.inr (.inr (.inr (.inr ⟨rfl, h7, h4, h5, h8⟩))))
theorem ok_num {k n : Int} {s : List UInt8} {l : List Ex} {each : Bool} (h : (Ex.mk k n s l).ok false each = true) : k = 7 ∨ (k = 8 ∧ l.length = 1 ∧ Ex.ok.okL l true each = true) ∨ k = 9 ∨ (k = 10 ∧ l.length = 2 ∧ Ex.ok.okL l false each = true) := by
  simp only [Ex.ok, hdOk, Bool.and_eq_true, decide_eq_true_eq] at h
  obtain ⟨⟨⟨⟨⟨⟨⟨h1, h2⟩, h3⟩, h4⟩, h5⟩, h6⟩, h7⟩, h8⟩ := h
  simp only [known, Bool.and_eq_true, decide_eq_true_eq] at h1
  have h2' : ¬ (1 ≤ k ∧ k ≤ 6) := by
    intro hh
    simp [isTxt, hh.1, hh.2] at h2
  have hk : k = 7 ∨ k = 8 ∨ k = 9 ∨ k = 10 := by omega
  rcases hk with rfl | rfl | rfl | rfl
  · exact .inl rfl
  · simp [partsK, textsK] at h7 h8; exact .inr (.inl ⟨rfl, h7, h8⟩)
  · exact .inr (.inr (.inl rfl))
  · simp [partsK, textsK] at h7 h8; exact .inr (.inr (.inr ⟨rfl, h7, h8⟩))
theorem two_of {α : Type} {l : List α} (h : l.length = 2) : ∃ x y, l = [x, y] := by
  match l, h with
  | [x, y], _ => exact ⟨x, y, rfl⟩
theorem one_of {α : Type} {l : List α} (h : l.length = 1) : ∃ x, l = [x] := by
  match l, h with
  | [x], _ => exact ⟨x, rfl⟩
end Go.Proofs.YtfjpgjkfmcedoaaGreatDoor
/- Contracts of expr.Of, Str and Int. -/
namespace Go.Proofs.YtfjpgjkfmcedoaaGreatDoor
open Go.ChangeShapes Go.WideShapes Go.ChangeAt Go.RowKit
theorem below_setCell {B g i : Nat} {w0 w : World} {cs : Array Value} {t : TypeId} {fr : Nat × Nat} (hg : w.heap[g]? = some (.cells cs t fr)) (hb : Below B w0 w) (hBg : B ≤ g) (v : Value) : Below B w0 (w.setCell ⟨g, i, none⟩ v) := by
  rw [setCell_eq_setRow w g i cs t fr v hg]
  exact below_setRow hb hBg _
theorem cell_far {w : World} {a : Addr} {g i : Nat} {v x : Value} (hne : a.block ≠ g) (h : w.cell? a = some x) : (w.setCell ⟨g, i, none⟩ v).cell? a = some x := by
  rw [World.cell?_of_block (heap_setCell_other w ⟨g, i, none⟩ a.block v hne)]
  exact h
theorem texts_far {w : World} {a : Option Addr} {n cap g i : Nat} {v : Value} {l : List ByteArray} (hf : ∀ x : Addr, a = some x → x.block ≠ g) (h : IsTexts w (.slice a n cap) l) : IsTexts (w.setCell ⟨g, i, none⟩ v) (.slice a n cap) l := by
  obtain ⟨a', c', e, hc⟩ := h
  injection e with e1 e2 e3
  subst e1 e3
  refine ⟨a, cap, by rw [e2], fun j hj => ?_⟩
  obtain ⟨b, off, ea, c0⟩ := hc j hj
  exact ⟨b, off, ea, cell_far (a := ⟨b, off + j, none⟩) (hf ⟨b, off, none⟩ ea) c0⟩
/-- The record of a line. -/
def ofL (l : List UInt8) : Rc := ⟨l, [], wordsL l⟩
def OfSaid (l : List UInt8) (n : Nat) (w : World) (r : Ending) (w' : World) : Prop :=
  ∃ a cap, r = .returned (.agg #[.string (bs l), .string ⟨#[]⟩, .slice a n cap]) ∧ Hid (IsTexts w' (.slice a n cap) ((wordsL l).map bs)) ∧ Below w.heap.size w w' ∧ Hid (∀ x : Addr, a = some x → w.heap.size ≤ x.block)
theorem ok_more (e : Ex) : ∀ t c, e.ok t c = true → e.ok t true = true := by
  refine Ex.ind (P := fun e => ∀ t c, e.ok t c = true → e.ok t true = true) ?_ e
  intro k n s a ih t c h
  have hL : ∀ t', Ex.ok.okL a t' c = true → Ex.ok.okL a t' true = true := by
    clear h
    induction a with
    | nil => intro _ _; rfl
    | cons x a ihl =>
      intro t' h
      simp only [Ex.ok.okL, Bool.and_eq_true] at h ⊢
      exact ⟨ih x (by simp) t' c h.1, ihl (fun e he => ih e (by simp [he])) t' h.2⟩
  simp only [Ex.ok, Bool.and_eq_true] at h ⊢
  refine ⟨?_, hL _ h.2⟩
  have h1 := h.1
  simp only [hdOk, Bool.and_eq_true] at h1 ⊢
  simp only [Bool.not_true, Bool.and_false, Bool.not_false, and_true]
  exact ⟨⟨⟨⟨h1.1.1.1.1.1, h1.1.1.1.2⟩, h1.1.1.2⟩, h1.1.2⟩, h1.2⟩
theorem fault_ok {e : Ex} {t c : Bool} (h : faultE e t c = 0) : e.ok t c = true := by
  unfold faultE at h
  split at h
  · split at h
    · assumption
    · omega
  · omega
theorem fault_cnt {e : Ex} {t c : Bool} (h : faultE e t c = 0) : e.cnt ≤ 30 := by
  unfold faultE at h
  split at h
  · rename_i h1; exact h1.1
  · omega
theorem fault_more {e : Ex} {t c : Bool} (h : faultE e t c = 0) : faultE e t true = 0 := by
  have h2 := ok_more e t c (fault_ok h)
  unfold faultE at h ⊢
  split at h
  · rename_i h1
    rw [if_pos h1, if_pos h2]
  · omega
end Go.Proofs.YtfjpgjkfmcedoaaGreatDoor
/- Contract of job.names: ten names, with their kinds. Written by tpl/mk_nam.py. -/
namespace Go.Proofs.YtfjpgjkfmcedoaaGreatDoor
open Go.ChangeShapes Go.WideShapes Go.ChangeAt Go.RowKit Go.WideMaps Go.Maps
theorem strKey : Keyed Tryz.prog 9 := Keyed.of_law (string_law Tryz.underlying9)
theorem mapT : Tryz.prog.underlying 98 = some (.map 9 3) := Tryz.underlying98
theorem key_lit (s : ByteArray) (hs : s.size ≤ maxLen) : keyOf Tryz.prog 9 (.string s) = some (.string s.data.toList) := by
  simp [keyOf, mapKey, Tryz.underlying9, hs]
/-- What that map reads as. -/
def nameD : DataW Unit := (DataW.put ((DataW.put ((DataW.put ((DataW.put ((DataW.put ((DataW.put ((DataW.put ((DataW.put ((DataW.put ((DataW.put (.map []) (.string [105, 116]) (.lit (.int .i64 1)))) (.string [108, 105, 110, 101]) (.lit (.int .i64 2)))) (.string [119, 111, 114, 100]) (.lit (.int .i64 3)))) (.string [116, 101, 120, 116]) (.lit (.int .i64 4)))) (.string [99, 97, 116]) (.lit (.int .i64 5)))) (.string [99, 117, 116]) (.lit (.int .i64 6)))) (.string [110, 117, 109]) (.lit (.int .i64 7)))) (.string [108, 101, 110]) (.lit (.int .i64 8)))) (.string [109, 97, 110, 121]) (.lit (.int .i64 9)))) (.string [97, 100, 100]) (.lit (.int .i64 10)))
set_option maxRecDepth 100000 in
set_option maxHeartbeats 2000000 in
theorem names_any (w : World) : Calls Tryz.prog 66 #[] w fun e w' => e = .returned (.map (some w.heap.size)) ∧ w'.ownsMap Tryz.prog 9 (plainElem (H := Unit) Tryz.prog 3) w.heap.size 10 nameD ∧ Below w.heap.size w w' := by
  have h0 := World.ownsMap_made w Tryz.prog 9 (plainElem (H := Unit) Tryz.prog 3)
  have b0 : Below w.heap.size w (w.alloc (.map #[] 0)) := below_box _
  have hmk : (Instr.makeMap 98 none).run Tryz.prog w = .ok (.map (some w.heap.size)) (w.alloc (.map #[] 0)) := rfl
  obtain ⟨w1, r1, h1, g1⟩ := h0.update strKey mapT (by decide) (key_lit ⟨#[105, 116]⟩ (by decide)) (plainElem_int (H := Unit) Tryz.underlying3 (q := .i64) (a := 1) (by decide))
  have b1 : Below w.heap.size w w1 := b0.grown g1 b0.size (fun k hk => by cases hk; exact Nat.le_refl _)
  obtain ⟨w2, r2, h2, g2⟩ := h1.update strKey mapT (by decide) (key_lit ⟨#[108, 105, 110, 101]⟩ (by decide)) (plainElem_int (H := Unit) Tryz.underlying3 (q := .i64) (a := 2) (by decide))
  have b2 : Below w.heap.size w w2 := b1.grown g2 b1.size (fun k hk => by cases hk; exact Nat.le_refl _)
  obtain ⟨w3, r3, h3, g3⟩ := h2.update strKey mapT (by decide) (key_lit ⟨#[119, 111, 114, 100]⟩ (by decide)) (plainElem_int (H := Unit) Tryz.underlying3 (q := .i64) (a := 3) (by decide))
  have b3 : Below w.heap.size w w3 := b2.grown g3 b2.size (fun k hk => by cases hk; exact Nat.le_refl _)
  obtain ⟨w4, r4, h4, g4⟩ := h3.update strKey mapT (by decide) (key_lit ⟨#[116, 101, 120, 116]⟩ (by decide)) (plainElem_int (H := Unit) Tryz.underlying3 (q := .i64) (a := 4) (by decide))
  have b4 : Below w.heap.size w w4 := b3.grown g4 b3.size (fun k hk => by cases hk; exact Nat.le_refl _)
  obtain ⟨w5, r5, h5, g5⟩ := h4.update strKey mapT (by decide) (key_lit ⟨#[99, 97, 116]⟩ (by decide)) (plainElem_int (H := Unit) Tryz.underlying3 (q := .i64) (a := 5) (by decide))
  have b5 : Below w.heap.size w w5 := b4.grown g5 b4.size (fun k hk => by cases hk; exact Nat.le_refl _)
  obtain ⟨w6, r6, h6, g6⟩ := h5.update strKey mapT (by decide) (key_lit ⟨#[99, 117, 116]⟩ (by decide)) (plainElem_int (H := Unit) Tryz.underlying3 (q := .i64) (a := 6) (by decide))
  have b6 : Below w.heap.size w w6 := b5.grown g6 b5.size (fun k hk => by cases hk; exact Nat.le_refl _)
  obtain ⟨w7, r7, h7, g7⟩ := h6.update strKey mapT (by decide) (key_lit ⟨#[110, 117, 109]⟩ (by decide)) (plainElem_int (H := Unit) Tryz.underlying3 (q := .i64) (a := 7) (by decide))
  have b7 : Below w.heap.size w w7 := b6.grown g7 b6.size (fun k hk => by cases hk; exact Nat.le_refl _)
  obtain ⟨w8, r8, h8, g8⟩ := h7.update strKey mapT (by decide) (key_lit ⟨#[108, 101, 110]⟩ (by decide)) (plainElem_int (H := Unit) Tryz.underlying3 (q := .i64) (a := 8) (by decide))
  have b8 : Below w.heap.size w w8 := b7.grown g8 b7.size (fun k hk => by cases hk; exact Nat.le_refl _)
  obtain ⟨w9, r9, h9, g9⟩ := h8.update strKey mapT (by decide) (key_lit ⟨#[109, 97, 110, 121]⟩ (by decide)) (plainElem_int (H := Unit) Tryz.underlying3 (q := .i64) (a := 9) (by decide))
  have b9 : Below w.heap.size w w9 := b8.grown g9 b8.size (fun k hk => by cases hk; exact Nat.le_refl _)
  obtain ⟨w10, r10, h10, g10⟩ := h9.update strKey mapT (by decide) (key_lit ⟨#[97, 100, 100]⟩ (by decide)) (plainElem_int (H := Unit) Tryz.underlying3 (q := .i64) (a := 10) (by decide))
  have b10 : Below w.heap.size w w10 := b9.grown g10 b9.size (fun k hk => by cases hk; exact Nat.le_refl _)
  go_enter Tryz.func66, Tryz.ntmps66
  go_wp2
  go_ret
  exact ⟨rfl, h10, b10⟩
end Go.Proofs.YtfjpgjkfmcedoaaGreatDoor
