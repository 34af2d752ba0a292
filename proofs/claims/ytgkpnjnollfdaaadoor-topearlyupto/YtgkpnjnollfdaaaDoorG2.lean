/- Put together of PpRead, LaidM, OpenE, OpenR, OpenT, PpSumK, PpMrgD, N9, PpGrpsO, N10, E1, E2, E3, M2, M3, M4, N8a, LtT, M5, X0, PpFirst, PpParse, PpText, PpBuild, PpBack, PpFoldR, PpGrpd, PpBlk, PpD0, PpD1, PpD2, PpD3, PpPcs. -/
import Derived.Test.YtgkpnjnollfdaaaDoorG1
import Derived.Test.YtgkpnjnollfdaaaDoorShelf
import Derived.Lib.AppendIntMem
import Derived.Lib.AtoiErrMem
import Derived.Lib.LaidTab
import Derived.Test.YtgkpnjnollfdaaaDoorEx
import Derived.OpenShut
import Derived.ShutString
import Derived.ChangeOld
import Derived.Lib.SmallJoins
import Derived.Deep.SlicePairs
import Derived.Test.YtgkpnjnollfdaaaDoorJbL
import Derived.Test.YtgkpnjnollfdaaaDoorTxt
import Derived.Test.YtgkpnjnollfdaaaDoorPpBase
import Derived.Laws.BitsAllLaws
import Derived.Test.YtgkpnjnollfdaaaDoorPpSort
import Derived.Test.YtgkpnjnollfdaaaDoorN6
import Derived.Test.YtgkpnjnollfdaaaDoorPpGrps
import Derived.Test.YtgkpnjnollfdaaaDoorPcs
import Derived.Deep.LoopGhost
import Derived.Test.YtgkpnjnollfdaaaDoorM1
import Derived.Deep.Cut
import Derived.Lib.QuietBelow
import Derived.Test.YtgkpnjnollfdaaaDoorPpFoldT
import Derived.Test.YtgkpnjnollfdaaaDoorRows
import Derived.WalkKit
import Derived.ProofKit
import Derived.WalkLawsBesides
import Derived.Lib.Hide
import Derived.Deep.AppendLies
import Derived.OwnWalk
import Derived.Test.YtgkpnjnollfdaaaDoorPpGrp
import Derived.Deep.DeepCutAuto
import Derived.Deep.CutBlock
/- Contracts of pair.number, pair.cutKey and pair.first: what a text begins with. -/
namespace Go.Proofs.YtgkpnjnollfdaaaDoor.Pp
open Go.ChangeShapes Go.WideShapes Go.ChangeAt Go.RowKit
open Num

/-- What the library's own variables hold. -/
structure Env (w : World) : Prop where
  tab : Lib.TabIs Tryd.prog w "internal/strconv.uint64pow10" .u64 Lib.pow10Tab
  len : ∃ m, w.cell? ⟨0, 0, none⟩ = some (.int .i64 m)
  esyn : ∃ te pe, w.cell? ⟨3, 0, none⟩ = some (.iface te pe)
  erng : ∃ te pe, w.cell? ⟨4, 0, none⟩ = some (.iface te pe)
theorem cell_below {w w' : World} {a : Addr} {v : Value} (h : w.cell? a = some v) (hb : Below w.heap.size w w') : w'.cell? a = some v := by
  rw [hb.cell (World.block_lt_of_cell? w a h)]; exact h
theorem Env.below {w w' : World} (h : Env w) (hb : Below w.heap.size w w') : Env w' := by
  obtain ⟨m, hm⟩ := h.len
  obtain ⟨t1, p1, h1⟩ := h.esyn
  obtain ⟨t2, p2, h2⟩ := h.erng
  exact ⟨Lib.tabBelow_of_tabIs h.tab w' hb, ⟨m, cell_below hm hb⟩, ⟨t1, p1, cell_below h1 hb⟩, ⟨t2, p2, cell_below h2 hb⟩⟩
/-- As much of it as a text that is written needs. -/
structure EnvT (w : World) : Prop where
  tab : Lib.TabIs Tryd.prog w "internal/strconv.uint64pow10" .u64 Lib.pow10Tab
  len : ∃ m, w.cell? ⟨0, 0, none⟩ = some (.int .i64 m)
theorem Env.t {w : World} (h : Env w) : EnvT w := ⟨h.tab, h.len⟩
theorem EnvT.below {w w' : World} (h : EnvT w) (hb : Below w.heap.size w w') : EnvT w' := by
  obtain ⟨m, hm⟩ := h.len
  exact ⟨Lib.tabBelow_of_tabIs h.tab w' hb, ⟨m, cell_below hm hb⟩⟩
theorem IsPairs.below {w w' : World} {v : Value} {l : List (ByteArray × Int)} (h : IsPairs w v l) (hb : Below w.heap.size w w') : IsPairs w' v l := by
  obtain ⟨a, cap, rfl, hc⟩ := h
  refine ⟨a, cap, rfl, fun i hi => ?_⟩
  obtain ⟨b, off, rfl, c0, c1⟩ := hc i hi
  exact ⟨b, off, rfl, cell_below c0 hb, cell_below c1 hb⟩
theorem below_trans {w w1 w2 : World} (h1 : Below w.heap.size w w1) (h2 : Below w1.heap.size w1 w2) : Below w.heap.size w w2 := h1.trans (h2.mono h1.size)
theorem below_drewN (w : World) (n : Nat) : Below w.heap.size w (w.drewN n) := ⟨rfl, rfl, rfl, Nat.le_refl _, fun _ _ => rfl⟩

/-- A text's bytes. -/
def bs (l : List UInt8) : ByteArray := ⟨l.toArray⟩
theorem bs_size (l : List UInt8) : (bs l).size = l.length := by simp [bs, ByteArray.size]
theorem bs_data (l : List UInt8) : (bs l).data.toList = l := by simp [bs]
theorem bs_of (s : ByteArray) : bs s.data.toList = s := by apply ByteArray.ext; simp [bs]
theorem bs_toList (l : List UInt8) : (bs l).toList = l := by rw [ByteArray.toList_eq, bs_data]
theorem bs_take (l : List UInt8) (k : Nat) : (bs l).extract 0 k = bs (l.take k) := by rw [bytes_take, bs_data]; rfl
theorem bs_drop (l : List UInt8) (k : Nat) : (bs l).extract k (bs l).size = bs (l.drop k) := by rw [bytes_drop, bs_data]; rfl

theorem atoi_err (s : ByteArray) (w : World) (E : Env w) (hs : s.size ≤ 281474976710656) (h : ∀ v, Lib.atoiAll s.data.toList ≠ .ok v) :
    Calls Tryd.prog 68 #[.string s] w fun e w' => (∃ x p, e = .returned (.tuple #[.int .i64 x, .iface 150 p])) ∧ Below w.heap.size w w' := by
  obtain ⟨t1, p1, h1⟩ := E.esyn
  obtain ⟨t2, p2, h2⟩ := E.erng
  rcases hA : Lib.atoiAll s.data.toList with v | _ | _
  · exact absurd hA (h v)
  · refine (Any.strconv_Atoi_syntax Tryd.laysC172 s hs hA _ w h1 (.inr ⟨t1, p1, rfl⟩)).mono ?_
    rintro e w' ⟨N, rfl, _, _, hb⟩
    exact ⟨⟨_, _, rfl⟩, hb⟩
  · refine (Any.strconv_Atoi_range Tryd.laysC172 s hs hA _ w h2 (.inr ⟨t2, p2, rfl⟩)).mono ?_
    rintro e w' ⟨N, rfl, _, _, hb⟩
    exact ⟨⟨_, _, rfl⟩, hb⟩
theorem atoi_ok (s : ByteArray) (w : World) (hs : s.size ≤ 281474976710656) (v : Int) (h : Lib.atoiAll s.data.toList = .ok v) :
    Calls Tryd.prog 68 #[.string s] w fun e w' => e = .returned (.tuple #[.int .i64 v, .nilIface]) ∧ Below w.heap.size w w' := by
  refine (Any.strconv_Atoi_ok Tryd.laysC172 s (by omega) v h w).mono ?_
  rintro e w' ⟨rfl, hw⟩
  refine ⟨rfl, ?_⟩
  rcases hw with rfl | ⟨t, rfl⟩
  · exact Below.refl _ _
  · exact Lib.bytesWorld_below _ _ _
theorem itoa_anyT (n : Int) (w : World) (E : EnvT w) (h0 : -9223372036854775808 ≤ n) (h1 : n ≤ 9223372036854775807) :
    Calls Tryd.prog 30 #[.int .i64 n] w fun e w' => e = .returned (.string (bs (Lib.itoa n))) ∧ Below w.heap.size w w' := by
  refine (Any.strconv_Itoa Tryd.laysM171 n h0 h1 w E.tab).mono ?_
  rintro e w' ⟨rfl, k, os, rfl⟩
  exact ⟨rfl, Lib.below_grow _ w (Nat.le_refl _) k os⟩
theorem itoa_any (n : Int) (w : World) (E : Env w) (h0 : -9223372036854775808 ≤ n) (h1 : n ≤ 9223372036854775807) :
    Calls Tryd.prog 30 #[.int .i64 n] w fun e w' => e = .returned (.string (bs (Lib.itoa n))) ∧ Below w.heap.size w w' := itoa_anyT n w E.t h0 h1
theorem cut_any (s : ByteArray) (c : UInt8) (w : World) (E : Env w) (hs : s.size < 4294967281) :
    Calls Tryd.prog 51 #[.string s, .string ⟨#[c]⟩] w fun e w' => e = .returned (.tuple #[.string (bs (cutAt c s.data.toList).1), .string (bs (cutAt c s.data.toList).2.1), .bool (cutAt c s.data.toList).2.2]) ∧ Below w.heap.size w w' := by
  obtain ⟨m, hm⟩ := E.len
  refine (Any.strings_Cut Tryd.lays145 s ⟨#[c]⟩ m w hs hm).mono ?_
  rintro e w' ⟨rfl, n, rfl⟩
  rw [show Lib.cut s.data.toList (⟨#[c]⟩ : ByteArray).data.toList = cutAt c s.data.toList from cut_one c _]
  exact ⟨rfl, below_drewN _ _⟩

theorem num_err {l : List UInt8} (h : ∀ v, Lib.atoiAll l ≠ .ok v) : numB l = none := by
  unfold numB
  split
  · exact absurd (by assumption) (h _)
  · rfl
theorem num_ok {l : List UInt8} {v : Int} (h : Lib.atoiAll l = .ok v) : numB l = if Lib.itoa v = l then some v else none := by
  unfold numB; rw [h]

set_option maxRecDepth 100000 in
set_option maxHeartbeats 1000000 in
theorem number_pair (l : List UInt8) (w : World) (E : Env w) (hl : l.length ≤ 4000000000) :
    Calls Tryd.prog 52 #[.string (bs l)] w fun e w' => e = .returned (.tuple #[.int .i64 ((numB l).getD 0), .bool (numB l).isSome]) ∧ Below w.heap.size w w' := by
  have hsz := bs_size l
  by_cases h : ∃ v, Lib.atoiAll l = .ok v
  · obtain ⟨v, hv⟩ := h
    have hbd := atoi_bd hv
    have C1 : Hid (∀ w, Calls Tryd.prog 68 #[.string (bs l)] w fun e w' => e = .returned (.tuple #[.int .i64 v, .nilIface]) ∧ Below w.heap.size w w') := fun w => atoi_ok (bs l) w (by omega) v (by rw [bs_data]; exact hv)
    have C2 : Hid (∀ w, Env w → Calls Tryd.prog 30 #[.int .i64 v] w fun e w' => e = .returned (.string (bs (Lib.itoa v))) ∧ Below w.heap.size w w') := fun w E => itoa_any v w E hbd.1 hbd.2
    have hn := num_ok hv
    have hT := bs_toList (Lib.itoa v)
    have hT2 := bs_toList l
    clear hv hbd
    by_cases he : Lib.itoa v = l
    · rw [if_pos he] at hn
      have he' : ((bs (Lib.itoa v)).toList == (bs l).toList) = true := by rw [hT, hT2, he]; simp
      rw [hn]
      clear he hn hT hT2
      generalize bs (Lib.itoa v) = x at *
      go_enter Tryd.func52, Tryd.ntmps52
      go_wp2_with (first | (go_at_call 68; refine (C1.out _).mono ?_; rintro e w1 ⟨rfl, hb1⟩) | (go_at_call 30; refine (C2.out _ (E.below hb1)).mono ?_; rintro e w2 ⟨rfl, hb2⟩))
      go_ret2
      exact ⟨rfl, below_trans hb1 hb2⟩
    · rw [if_neg he] at hn
      have he' : ((bs (Lib.itoa v)).toList == (bs l).toList) = false := by rw [hT, hT2]; simpa using he
      rw [hn]
      clear he hn hT hT2
      generalize bs (Lib.itoa v) = x at *
      go_enter Tryd.func52, Tryd.ntmps52
      go_wp2_with (first | (go_at_call 68; refine (C1.out _).mono ?_; rintro e w1 ⟨rfl, hb1⟩) | (go_at_call 30; refine (C2.out _ (E.below hb1)).mono ?_; rintro e w2 ⟨rfl, hb2⟩))
      go_ret2
      exact ⟨rfl, below_trans hb1 hb2⟩
  · have h' : ∀ v, Lib.atoiAll l ≠ .ok v := fun v hv => h ⟨v, hv⟩
    have C1 : Hid (∀ w, Env w → Calls Tryd.prog 68 #[.string (bs l)] w fun e w' => (∃ x p, e = .returned (.tuple #[.int .i64 x, .iface 150 p])) ∧ Below w.heap.size w w') := fun w E => atoi_err (bs l) w E (by omega) (by rw [bs_data]; exact h')
    rw [num_err h']
    clear h h'
    go_enter Tryd.func52, Tryd.ntmps52
    go_wp2_with (go_at_call 68; refine (C1.out _ E).mono ?_; rintro e w1 ⟨⟨x, p, rfl⟩, hb1⟩)
    go_ret2
    exact ⟨rfl, hb1⟩
end Go.Proofs.YtgkpnjnollfdaaaDoor.Pp
/- What the row of a law of mappers and folders lists (no error of the library's in it), and a world in which it is so. -/
namespace Go.Proofs.YtgkpnjnollfdaaaDoor
open Go.ChangeShapes Go.WideShapes Go.ChangeAt Go.RowKit
namespace Laid
theorem pow_datum : (Rows.laid_internal_strconv_uint64pow10 : DataW Unit) = Lib.tabData .u64 Lib.pow10Tab := by kernel_rfl
theorem gPow : Tryd.prog.globalNamed "internal/strconv.uint64pow10" = some 1 := by kernel_rfl
theorem tPow : (Tryd.prog.globals[1]?).map (·.type) = some 143 := by kernel_rfl
theorem cPow : Tryd.prog.cellsOf 143 = 20 := by kernel_rfl
theorem cU64 : Tryd.prog.cellsOf 98 = 1 := by kernel_rfl
/-- A world with the listed variables laid as their initialisers lay them. -/
def laidM (w : World) : World :=
  put (put (put (laidX w) 5 (tabOf Rows.laid_math_bits_deBruijn32tab)) 6 (tabOf Rows.laid_math_bits_deBruijn64tab)) 1 (tabOf Rows.laid_internal_strconv_uint64pow10)
theorem envM_of {W : World} {x y z u : String × DataW Unit} (hL : laidMet Tryd.prog [x, y, ("internal/strconv.uint64pow10", Rows.laid_internal_strconv_uint64pow10), z, ("threshfloor/expr.shapes", Rows.laid_threshfloor_expr_shapes), u] W) (hs : W.ShapedOpen Tryd.prog) : EnvS W ∧ Pp.EnvT W := by
  have h3 := hL.tail.tail
  have h5 := h3.tail.tail
  rw [pow_datum] at h3
  refine ⟨envS_of hs h5, Lib.tabIs_of_head gPow tPow Tryd.underlying143 Tryd.underlying98 cU64 cPow h3, ?_⟩
  exact cell_of_shapedOpen_int (g := 0) (t := 3) (zero := #[.int .i64 0]) (k := .i64) hs (by decide +kernel) (by kernel_rfl) rfl (by kernel_rfl) (by kernel_rfl) Tryd.underlying3
end Laid
end Go.Proofs.YtgkpnjnollfdaaaDoor
/- An expression, as it was handed in, opened: what it holds. -/
namespace Go.Proofs.YtgkpnjnollfdaaaDoor
open Go.ChangeShapes Go.WideShapes Go.ChangeAt Go.RowKit Go.Deep
namespace OpenE
theorem one_le {H : Type} (d : DataW H) : 1 ≤ Rows.uptoBulk d := by
  cases d with
  | lit l => cases l <;> simp [Rows.uptoBulk]
  | nil => simp [Rows.uptoBulk]
  | ptr d => simp [Rows.uptoBulk]
  | slice elems spare => simp [Rows.uptoBulk]
  | agg parts => simp [Rows.uptoBulk]
  | iface t d => simp [Rows.uptoBulk]
  | map entries => simp [Rows.uptoBulk]
  | held h => simp [Rows.uptoBulk]
theorem all_append {H : Type} (l r : List (DataW H)) : Rows.uptoBulkAll (l ++ r) = Rows.uptoBulkAll l + Rows.uptoBulkAll r := by
  induction l with
  | nil => simp [Rows.uptoBulkAll]
  | cons x l ih => simp only [List.cons_append, Rows.uptoBulkAll, ih]; omega
theorem wtL_bulk {H : Type} : ∀ (l : List Ex) (E : List (DataW H)), l.length = E.length → (∀ (i : Nat) (x : Ex) (d : DataW H), l[i]? = some x → E[i]? = some d → x.wt ≤ Rows.uptoBulk d) → Ex.wt.wtL l ≤ Rows.uptoBulkAll E
  | [], [], _, _ => by simp [Ex.wt.wtL, Rows.uptoBulkAll]
  | x :: l, d :: E, hl, h => by
    have h0 := h 0 x d rfl rfl
    have h1 := wtL_bulk l E (by simpa using hl) (fun i y e hy he => h (i + 1) y e (by simpa using hy) (by simpa using he))
    simp only [Ex.wt.wtL, Rows.uptoBulkAll]
    omega
theorem cells4 : Tryd.prog.cellsOf 41 = 4 := by kernel_rfl
theorem cells1s : Tryd.prog.cellsOf 9 = 1 := by kernel_rfl
theorem cells1i : Tryd.prog.cellsOf 3 = 1 := by kernel_rfl
theorem cells1l : Tryd.prog.cellsOf 39 = 1 := by kernel_rfl
theorem none_add (b off j : Nat) : (⟨b, off, none⟩ : Addr).add j = ⟨b, off + j, none⟩ := by
  unfold Addr.add
  split
  · rename_i h; subst h; rfl
  · rfl
set_option maxRecDepth 100000 in
theorem kids {H : Type} {enc : TypeId × Value → H} {W : World} : ∀ (fuel : Nat) (sv : Value) (x : DataW H × List MemPlace), DataW.trod enc Tryd.prog W 0 (fun _ => true) true fuel 39 [sv] = some x →
    ∃ l : List Ex, Ex.wt.wtL l + 1 ≤ Rows.uptoBulk x.1 ∧ ∀ k n s, IsEx W sv (.mk k n s l) := by
  intro fuel
  induction fuel using Nat.strongRecOn with
  | ind fuel ih =>
    intro sv x h
    rcases DataW.trod_slice Tryd.underlying39 h with ⟨h0, rfl⟩ | ⟨a, len, cap, elems, rest, n, hfu, hcs, rfl, hb, hl, hm, hlen, hel, _, _⟩
    · simp only [List.cons.injEq, and_true] at h0
      subst h0
      exact ⟨[], by simp [Ex.wt.wtL, Rows.uptoBulk], fun k n s => IsEx.mk k n s none 0 [] 0 0 (fun _ => undef) (fun h => absurd h (by simp)) (fun i x hx => by simp at hx) (fun i x hx => by simp at hx)⟩
    · simp only [List.cons.injEq, and_true] at hcs
      subst hcs
      have each : ∀ i, i < len → ∃ q : Ex × Value, (W.cell? (a.add (i * 4)) = some (.int .i64 q.1.k) ∧ W.cell? (a.add (i * 4 + 1)) = some (.int .i64 q.1.n) ∧ W.cell? (a.add (i * 4 + 2)) = some (.string (bs q.1.s)) ∧ W.cell? (a.add (i * 4 + 3)) = some q.2) ∧ IsEx W q.2 q.1 ∧ ∀ d, elems[i]? = some d → q.1.wt ≤ Rows.uptoBulk d.1 := by
        intro i hi
        have key := hel i hi
        rw [List.getElem?_eq_getElem (by omega)] at key
        obtain ⟨cs', h1, h2⟩ := Option.bind_eq_some_iff.1 key
        rw [cells4] at h1
        obtain ⟨_, hcl, hcell⟩ := World.cells?_some h1
        obtain ⟨xs, n', hn', hxy, _, hxl, hf⟩ := DataW.trod_struct Tryd.underlying41 h2
        match xs, hxl, cs', hcl with
        | [y0, y1, y2, y3], _, [v0, v1, v2, v3], _ =>
          have g0 := hf 0 _ rfl
          have g1 := hf 1 _ rfl
          have g2 := hf 2 _ rfl
          have g3 := hf 3 _ rfl
          simp [cells1s, cells1i, cells1l] at g0 g1 g2 g3
          obtain ⟨k, e0, rfl, _⟩ := DataW.trod_int Tryd.underlying3 g0
          obtain ⟨m, e1, rfl, _⟩ := DataW.trod_int Tryd.underlying3 g1
          obtain ⟨s, e2, rfl, _⟩ := DataW.trod_string Tryd.underlying9 g2
          simp only [List.cons.injEq, and_true] at e0 e1 e2
          subst e0 e1 e2
          obtain ⟨l, hw, hI⟩ := ih n' (by omega) v3 y3 g3
          have c0 := hcell 0 (by omega)
          have c1 := hcell 1 (by omega)
          have c2 := hcell 2 (by omega)
          have c3 := hcell 3 (by omega)
          rw [add_add] at c0 c1 c2 c3
          refine ⟨(.mk k m s.data.toList l, v3), ⟨by simpa [Ex.k] using c0, by simpa [Ex.n] using c1, by simpa [Ex.s, bs_of] using c2, by simpa using c3⟩, hI _ _ _, ?_⟩
          intro d hd
          rw [List.getElem?_eq_getElem (by omega), Option.some.injEq] at hd
          rw [← hd]
          rw [hxy]
          simp only [List.map_cons, List.map_nil, Rows.uptoBulk, Rows.uptoBulkAll, Ex.wt]
          omega
      haveI : Inhabited (Ex × Value) := ⟨(.mk 0 0 [] [], undef)⟩
      obtain ⟨q, hq⟩ := choose_lt each
      refine ⟨(List.range len).map fun i => (q i).1, ?_, fun k n s => ?_⟩
      · have := wtL_bulk ((List.range len).map fun i => (q i).1) (elems.map (·.1)) (by simp [hlen]) (fun i x d hx hd => by
          simp only [List.getElem?_map] at hx hd
          cases he : elems[i]? with
          | none => rw [he] at hd; simp at hd
          | some d0 =>
            rw [he] at hd
            have hi : i < len := by rw [← hlen]; exact (List.getElem?_eq_some_iff.1 he).1
            rw [List.getElem?_range hi] at hx
            simp at hx hd
            subst hx hd
            exact (hq i hi).2.2 d0 he)
        simp only [Rows.uptoBulk]
        omega
      · have hspot : 0 < len → a.spot = none := fun hpos => by
          have h1 := World.cell?_spot (hq 0 hpos).1.1
          simpa [Addr.add] using h1
        obtain ⟨b, off, spot⟩ := a
        have e := IsEx.mk (w := W) k n s (some ⟨b, off, spot⟩) cap ((List.range len).map fun i => (q i).1) b off (fun i => (q i).2)
          (fun hpos => by have hs := hspot (by simpa using hpos); simp only at hs; rw [hs])
          (fun i x hx => by
            have hi : i < len := by have := (List.getElem?_eq_some_iff.1 hx).1; simpa using this
            rw [List.getElem?_map, List.getElem?_range hi] at hx
            simp at hx
            subst hx
            obtain ⟨c0, c1, c2, c3⟩ := (hq i hi).1
            have hs := hspot (by omega)
            simp only at hs
            subst hs
            rw [none_add] at c0 c1 c2 c3
            exact ⟨c0, c1, c2, c3⟩)
          (fun i x hx => by
            have hi : i < len := by have := (List.getElem?_eq_some_iff.1 hx).1; simpa using this
            rw [List.getElem?_map, List.getElem?_range hi] at hx
            simp at hx
            subst hx
            exact (hq i hi).2.1)
        rw [List.length_map, List.length_range] at e
        exact e
set_option maxRecDepth 100000 in
theorem expr {H : Type} {enc : TypeId × Value → H} {W : World} {base : Nat} {d : DataW H} {p : List MemPlace} {v : Value} (hv : Value.okWide Tryd.prog W .any base 41 v) (h : DataW.Trod enc Tryd.prog W 0 (fun _ => true) true 41 v d p) :
    ∃ (e : Ex) (sv : Value), v = e.val sv ∧ IsEx W sv e ∧ e.wt ≤ Rows.uptoBulk d := by
  obtain ⟨v0, v1, v2, v3, y0, y1, y2, y3, n, rfl, rfl, _, g0, g1, g2, g3⟩ := Joins.open_agg4 Tryd.underlying41 (by kernel_rfl) cells4 hv h
  obtain ⟨k, e0, rfl, _⟩ := DataW.trod_int Tryd.underlying3 g0
  obtain ⟨m, e1, rfl, _⟩ := DataW.trod_int Tryd.underlying3 g1
  obtain ⟨s, e2, rfl, _⟩ := DataW.trod_string Tryd.underlying9 g2
  simp only [List.cons.injEq, and_true] at e0 e1 e2
  subst e0 e1 e2
  obtain ⟨l, hw, hI⟩ := kids n v3 y3 g3
  refine ⟨.mk k m s.data.toList l, v3, by simp [Ex.val, Ex.k, Ex.n, Ex.s, bs_of], hI _ _ _, ?_⟩
  simp only [Rows.uptoBulk, Rows.uptoBulkAll, Ex.wt]
  omega
end OpenE
end Go.Proofs.YtgkpnjnollfdaaaDoor
/- A job, as it was handed in, opened: what it holds, and how much room its list has. Written by tpl/mk_openr.py out of OpenJ. -/
namespace Go.Proofs.YtgkpnjnollfdaaaDoor
open Go.ChangeShapes Go.WideShapes Go.ChangeAt Go.RowKit Go.Deep
namespace OpenR
open OpenE
def fitE : Ex → Prop
  | .mk _ n _ a => (-9223372036854775808 ≤ n ∧ n ≤ 9223372036854775807) ∧ fitL a
  where fitL : List Ex → Prop
  | [] => True
  | e :: r => fitE e ∧ fitL r
def fitR (r : Rl) : Prop := fitE r.iff ∧ fitE r.key ∧ fitE r.val
theorem cells15 : Tryd.prog.cellsOf 43 = 15 := by kernel_rfl
theorem cellsJ : Tryd.prog.cellsOf 37 = 4 := by kernel_rfl
theorem cells1b : Tryd.prog.cellsOf 4 = 1 := by kernel_rfl
theorem cells1r : Tryd.prog.cellsOf 35 = 1 := by kernel_rfl
theorem fitL_of {l : List Ex} (h : ∀ (i : Nat) x, l[i]? = some x → (fitE x)) : fitE.fitL l := by
  induction l with
  | nil => trivial
  | cons y l ih => exact ⟨h 0 y rfl, ih fun i x hx => h (i + 1) x (by simpa using hx)⟩
set_option maxRecDepth 100000 in
theorem kidsF {H : Type} {enc : TypeId × Value → H} {W : World} : ∀ (fuel : Nat) (sv : Value) (x : DataW H × List MemPlace), DataW.trod enc Tryd.prog W 0 (fun _ => true) true fuel 39 [sv] = some x →
    ∃ l : List Ex, Ex.wt.wtL l + 1 ≤ Rows.uptoBulk x.1 ∧ (∀ k n s, IsEx W sv (.mk k n s l)) ∧ fitE.fitL l := by
  intro fuel
  induction fuel using Nat.strongRecOn with
  | ind fuel ih =>
    intro sv x h
    rcases DataW.trod_slice Tryd.underlying39 h with ⟨h0, rfl⟩ | ⟨a, len, cap, elems, rest, n, hfu, hcs, rfl, hb, hl, hm, hlen, hel, _, _⟩
    · simp only [List.cons.injEq, and_true] at h0
      subst h0
      exact ⟨[], by simp [Ex.wt.wtL, Rows.uptoBulk], fun k n s => IsEx.mk k n s none 0 [] 0 0 (fun _ => undef) (fun h => absurd h (by simp)) (fun i x hx => by simp at hx) (fun i x hx => by simp at hx), trivial⟩
    · simp only [List.cons.injEq, and_true] at hcs
      subst hcs
      have each : ∀ i, i < len → ∃ q : Ex × Value, (W.cell? (a.add (i * 4)) = some (.int .i64 q.1.k) ∧ W.cell? (a.add (i * 4 + 1)) = some (.int .i64 q.1.n) ∧ W.cell? (a.add (i * 4 + 2)) = some (.string (bs q.1.s)) ∧ W.cell? (a.add (i * 4 + 3)) = some q.2) ∧ IsEx W q.2 q.1 ∧ (∀ d, elems[i]? = some d → q.1.wt ≤ Rows.uptoBulk d.1) ∧ fitE q.1 := by
        intro i hi
        have key := hel i hi
        rw [List.getElem?_eq_getElem (by omega)] at key
        obtain ⟨cs', h1, h2⟩ := Option.bind_eq_some_iff.1 key
        rw [cells4] at h1
        obtain ⟨_, hcl, hcell⟩ := World.cells?_some h1
        obtain ⟨xs, n', hn', hxy, _, hxl, hf⟩ := DataW.trod_struct Tryd.underlying41 h2
        match xs, hxl, cs', hcl with
        | [y0, y1, y2, y3], _, [v0, v1, v2, v3], _ =>
          have g0 := hf 0 _ rfl
          have g1 := hf 1 _ rfl
          have g2 := hf 2 _ rfl
          have g3 := hf 3 _ rfl
          simp [cells1s, cells1i, cells1l] at g0 g1 g2 g3
          obtain ⟨k, e0, rfl, _⟩ := DataW.trod_int Tryd.underlying3 g0
          obtain ⟨m, e1, rfl, hwm⟩ := DataW.trod_int Tryd.underlying3 g1
          obtain ⟨s, e2, rfl, _⟩ := DataW.trod_string Tryd.underlying9 g2
          simp only [List.cons.injEq, and_true] at e0 e1 e2
          subst e0 e1 e2
          obtain ⟨l, hw, hI, hF⟩ := ih n' (by omega) v3 y3 g3
          have bd := bounds_i64 hwm
          have c0 := hcell 0 (by omega)
          have c1 := hcell 1 (by omega)
          have c2 := hcell 2 (by omega)
          have c3 := hcell 3 (by omega)
          rw [add_add] at c0 c1 c2 c3
          refine ⟨(.mk k m s.data.toList l, v3), ⟨by simpa [Ex.k] using c0, by simpa [Ex.n] using c1, by simpa [Ex.s, bs_of] using c2, by simpa using c3⟩, hI _ _ _, ?_, by simp only [fitE]; exact ⟨⟨bd.1, bd.2⟩, hF⟩⟩
          intro d hd
          rw [List.getElem?_eq_getElem (by omega), Option.some.injEq] at hd
          rw [← hd]
          rw [hxy]
          simp only [List.map_cons, List.map_nil, Rows.uptoBulk, Rows.uptoBulkAll, Ex.wt]
          omega
      haveI : Inhabited (Ex × Value) := ⟨(.mk 0 0 [] [], undef)⟩
      obtain ⟨q, hq⟩ := choose_lt each
      refine ⟨(List.range len).map fun i => (q i).1, ?_, fun k n s => ?_, fitL_of fun i x hx => ?_⟩
      · have := wtL_bulk ((List.range len).map fun i => (q i).1) (elems.map (·.1)) (by simp [hlen]) (fun i x d hx hd => by
          simp only [List.getElem?_map] at hx hd
          cases he : elems[i]? with
          | none => rw [he] at hd; simp at hd
          | some d0 =>
            rw [he] at hd
            have hi : i < len := by rw [← hlen]; exact (List.getElem?_eq_some_iff.1 he).1
            rw [List.getElem?_range hi] at hx
            simp at hx hd
            subst hx hd
            exact (hq i hi).2.2.1 d0 he)
        simp only [Rows.uptoBulk]
        omega
      · have hspot : 0 < len → a.spot = none := fun hpos => by
          have h1 := World.cell?_spot (hq 0 hpos).1.1
          simpa [Addr.add] using h1
        obtain ⟨b, off, spot⟩ := a
        have e := IsEx.mk (w := W) k n s (some ⟨b, off, spot⟩) cap ((List.range len).map fun i => (q i).1) b off (fun i => (q i).2)
          (fun hpos => by have hs := hspot (by simpa using hpos); simp only at hs; rw [hs])
          (fun i x hx => by
            have hi : i < len := by have := (List.getElem?_eq_some_iff.1 hx).1; simpa using this
            rw [List.getElem?_map, List.getElem?_range hi] at hx
            simp at hx
            subst hx
            obtain ⟨c0, c1, c2, c3⟩ := (hq i hi).1
            have hs := hspot (by omega)
            simp only at hs
            subst hs
            rw [none_add] at c0 c1 c2 c3
            exact ⟨c0, c1, c2, c3⟩)
          (fun i x hx => by
            have hi : i < len := by have := (List.getElem?_eq_some_iff.1 hx).1; simpa using this
            rw [List.getElem?_map, List.getElem?_range hi] at hx
            simp at hx
            subst hx
            exact (hq i hi).2.1)
        rw [List.length_map, List.length_range] at e
        exact e
      · have hi : i < len := by have := (List.getElem?_eq_some_iff.1 hx).1; simpa using this
        rw [List.getElem?_map, List.getElem?_range hi] at hx
        simp at hx
        subst hx
        exact (hq i hi).2.2.2
/-- An expression's four cells. -/
theorem expr4 {H : Type} {enc : TypeId × Value → H} {W : World} {fuel : Nat} {v0 v1 v2 v3 : Value} {x : DataW H × List MemPlace} (h : DataW.trod enc Tryd.prog W 0 (fun _ => true) true fuel 41 [v0, v1, v2, v3] = some x) :
    ∃ e : Ex, v0 = .int .i64 e.k ∧ v1 = .int .i64 e.n ∧ v2 = .string (bs e.s) ∧ IsEx W v3 e ∧ e.wt ≤ Rows.uptoBulk x.1 ∧ (fitE e) := by
  obtain ⟨xs, n', hn', hxy, _, hxl, hf⟩ := DataW.trod_struct Tryd.underlying41 h
  match xs, hxl with
  | [y0, y1, y2, y3], _ =>
    have g0 := hf 0 _ rfl
    have g1 := hf 1 _ rfl
    have g2 := hf 2 _ rfl
    have g3 := hf 3 _ rfl
    simp [cells1s, cells1i, cells1l] at g0 g1 g2 g3
    obtain ⟨k, e0, rfl, _⟩ := DataW.trod_int Tryd.underlying3 g0
    obtain ⟨m, e1, rfl, hwm⟩ := DataW.trod_int Tryd.underlying3 g1
    obtain ⟨s, e2, rfl, _⟩ := DataW.trod_string Tryd.underlying9 g2
    simp only [List.cons.injEq, and_true] at e0 e1 e2
    subst e0 e1 e2
    obtain ⟨l, hw, hI, hF⟩ := kidsF n' v3 y3 g3
    have bd := bounds_i64 hwm
    refine ⟨.mk k m s.data.toList l, rfl, rfl, by simp [Ex.s, bs_of], hI _ _ _, ?_, by simp only [fitE]; exact ⟨⟨bd.1, bd.2⟩, hF⟩⟩
    rw [hxy]
    simp only [List.map_cons, List.map_nil, Rows.uptoBulk, Rows.uptoBulkAll, Ex.wt]
    omega
theorem rulesWt_bulk {H : Type} : ∀ (l : List Rl) (E : List (DataW H)), l.length = E.length → (∀ (i : Nat) (x : Rl) (d : DataW H), l[i]? = some x → E[i]? = some d → x.wt ≤ Rows.uptoBulk d) → rulesWt l ≤ Rows.uptoBulkAll E
  | [], [], _, _ => by simp [rulesWt, Rows.uptoBulkAll]
  | x :: l, d :: E, hl, h => by
    have h0 := h 0 x d rfl rfl
    have h1 := rulesWt_bulk l E (by simpa using hl) (fun i y e hy he => h (i + 1) y e (by simpa using hy) (by simpa using he))
    unfold rulesWt at h1 ⊢
    simp only [List.map_cons, List.sum_cons, Rows.uptoBulkAll]
    omega
set_option maxRecDepth 100000 in
theorem rules {H : Type} {enc : TypeId × Value → H} {W : World} (fuel : Nat) (sv : Value) (x : DataW H × List MemPlace) (h : DataW.trod enc Tryd.prog W 0 (fun _ => true) true fuel 35 [sv] = some x) :
    ∃ l : List Rl, rulesWt l ≤ Rows.uptoBulk x.1 ∧ IsRules W sv l ∧ ∀ (i : Nat) r, l[i]? = some r → (fitR r) := by
  rcases DataW.trod_slice Tryd.underlying35 h with ⟨h0, rfl⟩ | ⟨a, len, cap, elems, rest, n, hfu, hcs, rfl, hb, hl, hm, hlen, hel, _, _⟩
  · simp only [List.cons.injEq, and_true] at h0
    subst h0
    exact ⟨[], by simp [rulesWt], ⟨none, 0, 0, 0, fun _ => undef, fun _ => undef, fun _ => undef, rfl, fun h => absurd h (by simp), fun i x hx => by simp at hx⟩, fun i r hx => by simp at hx⟩
  · simp only [List.cons.injEq, and_true] at hcs
    subst hcs
    have each : ∀ i, i < len → ∃ q : Rl × Value × Value × Value, (W.cell? (a.add (i * 15)) = some (.bool q.1.each) ∧ W.cell? (a.add (i * 15 + 1)) = some (.int .i64 q.1.when) ∧ W.cell? (a.add (i * 15 + 2)) = some (.int .i64 q.1.iff.k) ∧ W.cell? (a.add (i * 15 + 3)) = some (.int .i64 q.1.iff.n) ∧ W.cell? (a.add (i * 15 + 4)) = some (.string (bs q.1.iff.s)) ∧ W.cell? (a.add (i * 15 + 5)) = some q.2.1 ∧ W.cell? (a.add (i * 15 + 6)) = some (.string (bs q.1.s)) ∧ W.cell? (a.add (i * 15 + 7)) = some (.int .i64 q.1.key.k) ∧ W.cell? (a.add (i * 15 + 8)) = some (.int .i64 q.1.key.n) ∧ W.cell? (a.add (i * 15 + 9)) = some (.string (bs q.1.key.s)) ∧ W.cell? (a.add (i * 15 + 10)) = some q.2.2.1 ∧ W.cell? (a.add (i * 15 + 11)) = some (.int .i64 q.1.val.k) ∧ W.cell? (a.add (i * 15 + 12)) = some (.int .i64 q.1.val.n) ∧ W.cell? (a.add (i * 15 + 13)) = some (.string (bs q.1.val.s)) ∧ W.cell? (a.add (i * 15 + 14)) = some q.2.2.2) ∧ (IsEx W q.2.1 q.1.iff ∧ IsEx W q.2.2.1 q.1.key ∧ IsEx W q.2.2.2 q.1.val) ∧ (∀ d, elems[i]? = some d → q.1.wt ≤ Rows.uptoBulk d.1) ∧ fitR q.1 := by
      intro i hi
      have key := hel i hi
      rw [List.getElem?_eq_getElem (by omega)] at key
      obtain ⟨cs', h1, h2⟩ := Option.bind_eq_some_iff.1 key
      rw [cells15] at h1
      obtain ⟨_, hcl, hcell⟩ := World.cells?_some h1
      obtain ⟨xs, n', hn', hxy, _, hxl, hf⟩ := DataW.trod_struct Tryd.underlying43 h2
      match xs, hxl, cs', hcl with
      | [y0, y1, y2, y3, y4, y5], _, [v0, v1, v2, v3, v4, v5, v6, v7, v8, v9, v10, v11, v12, v13, v14], _ =>
        have g0 := hf 0 _ rfl
        have g1 := hf 1 _ rfl
        have g2 := hf 2 _ rfl
        have g3 := hf 3 _ rfl
        have g4 := hf 4 _ rfl
        have g5 := hf 5 _ rfl
        simp [cells1s, cells1i, cells1b, cells4] at g0 g1 g2 g3 g4 g5
        obtain ⟨b0, e0, rfl⟩ := DataW.trod_bool Tryd.underlying4 g0
        obtain ⟨m1, e1, rfl, _⟩ := DataW.trod_int Tryd.underlying3 g1
        obtain ⟨s3, e3, rfl, _⟩ := DataW.trod_string Tryd.underlying9 g3
        simp only [List.cons.injEq, and_true] at e0 e1 e3
        subst e0 e1 e3
        obtain ⟨ei, rfl, rfl, rfl, xi, wi, fi⟩ := expr4 g2
        obtain ⟨ek, rfl, rfl, rfl, xk, wk, fk⟩ := expr4 g4
        obtain ⟨ev, rfl, rfl, rfl, xv, wv, fv⟩ := expr4 g5
        have c0 := hcell 0 (by omega)
        have c1 := hcell 1 (by omega)
        have c2 := hcell 2 (by omega)
        have c3 := hcell 3 (by omega)
        have c4 := hcell 4 (by omega)
        have c5 := hcell 5 (by omega)
        have c6 := hcell 6 (by omega)
        have c7 := hcell 7 (by omega)
        have c8 := hcell 8 (by omega)
        have c9 := hcell 9 (by omega)
        have c10 := hcell 10 (by omega)
        have c11 := hcell 11 (by omega)
        have c12 := hcell 12 (by omega)
        have c13 := hcell 13 (by omega)
        have c14 := hcell 14 (by omega)
        rw [add_add] at c0 c1 c2 c3 c4 c5 c6 c7 c8 c9 c10 c11 c12 c13 c14
        refine ⟨(⟨b0, m1, ei, s3.data.toList, ek, ev⟩, v5, v10, v14), ⟨by simpa using c0, by simpa using c1, by simpa using c2, by simpa using c3, by simpa using c4, by simpa using c5, by simpa [bs_of] using c6, by simpa using c7, by simpa using c8, by simpa using c9, by simpa using c10, by simpa using c11, by simpa using c12, by simpa using c13, by simpa using c14⟩, ⟨xi, xk, xv⟩, ?_, ⟨fi, fk, fv⟩⟩
        intro d hd
        rw [List.getElem?_eq_getElem (by omega), Option.some.injEq] at hd
        rw [← hd]
        rw [hxy]
        simp only [List.map_cons, List.map_nil, Rows.uptoBulk, Rows.uptoBulkAll, Rl.wt]
        omega
    haveI : Inhabited (Rl × Value × Value × Value) := ⟨(⟨false, 0, .mk 0 0 [] [], [], .mk 0 0 [] [], .mk 0 0 [] []⟩, undef, undef, undef)⟩
    obtain ⟨q, hq⟩ := choose_lt each
    refine ⟨(List.range len).map fun i => (q i).1, ?_, ?_, fun i r hx => ?_⟩
    · have := rulesWt_bulk ((List.range len).map fun i => (q i).1) (elems.map (·.1)) (by simp [hlen]) (fun i x d hx hd => by
        simp only [List.getElem?_map] at hx hd
        cases he : elems[i]? with
        | none => rw [he] at hd; simp at hd
        | some d0 =>
          rw [he] at hd
          have hi : i < len := by rw [← hlen]; exact (List.getElem?_eq_some_iff.1 he).1
          rw [List.getElem?_range hi] at hx
          simp at hx hd
          subst hx hd
          exact (hq i hi).2.2.1 d0 he)
      simp only [Rows.uptoBulk]
      omega
    · have hspot : 0 < len → a.spot = none := fun hpos => by
        have h1 := World.cell?_spot (hq 0 hpos).1.1
        simpa [Addr.add] using h1
      obtain ⟨b, off, spot⟩ := a
      refine ⟨some ⟨b, off, spot⟩, cap, b, off, fun i => (q i).2.1, fun i => (q i).2.2.1, fun i => (q i).2.2.2, by simp, fun hpos => ?_, fun i x hx => ?_⟩
      · have hs := hspot (by simpa using hpos)
        simp only at hs
        rw [hs]
      · have hi : i < len := by have := (List.getElem?_eq_some_iff.1 hx).1; simpa using this
        rw [List.getElem?_map, List.getElem?_range hi] at hx
        simp at hx
        subst hx
        have hs := hspot (by omega)
        simp only at hs
        subst hs
        have hc := (hq i hi).1
        simp only [none_add, Nat.add_assoc] at hc ⊢
        exact ⟨hc, (hq i hi).2.1⟩
    · have hi : i < len := by have := (List.getElem?_eq_some_iff.1 hx).1; simpa using this
      rw [List.getElem?_map, List.getElem?_range hi] at hx
      simp at hx
      subst hx
      exact (hq i hi).2.2.2
set_option maxRecDepth 100000 in
theorem job {H : Type} {enc : TypeId × Value → H} {W : World} {base : Nat} {d : DataW H} {p : List MemPlace} {v : Value} (hv : Value.okWide Tryd.prog W .any base 37 v) (h : DataW.Trod enc Tryd.prog W 0 (fun _ => true) true 37 v d p) :
    ∃ (j : Jb) (rv : Value), v = j.value rv ∧ IsRules W rv j.rules ∧ rulesWt j.rules ≤ Rows.uptoBulk d ∧ ∀ (i : Nat) r, j.rules[i]? = some r → (fitR r) := by
  obtain ⟨v0, v1, v2, v3, y0, y1, y2, y3, n, rfl, rfl, _, g0, g1, g2, g3⟩ := Joins.open_agg4 Tryd.underlying37 (by kernel_rfl) cellsJ hv h
  obtain ⟨fo, e1, rfl, _⟩ := DataW.trod_int Tryd.underlying3 g1
  obtain ⟨ea, e2, rfl⟩ := DataW.trod_bool Tryd.underlying4 g2
  obtain ⟨sl, e3, rfl, _⟩ := DataW.trod_int Tryd.underlying3 g3
  simp only [List.cons.injEq, and_true] at e1 e2 e3
  subst e1 e2 e3
  obtain ⟨l, hw, hI, hF⟩ := rules n v0 y0 g0
  refine ⟨⟨l, fo, ea, sl⟩, v0, rfl, hI, ?_, hF⟩
  simp only [Rows.uptoBulk, Rows.uptoBulkAll]
  omega
set_option maxRecDepth 100000 in
theorem cell_cap {W : World} {base : Nat} {u : TypeId} {a : Option Addr} {m c : Nat} (h : Cell.okWide Tryd.prog W .any base u (.slice a m c)) : m ≤ c := by
  have h1 : Cell.ok Tryd.prog W .any base u (.slice a m c) := by
    unfold Cell.okWide at h
    split at h <;> first | contradiction | exact h
  unfold Cell.ok at h1
  split at h1 <;> simp_all
set_option maxRecDepth 100000 in
theorem jobC {H : Type} {enc : TypeId × Value → H} {W : World} {base : Nat} {d : DataW H} {p : List MemPlace} {v : Value} (hv : Value.okWide Tryd.prog W .any base 37 v) (h : DataW.Trod enc Tryd.prog W 0 (fun _ => true) true 37 v d p) :
    ∃ (j : Jb) (a : Option Addr) (cap : Nat), v = j.value (.slice a j.rules.length cap) ∧ j.rules.length ≤ cap ∧ IsRules W (.slice a j.rules.length cap) j.rules ∧ rulesWt j.rules ≤ Rows.uptoBulk d := by
  obtain ⟨j, rv, rfl, hI, hw, _⟩ := job hv h
  obtain ⟨a, cap, rfl⟩ := hI.slice
  refine ⟨j, a, cap, rfl, ?_, hI, hw⟩
  unfold Value.okWide at hv
  rw [Tryd.underlying37] at hv
  obtain ⟨cs, e, _, ts, _, _, hc⟩ := hv
  unfold Jb.value at e
  injection e with e
  subst e
  obtain ⟨u, _, hu⟩ := hc 0 _ rfl
  exact cell_cap hu
set_option maxRecDepth 100000 in
theorem rule {H : Type} {enc : TypeId × Value → H} {W : World} {base : Nat} {d : DataW H} {p : List MemPlace} {v : Value} (hv : Value.okWide Tryd.prog W .any base 43 v) (h : DataW.Trod enc Tryd.prog W 0 (fun _ => true) true 43 v d p) :
    ∃ (r : Rl) (ai ak av : Option Addr) (ci ck cv : Nat), v = r.value (.slice ai r.iff.a.length ci) (.slice ak r.key.a.length ck) (.slice av r.val.a.length cv) ∧ IsEx W (.slice ai r.iff.a.length ci) r.iff ∧ IsEx W (.slice ak r.key.a.length ck) r.key ∧ IsEx W (.slice av r.val.a.length cv) r.val ∧ r.wt ≤ Rows.uptoBulk d := by
  unfold Value.okWide at hv
  rw [Tryd.underlying43] at hv
  obtain ⟨cs, rfl, hsz, -⟩ := hv
  rw [cells15] at hsz
  obtain ⟨fuel, h⟩ := h
  obtain ⟨l, hl⟩ : ∃ l, l = cs.toList := ⟨_, rfl⟩
  have hlen : l.length = 15 := by rw [hl]; simpa using hsz
  obtain rfl : cs = l.toArray := by rw [hl]
  have h2 : DataW.trod enc Tryd.prog W 0 (fun _ => true) true fuel 43 l = some (d, p) := by simpa [Value.cells] using h
  clear h hl hsz
  obtain ⟨xs, n', hn', hxy, _, hxl, hf⟩ := DataW.trod_struct Tryd.underlying43 h2
  match xs, hxl, l, hlen with
  | [y0, y1, y2, y3, y4, y5], _, [v0, v1, v2, v3, v4, v5, v6, v7, v8, v9, v10, v11, v12, v13, v14], _ =>
    have g0 := hf 0 _ rfl
    have g1 := hf 1 _ rfl
    have g2 := hf 2 _ rfl
    have g3 := hf 3 _ rfl
    have g4 := hf 4 _ rfl
    have g5 := hf 5 _ rfl
    simp [cells1s, cells1i, cells1b, cells4] at g0 g1 g2 g3 g4 g5
    obtain ⟨b0, e0, rfl⟩ := DataW.trod_bool Tryd.underlying4 g0
    obtain ⟨m1, e1, rfl, _⟩ := DataW.trod_int Tryd.underlying3 g1
    obtain ⟨s3, e3, rfl, _⟩ := DataW.trod_string Tryd.underlying9 g3
    simp only [List.cons.injEq, and_true] at e0 e1 e3
    subst e0 e1 e3
    obtain ⟨ei, rfl, rfl, rfl, xi, wi, _⟩ := expr4 g2
    obtain ⟨ek, rfl, rfl, rfl, xk, wk, _⟩ := expr4 g4
    obtain ⟨ev, rfl, rfl, rfl, xv, wv, _⟩ := expr4 g5
    obtain ⟨ai, ci, rfl⟩ := xi.slice
    obtain ⟨ak, ck, rfl⟩ := xk.slice
    obtain ⟨av, cv, rfl⟩ := xv.slice
    refine ⟨⟨b0, m1, ei, s3.data.toList, ek, ev⟩, ai, ak, av, ci, ck, cv, by simp [Rl.value, bs_of], xi, xk, xv, ?_⟩
    have hd : d = _ := congrArg Prod.fst hxy
    simp only at hd
    rw [hd]
    simp only [List.map_cons, List.map_nil, Rows.uptoBulk, Rows.uptoBulkAll, Rl.wt]
    omega
end OpenR
end Go.Proofs.YtgkpnjnollfdaaaDoor
/- A list of texts, as it was handed in, opened: what it holds. -/
namespace Go.Proofs.YtgkpnjnollfdaaaDoor
open Go.ChangeShapes Go.WideShapes Go.ChangeAt Go.RowKit Go.Deep
namespace OpenT
open OpenE
theorem many_le {H : Type} (l : List (DataW H)) : l.length ≤ Rows.uptoBulkAll l := by
  induction l with
  | nil => simp
  | cons d l ih => have := one_le d; simp only [List.length_cons, Rows.uptoBulkAll]; omega
theorem cells1t : Tryd.prog.cellsOf 38 = 1 := by kernel_rfl
set_option maxRecDepth 100000 in
theorem texts {H : Type} {enc : TypeId × Value → H} {W : World} {fuel : Nat} {sv : Value} {x : DataW H × List MemPlace} (h : DataW.trod enc Tryd.prog W 0 (fun _ => true) true fuel 38 [sv] = some x) :
    ∃ l : List (List UInt8), l.length ≤ Rows.uptoBulk x.1 ∧ IsTexts W sv (l.map bs) := by
  rcases DataW.trod_slice Tryd.underlying38 h with ⟨h0, rfl⟩ | ⟨a, len, cap, elems, rest, n, hfu, hcs, rfl, hb, hl, hm, hlen, hel, _, _⟩
  · simp only [List.cons.injEq, and_true] at h0
    subst h0
    exact ⟨[], by simp, ⟨none, 0, rfl, fun i hi => absurd hi (by simp)⟩⟩
  · simp only [List.cons.injEq, and_true] at hcs
    subst hcs
    have each : ∀ i, i < len → ∃ s : ByteArray, W.cell? (a.add (i * 1)) = some (.string s) := by
      intro i hi
      have key := hel i hi
      rw [List.getElem?_eq_getElem (by omega)] at key
      obtain ⟨cs', h1, h2⟩ := Option.bind_eq_some_iff.1 key
      rw [cells1s] at h1
      obtain ⟨_, hcl, hcell⟩ := World.cells?_some h1
      obtain ⟨s, e0, _, _⟩ := DataW.trod_string Tryd.underlying9 h2
      subst e0
      have c0 := hcell 0 (by omega)
      refine ⟨s, ?_⟩
      simpa [Addr.add] using c0
    haveI : Inhabited ByteArray := ⟨ByteArray.empty⟩
    obtain ⟨q, hq⟩ := choose_lt each
    have hspot : 0 < len → a.spot = none := fun hpos => by
      have h1 := World.cell?_spot (hq 0 hpos)
      simpa [Addr.add] using h1
    obtain ⟨b, off, spot⟩ := a
    refine ⟨(List.range len).map fun i => (q i).data.toList, ?_, ⟨some ⟨b, off, spot⟩, cap, by simp, fun i hi => ?_⟩⟩
    · have h1 := many_le (elems.map (·.1))
      simp only [List.length_map, hlen, List.length_range, Rows.uptoBulk] at h1 ⊢
      omega
    · have hi' : i < len := by simpa using hi
      have hs := hspot (by omega)
      simp only at hs
      subst hs
      have c0 := hq i hi'
      rw [none_add] at c0
      exact ⟨b, off, rfl, by simpa [bs_of] using c0⟩
set_option maxRecDepth 100000 in
theorem lines {H : Type} {enc : TypeId × Value → H} {W : World} {base : Nat} {d : DataW H} {p : List MemPlace} {v : Value} (hv : Value.okWide Tryd.prog W .any base 38 v) (h : DataW.Trod enc Tryd.prog W 0 (fun _ => true) true 38 v d p) :
    ∃ l : List (List UInt8), IsTexts W v (l.map bs) ∧ l.length ≤ Rows.uptoBulk d := by
  obtain ⟨a0, len0, cap0, rfl⟩ := okWide_slice Tryd.underlying38 hv
  obtain ⟨fuel, hf⟩ := h
  obtain ⟨l, h1, h2⟩ := texts (x := (d, p)) (by simpa [Value.cells] using hf)
  exact ⟨l, h2, h1⟩
set_option maxRecDepth 100000 in
theorem cap_le {W : World} {base : Nat} {a : Option Addr} {m c : Nat} (h : Value.okWide Tryd.prog W .any base 38 (.slice a m c)) : m ≤ c := by
  unfold Value.okWide at h
  rw [Tryd.underlying38] at h
  have h1 : Cell.ok Tryd.prog W .any base 38 (.slice a m c) := by
    simp only [Cell.okWide] at h
    split at h <;> first | contradiction | exact h
  unfold Cell.ok at h1
  split at h1 <;> simp_all
set_option maxRecDepth 100000 in
theorem linesC {H : Type} {enc : TypeId × Value → H} {W : World} {base : Nat} {d : DataW H} {p : List MemPlace} {v : Value} (hv : Value.okWide Tryd.prog W .any base 38 v) (h : DataW.Trod enc Tryd.prog W 0 (fun _ => true) true 38 v d p) :
    ∃ (l : List (List UInt8)) (a : Option Addr) (c : Nat), v = .slice a l.length c ∧ l.length ≤ c ∧ IsTexts W (.slice a l.length c) (l.map bs) ∧ l.length ≤ Rows.uptoBulk d := by
  obtain ⟨a0, len0, cap0, rfl⟩ := okWide_slice Tryd.underlying38 hv
  have hc := cap_le hv
  obtain ⟨fuel, hf⟩ := h
  obtain ⟨l, h1, h2⟩ := texts (x := (d, p)) (by simpa [Value.cells] using hf)
  obtain ⟨a1, c1, e, -⟩ := id h2
  injection e with e1 e2 e3
  rw [List.length_map] at e2
  subst e2
  exact ⟨l, a0, cap0, rfl, hc, h2, h1⟩
end OpenT
end Go.Proofs.YtgkpnjnollfdaaaDoor
/- Contracts of pair.Sum and pair.Slice. -/
namespace Go.Proofs.YtgkpnjnollfdaaaDoor.Pp
open Go.ChangeShapes Go.WideShapes Go.ChangeAt Go.RowKit
theorem snocB (s : ByteArray) (k : Nat) (h : k < s.size) : s.data.toList.take (k + 1) = s.data.toList.take k ++ [s[k]] := by
  rw [List.take_succ_eq_append_getElem (by simpa using h)]; rfl
def stp (h : Int) (c : UInt8) : Int := bits BinOp.xor IntKind.u32 h ((c.toNat : Int) % 4294967296) * 16777619 % 4294967296
def ksum (l : List UInt8) : Int := l.foldl stp 2166136261
theorem ksum_snoc (l : List UInt8) (c : UInt8) : ksum (l ++ [c]) = bits BinOp.xor IntKind.u32 (ksum l) ((c.toNat : Int) % 4294967296) * 16777619 % 4294967296 := by
  unfold ksum; rw [List.foldl_append]; rfl
theorem stp_bd (h : Int) (c : UInt8) : 0 ≤ stp h c ∧ stp h c < 4294967296 := by
  unfold stp; omega
theorem ksum_bd (l : List UInt8) : 0 ≤ ksum l ∧ ksum l < 4294967296 := by
  unfold ksum
  rcases List.eq_nil_or_concat l with rfl | ⟨l, c, rfl⟩
  · simp
  · rw [List.concat_eq_append, List.foldl_append]; exact stp_bd _ _
theorem ret_int {k : IntKind} {a b : Int} (h : a = b) : Ending.returned (.int k a) = .returned (.int k b) := by rw [h]

set_option maxHeartbeats 400000 in
theorem sum_any (s : ByteArray) (w : World) (hs : s.size ≤ maxLen) :
    Calls Tryd.prog 47 #[.string s] w fun e w' => e = .returned (.int .u32 (ksum s.data.toList)) ∧ w' = w := by
  unfold maxLen at hs
  go_enter Tryd.func47, Tryd.ntmps47
  go_wp2
  go_loop [3, 4, 7] (fun h _ j => ∃ k : Nat, k ≤ s.size ∧ j = .int .i64 k ∧ h = .int .u32 (ksum (s.data.toList.take k))) (fun _ _ i => s.size - (intOf i).toNat)
  case atStart => exact ⟨0, Nat.zero_le _, rfl, rfl⟩
  case round =>
    obtain ⟨k, hk, rfl, rfl⟩ := hrel
    by_cases hlt : k < s.size
    · have HS : Hid (ksum (s.data.toList.take (k + 1)) = bits BinOp.xor IntKind.u32 (ksum (s.data.toList.take k)) ((s[k].toNat : Int) % 4294967296) * 16777619 % 4294967296) := by
        rw [snocB s k hlt]; exact ksum_snoc _ _
      go_wp2
      go_round
      case rel => exact ⟨k + 1, by omega, by go_num, by rw [HS.out]⟩
      case measure => simp [intOf]; omega
    · go_wp2
      go_ret
      exact ⟨ret_int (by rw [List.take_of_length_le (by simp; omega)]), rfl⟩
set_option maxHeartbeats 400000 in
theorem slice_any (s : ByteArray) (n : Int) (w : World) (hs : s.size ≤ maxLen) (h1 : 1 ≤ n) (h2 : n ≤ 1000) :
    Calls Tryd.prog 26 #[.string s, .int .i64 n] w fun e w' => e = .returned (.int .i64 (ksum s.data.toList % n)) ∧ w' = w := by
  have hb := ksum_bd s.data.toList
  have hm := Int.emod_nonneg (ksum s.data.toList) (show n ≠ 0 by omega)
  have hm2 := Int.emod_lt_of_pos (ksum s.data.toList) (show 0 < n by omega)
  go_enter Tryd.func26, Tryd.ntmps26
  go_wp2_with (go_at_call 47; refine (sum_any _ _ hs).mono ?_; rintro e w' ⟨rfl, rfl⟩)
  go_ret
  exact ⟨rfl, rfl⟩
end Go.Proofs.YtgkpnjnollfdaaaDoor.Pp
/- Contracts of order.Merge. Written by tpl/mk_mrg.py. -/
namespace Go.Proofs.YtgkpnjnollfdaaaDoor.Pp
open Go.ChangeShapes Go.WideShapes Go.ChangeAt Go.RowKit
open Stable
/-- A slice value of slices of pairs. -/
def IsLists (w : World) (v : Value) (ls : List (List (ByteArray × Int))) : Prop :=
  ∃ a cap, v = .slice a ls.length cap ∧ ∀ i (h : i < ls.length), ∃ b off u, a = some ⟨b, off, none⟩ ∧ w.cell? ⟨b, off + i, none⟩ = some u ∧ IsPairs w u ls[i]
def lsAt (ls : List (List (ByteArray × Int))) (k : Nat) : List (ByteArray × Int) := ls[k]?.getD []
def flatT (ls : List (List (ByteArray × Int))) (k : Nat) : List (ByteArray × Int) := (ls.take k).flatten
theorem isLists_at {w : World} {ao : Option Addr} {n cap : Nat} {ls : List (List (ByteArray × Int))} (h : IsLists w (.slice ao n cap) ls) (k : Nat) (hk : k < ls.length) : ∃ b off u, ao = some ⟨b, off, none⟩ ∧ w.cell? ⟨b, off + k, none⟩ = some u ∧ IsPairs w u (lsAt ls k) := by
  obtain ⟨a, c, e, hc⟩ := h
  injection e with e1
  obtain ⟨b, off, u, ea, c0, hu⟩ := hc k hk
  refine ⟨b, off, u, e1.trans ea, c0, ?_⟩
  unfold lsAt
  rw [List.getElem?_eq_getElem hk]
  exact hu
theorem flatT_succ (ls : List (List (ByteArray × Int))) (k : Nat) (h : k < ls.length) : flatT ls (k + 1) = flatT ls k ++ lsAt ls k := by
  unfold flatT lsAt
  rw [List.take_succ_eq_append_getElem h, List.flatten_append, List.getElem?_eq_getElem h]
  simp
theorem flatT_le (ls : List (List (ByteArray × Int))) (k : Nat) : (flatT ls k).length ≤ ls.flatten.length := by
  have h : ls.flatten = flatT ls k ++ (ls.drop k).flatten := by unfold flatT; rw [← List.flatten_append, List.take_append_drop]
  rw [h, List.length_append]
  omega
set_option maxRecDepth 100000 in
set_option maxHeartbeats 1000000 in
theorem merge_any (v : Value) (ls : List (List (ByteArray × Int))) (w : World) (h : IsLists w v ls) (hl : ls.length ≤ 1000000) (hs : ls.flatten.length ≤ 1000000) :
    Calls Tryd.prog 13 #[v] w fun e w' => ∃ u Z, e = .returned u ∧ Sorted Z ∧ SE ls.flatten Z ∧ Z.length = ls.flatten.length ∧ IsPairs w' u Z ∧ Below w.heap.size w w' := by
  have H := Lib.hid h
  have HSZ := Lib.hid hs
  obtain ⟨ao, cap, hv, _⟩ := h
  obtain ⟨n, hn⟩ : ∃ n, n = ls.length := ⟨_, rfl⟩
  subst hv
  rw [← hn] at H hl ⊢
  have HN := Lib.hid hn
  clear hn hs
  go_enter Tryd.func13, Tryd.ntmps13
  go_wp2_with fail
  go_loopw [3, 8] (fun av kv wr => ∃ (k : Nat), kv = .int .i64 k ∧ k ≤ n ∧ Below w.heap.size w wr ∧ Hid (wr.ownsRow w.heap.size 25 2 av (flatT ls k).length (cellsP (flatT ls k)))) (fun _ kv _ => n - (intOf kv).toNat)
  case atStart => exact ⟨0, by go_num, Nat.zero_le _, Below.refl _ _, owns_nil _ _⟩
  case round =>
    obtain ⟨k, rfl, hkn, hb, HO⟩ := hrel
    by_cases hlt : k < n
    · obtain ⟨b, off, u, ea, c0, hu⟩ := isLists_at H.out k (by have := HN.out; omega)
      subst ea
      have k0 := (hb.cell (block_lt c0)).trans c0
      have HU := Lib.hid (isPairs_below hu hb)
      obtain ⟨au, cu, eu, _⟩ := hu
      generalize (lsAt ls k).length = nu at eu
      subst eu
      clear c0
      go_wp2_with (at_builtin; refine Hid.out ?_)
      refine Lib.hid ?_
      refine wpList_append_pairs (w0 := w) rfl (.tmp 12) (.tmp 13) rfl _ (flatT ls k) rfl HO.out _ (lsAt ls k) rfl HU.out (by have h1 := flatT_le ls (k + 1); rw [flatT_succ ls k (by have := HN.out; omega), List.length_append] at h1; have := HSZ.out; omega) hb ?_
      intro v2 w2 hown2 hb2
      rw [← flatT_succ ls k (by have := HN.out; omega)] at hown2
      have HO2 := Lib.hid hown2
      clear hown2 k0 HU HO hb
      go_wp2
      go_roundw
      case rel => exact ⟨k + 1, by go_num, by omega, hb2, HO2⟩
      case measure => simp [intOf]; omega
    · have hk : flatT ls k = ls.flatten := by unfold flatT; rw [List.take_of_length_le (by have := HN.out; omega)]
      rw [hk] at HO
      have C1 := Lib.hid (sort_any _ ls.flatten wr (owns_isPairs HO.out) HSZ.out)
      clear HO hk
      go_wp2_with (go_at_call 11; refine Hid.out ?_)
      refine Lib.hid ?_
      refine C1.out.mono ?_
      rintro _ w2 ⟨u, Z, rfl, z1, z2, z3, z4, hb2⟩
      have HB := hb.trans (hb2.mono hb.size)
      have HZ := Lib.hid z3
      clear C1 hb2 z3
      go_wp2
      go_ret
      exact ⟨u, Z, rfl, z1, z2, HZ.out, z4, HB⟩
end Go.Proofs.YtgkpnjnollfdaaaDoor.Pp
/- Mapper: a list of lists, each of its own; a run's slices, plain. -/
namespace Go.Proofs.YtgkpnjnollfdaaaDoor
open Go.ChangeShapes Go.WideShapes Go.ChangeAt Go.RowKit
/-- In which slice a key lies. -/
def sliceN (many : Int) (k : List UInt8) : Nat := (Pp.ksum k % many).toNat
theorem sliceN_lt {many : Int} (h : 1 ≤ many) (k : List UInt8) : (sliceN many k : Int) = Pp.ksum k % many ∧ sliceN many k < many.toNat := by
  have h1 := Int.emod_nonneg (Pp.ksum k) (show many ≠ 0 by omega)
  have h2 := Int.emod_lt_of_pos (Pp.ksum k) (show 0 < many by omega)
  unfold sliceN
  omega
/-- The pairs of a slice. -/
def inSlice (many : Int) (k : Nat) (l : List (ByteArray × Int)) : List (ByteArray × Int) := l.filter fun p => decide (sliceN many (Pp.Stable.key p) = k)
theorem inSlice_snoc (many : Int) (k : Nat) (l : List (ByteArray × Int)) (p : ByteArray × Int) : inSlice many k (l ++ [p]) = if sliceN many (Pp.Stable.key p) = k then inSlice many k l ++ [p] else inSlice many k l := by
  unfold inSlice
  rw [List.filter_append]
  by_cases h : sliceN many (Pp.Stable.key p) = k
  · rw [if_pos h, List.filter_cons_of_pos (by simp [h])]; rfl
  · rw [if_neg h, List.filter_cons_of_neg (by simp [h])]; simp
/-- Lists, each of its own: the row of them, where each lies; nothing else of what was there has turned. -/
structure SL (w wr : World) (g : Nat) (vs : List Value) (ls : List (List (ByteArray × Int))) : Prop where
  lst : Blk wr g 22 vs
  low : g < w.heap.size
  len : vs.length = ls.length
  each : ∀ (k : Nat) (v : Value) (l : List (ByteArray × Int)), vs[k]? = some v → ls[k]? = some l → wr.ownsRow w.heap.size 25 2 v l.length (Pp.cellsP l)
  apart : ∀ (i j : Nat) (vi vj : Value), i ≠ j → vs[i]? = some vi → vs[j]? = some vj → ∀ g, vi.ownBlock = some g → vj.ownBlock ≠ some g
  only : Only g w wr
theorem SL.below {w wr w' : World} {g : Nat} {vs : List Value} {ls : List (List (ByteArray × Int))} (h : SL w wr g vs ls) (hb : Below wr.heap.size wr w') : SL w w' g vs ls :=
  ⟨h.lst.blw hb, h.low, h.len, fun k v l hv hl => ow_below (h.each k v l hv hl) hb, h.apart, h.only.trans (Only.of_below hb)⟩
theorem only_cell {g : Nat} {w w' : World} {a : Addr} {v : Value} (h : Only g w w') (hc : w.cell? a = some v) (hne : a.block ≠ g) : w'.cell? a = some v := by
  rw [World.cell?_of_block (h.block a.block (World.block_lt_of_cell? w a hc) (fun e => hne (Option.some.inj e)))]
  exact hc
/-- One of them has grown, and stands there anew. -/
theorem SL.put {w wr w' : World} {g i : Nat} {vs : List Value} {ls : List (List (ByteArray × Int))} {v v' : Value} {l l' : List (ByteArray × Int)} (h : SL w wr g vs ls) (hv : vs[i]? = some v) (hl : ls[i]? = some l)
    (ho : w'.ownsRow w.heap.size 25 2 v' l'.length (Pp.cellsP l')) (hg : wr.grownBy w' v.ownBlock) (hat : v'.ownBlock = v.ownBlock ∨ v'.ownBlock = none ∨ ∃ b, v'.ownBlock = some b ∧ wr.heap.size ≤ b) :
    SL w (w'.setCell ⟨g, i, none⟩ v') g (vs.set i v') (ls.set i l') := by
  have hr := h.each i v l hv hl
  have hgw := h.lst.lt
  have lst' : Blk w' g 22 vs := blk_ow h.lst hr (by decide) hg
  have old : ∀ (k : Nat) (u : Value), vs[k]? = some u → ∀ b, u.ownBlock = some b → w.heap.size ≤ b ∧ b < wr.heap.size := fun k u hu b hb => by
    obtain ⟨m, hm⟩ : ∃ m, ls[k]? = some m := ⟨ls[k]'(by rw [← h.len]; exact (List.getElem?_eq_some_iff.1 hu).1), by simp⟩
    exact (h.each k u m hu hm).lt b hb
  refine ⟨lst'.set i v', h.low, by simp [h.len], fun k u m hu hm => ?_, fun a b va vb hab hva hvb q hq => ?_, ?_⟩
  · by_cases e : k = i
    · subst e
      have hk := (List.getElem?_eq_some_iff.1 hv).1
      have hk2 := (List.getElem?_eq_some_iff.1 hl).1
      rw [List.getElem?_set, if_pos rfl, if_pos hk, Option.some.injEq] at hu
      rw [List.getElem?_set, if_pos rfl, if_pos hk2, Option.some.injEq] at hm
      subst hu hm
      exact ow_other ho lst' (by decide)
    · rw [List.getElem?_set, if_neg (fun h => e h.symm)] at hu hm
      have r := h.each k u m hu hm
      have r' : w'.ownsRow w.heap.size 25 2 u m.length (Pp.cellsP m) := r.kept hg (by
        cases hub : u.ownBlock with
        | none => exact .inl rfl
        | some b =>
          right
          intro e2
          exact h.apart k i u v e hu hv b hub e2.symm)
      exact ow_other r' lst' (by decide)
  · rw [List.getElem?_set] at hva hvb
    have newOld : ∀ (k : Nat) (u : Value), k ≠ i → vs[k]? = some u → ∀ q, v'.ownBlock = some q → u.ownBlock ≠ some q := fun k u hk hu q hq e => by
      rcases hat with h1 | h1 | ⟨b, h1, h2⟩
      · rw [h1] at hq
        exact h.apart i k v u (fun e => hk e.symm) hv hu q hq e
      · rw [h1] at hq; cases hq
      · rw [h1] at hq
        injection hq with hq
        have := (old k u hu q e).2
        omega
    by_cases ea : i = a
    · rw [if_pos ea] at hva
      split at hva
      · rw [Option.some.injEq] at hva
        subst hva
        rw [if_neg (by omega)] at hvb
        exact newOld b vb (by omega) hvb q hq
      · cases hva
    · rw [if_neg ea] at hva
      by_cases eb : i = b
      · rw [if_pos eb] at hvb
        split at hvb
        · rw [Option.some.injEq] at hvb
          subst hvb
          intro e
          exact newOld a va (by omega) hva q e hq
        · cases hvb
      · rw [if_neg eb] at hvb
        exact h.apart a b va vb hab hva hvb q hq
  · have b1 : Only g w w' := ⟨hg.os.trans h.only.os, hg.tape.trans h.only.tape, hg.output.trans h.only.output, Nat.le_trans h.only.size hg.size, fun k hk hne => (hg.block k (Nat.lt_of_lt_of_le hk h.only.size) (fun e => by have := (hr.lt k e.symm).1; omega)).trans (h.only.block k hk hne)⟩
    exact b1.setCell i v'
theorem SL.isLists {w wr : World} {g n cap : Nat} {vs : List Value} {ls : List (List (ByteArray × Int))} (h : SL w wr g vs ls) (hn : n = ls.length) : Pp.IsLists wr (.slice (some ⟨g, 0, none⟩) n cap) ls := by
  subst hn
  refine ⟨some ⟨g, 0, none⟩, cap, rfl, fun i hi => ?_⟩
  have hv : vs[i]? = some (vs[i]'(by rw [h.len]; exact hi)) := by simp
  refine ⟨g, 0, _, rfl, ?_, Pp.owns_isPairs (h.each i _ ls[i] hv (by simp))⟩
  rw [Nat.zero_add]
  exact h.lst.at hv
end Go.Proofs.YtgkpnjnollfdaaaDoor
/- Contract of fold.Groups, its row its own. -/
namespace Go.Proofs.YtgkpnjnollfdaaaDoor.Pp
open Go.ChangeShapes Go.WideShapes Go.ChangeAt Go.RowKit
open Grp
set_option maxRecDepth 100000 in
set_option maxHeartbeats 2000000 in
theorem groups_own (kind : Int) (v : Value) (l : List (ByteArray × Int)) (w : World) (h : IsPairs w v l) (hl : l.length ≤ 1000000) :
    Calls Tryd.prog 45 #[.int .i64 kind, v] w fun e w' => ∃ u, e = .returned u ∧ w'.ownsRow w.heap.size 25 2 u (grp kind l).length (cellsP (grp kind l)) ∧ Below w.heap.size w w' := by
  obtain ⟨ao, cap0, rfl, hc0⟩ := h
  have HC := Lib.hid hc0
  clear hc0
  obtain ⟨n, hn⟩ : ∃ n, n = l.length := ⟨_, rfl⟩
  rw [← hn] at hl ⊢
  have HN := Lib.hid hn
  clear hn
  go_enter Tryd.func45, Tryd.ntmps45
  go_wp2_with fail
  go_loopw [5, 11] (fun gv kv wr => ∃ (k : Nat), kv = .int .i64 k ∧ k ≤ n ∧ Below w.heap.size w wr ∧ Hid (wr.ownsRow w.heap.size 25 2 gv (grp kind (l.take k)).length (cellsP (grp kind (l.take k))))) (fun _ kv _ => n - (intOf kv).toNat)
  case atStart => exact ⟨0, by go_num, Nat.zero_le _, Below.refl _ _, owns_nil _ _⟩
  case round =>
    obtain ⟨k, rfl, hkn, hb, HO⟩ := hrel
    by_cases hlt : k < n
    · have hlt' : k < l.length := by have := HN.out; omega
      obtain ⟨b, off, ea, c0, c1⟩ := HC.out k hlt'
      subst ea
      have HG : Hid (grp kind (l.take (k + 1)) = Grp.step kind (grp kind (l.take k)) l[k]) := by
        show _ = _
        rw [List.take_succ_eq_append_getElem hlt', grp_snoc]
      have hgl : (grp kind (l.take k)).length ≤ k := by
        have h1 := grp_len kind (l.take k)
        have h2 := List.length_take_le k l
        omega
      replace c0 := (hb.cell (block_lt c0)).trans c0
      replace c1 := (hb.cell (block_lt c1)).trans c1
      generalize l[k] = p at c0 c1 HG
      obtain ⟨G, hG⟩ : ∃ G, G = grp kind (l.take k) := ⟨_, rfl⟩
      rw [← hG] at HO HG hgl
      clear hG
      obtain ⟨G2, hG2⟩ : ∃ G2, G2 = grp kind (l.take (k + 1)) := ⟨_, rfl⟩
      rw [← hG2] at HG
      have HG2 := Lib.hid hG2
      clear hG2
      obtain ⟨ps, pv⟩ := p
      rcases List.eq_nil_or_concat G with hG0 | ⟨A, q, hGA⟩
      · subst hG0
        obtain ⟨ga, gc, hgv⟩ : ∃ a c, u5 = .slice a 0 c := by
          rcases owns_row HO.out with ⟨h1, _⟩ | ⟨g, cap, h1, _, _⟩
          · exact ⟨_, _, h1⟩
          · exact ⟨_, _, h1⟩
        subst hgv
        go_wp2
        go_quiet (fail)
        go_wp2_with (at_builtin; refine Hid.out ?_)
        refine Lib.hid ?_
        refine wpList_append_pairs (w0 := w) rfl (.tmp 30) (.tmp 32) rfl _ [] rfl ((owns_drewN (HO.out.alloc _) _).alloc _) (.slice (some ⟨wr.heap.size + 1, 0, none⟩) 1 1) [(ps, pv)] rfl (isPairs_one ps pv _ _ (by simp)) (by simp) (blw_step hb (blw_step (blw_step (blw_box _) (blw_drewN _ _)) (blw_box _))) ?_
        intro v2 w2 hown2 hb2
        have HO2 := Lib.hid hown2
        clear c0 c1 HC HO hown2
        go_wp2
        go_roundw
        case rel => exact ⟨k + 1, by go_num, by omega, hb2, by rw [← HG2.out, HG.out]; exact HO2.out⟩
        case measure => simp [intOf]; omega
      · rw [List.concat_eq_append] at hGA
        subst hGA
        obtain ⟨g, gc, hgv, hbg, hrow⟩ : ∃ g c, u5 = .slice (some ⟨g, 0, none⟩) (A.length + 1) c ∧ w.heap.size ≤ g ∧ Row g (A ++ [q]) wr := by
          rcases owns_row HO.out with ⟨_, h2⟩ | ⟨g, cap, h1, h2, h3⟩
          · simp at h2
          · exact ⟨g, cap, by simpa using h1, h2, h3⟩
        subst hgv
        obtain ⟨q0, q1⟩ := hrow.at A.length (by simp)
        simp only [List.getElem_append_right (Nat.le_refl _), Nat.sub_self, List.getElem_singleton] at q0 q1
        have hgsz := hrow.lt
        have fz := hrow.frozen (A.length * 2 + 1)
        obtain ⟨qs, qv⟩ := q
        simp only at q0 q1
        simp only [List.length_append, List.length_cons, List.length_nil] at hgl
        obtain ⟨m, hm⟩ : ∃ m, m = A.length := ⟨_, rfl⟩
        rw [← hm] at q0 q1 fz hgl
        have HM := Lib.hid hm
        have HO' : Hid (wr.ownsRow w.heap.size 25 2 (.slice (some ⟨g, 0, none⟩) (m + 1) gc) (A ++ [(qs, qv)]).length (cellsP (A ++ [(qs, qv)]))) := by rw [hm]; exact HO.out
        rw [← hm]
        clear hm HO hrow
        have hd0 : decide ((m : Int) < 0) = false := decide_eq_false (by omega)
        by_cases hk : qs = ps
        · subst hk
          have T2 := two_any kind qv pv
          have HG3 : Hid (G2 = A ++ [(qs, two kind qv pv)]) := by
            show _ = _
            rw [HG.out, step_same kind A (qs, qv) (qs, pv) rfl]
          clear HG
          generalize two kind qv pv = x at *
          have HT2 := Lib.hid T2
          clear T2
          go_wp2
          go_quiet (fail)
          go_wp2
          obtain ⟨w1, hw1⟩ : ∃ w1, w1 = (wr.alloc (.cells #[.string qs, .int .i64 pv] 25)).drewN nq := ⟨_, rfl⟩
          have p1 : w1.cell? ⟨wr.heap.size, 1, none⟩ = some (.int .i64 pv) := by rw [hw1]; simp
          have hb1 : Below wr.heap.size wr w1 := by rw [hw1]; exact blw_step (blw_box _) (blw_drewN _ _)
          have HO1 : Hid (w1.ownsRow w.heap.size 25 2 (.slice (some ⟨g, 0, none⟩) (m + 1) gc) (A ++ [(qs, qv)]).length (cellsP (A ++ [(qs, qv)]))) := by rw [hw1]; exact owns_drewN (HO'.out.alloc _) _
          rw [← hw1]
          clear hw1 c0 c1 HC HO'
          replace q1 := (hb1.cell (p := ⟨g, m * 2 + 1, none⟩) hgsz).trans q1
          replace fz := (hb1.frozen (p := ⟨g, m * 2 + 1, none⟩) hgsz).trans fz
          go_region_with (go_at_call 64; refine (HT2.out _).mono ?_; rintro _ _ ⟨rfl, rfl⟩)
          all_goals
            have HO2 : Hid ((w1.setCell ⟨g, m * 2 + 1, none⟩ (.int .i64 x)).drew.ownsRow w.heap.size 25 2 (.slice (some ⟨g, 0, none⟩) (m + 1) gc) (A ++ [(qs, x)]).length (cellsP (A ++ [(qs, x)]))) := by
              have h1 := owns_val HO1.out x
              rw [← HM.out] at h1
              exact ⟨h1.1, h1.2⟩
            have hb2 : Below w.heap.size w (w1.setCell ⟨g, m * 2 + 1, none⟩ (.int .i64 x)).drew := blw_drew ((blw_step hb hb1).setCell hbg _)
            clear q1 fz p1 HO1
            generalize (w1.setCell ⟨g, m * 2 + 1, none⟩ (.int .i64 x)).drew = w2 at *
            go_wp2
            go_roundw
            case rel => exact ⟨k + 1, by go_num, by omega, hb2, by rw [← HG2.out, HG3.out]; exact HO2.out⟩
            case measure => simp [intOf]; omega
        · have hE := neq_list hk
          have HG3 : Hid (G2 = A ++ [(qs, qv)] ++ [(ps, pv)]) := by
            show _ = _
            rw [HG.out, step_other kind A (qs, qv) (ps, pv) hk]
          clear HG
          go_wp2
          go_quiet (fail)
          go_wp2_with (at_builtin; refine Hid.out ?_)
          refine Lib.hid ?_
          refine wpList_append_pairs (w0 := w) rfl (.tmp 30) (.tmp 32) rfl _ (A ++ [(qs, qv)]) rfl ((owns_drewN (HO'.out.alloc _) _).alloc _) (.slice (some ⟨wr.heap.size + 1, 0, none⟩) 1 1) [(ps, pv)] rfl (isPairs_one ps pv _ _ (by simp)) (by have := HM.out; simp; omega) (blw_step hb (blw_step (blw_step (blw_box _) (blw_drewN _ _)) (blw_box _))) ?_
          intro v2 w2 hown2 hb2
          have HO2 := Lib.hid hown2
          clear c0 c1 HC HO' hown2 q0 q1 fz hE hk hgsz hbg
          go_wp2
          go_roundw
          case rel => exact ⟨k + 1, by go_num, by omega, hb2, by rw [← HG2.out, HG3.out]; exact HO2.out⟩
          case measure => simp [intOf]; omega
    · have hfin : Hid (wr.ownsRow w.heap.size 25 2 u5 (grp kind l).length (cellsP (grp kind l))) := by
        have h1 := HO.out
        rw [List.take_of_length_le (by have := HN.out; omega)] at h1
        exact h1
      clear HC HO
      go_wp2
      go_ret
      exact ⟨_, rfl, hfin.out, hb⟩
end Go.Proofs.YtgkpnjnollfdaaaDoor.Pp
/- Mapper: Slices. -/
namespace Go.Proofs.YtgkpnjnollfdaaaDoor
open Go.ChangeShapes Go.WideShapes Go.ChangeAt Go.RowKit
/-- A slice, folded if that is wanted early. -/
def finL (early : Bool) (fold : Int) (l : List (ByteArray × Int)) : List (ByteArray × Int) := if early = true then Pp.Grp.grp fold l else l
/-- A run's slices. -/
def slicesOf (fold : Int) (early : Bool) (ns : Nat) (M : List (ByteArray × Int)) : List (List (ByteArray × Int)) := (List.range ns).map fun k => finL early fold (inSlice ns k (Pp.Tot.srt M))
theorem infoLst : (Tryd.prog.info? 22).map (fun i => (i.zero, i.size, i.bytes)) = some (some (.slice none 0 0), 1, 24) := by kernel_rfl
theorem made_nils (ns : Nat) : (madeCells (Value.slice none 0 0).cells (ns * 1)).toList = List.replicate ns (Value.slice none 0 0) := by
  rw [Nat.mul_one, show (Value.slice none 0 0).cells = #[.slice none 0 0] from rfl, toList_madeCells_one]
/-- The parts of a list by their slices. -/
def partsL (ns : Nat) (Z : List (ByteArray × Int)) : List (List (ByteArray × Int)) := (List.range ns).map fun k => inSlice ns k Z
theorem partsL_at {ns k : Nat} (h : k < ns) (Z : List (ByteArray × Int)) : (partsL ns Z)[k]? = some (inSlice ns k Z) := by
  unfold partsL
  rw [List.getElem?_map, List.getElem?_range h]
  rfl
theorem partsL_len (ns : Nat) (Z : List (ByteArray × Int)) : (partsL ns Z).length = ns := by simp [partsL]
theorem partsL_snoc {ns : Nat} (Z : List (ByteArray × Int)) (p : ByteArray × Int) (i : Nat) (hi : sliceN ns (Pp.Stable.key p) = i) (hn : i < ns) : partsL ns (Z ++ [p]) = (partsL ns Z).set i (inSlice ns i Z ++ [p]) := by
  apply List.ext_getElem?
  intro k
  rw [List.getElem?_set, partsL_len]
  by_cases hk : k < ns
  · rw [partsL_at hk, inSlice_snoc, hi]
    by_cases e : i = k
    · subst e; rw [if_pos rfl, if_pos rfl, if_pos hn]
    · rw [if_neg e, if_neg e, partsL_at hk]
  · rw [List.getElem?_eq_none (by rw [partsL_len]; omega), if_neg (by omega), List.getElem?_eq_none (by rw [partsL_len]; omega)]
theorem partsL_nil (ns : Nat) : partsL ns [] = List.replicate ns [] := by
  apply List.ext_getElem?
  intro k
  by_cases hk : k < ns
  · rw [partsL_at hk, List.getElem?_replicate, if_pos hk]; rfl
  · rw [List.getElem?_eq_none (by rw [partsL_len]; omega), List.getElem?_replicate, if_neg hk]
/-- The parts, so many of them folded. -/
def earlyL (fo : Int) (ns : Nat) (Z : List (ByteArray × Int)) (i : Nat) : List (List (ByteArray × Int)) := (List.range ns).map fun k => if k < i then Pp.Grp.grp fo (inSlice ns k Z) else inSlice ns k Z
theorem earlyL_at {fo : Int} {ns k : Nat} (h : k < ns) (Z : List (ByteArray × Int)) (i : Nat) : (earlyL fo ns Z i)[k]? = some (if k < i then Pp.Grp.grp fo (inSlice ns k Z) else inSlice ns k Z) := by
  unfold earlyL
  rw [List.getElem?_map, List.getElem?_range h]
  rfl
theorem earlyL_len (fo : Int) (ns : Nat) (Z : List (ByteArray × Int)) (i : Nat) : (earlyL fo ns Z i).length = ns := by simp [earlyL]
theorem earlyL_zero (fo : Int) (ns : Nat) (Z : List (ByteArray × Int)) : earlyL fo ns Z 0 = partsL ns Z := by simp [earlyL, partsL]
theorem earlyL_succ {fo : Int} {ns i : Nat} (h : i < ns) (Z : List (ByteArray × Int)) : earlyL fo ns Z (i + 1) = (earlyL fo ns Z i).set i (Pp.Grp.grp fo (inSlice ns i Z)) := by
  apply List.ext_getElem?
  intro k
  rw [List.getElem?_set, earlyL_len]
  by_cases hk : k < ns
  · rw [earlyL_at hk]
    by_cases e : i = k
    · subst e; rw [if_pos rfl, if_pos hk, if_pos (by omega)]
    · rw [if_neg e, earlyL_at hk]
      by_cases h2 : k < i
      · rw [if_pos h2, if_pos (by omega)]
      · rw [if_neg h2, if_neg (by omega)]
  · rw [List.getElem?_eq_none (by rw [earlyL_len]; omega), if_neg (by omega), List.getElem?_eq_none (by rw [earlyL_len]; omega)]
theorem earlyL_all (fo : Int) (ns : Nat) (M : List (ByteArray × Int)) : earlyL fo ns (Pp.Tot.srt M) ns = slicesOf fo true ns M := by
  unfold earlyL slicesOf finL
  apply List.map_congr_left
  intro k hk
  rw [List.mem_range] at hk
  rw [if_pos hk, if_pos rfl]
/-- What Slices gives: lists, each of its own. -/
def SlicesGive (w : World) (fo : Int) (ea : Bool) (ns : Nat) (M : List (ByteArray × Int)) (r : Ending) (w' : World) : Prop := ∃ g vs w2, r = .returned (.slice (some ⟨g, 0, none⟩) ns ns) ∧ SL w2 w' g vs (slicesOf fo ea ns M) ∧ w.heap.size ≤ g ∧ w.heap.size ≤ w2.heap.size ∧ Below w.heap.size w w'
set_option maxRecDepth 100000 in
set_option maxHeartbeats 4000000 in
theorem slices_own (R done : Nat) (l : List Rl) (fo : Int) (ea : Bool) (ns : Nat) (rv lv mv : Value) (lines : List (List UInt8)) (M : List (ByteArray × Int)) (w : World) (hr : IsMR w R ⟨l, fo, ea, (ns : Int)⟩ rv lv lines done mv M) (hs1 : 1 ≤ ns) (hs2 : ns ≤ 4) (hM : M.length ≤ 1000000) (hk : ∀ p ∈ M, p.1.size ≤ 1000) :
    Calls Tryd.prog 20 #[.pointer (some ⟨R, 0, none⟩)] w fun e w' => SlicesGive w fo ea ns M e w' := by
  obtain ⟨i0, hi0, hz0, hz1, hz2⟩ := info_parts infoLst
  have hRl := hr.blk.lt
  have HR := Lib.hid hr
  have c3 := hr.blk.at (i := 3) (v := .int .i64 (ns : Int)) rfl
  clear hr
  go_enter Tryd.func20, Tryd.ntmps20
  go_wp2_with (at_make; refine Hid.out ?_)
  refine Lib.hid ?_
  refine wpList_make_full w rfl (.tmp 12) (.tmp 12) 34 rfl w.heap.size 22 i0 _ 1 Tryd.underlying34 hi0 hz0 hz1 _ _ _ _ ns rfl rfl rfl rfl (by rw [hz2]; omega) (by unfold maxLen; omega) (Nat.le_refl _) ?_
  intro w1 hown hgrow
  have hb1 : Below w.heap.size w w1 := ⟨hgrow.os, hgrow.tape, hgrow.output, hgrow.size, fun k hk => hgrow.block k hk (by simp)⟩
  obtain ⟨hblk, -⟩ := owns_blk hown
  rw [made_nils ns] at hblk
  obtain ⟨g, hg⟩ : ∃ g, g = w.heap.size := ⟨_, rfl⟩
  rw [← hg] at hblk
  have R1 := HR.out.blw hb1
  have c6 := R1.blk.at (i := 6) (v := mv) rfl
  have hmv := Pp.owns_isPairs R1.row
  have SF := Lib.hid (Pp.sort_full mv M w1 hmv hM)
  obtain ⟨ma, mc, emv⟩ := id hmv
  have emv1 := emv.1
  subst emv1
  have HBLK := Lib.hid hblk
  have HB1 := Lib.hid hb1
  have HGG := Lib.hid hg
  have HK := Lib.hid hk
  have HRI := Lib.hid hz0
  rw [← hg]
  clear hown hgrow hb1 hblk hmv emv hg hk hz0 hz1 hz2 hi0 HRI c3 R1
  go_wp2_with (go_at_call 11; refine Hid.out ?_)
  refine Lib.hid ?_
  refine SF.out.mono ?_
  rintro _ w2 ⟨u, Z, rfl, hso, hse, hzl, hzp, hb12, gu, rfl⟩
  obtain rfl := Pp.Tot.srt_eq hso hse
  obtain ⟨n, hn⟩ : ∃ n, n = M.length := ⟨_, rfl⟩
  have hn1 : n ≤ 1000000 := by omega
  rw [← hn] at hzl hzp ⊢
  have S0 : Hid (SL w2 w2 g (List.replicate ns (Value.slice none 0 0)) (partsL ns ((Pp.Tot.srt M).take 0))) := by
    refine ⟨HBLK.out.blw hb12, Nat.lt_of_lt_of_le HBLK.out.lt hb12.size, by rw [partsL_len, List.length_replicate], fun k v l hv hl => ?_, fun i j vi vj _ hvi _ q hq => ?_, Only.refl _ _⟩
    · rw [List.take_zero, partsL_nil, List.getElem?_replicate] at hl
      rw [List.getElem?_replicate] at hv
      split at hv
      · rename_i h
        rw [if_pos h, Option.some.injEq] at hl
        rw [Option.some.injEq] at hv
        subst hv hl
        exact World.ownsRow_nil _ _ _ _
      · cases hv
    · rw [List.getElem?_replicate] at hvi
      split at hvi
      · rw [Option.some.injEq] at hvi
        subst hvi
        cases hq
      · cases hvi
  have HZK : Hid (∀ (k : Nat) (p : ByteArray × Int), (Pp.Tot.srt M)[k]? = some p → p.1.size ≤ 1000) := fun k p hp => HK.out p (Pp.Tot.srt_mem.1 (List.mem_of_getElem? hp))
  have HRw2 := Lib.hid (HR.out.blw (below_trans HB1.out hb12))
  have hRg : R < g := by rw [HGG.out]; exact hRl
  have HB2 := Lib.hid (below_trans HB1.out hb12)
  have HZP := Lib.hid hzp
  have HZL := Lib.hid hzl
  have HN := Lib.hid hn
  have HGB : Hid (∀ k, k < n → gu ≠ g) := fun k hk e => by
    obtain ⟨a', c', e1, hc⟩ := HZP.out
    obtain ⟨b, off, e2, c0, -⟩ := hc k (by rw [HZL.out]; exact hk)
    injection e1 with e1
    rw [← e1] at e2
    injection e2 with e2
    injection e2 with e2 e3
    subst e2 e3
    rw [e] at c0
    rw [S0.out.lst.cell, List.getElem?_replicate] at c0
    split at c0 <;> cases c0
  obtain ⟨Z, hZ⟩ : ∃ Z, Z = Pp.Tot.srt M := ⟨_, rfl⟩
  have HZE : Hid (Pp.Tot.srt M = Z) := hZ.symm
  rw [← hZ] at S0 HZK HZP HZL
  clear hZ hso hse hzl hzp hb12 hn SF c6 HBLK HB1 HR HK
  dsimp only
  go_wp2
  go_loopg [20] n (fun gg iv wr => ∃ (k : Nat) (vs : List Value), gg = n - k ∧ k ≤ n ∧ iv = .int .i64 k ∧ Hid (SL w2 wr g vs (partsL ns (Z.take k))))
  case atStart => exact ⟨0, _, rfl, Nat.zero_le _, rfl, S0⟩
  case round =>
    clear S0
    obtain ⟨k, vs, hgk, hk, rfl, HS⟩ := hrel
    have HGK := Lib.hid hgk
    clear hgk
    by_cases hlt : k < n
    · have hkz : k < Z.length := by rw [HZL.out]; exact hlt
      obtain ⟨a', c', e1, hc⟩ := HZP.out
      obtain ⟨b, off, e2, c0, c1⟩ := hc k hkz
      rw [Value.slice.injEq] at e1
      obtain ⟨e1, -, -⟩ := e1
      rw [← e1, Option.some.injEq, Addr.mk.injEq] at e2
      obtain ⟨e2, e3, -⟩ := e2
      rw [← e2, ← e3] at c0 c1
      simp only [Nat.zero_add] at c0 c1
      clear e1 e2 e3
      have hgn := HGB.out k hlt
      replace c0 := only_cell HS.out.only c0 hgn
      replace c1 := only_cell HS.out.only c1 hgn
      have HPK : Hid (Z[k].1.size ≤ 1000) := HZK.out k Z[k] (by simp)
      have HSN : Hid (Z.take (k + 1) = Z.take k ++ [Z[k]]) := List.take_succ_eq_append_getElem hkz
      obtain ⟨i, hi⟩ : ∃ i, i = sliceN ns (Pp.Stable.key Z[k]) := ⟨_, rfl⟩
      obtain ⟨hi1, hi2⟩ := sliceN_lt (many := (ns : Int)) (by omega) (Pp.Stable.key Z[k])
      rw [← hi] at hi1 hi2
      have hin : i < ns := by simpa using hi2
      have SLC : Hid (∀ w', Calls Tryd.prog 26 #[.string Z[k].1, .int .i64 (ns : Int)] w' fun e w'' => e = .returned (.int .i64 (i : Int)) ∧ w'' = w') := fun w' => by
        have h := Pp.slice_any Z[k].1 (ns : Int) w' (by unfold maxLen; have := HPK.out; omega) (by omega) (by omega)
        have e : Pp.ksum Z[k].1.data.toList % (ns : Int) = (i : Int) := by
          rw [hi1]
          unfold Pp.Stable.key
          rw [ByteArray.toList_eq]
        rw [e] at h
        exact h
      have HI := Lib.hid hi
      generalize Z[k] = p at *
      obtain ⟨ps, pv⟩ := p
      simp only at c0 c1 SLC HPK
      obtain ⟨w3, hw3⟩ : ∃ w3, w3 = wr.alloc (.cells #[.string ps, .int .i64 pv] 25) := ⟨_, rfl⟩
      obtain ⟨Pb, hPb⟩ : ∃ Pb, Pb = wr.heap.size := ⟨_, rfl⟩
      have PB : Blk w3 Pb 25 [.string ps, .int .i64 pv] := by rw [hw3]; exact blk_new hPb
      have hb3 : Below wr.heap.size wr w3 := by rw [hw3]; exact below_box _
      have S3 := Lib.hid (HS.out.below hb3)
      have hR3 : w3.cell? ⟨R, 3, none⟩ = some (.int .i64 (ns : Int)) := only_cell S3.out.only (HRw2.out.blk.at (i := 3) (v := .int .i64 (ns : Int)) rfl) (by simp; omega)
      have b0 := PB.at (i := 0) (v := .string ps) rfl
      have HPB := Lib.hid PB
      have HW3 := Lib.hid hw3
      have HPP := Lib.hid hPb
      clear hw3 hPb PB hb3 hc hi hi1 hi2 HS
      go_upto_region 5 with fail
      rw [← HW3.out, ← HPP.out]
      clear HW3 HPP c0 c1
      go_quiet ((go_at_call 26; exact Calls.quiet_of_same (SLC.out _)))
      obtain ⟨w4, hw4⟩ : ∃ w4, w4 = w3.drewN nq := ⟨_, rfl⟩
      have hb34 : Below w3.heap.size w3 w4 := by rw [hw4]; exact below_drewN _ _
      rw [← hw4]
      have S4 := Lib.hid (S3.out.below hb34)
      have PB4 := Lib.hid (HPB.out.blw hb34)
      obtain ⟨vi, hvi⟩ : ∃ vi, vs[i]? = some vi := ⟨vs[i]'(by rw [S4.out.len, partsL_len]; exact hin), by simp⟩
      have hLi := partsL_at hin (Z.take k)
      have hown := S4.out.each i vi _ hvi hLi
      have HLL : (inSlice ns i (Z.take k)).length ≤ 1000000 := by
        unfold inSlice
        have h1 := List.length_filter_le (fun p => decide (sliceN ns (Pp.Stable.key p) = i)) (Z.take k)
        have h2 := List.length_take_le' k Z
        have := HZL.out
        omega
      have HLK : (inSlice ns i (Z.take k)).length + 1 ≤ 1000000 := by
        unfold inSlice
        have h1 := List.length_filter_le (fun p => decide (sliceN ns (Pp.Stable.key p) = i)) (Z.take k)
        have h2 : (Z.take k).length ≤ k := List.length_take_le k Z
        have := HZL.out
        omega
      have HPS : Hid (partsL ns (Z.take (k + 1)) = (partsL ns (Z.take k)).set i (inSlice ns i (Z.take k) ++ [(ps, pv)])) := by
        show _ = _
        rw [HSN.out]
        exact partsL_snoc _ _ i HI.out.symm hin
      obtain ⟨via, vic, evi⟩ : ∃ va vc, vi = .slice va (inSlice ns i (Z.take k)).length vc := by
        rcases row_slice hown with ⟨h1, h2⟩ | ⟨g', c, h1, _⟩
        · exact ⟨_, _, by rw [h1, h2]⟩
        · exact ⟨_, _, h1⟩
      subst evi
      have HOWN := Lib.hid hown
      have HVI := Lib.hid hvi
      have HLI := Lib.hid hLi
      have HLKK := Lib.hid HLK
      generalize inSlice ns i (Z.take k) = L at *
      obtain ⟨ni, hni⟩ : ∃ ni, ni = L.length := ⟨_, rfl⟩
      rw [← hni] at HOWN HVI hvi
      have HNI := Lib.hid hni
      have l0 := S4.out.lst.at hvi
      have l0a : (w4.alloc (.cells #[.string ps, .int .i64 pv] 25)).cell? ⟨g, i, none⟩ = some (.slice via ni vic) := cell_below l0 (below_box _)
      have p0 := PB4.out.at (i := 0) (v := .string ps) rfl
      have p1 := PB4.out.at (i := 1) (v := .int .i64 pv) rfl
      have hsz4 := S4.out.only.size
      have HSZ4 := Lib.hid hsz4
      clear hw4 hb34 S3 HPB hLi hown hni HLL HLK b0 hR3 hvi hsz4
      have HOWN4 : Hid (∀ wc, Below w4.heap.size w4 wc → wc.ownsRow w2.heap.size 25 2 (.slice via ni vic) ni (Pp.cellsP L)) := fun wc hb => ow_below HOWN.out hb
      have HPUT : Hid (∀ (wc w5 : World) (va : Option Addr) (vc : Nat), Below w4.heap.size w4 wc → w5.ownsRow w2.heap.size 25 2 (.slice va (ni + 1) vc) (ni + 1) (Pp.cellsP (L ++ [(ps, pv)])) → wc.grownBy w5 (Value.slice via ni vic).ownBlock → ((Value.slice va (ni + 1) vc).ownBlock = (Value.slice via ni vic).ownBlock ∨ (Value.slice va (ni + 1) vc).ownBlock = some wc.heap.size) → (w5.cell? ⟨g, i, none⟩ = some (.slice via ni vic) ∧ w5.frozen? ⟨g, i, none⟩ = false) ∧ Hid (SL w2 (w5.setCell ⟨g, i, none⟩ (.slice va (ni + 1) vc)) g (vs.set i (.slice va (ni + 1) vc)) (partsL ns (Z.take (k + 1))))) := fun wc w5 va vc hb ho hg hat => by
        have S5 := S4.out.below hb
        have hbk := blk_ow S5.lst (HOWN4.out wc hb) (by decide) hg
        refine ⟨⟨hbk.at HVI.out, hbk.frozen i⟩, ?_⟩
        show SL _ _ _ _ _
        rw [HPS.out]
        refine S5.put HVI.out HLI.out (by rw [List.length_append, ← HNI.out]; exact ho) hg ?_
        rcases hat with h | h
        · exact .inl h
        · exact .inr (.inr ⟨_, h, Nat.le_refl _⟩)
      go_wp2
      go_region_law (first | (refine step_append_prs rfl (.tmp 37) (.tmp 39) rfl (base := w2.heap.size) (n := ni) (v := .slice via ni vic) (xv := .slice (some ⟨w4.heap.size, 0, none⟩) 1 1) (A := L) (B := [(ps, pv)]) (N := ni + 1) (by simp [Act.eval]) (HOWN4.out _ (by first | exact below_box _ | exact below_trans (Pp.blw_drew (Below.refl _ w4)) (below_box _) | exact Pp.blw_drew (below_box _))) HNI.out (by simp [Act.eval]) (by first | exact Pp.isPairs_one ps pv 1 _ (by simp) | exact Pp.isPairs_below (Pp.isPairs_one ps pv 1 _ (by simp)) (Pp.blw_drew (Below.refl _ _))) HLKK.out (by have := HSZ4.out; simp; omega) (by rw [List.length_append, ← HNI.out]; rfl) ?_; intro va vc w5 hown5 hgrow5 hat5; obtain ⟨⟨l5, f5⟩, HP5⟩ := HPUT.out _ w5 va vc (by first | exact below_box _ | exact below_trans (Pp.blw_drew (Below.refl _ w4)) (below_box _) | exact Pp.blw_drew (below_box _)) hown5 hgrow5 hat5; clear hown5 hgrow5 hat5) | fail)
      all_goals
        generalize w5.setCell ⟨g, i, none⟩ (.slice va (ni + 1) vc) = w6 at *
        clear l0 l0a p0 p1 l5 f5 HPUT HOWN4 HOWN S4 PB4 SLC HPS
        (try simp only [Exit.inBlock, Exit.then])
        go_wp2
        go_roundg (n - (k + 1))
        case measure => have := HGK.out; omega
        case rel => exact ⟨k + 1, _, rfl, by omega, by go_num, HP5⟩
    · have hkn : k = n := by omega
      have HF0 : Hid (Z.take k = Z) := List.take_of_length_le (by have := HZL.out; omega)
      rw [HF0.out] at HS
      have hR2 : wr.cell? ⟨R, 2, none⟩ = some (.bool ea) := only_cell HS.out.only (HRw2.out.blk.at (i := 2) (v := .bool ea) rfl) (by simp; omega)
      have HBW : Hid (Below w.heap.size w wr) := ⟨HS.out.only.os.trans HB2.out.os, HS.out.only.tape.trans HB2.out.tape, HS.out.only.output.trans HB2.out.output, Nat.le_trans HB2.out.size HS.out.only.size, fun q hq => (HS.out.only.block q (Nat.lt_of_lt_of_le hq HB2.out.size) (fun e => by injection e with e; have := HGG.out; omega)).trans (HB2.out.block q hq)⟩
      clear hkn HF0
      cases ea with
      | false =>
        have HE : Hid (slicesOf fo false ns M = partsL ns Z) := by
          show _ = _
          unfold slicesOf
          rw [HZE.out]
          rfl
        go_wp2
        go_ret
        exact ⟨g, vs, w2, rfl, by rw [HE.out]; exact HS.out, Nat.le_of_eq HGG.out.symm, HB2.out.size, HBW.out⟩
      | true =>
        rw [← earlyL_zero fo] at HS
        have HIL : Hid (∀ k, (inSlice ns k Z).length ≤ 1000000) := fun k => by
          unfold inSlice
          have h1 := List.length_filter_le (fun p => decide (sliceN ns (Pp.Stable.key p) = k)) Z
          have := HZL.out
          omega
        have HFE : Hid (earlyL fo ns Z ns = slicesOf fo true ns M) := by
          show _ = _
          rw [← HZE.out]
          exact earlyL_all fo ns M
        go_wp2
        clear hR2 hlt HGK hk
        go_loopg [50] ns (fun gg iv wq => ∃ (i : Nat) (vs : List Value), gg = ns - i ∧ i ≤ ns ∧ iv = .int .i64 i ∧ Hid (SL w2 wq g vs (earlyL fo ns Z i)))
        case atStart => exact ⟨0, _, rfl, Nat.zero_le _, rfl, HS⟩
        case round =>
          clear HS HBW
          obtain ⟨i, vs, hgi, hi, rfl, HS⟩ := hrel
          have HGI := Lib.hid hgi
          clear hgi
          by_cases hlt : i < ns
          · obtain ⟨vi, hvi⟩ : ∃ vi, vs[i]? = some vi := ⟨vs[i]'(by rw [HS.out.len, earlyL_len]; exact hlt), by simp⟩
            have hLi := earlyL_at (fo := fo) hlt Z i
            rw [if_neg (Nat.lt_irrefl i)] at hLi
            have hown := HS.out.each i vi _ hvi hLi
            obtain ⟨via, vic, evi⟩ : ∃ va vc, vi = .slice va (inSlice ns i Z).length vc := by
              rcases row_slice hown with ⟨h1, h2⟩ | ⟨g', c, h1, _⟩
              · exact ⟨_, _, by rw [h1, h2]⟩
              · exact ⟨_, _, h1⟩
            subst evi
            have HSU : Hid (earlyL fo ns Z (i + 1) = (earlyL fo ns Z i).set i (Pp.Grp.grp fo (inSlice ns i Z))) := earlyL_succ hlt Z
            have hli := HIL.out i
            have GR : Hid (∀ wc, Below wr.heap.size wr wc → Calls Tryd.prog 45 #[.int .i64 fo, .slice via (inSlice ns i Z).length vic] wc fun e w' => ∃ ua uc, e = .returned (.slice ua (Pp.Grp.grp fo (inSlice ns i Z)).length uc) ∧ w'.ownsRow wc.heap.size 25 2 (.slice ua (Pp.Grp.grp fo (inSlice ns i Z)).length uc) (Pp.Grp.grp fo (inSlice ns i Z)).length (Pp.cellsP (Pp.Grp.grp fo (inSlice ns i Z))) ∧ Below wc.heap.size wc w') := fun wc hb => by
              refine (Pp.groups_own fo _ (inSlice ns i Z) wc (Pp.isPairs_below (Pp.owns_isPairs hown) hb) hli).mono ?_
              rintro e w' ⟨u, rfl, h1, h2⟩
              obtain ⟨ua, uc, rfl⟩ : ∃ va vc, u = .slice va (Pp.Grp.grp fo (inSlice ns i Z)).length vc := by
                rcases row_slice h1 with ⟨h3, h4⟩ | ⟨g', c, h3, _⟩
                · exact ⟨_, _, by rw [h3, h4]⟩
                · exact ⟨_, _, h3⟩
              exact ⟨ua, uc, rfl, h1, h2⟩
            have HSC := Lib.hid HS.out
            have HVI := Lib.hid hvi
            have HLI := Lib.hid hLi
            have PUT : Hid (∀ (wc w' : World) (ua : Option Addr) (uc : Nat), Below wr.heap.size wr wc → w'.ownsRow wc.heap.size 25 2 (.slice ua (Pp.Grp.grp fo (inSlice ns i Z)).length uc) (Pp.Grp.grp fo (inSlice ns i Z)).length (Pp.cellsP (Pp.Grp.grp fo (inSlice ns i Z))) → Below wc.heap.size wc w' → (w'.cell? ⟨g, i, none⟩ = some (.slice via (inSlice ns i Z).length vic) ∧ w'.frozen? ⟨g, i, none⟩ = false) ∧ Hid (SL w2 (w'.setCell ⟨g, i, none⟩ (.slice ua (Pp.Grp.grp fo (inSlice ns i Z)).length uc)) g (vs.set i (.slice ua (Pp.Grp.grp fo (inSlice ns i Z)).length uc)) (earlyL fo ns Z (i + 1)))) := fun wc w' ua uc hb ho hb2 => by
              have S5 := HSC.out.below hb
              have hbk := S5.lst.blw hb2
              refine ⟨⟨hbk.at HVI.out, hbk.frozen i⟩, ?_⟩
              show SL _ _ _ _ _
              rw [HSU.out]
              refine S5.put HVI.out HLI.out (ow_low ho S5.only.size) ⟨hb2.os, hb2.tape, hb2.output, hb2.size, fun k hk _ => hb2.block k hk⟩ ?_
              cases hq : (Value.slice ua (Pp.Grp.grp fo (inSlice ns i Z)).length uc).ownBlock with
              | none => exact .inr (.inl rfl)
              | some b => exact .inr (.inr ⟨b, rfl, (ho.lt b hq).1⟩)
            have l0 := HS.out.lst.at hvi
            have hR1 : wr.cell? ⟨R, 1, none⟩ = some (.int .i64 fo) := only_cell HS.out.only (HRw2.out.blk.at (i := 1) (v := .int .i64 fo) rfl) (by simp; omega)
            generalize (Pp.Grp.grp fo (inSlice ns i Z)).length = gl at *
            generalize (inSlice ns i Z).length = il at *
            clear hown hvi hLi HS HSC HVI HLI HSU hli
            go_upto_region 12 with fail
            go_region_with (go_at_call 45; refine (GR.out _ (by first | exact Below.refl _ _ | exact Pp.blw_drew (Below.refl _ wr))).mono ?_; rintro _ w9 ⟨ua, uc, rfl, ho, hb9⟩; obtain ⟨⟨l9, f9⟩, HP9⟩ := PUT.out _ w9 ua uc (by first | exact Below.refl _ _ | exact Pp.blw_drew (Below.refl _ wr)) ho hb9; clear ho hb9 l0 hR1)
            all_goals
              generalize w9.setCell ⟨g, i, none⟩ (.slice ua gl uc) = w10 at *
              clear l9 f9 PUT GR
              (try simp only [Exit.inBlock, Exit.then])
              go_wp2
              go_roundg (ns - (i + 1))
              case measure => have := HGI.out; omega
              case rel => exact ⟨i + 1, _, rfl, by omega, by go_num, HP9⟩
          · have him : i = ns := by omega
            have HL : Hid (SL w2 wr g vs (slicesOf fo true ns M)) := by
              have h := HS.out
              rw [him, HFE.out] at h
              exact h
            have HBW : Hid (Below w.heap.size w wr) := ⟨HS.out.only.os.trans HB2.out.os, HS.out.only.tape.trans HB2.out.tape, HS.out.only.output.trans HB2.out.output, Nat.le_trans HB2.out.size HS.out.only.size, fun q hq => (HS.out.only.block q (Nat.lt_of_lt_of_le hq HB2.out.size) (fun e => by injection e with e; have := HGG.out; omega)).trans (HB2.out.block q hq)⟩
            clear him
            go_wp2
            go_ret
            exact ⟨g, vs, w2, rfl, HL.out, Nat.le_of_eq HGG.out.symm, HB2.out.size, HBW.out⟩
theorem slices_any (R done : Nat) (l : List Rl) (fo : Int) (ea : Bool) (ns : Nat) (rv lv mv : Value) (lines : List (List UInt8)) (M : List (ByteArray × Int)) (w : World) (hr : IsMR w R ⟨l, fo, ea, (ns : Int)⟩ rv lv lines done mv M) (hs1 : 1 ≤ ns) (hs2 : ns ≤ 4) (hM : M.length ≤ 1000000) (hk : ∀ p ∈ M, p.1.size ≤ 1000) :
    Calls Tryd.prog 20 #[.pointer (some ⟨R, 0, none⟩)] w fun e w' => ∃ u, e = .returned u ∧ Pp.IsLists w' u (slicesOf fo ea ns M) ∧ Below w.heap.size w w' :=
  (slices_own R done l fo ea ns rv lv mv lines M w hr hs1 hs2 hM hk).mono fun _ _ ⟨g, _, _, h1, h2, _, _, h5⟩ => ⟨_, h1, h2.isLists (by simp [slicesOf]), h5⟩
end Go.Proofs.YtgkpnjnollfdaaaDoor
/- Lists of lists, each an own row, told apart by their types; parts and outputs side by side. -/
namespace Go.Proofs.YtgkpnjnollfdaaaDoor
open Go.ChangeShapes Go.WideShapes Go.ChangeAt Go.RowKit
/-- A block of slices, each of an own row. -/
structure RW (B : Nat) (w : World) (g : Nat) (t e : TypeId) (size : Nat) (vs : List Value) (rs : List (Nat × List Value)) : Prop where
  lst : Blk w g t vs
  len : vs.length = rs.length
  each : ∀ (k : Nat) (v : Value) (r : Nat × List Value), vs[k]? = some v → rs[k]? = some r → w.ownsRow B e size v r.1 r.2
  apart : ∀ (i j : Nat) (vi vj : Value), i ≠ j → vs[i]? = some vi → vs[j]? = some vj → ∀ g, vi.ownBlock = some g → vj.ownBlock ≠ some g
theorem RW.below {B : Nat} {w w' : World} {g : Nat} {t e : TypeId} {size : Nat} {vs : List Value} {rs : List (Nat × List Value)} (h : RW B w g t e size vs rs) (hb : Below w.heap.size w w') : RW B w' g t e size vs rs :=
  ⟨h.lst.blw hb, h.len, fun k v l hv hl => ow_below (h.each k v l hv hl) hb, h.apart⟩
/-- A row of another type has grown. -/
theorem RW.grown {B B' : Nat} {w w' : World} {g n' size' : Nat} {t e e' : TypeId} {size : Nat} {vs : List Value} {rs : List (Nat × List Value)} {u : Value} {xs' : List Value} (h : RW B w g t e size vs rs) (hu : w.ownsRow B' e' size' u n' xs') (h1 : t ≠ e') (h2 : e ≠ e') (hg : w.grownBy w' u.ownBlock) : RW B w' g t e size vs rs :=
  ⟨blk_ow h.lst hu h1 hg, h.len, fun k v l hv hl => ow_grown (h.each k v l hv hl) hu h2 hg, h.apart⟩
/-- A block of another type is written. -/
theorem RW.other {B : Nat} {w : World} {g g' i : Nat} {t e t' : TypeId} {size : Nat} {vs ys : List Value} {rs : List (Nat × List Value)} {x : Value} (h : RW B w g t e size vs rs) (hk : Blk w g' t' ys) (h1 : t ≠ t') (h2 : e ≠ t') : RW B (w.setCell ⟨g', i, none⟩ x) g t e size vs rs :=
  ⟨blk_other h.lst hk h1, h.len, fun k v l hv hl => ow_other (h.each k v l hv hl) hk h2, h.apart⟩
/-- One of them has grown, and stands there anew. -/
theorem RW.put {B : Nat} {w w' : World} {g i : Nat} {t e : TypeId} {size : Nat} {vs : List Value} {rs : List (Nat × List Value)} {v v' : Value} {r r' : Nat × List Value} (h : RW B w g t e size vs rs) (hne : e ≠ t) (hv : vs[i]? = some v) (hl : rs[i]? = some r)
    (ho : w'.ownsRow B e size v' r'.1 r'.2) (hg : w.grownBy w' v.ownBlock) (hat : v'.ownBlock = v.ownBlock ∨ v'.ownBlock = none ∨ ∃ b, v'.ownBlock = some b ∧ w.heap.size ≤ b) :
    RW B (w'.setCell ⟨g, i, none⟩ v') g t e size (vs.set i v') (rs.set i r') := by
  have hr := h.each i v r hv hl
  have lst' : Blk w' g t vs := blk_ow h.lst hr (fun e => hne e.symm) hg
  have old : ∀ (k : Nat) (u : Value), vs[k]? = some u → ∀ b, u.ownBlock = some b → b < w.heap.size := fun k u hu b hb => by
    obtain ⟨m, hm⟩ : ∃ m, rs[k]? = some m := ⟨rs[k]'(by rw [← h.len]; exact (List.getElem?_eq_some_iff.1 hu).1), by simp⟩
    exact ((h.each k u m hu hm).lt b hb).2
  refine ⟨lst'.set i v', by simp [h.len], fun k u m hu hm => ?_, fun a b va vb hab hva hvb q hq => ?_⟩
  · by_cases e' : k = i
    · subst e'
      have hk := (List.getElem?_eq_some_iff.1 hv).1
      have hk2 := (List.getElem?_eq_some_iff.1 hl).1
      rw [List.getElem?_set, if_pos rfl, if_pos hk, Option.some.injEq] at hu
      rw [List.getElem?_set, if_pos rfl, if_pos hk2, Option.some.injEq] at hm
      subst hu hm
      exact ow_other ho lst' hne
    · rw [List.getElem?_set, if_neg (fun h => e' h.symm)] at hu hm
      have r2 := h.each k u m hu hm
      have r3 : w'.ownsRow B e size u m.1 m.2 := r2.kept hg (by
        cases hub : u.ownBlock with
        | none => exact .inl rfl
        | some b =>
          right
          intro e2
          exact h.apart k i u v e' hu hv b hub e2.symm)
      exact ow_other r3 lst' hne
  · rw [List.getElem?_set] at hva hvb
    have newOld : ∀ (k : Nat) (u : Value), k ≠ i → vs[k]? = some u → ∀ q, v'.ownBlock = some q → u.ownBlock ≠ some q := fun k u hk hu q hq e => by
      rcases hat with h1 | h1 | ⟨b, h1, h2⟩
      · rw [h1] at hq
        exact h.apart i k v u (fun e => hk e.symm) hv hu q hq e
      · rw [h1] at hq; cases hq
      · rw [h1] at hq
        injection hq with hq
        have := old k u hu q e
        omega
    by_cases ea : i = a
    · rw [if_pos ea] at hva
      split at hva
      · rw [Option.some.injEq] at hva
        subst hva
        rw [if_neg (by omega)] at hvb
        exact newOld b vb (by omega) hvb q hq
      · cases hva
    · rw [if_neg ea] at hva
      by_cases eb : i = b
      · rw [if_pos eb] at hvb
        split at hvb
        · rw [Option.some.injEq] at hvb
          subst hvb
          intro e
          exact newOld a va (by omega) hva q e hq
        · cases hvb
      · rw [if_neg eb] at hvb
        exact h.apart a b va vb hab hva hvb q hq
/-- What a list of a part is: the slice, and the pairs that lie there. -/
def rowsOf (X : List (List (Value × List (ByteArray × Int)))) : List (Nat × List Value) := X.map fun x => (x.length, x.map Prod.fst)
def textsOf (T : List (List ByteArray)) : List (Nat × List Value) := T.map fun x => (x.length, x.map Value.string)
/-- A job, its parts' lists by their slices, two outputs; nothing else of what was there has turned. -/
structure EI (w wr : World) (P G O : Nat) (jv vs : List Value) (X : List (List (Value × List (ByteArray × Int)))) (s : List Value) (T : List (List ByteArray)) : Prop where
  org : Below w.heap.size w wr
  job : Blk wr P 37 jv
  parts : RW w.heap.size wr G 34 22 1 vs (rowsOf X)
  prs : ∀ x ∈ X, ∀ p ∈ x, wr.ownsRow w.heap.size 25 2 p.1 p.2.length (Pp.cellsP p.2)
  outs : RW w.heap.size wr O 58 9 1 s (textsOf T)
  lowP : w.heap.size ≤ P
  lowG : w.heap.size ≤ G
  lowO : w.heap.size ≤ O
theorem EI.below {w wr w' : World} {P G O : Nat} {jv vs s : List Value} {X : List (List (Value × List (ByteArray × Int)))} {T : List (List ByteArray)} (h : EI w wr P G O jv vs X s T) (hb : Below wr.heap.size wr w') : EI w w' P G O jv vs X s T :=
  ⟨h.org.trans (hb.mono h.org.size), h.job.blw hb, h.parts.below hb, fun x hx p hp => ow_below (h.prs x hx p hp) hb, h.outs.below hb, h.lowP, h.lowG, h.lowO⟩
/-- The job is written. -/
theorem EI.setJob {w wr : World} {P G O : Nat} {jv vs s : List Value} {X : List (List (Value × List (ByteArray × Int)))} {T : List (List ByteArray)} (h : EI w wr P G O jv vs X s T) (i : Nat) (v : Value) : EI w (wr.setCell ⟨P, i, none⟩ v) P G O (jv.set i v) vs X s T :=
  ⟨h.org.setCell (p := ⟨P, i, none⟩) h.lowP v, h.job.set i v, h.parts.other h.job (by decide) (by decide), fun x hx p hp => ow_other (h.prs x hx p hp) h.job (by decide), h.outs.other h.job (by decide) (by decide), h.lowP, h.lowG, h.lowO⟩
/-- A list is put behind a slice's lists. -/
theorem EI.push {w wr w1 : World} {P G O i : Nat} {jv vs s : List Value} {X : List (List (Value × List (ByteArray × Int)))} {T : List (List ByteArray)} {v v' u : Value} {x : List (Value × List (ByteArray × Int))} {L : List (ByteArray × Int)}
    (h : EI w wr P G O jv vs X s T) (hv : vs[i]? = some v) (hx : X[i]? = some x) (hu : wr.ownsRow w.heap.size 25 2 u L.length (Pp.cellsP L))
    (ho : w1.ownsRow w.heap.size 22 1 v' (x.length + 1) (x.map Prod.fst ++ [u])) (hg : wr.grownBy w1 v.ownBlock) (hat : v'.ownBlock = v.ownBlock ∨ v'.ownBlock = none ∨ ∃ b, v'.ownBlock = some b ∧ wr.heap.size ≤ b) :
    (w1.cell? ⟨G, i, none⟩ = some v ∧ w1.frozen? ⟨G, i, none⟩ = false) ∧ EI w (w1.setCell ⟨G, i, none⟩ v') P G O jv (vs.set i v') (X.set i (x ++ [(u, L)])) s T := by
  have hr : (rowsOf X)[i]? = some (x.length, x.map Prod.fst) := by unfold rowsOf; rw [List.getElem?_map, hx]; rfl
  have row := h.parts.each i v _ hv hr
  have hlow : ∀ g, v.ownBlock = some g → w.heap.size ≤ g := fun g hg => (row.lt g hg).1
  have b1 : Below w.heap.size w w1 := h.org.grown hg h.org.size hlow
  have e : rowsOf (X.set i (x ++ [(u, L)])) = (rowsOf X).set i (x.length + 1, x.map Prod.fst ++ [u]) := by
    unfold rowsOf
    rw [List.map_set]
    simp
  have lst1 : Blk w1 G 34 vs := blk_ow h.parts.lst row (by decide) hg
  have job1 : Blk w1 P 37 jv := blk_ow h.job row (by decide) hg
  refine ⟨⟨lst1.at hv, lst1.frozen i⟩, ⟨b1.setCell (p := ⟨G, i, none⟩) h.lowG v', blk_other job1 lst1 (by decide), ?_, fun y hy p hp => ?_, (h.outs.grown row (by decide) (by decide) hg).other lst1 (by decide) (by decide), h.lowP, h.lowG, h.lowO⟩⟩
  · rw [e]
    exact h.parts.put (by decide) hv hr ho hg hat
  · refine ow_other ?_ lst1 (by decide)
    rcases List.mem_or_eq_of_mem_set hy with hy | rfl
    · exact ow_grown (h.prs y hy p hp) row (by decide) hg
    · rcases List.mem_append.1 hp with hp | hp
      · exact ow_grown (h.prs x (List.mem_of_getElem? hx) p hp) row (by decide) hg
      · rw [List.mem_singleton] at hp
        subst hp
        exact ow_grown hu row (by decide) hg
/-- A text is put behind an output. -/
theorem EI.tell {w wr w1 : World} {P G O i : Nat} {jv vs s : List Value} {X : List (List (Value × List (ByteArray × Int)))} {T : List (List ByteArray)} {v v' : Value} {x : List ByteArray} {b : ByteArray}
    (h : EI w wr P G O jv vs X s T) (hv : s[i]? = some v) (hx : T[i]? = some x)
    (ho : w1.ownsRow w.heap.size 9 1 v' (x.length + 1) (x.map Value.string ++ [.string b])) (hg : wr.grownBy w1 v.ownBlock) (hat : v'.ownBlock = v.ownBlock ∨ v'.ownBlock = none ∨ ∃ b, v'.ownBlock = some b ∧ wr.heap.size ≤ b) :
    (w1.cell? ⟨O, i, none⟩ = some v ∧ w1.frozen? ⟨O, i, none⟩ = false) ∧ EI w (w1.setCell ⟨O, i, none⟩ v') P G O jv vs X (s.set i v') (T.set i (x ++ [b])) := by
  have hr : (textsOf T)[i]? = some (x.length, x.map Value.string) := by unfold textsOf; rw [List.getElem?_map, hx]; rfl
  have row := h.outs.each i v _ hv hr
  have hlow : ∀ g, v.ownBlock = some g → w.heap.size ≤ g := fun g hg => (row.lt g hg).1
  have b1 : Below w.heap.size w w1 := h.org.grown hg h.org.size hlow
  have e : textsOf (T.set i (x ++ [b])) = (textsOf T).set i (x.length + 1, x.map Value.string ++ [.string b]) := by
    unfold textsOf
    rw [List.map_set]
    simp
  have lst1 : Blk w1 O 58 s := blk_ow h.outs.lst row (by decide) hg
  have job1 : Blk w1 P 37 jv := blk_ow h.job row (by decide) hg
  refine ⟨⟨lst1.at hv, lst1.frozen i⟩, ⟨b1.setCell (p := ⟨O, i, none⟩) h.lowO v', blk_other job1 lst1 (by decide), (h.parts.grown row (by decide) (by decide) hg).other lst1 (by decide) (by decide), fun y hy p hp => ow_other (ow_grown (h.prs y hy p hp) row (by decide) hg) lst1 (by decide), ?_, h.lowP, h.lowG, h.lowO⟩⟩
  rw [e]
  exact h.outs.put (by decide) hv hr ho hg hat
/-- New lists of parts, none in them. -/
theorem EI.anew {w wr w1 : World} {P G O G' n : Nat} {jv vs s : List Value} {X : List (List (Value × List (ByteArray × Int)))} {T : List (List ByteArray)} (h : EI w wr P G O jv vs X s T) (hb : Below wr.heap.size wr w1) (hk : Blk w1 G' 34 (List.replicate n (.slice none 0 0))) (hG : wr.heap.size ≤ G') : EI w w1 P G' O jv (List.replicate n (.slice none 0 0)) (List.replicate n []) s T := by
  have hi := h.below hb
  refine ⟨hi.org, hi.job, ⟨hk, by simp [rowsOf], fun k v r hv hr => ?_, fun i j vi vj _ hvi _ g hg => ?_⟩, fun x hx p hp => ?_, hi.outs, hi.lowP, Nat.le_trans h.org.size hG, hi.lowO⟩
  · have e1 : v = .slice none 0 0 := (List.mem_replicate.1 (List.mem_of_getElem? hv)).2
    unfold rowsOf at hr
    rw [List.map_replicate] at hr
    have e2 := (List.mem_replicate.1 (List.mem_of_getElem? hr)).2
    subst e1 e2
    exact World.ownsRow_nil _ _ _ _
  · have e1 : vi = .slice none 0 0 := (List.mem_replicate.1 (List.mem_of_getElem? hvi)).2
    subst e1
    cases hg
  · have e1 : x = [] := (List.mem_replicate.1 hx).2
    subst e1
    cases hp
/-- A slice's lists, read. -/
theorem EI.lists {w wr : World} {P G O i : Nat} {jv vs s : List Value} {X : List (List (Value × List (ByteArray × Int)))} {T : List (List ByteArray)} {v : Value} {x : List (Value × List (ByteArray × Int))} (h : EI w wr P G O jv vs X s T) (hv : vs[i]? = some v) (hx : X[i]? = some x) : wr.cell? ⟨G, i, none⟩ = some v ∧ Pp.IsLists wr v (x.map Prod.snd) := by
  have hr : (rowsOf X)[i]? = some (x.length, x.map Prod.fst) := by unfold rowsOf; rw [List.getElem?_map, hx]; rfl
  have row := h.parts.each i v _ hv hr
  refine ⟨h.parts.lst.at hv, ?_⟩
  have hx' : x ∈ X := List.mem_of_getElem? hx
  rcases row_slice row with ⟨h1, h2⟩ | ⟨g, cap, h1, _⟩
  · simp only at h2
    exact ⟨none, 0, by rw [h1, List.length_map, h2], fun k hk => by rw [List.length_map, h2] at hk; omega⟩
  · subst h1
    refine ⟨some ⟨g, 0, none⟩, cap, by rw [List.length_map], fun k hk => ?_⟩
    have hk' : k < x.length := by simpa using hk
    refine ⟨g, 0, (x[k]).1, rfl, ?_, ?_⟩
    · rw [Nat.zero_add, row.cellAt k (by simpa using hk'), List.getElem?_map, List.getElem?_eq_getElem hk']
      rfl
    · rw [List.getElem_map]
      exact Pp.owns_isPairs (h.prs x hx' x[k] (List.getElem_mem hk'))
end Go.Proofs.YtgkpnjnollfdaaaDoor
/- Folding early: a slice is put behind its parts. Written by tpl/mk_e.py. -/
namespace Go.Proofs.YtgkpnjnollfdaaaDoor
open Go.ChangeShapes Go.WideShapes Go.ChangeAt Go.RowKit
theorem wp_last {c : Code} {Q : Exit → Act → World → Prop} {a : Act} {w : World} (h : c.wp Tryd.prog (Exit.then (fun a w => Q .normal a w) fun _ _ _ => False) a w) : c.wp Tryd.prog Q a w :=
  wp_mono h fun e a w hq => by
    cases e with
    | normal => exact hq
    | exit id => exact False.elim hq
    | goto l => exact False.elim hq
    | ret => exact False.elim hq
    | panic ch => exact False.elim hq
    | outgrown => exact False.elim hq
theorem infoLs : (Tryd.prog.info? 34).map (fun i => (i.zero, i.size, i.bytes)) = some (some (.slice none 0 0), 1, 24) := by kernel_rfl
theorem infoSt : (Tryd.prog.info? 9).map (fun i => (i.zero, i.size, i.bytes)) = some (some (.string ⟨#[]⟩), 1, 16) := by kernel_rfl
set_option maxRecDepth 1000000 in
set_option maxHeartbeats 4000000 in
theorem early_r26 (w : World) (P G O sb i n ns : Nat) (jv vs us S : List Value) (X : List (List (Value × List (ByteArray × Int)))) (T : List (List ByteArray)) (x : List (Value × List (ByteArray × Int))) (L : List (ByteArray × Int)) (va ua : Option Addr) (vc un uc : Nat) (w0 : World) (K : Act → World → Prop) (s0 s1 s2 s3 s4 s5 s6 s7 s8 s9 s10 s11 s13 s14 s15 s18 s19 s20 s21 s22 s23 s24 s25 s26 s27 s28 s29 s30 s31 s32 s33 s34 s35 s36 s37 s38 s39 s40 s41 s42 s43 s44 s45 s46 s47 s48 s49 s50 s51 s52 s53 s54 s55 s56 s57 s58 s59 s60 s61 s62 s63 s64 s65 s66 s67 s68 s69 s70 s71 s72 s73 s74 s75 s76 s77 s78 s79 s80 s81 s82 s83 s84 s85 s86 s87 s88 s89 s90 s91 s92 s93 s94 s95 s96 s97 s98 s99 s100 s101 s102 s103 s104 s105 s106 s107 s108 s109 s110 s111 s112 s113 s114 s115 s116 s117 s118 s119 s120 s121 s122 s123 s124 s125 s126 s127 s128 s129 s130 s131 s132 s133 s134 s135 s136 s137 s138 s139 s140 s141 s142 s143 s144 s145 s146 : Value)
    (hI : EI w w0 P G O jv vs X S T)
    (hns : vs.length = ns)
    (hv : vs[i]? = some (.slice va n vc))
    (hx : X[i]? = some x)
    (hn : n = x.length)
    (hnl : n ≤ 1000)
    (hu : w0.ownsRow w.heap.size 25 2 (.slice ua un uc) L.length (Pp.cellsP L))
    (hS : Blk w0 sb 22 us)
    (hsu : us[i]? = some (.slice ua un uc))
    (hap : ∀ g, (Value.slice va n vc).ownBlock = some g → g ≠ sb)
    (HK : Hid (∀ (z100 z101 z102 z103 z104 z105 z106 z107 z108 z109 z110 z111 z112 : Value) (v' : Value) (wx : World), EI w wx P G O jv (vs.set i v') (X.set i (x ++ [(.slice ua un uc, L)])) S T → Blk wx sb 22 us → (∀ B v m ys, w0.ownsRow B 25 2 v m ys → wx.ownsRow B 25 2 v m ys) → K ⟨#[s0, s1, s2, s3, s4, s5, s6, s7, s8, s9, s10, s11, .slice (some ⟨G, 0, none⟩) ns ns, s13, s14, s15, .slice (some ⟨sb, 0, none⟩) ns ns, .int .i64 (i : Int), s18, s19, s20, s21, s22, s23, s24, s25, s26, s27, s28, s29, s30, s31, s32, s33, s34, s35, s36, s37, s38, s39, s40, s41, s42, s43, s44, s45, s46, s47, s48, s49, s50, s51, s52, s53, s54, s55, s56, s57, s58, s59, s60, s61, s62, s63, s64, s65, s66, s67, s68, s69, s70, s71, s72, s73, s74, s75, s76, s77, s78, s79, s80, s81, s82, s83, s84, s85, s86, s87, s88, s89, s90, s91, s92, s93, s94, s95, s96, s97, s98, s99, z100, z101, z102, z103, z104, z105, z106, z107, z108, z109, z110, z111, z112, s113, s114, s115, s116, s117, s118, s119, s120, s121, s122, s123, s124, s125, s126, s127, s128, s129, s130, s131, s132, s133, s134, s135, s136, s137, s138, s139, s140, s141, s142, s143, s144, s145, s146], []⟩ wx)) :
    Code.wp Tryd.prog (regionIn Tryd.f5.body 26) (Exit.then K fun _ _ _ => False) ⟨#[s0, s1, s2, s3, s4, s5, s6, s7, s8, s9, s10, s11, .slice (some ⟨G, 0, none⟩) ns ns, s13, s14, s15, .slice (some ⟨sb, 0, none⟩) ns ns, .int .i64 (i : Int), s18, s19, s20, s21, s22, s23, s24, s25, s26, s27, s28, s29, s30, s31, s32, s33, s34, s35, s36, s37, s38, s39, s40, s41, s42, s43, s44, s45, s46, s47, s48, s49, s50, s51, s52, s53, s54, s55, s56, s57, s58, s59, s60, s61, s62, s63, s64, s65, s66, s67, s68, s69, s70, s71, s72, s73, s74, s75, s76, s77, s78, s79, s80, s81, s82, s83, s84, s85, s86, s87, s88, s89, s90, s91, s92, s93, s94, s95, s96, s97, s98, s99, s100, s101, s102, s103, s104, s105, s106, s107, s108, s109, s110, s111, s112, s113, s114, s115, s116, s117, s118, s119, s120, s121, s122, s123, s124, s125, s126, s127, s128, s129, s130, s131, s132, s133, s134, s135, s136, s137, s138, s139, s140, s141, s142, s143, s144, s145, s146], []⟩ w0 := by
  obtain ⟨i0, hi0, hz0, hz1, hz2⟩ := info_parts infoLst
  have hr : (rowsOf X)[i]? = some (x.length, x.map Prod.fst) := by unfold rowsOf; rw [List.getElem?_map, hx]; rfl
  have row := hI.parts.each i _ _ hv hr
  have hin : i < ns := by
    have h1 := hI.parts.len
    have h2 := (List.getElem?_eq_some_iff.1 hv).1
    omega
  have HI := Lib.hid hI
  have HV := Lib.hid hv
  have HX := Lib.hid hx
  have HU := Lib.hid hu
  have hG := hI.parts.lst.lt
  have hsz := hI.org.size
  have c0 := hI.parts.lst.at hv
  have d0 := hS.at hsu
  have hsn : ∀ g, (Value.slice va n vc).ownBlock = some g → g ≠ sb := hap
  have HSN := Lib.hid hsn
  have HSS := Lib.hid hS
  obtain ⟨xs, hxs⟩ : ∃ xs, xs = x.map Prod.fst := ⟨_, rfl⟩
  have HXS := Lib.hid hxs
  have hxl : xs.length = n := by rw [hxs, List.length_map, hn]
  simp only at row
  rw [← hxs, ← hn] at row
  have ROW := Lib.hid row
  have HN := Lib.hid hn
  have hnm : n + 1 ≤ maxLen := by unfold maxLen; omega
  clear hI hv hx hu hS hsu hap hsn hxs row hn hr hns hxl
  have PUT : Hid (∀ (wc w5 : World) (g cap : Nat), Below w0.heap.size w0 wc → w5.ownsRow w.heap.size 22 1 (.slice (some ⟨g, 0, none⟩) (n + 1) cap) (n + 1) (xs ++ [.slice ua un uc]) → wc.grownBy w5 (Value.slice va n vc).ownBlock → ((Value.slice va n vc).ownBlock = some g ∨ g = wc.heap.size) → (w5.cell? ⟨G, i, none⟩ = some (.slice va n vc) ∧ w5.frozen? ⟨G, i, none⟩ = false) ∧ (EI w (w5.setCell ⟨G, i, none⟩ (.slice (some ⟨g, 0, none⟩) (n + 1) cap)) P G O jv (vs.set i (.slice (some ⟨g, 0, none⟩) (n + 1) cap)) (X.set i (x ++ [(.slice ua un uc, L)])) S T ∧ Blk (w5.setCell ⟨G, i, none⟩ (.slice (some ⟨g, 0, none⟩) (n + 1) cap)) sb 22 us ∧ (∀ B v m ys, w0.ownsRow B 25 2 v m ys → (w5.setCell ⟨G, i, none⟩ (.slice (some ⟨g, 0, none⟩) (n + 1) cap)).ownsRow B 25 2 v m ys))) := fun wc w5 g cap hb ho hg hat => by
    have I1 := HI.out.below hb
    have R1 := ow_below ROW.out hb
    have S1 := HSS.out.blw hb
    have hx1 : w5.ownsRow w.heap.size 22 1 (.slice (some ⟨g, 0, none⟩) (n + 1) cap) (x.length + 1) (x.map Prod.fst ++ [.slice ua un uc]) := by rw [← HXS.out, ← HN.out]; exact ho
    obtain ⟨h1, h2⟩ := I1.push HV.out HX.out (ow_below HU.out hb) hx1 hg (by
      rcases hat with h | h
      · exact .inl h.symm
      · exact .inr (.inr ⟨g, rfl, by omega⟩))
    have lst5 := blk_ow I1.parts.lst R1 (by decide) hg
    have sb5 : Blk w5 sb 22 us := (hg.block sb S1.lt (fun e => HSN.out sb e.symm rfl)).trans S1
    exact ⟨h1, h2, blk_other sb5 lst5 (by decide), fun B v m ys h => ow_other (ow_grown (ow_below h hb) R1 (by decide) hg) lst5 (by decide)⟩
  conv => arg 2; whnf
  dsimp only
  go_region_law (first | (refine step_append_lies _ rfl (.tmp 105) (.tmp 110) 34 rfl w.heap.size 22 i0 (.slice none 0 0) 1 24 Tryd.underlying34 hi0 hz0 hz1 hz2 rfl (by decide) (.slice va n vc) n xs (by simp [Act.eval]) (ow_below ROW.out (by first | exact below_box _ | exact below_trans (Pp.blw_drew (Below.refl _ _)) (below_box _) | exact Pp.blw_drew (below_box _))) ⟨w0.heap.size, 0, none⟩ 1 1 [.slice ua un uc] (by simp [Act.eval]) rfl (World.news_of_block (B := w0.heap.size) (cs := #[.slice ua un uc]) (t := 22) (fr := (0, 0)) (by exact heap_alloc_new w0 _)) (by intro q hq; simp at hq; subst hq; rfl) (by decide) hnm (by omega) (by simp; omega) _ rfl ?_; intro g cap w5 hown5 hgrow5 hat5 hlt5; obtain ⟨⟨c5, f5⟩, HP5⟩ := PUT.out _ w5 g cap (by first | exact below_box _ | exact below_trans (Pp.blw_drew (Below.refl _ _)) (below_box _) | exact Pp.blw_drew (below_box _)) hown5 hgrow5 hat5; clear hown5 hgrow5 hat5 hlt5) | fail)
  all_goals
    exact HK.out _ _ _ _ _ _ _ _ _ _ _ _ _ _ _ HP5.1 HP5.2.1 HP5.2.2
end Go.Proofs.YtgkpnjnollfdaaaDoor
/- Folding early: a list is put behind each slice's. Written by tpl/mk_e.py. -/
namespace Go.Proofs.YtgkpnjnollfdaaaDoor
open Go.ChangeShapes Go.WideShapes Go.ChangeAt Go.RowKit
/-- So many lists have had one put behind them. -/
def pushX {α : Type} (X : List (List α)) (Q : List α) (i : Nat) : List (List α) := X.mapIdx fun k x => if k < i then x ++ (Q[k]?).toList else x
theorem pushX_zero {α : Type} (X : List (List α)) (Q : List α) : pushX X Q 0 = X := by
  unfold pushX
  apply List.ext_getElem?
  intro k
  rw [List.getElem?_mapIdx]
  cases X[k]? <;> simp
theorem pushX_at {α : Type} {X : List (List α)} (Q : List α) {k : Nat} {x : List α} (h : X[k]? = some x) (i : Nat) : (pushX X Q i)[k]? = some (if k < i then x ++ (Q[k]?).toList else x) := by
  unfold pushX
  rw [List.getElem?_mapIdx, h]
  rfl
theorem pushX_len {α : Type} (X : List (List α)) (Q : List α) (i : Nat) : (pushX X Q i).length = X.length := by simp [pushX]
theorem pushX_succ {α : Type} {X : List (List α)} {Q : List α} {i : Nat} {x : List α} {q : α} (h : X[i]? = some x) (hq : Q[i]? = some q) : pushX X Q (i + 1) = (pushX X Q i).set i (x ++ [q]) := by
  apply List.ext_getElem?
  intro k
  rw [List.getElem?_set, pushX_len]
  by_cases e : i = k
  · subst e
    rw [if_pos rfl, if_pos (List.getElem?_eq_some_iff.1 h).1, pushX_at Q h, if_pos (Nat.lt_succ_self _), hq]
    rfl
  · rw [if_neg e]
    cases hx : X[k]? with
    | none =>
      have hl : X.length ≤ k := List.getElem?_eq_none_iff.1 hx
      rw [List.getElem?_eq_none (by rw [pushX_len]; exact hl), List.getElem?_eq_none (by rw [pushX_len]; exact hl)]
    | some y =>
      rw [pushX_at Q hx, pushX_at Q hx]
      congr 1
      by_cases hk : k < i
      · rw [if_pos hk, if_pos (by omega)]
      · rw [if_neg hk, if_neg (by omega)]
set_option maxRecDepth 1000000 in
set_option maxHeartbeats 4000000 in
theorem early_b4 (w : World) (P G O sb ns : Nat) (jv vs us S : List Value) (X : List (List (Value × List (ByteArray × Int)))) (T : List (List ByteArray)) (Q : List (Value × List (ByteArray × Int))) (w0 : World) (K : Act → World → Prop) (s0 s1 s2 s4 s5 s6 s7 s8 s9 s10 s11 s13 s14 s15 s18 s19 s20 s21 s22 s23 s24 s25 s26 s27 s28 s29 s30 s31 s32 s33 s34 s35 s36 s37 s38 s39 s40 s41 s42 s43 s44 s45 s46 s47 s48 s49 s50 s51 s52 s53 s54 s55 s56 s57 s58 s59 s60 s61 s62 s63 s64 s65 s66 s67 s68 s69 s70 s71 s72 s73 s74 s75 s76 s77 s78 s79 s80 s81 s82 s83 s84 s85 s86 s87 s88 s89 s90 s91 s92 s93 s94 s95 s96 s97 s98 s99 s100 s101 s102 s103 s104 s105 s106 s107 s108 s109 s110 s111 s112 s113 s114 s115 s116 s117 s118 s119 s120 s121 s122 s123 s124 s125 s126 s127 s128 s129 s130 s131 s132 s133 s134 s135 s136 s137 s138 s139 s140 s141 s142 s143 s144 s145 s146 : Value)
    (hI : EI w w0 P G O jv vs X S T)
    (hjv : jv[3]? = some (.int .i64 (ns : Int)))
    (hns : vs.length = ns)
    (hn4 : ns ≤ 4)
    (hX : ∀ x ∈ X, x.length ≤ 100)
    (hQl : Q.length = ns)
    (hQ : ∀ q ∈ Q, w0.ownsRow w.heap.size 25 2 q.1 q.2.length (Pp.cellsP q.2))
    (hus : us = Q.map Prod.fst)
    (hS : Blk w0 sb 22 us)
    (hap : ∀ (k : Nat) (v : Value), vs[k]? = some v → ∀ g, v.ownBlock = some g → g ≠ sb)
    (HK : Hid (∀ (z17 z94 z95 z96 z97 z98 z99 z100 z101 z102 z103 z104 z105 z106 z107 z108 z109 z110 z111 z112 : Value) (vs' : List Value) (wx : World), EI w wx P G O jv vs' (pushX X Q ns) S T → vs'.length = ns → K ⟨#[s0, s1, s2, .pointer (some ⟨P, 0, none⟩), s4, s5, s6, s7, s8, s9, s10, s11, .slice (some ⟨G, 0, none⟩) ns ns, s13, s14, s15, .slice (some ⟨sb, 0, none⟩) ns ns, z17, s18, s19, s20, s21, s22, s23, s24, s25, s26, s27, s28, s29, s30, s31, s32, s33, s34, s35, s36, s37, s38, s39, s40, s41, s42, s43, s44, s45, s46, s47, s48, s49, s50, s51, s52, s53, s54, s55, s56, s57, s58, s59, s60, s61, s62, s63, s64, s65, s66, s67, s68, s69, s70, s71, s72, s73, s74, s75, s76, s77, s78, s79, s80, s81, s82, s83, s84, s85, s86, s87, s88, s89, s90, s91, s92, s93, z94, z95, z96, z97, z98, z99, z100, z101, z102, z103, z104, z105, z106, z107, z108, z109, z110, z111, z112, s113, s114, s115, s116, s117, s118, s119, s120, s121, s122, s123, s124, s125, s126, s127, s128, s129, s130, s131, s132, s133, s134, s135, s136, s137, s138, s139, s140, s141, s142, s143, s144, s145, s146], []⟩ wx)) :
    Code.wp Tryd.prog (pieceIn Tryd.f5.body 4) (Exit.then K fun _ _ _ => False) ⟨#[s0, s1, s2, .pointer (some ⟨P, 0, none⟩), s4, s5, s6, s7, s8, s9, s10, s11, .slice (some ⟨G, 0, none⟩) ns ns, s13, s14, s15, .slice (some ⟨sb, 0, none⟩) ns ns, .int .i64 0, s18, s19, s20, s21, s22, s23, s24, s25, s26, s27, s28, s29, s30, s31, s32, s33, s34, s35, s36, s37, s38, s39, s40, s41, s42, s43, s44, s45, s46, s47, s48, s49, s50, s51, s52, s53, s54, s55, s56, s57, s58, s59, s60, s61, s62, s63, s64, s65, s66, s67, s68, s69, s70, s71, s72, s73, s74, s75, s76, s77, s78, s79, s80, s81, s82, s83, s84, s85, s86, s87, s88, s89, s90, s91, s92, s93, s94, s95, s96, s97, s98, s99, s100, s101, s102, s103, s104, s105, s106, s107, s108, s109, s110, s111, s112, s113, s114, s115, s116, s117, s118, s119, s120, s121, s122, s123, s124, s125, s126, s127, s128, s129, s130, s131, s132, s133, s134, s135, s136, s137, s138, s139, s140, s141, s142, s143, s144, s145, s146], []⟩ w0 := by
  have HI := Lib.hid hI
  have HQ := Lib.hid hQ
  have HJV := Lib.hid hjv
  have HX := Lib.hid hX
  have HQL := Lib.hid hQl
  have HUS := Lib.hid hus
  have HS := Lib.hid hS
  have HAP : Hid (∀ (k : Nat) (v : Value), 0 ≤ k → vs[k]? = some v → ∀ g, v.ownBlock = some g → g ≠ sb) := fun k v _ => hap k v
  have HXL : Hid (X.length = ns) := by
    show _ = _
    have := hI.parts.len
    unfold rowsOf at this
    rw [List.length_map] at this
    omega
  have HI0 : Hid (EI w w0 P G O jv vs (pushX X Q 0) S T) := by
    show EI _ _ _ _ _ _ _ _ _ _
    rw [pushX_zero]
    exact hI
  have HVL := Lib.hid hns
  clear hI hQ hjv hX hQl hus hS hap hns
  conv => arg 2; whnf
  go_wp2_with fail
  go_loopg [17] ns (fun gg iv wr => ∃ (i : Nat) (vs' : List Value), gg = ns - i ∧ i ≤ ns ∧ iv = .int .i64 i ∧ Hid (EI w wr P G O jv vs' (pushX X Q i) S T) ∧ Hid (vs'.length = ns) ∧ Hid (Blk wr sb 22 us) ∧ Hid (∀ q ∈ Q, wr.ownsRow w.heap.size 25 2 q.1 q.2.length (Pp.cellsP q.2)) ∧ Hid (∀ (k : Nat) (v : Value), i ≤ k → vs'[k]? = some v → ∀ g, v.ownBlock = some g → g ≠ sb))
  case atStart => exact ⟨0, vs, rfl, Nat.zero_le _, rfl, HI0, HVL, HS, HQ, HAP⟩
  case round =>
    clear HI0 HVL HS HQ HAP HI
    obtain ⟨i, vs', hgi, hi, rfl, HI, HVL, HS, HQ, HAP⟩ := hrel
    have HGI := Lib.hid hgi
    clear hgi
    have p3 := HI.out.job.at HJV.out
    by_cases hlt : i < ns
    · obtain ⟨v, hv⟩ : ∃ v, vs'[i]? = some v := ⟨vs'[i]'(by rw [HVL.out]; exact hlt), by simp⟩
      obtain ⟨x, hx⟩ : ∃ x, X[i]? = some x := ⟨X[i]'(by rw [HXL.out]; exact hlt), by simp⟩
      obtain ⟨q, hq⟩ : ∃ q, Q[i]? = some q := ⟨Q[i]'(by rw [HQL.out]; exact hlt), by simp⟩
      have hxp : (pushX X Q i)[i]? = some x := by rw [pushX_at Q hx, if_neg (Nat.lt_irrefl _)]
      have hr : (rowsOf (pushX X Q i))[i]? = some (x.length, x.map Prod.fst) := by unfold rowsOf; rw [List.getElem?_map, hxp]; rfl
      obtain ⟨va, vc, rfl⟩ : ∃ va vc, v = .slice va x.length vc := by
        rcases row_slice (HI.out.parts.each i v _ hv hr) with ⟨h1, h2⟩ | ⟨g, c, h1, _⟩
        · exact ⟨none, 0, by rw [h1]; simp only at h2; rw [h2]⟩
        · exact ⟨_, c, h1⟩
      have hqm : q ∈ Q := List.mem_of_getElem? hq
      obtain ⟨qv, L⟩ := q
      have hqr := HQ.out _ hqm
      simp only at hqr
      obtain ⟨ua, uc, rfl⟩ : ∃ ua uc, qv = .slice ua L.length uc := by
        rcases row_slice hqr with ⟨h1, h2⟩ | ⟨g, c, h1, _⟩
        · exact ⟨none, 0, by rw [h1, h2]⟩
        · exact ⟨_, c, h1⟩
      have hu : us[i]? = some (.slice ua L.length uc) := by rw [HUS.out, List.getElem?_map, hq]; rfl
      have hxl := HX.out x (List.mem_of_getElem? hx)
      have HPS : Hid (pushX X Q (i + 1) = (pushX X Q i).set i (x ++ [(.slice ua L.length uc, L)])) := pushX_succ hx hq
      obtain ⟨n, hn⟩ : ∃ n, n = x.length := ⟨_, rfl⟩
      rw [← hn] at hv hxl
      have hnk : n ≤ 1000 := by omega
      have HV := Lib.hid hv
      have HN := Lib.hid hn
      have HXP := Lib.hid hxp
      have HQR := Lib.hid hqr
      have HU := Lib.hid hu
      have HLT := Lib.hid hlt
      clear hv hx hq hxp hr hqm hqr hu hn hxl
      go_upto_region 26 with fail
      refine wp_last (early_r26 w P G O sb i n ns jv vs' us S (pushX X Q i) T x L va ua vc L.length uc _ _ _ _ _ _ _ _ _ _ _ _ _ _ _ _ _ _ _ _ _ _ _ _ _ _ _ _ _ _ _ _ _ _ _ _ _ _ _ _ _ _ _ _ _ _ _ _ _ _ _ _ _ _ _ _ _ _ _ _ _ _ _ _ _ _ _ _ _ _ _ _ _ _ _ _ _ _ _ _ _ _ _ _ _ _ _ _ _ _ _ _ _ _ _ _ _ _ _ _ _ _ _ _ _ _ _ _ _ _ _ _ _ _ _ _ _ _ _ _ _ _ _ _ _ _ _ _ _ _ _ _ _ _ _ _ _ _ _ _ _ _ _ _ _ _ HI.out HVL.out HV.out HXP.out HN.out hnk HQR.out HS.out HU.out (HAP.out i _ (Nat.le_refl _) HV.out) ?_)
      refine Lib.hid ?_
      intro z100 z101 z102 z103 z104 z105 z106 z107 z108 z109 z110 z111 z112 v' wx hIx hSx hOx
      have hap2 := HAP.out
      have hvl2 := HVL.out
      clear p3 HI HS HAP HVL
      (try simp only [Exit.inBlock, Exit.then])
      go_wp2
      go_roundg (ns - (i + 1))
      case measure => have := HGI.out; have := HLT.out; omega
      case rel =>
        refine ⟨i + 1, vs'.set i v', rfl, HLT.out, by go_num, ?_, ?_, hSx, fun q hq => hOx _ _ _ _ (HQ.out q hq), fun k v hk hkv => ?_⟩
        · show EI _ _ _ _ _ _ _ _ _ _
          rw [HPS.out]
          exact hIx
        · show _ = _
          rw [List.length_set]
          exact hvl2
        · rw [List.getElem?_set, if_neg (by omega)] at hkv
          exact hap2 k v (by omega) hkv
    · have e : i = ns := by omega
      subst e
      go_wp2
      exact HK.out _ _ _ _ _ _ _ _ _ _ _ _ _ _ _ _ _ _ _ _ vs' wr HI.out HVL.out
end Go.Proofs.YtgkpnjnollfdaaaDoor
/- Mapper: what holds; the pair of a look. -/
namespace Go.Proofs.YtgkpnjnollfdaaaDoor
open Go.ChangeShapes Go.WideShapes Go.ChangeAt Go.RowKit
set_option maxRecDepth 100000 in
set_option maxHeartbeats 1000000 in
theorem holds_any (r : Rl) (ai ak av : Option Addr) (ci ck cv : Nat) (R : Rc) (ra : Option Addr) (rc : Nat) (w : World) (hR : IsTexts w (.slice ra R.words.length rc) (R.words.map bs)) (xi : IsEx w (.slice ai r.iff.a.length ci) r.iff) (hr : RlIn r) (hM : RcIn R 1000000) (E : EnvS w) :
    Calls Tryd.prog 39 #[r.value (.slice ai r.iff.a.length ci) (.slice ak r.key.a.length ck) (.slice av r.val.a.length cv), recV R ra rc] w fun e w' => e = .returned (.bool (holdsB r R)) ∧ Below w.heap.size w w' := by
  have hmix : Tryd.prog.follows .mixedOrders = true := by kernel_rfl
  have S := Lib.hid (fun w (h : IsEx w (.slice ai r.iff.a.length ci) r.iff) (hf : faultE r.iff true true = 0) hR E => StrX_any R ra rc h hR (by have := fault_wt hf; omega) hf (by have := fault_len hf hM; omega) E)
  obtain ⟨w2, hw2⟩ : ∃ w2, w2 = (w.alloc (.cells #[.bool r.each, .int .i64 r.when, .int .i64 r.iff.k, .int .i64 r.iff.n, .string (bs r.iff.s), .slice ai r.iff.a.length ci, .string (bs r.s), .int .i64 r.key.k, .int .i64 r.key.n, .string (bs r.key.s), .slice ak r.key.a.length ck, .int .i64 r.val.k, .int .i64 r.val.n, .string (bs r.val.s), .slice av r.val.a.length cv] 43)).alloc (.cells #[.string (bs R.line), .string (bs R.it), .slice ra R.words.length rc] 82) := ⟨_, rfl⟩
  have hbx : Below w.heap.size w w2 := by rw [hw2]; exact below_trans (below_box _) (below_box _)
  have e2 : w2.cell? ⟨w.heap.size, 2, none⟩ = some (.int .i64 r.iff.k) := by rw [hw2]; simp
  have e3 : w2.cell? ⟨w.heap.size, 3, none⟩ = some (.int .i64 r.iff.n) := by rw [hw2]; simp
  have e4 : w2.cell? ⟨w.heap.size, 4, none⟩ = some (.string (bs r.iff.s)) := by rw [hw2]; simp
  have e5 : w2.cell? ⟨w.heap.size, 5, none⟩ = some (.slice ai r.iff.a.length ci) := by rw [hw2]; simp
  have e6 : w2.cell? ⟨w.heap.size, 6, none⟩ = some (.string (bs r.s)) := by rw [hw2]; simp
  have r0 : w2.cell? ⟨w.heap.size + 1, 0, none⟩ = some (.string (bs R.line)) := by rw [hw2]; simp
  have r1 : w2.cell? ⟨w.heap.size + 1, 1, none⟩ = some (.string (bs R.it)) := by rw [hw2]; simp
  have r2 : w2.cell? ⟨w.heap.size + 1, 2, none⟩ = some (.slice ra R.words.length rc) := by rw [hw2]; simp
  have HW2 := Lib.hid hw2
  have HB := Lib.hid hbx
  have XI := Lib.hid (xi.lower hbx)
  have HR := Lib.hid (hR.below hbx)
  have HE := Lib.hid (E.lower hbx)
  clear hw2 hbx xi hR E
  unfold Rl.value recV
  rcases hr.when with h0 | ⟨h12, hf⟩
  · have HV : Hid (holdsB r R = true) := by
      show _ = _
      unfold holdsB
      rw [h0]; rfl
    rw [HV.out, h0]
    clear S XI HE e2 e3 e4 e5 e6 r0 r1 r2
    go_enter Tryd.func39, Tryd.ntmps39
    go_wp2
    go_ret
    exact ⟨rfl, below_trans (below_box _) (below_box _)⟩
  · replace e2 := cell_regrown e2
    replace e3 := cell_regrown e3
    replace e4 := cell_regrown e4
    replace e5 := cell_regrown e5
    replace e6 := cell_regrown e6
    replace r0 := cell_regrown r0
    replace r1 := cell_regrown r1
    replace r2 := cell_regrown r2
    have D1 : Hid (∀ d os, Calls Tryd.prog 56 #[r.iff.val (.slice ai r.iff.a.length ci), recV R ra rc] (Sort.grow (redrawn w2 d) os) fun e w'' => e = .returned (.string (bs (r.iff.str R))) ∧ ∃ p : Regrown, w'' = Sort.grow (redrawn w2 p.d) p.os) := fun d os => Calls.regrown_of (S.out _ (XI.out.lower (below_regrown _ _ _)) hf (HR.out.below (below_regrown _ _ _)) (HE.out.lower (below_regrown _ _ _)))
    unfold Ex.val recV at D1
    have hq : ∀ a b : List UInt8, ((bs a).toList == (bs b).toList) = decide (a = b) := fun a b => by
      rw [bs_toList, bs_toList]
      by_cases h : a = b
      · simp [h]
      · rw [decide_eq_false h, beq_eq_false_iff_ne]; exact h
    rcases h12 with h0 | h0
    · have HV : Hid (holdsB r R = ((bs (r.iff.str R)).toList == (bs r.s).toList)) := by
        show _ = _
        unfold holdsB
        rw [h0, if_pos rfl, hq]
      rw [HV.out]
      rw [h0] at HW2 ⊢
      clear S XI HR HE HV hq h0 hf hr
      generalize bs (r.iff.str R) = X at *
      generalize r.iff.k = xk at *
      generalize r.iff.n = xn at *
      generalize bs r.iff.s = xs at *
      generalize bs r.s = ss at *
      go_enter Tryd.func39, Tryd.ntmps39
      go_wp2
      rw [← HW2.out]
      refine wp_region_quiet_below hmix (by kernel_rfl) ?_
      repeat (quiet_step (first | (go_at_call 56; exact D1.out _ _)))
      refine wpQuiet_nil ?_
      intro _ hw'
      obtain ⟨⟨dq, osq⟩, hw''⟩ := hw'
      subst hw''
      have hbb : Below w.heap.size w (Sort.grow (redrawn w2 dq) osq) := below_trans HB.out (below_regrown w2 dq osq)
      generalize Sort.grow (redrawn w2 dq) osq = w3 at *
      go_wp2
      go_ret
      exact ⟨rfl, hbb⟩
    · have HV : Hid (holdsB r R = !((bs (r.iff.str R)).toList == (bs r.s).toList)) := by
        show _ = _
        unfold holdsB
        rw [h0, if_neg (by decide), if_pos rfl, hq]
      rw [HV.out]
      rw [h0] at HW2 ⊢
      clear S XI HR HE HV hq h0 hf hr
      generalize bs (r.iff.str R) = X at *
      generalize r.iff.k = xk at *
      generalize r.iff.n = xn at *
      generalize bs r.iff.s = xs at *
      generalize bs r.s = ss at *
      go_enter Tryd.func39, Tryd.ntmps39
      go_wp2
      rw [← HW2.out]
      refine wp_region_quiet_below hmix (by kernel_rfl) ?_
      repeat (quiet_step (first | (go_at_call 56; exact D1.out _ _)))
      refine wpQuiet_nil ?_
      intro _ hw'
      obtain ⟨⟨dq, osq⟩, hw''⟩ := hw'
      subst hw''
      have hbb : Below w.heap.size w (Sort.grow (redrawn w2 dq) osq) := below_trans HB.out (below_regrown w2 dq osq)
      generalize Sort.grow (redrawn w2 dq) osq = w3 at *
      go_wp2
      go_ret
      exact ⟨rfl, hbb⟩
end Go.Proofs.YtgkpnjnollfdaaaDoor
/- Mapper: the pair of a look. -/
namespace Go.Proofs.YtgkpnjnollfdaaaDoor
open Go.ChangeShapes Go.WideShapes Go.ChangeAt Go.RowKit
set_option maxRecDepth 100000 in
set_option maxHeartbeats 1000000 in
theorem pairOf_any (r : Rl) (ai ak av : Option Addr) (ci ck cv : Nat) (kind : Int) (R : Rc) (ra : Option Addr) (rc : Nat) (w : World) (hR : IsTexts w (.slice ra R.words.length rc) (R.words.map bs)) (xk : IsEx w (.slice ak r.key.a.length ck) r.key) (xv : IsEx w (.slice av r.val.a.length cv) r.val) (hr : RlIn r) (hM : RcIn R 1000000) (E : EnvS w) :
    Calls Tryd.prog 40 #[r.value (.slice ai r.iff.a.length ci) (.slice ak r.key.a.length ck) (.slice av r.val.a.length cv), recV R ra rc, .int .i64 kind] w fun e w' => e = .returned (.agg #[.string (pairL r kind R).1, .int .i64 (pairL r kind R).2]) ∧ Below w.heap.size w w' := by
  have S := Lib.hid (fun w (h : IsEx w (.slice ak r.key.a.length ck) r.key) hR E => StrX_any R ra rc h hR (by have := fault_wt hr.key; omega) hr.key (by have := fault_len hr.key hM; omega) E)
  have I := Lib.hid (fun w (h : IsEx w (.slice av r.val.a.length cv) r.val) hR E => IntX_any R ra rc h hR (by have := fault_wt hr.val; omega) hr.val (by have := fault_far hr.val hM; omega) E)
  obtain ⟨w1, hw1⟩ : ∃ w1, w1 = (w.alloc (.cells #[.bool r.each, .int .i64 r.when, .int .i64 r.iff.k, .int .i64 r.iff.n, .string (bs r.iff.s), .slice ai r.iff.a.length ci, .string (bs r.s), .int .i64 r.key.k, .int .i64 r.key.n, .string (bs r.key.s), .slice ak r.key.a.length ck, .int .i64 r.val.k, .int .i64 r.val.n, .string (bs r.val.s), .slice av r.val.a.length cv] 43)).alloc (.cells #[.string (bs R.line), .string (bs R.it), .slice ra R.words.length rc] 82) := ⟨_, rfl⟩
  have hb1 : Below w.heap.size w w1 := by rw [hw1]; exact below_trans (below_box _) (below_box _)
  have hs1 : w1.heap.size = w.heap.size + 1 + 1 := by rw [hw1]; simp
  obtain ⟨w2, hw2⟩ : ∃ w2, w2 = w1.alloc (.cells #[.string ⟨#[]⟩, .int .i64 0] 25) := ⟨_, rfl⟩
  have hb2 : Below w1.heap.size w1 w2 := by rw [hw2]; exact below_box _
  have hbx := below_trans hb1 hb2
  have e0 := cell_below (a := ⟨w.heap.size, 7, none⟩) (v := .int .i64 r.key.k) (by rw [hw1]; simp) hb2
  have e1 := cell_below (a := ⟨w.heap.size, 8, none⟩) (v := .int .i64 r.key.n) (by rw [hw1]; simp) hb2
  have e2 := cell_below (a := ⟨w.heap.size, 9, none⟩) (v := .string (bs r.key.s)) (by rw [hw1]; simp) hb2
  have e3 := cell_below (a := ⟨w.heap.size, 10, none⟩) (v := .slice ak r.key.a.length ck) (by rw [hw1]; simp) hb2
  have v0 := cell_below (a := ⟨w.heap.size, 11, none⟩) (v := .int .i64 r.val.k) (by rw [hw1]; simp) hb2
  have v1 := cell_below (a := ⟨w.heap.size, 12, none⟩) (v := .int .i64 r.val.n) (by rw [hw1]; simp) hb2
  have v2 := cell_below (a := ⟨w.heap.size, 13, none⟩) (v := .string (bs r.val.s)) (by rw [hw1]; simp) hb2
  have v3 := cell_below (a := ⟨w.heap.size, 14, none⟩) (v := .slice av r.val.a.length cv) (by rw [hw1]; simp) hb2
  have r0 := cell_below (a := ⟨w.heap.size + 1, 0, none⟩) (v := .string (bs R.line)) (by rw [hw1]; simp) hb2
  have r1 := cell_below (a := ⟨w.heap.size + 1, 1, none⟩) (v := .string (bs R.it)) (by rw [hw1]; simp) hb2
  have r2 := cell_below (a := ⟨w.heap.size + 1, 2, none⟩) (v := .slice ra R.words.length rc) (by rw [hw1]; simp) hb2
  have hg : Blk w2 (w.heap.size + 1 + 1) 25 [.string ⟨#[]⟩, .int .i64 0] := by rw [hw2]; exact blk_new (cs := #[.string ⟨#[]⟩, .int .i64 0]) hs1.symm
  rw [hw1] at hw2
  have hXs : (r.key.str R).length ≤ 1000000000 := Nat.le_trans (str_len R r.key) (by have := fault_len hr.key hM; omega)
  rw [← bs_size] at hXs
  have HW2 := Lib.hid hw2
  have XK := Lib.hid (xk.lower hbx)
  have XV := Lib.hid (xv.lower hbx)
  have HR := Lib.hid (hR.below hbx)
  have HE := Lib.hid (E.lower hbx)
  clear hw2 hw1 hs1 hb1 hb2 xk xv hR E hr
  unfold Rl.value recV
  unfold Ex.val recV at S I
  simp only [pairL]
  have FI := Lib.hid (fun w => Pp.first_any kind (r.val.num R) w)
  generalize hX : bs (r.key.str R) = X at *
  have HX : Hid ((20 ≤ X.size → X.extract 0 20 = bs ((r.key.str R).take 20)) ∧ (X.size ≤ 20 → X.extract 0 X.size = bs ((r.key.str R).take 20))) := by
    subst hX
    refine ⟨fun _ => bs_take _ _, fun h => ?_⟩
    rw [bs_size] at h ⊢
    rw [bs_take, List.take_of_length_le h, List.take_of_length_le (Nat.le_refl _)]
  generalize r.val.num R = V at *
  generalize Pp.firstI kind V = fv at *
  go_enter Tryd.func40, Tryd.ntmps40
  go_wp2_with (go_at_call 56; refine Hid.out ?_)
  refine Lib.hid ?_
  rw [← HW2.out]
  refine (S.out _ XK.out HR.out HE.out).mono ?_
  rintro _ w3 ⟨rfl, hb3⟩
  replace v0 := cell_below v0 hb3
  replace v1 := cell_below v1 hb3
  replace v2 := cell_below v2 hb3
  replace v3 := cell_below v3 hb3
  replace r0 := cell_below r0 hb3
  replace r1 := cell_below r1 hb3
  replace r2 := cell_below r2 hb3
  have hg3 := hg.blw hb3
  have hb03 := below_trans hbx hb3
  have IV := Lib.hid (I.out w3 (XV.out.lower hb3) (HR.out.below hb3) (HE.out.lower hb3))
  clear e0 e1 e2 e3 hg hb3 hbx S I XK XV HR HE HW2
  have HMIN : ∃ (m : Nat), min (X.size : Int) 20 = (m : Int) ∧ m ≤ X.size ∧ X.extract 0 m = bs ((r.key.str R).take 20) := by
    by_cases h : X.size ≤ 20
    · exact ⟨X.size, by omega, Nat.le_refl _, HX.out.2 h⟩
    · exact ⟨20, by omega, by omega, HX.out.1 (by omega)⟩
  obtain ⟨m, hm, hmX, hmE⟩ := HMIN
  have HME := Lib.hid hmE
  clear hmE HX
  go_wp2_with (go_at_call 58; refine Hid.out ?_)
  refine Lib.hid ?_
  refine IV.out.mono ?_
  rintro _ w4 ⟨rfl, hb4⟩
  have hg4 := hg3.blw hb4
  have hb04 := below_trans hb03 hb4
  have q0 := hg4.at (i := 0) (v := .string ⟨#[]⟩) rfl
  have q1 := hg4.at (i := 1) (v := .int .i64 0) rfl
  have f0 := hg4.frozen 0
  have f1 := hg4.frozen 1
  have HG := Lib.hid hg4
  clear hb4 hg4 hg3 hb03 v0 v1 v2 v3 r0 r1 r2 IV
  go_wp2_with (go_at_call 57; refine (FI.out _).mono ?_; rintro _ w5 ⟨rfl, h5⟩; rw [h5]; clear h5 w5)
  (try simp only [Exit.inBlock, Exit.then])
  have g2 := (HG.out.set 0 (.string (X.extract 0 m))).set 1 (.int .i64 fv)
  have hp1 : Below w.heap.size w ((w4.setCell ⟨w.heap.size + 1 + 1, 0, none⟩ (.string (X.extract 0 m))).setCell ⟨w.heap.size + 1 + 1, 1, none⟩ (.int .i64 fv)) := (hb04.setCell (p := ⟨w.heap.size + 1 + 1, 0, none⟩) (by simp; omega) _).setCell (p := ⟨w.heap.size + 1 + 1, 1, none⟩) (by simp; omega) _
  refine bodyPost_ret (results_cell_row rfl _ _ (w.heap.size + 1 + 1) 25 #[.string (X.extract 0 m), .int .i64 fv] (0, 0) _ rfl g2 Tryd.underlying25 rfl (by kernel_rfl)) rfl ?_
  exact ⟨by rw [← HME.out], hp1⟩
end Go.Proofs.YtgkpnjnollfdaaaDoor
/- Mapper: Pairs. -/
namespace Go.Proofs.YtgkpnjnollfdaaaDoor
open Go.ChangeShapes Go.WideShapes Go.ChangeAt Go.RowKit
def ruleCells (r : Rl) (ai ak av : Option Addr) (ci ck cv : Nat) : List Value := [.bool r.each, .int .i64 r.when, .int .i64 r.iff.k, .int .i64 r.iff.n, .string (bs r.iff.s), .slice ai r.iff.a.length ci, .string (bs r.s), .int .i64 r.key.k, .int .i64 r.key.n, .string (bs r.key.s), .slice ak r.key.a.length ck, .int .i64 r.val.k, .int .i64 r.val.n, .string (bs r.val.s), .slice av r.val.a.length cv]
theorem ruleAt {w : World} {B : Nat} {r : Rl} {ai ak av : Option Addr} {ci ck cv : Nat} (h : Blk w B 43 (ruleCells r ai ak av ci ck cv)) : w.cell? ⟨B, 0, none⟩ = some (.bool r.each) ∧ w.cell? ⟨B, 1, none⟩ = some (.int .i64 r.when) ∧ w.cell? ⟨B, 2, none⟩ = some (.int .i64 r.iff.k) ∧ w.cell? ⟨B, 3, none⟩ = some (.int .i64 r.iff.n) ∧ w.cell? ⟨B, 4, none⟩ = some (.string (bs r.iff.s)) ∧ w.cell? ⟨B, 5, none⟩ = some (.slice ai r.iff.a.length ci) ∧ w.cell? ⟨B, 6, none⟩ = some (.string (bs r.s)) ∧ w.cell? ⟨B, 7, none⟩ = some (.int .i64 r.key.k) ∧ w.cell? ⟨B, 8, none⟩ = some (.int .i64 r.key.n) ∧ w.cell? ⟨B, 9, none⟩ = some (.string (bs r.key.s)) ∧ w.cell? ⟨B, 10, none⟩ = some (.slice ak r.key.a.length ck) ∧ w.cell? ⟨B, 11, none⟩ = some (.int .i64 r.val.k) ∧ w.cell? ⟨B, 12, none⟩ = some (.int .i64 r.val.n) ∧ w.cell? ⟨B, 13, none⟩ = some (.string (bs r.val.s)) ∧ w.cell? ⟨B, 14, none⟩ = some (.slice av r.val.a.length cv) :=
  ⟨h.at rfl, h.at rfl, h.at rfl, h.at rfl, h.at rfl, h.at rfl, h.at rfl, h.at rfl, h.at rfl, h.at rfl, h.at rfl, h.at rfl, h.at rfl, h.at rfl, h.at rfl⟩
/-- What Pairs has made by now, beside what it goes over. -/
structure Mk (w0 wr : World) (lv : Value) (acc : List (ByteArray × Int)) : Prop where
  row : wr.ownsRow w0.heap.size 25 2 lv acc.length (Pp.cellsP acc)
  bel : Below w0.heap.size w0 wr
structure Mi (w0 wr : World) (B : Nat) (cs : List Value) (u wv : Value) (L : List Rc) (lv : Value) (acc : List (ByteArray × Int)) : Prop where
  md : Mk w0 wr lv acc
  rule : Blk wr B 43 cs
  recs : wr.ownsRow w0.heap.size 82 3 u L.length (cellsR wv L)
theorem Mk.below {w0 wr w' : World} {lv : Value} {acc : List (ByteArray × Int)} (h : Mk w0 wr lv acc) (hb : Below wr.heap.size wr w') : Mk w0 w' lv acc := ⟨ow_below h.row hb, below_trans h.bel hb⟩
theorem Mi.below {w0 wr w' : World} {B : Nat} {cs : List Value} {u wv lv : Value} {L : List Rc} {acc : List (ByteArray × Int)} (h : Mi w0 wr B cs u wv L lv acc) (hb : Below wr.heap.size wr w') : Mi w0 w' B cs u wv L lv acc := ⟨h.md.below hb, h.rule.blw hb, ow_below h.recs hb⟩
theorem ruleP_take (r : Rl) (kind : Int) (L : List Rc) (k : Nat) (x : Rc) (hx : L[k]? = some x) : ((L.take (k + 1)).filter (holdsB r)).map (pairL r kind) = ((L.take k).filter (holdsB r)).map (pairL r kind) ++ (if holdsB r x = true then [pairL r kind x] else []) := by
  rw [take_snoc hx, List.filter_append, List.map_append]
  congr 1
  cases h : holdsB r x <;> simp [h]
theorem pairInfo2 : (Tryd.prog.info? 25).map (fun i => (i.zero, i.size, i.bytes)) = some (some (.agg #[.string ⟨#[]⟩, .int .i64 0]), 2, 24) := by kernel_rfl
set_option maxRecDepth 100000 in
set_option maxHeartbeats 2000000 in
theorem pairs_any (j : Jb) (rv : Value) (line : List UInt8) (w : World) (h : IsRules w rv j.rules) (hw : rulesWt j.rules ≤ 1000000000) (hf : jobFault j = 0) (hl : line.length ≤ 100000) (E : EnvS w) :
    Calls Tryd.prog 14 #[j.value rv, .string (bs line)] w fun e w' => ∃ u, e = .returned u ∧ w'.ownsRow w.heap.size 25 2 u (rulesP j.rules j.fold line).length (Pp.cellsP (rulesP j.rules j.fold line)) ∧ Below w.heap.size w w' := by
  have CK := Lib.hid (fun w h E => jobCheck_any j rv w h hw E)
  rw [hf] at CK
  obtain ⟨nw, hnw⟩ : ∃ nw, nw = (wordsL line).length := ⟨_, rfl⟩
  have OF := Lib.hid (fun w E => of_any line nw hnw w E (by omega))
  have HNW := Lib.hid hnw
  clear hnw
  obtain ⟨hl1, hl4, -, -, -, -, hrf⟩ := jobFault_parts hf
  have HRF := Lib.hid (rulesFault_all hrf)
  clear hf hrf
  obtain ⟨ip, hp0, hp1, hp2, hp3⟩ := info_parts pairInfo2
  obtain ⟨l, fo, ea', sl⟩ := j
  simp only [Jb.value] at *
  have H := Lib.hid h
  obtain ⟨a, cap, b, off, AI, AK, AV, rfl, ha, hc⟩ := h
  have HA := Lib.hid ha
  have HC := Lib.hid hc
  have HE := Lib.hid E
  clear ha hc E
  obtain ⟨n, hn⟩ : ∃ n, n = l.length := ⟨_, rfl⟩
  rw [← hn] at H CK hl1 hl4 ⊢
  have HN := Lib.hid hn
  clear hn
  unfold errV at CK
  simp only [if_pos] at CK
  go_enter Tryd.func14, Tryd.ntmps14
  go_wp2_with (go_at_call 17; refine Hid.out ?_)
  refine Lib.hid ?_
  refine (CK.out _ (H.out.lower (below_box _)) (HE.out.lower (below_box _))).mono ?_
  rintro _ w1 ⟨rfl, hb1⟩
  have JB := Lib.hid ((blk_new (w := w) (cs := #[.slice a n cap, .int .i64 fo, .bool ea', .int .i64 sl]) (t := 37) rfl).blw hb1)
  have hb01 := below_trans (below_box _) hb1
  clear CK hb1
  go_wp2_with (go_at_call 37; refine Hid.out ?_)
  refine Lib.hid ?_
  refine (OF.out w1 (HE.out.lower hb01).toEnv0).mono ?_
  rintro _ w2 ⟨ra, rc, rfl, HT, hb2, -⟩
  obtain ⟨w3, hw3⟩ : ∃ w3, w3 = w2.alloc (.cells #[.string (bs line), .string ⟨#[]⟩, .slice ra nw rc] 82) := ⟨_, rfl⟩
  have hb23 : Below w2.heap.size w2 w3 := by rw [hw3]; exact below_box _
  have hb13 := below_trans hb2 hb23
  have hb03 := below_trans hb01 hb13
  obtain ⟨G, hG⟩ : ∃ G, G = w2.heap.size := ⟨_, rfl⟩
  have RB : Hid (Blk w3 G 82 [.string (bs line), .string ⟨#[]⟩, .slice ra nw rc]) := by
    show Blk _ _ _ _
    rw [hw3]
    exact blk_new (cs := #[.string (bs line), .string ⟨#[]⟩, .slice ra nw rc]) hG
  have HT3 : Hid (IsTexts w3 (.slice ra nw rc) ((wordsL line).map bs)) := IsTexts.below HT.out hb23
  have JB3 := Lib.hid (JB.out.blw hb13)
  have HW3 := Lib.hid hw3
  have HGG := Lib.hid hG
  have HB03 := Lib.hid hb03
  have k0 := JB3.out.at (i := 0) (v := .slice a n cap) rfl
  clear hw3 hG hb23 hb13 hb2 hb01 HT JB hb03 OF
  go_upto_region 5 with fail
  rw [← HW3.out, ← HGG.out]
  clear HW3 HGG
  go_wp2
  clear k0
  have M0 : Hid (Mk w3 w3 (.slice none 0 0) (rulesP (l.take 0) fo line)) := ⟨World.ownsRow_nil _ _ _ _, Below.refl _ _⟩
  go_loopg [5, 19] n (fun gg lv iv wr => ∃ i : Nat, gg = n - i ∧ i ≤ n ∧ iv = .int .i64 i ∧ Hid (Mk w3 wr lv (rulesP (l.take i) fo line)))
  case atStart => exact ⟨0, rfl, Nat.zero_le _, rfl, M0⟩
  case round =>
    clear M0
    obtain ⟨i, hgi, hi, rfl, HM⟩ := hrel
    have HGI := Lib.hid hgi
    clear hgi
    have hb3r := HM.out.bel
    by_cases hlt : i < n
    · obtain ⟨r, hr⟩ : ∃ r, l[i]? = some r := ⟨l[i]'(by have := HN.out; omega), by simp⟩
      have hbw := below_trans HB03.out hb3r
      have ea := HA.out (by have := HN.out; omega)
      subst ea
      obtain ⟨⟨c0, c1, c2, c3, c4, c5, c6, c7, c8, c9, c10, c11, c12, c13, c14⟩, xi, xk, xv⟩ := HC.out i r hr
      obtain ⟨ai, ci, ei⟩ := xi.slice
      obtain ⟨ak, ck, ek⟩ := xk.slice
      obtain ⟨av, cv, ev⟩ := xv.slice
      rw [ei] at c5 xi
      rw [ek] at c10 xk
      rw [ev] at c14 xv
      replace c0 := cell_below c0 hbw
      replace c1 := cell_below c1 hbw
      replace c2 := cell_below c2 hbw
      replace c3 := cell_below c3 hbw
      replace c4 := cell_below c4 hbw
      replace c5 := cell_below c5 hbw
      replace c6 := cell_below c6 hbw
      replace c7 := cell_below c7 hbw
      replace c8 := cell_below c8 hbw
      replace c9 := cell_below c9 hbw
      replace c10 := cell_below c10 hbw
      replace c11 := cell_below c11 hbw
      replace c12 := cell_below c12 hbw
      replace c13 := cell_below c13 hbw
      replace c14 := cell_below c14 hbw
      have XI := Lib.hid xi
      have XK := Lib.hid xk
      have XV := Lib.hid xv
      have HR := Lib.hid (rlIn_of (HRF.out r (List.mem_of_getElem? hr)))
      have HRR := Lib.hid hr
      clear xi xk xv ei ek ev hr hbw
      obtain ⟨w4, hw4⟩ : ∃ w4, w4 = wr.alloc (.cells #[.bool r.each, .int .i64 r.when, .int .i64 r.iff.k, .int .i64 r.iff.n, .string (bs r.iff.s), .slice ai r.iff.a.length ci, .string (bs r.s), .int .i64 r.key.k, .int .i64 r.key.n, .string (bs r.key.s), .slice ak r.key.a.length ck, .int .i64 r.val.k, .int .i64 r.val.n, .string (bs r.val.s), .slice av r.val.a.length cv] 43) := ⟨_, rfl⟩
      obtain ⟨B, hB⟩ : ∃ B, B = wr.heap.size := ⟨_, rfl⟩
      have RU : Hid (Blk w4 B 43 (ruleCells r ai ak av ci ck cv)) := by
        show Blk _ _ _ _
        rw [hw4]
        exact blk_new hB
      have hbr4 : Below wr.heap.size wr w4 := by rw [hw4]; exact below_box _
      have HM4 := Lib.hid (HM.out.below hbr4)
      have hb04 := below_trans HB03.out HM4.out.bel
      have HT4 : Hid (IsTexts w4 (.slice ra nw rc) ((wordsL line).map bs)) := IsTexts.below HT3.out HM4.out.bel
      have LK : Hid (Calls Tryd.prog 38 #[.agg #[.bool r.each, .int .i64 r.when, .int .i64 r.iff.k, .int .i64 r.iff.n, .string (bs r.iff.s), .slice ai r.iff.a.length ci, .string (bs r.s), .int .i64 r.key.k, .int .i64 r.key.n, .string (bs r.key.s), .slice ak r.key.a.length ck, .int .i64 r.val.k, .int .i64 r.val.n, .string (bs r.val.s), .slice av r.val.a.length cv], .agg #[.string (bs line), .string ⟨#[]⟩, .slice ra nw rc]] w4 fun e w' => ∃ u, e = .returned u ∧ w'.ownsRow w4.heap.size 82 3 u (looksL r.each (ofL line)).length (cellsR (.slice ra nw rc) (looksL r.each (ofL line))) ∧ Below w4.heap.size w4 w') := by
        have h := looks_any r ai ak av ci ck cv (ofL line) ra rc w4 (by
          have := HT4.out
          rw [HNW.out] at this
          exact this) (by have := words_len line; show (wordsL line).length ≤ _; omega)
        rw [show (ofL line).words.length = nw from HNW.out.symm] at h
        unfold Rl.value recV at h
        rw [show (ofL line).words.length = nw from HNW.out.symm] at h
        exact h
      have HLL : Hid (∀ x ∈ looksL r.each (ofL line), RcIn x 1000000 ∧ x.words = wordsL line ∧ x.line = line) := fun x hx => rcIn_look (rcIn_of line 1000000 (by omega)) hx
      have HRP : Hid (rulesP (l.take (i + 1)) fo line = rulesP (l.take i) fo line ++ ((looksL r.each (ofL line)).filter (holdsB r)).map (pairL r fo)) := by
        show _ = _
        rw [take_snoc HRR.out, rulesP_append, rulesP_one]
        rfl
      have HLN : (looksL r.each (ofL line)).length ≤ 100001 := by have h1 := looks_len r.each (ofL line); have h2 : (ofL line).words.length ≤ line.length := words_len line; omega
      have HAL : (rulesP (l.take i) fo line).length ≤ 400004 := by
        have h1 := rulesP_len (l.take i) fo line
        have h2 : (l.take i).length ≤ 4 := by rw [List.length_take]; omega
        have h3 := Nat.mul_le_mul h2 (show line.length + 1 ≤ 100001 by omega)
        omega
      generalize looksL r.each (ofL line) = L at *
      generalize rulesP (l.take i) fo line = acc at *
      have HLN2 := Lib.hid HLN
      have HAL2 := Lib.hid HAL
      have HW4 := Lib.hid hw4
      have HBB := Lib.hid hB
      have HB04 := Lib.hid hb04
      obtain ⟨g0, g1, g2⟩ : w4.cell? ⟨G, 0, none⟩ = some (.string (bs line)) ∧ w4.cell? ⟨G, 1, none⟩ = some (.string ⟨#[]⟩) ∧ w4.cell? ⟨G, 2, none⟩ = some (.slice ra nw rc) := by
        have h := RB.out.blw HM4.out.bel
        exact ⟨h.at rfl, h.at rfl, h.at rfl⟩
      obtain ⟨q0, q1, q2, q3, q4, q5, q6, q7, q8, q9, q10, q11, q12, q13, q14⟩ := ruleAt RU.out
      clear hw4 hB hbr4 hb3r HLN HAL hb04 HM
      go_upto_region 8 with fail
      rw [← HW4.out, ← HBB.out]
      clear HW4 c0 c1 c2 c3 c4 c5 c6 c7 c8 c9 c10 c11 c12 c13 c14
      go_wp2_with (go_at_call 38; refine Hid.out ?_)
      refine Lib.hid ?_
      refine LK.out.mono ?_
      rintro _ w5 ⟨u, rfl, hrec, hb45⟩
      obtain ⟨m, hm⟩ : ∃ m, m = L.length := ⟨_, rfl⟩
      rw [← hm] at hrec
      obtain ⟨uo, uc, eu, -⟩ := isRecs_of hm hrec
      rw [← hm] at eu
      subst eu
      have I5 : Hid (Mi w3 w5 B (ruleCells r ai ak av ci ck cv) (.slice uo m uc) (.slice ra nw rc) L u5 (acc ++ ((L.take 0).filter (holdsB r)).map (pairL r fo))) := by
        refine ⟨?_, RU.out.blw hb45, by rw [← hm]; exact ow_low hrec HM4.out.bel.size⟩
        simp only [List.take_zero, List.filter_nil, List.map_nil, List.append_nil]
        exact HM4.out.below hb45
      have hmle : m ≤ 100001 := by rw [hm]; exact HLN2.out
      have HMM := Lib.hid hm
      clear LK RU HM4 HT4 hrec hb45 hm g0 g1 g2 q0 q1 q2 q3 q4 q5 q6 q7 q8 q9 q10 q11 q12 q13 q14
      dsimp only
      go_wp2
      go_loopg [5, 27] m (fun gg lv kv wq => ∃ k : Nat, gg = m - k ∧ k ≤ m ∧ kv = .int .i64 k ∧ Hid (Mi w3 wq B (ruleCells r ai ak av ci ck cv) (.slice uo m uc) (.slice ra nw rc) L lv (acc ++ ((L.take k).filter (holdsB r)).map (pairL r fo))))
      case atStart => exact ⟨0, rfl, Nat.zero_le _, rfl, I5⟩
      case round =>
        clear I5
        obtain ⟨k, hgk, hk, rfl, HI⟩ := hrel
        have HGK := Lib.hid hgk
        clear hgk
        by_cases hkm : k < m
        · have HKM := Lib.hid hkm
          obtain ⟨x, hx⟩ : ∃ x, L[k]? = some x := ⟨L[k]'(by have := HMM.out; omega), by simp⟩
          obtain ⟨rcx, hwx, -⟩ := HLL.out x (List.mem_of_getElem? hx)
          obtain ⟨a', cap', ev', hcell⟩ := isRecs_of rfl HI.out.recs
          simp only [Value.slice.injEq] at ev'
          obtain ⟨rfl, -, rfl⟩ := ev'
          obtain ⟨rb, roff, eu, s0, s1, s2⟩ := hcell k x hx
          subst eu
          obtain ⟨w6, hw6⟩ : ∃ w6, w6 = wr.alloc (.cells #[.string (bs x.line), .string (bs x.it), .slice ra nw rc] 82) := ⟨_, rfl⟩
          obtain ⟨C, hC⟩ : ∃ C, C = wr.heap.size := ⟨_, rfl⟩
          have hbr6 : Below wr.heap.size wr w6 := by rw [hw6]; exact below_box _
          have RC : Hid (Blk w6 C 82 [.string (bs x.line), .string (bs x.it), .slice ra nw rc]) := by
            show Blk _ _ _ _
            rw [hw6]
            exact blk_new hC
          have I6 := Lib.hid (HI.out.below hbr6)
          have hb06 := below_trans HB03.out I6.out.md.bel
          have hwl : x.words.length = nw := by rw [hwx]; exact HNW.out.symm
          have HT6 : ∀ w', Below w6.heap.size w6 w' → IsTexts w' (.slice ra x.words.length rc) (x.words.map bs) := fun w' hb' => by
            rw [hwl, hwx]
            exact IsTexts.below HT3.out (below_trans I6.out.md.bel hb')
          have HO : Hid (Calls Tryd.prog 39 #[.agg #[.bool r.each, .int .i64 r.when, .int .i64 r.iff.k, .int .i64 r.iff.n, .string (bs r.iff.s), .slice ai r.iff.a.length ci, .string (bs r.s), .int .i64 r.key.k, .int .i64 r.key.n, .string (bs r.key.s), .slice ak r.key.a.length ck, .int .i64 r.val.k, .int .i64 r.val.n, .string (bs r.val.s), .slice av r.val.a.length cv], .agg #[.string (bs x.line), .string (bs x.it), .slice ra nw rc]] w6 fun e w' => e = .returned (.bool (holdsB r x)) ∧ Below w6.heap.size w6 w') := by
            have h := holds_any r ai ak av ci ck cv x ra rc w6 (HT6 _ (Below.refl _ _)) (XI.out.lower hb06) HR.out rcx (HE.out.lower hb06)
            unfold Rl.value recV at h
            rw [hwl] at h
            exact h
          have PO : Hid (∀ w', Below w6.heap.size w6 w' → Calls Tryd.prog 40 #[.agg #[.bool r.each, .int .i64 r.when, .int .i64 r.iff.k, .int .i64 r.iff.n, .string (bs r.iff.s), .slice ai r.iff.a.length ci, .string (bs r.s), .int .i64 r.key.k, .int .i64 r.key.n, .string (bs r.key.s), .slice ak r.key.a.length ck, .int .i64 r.val.k, .int .i64 r.val.n, .string (bs r.val.s), .slice av r.val.a.length cv], .agg #[.string (bs x.line), .string (bs x.it), .slice ra nw rc], .int .i64 fo] w' fun e w'' => e = .returned (.agg #[.string (pairL r fo x).1, .int .i64 (pairL r fo x).2]) ∧ Below w'.heap.size w' w'') := fun w' hb' => by
            have h := pairOf_any r ai ak av ci ck cv fo x ra rc w' (HT6 _ hb') (XK.out.lower (below_trans hb06 hb')) (XV.out.lower (below_trans hb06 hb')) HR.out rcx (HE.out.lower (below_trans hb06 hb'))
            unfold Rl.value recV at h
            rw [hwl] at h
            exact h
          have HTK := Lib.hid (ruleP_take r fo L k x hx)
          have HAK : (acc ++ ((L.take k).filter (holdsB r)).map (pairL r fo)).length ≤ 500005 := by
            rw [List.length_append, List.length_map]
            have h1 := List.length_filter_le (holdsB r) (L.take k)
            have h2 := List.length_take_le' k L
            have h3 := HLN2.out
            have h4 := HAL2.out
            omega
          have HAA : Hid (acc ++ ((L.take (k + 1)).filter (holdsB r)).map (pairL r fo) = (acc ++ ((L.take k).filter (holdsB r)).map (pairL r fo)) ++ (if holdsB r x = true then [pairL r fo x] else [])) := by
            show _ = _
            rw [HTK.out, List.append_assoc]
          generalize acc ++ ((L.take k).filter (holdsB r)).map (pairL r fo) = ack at *
          generalize pairL r fo x = pp at *
          generalize holdsB r x = hb at *
          generalize bs x.line = xl at *
          generalize bs x.it = xt at *
          obtain ⟨q0, q1, q2, q3, q4, q5, q6, q7, q8, q9, q10, q11, q12, q13, q14⟩ := ruleAt I6.out.rule
          obtain ⟨z0, z1, z2⟩ : w6.cell? ⟨C, 0, none⟩ = some (.string xl) ∧ w6.cell? ⟨C, 1, none⟩ = some (.string xt) ∧ w6.cell? ⟨C, 2, none⟩ = some (.slice ra nw rc) := ⟨RC.out.at rfl, RC.out.at rfl, RC.out.at rfl⟩
          have HW6 := Lib.hid hw6
          have HCC := Lib.hid hC
          clear hw6 hC hbr6 hb06 HT6 hwl rcx hwx hx hcell HTK HI
          go_upto_region 11 with fail
          rw [← HW6.out, ← HCC.out]
          clear HW6 HCC s0 s1 s2
          go_wp2_with (go_at_call 39; refine Hid.out ?_)
          refine Lib.hid ?_
          refine HO.out.mono ?_
          rintro _ w7 ⟨rfl, hb67⟩
          have I7 := Lib.hid (I6.out.below hb67)
          have RC7 := Lib.hid (RC.out.blw hb67)
          have PO7 := Lib.hid (PO.out w7 hb67)
          clear HO PO RC I6 hb67 q0 q1 q2 q3 q4 q5 q6 q7 q8 q9 q10 q11 q12 q13 q14 z0 z1 z2
          cases hb with
          | false =>
            have HAA2 : Hid (acc ++ ((L.take (k + 1)).filter (holdsB r)).map (pairL r fo) = ack) := by
              show _ = _
              rw [HAA.out]; simp
            clear HAA
            go_wp2
            go_roundg (m - (k + 1))
            case measure => have := HGK.out; have := HKM.out; omega
            case rel => exact ⟨k + 1, rfl, HKM.out, by have := HLN2.out; have := HMM.out; have := HKM.out; go_num, by rw [HAA2.out]; exact I7.out⟩
          | true =>
            have HAA2 : Hid (acc ++ ((L.take (k + 1)).filter (holdsB r)).map (pairL r fo) = ack ++ [pp]) := by
              show _ = _
              rw [HAA.out]; simp
            clear HAA
            obtain ⟨pk, pv⟩ := pp
            obtain ⟨q0, q1, q2, q3, q4, q5, q6, q7, q8, q9, q10, q11, q12, q13, q14⟩ := ruleAt I7.out.rule
            obtain ⟨z0, z1, z2⟩ : w7.cell? ⟨C, 0, none⟩ = some (.string xl) ∧ w7.cell? ⟨C, 1, none⟩ = some (.string xt) ∧ w7.cell? ⟨C, 2, none⟩ = some (.slice ra nw rc) := ⟨RC7.out.at rfl, RC7.out.at rfl, RC7.out.at rfl⟩
            have kf := (JB3.out.blw I7.out.md.bel).at (i := 1) (v := .int .i64 fo) rfl
            go_wp2_with (go_at_call 40; refine Hid.out ?_)
            refine Lib.hid ?_
            refine PO7.out.mono ?_
            rintro _ w8 ⟨rfl, hb78⟩
            have I8 := Lib.hid (I7.out.below hb78)
            clear PO7 RC7 I7 hb78 q0 q1 q2 q3 q4 q5 q6 q7 q8 q9 q10 q11 q12 q13 q14 z0 z1 z2 kf
            dsimp only
            go_wp2_with (at_builtin; refine Hid.out ?_)
            refine Lib.hid ?_
            refine wpList_append_own _ rfl (.tmp 34) (.tmp 40) 22 rfl w3.heap.size 25 ip (.agg #[.string ⟨#[]⟩, .int .i64 0]) 2 24 Tryd.underlying22 hp0 hp1 hp2 hp3 rfl (by decide) _ ack.length (Pp.cellsP ack) rfl (I8.out.md.row.alloc _) ⟨w8.heap.size, 0, none⟩ 1 1 [.string pk, .int .i64 pv] rfl rfl ?c1 ?c5 ?c2 ?c3 ?c4 ?_
            case c1 => exact lit_cells rfl (show 2 ≤ maxLen by decide)
            case c5 => intro u hu; simp at hu; rcases hu with rfl | rfl <;> rfl
            case c2 => unfold maxLen; omega
            case c3 => omega
            case c4 => have := I8.out.md.bel.size; simp; omega
            intro v2 w9 hown9 hg9 _
            have I9 : Hid (Mi w3 w9 B (ruleCells r ai ak av ci ck cv) (.slice (some ⟨rb, roff, none⟩) m uc) (.slice ra nw rc) L v2 (ack ++ [(pk, pv)])) := by
              refine ⟨⟨?_, ?_⟩, ?_, ?_⟩
              · rw [List.length_append, Pp.cellsP_append]
                exact hown9
              · have hs := I8.out.md.bel.size
                exact (I8.out.md.bel.alloc (by omega) _).grown hg9 (by simp; omega) (fun q hq => (I8.out.md.row.lt q hq).1)
              · exact blk_ow (I8.out.rule.blw (below_box _)) (I8.out.md.row.alloc _) (by decide) hg9
              · exact ow_grown (I8.out.recs.alloc _) (I8.out.md.row.alloc _) (by decide) hg9
            clear hown9 hg9 I8
            go_wp2
            go_roundg (m - (k + 1))
            case measure => have := HGK.out; have := HKM.out; omega
            case rel => exact ⟨k + 1, rfl, HKM.out, by have := HLN2.out; have := HMM.out; have := HKM.out; go_num, by rw [HAA2.out]; exact I9.out⟩
        · have HMD : Hid (Mk w3 wr u5 (rulesP (l.take (i + 1)) fo line)) := by
            have h := HI.out.md
            rw [List.take_of_length_le (by have := HMM.out; omega), ← HRP.out] at h
            exact h
          clear HI
          go_wp2
          go_roundg (n - (i + 1))
          case measure => have := HGI.out; omega
          case rel => exact ⟨i + 1, rfl, by omega, by go_num, HMD⟩
    · go_wp2
      have HFIN : Hid (l.take i = l) := List.take_of_length_le (by have := HN.out; omega)
      rw [HFIN.out] at HM
      have HL1 := Lib.hid (ow_low HM.out.row HB03.out.size)
      have HL2 := Lib.hid (below_trans HB03.out HM.out.bel)
      go_ret
      exact ⟨_, rfl, HL1.out, HL2.out⟩
end Go.Proofs.YtgkpnjnollfdaaaDoor
/- Mapper: what a job makes of lines; a run that may go on; what Step does. -/
namespace Go.Proofs.YtgkpnjnollfdaaaDoor
open Go.ChangeShapes Go.WideShapes Go.ChangeAt Go.RowKit
/-- What a job makes of lines. -/
def madeOf (j : Jb) (lines : List (List UInt8)) : List (ByteArray × Int) := lines.flatMap fun l => rulesP j.rules j.fold l
theorem madeOf_append (j : Jb) (a b : List (List UInt8)) : madeOf j (a ++ b) = madeOf j a ++ madeOf j b := by simp [madeOf]
theorem madeOf_len (j : Jb) (lines : List (List UInt8)) (h4 : j.rules.length ≤ 4) (hl : ∀ x ∈ lines, x.length ≤ 1000) : (madeOf j lines).length ≤ lines.length * 4004 := by
  induction lines with
  | nil => simp [madeOf]
  | cons x l ih =>
    have h1 := rulesP_len j.rules j.fold x
    have h2 := hl x (by simp)
    have h3 := Nat.mul_le_mul h4 (show x.length + 1 ≤ 1001 by omega)
    have h5 := ih fun y hy => hl y (by simp [hy])
    have e : madeOf j (x :: l) = rulesP j.rules j.fold x ++ madeOf j l := by simp [madeOf]
    rw [e, List.length_append, List.length_cons, Nat.succ_mul]
    omega
/-- A run that may go on. -/
structure MRin (w : World) (R : Nat) (j : Jb) (lines : List (List UInt8)) : Prop where
  fault : jobFault j = 0
  wt : rulesWt j.rules ≤ 1000000000
  many : lines.length ≤ 60
  long : ∀ x ∈ lines, x.length ≤ 1000
  env : ∀ w', Below R w w' → EnvS w'
/-- What Step does. -/
def StepDoes : Prop := ∀ (R done : Nat) (n : Int) (j : Jb) (rv lv mv : Value) (lines : List (List UInt8)) (w : World),
    IsMR w R j rv lv lines done mv (madeOf j (lines.take done)) → MRin w R j lines → done ≤ lines.length → -9223372036854775808 ≤ n → n ≤ 9223372036854775807 →
    Calls Tryd.prog 19 #[.pointer (some ⟨R, 0, none⟩), .int .i64 n] w fun e w' => ∃ (d' : Nat) (mv' : Value), d' = done + min n.toNat (lines.length - done) ∧ e = .returned (.bool (decide (d' = lines.length))) ∧ IsMR w' R j rv lv lines d' mv' (madeOf j (lines.take d')) ∧ FrM w w' R mv.ownBlock ∧ (mv'.ownBlock = mv.ownBlock ∨ ∀ b, mv'.ownBlock = some b → w.heap.size ≤ b)
/-- All lines at once. -/
theorem step_all (S : StepDoes) (R : Nat) (n : Int) (j : Jb) (rv lv : Value) (lines : List (List UInt8)) (w : World) (h : IsMR w R j rv lv lines 0 (.slice none 0 0) []) (hi : MRin w R j lines) (hn : 60 ≤ n) (hn1 : n ≤ 9223372036854775807) :
    Calls Tryd.prog 19 #[.pointer (some ⟨R, 0, none⟩), .int .i64 n] w fun e w' => e = .returned (.bool true) ∧ ∃ mv', IsMR w' R j rv lv lines lines.length mv' (madeOf j lines) ∧ FrM w w' R none ∧ ∀ b, mv'.ownBlock = some b → w.heap.size ≤ b := by
  refine (S R 0 n j rv lv (.slice none 0 0) lines w h hi (Nat.zero_le _) (by omega) hn1).mono ?_
  rintro e w' ⟨d', mv', hd, rfl, hr, hF, ho⟩
  have hm := hi.many
  have e : d' = lines.length := by rw [hd]; omega
  subst e
  rw [List.take_length] at hr
  refine ⟨by simp, mv', hr, hF, fun b hb => ?_⟩
  rcases ho with h1 | h1
  · rw [h1] at hb; cases hb
  · exact h1 b hb
end Go.Proofs.YtgkpnjnollfdaaaDoor
/- Contract of LightTexts. -/
namespace Go.Proofs.YtgkpnjnollfdaaaDoor
open Go.ChangeShapes Go.WideShapes Go.ChangeAt Go.RowKit
def lightT (l : List ByteArray) (most : Int) : Bool := l.all fun t => decide ((t.size : Int) ≤ most)
theorem lightT_step (l : List ByteArray) (most : Int) (k : Nat) (h : k < l.length) : lightT (l.take (k + 1)) most = (lightT (l.take k) most && decide ((l[k].size : Int) ≤ most)) := by
  unfold lightT
  rw [List.take_succ_eq_append_getElem h, List.all_append]
  simp
theorem lightT_out (l : List ByteArray) (most : Int) (k : Nat) (h : k < l.length) (h6 : most < (l[k].size : Int)) : lightT l most = false := by
  unfold lightT
  rw [List.all_eq_false]
  exact ⟨l[k], List.getElem_mem h, by simp; omega⟩
set_option maxRecDepth 100000 in
set_option maxHeartbeats 400000 in
theorem lightTexts_any (v : Value) (l : List ByteArray) (many most : Int) (w : World) (h : IsTexts w v l) (hl : l.length ≤ maxLen) :
    Calls Tryd.prog 16 #[v, .int .i64 many, .int .i64 most] w fun e w' => e = .returned (.bool (decide ((l.length : Int) ≤ many) && lightT l most)) ∧ w' = w := by
  unfold maxLen at hl
  obtain ⟨a, cap, rfl, hc⟩ := h
  by_cases hm : (l.length : Int) ≤ many
  · go_enter Tryd.func16, Tryd.ntmps16
    go_wp2
    go_loop [7] (fun i => ∃ k : Nat, k ≤ l.length ∧ i = .int .i64 k ∧ lightT (l.take k) most = true) (fun i => l.length - (intOf i).toNat)
    case atStart => exact ⟨0, Nat.zero_le _, rfl, rfl⟩
    case round =>
      obtain ⟨k, hk, rfl, hp⟩ := hrel
      have HP := Lib.hid hp
      clear hp
      by_cases hlt : k < l.length
      · obtain ⟨b, off, rfl, c0⟩ := hc k hlt
        clear hc
        by_cases h6 : (l[k].size : Int) ≤ most
        · go_wp2
          go_round
          case rel => exact ⟨k + 1, by omega, by go_num, by rw [lightT_step l most k hlt, HP.out]; simpa using h6⟩
          case measure => simp [intOf]; omega
        · go_wp2
          go_ret
          exact ⟨ret_bool (by simp [lightT_out l most k hlt (by omega)]), rfl⟩
      · clear hc
        go_wp2
        go_ret
        have hp := HP.out
        rw [List.take_of_length_le (by omega)] at hp
        exact ⟨ret_bool (by simp [hp]), rfl⟩
  · go_enter Tryd.func16, Tryd.ntmps16
    go_wp2
    go_ret
    exact ⟨ret_bool (by rw [show decide ((l.length : Int) ≤ many) = false from decide_eq_false (by omega), Bool.false_and]), rfl⟩
end Go.Proofs.YtgkpnjnollfdaaaDoor
/- Mapper: the closed fact ready; the walk of TopRules. -/
namespace Go.Proofs.YtgkpnjnollfdaaaDoor
open Go.ChangeShapes Go.WideShapes Go.ChangeAt Go.RowKit
def litRl : Rl := ⟨false, 0, .mk 0 0 [] [], [], .mk 2 0 [] [], .mk 9 0 [] []⟩
def litJb : Jb := ⟨[litRl], 1, false, 1⟩
theorem nilEx (w : World) (k : Int) : IsEx w (.slice none 0 0) (.mk k 0 [] []) :=
  IsEx.mk k 0 [] none 0 [] 0 0 (fun _ => undef) (fun h => by simp at h) (fun i x hx => by simp at hx) (fun i x hx => by simp at hx)
theorem litJb_fault : jobFault litJb = 0 := by decide +kernel
theorem litJb_pairs : rulesP litJb.rules litJb.fold [97, 32, 98] = [(⟨#[97, 32, 98]⟩, 2)] := by decide +kernel
theorem litJb_wt : rulesWt litJb.rules ≤ 1000000000 := by decide +kernel
theorem isRules_sub {w : World} {b off n cap i : Nat} {l : List Rl} {r : Rl} (h : IsRules w (.slice (some ⟨b, off, none⟩) n cap) l) (hr : l[i]? = some r) (cap' : Nat) : IsRules w (.slice (some ⟨b, off + i * 15, none⟩) 1 cap') [r] := by
  obtain ⟨a, cap0, b0, off0, AI, AK, AV, e, ha, hc⟩ := h
  have hi := (List.getElem?_eq_some_iff.1 hr).1
  have ha' := ha (by omega)
  injection e with e1 e2 e3
  rw [ha'] at e1
  injection e1 with e1
  injection e1 with e1 e4
  subst e1 e4
  refine ⟨_, cap', b, off + i * 15, fun k => AI (i + k), fun k => AK (i + k), fun k => AV (i + k), rfl, fun _ => rfl, fun k x hx => ?_⟩
  have hk : k = 0 ∧ r = x := by
    cases k with
    | zero => simpa using hx
    | succ k => simp at hx
  obtain ⟨rfl, rfl⟩ := hk
  have := hc i r hr
  simpa using this
set_option maxRecDepth 100000 in
set_option maxHeartbeats 1000000 in
theorem ready_any (w : World) (E : EnvS w) : Calls Tryd.prog 25 #[] w fun e w' => e = .returned (.bool true) ∧ Below w.heap.size w w' := by
  obtain ⟨w1, hw1⟩ : ∃ w1, w1 = w.alloc (.cells #[.bool false, .int .i64 0, .int .i64 0, .int .i64 0, .string ⟨#[]⟩, .slice none 0 0, .string ⟨#[]⟩, .int .i64 2, .int .i64 0, .string ⟨#[]⟩, .slice none 0 0, .int .i64 9, .int .i64 0, .string ⟨#[]⟩, .slice none 0 0] 43) := ⟨_, rfl⟩
  have hB : Blk w1 w.heap.size 43 [.bool false, .int .i64 0, .int .i64 0, .int .i64 0, .string ⟨#[]⟩, .slice none 0 0, .string ⟨#[]⟩, .int .i64 2, .int .i64 0, .string ⟨#[]⟩, .slice none 0 0, .int .i64 9, .int .i64 0, .string ⟨#[]⟩, .slice none 0 0] := by rw [hw1]; exact blk_new rfl
  obtain ⟨w2, hw2⟩ : ∃ w2, w2 = w1.alloc (.cells #[.slice (some ⟨w.heap.size, 0, none⟩) 1 1, .int .i64 1, .bool false, .int .i64 1] 37) := ⟨_, rfl⟩
  have hs1 : w1.heap.size = w.heap.size + 1 := by rw [hw1]; simp
  have hb1 : Below w.heap.size w w1 := by rw [hw1]; exact below_box _
  have hb12 : Below w1.heap.size w1 w2 := by rw [hw2]; exact below_box _
  have hb2 := below_trans hb1 hb12
  have hR : IsRules w2 (.slice (some ⟨w.heap.size, 0, none⟩) 1 1) litJb.rules := by
    have hB2 := hB.blw hb12
    refine ⟨_, 1, w.heap.size, 0, fun _ => .slice none 0 0, fun _ => .slice none 0 0, fun _ => .slice none 0 0, rfl, fun _ => rfl, fun i x hx => ?_⟩
    have hk : i = 0 ∧ litRl = x := by
      cases i with
      | zero => simpa [litJb] using hx
      | succ i => simp [litJb] at hx
    obtain ⟨rfl, rfl⟩ := hk
    refine ⟨⟨hB2.at rfl, hB2.at rfl, hB2.at rfl, hB2.at rfl, hB2.at rfl, hB2.at rfl, hB2.at rfl, hB2.at rfl, hB2.at rfl, hB2.at rfl, hB2.at rfl, hB2.at rfl, hB2.at rfl, hB2.at rfl, hB2.at rfl⟩, nilEx _ _, nilEx _ _, nilEx _ _⟩
  have JB2 : Blk w2 (w.heap.size + 1) 37 [.slice (some ⟨w.heap.size, 0, none⟩) 1 1, .int .i64 1, .bool false, .int .i64 1] := by rw [hw2]; exact blk_new hs1.symm
  have P := Lib.hid (pairs_any litJb _ [97, 32, 98] w2 hR litJb_wt litJb_fault (by decide) (E.lower hb2))
  rw [litJb_pairs] at P
  have k0 := JB2.at (i := 0) (v := .slice (some ⟨w.heap.size, 0, none⟩) 1 1) rfl
  have k1 := JB2.at (i := 1) (v := .int .i64 1) rfl
  have k2 := JB2.at (i := 2) (v := .bool false) rfl
  have k3 := JB2.at (i := 3) (v := .int .i64 1) rfl
  rw [hw1] at hw2
  have HW2 := Lib.hid hw2
  have HB2 := Lib.hid hb2
  clear hw1 hw2 hB hs1 hb1 hb12 hb2 hR JB2 E
  go_enter Tryd.func25, Tryd.ntmps25
  go_upto_region 2 with fail
  rw [← HW2.out]
  clear HW2
  go_wp2_with (go_at_call 14; refine Hid.out ?_)
  refine Lib.hid ?_
  refine P.out.mono ?_
  clear P
  rintro _ w3 ⟨u, rfl, hrow, hb3⟩
  have hP := Pp.owns_isPairs hrow
  have SP := Lib.hid (Pp.samePairs_any u (.slice (some ⟨w3.heap.size, 0, none⟩) 1 1) [(⟨#[97, 32, 98]⟩, 2)] [(⟨#[97, 32, 98]⟩, 2)] (w3.alloc (.cells #[.string ⟨#[97, 32, 98]⟩, .int .i64 2] 25)) (Pp.isPairs_below hP (below_box _)) (Pp.isPairs_one _ _ _ _ rfl) (by decide))
  rw [decide_eq_true rfl] at SP
  have hb := below_trans HB2.out hb3
  obtain ⟨ua, uc, rfl, -⟩ := hP
  clear hrow hb3
  dsimp only
  go_wp2_with (go_at_call 12; refine Hid.out ?_)
  refine Lib.hid ?_
  refine SP.out.mono ?_
  rintro _ w4 ⟨rfl, nd, hd⟩
  have hb4 : Below w.heap.size w w4 := by rw [hd]; exact below_trans (below_trans hb (below_box _)) (below_drewN _ _)
  clear hd SP
  go_wp2
  go_ret
  exact ⟨rfl, hb4⟩
end Go.Proofs.YtgkpnjnollfdaaaDoor
/- Mapper: plain facts of jobs that may be, of what they make, of slices. -/
namespace Go.Proofs.YtgkpnjnollfdaaaDoor
open Go.ChangeShapes Go.WideShapes Go.ChangeAt Go.RowKit
theorem rule_small {x : Rl} (hx : ruleFault x = 0) : x.wt ≤ 2000 := by
  have h := rlIn_of hx
  have h1 := fault_wt h.key
  have h2 := fault_wt h.val
  have h0 : whenFault x = 0 := by
    unfold ruleFault at hx
    by_cases h3 : whenFault x ≠ 0
    · rw [if_pos h3] at hx; exact absurd hx h3
    · exact Decidable.not_not.1 h3
  have h3 : x.iff.wt ≤ 630 ∧ x.s.length ≤ 20 := by
    rcases h.when with h4 | ⟨h4, h5⟩
    · unfold whenFault at h0
      rw [if_pos h4] at h0
      have h6 : (x.iff.zero && x.s.isEmpty) = true := by
        cases h7 : (x.iff.zero && x.s.isEmpty) with
        | true => rfl
        | false => rw [h7] at h0; simp at h0
      simp only [Bool.and_eq_true, Ex.zero, decide_eq_true_eq, List.isEmpty_iff] at h6
      refine ⟨?_, by rw [h6.2]; simp⟩
      cases he : x.iff with
      | mk k n s a =>
        rw [he] at h6
        simp only [Ex.s, Ex.a] at h6
        rw [h6.1.1.2, List.eq_nil_of_length_eq_zero h6.1.2]
        simp [Ex.wt, Ex.wt.wtL]
    · refine ⟨fault_wt h5, ?_⟩
      unfold whenFault at h0
      rw [if_neg (by omega), if_pos h4] at h0
      by_cases h6 : fitsB x.s 20 = true
      · unfold fitsB at h6
        simp only [Bool.and_eq_true, decide_eq_true_eq] at h6
        exact h6.1
      · rw [if_neg h6] at h0; omega
  unfold Rl.wt
  omega
theorem job_small {j : Jb} (h : jobFault j = 0) : rulesWt j.rules ≤ 8000 := by
  obtain ⟨_, h4, _, _, _, _, hf⟩ := jobFault_parts h
  have hall := rulesFault_all hf
  have gen : ∀ l : List Rl, (∀ x ∈ l, ruleFault x = 0) → rulesWt l ≤ l.length * 2000 := by
    intro l
    induction l with
    | nil => intro _; simp [rulesWt]
    | cons x l ih =>
      intro hl
      have h1 := rule_small (hl x (by simp))
      have h2 := ih fun y hy => hl y (by simp [hy])
      unfold rulesWt at h2 ⊢
      simp only [List.map_cons, List.sum_cons, List.length_cons]
      omega
  have := gen j.rules hall
  omega
theorem made_key {j : Jb} {lines : List (List UInt8)} {p : ByteArray × Int} (h : p ∈ madeOf j lines) : p.1.size ≤ 20 := by
  unfold madeOf rulesP ruleP at h
  simp only [List.mem_flatMap, List.mem_map] at h
  obtain ⟨_, _, r, _, x, _, rfl⟩ := h
  unfold pairL
  simp only [bs_size, List.length_take]
  omega
theorem sum_slices (ns : Nat) (h1 : 1 ≤ ns) (Z : List (ByteArray × Int)) : ((List.range ns).map fun k => (inSlice ns k Z).length).sum = Z.length := by
  have one : ∀ (m i : Nat), i < m → ((List.range m).map fun k => if i = k then 1 else 0).sum = 1 := by
    intro m
    induction m with
    | zero => intro i hi; omega
    | succ m ih =>
      intro i hi
      rw [List.range_succ, List.map_append, List.sum_append]
      by_cases e : i = m
      · subst e
        have z : ∀ q, q ≤ i → ((List.range q).map fun k => if i = k then 1 else 0).sum = 0 := by
          intro q
          induction q with
          | zero => intro _; rfl
          | succ q ihq =>
            intro hq
            rw [List.range_succ, List.map_append, List.sum_append, ihq (by omega)]
            simp; omega
        rw [z i (Nat.le_refl _)]
        simp
      · rw [ih i (by omega)]
        simp [e]
  have add : ∀ (m : Nat) (f g : Nat → Nat), ((List.range m).map fun k => f k + g k).sum = ((List.range m).map f).sum + ((List.range m).map g).sum := by
    intro m f g
    induction m with
    | zero => rfl
    | succ m ih => simp only [List.range_succ, List.map_append, List.sum_append, ih, List.map_cons, List.map_nil, List.sum_cons, List.sum_nil]; omega
  induction Z with
  | nil =>
    have : (fun k => (inSlice (ns : Int) k ([] : List (ByteArray × Int))).length) = fun _ => 0 := by funext k; rfl
    rw [this]
    have z : ∀ m, ((List.range m).map fun _ => 0).sum = 0 := by intro m; induction m with
      | zero => rfl
      | succ m ih => simp [List.range_succ, ih]
    rw [z]; rfl
  | cons p Z ih =>
    have hs := (sliceN_lt (many := (ns : Int)) (by omega) (Pp.Stable.key p)).2
    have e : (fun k => (inSlice (ns : Int) k (p :: Z)).length) = fun k => (if sliceN ns (Pp.Stable.key p) = k then 1 else 0) + (inSlice (ns : Int) k Z).length := by
      funext k
      unfold inSlice
      by_cases h : sliceN ns (Pp.Stable.key p) = k
      · rw [List.filter_cons_of_pos (by simp [h]), if_pos h, List.length_cons]; omega
      · rw [List.filter_cons_of_neg (by simp [h]), if_neg h]; omega
    rw [e, add, ih, one ns _ (by simpa using hs), List.length_cons]
    omega
theorem slicesOf_at {fo : Int} {ea : Bool} {ns k : Nat} (h : k < ns) (M : List (ByteArray × Int)) : (slicesOf fo ea ns M)[k]? = some (finL ea fo (inSlice ns k (Pp.Tot.srt M))) := by
  unfold slicesOf
  rw [List.getElem?_map, List.getElem?_range h]
  rfl
theorem grp_mem_key {kind : Int} {l : List (ByteArray × Int)} {p : ByteArray × Int} (h : p ∈ Pp.Grp.grp kind l) : ∃ q ∈ l, Pp.Stable.key q = Pp.Stable.key p := by
  by_cases hq : ∃ q ∈ l, Pp.Stable.key q = Pp.Stable.key p
  · exact hq
  · have h1 := Pp.Tot.tot_none kind (Pp.Stable.key p) l (fun q hq2 e => hq ⟨q, hq2, e⟩)
    have h2 := Pp.Tot.tot_some kind h
    rw [Pp.Tot.tot_grp] at h2
    exact absurd h1 h2
/-- Each pair of a slice lies in the one of its key; the keys rise; folded, each is there once. -/
theorem slice_key {fo : Int} {ea : Bool} {ns k : Nat} {Z : List (ByteArray × Int)} {p : ByteArray × Int} (h : p ∈ finL ea fo (inSlice ns k Z)) : sliceN ns (Pp.Stable.key p) = k := by
  unfold finL at h
  split at h
  · obtain ⟨q, hq, e⟩ := grp_mem_key h
    unfold inSlice at hq
    rw [List.mem_filter] at hq
    rw [← e]
    exact of_decide_eq_true hq.2
  · unfold inSlice at h
    rw [List.mem_filter] at h
    exact of_decide_eq_true h.2
theorem slice_rises {fo : Int} {ns k : Nat} (M : List (ByteArray × Int)) : Pp.Tot.Rises (finL true fo (inSlice ns k (Pp.Tot.srt M))) := by
  unfold finL inSlice
  rw [if_pos rfl]
  exact Pp.Tot.rises_grp fo _ (Pp.Tot.Sorted.filter (Pp.Tot.srt_sorted M) _)
theorem slice_sorted {fo : Int} {ea : Bool} {ns k : Nat} (M : List (ByteArray × Int)) : Pp.Stable.Sorted (finL ea fo (inSlice ns k (Pp.Tot.srt M))) := by
  cases ea with
  | true => exact Pp.Tot.Rises.sorted (slice_rises M)
  | false => exact Pp.Tot.Sorted.filter (Pp.Tot.srt_sorted M) _
theorem fin_len {fo : Int} {ea : Bool} (l : List (ByteArray × Int)) : (finL ea fo l).length ≤ l.length ∧ (ea = false → (finL ea fo l).length = l.length) := by
  unfold finL
  cases ea with
  | true => exact ⟨Pp.Grp.grp_len fo l, fun h => by cases h⟩
  | false => exact ⟨Nat.le_refl _, fun _ => rfl⟩
/-- How many pairs are in the first so many slices. -/
def upto (fo : Int) (ea : Bool) (ns : Nat) (M : List (ByteArray × Int)) (k : Nat) : Nat := ((List.range k).map fun i => (finL ea fo (inSlice ns i (Pp.Tot.srt M))).length).sum
theorem upto_succ (fo : Int) (ea : Bool) (ns : Nat) (M : List (ByteArray × Int)) (k : Nat) : upto fo ea ns M (k + 1) = upto fo ea ns M k + (finL ea fo (inSlice ns k (Pp.Tot.srt M))).length := by
  unfold upto
  rw [List.range_succ, List.map_append, List.sum_append]
  simp
theorem upto_le (fo : Int) (ea : Bool) (ns : Nat) (h1 : 1 ≤ ns) (M : List (ByteArray × Int)) : upto fo ea ns M ns ≤ M.length ∧ (ea = false → upto fo ea ns M ns = M.length) := by
  have hs := sum_slices ns h1 (Pp.Tot.srt M)
  rw [Pp.Tot.srt_len] at hs
  have le : ∀ m, upto fo ea ns M m ≤ ((List.range m).map fun k => (inSlice (ns : Int) k (Pp.Tot.srt M)).length).sum ∧ (ea = false → upto fo ea ns M m = ((List.range m).map fun k => (inSlice (ns : Int) k (Pp.Tot.srt M)).length).sum) := by
    intro m
    induction m with
    | zero => exact ⟨Nat.le_refl _, fun _ => rfl⟩
    | succ m ih =>
      have h2 := fin_len (fo := fo) (ea := ea) (inSlice ns m (Pp.Tot.srt M))
      rw [upto_succ, List.range_succ, List.map_append, List.sum_append]
      simp only [List.map_cons, List.map_nil, List.sum_cons, List.sum_nil, Nat.add_zero]
      exact ⟨Nat.add_le_add ih.1 h2.1, fun h => by rw [ih.2 h, h2.2 h]⟩
  obtain ⟨h2, h3⟩ := le ns
  rw [hs] at h2 h3
  exact ⟨h2, h3⟩
end Go.Proofs.YtgkpnjnollfdaaaDoor
/- Contracts of pair.cutKey and pair.first: what a text begins with. -/
namespace Go.Proofs.YtgkpnjnollfdaaaDoor.Pp
open Go.ChangeShapes Go.WideShapes Go.ChangeAt Go.RowKit
open Num

/-- A key that is told ahead of ':', what stands behind it, and whether it is there. -/
def keyT (l : List UInt8) : List UInt8 × List UInt8 × Bool :=
  if (cutAt 58 l).2.2 then
    match numB (cutAt 58 l).1 with
    | some n => if 0 ≤ n ∧ n ≤ ((cutAt 58 l).2.1.length : Int) then ((cutAt 58 l).2.1.take n.toNat, (cutAt 58 l).2.1.drop n.toNat, true) else ([], [], false)
    | none => ([], [], false)
  else ([], [], false)
theorem cutAt_len (c : UInt8) : ∀ l : List UInt8, (cutAt c l).1.length ≤ l.length ∧ (cutAt c l).2.1.length ≤ l.length ∧ ((cutAt c l).2.2 = true → (cutAt c l).2.1.length < l.length) := by
  intro l
  induction l with
  | nil => simp [cutAt]
  | cons b r ih =>
    unfold cutAt
    split
    · simp
    · simp only [List.length_cons]
      exact ⟨by omega, by omega, fun h => by have := ih.2.2 h; omega⟩

set_option maxRecDepth 100000 in
set_option maxHeartbeats 1000000 in
theorem cutKey_any (l : List UInt8) (w : World) (E : Env w) (hl : l.length ≤ 4000000000) :
    Calls Tryd.prog 50 #[.string (bs l)] w fun e w' => e = .returned (.tuple #[.string (bs (keyT l).1), .string (bs (keyT l).2.1), .bool (keyT l).2.2]) ∧ Below w.heap.size w w' := by
  have hsz := bs_size l
  have C1 : Hid (∀ w, Env w → Calls Tryd.prog 51 #[.string (bs l), .string ⟨#[58]⟩] w fun e w' => e = .returned (.tuple #[.string (bs (cutAt 58 l).1), .string (bs (cutAt 58 l).2.1), .bool (cutAt 58 l).2.2]) ∧ Below w.heap.size w w') := by
    intro w E
    have := cut_any (bs l) 58 w E (by omega)
    rw [bs_data] at this
    exact this
  have hlen := cutAt_len 58 l
  have C2 : Hid (∀ w, Env w → Calls Tryd.prog 52 #[.string (bs (cutAt 58 l).1)] w fun e w' => e = .returned (.tuple #[.int .i64 ((numB (cutAt 58 l).1).getD 0), .bool (numB (cutAt 58 l).1).isSome]) ∧ Below w.heap.size w w') := fun w E => number_pair _ w E (by omega)
  have hemp : bs [] = ⟨#[]⟩ := rfl
  unfold keyT
  rcases hc : cutAt 58 l with ⟨a, rest, ok⟩
  rw [hc] at C1 C2 hlen
  have hrs := bs_size rest
  simp only at C1 C2 hlen ⊢
  clear hc
  cases ok with
  | false =>
    rw [if_neg (by simp)]
    cases hn : numB a with
    | none =>
      rw [hn] at C2
      simp only [Option.getD_none, Option.isSome_none] at C2
      clear hn
      go_enter Tryd.func50, Tryd.ntmps50
      go_wp2_with (first | (go_at_call 51; refine (C1.out _ E).mono ?_; rintro e w1 ⟨rfl, hb1⟩) | (go_at_call 52; refine (C2.out _ (E.below hb1)).mono ?_; rintro e w2 ⟨rfl, hb2⟩))
      go_ret3
      exact ⟨rfl, below_trans hb1 hb2⟩
    | some n =>
      rw [hn] at C2
      simp only [Option.getD_some, Option.isSome_some] at C2
      clear hn
      go_enter Tryd.func50, Tryd.ntmps50
      go_wp2_with (first | (go_at_call 51; refine (C1.out _ E).mono ?_; rintro e w1 ⟨rfl, hb1⟩) | (go_at_call 52; refine (C2.out _ (E.below hb1)).mono ?_; rintro e w2 ⟨rfl, hb2⟩))
      go_ret3
      exact ⟨rfl, below_trans hb1 hb2⟩
  | true =>
    rw [if_pos rfl]
    cases hn : numB a with
    | none =>
      rw [hn] at C2
      simp only [Option.getD_none, Option.isSome_none] at C2
      clear hn
      go_enter Tryd.func50, Tryd.ntmps50
      go_wp2_with (first | (go_at_call 51; refine (C1.out _ E).mono ?_; rintro e w1 ⟨rfl, hb1⟩) | (go_at_call 52; refine (C2.out _ (E.below hb1)).mono ?_; rintro e w2 ⟨rfl, hb2⟩))
      go_ret3
      exact ⟨rfl, below_trans hb1 hb2⟩
    | some n =>
      rw [hn] at C2
      simp only [Option.getD_some, Option.isSome_some] at C2
      clear hn
      simp only
      by_cases hr : 0 ≤ n ∧ n ≤ (rest.length : Int)
      · rw [if_pos hr]
        obtain ⟨hr0, hr1⟩ := hr
        obtain ⟨k, rfl⟩ := Int.eq_ofNat_of_zero_le hr0
        have hk : k ≤ rest.length := by omega
        have hk' : k ≤ (bs rest).size := by omega
        have hT := bs_take rest k
        have hD := bs_drop rest k
        have HT := Lib.hid hT
        have HD := Lib.hid hD
        have HR := Lib.hid hrs
        have hbig : (bs rest).size ≤ 9000000000 := by omega
        clear hT hD hrs hr0 hr1
        go_enter Tryd.func50, Tryd.ntmps50
        go_wp2_with (first | (go_at_call 51; refine (C1.out _ E).mono ?_; rintro e w1 ⟨rfl, hb1⟩) | (go_at_call 52; refine (C2.out _ (E.below hb1)).mono ?_; rintro e w2 ⟨rfl, hb2⟩))
        go_quiet (fail)
        go_wp2
        go_ret3
        refine ⟨?_, (below_trans hb1 hb2).trans ((below_drewN _ _).mono (below_trans hb1 hb2).size)⟩
        show Ending.returned (.tuple #[.string ((bs rest).extract 0 k), .string ((bs rest).extract k (bs rest).size), .bool true]) = _
        rw [HT.out, HD.out, Int.toNat_natCast]
      · rw [if_neg hr]
        go_enter Tryd.func50, Tryd.ntmps50
        go_wp2_with (first | (go_at_call 51; refine (C1.out _ E).mono ?_; rintro e w1 ⟨rfl, hb1⟩) | (go_at_call 52; refine (C2.out _ (E.below hb1)).mono ?_; rintro e w2 ⟨rfl, hb2⟩))
        all_goals go_ret3
        all_goals exact ⟨rfl, below_trans hb1 hb2⟩

/-- The pair that a text begins with, what stands behind it, and whether there is one. -/
def stepT (l : List UInt8) : (List UInt8 × Int) × List UInt8 × Bool :=
  if (keyT l).2.2 = true ∧ (keyT l).2.1.head? = some 32 then
    if (cutAt 10 (keyT l).2.1.tail).2.2 then
      match numB (cutAt 10 (keyT l).2.1.tail).1 with
      | some v => (((keyT l).1, v), (cutAt 10 (keyT l).2.1.tail).2.1, true)
      | none => (([], 0), [], false)
    else (([], 0), [], false)
  else (([], 0), [], false)
theorem keyT_len (l : List UInt8) : (keyT l).1.length ≤ l.length ∧ (keyT l).2.1.length ≤ l.length := by
  have h := cutAt_len 58 l
  unfold keyT
  split
  · split
    · split
      · simp only [List.length_take, List.length_drop]; omega
      · simp
    · simp
  · simp
def fstV (p : (List UInt8 × Int) × List UInt8 × Bool) : Value := .tuple #[.agg #[.string (bs p.1.1), .int .i64 p.1.2], .string (bs p.2.1), .bool p.2.2]
theorem bs_cons_ne (c : UInt8) (r : List UInt8) : (bs (c :: r)).toList.isEmpty = false := by rw [bs_toList]; rfl
theorem bs_cons_at (c : UInt8) (r : List UInt8) (h : 0 < (bs (c :: r)).size) : (bs (c :: r))[0] = c := by
  have : (bs (c :: r)).data.toList[0]? = some c := by rw [bs_data]; rfl
  rw [List.getElem?_eq_getElem (by simpa using h), Option.some.injEq] at this
  exact this

set_option maxRecDepth 100000 in
set_option maxHeartbeats 2000000 in
theorem pfirst_any (l : List UInt8) (w : World) (E : Env w) (hl : l.length ≤ 4000000000) :
    Calls Tryd.prog 33 #[.string (bs l)] w fun e w' => e = .returned (fstV (stepT l)) ∧ Below w.heap.size w w' := by
  have C1 : Hid (∀ w, Env w → Calls Tryd.prog 50 #[.string (bs l)] w fun e w' => e = .returned (.tuple #[.string (bs (keyT l).1), .string (bs (keyT l).2.1), .bool (keyT l).2.2]) ∧ Below w.heap.size w w') := fun w E => cutKey_any l w E hl
  have hlen := keyT_len l
  unfold stepT
  rcases hk : keyT l with ⟨key, rest, ok⟩
  rw [hk] at C1 hlen
  simp only at C1 hlen ⊢
  clear hk
  cases ok with
  | false =>
    rw [if_neg (by simp)]
    go_enter Tryd.func33, Tryd.ntmps33
    go_wp2_with (go_at_call 50; refine (C1.out _ (E.below ((Below.refl _ _).alloc (Nat.le_refl _) _))).mono ?_; rintro e w1 ⟨rfl, hb1⟩; obtain ⟨hc1, hf1⟩ := bcell hb1)
    exact bodyPost_ret (v := fstV (([], 0), [], false)) (by simp [results, Tryd.results33, go_sem, hc1, fstV]; rfl) rfl ⟨rfl, ((((Below.refl _ _).alloc (Nat.le_refl _) _).trans (hb1.mono (by simp))).setCell (Nat.le_refl _) _).setCell (Nat.le_refl _) _⟩
  | true =>
    cases rest with
    | nil =>
      rw [if_neg (by simp)]
      have hT : (bs []).toList.isEmpty = true := by rw [bs_toList]; rfl
      go_enter Tryd.func33, Tryd.ntmps33
      go_wp2_with (go_at_call 50; refine (C1.out _ (E.below ((Below.refl _ _).alloc (Nat.le_refl _) _))).mono ?_; rintro e w1 ⟨rfl, hb1⟩; obtain ⟨hc1, hf1⟩ := bcell hb1)
      exact bodyPost_ret (v := fstV (([], 0), [], false)) (by simp [results, Tryd.results33, go_sem, hc1, fstV]; rfl) rfl ⟨rfl, ((((Below.refl _ _).alloc (Nat.le_refl _) _).trans (hb1.mono (by simp))).setCell (Nat.le_refl _) _).setCell (Nat.le_refl _) _⟩
    | cons c r =>
      have hT := bs_cons_ne c r
      have h0 : 0 < (bs (c :: r)).size := by rw [bs_size]; simp
      have h0' : (0 : Int) < (bs (c :: r)).size := by omega
      have hA := bs_cons_at c r
      have hsb : (bs (c :: r)).size ≤ 9000000000 := by rw [bs_size]; omega
      by_cases hc : c = 32
      · subst hc
        rw [if_pos (by simp), List.tail_cons]
        have hD : (bs (32 :: r)).extract 1 (bs (32 :: r)).size = bs r := by rw [bs_drop]; rfl
        have hn32 : (32 : UInt8).toNat = 32 := rfl
        have C2 : Hid (∀ w, Env w → Calls Tryd.prog 51 #[.string (bs r), .string ⟨#[10]⟩] w fun e w' => e = .returned (.tuple #[.string (bs (cutAt 10 r).1), .string (bs (cutAt 10 r).2.1), .bool (cutAt 10 r).2.2]) ∧ Below w.heap.size w w') := by
          intro w E
          have := cut_any (bs r) 10 w E (by rw [bs_size]; simp at hlen; omega)
          rw [bs_data] at this
          exact this
        have hlen2 := cutAt_len 10 r
        simp only [List.length_cons] at hlen
        rcases hc : cutAt 10 r with ⟨a, more, ok2⟩
        rw [hc] at C2 hlen2
        simp only at C2 hlen2 ⊢
        have C3 : Hid (∀ w, Env w → Calls Tryd.prog 52 #[.string (bs a)] w fun e w' => e = .returned (.tuple #[.int .i64 ((numB a).getD 0), .bool (numB a).isSome]) ∧ Below w.heap.size w w') := fun w E => number_pair a w E (by omega)
        clear hc hlen hlen2
        cases ok2 with
        | false =>
          rw [if_neg (by simp)]
          cases hn : numB a with
          | none =>
            rw [hn] at C3
            simp only [Option.getD_none, Option.isSome_none] at C3
            go_enter Tryd.func33, Tryd.ntmps33
            go_wp2_with (first | (go_at_call 50; refine (C1.out _ (E.below ((Below.refl _ _).alloc (Nat.le_refl _) _))).mono ?_; rintro e w1 ⟨rfl, hb1⟩; obtain ⟨hc1, hf1⟩ := bcell hb1; have hz1 : w.heap.size < w1.heap.size := by { have := hb1.size; simp at this; omega }; have E1 : Env w1 := E.below (((Below.refl _ _).alloc (Nat.le_refl _) _).trans (hb1.mono (by simp)))) | (go_at_call 51; refine (C2.out _ E1).mono ?_; rintro e w2 ⟨rfl, hb2⟩; obtain ⟨hc2, hf2⟩ := bcell hb2; have hz2 : w.heap.size < w2.heap.size := by { have := hb2.size; omega }; have E2 : Env w2 := E1.below hb2) | (go_at_call 52; refine (C3.out _ E2).mono ?_; rintro e w3 ⟨rfl, hb3⟩; obtain ⟨hc3, hf3⟩ := bcell hb3; have hz3 : w.heap.size < w3.heap.size := by { have := hb3.size; omega }))
            exact bodyPost_ret (v := fstV (([], 0), [], false)) (by simp [results, Tryd.results33, go_sem, hc1, hc2, hc3, hz1, hz2, fstV]; rfl) rfl ⟨rfl, ((((Below.refl _ _).alloc (Nat.le_refl _) _).trans ((below_trans (below_trans hb1 hb2) hb3).mono (by simp))).setCell (Nat.le_refl _) _).setCell (Nat.le_refl _) _⟩
          | some v =>
            rw [hn] at C3
            simp only [Option.getD_some, Option.isSome_some] at C3
            clear hn
            go_enter Tryd.func33, Tryd.ntmps33
            go_wp2_with (first | (go_at_call 50; refine (C1.out _ (E.below ((Below.refl _ _).alloc (Nat.le_refl _) _))).mono ?_; rintro e w1 ⟨rfl, hb1⟩; obtain ⟨hc1, hf1⟩ := bcell hb1; have hz1 : w.heap.size < w1.heap.size := by { have := hb1.size; simp at this; omega }; have E1 : Env w1 := E.below (((Below.refl _ _).alloc (Nat.le_refl _) _).trans (hb1.mono (by simp)))) | (go_at_call 51; refine (C2.out _ E1).mono ?_; rintro e w2 ⟨rfl, hb2⟩; obtain ⟨hc2, hf2⟩ := bcell hb2; have hz2 : w.heap.size < w2.heap.size := by { have := hb2.size; omega }; have E2 : Env w2 := E1.below hb2) | (go_at_call 52; refine (C3.out _ E2).mono ?_; rintro e w3 ⟨rfl, hb3⟩; obtain ⟨hc3, hf3⟩ := bcell hb3; have hz3 : w.heap.size < w3.heap.size := by { have := hb3.size; omega }))
            exact bodyPost_ret (v := fstV (([], 0), [], false)) (by simp [results, Tryd.results33, go_sem, hc1, hc2, hc3, hz1, hz2, fstV]; rfl) rfl ⟨rfl, ((((Below.refl _ _).alloc (Nat.le_refl _) _).trans ((below_trans (below_trans hb1 hb2) hb3).mono (by simp))).setCell (Nat.le_refl _) _).setCell (Nat.le_refl _) _⟩
        | true =>
          rw [if_pos rfl]
          cases hn : numB a with
          | none =>
            rw [hn] at C3
            simp only [Option.getD_none, Option.isSome_none] at C3
            simp only
            go_enter Tryd.func33, Tryd.ntmps33
            go_wp2_with (first | (go_at_call 50; refine (C1.out _ (E.below ((Below.refl _ _).alloc (Nat.le_refl _) _))).mono ?_; rintro e w1 ⟨rfl, hb1⟩; obtain ⟨hc1, hf1⟩ := bcell hb1; have hz1 : w.heap.size < w1.heap.size := by { have := hb1.size; simp at this; omega }; have E1 : Env w1 := E.below (((Below.refl _ _).alloc (Nat.le_refl _) _).trans (hb1.mono (by simp)))) | (go_at_call 51; refine (C2.out _ E1).mono ?_; rintro e w2 ⟨rfl, hb2⟩; obtain ⟨hc2, hf2⟩ := bcell hb2; have hz2 : w.heap.size < w2.heap.size := by { have := hb2.size; omega }; have E2 : Env w2 := E1.below hb2) | (go_at_call 52; refine (C3.out _ E2).mono ?_; rintro e w3 ⟨rfl, hb3⟩; obtain ⟨hc3, hf3⟩ := bcell hb3; have hz3 : w.heap.size < w3.heap.size := by { have := hb3.size; omega }))
            exact bodyPost_ret (v := fstV (([], 0), [], false)) (by simp [results, Tryd.results33, go_sem, hc1, hc2, hc3, hz1, hz2, fstV]; rfl) rfl ⟨rfl, ((((Below.refl _ _).alloc (Nat.le_refl _) _).trans ((below_trans (below_trans hb1 hb2) hb3).mono (by simp))).setCell (Nat.le_refl _) _).setCell (Nat.le_refl _) _⟩
          | some v =>
            rw [hn] at C3
            simp only [Option.getD_some, Option.isSome_some] at C3
            simp only
            clear hn
            go_enter Tryd.func33, Tryd.ntmps33
            go_wp2_with (first | (go_at_call 50; refine (C1.out _ (E.below ((Below.refl _ _).alloc (Nat.le_refl _) _))).mono ?_; rintro e w1 ⟨rfl, hb1⟩; obtain ⟨hc1, hf1⟩ := bcell hb1; have hz1 : w.heap.size < w1.heap.size := by { have := hb1.size; simp at this; omega }; have E1 : Env w1 := E.below (((Below.refl _ _).alloc (Nat.le_refl _) _).trans (hb1.mono (by simp)))) | (go_at_call 51; refine (C2.out _ E1).mono ?_; rintro e w2 ⟨rfl, hb2⟩; obtain ⟨hc2, hf2⟩ := bcell hb2; have hz2 : w.heap.size < w2.heap.size := by { have := hb2.size; omega }; have E2 : Env w2 := E1.below hb2) | (go_at_call 52; refine (C3.out _ E2).mono ?_; rintro e w3 ⟨rfl, hb3⟩; obtain ⟨hc3, hf3⟩ := bcell hb3; have hz3 : w.heap.size < w3.heap.size := by { have := hb3.size; omega }))
            exact bodyPost_ret (v := fstV ((key, v), more, true)) (by simp [results, Tryd.results33, go_sem, hc1, hc2, hc3, hz1, hz2, fstV]) rfl ⟨rfl, ((((Below.refl _ _).alloc (Nat.le_refl _) _).trans ((below_trans (below_trans hb1 hb2) hb3).mono (by simp))).setCell (Nat.le_refl _) _).setCell (Nat.le_refl _) _⟩
      · rw [if_neg (by simpa using hc)]
        have hc' : ((c.toNat : Int) == 32) = false := by
          simp only [beq_eq_false_iff_ne, ne_eq]
          intro e
          exact hc (UInt8.toNat_inj.1 (by have : (32 : UInt8).toNat = 32 := rfl
                                          omega))
        go_enter Tryd.func33, Tryd.ntmps33
        go_wp2_with (go_at_call 50; refine (C1.out _ (E.below ((Below.refl _ _).alloc (Nat.le_refl _) _))).mono ?_; rintro e w1 ⟨rfl, hb1⟩; obtain ⟨hc1, hf1⟩ := bcell hb1)
        exact bodyPost_ret (v := fstV (([], 0), [], false)) (by simp [results, Tryd.results33, go_sem, hc1, fstV]; rfl) rfl ⟨rfl, ((((Below.refl _ _).alloc (Nat.le_refl _) _).trans (hb1.mono (by simp))).setCell (Nat.le_refl _) _).setCell (Nat.le_refl _) _⟩
end Go.Proofs.YtgkpnjnollfdaaaDoor.Pp
/- Contract of pair.Parse: the pairs of which a text is the text, or an error. -/
namespace Go.Proofs.YtgkpnjnollfdaaaDoor.Pp
open Go.ChangeShapes Go.WideShapes Go.ChangeAt Go.RowKit
open Num

/-- The cells that pairs fill. -/
def flat (l : List (ByteArray × Int)) : List Value := l.flatMap fun p => [.string p.1, .int .i64 p.2]
theorem flat_length (l : List (ByteArray × Int)) : (flat l).length = l.length * 2 := by
  induction l with
  | nil => rfl
  | cons p l ih => simp only [flat, List.flatMap_cons, List.length_append, List.length_cons, List.length_nil] at *; omega
theorem flat_append (a b : List (ByteArray × Int)) : flat (a ++ b) = flat a ++ flat b := by simp [flat]
theorem flat_at (l : List (ByteArray × Int)) : ∀ (i : Nat) (h : i < l.length), (flat l)[i * 2]? = some (.string l[i].1) ∧ (flat l)[i * 2 + 1]? = some (.int .i64 l[i].2) := by
  induction l with
  | nil => intro i h; simp at h
  | cons p l ih =>
    intro i h
    cases i with
    | zero => exact ⟨rfl, rfl⟩
    | succ i =>
      have h' : i < l.length := by simpa using h
      have e : flat (p :: l) = .string p.1 :: .int .i64 p.2 :: flat l := rfl
      rw [e, show (i + 1) * 2 = i * 2 + 1 + 1 by omega]
      simpa using ih i h'
theorem isPairs_of {w : World} {base : Nat} {v : Value} {l : List (ByteArray × Int)} (h : w.ownsRow base 25 2 v l.length (flat l)) : IsPairs w v l := by
  rcases h.2 with ⟨rfl, h0⟩ | ⟨g, cap, cur, rfl, _⟩
  · exact ⟨none, 0, by rw [h0], fun i hi => by omega⟩
  · refine ⟨some ⟨g, 0, none⟩, cap, rfl, fun i hi => ⟨g, 0, rfl, ?_, ?_⟩⟩
    · rw [Nat.zero_add, h.cellAt (i * 2) (by omega)]; exact (flat_at l i hi).1
    · rw [Nat.zero_add, h.cellAt (i * 2 + 1) (by omega)]; exact (flat_at l i hi).2
theorem flat_one {p : ByteArray × Int} : ∀ u ∈ flat [p], u.oneCell' = true := by
  intro u hu
  simp only [flat, List.flatMap_cons, List.flatMap_nil, List.append_nil, List.mem_cons, List.not_mem_nil, or_false] at hu
  rcases hu with rfl | rfl <;> rfl

theorem owns_below {w w' : World} {base : Nat} {e : TypeId} {size : Nat} {v : Value} {n : Nat} {xs : List Value} (h : w.ownsRow base e size v n xs) (hb : Below w.heap.size w w') : w'.ownsRow base e size v n xs := by
  refine h.kept (row := none) ⟨hb.os, hb.tape, hb.output, hb.size, fun k hk _ => hb.block k hk⟩ ?_
  cases v.ownBlock with
  | none => exact .inl rfl
  | some k => exact .inr (by simp)
theorem lit_cells {w : World} {cs : Array Value} {e : TypeId} {g : Nat} (hg : g = w.heap.size) (hm : cs.size ≤ maxLen) : ∀ j u, cs.toList[j]? = some u → (w.alloc (.cells cs e)).cell? ((⟨g, 0, none⟩ : Addr).add j) = some u := by
  subst hg
  exact (World.ownsRow_lit (base := 0) (size := 1) (e := e) w cs cs.size (Nat.zero_le _) hm (by omega)).cells rfl
theorem stepT_lt (l : List UInt8) (h : (stepT l).2.2 = true) : (stepT l).2.1.length < l.length := by
  have h2 := (keyT_len l).2
  have h3 := cutAt_len 10 (keyT l).2.1.tail
  unfold stepT at h ⊢
  by_cases hk : (keyT l).2.2 = true ∧ (keyT l).2.1.head? = some 32
  · rw [if_pos hk] at h ⊢
    by_cases hc : (cutAt 10 (keyT l).2.1.tail).2.2 = true
    · rw [if_pos hc] at h ⊢
      cases hv : numB (cutAt 10 (keyT l).2.1.tail).1 with
      | none => rw [hv] at h; simp at h
      | some v =>
        simp only
        have h4 : 1 ≤ (keyT l).2.1.length := by
          cases hr : (keyT l).2.1 with
          | nil => rw [hr] at hk; simp at hk
          | cons a b => simp
        have h5 := h3.2.1
        rw [List.length_tail] at h5
        omega
    · rw [if_neg hc] at h; simp at h
  · rw [if_neg hk] at h; simp at h
/-- The pairs of a text. -/
def parseT : Nat → List UInt8 → Option (List (List UInt8 × Int))
  | 0, _ => none
  | f + 1, l => if l = [] then some [] else if (stepT l).2.2 then (parseT f (stepT l).2.1).map ((stepT l).1 :: ·) else none
def pairsL (l : List UInt8) : Option (List (List UInt8 × Int)) := parseT (l.length + 1) l
theorem parseT_more : ∀ (f : Nat) (l : List UInt8), l.length < f → parseT f l = pairsL l := by
  intro f
  induction f using Nat.strongRecOn with
  | ind f ih =>
    intro l hl
    cases f with
    | zero => omega
    | succ f =>
      unfold pairsL
      simp only [parseT]
      split
      · rfl
      · split
        · rename_i h
          have h1 := stepT_lt l h
          rw [ih f (by omega) _ (by omega)]
          by_cases hf : l.length < f
          · rw [ih l.length (by omega) _ (by omega)]
          · rw [show l.length = f by omega, ih f (by omega) _ (by omega)]
        · rfl
theorem pairsL_nil : pairsL [] = some [] := rfl
theorem pairsL_step {l : List UInt8} (hl : l ≠ []) (h : (stepT l).2.2 = true) : pairsL l = (pairsL (stepT l).2.1).map ((stepT l).1 :: ·) := by
  have h1 := stepT_lt l h
  rw [← parseT_more (l.length + 1) l (by omega)]
  simp only [parseT]
  rw [if_neg hl, if_pos h, parseT_more _ _ h1]
theorem pairsL_none {l : List UInt8} (hl : l ≠ []) (h : (stepT l).2.2 = false) : pairsL l = none := by
  rw [← parseT_more (l.length + 1) l (by omega)]
  simp only [parseT]
  rw [if_neg hl, if_neg (by simp [h])]
def conv (p : List UInt8 × Int) : ByteArray × Int := (bs p.1, p.2)
def szOf : Value → Nat
  | .string s => s.size
  | _ => 0
def errV (b : Bool) (n : Int) : Value := if b then .nilIface else .iface 77 (.int .i64 n)
def ParseSaid (l : List UInt8) (w : World) (e : Ending) (w' : World) : Prop :=
  (∃ v, e = .returned (.tuple #[v, errV (pairsL l).isSome 4]) ∧ IsPairs w' v (((pairsL l).getD []).map conv)) ∧ Below w.heap.size w w'
/-- The same, and the row is the call's own. -/
def ParseOwn (l : List UInt8) (w : World) (e : Ending) (w' : World) : Prop :=
  (∃ v, e = .returned (.tuple #[v, errV (pairsL l).isSome 4]) ∧ w'.ownsRow w.heap.size 25 2 v (((pairsL l).getD []).map conv).length (flat (((pairsL l).getD []).map conv))) ∧ Below w.heap.size w w'
theorem parseOwn_none {l : List UInt8} {w w' : World} (h : pairsL l = none) (hb : Below w.heap.size w w') : ParseOwn l w (.returned (.tuple #[.slice none 0 0, .iface 77 (.int .i64 4)])) w' :=
  ⟨⟨_, by rw [h]; rfl, by rw [h]; exact World.ownsRow_nil _ _ _ _⟩, hb⟩
theorem parseOwn_some {l : List UInt8} {w w' : World} {v : Value} {ps : List (List UInt8 × Int)} (h : pairsL l = some ps) (hb : Below w.heap.size w w') (hv : w'.ownsRow w.heap.size 25 2 v (ps.map conv).length (flat (ps.map conv))) : ParseOwn l w (.returned (.tuple #[v, .nilIface])) w' :=
  ⟨⟨_, by rw [h]; rfl, by rw [h]; exact hv⟩, hb⟩
theorem isPairs_nil (w : World) : IsPairs w (.slice none 0 0) [] := ⟨none, 0, rfl, fun i hi => absurd hi (by simp)⟩
theorem infoPair : (Tryd.prog.info? 25).map (fun i => (i.zero, i.size, i.bytes)) = some (some (.agg #[.string ⟨#[]⟩, .int .i64 0]), 2, 24) := by kernel_rfl

theorem owns_push {w : World} {base : Nat} {v : Value} {acc : List (List UInt8 × Int)} {key : List UInt8} {x : Int}
    (h : w.ownsRow base 25 2 v ((acc.map conv).length + 1) (flat (acc.map conv) ++ flat [(bs key, x)])) : w.ownsRow base 25 2 v ((acc ++ [(key, x)]).map conv).length (flat ((acc ++ [(key, x)]).map conv)) := by
  have e : (acc ++ [(key, x)]).map conv = acc.map conv ++ [(bs key, x)] := by simp [conv]
  rw [e, flat_append, List.length_append]
  exact h
theorem parseSaid_none {l : List UInt8} {w w' : World} (h : pairsL l = none) (hb : Below w.heap.size w w') : ParseSaid l w (.returned (.tuple #[.slice none 0 0, .iface 77 (.int .i64 4)])) w' :=
  ⟨⟨_, by rw [h]; rfl, by rw [h]; exact isPairs_nil _⟩, hb⟩
theorem parseSaid_some {l : List UInt8} {w w' : World} {v : Value} {ps : List (List UInt8 × Int)} (h : pairsL l = some ps) (hb : Below w.heap.size w w') (hv : IsPairs w' v (ps.map conv)) : ParseSaid l w (.returned (.tuple #[v, .nilIface])) w' :=
  ⟨⟨_, by rw [h]; rfl, by rw [h]; exact hv⟩, hb⟩
set_option maxRecDepth 100000 in
set_option maxHeartbeats 2000000 in
theorem parse_own (l : List UInt8) (w : World) (E : Env w) (hl : l.length ≤ 100000000) :
    Calls Tryd.prog 10 #[.string (bs l)] w fun e w' => ParseOwn l w e w' := by
  obtain ⟨i0, hi, hz0, hz1, hz2⟩ := info_parts infoPair
  go_enter Tryd.func10, Tryd.ntmps10
  go_wp2
  go_loopw [0, 4] (fun sv lv wr => ∃ (r : List UInt8) (acc : List (List UInt8 × Int)), sv = .string (bs r) ∧ wr.ownsRow w.heap.size 25 2 lv (acc.map conv).length (flat (acc.map conv)) ∧ Below w.heap.size w wr ∧ acc.length + r.length ≤ l.length ∧ Hid (pairsL l = (pairsL r).map (acc ++ ·))) (fun sv _ _ => szOf sv)
  case atStart =>
    refine ⟨l, [], rfl, World.ownsRow_nil _ _ _ _, Below.refl _ _, by simp, ?_⟩
    show pairsL l = _
    simp
  case round =>
    obtain ⟨r, acc, rfl, hown, hb, hlen, HP⟩ := hrel
    have Er : Env wr := E.below hb
    cases hr : r with
    | nil =>
      subst hr
      have hT : (bs []).toList.isEmpty = true := by rw [bs_toList]; rfl
      have hfin : Hid (pairsL l = some acc) := by
        show _ = _
        rw [HP.out, pairsL_nil]; simp
      have hv := Lib.hid hown
      clear hown
      go_wp2
      go_ret2
      exact parseOwn_some hfin.out hb hv.out
    | cons c r' =>
      rw [← hr]
      have hT : (bs r).toList.isEmpty = false := by rw [hr]; exact bs_cons_ne c r'
      have hne : Hid (r ≠ []) := by rw [hr]; exact List.cons_ne_nil _ _
      clear hr
      have C1 : Hid (∀ w, Env w → Calls Tryd.prog 33 #[.string (bs r)] w fun e w' => e = .returned (fstV (stepT r)) ∧ Below w.heap.size w w') := fun w E => pfirst_any r w E (by omega)
      have hst := Lib.hid (stepT_lt r)
      have hps := Lib.hid (fun h => pairsL_step (l := r) hne.out h)
      have hpn := Lib.hid (fun h => pairsL_none (l := r) hne.out h)
      rcases hs : stepT r with ⟨⟨key, v⟩, more, ok⟩
      rw [hs] at C1 hst hps hpn
      simp only [fstV] at C1 hst hps hpn
      clear hs
      cases ok with
      | false =>
        go_wp2_with (go_at_call 33; refine (C1.out _ Er).mono ?_; rintro e w1 ⟨rfl, hb1⟩)
        go_ret2
        refine parseOwn_none ?_ ((hb.trans (hb1.mono hb.size)).alloc (Nat.le_trans hb.size hb1.size) _)
        rw [HP.out, hpn.out (by simp)]; rfl
      | true =>
        go_wp2_with (first | (go_at_call 33; refine (C1.out _ Er).mono ?_; rintro e w1 ⟨rfl, hb1⟩) | (at_builtin; refine Hid.out ?_))
        refine Lib.hid ?_
        have hbs := hb.size
        have hbs1 := hb1.size
        refine wpList_append_own _ rfl (.tmp 19) (.tmp 21) 22 rfl w.heap.size 25 i0 (.agg #[.string ⟨#[]⟩, .int .i64 0]) 2 24 Tryd.underlying22 hi hz0 hz1 hz2 rfl (by decide) _ _ _ rfl (((owns_below hown hb1).alloc _).alloc _) ⟨w1.heap.size + 1, 0, none⟩ 1 1 (flat [(bs key, v)]) rfl rfl ?c1 flat_one ?c2 ?c3 ?c4 ?_
        case c1 => exact lit_cells (by simp) (show 2 ≤ maxLen by decide)
        case c2 => rw [List.length_map]; unfold maxLen; omega
        case c3 => rw [List.length_map]; omega
        case c4 => simp; omega
        intro v2 w2 hown2 hg2 _
        have hb2 : Below w.heap.size w w2 := (((hb.trans (hb1.mono hb.size)).alloc (by omega) _).alloc (by simp; omega) _).grown hg2 (by simp; omega) (fun k hk => (hown.lt k hk).1)
        have hown3 := owns_push hown2
        have hlt := hst.out (by simp)
        have HP2 : Hid (pairsL l = (pairsL more).map ((acc ++ [(key, v)]) ++ ·)) := by
          show _ = _
          rw [HP.out, hps.out (by simp), Option.map_map]
          congr 1
          funext x
          simp
        clear hown hown2 hg2 hb1 HP hps hpn hst
        go_wp2
        go_roundw
        case rel => exact ⟨more, acc ++ [(key, v)], rfl, hown3, hb2, by simp; omega, HP2⟩
        case measure => simp only [szOf, bs_size]; exact hlt
theorem parse_any (l : List UInt8) (w : World) (E : Env w) (hl : l.length ≤ 100000000) :
    Calls Tryd.prog 10 #[.string (bs l)] w fun e w' => ParseSaid l w e w' :=
  (parse_own l w E hl).mono fun _ _ ⟨⟨v, h1, h2⟩, h3⟩ => ⟨⟨v, h1, isPairs_of h2⟩, h3⟩
end Go.Proofs.YtgkpnjnollfdaaaDoor.Pp
/- Contract of PairsText of the document's answer: the text of pairs. -/
namespace Go.Proofs.YtgkpnjnollfdaaaDoor.Pp
open Go.ChangeShapes Go.WideShapes Go.ChangeAt Go.RowKit
open Num

/-- A pair's text; the text of pairs. -/
def text1 (p : ByteArray × Int) : List UInt8 := Lib.itoa p.1.size ++ [58] ++ p.1.data.toList ++ [32] ++ Lib.itoa p.2 ++ [10]
def textL (l : List (ByteArray × Int)) : List UInt8 := l.flatMap text1
theorem textL_step (l : List (ByteArray × Int)) (k : Nat) (h : k < l.length) : textL (l.take (k + 1)) = textL (l.take k) ++ text1 l[k] := by
  unfold textL
  rw [List.take_succ_eq_append_getElem h, List.flatMap_append]; simp
theorem bs_append (a b : List UInt8) : bs a ++ bs b = bs (a ++ b) := bytes_append a b
theorem itoa_len (n : Int) (h0 : -9223372036854775808 ≤ n) (h1 : n ≤ 9223372036854775807) : (Lib.itoa n).length ≤ 20 := by
  by_cases h : n < 0
  · unfold Lib.itoa
    rw [if_pos h, List.length_cons]
    have := nDig_le n.natAbs (by omega)
    omega
  · have := itoa_len_le n (by omega) h1
    omega
theorem text1_len (p : ByteArray × Int) (hp : p.1.size ≤ 1000) (h0 : -9223372036854775808 ≤ p.2) (h1 : p.2 ≤ 9223372036854775807) : (text1 p).length ≤ 1100 := by
  unfold text1
  have a := itoa_len p.1.size (by omega) (by omega)
  have b := itoa_len p.2 h0 h1
  have c : p.1.data.toList.length = p.1.size := Array.length_toList
  simp only [List.length_append, List.length_cons, List.length_nil]
  omega
/-- Pairs within bounds. -/
def Fits (l : List (ByteArray × Int)) : Prop := ∀ p ∈ l, p.1.size ≤ 1000 ∧ -9223372036854775808 ≤ p.2 ∧ p.2 ≤ 9223372036854775807
theorem textL_len {l : List (ByteArray × Int)} (h : Fits l) : (textL l).length ≤ 1100 * l.length := by
  induction l with
  | nil => simp [textL]
  | cons p l ih =>
    have h1 := h p (List.mem_cons_self ..)
    have h2 := ih (fun q hq => h q (List.mem_cons_of_mem _ hq))
    have h3 := text1_len p h1.1 h1.2.1 h1.2.2
    have e : textL (p :: l) = text1 p ++ textL l := by simp [textL]
    rw [e, List.length_append, List.length_cons]
    omega

theorem text1_bs (x : List UInt8) (p : ByteArray × Int) : bs x ++ bs (Lib.itoa (p.1.size : Int)) ++ ⟨#[58]⟩ ++ p.1 ++ ⟨#[32]⟩ ++ bs (Lib.itoa p.2) ++ ⟨#[10]⟩ = bs (x ++ text1 p) := by
  obtain ⟨s, n⟩ := p
  simp only [text1]
  generalize Lib.itoa (s.size : Int) = i
  generalize Lib.itoa n = j
  apply ByteArray.ext
  apply Array.ext'
  simp [bs]
theorem text_next (l : List (ByteArray × Int)) (k : Nat) (h : k < l.length) : bs (textL (l.take k)) ++ bs (Lib.itoa (l[k].1.size : Int)) ++ ⟨#[58]⟩ ++ l[k].1 ++ ⟨#[32]⟩ ++ bs (Lib.itoa l[k].2) ++ ⟨#[10]⟩ = bs (textL (l.take (k + 1))) := by
  rw [textL_step l k h]
  exact text1_bs _ _
end Go.Proofs.YtgkpnjnollfdaaaDoor.Pp
/- Contracts of strings.Builder's writers at this program, and of pair.Text. -/
namespace Go.Proofs.YtgkpnjnollfdaaaDoor.Pp
open Go.ChangeShapes Go.WideShapes Go.ChangeAt Go.RowKit
open Num

theorem sizeB : (Tryd.prog.info? 70).map (·.size) = some 2 := by kernel_rfl
theorem infoByte : (Tryd.prog.info? 5).map (fun i => (i.zero, i.size, i.bytes)) = some (some (.int .u8 0), 1, 1) := by kernel_rfl

set_option maxRecDepth 100000 in
theorem copyCheck_fresh (b : Nat) (w : World) (h0 : w.cell? ⟨b, 0, none⟩ = some (.pointer none)) (hsh : w.shape? b = some (70, 2)) (hfz : w.frozen? ⟨b, 0, none⟩ = false) :
    Calls Tryd.prog 48 #[.pointer (some ⟨b, 0, none⟩)] w fun e w' => e = .returned (.tuple #[]) ∧ w' = w.setCell ⟨b, 0, none⟩ (.pointer (some ⟨b, 0, none⟩)) := by
  obtain ⟨j, hj, hjs⟩ := Option.map_eq_some_iff.1 sizeB
  go_enter Tryd.func48, Tryd.ntmps48
  go_wp2
  rw [Lib.run_to_unsafe w ⟨b, 0, none⟩ Tryd.underlying67 Tryd.underlying118 hj (by rw [hjs]; decide) hsh (Nat.zero_lt_succ 1)]
  simp only [Result.andThen]
  rw [Oper.upon_value]
  go_wp2
  rw [run_callFunc_extern Tryd.func65 (by kernel_rfl) (by kernel_rfl) (by kernel_rfl) (e := Extern.AbiNoEscape.same) (by kernel_rfl)]
  rw [Lib.run_noEscape]
  simp only [Result.andThen]
  rw [Oper.upon_value]
  go_wp2
  rw [Lib.run_from_unsafe w ⟨b, 0, none⟩ Tryd.underlying118 Tryd.underlying67 hj hsh (by kernel_rfl)]
  simp only [Result.andThen]
  rw [Oper.upon_value]
  go_wp2
  go_end0
  exact ⟨rfl, rfl⟩
set_option maxRecDepth 100000 in
theorem copyCheck_used (b : Nat) (w : World) (h0 : w.cell? ⟨b, 0, none⟩ = some (.pointer (some ⟨b, 0, none⟩))) :
    Calls Tryd.prog 48 #[.pointer (some ⟨b, 0, none⟩)] w fun e w' => e = .returned (.tuple #[]) ∧ w' = w := by
  obtain ⟨j, hj, _⟩ := Option.map_eq_some_iff.1 sizeB
  go_enter Tryd.func48, Tryd.ntmps48
  go_wp2
  rw [Lib.run_neq_ptr_same w _ Tryd.underlying67 hj]
  go_wp2
  go_end0
  exact ⟨rfl, rfl⟩
theorem copyCheck_any (B b : Nat) (xs : List Value) (w : World) (h : Lib.IsBuilderF 70 5 B b xs w) :
    Calls Tryd.prog 48 #[.pointer (some ⟨b, 0, none⟩)] w fun e w' => e = .returned (.tuple #[]) ∧ (Lib.BuilderAtF 70 5 B b (.pointer (some ⟨b, 0, none⟩)) xs w' ∧ Below B w w' ∧ Lib.OthersKept 5 (some b) w w') := by
  rcases h with h | h
  · refine (copyCheck_fresh b w h.cell0 h.shape h.frozen0).mono ?_
    rintro e w' ⟨rfl, rfl⟩
    exact ⟨rfl, h.used _, (Below.refl B w).setCell (p := ⟨b, 0, none⟩) h.1 _, (Lib.OthersKept.refl _ _ w).setCell ⟨b, 0, none⟩ rfl _⟩
  · refine (copyCheck_used b w h.cell0).mono ?_
    rintro e w' ⟨rfl, rfl⟩
    exact ⟨rfl, h, Below.refl B _, Lib.OthersKept.refl _ _ _⟩

set_option maxHeartbeats 2000000 in
set_option maxRecDepth 100000 in
theorem writeByte_any (B b : Nat) (xs : List Value) (c : Int) (w : World) (h : Lib.IsBuilderF 70 5 B b xs w) (hlen : xs.length + 1 ≤ 140737488355328) (hBw : B ≤ w.heap.size) :
    Calls Tryd.prog 31 #[.pointer (some ⟨b, 0, none⟩), .int .u8 c] w fun e w' => e = .returned .nilIface ∧ (Lib.BuilderAtF 70 5 B b (.pointer (some ⟨b, 0, none⟩)) (xs ++ [.int .u8 c]) w' ∧ Below B w w' ∧ Lib.OthersKept 5 (some b) w w') := by
  obtain ⟨i0, hi, hz0, hz1, hz2⟩ := info_parts infoByte
  go_enter Tryd.func31, Tryd.ntmps31
  go_wp2_with (go_at_call 48; refine (copyCheck_any B b xs _ h).mono ?_)
  rintro e w1 ⟨rfl, h1, hb1, hk1⟩
  obtain ⟨hB, v, hbk, hown, hne⟩ := h1
  have c0 : w1.cell? ⟨b, 0, none⟩ = some (.pointer (some ⟨b, 0, none⟩)) := by rw [Lib.cell_of_heap hbk]; rfl
  have c1 : w1.cell? ⟨b, 1, none⟩ = some v := by rw [Lib.cell_of_heap hbk]; rfl
  go_wp2_with (at_builtin; refine wpList_append_ownF _ rfl _ _ 68 rfl B 5 i0 (.int .u8 0) 1 1 Tryd.underlying68 hi hz0 hz1 hz2 rfl (by decide) _ _ _ rfl (hown.alloc _) ⟨w1.heap.size, 0, none⟩ 1 1 [.int .u8 c] rfl rfl ?c1 ?c2 ?c3 ?c4 ?c5 ?_)
  case c1 =>
    intro j u hj
    match j, hj with
    | 0, hj => simp at hj; subst hj; simp [Addr.add]
  case c2 => intro u hu; simp at hu; subst hu; rfl
  case c3 => unfold maxLen; omega
  case c4 => omega
  case c5 => have := hb1.size; simp; omega
  intro v' w2 hown' hgrow _
  have hlt : b < w1.heap.size := by
    rcases Nat.lt_or_ge b w1.heap.size with h' | h'
    · exact h'
    · simp [Array.getElem?_eq_none h'] at hbk
  have hb2 : w2.heap[b]? = some (.cells #[.pointer (some ⟨b, 0, none⟩), v] 70 (0, 0)) := by
    rw [hgrow.block b (by simp; omega) (fun e => hne e.symm), Lib.alloc_old w1 _ b hlt]
    exact hbk
  have d0 : w2.cell? ⟨b, 0, none⟩ = some (.pointer (some ⟨b, 0, none⟩)) := by rw [Lib.cell_of_heap hb2]; rfl
  have d1 : w2.cell? ⟨b, 1, none⟩ = some v := by rw [Lib.cell_of_heap hb2]; rfl
  have f1 : w2.frozen? ⟨b, 1, none⟩ = false := Lib.frozen_of_heap hb2 1
  obtain ⟨g, cap, rfl⟩ : ∃ g cap, v' = .slice (some ⟨g, 0, none⟩) (xs.length + 1) cap := by
    rcases hown'.2 with ⟨_, h0⟩ | ⟨g, cap, cur, fz, hv, _⟩
    · omega
    · exact ⟨g, cap, hv⟩
  go_wp2
  go_ret
  refine ⟨rfl, ?_, ?_, ((hk1.alloc _).grown hgrow (Lib.ownsRowF_kind (hown.alloc _))).setCell ⟨b, 1, none⟩ rfl _⟩
  · exact Lib.BuilderAtF.put (T := 70) (e := 5) hB hb2 (bs' := xs ++ [.int .u8 c]) (by simpa using hown') (by decide)
  · exact ((hb1.alloc (by have := hb1.size; omega) _).grown hgrow (by have := hb1.size; simp; omega) (fun k hk => (hown.lt k hk).1)).setCell (p := ⟨b, 1, none⟩) hB _

set_option maxHeartbeats 2000000 in
set_option maxRecDepth 100000 in
theorem writeString_any (B b : Nat) (xs : List Value) (s : ByteArray) (w : World) (h : Lib.IsBuilderF 70 5 B b xs w) (hlen : xs.length + s.size ≤ 140737488355328) (hBw : B ≤ w.heap.size) :
    Calls Tryd.prog 29 #[.pointer (some ⟨b, 0, none⟩), .string s] w fun e w' => e = .returned (.tuple #[.int .i64 s.size, .nilIface]) ∧ (Lib.BuilderAtF 70 5 B b (.pointer (some ⟨b, 0, none⟩)) (xs ++ Lib.strCells s) w' ∧ Below B w w' ∧ Lib.OthersKept 5 (some b) w w') := by
  obtain ⟨i0, hi, hz0, hz1, hz2⟩ := info_parts infoByte
  go_enter Tryd.func29, Tryd.ntmps29
  go_wp2_with (go_at_call 48; refine (copyCheck_any B b xs _ h).mono ?_)
  rintro e w1 ⟨rfl, h1, hb1, hk1⟩
  obtain ⟨hB, v, hbk, hown, hne⟩ := h1
  have c0 : w1.cell? ⟨b, 0, none⟩ = some (.pointer (some ⟨b, 0, none⟩)) := by rw [Lib.cell_of_heap hbk]; rfl
  have c1 : w1.cell? ⟨b, 1, none⟩ = some v := by rw [Lib.cell_of_heap hbk]; rfl
  go_wp2_with (at_builtin; refine Lib.wpList_append_own_stringF _ rfl _ _ 68 9 rfl B 5 i0 Tryd.underlying68 Tryd.underlying9 hi hz0 hz1 hz2 _ _ _ rfl hown s rfl ?c3 ?c4 ?c5 ?_)
  case c3 => unfold maxLen; omega
  case c4 => omega
  case c5 => have := hb1.size; omega
  intro v' w2 hown' hgrow _
  have hlt : b < w1.heap.size := by
    rcases Nat.lt_or_ge b w1.heap.size with h' | h'
    · exact h'
    · simp [Array.getElem?_eq_none h'] at hbk
  have hb2 : w2.heap[b]? = some (.cells #[.pointer (some ⟨b, 0, none⟩), v] 70 (0, 0)) := by
    rw [hgrow.block b hlt (fun e => hne e.symm)]
    exact hbk
  have d0 : w2.cell? ⟨b, 0, none⟩ = some (.pointer (some ⟨b, 0, none⟩)) := by rw [Lib.cell_of_heap hb2]; rfl
  have d1 : w2.cell? ⟨b, 1, none⟩ = some v := by rw [Lib.cell_of_heap hb2]; rfl
  have f1 : w2.frozen? ⟨b, 1, none⟩ = false := Lib.frozen_of_heap hb2 1
  obtain ⟨ao, n', cap, rfl⟩ : ∃ ao n' cap, v' = .slice ao n' cap := by
    rcases hown'.2 with ⟨hv, _⟩ | ⟨g, cap, cur, fz, hv, _⟩
    · exact ⟨_, _, _, hv⟩
    · exact ⟨_, _, _, hv⟩
  go_wp2
  go_ret2
  refine ⟨rfl, ?_, ?_, (hk1.grown hgrow (Lib.ownsRowF_kind hown)).setCell ⟨b, 1, none⟩ rfl _⟩
  · exact Lib.BuilderAtF.put (T := 70) (e := 5) hB hb2 (bs' := xs ++ Lib.strCells s) (by simpa [Lib.strCells_length] using hown') (by decide)
  · exact (hb1.grown hgrow (by have := hb1.size; omega) (fun k hk => (hown.lt k hk).1)).setCell (p := ⟨b, 1, none⟩) hB _

theorem builder_below {B b : Nat} {p : Value} {xs : List Value} {w w' : World} (h : Lib.BuilderAtF 70 5 B b p xs w) (hb : Below w.heap.size w w') : Lib.BuilderAtF 70 5 B b p xs w' := by
  obtain ⟨hB, v, hbk, hown, hne⟩ := h
  have keep : ∀ (k : Nat) (o : Obj), w.heap[k]? = some o → w'.heap[k]? = some o := by
    intro k o hk
    rw [hb.block k (Array.getElem?_eq_some_iff.1 hk).1]; exact hk
  refine ⟨hB, v, keep _ _ hbk, ⟨hown.1, ?_⟩, hne⟩
  rcases hown.2 with h | ⟨g, cap, cur, fz, hv, h1, h2, h3⟩
  · exact .inl h
  · exact .inr ⟨g, cap, cur, fz, hv, h1, keep _ _ h2, h3⟩
/-- Where a round of pair.Text stands: what the builder holds, and the round's own pair. -/
structure St (B P : Nat) (s : ByteArray) (m : Int) (x : List UInt8) (w0 w : World) : Prop where
  bld : Lib.IsBuilderF 70 5 B B (Lib.byteCells x) w
  below : Below B w0 w
  cel : w.heap[P]? = some (.cells #[.string s, .int .i64 m] 25 (0, 0))
  lt : B < P
  le : B ≤ w.heap.size
theorem St.next {B P : Nat} {s : ByteArray} {m : Int} {x : List UInt8} {w0 w w' : World} (h : St B P s m x w0 w) (hb : Below w.heap.size w w') : St B P s m x w0 w' := by
  refine ⟨?_, h.below.trans (hb.mono h.le), ?_, h.lt, Nat.le_trans h.le hb.size⟩
  · rcases h.bld with h' | h'
    · exact .inl (builder_below h' hb)
    · exact .inr (builder_below h' hb)
  · rw [hb.block P (Array.getElem?_eq_some_iff.1 h.cel).1]; exact h.cel
theorem St.wrote {B P : Nat} {s : ByteArray} {m : Int} {x y : List UInt8} {w0 w w' : World} (h : St B P s m x w0 w) (hA : Lib.BuilderAtF 70 5 B B (.pointer (some ⟨B, 0, none⟩)) (Lib.byteCells y) w') (hb : Below B w w') (hk : Lib.OthersKept 5 (some B) w w') : St B P s m y w0 w' := by
  have hlt := h.lt
  refine ⟨.inr hA, h.below.trans hb, hk P _ h.cel (by simp; omega) (by intro c fz e; simp at e), h.lt, Nat.le_trans h.le hb.size⟩
theorem St.c0 {B P : Nat} {s : ByteArray} {m : Int} {x : List UInt8} {w0 w : World} (h : St B P s m x w0 w) : w.cell? ⟨P, 0, none⟩ = some (.string s) := by rw [Lib.cell_of_heap h.cel]; rfl
theorem St.c1 {B P : Nat} {s : ByteArray} {m : Int} {x : List UInt8} {w0 w : World} (h : St B P s m x w0 w) : w.cell? ⟨P, 1, none⟩ = some (.int .i64 m) := by rw [Lib.cell_of_heap h.cel]; rfl
theorem cells_byte (x : List UInt8) (c : UInt8) : Lib.byteCells x ++ [.int .u8 c.toNat] = Lib.byteCells (x ++ [c]) := by simp [Lib.byteCells]
theorem cells_str (x : List UInt8) (s : ByteArray) : Lib.byteCells x ++ Lib.strCells s = Lib.byteCells (x ++ s.data.toList) := by
  rw [Lib.byteCells_append]; rfl
theorem ws_st {B P : Nat} {s : ByteArray} {m : Int} {x : List UInt8} {w0 w : World} (h : St B P s m x w0 w) (hx : x.length ≤ 100000000) (t : ByteArray) (ht : t.size ≤ 100000000) :
    Calls Tryd.prog 29 #[.pointer (some ⟨B, 0, none⟩), .string t] w fun e w' => e = .returned (.tuple #[.int .i64 t.size, .nilIface]) ∧ St B P s m (x ++ t.data.toList) w0 w' := by
  refine (writeString_any B B _ t w h.bld (by rw [Lib.byteCells_length]; omega) h.le).mono ?_
  rintro e w' ⟨rfl, hA, hb, hk⟩
  rw [cells_str] at hA
  exact ⟨rfl, h.wrote hA hb hk⟩
theorem wb_st {B P : Nat} {s : ByteArray} {m : Int} {x : List UInt8} {w0 w : World} (h : St B P s m x w0 w) (hx : x.length ≤ 100000000) (c : UInt8) (n : Int) (hn : n = c.toNat) :
    Calls Tryd.prog 31 #[.pointer (some ⟨B, 0, none⟩), .int .u8 n] w fun e w' => e = .returned .nilIface ∧ St B P s m (x ++ [c]) w0 w' := by
  refine (writeByte_any B B _ n w h.bld (by rw [Lib.byteCells_length]; omega) h.le).mono ?_
  rintro e w' ⟨rfl, hA, hb, hk⟩
  rw [hn, cells_byte] at hA
  exact ⟨rfl, h.wrote hA hb hk⟩

set_option maxHeartbeats 2000000 in
set_option maxRecDepth 100000 in
theorem text_anyT (v : Value) (l : List (ByteArray × Int)) (w : World) (E : EnvT w) (h : IsPairs w v l) (hf : Fits l) (hl : l.length ≤ 60000) :
    Calls Tryd.prog 8 #[v] w fun e w' => e = .returned (.string (bs (textL l))) ∧ Below w.heap.size w w' := by
  obtain ⟨a, cap, rfl, hc⟩ := h
  go_enter Tryd.func8, Tryd.ntmps8
  go_wp2
  go_loopw [8] (fun i wr => ∃ k : Nat, k ≤ l.length ∧ i = .int .i64 k ∧ Lib.IsBuilderF 70 5 w.heap.size w.heap.size (Lib.byteCells (textL (l.take k))) wr ∧ Below w.heap.size w wr ∧ w.heap.size < wr.heap.size) (fun i _ => l.length - (intOf i).toNat)
  case atStart => exact ⟨0, Nat.zero_le _, rfl, Lib.IsBuilderF.of (Lib.fresh_isBuilder _ _ w), (Below.refl _ _).alloc (Nat.le_refl _) _, by simp⟩
  case round =>
    obtain ⟨k, hk, rfl, hbld, hb, hsz⟩ := hrel
    by_cases hlt : k < l.length
    · obtain ⟨b, off, rfl, c0, c1⟩ := hc k hlt
      have hf1 := hf l[k] (List.getElem_mem hlt)
      have HS := Lib.hid (textL_step l k hlt)
      have hlen : (textL (l.take k)).length ≤ 1100 * 60000 := by
        have h1 := textL_len (l := l.take k) (fun p hp => hf p (List.mem_of_mem_take hp))
        rw [List.length_take] at h1
        omega
      have k0 := cell_below c0 hb
      have k1 := cell_below c1 hb
      have hi1 := itoa_len (l[k].1.size : Int) (by omega) (by omega)
      have hi2 := itoa_len l[k].2 hf1.2.1 hf1.2.2
      have hdl : l[k].1.data.toList.length = l[k].1.size := Array.length_toList
      have s0 : St w.heap.size wr.heap.size l[k].1 l[k].2 (textL (l.take k)) w (wr.alloc (.cells #[.string l[k].1, .int .i64 l[k].2] 25)) := by
        refine ⟨?_, hb.alloc (Nat.le_of_lt hsz) _, heap_alloc_new wr _, hsz, by simp; omega⟩
        rcases hbld with h' | h'
        · exact .inl (builder_below h' ((Below.refl _ _).alloc (Nat.le_refl _) _))
        · exact .inr (builder_below h' ((Below.refl _ _).alloc (Nat.le_refl _) _))
      clear c0 c1 hc hbld
      generalize l[k] = pp at *
      obtain ⟨s, m⟩ := pp
      simp only at *
      go_wp2_with (go_at_call 30; refine Hid.out ?_)
      refine Lib.hid ?_
      refine (itoa_anyT _ _ (E.below s0.below) (by omega) (by omega)).mono ?_
      rintro e w1 ⟨rfl, hb1⟩
      have s1 := s0.next hb1
      have E1 := E.below s1.below
      clear s0 hb1
      go_wp2_with (go_at_call 29; refine Hid.out ?_)
      refine Lib.hid ?_
      refine (ws_st s1 (by omega) _ (by rw [bs_size]; omega)).mono ?_
      rintro e w2 ⟨rfl, s2⟩
      clear s1
      go_wp2_with (go_at_call 31; refine Hid.out ?_)
      refine Lib.hid ?_
      refine (wb_st s2 (by simp only [List.length_append, bs_data]; omega) 58 58 rfl).mono ?_
      rintro e w3 ⟨rfl, s3⟩
      have q3 := s3.c0
      clear s2
      go_wp2_with (go_at_call 29; refine Hid.out ?_)
      refine Lib.hid ?_
      refine (ws_st s3 (by simp only [List.length_append, List.length_cons, List.length_nil, bs_data]; omega) s (by omega)).mono ?_
      rintro e w4 ⟨rfl, s4⟩
      clear s3 q3
      go_wp2_with (go_at_call 31; refine Hid.out ?_)
      refine Lib.hid ?_
      refine (wb_st s4 (by simp only [List.length_append, List.length_cons, List.length_nil, bs_data]; omega) 32 32 rfl).mono ?_
      rintro e w5 ⟨rfl, s5⟩
      have q5 := s5.c1
      clear s4
      go_wp2_with (go_at_call 30; refine Hid.out ?_)
      refine Lib.hid ?_
      refine (itoa_anyT _ _ (E.below s5.below) (by omega) (by omega)).mono ?_
      rintro e w6 ⟨rfl, hb6⟩
      have s6 := s5.next hb6
      clear s5 hb6 q5
      go_wp2_with (go_at_call 29; refine Hid.out ?_)
      refine Lib.hid ?_
      refine (ws_st s6 (by simp only [List.length_append, List.length_cons, List.length_nil, bs_data]; omega) _ (by rw [bs_size]; omega)).mono ?_
      rintro e w7 ⟨rfl, s7⟩
      clear s6
      go_wp2_with (go_at_call 31; refine Hid.out ?_)
      refine Lib.hid ?_
      refine (wb_st s7 (by simp only [List.length_append, List.length_cons, List.length_nil, bs_data]; omega) 10 10 rfl).mono ?_
      rintro e w8 ⟨rfl, s8⟩
      have hbl := s8.bld
      have hbe := s8.below
      have hlt8 : w.heap.size < w8.heap.size := Nat.lt_trans s8.lt (Array.getElem?_eq_some_iff.1 s8.cel).1
      have HB : Hid (Lib.IsBuilderF 70 5 w.heap.size w.heap.size (Lib.byteCells (textL (l.take (k + 1)))) w8) := by
        show Lib.IsBuilderF _ _ _ _ _ _
        rw [HS.out]
        simp only [bs_data, List.append_assoc] at hbl
        simp only [text1, List.append_assoc]
        exact hbl
      clear s7 s8 hbl k0 k1
      go_wp2
      go_roundw
      case rel => exact ⟨k + 1, by omega, by go_num, HB.out, hbe, hlt8⟩
      case measure => simp [intOf]; omega
    · go_wp2_with (go_at_call 32; refine (Any.Builder_String_any_k Tryd.lays169 Tryd.Builder_Extra_169 w.heap.size w.heap.size (textL (l.take k)) _ hbld (Nat.le_of_lt hsz)).mono ?_; rintro e w1 ⟨rfl, _, hb1, _⟩)
      go_ret
      rw [List.take_of_length_le (by omega)]
      exact ⟨rfl, hb.trans hb1⟩
theorem text_any (v : Value) (l : List (ByteArray × Int)) (w : World) (E : Env w) (h : IsPairs w v l) (hf : Fits l) (hl : l.length ≤ 60000) :
    Calls Tryd.prog 8 #[v] w fun e w' => e = .returned (.string (bs (textL l))) ∧ Below w.heap.size w w' := text_anyT v l w E.t h hf hl
end Go.Proofs.YtgkpnjnollfdaaaDoor.Pp
/- What is written is read: the pairs of a text that pairs were written to are those pairs. Plain facts, of no program. -/
namespace Go.Proofs.YtgkpnjnollfdaaaDoor.Pp
open Num
theorem cutAt_split (c : UInt8) (r : List UInt8) : ∀ a : List UInt8, (∀ b ∈ a, b ≠ c) → cutAt c (a ++ c :: r) = (a, r, true) := by
  intro a
  induction a with
  | nil => intro _; simp [cutAt]
  | cons b a ih =>
    intro h
    rw [List.cons_append, cutAt, if_neg (h b (List.mem_cons_self ..)), ih (fun x hx => h x (List.mem_cons_of_mem _ hx))]
theorem itoa_signs (v : Int) : ∀ b ∈ Lib.itoa v, b ≠ 58 ∧ b ≠ 10 := by
  intro b hb
  unfold Lib.itoa at hb
  have dig : ∀ n, b ∈ Lib.decDigits n → b ≠ 58 ∧ b ≠ 10 := by
    intro n h
    have h1 := (digB_iff b).1 (dec_dig n b h)
    constructor
    · rintro rfl; simp at h1
    · rintro rfl; simp at h1
  split at hb
  · rcases List.mem_cons.1 hb with rfl | hb
    · decide
    · exact dig _ hb
  · exact dig _ hb
theorem keyT_text (p : ByteArray × Int) (rest : List UInt8) (hp : p.1.size ≤ 1000) : keyT (text1 p ++ rest) = (p.1.data.toList, 32 :: (Lib.itoa p.2 ++ 10 :: rest), true) := by
  have e : text1 p ++ rest = Lib.itoa p.1.size ++ 58 :: (p.1.data.toList ++ 32 :: (Lib.itoa p.2 ++ 10 :: rest)) := by unfold text1; simp
  have hc := cutAt_split 58 (p.1.data.toList ++ 32 :: (Lib.itoa p.2 ++ 10 :: rest)) (Lib.itoa p.1.size) (fun b hb => (itoa_signs _ b hb).1)
  have hn := num_itoa (v := (p.1.size : Int)) (by omega) (by omega)
  have hl : p.1.data.toList.length = p.1.size := Array.length_toList
  unfold keyT
  rw [e, hc]
  simp only [hn, if_true]
  rw [if_pos ⟨by omega, by rw [List.length_append, hl]; omega⟩]
  rw [Int.toNat_natCast, ← hl, List.take_left, List.drop_left]
theorem stepT_text (p : ByteArray × Int) (rest : List UInt8) (hp : p.1.size ≤ 1000) (h0 : -9223372036854775808 ≤ p.2) (h1 : p.2 ≤ 9223372036854775807) : stepT (text1 p ++ rest) = ((p.1.data.toList, p.2), rest, true) := by
  have hc := cutAt_split 10 rest (Lib.itoa p.2) (fun b hb => (itoa_signs _ b hb).2)
  have hn := num_itoa h0 h1
  unfold stepT
  rw [keyT_text p rest hp]
  simp only [List.head?_cons, List.tail_cons, hc, hn, and_self, if_true]
theorem pairs_text : ∀ l : List (ByteArray × Int), Fits l → pairsL (textL l) = some (l.map fun p => (p.1.data.toList, p.2)) := by
  intro l
  induction l with
  | nil => intro _; rfl
  | cons p l ih =>
    intro h
    have hp := h p (List.mem_cons_self ..)
    have e : textL (p :: l) = text1 p ++ textL l := by simp [textL]
    have hs := stepT_text p (textL l) hp.1 hp.2.1 hp.2.2
    rw [e, pairsL_step (by unfold text1; simp) (by rw [hs]), hs, ih (fun q hq => h q (List.mem_cons_of_mem _ hq))]
    rfl
theorem pairs_conv (l : List (ByteArray × Int)) (h : Fits l) : ((pairsL (textL l)).getD []).map conv = l ∧ (pairsL (textL l)).isSome = true := by
  rw [pairs_text l h]
  refine ⟨?_, rfl⟩
  rw [Option.getD_some, List.map_map]
  have : (conv ∘ fun p : ByteArray × Int => (p.1.data.toList, p.2)) = id := by
    funext p
    show (bs p.1.data.toList, p.2) = p
    rw [bs_of]
  rw [this, List.map_id]
end Go.Proofs.YtgkpnjnollfdaaaDoor.Pp
/- The contract of the document's Two. -/
namespace Go.Proofs.YtgkpnjnollfdaaaDoor.Pp
open Go.ChangeShapes Go.WideShapes Go.ChangeAt Go.RowKit
open Grp
end Go.Proofs.YtgkpnjnollfdaaaDoor.Pp
/- Contract of the document's Grouped: of each key one pair. -/
namespace Go.Proofs.YtgkpnjnollfdaaaDoor.Pp
open Go.ChangeShapes Go.WideShapes Go.ChangeAt Go.RowKit
open Grp
/-- A group ends here. -/
def Ends (G l : List (ByteArray × Int)) (k : Nat) : Prop := ∀ A q, G = A ++ [q] → ∀ p, l[k]? = some p → q.1 ≠ p.1
theorem ends_step {kind : Int} {G l : List (ByteArray × Int)} {k : Nat} {p : ByteArray × Int} (h : Ends G l k) (hp : l[k]? = some p) : Grp.step kind G p = G ++ [p] := by
  rcases List.eq_nil_or_concat G with rfl | ⟨A, q, rfl⟩
  · rfl
  · rw [List.concat_eq_append] at h ⊢
    exact step_other kind A q p (h A q rfl p hp)
theorem ends_of {G l : List (ByteArray × Int)} {j : Nat} {s : ByteArray} {x : Int} (h : j = l.length ∨ ∀ p, l[j]? = some p → s ≠ p.1) : Ends (G ++ [(s, x)]) l j := by
  intro A q e p hp
  have h1 := (List.append_inj' e rfl).2
  simp only [List.cons.injEq, and_true] at h1
  subst h1
  rcases h with h | h
  · subst h; simp at hp
  · exact h p hp
end Go.Proofs.YtgkpnjnollfdaaaDoor.Pp
/- A block that is known whole: its cells, stores into it, other blocks. -/
namespace Go.Proofs.YtgkpnjnollfdaaaDoor.Pp
open Go.ChangeShapes Go.WideShapes Go.ChangeAt Go.RowKit
/-- The block g holds just these. -/
def Blk (w : World) (g : Nat) (t : TypeId) (xs : List Value) : Prop := w.heap[g]? = some (.cells xs.toArray t (0, 0))
theorem Blk.lt {w : World} {g : Nat} {t : TypeId} {xs : List Value} (h : Blk w g t xs) : g < w.heap.size := by
  rcases Nat.lt_or_ge g w.heap.size with hb | hb
  · exact hb
  · unfold Blk at h; rw [Array.getElem?_eq_none hb] at h; cases h
theorem Blk.cell {w : World} {g : Nat} {t : TypeId} {xs : List Value} (h : Blk w g t xs) (i : Nat) : w.cell? ⟨g, i, none⟩ = xs[i]? := by
  rw [cell_of_row w g i _ t (0, 0) h]; simp
theorem Blk.at {w : World} {g : Nat} {t : TypeId} {xs : List Value} (h : Blk w g t xs) {i : Nat} {v : Value} (hv : xs[i]? = some v) : w.cell? ⟨g, i, none⟩ = some v := (h.cell i).trans hv
theorem Blk.frozen {w : World} {g : Nat} {t : TypeId} {xs : List Value} (h : Blk w g t xs) (i : Nat) : w.frozen? ⟨g, i, none⟩ = false := frozen_of_row w g i _ t h
theorem Blk.set {w : World} {g : Nat} {t : TypeId} {xs : List Value} (h : Blk w g t xs) (i : Nat) (v : Value) : Blk (w.setCell ⟨g, i, none⟩ v) g t (xs.set i v) := by
  unfold Blk
  rw [heap_setCell_same w g i _ t v h]
  simp
theorem Blk.other {w : World} {g g' : Nat} {t : TypeId} {xs : List Value} (h : Blk w g t xs) (i : Nat) (v : Value) (hne : g ≠ g') : Blk (w.setCell ⟨g', i, none⟩ v) g t xs := (Below.heap_setCell w ⟨g', i, none⟩ v g hne).trans h
theorem Blk.blw {w w' : World} {g : Nat} {t : TypeId} {xs : List Value} (h : Blk w g t xs) (hb : Below w.heap.size w w') : Blk w' g t xs := (hb.block g h.lt).trans h
theorem Blk.drewN {w : World} {g : Nat} {t : TypeId} {xs : List Value} (h : Blk w g t xs) (n : Nat) : Blk (w.drewN n) g t xs := h
theorem Blk.drew {w : World} {g : Nat} {t : TypeId} {xs : List Value} (h : Blk w g t xs) : Blk w.drew g t xs := h
theorem Blk.new (w : World) (cs : Array Value) (t : TypeId) : Blk (w.alloc (.cells cs t)) w.heap.size t cs.toList := by
  unfold Blk
  rw [heap_alloc_new]
theorem owns_blk {w : World} {base g n : Nat} {e : TypeId} {size : Nat} {xs : List Value} (h : w.ownsRow base e size (.slice (some ⟨g, 0, none⟩) n n) n xs) : Blk w g e xs ∧ base ≤ g := by
  rcases h.2 with ⟨h1, _⟩ | ⟨g', cap', cur, h1, h2, h3, _, _, h6, h7⟩
  · cases h1
  · injection h1 with e1 e2 e3
    injection e1 with e1
    injection e1 with e1
    subst e1 e3
    refine ⟨?_, h2⟩
    unfold Blk
    rw [h3, ← h7, List.take_of_length_le (by simp; omega)]
theorem set_mid {α : Type} (A : List α) (z v : α) (B : List α) (i : Nat) (h : i = A.length) : (A ++ z :: B).set i v = A ++ v :: B := by
  subst h
  rw [List.set_append_right _ _ (Nat.le_refl _), Nat.sub_self]
  rfl
end Go.Proofs.YtgkpnjnollfdaaaDoor.Pp
/- Folders: Merge, and how its row lies; lists that are read back. -/
namespace Go.Proofs.YtgkpnjnollfdaaaDoor.Pp
open Go.ChangeShapes Go.WideShapes Go.ChangeAt Go.RowKit
open Stable
set_option maxRecDepth 100000 in
set_option maxHeartbeats 1000000 in
theorem merge_full (v : Value) (ls : List (List (ByteArray × Int))) (w : World) (h : IsLists w v ls) (hl : ls.length ≤ 1000000) (hs : ls.flatten.length ≤ 1000000) :
    Calls Tryd.prog 13 #[v] w fun e w' => ∃ u Z, e = .returned u ∧ Sorted Z ∧ SE ls.flatten Z ∧ Z.length = ls.flatten.length ∧ IsPairs w' u Z ∧ Below w.heap.size w w' ∧ ∃ g, u = .slice (some ⟨g, 0, none⟩) Z.length Z.length := by
  have H := Lib.hid h
  have HSZ := Lib.hid hs
  obtain ⟨ao, cap, hv, _⟩ := h
  obtain ⟨n, hn⟩ : ∃ n, n = ls.length := ⟨_, rfl⟩
  subst hv
  rw [← hn] at H hl ⊢
  have HN := Lib.hid hn
  clear hn hs
  go_enter Tryd.func13, Tryd.ntmps13
  go_wp2_with fail
  go_loopw [3, 8] (fun av kv wr => ∃ (k : Nat), kv = .int .i64 k ∧ k ≤ n ∧ Below w.heap.size w wr ∧ Hid (wr.ownsRow w.heap.size 25 2 av (flatT ls k).length (cellsP (flatT ls k)))) (fun _ kv _ => n - (intOf kv).toNat)
  case atStart => exact ⟨0, by go_num, Nat.zero_le _, Below.refl _ _, owns_nil _ _⟩
  case round =>
    obtain ⟨k, rfl, hkn, hb, HO⟩ := hrel
    by_cases hlt : k < n
    · obtain ⟨b, off, u, ea, c0, hu⟩ := isLists_at H.out k (by have := HN.out; omega)
      subst ea
      have k0 := (hb.cell (block_lt c0)).trans c0
      have HU := Lib.hid (isPairs_below hu hb)
      obtain ⟨au, cu, eu, _⟩ := hu
      generalize (lsAt ls k).length = nu at eu
      subst eu
      clear c0
      go_wp2_with (at_builtin; refine Hid.out ?_)
      refine Lib.hid ?_
      refine wpList_append_pairs (w0 := w) rfl (.tmp 12) (.tmp 13) rfl _ (flatT ls k) rfl HO.out _ (lsAt ls k) rfl HU.out (by have h1 := flatT_le ls (k + 1); rw [flatT_succ ls k (by have := HN.out; omega), List.length_append] at h1; have := HSZ.out; omega) hb ?_
      intro v2 w2 hown2 hb2
      rw [← flatT_succ ls k (by have := HN.out; omega)] at hown2
      have HO2 := Lib.hid hown2
      clear hown2 k0 HU HO hb
      go_wp2
      go_roundw
      case rel => exact ⟨k + 1, by go_num, by omega, hb2, HO2⟩
      case measure => simp [intOf]; omega
    · have hk : flatT ls k = ls.flatten := by unfold flatT; rw [List.take_of_length_le (by have := HN.out; omega)]
      rw [hk] at HO
      have C1 := Lib.hid (sort_full _ ls.flatten wr (owns_isPairs HO.out) HSZ.out)
      clear HO hk
      go_wp2_with (go_at_call 11; refine Hid.out ?_)
      refine Lib.hid ?_
      refine C1.out.mono ?_
      rintro _ w2 ⟨u, Z, rfl, z1, z2, z3, z4, hb2, gz, hgz⟩
      have HGZ : Hid (u = .slice (some ⟨gz, 0, none⟩) Z.length Z.length) := by show _ = _; rw [z3]; exact hgz
      clear hgz
      have HB := hb.trans (hb2.mono hb.size)
      have HZ := Lib.hid z3
      clear C1 hb2 z3
      go_wp2
      go_ret
      exact ⟨u, Z, rfl, z1, z2, HZ.out, z4, HB, gz, HGZ.out⟩
theorem flat_cellsP (l : List (ByteArray × Int)) : flat l = cellsP l := rfl
theorem readOwn (l : List (ByteArray × Int)) (w : World) (E : Env w) (hf : Fits l) (hl : l.length ≤ 60000) :
    Calls Tryd.prog 10 #[.string (bs (textL l))] w fun e w' => ∃ v, e = .returned (.tuple #[v, .nilIface]) ∧ w'.ownsRow w.heap.size 25 2 v l.length (cellsP l) ∧ Below w.heap.size w w' := by
  refine (parse_own (textL l) w E (by have := textL_len hf; omega)).mono ?_
  rintro e w' ⟨⟨v, rfl, hv⟩, hb⟩
  obtain ⟨h1, h2⟩ := pairs_conv l hf
  rw [h1] at hv
  rw [h2]
  exact ⟨v, rfl, hv, hb⟩
end Go.Proofs.YtgkpnjnollfdaaaDoor.Pp
/- Folders: a list that rises, cut where its keys turn, plainly. -/
namespace Go.Proofs.YtgkpnjnollfdaaaDoor.Pp
open Grp
/-- Pairs of one key. -/
structure Same1 (k : ByteArray) (s : List (ByteArray × Int)) : Prop where
  ne : s ≠ []
  key : ∀ p ∈ s, p.1 = k
/-- Parts of a list, each of one key, no two neighbours of the same. -/
def Segs : List ByteArray → List (List (ByteArray × Int)) → Prop
  | [], [] => True
  | k :: ks, s :: ss => Same1 k s ∧ (∀ k', ks.head? = some k' → k ≠ k') ∧ Segs ks ss
  | _, _ => False
theorem segs_len : ∀ {ks : List ByteArray} {ss : List (List (ByteArray × Int))}, Segs ks ss → ks.length = ss.length
  | [], [], _ => rfl
  | _ :: _, _ :: _, h => by rw [List.length_cons, List.length_cons, segs_len h.2.2]
  | [], _ :: _, h => h.elim
  | _ :: _, [], h => h.elim
theorem segs_snoc : ∀ {ks : List ByteArray} {ss : List (List (ByteArray × Int))} {k : ByteArray} {s : List (ByteArray × Int)}, Segs ks ss → Same1 k s → (∀ k', ks.getLast? = some k' → k' ≠ k) → Segs (ks ++ [k]) (ss ++ [s])
  | [], [], k, s, _, h1, _ => ⟨h1, fun k' h => by simp at h, trivial⟩
  | k0 :: ks, s0 :: ss, k, s, h, h1, h2 => by
    refine ⟨h.1, ?_, segs_snoc h.2.2 h1 (fun k' hk => h2 k' (by
      cases ks with
      | nil => simp at hk
      | cons a b => rw [List.getLast?_cons_cons]; exact hk))⟩
    intro k' hk
    cases ks with
    | nil =>
      have hk2 : k = k' := by simpa using hk
      subst hk2
      exact h2 k0 rfl
    | cons a b => exact h.2.1 k' (by simpa using hk)
  | [], _ :: _, _, _, h, _, _ => h.elim
  | _ :: _, [], _, _, h, _, _ => h.elim
theorem grp_same (kind : Int) {k : ByteArray} : ∀ {s : List (ByteArray × Int)}, Same1 k s → ∃ x, grp kind s = [(k, x)] := by
  intro s
  generalize hn : s.length = n
  induction n generalizing s with
  | zero => intro h; exact absurd (List.length_eq_zero_iff.1 hn) h.ne
  | succ n ih =>
    intro h
    rcases List.eq_nil_or_concat s with rfl | ⟨s', q, rfl⟩
    · simp at hn
    · rw [List.concat_eq_append] at *
      have hq : q.1 = k := h.key q (by simp)
      rw [grp_snoc]
      by_cases hs : s' = []
      · subst hs
        exact ⟨q.2, by rw [grp_nil, step_nil, ← hq]⟩
      · obtain ⟨x, hx⟩ := ih (s := s') (by simpa using hn) ⟨hs, fun p hp => h.key p (by simp [hp])⟩
        rw [hx]
        have e := step_same kind [] (k, x) q hq.symm
        exact ⟨_, e⟩
/-- What the groups of all are: of each part one. -/
theorem grp_segs (kind : Int) : ∀ {ks : List ByteArray} {ss : List (List (ByteArray × Int))}, Segs ks ss → ∃ M : List (ByteArray × Int), grp kind ss.flatten = M ∧ M.map Prod.fst = ks ∧ ∀ i : Nat, (ss[i]?).map (grp kind) = (M[i]?).map fun p => [p]
  | [], [], _ => ⟨[], rfl, rfl, fun i => by simp⟩
  | k :: ks, s :: ss, h => by
    obtain ⟨M, h1, h2, h3⟩ := grp_segs kind h.2.2
    obtain ⟨x, hx⟩ := grp_same kind h.1
    refine ⟨(k, x) :: M, ?_, by rw [List.map_cons, h2], fun i => ?_⟩
    · rw [List.flatten_cons, grp_append, h1, hx]
      cases M with
      | nil => rfl
      | cons q M' =>
        have hq : ks.head? = some q.1 := by rw [← h2]; rfl
        have hne := h.2.1 _ hq
        have e := step_other kind [] (k, x) q hne
        simp only [join]
        rw [show ([(k, x)] : List (ByteArray × Int)) = [] ++ [(k, x)] from rfl, e]
        rfl
    · cases i with
      | zero => simp [hx]
      | succ i => simpa using h3 i
  | [], _ :: _, h => h.elim
  | _ :: _, [], h => h.elim
end Go.Proofs.YtgkpnjnollfdaaaDoor.Pp
/- Folders: a list that rises is cut where its keys turn. -/
namespace Go.Proofs.YtgkpnjnollfdaaaDoor.Pp
open Go.ChangeShapes Go.WideShapes Go.ChangeAt Go.RowKit
open Grp
theorem infoL : (Tryd.prog.info? 22).map (fun i => (i.zero, i.size, i.bytes)) = some (some (.slice none 0 0), 1, 24) := by kernel_rfl
/-- What byKey has so far. -/
structure SegI (Z : List (ByteArray × Int)) (i B : Nat) (ks : List ByteArray) (ss : List (List (ByteArray × Int))) : Prop where
  segs : Segs ks ss
  flat : ss.flatten = Z.take B
  run : ∀ (j : Nat) (p q : ByteArray × Int), B ≤ j → j ≤ i → Z[B]? = some p → Z[j]? = some q → q.1 = p.1
  sep : ∀ (k : ByteArray) (p : ByteArray × Int), ks.getLast? = some k → Z[B]? = some p → k ≠ p.1
  fin : i = Z.length → B = i
theorem SegI.start (Z : List (ByteArray × Int)) : SegI Z 0 0 [] [] :=
  ⟨trivial, rfl, fun j p q h1 h2 hp hq => by have : j = 0 := by omega
                                             subst this; rw [hp] at hq; cases hq; rfl, fun k p h => by simp at h, fun h => rfl⟩
theorem SegI.cut {Z : List (ByteArray × Int)} {i B : Nat} {ks : List ByteArray} {ss : List (List (ByteArray × Int))} (h : SegI Z i B ks ss) (hB : B ≤ i) (hi : i < Z.length) (hx : ∀ q, Z[i + 1]? = some q → q.1 ≠ Z[i].1) :
    SegI Z (i + 1) (i + 1) (ks ++ [Z[i].1]) (ss ++ [(Z.drop B).take (i + 1 - B)]) := by
  have hBl : B < Z.length := by omega
  have hk : Z[i].1 = Z[B].1 := h.run i Z[B] Z[i] hB (Nat.le_refl _) (List.getElem?_eq_getElem hBl) (List.getElem?_eq_getElem hi)
  refine ⟨segs_snoc h.segs ⟨?_, fun p hp => ?_⟩ (fun k' hk' => ?_), ?_, ?_, ?_, fun _ => rfl⟩
  · intro e
    have := congrArg List.length e
    rw [List.length_take, List.length_drop, List.length_nil] at this
    omega
  · obtain ⟨m, hm, rfl⟩ := List.getElem_of_mem hp
    rw [List.length_take, List.length_drop] at hm
    rw [List.getElem_take, List.getElem_drop, hk]
    exact h.run (B + m) _ _ (by omega) (by omega) (List.getElem?_eq_getElem hBl) (List.getElem?_eq_getElem (by omega))
  · rw [hk]
    exact h.sep k' Z[B] hk' (List.getElem?_eq_getElem hBl)
  · rw [List.flatten_append, h.flat, List.flatten_singleton, ← List.take_add]
    congr 1
    omega
  · intro j p q h1 h2 hp hq
    have : j = i + 1 := by omega
    subst this
    rw [hp] at hq
    cases hq
    rfl
  · intro k p hk' hp
    rw [List.getLast?_append, List.getLast?_singleton, Option.some_or, Option.some.injEq] at hk'
    subst hk'
    exact fun e => hx p hp e.symm
theorem SegI.on {Z : List (ByteArray × Int)} {i B : Nat} {ks : List ByteArray} {ss : List (List (ByteArray × Int))} (h : SegI Z i B ks ss) (hB : B ≤ i) (hi : i + 1 < Z.length) (hx : Z[i + 1].1 = Z[i].1) : SegI Z (i + 1) B ks ss := by
  refine ⟨h.segs, h.flat, fun j p q h1 h2 hp hq => ?_, h.sep, fun e => by omega⟩
  by_cases hj : j = i + 1
  · subst hj
    rw [List.getElem?_eq_getElem hi, Option.some.injEq] at hq
    rw [← hq, hx]
    exact h.run i p Z[i] hB (Nat.le_refl _) hp (List.getElem?_eq_getElem (by omega))
  · exact h.run j p q h1 (by omega) hp hq
theorem isPairs_mid {w : World} {b off n cap : Nat} {l : List (ByteArray × Int)} (h : IsPairs w (.slice (some ⟨b, off, none⟩) n cap) l) (B m : Nat) (hm : B + m ≤ l.length) (cap' : Nat) : IsPairs w (.slice (some ⟨b, off + B * 2, none⟩) m cap') ((l.drop B).take m) := by
  obtain ⟨a, c, e, hc⟩ := h
  have hlen : ((l.drop B).take m).length = m := by rw [List.length_take, List.length_drop]; omega
  refine ⟨some ⟨b, off + B * 2, none⟩, cap', by rw [hlen], fun i hi => ?_⟩
  rw [hlen] at hi
  obtain ⟨b', off', ea, c0, c1⟩ := hc (B + i) (by omega)
  injection e with e1 e2 e3
  rw [← e1, Option.some.injEq, Addr.mk.injEq] at ea
  obtain ⟨rfl, rfl, _⟩ := ea
  refine ⟨b, off + B * 2, rfl, ?_, ?_⟩
  · rw [List.getElem_take, List.getElem_drop, show off + B * 2 + i * 2 = off + (B + i) * 2 by omega]; exact c0
  · rw [List.getElem_take, List.getElem_drop, show off + B * 2 + i * 2 + 1 = off + (B + i) * 2 + 1 by omega]; exact c1
theorem isLists_of {w : World} {base : Nat} {v : Value} {us : List Value} {ss : List (List (ByteArray × Int))} (h : w.ownsRow base 22 1 v us.length us) (hl : us.length = ss.length) (hp : ∀ j (h : j < ss.length) (h' : j < us.length), IsPairs w us[j] ss[j]) : IsLists w v ss := by
  rcases h.2 with ⟨rfl, h0⟩ | ⟨g, cap, cur, rfl, _⟩
  · exact ⟨none, 0, by rw [← hl, h0], fun i hi => by omega⟩
  · refine ⟨some ⟨g, 0, none⟩, cap, by rw [hl], fun i hi => ⟨g, 0, us[i], rfl, ?_, hp i hi (by omega)⟩⟩
    rw [Nat.zero_add, h.cellAt i (by omega)]
    exact List.getElem?_eq_getElem (by omega)
set_option maxRecDepth 100000 in
set_option maxHeartbeats 2000000 in
theorem byKey_any (g off n : Nat) (Z : List (ByteArray × Int)) (w : World) (h : IsPairs w (.slice (some ⟨g, off, none⟩) n n) Z) (hn : n = Z.length) (hl : n ≤ 1000000) :
    Calls Tryd.prog 46 #[.slice (some ⟨g, off, none⟩) n n] w fun e w' => ∃ kv ks ss, e = .returned kv ∧ Segs ks ss ∧ ss.flatten = Z ∧ IsLists w' kv ss ∧ Below w.heap.size w w' := by
  obtain ⟨i0, hi0, hz0, hz1, hz2⟩ := info_parts infoL
  have HP := Lib.hid h
  have HN := Lib.hid hn
  have HC : Hid (∀ j (h : j < Z.length), w.cell? ⟨g, off + j * 2, none⟩ = some (.string Z[j].1)) := fun j hj => by
    obtain ⟨a, c, e, hc⟩ := h
    obtain ⟨b', off', ea, c0, _⟩ := hc j hj
    injection e with e1 e2 e3
    rw [← e1, Option.some.injEq, Addr.mk.injEq] at ea
    obtain ⟨rfl, rfl, _⟩ := ea
    exact c0
  clear h hn
  go_enter Tryd.func46, Tryd.ntmps46
  go_wp2
  go_loopg [3, 4, 8] n (fun gg lv bv kv wr => ∃ (i B : Nat) (ks : List ByteArray) (ss : List (List (ByteArray × Int))) (us : List Value), gg = n - i ∧ i ≤ n ∧ B ≤ i ∧ kv = .int .i64 i ∧ bv = .int .i64 B ∧ Hid (SegI Z i B ks ss) ∧ Hid (us.length = ss.length) ∧ us.length ≤ i ∧ Hid (∀ j (h : j < ss.length) (h' : j < us.length), IsPairs w us[j] ss[j]) ∧ Hid (∀ u ∈ us, u.oneCell' = true) ∧ Hid (wr.ownsRow w.heap.size 22 1 lv us.length us) ∧ Below w.heap.size w wr)
  case atStart => exact ⟨0, 0, [], [], [], rfl, Nat.zero_le _, Nat.le_refl _, rfl, rfl, SegI.start Z, rfl, Nat.le_refl _, (show ∀ j (h : j < _) (h' : j < _), _ from fun j h => by simp at h), (show ∀ u ∈ _, _ from fun u hu => by cases hu), World.ownsRow_nil _ _ _ _, Below.refl _ _⟩
  case round =>
    obtain ⟨i, B, ks, ss, us, hgi, hi, hBi, rfl, rfl, HS, HUL, hul, HUP, HU1, HO, hb⟩ := hrel
    have HGI := Lib.hid hgi
    clear hgi
    by_cases hlt : i < n
    · have hiz : i < Z.length := by have := HN.out; omega
      have c0 := (hb.cell (block_lt (HC.out i hiz))).trans (HC.out i hiz)
      obtain ⟨i1, hi1⟩ : ∃ i1 : Nat, (i : Int) + 1 = (i1 : Int) := ⟨i + 1, rfl⟩
      have HI1 : Hid (i1 = i + 1) := by show _ = _; omega
      have hi1n : i1 ≤ n := by omega
      have hBi1 : B ≤ i1 := by omega
      have hBn : B < n := by omega
      have hbs := hb.size
      obtain ⟨x0, hx0⟩ : ∃ x0, x0 = Z[i].1 := ⟨_, rfl⟩
      have HX0 := Lib.hid hx0
      rw [← hx0] at c0
      have HSL : Hid (∀ cap', IsPairs w (.slice (some ⟨g, off + B * 2, none⟩) (i1 - B) cap') ((Z.drop B).take (i + 1 - B))) := fun cap' => by
        have e : i1 - B = i + 1 - B := by rw [HI1.out]
        rw [e]
        exact isPairs_mid HP.out B (i + 1 - B) (by omega) cap'
      clear hx0
      by_cases hE : i1 = n
      case' pos =>
        have hEq : ((i1 : Int) == (n : Int)) = true := by simp [hE]
        have HX : Hid (∀ q, Z[i + 1]? = some q → q.1 ≠ Z[i].1) := fun q hq => by
          rw [List.getElem?_eq_none (by have := HN.out; have := HI1.out; omega)] at hq
          cases hq
        clear hE
        go_wp2
        go_quiet (fail)
      case' neg =>
        have hEq : ((i1 : Int) == (n : Int)) = false := by simp only [beq_eq_false_iff_ne, ne_eq]; omega
        have hi1z : i + 1 < Z.length := by have := HN.out; have := HI1.out; omega
        have hi1l : i1 < n := by omega
        have c1 := (hb.cell (block_lt (HC.out (i + 1) hi1z))).trans (HC.out (i + 1) hi1z)
        obtain ⟨x1, hx1⟩ : ∃ x1, x1 = Z[i + 1].1 := ⟨_, rfl⟩
        rw [← hx1, ← HI1.out] at c1
        have HX1 := Lib.hid hx1
        clear hx1 hE
        by_cases hk : x1 = x0
        case' pos =>
          have HON := Lib.hid (HS.out.on hBi hi1z (by rw [← HX1.out, ← HX0.out, hk]))
          subst hk
          have hkk : (x1.toList == x1.toList) = true := by simp
          go_wp2
          go_quiet (fail)
          have hb2 : Below w.heap.size w (wr.drewN nq) := blw_step hb (blw_drewN _ _)
          have HO2 := Lib.hid (owns_drewN HO.out nq)
          generalize wr.drewN nq = w3 at *
          clear c0 c1 HO
          go_wp2
          go_roundg (n - (i + 1))
          case measure => have := HGI.out; omega
          case rel => exact ⟨i + 1, B, ks, ss, us, rfl, by omega, by omega, by go_num, rfl, HON, HUL, by omega, HUP, HU1, HO2, hb2⟩
        case' neg =>
          have hkk : (x1.toList == x0.toList) = false := neq_list hk
          have HX : Hid (∀ q, Z[i + 1]? = some q → q.1 ≠ Z[i].1) := fun q hq => by
            rw [List.getElem?_eq_getElem hi1z, Option.some.injEq] at hq
            rw [← hq, ← HX1.out, ← HX0.out]
            exact hk
          clear hk
          go_wp2
          go_quiet (fail)
      all_goals
        have hb2 : Below w.heap.size w (wr.drewN nq) := blw_step hb (blw_drewN _ _)
        have HO2 := Lib.hid (owns_drewN HO.out nq)
        generalize wr.drewN nq = w3 at *
        have hbs2 := hb2.size
        have HCT := Lib.hid (HS.out.cut hBi hiz HX.out)
        clear HO hb
        go_wp2_with (at_builtin; refine Hid.out ?_)
        refine Lib.hid ?_
        refine wpList_append_own _ rfl (.tmp 30) (.tmp 36) 34 rfl w.heap.size 22 i0 (.slice none 0 0) 1 24 Tryd.underlying34 hi0 hz0 hz1 hz2 rfl (by decide) _ us.length us rfl (HO2.out.alloc _) ⟨w3.heap.size, 0, none⟩ 1 1 [.slice (some ⟨g, off + B * 2, none⟩) (i1 - B) (n - B)] rfl rfl ?c1 ?c5 ?c2 ?c3 ?c4 ?_
        case c1 => exact lit_cells rfl (show 1 ≤ maxLen by decide)
        case c5 => intro u hu; simp at hu; subst hu; rfl
        case c2 => unfold maxLen; omega
        case c3 => omega
        case c4 => simp; omega
        intro v4 w4 hown4 hg4 _
        have hb4 : Below w.heap.size w w4 := (hb2.alloc (by omega) _).grown hg4 (by simp; omega) (fun k hk => (HO2.out.lt k hk).1)
        have HO4 : Hid (w4.ownsRow w.heap.size 22 1 v4 (us ++ [Value.slice (some ⟨g, off + B * 2, none⟩) (i1 - B) (n - B)]).length (us ++ [Value.slice (some ⟨g, off + B * 2, none⟩) (i1 - B) (n - B)])) := by
          show World.ownsRow _ _ _ _ _ _ _
          rw [List.length_append]
          exact hown4
        have HUP2 : Hid (∀ j (h : j < (ss ++ [(Z.drop B).take (i + 1 - B)]).length) (h' : j < (us ++ [Value.slice (some ⟨g, off + B * 2, none⟩) (i1 - B) (n - B)]).length), IsPairs w (us ++ [Value.slice (some ⟨g, off + B * 2, none⟩) (i1 - B) (n - B)])[j] (ss ++ [(Z.drop B).take (i + 1 - B)])[j]) := fun j h h' => by
          by_cases hj : j < us.length
          · rw [List.getElem_append_left hj, List.getElem_append_left (by rw [← HUL.out]; exact hj)]
            exact HUP.out j (by rw [← HUL.out]; exact hj) hj
          · rw [List.length_append, List.length_singleton] at h'
            have ej : j = us.length := by omega
            subst ej
            rw [List.getElem_append_right (Nat.le_refl _), List.getElem_append_right (by rw [HUL.out]; exact Nat.le_refl _)]
            simp only [HUL.out, Nat.sub_self, List.getElem_cons_zero]
            exact HSL.out _
        have HUL2 : Hid ((us ++ [Value.slice (some ⟨g, off + B * 2, none⟩) (i1 - B) (n - B)]).length = (ss ++ [(Z.drop B).take (i + 1 - B)]).length) := by
          show _ = _
          rw [List.length_append, List.length_append, HUL.out]
          rfl
        have HU12 : Hid (∀ u ∈ us ++ [Value.slice (some ⟨g, off + B * 2, none⟩) (i1 - B) (n - B)], u.oneCell' = true) := fun u hu => by
          rcases List.mem_append.1 hu with hu | hu
          · exact HU1.out u hu
          · rw [List.mem_singleton] at hu
            subst hu
            rfl
        clear hown4 hg4 HO2
        go_wp2
        go_roundg (n - (i + 1))
        case measure => have := HGI.out; omega
        case rel => exact ⟨i + 1, i + 1, _, _, _, rfl, by omega, Nat.le_refl _, by go_num, by go_num, HCT, HUL2, by rw [List.length_append, List.length_singleton]; omega, HUP2, HU12, HO4, hb4⟩
    · have hfin : ss.flatten = Z := by
        have e : i = Z.length := by have := HN.out; omega
        have := HS.out.fin e
        rw [HS.out.flat, List.take_of_length_le (by omega)]
      have HF := Lib.hid hfin
      clear hfin
      go_wp2
      go_ret
      exact ⟨_, ks, ss, rfl, HS.out.segs, HF.out, isLists_of HO.out HUL.out (fun j h h' => isPairs_below (HUP.out j h h') hb), hb⟩
end Go.Proofs.YtgkpnjnollfdaaaDoor.Pp
/- Folders: a run in memory; New. -/
namespace Go.Proofs.YtgkpnjnollfdaaaDoor.Pp
open Go.ChangeShapes Go.WideShapes Go.ChangeAt Go.RowKit
open Grp Stable
/-- A run: its own block, its keys' lists (which lie below it), the row of what is made. -/
structure IsRun (w : World) (R : Nat) (kind : Int) (kv : Value) (ss : List (List (ByteArray × Int))) (mv : Value) (made : List (ByteArray × Int)) : Prop where
  blk : Blk w R 97 [.int .i64 kind, kv, mv]
  keys : ∀ w', Below R w w' → IsLists w' kv ss
  row : w.ownsRow (R + 1) 25 2 mv made.length (cellsP made)
/-- Nothing has turned but a block, a row's, and what is new. -/
structure Fr (w w' : World) (R : Nat) (o : Option Nat) : Prop where
  os : w'.os = w.os
  tape : w'.tape = w.tape
  output : w'.output = w.output
  size : w.heap.size ≤ w'.heap.size
  block : ∀ k, k < w.heap.size → k ≠ R → some k ≠ o → w'.heap[k]? = w.heap[k]?
theorem Fr.refl (w : World) (R : Nat) (o : Option Nat) : Fr w w R o := ⟨rfl, rfl, rfl, Nat.le_refl _, fun _ _ _ _ => rfl⟩
theorem Fr.of_blw {w w' : World} (h : Below w.heap.size w w') (R : Nat) (o : Option Nat) : Fr w w' R o := ⟨h.os, h.tape, h.output, h.size, fun k hk _ _ => h.block k hk⟩
theorem Fr.blw {w w1 w2 : World} {R : Nat} {o : Option Nat} (h : Fr w w1 R o) (k : Below w1.heap.size w1 w2) : Fr w w2 R o :=
  ⟨k.os.trans h.os, k.tape.trans h.tape, k.output.trans h.output, Nat.le_trans h.size k.size, fun i hi h1 h2 => (k.block i (Nat.lt_of_lt_of_le hi h.size)).trans (h.block i hi h1 h2)⟩
theorem Fr.put {w w1 : World} {R : Nat} {o : Option Nat} (h : Fr w w1 R o) (i : Nat) (v : Value) : Fr w (w1.setCell ⟨R, i, none⟩ v) R o := by
  have k := Only.setCell (Only.refl R w1) i v
  exact ⟨k.os.trans h.os, k.tape.trans h.tape, k.output.trans h.output, Nat.le_trans h.size k.size, fun j hj h1 h2 => (k.block j (Nat.lt_of_lt_of_le hj h.size) (fun e => h1 (Option.some.inj e))).trans (h.block j hj h1 h2)⟩
theorem Fr.grown {w w1 w2 : World} {R : Nat} {o o' : Option Nat} (h : Fr w w1 R o) (k : w1.grownBy w2 o') (ho : o' = o ∨ ∀ b, o' = some b → w.heap.size ≤ b) : Fr w w2 R o :=
  ⟨k.os.trans h.os, k.tape.trans h.tape, k.output.trans h.output, Nat.le_trans h.size k.size, fun j hj h1 h2 => (k.block j (Nat.lt_of_lt_of_le hj h.size) (fun e => by
    rcases ho with rfl | ho
    · exact h2 e
    · have := ho j e.symm; omega)).trans (h.block j hj h1 h2)⟩
theorem Fr.below {w w' : World} {R B : Nat} {o : Option Nat} (h : Fr w w' R o) (hB : B ≤ w.heap.size) (hR : B ≤ R) (ho : ∀ b, o = some b → B ≤ b) : Below B w w' :=
  ⟨h.os, h.tape, h.output, h.size, fun k hk => h.block k (by omega) (by omega) (fun e => by have := ho k e.symm; omega)⟩
theorem IsRun.blw {w w' : World} {R : Nat} {kind : Int} {kv mv : Value} {ss : List (List (ByteArray × Int))} {made : List (ByteArray × Int)} (h : IsRun w R kind kv ss mv made) (hb : Below w.heap.size w w') : IsRun w' R kind kv ss mv made :=
  ⟨h.blk.blw hb, fun w2 h2 => h.keys w2 ((hb.mono (Nat.le_of_lt h.blk.lt)).trans h2), owns_blw h.row hb⟩
set_option maxRecDepth 100000 in
set_option maxHeartbeats 1000000 in
theorem new_bad (kind : Int) (v : Value) (w : World) (hk : kindB kind = false) :
    Calls Tryd.prog 21 #[.int .i64 kind, v] w fun e w' => e = .returned (.tuple #[.pointer none, .iface 77 (.int .i64 3)]) ∧ w' = w := by
  have C := Lib.hid (foldCheck_any kind w)
  rw [show kindV kind = .iface 77 (.int .i64 3) by unfold kindV; rw [hk]; rfl] at C
  go_enter Tryd.func21, Tryd.ntmps21
  go_wp2_with (go_at_call 27; refine C.out.mono ?_; rintro _ w1 ⟨rfl, h1⟩; rw [h1]; clear h1 w1)
  go_ret2
  exact ⟨rfl, rfl⟩
/-- What New makes. -/
structure Fresh (w w' : World) (ls : List (List (ByteArray × Int))) (kind : Int) (R : Nat) (kv : Value) (Z : List (ByteArray × Int)) (ks : List ByteArray) (ss : List (List (ByteArray × Int))) : Prop where
  sorted : Sorted Z
  se : SE ls.flatten Z
  len : Z.length = ls.flatten.length
  segs : Segs ks ss
  flat : ss.flatten = Z
  low : w.heap.size ≤ R
  run : IsRun w' R kind kv ss (.slice none 0 0) []
  bel : Below w.heap.size w w'
set_option maxRecDepth 100000 in
set_option maxHeartbeats 1000000 in
theorem new_ok (kind : Int) (v : Value) (ls : List (List (ByteArray × Int))) (w : World) (hk : kindB kind = true) (h : IsLists w v ls) (hl : ls.length ≤ 60000) (hs : ls.flatten.length ≤ 60000) :
    Calls Tryd.prog 21 #[.int .i64 kind, v] w fun e w' => ∃ R kv Z ks ss, e = .returned (.tuple #[.pointer (some ⟨R, 0, none⟩), .nilIface]) ∧ Fresh w w' ls kind R kv Z ks ss := by
  have C := Lib.hid (foldCheck_any kind w)
  rw [show kindV kind = .nilIface by unfold kindV; rw [hk]; rfl] at C
  have M := Lib.hid (merge_full v ls w h (by omega) (by omega))
  obtain ⟨ao, cap, rfl, _⟩ := h
  go_enter Tryd.func21, Tryd.ntmps21
  go_wp2_with (first | (go_at_call 27; refine C.out.mono ?_; rintro _ w1 ⟨rfl, h1⟩; rw [h1]; clear h1 w1) | (go_at_call 13; refine Hid.out ?_))
  refine Lib.hid ?_
  refine M.out.mono ?_
  clear M C
  rintro _ w1 ⟨u, Z, rfl, hso, hse, hlen, hZ, hb1, gz, rfl⟩
  have BK := Lib.hid (byKey_any gz 0 Z.length Z w1 hZ rfl (by omega))
  have HA := Lib.hid (And.intro hso (And.intro hse (And.intro hlen hb1)))
  obtain ⟨nz, hnz⟩ : ∃ nz, nz = Z.length := ⟨_, rfl⟩
  rw [← hnz] at BK ⊢
  clear hso hse hlen hb1 hZ hnz
  dsimp only
  go_wp2_with (go_at_call 46; refine Hid.out ?_)
  refine Lib.hid ?_
  refine BK.out.mono ?_
  clear BK
  rintro _ w2 ⟨kv, ks, ss, rfl, hsg, hfl, hLs, hb2⟩
  obtain ⟨hso, hse, hlen, hb1⟩ := HA.out
  have hb12 := blw_step hb1 hb2
  obtain ⟨w3, hw3⟩ : ∃ w3, w3 = w2.alloc (.cells #[.int .i64 kind, kv, .slice none 0 0] 97) := ⟨_, rfl⟩
  have hb3 : Below w2.heap.size w2 w3 := by rw [hw3]; exact blw_box _
  obtain ⟨R, hR⟩ : ∃ R, R = w2.heap.size := ⟨_, rfl⟩
  have HF : Hid (Fresh w w3 ls kind R kv Z ks ss) := by
    refine ⟨hso, hse, hlen, hsg, hfl, by rw [hR]; exact hb12.size, ⟨?_, fun w' h' => ?_, World.ownsRow_nil _ _ _ _⟩, blw_step hb12 hb3⟩
    · rw [hw3, hR]; exact Blk.new w2 _ _
    · rw [hR] at h'
      obtain ⟨a, c, e, hc⟩ := hLs
      have hbb : Below w2.heap.size w2 w' := hb3.trans h'
      refine ⟨a, c, e, fun i hi => ?_⟩
      obtain ⟨b, off, u, ea, c0, hu⟩ := hc i hi
      exact ⟨b, off, u, ea, (hbb.cell (block_lt c0)).trans c0, isPairs_below hu hbb⟩
  have HW := Lib.hid hw3
  have HR := Lib.hid hR
  obtain ⟨ko, kc, rfl, _⟩ := hLs
  clear hw3 hR hso hse hlen hsg hfl hb3 hb12 hb1 hb2 HA
  dsimp only
  go_wp2
  rw [← HW.out, ← HR.out]
  go_ret2
  exact ⟨R, _, Z, ks, ss, rfl, HF.out⟩
end Go.Proofs.YtgkpnjnollfdaaaDoor.Pp
/- Pieces of a function's code, by their numbers. -/
namespace Go.Proofs.YtgkpnjnollfdaaaDoor.Pp
open Go.ChangeShapes Go.WideShapes Go.ChangeAt Go.RowKit
/-- The block of that number in a piece of code. -/
def findBlock (n : Nat) : Code → Option Code
  | .block k c => if k = n then some (.block k c) else findBlock n c
  | .loop c => findBlock n c
  | .scope c => findBlock n c
  | .seq a b => match findBlock n a with
    | some c => some c
    | none => findBlock n b
  | .cond _ a b => match findBlock n a with
    | some c => some c
    | none => findBlock n b
  | _ => none
/-- The region of that number in a piece of code. -/
def findRegion (n : Nat) : Code → Option Code
  | .region k l b => if k = n then some (.region k l b) else none
  | .block _ c => findRegion n c
  | .loop c => findRegion n c
  | .scope c => findRegion n c
  | .seq a b => match findRegion n a with
    | some c => some c
    | none => findRegion n b
  | .cond _ a b => match findRegion n a with
    | some c => some c
    | none => findRegion n b
  | _ => none
def regionIn (o : Option Code) (n : Nat) : Code := ((o.bind (findRegion n)).getD .skip)
def pieceIn (o : Option Code) (n : Nat) : Code := ((o.bind (findBlock n)).getD .skip)
theorem wp_norm {c : Code} {K : Act → World → Prop} {Q0 : Exit → Act → World → Prop} {a : Act} {w : World} (h : c.wp Tryd.prog (Exit.then K fun _ _ _ => False) a w) : c.wp Tryd.prog (Exit.then K Q0) a w :=
  wp_mono h fun e a w hq => by
    cases e with
    | normal => exact hq
    | exit id => exact False.elim hq
    | goto l => exact False.elim hq
    | ret => exact False.elim hq
    | panic ch => exact False.elim hq
    | outgrown => exact False.elim hq
end Go.Proofs.YtgkpnjnollfdaaaDoor.Pp
