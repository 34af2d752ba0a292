/- Put together of PpRead, LaidM, LaidS, OpenE, OpenR, OpenT, Nums, OpenI, N4, Oa, N5, N6, N5b, M2, M3, M4, N8a, PpSumK, PpMrgD, N9, PpGrpsO. -/
import Derived.Test.YtmgpacenooncjaaGreatDoorG1
import Derived.Test.YtmgpacenooncjaaGreatDoorShelf
import Derived.Lib.AppendIntMem
import Derived.Lib.AtoiErrMem
import Derived.Lib.LaidTab
import Derived.Deep.DeepHandedRow
import Derived.Stop.LaidErr
import Derived.Test.YtmgpacenooncjaaGreatDoorEx
import Derived.OpenShut
import Derived.ShutString
import Derived.ChangeOld
import Derived.Lib.SmallJoins
import Derived.Deep.SlicePairs
import Derived.Test.YtmgpacenooncjaaGreatDoorJbL
import Derived.Test.YtmgpacenooncjaaGreatDoorTxt
import Derived.Test.YtmgpacenooncjaaGreatDoorN4a
import Derived.Maps.AppendAt
import Derived.Test.YtmgpacenooncjaaGreatDoorOnl
import Derived.Test.YtmgpacenooncjaaGreatDoorBlk
import Derived.Deep.RegionLaw
import Derived.Test.YtmgpacenooncjaaGreatDoorM1
import Derived.Deep.Cut
import Derived.Deep.LoopGhost
import Derived.Test.YtmgpacenooncjaaGreatDoorPpBase
import Derived.Laws.BitsAllLaws
import Derived.Test.YtmgpacenooncjaaGreatDoorPpSort
import Derived.Test.YtmgpacenooncjaaGreatDoorPpGrps
/- Contracts of pair.number, pair.cutKey and pair.first: what a text begins with. -/
namespace Go.Proofs.YtmgpacenooncjaaGreatDoor.Pp
open Go.ChangeShapes Go.WideShapes Go.ChangeAt Go.RowKit
open Num

/-- What the library's own variables hold. -/
structure Env (w : World) : Prop where
  tab : Lib.TabIs Tryz.prog w "internal/strconv.uint64pow10" .u64 Lib.pow10Tab
  len : ∃ m, w.cell? ⟨0, 0, none⟩ = some (.int .i64 m)
  esyn : ∃ te pe, w.cell? ⟨5, 0, none⟩ = some (.iface te pe)
  erng : ∃ te pe, w.cell? ⟨6, 0, none⟩ = some (.iface te pe)
theorem cell_below {w w' : World} {a : Addr} {v : Value} (h : w.cell? a = some v) (hb : Below w.heap.size w w') : w'.cell? a = some v := by
  rw [hb.cell (World.block_lt_of_cell? w a h)]; exact h
theorem Env.below {w w' : World} (h : Env w) (hb : Below w.heap.size w w') : Env w' := by
  obtain ⟨m, hm⟩ := h.len
  obtain ⟨t1, p1, h1⟩ := h.esyn
  obtain ⟨t2, p2, h2⟩ := h.erng
  exact ⟨Lib.tabBelow_of_tabIs h.tab w' hb, ⟨m, cell_below hm hb⟩, ⟨t1, p1, cell_below h1 hb⟩, ⟨t2, p2, cell_below h2 hb⟩⟩
/-- As much of it as a text that is written needs. -/
structure EnvT (w : World) : Prop where
  tab : Lib.TabIs Tryz.prog w "internal/strconv.uint64pow10" .u64 Lib.pow10Tab
  len : ∃ m, w.cell? ⟨0, 0, none⟩ = some (.int .i64 m)
theorem Env.t {w : World} (h : Env w) : EnvT w := ⟨h.tab, h.len⟩
theorem EnvT.below {w w' : World} (h : EnvT w) (hb : Below w.heap.size w w') : EnvT w' := by
  obtain ⟨m, hm⟩ := h.len
  exact ⟨Lib.tabBelow_of_tabIs h.tab w' hb, ⟨m, cell_below hm hb⟩⟩
theorem IsPairs.below {w w' : World} {v : Value} {l : List (ByteArray × Int)} (h : IsPairs w v l) (hb : Below w.heap.size w w') : IsPairs w' v l := by
  obtain ⟨a, cap, rfl, hc⟩ := h
  refine ⟨a, cap, rfl, fun i hi => ?_⟩
  obtain ⟨b, off, rfl, c0, c1⟩ := hc i hi
  exact ⟨b, off, rfl, cell_below c0 hb, cell_below c1 hb⟩
theorem below_trans {w w1 w2 : World} (h1 : Below w.heap.size w w1) (h2 : Below w1.heap.size w1 w2) : Below w.heap.size w w2 := h1.trans (h2.mono h1.size)
theorem below_drewN (w : World) (n : Nat) : Below w.heap.size w (w.drewN n) := ⟨rfl, rfl, rfl, Nat.le_refl _, fun _ _ => rfl⟩

/-- A text's bytes. -/
def bs (l : List UInt8) : ByteArray := ⟨l.toArray⟩
theorem bs_size (l : List UInt8) : (bs l).size = l.length := by simp [bs, ByteArray.size]
theorem bs_data (l : List UInt8) : (bs l).data.toList = l := by simp [bs]
theorem bs_of (s : ByteArray) : bs s.data.toList = s := by apply ByteArray.ext; simp [bs]
theorem bs_toList (l : List UInt8) : (bs l).toList = l := by rw [ByteArray.toList_eq, bs_data]
theorem bs_take (l : List UInt8) (k : Nat) : (bs l).extract 0 k = bs (l.take k) := by rw [bytes_take, bs_data]; rfl
theorem bs_drop (l : List UInt8) (k : Nat) : (bs l).extract k (bs l).size = bs (l.drop k) := by rw [bytes_drop, bs_data]; rfl

theorem atoi_err (s : ByteArray) (w : World) (E : Env w) (hs : s.size ≤ 281474976710656) (h : ∀ v, Lib.atoiAll s.data.toList ≠ .ok v) :
    Calls Tryz.prog 120 #[.string s] w fun e w' => (∃ x p, e = .returned (.tuple #[.int .i64 x, .iface 174 p])) ∧ Below w.heap.size w w' := by
  obtain ⟨t1, p1, h1⟩ := E.esyn
  obtain ⟨t2, p2, h2⟩ := E.erng
  rcases hA : Lib.atoiAll s.data.toList with v | _ | _
  · exact absurd hA (h v)
  · refine (Any.strconv_Atoi_syntax Tryz.laysC172 s hs hA _ w h1 (.inr ⟨t1, p1, rfl⟩)).mono ?_
    rintro e w' ⟨N, rfl, _, _, hb⟩
    exact ⟨⟨_, _, rfl⟩, hb⟩
  · refine (Any.strconv_Atoi_range Tryz.laysC172 s hs hA _ w h2 (.inr ⟨t2, p2, rfl⟩)).mono ?_
    rintro e w' ⟨N, rfl, _, _, hb⟩
    exact ⟨⟨_, _, rfl⟩, hb⟩
theorem atoi_ok (s : ByteArray) (w : World) (hs : s.size ≤ 281474976710656) (v : Int) (h : Lib.atoiAll s.data.toList = .ok v) :
    Calls Tryz.prog 120 #[.string s] w fun e w' => e = .returned (.tuple #[.int .i64 v, .nilIface]) ∧ Below w.heap.size w w' := by
  refine (Any.strconv_Atoi_ok Tryz.laysC172 s (by omega) v h w).mono ?_
  rintro e w' ⟨rfl, hw⟩
  refine ⟨rfl, ?_⟩
  rcases hw with rfl | ⟨t, rfl⟩
  · exact Below.refl _ _
  · exact Lib.bytesWorld_below _ _ _
theorem itoa_anyT (n : Int) (w : World) (E : EnvT w) (h0 : -9223372036854775808 ≤ n) (h1 : n ≤ 9223372036854775807) :
    Calls Tryz.prog 88 #[.int .i64 n] w fun e w' => e = .returned (.string (bs (Lib.itoa n))) ∧ Below w.heap.size w w' := by
  refine (Any.strconv_Itoa Tryz.laysM171 n h0 h1 w E.tab).mono ?_
  rintro e w' ⟨rfl, k, os, rfl⟩
  exact ⟨rfl, Lib.below_grow _ w (Nat.le_refl _) k os⟩
theorem itoa_any (n : Int) (w : World) (E : Env w) (h0 : -9223372036854775808 ≤ n) (h1 : n ≤ 9223372036854775807) :
    Calls Tryz.prog 88 #[.int .i64 n] w fun e w' => e = .returned (.string (bs (Lib.itoa n))) ∧ Below w.heap.size w w' := itoa_anyT n w E.t h0 h1
theorem cut_any (s : ByteArray) (c : UInt8) (w : World) (E : Env w) (hs : s.size < 4294967281) :
    Calls Tryz.prog 102 #[.string s, .string ⟨#[c]⟩] w fun e w' => e = .returned (.tuple #[.string (bs (cutAt c s.data.toList).1), .string (bs (cutAt c s.data.toList).2.1), .bool (cutAt c s.data.toList).2.2]) ∧ Below w.heap.size w w' := by
  obtain ⟨m, hm⟩ := E.len
  refine (Any.strings_Cut Tryz.lays145 s ⟨#[c]⟩ m w hs hm).mono ?_
  rintro e w' ⟨rfl, n, rfl⟩
  rw [show Lib.cut s.data.toList (⟨#[c]⟩ : ByteArray).data.toList = cutAt c s.data.toList from cut_one c _]
  exact ⟨rfl, below_drewN _ _⟩

theorem num_err {l : List UInt8} (h : ∀ v, Lib.atoiAll l ≠ .ok v) : numB l = none := by
  unfold numB
  split
  · exact absurd (by assumption) (h _)
  · rfl
theorem num_ok {l : List UInt8} {v : Int} (h : Lib.atoiAll l = .ok v) : numB l = if Lib.itoa v = l then some v else none := by
  unfold numB; rw [h]

set_option maxRecDepth 100000 in
set_option maxHeartbeats 1000000 in
theorem number_pair (l : List UInt8) (w : World) (E : Env w) (hl : l.length ≤ 4000000000) :
    Calls Tryz.prog 103 #[.string (bs l)] w fun e w' => e = .returned (.tuple #[.int .i64 ((numB l).getD 0), .bool (numB l).isSome]) ∧ Below w.heap.size w w' := by
  have hsz := bs_size l
  by_cases h : ∃ v, Lib.atoiAll l = .ok v
  · obtain ⟨v, hv⟩ := h
    have hbd := atoi_bd hv
    have C1 : Hid (∀ w, Calls Tryz.prog 120 #[.string (bs l)] w fun e w' => e = .returned (.tuple #[.int .i64 v, .nilIface]) ∧ Below w.heap.size w w') := fun w => atoi_ok (bs l) w (by omega) v (by rw [bs_data]; exact hv)
    have C2 : Hid (∀ w, Env w → Calls Tryz.prog 88 #[.int .i64 v] w fun e w' => e = .returned (.string (bs (Lib.itoa v))) ∧ Below w.heap.size w w') := fun w E => itoa_any v w E hbd.1 hbd.2
    have hn := num_ok hv
    have hT := bs_toList (Lib.itoa v)
    have hT2 := bs_toList l
    clear hv hbd
    by_cases he : Lib.itoa v = l
    · rw [if_pos he] at hn
      have he' : ((bs (Lib.itoa v)).toList == (bs l).toList) = true := by rw [hT, hT2, he]; simp
      rw [hn]
      clear he hn hT hT2
      generalize bs (Lib.itoa v) = x at *
      go_enter Tryz.func103, Tryz.ntmps103
      go_wp2_with (first | (go_at_call 120; refine (C1.out _).mono ?_; rintro e w1 ⟨rfl, hb1⟩) | (go_at_call 88; refine (C2.out _ (E.below hb1)).mono ?_; rintro e w2 ⟨rfl, hb2⟩))
      go_ret2
      exact ⟨rfl, below_trans hb1 hb2⟩
    · rw [if_neg he] at hn
      have he' : ((bs (Lib.itoa v)).toList == (bs l).toList) = false := by rw [hT, hT2]; simpa using he
      rw [hn]
      clear he hn hT hT2
      generalize bs (Lib.itoa v) = x at *
      go_enter Tryz.func103, Tryz.ntmps103
      go_wp2_with (first | (go_at_call 120; refine (C1.out _).mono ?_; rintro e w1 ⟨rfl, hb1⟩) | (go_at_call 88; refine (C2.out _ (E.below hb1)).mono ?_; rintro e w2 ⟨rfl, hb2⟩))
      go_ret2
      exact ⟨rfl, below_trans hb1 hb2⟩
  · have h' : ∀ v, Lib.atoiAll l ≠ .ok v := fun v hv => h ⟨v, hv⟩
    have C1 : Hid (∀ w, Env w → Calls Tryz.prog 120 #[.string (bs l)] w fun e w' => (∃ x p, e = .returned (.tuple #[.int .i64 x, .iface 174 p])) ∧ Below w.heap.size w w') := fun w E => atoi_err (bs l) w E (by omega) (by rw [bs_data]; exact h')
    rw [num_err h']
    clear h h'
    go_enter Tryz.func103, Tryz.ntmps103
    go_wp2_with (go_at_call 120; refine (C1.out _ E).mono ?_; rintro e w1 ⟨⟨x, p, rfl⟩, hb1⟩)
    go_ret2
    exact ⟨rfl, hb1⟩
end Go.Proofs.YtmgpacenooncjaaGreatDoor.Pp
/- What the row of a law of mappers and folders lists (no error of the library's in it), and a world in which it is so. -/
namespace Go.Proofs.YtmgpacenooncjaaGreatDoor
open Go.ChangeShapes Go.WideShapes Go.ChangeAt Go.RowKit
namespace Laid
theorem pow_datum : (Rows.laid_internal_strconv_uint64pow10 : DataW Unit) = Lib.tabData .u64 Lib.pow10Tab := by kernel_rfl
theorem gPow : Tryz.prog.globalNamed "internal/strconv.uint64pow10" = some 4 := by kernel_rfl
theorem tPow : (Tryz.prog.globals[4]?).map (·.type) = some 178 := by kernel_rfl
theorem cPow : Tryz.prog.cellsOf 178 = 20 := by kernel_rfl
theorem cU64 : Tryz.prog.cellsOf 120 = 1 := by kernel_rfl
/-- A world with the listed variables laid as their initialisers lay them. -/
def laidM (w : World) : World :=
  put (put (put (laidX w) 7 (tabOf Rows.laid_math_bits_deBruijn32tab)) 8 (tabOf Rows.laid_math_bits_deBruijn64tab)) 4 (tabOf Rows.laid_internal_strconv_uint64pow10)
theorem envM_of {W : World} {x y z u : String × DataW Unit} (hL : laidMet Tryz.prog [x, y, ("internal/strconv.uint64pow10", Rows.laid_internal_strconv_uint64pow10), z, ("threshfloor/expr.shapes", Rows.laid_threshfloor_expr_shapes), u] W) (hs : W.ShapedOpen Tryz.prog) : EnvS W ∧ Pp.EnvT W := by
  have h3 := hL.tail.tail
  have h5 := h3.tail.tail
  rw [pow_datum] at h3
  refine ⟨envS_of hs h5, Lib.tabIs_of_head gPow tPow Tryz.underlying178 Tryz.underlying120 cU64 cPow h3, ?_⟩
  exact cell_of_shapedOpen_int (g := 0) (t := 3) (zero := #[.int .i64 0]) (k := .i64) hs (by decide +kernel) (by kernel_rfl) rfl (by kernel_rfl) (by kernel_rfl) Tryz.underlying3
end Laid
end Go.Proofs.YtmgpacenooncjaaGreatDoor
/- What the row of a law of stops lists, and a world in which it is so. -/
namespace Go.Proofs.YtmgpacenooncjaaGreatDoor
open Go.ChangeShapes Go.WideShapes Go.ChangeAt Go.RowKit
namespace Laid
def wordsOf : DataW Unit → ByteArray
  | .iface _ (.ptr (.agg [.lit (.string b)])) => ⟨b.toArray⟩
  | _ => ByteArray.empty
/-- The two errors' own blocks. -/
def errBlocks : Array Obj := #[.cells #[.string (wordsOf Rows.laid_strconv_ErrRange)] 191, .cells #[.string (wordsOf Rows.laid_strconv_ErrSyntax)] 191]
/-- A world with the listed variables laid as their initialisers lay them. -/
def laidS (low : Nat) (w : World) : World :=
  put (put (laidM w) 6 #[.iface 189 (.pointer (some ⟨low, 0, none⟩))]) 5 #[.iface 189 (.pointer (some ⟨low + 1, 0, none⟩))]
theorem gSyn : Tryz.prog.globalNamed "strconv.ErrSyntax" = some 5 := by kernel_rfl
theorem gRng : Tryz.prog.globalNamed "strconv.ErrRange" = some 6 := by kernel_rfl
theorem tSyn : (Tryz.prog.globals[5]?).map (·.type) = some 31 := by kernel_rfl
theorem tRng : (Tryz.prog.globals[6]?).map (·.type) = some 31 := by kernel_rfl
theorem cErr : Tryz.prog.cellsOf 191 = 1 := by kernel_rfl
theorem cStr : Tryz.prog.cellsOf 9 = 1 := by kernel_rfl
theorem star : "*" ++ "errors.errorString" = "*errors.errorString" := by decide
theorem onlyErr (u : TypeId) (h : Tryz.prog.typeName? 3 u = some "*errors.errorString") : u = 189 :=
  typeName_ptr_named (nm := "errors.errorString") (by rw [star]; kernel_rfl) (by kernel_rfl) (by decide) u (by rw [star]; exact h)
theorem envP_of {W : World} {x y z u : String × DataW Unit} (hL : laidMet Tryz.prog [x, y, ("internal/strconv.uint64pow10", Rows.laid_internal_strconv_uint64pow10), z, ("strconv.ErrRange", Rows.laid_strconv_ErrRange), ("strconv.ErrSyntax", Rows.laid_strconv_ErrSyntax), ("threshfloor/expr.shapes", Rows.laid_threshfloor_expr_shapes), u] W) (hs : W.ShapedOpen Tryz.prog) : EnvS W ∧ Pp.Env W := by
  have h3 := hL.tail.tail
  have h5 := h3.tail.tail
  rw [pow_datum] at h3
  refine ⟨envS_of hs h5.tail.tail, Lib.tabIs_of_head gPow tPow Tryz.underlying178 Tryz.underlying120 cU64 cPow h3, ?_, ?_, ?_⟩
  · exact cell_of_shapedOpen_int (g := 0) (t := 3) (zero := #[.int .i64 0]) (k := .i64) hs (by decide +kernel) (by kernel_rfl) rfl (by kernel_rfl) (by kernel_rfl) Tryz.underlying3
  · obtain ⟨a, s, hv, -, -, -⟩ := laid_sentinel h5.tail gSyn tSyn Tryz.underlying31 onlyErr Tryz.underlying189 Tryz.underlying191 rfl rfl Tryz.underlying9 cErr cStr
    exact ⟨_, _, by have h0 := World.var?_cell gSyn hv 0; simpa using h0⟩
  · obtain ⟨a, s, hv, -, -, -⟩ := laid_sentinel h5 gRng tRng Tryz.underlying31 onlyErr Tryz.underlying189 Tryz.underlying191 rfl rfl Tryz.underlying9 cErr cStr
    exact ⟨_, _, by have h0 := World.var?_cell gRng hv 0; simpa using h0⟩
end Laid
end Go.Proofs.YtmgpacenooncjaaGreatDoor
/- An expression, as it was handed in, opened: what it holds. -/
namespace Go.Proofs.YtmgpacenooncjaaGreatDoor
open Go.ChangeShapes Go.WideShapes Go.ChangeAt Go.RowKit Go.Deep
namespace OpenE
theorem one_le {H : Type} (d : DataW H) : 1 ≤ Rows.uptoBulk d := by
  cases d with
  | lit l => cases l <;> simp [Rows.uptoBulk]
  | nil => simp [Rows.uptoBulk]
  | ptr d => simp [Rows.uptoBulk]
  | slice elems spare => simp [Rows.uptoBulk]
  | agg parts => simp [Rows.uptoBulk]
  | iface t d => simp [Rows.uptoBulk]
  | map entries => simp [Rows.uptoBulk]
  | held h => simp [Rows.uptoBulk]
theorem all_append {H : Type} (l r : List (DataW H)) : Rows.uptoBulkAll (l ++ r) = Rows.uptoBulkAll l + Rows.uptoBulkAll r := by
  induction l with
  | nil => simp [Rows.uptoBulkAll]
  | cons x l ih => simp only [List.cons_append, Rows.uptoBulkAll, ih]; omega
theorem wtL_bulk {H : Type} : ∀ (l : List Ex) (E : List (DataW H)), l.length = E.length → (∀ (i : Nat) (x : Ex) (d : DataW H), l[i]? = some x → E[i]? = some d → x.wt ≤ Rows.uptoBulk d) → Ex.wt.wtL l ≤ Rows.uptoBulkAll E
  | [], [], _, _ => by simp [Ex.wt.wtL, Rows.uptoBulkAll]
  | x :: l, d :: E, hl, h => by
    have h0 := h 0 x d rfl rfl
    have h1 := wtL_bulk l E (by simpa using hl) (fun i y e hy he => h (i + 1) y e (by simpa using hy) (by simpa using he))
    simp only [Ex.wt.wtL, Rows.uptoBulkAll]
    omega
theorem cells4 : Tryz.prog.cellsOf 56 = 4 := by kernel_rfl
theorem cells1s : Tryz.prog.cellsOf 9 = 1 := by kernel_rfl
theorem cells1i : Tryz.prog.cellsOf 3 = 1 := by kernel_rfl
theorem cells1l : Tryz.prog.cellsOf 54 = 1 := by kernel_rfl
theorem none_add (b off j : Nat) : (⟨b, off, none⟩ : Addr).add j = ⟨b, off + j, none⟩ := by
  unfold Addr.add
  split
  · rename_i h; subst h; rfl
  · rfl
set_option maxRecDepth 100000 in
theorem kids {H : Type} {enc : TypeId × Value → H} {W : World} : ∀ (fuel : Nat) (sv : Value) (x : DataW H × List MemPlace), DataW.trod enc Tryz.prog W 0 (fun _ => true) true fuel 54 [sv] = some x →
    ∃ l : List Ex, Ex.wt.wtL l + 1 ≤ Rows.uptoBulk x.1 ∧ ∀ k n s, IsEx W sv (.mk k n s l) := by
  intro fuel
  induction fuel using Nat.strongRecOn with
  | ind fuel ih =>
    intro sv x h
    rcases DataW.trod_slice Tryz.underlying54 h with ⟨h0, rfl⟩ | ⟨a, len, cap, elems, rest, n, hfu, hcs, rfl, hb, hl, hm, hlen, hel, _, _⟩
    · simp only [List.cons.injEq, and_true] at h0
      subst h0
      exact ⟨[], by simp [Ex.wt.wtL, Rows.uptoBulk], fun k n s => IsEx.mk k n s none 0 [] 0 0 (fun _ => undef) (fun h => absurd h (by simp)) (fun i x hx => by simp at hx) (fun i x hx => by simp at hx)⟩
    · simp only [List.cons.injEq, and_true] at hcs
      subst hcs
      have each : ∀ i, i < len → ∃ q : Ex × Value, (W.cell? (a.add (i * 4)) = some (.int .i64 q.1.k) ∧ W.cell? (a.add (i * 4 + 1)) = some (.int .i64 q.1.n) ∧ W.cell? (a.add (i * 4 + 2)) = some (.string (bs q.1.s)) ∧ W.cell? (a.add (i * 4 + 3)) = some q.2) ∧ IsEx W q.2 q.1 ∧ ∀ d, elems[i]? = some d → q.1.wt ≤ Rows.uptoBulk d.1 := by
        intro i hi
        have key := hel i hi
        rw [List.getElem?_eq_getElem (by omega)] at key
        obtain ⟨cs', h1, h2⟩ := Option.bind_eq_some_iff.1 key
        rw [cells4] at h1
        obtain ⟨_, hcl, hcell⟩ := World.cells?_some h1
        obtain ⟨xs, n', hn', hxy, _, hxl, hf⟩ := DataW.trod_struct Tryz.underlying56 h2
        match xs, hxl, cs', hcl with
        | [y0, y1, y2, y3], _, [v0, v1, v2, v3], _ =>
          have g0 := hf 0 _ rfl
          have g1 := hf 1 _ rfl
          have g2 := hf 2 _ rfl
          have g3 := hf 3 _ rfl
          simp [cells1s, cells1i, cells1l] at g0 g1 g2 g3
          obtain ⟨k, e0, rfl, _⟩ := DataW.trod_int Tryz.underlying3 g0
          obtain ⟨m, e1, rfl, _⟩ := DataW.trod_int Tryz.underlying3 g1
          obtain ⟨s, e2, rfl, _⟩ := DataW.trod_string Tryz.underlying9 g2
          simp only [List.cons.injEq, and_true] at e0 e1 e2
          subst e0 e1 e2
          obtain ⟨l, hw, hI⟩ := ih n' (by omega) v3 y3 g3
          have c0 := hcell 0 (by omega)
          have c1 := hcell 1 (by omega)
          have c2 := hcell 2 (by omega)
          have c3 := hcell 3 (by omega)
          rw [add_add] at c0 c1 c2 c3
          refine ⟨(.mk k m s.data.toList l, v3), ⟨by simpa [Ex.k] using c0, by simpa [Ex.n] using c1, by simpa [Ex.s, bs_of] using c2, by simpa using c3⟩, hI _ _ _, ?_⟩
          intro d hd
          rw [List.getElem?_eq_getElem (by omega), Option.some.injEq] at hd
          rw [← hd]
          rw [hxy]
          simp only [List.map_cons, List.map_nil, Rows.uptoBulk, Rows.uptoBulkAll, Ex.wt]
          omega
      haveI : Inhabited (Ex × Value) := ⟨(.mk 0 0 [] [], undef)⟩
      obtain ⟨q, hq⟩ := choose_lt each
      refine ⟨(List.range len).map fun i => (q i).1, ?_, fun k n s => ?_⟩
      · have := wtL_bulk ((List.range len).map fun i => (q i).1) (elems.map (·.1)) (by simp [hlen]) (fun i x d hx hd => by
          simp only [List.getElem?_map] at hx hd
          cases he : elems[i]? with
          | none => rw [he] at hd; simp at hd
          | some d0 =>
            rw [he] at hd
            have hi : i < len := by rw [← hlen]; exact (List.getElem?_eq_some_iff.1 he).1
            rw [List.getElem?_range hi] at hx
            simp at hx hd
            subst hx hd
            exact (hq i hi).2.2 d0 he)
        simp only [Rows.uptoBulk]
        omega
      · have hspot : 0 < len → a.spot = none := fun hpos => by
          have h1 := World.cell?_spot (hq 0 hpos).1.1
          simpa [Addr.add] using h1
        obtain ⟨b, off, spot⟩ := a
        have e := IsEx.mk (w := W) k n s (some ⟨b, off, spot⟩) cap ((List.range len).map fun i => (q i).1) b off (fun i => (q i).2)
          (fun hpos => by have hs := hspot (by simpa using hpos); simp only at hs; rw [hs])
          (fun i x hx => by
            have hi : i < len := by have := (List.getElem?_eq_some_iff.1 hx).1; simpa using this
            rw [List.getElem?_map, List.getElem?_range hi] at hx
            simp at hx
            subst hx
            obtain ⟨c0, c1, c2, c3⟩ := (hq i hi).1
            have hs := hspot (by omega)
            simp only at hs
            subst hs
            rw [none_add] at c0 c1 c2 c3
            exact ⟨c0, c1, c2, c3⟩)
          (fun i x hx => by
            have hi : i < len := by have := (List.getElem?_eq_some_iff.1 hx).1; simpa using this
            rw [List.getElem?_map, List.getElem?_range hi] at hx
            simp at hx
            subst hx
            exact (hq i hi).2.1)
        rw [List.length_map, List.length_range] at e
        exact e
set_option maxRecDepth 100000 in
theorem expr {H : Type} {enc : TypeId × Value → H} {W : World} {base : Nat} {d : DataW H} {p : List MemPlace} {v : Value} (hv : Value.okWide Tryz.prog W .any base 56 v) (h : DataW.Trod enc Tryz.prog W 0 (fun _ => true) true 56 v d p) :
    ∃ (e : Ex) (sv : Value), v = e.val sv ∧ IsEx W sv e ∧ e.wt ≤ Rows.uptoBulk d := by
  obtain ⟨v0, v1, v2, v3, y0, y1, y2, y3, n, rfl, rfl, _, g0, g1, g2, g3⟩ := Joins.open_agg4 Tryz.underlying56 (by kernel_rfl) cells4 hv h
  obtain ⟨k, e0, rfl, _⟩ := DataW.trod_int Tryz.underlying3 g0
  obtain ⟨m, e1, rfl, _⟩ := DataW.trod_int Tryz.underlying3 g1
  obtain ⟨s, e2, rfl, _⟩ := DataW.trod_string Tryz.underlying9 g2
  simp only [List.cons.injEq, and_true] at e0 e1 e2
  subst e0 e1 e2
  obtain ⟨l, hw, hI⟩ := kids n v3 y3 g3
  refine ⟨.mk k m s.data.toList l, v3, by simp [Ex.val, Ex.k, Ex.n, Ex.s, bs_of], hI _ _ _, ?_⟩
  simp only [Rows.uptoBulk, Rows.uptoBulkAll, Ex.wt]
  omega
end OpenE
end Go.Proofs.YtmgpacenooncjaaGreatDoor
/- A job, as it was handed in, opened: what it holds, and how much room its list has. Written by tpl/mk_openr.py out of OpenJ. -/
namespace Go.Proofs.YtmgpacenooncjaaGreatDoor
open Go.ChangeShapes Go.WideShapes Go.ChangeAt Go.RowKit Go.Deep
namespace OpenR
open OpenE
def fitE : Ex → Prop
  | .mk _ n _ a => (-9223372036854775808 ≤ n ∧ n ≤ 9223372036854775807) ∧ fitL a
  where fitL : List Ex → Prop
  | [] => True
  | e :: r => fitE e ∧ fitL r
def fitR (r : Rl) : Prop := fitE r.iff ∧ fitE r.key ∧ fitE r.val
theorem cells15 : Tryz.prog.cellsOf 58 = 15 := by kernel_rfl
theorem cellsJ : Tryz.prog.cellsOf 24 = 4 := by kernel_rfl
theorem cells1b : Tryz.prog.cellsOf 4 = 1 := by kernel_rfl
theorem cells1r : Tryz.prog.cellsOf 22 = 1 := by kernel_rfl
theorem fitL_of {l : List Ex} (h : ∀ (i : Nat) x, l[i]? = some x → (fitE x)) : fitE.fitL l := by
  induction l with
  | nil => trivial
  | cons y l ih => exact ⟨h 0 y rfl, ih fun i x hx => h (i + 1) x (by simpa using hx)⟩
set_option maxRecDepth 100000 in
theorem kidsF {H : Type} {enc : TypeId × Value → H} {W : World} : ∀ (fuel : Nat) (sv : Value) (x : DataW H × List MemPlace), DataW.trod enc Tryz.prog W 0 (fun _ => true) true fuel 54 [sv] = some x →
    ∃ l : List Ex, Ex.wt.wtL l + 1 ≤ Rows.uptoBulk x.1 ∧ (∀ k n s, IsEx W sv (.mk k n s l)) ∧ fitE.fitL l := by
  intro fuel
  induction fuel using Nat.strongRecOn with
  | ind fuel ih =>
    intro sv x h
    rcases DataW.trod_slice Tryz.underlying54 h with ⟨h0, rfl⟩ | ⟨a, len, cap, elems, rest, n, hfu, hcs, rfl, hb, hl, hm, hlen, hel, _, _⟩
    · simp only [List.cons.injEq, and_true] at h0
      subst h0
      exact ⟨[], by simp [Ex.wt.wtL, Rows.uptoBulk], fun k n s => IsEx.mk k n s none 0 [] 0 0 (fun _ => undef) (fun h => absurd h (by simp)) (fun i x hx => by simp at hx) (fun i x hx => by simp at hx), trivial⟩
    · simp only [List.cons.injEq, and_true] at hcs
      subst hcs
      have each : ∀ i, i < len → ∃ q : Ex × Value, (W.cell? (a.add (i * 4)) = some (.int .i64 q.1.k) ∧ W.cell? (a.add (i * 4 + 1)) = some (.int .i64 q.1.n) ∧ W.cell? (a.add (i * 4 + 2)) = some (.string (bs q.1.s)) ∧ W.cell? (a.add (i * 4 + 3)) = some q.2) ∧ IsEx W q.2 q.1 ∧ (∀ d, elems[i]? = some d → q.1.wt ≤ Rows.uptoBulk d.1) ∧ fitE q.1 := by
        intro i hi
        have key := hel i hi
        rw [List.getElem?_eq_getElem (by omega)] at key
        obtain ⟨cs', h1, h2⟩ := Option.bind_eq_some_iff.1 key
        rw [cells4] at h1
        obtain ⟨_, hcl, hcell⟩ := World.cells?_some h1
        obtain ⟨xs, n', hn', hxy, _, hxl, hf⟩ := DataW.trod_struct Tryz.underlying56 h2
        match xs, hxl, cs', hcl with
        | [y0, y1, y2, y3], _, [v0, v1, v2, v3], _ =>
          have g0 := hf 0 _ rfl
          have g1 := hf 1 _ rfl
          have g2 := hf 2 _ rfl
          have g3 := hf 3 _ rfl
          simp [cells1s, cells1i, cells1l] at g0 g1 g2 g3
          obtain ⟨k, e0, rfl, _⟩ := DataW.trod_int Tryz.underlying3 g0
          obtain ⟨m, e1, rfl, hwm⟩ := DataW.trod_int Tryz.underlying3 g1
          obtain ⟨s, e2, rfl, _⟩ := DataW.trod_string Tryz.underlying9 g2
          simp only [List.cons.injEq, and_true] at e0 e1 e2
          subst e0 e1 e2
          obtain ⟨l, hw, hI, hF⟩ := ih n' (by omega) v3 y3 g3
          have bd := bounds_i64 hwm
          have c0 := hcell 0 (by omega)
          have c1 := hcell 1 (by omega)
          have c2 := hcell 2 (by omega)
          have c3 := hcell 3 (by omega)
          rw [add_add] at c0 c1 c2 c3
          refine ⟨(.mk k m s.data.toList l, v3), ⟨by simpa [Ex.k] using c0, by simpa [Ex.n] using c1, by simpa [Ex.s, bs_of] using c2, by simpa using c3⟩, hI _ _ _, ?_, by simp only [fitE]; exact ⟨⟨bd.1, bd.2⟩, hF⟩⟩
          intro d hd
          rw [List.getElem?_eq_getElem (by omega), Option.some.injEq] at hd
          rw [← hd]
          rw [hxy]
          simp only [List.map_cons, List.map_nil, Rows.uptoBulk, Rows.uptoBulkAll, Ex.wt]
          omega
      haveI : Inhabited (Ex × Value) := ⟨(.mk 0 0 [] [], undef)⟩
      obtain ⟨q, hq⟩ := choose_lt each
      refine ⟨(List.range len).map fun i => (q i).1, ?_, fun k n s => ?_, fitL_of fun i x hx => ?_⟩
      · have := wtL_bulk ((List.range len).map fun i => (q i).1) (elems.map (·.1)) (by simp [hlen]) (fun i x d hx hd => by
          simp only [List.getElem?_map] at hx hd
          cases he : elems[i]? with
          | none => rw [he] at hd; simp at hd
          | some d0 =>
            rw [he] at hd
            have hi : i < len := by rw [← hlen]; exact (List.getElem?_eq_some_iff.1 he).1
            rw [List.getElem?_range hi] at hx
            simp at hx hd
            subst hx hd
            exact (hq i hi).2.2.1 d0 he)
        simp only [Rows.uptoBulk]
        omega
      · have hspot : 0 < len → a.spot = none := fun hpos => by
          have h1 := World.cell?_spot (hq 0 hpos).1.1
          simpa [Addr.add] using h1
        obtain ⟨b, off, spot⟩ := a
        have e := IsEx.mk (w := W) k n s (some ⟨b, off, spot⟩) cap ((List.range len).map fun i => (q i).1) b off (fun i => (q i).2)
          (fun hpos => by have hs := hspot (by simpa using hpos); simp only at hs; rw [hs])
          (fun i x hx => by
            have hi : i < len := by have := (List.getElem?_eq_some_iff.1 hx).1; simpa using this
            rw [List.getElem?_map, List.getElem?_range hi] at hx
            simp at hx
            subst hx
            obtain ⟨c0, c1, c2, c3⟩ := (hq i hi).1
            have hs := hspot (by omega)
            simp only at hs
            subst hs
            rw [none_add] at c0 c1 c2 c3
            exact ⟨c0, c1, c2, c3⟩)
          (fun i x hx => by
            have hi : i < len := by have := (List.getElem?_eq_some_iff.1 hx).1; simpa using this
            rw [List.getElem?_map, List.getElem?_range hi] at hx
            simp at hx
            subst hx
            exact (hq i hi).2.1)
        rw [List.length_map, List.length_range] at e
        exact e
      · have hi : i < len := by have := (List.getElem?_eq_some_iff.1 hx).1; simpa using this
        rw [List.getElem?_map, List.getElem?_range hi] at hx
        simp at hx
        subst hx
        exact (hq i hi).2.2.2
/-- An expression's four cells. -/
theorem expr4 {H : Type} {enc : TypeId × Value → H} {W : World} {fuel : Nat} {v0 v1 v2 v3 : Value} {x : DataW H × List MemPlace} (h : DataW.trod enc Tryz.prog W 0 (fun _ => true) true fuel 56 [v0, v1, v2, v3] = some x) :
    ∃ e : Ex, v0 = .int .i64 e.k ∧ v1 = .int .i64 e.n ∧ v2 = .string (bs e.s) ∧ IsEx W v3 e ∧ e.wt ≤ Rows.uptoBulk x.1 ∧ (fitE e) := by
  obtain ⟨xs, n', hn', hxy, _, hxl, hf⟩ := DataW.trod_struct Tryz.underlying56 h
  match xs, hxl with
  | [y0, y1, y2, y3], _ =>
    have g0 := hf 0 _ rfl
    have g1 := hf 1 _ rfl
    have g2 := hf 2 _ rfl
    have g3 := hf 3 _ rfl
    simp [cells1s, cells1i, cells1l] at g0 g1 g2 g3
    obtain ⟨k, e0, rfl, _⟩ := DataW.trod_int Tryz.underlying3 g0
    obtain ⟨m, e1, rfl, hwm⟩ := DataW.trod_int Tryz.underlying3 g1
    obtain ⟨s, e2, rfl, _⟩ := DataW.trod_string Tryz.underlying9 g2
    simp only [List.cons.injEq, and_true] at e0 e1 e2
    subst e0 e1 e2
    obtain ⟨l, hw, hI, hF⟩ := kidsF n' v3 y3 g3
    have bd := bounds_i64 hwm
    refine ⟨.mk k m s.data.toList l, rfl, rfl, by simp [Ex.s, bs_of], hI _ _ _, ?_, by simp only [fitE]; exact ⟨⟨bd.1, bd.2⟩, hF⟩⟩
    rw [hxy]
    simp only [List.map_cons, List.map_nil, Rows.uptoBulk, Rows.uptoBulkAll, Ex.wt]
    omega
theorem rulesWt_bulk {H : Type} : ∀ (l : List Rl) (E : List (DataW H)), l.length = E.length → (∀ (i : Nat) (x : Rl) (d : DataW H), l[i]? = some x → E[i]? = some d → x.wt ≤ Rows.uptoBulk d) → rulesWt l ≤ Rows.uptoBulkAll E
  | [], [], _, _ => by simp [rulesWt, Rows.uptoBulkAll]
  | x :: l, d :: E, hl, h => by
    have h0 := h 0 x d rfl rfl
    have h1 := rulesWt_bulk l E (by simpa using hl) (fun i y e hy he => h (i + 1) y e (by simpa using hy) (by simpa using he))
    unfold rulesWt at h1 ⊢
    simp only [List.map_cons, List.sum_cons, Rows.uptoBulkAll]
    omega
set_option maxRecDepth 100000 in
theorem rules {H : Type} {enc : TypeId × Value → H} {W : World} (fuel : Nat) (sv : Value) (x : DataW H × List MemPlace) (h : DataW.trod enc Tryz.prog W 0 (fun _ => true) true fuel 22 [sv] = some x) :
    ∃ l : List Rl, rulesWt l ≤ Rows.uptoBulk x.1 ∧ IsRules W sv l ∧ ∀ (i : Nat) r, l[i]? = some r → (fitR r) := by
  rcases DataW.trod_slice Tryz.underlying22 h with ⟨h0, rfl⟩ | ⟨a, len, cap, elems, rest, n, hfu, hcs, rfl, hb, hl, hm, hlen, hel, _, _⟩
  · simp only [List.cons.injEq, and_true] at h0
    subst h0
    exact ⟨[], by simp [rulesWt], ⟨none, 0, 0, 0, fun _ => undef, fun _ => undef, fun _ => undef, rfl, fun h => absurd h (by simp), fun i x hx => by simp at hx⟩, fun i r hx => by simp at hx⟩
  · simp only [List.cons.injEq, and_true] at hcs
    subst hcs
    have each : ∀ i, i < len → ∃ q : Rl × Value × Value × Value, (W.cell? (a.add (i * 15)) = some (.bool q.1.each) ∧ W.cell? (a.add (i * 15 + 1)) = some (.int .i64 q.1.when) ∧ W.cell? (a.add (i * 15 + 2)) = some (.int .i64 q.1.iff.k) ∧ W.cell? (a.add (i * 15 + 3)) = some (.int .i64 q.1.iff.n) ∧ W.cell? (a.add (i * 15 + 4)) = some (.string (bs q.1.iff.s)) ∧ W.cell? (a.add (i * 15 + 5)) = some q.2.1 ∧ W.cell? (a.add (i * 15 + 6)) = some (.string (bs q.1.s)) ∧ W.cell? (a.add (i * 15 + 7)) = some (.int .i64 q.1.key.k) ∧ W.cell? (a.add (i * 15 + 8)) = some (.int .i64 q.1.key.n) ∧ W.cell? (a.add (i * 15 + 9)) = some (.string (bs q.1.key.s)) ∧ W.cell? (a.add (i * 15 + 10)) = some q.2.2.1 ∧ W.cell? (a.add (i * 15 + 11)) = some (.int .i64 q.1.val.k) ∧ W.cell? (a.add (i * 15 + 12)) = some (.int .i64 q.1.val.n) ∧ W.cell? (a.add (i * 15 + 13)) = some (.string (bs q.1.val.s)) ∧ W.cell? (a.add (i * 15 + 14)) = some q.2.2.2) ∧ (IsEx W q.2.1 q.1.iff ∧ IsEx W q.2.2.1 q.1.key ∧ IsEx W q.2.2.2 q.1.val) ∧ (∀ d, elems[i]? = some d → q.1.wt ≤ Rows.uptoBulk d.1) ∧ fitR q.1 := by
      intro i hi
      have key := hel i hi
      rw [List.getElem?_eq_getElem (by omega)] at key
      obtain ⟨cs', h1, h2⟩ := Option.bind_eq_some_iff.1 key
      rw [cells15] at h1
      obtain ⟨_, hcl, hcell⟩ := World.cells?_some h1
      obtain ⟨xs, n', hn', hxy, _, hxl, hf⟩ := DataW.trod_struct Tryz.underlying58 h2
      match xs, hxl, cs', hcl with
      | [y0, y1, y2, y3, y4, y5], _, [v0, v1, v2, v3, v4, v5, v6, v7, v8, v9, v10, v11, v12, v13, v14], _ =>
        have g0 := hf 0 _ rfl
        have g1 := hf 1 _ rfl
        have g2 := hf 2 _ rfl
        have g3 := hf 3 _ rfl
        have g4 := hf 4 _ rfl
        have g5 := hf 5 _ rfl
        simp [cells1s, cells1i, cells1b, cells4] at g0 g1 g2 g3 g4 g5
        obtain ⟨b0, e0, rfl⟩ := DataW.trod_bool Tryz.underlying4 g0
        obtain ⟨m1, e1, rfl, _⟩ := DataW.trod_int Tryz.underlying3 g1
        obtain ⟨s3, e3, rfl, _⟩ := DataW.trod_string Tryz.underlying9 g3
        simp only [List.cons.injEq, and_true] at e0 e1 e3
        subst e0 e1 e3
        obtain ⟨ei, rfl, rfl, rfl, xi, wi, fi⟩ := expr4 g2
        obtain ⟨ek, rfl, rfl, rfl, xk, wk, fk⟩ := expr4 g4
        obtain ⟨ev, rfl, rfl, rfl, xv, wv, fv⟩ := expr4 g5
        have c0 := hcell 0 (by omega)
        have c1 := hcell 1 (by omega)
        have c2 := hcell 2 (by omega)
        have c3 := hcell 3 (by omega)
        have c4 := hcell 4 (by omega)
        have c5 := hcell 5 (by omega)
        have c6 := hcell 6 (by omega)
        have c7 := hcell 7 (by omega)
        have c8 := hcell 8 (by omega)
        have c9 := hcell 9 (by omega)
        have c10 := hcell 10 (by omega)
        have c11 := hcell 11 (by omega)
        have c12 := hcell 12 (by omega)
        have c13 := hcell 13 (by omega)
        have c14 := hcell 14 (by omega)
        rw [add_add] at c0 c1 c2 c3 c4 c5 c6 c7 c8 c9 c10 c11 c12 c13 c14
        refine ⟨(⟨b0, m1, ei, s3.data.toList, ek, ev⟩, v5, v10, v14), ⟨by simpa using c0, by simpa using c1, by simpa using c2, by simpa using c3, by simpa using c4, by simpa using c5, by simpa [bs_of] using c6, by simpa using c7, by simpa using c8, by simpa using c9, by simpa using c10, by simpa using c11, by simpa using c12, by simpa using c13, by simpa using c14⟩, ⟨xi, xk, xv⟩, ?_, ⟨fi, fk, fv⟩⟩
        intro d hd
        rw [List.getElem?_eq_getElem (by omega), Option.some.injEq] at hd
        rw [← hd]
        rw [hxy]
        simp only [List.map_cons, List.map_nil, Rows.uptoBulk, Rows.uptoBulkAll, Rl.wt]
        omega
    haveI : Inhabited (Rl × Value × Value × Value) := ⟨(⟨false, 0, .mk 0 0 [] [], [], .mk 0 0 [] [], .mk 0 0 [] []⟩, undef, undef, undef)⟩
    obtain ⟨q, hq⟩ := choose_lt each
    refine ⟨(List.range len).map fun i => (q i).1, ?_, ?_, fun i r hx => ?_⟩
    · have := rulesWt_bulk ((List.range len).map fun i => (q i).1) (elems.map (·.1)) (by simp [hlen]) (fun i x d hx hd => by
        simp only [List.getElem?_map] at hx hd
        cases he : elems[i]? with
        | none => rw [he] at hd; simp at hd
        | some d0 =>
          rw [he] at hd
          have hi : i < len := by rw [← hlen]; exact (List.getElem?_eq_some_iff.1 he).1
          rw [List.getElem?_range hi] at hx
          simp at hx hd
          subst hx hd
          exact (hq i hi).2.2.1 d0 he)
      simp only [Rows.uptoBulk]
      omega
    · have hspot : 0 < len → a.spot = none := fun hpos => by
        have h1 := World.cell?_spot (hq 0 hpos).1.1
        simpa [Addr.add] using h1
      obtain ⟨b, off, spot⟩ := a
      refine ⟨some ⟨b, off, spot⟩, cap, b, off, fun i => (q i).2.1, fun i => (q i).2.2.1, fun i => (q i).2.2.2, by simp, fun hpos => ?_, fun i x hx => ?_⟩
      · have hs := hspot (by simpa using hpos)
        simp only at hs
        rw [hs]
      · have hi : i < len := by have := (List.getElem?_eq_some_iff.1 hx).1; simpa using this
        rw [List.getElem?_map, List.getElem?_range hi] at hx
        simp at hx
        subst hx
        have hs := hspot (by omega)
        simp only at hs
        subst hs
        have hc := (hq i hi).1
        simp only [none_add, Nat.add_assoc] at hc ⊢
        exact ⟨hc, (hq i hi).2.1⟩
    · have hi : i < len := by have := (List.getElem?_eq_some_iff.1 hx).1; simpa using this
      rw [List.getElem?_map, List.getElem?_range hi] at hx
      simp at hx
      subst hx
      exact (hq i hi).2.2.2
set_option maxRecDepth 100000 in
theorem job {H : Type} {enc : TypeId × Value → H} {W : World} {base : Nat} {d : DataW H} {p : List MemPlace} {v : Value} (hv : Value.okWide Tryz.prog W .any base 24 v) (h : DataW.Trod enc Tryz.prog W 0 (fun _ => true) true 24 v d p) :
    ∃ (j : Jb) (rv : Value), v = j.value rv ∧ IsRules W rv j.rules ∧ rulesWt j.rules ≤ Rows.uptoBulk d ∧ ∀ (i : Nat) r, j.rules[i]? = some r → (fitR r) := by
  obtain ⟨v0, v1, v2, v3, y0, y1, y2, y3, n, rfl, rfl, _, g0, g1, g2, g3⟩ := Joins.open_agg4 Tryz.underlying24 (by kernel_rfl) cellsJ hv h
  obtain ⟨fo, e1, rfl, _⟩ := DataW.trod_int Tryz.underlying3 g1
  obtain ⟨ea, e2, rfl⟩ := DataW.trod_bool Tryz.underlying4 g2
  obtain ⟨sl, e3, rfl, _⟩ := DataW.trod_int Tryz.underlying3 g3
  simp only [List.cons.injEq, and_true] at e1 e2 e3
  subst e1 e2 e3
  obtain ⟨l, hw, hI, hF⟩ := rules n v0 y0 g0
  refine ⟨⟨l, fo, ea, sl⟩, v0, rfl, hI, ?_, hF⟩
  simp only [Rows.uptoBulk, Rows.uptoBulkAll]
  omega
set_option maxRecDepth 100000 in
theorem cell_cap {W : World} {base : Nat} {u : TypeId} {a : Option Addr} {m c : Nat} (h : Cell.okWide Tryz.prog W .any base u (.slice a m c)) : m ≤ c := by
  have h1 : Cell.ok Tryz.prog W .any base u (.slice a m c) := by
    unfold Cell.okWide at h
    split at h <;> first | contradiction | exact h
  unfold Cell.ok at h1
  split at h1 <;> simp_all
set_option maxRecDepth 100000 in
theorem jobC {H : Type} {enc : TypeId × Value → H} {W : World} {base : Nat} {d : DataW H} {p : List MemPlace} {v : Value} (hv : Value.okWide Tryz.prog W .any base 24 v) (h : DataW.Trod enc Tryz.prog W 0 (fun _ => true) true 24 v d p) :
    ∃ (j : Jb) (a : Option Addr) (cap : Nat), v = j.value (.slice a j.rules.length cap) ∧ j.rules.length ≤ cap ∧ IsRules W (.slice a j.rules.length cap) j.rules ∧ rulesWt j.rules ≤ Rows.uptoBulk d := by
  obtain ⟨j, rv, rfl, hI, hw, _⟩ := job hv h
  obtain ⟨a, cap, rfl⟩ := hI.slice
  refine ⟨j, a, cap, rfl, ?_, hI, hw⟩
  unfold Value.okWide at hv
  rw [Tryz.underlying24] at hv
  obtain ⟨cs, e, _, ts, _, _, hc⟩ := hv
  unfold Jb.value at e
  injection e with e
  subst e
  obtain ⟨u, _, hu⟩ := hc 0 _ rfl
  exact cell_cap hu
set_option maxRecDepth 100000 in
theorem rule {H : Type} {enc : TypeId × Value → H} {W : World} {base : Nat} {d : DataW H} {p : List MemPlace} {v : Value} (hv : Value.okWide Tryz.prog W .any base 58 v) (h : DataW.Trod enc Tryz.prog W 0 (fun _ => true) true 58 v d p) :
    ∃ (r : Rl) (ai ak av : Option Addr) (ci ck cv : Nat), v = r.value (.slice ai r.iff.a.length ci) (.slice ak r.key.a.length ck) (.slice av r.val.a.length cv) ∧ IsEx W (.slice ai r.iff.a.length ci) r.iff ∧ IsEx W (.slice ak r.key.a.length ck) r.key ∧ IsEx W (.slice av r.val.a.length cv) r.val ∧ r.wt ≤ Rows.uptoBulk d := by
  unfold Value.okWide at hv
  rw [Tryz.underlying58] at hv
  obtain ⟨cs, rfl, hsz, -⟩ := hv
  rw [cells15] at hsz
  obtain ⟨fuel, h⟩ := h
  obtain ⟨l, hl⟩ : ∃ l, l = cs.toList := ⟨_, rfl⟩
  have hlen : l.length = 15 := by rw [hl]; simpa using hsz
  obtain rfl : cs = l.toArray := by rw [hl]
  have h2 : DataW.trod enc Tryz.prog W 0 (fun _ => true) true fuel 58 l = some (d, p) := by simpa [Value.cells] using h
  clear h hl hsz
  obtain ⟨xs, n', hn', hxy, _, hxl, hf⟩ := DataW.trod_struct Tryz.underlying58 h2
  match xs, hxl, l, hlen with
  | [y0, y1, y2, y3, y4, y5], _, [v0, v1, v2, v3, v4, v5, v6, v7, v8, v9, v10, v11, v12, v13, v14], _ =>
    have g0 := hf 0 _ rfl
    have g1 := hf 1 _ rfl
    have g2 := hf 2 _ rfl
    have g3 := hf 3 _ rfl
    have g4 := hf 4 _ rfl
    have g5 := hf 5 _ rfl
    simp [cells1s, cells1i, cells1b, cells4] at g0 g1 g2 g3 g4 g5
    obtain ⟨b0, e0, rfl⟩ := DataW.trod_bool Tryz.underlying4 g0
    obtain ⟨m1, e1, rfl, _⟩ := DataW.trod_int Tryz.underlying3 g1
    obtain ⟨s3, e3, rfl, _⟩ := DataW.trod_string Tryz.underlying9 g3
    simp only [List.cons.injEq, and_true] at e0 e1 e3
    subst e0 e1 e3
    obtain ⟨ei, rfl, rfl, rfl, xi, wi, _⟩ := expr4 g2
    obtain ⟨ek, rfl, rfl, rfl, xk, wk, _⟩ := expr4 g4
    obtain ⟨ev, rfl, rfl, rfl, xv, wv, _⟩ := expr4 g5
    obtain ⟨ai, ci, rfl⟩ := xi.slice
    obtain ⟨ak, ck, rfl⟩ := xk.slice
    obtain ⟨av, cv, rfl⟩ := xv.slice
    refine ⟨⟨b0, m1, ei, s3.data.toList, ek, ev⟩, ai, ak, av, ci, ck, cv, by simp [Rl.value, bs_of], xi, xk, xv, ?_⟩
    have hd : d = _ := congrArg Prod.fst hxy
    simp only at hd
    rw [hd]
    simp only [List.map_cons, List.map_nil, Rows.uptoBulk, Rows.uptoBulkAll, Rl.wt]
    omega
end OpenR
end Go.Proofs.YtmgpacenooncjaaGreatDoor
/- A list of texts, as it was handed in, opened: what it holds. -/
namespace Go.Proofs.YtmgpacenooncjaaGreatDoor
open Go.ChangeShapes Go.WideShapes Go.ChangeAt Go.RowKit Go.Deep
namespace OpenT
open OpenE
theorem many_le {H : Type} (l : List (DataW H)) : l.length ≤ Rows.uptoBulkAll l := by
  induction l with
  | nil => simp
  | cons d l ih => have := one_le d; simp only [List.length_cons, Rows.uptoBulkAll]; omega
theorem cells1t : Tryz.prog.cellsOf 25 = 1 := by kernel_rfl
set_option maxRecDepth 100000 in
theorem texts {H : Type} {enc : TypeId × Value → H} {W : World} {fuel : Nat} {sv : Value} {x : DataW H × List MemPlace} (h : DataW.trod enc Tryz.prog W 0 (fun _ => true) true fuel 25 [sv] = some x) :
    ∃ l : List (List UInt8), l.length ≤ Rows.uptoBulk x.1 ∧ IsTexts W sv (l.map bs) := by
  rcases DataW.trod_slice Tryz.underlying25 h with ⟨h0, rfl⟩ | ⟨a, len, cap, elems, rest, n, hfu, hcs, rfl, hb, hl, hm, hlen, hel, _, _⟩
  · simp only [List.cons.injEq, and_true] at h0
    subst h0
    exact ⟨[], by simp, ⟨none, 0, rfl, fun i hi => absurd hi (by simp)⟩⟩
  · simp only [List.cons.injEq, and_true] at hcs
    subst hcs
    have each : ∀ i, i < len → ∃ s : ByteArray, W.cell? (a.add (i * 1)) = some (.string s) := by
      intro i hi
      have key := hel i hi
      rw [List.getElem?_eq_getElem (by omega)] at key
      obtain ⟨cs', h1, h2⟩ := Option.bind_eq_some_iff.1 key
      rw [cells1s] at h1
      obtain ⟨_, hcl, hcell⟩ := World.cells?_some h1
      obtain ⟨s, e0, _, _⟩ := DataW.trod_string Tryz.underlying9 h2
      subst e0
      have c0 := hcell 0 (by omega)
      refine ⟨s, ?_⟩
      simpa [Addr.add] using c0
    haveI : Inhabited ByteArray := ⟨ByteArray.empty⟩
    obtain ⟨q, hq⟩ := choose_lt each
    have hspot : 0 < len → a.spot = none := fun hpos => by
      have h1 := World.cell?_spot (hq 0 hpos)
      simpa [Addr.add] using h1
    obtain ⟨b, off, spot⟩ := a
    refine ⟨(List.range len).map fun i => (q i).data.toList, ?_, ⟨some ⟨b, off, spot⟩, cap, by simp, fun i hi => ?_⟩⟩
    · have h1 := many_le (elems.map (·.1))
      simp only [List.length_map, hlen, List.length_range, Rows.uptoBulk] at h1 ⊢
      omega
    · have hi' : i < len := by simpa using hi
      have hs := hspot (by omega)
      simp only at hs
      subst hs
      have c0 := hq i hi'
      rw [none_add] at c0
      exact ⟨b, off, rfl, by simpa [bs_of] using c0⟩
set_option maxRecDepth 100000 in
theorem lines {H : Type} {enc : TypeId × Value → H} {W : World} {base : Nat} {d : DataW H} {p : List MemPlace} {v : Value} (hv : Value.okWide Tryz.prog W .any base 25 v) (h : DataW.Trod enc Tryz.prog W 0 (fun _ => true) true 25 v d p) :
    ∃ l : List (List UInt8), IsTexts W v (l.map bs) ∧ l.length ≤ Rows.uptoBulk d := by
  obtain ⟨a0, len0, cap0, rfl⟩ := okWide_slice Tryz.underlying25 hv
  obtain ⟨fuel, hf⟩ := h
  obtain ⟨l, h1, h2⟩ := texts (x := (d, p)) (by simpa [Value.cells] using hf)
  exact ⟨l, h2, h1⟩
set_option maxRecDepth 100000 in
theorem cap_le {W : World} {base : Nat} {a : Option Addr} {m c : Nat} (h : Value.okWide Tryz.prog W .any base 25 (.slice a m c)) : m ≤ c := by
  unfold Value.okWide at h
  rw [Tryz.underlying25] at h
  have h1 : Cell.ok Tryz.prog W .any base 25 (.slice a m c) := by
    simp only [Cell.okWide] at h
    split at h <;> first | contradiction | exact h
  unfold Cell.ok at h1
  split at h1 <;> simp_all
set_option maxRecDepth 100000 in
theorem linesC {H : Type} {enc : TypeId × Value → H} {W : World} {base : Nat} {d : DataW H} {p : List MemPlace} {v : Value} (hv : Value.okWide Tryz.prog W .any base 25 v) (h : DataW.Trod enc Tryz.prog W 0 (fun _ => true) true 25 v d p) :
    ∃ (l : List (List UInt8)) (a : Option Addr) (c : Nat), v = .slice a l.length c ∧ l.length ≤ c ∧ IsTexts W (.slice a l.length c) (l.map bs) ∧ l.length ≤ Rows.uptoBulk d := by
  obtain ⟨a0, len0, cap0, rfl⟩ := okWide_slice Tryz.underlying25 hv
  have hc := cap_le hv
  obtain ⟨fuel, hf⟩ := h
  obtain ⟨l, h1, h2⟩ := texts (x := (d, p)) (by simpa [Value.cells] using hf)
  obtain ⟨a1, c1, e, -⟩ := id h2
  injection e with e1 e2 e3
  rw [List.length_map] at e2
  subst e2
  exact ⟨l, a0, cap0, rfl, hc, h2, h1⟩
end OpenT
end Go.Proofs.YtmgpacenooncjaaGreatDoor
/- A list of numbers that came in. -/
namespace Go.Proofs.YtmgpacenooncjaaGreatDoor
open Go.ChangeShapes Go.WideShapes Go.ChangeAt Go.RowKit
def IsNums (w : World) (v : Value) (l : List Int) : Prop :=
  ∃ a cap, v = .slice a l.length cap ∧ ∀ i (h : i < l.length), ∃ b off, a = some ⟨b, off, none⟩ ∧ w.cell? ⟨b, off + i, none⟩ = some (.int .i64 l[i])
theorem IsNums.below {w w' : World} {v : Value} {l : List Int} (h : IsNums w v l) (hb : Below w.heap.size w w') : IsNums w' v l := by
  obtain ⟨a, c, e, hc⟩ := h
  refine ⟨a, c, e, fun i hi => ?_⟩
  obtain ⟨b, off, ea, c0⟩ := hc i hi
  exact ⟨b, off, ea, cell_below c0 hb⟩
end Go.Proofs.YtmgpacenooncjaaGreatDoor
/- A list of numbers, as it was handed in, opened: what it holds. -/
namespace Go.Proofs.YtmgpacenooncjaaGreatDoor
open Go.ChangeShapes Go.WideShapes Go.ChangeAt Go.RowKit Go.Deep
namespace OpenI
open OpenE OpenT
theorem cells1n : Tryz.prog.cellsOf 3 = 1 := by kernel_rfl
set_option maxRecDepth 100000 in
theorem nums1 {H : Type} {enc : TypeId × Value → H} {W : World} {fuel : Nat} {sv : Value} {x : DataW H × List MemPlace} (h : DataW.trod enc Tryz.prog W 0 (fun _ => true) true fuel 26 [sv] = some x) :
    ∃ l : List Int, l.length ≤ Rows.uptoBulk x.1 ∧ IsNums W sv l ∧ ∀ n ∈ l, -9223372036854775808 ≤ n ∧ n ≤ 9223372036854775807 := by
  rcases DataW.trod_slice Tryz.underlying26 h with ⟨h0, rfl⟩ | ⟨a, len, cap, elems, rest, n, hfu, hcs, rfl, hb, hl, hm, hlen, hel, _, _⟩
  · simp only [List.cons.injEq, and_true] at h0
    subst h0
    exact ⟨[], by simp, ⟨none, 0, rfl, fun i hi => absurd hi (by simp)⟩, fun n hn => by cases hn⟩
  · simp only [List.cons.injEq, and_true] at hcs
    subst hcs
    have each : ∀ i, i < len → ∃ s : Int, W.cell? (a.add (i * 1)) = some (.int .i64 s) ∧ -9223372036854775808 ≤ s ∧ s ≤ 9223372036854775807 := by
      intro i hi
      have key := hel i hi
      rw [List.getElem?_eq_getElem (by omega)] at key
      obtain ⟨cs', h1, h2⟩ := Option.bind_eq_some_iff.1 key
      rw [cells1n] at h1
      obtain ⟨_, hcl, hcell⟩ := World.cells?_some h1
      obtain ⟨s, e0, _, hk⟩ := DataW.trod_int Tryz.underlying3 h2
      subst e0
      have bd := bounds_i64 hk
      have c0 := hcell 0 (by omega)
      refine ⟨s, ?_, bd.1, bd.2⟩
      simpa [Addr.add] using c0
    haveI : Inhabited Int := ⟨0⟩
    obtain ⟨q, hq⟩ := choose_lt each
    have hspot : 0 < len → a.spot = none := fun hpos => by
      have h1 := World.cell?_spot (hq 0 hpos).1
      simpa [Addr.add] using h1
    obtain ⟨b, off, spot⟩ := a
    refine ⟨(List.range len).map q, ?_, ⟨some ⟨b, off, spot⟩, cap, by simp, fun i hi => ?_⟩, fun n hn => ?_⟩
    · have h1 := many_le (elems.map (·.1))
      simp only [List.length_map, hlen, List.length_range, Rows.uptoBulk] at h1 ⊢
      omega
    · have hi' : i < len := by simpa using hi
      have hs := hspot (by omega)
      simp only at hs
      subst hs
      have c0 := (hq i hi').1
      rw [none_add] at c0
      exact ⟨b, off, rfl, by simpa using c0⟩
    · rw [List.mem_map] at hn
      obtain ⟨i, hi, rfl⟩ := hn
      exact (hq i (by simpa using hi)).2
set_option maxRecDepth 100000 in
theorem nums {H : Type} {enc : TypeId × Value → H} {W : World} {base : Nat} {d : DataW H} {p : List MemPlace} {v : Value} (hv : Value.okWide Tryz.prog W .any base 26 v) (h : DataW.Trod enc Tryz.prog W 0 (fun _ => true) true 26 v d p) :
    ∃ (l : List Int) (a : Option Addr) (c : Nat), v = .slice a l.length c ∧ IsNums W (.slice a l.length c) l ∧ l.length ≤ Rows.uptoBulk d ∧ ∀ n ∈ l, -9223372036854775808 ≤ n ∧ n ≤ 9223372036854775807 := by
  obtain ⟨a0, len0, cap0, rfl⟩ := okWide_slice Tryz.underlying26 hv
  obtain ⟨fuel, hf⟩ := h
  obtain ⟨l, h1, h2, h3⟩ := nums1 (x := (d, p)) (by simpa [Value.cells] using hf)
  obtain ⟨a1, c1, e, -⟩ := id h2
  injection e with e1 e2 e3
  subst e2
  exact ⟨l, a0, cap0, rfl, h2, h1, h3⟩
end OpenI
end Go.Proofs.YtmgpacenooncjaaGreatDoor
/- Mapper: the walk of copyJob. Written by tpl/mk_n4.py. -/
namespace Go.Proofs.YtmgpacenooncjaaGreatDoor
open Go.ChangeShapes Go.WideShapes Go.ChangeAt Go.RowKit
/-- What copyJob hands back. -/
def CopyJ (w : World) (j : Jb) (r : Ending) (w' : World) : Prop :=
  ∃ va vc, r = .returned (j.value (.slice va j.rules.length vc)) ∧ (∀ w2, Keeps w.heap.size w'.heap.size w' w2 → IsRules w2 (.slice va j.rules.length vc) j.rules) ∧ Below w.heap.size w w'
theorem wp_nrm {c : Code} {Q : Exit → Act → World → Prop} {a : Act} {w : World} (h : c.wp Tryz.prog (Exit.then (fun a w => Q .normal a w) fun _ _ _ => False) a w) : c.wp Tryz.prog Q a w :=
  wp_mono h fun e a w hq => by
    cases e with
    | normal => exact hq
    | exit id => exact False.elim hq
    | goto l => exact False.elim hq
    | ret => exact False.elim hq
    | panic ch => exact False.elim hq
    | outgrown => exact False.elim hq
theorem keeps_put {lo hi b j : Nat} {w : World} {u : Value} (hb : b < lo) : Keeps lo hi w (w.setCell ⟨b, j, none⟩ u) := fun k hk _ => Below.heap_setCell w ⟨b, j, none⟩ u k (fun e => by simp at e; omega)
set_option maxRecDepth 100000 in
set_option maxHeartbeats 8000000 in
theorem copyJob_any (jj : Jb) (rv : Value) (w1 : World) (h : IsRules w1 rv jj.rules) (hw : rulesWt jj.rules ≤ 1000000) : Calls Tryz.prog 41 #[jj.value rv] w1 (CopyJ w1 jj) := by
  obtain ⟨l, fo, ea, sl⟩ := jj
  obtain ⟨a, cap, b, off, SI, SK, SV, rfl, ha, hc⟩ := h
  simp only at ha hc hw
  have hll : l.length ≤ 1000000 := Nat.le_trans (rules_len l) hw
  have IH : Hid (∀ (i : Nat) (x : Rl), l[i]? = some x → ∀ w', Below w1.heap.size w1 w' → Calls Tryz.prog 74 #[x.iff.val (SI i)] w' (CopySaid w' x.iff) ∧ Calls Tryz.prog 74 #[x.key.val (SK i)] w' (CopySaid w' x.key) ∧ Calls Tryz.prog 74 #[x.val.val (SV i)] w' (CopySaid w' x.val)) := fun i x hx w' hb' => by
    obtain ⟨_, xi, xk, xv⟩ := hc i x hx
    have hx2 := rule_wt hx
    unfold Rl.wt at hx2
    exact ⟨copyExpr_any xi (by omega) w' hb', copyExpr_any xk (by omega) w' hb', copyExpr_any xv (by omega) w' hb'⟩
  have HCL : Hid (∀ w', Below w1.heap.size w1 w' → Calls Tryz.prog 73 #[.slice a l.length cap] w' fun e w'' => ∃ v, e = .returned v ∧ w''.ownsRow w'.heap.size 58 15 v l.length (cellsU l SI SK SV) ∧ Below w'.heap.size w' w'') := fun w' hb' => cloneR_any a l.length cap (cellsU l SI SK SV) w' (cellsU_len l SI SK SV) (fun e => by
      rcases Nat.eq_zero_or_pos l.length with h0 | h0
      · exact h0
      · rw [ha h0] at e; cases e) (fun ad e j u hu => by
      have hlt := (List.getElem?_eq_some_iff.1 hu).1
      rw [cellsU_len] at hlt
      have e2 := ha (by omega)
      rw [e2, Option.some.injEq] at e
      subst e
      obtain ⟨x, hx⟩ : ∃ x, l[j / 15]? = some x := ⟨l[j / 15]'(by omega), by simp⟩
      obtain ⟨⟨c0, c1, c2, c3, c4, c5, c6, c7, c8, c9, c10, c11, c12, c13, c14⟩, -⟩ := hc _ x hx
      have hp := cellsU_part SI SK SV l _ x hx (j % 15) (by omega)
      have hadd : (⟨b, off, none⟩ : Addr).add j = ⟨b, off + (j / 15 * 15 + j % 15), none⟩ := by
        rw [show j / 15 * 15 + j % 15 = j by omega]
        unfold Addr.add; split <;> simp_all
      rw [hadd]
      rw [show j / 15 * 15 + j % 15 = j by omega] at hp
      rw [hp] at hu
      have hr : j % 15 < 15 := by omega
      generalize j / 15 = q at *
      generalize j % 15 = r at *
      rw [← Nat.add_assoc]
      have all : ∀ r u, r < 15 → (cells1 x (SI q) (SK q) (SV q))[r]? = some u → w1.cell? ⟨b, off + q * 15 + r, none⟩ = some u := by
        intro r u hr hu
        have hr2 : r = 0 ∨ r = 1 ∨ r = 2 ∨ r = 3 ∨ r = 4 ∨ r = 5 ∨ r = 6 ∨ r = 7 ∨ r = 8 ∨ r = 9 ∨ r = 10 ∨ r = 11 ∨ r = 12 ∨ r = 13 ∨ r = 14 := by omega
        rcases hr2 with rfl | rfl | rfl | rfl | rfl | rfl | rfl | rfl | rfl | rfl | rfl | rfl | rfl | rfl | rfl <;> simp only [cells1, List.getElem?_cons_zero, List.getElem?_cons_succ, Option.some.injEq] at hu <;> subst hu <;> assumption
      exact cell_below (all r u hr hu) hb') (cellsU_one l SI SK SV (fun i x hx => by
        obtain ⟨_, xi, xk, xv⟩ := hc i x hx
        obtain ⟨_, _, e1⟩ := xi.slice
        obtain ⟨_, _, e2⟩ := xk.slice
        obtain ⟨_, _, e3⟩ := xv.slice
        rw [e1, e2, e3]
        exact ⟨rfl, rfl, rfl⟩)) hll
  clear ha hc hw
  obtain ⟨P, hP⟩ : ∃ P, P = w1.heap.size := ⟨_, rfl⟩
  obtain ⟨m, hm⟩ : ∃ m, m = l.length := ⟨_, rfl⟩
  rw [← hm] at HCL hll
  obtain ⟨w2, hw2⟩ : ∃ w2, w2 = (w1.alloc (.cells #[.slice a m cap, .int .i64 fo, .bool ea, .int .i64 sl] 24)).alloc (.cells #[.slice none 0 0, .int .i64 0, .bool false, .int .i64 0] 24) := ⟨_, rfl⟩
  have hb12 : Below w1.heap.size w1 w2 := by rw [hw2]; exact below_trans (below_box _) (below_box _)
  have BX : Hid (Blk w2 P 24 [.slice a m cap, .int .i64 fo, .bool ea, .int .i64 sl]) := by
    show Blk _ _ _ _
    rw [hw2]
    exact (blk_new hP).blw (below_box _)
  have RS : Hid (Blk w2 (P + 1) 24 [.slice none 0 0, .int .i64 0, .bool false, .int .i64 0]) := by
    show Blk _ _ _ _
    rw [hw2]
    exact blk_new (by rw [hP]; simp)
  have hsz2 : w2.heap.size = P + 2 := by rw [hw2, hP]; simp
  have q3 := BX.out.at (i := 0) (v := .slice a m cap) rfl
  have HW2 := Lib.hid hw2
  have HPP := Lib.hid hP
  have HB12 := Lib.hid hb12
  have HSZ := Lib.hid hsz2
  have HMM := Lib.hid hm
  simp only [Jb.value]
  rw [← hm]
  clear hw2 hP hb12 hsz2 hm
  go_enter Tryz.func41, Tryz.ntmps41
  go_upto_region 1 with fail
  rw [← HW2.out, ← HPP.out]
  clear HW2
  go_wp2_with (go_at_call 73; refine Hid.out ?_)
  refine Lib.hid ?_
  refine (HCL.out w2 HB12.out).mono ?_
  rintro _ w3 ⟨v, rfl, hrow, hb23⟩
  have BX3 := BX.out.blw hb23
  have RS3 := Lib.hid (RS.out.blw hb23)
  have q3 := BX3.at (i := 0) (v := .slice a m cap) rfl
  have f3 := BX3.frozen 0
  have hs23 : P + 2 ≤ w3.heap.size := by rw [← HSZ.out]; exact hb23.size
  obtain ⟨va, vc, ev⟩ : ∃ va vc, v = .slice va m vc := by
    rcases row_slice hrow with ⟨h1, h2⟩ | ⟨g, c, h1, _⟩
    · exact ⟨_, _, by rw [h1, h2]⟩
    · exact ⟨_, _, h1⟩
  subst ev
  obtain ⟨w4, hw4⟩ : ∃ w4, w4 = w3.setCell ⟨P, 0, none⟩ (.slice va m vc) := ⟨_, rfl⟩
  have C4 : Hid (CJ w1 w4 w4 P l fo ea sl (.slice va m vc) SI SK SV SI SK SV 0) := by
    rw [hw4]
    refine ⟨BX3.set 0 _, RS3.out.other 0 _ (by omega), ?_, fun j _ => ⟨rfl, rfl, rfl⟩, fun j x hj _ => absurd hj (by omega), by simpa using hs23, fun g hg => by have := (hrow.lt g hg).2; simpa using this, Nat.le_refl _, ?_⟩
    · have h := row_stay (i := 0) (u := .slice va m vc) (ow_low hrow (Nat.le_of_eq HSZ.out.symm)) (show P < P + 2 by omega)
      rw [HMM.out] at h ⊢
      exact h
    · exact (below_trans HB12.out hb23).setCell (p := ⟨P, 0, none⟩) (by rw [HPP.out]; exact Nat.le_refl _) _
  have HW4 := Lib.hid hw4
  clear hw4 BX BX3 RS RS3 hrow hb23 hs23 HCL HB12 HSZ
  go_upto_region 2 with fail
  rw [← HW4.out]
  clear HW4 q3 f3
  have p3 := C4.out.box.at (i := 0) (v := .slice va m vc) rfl
  go_wp2
  clear p3
  have hmm : m ≤ 1000000 := hll
  go_loopg [12] m (fun gg iv wr => ∃ (i : Nat) (TI TK TV : Nat → Value), gg = m - i ∧ i ≤ m ∧ iv = .int .i64 i ∧ Hid (CJ w1 w4 wr P l fo ea sl (.slice va m vc) SI SK SV TI TK TV i))
  case atStart => exact ⟨0, SI, SK, SV, rfl, Nat.zero_le _, rfl, C4⟩
  case round =>
    clear C4
    obtain ⟨i, TI, TK, TV, hgi, hi, rfl, HC⟩ := hrel
    have HGI := Lib.hid hgi
    clear hgi
    by_cases hlt : i < m
    · have HLT := Lib.hid hlt
      obtain ⟨x, hx⟩ : ∃ x, l[i]? = some x := ⟨l[i]'(by have := HMM.out; omega), by simp⟩
      obtain ⟨g, rfl⟩ : ∃ g, va = some ⟨g, 0, none⟩ := by
        rcases row_slice HC.out.row with ⟨h1, h2⟩ | ⟨g, c, h1, _⟩
        · have := HMM.out; omega
        · injection h1 with h1; exact ⟨g, h1⟩
      have hrow : wr.ownsRow (P + 2) 58 15 (.slice (some ⟨g, 0, none⟩) l.length vc) l.length (cellsU l TI TK TV) := by
        have h := HC.out.row
        rw [HMM.out] at h
        exact h
      have CELLS : Hid (∀ w', Below wr.heap.size wr w' → w'.cell? ⟨g, i * 15 + 2, none⟩ = some (.int .i64 x.iff.k) ∧ w'.cell? ⟨g, i * 15 + 3, none⟩ = some (.int .i64 x.iff.n) ∧ w'.cell? ⟨g, i * 15 + 4, none⟩ = some (.string (bs x.iff.s)) ∧ w'.cell? ⟨g, i * 15 + 5, none⟩ = some (SI i) ∧ w'.cell? ⟨g, i * 15 + 7, none⟩ = some (.int .i64 x.key.k) ∧ w'.cell? ⟨g, i * 15 + 8, none⟩ = some (.int .i64 x.key.n) ∧ w'.cell? ⟨g, i * 15 + 9, none⟩ = some (.string (bs x.key.s)) ∧ w'.cell? ⟨g, i * 15 + 10, none⟩ = some (SK i) ∧ w'.cell? ⟨g, i * 15 + 11, none⟩ = some (.int .i64 x.val.k) ∧ w'.cell? ⟨g, i * 15 + 12, none⟩ = some (.int .i64 x.val.n) ∧ w'.cell? ⟨g, i * 15 + 13, none⟩ = some (.string (bs x.val.s)) ∧ w'.cell? ⟨g, i * 15 + 14, none⟩ = some (SV i) ∧ w'.frozen? ⟨g, i * 15 + 2, none⟩ = false ∧ w'.frozen? ⟨g, i * 15 + 3, none⟩ = false ∧ w'.frozen? ⟨g, i * 15 + 4, none⟩ = false ∧ w'.frozen? ⟨g, i * 15 + 5, none⟩ = false ∧ w'.frozen? ⟨g, i * 15 + 7, none⟩ = false ∧ w'.frozen? ⟨g, i * 15 + 8, none⟩ = false ∧ w'.frozen? ⟨g, i * 15 + 9, none⟩ = false ∧ w'.frozen? ⟨g, i * 15 + 10, none⟩ = false ∧ w'.frozen? ⟨g, i * 15 + 11, none⟩ = false ∧ w'.frozen? ⟨g, i * 15 + 12, none⟩ = false ∧ w'.frozen? ⟨g, i * 15 + 13, none⟩ = false ∧ w'.frozen? ⟨g, i * 15 + 14, none⟩ = false) := fun w' hb' => by
        have r := ow_below hrow hb'
        obtain ⟨e0, e1, e2, e3, e4, e5, e6, e7, e8, e9, e10, e11, e12, e13, e14⟩ := cellsU_at TI TK TV l i x hx
        obtain ⟨o1, o2, o3⟩ := HC.out.old i (Nat.le_refl _)
        rw [o1] at e5
        rw [o2] at e10
        rw [o3] at e14
        have hil := (List.getElem?_eq_some_iff.1 hx).1
        exact ⟨(r.cellAt _ (by omega)).trans e2, (r.cellAt _ (by omega)).trans e3, (r.cellAt _ (by omega)).trans e4, (r.cellAt _ (by omega)).trans e5, (r.cellAt _ (by omega)).trans e7, (r.cellAt _ (by omega)).trans e8, (r.cellAt _ (by omega)).trans e9, (r.cellAt _ (by omega)).trans e10, (r.cellAt _ (by omega)).trans e11, (r.cellAt _ (by omega)).trans e12, (r.cellAt _ (by omega)).trans e13, (r.cellAt _ (by omega)).trans e14, r.frozenAt _, r.frozenAt _, r.frozenAt _, r.frozenAt _, r.frozenAt _, r.frozenAt _, r.frozenAt _, r.frozenAt _, r.frozenAt _, r.frozenAt _, r.frozenAt _, r.frozenAt _⟩
      have p3 := HC.out.box.at (i := 0) (v := .slice (some ⟨g, 0, none⟩) m vc) rfl
      have DI : Hid (∀ w', Below wr.heap.size wr w' → Calls Tryz.prog 74 #[x.iff.val (SI i)] w' (CopySaid w' x.iff)) := fun w' hb' => (IH.out i x hx w' (below_trans HC.out.bel hb')).1
      have DK : Hid (∀ w', Below wr.heap.size wr w' → Calls Tryz.prog 74 #[x.key.val (SK i)] w' (CopySaid w' x.key)) := fun w' hb' => (IH.out i x hx w' (below_trans HC.out.bel hb')).2.1
      have DV : Hid (∀ w', Below wr.heap.size wr w' → Calls Tryz.prog 74 #[x.val.val (SV i)] w' (CopySaid w' x.val)) := fun w' hb' => (IH.out i x hx w' (below_trans HC.out.bel hb')).2.2
      unfold CopySaid Ex.val at DI DK DV
      have HP2 : Hid (w1.heap.size ≤ P) := by show _ ≤ _; rw [HPP.out]; exact Nat.le_refl _
      have HSZ4 := Lib.hid HC.out.size
      have PUT : Hid (∀ (wa wb wc wd : World) (vi vk vv : Value), Below wr.heap.size wr wa → Below wa.heap.size wa wb → Below wb.heap.size wb wc → Below wc.heap.size wc wd → IsExW wa.heap.size wb.heap.size wb vi x.iff → IsExW wb.heap.size wc.heap.size wc vk x.key → IsExW wc.heap.size wd.heap.size wd vv x.val → CJ w1 w4 ((((((((((((wd.setCell ⟨g, i * 15 + 2, none⟩ (.int .i64 x.iff.k)).setCell ⟨g, i * 15 + 3, none⟩ (.int .i64 x.iff.n)).setCell ⟨g, i * 15 + 4, none⟩ (.string (bs x.iff.s))).setCell ⟨g, i * 15 + 5, none⟩ (vi)).setCell ⟨g, i * 15 + 7, none⟩ (.int .i64 x.key.k)).setCell ⟨g, i * 15 + 8, none⟩ (.int .i64 x.key.n)).setCell ⟨g, i * 15 + 9, none⟩ (.string (bs x.key.s))).setCell ⟨g, i * 15 + 10, none⟩ (vk)).setCell ⟨g, i * 15 + 11, none⟩ (.int .i64 x.val.k)).setCell ⟨g, i * 15 + 12, none⟩ (.int .i64 x.val.n)).setCell ⟨g, i * 15 + 13, none⟩ (.string (bs x.val.s))).setCell ⟨g, i * 15 + 14, none⟩ (vv)) P l fo ea sl (.slice (some ⟨g, 0, none⟩) m vc) SI SK SV (fun j => if j = i then vi else TI j) (fun j => if j = i then vk else TK j) (fun j => if j = i then vv else TV j) (i + 1)) := fun wa wb wc wd vi vk vv h1 h2 h3 h4 x1 x2 x3 => by
        have h := HC.out.below (below_trans h1 (below_trans h2 (below_trans h3 h4)))
        have s1 := Nat.le_trans HSZ4.out h1.size
        have s2 := Nat.le_trans s1 h2.size
        have s3 := Nat.le_trans s2 h3.size
        rw [HMM.out] at h ⊢
        exact h.put hx HP2.out (((x1.carry (Keeps.of_below (below_trans h3 h4) (Nat.le_refl _))).wide s1 (below_trans h3 h4).size)) ((x2.carry (Keeps.of_below h4 (Nat.le_refl _))).wide s2 h4.size) (x3.wide s3 (Nat.le_refl _))
      generalize x.iff.k = ik at *
      generalize x.iff.n = im at *
      generalize bs x.iff.s = ib at *
      generalize x.key.k = kk at *
      generalize x.key.n = km at *
      generalize bs x.key.s = kb at *
      generalize x.val.k = vk at *
      generalize x.val.n = vm at *
      generalize bs x.val.s = vb at *
      generalize SI i = si at CELLS DI
      generalize SK i = sk at CELLS DK
      generalize SV i = sv at CELLS DV
      generalize x.iff.a.length = il at DI
      generalize x.key.a.length = kl at DK
      generalize x.val.a.length = vl at DV
      have HCG : Hid (gk = m - i) := HGI.out
      clear hrow hx
      go_upto_region 6 with fail
      clear p3
      refine wp_nrm (r6_any g (i * 15) il kl vl ik im kk km vk vm ib kb vb si sk sv x.iff x.key x.val wr _ _ _ _ _ _ _ _ _ _ _ _ _ _ _ _ _ _ _ _ _ _ _ _ _ _ _ _ _ _ _ _ _ _ _ _ _ _ _ _ _ _ _ _ _ CELLS.out DI DK DV ?_)
      refine Lib.hid ?_
      intro z19 z20 z21 z22 z23 z24 z25 z26 z27 z28 z29 z30 z31 z32 z33 z34 z35 z36 z37 z38 z39 z40 z41 z42 wa wb wc wd ia2 ka2 va2 ic2 kc2 vc2 h1 h2 h3 h4 x1 x2 x3
      have P5 := Lib.hid (PUT.out wa wb wc wd _ _ _ h1 h2 h3 h4 x1 x2 x3)
      obtain ⟨w6, hw6⟩ : ∃ w6, w6 = ((((((((((((wd.setCell ⟨g, i * 15 + 2, none⟩ (.int .i64 ik)).setCell ⟨g, i * 15 + 3, none⟩ (.int .i64 im)).setCell ⟨g, i * 15 + 4, none⟩ (.string ib)).setCell ⟨g, i * 15 + 5, none⟩ (.slice ia2 il ic2)).setCell ⟨g, i * 15 + 7, none⟩ (.int .i64 kk)).setCell ⟨g, i * 15 + 8, none⟩ (.int .i64 km)).setCell ⟨g, i * 15 + 9, none⟩ (.string kb)).setCell ⟨g, i * 15 + 10, none⟩ (.slice ka2 kl kc2)).setCell ⟨g, i * 15 + 11, none⟩ (.int .i64 vk)).setCell ⟨g, i * 15 + 12, none⟩ (.int .i64 vm)).setCell ⟨g, i * 15 + 13, none⟩ (.string vb)).setCell ⟨g, i * 15 + 14, none⟩ (.slice va2 vl vc2)) := ⟨_, rfl⟩
      rw [← hw6] at P5 ⊢
      clear hw6 h1 h2 h3 h4 x1 x2 x3 PUT CELLS DI DK DV HC
      simp only [Exit.inBlock, Exit.then]
      go_wp2
      go_roundg (m - (i + 1))
      case measure => have := HGI.out; have := HLT.out; omega
      case rel => exact ⟨i + 1, _, _, _, rfl, HLT.out, by have := HLT.out; go_num, P5⟩
    · have him : i = l.length := by have := HMM.out; omega
      have HDN : Hid (∀ w', Keeps (P + 2) wr.heap.size wr w' → IsRules w' (.slice va m vc) l) := by
        have h := HC.out
        rw [him, HMM.out] at h
        have h2 := h.done
        rw [← HMM.out] at h2
        exact h2
      have b0 := HC.out.box.at (i := 0) (v := .slice va m vc) rfl
      have b1 := HC.out.box.at (i := 1) (v := .int .i64 fo) rfl
      have b2 := HC.out.box.at (i := 2) (v := .bool ea) rfl
      have b3 := HC.out.box.at (i := 3) (v := .int .i64 sl) rfl
      have r0 := HC.out.res.at (i := 0) (v := .slice none 0 0) rfl
      have r1 := HC.out.res.at (i := 1) (v := .int .i64 0) rfl
      have r2 := HC.out.res.at (i := 2) (v := .bool false) rfl
      have r3 := HC.out.res.at (i := 3) (v := .int .i64 0) rfl
      have f0 := HC.out.res.frozen 0
      have f1 := HC.out.res.frozen 1
      have f2 := HC.out.res.frozen 2
      have f3 := HC.out.res.frozen 3
      clear him
      go_wp2
      (try simp only [Exit.inBlock, Exit.then])
      have g4 := (((HC.out.res.set 0 (.slice va m vc)).set 1 (.int .i64 fo)).set 2 (.bool ea)).set 3 (.int .i64 sl)
      have hp1 := (((HC.out.bel.setCell (p := ⟨P + 1, 0, none⟩) (by rw [HPP.out]; simp) (.slice va m vc)).setCell (p := ⟨P + 1, 1, none⟩) (by rw [HPP.out]; simp) (.int .i64 fo)).setCell (p := ⟨P + 1, 2, none⟩) (by rw [HPP.out]; simp) (.bool ea)).setCell (p := ⟨P + 1, 3, none⟩) (by rw [HPP.out]; simp) (.int .i64 sl)
      refine bodyPost_ret (results_cell_row rfl _ _ (P + 1) 24 #[.slice va m vc, .int .i64 fo, .bool ea, .int .i64 sl] (0, 0) _ rfl g4 Tryz.underlying24 rfl (by kernel_rfl)) rfl ?_
      refine ⟨va, vc, by rw [HMM.out]; rfl, fun w2 hk => ?_, hp1⟩
      rw [← HMM.out]
      refine HDN.out w2 (Keeps.trans (Keeps.trans (Keeps.trans (Keeps.trans (keeps_put (b := P + 1) (j := 0) (u := .slice va m vc) (by omega)) (keeps_put (b := P + 1) (j := 1) (u := .int .i64 fo) (by omega))) (keeps_put (b := P + 1) (j := 2) (u := .bool ea) (by omega))) (keeps_put (b := P + 1) (j := 3) (u := .int .i64 sl) (by omega))) (hk.sub (by rw [HPP.out]; omega) (by simp)))
end Go.Proofs.YtmgpacenooncjaaGreatDoor
/- Own rows that begin anywhere in their block; appends to them. Of no program. -/
namespace Go.Proofs.YtmgpacenooncjaaGreatDoor
open Go.ChangeShapes Go.WideShapes Go.ChangeAt Go.RowKit
/-- A slice that owns its row, wherever in its block that begins. -/
def OwA (w : World) (base : Nat) (e : TypeId) (size : Nat) (v : Value) (n : Nat) (xs : List Value) : Prop :=
  xs.length = n * size ∧
  ((v = .slice none 0 0 ∧ n = 0) ∨
   ∃ g off cap cur, v = .slice (some ⟨g, off, none⟩) n cap ∧ base ≤ g ∧ w.heap[g]? = some (.cells cur e (0, 0)) ∧ n ≤ cap ∧ cap ≤ maxLen ∧ off + cap * size ≤ cur.size ∧ (cur.toList.drop off).take (n * size) = xs)
section
variable {w : World} {base : Nat} {e : TypeId} {size : Nat} {v : Value} {n : Nat} {xs : List Value}
theorem OwA.of (h : w.ownsRow base e size v n xs) : OwA w base e size v n xs := by
  refine ⟨h.1, h.2.imp id ?_⟩
  rintro ⟨g, cap, cur, h1, h2, h3, h4, h5, h6, h7⟩
  exact ⟨g, 0, cap, cur, h1, h2, h3, h4, h5, by rw [h6, Nat.zero_add]; exact Nat.le_refl _, by rw [List.drop_zero]; exact h7⟩
theorem OwA.nil (w : World) (base : Nat) (e : TypeId) (size : Nat) : OwA w base e size (.slice none 0 0) 0 [] := ⟨by simp, .inl ⟨rfl, rfl⟩⟩
theorem OwA.lt (h : OwA w base e size v n xs) : ∀ k, v.ownBlock = some k → base ≤ k ∧ k < w.heap.size := by
  intro k hk
  rcases h.2 with ⟨rfl, _⟩ | ⟨g, off, cap, cur, rfl, hb, hg, _⟩
  · simp [Value.ownBlock] at hk
  · simp [Value.ownBlock] at hk
    subst hk
    exact ⟨hb, (Array.getElem?_eq_some_iff.1 hg).1⟩
theorem OwA.kept {w' : World} (h : OwA w base e size v n xs) (hb : ∀ g, v.ownBlock = some g → w'.heap[g]? = w.heap[g]?) : OwA w' base e size v n xs := by
  refine ⟨h.1, ?_⟩
  rcases h.2 with hn | ⟨g, off, cap, cur, rfl, hbg, hgg, rest⟩
  · exact .inl hn
  · exact .inr ⟨g, off, cap, cur, rfl, hbg, (hb g rfl).trans hgg, rest⟩
theorem OwA.blw {w' : World} (h : OwA w base e size v n xs) (hb : Below w.heap.size w w') : OwA w' base e size v n xs := h.kept fun g hg => hb.block g (h.lt g hg).2
theorem OwA.grown {w' : World} {row : Option Nat} (h : OwA w base e size v n xs) (hg : w.grownBy w' row) (hne : ∀ g, v.ownBlock = some g → some g ≠ row) : OwA w' base e size v n xs := h.kept fun g hv => hg.block g (h.lt g hv).2 (hne g hv)
theorem OwA.stay {R i : Nat} {u : Value} (h : OwA w base e size v n xs) (hR : R < base) : OwA (w.setCell ⟨R, i, none⟩ u) base e size v n xs :=
  h.kept fun g hg => Below.heap_setCell w ⟨R, i, none⟩ u g (by have := (h.lt g hg).1; show g ≠ R; omega)
theorem OwA.low {lo : Nat} (h : OwA w base e size v n xs) (hl : lo ≤ base) : OwA w lo e size v n xs :=
  ⟨h.1, h.2.imp id (fun ⟨g, off, cap, cur, a, b, c⟩ => ⟨g, off, cap, cur, a, Nat.le_trans hl b, c⟩)⟩
theorem OwA.shape (h : OwA w base e size v n xs) : ∃ a c, v = .slice a n c := by
  rcases h.2 with ⟨rfl, rfl⟩ | ⟨g, off, cap, cur, rfl, _⟩
  · exact ⟨_, _, rfl⟩
  · exact ⟨_, _, rfl⟩
theorem OwA.cells (h : OwA w base e size v n xs) : ∃ a c, v = .slice a n c ∧ ∀ j u, xs[j]? = some u → ∃ g off, a = some ⟨g, off, none⟩ ∧ w.cell? ⟨g, off + j, none⟩ = some u := by
  rcases h.2 with ⟨rfl, h0⟩ | ⟨g, off, cap, cur, rfl, _, hgg, _, _, _, htake⟩
  · refine ⟨none, 0, by rw [h0], fun j u hu => ?_⟩
    have hx : xs = [] := List.eq_nil_of_length_eq_zero (by rw [h.1, h0, Nat.zero_mul])
    rw [hx] at hu
    cases hu
  · refine ⟨some ⟨g, off, none⟩, cap, rfl, fun j u hu => ⟨g, off, rfl, ?_⟩⟩
    rw [cell_of_row w g (off + j) cur e (0, 0) hgg]
    rw [← htake, List.getElem?_take] at hu
    split at hu
    · rw [List.getElem?_drop] at hu
      simpa using hu
    · cases hu
/-- The same row, without its first element, as it comes out of a slice expression. -/
theorem OwA.tail (h : OwA w base e size v n xs) (hn : 0 < n) : ∃ g off cap, v = .slice (some ⟨g, off, none⟩) n cap ∧ n ≤ cap ∧ base ≤ g ∧ OwA w base e size (.slice (if cap = 1 then some ⟨g, off, none⟩ else some ⟨g, off + size, none⟩) (n - 1) (cap - 1)) (n - 1) (xs.drop size) := by
  rcases h.2 with ⟨_, h0⟩ | ⟨g, off, cap, cur, hv, hb, hg, hnc, hcm, hcs, htake⟩
  · omega
  · have hl : (xs.drop size).length = (n - 1) * size := by rw [List.length_drop, h.1, Nat.sub_mul, Nat.one_mul]
    refine ⟨g, off, cap, hv, hnc, hb, hl, .inr ?_⟩
    by_cases hc : cap = 1
    · have e : n = 1 := by omega
      have e2 : xs.drop size = [] := List.eq_nil_of_length_eq_zero (by rw [hl, e, Nat.sub_self, Nat.zero_mul])
      rw [if_pos hc]
      refine ⟨g, off, cap - 1, cur, rfl, hb, hg, by omega, by omega, ?_, ?_⟩
      · have := Nat.mul_le_mul_right size (show cap - 1 ≤ cap by omega)
        omega
      · rw [e2, e, Nat.sub_self, Nat.zero_mul, List.take_zero]
    · rw [if_neg hc]
      refine ⟨g, off + size, cap - 1, cur, rfl, hb, hg, by omega, by omega, ?_, ?_⟩
      · have h1 : 1 * size ≤ cap * size := Nat.mul_le_mul_right _ (by omega)
        rw [Nat.sub_mul]
        omega
      · rw [← htake, List.drop_take, List.drop_drop, Nat.sub_mul, Nat.one_mul]
/-- The same row, without its first elements. -/
theorem OwA.drop (h : OwA w base e size v n xs) (k : Nat) (hk : k < n) : ∃ g off cap, v = .slice (some ⟨g, off, none⟩) n cap ∧ n ≤ cap ∧ OwA w base e size (.slice (some ⟨g, off + k * size, none⟩) (n - k) (cap - k)) (n - k) (xs.drop (k * size)) := by
  rcases h.2 with ⟨_, h0⟩ | ⟨g, off, cap, cur, hv, hb, hg, hnc, hcm, hcs, htake⟩
  · omega
  · refine ⟨g, off, cap, hv, hnc, ⟨?_, .inr ⟨g, off + k * size, cap - k, cur, rfl, hb, hg, by omega, by omega, ?_, ?_⟩⟩⟩
    · rw [List.length_drop, h.1, Nat.sub_mul]
    · have h1 : k * size ≤ cap * size := Nat.mul_le_mul_right _ (by omega)
      rw [Nat.sub_mul]
      omega
    · rw [← htake, List.drop_take, List.drop_drop, ← Nat.sub_mul]
end
section
variable {P : Program} (w : World)
theorem run_append_roomA (t ty e : TypeId) (i : TypeInfo) (ht : P.underlying t = some (.slice e)) (hi : P.info? e = some i)
    (g off sLen sCap : Nat) (cur : Array Value) (hg : w.heap[g]? = some (.cells cur e (0, 0)))
    (a : Addr) (m c : Nat) (news : List Value) (hl : news.length = m * i.size) (hnews : ∀ j u, news[j]? = some u → w.cell? (a.add j) = some u) (h1 : ∀ u ∈ news, u.oneCell' = true)
    (hroom : sLen + m ≤ sCap) (hfit : off + sLen * i.size + news.length ≤ cur.size) :
    (Builtin.append_ #[t, t] ty #[.slice (some ⟨g, off, none⟩) sLen sCap, .slice (some a) m c]).run P w =
      .ok (.slice (some ⟨g, off, none⟩) (sLen + m) sCap) (w.setRow g (cur.toList.take (off + sLen * i.size) ++ news ++ cur.toList.drop (off + sLen * i.size + news.length)).toArray) := by
  have hf := run_firstCells_some (P := P) w i.size m a m c news hl hnews
  have hst := run_storeCells_at P g (off + sLen * i.size) e news 0 cur w hg (by simpa using hfit) h1
  simp only [Nat.add_zero] at hst
  have hadd : (⟨g, off, none⟩ : Addr).add (sLen * i.size) = ⟨g, off + sLen * i.size, none⟩ := by unfold Addr.add; split <;> simp_all
  simp [Builtin.append_, run_underlying ht, sizeOf, typeInfo, hi, Builtin.lenOf, hroom, hf, hadd, hst]
theorem run_append_oa (base : Nat) (t ty e : TypeId) (i : TypeInfo) (z : Value) (size bytes : Nat) (ht : P.underlying t = some (.slice e)) (hi : P.info? e = some i) (hz : i.zero = some z)
    (hsize : i.size = size) (hby : i.bytes = bytes) (hzs : z.cells.size = size) (hsz : 0 < size)
    (v : Value) (n : Nat) (xs : List Value) (hown : OwA w base e size v n xs)
    (a : Addr) (m c : Nat) (news : List Value) (hl : news.length = m * size) (hnews : ∀ j u, news[j]? = some u → w.cell? (a.add j) = some u) (h1 : ∀ u ∈ news, u.oneCell' = true)
    (h63 : n + m ≤ maxLen) (hbytes : (n + m) * bytes ≤ 140737488355328) (hbase : base ≤ w.heap.size) :
    ∃ v' w', (Builtin.append_ #[t, t] ty #[v, .slice (some a) m c]).run P w = .ok v' w' ∧ OwA w' base e size v' (n + m) (xs ++ news) ∧ w.grownBy w' v.ownBlock ∧
      (v'.ownBlock = v.ownBlock ∨ v'.ownBlock = some w.heap.size) := by
  subst hsize
  rcases hown.2 with ⟨rfl, rfl⟩ | ⟨g, off, cap, cur, rfl, hbg, hg, hnc, hcm, hcs, htake⟩
  · have hx : xs = [] := List.eq_nil_of_length_eq_zero (by simpa using hown.1)
    subst hx
    obtain ⟨v', w', hr, h2, h3, _, h5⟩ := run_append_own_at (P := P) w base t ty e i z i.size bytes ht hi hz rfl hby hzs hsz (.slice none 0 0) 0 [] (World.ownsRow_nil _ _ _ _) a m c news hl hnews h1 h63 hbytes hbase
    exact ⟨v', w', hr, OwA.of h2, h3, h5⟩
  · have hlen : (xs ++ news).length = (n + m) * i.size := by rw [List.length_append, hown.1, hl, Nat.add_mul]
    by_cases hroom : n + m ≤ cap
    · have hfit : off + n * i.size + news.length ≤ cur.size := by rw [hl, Nat.add_assoc, ← Nat.add_mul]; exact Nat.le_trans (Nat.add_le_add_left (Nat.mul_le_mul_right _ hroom) _) hcs
      have hr := run_append_roomA (P := P) w t ty e i ht hi g off n cap cur hg a m c news hl hnews h1 hroom hfit
      refine ⟨_, _, hr, ⟨hlen, .inr ⟨g, off, cap, _, rfl, hbg, setRow_heap w g cur _ e _ hg, hroom, hcm, ?_, ?_⟩⟩, ⟨rfl, rfl, rfl, by simp, fun k _ hk => setRow_other w g k _ (fun e => hk (by simp [Value.ownBlock, e]))⟩, .inl rfl⟩
      · simp only [List.size_toArray, List.length_append, List.length_take, List.length_drop, Array.length_toList]
        omega
      · have hoff : off ≤ cur.toList.length := by simp; omega
        have e1 : cur.toList.take (off + n * i.size) = cur.toList.take off ++ xs := by rw [List.take_add, htake]
        show (List.drop off (cur.toList.take (off + n * i.size) ++ news ++ cur.toList.drop (off + n * i.size + news.length))).take _ = _
        rw [e1, List.append_assoc, List.append_assoc, List.drop_append, List.drop_eq_nil_of_le (by rw [List.length_take]; omega), List.nil_append, List.length_take, Nat.min_eq_left hoff, Nat.sub_self, List.drop_zero, ← List.append_assoc, ← hlen]
        exact List.take_left
    · have holds : ∀ j u, xs[j]? = some u → w.cell? ((⟨g, off, none⟩ : Addr).add j) = some u := fun j u hu => by
        obtain ⟨a', c', e1, hc⟩ := hown.cells
        obtain ⟨g', off', e2, hc⟩ := hc j u hu
        injection e1 with e1
        rw [e2] at e1
        injection e1 with e1
        injection e1 with e1 e3
        have hadd : (⟨g, off, none⟩ : Addr).add j = ⟨g, off + j, none⟩ := by unfold Addr.add; split <;> simp_all
        rw [hadd, e1, e3]
        exact hc
      have hr := run_append_grow (P := P) w t ty e i z ht hi hz ⟨g, off, none⟩ n cap xs hown.1 holds a m c news hl hnews (by omega) (by simp only [maxLen] at h63; omega) (growslice_fits (by omega) (by rw [hby]; exact hbytes))
      have hge := grownCap_ge w (n + m) cap e
      have hcm2 : grownCap w (n + m) cap e ≤ maxLen := grownCap_le_maxLen w (n + m) cap e h63
      refine ⟨_, _, hr, ⟨hlen, .inr ⟨w.heap.size, 0, _, _, rfl, hbase, heap_alloc_new w.drew _, hge, hcm2, ?_, ?_⟩⟩, ⟨rfl, rfl, rfl, by simp, fun k hk _ => (World.grownBy_alloc w.drew _ none).block k hk (by simp)⟩, .inr rfl⟩
      · simp only [Array.size_append, List.size_toArray, size_zeroCells, hzs, hown.1, hl, ← Nat.add_mul, Nat.zero_add]
        exact Nat.mul_le_mul_right _ (by omega)
      · simp only [Array.toList_append, List.append_assoc, List.drop_zero]
        rw [← List.append_assoc, ← hlen]
        exact List.take_left
/-- An append of nothing: the slice as it was. -/
theorem run_append_nilA (base : Nat) (t ty e : TypeId) (i : TypeInfo) (size c : Nat) (ht : P.underlying t = some (.slice e)) (hi : P.info? e = some i)
    (v : Value) (n : Nat) (xs : List Value) (hown : OwA w base e size v n xs) : (Builtin.append_ #[t, t] ty #[v, .slice none 0 c]).run P w = .ok v w := by
  rcases hown.2 with ⟨rfl, rfl⟩ | ⟨g, off, cap, cur, rfl, _, _, hnc, _⟩
  · simp [Builtin.append_, run_underlying ht, sizeOf, typeInfo, hi, Builtin.lenOf, Builtin.firstCells]
  · simp [Builtin.append_, run_underlying ht, sizeOf, typeInfo, hi, Builtin.lenOf, Builtin.firstCells, storeCells, hnc]
end
end Go.Proofs.YtmgpacenooncjaaGreatDoor
/- Mapper: a run in memory; New. -/
namespace Go.Proofs.YtmgpacenooncjaaGreatDoor
open Go.ChangeShapes Go.WideShapes Go.ChangeAt Go.RowKit
theorem owa_isPairs {w : World} {base : Nat} {v : Value} {L : List (ByteArray × Int)} (h : OwA w base 67 2 v L.length (Pp.cellsP L)) : Pp.IsPairs w v L := by
  obtain ⟨a, c, rfl, hc⟩ := h.cells
  refine ⟨a, c, rfl, fun i hi => ?_⟩
  obtain ⟨h0, h1⟩ := Pp.cellsP_at L i hi
  obtain ⟨g, off, rfl, c0⟩ := hc _ _ h0
  obtain ⟨g', off', e, c1⟩ := hc _ _ h1
  injection e with e
  injection e with e1 e2
  subst e1 e2
  exact ⟨g, off, rfl, c0, by rw [Nat.add_assoc]; exact c1⟩
/-- A run: its own block, its rules and its lines (which lie below it), the row of what is made. -/
structure IsMR (w : World) (R : Nat) (j : Jb) (rv lv : Value) (lines : List (List UInt8)) (done : Nat) (mv : Value) (made : List (ByteArray × Int)) : Prop where
  blk : Blk w R 81 [rv, .int .i64 j.fold, .bool j.early, .int .i64 j.slices, lv, .int .i64 done, mv]
  rules : ∀ w', Below R w w' → IsRules w' rv j.rules
  lines : ∀ w', Below R w w' → IsTexts w' lv (lines.map bs)
  row : OwA w (R + 1) 67 2 mv made.length (Pp.cellsP made)
theorem IsMR.blw {w w' : World} {R : Nat} {j : Jb} {rv lv mv : Value} {lines : List (List UInt8)} {done : Nat} {made : List (ByteArray × Int)} (h : IsMR w R j rv lv lines done mv made) (hb : Below w.heap.size w w') : IsMR w' R j rv lv lines done mv made :=
  ⟨h.blk.blw hb, fun w2 h2 => h.rules w2 ((hb.mono (Nat.le_of_lt h.blk.lt)).trans h2), fun w2 h2 => h.lines w2 ((hb.mono (Nat.le_of_lt h.blk.lt)).trans h2), h.row.blw hb⟩
theorem texts_src {w : World} {a : Option Addr} {n cap : Nat} {l : List (List UInt8)} (h : IsTexts w (.slice a n cap) (l.map bs)) : (a = none → n = 0) ∧ ∀ ad, a = some ad → ∀ j u, (strs l)[j]? = some u → w.cell? (ad.add j) = some u := by
  obtain ⟨a', cap', e, hc⟩ := h
  injection e with e1 e2 e3
  subst e1
  refine ⟨fun ha => ?_, fun ad had j u hu => ?_⟩
  · rcases Nat.eq_zero_or_pos n with h0 | h0
    · exact h0
    · obtain ⟨b, off, e, _⟩ := hc 0 (by omega)
      rw [ha] at e; cases e
  · have hj : j < (l.map bs).length := by have := (List.getElem?_eq_some_iff.1 hu).1; simpa [strs] using this
    obtain ⟨b, off, e, c0⟩ := hc j hj
    rw [had] at e
    injection e with e
    subst e
    have hu2 : u = .string (l.map bs)[j] := by
      simp only [strs, List.getElem?_map] at hu
      have hj2 : j < l.length := by simpa using hj
      rw [List.getElem?_eq_getElem hj2, Option.map_some, Option.some.injEq] at hu
      rw [← hu]; simp
    have hadd : (⟨b, off, none⟩ : Addr).add j = ⟨b, off + j, none⟩ := by unfold Addr.add; split <;> simp_all
    rw [hadd, hu2]
    exact c0
set_option maxRecDepth 100000 in
set_option maxHeartbeats 1000000 in
theorem new_bad (j : Jb) (rv lv : Value) (w : World) (h : IsRules w rv j.rules) (hw : rulesWt j.rules ≤ 1000000) (hf : jobFault j ≠ 0) (E : EnvS w) :
    Calls Tryz.prog 14 #[j.value rv, lv] w fun r w' => r = .returned (.tuple #[.pointer none, errV (jobFault j)]) ∧ Below w.heap.size w w' := by
  have CK := Lib.hid (fun w h E => jobCheck_any j rv w h (by omega) E)
  have H := Lib.hid h
  obtain ⟨a, cap, rfl⟩ := h.slice
  have HE := Lib.hid E
  obtain ⟨f, hff⟩ : ∃ f, f = jobFault j := ⟨_, rfl⟩
  rw [← hff] at CK hf ⊢
  clear h E hff
  obtain ⟨l, fo, ea, sl⟩ := j
  simp only [Jb.value] at *
  generalize l.length = n at *
  have hv : errV f = .iface 70 (.int .i64 f) := if_neg hf
  rw [hv] at CK ⊢
  go_enter Tryz.func14, Tryz.ntmps14
  go_wp2_with (go_at_call 25; refine Hid.out ?_)
  refine Lib.hid ?_
  refine (CK.out _ (H.out.lower (below_box _)) (HE.out.lower (below_box _))).mono ?_
  rintro _ w1 ⟨rfl, hb1⟩
  go_wp2
  go_ret2
  exact ⟨rfl, below_trans (below_box _) hb1⟩
set_option maxRecDepth 100000 in
set_option maxHeartbeats 1000000 in
theorem new_many (j : Jb) (rv : Value) (la : Option Addr) (ln lc : Nat) (w : World) (h : IsRules w rv j.rules) (hw : rulesWt j.rules ≤ 1000000) (hf : jobFault j = 0) (hn : 60 < ln) (E : EnvS w) :
    Calls Tryz.prog 14 #[j.value rv, .slice la ln lc] w fun r w' => r = .returned (.tuple #[.pointer none, .iface 70 (.int .i64 2)]) ∧ Below w.heap.size w w' := by
  have CK := Lib.hid (fun w h E => jobCheck_any j rv w h (by omega) E)
  have H := Lib.hid h
  obtain ⟨a, cap, rfl⟩ := h.slice
  have HE := Lib.hid E
  rw [hf, show errV 0 = .nilIface from rfl] at CK
  clear h E hf
  obtain ⟨l, fo, ea, sl⟩ := j
  simp only [Jb.value] at *
  generalize l.length = n at *
  go_enter Tryz.func14, Tryz.ntmps14
  go_wp2_with (go_at_call 25; refine Hid.out ?_)
  refine Lib.hid ?_
  refine (CK.out _ (H.out.lower (below_box _)) (HE.out.lower (below_box _))).mono ?_
  rintro _ w1 ⟨rfl, hb1⟩
  go_wp2
  go_ret2
  exact ⟨rfl, below_trans (below_box _) hb1⟩
/-- What New hands back. -/
def MadeNew (w : World) (j : Jb) (lines : List (List UInt8)) (r : Ending) (w' : World) : Prop :=
  ∃ R rv lv, r = .returned (.tuple #[.pointer (some ⟨R, 0, none⟩), .nilIface]) ∧ IsMR w' R j rv lv lines 0 (.slice none 0 0) [] ∧ w.heap.size ≤ R ∧ Below w.heap.size w w'
set_option maxRecDepth 100000 in
set_option maxHeartbeats 1000000 in
theorem new_ok (j : Jb) (rv lv : Value) (lines : List (List UInt8)) (w : World) (h : IsRules w rv j.rules) (hw : rulesWt j.rules ≤ 1000000) (hf : jobFault j = 0) (ht : IsTexts w lv (lines.map bs)) (hn : lines.length ≤ 60) (E : EnvS w) :
    Calls Tryz.prog 14 #[j.value rv, lv] w (MadeNew w j lines) := by
  have CK := Lib.hid (fun w h E => jobCheck_any j rv w h (by omega) E)
  have CJ := Lib.hid (fun w h => copyJob_any j rv w h hw)
  have H := Lib.hid h
  have HT := Lib.hid ht
  obtain ⟨a, cap, rfl⟩ := h.slice
  obtain ⟨la, lc, rfl, -⟩ := ht
  have HE := Lib.hid E
  rw [hf, show errV 0 = .nilIface from rfl] at CK
  clear h E hf
  obtain ⟨ln, hln⟩ : ∃ ln, ln = (lines.map bs).length := ⟨_, rfl⟩
  rw [← hln] at HT ⊢
  have hn2 : ln ≤ 60 := by rw [hln, List.length_map]; exact hn
  have CL : Hid (∀ w', Below w.heap.size w w' → Calls Tryz.prog 42 #[.slice la ln lc] w' fun e w'' => ∃ v, e = .returned v ∧ w''.ownsRow w'.heap.size 9 1 v ln (strs lines) ∧ Below w'.heap.size w' w'') := fun w' hb' => by
    obtain ⟨h1, h2⟩ := texts_src (IsTexts.below HT.out hb')
    exact cloneS_any la ln lc (strs lines) w' (by rw [hln]; simp [strs]) h1 h2 (strs_one lines) (by omega)
  have HLN := Lib.hid hln
  clear hln hn
  unfold CopyJ at CJ
  obtain ⟨l, fo, ea, sl⟩ := j
  simp only [Jb.value] at *
  obtain ⟨n, hnn⟩ : ∃ n, n = l.length := ⟨_, rfl⟩
  rw [← hnn] at H CK CJ ⊢
  have HNN := Lib.hid hnn
  clear hnn
  go_enter Tryz.func14, Tryz.ntmps14
  go_wp2_with (go_at_call 25; refine Hid.out ?_)
  refine Lib.hid ?_
  refine (CK.out _ (H.out.lower (below_box _)) (HE.out.lower (below_box _))).mono ?_
  rintro _ w1 ⟨rfl, hb1⟩
  have JB := Lib.hid ((blk_new (w := w) (cs := #[.slice a n cap, .int .i64 fo, .bool ea, .int .i64 sl]) (t := 24) rfl).blw hb1)
  have hb01 := below_trans (below_box _) hb1
  have k0 := JB.out.at (i := 0) (v := .slice a n cap) rfl
  have k1 := JB.out.at (i := 1) (v := .int .i64 fo) rfl
  have k2 := JB.out.at (i := 2) (v := .bool ea) rfl
  have k3 := JB.out.at (i := 3) (v := .int .i64 sl) rfl
  clear hb1 CK
  go_wp2_with (go_at_call 41; refine Hid.out ?_)
  refine Lib.hid ?_
  refine (CJ.out w1 (H.out.lower hb01)).mono ?_
  rintro _ w2 ⟨va, vc, rfl, HR, hb12⟩
  have hb02 := below_trans hb01 hb12
  have HRU := Lib.hid HR
  clear k0 k1 k2 k3 JB CJ HR hb01
  dsimp only
  go_wp2_with (go_at_call 42; refine Hid.out ?_)
  refine Lib.hid ?_
  refine (CL.out w2 hb02).mono ?_
  rintro _ w3 ⟨v, rfl, hrow, hb23⟩
  have hb03 := below_trans hb02 hb23
  have HROW := Lib.hid hrow
  have HB23 := Lib.hid hb23
  clear CL hrow hb23 hb02 hb12
  obtain ⟨w4, hw4⟩ : ∃ w4, w4 = w3.alloc (.cells #[.slice va n vc, .int .i64 fo, .bool ea, .int .i64 sl, v, .int .i64 0, .slice none 0 0] 81) := ⟨_, rfl⟩
  obtain ⟨R, hR⟩ : ∃ R, R = w3.heap.size := ⟨_, rfl⟩
  have hb34 : Below w3.heap.size w3 w4 := by rw [hw4]; exact below_box _
  have HF : Hid (IsMR w4 R ⟨l, fo, ea, sl⟩ (.slice va n vc) v lines 0 (.slice none 0 0) []) := by
    refine ⟨?_, fun w' h' => ?_, fun w' h' => ?_, OwA.nil _ _ _ _⟩
    · rw [hw4]; exact blk_new hR
    · rw [hR] at h'
      have hbb : Below w3.heap.size w3 w' := hb34.trans h'
      exact HRU.out w' (fun k _ hk => (hbb.block k (Nat.lt_of_lt_of_le hk HB23.out.size)).trans (HB23.out.block k hk))
    · rw [hR] at h'
      have hbb : Below w3.heap.size w3 w' := hb34.trans h'
      have h := HROW.out
      rw [HLN.out, List.length_map] at h
      exact IsTexts.below (isTexts_of h) hbb
  have HB := Lib.hid (below_trans hb03 hb34)
  have HS : Hid (w.heap.size ≤ R) := by show _ ≤ _; rw [hR]; exact hb03.size
  have HW := Lib.hid hw4
  have HRR := Lib.hid hR
  obtain ⟨vla, vlc, ev⟩ : ∃ vla vlc, v = .slice vla ln vlc := by
    rcases row_slice HROW.out with ⟨h1, h2⟩ | ⟨g, c, h1, _⟩
    · exact ⟨_, _, by rw [h1, h2]⟩
    · exact ⟨_, _, h1⟩
  subst ev
  clear hw4 hR hb34 hb03 HROW HB23 HRU
  dsimp only
  go_wp2
  rw [← HW.out, ← HRR.out]
  go_ret2
  exact ⟨R, _, _, rfl, HF.out, HS.out, HB.out⟩
end Go.Proofs.YtmgpacenooncjaaGreatDoor
/- Mapper: what turns when a run goes on; an append of pairs, at a step of a region that draws. -/
namespace Go.Proofs.YtmgpacenooncjaaGreatDoor
open Go.ChangeShapes Go.WideShapes Go.ChangeAt Go.RowKit
/-- Nothing has turned but a block, a row's, and what is new. -/
structure FrM (w w' : World) (R : Nat) (o : Option Nat) : Prop where
  os : w'.os = w.os
  tape : w'.tape = w.tape
  output : w'.output = w.output
  size : w.heap.size ≤ w'.heap.size
  block : ∀ k, k < w.heap.size → k ≠ R → some k ≠ o → w'.heap[k]? = w.heap[k]?
theorem FrM.refl (w : World) (R : Nat) (o : Option Nat) : FrM w w R o := ⟨rfl, rfl, rfl, Nat.le_refl _, fun _ _ _ _ => rfl⟩
theorem FrM.of_blw {w w' : World} (h : Below w.heap.size w w') (R : Nat) (o : Option Nat) : FrM w w' R o := ⟨h.os, h.tape, h.output, h.size, fun k hk _ _ => h.block k hk⟩
theorem FrM.blw {w w1 w2 : World} {R : Nat} {o : Option Nat} (h : FrM w w1 R o) (k : Below w1.heap.size w1 w2) : FrM w w2 R o :=
  ⟨k.os.trans h.os, k.tape.trans h.tape, k.output.trans h.output, Nat.le_trans h.size k.size, fun i hi h1 h2 => (k.block i (Nat.lt_of_lt_of_le hi h.size)).trans (h.block i hi h1 h2)⟩
theorem FrM.put {w w1 : World} {R : Nat} {o : Option Nat} (h : FrM w w1 R o) (i : Nat) (v : Value) : FrM w (w1.setCell ⟨R, i, none⟩ v) R o := by
  have k := Only.setCell (Only.refl R w1) i v
  exact ⟨k.os.trans h.os, k.tape.trans h.tape, k.output.trans h.output, Nat.le_trans h.size k.size, fun j hj h1 h2 => (k.block j (Nat.lt_of_lt_of_le hj h.size) (fun e => h1 (Option.some.inj e))).trans (h.block j hj h1 h2)⟩
theorem FrM.grown {w w1 w2 : World} {R : Nat} {o o' : Option Nat} (h : FrM w w1 R o) (k : w1.grownBy w2 o') (ho : o' = o ∨ ∀ b, o' = some b → w.heap.size ≤ b) : FrM w w2 R o :=
  ⟨k.os.trans h.os, k.tape.trans h.tape, k.output.trans h.output, Nat.le_trans h.size k.size, fun j hj h1 h2 => (k.block j (Nat.lt_of_lt_of_le hj h.size) (fun e => by
    rcases ho with rfl | ho
    · exact h2 e
    · have := ho j e.symm; omega)).trans (h.block j hj h1 h2)⟩
theorem FrM.below {w w' : World} {R B : Nat} {o : Option Nat} (h : FrM w w' R o) (hB : B ≤ w.heap.size) (hR : B ≤ R) (ho : ∀ b, o = some b → B ≤ b) : Below B w w' :=
  ⟨h.os, h.tape, h.output, h.size, fun k hk => h.block k (by omega) (by omega) (fun e => by have := ho k e.symm; omega)⟩
theorem IsMR.blk_grown {wr w9 w10 : World} {R : Nat} {j : Jb} {rv lv mv : Value} {lines : List (List UInt8)} {done : Nat} {l : List (ByteArray × Int)} (h : IsMR wr R j rv lv lines done mv l) (hb9 : Below wr.heap.size wr w9) (hg : w9.grownBy w10 mv.ownBlock) : Blk w10 R 81 [rv, .int .i64 j.fold, .bool j.early, .int .i64 j.slices, lv, .int .i64 done, mv] := by
  have r9 := h.row.blw hb9
  exact (hg.block R (Nat.lt_of_lt_of_le h.blk.lt hb9.size) (fun e => by have := (r9.lt _ e.symm).1; omega)).trans (h.blk.blw hb9)
theorem IsMR.more {wr w9 w10 : World} {R : Nat} {j : Jb} {rv lv mv nv : Value} {lines : List (List UInt8)} {done : Nat} {l l' : List (ByteArray × Int)} (h : IsMR wr R j rv lv lines done mv l) (hb9 : Below wr.heap.size wr w9) (hg : w9.grownBy w10 mv.ownBlock) (ho : OwA w10 (R + 1) 67 2 nv l'.length (Pp.cellsP l')) : IsMR (w10.setCell ⟨R, 6, none⟩ nv) R j rv lv lines done nv l' := by
  have r9 := h.row.blw hb9
  have hRl := h.blk.lt
  have b10 : Below R wr w10 := (hb9.mono (Nat.le_of_lt hRl)).grown hg (by have := hb9.size; omega) (fun q hq => by have := (r9.lt q hq).1; omega)
  have b11 : Below R wr (w10.setCell ⟨R, 6, none⟩ nv) := b10.setCell (p := ⟨R, 6, none⟩) (Nat.le_refl _) _
  exact ⟨(h.blk_grown hb9 hg).set 6 nv, fun w' h' => h.rules w' (b11.trans h'), fun w' h' => h.lines w' (b11.trans h'), ho.stay (Nat.lt_succ_self _)⟩
/-- An append of pairs to an own row: what comes out, where it lies, what has turned. -/
theorem run_append_prs {w : World} {base n c : Nat} {v xv : Value} {A B : List (ByteArray × Int)} (ty : TypeId) (hown : w.ownsRow base 67 2 v n (Pp.cellsP A)) (hn : n = A.length) (hB : Pp.IsPairs w xv B) (hc : c = B.length) (hlen : A.length + B.length ≤ 1000000) (hbase : base ≤ w.heap.size) :
    ∃ va vc w', (Builtin.append_ #[42, 42] ty #[v, xv]).run Tryz.prog w = .ok (.slice va (A ++ B).length vc) w' ∧ w'.ownsRow base 67 2 (.slice va (A ++ B).length vc) (A ++ B).length (Pp.cellsP (A ++ B)) ∧ w.grownBy w' v.ownBlock ∧ ((Value.slice va (A ++ B).length vc).ownBlock = v.ownBlock ∨ (Value.slice va (A ++ B).length vc).ownBlock = some w.heap.size) := by
  have shape : ∀ (v' : Value) (w' : World), w'.ownsRow base 67 2 v' (A ++ B).length (Pp.cellsP (A ++ B)) → ∃ va vc, v' = .slice va (A ++ B).length vc := fun v' w' h => by
    rcases row_slice h with ⟨h1, h2⟩ | ⟨g, c, h1, _⟩
    · exact ⟨_, _, by rw [h1, h2]⟩
    · exact ⟨_, _, h1⟩
  obtain ⟨i0, hi, hz0, hz1, hz2⟩ := info_parts Pp.pairInfo
  have hB' := hB
  obtain ⟨ao, cc, rfl, _⟩ := hB
  cases ao with
  | none =>
    obtain ⟨rfl, _⟩ := Pp.isPairs_none hB'
    have hA : w.ownsRow base 67 2 v (A ++ []).length (Pp.cellsP (A ++ [])) := by rw [List.append_nil, ← hn]; exact hown
    obtain ⟨va, vc, e⟩ := shape v w hA
    rw [e] at hA hown ⊢
    refine ⟨va, vc, w, Pp.run_append_nilx (P := Tryz.prog) base 42 ty 67 i0 2 cc Tryz.underlying42 hi _ _ _ hown, hA, ⟨rfl, rfl, rfl, Nat.le_refl _, fun _ _ _ => rfl⟩, .inl rfl⟩
  | some ad =>
    obtain ⟨v', w', hr, h2, h3, h4, h5⟩ := run_append_own_at (P := Tryz.prog) w base 42 ty 67 i0 (.agg #[.string ⟨#[]⟩, .int .i64 0]) 2 24 Tryz.underlying42 hi hz0 hz1 hz2 rfl (by decide) v n _ hown ad B.length cc (Pp.cellsP B) (Pp.cellsP_length B) (Pp.cellsP_src hB') (Pp.cellsP_one B) (by unfold maxLen; omega) (by omega) hbase
    have hA : w'.ownsRow base 67 2 v' (A ++ B).length (Pp.cellsP (A ++ B)) := by
      rw [List.length_append, Pp.cellsP_append, ← hn]
      exact h2
    obtain ⟨va, vc, rfl⟩ := shape v' w' hA
    exact ⟨va, vc, w', hr, hA, h3, h5⟩
theorem step_append_prs {w : World} {ops : Array Oper} {o : Oper} {a : Act} {K : Act → World → Prop} {Q : Exit → Act → World → Prop} {E : Prop} (hgd : o.guard = none) (s x : Operand)
    (ho : o.op = .call { callee := .builtin .append, args := #[s, x], argTypes := #[42, 42] })
    {base n : Nat} {v xv : Value} {A B : List (ByteArray × Int)} (hs : a.eval s = v) (hown : w.ownsRow base 67 2 v n (Pp.cellsP A)) (hn : n = A.length) (hx : a.eval x = xv) (hB : Pp.IsPairs w xv B) (hlen : A.length + B.length ≤ 1000000) (hbase : base ≤ w.heap.size) {N : Nat} (hN : (A ++ B).length = N)
    (h : ∀ va vc w', w'.ownsRow base 67 2 (.slice va N vc) N (Pp.cellsP (A ++ B)) → w.grownBy w' v.ownBlock → ((Value.slice va N vc).ownBlock = v.ownBlock ∨ (Value.slice va N vc).ownBlock = some w.heap.size) → K (a.put o.dst (.slice va N vc)) w') :
    if Region.wanted o (yielded ops a.tmps) = true then Oper.wp Tryz.prog o a w K Q else E := by
  have hw : Region.wanted o (yielded ops a.tmps) = true := by simp [Region.wanted, hgd]
  rw [if_pos hw]
  obtain ⟨va, vc, w', hr, h2, h3, h4⟩ := run_append_prs o.type hown hn hB rfl hlen hbase
  rw [hN] at hr h2 h4
  unfold Oper.wp execOp
  simp only [ho, resolve, invoke, builtin, Sem.run_bind, Sem.run_pure, Result.andThen_ok, List.map_toArray, List.map_cons, List.map_nil, hs, hx, hr]
  exact h va vc w' h2 h3 h4
/-- The same of a row that begins anywhere in its block. -/
theorem run_append_prsA {w : World} {base n c : Nat} {v xv : Value} {A B : List (ByteArray × Int)} (ty : TypeId) (hown : OwA w base 67 2 v n (Pp.cellsP A)) (hn : n = A.length) (hB : Pp.IsPairs w xv B) (hc : c = B.length) (hlen : A.length + B.length ≤ 1000000) (hbase : base ≤ w.heap.size) :
    ∃ va vc w', (Builtin.append_ #[42, 42] ty #[v, xv]).run Tryz.prog w = .ok (.slice va (A ++ B).length vc) w' ∧ OwA w' base 67 2 (.slice va (A ++ B).length vc) (A ++ B).length (Pp.cellsP (A ++ B)) ∧ w.grownBy w' v.ownBlock ∧ ((Value.slice va (A ++ B).length vc).ownBlock = v.ownBlock ∨ (Value.slice va (A ++ B).length vc).ownBlock = some w.heap.size) := by
  have shape : ∀ (v' : Value) (w' : World), OwA w' base 67 2 v' (A ++ B).length (Pp.cellsP (A ++ B)) → ∃ va vc, v' = .slice va (A ++ B).length vc := fun v' w' h => h.shape
  obtain ⟨i0, hi, hz0, hz1, hz2⟩ := info_parts Pp.pairInfo
  have hB' := hB
  obtain ⟨ao, cc, rfl, _⟩ := hB
  cases ao with
  | none =>
    obtain ⟨rfl, _⟩ := Pp.isPairs_none hB'
    have hA : OwA w base 67 2 v (A ++ []).length (Pp.cellsP (A ++ [])) := by rw [List.append_nil, ← hn]; exact hown
    obtain ⟨va, vc, e⟩ := shape v w hA
    rw [e] at hA hown ⊢
    refine ⟨va, vc, w, run_append_nilA (P := Tryz.prog) w base 42 ty 67 i0 2 cc Tryz.underlying42 hi _ _ _ hown, hA, ⟨rfl, rfl, rfl, Nat.le_refl _, fun _ _ _ => rfl⟩, .inl rfl⟩
  | some ad =>
    obtain ⟨v', w', hr, h2, h3, h5⟩ := run_append_oa (P := Tryz.prog) w base 42 ty 67 i0 (.agg #[.string ⟨#[]⟩, .int .i64 0]) 2 24 Tryz.underlying42 hi hz0 hz1 hz2 rfl (by decide) v n _ hown ad B.length cc (Pp.cellsP B) (Pp.cellsP_length B) (Pp.cellsP_src hB') (Pp.cellsP_one B) (by unfold maxLen; omega) (by omega) hbase
    have hA : OwA w' base 67 2 v' (A ++ B).length (Pp.cellsP (A ++ B)) := by
      rw [List.length_append, Pp.cellsP_append, ← hn]
      exact h2
    obtain ⟨va, vc, rfl⟩ := shape v' w' hA
    exact ⟨va, vc, w', hr, hA, h3, h5⟩
theorem step_append_prsA {w : World} {ops : Array Oper} {o : Oper} {a : Act} {K : Act → World → Prop} {Q : Exit → Act → World → Prop} {E : Prop} (hgd : o.guard = none) (s x : Operand)
    (ho : o.op = .call { callee := .builtin .append, args := #[s, x], argTypes := #[42, 42] })
    {base n : Nat} {v xv : Value} {A B : List (ByteArray × Int)} (hs : a.eval s = v) (hown : OwA w base 67 2 v n (Pp.cellsP A)) (hn : n = A.length) (hx : a.eval x = xv) (hB : Pp.IsPairs w xv B) (hlen : A.length + B.length ≤ 1000000) (hbase : base ≤ w.heap.size) {N : Nat} (hN : (A ++ B).length = N)
    (h : ∀ va vc w', OwA w' base 67 2 (.slice va N vc) N (Pp.cellsP (A ++ B)) → w.grownBy w' v.ownBlock → ((Value.slice va N vc).ownBlock = v.ownBlock ∨ (Value.slice va N vc).ownBlock = some w.heap.size) → K (a.put o.dst (.slice va N vc)) w') :
    if Region.wanted o (yielded ops a.tmps) = true then Oper.wp Tryz.prog o a w K Q else E := by
  have hw : Region.wanted o (yielded ops a.tmps) = true := by simp [Region.wanted, hgd]
  rw [if_pos hw]
  obtain ⟨va, vc, w', hr, h2, h3, h4⟩ := run_append_prsA o.type hown hn hB rfl hlen hbase
  rw [hN] at hr h2 h4
  unfold Oper.wp execOp
  simp only [ho, resolve, invoke, builtin, Sem.run_bind, Sem.run_pure, Result.andThen_ok, List.map_toArray, List.map_cons, List.map_nil, hs, hx, hr]
  exact h va vc w' h2 h3 h4
end Go.Proofs.YtmgpacenooncjaaGreatDoor
/- Mapper: New, and what its run holds lies in blocks of its own; a run survives another one's steps. Written by tpl/mk_n5b.py. -/
namespace Go.Proofs.YtmgpacenooncjaaGreatDoor
open Go.ChangeShapes Go.WideShapes Go.ChangeAt Go.RowKit
/-- What a run holds, told apart: it stands wherever the blocks from B to R stay. -/
structure MRheld (B : Nat) (w : World) (R : Nat) (j : Jb) (rv lv : Value) (lines : List (List UInt8)) : Prop where
  low : B ≤ R
  rules : ∀ w', Keeps B R w w' → IsRules w' rv j.rules
  lines : ∀ w', Keeps B R w w' → IsTexts w' lv (lines.map bs)
theorem keeps_frm {w w' : World} {S B R : Nat} (h : FrM w w' S none) (hR : R ≤ w.heap.size) (hS : S < B ∨ R ≤ S) : Keeps B R w w' := fun k h1 h2 => h.block k (by omega) (by omega) (by simp)
theorem MRheld.keeps {w w' : World} {R B : Nat} {j : Jb} {rv lv : Value} {lines : List (List UInt8)} (h : MRheld B w R j rv lv lines) (k : Keeps B R w w') : MRheld B w' R j rv lv lines := ⟨h.low, fun w2 h2 => h.rules w2 (k.trans h2), fun w2 h2 => h.lines w2 (k.trans h2)⟩
theorem ow_kept {w w' : World} {base : Nat} {e : TypeId} {size : Nat} {v : Value} {n : Nat} {xs : List Value} (h : w.ownsRow base e size v n xs) (hb : ∀ g, v.ownBlock = some g → w'.heap[g]? = w.heap[g]?) : w'.ownsRow base e size v n xs := by
  refine ⟨h.1, ?_⟩
  rcases h.2 with h0 | ⟨g, cap, cur, hv, hb', hg, rest⟩
  · exact .inl h0
  · exact .inr ⟨g, cap, cur, hv, hb', (hb g (by rw [hv]; rfl)).trans hg, rest⟩
theorem IsMR.hop {w w' : World} {R S B : Nat} {j : Jb} {rv lv mv : Value} {lines : List (List UInt8)} {done : Nat} {made : List (ByteArray × Int)} (h : IsMR w R j rv lv lines done mv made) (hh : MRheld B w R j rv lv lines) (hF : FrM w w' S none) (hS : S < B ∨ R < S) (hm : ∀ g, mv.ownBlock = some g → g ≠ S) :
    IsMR w' R j rv lv lines done mv made ∧ MRheld B w' R j rv lv lines := by
  have hRl := h.blk.lt
  have hlow := hh.low
  have hk := keeps_frm (B := B) hF (Nat.le_of_lt hRl) (by omega)
  have hk2 := hh.keeps hk
  exact ⟨⟨(hF.block R hRl (by omega) (by simp)).trans h.blk, fun w2 h2 => hk2.rules w2 (fun k _ hk => h2.block k hk), fun w2 h2 => hk2.lines w2 (fun k _ hk => h2.block k hk), h.row.kept (fun g hg => hF.block g (h.row.lt g hg).2 (hm g hg) (by simp))⟩, hk2⟩
theorem IsMR.stay {w w' : World} {R B : Nat} {j : Jb} {rv lv mv : Value} {lines : List (List UInt8)} {done : Nat} {made : List (ByteArray × Int)} (h : IsMR w R j rv lv lines done mv made) (hh : MRheld B w R j rv lv lines) (hb : Below w.heap.size w w') :
    IsMR w' R j rv lv lines done mv made ∧ MRheld B w' R j rv lv lines := ⟨h.blw hb, hh.keeps (Keeps.of_below hb (Nat.le_of_lt h.blk.lt))⟩
/-- What New hands back. -/
def MadeNew2 (w : World) (j : Jb) (lines : List (List UInt8)) (r : Ending) (w' : World) : Prop :=
  ∃ R rv lv, r = .returned (.tuple #[.pointer (some ⟨R, 0, none⟩), .nilIface]) ∧ IsMR w' R j rv lv lines 0 (.slice none 0 0) [] ∧ MRheld w.heap.size w' R j rv lv lines ∧ Below w.heap.size w w'
set_option maxRecDepth 100000 in
set_option maxHeartbeats 1000000 in
theorem new_ok2 (j : Jb) (rv lv : Value) (lines : List (List UInt8)) (w : World) (h : IsRules w rv j.rules) (hw : rulesWt j.rules ≤ 1000000) (hf : jobFault j = 0) (ht : IsTexts w lv (lines.map bs)) (hn : lines.length ≤ 60) (E : EnvS w) :
    Calls Tryz.prog 14 #[j.value rv, lv] w (MadeNew2 w j lines) := by
  have CK := Lib.hid (fun w h E => jobCheck_any j rv w h (by omega) E)
  have CJ := Lib.hid (fun w h => copyJob_any j rv w h hw)
  have H := Lib.hid h
  have HT := Lib.hid ht
  obtain ⟨a, cap, rfl⟩ := h.slice
  obtain ⟨la, lc, rfl, -⟩ := ht
  have HE := Lib.hid E
  rw [hf, show errV 0 = .nilIface from rfl] at CK
  clear h E hf
  obtain ⟨ln, hln⟩ : ∃ ln, ln = (lines.map bs).length := ⟨_, rfl⟩
  rw [← hln] at HT ⊢
  have hn2 : ln ≤ 60 := by rw [hln, List.length_map]; exact hn
  have CL : Hid (∀ w', Below w.heap.size w w' → Calls Tryz.prog 42 #[.slice la ln lc] w' fun e w'' => ∃ v, e = .returned v ∧ w''.ownsRow w'.heap.size 9 1 v ln (strs lines) ∧ Below w'.heap.size w' w'') := fun w' hb' => by
    obtain ⟨h1, h2⟩ := texts_src (IsTexts.below HT.out hb')
    exact cloneS_any la ln lc (strs lines) w' (by rw [hln]; simp [strs]) h1 h2 (strs_one lines) (by omega)
  have HLN := Lib.hid hln
  clear hln hn
  unfold CopyJ at CJ
  obtain ⟨l, fo, ea, sl⟩ := j
  simp only [Jb.value] at *
  obtain ⟨n, hnn⟩ : ∃ n, n = l.length := ⟨_, rfl⟩
  rw [← hnn] at H CK CJ ⊢
  have HNN := Lib.hid hnn
  clear hnn
  go_enter Tryz.func14, Tryz.ntmps14
  go_wp2_with (go_at_call 25; refine Hid.out ?_)
  refine Lib.hid ?_
  refine (CK.out _ (H.out.lower (below_box _)) (HE.out.lower (below_box _))).mono ?_
  rintro _ w1 ⟨rfl, hb1⟩
  have JB := Lib.hid ((blk_new (w := w) (cs := #[.slice a n cap, .int .i64 fo, .bool ea, .int .i64 sl]) (t := 24) rfl).blw hb1)
  have hb01 := below_trans (below_box _) hb1
  have k0 := JB.out.at (i := 0) (v := .slice a n cap) rfl
  have k1 := JB.out.at (i := 1) (v := .int .i64 fo) rfl
  have k2 := JB.out.at (i := 2) (v := .bool ea) rfl
  have k3 := JB.out.at (i := 3) (v := .int .i64 sl) rfl
  clear hb1 CK
  go_wp2_with (go_at_call 41; refine Hid.out ?_)
  refine Lib.hid ?_
  refine (CJ.out w1 (H.out.lower hb01)).mono ?_
  rintro _ w2 ⟨va, vc, rfl, HR, hb12⟩
  have hb02 := below_trans hb01 hb12
  have HRU := Lib.hid HR
  clear k0 k1 k2 k3 JB CJ HR
  dsimp only
  go_wp2_with (go_at_call 42; refine Hid.out ?_)
  refine Lib.hid ?_
  refine (CL.out w2 hb02).mono ?_
  rintro _ w3 ⟨v, rfl, hrow, hb23⟩
  have hb03 := below_trans hb02 hb23
  have HROW := Lib.hid hrow
  have HB23 := Lib.hid hb23
  clear CL hrow hb23
  obtain ⟨w4, hw4⟩ : ∃ w4, w4 = w3.alloc (.cells #[.slice va n vc, .int .i64 fo, .bool ea, .int .i64 sl, v, .int .i64 0, .slice none 0 0] 81) := ⟨_, rfl⟩
  obtain ⟨R, hR⟩ : ∃ R, R = w3.heap.size := ⟨_, rfl⟩
  have hb34 : Below w3.heap.size w3 w4 := by rw [hw4]; exact below_box _
  have HF : Hid (IsMR w4 R ⟨l, fo, ea, sl⟩ (.slice va n vc) v lines 0 (.slice none 0 0) []) := by
    refine ⟨?_, fun w' h' => ?_, fun w' h' => ?_, OwA.nil _ _ _ _⟩
    · rw [hw4]; exact blk_new hR
    · rw [hR] at h'
      have hbb : Below w3.heap.size w3 w' := hb34.trans h'
      exact HRU.out w' (fun k _ hk => (hbb.block k (Nat.lt_of_lt_of_le hk HB23.out.size)).trans (HB23.out.block k hk))
    · rw [hR] at h'
      have hbb : Below w3.heap.size w3 w' := hb34.trans h'
      have h := HROW.out
      rw [HLN.out, List.length_map] at h
      exact IsTexts.below (isTexts_of h) hbb
  have HH : Hid (MRheld w.heap.size w4 R ⟨l, fo, ea, sl⟩ (.slice va n vc) v lines) := by
    have hb24 : Below w2.heap.size w2 w4 := below_trans HB23.out hb34
    have hz1 := hb01.size
    have hz2 := hb02.size
    have hz3 := HB23.out.size
    have hz4 := hb12.size
    refine ⟨by omega, fun w' h' => ?_, fun w' h' => ?_⟩
    · exact HRU.out w' ((Keeps.of_below hb24 (Nat.le_refl _)).trans (h'.sub hz1 (by omega)))
    · have h := ow_kept (w' := w') HROW.out (fun g hg => by
        have h5 := HROW.out.lt g hg
        exact (h' g (by omega) (by omega)).trans (hb34.block g h5.2))
      rw [HLN.out, List.length_map] at h
      exact isTexts_of h
  have HB := Lib.hid (below_trans hb03 hb34)
  have HW := Lib.hid hw4
  have HRR := Lib.hid hR
  obtain ⟨vla, vlc, ev⟩ : ∃ vla vlc, v = .slice vla ln vlc := by
    rcases row_slice HROW.out with ⟨h1, h2⟩ | ⟨g, c, h1, _⟩
    · exact ⟨_, _, by rw [h1, h2]⟩
    · exact ⟨_, _, h1⟩
  subst ev
  clear hw4 hR hb34 hb03 hb01 hb02 hb12 HROW HB23 HRU
  dsimp only
  go_wp2
  rw [← HW.out, ← HRR.out]
  go_ret2
  exact ⟨R, _, _, rfl, HF.out, HH.out, HB.out⟩
end Go.Proofs.YtmgpacenooncjaaGreatDoor
/- Mapper: what holds; the pair of a look. -/
namespace Go.Proofs.YtmgpacenooncjaaGreatDoor
open Go.ChangeShapes Go.WideShapes Go.ChangeAt Go.RowKit
set_option maxRecDepth 100000 in
set_option maxHeartbeats 1000000 in
theorem holds_any (r : Rl) (ai ak av : Option Addr) (ci ck cv : Nat) (R : Rc) (ra : Option Addr) (rc : Nat) (w : World) (hR : IsTexts w (.slice ra R.words.length rc) (R.words.map bs)) (xi : IsEx w (.slice ai r.iff.a.length ci) r.iff) (hr : RlIn r) (hM : RcIn R 1000000) (E : EnvS w) :
    Calls Tryz.prog 48 #[r.value (.slice ai r.iff.a.length ci) (.slice ak r.key.a.length ck) (.slice av r.val.a.length cv), recV R ra rc] w fun e w' => e = .returned (.bool (holdsB r R)) ∧ Below w.heap.size w w' := by
  have hmix : Tryz.prog.follows .mixedOrders = true := by kernel_rfl
  have S := Lib.hid (fun w (h : IsEx w (.slice ai r.iff.a.length ci) r.iff) (hf : faultE r.iff true true = 0) hR E => StrX_any R ra rc h hR (by have := fault_wt hf; omega) hf (by have := fault_len hf hM; omega) E)
  obtain ⟨w2, hw2⟩ : ∃ w2, w2 = (w.alloc (.cells #[.bool r.each, .int .i64 r.when, .int .i64 r.iff.k, .int .i64 r.iff.n, .string (bs r.iff.s), .slice ai r.iff.a.length ci, .string (bs r.s), .int .i64 r.key.k, .int .i64 r.key.n, .string (bs r.key.s), .slice ak r.key.a.length ck, .int .i64 r.val.k, .int .i64 r.val.n, .string (bs r.val.s), .slice av r.val.a.length cv] 58)).alloc (.cells #[.string (bs R.line), .string (bs R.it), .slice ra R.words.length rc] 86) := ⟨_, rfl⟩
  have hbx : Below w.heap.size w w2 := by rw [hw2]; exact below_trans (below_box _) (below_box _)
  have e2 : w2.cell? ⟨w.heap.size, 2, none⟩ = some (.int .i64 r.iff.k) := by rw [hw2]; simp
  have e3 : w2.cell? ⟨w.heap.size, 3, none⟩ = some (.int .i64 r.iff.n) := by rw [hw2]; simp
  have e4 : w2.cell? ⟨w.heap.size, 4, none⟩ = some (.string (bs r.iff.s)) := by rw [hw2]; simp
  have e5 : w2.cell? ⟨w.heap.size, 5, none⟩ = some (.slice ai r.iff.a.length ci) := by rw [hw2]; simp
  have e6 : w2.cell? ⟨w.heap.size, 6, none⟩ = some (.string (bs r.s)) := by rw [hw2]; simp
  have r0 : w2.cell? ⟨w.heap.size + 1, 0, none⟩ = some (.string (bs R.line)) := by rw [hw2]; simp
  have r1 : w2.cell? ⟨w.heap.size + 1, 1, none⟩ = some (.string (bs R.it)) := by rw [hw2]; simp
  have r2 : w2.cell? ⟨w.heap.size + 1, 2, none⟩ = some (.slice ra R.words.length rc) := by rw [hw2]; simp
  have HW2 := Lib.hid hw2
  have HB := Lib.hid hbx
  have XI := Lib.hid (xi.lower hbx)
  have HR := Lib.hid (hR.below hbx)
  have HE := Lib.hid (E.lower hbx)
  clear hw2 hbx xi hR E
  unfold Rl.value recV
  rcases hr.when with h0 | ⟨h12, hf⟩
  · have HV : Hid (holdsB r R = true) := by
      show _ = _
      unfold holdsB
      rw [h0]; rfl
    rw [HV.out, h0]
    clear S XI HE e2 e3 e4 e5 e6 r0 r1 r2
    go_enter Tryz.func48, Tryz.ntmps48
    go_wp2
    go_ret
    exact ⟨rfl, below_trans (below_box _) (below_box _)⟩
  · replace e2 := cell_regrown e2
    replace e3 := cell_regrown e3
    replace e4 := cell_regrown e4
    replace e5 := cell_regrown e5
    replace e6 := cell_regrown e6
    replace r0 := cell_regrown r0
    replace r1 := cell_regrown r1
    replace r2 := cell_regrown r2
    have D1 : Hid (∀ d os, Calls Tryz.prog 76 #[r.iff.val (.slice ai r.iff.a.length ci), recV R ra rc] (Sort.grow (redrawn w2 d) os) fun e w'' => e = .returned (.string (bs (r.iff.str R))) ∧ ∃ p : Regrown, w'' = Sort.grow (redrawn w2 p.d) p.os) := fun d os => Calls.regrown_of (S.out _ (XI.out.lower (below_regrown _ _ _)) hf (HR.out.below (below_regrown _ _ _)) (HE.out.lower (below_regrown _ _ _)))
    unfold Ex.val recV at D1
    have hq : ∀ a b : List UInt8, ((bs a).toList == (bs b).toList) = decide (a = b) := fun a b => by
      rw [bs_toList, bs_toList]
      by_cases h : a = b
      · simp [h]
      · rw [decide_eq_false h, beq_eq_false_iff_ne]; exact h
    rcases h12 with h0 | h0
    · have HV : Hid (holdsB r R = ((bs (r.iff.str R)).toList == (bs r.s).toList)) := by
        show _ = _
        unfold holdsB
        rw [h0, if_pos rfl, hq]
      rw [HV.out]
      rw [h0] at HW2 ⊢
      clear S XI HR HE HV hq h0 hf hr
      generalize bs (r.iff.str R) = X at *
      generalize r.iff.k = xk at *
      generalize r.iff.n = xn at *
      generalize bs r.iff.s = xs at *
      generalize bs r.s = ss at *
      go_enter Tryz.func48, Tryz.ntmps48
      go_wp2
      rw [← HW2.out]
      refine wp_region_quiet_below hmix (by kernel_rfl) ?_
      repeat (quiet_step (first | (go_at_call 76; exact D1.out _ _)))
      refine wpQuiet_nil ?_
      intro _ hw'
      obtain ⟨⟨dq, osq⟩, hw''⟩ := hw'
      subst hw''
      have hbb : Below w.heap.size w (Sort.grow (redrawn w2 dq) osq) := below_trans HB.out (below_regrown w2 dq osq)
      generalize Sort.grow (redrawn w2 dq) osq = w3 at *
      go_wp2
      go_ret
      exact ⟨rfl, hbb⟩
    · have HV : Hid (holdsB r R = !((bs (r.iff.str R)).toList == (bs r.s).toList)) := by
        show _ = _
        unfold holdsB
        rw [h0, if_neg (by decide), if_pos rfl, hq]
      rw [HV.out]
      rw [h0] at HW2 ⊢
      clear S XI HR HE HV hq h0 hf hr
      generalize bs (r.iff.str R) = X at *
      generalize r.iff.k = xk at *
      generalize r.iff.n = xn at *
      generalize bs r.iff.s = xs at *
      generalize bs r.s = ss at *
      go_enter Tryz.func48, Tryz.ntmps48
      go_wp2
      rw [← HW2.out]
      refine wp_region_quiet_below hmix (by kernel_rfl) ?_
      repeat (quiet_step (first | (go_at_call 76; exact D1.out _ _)))
      refine wpQuiet_nil ?_
      intro _ hw'
      obtain ⟨⟨dq, osq⟩, hw''⟩ := hw'
      subst hw''
      have hbb : Below w.heap.size w (Sort.grow (redrawn w2 dq) osq) := below_trans HB.out (below_regrown w2 dq osq)
      generalize Sort.grow (redrawn w2 dq) osq = w3 at *
      go_wp2
      go_ret
      exact ⟨rfl, hbb⟩
end Go.Proofs.YtmgpacenooncjaaGreatDoor
/- Mapper: the pair of a look. -/
namespace Go.Proofs.YtmgpacenooncjaaGreatDoor
open Go.ChangeShapes Go.WideShapes Go.ChangeAt Go.RowKit
set_option maxRecDepth 100000 in
set_option maxHeartbeats 1000000 in
theorem pairOf_any (r : Rl) (ai ak av : Option Addr) (ci ck cv : Nat) (kind : Int) (R : Rc) (ra : Option Addr) (rc : Nat) (w : World) (hR : IsTexts w (.slice ra R.words.length rc) (R.words.map bs)) (xk : IsEx w (.slice ak r.key.a.length ck) r.key) (xv : IsEx w (.slice av r.val.a.length cv) r.val) (hr : RlIn r) (hM : RcIn R 1000000) (E : EnvS w) :
    Calls Tryz.prog 49 #[r.value (.slice ai r.iff.a.length ci) (.slice ak r.key.a.length ck) (.slice av r.val.a.length cv), recV R ra rc, .int .i64 kind] w fun e w' => e = .returned (.agg #[.string (pairL r kind R).1, .int .i64 (pairL r kind R).2]) ∧ Below w.heap.size w w' := by
  have S := Lib.hid (fun w (h : IsEx w (.slice ak r.key.a.length ck) r.key) hR E => StrX_any R ra rc h hR (by have := fault_wt hr.key; omega) hr.key (by have := fault_len hr.key hM; omega) E)
  have I := Lib.hid (fun w (h : IsEx w (.slice av r.val.a.length cv) r.val) hR E => IntX_any R ra rc h hR (by have := fault_wt hr.val; omega) hr.val (by have := fault_far hr.val hM; omega) E)
  obtain ⟨w1, hw1⟩ : ∃ w1, w1 = (w.alloc (.cells #[.bool r.each, .int .i64 r.when, .int .i64 r.iff.k, .int .i64 r.iff.n, .string (bs r.iff.s), .slice ai r.iff.a.length ci, .string (bs r.s), .int .i64 r.key.k, .int .i64 r.key.n, .string (bs r.key.s), .slice ak r.key.a.length ck, .int .i64 r.val.k, .int .i64 r.val.n, .string (bs r.val.s), .slice av r.val.a.length cv] 58)).alloc (.cells #[.string (bs R.line), .string (bs R.it), .slice ra R.words.length rc] 86) := ⟨_, rfl⟩
  have hb1 : Below w.heap.size w w1 := by rw [hw1]; exact below_trans (below_box _) (below_box _)
  have hs1 : w1.heap.size = w.heap.size + 1 + 1 := by rw [hw1]; simp
  obtain ⟨w2, hw2⟩ : ∃ w2, w2 = w1.alloc (.cells #[.string ⟨#[]⟩, .int .i64 0] 67) := ⟨_, rfl⟩
  have hb2 : Below w1.heap.size w1 w2 := by rw [hw2]; exact below_box _
  have hbx := below_trans hb1 hb2
  have e0 := cell_below (a := ⟨w.heap.size, 7, none⟩) (v := .int .i64 r.key.k) (by rw [hw1]; simp) hb2
  have e1 := cell_below (a := ⟨w.heap.size, 8, none⟩) (v := .int .i64 r.key.n) (by rw [hw1]; simp) hb2
  have e2 := cell_below (a := ⟨w.heap.size, 9, none⟩) (v := .string (bs r.key.s)) (by rw [hw1]; simp) hb2
  have e3 := cell_below (a := ⟨w.heap.size, 10, none⟩) (v := .slice ak r.key.a.length ck) (by rw [hw1]; simp) hb2
  have v0 := cell_below (a := ⟨w.heap.size, 11, none⟩) (v := .int .i64 r.val.k) (by rw [hw1]; simp) hb2
  have v1 := cell_below (a := ⟨w.heap.size, 12, none⟩) (v := .int .i64 r.val.n) (by rw [hw1]; simp) hb2
  have v2 := cell_below (a := ⟨w.heap.size, 13, none⟩) (v := .string (bs r.val.s)) (by rw [hw1]; simp) hb2
  have v3 := cell_below (a := ⟨w.heap.size, 14, none⟩) (v := .slice av r.val.a.length cv) (by rw [hw1]; simp) hb2
  have r0 := cell_below (a := ⟨w.heap.size + 1, 0, none⟩) (v := .string (bs R.line)) (by rw [hw1]; simp) hb2
  have r1 := cell_below (a := ⟨w.heap.size + 1, 1, none⟩) (v := .string (bs R.it)) (by rw [hw1]; simp) hb2
  have r2 := cell_below (a := ⟨w.heap.size + 1, 2, none⟩) (v := .slice ra R.words.length rc) (by rw [hw1]; simp) hb2
  have hg : Blk w2 (w.heap.size + 1 + 1) 67 [.string ⟨#[]⟩, .int .i64 0] := by rw [hw2]; exact blk_new (cs := #[.string ⟨#[]⟩, .int .i64 0]) hs1.symm
  rw [hw1] at hw2
  have hXs : (r.key.str R).length ≤ 1000000000 := Nat.le_trans (str_len R r.key) (by have := fault_len hr.key hM; omega)
  rw [← bs_size] at hXs
  have HW2 := Lib.hid hw2
  have XK := Lib.hid (xk.lower hbx)
  have XV := Lib.hid (xv.lower hbx)
  have HR := Lib.hid (hR.below hbx)
  have HE := Lib.hid (E.lower hbx)
  clear hw2 hw1 hs1 hb1 hb2 xk xv hR E hr
  unfold Rl.value recV
  unfold Ex.val recV at S I
  simp only [pairL]
  have FI := Lib.hid (fun w => Pp.first_any kind (r.val.num R) w)
  generalize hX : bs (r.key.str R) = X at *
  have HX : Hid ((20 ≤ X.size → X.extract 0 20 = bs ((r.key.str R).take 20)) ∧ (X.size ≤ 20 → X.extract 0 X.size = bs ((r.key.str R).take 20))) := by
    subst hX
    refine ⟨fun _ => bs_take _ _, fun h => ?_⟩
    rw [bs_size] at h ⊢
    rw [bs_take, List.take_of_length_le h, List.take_of_length_le (Nat.le_refl _)]
  generalize r.val.num R = V at *
  generalize Pp.firstI kind V = fv at *
  go_enter Tryz.func49, Tryz.ntmps49
  go_wp2_with (go_at_call 76; refine Hid.out ?_)
  refine Lib.hid ?_
  rw [← HW2.out]
  refine (S.out _ XK.out HR.out HE.out).mono ?_
  rintro _ w3 ⟨rfl, hb3⟩
  replace v0 := cell_below v0 hb3
  replace v1 := cell_below v1 hb3
  replace v2 := cell_below v2 hb3
  replace v3 := cell_below v3 hb3
  replace r0 := cell_below r0 hb3
  replace r1 := cell_below r1 hb3
  replace r2 := cell_below r2 hb3
  have hg3 := hg.blw hb3
  have hb03 := below_trans hbx hb3
  have IV := Lib.hid (I.out w3 (XV.out.lower hb3) (HR.out.below hb3) (HE.out.lower hb3))
  clear e0 e1 e2 e3 hg hb3 hbx S I XK XV HR HE HW2
  have HMIN : ∃ (m : Nat), min (X.size : Int) 20 = (m : Int) ∧ m ≤ X.size ∧ X.extract 0 m = bs ((r.key.str R).take 20) := by
    by_cases h : X.size ≤ 20
    · exact ⟨X.size, by omega, Nat.le_refl _, HX.out.2 h⟩
    · exact ⟨20, by omega, by omega, HX.out.1 (by omega)⟩
  obtain ⟨m, hm, hmX, hmE⟩ := HMIN
  have HME := Lib.hid hmE
  clear hmE HX
  go_wp2_with (go_at_call 78; refine Hid.out ?_)
  refine Lib.hid ?_
  refine IV.out.mono ?_
  rintro _ w4 ⟨rfl, hb4⟩
  have hg4 := hg3.blw hb4
  have hb04 := below_trans hb03 hb4
  have q0 := hg4.at (i := 0) (v := .string ⟨#[]⟩) rfl
  have q1 := hg4.at (i := 1) (v := .int .i64 0) rfl
  have f0 := hg4.frozen 0
  have f1 := hg4.frozen 1
  have HG := Lib.hid hg4
  clear hb4 hg4 hg3 hb03 v0 v1 v2 v3 r0 r1 r2 IV
  go_wp2_with (go_at_call 77; refine (FI.out _).mono ?_; rintro _ w5 ⟨rfl, h5⟩; rw [h5]; clear h5 w5)
  (try simp only [Exit.inBlock, Exit.then])
  have g2 := (HG.out.set 0 (.string (X.extract 0 m))).set 1 (.int .i64 fv)
  have hp1 : Below w.heap.size w ((w4.setCell ⟨w.heap.size + 1 + 1, 0, none⟩ (.string (X.extract 0 m))).setCell ⟨w.heap.size + 1 + 1, 1, none⟩ (.int .i64 fv)) := (hb04.setCell (p := ⟨w.heap.size + 1 + 1, 0, none⟩) (by simp; omega) _).setCell (p := ⟨w.heap.size + 1 + 1, 1, none⟩) (by simp; omega) _
  refine bodyPost_ret (results_cell_row rfl _ _ (w.heap.size + 1 + 1) 67 #[.string (X.extract 0 m), .int .i64 fv] (0, 0) _ rfl g2 Tryz.underlying67 rfl (by kernel_rfl)) rfl ?_
  exact ⟨by rw [← HME.out], hp1⟩
end Go.Proofs.YtmgpacenooncjaaGreatDoor
/- Mapper: Pairs. -/
namespace Go.Proofs.YtmgpacenooncjaaGreatDoor
open Go.ChangeShapes Go.WideShapes Go.ChangeAt Go.RowKit
def ruleCells (r : Rl) (ai ak av : Option Addr) (ci ck cv : Nat) : List Value := [.bool r.each, .int .i64 r.when, .int .i64 r.iff.k, .int .i64 r.iff.n, .string (bs r.iff.s), .slice ai r.iff.a.length ci, .string (bs r.s), .int .i64 r.key.k, .int .i64 r.key.n, .string (bs r.key.s), .slice ak r.key.a.length ck, .int .i64 r.val.k, .int .i64 r.val.n, .string (bs r.val.s), .slice av r.val.a.length cv]
theorem ruleAt {w : World} {B : Nat} {r : Rl} {ai ak av : Option Addr} {ci ck cv : Nat} (h : Blk w B 58 (ruleCells r ai ak av ci ck cv)) : w.cell? ⟨B, 0, none⟩ = some (.bool r.each) ∧ w.cell? ⟨B, 1, none⟩ = some (.int .i64 r.when) ∧ w.cell? ⟨B, 2, none⟩ = some (.int .i64 r.iff.k) ∧ w.cell? ⟨B, 3, none⟩ = some (.int .i64 r.iff.n) ∧ w.cell? ⟨B, 4, none⟩ = some (.string (bs r.iff.s)) ∧ w.cell? ⟨B, 5, none⟩ = some (.slice ai r.iff.a.length ci) ∧ w.cell? ⟨B, 6, none⟩ = some (.string (bs r.s)) ∧ w.cell? ⟨B, 7, none⟩ = some (.int .i64 r.key.k) ∧ w.cell? ⟨B, 8, none⟩ = some (.int .i64 r.key.n) ∧ w.cell? ⟨B, 9, none⟩ = some (.string (bs r.key.s)) ∧ w.cell? ⟨B, 10, none⟩ = some (.slice ak r.key.a.length ck) ∧ w.cell? ⟨B, 11, none⟩ = some (.int .i64 r.val.k) ∧ w.cell? ⟨B, 12, none⟩ = some (.int .i64 r.val.n) ∧ w.cell? ⟨B, 13, none⟩ = some (.string (bs r.val.s)) ∧ w.cell? ⟨B, 14, none⟩ = some (.slice av r.val.a.length cv) :=
  ⟨h.at rfl, h.at rfl, h.at rfl, h.at rfl, h.at rfl, h.at rfl, h.at rfl, h.at rfl, h.at rfl, h.at rfl, h.at rfl, h.at rfl, h.at rfl, h.at rfl, h.at rfl⟩
/-- What Pairs has made by now, beside what it goes over. -/
structure Mk (w0 wr : World) (lv : Value) (acc : List (ByteArray × Int)) : Prop where
  row : wr.ownsRow w0.heap.size 67 2 lv acc.length (Pp.cellsP acc)
  bel : Below w0.heap.size w0 wr
structure Mi (w0 wr : World) (B : Nat) (cs : List Value) (u wv : Value) (L : List Rc) (lv : Value) (acc : List (ByteArray × Int)) : Prop where
  md : Mk w0 wr lv acc
  rule : Blk wr B 58 cs
  recs : wr.ownsRow w0.heap.size 86 3 u L.length (cellsR wv L)
theorem Mk.below {w0 wr w' : World} {lv : Value} {acc : List (ByteArray × Int)} (h : Mk w0 wr lv acc) (hb : Below wr.heap.size wr w') : Mk w0 w' lv acc := ⟨ow_below h.row hb, below_trans h.bel hb⟩
theorem Mi.below {w0 wr w' : World} {B : Nat} {cs : List Value} {u wv lv : Value} {L : List Rc} {acc : List (ByteArray × Int)} (h : Mi w0 wr B cs u wv L lv acc) (hb : Below wr.heap.size wr w') : Mi w0 w' B cs u wv L lv acc := ⟨h.md.below hb, h.rule.blw hb, ow_below h.recs hb⟩
theorem ruleP_take (r : Rl) (kind : Int) (L : List Rc) (k : Nat) (x : Rc) (hx : L[k]? = some x) : ((L.take (k + 1)).filter (holdsB r)).map (pairL r kind) = ((L.take k).filter (holdsB r)).map (pairL r kind) ++ (if holdsB r x = true then [pairL r kind x] else []) := by
  rw [take_snoc hx, List.filter_append, List.map_append]
  congr 1
  cases h : holdsB r x <;> simp [h]
theorem pairInfo2 : (Tryz.prog.info? 67).map (fun i => (i.zero, i.size, i.bytes)) = some (some (.agg #[.string ⟨#[]⟩, .int .i64 0]), 2, 24) := by kernel_rfl
set_option maxRecDepth 100000 in
set_option maxHeartbeats 2000000 in
theorem pairs_any (j : Jb) (rv : Value) (line : List UInt8) (w : World) (h : IsRules w rv j.rules) (hw : rulesWt j.rules ≤ 1000000000) (hf : jobFault j = 0) (hl : line.length ≤ 100000) (E : EnvS w) :
    Calls Tryz.prog 18 #[j.value rv, .string (bs line)] w fun e w' => ∃ u, e = .returned u ∧ w'.ownsRow w.heap.size 67 2 u (rulesP j.rules j.fold line).length (Pp.cellsP (rulesP j.rules j.fold line)) ∧ Below w.heap.size w w' := by
  have CK := Lib.hid (fun w h E => jobCheck_any j rv w h hw E)
  rw [hf] at CK
  obtain ⟨nw, hnw⟩ : ∃ nw, nw = (wordsL line).length := ⟨_, rfl⟩
  have OF := Lib.hid (fun w E => of_any line nw hnw w E (by omega))
  have HNW := Lib.hid hnw
  clear hnw
  obtain ⟨hl1, hl4, -, -, -, -, hrf⟩ := jobFault_parts hf
  have HRF := Lib.hid (rulesFault_all hrf)
  clear hf hrf
  obtain ⟨ip, hp0, hp1, hp2, hp3⟩ := info_parts pairInfo2
  obtain ⟨l, fo, ea', sl⟩ := j
  simp only [Jb.value] at *
  have H := Lib.hid h
  obtain ⟨a, cap, b, off, AI, AK, AV, rfl, ha, hc⟩ := h
  have HA := Lib.hid ha
  have HC := Lib.hid hc
  have HE := Lib.hid E
  clear ha hc E
  obtain ⟨n, hn⟩ : ∃ n, n = l.length := ⟨_, rfl⟩
  rw [← hn] at H CK hl1 hl4 ⊢
  have HN := Lib.hid hn
  clear hn
  unfold errV at CK
  simp only [if_pos] at CK
  go_enter Tryz.func18, Tryz.ntmps18
  go_wp2_with (go_at_call 25; refine Hid.out ?_)
  refine Lib.hid ?_
  refine (CK.out _ (H.out.lower (below_box _)) (HE.out.lower (below_box _))).mono ?_
  rintro _ w1 ⟨rfl, hb1⟩
  have JB := Lib.hid ((blk_new (w := w) (cs := #[.slice a n cap, .int .i64 fo, .bool ea', .int .i64 sl]) (t := 24) rfl).blw hb1)
  have hb01 := below_trans (below_box _) hb1
  clear CK hb1
  go_wp2_with (go_at_call 46; refine Hid.out ?_)
  refine Lib.hid ?_
  refine (OF.out w1 (HE.out.lower hb01).toEnv0).mono ?_
  rintro _ w2 ⟨ra, rc, rfl, HT, hb2, -⟩
  obtain ⟨w3, hw3⟩ : ∃ w3, w3 = w2.alloc (.cells #[.string (bs line), .string ⟨#[]⟩, .slice ra nw rc] 86) := ⟨_, rfl⟩
  have hb23 : Below w2.heap.size w2 w3 := by rw [hw3]; exact below_box _
  have hb13 := below_trans hb2 hb23
  have hb03 := below_trans hb01 hb13
  obtain ⟨G, hG⟩ : ∃ G, G = w2.heap.size := ⟨_, rfl⟩
  have RB : Hid (Blk w3 G 86 [.string (bs line), .string ⟨#[]⟩, .slice ra nw rc]) := by
    show Blk _ _ _ _
    rw [hw3]
    exact blk_new (cs := #[.string (bs line), .string ⟨#[]⟩, .slice ra nw rc]) hG
  have HT3 : Hid (IsTexts w3 (.slice ra nw rc) ((wordsL line).map bs)) := IsTexts.below HT.out hb23
  have JB3 := Lib.hid (JB.out.blw hb13)
  have HW3 := Lib.hid hw3
  have HGG := Lib.hid hG
  have HB03 := Lib.hid hb03
  have k0 := JB3.out.at (i := 0) (v := .slice a n cap) rfl
  clear hw3 hG hb23 hb13 hb2 hb01 HT JB hb03 OF
  go_upto_region 5 with fail
  rw [← HW3.out, ← HGG.out]
  clear HW3 HGG
  go_wp2
  clear k0
  have M0 : Hid (Mk w3 w3 (.slice none 0 0) (rulesP (l.take 0) fo line)) := ⟨World.ownsRow_nil _ _ _ _, Below.refl _ _⟩
  go_loopg [5, 19] n (fun gg lv iv wr => ∃ i : Nat, gg = n - i ∧ i ≤ n ∧ iv = .int .i64 i ∧ Hid (Mk w3 wr lv (rulesP (l.take i) fo line)))
  case atStart => exact ⟨0, rfl, Nat.zero_le _, rfl, M0⟩
  case round =>
    clear M0
    obtain ⟨i, hgi, hi, rfl, HM⟩ := hrel
    have HGI := Lib.hid hgi
    clear hgi
    have hb3r := HM.out.bel
    by_cases hlt : i < n
    · obtain ⟨r, hr⟩ : ∃ r, l[i]? = some r := ⟨l[i]'(by have := HN.out; omega), by simp⟩
      have hbw := below_trans HB03.out hb3r
      have ea := HA.out (by have := HN.out; omega)
      subst ea
      obtain ⟨⟨c0, c1, c2, c3, c4, c5, c6, c7, c8, c9, c10, c11, c12, c13, c14⟩, xi, xk, xv⟩ := HC.out i r hr
      obtain ⟨ai, ci, ei⟩ := xi.slice
      obtain ⟨ak, ck, ek⟩ := xk.slice
      obtain ⟨av, cv, ev⟩ := xv.slice
      rw [ei] at c5 xi
      rw [ek] at c10 xk
      rw [ev] at c14 xv
      replace c0 := cell_below c0 hbw
      replace c1 := cell_below c1 hbw
      replace c2 := cell_below c2 hbw
      replace c3 := cell_below c3 hbw
      replace c4 := cell_below c4 hbw
      replace c5 := cell_below c5 hbw
      replace c6 := cell_below c6 hbw
      replace c7 := cell_below c7 hbw
      replace c8 := cell_below c8 hbw
      replace c9 := cell_below c9 hbw
      replace c10 := cell_below c10 hbw
      replace c11 := cell_below c11 hbw
      replace c12 := cell_below c12 hbw
      replace c13 := cell_below c13 hbw
      replace c14 := cell_below c14 hbw
      have XI := Lib.hid xi
      have XK := Lib.hid xk
      have XV := Lib.hid xv
      have HR := Lib.hid (rlIn_of (HRF.out r (List.mem_of_getElem? hr)))
      have HRR := Lib.hid hr
      clear xi xk xv ei ek ev hr hbw
      obtain ⟨w4, hw4⟩ : ∃ w4, w4 = wr.alloc (.cells #[.bool r.each, .int .i64 r.when, .int .i64 r.iff.k, .int .i64 r.iff.n, .string (bs r.iff.s), .slice ai r.iff.a.length ci, .string (bs r.s), .int .i64 r.key.k, .int .i64 r.key.n, .string (bs r.key.s), .slice ak r.key.a.length ck, .int .i64 r.val.k, .int .i64 r.val.n, .string (bs r.val.s), .slice av r.val.a.length cv] 58) := ⟨_, rfl⟩
      obtain ⟨B, hB⟩ : ∃ B, B = wr.heap.size := ⟨_, rfl⟩
      have RU : Hid (Blk w4 B 58 (ruleCells r ai ak av ci ck cv)) := by
        show Blk _ _ _ _
        rw [hw4]
        exact blk_new hB
      have hbr4 : Below wr.heap.size wr w4 := by rw [hw4]; exact below_box _
      have HM4 := Lib.hid (HM.out.below hbr4)
      have hb04 := below_trans HB03.out HM4.out.bel
      have HT4 : Hid (IsTexts w4 (.slice ra nw rc) ((wordsL line).map bs)) := IsTexts.below HT3.out HM4.out.bel
      have LK : Hid (Calls Tryz.prog 47 #[.agg #[.bool r.each, .int .i64 r.when, .int .i64 r.iff.k, .int .i64 r.iff.n, .string (bs r.iff.s), .slice ai r.iff.a.length ci, .string (bs r.s), .int .i64 r.key.k, .int .i64 r.key.n, .string (bs r.key.s), .slice ak r.key.a.length ck, .int .i64 r.val.k, .int .i64 r.val.n, .string (bs r.val.s), .slice av r.val.a.length cv], .agg #[.string (bs line), .string ⟨#[]⟩, .slice ra nw rc]] w4 fun e w' => ∃ u, e = .returned u ∧ w'.ownsRow w4.heap.size 86 3 u (looksL r.each (ofL line)).length (cellsR (.slice ra nw rc) (looksL r.each (ofL line))) ∧ Below w4.heap.size w4 w') := by
        have h := looks_any r ai ak av ci ck cv (ofL line) ra rc w4 (by
          have := HT4.out
          rw [HNW.out] at this
          exact this) (by have := words_len line; show (wordsL line).length ≤ _; omega)
        rw [show (ofL line).words.length = nw from HNW.out.symm] at h
        unfold Rl.value recV at h
        rw [show (ofL line).words.length = nw from HNW.out.symm] at h
        exact h
      have HLL : Hid (∀ x ∈ looksL r.each (ofL line), RcIn x 1000000 ∧ x.words = wordsL line ∧ x.line = line) := fun x hx => rcIn_look (rcIn_of line 1000000 (by omega)) hx
      have HRP : Hid (rulesP (l.take (i + 1)) fo line = rulesP (l.take i) fo line ++ ((looksL r.each (ofL line)).filter (holdsB r)).map (pairL r fo)) := by
        show _ = _
        rw [take_snoc HRR.out, rulesP_append, rulesP_one]
        rfl
      have HLN : (looksL r.each (ofL line)).length ≤ 100001 := by have h1 := looks_len r.each (ofL line); have h2 : (ofL line).words.length ≤ line.length := words_len line; omega
      have HAL : (rulesP (l.take i) fo line).length ≤ 400004 := by
        have h1 := rulesP_len (l.take i) fo line
        have h2 : (l.take i).length ≤ 4 := by rw [List.length_take]; omega
        have h3 := Nat.mul_le_mul h2 (show line.length + 1 ≤ 100001 by omega)
        omega
      generalize looksL r.each (ofL line) = L at *
      generalize rulesP (l.take i) fo line = acc at *
      have HLN2 := Lib.hid HLN
      have HAL2 := Lib.hid HAL
      have HW4 := Lib.hid hw4
      have HBB := Lib.hid hB
      have HB04 := Lib.hid hb04
      obtain ⟨g0, g1, g2⟩ : w4.cell? ⟨G, 0, none⟩ = some (.string (bs line)) ∧ w4.cell? ⟨G, 1, none⟩ = some (.string ⟨#[]⟩) ∧ w4.cell? ⟨G, 2, none⟩ = some (.slice ra nw rc) := by
        have h := RB.out.blw HM4.out.bel
        exact ⟨h.at rfl, h.at rfl, h.at rfl⟩
      obtain ⟨q0, q1, q2, q3, q4, q5, q6, q7, q8, q9, q10, q11, q12, q13, q14⟩ := ruleAt RU.out
      clear hw4 hB hbr4 hb3r HLN HAL hb04 HM
      go_upto_region 8 with fail
      rw [← HW4.out, ← HBB.out]
      clear HW4 c0 c1 c2 c3 c4 c5 c6 c7 c8 c9 c10 c11 c12 c13 c14
      go_wp2_with (go_at_call 47; refine Hid.out ?_)
      refine Lib.hid ?_
      refine LK.out.mono ?_
      rintro _ w5 ⟨u, rfl, hrec, hb45⟩
      obtain ⟨m, hm⟩ : ∃ m, m = L.length := ⟨_, rfl⟩
      rw [← hm] at hrec
      obtain ⟨uo, uc, eu, -⟩ := isRecs_of hm hrec
      rw [← hm] at eu
      subst eu
      have I5 : Hid (Mi w3 w5 B (ruleCells r ai ak av ci ck cv) (.slice uo m uc) (.slice ra nw rc) L u5 (acc ++ ((L.take 0).filter (holdsB r)).map (pairL r fo))) := by
        refine ⟨?_, RU.out.blw hb45, by rw [← hm]; exact ow_low hrec HM4.out.bel.size⟩
        simp only [List.take_zero, List.filter_nil, List.map_nil, List.append_nil]
        exact HM4.out.below hb45
      have hmle : m ≤ 100001 := by rw [hm]; exact HLN2.out
      have HMM := Lib.hid hm
      clear LK RU HM4 HT4 hrec hb45 hm g0 g1 g2 q0 q1 q2 q3 q4 q5 q6 q7 q8 q9 q10 q11 q12 q13 q14
      dsimp only
      go_wp2
      go_loopg [5, 27] m (fun gg lv kv wq => ∃ k : Nat, gg = m - k ∧ k ≤ m ∧ kv = .int .i64 k ∧ Hid (Mi w3 wq B (ruleCells r ai ak av ci ck cv) (.slice uo m uc) (.slice ra nw rc) L lv (acc ++ ((L.take k).filter (holdsB r)).map (pairL r fo))))
      case atStart => exact ⟨0, rfl, Nat.zero_le _, rfl, I5⟩
      case round =>
        clear I5
        obtain ⟨k, hgk, hk, rfl, HI⟩ := hrel
        have HGK := Lib.hid hgk
        clear hgk
        by_cases hkm : k < m
        · have HKM := Lib.hid hkm
          obtain ⟨x, hx⟩ : ∃ x, L[k]? = some x := ⟨L[k]'(by have := HMM.out; omega), by simp⟩
          obtain ⟨rcx, hwx, -⟩ := HLL.out x (List.mem_of_getElem? hx)
          obtain ⟨a', cap', ev', hcell⟩ := isRecs_of rfl HI.out.recs
          simp only [Value.slice.injEq] at ev'
          obtain ⟨rfl, -, rfl⟩ := ev'
          obtain ⟨rb, roff, eu, s0, s1, s2⟩ := hcell k x hx
          subst eu
          obtain ⟨w6, hw6⟩ : ∃ w6, w6 = wr.alloc (.cells #[.string (bs x.line), .string (bs x.it), .slice ra nw rc] 86) := ⟨_, rfl⟩
          obtain ⟨C, hC⟩ : ∃ C, C = wr.heap.size := ⟨_, rfl⟩
          have hbr6 : Below wr.heap.size wr w6 := by rw [hw6]; exact below_box _
          have RC : Hid (Blk w6 C 86 [.string (bs x.line), .string (bs x.it), .slice ra nw rc]) := by
            show Blk _ _ _ _
            rw [hw6]
            exact blk_new hC
          have I6 := Lib.hid (HI.out.below hbr6)
          have hb06 := below_trans HB03.out I6.out.md.bel
          have hwl : x.words.length = nw := by rw [hwx]; exact HNW.out.symm
          have HT6 : ∀ w', Below w6.heap.size w6 w' → IsTexts w' (.slice ra x.words.length rc) (x.words.map bs) := fun w' hb' => by
            rw [hwl, hwx]
            exact IsTexts.below HT3.out (below_trans I6.out.md.bel hb')
          have HO : Hid (Calls Tryz.prog 48 #[.agg #[.bool r.each, .int .i64 r.when, .int .i64 r.iff.k, .int .i64 r.iff.n, .string (bs r.iff.s), .slice ai r.iff.a.length ci, .string (bs r.s), .int .i64 r.key.k, .int .i64 r.key.n, .string (bs r.key.s), .slice ak r.key.a.length ck, .int .i64 r.val.k, .int .i64 r.val.n, .string (bs r.val.s), .slice av r.val.a.length cv], .agg #[.string (bs x.line), .string (bs x.it), .slice ra nw rc]] w6 fun e w' => e = .returned (.bool (holdsB r x)) ∧ Below w6.heap.size w6 w') := by
            have h := holds_any r ai ak av ci ck cv x ra rc w6 (HT6 _ (Below.refl _ _)) (XI.out.lower hb06) HR.out rcx (HE.out.lower hb06)
            unfold Rl.value recV at h
            rw [hwl] at h
            exact h
          have PO : Hid (∀ w', Below w6.heap.size w6 w' → Calls Tryz.prog 49 #[.agg #[.bool r.each, .int .i64 r.when, .int .i64 r.iff.k, .int .i64 r.iff.n, .string (bs r.iff.s), .slice ai r.iff.a.length ci, .string (bs r.s), .int .i64 r.key.k, .int .i64 r.key.n, .string (bs r.key.s), .slice ak r.key.a.length ck, .int .i64 r.val.k, .int .i64 r.val.n, .string (bs r.val.s), .slice av r.val.a.length cv], .agg #[.string (bs x.line), .string (bs x.it), .slice ra nw rc], .int .i64 fo] w' fun e w'' => e = .returned (.agg #[.string (pairL r fo x).1, .int .i64 (pairL r fo x).2]) ∧ Below w'.heap.size w' w'') := fun w' hb' => by
            have h := pairOf_any r ai ak av ci ck cv fo x ra rc w' (HT6 _ hb') (XK.out.lower (below_trans hb06 hb')) (XV.out.lower (below_trans hb06 hb')) HR.out rcx (HE.out.lower (below_trans hb06 hb'))
            unfold Rl.value recV at h
            rw [hwl] at h
            exact h
          have HTK := Lib.hid (ruleP_take r fo L k x hx)
          have HAK : (acc ++ ((L.take k).filter (holdsB r)).map (pairL r fo)).length ≤ 500005 := by
            rw [List.length_append, List.length_map]
            have h1 := List.length_filter_le (holdsB r) (L.take k)
            have h2 := List.length_take_le' k L
            have h3 := HLN2.out
            have h4 := HAL2.out
            omega
          have HAA : Hid (acc ++ ((L.take (k + 1)).filter (holdsB r)).map (pairL r fo) = (acc ++ ((L.take k).filter (holdsB r)).map (pairL r fo)) ++ (if holdsB r x = true then [pairL r fo x] else [])) := by
            show _ = _
            rw [HTK.out, List.append_assoc]
          generalize acc ++ ((L.take k).filter (holdsB r)).map (pairL r fo) = ack at *
          generalize pairL r fo x = pp at *
          generalize holdsB r x = hb at *
          generalize bs x.line = xl at *
          generalize bs x.it = xt at *
          obtain ⟨q0, q1, q2, q3, q4, q5, q6, q7, q8, q9, q10, q11, q12, q13, q14⟩ := ruleAt I6.out.rule
          obtain ⟨z0, z1, z2⟩ : w6.cell? ⟨C, 0, none⟩ = some (.string xl) ∧ w6.cell? ⟨C, 1, none⟩ = some (.string xt) ∧ w6.cell? ⟨C, 2, none⟩ = some (.slice ra nw rc) := ⟨RC.out.at rfl, RC.out.at rfl, RC.out.at rfl⟩
          have HW6 := Lib.hid hw6
          have HCC := Lib.hid hC
          clear hw6 hC hbr6 hb06 HT6 hwl rcx hwx hx hcell HTK HI
          go_upto_region 11 with fail
          rw [← HW6.out, ← HCC.out]
          clear HW6 HCC s0 s1 s2
          go_wp2_with (go_at_call 48; refine Hid.out ?_)
          refine Lib.hid ?_
          refine HO.out.mono ?_
          rintro _ w7 ⟨rfl, hb67⟩
          have I7 := Lib.hid (I6.out.below hb67)
          have RC7 := Lib.hid (RC.out.blw hb67)
          have PO7 := Lib.hid (PO.out w7 hb67)
          clear HO PO RC I6 hb67 q0 q1 q2 q3 q4 q5 q6 q7 q8 q9 q10 q11 q12 q13 q14 z0 z1 z2
          cases hb with
          | false =>
            have HAA2 : Hid (acc ++ ((L.take (k + 1)).filter (holdsB r)).map (pairL r fo) = ack) := by
              show _ = _
              rw [HAA.out]; simp
            clear HAA
            go_wp2
            go_roundg (m - (k + 1))
            case measure => have := HGK.out; have := HKM.out; omega
            case rel => exact ⟨k + 1, rfl, HKM.out, by have := HLN2.out; have := HMM.out; have := HKM.out; go_num, by rw [HAA2.out]; exact I7.out⟩
          | true =>
            have HAA2 : Hid (acc ++ ((L.take (k + 1)).filter (holdsB r)).map (pairL r fo) = ack ++ [pp]) := by
              show _ = _
              rw [HAA.out]; simp
            clear HAA
            obtain ⟨pk, pv⟩ := pp
            obtain ⟨q0, q1, q2, q3, q4, q5, q6, q7, q8, q9, q10, q11, q12, q13, q14⟩ := ruleAt I7.out.rule
            obtain ⟨z0, z1, z2⟩ : w7.cell? ⟨C, 0, none⟩ = some (.string xl) ∧ w7.cell? ⟨C, 1, none⟩ = some (.string xt) ∧ w7.cell? ⟨C, 2, none⟩ = some (.slice ra nw rc) := ⟨RC7.out.at rfl, RC7.out.at rfl, RC7.out.at rfl⟩
            have kf := (JB3.out.blw I7.out.md.bel).at (i := 1) (v := .int .i64 fo) rfl
            go_wp2_with (go_at_call 49; refine Hid.out ?_)
            refine Lib.hid ?_
            refine PO7.out.mono ?_
            rintro _ w8 ⟨rfl, hb78⟩
            have I8 := Lib.hid (I7.out.below hb78)
            clear PO7 RC7 I7 hb78 q0 q1 q2 q3 q4 q5 q6 q7 q8 q9 q10 q11 q12 q13 q14 z0 z1 z2 kf
            dsimp only
            go_wp2_with (at_builtin; refine Hid.out ?_)
            refine Lib.hid ?_
            refine wpList_append_own _ rfl (.tmp 34) (.tmp 40) 42 rfl w3.heap.size 67 ip (.agg #[.string ⟨#[]⟩, .int .i64 0]) 2 24 Tryz.underlying42 hp0 hp1 hp2 hp3 rfl (by decide) _ ack.length (Pp.cellsP ack) rfl (I8.out.md.row.alloc _) ⟨w8.heap.size, 0, none⟩ 1 1 [.string pk, .int .i64 pv] rfl rfl ?c1 ?c5 ?c2 ?c3 ?c4 ?_
            case c1 => exact lit_cells rfl (show 2 ≤ maxLen by decide)
            case c5 => intro u hu; simp at hu; rcases hu with rfl | rfl <;> rfl
            case c2 => unfold maxLen; omega
            case c3 => omega
            case c4 => have := I8.out.md.bel.size; simp; omega
            intro v2 w9 hown9 hg9 _
            have I9 : Hid (Mi w3 w9 B (ruleCells r ai ak av ci ck cv) (.slice (some ⟨rb, roff, none⟩) m uc) (.slice ra nw rc) L v2 (ack ++ [(pk, pv)])) := by
              refine ⟨⟨?_, ?_⟩, ?_, ?_⟩
              · rw [List.length_append, Pp.cellsP_append]
                exact hown9
              · have hs := I8.out.md.bel.size
                exact (I8.out.md.bel.alloc (by omega) _).grown hg9 (by simp; omega) (fun q hq => (I8.out.md.row.lt q hq).1)
              · exact blk_ow (I8.out.rule.blw (below_box _)) (I8.out.md.row.alloc _) (by decide) hg9
              · exact ow_grown (I8.out.recs.alloc _) (I8.out.md.row.alloc _) (by decide) hg9
            clear hown9 hg9 I8
            go_wp2
            go_roundg (m - (k + 1))
            case measure => have := HGK.out; have := HKM.out; omega
            case rel => exact ⟨k + 1, rfl, HKM.out, by have := HLN2.out; have := HMM.out; have := HKM.out; go_num, by rw [HAA2.out]; exact I9.out⟩
        · have HMD : Hid (Mk w3 wr u5 (rulesP (l.take (i + 1)) fo line)) := by
            have h := HI.out.md
            rw [List.take_of_length_le (by have := HMM.out; omega), ← HRP.out] at h
            exact h
          clear HI
          go_wp2
          go_roundg (n - (i + 1))
          case measure => have := HGI.out; omega
          case rel => exact ⟨i + 1, rfl, by omega, by go_num, HMD⟩
    · go_wp2
      have HFIN : Hid (l.take i = l) := List.take_of_length_le (by have := HN.out; omega)
      rw [HFIN.out] at HM
      have HL1 := Lib.hid (ow_low HM.out.row HB03.out.size)
      have HL2 := Lib.hid (below_trans HB03.out HM.out.bel)
      go_ret
      exact ⟨_, rfl, HL1.out, HL2.out⟩
end Go.Proofs.YtmgpacenooncjaaGreatDoor
/- Mapper: what a job makes of lines; a run that may go on; what Step does. -/
namespace Go.Proofs.YtmgpacenooncjaaGreatDoor
open Go.ChangeShapes Go.WideShapes Go.ChangeAt Go.RowKit
/-- What a job makes of lines. -/
def madeOf (j : Jb) (lines : List (List UInt8)) : List (ByteArray × Int) := lines.flatMap fun l => rulesP j.rules j.fold l
theorem madeOf_append (j : Jb) (a b : List (List UInt8)) : madeOf j (a ++ b) = madeOf j a ++ madeOf j b := by simp [madeOf]
theorem madeOf_len (j : Jb) (lines : List (List UInt8)) (h4 : j.rules.length ≤ 4) (hl : ∀ x ∈ lines, x.length ≤ 1000) : (madeOf j lines).length ≤ lines.length * 4004 := by
  induction lines with
  | nil => simp [madeOf]
  | cons x l ih =>
    have h1 := rulesP_len j.rules j.fold x
    have h2 := hl x (by simp)
    have h3 := Nat.mul_le_mul h4 (show x.length + 1 ≤ 1001 by omega)
    have h5 := ih fun y hy => hl y (by simp [hy])
    have e : madeOf j (x :: l) = rulesP j.rules j.fold x ++ madeOf j l := by simp [madeOf]
    rw [e, List.length_append, List.length_cons, Nat.succ_mul]
    omega
/-- A run that may go on. -/
structure MRin (w : World) (R : Nat) (j : Jb) (lines : List (List UInt8)) : Prop where
  fault : jobFault j = 0
  wt : rulesWt j.rules ≤ 1000000000
  many : lines.length ≤ 60
  long : ∀ x ∈ lines, x.length ≤ 1000
  env : ∀ w', Below R w w' → EnvS w'
/-- What Step does. -/
def StepDoes : Prop := ∀ (R done : Nat) (n : Int) (j : Jb) (rv lv mv : Value) (lines : List (List UInt8)) (w : World),
    IsMR w R j rv lv lines done mv (madeOf j (lines.take done)) → MRin w R j lines → done ≤ lines.length → -9223372036854775808 ≤ n → n ≤ 9223372036854775807 →
    Calls Tryz.prog 15 #[.pointer (some ⟨R, 0, none⟩), .int .i64 n] w fun e w' => ∃ (d' : Nat) (mv' : Value), d' = done + min n.toNat (lines.length - done) ∧ e = .returned (.bool (decide (d' = lines.length))) ∧ IsMR w' R j rv lv lines d' mv' (madeOf j (lines.take d')) ∧ FrM w w' R mv.ownBlock ∧ (mv'.ownBlock = mv.ownBlock ∨ ∀ b, mv'.ownBlock = some b → w.heap.size ≤ b)
/-- All lines at once. -/
theorem step_all (S : StepDoes) (R : Nat) (n : Int) (j : Jb) (rv lv : Value) (lines : List (List UInt8)) (w : World) (h : IsMR w R j rv lv lines 0 (.slice none 0 0) []) (hi : MRin w R j lines) (hn : 60 ≤ n) (hn1 : n ≤ 9223372036854775807) :
    Calls Tryz.prog 15 #[.pointer (some ⟨R, 0, none⟩), .int .i64 n] w fun e w' => e = .returned (.bool true) ∧ ∃ mv', IsMR w' R j rv lv lines lines.length mv' (madeOf j lines) ∧ FrM w w' R none ∧ ∀ b, mv'.ownBlock = some b → w.heap.size ≤ b := by
  refine (S R 0 n j rv lv (.slice none 0 0) lines w h hi (Nat.zero_le _) (by omega) hn1).mono ?_
  rintro e w' ⟨d', mv', hd, rfl, hr, hF, ho⟩
  have hm := hi.many
  have e : d' = lines.length := by rw [hd]; omega
  subst e
  rw [List.take_length] at hr
  refine ⟨by simp, mv', hr, hF, fun b hb => ?_⟩
  rcases ho with h1 | h1
  · rw [h1] at hb; cases hb
  · exact h1 b hb
end Go.Proofs.YtmgpacenooncjaaGreatDoor
/- Contracts of pair.Sum and pair.Slice. -/
namespace Go.Proofs.YtmgpacenooncjaaGreatDoor.Pp
open Go.ChangeShapes Go.WideShapes Go.ChangeAt Go.RowKit
theorem snocB (s : ByteArray) (k : Nat) (h : k < s.size) : s.data.toList.take (k + 1) = s.data.toList.take k ++ [s[k]] := by
  rw [List.take_succ_eq_append_getElem (by simpa using h)]; rfl
def stp (h : Int) (c : UInt8) : Int := bits BinOp.xor IntKind.u32 h ((c.toNat : Int) % 4294967296) * 16777619 % 4294967296
def ksum (l : List UInt8) : Int := l.foldl stp 2166136261
theorem ksum_snoc (l : List UInt8) (c : UInt8) : ksum (l ++ [c]) = bits BinOp.xor IntKind.u32 (ksum l) ((c.toNat : Int) % 4294967296) * 16777619 % 4294967296 := by
  unfold ksum; rw [List.foldl_append]; rfl
theorem stp_bd (h : Int) (c : UInt8) : 0 ≤ stp h c ∧ stp h c < 4294967296 := by
  unfold stp; omega
theorem ksum_bd (l : List UInt8) : 0 ≤ ksum l ∧ ksum l < 4294967296 := by
  unfold ksum
  rcases List.eq_nil_or_concat l with rfl | ⟨l, c, rfl⟩
  · simp
  · rw [List.concat_eq_append, List.foldl_append]; exact stp_bd _ _
theorem ret_int {k : IntKind} {a b : Int} (h : a = b) : Ending.returned (.int k a) = .returned (.int k b) := by rw [h]

set_option maxHeartbeats 400000 in
theorem sum_any (s : ByteArray) (w : World) (hs : s.size ≤ maxLen) :
    Calls Tryz.prog 82 #[.string s] w fun e w' => e = .returned (.int .u32 (ksum s.data.toList)) ∧ w' = w := by
  unfold maxLen at hs
  go_enter Tryz.func82, Tryz.ntmps82
  go_wp2
  go_loop [3, 4, 7] (fun h _ j => ∃ k : Nat, k ≤ s.size ∧ j = .int .i64 k ∧ h = .int .u32 (ksum (s.data.toList.take k))) (fun _ _ i => s.size - (intOf i).toNat)
  case atStart => exact ⟨0, Nat.zero_le _, rfl, rfl⟩
  case round =>
    obtain ⟨k, hk, rfl, rfl⟩ := hrel
    by_cases hlt : k < s.size
    · have HS : Hid (ksum (s.data.toList.take (k + 1)) = bits BinOp.xor IntKind.u32 (ksum (s.data.toList.take k)) ((s[k].toNat : Int) % 4294967296) * 16777619 % 4294967296) := by
        rw [snocB s k hlt]; exact ksum_snoc _ _
      go_wp2
      go_round
      case rel => exact ⟨k + 1, by omega, by go_num, by rw [HS.out]⟩
      case measure => simp [intOf]; omega
    · go_wp2
      go_ret
      exact ⟨ret_int (by rw [List.take_of_length_le (by simp; omega)]), rfl⟩
set_option maxHeartbeats 400000 in
theorem slice_any (s : ByteArray) (n : Int) (w : World) (hs : s.size ≤ maxLen) (h1 : 1 ≤ n) (h2 : n ≤ 1000) :
    Calls Tryz.prog 51 #[.string s, .int .i64 n] w fun e w' => e = .returned (.int .i64 (ksum s.data.toList % n)) ∧ w' = w := by
  have hb := ksum_bd s.data.toList
  have hm := Int.emod_nonneg (ksum s.data.toList) (show n ≠ 0 by omega)
  have hm2 := Int.emod_lt_of_pos (ksum s.data.toList) (show 0 < n by omega)
  go_enter Tryz.func51, Tryz.ntmps51
  go_wp2_with (go_at_call 82; refine (sum_any _ _ hs).mono ?_; rintro e w' ⟨rfl, rfl⟩)
  go_ret
  exact ⟨rfl, rfl⟩
end Go.Proofs.YtmgpacenooncjaaGreatDoor.Pp
/- Contracts of order.Merge. Written by tpl/mk_mrg.py. -/
namespace Go.Proofs.YtmgpacenooncjaaGreatDoor.Pp
open Go.ChangeShapes Go.WideShapes Go.ChangeAt Go.RowKit
open Stable
/-- A slice value of slices of pairs. -/
def IsLists (w : World) (v : Value) (ls : List (List (ByteArray × Int))) : Prop :=
  ∃ a cap, v = .slice a ls.length cap ∧ ∀ i (h : i < ls.length), ∃ b off u, a = some ⟨b, off, none⟩ ∧ w.cell? ⟨b, off + i, none⟩ = some u ∧ IsPairs w u ls[i]
def lsAt (ls : List (List (ByteArray × Int))) (k : Nat) : List (ByteArray × Int) := ls[k]?.getD []
def flatT (ls : List (List (ByteArray × Int))) (k : Nat) : List (ByteArray × Int) := (ls.take k).flatten
theorem isLists_at {w : World} {ao : Option Addr} {n cap : Nat} {ls : List (List (ByteArray × Int))} (h : IsLists w (.slice ao n cap) ls) (k : Nat) (hk : k < ls.length) : ∃ b off u, ao = some ⟨b, off, none⟩ ∧ w.cell? ⟨b, off + k, none⟩ = some u ∧ IsPairs w u (lsAt ls k) := by
  obtain ⟨a, c, e, hc⟩ := h
  injection e with e1
  obtain ⟨b, off, u, ea, c0, hu⟩ := hc k hk
  refine ⟨b, off, u, e1.trans ea, c0, ?_⟩
  unfold lsAt
  rw [List.getElem?_eq_getElem hk]
  exact hu
theorem flatT_succ (ls : List (List (ByteArray × Int))) (k : Nat) (h : k < ls.length) : flatT ls (k + 1) = flatT ls k ++ lsAt ls k := by
  unfold flatT lsAt
  rw [List.take_succ_eq_append_getElem h, List.flatten_append, List.getElem?_eq_getElem h]
  simp
theorem flatT_le (ls : List (List (ByteArray × Int))) (k : Nat) : (flatT ls k).length ≤ ls.flatten.length := by
  have h : ls.flatten = flatT ls k ++ (ls.drop k).flatten := by unfold flatT; rw [← List.flatten_append, List.take_append_drop]
  rw [h, List.length_append]
  omega
set_option maxRecDepth 100000 in
set_option maxHeartbeats 1000000 in
theorem merge_any (v : Value) (ls : List (List (ByteArray × Int))) (w : World) (h : IsLists w v ls) (hl : ls.length ≤ 1000000) (hs : ls.flatten.length ≤ 1000000) :
    Calls Tryz.prog 61 #[v] w fun e w' => ∃ u Z, e = .returned u ∧ Sorted Z ∧ SE ls.flatten Z ∧ Z.length = ls.flatten.length ∧ IsPairs w' u Z ∧ Below w.heap.size w w' := by
  have H := Lib.hid h
  have HSZ := Lib.hid hs
  obtain ⟨ao, cap, hv, _⟩ := h
  obtain ⟨n, hn⟩ : ∃ n, n = ls.length := ⟨_, rfl⟩
  subst hv
  rw [← hn] at H hl ⊢
  have HN := Lib.hid hn
  clear hn hs
  go_enter Tryz.func61, Tryz.ntmps61
  go_wp2_with fail
  go_loopw [3, 8] (fun av kv wr => ∃ (k : Nat), kv = .int .i64 k ∧ k ≤ n ∧ Below w.heap.size w wr ∧ Hid (wr.ownsRow w.heap.size 67 2 av (flatT ls k).length (cellsP (flatT ls k)))) (fun _ kv _ => n - (intOf kv).toNat)
  case atStart => exact ⟨0, by go_num, Nat.zero_le _, Below.refl _ _, owns_nil _ _⟩
  case round =>
    obtain ⟨k, rfl, hkn, hb, HO⟩ := hrel
    by_cases hlt : k < n
    · obtain ⟨b, off, u, ea, c0, hu⟩ := isLists_at H.out k (by have := HN.out; omega)
      subst ea
      have k0 := (hb.cell (block_lt c0)).trans c0
      have HU := Lib.hid (isPairs_below hu hb)
      obtain ⟨au, cu, eu, _⟩ := hu
      generalize (lsAt ls k).length = nu at eu
      subst eu
      clear c0
      go_wp2_with (at_builtin; refine Hid.out ?_)
      refine Lib.hid ?_
      refine wpList_append_pairs (w0 := w) rfl (.tmp 12) (.tmp 13) rfl _ (flatT ls k) rfl HO.out _ (lsAt ls k) rfl HU.out (by have h1 := flatT_le ls (k + 1); rw [flatT_succ ls k (by have := HN.out; omega), List.length_append] at h1; have := HSZ.out; omega) hb ?_
      intro v2 w2 hown2 hb2
      rw [← flatT_succ ls k (by have := HN.out; omega)] at hown2
      have HO2 := Lib.hid hown2
      clear hown2 k0 HU HO hb
      go_wp2
      go_roundw
      case rel => exact ⟨k + 1, by go_num, by omega, hb2, HO2⟩
      case measure => simp [intOf]; omega
    · have hk : flatT ls k = ls.flatten := by unfold flatT; rw [List.take_of_length_le (by have := HN.out; omega)]
      rw [hk] at HO
      have C1 := Lib.hid (sort_any _ ls.flatten wr (owns_isPairs HO.out) HSZ.out)
      clear HO hk
      go_wp2_with (go_at_call 50; refine Hid.out ?_)
      refine Lib.hid ?_
      refine C1.out.mono ?_
      rintro _ w2 ⟨u, Z, rfl, z1, z2, z3, z4, hb2⟩
      have HB := hb.trans (hb2.mono hb.size)
      have HZ := Lib.hid z3
      clear C1 hb2 z3
      go_wp2
      go_ret
      exact ⟨u, Z, rfl, z1, z2, HZ.out, z4, HB⟩
end Go.Proofs.YtmgpacenooncjaaGreatDoor.Pp
/- Mapper: a list of lists, each of its own; a run's slices, plain. -/
namespace Go.Proofs.YtmgpacenooncjaaGreatDoor
open Go.ChangeShapes Go.WideShapes Go.ChangeAt Go.RowKit
/-- In which slice a key lies. -/
def sliceN (many : Int) (k : List UInt8) : Nat := (Pp.ksum k % many).toNat
theorem sliceN_lt {many : Int} (h : 1 ≤ many) (k : List UInt8) : (sliceN many k : Int) = Pp.ksum k % many ∧ sliceN many k < many.toNat := by
  have h1 := Int.emod_nonneg (Pp.ksum k) (show many ≠ 0 by omega)
  have h2 := Int.emod_lt_of_pos (Pp.ksum k) (show 0 < many by omega)
  unfold sliceN
  omega
/-- The pairs of a slice. -/
def inSlice (many : Int) (k : Nat) (l : List (ByteArray × Int)) : List (ByteArray × Int) := l.filter fun p => decide (sliceN many (Pp.Stable.key p) = k)
theorem inSlice_snoc (many : Int) (k : Nat) (l : List (ByteArray × Int)) (p : ByteArray × Int) : inSlice many k (l ++ [p]) = if sliceN many (Pp.Stable.key p) = k then inSlice many k l ++ [p] else inSlice many k l := by
  unfold inSlice
  rw [List.filter_append]
  by_cases h : sliceN many (Pp.Stable.key p) = k
  · rw [if_pos h, List.filter_cons_of_pos (by simp [h])]; rfl
  · rw [if_neg h, List.filter_cons_of_neg (by simp [h])]; simp
/-- Lists, each of its own: the row of them, where each lies; nothing else of what was there has turned. -/
structure SL (w wr : World) (g : Nat) (vs : List Value) (ls : List (List (ByteArray × Int))) : Prop where
  lst : Blk wr g 42 vs
  low : g < w.heap.size
  len : vs.length = ls.length
  each : ∀ (k : Nat) (v : Value) (l : List (ByteArray × Int)), vs[k]? = some v → ls[k]? = some l → wr.ownsRow w.heap.size 67 2 v l.length (Pp.cellsP l)
  apart : ∀ (i j : Nat) (vi vj : Value), i ≠ j → vs[i]? = some vi → vs[j]? = some vj → ∀ g, vi.ownBlock = some g → vj.ownBlock ≠ some g
  only : Only g w wr
theorem SL.below {w wr w' : World} {g : Nat} {vs : List Value} {ls : List (List (ByteArray × Int))} (h : SL w wr g vs ls) (hb : Below wr.heap.size wr w') : SL w w' g vs ls :=
  ⟨h.lst.blw hb, h.low, h.len, fun k v l hv hl => ow_below (h.each k v l hv hl) hb, h.apart, h.only.trans (Only.of_below hb)⟩
theorem only_cell {g : Nat} {w w' : World} {a : Addr} {v : Value} (h : Only g w w') (hc : w.cell? a = some v) (hne : a.block ≠ g) : w'.cell? a = some v := by
  rw [World.cell?_of_block (h.block a.block (World.block_lt_of_cell? w a hc) (fun e => hne (Option.some.inj e)))]
  exact hc
/-- One of them has grown, and stands there anew. -/
theorem SL.put {w wr w' : World} {g i : Nat} {vs : List Value} {ls : List (List (ByteArray × Int))} {v v' : Value} {l l' : List (ByteArray × Int)} (h : SL w wr g vs ls) (hv : vs[i]? = some v) (hl : ls[i]? = some l)
    (ho : w'.ownsRow w.heap.size 67 2 v' l'.length (Pp.cellsP l')) (hg : wr.grownBy w' v.ownBlock) (hat : v'.ownBlock = v.ownBlock ∨ v'.ownBlock = none ∨ ∃ b, v'.ownBlock = some b ∧ wr.heap.size ≤ b) :
    SL w (w'.setCell ⟨g, i, none⟩ v') g (vs.set i v') (ls.set i l') := by
  have hr := h.each i v l hv hl
  have hgw := h.lst.lt
  have lst' : Blk w' g 42 vs := blk_ow h.lst hr (by decide) hg
  have old : ∀ (k : Nat) (u : Value), vs[k]? = some u → ∀ b, u.ownBlock = some b → w.heap.size ≤ b ∧ b < wr.heap.size := fun k u hu b hb => by
    obtain ⟨m, hm⟩ : ∃ m, ls[k]? = some m := ⟨ls[k]'(by rw [← h.len]; exact (List.getElem?_eq_some_iff.1 hu).1), by simp⟩
    exact (h.each k u m hu hm).lt b hb
  refine ⟨lst'.set i v', h.low, by simp [h.len], fun k u m hu hm => ?_, fun a b va vb hab hva hvb q hq => ?_, ?_⟩
  · by_cases e : k = i
    · subst e
      have hk := (List.getElem?_eq_some_iff.1 hv).1
      have hk2 := (List.getElem?_eq_some_iff.1 hl).1
      rw [List.getElem?_set, if_pos rfl, if_pos hk, Option.some.injEq] at hu
      rw [List.getElem?_set, if_pos rfl, if_pos hk2, Option.some.injEq] at hm
      subst hu hm
      exact ow_other ho lst' (by decide)
    · rw [List.getElem?_set, if_neg (fun h => e h.symm)] at hu hm
      have r := h.each k u m hu hm
      have r' : w'.ownsRow w.heap.size 67 2 u m.length (Pp.cellsP m) := r.kept hg (by
        cases hub : u.ownBlock with
        | none => exact .inl rfl
        | some b =>
          right
          intro e2
          exact h.apart k i u v e hu hv b hub e2.symm)
      exact ow_other r' lst' (by decide)
  · rw [List.getElem?_set] at hva hvb
    have newOld : ∀ (k : Nat) (u : Value), k ≠ i → vs[k]? = some u → ∀ q, v'.ownBlock = some q → u.ownBlock ≠ some q := fun k u hk hu q hq e => by
      rcases hat with h1 | h1 | ⟨b, h1, h2⟩
      · rw [h1] at hq
        exact h.apart i k v u (fun e => hk e.symm) hv hu q hq e
      · rw [h1] at hq; cases hq
      · rw [h1] at hq
        injection hq with hq
        have := (old k u hu q e).2
        omega
    by_cases ea : i = a
    · rw [if_pos ea] at hva
      split at hva
      · rw [Option.some.injEq] at hva
        subst hva
        rw [if_neg (by omega)] at hvb
        exact newOld b vb (by omega) hvb q hq
      · cases hva
    · rw [if_neg ea] at hva
      by_cases eb : i = b
      · rw [if_pos eb] at hvb
        split at hvb
        · rw [Option.some.injEq] at hvb
          subst hvb
          intro e
          exact newOld a va (by omega) hva q e hq
        · cases hvb
      · rw [if_neg eb] at hvb
        exact h.apart a b va vb hab hva hvb q hq
  · have b1 : Only g w w' := ⟨hg.os.trans h.only.os, hg.tape.trans h.only.tape, hg.output.trans h.only.output, Nat.le_trans h.only.size hg.size, fun k hk hne => (hg.block k (Nat.lt_of_lt_of_le hk h.only.size) (fun e => by have := (hr.lt k e.symm).1; omega)).trans (h.only.block k hk hne)⟩
    exact b1.setCell i v'
theorem SL.isLists {w wr : World} {g n cap : Nat} {vs : List Value} {ls : List (List (ByteArray × Int))} (h : SL w wr g vs ls) (hn : n = ls.length) : Pp.IsLists wr (.slice (some ⟨g, 0, none⟩) n cap) ls := by
  subst hn
  refine ⟨some ⟨g, 0, none⟩, cap, rfl, fun i hi => ?_⟩
  have hv : vs[i]? = some (vs[i]'(by rw [h.len]; exact hi)) := by simp
  refine ⟨g, 0, _, rfl, ?_, Pp.owns_isPairs (h.each i _ ls[i] hv (by simp))⟩
  rw [Nat.zero_add]
  exact h.lst.at hv
end Go.Proofs.YtmgpacenooncjaaGreatDoor
/- Contract of fold.Groups, its row its own. -/
namespace Go.Proofs.YtmgpacenooncjaaGreatDoor.Pp
open Go.ChangeShapes Go.WideShapes Go.ChangeAt Go.RowKit
open Grp
set_option maxRecDepth 100000 in
set_option maxHeartbeats 2000000 in
theorem groups_own (kind : Int) (v : Value) (l : List (ByteArray × Int)) (w : World) (h : IsPairs w v l) (hl : l.length ≤ 1000000) :
    Calls Tryz.prog 52 #[.int .i64 kind, v] w fun e w' => ∃ u, e = .returned u ∧ w'.ownsRow w.heap.size 67 2 u (grp kind l).length (cellsP (grp kind l)) ∧ Below w.heap.size w w' := by
  obtain ⟨ao, cap0, rfl, hc0⟩ := h
  have HC := Lib.hid hc0
  clear hc0
  obtain ⟨n, hn⟩ : ∃ n, n = l.length := ⟨_, rfl⟩
  rw [← hn] at hl ⊢
  have HN := Lib.hid hn
  clear hn
  go_enter Tryz.func52, Tryz.ntmps52
  go_wp2_with fail
  go_loopw [5, 11] (fun gv kv wr => ∃ (k : Nat), kv = .int .i64 k ∧ k ≤ n ∧ Below w.heap.size w wr ∧ Hid (wr.ownsRow w.heap.size 67 2 gv (grp kind (l.take k)).length (cellsP (grp kind (l.take k))))) (fun _ kv _ => n - (intOf kv).toNat)
  case atStart => exact ⟨0, by go_num, Nat.zero_le _, Below.refl _ _, owns_nil _ _⟩
  case round =>
    obtain ⟨k, rfl, hkn, hb, HO⟩ := hrel
    by_cases hlt : k < n
    · have hlt' : k < l.length := by have := HN.out; omega
      obtain ⟨b, off, ea, c0, c1⟩ := HC.out k hlt'
      subst ea
      have HG : Hid (grp kind (l.take (k + 1)) = Grp.step kind (grp kind (l.take k)) l[k]) := by
        show _ = _
        rw [List.take_succ_eq_append_getElem hlt', grp_snoc]
      have hgl : (grp kind (l.take k)).length ≤ k := by
        have h1 := grp_len kind (l.take k)
        have h2 := List.length_take_le k l
        omega
      replace c0 := (hb.cell (block_lt c0)).trans c0
      replace c1 := (hb.cell (block_lt c1)).trans c1
      generalize l[k] = p at c0 c1 HG
      obtain ⟨G, hG⟩ : ∃ G, G = grp kind (l.take k) := ⟨_, rfl⟩
      rw [← hG] at HO HG hgl
      clear hG
      obtain ⟨G2, hG2⟩ : ∃ G2, G2 = grp kind (l.take (k + 1)) := ⟨_, rfl⟩
      rw [← hG2] at HG
      have HG2 := Lib.hid hG2
      clear hG2
      obtain ⟨ps, pv⟩ := p
      rcases List.eq_nil_or_concat G with hG0 | ⟨A, q, hGA⟩
      · subst hG0
        obtain ⟨ga, gc, hgv⟩ : ∃ a c, u5 = .slice a 0 c := by
          rcases owns_row HO.out with ⟨h1, _⟩ | ⟨g, cap, h1, _, _⟩
          · exact ⟨_, _, h1⟩
          · exact ⟨_, _, h1⟩
        subst hgv
        go_wp2
        go_quiet (fail)
        go_wp2_with (at_builtin; refine Hid.out ?_)
        refine Lib.hid ?_
        refine wpList_append_pairs (w0 := w) rfl (.tmp 30) (.tmp 32) rfl _ [] rfl ((owns_drewN (HO.out.alloc _) _).alloc _) (.slice (some ⟨wr.heap.size + 1, 0, none⟩) 1 1) [(ps, pv)] rfl (isPairs_one ps pv _ _ (by simp)) (by simp) (blw_step hb (blw_step (blw_step (blw_box _) (blw_drewN _ _)) (blw_box _))) ?_
        intro v2 w2 hown2 hb2
        have HO2 := Lib.hid hown2
        clear c0 c1 HC HO hown2
        go_wp2
        go_roundw
        case rel => exact ⟨k + 1, by go_num, by omega, hb2, by rw [← HG2.out, HG.out]; exact HO2.out⟩
        case measure => simp [intOf]; omega
      · rw [List.concat_eq_append] at hGA
        subst hGA
        obtain ⟨g, gc, hgv, hbg, hrow⟩ : ∃ g c, u5 = .slice (some ⟨g, 0, none⟩) (A.length + 1) c ∧ w.heap.size ≤ g ∧ Row g (A ++ [q]) wr := by
          rcases owns_row HO.out with ⟨_, h2⟩ | ⟨g, cap, h1, h2, h3⟩
          · simp at h2
          · exact ⟨g, cap, by simpa using h1, h2, h3⟩
        subst hgv
        obtain ⟨q0, q1⟩ := hrow.at A.length (by simp)
        simp only [List.getElem_append_right (Nat.le_refl _), Nat.sub_self, List.getElem_singleton] at q0 q1
        have hgsz := hrow.lt
        have fz := hrow.frozen (A.length * 2 + 1)
        obtain ⟨qs, qv⟩ := q
        simp only at q0 q1
        simp only [List.length_append, List.length_cons, List.length_nil] at hgl
        obtain ⟨m, hm⟩ : ∃ m, m = A.length := ⟨_, rfl⟩
        rw [← hm] at q0 q1 fz hgl
        have HM := Lib.hid hm
        have HO' : Hid (wr.ownsRow w.heap.size 67 2 (.slice (some ⟨g, 0, none⟩) (m + 1) gc) (A ++ [(qs, qv)]).length (cellsP (A ++ [(qs, qv)]))) := by rw [hm]; exact HO.out
        rw [← hm]
        clear hm HO hrow
        have hd0 : decide ((m : Int) < 0) = false := decide_eq_false (by omega)
        by_cases hk : qs = ps
        · subst hk
          have T2 := two_any kind qv pv
          have HG3 : Hid (G2 = A ++ [(qs, two kind qv pv)]) := by
            show _ = _
            rw [HG.out, step_same kind A (qs, qv) (qs, pv) rfl]
          clear HG
          generalize two kind qv pv = x at *
          have HT2 := Lib.hid T2
          clear T2
          go_wp2
          go_quiet (fail)
          go_wp2
          obtain ⟨w1, hw1⟩ : ∃ w1, w1 = (wr.alloc (.cells #[.string qs, .int .i64 pv] 67)).drewN nq := ⟨_, rfl⟩
          have p1 : w1.cell? ⟨wr.heap.size, 1, none⟩ = some (.int .i64 pv) := by rw [hw1]; simp
          have hb1 : Below wr.heap.size wr w1 := by rw [hw1]; exact blw_step (blw_box _) (blw_drewN _ _)
          have HO1 : Hid (w1.ownsRow w.heap.size 67 2 (.slice (some ⟨g, 0, none⟩) (m + 1) gc) (A ++ [(qs, qv)]).length (cellsP (A ++ [(qs, qv)]))) := by rw [hw1]; exact owns_drewN (HO'.out.alloc _) _
          rw [← hw1]
          clear hw1 c0 c1 HC HO'
          replace q1 := (hb1.cell (p := ⟨g, m * 2 + 1, none⟩) hgsz).trans q1
          replace fz := (hb1.frozen (p := ⟨g, m * 2 + 1, none⟩) hgsz).trans fz
          go_region_with (go_at_call 83; refine (HT2.out _).mono ?_; rintro _ _ ⟨rfl, rfl⟩)
          all_goals
            have HO2 : Hid ((w1.setCell ⟨g, m * 2 + 1, none⟩ (.int .i64 x)).drew.ownsRow w.heap.size 67 2 (.slice (some ⟨g, 0, none⟩) (m + 1) gc) (A ++ [(qs, x)]).length (cellsP (A ++ [(qs, x)]))) := by
              have h1 := owns_val HO1.out x
              rw [← HM.out] at h1
              exact ⟨h1.1, h1.2⟩
            have hb2 : Below w.heap.size w (w1.setCell ⟨g, m * 2 + 1, none⟩ (.int .i64 x)).drew := blw_drew ((blw_step hb hb1).setCell hbg _)
            clear q1 fz p1 HO1
            generalize (w1.setCell ⟨g, m * 2 + 1, none⟩ (.int .i64 x)).drew = w2 at *
            go_wp2
            go_roundw
            case rel => exact ⟨k + 1, by go_num, by omega, hb2, by rw [← HG2.out, HG3.out]; exact HO2.out⟩
            case measure => simp [intOf]; omega
        · have hE := neq_list hk
          have HG3 : Hid (G2 = A ++ [(qs, qv)] ++ [(ps, pv)]) := by
            show _ = _
            rw [HG.out, step_other kind A (qs, qv) (ps, pv) hk]
          clear HG
          go_wp2
          go_quiet (fail)
          go_wp2_with (at_builtin; refine Hid.out ?_)
          refine Lib.hid ?_
          refine wpList_append_pairs (w0 := w) rfl (.tmp 30) (.tmp 32) rfl _ (A ++ [(qs, qv)]) rfl ((owns_drewN (HO'.out.alloc _) _).alloc _) (.slice (some ⟨wr.heap.size + 1, 0, none⟩) 1 1) [(ps, pv)] rfl (isPairs_one ps pv _ _ (by simp)) (by have := HM.out; simp; omega) (blw_step hb (blw_step (blw_step (blw_box _) (blw_drewN _ _)) (blw_box _))) ?_
          intro v2 w2 hown2 hb2
          have HO2 := Lib.hid hown2
          clear c0 c1 HC HO' hown2 q0 q1 fz hE hk hgsz hbg
          go_wp2
          go_roundw
          case rel => exact ⟨k + 1, by go_num, by omega, hb2, by rw [← HG2.out, HG3.out]; exact HO2.out⟩
          case measure => simp [intOf]; omega
    · have hfin : Hid (wr.ownsRow w.heap.size 67 2 u5 (grp kind l).length (cellsP (grp kind l))) := by
        have h1 := HO.out
        rw [List.take_of_length_le (by have := HN.out; omega)] at h1
        exact h1
      clear HC HO
      go_wp2
      go_ret
      exact ⟨_, rfl, hfin.out, hb⟩
end Go.Proofs.YtmgpacenooncjaaGreatDoor.Pp
