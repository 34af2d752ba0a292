/- Put together of RdM, LaidJ, OpenE. -/
import Derived.Test.YtfjpgjkfmcedoaaGreatDoorRd
import Derived.Test.YtfjpgjkfmcedoaaGreatDoorG6
import Derived.Lib.AtoiErrMem
import Derived.RegionTactic
import Derived.BigRegion
import Derived.Test.YtfjpgjkfmcedoaaGreatDoorG3
import Derived.Test.YtfjpgjkfmcedoaaGreatDoorG2
import Derived.OpenShut
import Derived.ShutString
import Derived.ChangeOld
import Derived.Lib.SmallJoins
import Derived.Deep.SlicePairs
/- The reader in memory; contracts of skip, take, word and number. -/
namespace Go.Proofs.YtfjpgjkfmcedoaaGreatDoor
open Go.ChangeShapes Go.WideShapes Go.ChangeAt Go.RowKit
/-- What the program's and the library's own variables hold, for reading jobs. -/
structure EnvR (w : World) : Prop extends EnvJ w where
  esyn : ∃ te pe, w.cell? ⟨6, 0, none⟩ = some (.iface te pe)
  erng : ∃ te pe, w.cell? ⟨7, 0, none⟩ = some (.iface te pe)
theorem EnvR.lower {w w' : World} (h : EnvR w) (hb : Below w.heap.size w w') : EnvR w' := by
  obtain ⟨t1, p1, h1⟩ := h.esyn
  obtain ⟨t2, p2, h2⟩ := h.erng
  exact ⟨h.toEnvJ.lower hb, ⟨t1, p1, cell_below h1 hb⟩, ⟨t2, p2, cell_below h2 hb⟩⟩
/-- A reader at that block has this left. -/
def RdAt (P : Nat) (s : List UInt8) (w : World) : Prop := w.heap[P]? = some (.cells #[.string (bs s)] 89 (0, 0))
theorem RdAt.cell {P : Nat} {s : List UInt8} {w : World} (h : RdAt P s w) : w.cell? ⟨P, 0, none⟩ = some (.string (bs s)) := by
  rw [cell_of_row w P 0 _ _ (0, 0) h]; rfl
theorem RdAt.frozen {P : Nat} {s : List UInt8} {w : World} (h : RdAt P s w) : w.frozen? ⟨P, 0, none⟩ = false := frozen_of_row w P 0 _ _ h
theorem RdAt.lt {P : Nat} {s : List UInt8} {w : World} (h : RdAt P s w) : P < w.heap.size := (Array.getElem?_eq_some_iff.1 h).1
theorem RdAt.lower {P : Nat} {s : List UInt8} {w w' : World} (h : RdAt P s w) (hb : Below w.heap.size w w') : RdAt P s w' := (hb.block P h.lt).trans h
theorem RdAt.put {P : Nat} {s : List UInt8} {w : World} (h : RdAt P s w) (t : List UInt8) : RdAt P t (w.setCell ⟨P, 0, none⟩ (.string (bs t))) := heap_set h _
theorem RdAt.drew {P : Nat} {s : List UInt8} {w : World} (h : RdAt P s w) : RdAt P s w.drew := h
theorem bs_drop' (l : List UInt8) (k : Nat) : (bs l).extract k (bs l).size = bs (l.drop k) := by
  apply ByteArray.ext
  simp only [bs, ByteArray.data_extract, ByteArray.size]
  apply Array.ext'
  simp only [Array.toList_extract, List.extract_eq_take_drop, List.size_toArray]
  exact List.take_of_length_le (by simp)
theorem bs_skip (l : List UInt8) (n : Nat) : (bs l).extract (min (n : Int) ((bs l).size : Int)).toNat (bs l).size = bs (l.drop n) := by
  have hz := bs_size l
  rcases Nat.le_total n (bs l).size with h | h
  · rw [show (min (n : Int) ((bs l).size : Int)).toNat = n by omega, bs_drop']
  · rw [show (min (n : Int) ((bs l).size : Int)).toNat = (bs l).size by omega, bs_drop']
    congr 1
    rw [List.drop_of_length_le (by omega), List.drop_of_length_le (by omega)]
set_option maxRecDepth 100000 in
set_option maxHeartbeats 1000000 in
theorem skip_any (P : Nat) (s : List UInt8) (n : Nat) (w : World) (h : RdAt P s w) (hs : s.length ≤ 1000000) (hn : n ≤ 1000000) :
    Calls Tryz.prog 56 #[.pointer (some ⟨P, 0, none⟩), .int .i64 n] w fun e w' => e = .returned (.tuple #[]) ∧ RdAt P (s.drop n) w' ∧ Only P w w' := by
  have H := Lib.hid h
  have c0 := h.cell
  have fz := h.frozen
  have hsz : (bs s).size ≤ 1000000 := by rw [bs_size]; exact hs
  clear h
  have HD := Lib.hid (bs_skip s n)
  go_enter Tryz.func56, Tryz.ntmps56
  go_wp2
  go_region
  all_goals
    rw [HD.out]
    have h1 := (H.out.put (s.drop n)).drew
    have h2 := ((Only.refl P w).setCell 0 (.string (bs (s.drop n)))).drew
    clear c0 fz
    generalize (w.setCell ⟨P, 0, none⟩ (.string (bs (s.drop n)))).drew = w2 at *
    go_wp2
    go_end0
    exact ⟨rfl, h1, h2⟩
/-- What is left behind that beginning, if it is there. -/
def takeR (p s : List UInt8) : List UInt8 := if p.isPrefixOf s then s.drop p.length else s
theorem takeR_len (p s : List UInt8) : (takeR p s).length ≤ s.length := by unfold takeR; split <;> simp
theorem trim_take (s p : List UInt8) : Lib.trimPrefix s p = takeR p s := by
  unfold Lib.trimPrefix takeR Lib.hasPrefix
  rfl
set_option maxRecDepth 100000 in
theorem take_any (P : Nat) (s p : List UInt8) (w : World) (h : RdAt P s w) :
    Calls Tryz.prog 58 #[.pointer (some ⟨P, 0, none⟩), .string (bs p)] w fun e w' => e = .returned (.bool (p.isPrefixOf s)) ∧ RdAt P (takeR p s) w' ∧ Only P w w' := by
  have H := Lib.hid h
  have c0 := h.cell
  have fz := h.frozen
  clear h
  have CP := Lib.hid (Any.strings_CutPrefix Tryz.lays103 (bs s) (bs p) w)
  rw [bs_data, bs_data, trim_take, show Lib.hasPrefix s p = p.isPrefixOf s from rfl, show (⟨(takeR p s).toArray⟩ : ByteArray) = bs (takeR p s) from rfl] at CP
  have h1 := Lib.hid (H.out.put (takeR p s))
  have h2 := Lib.hid ((Only.refl P w).setCell 0 (.string (bs (takeR p s))))
  go_enter Tryz.func58, Tryz.ntmps58
  go_wp2_with (go_at_call 74; refine Hid.out ?_)
  refine Lib.hid ?_
  refine CP.out.mono ?_
  rintro _ w0 ⟨rfl, h0⟩
  rw [h0]
  clear h0 w0
  go_wp2
  go_ret
  exact ⟨rfl, h1.out, h2.out⟩
theorem cut_blank (s : List UInt8) (w : World) (E : Env0 w) (hs : s.length ≤ 1000000) :
    Calls Tryz.prog 72 #[.string (bs s), .string ⟨#[32]⟩] w fun e w' => (∃ a b, e = .returned (.tuple #[.string (bs (wordR s)), .string a, .bool b])) ∧ Below w.heap.size w w' := by
  obtain ⟨m, hm⟩ := E.len
  refine (Any.strings_Cut Tryz.lays145 (bs s) ⟨#[32]⟩ m w (by rw [bs_size]; omega) hm).mono ?_
  rintro e w' ⟨rfl, n, rfl⟩
  rw [bs_data, show (⟨#[32]⟩ : ByteArray).data.toList = [32] from rfl, cut_word]
  exact ⟨⟨_, _, rfl⟩, rfl, rfl, rfl, Nat.le_refl _, fun _ _ => rfl⟩
set_option maxRecDepth 100000 in
theorem rword_any (P : Nat) (s : List UInt8) (w : World) (h : RdAt P s w) (E : Env0 w) (hs : s.length ≤ 1000000) :
    Calls Tryz.prog 55 #[.pointer (some ⟨P, 0, none⟩)] w fun e w' => e = .returned (.string (bs (wordR s))) ∧ RdAt P (s.drop (wordR s).length) w' ∧ Only P w w' := by
  have H := Lib.hid h
  have c0 := h.cell
  have hl := wordR_len s
  clear h
  have CP := Lib.hid (cut_blank s w E hs)
  obtain ⟨n, hn⟩ : ∃ n, n = (wordR s).length := ⟨_, rfl⟩
  have hz : (bs (wordR s)).size = n := by rw [bs_size, hn]
  rw [← hn] at hl ⊢
  generalize wordR s = x at *
  clear hn
  go_enter Tryz.func55, Tryz.ntmps55
  go_wp2_with (go_at_call 72; refine Hid.out ?_)
  refine Lib.hid ?_
  refine CP.out.mono ?_
  rintro _ w1 ⟨⟨a, b, rfl⟩, hb1⟩
  have SK := Lib.hid (skip_any P s n w1 (H.out.lower hb1) hs (by omega))
  go_wp2_with (go_at_call 56; refine Hid.out ?_)
  refine Lib.hid ?_
  refine SK.out.mono ?_
  rintro _ w2 ⟨rfl, h2, o2⟩
  go_wp2
  go_ret
  exact ⟨rfl, h2, (Only.of_below hb1).trans o2⟩
theorem atoi_any (x : List UInt8) (w : World) (E : EnvR w) (hs : x.length ≤ 1000000) :
    Calls Tryz.prog 73 #[.string (bs x)] w fun e w' => (∃ n v, e = .returned (.tuple #[.int .i64 n, v]) ∧ (-9223372036854775808 ≤ n ∧ n ≤ 9223372036854775807) ∧ ∀ v, -9223372036854775808 ≤ v → v ≤ 9223372036854775807 → x = Lib.itoa v → n = v) ∧ Below w.heap.size w w' := by
  obtain ⟨t1, p1, h1⟩ := E.esyn
  obtain ⟨t2, p2, h2⟩ := E.erng
  have hz : (bs x).size ≤ 281474976710656 := by rw [bs_size]; omega
  rcases hA : Lib.atoiAll x with v | _ | _
  · have hA' : Lib.atoiAll (bs x).data.toList = .ok v := by rw [bs_data]; exact hA
    refine (Any.strconv_Atoi_ok Tryz.laysC172 (bs x) (by omega) v hA' w).mono ?_
    rintro e w' ⟨rfl, hw⟩
    refine ⟨⟨v, _, rfl, Num.atoi_bd hA, fun u hu0 hu1 hx => ?_⟩, ?_⟩
    · rw [hx, Num.atoi_itoa u hu0 hu1] at hA
      injection hA with hA
      exact hA.symm
    · rcases hw with rfl | ⟨t, rfl⟩
      · exact Below.refl _ _
      · exact Lib.bytesWorld_below _ _ _
  · have hA' : Lib.atoiAll (bs x).data.toList = .«syntax» := by rw [bs_data]; exact hA
    refine (Any.strconv_Atoi_syntax Tryz.laysC172 (bs x) hz hA' _ w h1 (.inr ⟨t1, p1, rfl⟩)).mono ?_
    rintro e w' ⟨N, rfl, _, _, hb⟩
    refine ⟨⟨0, _, rfl, by omega, fun u hu0 hu1 hx => ?_⟩, hb⟩
    rw [hx, Num.atoi_itoa u hu0 hu1] at hA
    cases hA
  · have hA' : Lib.atoiAll (bs x).data.toList = .range := by rw [bs_data]; exact hA
    refine (Any.strconv_Atoi_range Tryz.laysC172 (bs x) hz hA' _ w h2 (.inr ⟨t2, p2, rfl⟩)).mono ?_
    rintro e w' ⟨N, rfl, _, _, hb⟩
    refine ⟨⟨_, _, rfl, by unfold Lib.atoiSat; split <;> omega, fun u hu0 hu1 hx => ?_⟩, hb⟩
    rw [hx, Num.atoi_itoa u hu0 hu1] at hA
    cases hA
set_option maxRecDepth 100000 in
theorem number_any (P : Nat) (s : List UInt8) (w : World) (h : RdAt P s w) (E : EnvR w) (w0 : World) (hb0 : Below w0.heap.size w0 w) (hP : w0.heap.size ≤ P) (E0 : EnvR w0) (hs : s.length ≤ 1000000) :
    Calls Tryz.prog 57 #[.pointer (some ⟨P, 0, none⟩)] w fun e w' => ∃ n : Int, e = .returned (.int .i64 n) ∧ (-9223372036854775808 ≤ n ∧ n ≤ 9223372036854775807) ∧ (∀ v, -9223372036854775808 ≤ v → v ≤ 9223372036854775807 → wordR s = Lib.itoa v → n = v) ∧ RdAt P (s.drop (wordR s).length) w' ∧ Only P w w' := by
  have hl := wordR_len s
  have WD := Lib.hid (rword_any P s w h E.toEnvJ.toEnvT.toEnvS.toEnv0 hs)
  have AT : Hid (∀ w1, Only P w w1 → Calls Tryz.prog 73 #[.string (bs (wordR s))] w1 fun e w' => (∃ n v, e = .returned (.tuple #[.int .i64 n, v]) ∧ (-9223372036854775808 ≤ n ∧ n ≤ 9223372036854775807) ∧ ∀ v, -9223372036854775808 ≤ v → v ≤ 9223372036854775807 → wordR s = Lib.itoa v → n = v) ∧ Below w1.heap.size w1 w') := fun w1 ho => atoi_any (wordR s) w1 (E0.lower (below_of_only hb0 hP ho)) (by omega)
  clear h E
  generalize s.drop (wordR s).length = r at *
  generalize wordR s = x at *
  go_enter Tryz.func57, Tryz.ntmps57
  go_wp2_with (go_at_call 55; refine Hid.out ?_)
  refine Lib.hid ?_
  refine WD.out.mono ?_
  rintro _ w1 ⟨rfl, h1, o1⟩
  go_wp2_with (go_at_call 73; refine Hid.out ?_)
  refine Lib.hid ?_
  refine (AT.out _ o1).mono ?_
  rintro _ w2 ⟨⟨n, v, rfl, hn, hv⟩, hb2⟩
  have HV := Lib.hid hv
  have h2 := h1.lower hb2
  clear hv h1
  go_wp2
  go_ret
  exact ⟨n, rfl, hn, HV.out, h2, o1.trans (Only.of_below hb2)⟩
end Go.Proofs.YtfjpgjkfmcedoaaGreatDoor
/- What the row of the law of jobs lists gives, and a world in which it is so. -/
namespace Go.Proofs.YtfjpgjkfmcedoaaGreatDoor
open Go.ChangeShapes Go.WideShapes Go.ChangeAt Go.RowKit
namespace Laid
def wordsOf : DataW Unit → ByteArray
  | .iface _ (.ptr (.agg [.lit (.string b)])) => ⟨b.toArray⟩
  | _ => ByteArray.empty
/-- The two errors' own blocks. -/
def errBlocks : Array Obj := #[.cells #[.string (wordsOf Rows.laid_strconv_ErrRange)] 153, .cells #[.string (wordsOf Rows.laid_strconv_ErrSyntax)] 153]
/-- A world with the listed variables laid as their initialisers lay them. -/
def laidJ (low : Nat) (w : World) : World :=
  put (put (put (put (put (put (laidX w) 8 (tabOf Rows.laid_math_bits_deBruijn32tab)) 9 (tabOf Rows.laid_math_bits_deBruijn64tab)) 2 (tabOf Rows.laid_internal_strconv_uint64pow10))
    7 #[.iface 151 (.pointer (some ⟨low, 0, none⟩))]) 6 #[.iface 151 (.pointer (some ⟨low + 1, 0, none⟩))]) 0 (tabOf Rows.laid_threshfloor_job_folds)
theorem pow_datum : (Rows.laid_internal_strconv_uint64pow10 : DataW Unit) = Lib.tabData .u64 Lib.pow10Tab := by kernel_rfl
theorem gPow : Tryz.prog.globalNamed "internal/strconv.uint64pow10" = some 2 := by kernel_rfl
theorem gSyn : Tryz.prog.globalNamed "strconv.ErrSyntax" = some 6 := by kernel_rfl
theorem gRng : Tryz.prog.globalNamed "strconv.ErrRange" = some 7 := by kernel_rfl
theorem gFo : Tryz.prog.globalNamed "threshfloor/job.folds" = some 0 := by kernel_rfl
theorem tSyn : (Tryz.prog.globals[6]?).map (·.type) = some 30 := by kernel_rfl
theorem tRng : (Tryz.prog.globals[7]?).map (·.type) = some 30 := by kernel_rfl
theorem tPow : (Tryz.prog.globals[2]?).map (·.type) = some 125 := by kernel_rfl
theorem tFo : (Tryz.prog.globals[0]?).map (·.type) = some 75 := by kernel_rfl
theorem cPow : Tryz.prog.cellsOf 125 = 20 := by kernel_rfl
theorem cU64 : Tryz.prog.cellsOf 111 = 1 := by kernel_rfl
theorem cErr : Tryz.prog.cellsOf 153 = 1 := by kernel_rfl
theorem cStr : Tryz.prog.cellsOf 9 = 1 := by kernel_rfl
theorem star : "*" ++ "errors.errorString" = "*errors.errorString" := by decide
theorem onlyErr (u : TypeId) (h : Tryz.prog.typeName? 3 u = some "*errors.errorString") : u = 151 :=
  typeName_ptr_named (nm := "errors.errorString") (by rw [star]; kernel_rfl) (by kernel_rfl) (by decide) u (by rw [star]; exact h)
theorem folds_datum : (Rows.laid_threshfloor_job_folds : DataW Unit) = .agg ((List.range 5).map fun k => .lit (.string (foldL k))) := by kernel_rfl
theorem fo_of {W : World} {rest : List (String × DataW Unit)} (h : laidMet Tryz.prog (("threshfloor/job.folds", Rows.laid_threshfloor_job_folds) :: rest) W) : ∀ k : Nat, k ≤ 4 → W.cell? ⟨0, k, none⟩ = some (.string (bs (foldL k))) := by
  obtain ⟨ps, ⟨g', t', cs, fuel, p, q, hg', ht', hvar, hd, _, _⟩, _⟩ := h
  obtain rfl := Option.some.inj (gFo.symm.trans hg')
  obtain rfl := Option.some.inj (tFo.symm.trans ht')
  rw [folds_datum] at hd
  obtain ⟨xs, m, _, ex, hlen, hl, hel⟩ := DataW.trod_array Tryz.underlying75 hd
  intro k hk
  have hx : xs[k]?.map (·.1) = some (.lit (.string (foldL k))) := by
    have h1 : (DataW.agg ((List.range 5).map fun k => .lit (.string (foldL k))) : DataW Unit) = .agg (xs.map (·.1)) := congrArg Prod.fst ex
    injection h1 with h1
    rw [← List.getElem?_map, ← h1, List.getElem?_map, List.getElem?_range (by omega)]
    rfl
  cases hy : xs[k]? with
  | none => rw [hy] at hx; cases hx
  | some y =>
    rw [hy] at hx
    obtain ⟨yd, yp⟩ := y
    simp only [Option.map_some, Option.some.injEq] at hx
    subst hx
    have he := hel k (by omega)
    rw [hy, cStr] at he
    obtain ⟨s, e0, e1, _⟩ := DataW.trod_string Tryz.underlying9 he
    rw [World.var?_cell gFo hvar k]
    have e2 : s.data.toList = foldL k := by
      have := congrArg Prod.fst e1
      injection this with this
      injection this with this
      exact this.symm
    have e3 : cs[k]? = some (.string s) := by
      have := congrArg (·[0]?) e0
      simpa using this
    rw [← e2, bs_of]
    exact e3
theorem envR_of {W : World} {x y z u : String × DataW Unit} (hL : laidMet Tryz.prog [x, y, ("internal/strconv.uint64pow10", Rows.laid_internal_strconv_uint64pow10), z, ("strconv.ErrRange", Rows.laid_strconv_ErrRange), ("strconv.ErrSyntax", Rows.laid_strconv_ErrSyntax), ("threshfloor/expr.shapes", Rows.laid_threshfloor_expr_shapes), ("threshfloor/job.folds", Rows.laid_threshfloor_job_folds), u] W) (hs : W.ShapedOpen Tryz.prog) : EnvR W := by
  have h3 := hL.tail.tail
  have h5 := h3.tail.tail
  rw [pow_datum] at h3
  refine ⟨⟨⟨envS_of hs h5.tail.tail, Lib.tabIs_of_head gPow tPow Tryz.underlying125 Tryz.underlying111 cU64 cPow h3⟩, fo_of h5.tail.tail.tail⟩, ?_, ?_⟩
  · obtain ⟨a, s, hv, -, -, -⟩ := laid_sentinel h5.tail gSyn tSyn Tryz.underlying30 onlyErr Tryz.underlying151 Tryz.underlying153 rfl rfl Tryz.underlying9 cErr cStr
    exact ⟨_, _, by have h0 := World.var?_cell gSyn hv 0; simpa using h0⟩
  · obtain ⟨a, s, hv, -, -, -⟩ := laid_sentinel h5 gRng tRng Tryz.underlying30 onlyErr Tryz.underlying151 Tryz.underlying153 rfl rfl Tryz.underlying9 cErr cStr
    exact ⟨_, _, by have h0 := World.var?_cell gRng hv 0; simpa using h0⟩
end Laid
end Go.Proofs.YtfjpgjkfmcedoaaGreatDoor
/- An expression, as it was handed in, opened: what it holds. -/
namespace Go.Proofs.YtfjpgjkfmcedoaaGreatDoor
open Go.ChangeShapes Go.WideShapes Go.ChangeAt Go.RowKit Go.Deep
namespace OpenE
theorem one_le {H : Type} (d : DataW H) : 1 ≤ Rows.uptoBulk d := by
  cases d with
  | lit l => cases l <;> simp [Rows.uptoBulk]
  | nil => simp [Rows.uptoBulk]
  | ptr d => simp [Rows.uptoBulk]
  | slice elems spare => simp [Rows.uptoBulk]
  | agg parts => simp [Rows.uptoBulk]
  | iface t d => simp [Rows.uptoBulk]
  | map entries => simp [Rows.uptoBulk]
  | held h => simp [Rows.uptoBulk]
theorem all_append {H : Type} (l r : List (DataW H)) : Rows.uptoBulkAll (l ++ r) = Rows.uptoBulkAll l + Rows.uptoBulkAll r := by
  induction l with
  | nil => simp [Rows.uptoBulkAll]
  | cons x l ih => simp only [List.cons_append, Rows.uptoBulkAll, ih]; omega
theorem wtL_bulk {H : Type} : ∀ (l : List Ex) (E : List (DataW H)), l.length = E.length → (∀ (i : Nat) (x : Ex) (d : DataW H), l[i]? = some x → E[i]? = some d → x.wt ≤ Rows.uptoBulk d) → Ex.wt.wtL l ≤ Rows.uptoBulkAll E
  | [], [], _, _ => by simp [Ex.wt.wtL, Rows.uptoBulkAll]
  | x :: l, d :: E, hl, h => by
    have h0 := h 0 x d rfl rfl
    have h1 := wtL_bulk l E (by simpa using hl) (fun i y e hy he => h (i + 1) y e (by simpa using hy) (by simpa using he))
    simp only [Ex.wt.wtL, Rows.uptoBulkAll]
    omega
theorem cells4 : Tryz.prog.cellsOf 44 = 4 := by kernel_rfl
theorem cells1s : Tryz.prog.cellsOf 9 = 1 := by kernel_rfl
theorem cells1i : Tryz.prog.cellsOf 3 = 1 := by kernel_rfl
theorem cells1l : Tryz.prog.cellsOf 42 = 1 := by kernel_rfl
theorem none_add (b off j : Nat) : (⟨b, off, none⟩ : Addr).add j = ⟨b, off + j, none⟩ := by
  unfold Addr.add
  split
  · rename_i h; subst h; rfl
  · rfl
set_option maxRecDepth 100000 in
theorem kids {H : Type} {enc : TypeId × Value → H} {W : World} : ∀ (fuel : Nat) (sv : Value) (x : DataW H × List MemPlace), DataW.trod enc Tryz.prog W 0 (fun _ => true) true fuel 42 [sv] = some x →
    ∃ l : List Ex, Ex.wt.wtL l + 1 ≤ Rows.uptoBulk x.1 ∧ ∀ k n s, IsEx W sv (.mk k n s l) := by
  intro fuel
  induction fuel using Nat.strongRecOn with
  | ind fuel ih =>
    intro sv x h
    rcases DataW.trod_slice Tryz.underlying42 h with ⟨h0, rfl⟩ | ⟨a, len, cap, elems, rest, n, hfu, hcs, rfl, hb, hl, hm, hlen, hel, _, _⟩
    · simp only [List.cons.injEq, and_true] at h0
      subst h0
      exact ⟨[], by simp [Ex.wt.wtL, Rows.uptoBulk], fun k n s => IsEx.mk k n s none 0 [] 0 0 (fun _ => undef) (fun h => absurd h (by simp)) (fun i x hx => by simp at hx) (fun i x hx => by simp at hx)⟩
    · simp only [List.cons.injEq, and_true] at hcs
      subst hcs
      have each : ∀ i, i < len → ∃ q : Ex × Value, (W.cell? (a.add (i * 4)) = some (.int .i64 q.1.k) ∧ W.cell? (a.add (i * 4 + 1)) = some (.int .i64 q.1.n) ∧ W.cell? (a.add (i * 4 + 2)) = some (.string (bs q.1.s)) ∧ W.cell? (a.add (i * 4 + 3)) = some q.2) ∧ IsEx W q.2 q.1 ∧ ∀ d, elems[i]? = some d → q.1.wt ≤ Rows.uptoBulk d.1 := by
        intro i hi
        have key := hel i hi
        rw [List.getElem?_eq_getElem (by omega)] at key
        obtain ⟨cs', h1, h2⟩ := Option.bind_eq_some_iff.1 key
        rw [cells4] at h1
        obtain ⟨_, hcl, hcell⟩ := World.cells?_some h1
        obtain ⟨xs, n', hn', hxy, _, hxl, hf⟩ := DataW.trod_struct Tryz.underlying44 h2
        match xs, hxl, cs', hcl with
        | [y0, y1, y2, y3], _, [v0, v1, v2, v3], _ =>
          have g0 := hf 0 _ rfl
          have g1 := hf 1 _ rfl
          have g2 := hf 2 _ rfl
          have g3 := hf 3 _ rfl
          simp [cells1s, cells1i, cells1l] at g0 g1 g2 g3
          obtain ⟨k, e0, rfl, _⟩ := DataW.trod_int Tryz.underlying3 g0
          obtain ⟨m, e1, rfl, _⟩ := DataW.trod_int Tryz.underlying3 g1
          obtain ⟨s, e2, rfl, _⟩ := DataW.trod_string Tryz.underlying9 g2
          simp only [List.cons.injEq, and_true] at e0 e1 e2
          subst e0 e1 e2
          obtain ⟨l, hw, hI⟩ := ih n' (by omega) v3 y3 g3
          have c0 := hcell 0 (by omega)
          have c1 := hcell 1 (by omega)
          have c2 := hcell 2 (by omega)
          have c3 := hcell 3 (by omega)
          rw [add_add] at c0 c1 c2 c3
          refine ⟨(.mk k m s.data.toList l, v3), ⟨by simpa [Ex.k] using c0, by simpa [Ex.n] using c1, by simpa [Ex.s, bs_of] using c2, by simpa using c3⟩, hI _ _ _, ?_⟩
          intro d hd
          rw [List.getElem?_eq_getElem (by omega), Option.some.injEq] at hd
          rw [← hd]
          rw [hxy]
          simp only [List.map_cons, List.map_nil, Rows.uptoBulk, Rows.uptoBulkAll, Ex.wt]
          omega
      haveI : Inhabited (Ex × Value) := ⟨(.mk 0 0 [] [], undef)⟩
      obtain ⟨q, hq⟩ := choose_lt each
      refine ⟨(List.range len).map fun i => (q i).1, ?_, fun k n s => ?_⟩
      · have := wtL_bulk ((List.range len).map fun i => (q i).1) (elems.map (·.1)) (by simp [hlen]) (fun i x d hx hd => by
          simp only [List.getElem?_map] at hx hd
          cases he : elems[i]? with
          | none => rw [he] at hd; simp at hd
          | some d0 =>
            rw [he] at hd
            have hi : i < len := by rw [← hlen]; exact (List.getElem?_eq_some_iff.1 he).1
            rw [List.getElem?_range hi] at hx
            simp at hx hd
            subst hx hd
            exact (hq i hi).2.2 d0 he)
        simp only [Rows.uptoBulk]
        omega
      · have hspot : 0 < len → a.spot = none := fun hpos => by
          have h1 := World.cell?_spot (hq 0 hpos).1.1
          simpa [Addr.add] using h1
        obtain ⟨b, off, spot⟩ := a
        have e := IsEx.mk (w := W) k n s (some ⟨b, off, spot⟩) cap ((List.range len).map fun i => (q i).1) b off (fun i => (q i).2)
          (fun hpos => by have hs := hspot (by simpa using hpos); simp only at hs; rw [hs])
          (fun i x hx => by
            have hi : i < len := by have := (List.getElem?_eq_some_iff.1 hx).1; simpa using this
            rw [List.getElem?_map, List.getElem?_range hi] at hx
            simp at hx
            subst hx
            obtain ⟨c0, c1, c2, c3⟩ := (hq i hi).1
            have hs := hspot (by omega)
            simp only at hs
            subst hs
            rw [none_add] at c0 c1 c2 c3
            exact ⟨c0, c1, c2, c3⟩)
          (fun i x hx => by
            have hi : i < len := by have := (List.getElem?_eq_some_iff.1 hx).1; simpa using this
            rw [List.getElem?_map, List.getElem?_range hi] at hx
            simp at hx
            subst hx
            exact (hq i hi).2.1)
        rw [List.length_map, List.length_range] at e
        exact e
set_option maxRecDepth 100000 in
theorem expr {H : Type} {enc : TypeId × Value → H} {W : World} {base : Nat} {d : DataW H} {p : List MemPlace} {v : Value} (hv : Value.okWide Tryz.prog W .any base 44 v) (h : DataW.Trod enc Tryz.prog W 0 (fun _ => true) true 44 v d p) :
    ∃ (e : Ex) (sv : Value), v = e.val sv ∧ IsEx W sv e ∧ e.wt ≤ Rows.uptoBulk d := by
  obtain ⟨v0, v1, v2, v3, y0, y1, y2, y3, n, rfl, rfl, _, g0, g1, g2, g3⟩ := Joins.open_agg4 Tryz.underlying44 (by kernel_rfl) cells4 hv h
  obtain ⟨k, e0, rfl, _⟩ := DataW.trod_int Tryz.underlying3 g0
  obtain ⟨m, e1, rfl, _⟩ := DataW.trod_int Tryz.underlying3 g1
  obtain ⟨s, e2, rfl, _⟩ := DataW.trod_string Tryz.underlying9 g2
  simp only [List.cons.injEq, and_true] at e0 e1 e2
  subst e0 e1 e2
  obtain ⟨l, hw, hI⟩ := kids n v3 y3 g3
  refine ⟨.mk k m s.data.toList l, v3, by simp [Ex.val, Ex.k, Ex.n, Ex.s, bs_of], hI _ _ _, ?_⟩
  simp only [Rows.uptoBulk, Rows.uptoBulkAll, Ex.wt]
  omega
end OpenE
end Go.Proofs.YtfjpgjkfmcedoaaGreatDoor
