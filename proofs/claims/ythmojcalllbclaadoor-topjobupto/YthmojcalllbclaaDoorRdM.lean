/- The reader in memory; contracts of skip, take, word and number. -/
import Derived.Test.YthmojcalllbclaaDoorRd
import Derived.Test.YthmojcalllbclaaDoorXH
import Derived.Test.YthmojcalllbclaaDoorOnl
import Derived.Test.YthmojcalllbclaaDoorShelfR
import Derived.Lib.AtoiErrMem
import Derived.RegionTactic
import Derived.BigRegion
namespace Go.Proofs.YthmojcalllbclaaDoor
open Go.ChangeShapes Go.WideShapes Go.ChangeAt Go.RowKit
/-- What the program's and the library's own variables hold, for reading jobs. -/
structure EnvR (w : World) : Prop extends EnvJ w where
  esyn : ∃ te pe, w.cell? ⟨6, 0, none⟩ = some (.iface te pe)
  erng : ∃ te pe, w.cell? ⟨7, 0, none⟩ = some (.iface te pe)
theorem EnvR.lower {w w' : World} (h : EnvR w) (hb : Below w.heap.size w w') : EnvR w' := by
  obtain ⟨t1, p1, h1⟩ := h.esyn
  obtain ⟨t2, p2, h2⟩ := h.erng
  exact ⟨h.toEnvJ.lower hb, ⟨t1, p1, cell_below h1 hb⟩, ⟨t2, p2, cell_below h2 hb⟩⟩
/-- A reader at that block has this left. -/
def RdAt (P : Nat) (s : List UInt8) (w : World) : Prop := w.heap[P]? = some (.cells #[.string (bs s)] 79 (0, 0))
theorem RdAt.cell {P : Nat} {s : List UInt8} {w : World} (h : RdAt P s w) : w.cell? ⟨P, 0, none⟩ = some (.string (bs s)) := by
  rw [cell_of_row w P 0 _ _ (0, 0) h]; rfl
theorem RdAt.frozen {P : Nat} {s : List UInt8} {w : World} (h : RdAt P s w) : w.frozen? ⟨P, 0, none⟩ = false := frozen_of_row w P 0 _ _ h
theorem RdAt.lt {P : Nat} {s : List UInt8} {w : World} (h : RdAt P s w) : P < w.heap.size := (Array.getElem?_eq_some_iff.1 h).1
theorem RdAt.lower {P : Nat} {s : List UInt8} {w w' : World} (h : RdAt P s w) (hb : Below w.heap.size w w') : RdAt P s w' := (hb.block P h.lt).trans h
theorem RdAt.put {P : Nat} {s : List UInt8} {w : World} (h : RdAt P s w) (t : List UInt8) : RdAt P t (w.setCell ⟨P, 0, none⟩ (.string (bs t))) := heap_set h _
theorem RdAt.drew {P : Nat} {s : List UInt8} {w : World} (h : RdAt P s w) : RdAt P s w.drew := h
theorem bs_drop' (l : List UInt8) (k : Nat) : (bs l).extract k (bs l).size = bs (l.drop k) := by
  apply ByteArray.ext
  simp only [bs, ByteArray.data_extract, ByteArray.size]
  apply Array.ext'
  simp only [Array.toList_extract, List.extract_eq_take_drop, List.size_toArray]
  exact List.take_of_length_le (by simp)
theorem bs_skip (l : List UInt8) (n : Nat) : (bs l).extract (min (n : Int) ((bs l).size : Int)).toNat (bs l).size = bs (l.drop n) := by
  have hz := bs_size l
  rcases Nat.le_total n (bs l).size with h | h
  · rw [show (min (n : Int) ((bs l).size : Int)).toNat = n by omega, bs_drop']
  · rw [show (min (n : Int) ((bs l).size : Int)).toNat = (bs l).size by omega, bs_drop']
    congr 1
    rw [List.drop_of_length_le (by omega), List.drop_of_length_le (by omega)]
set_option maxRecDepth 100000 in
set_option maxHeartbeats 1000000 in
theorem skip_any (P : Nat) (s : List UInt8) (n : Nat) (w : World) (h : RdAt P s w) (hs : s.length ≤ 1000000) (hn : n ≤ 1000000) :
    Calls Tryd.prog 47 #[.pointer (some ⟨P, 0, none⟩), .int .i64 n] w fun e w' => e = .returned (.tuple #[]) ∧ RdAt P (s.drop n) w' ∧ Only P w w' := by
  have H := Lib.hid h
  have c0 := h.cell
  have fz := h.frozen
  have hsz : (bs s).size ≤ 1000000 := by rw [bs_size]; exact hs
  clear h
  have HD := Lib.hid (bs_skip s n)
  go_enter Tryd.func47, Tryd.ntmps47
  go_wp2
  go_region
  all_goals
    rw [HD.out]
    have h1 := (H.out.put (s.drop n)).drew
    have h2 := ((Only.refl P w).setCell 0 (.string (bs (s.drop n)))).drew
    clear c0 fz
    generalize (w.setCell ⟨P, 0, none⟩ (.string (bs (s.drop n)))).drew = w2 at *
    go_wp2
    go_end0
    exact ⟨rfl, h1, h2⟩
/-- What is left behind that beginning, if it is there. -/
def takeR (p s : List UInt8) : List UInt8 := if p.isPrefixOf s then s.drop p.length else s
theorem takeR_len (p s : List UInt8) : (takeR p s).length ≤ s.length := by unfold takeR; split <;> simp
theorem trim_take (s p : List UInt8) : Lib.trimPrefix s p = takeR p s := by
  unfold Lib.trimPrefix takeR Lib.hasPrefix
  rfl
set_option maxRecDepth 100000 in
theorem take_any (P : Nat) (s p : List UInt8) (w : World) (h : RdAt P s w) :
    Calls Tryd.prog 49 #[.pointer (some ⟨P, 0, none⟩), .string (bs p)] w fun e w' => e = .returned (.bool (p.isPrefixOf s)) ∧ RdAt P (takeR p s) w' ∧ Only P w w' := by
  have H := Lib.hid h
  have c0 := h.cell
  have fz := h.frozen
  clear h
  have CP := Lib.hid (Any.strings_CutPrefix Tryd.lays103 (bs s) (bs p) w)
  rw [bs_data, bs_data, trim_take, show Lib.hasPrefix s p = p.isPrefixOf s from rfl, show (⟨(takeR p s).toArray⟩ : ByteArray) = bs (takeR p s) from rfl] at CP
  have h1 := Lib.hid (H.out.put (takeR p s))
  have h2 := Lib.hid ((Only.refl P w).setCell 0 (.string (bs (takeR p s))))
  go_enter Tryd.func49, Tryd.ntmps49
  go_wp2_with (go_at_call 66; refine Hid.out ?_)
  refine Lib.hid ?_
  refine CP.out.mono ?_
  rintro _ w0 ⟨rfl, h0⟩
  rw [h0]
  clear h0 w0
  go_wp2
  go_ret
  exact ⟨rfl, h1.out, h2.out⟩
theorem cut_blank (s : List UInt8) (w : World) (E : Env0 w) (hs : s.length ≤ 1000000) :
    Calls Tryd.prog 64 #[.string (bs s), .string ⟨#[32]⟩] w fun e w' => (∃ a b, e = .returned (.tuple #[.string (bs (wordR s)), .string a, .bool b])) ∧ Below w.heap.size w w' := by
  obtain ⟨m, hm⟩ := E.len
  refine (Any.strings_Cut Tryd.lays145 (bs s) ⟨#[32]⟩ m w (by rw [bs_size]; omega) hm).mono ?_
  rintro e w' ⟨rfl, n, rfl⟩
  rw [bs_data, show (⟨#[32]⟩ : ByteArray).data.toList = [32] from rfl, cut_word]
  exact ⟨⟨_, _, rfl⟩, rfl, rfl, rfl, Nat.le_refl _, fun _ _ => rfl⟩
set_option maxRecDepth 100000 in
theorem rword_any (P : Nat) (s : List UInt8) (w : World) (h : RdAt P s w) (E : Env0 w) (hs : s.length ≤ 1000000) :
    Calls Tryd.prog 46 #[.pointer (some ⟨P, 0, none⟩)] w fun e w' => e = .returned (.string (bs (wordR s))) ∧ RdAt P (s.drop (wordR s).length) w' ∧ Only P w w' := by
  have H := Lib.hid h
  have c0 := h.cell
  have hl := wordR_len s
  clear h
  have CP := Lib.hid (cut_blank s w E hs)
  obtain ⟨n, hn⟩ : ∃ n, n = (wordR s).length := ⟨_, rfl⟩
  have hz : (bs (wordR s)).size = n := by rw [bs_size, hn]
  rw [← hn] at hl ⊢
  generalize wordR s = x at *
  clear hn
  go_enter Tryd.func46, Tryd.ntmps46
  go_wp2_with (go_at_call 64; refine Hid.out ?_)
  refine Lib.hid ?_
  refine CP.out.mono ?_
  rintro _ w1 ⟨⟨a, b, rfl⟩, hb1⟩
  have SK := Lib.hid (skip_any P s n w1 (H.out.lower hb1) hs (by omega))
  go_wp2_with (go_at_call 47; refine Hid.out ?_)
  refine Lib.hid ?_
  refine SK.out.mono ?_
  rintro _ w2 ⟨rfl, h2, o2⟩
  go_wp2
  go_ret
  exact ⟨rfl, h2, (Only.of_below hb1).trans o2⟩
theorem atoi_any (x : List UInt8) (w : World) (E : EnvR w) (hs : x.length ≤ 1000000) :
    Calls Tryd.prog 65 #[.string (bs x)] w fun e w' => (∃ n v, e = .returned (.tuple #[.int .i64 n, v]) ∧ (-9223372036854775808 ≤ n ∧ n ≤ 9223372036854775807) ∧ ∀ v, -9223372036854775808 ≤ v → v ≤ 9223372036854775807 → x = Lib.itoa v → n = v) ∧ Below w.heap.size w w' := by
  obtain ⟨t1, p1, h1⟩ := E.esyn
  obtain ⟨t2, p2, h2⟩ := E.erng
  have hz : (bs x).size ≤ 281474976710656 := by rw [bs_size]; omega
  rcases hA : Lib.atoiAll x with v | _ | _
  · have hA' : Lib.atoiAll (bs x).data.toList = .ok v := by rw [bs_data]; exact hA
    refine (Any.strconv_Atoi_ok Tryd.laysC172 (bs x) (by omega) v hA' w).mono ?_
    rintro e w' ⟨rfl, hw⟩
    refine ⟨⟨v, _, rfl, Num.atoi_bd hA, fun u hu0 hu1 hx => ?_⟩, ?_⟩
    · rw [hx, Num.atoi_itoa u hu0 hu1] at hA
      injection hA with hA
      exact hA.symm
    · rcases hw with rfl | ⟨t, rfl⟩
      · exact Below.refl _ _
      · exact Lib.bytesWorld_below _ _ _
  · have hA' : Lib.atoiAll (bs x).data.toList = .«syntax» := by rw [bs_data]; exact hA
    refine (Any.strconv_Atoi_syntax Tryd.laysC172 (bs x) hz hA' _ w h1 (.inr ⟨t1, p1, rfl⟩)).mono ?_
    rintro e w' ⟨N, rfl, _, _, hb⟩
    refine ⟨⟨0, _, rfl, by omega, fun u hu0 hu1 hx => ?_⟩, hb⟩
    rw [hx, Num.atoi_itoa u hu0 hu1] at hA
    cases hA
  · have hA' : Lib.atoiAll (bs x).data.toList = .range := by rw [bs_data]; exact hA
    refine (Any.strconv_Atoi_range Tryd.laysC172 (bs x) hz hA' _ w h2 (.inr ⟨t2, p2, rfl⟩)).mono ?_
    rintro e w' ⟨N, rfl, _, _, hb⟩
    refine ⟨⟨_, _, rfl, by unfold Lib.atoiSat; split <;> omega, fun u hu0 hu1 hx => ?_⟩, hb⟩
    rw [hx, Num.atoi_itoa u hu0 hu1] at hA
    cases hA
set_option maxRecDepth 100000 in
theorem number_any (P : Nat) (s : List UInt8) (w : World) (h : RdAt P s w) (E : EnvR w) (w0 : World) (hb0 : Below w0.heap.size w0 w) (hP : w0.heap.size ≤ P) (E0 : EnvR w0) (hs : s.length ≤ 1000000) :
    Calls Tryd.prog 48 #[.pointer (some ⟨P, 0, none⟩)] w fun e w' => ∃ n : Int, e = .returned (.int .i64 n) ∧ (-9223372036854775808 ≤ n ∧ n ≤ 9223372036854775807) ∧ (∀ v, -9223372036854775808 ≤ v → v ≤ 9223372036854775807 → wordR s = Lib.itoa v → n = v) ∧ RdAt P (s.drop (wordR s).length) w' ∧ Only P w w' := by
  have hl := wordR_len s
  have WD := Lib.hid (rword_any P s w h E.toEnvJ.toEnvT.toEnvS.toEnv0 hs)
  have AT : Hid (∀ w1, Only P w w1 → Calls Tryd.prog 65 #[.string (bs (wordR s))] w1 fun e w' => (∃ n v, e = .returned (.tuple #[.int .i64 n, v]) ∧ (-9223372036854775808 ≤ n ∧ n ≤ 9223372036854775807) ∧ ∀ v, -9223372036854775808 ≤ v → v ≤ 9223372036854775807 → wordR s = Lib.itoa v → n = v) ∧ Below w1.heap.size w1 w') := fun w1 ho => atoi_any (wordR s) w1 (E0.lower (below_of_only hb0 hP ho)) (by omega)
  clear h E
  generalize s.drop (wordR s).length = r at *
  generalize wordR s = x at *
  go_enter Tryd.func48, Tryd.ntmps48
  go_wp2_with (go_at_call 46; refine Hid.out ?_)
  refine Lib.hid ?_
  refine WD.out.mono ?_
  rintro _ w1 ⟨rfl, h1, o1⟩
  go_wp2_with (go_at_call 65; refine Hid.out ?_)
  refine Lib.hid ?_
  refine (AT.out _ o1).mono ?_
  rintro _ w2 ⟨⟨n, v, rfl, hn, hv⟩, hb2⟩
  have HV := Lib.hid hv
  have h2 := h1.lower hb2
  clear hv h1
  go_wp2
  go_ret
  exact ⟨n, rfl, hn, HV.out, h2, o1.trans (Only.of_below hb2)⟩
end Go.Proofs.YthmojcalllbclaaDoor
