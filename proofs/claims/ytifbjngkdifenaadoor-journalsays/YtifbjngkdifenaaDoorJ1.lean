/- Journals: plain texts of entries; the writers of a number and of an entry. -/
import Derived.Test.YtifbjngkdifenaaDoorBldJ
namespace Go.Proofs.YtifbjngkdifenaaDoor
open Go.ChangeShapes Go.WideShapes Go.ChangeAt Go.RowKit
open Num
/-- A slice of numbers. -/
def IsIs (w : World) (v : Value) (l : List Int) : Prop :=
  ∃ a cap, v = .slice a l.length cap ∧ ∀ i (h : i < l.length), ∃ b off, a = some ⟨b, off, none⟩ ∧ w.cell? ⟨b, off + i, none⟩ = some (.int .i64 l[i])
theorem IsIs.below {w w' : World} {v : Value} {l : List Int} (h : IsIs w v l) (hb : Below w.heap.size w w') : IsIs w' v l := by
  obtain ⟨a, cap, e, hc⟩ := h
  refine ⟨a, cap, e, fun i hi => ?_⟩
  obtain ⟨b, off, ea, c0⟩ := hc i hi
  exact ⟨b, off, ea, cell_below c0 hb⟩
/-- A number with a blank ahead. -/
def numT (n : Int) : List UInt8 := 32 :: Lib.itoa n
def numsT (ns : List Int) : List UInt8 := ns.flatMap numT
def sizesT (ts : List (List UInt8)) : List UInt8 := ts.flatMap fun t => numT t.length
/-- An entry's text. -/
def entT (k : List UInt8) (ns : List Int) (ts : List (List UInt8)) : List UInt8 := k ++ numsT ns ++ [59] ++ sizesT ts ++ [10] ++ ts.flatten ++ [46]
def Fit (n : Int) : Prop := -9223372036854775808 ≤ n ∧ n ≤ 9223372036854775807
theorem fm_succ {α β : Type} (f : α → List β) (l : List α) (i : Nat) (h : i < l.length) : (l.take (i + 1)).flatMap f = (l.take i).flatMap f ++ f l[i] := by
  rw [List.take_succ_eq_append_getElem h, List.flatMap_append]
  simp
theorem fm_le {α β : Type} (f : α → List β) (l : List α) (i : Nat) : ((l.take i).flatMap f).length ≤ (l.flatMap f).length := by
  have h : l.flatMap f = (l.take i).flatMap f ++ (l.drop i).flatMap f := by rw [← List.flatMap_append, List.take_append_drop]
  rw [h, List.length_append]
  omega
theorem flat_fm {β : Type} (l : List (List β)) : l.flatten = l.flatMap id := by simp [List.flatMap_id]
theorem str_cells (x y : List UInt8) : Lib.byteCells x ++ Lib.strCells (bs y) = Lib.byteCells (x ++ y) := by
  unfold Lib.byteCells Lib.strCells
  rw [List.map_append, bs_data]
theorem ws_bd {B : Nat} {x : List UInt8} {w0 w : World} (h : Bd B x w0 w) (hx : x.length ≤ 100000000) (y : List UInt8) (hy : y.length ≤ 100000000) :
    Calls Tryd.prog 16 #[.pointer (some ⟨B, 0, none⟩), .string (bs y)] w fun e w' => e = .returned (.tuple #[.int .i64 y.length, .nilIface]) ∧ Bd B (x ++ y) w0 w' := by
  have hle := h.le
  refine (writeString_any B B _ (bs y) w h.bld (by rw [Lib.byteCells_length, bs_size]; omega) (Nat.le_of_lt hle)).mono ?_
  rintro e w' ⟨rfl, hA, hb, hk⟩
  rw [str_cells] at hA
  exact ⟨by rw [bs_size], .inr hA, h.below.trans hb, Nat.lt_of_lt_of_le hle hb.size⟩
theorem Bd.next {B : Nat} {x : List UInt8} {w0 w w' : World} (h : Bd B x w0 w) (hb : Below w.heap.size w w') : Bd B x w0 w' := by
  refine ⟨?_, h.below.trans (hb.mono (Nat.le_of_lt h.le)), Nat.lt_of_lt_of_le h.le hb.size⟩
  rcases h.bld with h1 | h1
  · exact .inl (builder_below h1 hb)
  · exact .inr (builder_below h1 hb)
theorem itoa_len (n : Int) (h : Fit n) : (Lib.itoa n).length ≤ 20 := by
  by_cases h0 : 0 ≤ n
  · have := itoa_len_le n h0 h.2
    omega
  · by_cases h1 : n = -9223372036854775808
    · subst h1
      rw [least_text']
      decide
    · have := itoa_len_le (-n) (by omega) (by have := h.1; omega)
      rw [itoa_neg (by omega)]
      simp only [List.length_cons]
      omega
theorem Bd.env {x : List UInt8} {w0 w : World} (h : Bd w0.heap.size x w0 w) (E : Env w0) : Env w := E.below h.below
set_option maxRecDepth 100000 in
set_option maxHeartbeats 1000000 in
theorem wn_bd {x : List UInt8} {w0 w : World} (h : Bd w0.heap.size x w0 w) (E : Env w0) (hx : x.length ≤ 90000000) (n : Int) (hn : Fit n) :
    Calls Tryd.prog 17 #[.pointer (some ⟨w0.heap.size, 0, none⟩), .int .i64 n] w fun e w' => e = .returned (.tuple #[]) ∧ Bd w0.heap.size (x ++ numT n) w0 w' := by
  have hl := itoa_len n hn
  have W1 := Lib.hid (wb_bd h (by omega) 32 32 rfl)
  have IT : Hid (∀ w1, Bd w0.heap.size (x ++ [32]) w0 w1 → Calls Tryd.prog 28 #[.int .i64 n] w1 fun e w' => e = .returned (.string (bs (Lib.itoa n))) ∧ Below w1.heap.size w1 w') := fun w1 h1 => itoa_any n w1 (h1.env E) hn.1 hn.2
  have W2 : Hid (∀ w1, Bd w0.heap.size (x ++ [32]) w0 w1 → Calls Tryd.prog 16 #[.pointer (some ⟨w0.heap.size, 0, none⟩), .string (bs (Lib.itoa n))] w1 fun e w' => e = .returned (.tuple #[.int .i64 (Lib.itoa n).length, .nilIface]) ∧ Bd w0.heap.size (x ++ [32] ++ Lib.itoa n) w0 w') := fun w1 h1 => ws_bd h1 (by simp only [List.length_append, List.length_cons, List.length_nil]; omega) _ (by omega)
  have HX : Hid (x ++ [32] ++ Lib.itoa n = x ++ numT n) := by show _ = _; simp [numT]
  clear h E
  generalize Lib.itoa n = it at *
  generalize bs it = sb at *
  generalize w0.heap.size = B at *
  go_enter Tryd.func17, Tryd.ntmps17
  go_wp2_with (first | (go_at_call 18; refine W1.out.mono ?_; rintro _ w1 ⟨rfl, h1⟩; have H1 := Lib.hid h1; clear h1) | (go_at_call 28; refine (IT.out _ H1.out).mono ?_; rintro _ w2 ⟨rfl, hb2⟩; have H2 := Lib.hid (H1.out.next hb2)) | (go_at_call 16; refine (W2.out _ H2.out).mono ?_; rintro _ w3 ⟨rfl, h3⟩; have H3 := Lib.hid h3; clear h3))
  refine bodyPost_end (results_none rfl _ _ _) rfl ?_
  exact ⟨rfl, by rw [← HX.out]; exact H3.out⟩
end Go.Proofs.YtifbjngkdifenaaDoor
