/- Contracts of pair.number, pair.cutKey and pair.first: what a text begins with. -/
import Derived.Test.YtapflhndpcgdiaaDoorDec
import Derived.Test.YtapflhndpcgdiaaDoorShelf
import Derived.Lib.AppendIntMem
import Derived.Lib.AtoiErrMem
namespace Go.Proofs.YtapflhndpcgdiaaDoor
open Go.ChangeShapes Go.WideShapes Go.ChangeAt Go.RowKit
open Num

/-- What the library's own variables hold. -/
structure Env (w : World) : Prop where
  tab : Lib.TabIs Tryd.prog w "internal/strconv.uint64pow10" .u64 Lib.pow10Tab
  len : ∃ m, w.cell? ⟨0, 0, none⟩ = some (.int .i64 m)
  esyn : ∃ te pe, w.cell? ⟨2, 0, none⟩ = some (.iface te pe)
  erng : ∃ te pe, w.cell? ⟨3, 0, none⟩ = some (.iface te pe)
theorem cell_below {w w' : World} {a : Addr} {v : Value} (h : w.cell? a = some v) (hb : Below w.heap.size w w') : w'.cell? a = some v := by
  rw [hb.cell (World.block_lt_of_cell? w a h)]; exact h
theorem Env.below {w w' : World} (h : Env w) (hb : Below w.heap.size w w') : Env w' := by
  obtain ⟨m, hm⟩ := h.len
  obtain ⟨t1, p1, h1⟩ := h.esyn
  obtain ⟨t2, p2, h2⟩ := h.erng
  exact ⟨Lib.tabBelow_of_tabIs h.tab w' hb, ⟨m, cell_below hm hb⟩, ⟨t1, p1, cell_below h1 hb⟩, ⟨t2, p2, cell_below h2 hb⟩⟩
theorem IsPairs.below {w w' : World} {v : Value} {l : List (ByteArray × Int)} (h : IsPairs w v l) (hb : Below w.heap.size w w') : IsPairs w' v l := by
  obtain ⟨a, cap, rfl, hc⟩ := h
  refine ⟨a, cap, rfl, fun i hi => ?_⟩
  obtain ⟨b, off, rfl, c0, c1⟩ := hc i hi
  exact ⟨b, off, rfl, cell_below c0 hb, cell_below c1 hb⟩
theorem below_trans {w w1 w2 : World} (h1 : Below w.heap.size w w1) (h2 : Below w1.heap.size w1 w2) : Below w.heap.size w w2 := h1.trans (h2.mono h1.size)
theorem below_drewN (w : World) (n : Nat) : Below w.heap.size w (w.drewN n) := ⟨rfl, rfl, rfl, Nat.le_refl _, fun _ _ => rfl⟩

/-- A text's bytes. -/
def bs (l : List UInt8) : ByteArray := ⟨l.toArray⟩
theorem bs_size (l : List UInt8) : (bs l).size = l.length := by simp [bs, ByteArray.size]
theorem bs_data (l : List UInt8) : (bs l).data.toList = l := by simp [bs]
theorem bs_of (s : ByteArray) : bs s.data.toList = s := by apply ByteArray.ext; simp [bs]
theorem bs_toList (l : List UInt8) : (bs l).toList = l := by rw [ByteArray.toList_eq, bs_data]
theorem bs_take (l : List UInt8) (k : Nat) : (bs l).extract 0 k = bs (l.take k) := by rw [bytes_take, bs_data]; rfl
theorem bs_drop (l : List UInt8) (k : Nat) : (bs l).extract k (bs l).size = bs (l.drop k) := by rw [bytes_drop, bs_data]; rfl

theorem atoi_err (s : ByteArray) (w : World) (E : Env w) (hs : s.size ≤ 281474976710656) (h : ∀ v, Lib.atoiAll s.data.toList ≠ .ok v) :
    Calls Tryd.prog 58 #[.string s] w fun e w' => (∃ x p, e = .returned (.tuple #[.int .i64 x, .iface 103 p])) ∧ Below w.heap.size w w' := by
  obtain ⟨t1, p1, h1⟩ := E.esyn
  obtain ⟨t2, p2, h2⟩ := E.erng
  rcases hA : Lib.atoiAll s.data.toList with v | _ | _
  · exact absurd hA (h v)
  · refine (Any.strconv_Atoi_syntax Tryd.laysC172 s hs hA _ w h1 (.inr ⟨t1, p1, rfl⟩)).mono ?_
    rintro e w' ⟨N, rfl, _, _, hb⟩
    exact ⟨⟨_, _, rfl⟩, hb⟩
  · refine (Any.strconv_Atoi_range Tryd.laysC172 s hs hA _ w h2 (.inr ⟨t2, p2, rfl⟩)).mono ?_
    rintro e w' ⟨N, rfl, _, _, hb⟩
    exact ⟨⟨_, _, rfl⟩, hb⟩
theorem atoi_ok (s : ByteArray) (w : World) (hs : s.size ≤ 281474976710656) (v : Int) (h : Lib.atoiAll s.data.toList = .ok v) :
    Calls Tryd.prog 58 #[.string s] w fun e w' => e = .returned (.tuple #[.int .i64 v, .nilIface]) ∧ Below w.heap.size w w' := by
  refine (Any.strconv_Atoi_ok Tryd.laysC172 s (by omega) v h w).mono ?_
  rintro e w' ⟨rfl, hw⟩
  refine ⟨rfl, ?_⟩
  rcases hw with rfl | ⟨t, rfl⟩
  · exact Below.refl _ _
  · exact Lib.bytesWorld_below _ _ _
theorem itoa_any (n : Int) (w : World) (E : Env w) (h0 : -9223372036854775808 ≤ n) (h1 : n ≤ 9223372036854775807) :
    Calls Tryd.prog 37 #[.int .i64 n] w fun e w' => e = .returned (.string (bs (Lib.itoa n))) ∧ Below w.heap.size w w' := by
  refine (Any.strconv_Itoa Tryd.laysM171 n h0 h1 w E.tab).mono ?_
  rintro e w' ⟨rfl, k, os, rfl⟩
  exact ⟨rfl, Lib.below_grow _ w (Nat.le_refl _) k os⟩
theorem cut_any (s : ByteArray) (c : UInt8) (w : World) (E : Env w) (hs : s.size < 4294967281) :
    Calls Tryd.prog 50 #[.string s, .string ⟨#[c]⟩] w fun e w' => e = .returned (.tuple #[.string (bs (cutAt c s.data.toList).1), .string (bs (cutAt c s.data.toList).2.1), .bool (cutAt c s.data.toList).2.2]) ∧ Below w.heap.size w w' := by
  obtain ⟨m, hm⟩ := E.len
  refine (Any.strings_Cut Tryd.lays145 s ⟨#[c]⟩ m w hs hm).mono ?_
  rintro e w' ⟨rfl, n, rfl⟩
  rw [show Lib.cut s.data.toList (⟨#[c]⟩ : ByteArray).data.toList = cutAt c s.data.toList from cut_one c _]
  exact ⟨rfl, below_drewN _ _⟩

theorem num_err {l : List UInt8} (h : ∀ v, Lib.atoiAll l ≠ .ok v) : numB l = none := by
  unfold numB
  split
  · exact absurd (by assumption) (h _)
  · rfl
theorem num_ok {l : List UInt8} {v : Int} (h : Lib.atoiAll l = .ok v) : numB l = if Lib.itoa v = l then some v else none := by
  unfold numB; rw [h]

set_option maxRecDepth 100000 in
set_option maxHeartbeats 1000000 in
theorem number_pair (l : List UInt8) (w : World) (E : Env w) (hl : l.length ≤ 4000000000) :
    Calls Tryd.prog 51 #[.string (bs l)] w fun e w' => e = .returned (.tuple #[.int .i64 ((numB l).getD 0), .bool (numB l).isSome]) ∧ Below w.heap.size w w' := by
  have hsz := bs_size l
  by_cases h : ∃ v, Lib.atoiAll l = .ok v
  · obtain ⟨v, hv⟩ := h
    have hbd := atoi_bd hv
    have C1 : Hid (∀ w, Calls Tryd.prog 58 #[.string (bs l)] w fun e w' => e = .returned (.tuple #[.int .i64 v, .nilIface]) ∧ Below w.heap.size w w') := fun w => atoi_ok (bs l) w (by omega) v (by rw [bs_data]; exact hv)
    have C2 : Hid (∀ w, Env w → Calls Tryd.prog 37 #[.int .i64 v] w fun e w' => e = .returned (.string (bs (Lib.itoa v))) ∧ Below w.heap.size w w') := fun w E => itoa_any v w E hbd.1 hbd.2
    have hn := num_ok hv
    have hT := bs_toList (Lib.itoa v)
    have hT2 := bs_toList l
    clear hv hbd
    by_cases he : Lib.itoa v = l
    · rw [if_pos he] at hn
      have he' : ((bs (Lib.itoa v)).toList == (bs l).toList) = true := by rw [hT, hT2, he]; simp
      rw [hn]
      clear he hn hT hT2
      generalize bs (Lib.itoa v) = x at *
      go_enter Tryd.func51, Tryd.ntmps51
      go_wp2_with (first | (go_at_call 58; refine (C1.out _).mono ?_; rintro e w1 ⟨rfl, hb1⟩) | (go_at_call 37; refine (C2.out _ (E.below hb1)).mono ?_; rintro e w2 ⟨rfl, hb2⟩))
      go_ret2
      exact ⟨rfl, below_trans hb1 hb2⟩
    · rw [if_neg he] at hn
      have he' : ((bs (Lib.itoa v)).toList == (bs l).toList) = false := by rw [hT, hT2]; simpa using he
      rw [hn]
      clear he hn hT hT2
      generalize bs (Lib.itoa v) = x at *
      go_enter Tryd.func51, Tryd.ntmps51
      go_wp2_with (first | (go_at_call 58; refine (C1.out _).mono ?_; rintro e w1 ⟨rfl, hb1⟩) | (go_at_call 37; refine (C2.out _ (E.below hb1)).mono ?_; rintro e w2 ⟨rfl, hb2⟩))
      go_ret2
      exact ⟨rfl, below_trans hb1 hb2⟩
  · have h' : ∀ v, Lib.atoiAll l ≠ .ok v := fun v hv => h ⟨v, hv⟩
    have C1 : Hid (∀ w, Env w → Calls Tryd.prog 58 #[.string (bs l)] w fun e w' => (∃ x p, e = .returned (.tuple #[.int .i64 x, .iface 103 p])) ∧ Below w.heap.size w w') := fun w E => atoi_err (bs l) w E (by omega) (by rw [bs_data]; exact h')
    rw [num_err h']
    clear h h'
    go_enter Tryd.func51, Tryd.ntmps51
    go_wp2_with (go_at_call 58; refine (C1.out _ E).mono ?_; rintro e w1 ⟨⟨x, p, rfl⟩, hb1⟩)
    go_ret2
    exact ⟨rfl, hb1⟩
end Go.Proofs.YtapflhndpcgdiaaDoor
