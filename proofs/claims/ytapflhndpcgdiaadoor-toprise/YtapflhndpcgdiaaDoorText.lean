/- Contract of PairsText of the document's answer: the text of pairs. -/
import Derived.Test.YtapflhndpcgdiaaDoorParse
import Derived.Lib.QuietBelow
namespace Go.Proofs.YtapflhndpcgdiaaDoor
open Go.ChangeShapes Go.WideShapes Go.ChangeAt Go.RowKit
open Num

/-- A pair's text; the text of pairs. -/
def text1 (p : ByteArray × Int) : List UInt8 := Lib.itoa p.1.size ++ [58] ++ p.1.data.toList ++ [32] ++ Lib.itoa p.2 ++ [10]
def textL (l : List (ByteArray × Int)) : List UInt8 := l.flatMap text1
theorem textL_step (l : List (ByteArray × Int)) (k : Nat) (h : k < l.length) : textL (l.take (k + 1)) = textL (l.take k) ++ text1 l[k] := by
  unfold textL
  rw [List.take_succ_eq_append_getElem h, List.flatMap_append]; simp
theorem bs_append (a b : List UInt8) : bs a ++ bs b = bs (a ++ b) := bytes_append a b
theorem itoa_len (n : Int) (h0 : -9223372036854775808 ≤ n) (h1 : n ≤ 9223372036854775807) : (Lib.itoa n).length ≤ 20 := by
  by_cases h : n < 0
  · unfold Lib.itoa
    rw [if_pos h, List.length_cons]
    have := nDig_le n.natAbs (by omega)
    omega
  · have := itoa_len_le n (by omega) h1
    omega
theorem text1_len (p : ByteArray × Int) (hp : p.1.size ≤ 1000) (h0 : -9223372036854775808 ≤ p.2) (h1 : p.2 ≤ 9223372036854775807) : (text1 p).length ≤ 1100 := by
  unfold text1
  have a := itoa_len p.1.size (by omega) (by omega)
  have b := itoa_len p.2 h0 h1
  have c : p.1.data.toList.length = p.1.size := Array.length_toList
  simp only [List.length_append, List.length_cons, List.length_nil]
  omega
/-- Pairs within bounds. -/
def Fits (l : List (ByteArray × Int)) : Prop := ∀ p ∈ l, p.1.size ≤ 1000 ∧ -9223372036854775808 ≤ p.2 ∧ p.2 ≤ 9223372036854775807
theorem textL_len {l : List (ByteArray × Int)} (h : Fits l) : (textL l).length ≤ 1100 * l.length := by
  induction l with
  | nil => simp [textL]
  | cons p l ih =>
    have h1 := h p (List.mem_cons_self ..)
    have h2 := ih (fun q hq => h q (List.mem_cons_of_mem _ hq))
    have h3 := text1_len p h1.1 h1.2.1 h1.2.2
    have e : textL (p :: l) = text1 p ++ textL l := by simp [textL]
    rw [e, List.length_append, List.length_cons]
    omega

theorem text1_bs (x : List UInt8) (p : ByteArray × Int) : bs x ++ bs (Lib.itoa (p.1.size : Int)) ++ ⟨#[58]⟩ ++ p.1 ++ ⟨#[32]⟩ ++ bs (Lib.itoa p.2) ++ ⟨#[10]⟩ = bs (x ++ text1 p) := by
  obtain ⟨s, n⟩ := p
  simp only [text1]
  generalize Lib.itoa (s.size : Int) = i
  generalize Lib.itoa n = j
  apply ByteArray.ext
  apply Array.ext'
  simp [bs]
theorem text_next (l : List (ByteArray × Int)) (k : Nat) (h : k < l.length) : bs (textL (l.take k)) ++ bs (Lib.itoa (l[k].1.size : Int)) ++ ⟨#[58]⟩ ++ l[k].1 ++ ⟨#[32]⟩ ++ bs (Lib.itoa l[k].2) ++ ⟨#[10]⟩ = bs (textL (l.take (k + 1))) := by
  rw [textL_step l k h]
  exact text1_bs _ _
set_option maxRecDepth 100000 in
set_option maxHeartbeats 400000 in
theorem pairsText_any (v : Value) (l : List (ByteArray × Int)) (w : World) (h : IsPairs w v l) (hf : Fits l) (hl : l.length ≤ 1000) :
    Calls Tryd.prog 20 #[v] w fun e w' => e = .returned (.string (bs (textL l))) ∧ Below w.heap.size w w' := by
  obtain ⟨a, cap, rfl, hc⟩ := h
  have hmix : Tryd.prog.follows .mixedOrders = true := by kernel_rfl
  go_enter Tryd.func20, Tryd.ntmps20
  go_wp2
  go_loopw [3, 4] (fun s i wr => ∃ k : Nat, k ≤ l.length ∧ i = .int .i64 k ∧ s = .string (bs (textL (l.take k))) ∧ Below w.heap.size w wr) (fun _ i _ => l.length - (intOf i).toNat)
  case atStart => exact ⟨0, Nat.zero_le _, rfl, rfl, Below.refl _ _⟩
  case round =>
    obtain ⟨k, hk, rfl, rfl, hb⟩ := hrel
    by_cases hlt : k < l.length
    · obtain ⟨b, off, rfl, c0, c1⟩ := hc k hlt
      have hf1 := hf l[k] (List.getElem_mem hlt)
      have hlen : (textL (l.take k)).length ≤ 1100 * 1000 := by
        have h1 := textL_len (l := l.take k) (fun p hp => hf p (List.mem_of_mem_take hp))
        rw [List.length_take] at h1
        omega
      have D1 : ∀ w, Calls Tryd.prog 40 #[.int .i64 (l[k].1.size : Int)] w fun e w' => e = .returned (.string (bs (Lib.itoa (l[k].1.size : Int)))) ∧ Below w.heap.size w w' := fun w => decimal_any _ w (by omega) (by omega)
      have D2 : ∀ w, Calls Tryd.prog 40 #[.int .i64 l[k].2] w fun e w' => e = .returned (.string (bs (Lib.itoa l[k].2))) ∧ Below w.heap.size w w' := fun w => decimal_any _ w hf1.2.1 hf1.2.2
      have cD1 : Hid (∀ d os, Calls Tryd.prog 40 #[.int .i64 (l[k].1.size : Int)] (Sort.grow (redrawn wr d) os) fun e w'' => e = .returned (.string (bs (Lib.itoa (l[k].1.size : Int)))) ∧ ∃ p : Regrown, w'' = Sort.grow (redrawn wr p.d) p.os) := fun d os => Calls.regrown_of (D1 _)
      have cD2 : Hid (∀ d os, Calls Tryd.prog 40 #[.int .i64 l[k].2] (Sort.grow (redrawn wr d) os) fun e w'' => e = .returned (.string (bs (Lib.itoa l[k].2))) ∧ ∃ p : Regrown, w'' = Sort.grow (redrawn wr p.d) p.os) := fun d os => Calls.regrown_of (D2 _)
      have k0 := cell_regrown (cell_below c0 hb)
      have k1 := cell_regrown (cell_below c1 hb)
      have hi1 := itoa_len (l[k].1.size : Int) (by omega) (by omega)
      have hi2 := itoa_len l[k].2 hf1.2.1 hf1.2.2
      have HE := Lib.hid (text_next l k hlt)
      have s1 := bs_size (textL (l.take k))
      have s2 := bs_size (Lib.itoa (l[k].1.size : Int))
      have s3 := bs_size (Lib.itoa l[k].2)
      rw [← s1] at hlen
      rw [← s2] at hi1
      rw [← s3] at hi2
      clear D1 D2 c0 c1 hc s1 s2 s3
      generalize l[k] = pp at *
      obtain ⟨s, m⟩ := pp
      simp only at *
      generalize bs (textL (l.take k)) = X at *
      generalize bs (Lib.itoa (s.size : Int)) = I at *
      generalize bs (Lib.itoa m) = J at *
      have n1 : ¬ 9223372036854775807 < X.size + I.size := by omega
      have n2 : ¬ 9223372036854775807 < X.size + I.size + 1 := by omega
      have n3 : ¬ 9223372036854775807 < X.size + I.size + 1 + s.size := by omega
      have n4 : ¬ 9223372036854775807 < X.size + I.size + 1 + s.size + 1 := by omega
      have n5 : ¬ 9223372036854775807 < X.size + I.size + 1 + s.size + 1 + J.size := by omega
      have n6 : ¬ 9223372036854775807 < X.size + I.size + 1 + s.size + 1 + J.size + 1 := by omega
      go_wp2
      refine wp_region_quiet_below hmix (by kernel_rfl) ?_
      repeat (quiet_step (first | (go_at_call_of 40 (Value.int IntKind.i64 m); exact cD2.out _ _) | (go_at_call 40; exact cD1.out _ _)))
      refine wpQuiet_nil ?_
      intro _ hw'
      obtain ⟨⟨dq, osq⟩, hw''⟩ := hw'
      subst hw''
      have hbb : Below w.heap.size w (Sort.grow (redrawn wr dq) osq) := hb.trans ((below_regrown wr dq osq).mono hb.size)
      generalize Sort.grow (redrawn wr dq) osq = w2 at *
      clear n1 n2 n3 n4 n5 n6 k0 k1 cD1 cD2
      go_wp2
      go_roundw
      case rel => exact ⟨k + 1, by omega, by go_num, by rw [HE.out], hbb⟩
      case measure => simp [intOf]; omega
    · go_wp2
      go_ret
      rw [List.take_of_length_le (by omega)]
      exact ⟨rfl, hb⟩
end Go.Proofs.YtapflhndpcgdiaaDoor
