/- Contracts of the small functions of chapter 1 and of the document's answers to them. -/
import Derived.Test.YtmjjnlhmconheaaDoorBuild
import Derived.Test.YtmjjnlhmconheaaDoorPairsOf
import Derived.Test.YtmjjnlhmconheaaDoorPFlt
import Derived.Test.YtmjjnlhmconheaaDoorSame0
import Derived.Laws.BitsAllLaws
namespace Go.Proofs.YtmjjnlhmconheaaDoor
open Go.ChangeShapes Go.WideShapes Go.ChangeAt Go.RowKit
open Num

theorem xor64 (a b : Int) (h1 : 0 ≤ a) (h2 : a < 4294967296) (h3 : 0 ≤ b) (h4 : b < 4294967296) : bits .xor .i64 a b = bits .xor .u32 a b := by
  obtain ⟨A, rfl⟩ := Int.eq_ofNat_of_zero_le h1
  obtain ⟨B, rfl⟩ := Int.eq_ofNat_of_zero_le h3
  have hx : A ^^^ B < 2 ^ 32 := Nat.xor_lt_two_pow (by omega) (by omega)
  have e1 : (BitVec.ofInt 64 (A : Int)).toNat = A := by
    rw [BitVec.ofInt_natCast, BitVec.toNat_ofNat]; exact Nat.mod_eq_of_lt (by omega)
  have e2 : (BitVec.ofInt 64 (B : Int)).toNat = B := by
    rw [BitVec.ofInt_natCast, BitVec.toNat_ofNat]; exact Nat.mod_eq_of_lt (by omega)
  rw [u32_xor_nat A B (by omega) (by omega)]
  show IntKind.i64.wrap ((BitVec.ofInt 64 (A : Int) ^^^ BitVec.ofInt 64 (B : Int)).toNat : Int) = _
  rw [BitVec.toNat_xor, e1, e2]
  exact wrap_small _ (by omega) (by omega)
theorem xor_bd (a b : Int) (h1 : 0 ≤ a) (h2 : a < 4294967296) (h3 : 0 ≤ b) (h4 : b < 4294967296) : 0 ≤ bits .xor .u32 a b ∧ bits .xor .u32 a b < 4294967296 := by
  rw [u32_xor a b h1 h2 h3 h4]
  have : a.toNat ^^^ b.toNat < 2 ^ 32 := Nat.xor_lt_two_pow (by omega) (by omega)
  omega
def stp (h : Int) (c : UInt8) : Int := bits BinOp.xor IntKind.u32 h ((c.toNat : Int) % 4294967296) * 16777619 % 4294967296
def ksum (l : List UInt8) : Int := l.foldl stp 2166136261
theorem ksum_snoc (l : List UInt8) (c : UInt8) : ksum (l ++ [c]) = bits BinOp.xor IntKind.u32 (ksum l) ((c.toNat : Int) % 4294967296) * 16777619 % 4294967296 := by
  unfold ksum; rw [List.foldl_append]; rfl
theorem stp_bd (h : Int) (c : UInt8) : 0 ≤ stp h c ∧ stp h c < 4294967296 := by
  unfold stp; omega
theorem ksum_bd (l : List UInt8) : 0 ≤ ksum l ∧ ksum l < 4294967296 := by
  unfold ksum
  rcases List.eq_nil_or_concat l with rfl | ⟨l, c, rfl⟩
  · simp
  · rw [List.concat_eq_append, List.foldl_append]; exact stp_bd _ _
theorem ret_int {k : IntKind} {a b : Int} (h : a = b) : Ending.returned (.int k a) = .returned (.int k b) := by rw [h]

set_option maxHeartbeats 400000 in
theorem sum_any (s : ByteArray) (w : World) (hs : s.size ≤ maxLen) :
    Calls Tryd.prog 10 #[.string s] w fun e w' => e = .returned (.int .u32 (ksum s.data.toList)) ∧ w' = w := by
  unfold maxLen at hs
  go_enter Tryd.func10, Tryd.ntmps10
  go_wp2
  go_loop [3, 4, 7] (fun h _ j => ∃ k : Nat, k ≤ s.size ∧ j = .int .i64 k ∧ h = .int .u32 (ksum (s.data.toList.take k))) (fun _ _ i => s.size - (intOf i).toNat)
  case atStart => exact ⟨0, Nat.zero_le _, rfl, rfl⟩
  case round =>
    obtain ⟨k, hk, rfl, rfl⟩ := hrel
    by_cases hlt : k < s.size
    · have HS : Hid (ksum (s.data.toList.take (k + 1)) = bits BinOp.xor IntKind.u32 (ksum (s.data.toList.take k)) ((s[k].toNat : Int) % 4294967296) * 16777619 % 4294967296) := by
        rw [take_snoc s k hlt]; exact ksum_snoc _ _
      go_wp2
      go_round
      case rel => exact ⟨k + 1, by omega, by go_num, by rw [HS.out]⟩
      case measure => simp [intOf]; omega
    · go_wp2
      go_ret
      exact ⟨ret_int (by rw [List.take_of_length_le (by simp; omega)]), rfl⟩
theorem key_step (x : Int) (c : UInt8) (h1 : 0 ≤ x) (h2 : x < 4294967296) : bits BinOp.xor IntKind.i64 x (c.toNat : Int) = bits BinOp.xor IntKind.u32 x ((c.toNat : Int) % 4294967296) ∧ 0 ≤ bits BinOp.xor IntKind.i64 x (c.toNat : Int) ∧ bits BinOp.xor IntKind.i64 x (c.toNat : Int) < 4294967296 := by
  have hc := c.toNat_lt
  have e : (c.toNat : Int) % 4294967296 = c.toNat := by omega
  rw [e, xor64 x _ h1 h2 (by omega) (by omega)]
  exact ⟨rfl, xor_bd x _ h1 h2 (by omega) (by omega)⟩
set_option maxHeartbeats 400000 in
theorem keySum_any (s : ByteArray) (w : World) (hs : s.size ≤ maxLen) :
    Calls Tryd.prog 11 #[.string s] w fun e w' => e = .returned (.int .i64 (ksum s.data.toList)) ∧ w' = w := by
  unfold maxLen at hs
  go_enter Tryd.func11, Tryd.ntmps11
  go_wp2
  go_loop [3, 4] (fun h j => ∃ k : Nat, k ≤ s.size ∧ j = .int .i64 k ∧ h = .int .i64 (ksum (s.data.toList.take k))) (fun _ i => s.size - (intOf i).toNat)
  case atStart => exact ⟨0, Nat.zero_le _, rfl, rfl⟩
  case round =>
    obtain ⟨k, hk, rfl, rfl⟩ := hrel
    have hbd := ksum_bd (s.data.toList.take k)
    by_cases hlt : k < s.size
    · obtain ⟨x1, x2, x3⟩ := key_step (ksum (s.data.toList.take k)) s[k] hbd.1 hbd.2
      have HS : Hid (ksum (s.data.toList.take (k + 1)) = bits BinOp.xor IntKind.i64 (ksum (s.data.toList.take k)) (s[k].toNat : Int) * 16777619 % 4294967296) := by
        show _ = _
        rw [x1, take_snoc s k hlt]; exact ksum_snoc _ _
      clear x1
      have hby : s[k].toNat < 256 := s[k].toNat_lt
      go_wp2
      go_round
      case rel => exact ⟨k + 1, by omega, by go_num, by rw [HS.out]⟩
      case measure => simp [intOf]; omega
    · go_wp2
      go_ret
      exact ⟨ret_int (by rw [List.take_of_length_le (by simp; omega)]), rfl⟩
set_option maxHeartbeats 400000 in
theorem slice_any (s : ByteArray) (n : Int) (w : World) (hs : s.size ≤ maxLen) (h1 : 1 ≤ n) (h2 : n ≤ 1000) :
    Calls Tryd.prog 12 #[.string s, .int .i64 n] w fun e w' => e = .returned (.int .i64 (ksum s.data.toList % n)) ∧ w' = w := by
  have hb := ksum_bd s.data.toList
  have hm := Int.emod_nonneg (ksum s.data.toList) (show n ≠ 0 by omega)
  have hm2 := Int.emod_lt_of_pos (ksum s.data.toList) (show 0 < n by omega)
  go_enter Tryd.func12, Tryd.ntmps12
  go_wp2_with (go_at_call 10; refine (sum_any _ _ hs).mono ?_; rintro e w' ⟨rfl, rfl⟩)
  go_ret
  exact ⟨rfl, rfl⟩
set_option maxHeartbeats 400000 in
theorem sliceOf_any (s : ByteArray) (n : Int) (w : World) (hs : s.size ≤ maxLen) (h1 : 1 ≤ n) (h2 : n ≤ 1000) :
    Calls Tryd.prog 13 #[.string s, .int .i64 n] w fun e w' => e = .returned (.int .i64 (ksum s.data.toList % n)) ∧ w' = w := by
  have hb := ksum_bd s.data.toList
  have hm := Int.emod_nonneg (ksum s.data.toList) (show n ≠ 0 by omega)
  have hm2 := Int.emod_lt_of_pos (ksum s.data.toList) (show 0 < n by omega)
  go_enter Tryd.func13, Tryd.ntmps13
  go_wp2_with (go_at_call 11; refine (keySum_any _ _ hs).mono ?_; rintro e w' ⟨rfl, rfl⟩)
  go_ret
  exact ⟨ret_int (by rw [Int.max_eq_right h1]), rfl⟩

end Go.Proofs.YtmjjnlhmconheaaDoor
