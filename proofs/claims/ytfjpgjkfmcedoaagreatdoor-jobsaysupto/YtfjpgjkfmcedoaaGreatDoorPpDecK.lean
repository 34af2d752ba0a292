/- Contracts of upTo and Decimal of the document's answer, and of what strings.Cut gives at one byte. -/
import Derived.Test.YtfjpgjkfmcedoaaGreatDoorG11
import Derived.Laws.StructEq
import Derived.Test.YtfjpgjkfmcedoaaGreatDoorPpNum
import Derived.Lib.IndexMore
import Derived.Lib.IndexBytes
import Derived.Deep.RegionWith
import Derived.RegionTactic
namespace Go.Proofs.YtfjpgjkfmcedoaaGreatDoor.Pp
open Go.ChangeShapes Go.WideShapes Go.ChangeAt Go.RowKit
open Num

/-- What stands ahead of the first c, behind it, and whether it is there. -/
def cutAt (c : UInt8) : List UInt8 → List UInt8 × List UInt8 × Bool
  | [] => ([], [], false)
  | b :: r => if b = c then ([], r, true) else (b :: (cutAt c r).1, (cutAt c r).2.1, (cutAt c r).2.2)
theorem cutAt_at {c : UInt8} : ∀ {l : List UInt8} {k : Nat} (h : k < l.length), (∀ j (h : j < l.length), j < k → l[j] ≠ c) → l[k] = c → cutAt c l = (l.take k, l.drop (k + 1), true) := by
  intro l
  induction l with
  | nil => intro k h; simp at h
  | cons b r ih =>
    intro k h hno hk
    cases k with
    | zero => simp only [List.getElem_cons_zero] at hk; simp [cutAt, hk]
    | succ k =>
      have h0 : b ≠ c := hno 0 (by simp) (by omega)
      simp only [List.getElem_cons_succ] at hk
      rw [cutAt, if_neg h0, ih (by simpa using h) (fun j hj hjk => by have := hno (j + 1) (by simpa using hj) (by omega); simpa using this) hk]
      simp
theorem cutAt_none {c : UInt8} : ∀ {l : List UInt8}, (∀ j (h : j < l.length), l[j] ≠ c) → cutAt c l = (l, [], false) := by
  intro l
  induction l with
  | nil => intro _; rfl
  | cons b r ih =>
    intro hno
    have h0 : b ≠ c := hno 0 (by simp)
    rw [cutAt, if_neg h0, ih (fun j hj => by have := hno (j + 1) (by simpa using hj); simpa using this)]
theorem cut_one (c : UInt8) : ∀ l : List UInt8, Lib.cut l [c] = cutAt c l := by
  intro l
  induction l with
  | nil => simp [Lib.cut, Lib.index, cutAt]
  | cons b r ih =>
    by_cases h : b = c
    · subst h
      simp [Lib.cut, Lib.index, cutAt, List.isPrefixOf]
    · rw [cutAt, if_neg h, ← ih]
      have h' : (c == b) = false := by simpa using fun e => h e.symm
      have hge := Lib.index_ge r [c]
      simp only [Lib.cut, Lib.index, List.isPrefixOf, h', Bool.false_and, Bool.false_eq_true, if_false]
      by_cases h1 : Lib.index r [c] = -1
      · simp [h1]
      · have h2 : 0 ≤ Lib.index r [c] := by omega
        have h3 : (Lib.index r [c] + 1).toNat = (Lib.index r [c]).toNat + 1 := by omega
        have hb : (Lib.index r [c] == -1) = false := by simpa using h1
        simp only [hb, Bool.false_eq_true, if_false]
        rw [if_pos (by omega), if_pos h2, h3]
        simp

theorem bytes_take (s : ByteArray) (k : Nat) : s.extract 0 k = ⟨(s.data.toList.take k).toArray⟩ := by
  apply ByteArray.ext
  apply Array.ext'
  simp
theorem bytes_drop (s : ByteArray) (k : Nat) : s.extract k s.size = ⟨(s.data.toList.drop k).toArray⟩ := by
  apply ByteArray.ext
  apply Array.ext'
  simp only [ByteArray.data_extract, Array.toList_extract, List.extract_eq_take_drop]
  rw [List.take_of_length_le (by rw [List.length_drop, Array.length_toList]; exact Nat.le_refl _)]

set_option maxRecDepth 100000 in
set_option maxHeartbeats 400000 in
theorem upTo_any (s : ByteArray) (c : UInt8) (w : World) (hs : s.size ≤ maxLen) :
    Calls Tryz.prog 24 #[.string s, .int .u8 c.toNat] w fun e w' => e = .returned (.tuple #[.string ⟨(cutAt c s.data.toList).1.toArray⟩, .string ⟨(cutAt c s.data.toList).2.1.toArray⟩, .bool (cutAt c s.data.toList).2.2]) ∧ ∃ n, w' = w.drewN n := by
  unfold maxLen at hs
  go_enter Tryz.func24, Tryz.ntmps24
  go_wp2
  go_loop [7] (fun i => ∃ k : Nat, k ≤ s.size ∧ i = .int .i64 k ∧ ∀ j (h : j < s.size), j < k → s[j] ≠ c) (fun i => s.size - (intOf i).toNat)
  case atStart => exact ⟨0, Nat.zero_le _, rfl, fun j _ h => absurd h (by omega)⟩
  case round =>
    obtain ⟨k, hk, rfl, hp⟩ := hrel
    have HP := Lib.hid hp
    clear hp
    by_cases hlt : k < s.size
    · by_cases he : s[k] = c
      · have he' : ((s[k].toNat : Int) == (c.toNat : Int)) = true := by simp [he]
        have hcut : Hid (cutAt c s.data.toList = (s.data.toList.take k, s.data.toList.drop (k + 1), true)) := cutAt_at (l := s.data.toList) (by simpa using hlt) (fun j hj hjk => HP.out j (by simpa using hj) hjk) he
        clear he
        go_wp2
        go_quiet (fail)
        go_wp2
        go_ret3
        refine ⟨?_, _, rfl⟩
        show Ending.returned (.tuple #[.string (s.extract 0 k), .string (s.extract (k + 1) s.size), .bool true]) = _
        rw [hcut.out, bytes_take, bytes_drop]
      · have he' : ((s[k].toNat : Int) == (c.toNat : Int)) = false := by
          simp only [beq_eq_false_iff_ne, ne_eq]
          intro e
          exact he (UInt8.toNat_inj.1 (by omega))
        go_wp2
        go_round
        case rel =>
          refine ⟨k + 1, by omega, by go_num, fun j hj hjk => ?_⟩
          by_cases hjk' : j = k
          · subst hjk'; exact he
          · exact HP.out j hj (by omega)
        case measure => simp [intOf]; omega
    · have hcut : Hid (cutAt c s.data.toList = (s.data.toList, [], false)) := cutAt_none (l := s.data.toList) (fun j hj => HP.out j (by simpa using hj) (by rw [Array.length_toList] at hj; have e : s.size = s.data.size := rfl; omega))
      go_wp2
      go_ret3
      rw [hcut.out]
      exact ⟨rfl, 0, rfl⟩

theorem itoa_small {n : Int} (h0 : 0 ≤ n) (h1 : n < 10) : Lib.itoa n = [UInt8.ofNat (48 + n.toNat)] := by
  unfold Lib.itoa
  rw [if_neg (by omega), dec_small (by omega)]
theorem itoa_big {n : Int} (h1 : 10 ≤ n) : Lib.itoa n = Lib.itoa (n / 10) ++ [UInt8.ofNat (48 + (n % 10).toNat)] := by
  unfold Lib.itoa
  rw [if_neg (by omega), if_neg (by omega), dec_big (by omega), show (n / 10).toNat = n.toNat / 10 by omega, show (n % 10).toNat = n.toNat % 10 by omega]
theorem itoa_neg {n : Int} (h : n < 0) : Lib.itoa n = 45 :: Lib.itoa (-n) := by
  unfold Lib.itoa
  rw [if_pos h, if_neg (by omega), show (-n).toNat = n.natAbs by omega]
theorem bcell {W w1 : World} (hb : Below W.heap.size W w1) : (∀ b o, b < W.heap.size → w1.cell? ⟨b, o, none⟩ = W.cell? ⟨b, o, none⟩) ∧ (∀ b o, b < W.heap.size → w1.frozen? ⟨b, o, none⟩ = W.frozen? ⟨b, o, none⟩) :=
  ⟨fun b o h => hb.cell (p := ⟨b, o, none⟩) h, fun b o h => hb.frozen (p := ⟨b, o, none⟩) h⟩
theorem conv_one (W : World) (b : Nat) (c : UInt8) (x : Int) (hx : x = c.toNat) (h : W.cell? ⟨b, 0, none⟩ = some (.int .u8 x)) :
    (convert 76 9 (.slice (some ⟨b, 0, none⟩) 1 1)).run Tryz.prog W = .ok (.string ⟨#[c]⟩) W := by
  refine run_convert_bytes_back W 76 9 5 ⟨b, 0, none⟩ 1 [c] Tryz.underlying76 Tryz.underlying5 Tryz.underlying9 ?_
  intro j hj
  have : j = 0 := by simp at hj; omega
  subst this
  rw [hx] at h
  exact h
theorem dig_of (d : Int) (h0 : 0 ≤ d) (h1 : d ≤ 9) : ∃ c : UInt8, UInt8.ofNat (48 + d.toNat) = c ∧ 48 + d = c.toNat :=
  ⟨_, rfl, by rw [ofNat_dig _ (by omega)]; omega⟩
set_option maxRecDepth 100000 in
set_option maxHeartbeats 400000 in
theorem decimal_small (n : Int) (w : World) (h0 : 0 ≤ n) (h1 : n < 10) :
    Calls Tryz.prog 20 #[.int .i64 n] w fun e w' => e = .returned (.string ⟨(Lib.itoa n).toArray⟩) ∧ Below w.heap.size w w' := by
  obtain ⟨c, hc, hx⟩ := dig_of n h0 (by omega)
  rw [itoa_small h0 h1, hc]
  have hcv := fun W b => conv_one W b c (48 + n) hx
  clear hc hx
  go_enter Tryz.func20, Tryz.ntmps20
  go_wp2
  go_ret
  exact ⟨rfl, (Below.refl _ _).alloc (Nat.le_refl _) _⟩
theorem bytes_append (a b : List UInt8) : (⟨a.toArray⟩ : ByteArray) ++ (⟨b.toArray⟩ : ByteArray) = ⟨(a ++ b).toArray⟩ := by
  apply ByteArray.ext
  simp
theorem ret_str {a b : ByteArray} (h : a = b) : Ending.returned (.string a) = .returned (.string b) := by rw [h]
theorem itoa_len_le (n : Int) (h0 : 0 ≤ n) (h1 : n ≤ 9223372036854775807) : (Lib.itoa n).length ≤ 19 := by
  unfold Lib.itoa
  rw [if_neg (by omega)]
  exact nDig_le _ (by omega)
set_option maxRecDepth 100000 in
set_option maxHeartbeats 1000000 in
theorem decimal_nat (m : Nat) : ∀ (n : Int) (w : World), 0 ≤ n → n ≤ 9223372036854775807 → n.toNat ≤ m →
    Calls Tryz.prog 20 #[.int .i64 n] w fun e w' => e = .returned (.string ⟨(Lib.itoa n).toArray⟩) ∧ Below w.heap.size w w' := by
  induction m with
  | zero => intro n w h0 _ h1; exact decimal_small n w h0 (by omega)
  | succ m ih =>
    intro n w h0 hb h1
    by_cases hs : n < 10
    · exact decimal_small n w h0 hs
    · obtain ⟨c, hc, hx⟩ := dig_of (n % 10) (by omega) (by omega)
      rw [itoa_big (by omega), hc]
      have hcv := fun W b => conv_one W b c (48 + n % 10) hx
      have hc256 : 48 + n % 10 ≤ 57 := by omega
      have hlen := itoa_len_le (n / 10) (by omega) (by omega)
      have IH : Hid (∀ w : World, Calls Tryz.prog 20 #[.int .i64 (n / 10)] w fun e w' => e = .returned (.string ⟨(Lib.itoa (n / 10)).toArray⟩) ∧ Below w.heap.size w w') := fun w => ih (n / 10) w (by omega) (by omega) (by omega)
      clear ih hc hx
      have e0 : n.tdiv 10 = n / 10 := Int.tdiv_eq_ediv_of_nonneg h0
      have e1 : IntKind.i64.wrap (n / 10) = n / 10 := wrap_small _ (by omega) (by omega)
      have e2 : n.tmod 10 = n % 10 := Int.tmod_eq_emod_of_nonneg h0
      have e3 : IntKind.i64.wrap (48 + n % 10) = 48 + n % 10 := wrap_small _ (by omega) (by omega)
      have e4 : IntKind.u8.wrap (48 + n % 10) = 48 + n % 10 := wraps_u8 _ (by omega) (by omega)
      clear hb h1 hc256
      generalize Lib.itoa (n / 10) = tx at *
      go_enter Tryz.func20, Tryz.ntmps20
      go_wp2
      go_region_with (go_at_call 20; refine (IH.out _).mono ?_; rintro e w1 ⟨rfl, hb1⟩; obtain ⟨hc1, hf1⟩ := bcell hb1)
      all_goals
        go_wp2
        go_ret
        refine ⟨ret_str (bytes_append tx [c]), ?_⟩
        first
          | exact ((Below.drew (Below.refl _ w)).trans hb1).alloc (by have := hb1.size; simpa using this) _
          | exact (Below.drew ((Below.refl _ w).alloc (Nat.le_refl _) _)).trans (hb1.mono (by simp))
theorem least_text' : Lib.itoa (-9223372036854775808) = [45, 57, 50, 50, 51, 51, 55, 50, 48, 51, 54, 56, 53, 52, 55, 55, 53, 56, 48, 56] := by decide +kernel
set_option maxRecDepth 100000 in
set_option maxHeartbeats 1000000 in
theorem decimal_any (n : Int) (w : World) (h0 : -9223372036854775808 ≤ n) (h1 : n ≤ 9223372036854775807) :
    Calls Tryz.prog 20 #[.int .i64 n] w fun e w' => e = .returned (.string ⟨(Lib.itoa n).toArray⟩) ∧ Below w.heap.size w w' := by
  by_cases hn : n < 0
  · by_cases hm : n = -9223372036854775808
    · subst hm
      rw [least_text']
      go_enter Tryz.func20, Tryz.ntmps20
      go_wp2
      go_ret
      exact ⟨rfl, Below.refl _ _⟩
    · have hm' : (n == -9223372036854775808) = false := by simpa using hm
      have IH : Hid (∀ w : World, Calls Tryz.prog 20 #[.int .i64 (-n)] w fun e w' => e = .returned (.string ⟨(Lib.itoa (-n)).toArray⟩) ∧ Below w.heap.size w w') := fun w => decimal_nat (-n).toNat (-n) w (by omega) (by omega) (Nat.le_refl _)
      have hlen := itoa_len_le (-n) (by omega) (by omega)
      rw [itoa_neg hn]
      generalize Lib.itoa (-n) = tx at *
      have hlo : -9223372036854775807 ≤ n := by omega
      clear hm
      go_enter Tryz.func20, Tryz.ntmps20
      go_wp2_with (go_at_call 20; refine (IH.out _).mono ?_; rintro e w1 ⟨rfl, hb1⟩)
      go_ret
      exact ⟨ret_str (bytes_append [45] tx), hb1⟩
  · exact decimal_nat n.toNat n w (by omega) h1 (Nat.le_refl _)
end Go.Proofs.YtfjpgjkfmcedoaaGreatDoor.Pp
