/- Contracts of Number of the document's answer: whatever the text: is it a number's, and which. -/
import Derived.Test.YtfjpgjkfmcedoaaGreatDoorG11
import Derived.Laws.StructEq
import Derived.Test.YtfjpgjkfmcedoaaGreatDoorPpNum
namespace Go.Proofs.YtfjpgjkfmcedoaaGreatDoor.Pp
open Go.ChangeShapes Go.WideShapes Go.ChangeAt Go.RowKit
open Num

theorem data_head {t : ByteArray} (h : 0 < t.size) : t.data.toList.head? = some t[0] := by
  have : t.data.toList[0]? = some t[0] := by
    rw [List.getElem?_eq_getElem (by simpa using h)]; rfl
  rw [List.head?_eq_getElem?]; exact this
theorem len_data (t : ByteArray) : t.data.toList.length = t.size := Array.length_toList
theorem data_ne {t : ByteArray} (h : 1 ≤ t.size) : t.data.toList ≠ [] := by
  intro e
  have h2 := congrArg List.length e
  rw [len_data, List.length_nil] at h2
  omega
theorem none_of_shape {s t : ByteArray} (hm : mag s.data.toList = t.data.toList) (h : t.size < 1 ∨ 19 < t.size ∨ ∃ h : 0 < t.size, t[0].toNat = 48 ∧ 1 < s.size) : numB s.data.toList = none := by
  cases hv : numB s.data.toList with
  | none => rfl
  | some v =>
    exfalso
    obtain ⟨_, h1, h2, _, h4⟩ := num_shape hv
    rw [hm] at h1 h2 h4
    have e2 := len_data t
    rcases h with h | h | ⟨h, h', h''⟩
    · exact h1 (List.eq_nil_of_length_eq_zero (by omega))
    · omega
    · refine h4 ⟨?_, by rw [len_data]; exact h''⟩
      rw [data_head h]
      exact congrArg some (UInt8.toNat_inj.1 (by rw [h']; rfl))
theorem none_of_digit {s t : ByteArray} (hm : mag s.data.toList = t.data.toList) (k : Nat) (hk : k < t.size) (h : ¬ (48 ≤ t[k].toNat ∧ t[k].toNat ≤ 57)) : numB s.data.toList = none := by
  cases hv : numB s.data.toList with
  | none => rfl
  | some v =>
    exfalso
    obtain ⟨_, _, _, h3, _⟩ := num_shape hv
    rw [hm] at h3
    exact h ((digB_iff _).1 (h3 t[k] (List.getElem_mem (l := t.data.toList) (by simpa using hk))))
theorem take_snoc (s : ByteArray) (k : Nat) (h : k < s.size) : s.data.toList.take (k + 1) = s.data.toList.take k ++ [s[k]] := by
  rw [List.take_succ_eq_append_getElem (by simpa using h)]; rfl
theorem digs_step {t : ByteArray} {k : Nat} (hk : k < t.size) (hp : ∀ c ∈ t.data.toList.take k, digB c = true) (h : 48 ≤ t[k].toNat ∧ t[k].toNat ≤ 57) : ∀ c ∈ t.data.toList.take (k + 1), digB c = true := by
  rw [take_snoc t k hk]
  intro c hc
  rw [List.mem_append, List.mem_singleton] at hc
  rcases hc with hc | rfl
  · exact hp c hc
  · exact (digB_iff _).2 h
theorem digs_all {t : ByteArray} {k : Nat} (hk : t.size ≤ k) (hp : ∀ c ∈ t.data.toList.take k, digB c = true) : ∀ c ∈ t.data.toList, digB c = true := by
  rwa [List.take_of_length_le (by simpa using hk)] at hp
theorem val_take {t : ByteArray} {k : Nat} (hk : k < t.size) : val (t.data.toList.take (k + 1)) = val (t.data.toList.take k) * 10 + (t[k].toNat - 48) := by
  rw [take_snoc t k hk, val_snoc]
theorem val_take_le (l : List UInt8) (k : Nat) : val (l.take k) ≤ val l := by
  conv => rhs; rw [← List.take_append_drop k l]
  unfold val
  rw [List.foldl_append]
  exact fold_le _ _
theorem gt_max {t : ByteArray} (h19 : t.size = 19) (hd : ∀ c ∈ t.data.toList, digB c = true) (hh : t.data.toList.head? ≠ some 48) :
    (!Op.bytesLess t.toList [57, 50, 50, 51, 51, 55, 50, 48, 51, 54, 56, 53, 52, 55, 55, 53, 56, 48, 55] && !(t.toList == [57, 50, 50, 51, 51, 55, 50, 48, 51, 54, 56, 53, 52, 55, 55, 53, 56, 48, 55])) = decide (9223372036854775807 < val t.data.toList) := by
  have hl : t.data.toList.length = 19 := by rw [len_data]; exact h19
  have e : val maxText = 9223372036854775807 := by decide +kernel
  have h1 := less_val t.data.toList maxText 0 (by rw [hl]; rfl) hd (by decide)
  change _ ↔ val t.data.toList < val maxText at h1
  rw [e] at h1
  rw [ByteArray.toList_eq]
  change (!Op.bytesLess t.data.toList maxText && !(t.data.toList == maxText)) = _
  rw [Bool.eq_iff_iff]
  simp only [Bool.and_eq_true, Bool.not_eq_true', decide_eq_true_eq, beq_eq_false_iff_ne]
  constructor
  · rintro ⟨h2, h3⟩
    have h4 : ¬ val t.data.toList < 9223372036854775807 := fun h => by rw [h1.2 h] at h2; cases h2
    have h5 : val t.data.toList ≠ 9223372036854775807 := by
      intro h5
      apply h3
      have h6 := val_dec _ t.data.toList rfl (fun h => by rw [h] at hl; simp at hl) hd (.inr hh)
      rw [h5] at h6
      rw [← h6]
      decide +kernel
    omega
  · intro h2
    refine ⟨?_, ?_⟩
    · cases h3 : Op.bytesLess t.data.toList maxText with
      | false => rfl
      | true => have := h1.1 h3; omega
    · intro h3; rw [h3, e] at h2; omega
theorem least_text : Lib.itoa (-9223372036854775808) = [45, 57, 50, 50, 51, 51, 55, 50, 48, 51, 54, 56, 53, 52, 55, 55, 53, 56, 48, 56] := by decide +kernel
theorem not_gt_max {t : ByteArray} (h19 : t.size = 19) (hd : ∀ c ∈ t.data.toList, digB c = true) (hh : t.data.toList.head? ≠ some 48) (hv : val t.data.toList ≤ 9223372036854775807) :
    Op.bytesLess t.toList [57, 50, 50, 51, 51, 55, 50, 48, 51, 54, 56, 53, 52, 55, 55, 53, 56, 48, 55] = true ∨ (Op.bytesLess t.toList [57, 50, 50, 51, 51, 55, 50, 48, 51, 54, 56, 53, 52, 55, 55, 53, 56, 48, 55] = false ∧ (t.toList == [57, 50, 50, 51, 51, 55, 50, 48, 51, 54, 56, 53, 52, 55, 55, 53, 56, 48, 55]) = true) := by
  have h := gt_max h19 hd hh
  rw [show decide (9223372036854775807 < val t.data.toList) = false from decide_eq_false (by omega)] at h
  cases h1 : Op.bytesLess t.toList [57, 50, 50, 51, 51, 55, 50, 48, 51, 54, 56, 53, 52, 55, 55, 53, 56, 48, 55] with
  | true => exact .inl rfl
  | false =>
    rw [h1] at h
    exact .inr ⟨rfl, by simpa using h⟩
theorem is_gt_max {t : ByteArray} (h19 : t.size = 19) (hd : ∀ c ∈ t.data.toList, digB c = true) (hh : t.data.toList.head? ≠ some 48) (hv : 9223372036854775807 < val t.data.toList) :
    Op.bytesLess t.toList [57, 50, 50, 51, 51, 55, 50, 48, 51, 54, 56, 53, 52, 55, 55, 53, 56, 48, 55] = false ∧ (t.toList == [57, 50, 50, 51, 51, 55, 50, 48, 51, 54, 56, 53, 52, 55, 55, 53, 56, 48, 55]) = false := by
  have h := gt_max h19 hd hh
  rw [show decide (9223372036854775807 < val t.data.toList) = true from decide_eq_true hv] at h
  simpa using h
theorem least_eq {s : ByteArray} (h : (s.toList == [45, 57, 50, 50, 51, 51, 55, 50, 48, 51, 54, 56, 53, 52, 55, 55, 53, 56, 48, 56]) = true) : numB s.data.toList = some (-9223372036854775808) := by
  rw [beq_iff_eq, ByteArray.toList_eq, ← least_text] at h
  rw [h]; exact num_least
theorem least_ne {s : ByteArray} (h : (s.toList == [45, 57, 50, 50, 51, 51, 55, 50, 48, 51, 54, 56, 53, 52, 55, 55, 53, 56, 48, 56]) = false) : s.data.toList ≠ Lib.itoa (-9223372036854775808) := by
  rw [beq_eq_false_iff_ne, ByteArray.toList_eq, ← least_text] at h
  exact h
theorem ret_num {x y : Int} {b c : Bool} (h : x = y) (h' : b = c) : Ending.returned (.tuple #[.int .i64 x, .bool b]) = .returned (.tuple #[.int .i64 y, .bool c]) := by rw [h, h']

theorem loop_fact {t : ByteArray} {k : Nat} {x : Int} (hk : k < t.size) (hd : ∀ c ∈ t.data.toList, digB c = true) (hle : val t.data.toList ≤ 9223372036854775807) (hx : x = (val (t.data.toList.take k) : Nat)) :
    0 ≤ x ∧ x ≤ 922337203685477580 ∧ 48 ≤ t[k].toNat ∧ t[k].toNat ≤ 57 ∧ 10 * x + ((t[k].toNat : Int) - 48) ≤ 9223372036854775807 ∧ Hid (10 * x + ((t[k].toNat : Int) - 48) = (val (t.data.toList.take (k + 1)) : Nat)) := by
  have h1 := val_take hk
  have h2 := val_take_le t.data.toList (k + 1)
  obtain ⟨h3, h4⟩ := (digB_iff _).1 (hd t[k] (List.getElem_mem (l := t.data.toList) (by simpa using hk)))
  refine ⟨by omega, by omega, h3, h4, by omega, ?_⟩
  show _ = _
  omega
theorem loop_end {t : ByteArray} {k : Nat} {x : Int} (hk : t.size ≤ k) (hle : val t.data.toList ≤ 9223372036854775807) (hx : x = (val (t.data.toList.take k) : Nat)) :
    0 ≤ x ∧ x ≤ 9223372036854775807 ∧ Hid ((val t.data.toList : Int) = x) := by
  rw [List.take_of_length_le (by rw [len_data]; exact hk)] at hx
  exact ⟨by omega, by omega, hx.symm⟩
def NumSaid (s : ByteArray) (w : World) (e : Ending) (w' : World) : Prop :=
  (∃ x, e = .returned (.tuple #[.int .i64 x, .bool (numB s.data.toList).isSome]) ∧ ∀ v, numB s.data.toList = some v → x = v) ∧ w' = w
theorem numSaid_none {s : ByteArray} {w : World} {x : Int} (h : numB s.data.toList = none) : NumSaid s w (.returned (.tuple #[.int .i64 x, .bool false])) w :=
  ⟨⟨x, by rw [h]; rfl, by intro v hv; rw [h] at hv; cases hv⟩, rfl⟩
theorem numSaid_some {s : ByteArray} {w : World} {x : Int} (h : numB s.data.toList = some x) : NumSaid s w (.returned (.tuple #[.int .i64 x, .bool true])) w :=
  ⟨⟨x, by rw [h]; rfl, by intro v hv; rw [h] at hv; injection hv⟩, rfl⟩

set_option maxRecDepth 100000 in
set_option maxHeartbeats 8000000 in
theorem number_neg (s : ByteArray) (w : World) (hs : s.size ≤ maxLen) (h0 : 0 < s.size) (hn : s[0].toNat = 45) :
    Calls Tryz.prog 26 #[.string s] w fun e w' => NumSaid s w e w' := by
  unfold maxLen at hs
  have hn' : ((s[0].toNat : Int) == 45) = true := by simp [hn]
  have h0' : (0 : Int) < s.size := by omega
  have hm : mag s.data.toList = (s.extract 1 s.size).data.toList := by
    unfold mag
    rw [if_pos (by rw [data_head h0]; exact congrArg some (UInt8.toNat_inj.1 (by rw [hn]; rfl)))]
    simp only [ByteArray.data_extract, Array.toList_extract, List.extract_eq_take_drop, List.drop_one]
    rw [List.take_of_length_le (by rw [List.length_tail, len_data]; omega)]
  have hsz : (s.extract 1 s.size).size = s.size - 1 := by simp
  have hneg : s.data.toList.head? = some 45 := by rw [data_head h0]; exact congrArg some (UInt8.toNat_inj.1 (by rw [hn]; rfl))
  by_cases hsh : 1 ≤ (s.size - 1) ∧ (s.size - 1) ≤ 19
  · by_cases hz : (s.extract 1 s.size)[0].toNat = 48 ∧ 1 < s.size
    · have hz0 := hz.1
      have hz1 := hz.2
      have hfin : Hid (numB s.data.toList = none) := none_of_shape hm (.inr (.inr ⟨by omega, hz0, hz1⟩))
      have hz' : ((((s.extract 1 s.size)[0].toNat : Nat) : Int) == 48) = true := by simp [hz0]
      clear hz
      go_enter Tryz.func26, Tryz.ntmps26
      go_wp2
      go_ret2
      exact numSaid_none hfin.out
    · have hhd : ¬ (((s.extract 1 s.size).data.toList).head? = some 48 ∧ 1 < s.data.toList.length) := by
        rintro ⟨a1, a2⟩
        rw [len_data] at a2
        rw [data_head (by omega), Option.some.injEq] at a1
        exact hz ⟨by rw [a1]; rfl, a2⟩
      have hz' : Hid (¬ ((s.extract 1 s.size)[0].toNat = 48 ∧ 1 < s.size)) := hz
      have hzz : ((s.extract 1 s.size)[0].toNat = 48) → s.size ≤ 1 := fun a => by have := fun b => hz ⟨a, b⟩; omega
      clear hz
      go_enter Tryz.func26, Tryz.ntmps26
      go_wp2_with fail

      clear hzz
      go_loop [5] (fun i => ∃ k : Nat, k ≤ (s.size - 1) ∧ i = .int .i64 k ∧ ∀ c ∈ (s.extract 1 s.size).data.toList.take k, digB c = true) (fun i => (s.size - 1) - (intOf i).toNat)
      case atStart => exact ⟨0, Nat.zero_le _, rfl, by simp⟩
      case round =>
        obtain ⟨k, hk, rfl, hp⟩ := hrel
        have HP := Lib.hid hp
        clear hp
        by_cases hlt : k < (s.size - 1)
        · have hkt : k < (s.extract 1 s.size).size := by omega
          by_cases hd : 48 ≤ (s.extract 1 s.size)[k].toNat ∧ (s.extract 1 s.size)[k].toNat ≤ 57
          · go_wp2
            go_round
            case rel => exact ⟨k + 1, by omega, by go_num, digs_step hkt HP.out hd⟩
            case measure => simp [intOf]; omega
          · have hfin : Hid (numB s.data.toList = none) := none_of_digit hm k hkt hd
            go_wp2
            all_goals go_ret2
            all_goals exact numSaid_none hfin.out
        · have HA : Hid (∀ c ∈ (s.extract 1 s.size).data.toList, digB c = true) := digs_all (by omega) HP.out
          clear HP
          have hlen := len_data s
          have hnet : Hid ((s.extract 1 s.size).data.toList ≠ []) := data_ne (by omega)
          by_cases h19 : (s.size - 1) = 19 ∧ 9223372036854775807 < val (s.extract 1 s.size).data.toList
          · obtain ⟨g19, gb⟩ := h19
            have hh' : (s.extract 1 s.size).data.toList.head? ≠ some 48 := fun a => hhd ⟨a, by omega⟩
            obtain ⟨m1, m2⟩ := is_gt_max (by omega) HA.out hh' gb
            have GB := Lib.hid gb
            have HM := Lib.hid hm
            clear hh' gb hm hhd hlen
            have g19' : (((s.size - 1) : Nat) : Int) = 19 := by omega
            cases hmin : s.toList == [45, 57, 50, 50, 51, 51, 55, 50, 48, 51, 54, 56, 53, 52, 55, 55, 53, 56, 48, 56] with
            | true =>
              have hfin : Hid (numB s.data.toList = some (-9223372036854775808)) := least_eq hmin
              go_wp2
              all_goals go_ret2
              all_goals exact numSaid_some hfin.out
            | false =>
              have hfin : Hid (numB s.data.toList = none) := num_big (by rw [HM.out]; exact GB.out) (least_ne hmin)
              go_wp2
              all_goals go_ret2
              all_goals exact numSaid_none hfin.out
          · have hle : val (s.extract 1 s.size).data.toList ≤ 9223372036854775807 := by
              rcases Nat.lt_or_ge (s.size - 1) 19 with a | a
              · have b := val_lt (s.extract 1 s.size).size (s.extract 1 s.size).data.toList (len_data _) HA.out
                have c : 10 ^ (s.extract 1 s.size).size ≤ 10 ^ 18 := Nat.pow_le_pow_right (by omega) (by omega)
                omega
              · omega
            have hfin0 := num_small (l := s.data.toList) (by rw [hm]; exact hnet.out) (by rw [hm]; exact HA.out) (by rw [hm]; exact hhd) (by rw [hm]; exact hle)
            rw [hm, if_pos hneg] at hfin0
            have hfin := Lib.hid hfin0
            have hor : (s.size - 1) ≠ 19 ∨ ((s.size - 1) = 19 ∧ (Op.bytesLess (s.extract 1 s.size).toList [57, 50, 50, 51, 51, 55, 50, 48, 51, 54, 56, 53, 52, 55, 55, 53, 56, 48, 55] = true ∨ (Op.bytesLess (s.extract 1 s.size).toList [57, 50, 50, 51, 51, 55, 50, 48, 51, 54, 56, 53, 52, 55, 55, 53, 56, 48, 55] = false ∧ ((s.extract 1 s.size).toList == [57, 50, 50, 51, 51, 55, 50, 48, 51, 54, 56, 53, 52, 55, 55, 53, 56, 48, 55]) = true))) := by
              rcases Nat.lt_or_ge (s.size - 1) 19 with a | a
              · exact .inl (by omega)
              · exact .inr ⟨by omega, not_gt_max (by omega) HA.out (fun a => hhd ⟨a, by omega⟩) hle⟩
            clear hfin0 hhd hm h19 hlen
            rcases hor with hor | ⟨hor, m1 | ⟨m1, m2⟩⟩
            all_goals
              first | (have g19' : ((((s.size - 1) : Nat) : Int) == 19) = false := by simp; omega) | (have g19' : ((((s.size - 1) : Nat) : Int) == 19) = true := by simp; omega)
              clear hor
              have HLE := Lib.hid hle
              clear hle
              go_wp2_with fail
              go_loop [6, 7] (fun n i => ∃ (j : Nat) (x : Int), j ≤ (s.size - 1) ∧ i = .int .i64 j ∧ n = .int .i64 x ∧ Hid (x = (val ((s.extract 1 s.size).data.toList.take j) : Nat))) (fun _ i => (s.size - 1) - (intOf i).toNat)
              case atStart => exact ⟨0, 0, Nat.zero_le _, rfl, rfl, rfl⟩
              case round =>
                obtain ⟨j, x, hj, rfl, rfl, HX⟩ := hrel
                by_cases hlt2 : j < (s.size - 1)
                · obtain ⟨hx0, hx1, hd0, hd1, hx2, HX'⟩ := loop_fact (t := (s.extract 1 s.size)) (k := j) (x := x) (by omega) HA.out HLE.out HX.out
                  go_wp2
                  go_round
                  case rel => exact ⟨j + 1, _, by omega, by go_num, rfl, HX'.out⟩
                  case measure => simp [intOf]; omega
                · obtain ⟨hx0, hx1, HX'⟩ := loop_end (t := (s.extract 1 s.size)) (k := j) (x := x) (by omega) HLE.out HX.out
                  go_wp2
                  go_ret2
                  refine numSaid_some (hfin.out.trans ?_)
                  rw [HX'.out]
  · have hfin : Hid (numB s.data.toList = none) := none_of_shape hm (by omega)
    go_enter Tryz.func26, Tryz.ntmps26
    go_wp2
    all_goals go_ret2
    all_goals exact numSaid_none hfin.out

set_option maxRecDepth 100000 in
set_option maxHeartbeats 8000000 in
theorem number_posA (s : ByteArray) (w : World) (hs : s.size ≤ maxLen) (h0 : 0 < s.size) (hn : s[0].toNat ≠ 45) (hq : s[0].toNat ≠ 48) :
    Calls Tryz.prog 26 #[.string s] w fun e w' => NumSaid s w e w' := by
  unfold maxLen at hs
  have hn' : ((s[0].toNat : Int) == 45) = false := by simp; omega
  have h0' : (0 : Int) < s.size := by omega
  have hneg : ¬ s.data.toList.head? = some 45 := by
    rw [data_head h0, Option.some.injEq]
    intro e
    exact hn (by rw [e]; rfl)
  have hm : mag s.data.toList = s.data.toList := by
    unfold mag
    rw [if_neg hneg]
  by_cases hsh : 1 ≤ s.size ∧ s.size ≤ 19
  · by_cases hz : s[0].toNat = 48 ∧ 1 < s.size
    · exact absurd hz.1 hq
    · have hhd : ¬ ((s.data.toList).head? = some 48 ∧ 1 < s.data.toList.length) := by
        rintro ⟨a1, a2⟩
        rw [len_data] at a2
        rw [data_head (by omega), Option.some.injEq] at a1
        exact hz ⟨by rw [a1]; rfl, a2⟩
      have hz' : Hid (¬ (s[0].toNat = 48 ∧ 1 < s.size)) := hz
      have hzz : (s[0].toNat = 48) → s.size ≤ 1 := fun a => by have := fun b => hz ⟨a, b⟩; omega
      clear hz
      go_enter Tryz.func26, Tryz.ntmps26
      go_wp2_with fail

      clear hzz
      go_loop [5] (fun i => ∃ k : Nat, k ≤ s.size ∧ i = .int .i64 k ∧ ∀ c ∈ s.data.toList.take k, digB c = true) (fun i => s.size - (intOf i).toNat)
      case atStart => exact ⟨0, Nat.zero_le _, rfl, by simp⟩
      case round =>
        obtain ⟨k, hk, rfl, hp⟩ := hrel
        have HP := Lib.hid hp
        clear hp
        by_cases hlt : k < s.size
        · have hkt : k < s.size := by omega
          by_cases hd : 48 ≤ s[k].toNat ∧ s[k].toNat ≤ 57
          · go_wp2
            go_round
            case rel => exact ⟨k + 1, by omega, by go_num, digs_step hkt HP.out hd⟩
            case measure => simp [intOf]; omega
          · have hfin : Hid (numB s.data.toList = none) := none_of_digit hm k hkt hd
            go_wp2
            all_goals go_ret2
            all_goals exact numSaid_none hfin.out
        · have HA : Hid (∀ c ∈ s.data.toList, digB c = true) := digs_all (by omega) HP.out
          clear HP
          have hlen := len_data s
          have hnet : Hid (s.data.toList ≠ []) := data_ne (by omega)
          by_cases h19 : s.size = 19 ∧ 9223372036854775807 < val s.data.toList
          · obtain ⟨g19, gb⟩ := h19
            have hh' : s.data.toList.head? ≠ some 48 := fun a => hhd ⟨a, by omega⟩
            obtain ⟨m1, m2⟩ := is_gt_max (by omega) HA.out hh' gb
            have GB := Lib.hid gb
            have HM := Lib.hid hm
            clear hh' gb hm hhd hlen
            have g19' : ((s.size : Nat) : Int) = 19 := by omega
            cases hmin : s.toList == [45, 57, 50, 50, 51, 51, 55, 50, 48, 51, 54, 56, 53, 52, 55, 55, 53, 56, 48, 56] with
            | true =>
              have hfin : Hid (numB s.data.toList = some (-9223372036854775808)) := least_eq hmin
              go_wp2
              all_goals go_ret2
              all_goals exact numSaid_some hfin.out
            | false =>
              have hfin : Hid (numB s.data.toList = none) := num_big (by rw [HM.out]; exact GB.out) (least_ne hmin)
              go_wp2
              all_goals go_ret2
              all_goals exact numSaid_none hfin.out
          · have hle : val s.data.toList ≤ 9223372036854775807 := by
              rcases Nat.lt_or_ge s.size 19 with a | a
              · have b := val_lt s.size s.data.toList (len_data _) HA.out
                have c : 10 ^ s.size ≤ 10 ^ 18 := Nat.pow_le_pow_right (by omega) (by omega)
                omega
              · omega
            have hfin0 := num_small (l := s.data.toList) (by rw [hm]; exact hnet.out) (by rw [hm]; exact HA.out) (by rw [hm]; exact hhd) (by rw [hm]; exact hle)
            rw [hm, if_neg hneg] at hfin0
            have hfin := Lib.hid hfin0
            have hor : s.size ≠ 19 ∨ (s.size = 19 ∧ (Op.bytesLess s.toList [57, 50, 50, 51, 51, 55, 50, 48, 51, 54, 56, 53, 52, 55, 55, 53, 56, 48, 55] = true ∨ (Op.bytesLess s.toList [57, 50, 50, 51, 51, 55, 50, 48, 51, 54, 56, 53, 52, 55, 55, 53, 56, 48, 55] = false ∧ (s.toList == [57, 50, 50, 51, 51, 55, 50, 48, 51, 54, 56, 53, 52, 55, 55, 53, 56, 48, 55]) = true))) := by
              rcases Nat.lt_or_ge s.size 19 with a | a
              · exact .inl (by omega)
              · exact .inr ⟨by omega, not_gt_max (by omega) HA.out (fun a => hhd ⟨a, by omega⟩) hle⟩
            clear hfin0 hhd hm h19 hlen
            rcases hor with hor | ⟨hor, m1 | ⟨m1, m2⟩⟩
            all_goals
              first | (have g19' : (((s.size : Nat) : Int) == 19) = false := by simp; omega) | (have g19' : (((s.size : Nat) : Int) == 19) = true := by simp; omega)
              clear hor
              have HLE := Lib.hid hle
              clear hle
              go_wp2_with fail
              go_loop [6, 7] (fun n i => ∃ (j : Nat) (x : Int), j ≤ s.size ∧ i = .int .i64 j ∧ n = .int .i64 x ∧ Hid (x = (val (s.data.toList.take j) : Nat))) (fun _ i => s.size - (intOf i).toNat)
              case atStart => exact ⟨0, 0, Nat.zero_le _, rfl, rfl, rfl⟩
              case round =>
                obtain ⟨j, x, hj, rfl, rfl, HX⟩ := hrel
                by_cases hlt2 : j < s.size
                · obtain ⟨hx0, hx1, hd0, hd1, hx2, HX'⟩ := loop_fact (t := s) (k := j) (x := x) (by omega) HA.out HLE.out HX.out
                  go_wp2
                  go_round
                  case rel => exact ⟨j + 1, _, by omega, by go_num, rfl, HX'.out⟩
                  case measure => simp [intOf]; omega
                · obtain ⟨hx0, hx1, HX'⟩ := loop_end (t := s) (k := j) (x := x) (by omega) HLE.out HX.out
                  go_wp2
                  go_ret2
                  refine numSaid_some (hfin.out.trans ?_)
                  rw [HX'.out]
  · have hfin : Hid (numB s.data.toList = none) := none_of_shape hm (by omega)
    go_enter Tryz.func26, Tryz.ntmps26
    go_wp2
    all_goals go_ret2
    all_goals exact numSaid_none hfin.out

set_option maxRecDepth 100000 in
set_option maxHeartbeats 8000000 in
theorem number_posB (s : ByteArray) (w : World) (hs : s.size ≤ maxLen) (h0 : 0 < s.size) (hn : s[0].toNat ≠ 45) (hq : s[0].toNat = 48) (hq1 : s.size ≤ 1) :
    Calls Tryz.prog 26 #[.string s] w fun e w' => NumSaid s w e w' := by
  unfold maxLen at hs
  have hn' : ((s[0].toNat : Int) == 45) = false := by simp; omega
  have h0' : (0 : Int) < s.size := by omega
  have hneg : ¬ s.data.toList.head? = some 45 := by
    rw [data_head h0, Option.some.injEq]
    intro e
    exact hn (by rw [e]; rfl)
  have hm : mag s.data.toList = s.data.toList := by
    unfold mag
    rw [if_neg hneg]
  by_cases hsh : 1 ≤ s.size ∧ s.size ≤ 19
  · by_cases hz : s[0].toNat = 48 ∧ 1 < s.size
    · exact absurd hz.2 (by omega)
    · have hhd : ¬ ((s.data.toList).head? = some 48 ∧ 1 < s.data.toList.length) := by
        rintro ⟨a1, a2⟩
        rw [len_data] at a2
        rw [data_head (by omega), Option.some.injEq] at a1
        exact hz ⟨by rw [a1]; rfl, a2⟩
      have hz' : Hid (¬ (s[0].toNat = 48 ∧ 1 < s.size)) := hz
      have hzz : (s[0].toNat = 48) → s.size ≤ 1 := fun a => by have := fun b => hz ⟨a, b⟩; omega
      clear hz
      go_enter Tryz.func26, Tryz.ntmps26
      go_wp2_with fail

      clear hzz
      go_loop [5] (fun i => ∃ k : Nat, k ≤ s.size ∧ i = .int .i64 k ∧ ∀ c ∈ s.data.toList.take k, digB c = true) (fun i => s.size - (intOf i).toNat)
      case atStart => exact ⟨0, Nat.zero_le _, rfl, by simp⟩
      case round =>
        obtain ⟨k, hk, rfl, hp⟩ := hrel
        have HP := Lib.hid hp
        clear hp
        by_cases hlt : k < s.size
        · have hkt : k < s.size := by omega
          by_cases hd : 48 ≤ s[k].toNat ∧ s[k].toNat ≤ 57
          · go_wp2
            go_round
            case rel => exact ⟨k + 1, by omega, by go_num, digs_step hkt HP.out hd⟩
            case measure => simp [intOf]; omega
          · have hfin : Hid (numB s.data.toList = none) := none_of_digit hm k hkt hd
            go_wp2
            all_goals go_ret2
            all_goals exact numSaid_none hfin.out
        · have HA : Hid (∀ c ∈ s.data.toList, digB c = true) := digs_all (by omega) HP.out
          clear HP
          have hlen := len_data s
          have hnet : Hid (s.data.toList ≠ []) := data_ne (by omega)
          by_cases h19 : s.size = 19 ∧ 9223372036854775807 < val s.data.toList
          · obtain ⟨g19, gb⟩ := h19
            have hh' : s.data.toList.head? ≠ some 48 := fun a => hhd ⟨a, by omega⟩
            obtain ⟨m1, m2⟩ := is_gt_max (by omega) HA.out hh' gb
            have GB := Lib.hid gb
            have HM := Lib.hid hm
            clear hh' gb hm hhd hlen
            have g19' : ((s.size : Nat) : Int) = 19 := by omega
            cases hmin : s.toList == [45, 57, 50, 50, 51, 51, 55, 50, 48, 51, 54, 56, 53, 52, 55, 55, 53, 56, 48, 56] with
            | true =>
              have hfin : Hid (numB s.data.toList = some (-9223372036854775808)) := least_eq hmin
              go_wp2
              all_goals go_ret2
              all_goals exact numSaid_some hfin.out
            | false =>
              have hfin : Hid (numB s.data.toList = none) := num_big (by rw [HM.out]; exact GB.out) (least_ne hmin)
              go_wp2
              all_goals go_ret2
              all_goals exact numSaid_none hfin.out
          · have hle : val s.data.toList ≤ 9223372036854775807 := by
              rcases Nat.lt_or_ge s.size 19 with a | a
              · have b := val_lt s.size s.data.toList (len_data _) HA.out
                have c : 10 ^ s.size ≤ 10 ^ 18 := Nat.pow_le_pow_right (by omega) (by omega)
                omega
              · omega
            have hfin0 := num_small (l := s.data.toList) (by rw [hm]; exact hnet.out) (by rw [hm]; exact HA.out) (by rw [hm]; exact hhd) (by rw [hm]; exact hle)
            rw [hm, if_neg hneg] at hfin0
            have hfin := Lib.hid hfin0
            have hor : s.size ≠ 19 ∨ (s.size = 19 ∧ (Op.bytesLess s.toList [57, 50, 50, 51, 51, 55, 50, 48, 51, 54, 56, 53, 52, 55, 55, 53, 56, 48, 55] = true ∨ (Op.bytesLess s.toList [57, 50, 50, 51, 51, 55, 50, 48, 51, 54, 56, 53, 52, 55, 55, 53, 56, 48, 55] = false ∧ (s.toList == [57, 50, 50, 51, 51, 55, 50, 48, 51, 54, 56, 53, 52, 55, 55, 53, 56, 48, 55]) = true))) := by
              rcases Nat.lt_or_ge s.size 19 with a | a
              · exact .inl (by omega)
              · exact .inr ⟨by omega, not_gt_max (by omega) HA.out (fun a => hhd ⟨a, by omega⟩) hle⟩
            clear hfin0 hhd hm h19 hlen
            rcases hor with hor | ⟨hor, m1 | ⟨m1, m2⟩⟩
            all_goals
              first | (have g19' : (((s.size : Nat) : Int) == 19) = false := by simp; omega) | (have g19' : (((s.size : Nat) : Int) == 19) = true := by simp; omega)
              clear hor
              have HLE := Lib.hid hle
              clear hle
              go_wp2_with fail
              go_loop [6, 7] (fun n i => ∃ (j : Nat) (x : Int), j ≤ s.size ∧ i = .int .i64 j ∧ n = .int .i64 x ∧ Hid (x = (val (s.data.toList.take j) : Nat))) (fun _ i => s.size - (intOf i).toNat)
              case atStart => exact ⟨0, 0, Nat.zero_le _, rfl, rfl, rfl⟩
              case round =>
                obtain ⟨j, x, hj, rfl, rfl, HX⟩ := hrel
                by_cases hlt2 : j < s.size
                · obtain ⟨hx0, hx1, hd0, hd1, hx2, HX'⟩ := loop_fact (t := s) (k := j) (x := x) (by omega) HA.out HLE.out HX.out
                  go_wp2
                  go_round
                  case rel => exact ⟨j + 1, _, by omega, by go_num, rfl, HX'.out⟩
                  case measure => simp [intOf]; omega
                · obtain ⟨hx0, hx1, HX'⟩ := loop_end (t := s) (k := j) (x := x) (by omega) HLE.out HX.out
                  go_wp2
                  go_ret2
                  refine numSaid_some (hfin.out.trans ?_)
                  rw [HX'.out]
  · have hfin : Hid (numB s.data.toList = none) := none_of_shape hm (by omega)
    go_enter Tryz.func26, Tryz.ntmps26
    go_wp2
    all_goals go_ret2
    all_goals exact numSaid_none hfin.out

set_option maxRecDepth 100000 in
set_option maxHeartbeats 1000000 in
theorem number_posZ (s : ByteArray) (w : World) (hs : s.size ≤ maxLen) (h0 : 0 < s.size) (hn : s[0].toNat ≠ 45) (hz0 : s[0].toNat = 48) (hz1 : 1 < s.size) :
    Calls Tryz.prog 26 #[.string s] w fun e w' => NumSaid s w e w' := by
  unfold maxLen at hs
  have hn' : ((s[0].toNat : Int) == 45) = false := by simp; omega
  have h0' : (0 : Int) < s.size := by omega
  have hm : mag s.data.toList = s.data.toList := by
    unfold mag
    rw [if_neg (by rw [data_head h0, Option.some.injEq]; intro e; exact hn (by rw [e]; rfl))]
  have hfin : Hid (numB s.data.toList = none) := none_of_shape hm (.inr (.inr ⟨h0, hz0, hz1⟩))
  have hz' : (((s[0].toNat : Nat) : Int) == 48) = true := by simp [hz0]
  clear hm
  go_enter Tryz.func26, Tryz.ntmps26
  go_wp2
  all_goals go_ret2
  all_goals exact numSaid_none hfin.out

set_option maxRecDepth 100000 in
theorem number_nil (s : ByteArray) (w : World) (h0 : s.size = 0) :
    Calls Tryz.prog 26 #[.string s] w fun e w' => NumSaid s w e w' := by
  have hm : numB s.data.toList = none := by
    have : s.data.toList = [] := List.eq_nil_of_length_eq_zero (by rw [len_data]; exact h0)
    rw [this]; rfl
  have hfin := Lib.hid hm
  clear hm
  go_enter Tryz.func26, Tryz.ntmps26
  go_wp2
  all_goals go_ret2
  all_goals exact numSaid_none hfin.out
theorem number_any (s : ByteArray) (w : World) (hs : s.size ≤ maxLen) :
    Calls Tryz.prog 26 #[.string s] w fun e w' => NumSaid s w e w' := by
  by_cases h0 : 0 < s.size
  · by_cases hn : s[0].toNat = 45
    · exact number_neg s w hs h0 hn
    · by_cases hq : s[0].toNat = 48
      · by_cases hq1 : s.size ≤ 1
        · exact number_posB s w hs h0 hn hq hq1
        · exact number_posZ s w hs h0 hn hq (by omega)
      · exact number_posA s w hs h0 hn hq
  · exact number_nil s w (by omega)
end Go.Proofs.YtfjpgjkfmcedoaaGreatDoor.Pp
