/- What the contracts speak of: rows of pairs in memory; plain lemmas; LightPairs and SamePairs. -/
import Derived.Test.YtmgpacenooncjaaGreatDoorRows
import Derived.WalkKit
import Derived.ProofKit
import Derived.WalkLawsBesides
import Derived.Lib.Hide
import Derived.Deep.QuietTactic
import Derived.BigQuiet
import Derived.Deep.AppendLies
import Derived.Laws.StructEq
namespace Go.Proofs.YtmgpacenooncjaaGreatDoor.Pp
open Go.ChangeShapes Go.WideShapes Go.ChangeAt Go.RowKit

/-- A slice value of pairs, and what it holds in a world. -/
def IsPairs (w : World) (v : Value) (l : List (ByteArray × Int)) : Prop :=
  ∃ a cap, v = .slice a l.length cap ∧ ∀ i (h : i < l.length), ∃ b off, a = some ⟨b, off, none⟩ ∧ w.cell? ⟨b, off + i * 2, none⟩ = some (.string l[i].1) ∧ w.cell? ⟨b, off + i * 2 + 1, none⟩ = some (.int .i64 l[i].2)

theorem ret_bool {a b : Bool} (h : a = b) : Ending.returned (.bool a) = .returned (.bool b) := by rw [h]
theorem toList_inj {a b : ByteArray} (h : a.toList = b.toList) : a = b := by
  rw [ByteArray.toList_eq, ByteArray.toList_eq] at h
  cases a; cases b; simp_all

theorem pair_eq {p q : ByteArray × Int} (h : (p.1.toList == q.1.toList && p.2 == q.2) = true) : p = q := by
  simp only [Bool.and_eq_true, beq_iff_eq] at h
  exact Prod.ext (toList_inj h.1) h.2
def lightB (l : List (ByteArray × Int)) : Bool := l.all fun p => p.1.size ≤ 60
theorem light_step (l : List (ByteArray × Int)) (k : Nat) (h : k < l.length) : lightB (l.take (k + 1)) = (lightB (l.take k) && decide (l[k].1.size ≤ 60)) := by
  unfold lightB
  rw [List.take_succ_eq_append_getElem h, List.all_append]
  simp
theorem light_out (l : List (ByteArray × Int)) (k : Nat) (h : k < l.length) (h6 : 60 < l[k].1.size) : lightB l = false := by
  unfold lightB
  rw [List.all_eq_false]
  exact ⟨l[k], List.getElem_mem h, by simp; omega⟩

theorem eqPair (a c : ByteArray) (b d : Int) (w : World) : (Op.equalIn 10000 67 (.agg #[.string a, .int .i64 b]) (.agg #[.string c, .int .i64 d])).run Tryz.prog w = .ok (a.toList == c.toList && b == d) w := by
  have u3 := Tryz.underlying3
  have a3 := Tryz.isAgg3
  have z3 := Tryz.sizeOf3
  have u9 := Tryz.underlying9
  have a9 := Tryz.isAgg9
  have z9 := Tryz.sizeOf9
  have hS : Tryz.prog.underlying 67 = some (.struct (Tryz.prog.fieldsOf 67)) := by kernel_rfl
  rw [show (10000 : Nat) = 9999 + 1 from rfl, run_equalIn_agg w 9999 67 _ _ hS (by kernel_rfl)]
  simp only [Program.fieldsOf, Tryz.underlying67]
  go_simp
  by_cases h1 : a.toList = c.toList <;> by_cases h2 : b = d <;> simp [h1, h2]

set_option maxRecDepth 100000 in
set_option maxHeartbeats 400000 in
theorem samePairs_any (v u : Value) (l m : List (ByteArray × Int)) (w : World) (h : IsPairs w v l) (h' : IsPairs w u m) (hl : l.length ≤ maxLen) :
    Calls Tryz.prog 17 #[v, u] w fun e w' => e = .returned (.bool (decide (l = m))) ∧ ∃ n, w' = w.drewN n := by
  unfold maxLen at hl
  obtain ⟨a, cap, rfl, hc⟩ := h
  obtain ⟨a', cap', rfl, hc'⟩ := h'
  by_cases hm : l.length = m.length
  · rw [← hm]
    have HM := Lib.hid hm
    clear hm
    go_enter Tryz.func17, Tryz.ntmps17
    go_wp2
    go_loopw [5] (fun i wr => ∃ k : Nat, k ≤ l.length ∧ i = .int .i64 k ∧ l.take k = m.take k ∧ ∃ n, wr = w.drewN n) (fun i _ => l.length - (intOf i).toNat)
    case atStart => exact ⟨0, Nat.zero_le _, rfl, rfl, 0, rfl⟩
    case round =>
      obtain ⟨k, hk, rfl, hp, n, rfl⟩ := hrel
      by_cases hlt : k < l.length
      · obtain ⟨b, off, rfl, c0, c1⟩ := hc k hlt
        have hltm : k < m.length := by have := HM.out; omega
        obtain ⟨b', off', rfl, c0', c1'⟩ := hc' k hltm
        clear hc hc'
        have hE := fun w => eqPair l[k].1 m[k].1 l[k].2 m[k].2 w
        cases he : l[k].1.toList == m[k].1.toList && l[k].2 == m[k].2 with
        | true =>
          go_wp2
          go_quiet (fail)
          go_wp2
          go_roundw
          case rel => exact ⟨k + 1, by omega, by go_num, by rw [List.take_succ_eq_append_getElem hlt, List.take_succ_eq_append_getElem hltm, hp, pair_eq he], n + nq, by simp⟩
          case measure => simp [intOf]; omega
        | false =>
          go_wp2
          go_quiet (fail)
          go_wp2
          go_ret
          exact ⟨ret_bool (by rw [decide_eq_false]; intro hlm; subst hlm; simp at he), n + nq, by simp⟩
      · clear hc hc'
        go_wp2
        go_ret
        rw [List.take_of_length_le (by omega), List.take_of_length_le (by have := HM.out; omega)] at hp
        exact ⟨ret_bool (by simp [hp]), n, rfl⟩
  · have hm' : ((l.length : Int) == (m.length : Int)) = false := by simp; omega
    go_enter Tryz.func17, Tryz.ntmps17
    go_wp2
    go_ret
    exact ⟨ret_bool (by rw [decide_eq_false]; intro hlm; subst hlm; exact hm rfl), 0, rfl⟩
end Go.Proofs.YtmgpacenooncjaaGreatDoor.Pp
