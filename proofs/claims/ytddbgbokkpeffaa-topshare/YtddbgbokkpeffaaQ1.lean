/- Queues: how they lie in memory, their bounds, which one has less. -/
import Derived.Test.YtddbgbokkpeffaaRows
import Derived.WalkKit
import Derived.ProofKit
import Derived.WalkLawsBesides
import Derived.Lib.Hide
import Derived.Deep.QuietTactic
import Derived.BigQuiet
import Derived.Deep.AppendLies
import Derived.Laws.StructEq
import Derived.Laws.Bits64b
namespace Go.Proofs.Ytddbgbokkpeffaa
open Go.ChangeShapes Go.WideShapes Go.ChangeAt Go.RowKit
theorem block_lt {w : World} {a : Addr} {v : Value} (h : w.cell? a = some v) : a.block < w.heap.size := by
  cases a with
  | mk b off spot =>
    rcases Nat.lt_or_ge b w.heap.size with hb | hb
    · exact hb
    · simp [World.cell?, Array.getElem?_eq_none hb] at h
theorem blw_step {w w1 w2 : World} (h1 : Below w.heap.size w w1) (h2 : Below w1.heap.size w1 w2) : Below w.heap.size w w2 := h1.trans (h2.mono h1.size)
theorem blw_box {w : World} (o : Obj) : Below w.heap.size w (w.alloc o) := (Below.refl _ _).alloc (Nat.le_refl _) _
theorem blw_drewN (w : World) (n : Nat) : Below w.heap.size w (w.drewN n) := ⟨rfl, rfl, rfl, Nat.le_refl _, fun _ _ => rfl⟩
theorem blw_drew (w : World) : Below w.heap.size w w.drew := ⟨rfl, rfl, rfl, Nat.le_refl _, fun _ _ => rfl⟩
theorem cell_blw {w w' : World} {a : Addr} {v : Value} (h : w.cell? a = some v) (hb : Below w.heap.size w w') : w'.cell? a = some v := (hb.cell (block_lt h)).trans h
/-- A slice of queues (what each weighs, and may have). -/
def IsQs (w : World) (v : Value) (l : List (Int × Int)) : Prop :=
  ∃ a cap, v = .slice a l.length cap ∧ ∀ i (h : i < l.length), ∃ b off, a = some ⟨b, off, none⟩ ∧ w.cell? ⟨b, off + i * 2, none⟩ = some (.int .i64 l[i].1) ∧ w.cell? ⟨b, off + i * 2 + 1, none⟩ = some (.int .i64 l[i].2)
/-- A slice of numbers. -/
def IsIs (w : World) (v : Value) (l : List Int) : Prop :=
  ∃ a cap, v = .slice a l.length cap ∧ ∀ i (h : i < l.length), ∃ b off, a = some ⟨b, off, none⟩ ∧ w.cell? ⟨b, off + i, none⟩ = some (.int .i64 l[i])
/-- A slice of bools. -/
def IsBs (w : World) (v : Value) (l : List Bool) : Prop :=
  ∃ a cap, v = .slice a l.length cap ∧ ∀ i (h : i < l.length), ∃ b off, a = some ⟨b, off, none⟩ ∧ w.cell? ⟨b, off + i, none⟩ = some (.bool l[i])
theorem isQs_blw {w w' : World} {v : Value} {l : List (Int × Int)} (h : IsQs w v l) (hb : Below w.heap.size w w') : IsQs w' v l := by
  obtain ⟨a, cap, e, hc⟩ := h
  refine ⟨a, cap, e, fun i hi => ?_⟩
  obtain ⟨b, off, ea, c0, c1⟩ := hc i hi
  exact ⟨b, off, ea, cell_blw c0 hb, cell_blw c1 hb⟩
theorem isIs_blw {w w' : World} {v : Value} {l : List Int} (h : IsIs w v l) (hb : Below w.heap.size w w') : IsIs w' v l := by
  obtain ⟨a, cap, e, hc⟩ := h
  refine ⟨a, cap, e, fun i hi => ?_⟩
  obtain ⟨b, off, ea, c0⟩ := hc i hi
  exact ⟨b, off, ea, cell_blw c0 hb⟩
theorem isBs_blw {w w' : World} {v : Value} {l : List Bool} (h : IsBs w v l) (hb : Below w.heap.size w w') : IsBs w' v l := by
  obtain ⟨a, cap, e, hc⟩ := h
  refine ⟨a, cap, e, fun i hi => ?_⟩
  obtain ⟨b, off, ea, c0⟩ := hc i hi
  exact ⟨b, off, ea, cell_blw c0 hb⟩

/-- May a queue not be? -/
def badQ (q : Int × Int) : Bool := decide (q.1 < 1) || decide (9 < q.1) || decide (q.2 < 0) || decide (12 < q.2)
def faultQ (l : List (Int × Int)) : Int := if l.length < 1 ∨ 4 < l.length then 2 else if l.any badQ then 1 else 0
def errV (n : Int) : Value := if n = 0 then .nilIface else .iface 37 (.int .i64 n)
theorem any_step (l : List (Int × Int)) (k : Nat) (h : k < l.length) (hp : (l.take k).any badQ = false) (hb : badQ l[k] = false) : (l.take (k + 1)).any badQ = false := by
  rw [List.take_succ_eq_append_getElem h, List.any_append, hp]
  simpa using hb
theorem any_out (l : List (Int × Int)) (k : Nat) (h : k < l.length) (hb : badQ l[k] = true) : l.any badQ = true := List.any_eq_true.2 ⟨l[k], List.getElem_mem h, hb⟩

namespace Mul
theorem maskS (a : Nat) (ha : a < 4294967296) : bits .and .u64 (a : Int) 4294967295 = (a : Int) := by
  have h := bits_and_u64_nat a 4294967295 (by omega) (by omega)
  have e : a &&& 4294967295 = a := by
    have := Nat.and_two_pow_sub_one_eq_mod a 32
    simp only [Nat.reducePow, Nat.add_one_sub_one] at this
    rw [this]; exact Nat.mod_eq_of_lt ha
  rw [e] at h
  exact h
theorem divS (a : Nat) (ha : a < 4294967296) : (a : Int) / 4294967296 = 0 := by omega
theorem mulS (a b : Nat) : (a : Int) * (b : Int) = ((a * b : Nat) : Int) := (Int.natCast_mul a b).symm
theorem wrapS (a : Nat) (ha : a < 4294967296) : IntKind.u64.wrap (a : Int) = (a : Int) := by rw [IntKind.wrap_u64]; omega
theorem wrap0 : IntKind.u64.wrap 0 = 0 := by rw [IntKind.wrap_u64]; omega
theorem mask0 : bits .and .u64 0 4294967295 = 0 := maskS 0 (by omega)
end Mul
set_option maxRecDepth 100000 in
set_option maxHeartbeats 1000000 in
theorem mul64_small (x y : Nat) (hx : x ≤ 1000) (hy : y ≤ 1000) (w : World) :
    Calls Try.prog 16 #[.int .u64 x, .int .u64 y] w fun e w' => e = .returned (.tuple #[.int .u64 0, .int .u64 ((x * y : Nat) : Int)]) ∧ w' = w := by
  have hxy : x * y ≤ 1000000 := Nat.le_trans (Nat.mul_le_mul hx hy) (by decide)
  have HXY := Lib.hid hxy
  clear hxy
  go_enter Try.func16, Try.ntmps16
  go_wp2
  have hxy := HXY.out
  simp only [Mul.maskS x (by omega), Mul.maskS y (by omega), Mul.divS x (by omega), Mul.divS y (by omega), Mul.mulS x y, Mul.wrapS (x * y) (by omega), Mul.divS (x * y) (by omega), Int.zero_mul, Int.mul_zero, Mul.wrap0, Mul.mask0, Int.add_zero, Int.zero_ediv]
  go_ret2
  exact ⟨rfl, rfl⟩
set_option maxRecDepth 100000 in
set_option maxHeartbeats 1000000 in
theorem product_small (x y : Nat) (hx : x ≤ 1000) (hy : y ≤ 1000) (w : World) :
    Calls Try.prog 13 #[.int .i64 x, .int .i64 y] w fun e w' => e = .returned (.tuple #[.int .i64 0, .int .u64 ((x * y : Nat) : Int)]) ∧ w' = w := by
  have M := mul64_small x y hx hy w
  have HM := Lib.hid M
  clear M
  generalize x * y = z at HM ⊢
  go_enter Try.func13, Try.ntmps13
  go_wp2_with (go_at_call 16; refine HM.out.mono ?_; rintro _ _ ⟨rfl, rfl⟩)
  go_ret2
  exact ⟨rfl, rfl⟩
/-- Has the one less, for what it weighs, than the other? -/
def lessB (a b : Int × Int) (has other : Int) : Bool := decide (has * b.1 < other * a.1)
set_option maxRecDepth 100000 in
set_option maxHeartbeats 1000000 in
theorem less_any (wa ca wb cb has other : Nat) (ha : wa ≤ 9) (hb : wb ≤ 9) (hh : has ≤ 1000) (ho : other ≤ 1000) (w : World) :
    Calls Try.prog 10 #[.agg #[.int .i64 wa, .int .i64 ca], .agg #[.int .i64 wb, .int .i64 cb], .int .i64 has, .int .i64 other] w fun e w' => e = .returned (.bool (decide (has * wb < other * wa))) ∧ Below w.heap.size w w' := by
  have M1 := fun w => product_small has wb hh (by omega) w
  have M2 := fun w => product_small other wa ho (by omega) w
  have H1 := Lib.hid M1
  have H2 := Lib.hid M2
  clear M1 M2
  generalize has * wb = z1 at *
  generalize other * wa = z2 at *
  go_enter Try.func10, Try.ntmps10
  go_wp2_with (go_at_call 13; refine Hid.out ?_)
  refine Lib.hid ?_
  refine (H1.out _).mono ?_
  rintro _ w0 ⟨rfl, h0⟩
  rw [h0]
  clear h0 w0
  go_wp2_with (go_at_call 13; refine Hid.out ?_)
  refine Lib.hid ?_
  refine (H2.out _).mono ?_
  rintro _ w0 ⟨rfl, h0⟩
  rw [h0]
  clear h0 w0
  go_wp2
  go_ret
  refine ⟨?_, blw_step (blw_box _) (blw_box _)⟩
  simp
set_option maxRecDepth 100000 in
set_option maxHeartbeats 1000000 in
theorem qcheck_any (v : Value) (l : List (Int × Int)) (w : World) (h : IsQs w v l) (hl : l.length ≤ maxLen) :
    Calls Try.prog 9 #[v] w fun e w' => e = .returned (errV (faultQ l)) ∧ Below w.heap.size w w' := by
  unfold maxLen at hl
  obtain ⟨a, cap, rfl, hc⟩ := h
  have HC := Lib.hid hc
  clear hc
  unfold faultQ
  by_cases h1 : l.length < 1
  · rw [if_pos (.inl h1)]
    go_enter Try.func9, Try.ntmps9
    go_wp2
    all_goals go_ret
    all_goals exact ⟨rfl, Below.refl _ _⟩
  · by_cases h4 : 4 < l.length
    · rw [if_pos (.inr h4)]
      go_enter Try.func9, Try.ntmps9
      go_wp2
      all_goals go_ret
      all_goals exact ⟨rfl, Below.refl _ _⟩
    · rw [if_neg (by omega)]
      obtain ⟨F, hF⟩ : ∃ F : Int, F = if l.any badQ then 1 else 0 := ⟨_, rfl⟩
      rw [← hF]
      have HF := Lib.hid hF
      clear hF
      go_enter Try.func9, Try.ntmps9
      go_wp2
      go_loopw [4, 16] (fun _ i wr => ∃ k : Nat, k ≤ l.length ∧ i = .int .i64 k ∧ (l.take k).any badQ = false ∧ Below w.heap.size w wr) (fun _ i _ => l.length - (intOf i).toNat)
      case atStart => exact ⟨0, Nat.zero_le _, rfl, rfl, Below.refl _ _⟩
      case round =>
        obtain ⟨k, hk, rfl, hp, hb⟩ := hrel
        have HP := Lib.hid hp
        clear hp
        by_cases hlt : k < l.length
        · obtain ⟨b, off, rfl, c0, c1⟩ := HC.out k hlt
          replace c0 := cell_blw c0 hb
          replace c1 := cell_blw c1 hb
          have HB : Hid (badQ l[k] = (decide (l[k].1 < 1) || decide (9 < l[k].1) || decide (l[k].2 < 0) || decide (12 < l[k].2))) := rfl
          have HOUT : Hid (badQ l[k] = true → l.any badQ = true) := any_out l k hlt
          have HST : Hid (badQ l[k] = false → (l.take (k + 1)).any badQ = false) := any_step l k hlt HP.out
          clear HC HP
          generalize l[k] = q at c0 c1 HB HOUT HST
          obtain ⟨qw, qc⟩ := q
          simp only at c0 c1 HB
          have hfin : Below w.heap.size w (wr.alloc (.cells #[.int .i64 qw, .int .i64 qc] 33)) := blw_step hb (blw_box _)
          cases g1 : decide (qw < 1) with
          | true =>
            have HALL := Lib.hid (HOUT.out (by rw [HB.out, g1]; rfl))
            clear HB HOUT HST
            go_wp2
            all_goals go_ret
            all_goals exact ⟨by rw [HF.out, HALL.out]; rfl, hfin⟩
          | false =>
            cases g2 : decide (9 < qw) with
            | true =>
              have HALL := Lib.hid (HOUT.out (by rw [HB.out, g1, g2]; rfl))
              clear HB HOUT HST
              go_wp2
              all_goals go_ret
              all_goals exact ⟨by rw [HF.out, HALL.out]; rfl, hfin⟩
            | false =>
              cases g3 : decide (qc < 0) with
              | true =>
                have HALL := Lib.hid (HOUT.out (by rw [HB.out, g1, g2, g3]; rfl))
                clear HB HOUT HST
                go_wp2
                all_goals go_ret
                all_goals exact ⟨by rw [HF.out, HALL.out]; rfl, hfin⟩
              | false =>
                cases g4 : decide (12 < qc) with
                | true =>
                  have HALL := Lib.hid (HOUT.out (by rw [HB.out, g1, g2, g3, g4]; rfl))
                  clear HB HOUT HST
                  go_wp2
                  all_goals go_ret
                  all_goals exact ⟨by rw [HF.out, HALL.out]; rfl, hfin⟩
                | false =>
                  have hn := HST.out (by rw [HB.out, g1, g2, g3, g4]; rfl)
                  clear HB HOUT HST
                  go_wp2
                  go_roundw
                  case rel => exact ⟨k + 1, by omega, by go_num, hn, hfin⟩
                  case measure => simp [intOf]; omega
        · have HALL : Hid (l.any badQ = false) := by
            have := HP.out
            rw [List.take_of_length_le (by omega)] at this
            exact this
          clear HC HP
          go_wp2
          go_ret
          exact ⟨by rw [HF.out, HALL.out]; rfl, hb⟩
end Go.Proofs.Ytddbgbokkpeffaa
