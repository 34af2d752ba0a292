/- What is written is read: the pairs of a text that pairs were written to are those pairs. Plain facts, of no program. -/
import Derived.Test.YtapflhndpcgdiaaDoorBuild
namespace Go.Proofs.YtapflhndpcgdiaaDoor
open Num
theorem cutAt_split (c : UInt8) (r : List UInt8) : ∀ a : List UInt8, (∀ b ∈ a, b ≠ c) → cutAt c (a ++ c :: r) = (a, r, true) := by
  intro a
  induction a with
  | nil => intro _; simp [cutAt]
  | cons b a ih =>
    intro h
    rw [List.cons_append, cutAt, if_neg (h b (List.mem_cons_self ..)), ih (fun x hx => h x (List.mem_cons_of_mem _ hx))]
theorem itoa_signs (v : Int) : ∀ b ∈ Lib.itoa v, b ≠ 58 ∧ b ≠ 10 := by
  intro b hb
  unfold Lib.itoa at hb
  have dig : ∀ n, b ∈ Lib.decDigits n → b ≠ 58 ∧ b ≠ 10 := by
    intro n h
    have h1 := (digB_iff b).1 (dec_dig n b h)
    constructor
    · rintro rfl; simp at h1
    · rintro rfl; simp at h1
  split at hb
  · rcases List.mem_cons.1 hb with rfl | hb
    · decide
    · exact dig _ hb
  · exact dig _ hb
theorem keyT_text (p : ByteArray × Int) (rest : List UInt8) (hp : p.1.size ≤ 1000) : keyT (text1 p ++ rest) = (p.1.data.toList, 32 :: (Lib.itoa p.2 ++ 10 :: rest), true) := by
  have e : text1 p ++ rest = Lib.itoa p.1.size ++ 58 :: (p.1.data.toList ++ 32 :: (Lib.itoa p.2 ++ 10 :: rest)) := by unfold text1; simp
  have hc := cutAt_split 58 (p.1.data.toList ++ 32 :: (Lib.itoa p.2 ++ 10 :: rest)) (Lib.itoa p.1.size) (fun b hb => (itoa_signs _ b hb).1)
  have hn := num_itoa (v := (p.1.size : Int)) (by omega) (by omega)
  have hl : p.1.data.toList.length = p.1.size := Array.length_toList
  unfold keyT
  rw [e, hc]
  simp only [hn, if_true]
  rw [if_pos ⟨by omega, by rw [List.length_append, hl]; omega⟩]
  rw [Int.toNat_natCast, ← hl, List.take_left, List.drop_left]
theorem stepT_text (p : ByteArray × Int) (rest : List UInt8) (hp : p.1.size ≤ 1000) (h0 : -9223372036854775808 ≤ p.2) (h1 : p.2 ≤ 9223372036854775807) : stepT (text1 p ++ rest) = ((p.1.data.toList, p.2), rest, true) := by
  have hc := cutAt_split 10 rest (Lib.itoa p.2) (fun b hb => (itoa_signs _ b hb).2)
  have hn := num_itoa h0 h1
  unfold stepT
  rw [keyT_text p rest hp]
  simp only [List.head?_cons, List.tail_cons, hc, hn, and_self, if_true]
theorem pairs_text : ∀ l : List (ByteArray × Int), Fits l → pairsL (textL l) = some (l.map fun p => (p.1.data.toList, p.2)) := by
  intro l
  induction l with
  | nil => intro _; rfl
  | cons p l ih =>
    intro h
    have hp := h p (List.mem_cons_self ..)
    have e : textL (p :: l) = text1 p ++ textL l := by simp [textL]
    have hs := stepT_text p (textL l) hp.1 hp.2.1 hp.2.2
    rw [e, pairsL_step (by unfold text1; simp) (by rw [hs]), hs, ih (fun q hq => h q (List.mem_cons_of_mem _ hq))]
    rfl
theorem pairs_conv (l : List (ByteArray × Int)) (h : Fits l) : ((pairsL (textL l)).getD []).map conv = l ∧ (pairsL (textL l)).isSome = true := by
  rw [pairs_text l h]
  refine ⟨?_, rfl⟩
  rw [Option.getD_some, List.map_map]
  have : (conv ∘ fun p : ByteArray × Int => (p.1.data.toList, p.2)) = id := by
    funext p
    show (bs p.1.data.toList, p.2) = p
    rw [bs_of]
  rw [this, List.map_id]
end Go.Proofs.YtapflhndpcgdiaaDoor
