/- Journals: one entry that a text begins with. -/
import Derived.Test.YtifbjngkdifenaaDoorJ4
namespace Go.Proofs.YtifbjngkdifenaaDoor
open Go.ChangeShapes Go.WideShapes Go.ChangeAt Go.RowKit
open Num
/-- An entry. -/
structure Ent where
  kind : List UInt8
  n : List Int
  texts : List (List UInt8)
/-- The entry that a text begins with, and what stands behind it. -/
def oneL (s : List UInt8) : Option (Ent × List UInt8) :=
  if (cutAt 10 s).2.2 = false ∨ (cutAt 59 (cutAt 10 s).1).2.2 = false then none else
  match numbersL (cutAt 59 (cutAt 10 s).1).1 with
  | none => none
  | some (k, ns) => if k = [] then none else
    match numbersL (cutAt 59 (cutAt 10 s).1).2.1 with
    | none => none
    | some (k2, sz) => if k2 ≠ [] then none else
      match cutL (cutAt 10 s).2.1 sz with
      | none => none
      | some (ts, r) => if r.head? = some 46 then some (⟨k, ns, ts⟩, r.drop 1) else none
set_option maxRecDepth 100000 in
set_option maxHeartbeats 1000000 in
theorem prefix0 (s : List UInt8) (w : World) (hs : s.length ≤ 10000000) :
    Calls Tryd.prog 32 #[.string (bs s), .string ⟨#[46]⟩] w fun e w' => e = .returned (.bool (decide (s.head? = some 46))) ∧ Below w.heap.size w w' := by
  have hsz := bs_size s
  have h1 : (⟨#[46]⟩ : ByteArray).size = 1 := rfl
  cases s with
  | nil =>
    rw [List.length_nil] at hsz
    go_enter Tryd.func32, Tryd.ntmps32
    go_wp2
    go_ret
    exact ⟨rfl, Below.refl _ _⟩
  | cons c t =>
    have htk : (bs (c :: t)).extract 0 1 = bs [c] := bs_take (c :: t) 1
    have hle : 1 ≤ (bs (c :: t)).size := by rw [hsz, List.length_cons]; omega
    have hT : (bs [c]).toList = [c] := bs_toList [c]
    have HSZ : (bs (c :: t)).size ≤ 10000000 := by rw [hsz]; exact hs
    clear hsz hs
    generalize bs (c :: t) = sb at *
    generalize bs [c] = sc at *
    go_enter Tryd.func32, Tryd.ntmps32
    go_wp2
    go_ret
    exact ⟨by by_cases h : c = 46 <;> simp [h], Below.refl _ _⟩
set_option maxRecDepth 100000 in
set_option maxHeartbeats 1000000 in
theorem prefix_any (s : List UInt8) (w : World) (hs : s.length ≤ 10000000) :
    Calls Tryd.prog 24 #[.string (bs s), .string ⟨#[46]⟩] w fun e w' => e = .returned (.bool (decide (s.head? = some 46))) ∧ Below w.heap.size w w' := by
  have P := Lib.hid (prefix0 s w hs)
  go_enter Tryd.func24, Tryd.ntmps24
  go_wp2_with (go_at_call 32; refine P.out.mono ?_; rintro _ w1 ⟨rfl, hb1⟩)
  go_ret
  exact ⟨rfl, hb1⟩
end Go.Proofs.YtifbjngkdifenaaDoor
