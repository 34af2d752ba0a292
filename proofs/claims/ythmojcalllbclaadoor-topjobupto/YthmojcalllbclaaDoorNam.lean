/- Contract of job.names: ten names, with their kinds. Written by tpl/mk_nam.py. -/
import Derived.Test.YthmojcalllbclaaDoorExU
import Derived.Maps.RangeWalk
import Derived.Maps.OwnSet
import Derived.StringKeys
namespace Go.Proofs.YthmojcalllbclaaDoor
open Go.ChangeShapes Go.WideShapes Go.ChangeAt Go.RowKit Go.WideMaps Go.Maps
theorem strKey : Keyed Tryd.prog 9 := Keyed.of_law (string_law Tryd.underlying9)
theorem mapT : Tryd.prog.underlying 101 = some (.map 9 3) := Tryd.underlying101
theorem key_lit (s : ByteArray) (hs : s.size ≤ maxLen) : keyOf Tryd.prog 9 (.string s) = some (.string s.data.toList) := by
  simp [keyOf, mapKey, Tryd.underlying9, hs]
/-- What that map reads as. -/
def nameD : DataW Unit := (DataW.put ((DataW.put ((DataW.put ((DataW.put ((DataW.put ((DataW.put ((DataW.put ((DataW.put ((DataW.put ((DataW.put (.map []) (.string [105, 116]) (.lit (.int .i64 1)))) (.string [108, 105, 110, 101]) (.lit (.int .i64 2)))) (.string [119, 111, 114, 100]) (.lit (.int .i64 3)))) (.string [116, 101, 120, 116]) (.lit (.int .i64 4)))) (.string [99, 97, 116]) (.lit (.int .i64 5)))) (.string [99, 117, 116]) (.lit (.int .i64 6)))) (.string [110, 117, 109]) (.lit (.int .i64 7)))) (.string [108, 101, 110]) (.lit (.int .i64 8)))) (.string [109, 97, 110, 121]) (.lit (.int .i64 9)))) (.string [97, 100, 100]) (.lit (.int .i64 10)))
set_option maxRecDepth 100000 in
set_option maxHeartbeats 2000000 in
theorem names_any (w : World) : Calls Tryd.prog 67 #[] w fun e w' => e = .returned (.map (some w.heap.size)) ∧ w'.ownsMap Tryd.prog 9 (plainElem (H := Unit) Tryd.prog 3) w.heap.size 10 nameD ∧ Below w.heap.size w w' := by
  have h0 := World.ownsMap_made w Tryd.prog 9 (plainElem (H := Unit) Tryd.prog 3)
  have b0 : Below w.heap.size w (w.alloc (.map #[] 0)) := below_box _
  have hmk : (Instr.makeMap 101 none).run Tryd.prog w = .ok (.map (some w.heap.size)) (w.alloc (.map #[] 0)) := rfl
  obtain ⟨w1, r1, h1, g1⟩ := h0.update strKey mapT (by decide) (key_lit ⟨#[105, 116]⟩ (by decide)) (plainElem_int (H := Unit) Tryd.underlying3 (q := .i64) (a := 1) (by decide))
  have b1 : Below w.heap.size w w1 := b0.grown g1 b0.size (fun k hk => by cases hk; exact Nat.le_refl _)
  obtain ⟨w2, r2, h2, g2⟩ := h1.update strKey mapT (by decide) (key_lit ⟨#[108, 105, 110, 101]⟩ (by decide)) (plainElem_int (H := Unit) Tryd.underlying3 (q := .i64) (a := 2) (by decide))
  have b2 : Below w.heap.size w w2 := b1.grown g2 b1.size (fun k hk => by cases hk; exact Nat.le_refl _)
  obtain ⟨w3, r3, h3, g3⟩ := h2.update strKey mapT (by decide) (key_lit ⟨#[119, 111, 114, 100]⟩ (by decide)) (plainElem_int (H := Unit) Tryd.underlying3 (q := .i64) (a := 3) (by decide))
  have b3 : Below w.heap.size w w3 := b2.grown g3 b2.size (fun k hk => by cases hk; exact Nat.le_refl _)
  obtain ⟨w4, r4, h4, g4⟩ := h3.update strKey mapT (by decide) (key_lit ⟨#[116, 101, 120, 116]⟩ (by decide)) (plainElem_int (H := Unit) Tryd.underlying3 (q := .i64) (a := 4) (by decide))
  have b4 : Below w.heap.size w w4 := b3.grown g4 b3.size (fun k hk => by cases hk; exact Nat.le_refl _)
  obtain ⟨w5, r5, h5, g5⟩ := h4.update strKey mapT (by decide) (key_lit ⟨#[99, 97, 116]⟩ (by decide)) (plainElem_int (H := Unit) Tryd.underlying3 (q := .i64) (a := 5) (by decide))
  have b5 : Below w.heap.size w w5 := b4.grown g5 b4.size (fun k hk => by cases hk; exact Nat.le_refl _)
  obtain ⟨w6, r6, h6, g6⟩ := h5.update strKey mapT (by decide) (key_lit ⟨#[99, 117, 116]⟩ (by decide)) (plainElem_int (H := Unit) Tryd.underlying3 (q := .i64) (a := 6) (by decide))
  have b6 : Below w.heap.size w w6 := b5.grown g6 b5.size (fun k hk => by cases hk; exact Nat.le_refl _)
  obtain ⟨w7, r7, h7, g7⟩ := h6.update strKey mapT (by decide) (key_lit ⟨#[110, 117, 109]⟩ (by decide)) (plainElem_int (H := Unit) Tryd.underlying3 (q := .i64) (a := 7) (by decide))
  have b7 : Below w.heap.size w w7 := b6.grown g7 b6.size (fun k hk => by cases hk; exact Nat.le_refl _)
  obtain ⟨w8, r8, h8, g8⟩ := h7.update strKey mapT (by decide) (key_lit ⟨#[108, 101, 110]⟩ (by decide)) (plainElem_int (H := Unit) Tryd.underlying3 (q := .i64) (a := 8) (by decide))
  have b8 : Below w.heap.size w w8 := b7.grown g8 b7.size (fun k hk => by cases hk; exact Nat.le_refl _)
  obtain ⟨w9, r9, h9, g9⟩ := h8.update strKey mapT (by decide) (key_lit ⟨#[109, 97, 110, 121]⟩ (by decide)) (plainElem_int (H := Unit) Tryd.underlying3 (q := .i64) (a := 9) (by decide))
  have b9 : Below w.heap.size w w9 := b8.grown g9 b8.size (fun k hk => by cases hk; exact Nat.le_refl _)
  obtain ⟨w10, r10, h10, g10⟩ := h9.update strKey mapT (by decide) (key_lit ⟨#[97, 100, 100]⟩ (by decide)) (plainElem_int (H := Unit) Tryd.underlying3 (q := .i64) (a := 10) (by decide))
  have b10 : Below w.heap.size w w10 := b9.grown g10 b9.size (fun k hk => by cases hk; exact Nat.le_refl _)
  go_enter Tryd.func67, Tryd.ntmps67
  go_wp2
  go_ret
  exact ⟨rfl, h10, b10⟩
end Go.Proofs.YthmojcalllbclaaDoor
