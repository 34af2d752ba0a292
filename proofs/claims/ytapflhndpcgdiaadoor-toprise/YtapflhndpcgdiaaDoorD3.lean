/- Folders: a run in memory; New. -/
import Derived.Test.YtapflhndpcgdiaaDoorD2
namespace Go.Proofs.YtapflhndpcgdiaaDoor
open Go.ChangeShapes Go.WideShapes Go.ChangeAt Go.RowKit
open Grp Stable
/-- A run: its own block, its keys' lists (which lie below it), the row of what is made. -/
structure IsRun (w : World) (R : Nat) (kind : Int) (kv : Value) (ss : List (List (ByteArray × Int))) (mv : Value) (made : List (ByteArray × Int)) : Prop where
  blk : Blk w R 80 [.int .i64 kind, kv, mv]
  keys : ∀ w', Below R w w' → IsLists w' kv ss
  row : w.ownsRow (R + 1) 30 2 mv made.length (cellsP made)
/-- Nothing has turned but a block, a row's, and what is new. -/
structure Fr (w w' : World) (R : Nat) (o : Option Nat) : Prop where
  os : w'.os = w.os
  tape : w'.tape = w.tape
  output : w'.output = w.output
  size : w.heap.size ≤ w'.heap.size
  block : ∀ k, k < w.heap.size → k ≠ R → some k ≠ o → w'.heap[k]? = w.heap[k]?
theorem Fr.refl (w : World) (R : Nat) (o : Option Nat) : Fr w w R o := ⟨rfl, rfl, rfl, Nat.le_refl _, fun _ _ _ _ => rfl⟩
theorem Fr.of_blw {w w' : World} (h : Below w.heap.size w w') (R : Nat) (o : Option Nat) : Fr w w' R o := ⟨h.os, h.tape, h.output, h.size, fun k hk _ _ => h.block k hk⟩
theorem Fr.blw {w w1 w2 : World} {R : Nat} {o : Option Nat} (h : Fr w w1 R o) (k : Below w1.heap.size w1 w2) : Fr w w2 R o :=
  ⟨k.os.trans h.os, k.tape.trans h.tape, k.output.trans h.output, Nat.le_trans h.size k.size, fun i hi h1 h2 => (k.block i (Nat.lt_of_lt_of_le hi h.size)).trans (h.block i hi h1 h2)⟩
theorem Fr.put {w w1 : World} {R : Nat} {o : Option Nat} (h : Fr w w1 R o) (i : Nat) (v : Value) : Fr w (w1.setCell ⟨R, i, none⟩ v) R o := by
  have k := Only.setCell (Only.refl R w1) i v
  exact ⟨k.os.trans h.os, k.tape.trans h.tape, k.output.trans h.output, Nat.le_trans h.size k.size, fun j hj h1 h2 => (k.block j (Nat.lt_of_lt_of_le hj h.size) (fun e => h1 (Option.some.inj e))).trans (h.block j hj h1 h2)⟩
theorem Fr.grown {w w1 w2 : World} {R : Nat} {o o' : Option Nat} (h : Fr w w1 R o) (k : w1.grownBy w2 o') (ho : o' = o ∨ ∀ b, o' = some b → w.heap.size ≤ b) : Fr w w2 R o :=
  ⟨k.os.trans h.os, k.tape.trans h.tape, k.output.trans h.output, Nat.le_trans h.size k.size, fun j hj h1 h2 => (k.block j (Nat.lt_of_lt_of_le hj h.size) (fun e => by
    rcases ho with rfl | ho
    · exact h2 e
    · have := ho j e.symm; omega)).trans (h.block j hj h1 h2)⟩
theorem Fr.below {w w' : World} {R B : Nat} {o : Option Nat} (h : Fr w w' R o) (hB : B ≤ w.heap.size) (hR : B ≤ R) (ho : ∀ b, o = some b → B ≤ b) : Below B w w' :=
  ⟨h.os, h.tape, h.output, h.size, fun k hk => h.block k (by omega) (by omega) (fun e => by have := ho k e.symm; omega)⟩
theorem IsRun.blw {w w' : World} {R : Nat} {kind : Int} {kv mv : Value} {ss : List (List (ByteArray × Int))} {made : List (ByteArray × Int)} (h : IsRun w R kind kv ss mv made) (hb : Below w.heap.size w w') : IsRun w' R kind kv ss mv made :=
  ⟨h.blk.blw hb, fun w2 h2 => h.keys w2 ((hb.mono (Nat.le_of_lt h.blk.lt)).trans h2), owns_blw h.row hb⟩
set_option maxRecDepth 100000 in
set_option maxHeartbeats 1000000 in
theorem new_bad (kind : Int) (v : Value) (w : World) (hk : kindB kind = false) :
    Calls Tryd.prog 25 #[.int .i64 kind, v] w fun e w' => e = .returned (.tuple #[.pointer none, .iface 58 (.int .i64 3)]) ∧ w' = w := by
  have C := Lib.hid (foldCheck_any kind w)
  rw [show kindV kind = .iface 58 (.int .i64 3) by unfold kindV; rw [hk]; rfl] at C
  go_enter Tryd.func25, Tryd.ntmps25
  go_wp2_with (go_at_call 32; refine C.out.mono ?_; rintro _ w1 ⟨rfl, h1⟩; rw [h1]; clear h1 w1)
  go_ret2
  exact ⟨rfl, rfl⟩
/-- What New makes. -/
structure Fresh (w w' : World) (ls : List (List (ByteArray × Int))) (kind : Int) (R : Nat) (kv : Value) (Z : List (ByteArray × Int)) (ks : List ByteArray) (ss : List (List (ByteArray × Int))) : Prop where
  sorted : Sorted Z
  se : SE ls.flatten Z
  len : Z.length = ls.flatten.length
  segs : Segs ks ss
  flat : ss.flatten = Z
  low : w.heap.size ≤ R
  run : IsRun w' R kind kv ss (.slice none 0 0) []
  bel : Below w.heap.size w w'
set_option maxRecDepth 100000 in
set_option maxHeartbeats 1000000 in
theorem new_ok (kind : Int) (v : Value) (ls : List (List (ByteArray × Int))) (w : World) (hk : kindB kind = true) (h : IsLists w v ls) (hl : ls.length ≤ 1000) (hs : ls.flatten.length ≤ 1000) :
    Calls Tryd.prog 25 #[.int .i64 kind, v] w fun e w' => ∃ R kv Z ks ss, e = .returned (.tuple #[.pointer (some ⟨R, 0, none⟩), .nilIface]) ∧ Fresh w w' ls kind R kv Z ks ss := by
  have C := Lib.hid (foldCheck_any kind w)
  rw [show kindV kind = .nilIface by unfold kindV; rw [hk]; rfl] at C
  have M := Lib.hid (merge_full v ls w h (by omega) (by omega))
  obtain ⟨ao, cap, rfl, _⟩ := h
  go_enter Tryd.func25, Tryd.ntmps25
  go_wp2_with (first | (go_at_call 32; refine C.out.mono ?_; rintro _ w1 ⟨rfl, h1⟩; rw [h1]; clear h1 w1) | (go_at_call 22; refine Hid.out ?_))
  refine Lib.hid ?_
  refine M.out.mono ?_
  clear M C
  rintro _ w1 ⟨u, Z, rfl, hso, hse, hlen, hZ, hb1, gz, rfl⟩
  have BK := Lib.hid (byKey_any gz 0 Z.length Z w1 hZ rfl (by omega))
  have HA := Lib.hid (And.intro hso (And.intro hse (And.intro hlen hb1)))
  obtain ⟨nz, hnz⟩ : ∃ nz, nz = Z.length := ⟨_, rfl⟩
  rw [← hnz] at BK ⊢
  clear hso hse hlen hb1 hZ hnz
  dsimp only
  go_wp2_with (go_at_call 44; refine Hid.out ?_)
  refine Lib.hid ?_
  refine BK.out.mono ?_
  clear BK
  rintro _ w2 ⟨kv, ks, ss, rfl, hsg, hfl, hLs, hb2⟩
  obtain ⟨hso, hse, hlen, hb1⟩ := HA.out
  have hb12 := blw_step hb1 hb2
  obtain ⟨w3, hw3⟩ : ∃ w3, w3 = w2.alloc (.cells #[.int .i64 kind, kv, .slice none 0 0] 80) := ⟨_, rfl⟩
  have hb3 : Below w2.heap.size w2 w3 := by rw [hw3]; exact blw_box _
  obtain ⟨R, hR⟩ : ∃ R, R = w2.heap.size := ⟨_, rfl⟩
  have HF : Hid (Fresh w w3 ls kind R kv Z ks ss) := by
    refine ⟨hso, hse, hlen, hsg, hfl, by rw [hR]; exact hb12.size, ⟨?_, fun w' h' => ?_, World.ownsRow_nil _ _ _ _⟩, blw_step hb12 hb3⟩
    · rw [hw3, hR]; exact Blk.new w2 _ _
    · rw [hR] at h'
      obtain ⟨a, c, e, hc⟩ := hLs
      have hbb : Below w2.heap.size w2 w' := hb3.trans h'
      refine ⟨a, c, e, fun i hi => ?_⟩
      obtain ⟨b, off, u, ea, c0, hu⟩ := hc i hi
      exact ⟨b, off, u, ea, (hbb.cell (block_lt c0)).trans c0, isPairs_below hu hbb⟩
  have HW := Lib.hid hw3
  have HR := Lib.hid hR
  obtain ⟨ko, kc, rfl, _⟩ := hLs
  clear hw3 hR hso hse hlen hsg hfl hb3 hb12 hb1 hb2 HA
  dsimp only
  go_wp2
  rw [← HW.out, ← HR.out]
  go_ret2
  exact ⟨R, _, Z, ks, ss, rfl, HF.out⟩
end Go.Proofs.YtapflhndpcgdiaaDoor
