/- Contracts and the walk of the law Names: it returns true, and nothing that was there turns. -/
import Derived.Test.YtmbjljlhdnhbgaaDoorCards
import Derived.WalkKit
import Derived.ProofKit
import Derived.WalkLawsBesides
import Derived.Lib.Hide

import Derived.Deep.AppendLies
import Derived.Deep.QuietTactic
import Derived.BigQuiet
namespace Go.Proofs.YtmbjljlhdnhbgaaDoor
open Go.ChangeShapes Go.WideShapes Go.ChangeAt Go.RowKit
namespace names
set_option maxRecDepth 100000 in
theorem err9 (w : World) : Calls Tryd.prog 8 #[.int .i64 9] w fun e w' => e = .returned (.string ⟨#[116, 104, 114, 101, 115, 104, 102, 108, 111, 111, 114, 58, 32, 101, 114, 114, 111, 114, 32, 57]⟩) ∧ w' = w := by
  go_enter Tryd.func8, Tryd.ntmps8
  go_wp2
  go_ret
  exact ⟨rfl, rfl⟩
theorem assert_err (n : Int) (w : World) : Sem.run Tryd.prog (Instr.typeAssert (Value.iface 23 (Value.int IntKind.i64 n)) 27 23 true) w = .ok (.tuple #[.int .i64 n, .bool true]) w := by kernel_rfl
set_option maxRecDepth 100000 in
theorem same_err (n : Int) (w : World) (h : 0 < n) : Calls Tryd.prog 6 #[.iface 23 (.int .i64 n), .int .i64 n] w fun e w' => e = .returned (.bool true) ∧ w' = w := by
  have ta := assert_err n
  go_enter Tryd.func6, Tryd.ntmps6
  go_wp2
  go_ret
  exact ⟨rfl, rfl⟩
/-- Two slices that hold the same numbers. -/
def IsRow (w : World) (v : Value) (zs : List Int) : Prop := ∃ (b off cap : Nat), v = .slice (some ⟨b, off, none⟩) zs.length cap ∧ ∀ i, i < zs.length → w.cell? ⟨b, off + i, none⟩ = some (.int .i64 (zs[i]?.getD 0))
set_option maxRecDepth 100000 in
theorem sameNumbers_yes (a b : Value) (zs : List Int) (w : World) (hz : zs.length ≤ 1000) (ha : IsRow w a zs) (hb : IsRow w b zs) :
    Calls Tryd.prog 7 #[a, b] w fun e w' => e = .returned (.bool true) ∧ ∃ n, w' = w.drewN n := by
  obtain ⟨b0, o0, c0, rfl, h0⟩ := ha
  obtain ⟨b1, o1, c1, rfl, h1⟩ := hb
  go_enter Tryd.func7, Tryd.ntmps7
  go_wp2
  go_loopw [5] (fun i wr => ∃ k : Nat, k ≤ zs.length ∧ i = .int .i64 k ∧ ∃ n, wr = w.drewN n) (fun i _ => zs.length - (intOf i).toNat)
  case atStart => exact ⟨0, Nat.zero_le _, rfl, 0, rfl⟩
  case round =>
    obtain ⟨k, hk, rfl, n, rfl⟩ := hrel
    by_cases hlt : k < zs.length
    · have e0 := h0 k hlt
      have e1 := h1 k hlt
      go_wp2
      go_quiet (fail)
      go_wp2
      go_roundw
      case rel => exact ⟨k + 1, by omega, by go_num, n + nq, by simp⟩
      case measure => simp [intOf]; omega
    · go_wp2
      go_ret
      exact ⟨rfl, n, rfl⟩
theorem info3 : (Tryd.prog.info? 3).map (fun i => (i.zero, i.size, i.bytes)) = some (some (.int .i64 0), 1, 8) := by kernel_rfl
def zA : List Int := [20, 1000000000, 120, 60, 4, 5, 30, 20, 4, 6, 4, 3, 4, 9, 800, 80, 300]
def zB : List Int := [1, 2, 3, 4, 5, 6, 7, 8, 9, 10, 0, 1, 2, 1, 2, 3, 4, 0, 1, 2]
theorem oneB : ∀ u ∈ zB.map (Value.int .i64), u.oneCell' = true := by
  intro u hu
  simp only [List.mem_map] at hu
  obtain ⟨n, _, rfl⟩ := hu
  rfl
theorem isRow_of {w : World} {base : Nat} {v : Value} {zs : List Int} (h : w.ownsRow base 3 1 v zs.length (zs.map (Value.int .i64))) (h0 : 0 < zs.length) : IsRow w v zs := by
  obtain ⟨g, cap, rfl, _, _⟩ := h.form h0
  refine ⟨g, 0, cap, rfl, fun i hi => ?_⟩
  rw [Nat.zero_add, h.cellAt i (by omega)]
  simp [hi]
theorem lit_cells {w : World} {cs : Array Value} {e : TypeId} {g : Nat} (hg : g = w.heap.size) (hm : cs.size ≤ maxLen) : ∀ j u, cs.toList[j]? = some u → (w.alloc (.cells cs e)).cell? ((⟨g, 0, none⟩ : Addr).add j) = some u := by
  subst hg
  exact (World.ownsRow_lit (base := 0) (size := 1) (e := e) w cs cs.size (Nat.zero_le _) hm (by omega)).cells rfl
theorem after1 {w w1 : World} {A C : Obj} (hg1 : (((w.alloc A).alloc (.cells (zA.map (Value.int .i64)).toArray 3)).alloc C).grownBy w1 (some w.heap.size)) :
    w1.ownsRow w.heap.size 3 1 (.slice (some ⟨w.heap.size + 1, 0, none⟩) 17 17) 17 (zA.map (Value.int .i64)) ∧ Below w.heap.size w w1 ∧ w.heap.size + 3 ≤ w1.heap.size := by
  have hs1 := hg1.size
  simp at hs1
  have h2 := (((World.ownsRow_lit (base := w.heap.size) (size := 1) (e := 3) (w.alloc A) (zA.map (Value.int .i64)).toArray 17 (by simp) (by decide) rfl).alloc C)).kept hg1 (.inr (by simp [Value.ownBlock]))
  refine ⟨by simpa using h2, ((((Below.refl _ _).alloc (Nat.le_refl _) _).alloc (by simp) _).alloc (by simp; omega) _).grown hg1 (by simp; omega) (by intro k hk; simp at hk; omega), by omega⟩
theorem isRow_alloc {w : World} {v : Value} {zs : List Int} (h : IsRow w v zs) (o : Obj) : IsRow (w.alloc o) v zs := by
  obtain ⟨b, off, cap, hv, hc⟩ := h
  refine ⟨b, off, cap, hv, fun i hi => ?_⟩
  have := hc i hi
  rw [World.cell?_alloc_past o b (off + i) (World.block_lt_of_cell? w _ this)]
  exact this
theorem ne_of {w : World} {base g : Nat} {v : Value} {xs ys : List Value} (h1 : w.ownsRow base 3 1 v 37 xs) (h2 : w.ownsRow base 3 1 (.slice (some ⟨g, 0, none⟩) 17 17) 17 ys) : some g ≠ v.ownBlock := by
  rcases h1.2 with ⟨_, h0⟩ | ⟨g1, c1, cur1, rfl, _, hh1, hl1, _, hs1, _⟩
  · omega
  rcases h2.2 with ⟨_, h0⟩ | ⟨g2, c2, cur2, hv, _, hh2, hl2, _, hs2, _⟩
  · omega
  simp only [Value.slice.injEq, Option.some.injEq, Addr.mk.injEq, and_true, true_and] at hv
  obtain ⟨rfl, rfl⟩ := hv
  intro he
  simp only [Value.ownBlock, Option.some.injEq] at he
  subst he
  rw [hh1] at hh2
  simp only [Option.some.injEq, Obj.cells.injEq, and_true] at hh2
  subst hh2
  omega
theorem after2 {w w1 w2 : World} {v1 : Value} {C : Obj} {xs ys : List Value} (hown1 : w1.ownsRow w.heap.size 3 1 v1 37 xs) (hown2 : w1.ownsRow w.heap.size 3 1 (.slice (some ⟨w.heap.size + 1, 0, none⟩) 17 17) 17 ys)
    (hb1 : Below w.heap.size w w1) (hg2 : (w1.alloc C).grownBy w2 (some (w.heap.size + 1))) : w2.ownsRow w.heap.size 3 1 v1 37 xs ∧ Below w.heap.size w w2 := by
  have hne := ne_of hown1 hown2
  have hs := hb1.size
  refine ⟨(hown1.alloc C).kept hg2 (.inr fun h => hne h.symm), (hb1.alloc hb1.size C).grown hg2 (by simp; omega) (by intro k hk; simp at hk; omega)⟩
theorem errs_cell (w : World) (k : Nat) (hk : k < 9) :
    (w.alloc (Obj.cells #[Value.iface 23 (.int .i64 1), Value.iface 23 (.int .i64 2), Value.iface 23 (.int .i64 3), Value.iface 23 (.int .i64 4), Value.iface 23 (.int .i64 5), Value.iface 23 (.int .i64 6), Value.iface 23 (.int .i64 7), Value.iface 23 (.int .i64 8), Value.iface 23 (.int .i64 9)] 27)).cell? ⟨w.heap.size, k, none⟩ = some (.iface 23 (.int .i64 (k + 1))) := by
  have h : ∀ k : Nat, k < 9 → #[Value.iface 23 (.int .i64 1), Value.iface 23 (.int .i64 2), Value.iface 23 (.int .i64 3), Value.iface 23 (.int .i64 4), Value.iface 23 (.int .i64 5), Value.iface 23 (.int .i64 6), Value.iface 23 (.int .i64 7), Value.iface 23 (.int .i64 8), Value.iface 23 (.int .i64 9)].toList[k]? = some (Value.iface 23 (.int .i64 (k + 1))) := by
    intro k hk
    match k, hk with
    | 0, _ => rfl
    | 1, _ => rfl
    | 2, _ => rfl
    | 3, _ => rfl
    | 4, _ => rfl
    | 5, _ => rfl
    | 6, _ => rfl
    | 7, _ => rfl
    | 8, _ => rfl
  simpa using h k hk
set_option maxRecDepth 100000 in
set_option maxHeartbeats 1000000 in
theorem walk (w : World) : Calls Tryd.prog 3 #[] w fun e w' => e = .returned (.bool true) ∧ Below w.heap.size w w' := by
  obtain ⟨i0, hi, hz0, hz1, hz2⟩ := info_parts info3
  go_enter Tryd.func3, Tryd.ntmps3
  go_wp2_with (at_builtin; refine Hid.out ?_)
  refine Lib.hid ?_
  refine wpList_append_own _ rfl (.tmp 7) (.tmp 8) 22 rfl w.heap.size 3 i0 (.int .i64 0) 1 8 Tryd.underlying22 hi hz0 hz1 hz2 rfl (by decide) _ 17 (zA.map (Value.int .i64)) rfl (((World.ownsRow_lit w _ 17 (Nat.le_refl _) (by decide) rfl).alloc _).alloc _) ⟨w.heap.size + 1 + 1, 0, none⟩ 20 20 (zB.map (Value.int .i64)) rfl rfl ?c1 oneB (by decide) (by decide) (by simp; omega) ?_
  case c1 => exact lit_cells (by simp) (by decide)
  intro v1 w1 hown1 hg1 _
  obtain ⟨hown2, hb1, hs1⟩ := after1 hg1
  clear hg1
  go_wp2_with (at_builtin; refine Hid.out ?_)
  refine Lib.hid ?_
  refine wpList_append_own _ rfl (.tmp 10) (.tmp 11) 22 rfl w.heap.size 3 i0 (.int .i64 0) 1 8 Tryd.underlying22 hi hz0 hz1 hz2 rfl (by decide) _ 17 (zA.map (Value.int .i64)) rfl (hown2.alloc _) ⟨w1.heap.size, 0, none⟩ 20 20 (zB.map (Value.int .i64)) rfl rfl ?d1 oneB (by decide) (by decide) (by simp; omega) ?_
  case d1 => exact lit_cells rfl (by decide)
  intro v2 w2 hown2' hg2 _
  obtain ⟨hown1', hb2⟩ := after2 hown1 hown2 hb1 hg2
  clear hg2 hown1 hown2 hb1 hs1
  have r1 : IsRow w2 v1 (zA ++ zB) := isRow_of (by rw [List.map_append]; exact hown1') (by decide)
  have r2 : IsRow w2 v2 (zA ++ zB) := isRow_of (by rw [List.map_append]; exact hown2') (by decide)
  have s2 : w2.heap.size < w2.heap.size + 1 := by omega
  clear hown1' hown2'
  go_wp2_with fail
  generalize hw3 : w2.alloc (Obj.cells #[Value.iface 23 (.int .i64 1), Value.iface 23 (.int .i64 2), Value.iface 23 (.int .i64 3), Value.iface 23 (.int .i64 4), Value.iface 23 (.int .i64 5), Value.iface 23 (.int .i64 6), Value.iface 23 (.int .i64 7), Value.iface 23 (.int .i64 8), Value.iface 23 (.int .i64 9)] 27) = w3
  have hE : ∀ k, k < 9 → w3.cell? ⟨w2.heap.size, k, none⟩ = some (.iface 23 (.int .i64 (k + 1))) := by rw [← hw3]; exact errs_cell w2
  have q1 : IsRow w3 v1 (zA ++ zB) := by rw [← hw3]; exact isRow_alloc r1 _
  have q2 : IsRow w3 v2 (zA ++ zB) := by rw [← hw3]; exact isRow_alloc r2 _
  have hb3 : Below w.heap.size w w3 := by rw [← hw3]; exact hb2.alloc hb2.size _
  clear hw3 r1 r2 hb2
  go_loop [4] (fun i => ∃ k : Nat, k ≤ 9 ∧ i = .int .i64 k) (fun i => 9 - (intOf i).toNat)
  case atStart => exact ⟨0, Nat.zero_le _, rfl⟩
  case round =>
    obtain ⟨k, hk, rfl⟩ := hrel
    by_cases hlt : k < 9
    · have e0 := hE k hlt
      clear hE q1 q2
      go_wp2_with (go_at_call 6; refine (same_err _ _ (by omega)).mono ?_; rintro e w' ⟨rfl, rfl⟩)
      go_round
      case rel => exact ⟨k + 1, by omega, by go_num⟩
      case measure => simp [intOf]; omega
    · have h9 : k = 9 := by omega
      clear hE
      go_wp2_with (first | (go_at_call 7; refine (sameNumbers_yes _ _ _ _ (by decide) q1 q2).mono ?_; rintro e w' ⟨rfl, n, rfl⟩) | (go_at_call 8; refine (err9 _).mono ?_; rintro e w' ⟨rfl, rfl⟩))
      go_ret
      exact ⟨rfl, hb3.trans ⟨rfl, rfl, rfl, Nat.le_refl _, fun _ _ => rfl⟩⟩
end names
end Go.Proofs.YtmbjljlhdnhbgaaDoor
