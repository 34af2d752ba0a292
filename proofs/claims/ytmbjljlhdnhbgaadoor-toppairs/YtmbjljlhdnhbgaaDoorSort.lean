/- Contract of order.Sort. -/
import Derived.Test.YtmbjljlhdnhbgaaDoorStab
import Derived.OwnWalk
import Derived.Laws.CopyRow
import Derived.Outline
namespace Go.Proofs.YtmbjljlhdnhbgaaDoor
open Go.ChangeShapes Go.WideShapes Go.ChangeAt Go.RowKit
open Stable
theorem addr_add (b off j : Nat) : (⟨b, off, none⟩ : Addr).add j = ⟨b, off + j, none⟩ := by
  unfold Addr.add
  split
  · rename_i h; subst h; rfl
  · rfl
theorem cellsP_one (l : List (ByteArray × Int)) : ∀ u ∈ cellsP l, u.oneCell' = true := by
  intro u hu
  unfold cellsP at hu
  rw [List.mem_flatMap] at hu
  obtain ⟨p, _, hp⟩ := hu
  simp only [List.mem_cons, List.not_mem_nil, or_false] at hp
  rcases hp with rfl | rfl <;> rfl
theorem cellsP_src {w : World} {ad : Addr} {n cap : Nat} {l : List (ByteArray × Int)} (h : IsPairs w (.slice (some ad) n cap) l) : ∀ j u, (cellsP l)[j]? = some u → w.cell? (ad.add j) = some u := by
  intro j u hu
  have hj : j < (cellsP l).length := (List.getElem?_eq_some_iff.1 hu).1
  rw [cellsP_length] at hj
  obtain ⟨a, c, e, hc⟩ := h
  injection e with e1 e2 e3
  obtain ⟨b, off, ea, c0, c1⟩ := hc (j / 2) (by omega)
  rw [ea] at e1
  injection e1 with e1
  subst e1
  obtain ⟨k0, k1⟩ := cellsP_at l (j / 2) (by omega)
  rw [addr_add]
  rcases Nat.mod_two_eq_zero_or_one j with hm | hm
  · have ej : j / 2 * 2 = j := by omega
    rw [ej] at c0 k0
    rw [k0] at hu
    rw [c0]; exact hu
  · have ej : j / 2 * 2 + 1 = j := by omega
    rw [show off + j / 2 * 2 + 1 = off + j by omega] at c1
    rw [ej] at k1
    rw [k1] at hu
    rw [c1]; exact hu
theorem pairInfo : (Tryd.prog.info? 35).map (fun i => (i.zero, i.size, i.bytes)) = some (some (.agg #[.string ⟨#[]⟩, .int .i64 0]), 2, 24) := by kernel_rfl
theorem pairSize : (Tryd.prog.info? 35).map (·.size) = some 2 := by kernel_rfl
theorem only_setRow (w : World) (g : Nat) (cs : Array Value) : Only g w (w.setRow g cs) :=
  ⟨rfl, rfl, rfl, by simp [World.setRow], fun k _ hne => setRow_other w g k cs (fun e => hne (by rw [e]))⟩
set_option maxRecDepth 100000 in
theorem copy_pairs {w : World} {g n cap : Nat} {ao : Option Addr} {cur : Array Value} {l : List (ByteArray × Int)} (hg : w.heap[g]? = some (.cells cur 35 (0, 0))) (hn : n = l.length) (hsz : cur.size = n * 2) (h : IsPairs w (.slice ao n cap) l) :
    ∃ w2, (∀ ty, (Builtin.copy_ #[31, 31] ty #[.slice (some ⟨g, 0, none⟩) n n, .slice ao n cap]).run Tryd.prog w = .ok (goInt n) w2) ∧ Row g l w2 ∧ Only g w w2 := by
  cases hq : Tryd.prog.info? 35 with
  | none => have := pairSize; rw [hq] at this; cases this
  | some i =>
    have hi : i.size = 2 := by have := pairSize; rw [hq] at this; simpa using this
    cases ao with
    | none =>
      have hl : l = [] := by
        cases l with
        | nil => rfl
        | cons p l =>
          obtain ⟨a, c, e, hc⟩ := h
          injection e with e1
          obtain ⟨b, off, ea, _⟩ := hc 0 (by simp)
          rw [ea] at e1; cases e1
      subst hl
      refine ⟨w, fun ty => ?_, ⟨cur, hg, rfl⟩, Only.refl _ _⟩
      subst hn
      simp [Builtin.copy_, run_underlying Tryd.underlying31, Builtin.lenOf, Builtin.firstCells, sizeOf, typeInfo, hq, storeCells]
    | some ad =>
      have hl := run_loadCells_list (P := Tryd.prog) w ad (cellsP l) (cellsP_src h)
      have hlen : (cellsP l).length = n * 2 := by rw [cellsP_length, hn]
      have hst := run_storeCells_at Tryd.prog g 0 35 (cellsP l) 0 cur w hg (by omega) (cellsP_one l)
      refine ⟨w.setRow g (cur.toList.take (0 + 0) ++ cellsP l ++ cur.toList.drop (0 + 0 + (cellsP l).length)).toArray, fun ty => ?_, ⟨_, setRow_heap w g cur _ _ _ hg, ?_⟩, only_setRow _ _ _⟩
      · rw [hlen] at hl
        simp [Builtin.copy_, run_underlying Tryd.underlying31, Builtin.lenOf, Builtin.firstCells, sizeOf, typeInfo, hq, hi, hl, hst]
      · rw [← hn]
        simp [hlen]
theorem Row.isPairs {g n cap : Nat} {l : List (ByteArray × Int)} {w : World} (h : Row g l w) (hn : n = l.length) : IsPairs w (.slice (some ⟨g, 0, none⟩) n cap) l := by
  subst hn
  refine ⟨_, _, rfl, fun i hi => ⟨g, 0, rfl, ?_⟩⟩
  simp only [Nat.zero_add]
  exact h.at i hi
theorem block_lt {w : World} {a : Addr} {v : Value} (h : w.cell? a = some v) : a.block < w.heap.size := by
  cases a with
  | mk b off spot =>
    rcases Nat.lt_or_ge b w.heap.size with hb | hb
    · exact hb
    · simp [World.cell?, Array.getElem?_eq_none hb] at h
theorem isPairs_below {w w' : World} {v : Value} {l : List (ByteArray × Int)} (h : IsPairs w v l) (hb : Below w.heap.size w w') : IsPairs w' v l := by
  obtain ⟨a, cap, e, hc⟩ := h
  refine ⟨a, cap, e, fun i hi => ?_⟩
  obtain ⟨b, off, ea, c0, c1⟩ := hc i hi
  exact ⟨b, off, ea, (hb.cell (block_lt c0)).trans c0, (hb.cell (block_lt c1)).trans c1⟩
theorem below_of_only {g : Nat} {w w1 w2 : World} (hb : Below w.heap.size w w1) (hg : w.heap.size ≤ g) (h : Only g w1 w2) : Below w.heap.size w w2 :=
  ⟨h.os.trans hb.os, h.tape.trans hb.tape, h.output.trans hb.output, Nat.le_trans hb.size h.size, fun k hk => (h.block k (Nat.lt_of_lt_of_le hk hb.size) (fun e => by injection e with e; omega)).trans (hb.block k hk)⟩

set_option maxRecDepth 100000 in
set_option maxHeartbeats 1000000 in
theorem sort_any (v : Value) (l : List (ByteArray × Int)) (w : World) (h : IsPairs w v l) (hl : l.length ≤ 1000000) :
    Calls Tryd.prog 22 #[v] w fun e w' => ∃ u Z, e = .returned u ∧ Sorted Z ∧ SE l Z ∧ Z.length = l.length ∧ IsPairs w' u Z ∧ Below w.heap.size w w' := by
  have H := Lib.hid h
  obtain ⟨ao, cap, rfl, _⟩ := h
  obtain ⟨n, hn⟩ : ∃ n, n = l.length := ⟨_, rfl⟩
  rw [← hn] at H hl ⊢
  have HN := Lib.hid hn
  clear hn
  go_enter Tryd.func22, Tryd.ntmps22
  go_wp2_with (at_make; refine Hid.out ?_)
  refine Lib.hid ?_
  obtain ⟨i0, hi, hz0, hz1, hz2⟩ := info_parts pairInfo
  refine wpList_make_full w rfl (.tmp 5) (.tmp 5) 31 rfl w.heap.size 35 i0 _ 2 Tryd.underlying31 hi hz0 hz1 _ _ _ _ n rfl rfl rfl rfl (by rw [hz2]; omega) (by unfold maxLen; omega) (Nat.le_refl _) ?_
  intro w1 hown hgrow
  have hb1 : Below w.heap.size w w1 := ⟨hgrow.os, hgrow.tape, hgrow.output, hgrow.size, fun k hk => hgrow.block k hk (by simp)⟩
  have HP1 := isPairs_below H.out hb1
  obtain ⟨w2, hrun, hr2, ho2⟩ : ∃ w2, (∀ ty, (Builtin.copy_ #[31, 31] ty #[.slice (some ⟨w.heap.size, 0, none⟩) n n, .slice ao n cap]).run Tryd.prog w1 = .ok (goInt n) w2) ∧ Row w.heap.size l w2 ∧ Only w.heap.size w1 w2 := by
    rcases hown.2 with ⟨h1, _⟩ | ⟨g', cap', cur, h1, _, h3, _, _, h6, _⟩
    · cases h1
    · injection h1 with e1 e2 e3
      injection e1 with e1
      injection e1 with e1
      subst e1 e3
      exact copy_pairs h3 HN.out h6 HP1
  have C1 := Lib.hid (sortStable_any w.heap.size n n l w2 hr2 HN.out hl)
  have hb2 := below_of_only hb1 (Nat.le_refl _) ho2
  clear hown hgrow hb1 HP1 hr2 ho2 hi hz0 hz1 hz2
  go_wp2_with (go_at_call 32; refine Hid.out ?_)
  refine Lib.hid ?_
  refine C1.out.mono ?_
  rintro _ w3 ⟨rfl, ⟨Z, z1, z2, z3, z4⟩, ho3⟩
  have hb3 := below_of_only hb2 (Nat.le_refl _) ho3
  have z5 : IsPairs w3 (.slice (some ⟨w.heap.size, 0, none⟩) n n) Z := z4.isPairs (by rw [z3]; exact HN.out)
  have HZ : Hid (Z.length = n) := by show _ = _; rw [z3]; exact HN.out.symm
  clear hrun C1 hb2 ho3 z4 z3
  go_wp2
  go_ret
  exact ⟨_, Z, rfl, z1, z2, HZ.out, z5, hb3⟩
end Go.Proofs.YtmbjljlhdnhbgaaDoor
