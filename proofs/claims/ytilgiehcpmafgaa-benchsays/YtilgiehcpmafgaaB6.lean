/- Benches: made anew. -/
import Derived.Test.YtilgiehcpmafgaaB5
namespace Go.Proofs.Ytilgiehcpmafgaa
open Go.ChangeShapes Go.WideShapes Go.ChangeAt Go.RowKit
open Bn
theorem infoSlot : (Try.prog.info? 84).map (fun i => (i.zero, i.size, i.bytes)) = some (some (.agg #[.int .i64 0, .int .i64 0, .bool false, .int .i64 0, .bool false, .int .i64 0]), 6, 48) := by kernel_rfl
/-- The first k slots of a new bench with S slots a worker. -/
def mkL (S k : Nat) : List Sl := (List.range k).map fun m => ⟨((m / S : Nat) : Int), ((m % S : Nat) : Int), false, 0, false, 0⟩
theorem mkL_len (S k : Nat) : (mkL S k).length = k := by simp [mkL]
theorem mkL_succ {S i j : Nat} (hj : j < S) : cellsS (mkL S (i * S + (j + 1))) = cellsS (mkL S (i * S + j)) ++ [.int .i64 i, .int .i64 j, .bool false, .int .i64 0, .bool false, .int .i64 0] := by
  have e1 : (i * S + j) / S = i := by
    rw [Nat.add_comm, Nat.add_mul_div_right _ _ (by omega), Nat.div_eq_of_lt hj, Nat.zero_add]
  have e2 : (i * S + j) % S = j := by
    rw [Nat.add_comm, Nat.add_mul_mod_self_right, Nat.mod_eq_of_lt hj]
  have e3 : i * S + (j + 1) = (i * S + j) + 1 := by omega
  rw [e3]
  unfold mkL cellsS
  rw [List.range_succ, List.map_append, List.flatMap_append]
  congr 1
  simp only [List.map_cons, List.map_nil, List.flatMap_cons, List.flatMap_nil, List.append_nil, Sl.cells, e1, e2]
theorem ownsLow {w : World} {lo base : Nat} {e : TypeId} {size : Nat} {v : Value} {n : Nat} {xs : List Value} (h : w.ownsRow base e size v n xs) (hl : lo ≤ base) : w.ownsRow lo e size v n xs := by
  obtain ⟨h1, h2 | ⟨g, cap, cur, h3, h4, h5⟩⟩ := h
  · exact ⟨h1, .inl h2⟩
  · exact ⟨h1, .inr ⟨g, cap, cur, h3, Nat.le_trans hl h4, h5⟩⟩
/-- A bench under way: its first k slots. -/
structure NI (w : World) (W S k : Nat) (v : Value) (wr : World) : Prop where
  row : Blk wr w.heap.size 82 [.int .i64 W, .int .i64 S, v]
  ow : wr.ownsRow (w.heap.size + 1) 84 6 v k (cellsS (mkL S k))
  bl : Below w.heap.size w wr
theorem NI.fin {w wr : World} {W S : Nat} {v : Value} (h : NI w W S (W * S) v wr) (h1 : 1 ≤ W ∧ W ≤ 4) (h2 : 1 ≤ S ∧ S ≤ 3) : ∃ g cap, IsB wr w.heap.size wr.heap.size w.heap.size W S g cap (mkL S (W * S)) := by
  have hp : 0 < W * S := Nat.mul_pos (by omega) (by omega)
  obtain ⟨hl, ⟨_, h0⟩ | ⟨g, cap, cur, rfl, hg, hcur, hr⟩⟩ := id h.ow
  · omega
  · have hlt := (h.ow.lt g rfl).2
    refine ⟨g, cap, ⟨Nat.le_refl _, h.row.lt, by omega, hlt, ?_, ?_, by omega, h1, h2, mkL_len _ _, ?_⟩⟩
    · rw [mkL_len]; exact h.row
    · rw [mkL_len]; exact ownsLow h.ow (by omega)
    · intro m hm
      simp [mkL]
set_option maxRecDepth 100000 in
set_option maxHeartbeats 2000000 in
theorem new_good (w : World) (W S : Nat) (h1 : 1 ≤ W ∧ W ≤ 4) (h2 : 1 ≤ S ∧ S ≤ 3) :
    Calls Try.prog 19 #[.int .i64 W, .int .i64 S] w fun e w' => e = .returned (.tuple #[.pointer (some ⟨w.heap.size, 0, none⟩), .nilIface]) ∧ (∃ g cap, IsB w' w.heap.size w'.heap.size w.heap.size W S g cap (mkL S (W * S))) ∧ Below w.heap.size w w' := by
  obtain ⟨i0, hi0, hz0, hz1, hz2⟩ := info_parts infoSlot
  have HF : Hid (∀ v wr, NI w W S (W * S) v wr → ∃ g cap, IsB wr w.heap.size wr.heap.size w.heap.size W S g cap (mkL S (W * S))) := fun v wr h => h.fin h1 h2
  obtain ⟨h1a, h1b⟩ := h1
  obtain ⟨h2a, h2b⟩ := h2
  go_enter Try.func19, Try.ntmps19
  go_wp2
  go_loopw [7, 8, 29] (fun _ _ iv wr => ∃ (i : Nat) (v : Value), i ≤ W ∧ iv = .int .i64 i ∧ Hid (NI w W S (i * S) v wr)) (fun _ _ iv _ => W - (intOf iv).toNat)
  case atStart =>
    refine ⟨0, .slice none 0 0, Nat.zero_le _, rfl, ⟨Blk.new w #[.int .i64 W, .int .i64 S, .slice none 0 0] 82, ?_, blw_box _⟩⟩
    rw [Nat.zero_mul]
    exact World.ownsRow_nil _ _ _ _
  case round =>
    obtain ⟨i, v0, hi, rfl, HN⟩ := hrel
    by_cases hlt : i < W
    · go_wp2
      go_loopw [8, 33] (fun _ jv wq => ∃ (j : Nat) (v : Value), j ≤ S ∧ jv = .int .i64 j ∧ Hid (NI w W S (i * S + j) v wq)) (fun _ jv _ => S - (intOf jv).toNat)
      case atStart => exact ⟨0, v0, Nat.zero_le _, rfl, HN⟩
      case round =>
        clear HN
        obtain ⟨j, v, hj, rfl, HN⟩ := hrel
        by_cases hjl : j < S
        · have cv := HN.out.row.at (i := 2) (v := v) rfl
          have hPq : w.heap.size < wr.heap.size := HN.out.row.lt
          have hbd : i * S ≤ 4 * 3 := Nat.mul_le_mul (by omega) h2b
          go_wp2_with (at_builtin; refine Hid.out ?_)
          refine Lib.hid ?_
          refine wpList_append_own _ rfl (.tmp 40) (.tmp 45) 80 rfl (w.heap.size + 1) 84 i0 (.agg #[.int .i64 0, .int .i64 0, .bool false, .int .i64 0, .bool false, .int .i64 0]) 6 48 Try.underlying80 hi0 hz0 hz1 hz2 rfl (by decide) v (i * S + j) (cellsS (mkL S (i * S + j))) rfl (HN.out.ow.alloc _) ⟨wr.heap.size, 0, none⟩ 1 1 [.int .i64 i, .int .i64 j, .bool false, .int .i64 0, .bool false, .int .i64 0] rfl rfl ?c1 ?c5 ?c2 ?c3 ?c4 ?_
          case c1 => exact lit_cells rfl (show 6 ≤ maxLen by decide)
          case c5 => intro u hu; simp at hu; rcases hu with rfl | rfl | rfl | rfl | rfl | rfl <;> rfl
          case c2 => unfold maxLen; omega
          case c3 => omega
          case c4 => simp; omega
          intro v2 w2 hown2 hg2 _
          have hnb : ∀ q, v.ownBlock = some q → w.heap.size + 1 ≤ q := fun q hq => (HN.out.ow.lt q hq).1
          have r2 : Blk w2 w.heap.size 82 [.int .i64 W, .int .i64 S, v] := by
            have r1 := HN.out.row.blw (blw_box (.cells #[.int .i64 i, .int .i64 j, .bool false, .int .i64 0, .bool false, .int .i64 0] 84))
            exact (hg2.block _ r1.lt (fun e => by have := hnb _ e.symm; omega)).trans r1
          have b2 : Below w.heap.size w w2 := (HN.out.bl.alloc (by omega) _).grown hg2 (by simp; omega) (fun q hq => by have := hnb q hq; omega)
          have hsz2 : w.heap.size < w2.heap.size := r2.lt
          have N2 : Hid (NI w W S (i * S + (j + 1)) v2 (w2.setCell ⟨w.heap.size, 2, none⟩ v2)) := by
            refine ⟨r2.set 2 v2, ?_, b2.setCell (p := ⟨w.heap.size, 2, none⟩) (Nat.le_refl _) _⟩
            rw [mkL_succ hjl]
            exact owns_same hown2 fun q hq => Below.heap_setCell w2 ⟨w.heap.size, 2, none⟩ v2 q (by have := (owns_lt hown2 hq).1; show q ≠ w.heap.size; omega)
          have cv2 := r2.at (i := 2) (v := v) rfl
          have fv2 := r2.frozen 2
          obtain ⟨g2, cap2, ev2⟩ : ∃ g2 cap2, v2 = .slice (some ⟨g2, 0, none⟩) (i * S + j + 1) cap2 := by
            obtain ⟨_, ⟨_, h0⟩ | ⟨g2, cap2, _, e2, _⟩⟩ := hown2
            · omega
            · exact ⟨g2, cap2, e2⟩
          clear hown2 hg2 HN r2 hnb cv
          subst ev2
          go_wp2
          go_roundw
          case rel => exact ⟨j + 1, _, by omega, by go_num, N2⟩
          case measure => simp [intOf]; omega
        · have e : j = S := by omega
          have HN' : Hid (NI w W S ((i + 1) * S) v wr) := by
            rw [Nat.succ_mul, ← e]; rw [e] at HN ⊢; exact HN
          clear HN
          go_wp2
          go_roundw
          case rel => exact ⟨i + 1, v, by omega, by go_num, HN'⟩
          case measure => simp [intOf]; omega
    · have e : i = W := by omega
      subst e
      go_wp2
      exact bodyPost_ret (v := .tuple #[.pointer (some ⟨w.heap.size, 0, none⟩), .nilIface]) (by simp [results, Try.results19, go_sem]) rfl ⟨rfl, HF.out _ _ HN.out, HN.out.bl⟩
end Go.Proofs.Ytilgiehcpmafgaa
