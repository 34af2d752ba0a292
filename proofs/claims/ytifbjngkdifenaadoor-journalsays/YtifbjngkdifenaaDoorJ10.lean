/- Journals: contracts of LightTexts and SameNumbers; a slice of entries that came in. -/
import Derived.Test.YtifbjngkdifenaaDoorJ8
import Derived.Test.YtifbjngkdifenaaDoorJ9
namespace Go.Proofs.YtifbjngkdifenaaDoor
open Go.ChangeShapes Go.WideShapes Go.ChangeAt Go.RowKit
open Num
def lightT (l : List ByteArray) (most : Int) : Bool := l.all fun t => decide ((t.size : Int) ≤ most)
theorem lightT_step (l : List ByteArray) (most : Int) (k : Nat) (h : k < l.length) : lightT (l.take (k + 1)) most = (lightT (l.take k) most && decide ((l[k].size : Int) ≤ most)) := by
  unfold lightT
  rw [List.take_succ_eq_append_getElem h, List.all_append]
  simp
theorem lightT_out (l : List ByteArray) (most : Int) (k : Nat) (h : k < l.length) (h6 : most < (l[k].size : Int)) : lightT l most = false := by
  unfold lightT
  rw [List.all_eq_false]
  exact ⟨l[k], List.getElem_mem h, by simp; omega⟩
set_option maxRecDepth 100000 in
set_option maxHeartbeats 400000 in
theorem lightTexts_any (v : Value) (l : List ByteArray) (many most : Int) (w : World) (h : IsTexts w v l) (hl : l.length ≤ maxLen) :
    Calls Tryd.prog 6 #[v, .int .i64 many, .int .i64 most] w fun e w' => e = .returned (.bool (decide ((l.length : Int) ≤ many) && lightT l most)) ∧ w' = w := by
  unfold maxLen at hl
  obtain ⟨a, cap, rfl, hc⟩ := h
  by_cases hm : (l.length : Int) ≤ many
  · go_enter Tryd.func6, Tryd.ntmps6
    go_wp2
    go_loop [7] (fun i => ∃ k : Nat, k ≤ l.length ∧ i = .int .i64 k ∧ lightT (l.take k) most = true) (fun i => l.length - (intOf i).toNat)
    case atStart => exact ⟨0, Nat.zero_le _, rfl, rfl⟩
    case round =>
      obtain ⟨k, hk, rfl, hp⟩ := hrel
      have HP := Lib.hid hp
      clear hp
      by_cases hlt : k < l.length
      · obtain ⟨b, off, rfl, c0⟩ := hc k hlt
        clear hc
        by_cases h6 : (l[k].size : Int) ≤ most
        · go_wp2
          go_round
          case rel => exact ⟨k + 1, by omega, by go_num, by rw [lightT_step l most k hlt, HP.out]; simpa using h6⟩
          case measure => simp [intOf]; omega
        · go_wp2
          go_ret
          exact ⟨ret_bool (by simp [lightT_out l most k hlt (by omega)]), rfl⟩
      · clear hc
        go_wp2
        go_ret
        have hp := HP.out
        rw [List.take_of_length_le (by omega)] at hp
        exact ⟨ret_bool (by simp [hp]), rfl⟩
  · go_enter Tryd.func6, Tryd.ntmps6
    go_wp2
    go_ret
    exact ⟨ret_bool (by rw [show decide ((l.length : Int) ≤ many) = false from decide_eq_false (by omega), Bool.false_and]), rfl⟩
set_option maxRecDepth 100000 in
set_option maxHeartbeats 1000000 in
/-- Two slices that hold the same. -/
theorem sameNumbers_any (u v : Value) (l : List Int) (w : World) (h1 : IsIs w u l) (h2 : IsIs w v l) (hl : l.length ≤ 1000000) :
    Calls Tryd.prog 14 #[u, v] w fun e w' => e = .returned (.bool true) ∧ Below w.heap.size w w' := by
  obtain ⟨ao, cap, rfl, q1⟩ := h1
  obtain ⟨bo, cap', rfl, q2⟩ := h2
  have H1 := Lib.hid q1
  have H2 := Lib.hid q2
  clear q1 q2
  obtain ⟨n, hn⟩ : ∃ n, n = l.length := ⟨_, rfl⟩
  rw [← hn] at hl ⊢
  have HN := Lib.hid hn
  clear hn
  go_enter Tryd.func14, Tryd.ntmps14
  go_wp2
  go_loopw [5] (fun kv wr => ∃ k : Nat, k ≤ n ∧ kv = .int .i64 k ∧ Below w.heap.size w wr) (fun kv _ => n - (intOf kv).toNat)
  case atStart => exact ⟨0, Nat.zero_le _, rfl, Below.refl _ _⟩
  case round =>
    obtain ⟨k, hk, rfl, hb⟩ := hrel
    by_cases hlt : k < n
    · have hkl : k < l.length := by have := HN.out; omega
      obtain ⟨b, off, rfl, c0⟩ := H1.out k hkl
      obtain ⟨b', off', rfl, c1⟩ := H2.out k hkl
      replace c0 := cell_below c0 hb
      replace c1 := cell_below c1 hb
      clear H1 H2
      generalize l[k] = x at c0 c1
      go_wp2
      go_quiet (fail)
      have hb2 : Below w.heap.size w (wr.drewN nq) := below_trans hb (below_drewN _ _)
      generalize wr.drewN nq = w3 at *
      go_wp2
      go_roundw
      case rel => exact ⟨k + 1, by omega, by go_num, hb2⟩
      case measure => simp [intOf]; omega
    · clear H1 H2
      go_wp2
      go_ret
      exact ⟨rfl, hb⟩
/-- A slice of entries: of each its kind, and where its two slices are. -/
def IsEnts (w : World) (v : Value) (l : List EV) : Prop :=
  ∃ a cap, v = .slice a l.length cap ∧ ∀ i (h : i < l.length), ∃ b off, a = some ⟨b, off, none⟩ ∧ w.cell? ⟨b, off + i * 3, none⟩ = some (.string (bs l[i].e.kind)) ∧ w.cell? ⟨b, off + i * 3 + 1, none⟩ = some l[i].vn ∧ w.cell? ⟨b, off + i * 3 + 2, none⟩ = some l[i].vt ∧ IsIs w l[i].vn l[i].e.n ∧ IsTexts w l[i].vt (l[i].e.texts.map bs)
theorem IsEnts.below {w w' : World} {v : Value} {l : List EV} (h : IsEnts w v l) (hb : Below w.heap.size w w') : IsEnts w' v l := by
  obtain ⟨a, cap, e, hc⟩ := h
  refine ⟨a, cap, e, fun i hi => ?_⟩
  obtain ⟨b, off, ea, c0, c1, c2, h1, h2⟩ := hc i hi
  exact ⟨b, off, ea, cell_below c0 hb, cell_below c1 hb, cell_below c2 hb, h1.below hb, h2.below hb⟩
theorem cellsE_at (L : List EV) : ∀ k (h : k < L.length) i, i < 3 → (cellsE L)[k * 3 + i]? = [Value.string (bs L[k].e.kind), L[k].vn, L[k].vt][i]? := by
  induction L with
  | nil => intro k h; simp at h
  | cons x L ih =>
    intro k h i hi
    have e : cellsE (x :: L) = [Value.string (bs x.e.kind), x.vn, x.vt] ++ cellsE L := by unfold cellsE; rw [List.flatMap_cons]
    rw [e]
    cases k with
    | zero =>
      rw [Nat.zero_mul, Nat.zero_add, List.getElem?_append_left (by simpa using hi)]
      rfl
    | succ k =>
      rw [List.getElem?_append_right (by simp; omega)]
      have e2 : (k + 1) * 3 + i - [Value.string (bs x.e.kind), x.vn, x.vt].length = k * 3 + i := by simp; omega
      rw [e2]
      exact ih k (by simpa using h) i hi
/-- What Parse hands back is such a slice. -/
theorem isEnts_of {w : World} {B B' : Nat} {v : Value} {L : List EV} (h : w.ownsRow B 25 3 v L.length (cellsE L)) (hg : ∀ x ∈ L, Good B' w x) : IsEnts w v L := by
  rcases h.2 with ⟨rfl, h0⟩ | ⟨g, cap, cur, rfl, _⟩
  · exact ⟨none, 0, by rw [h0], fun i hi => by omega⟩
  · refine ⟨some ⟨g, 0, none⟩, cap, rfl, fun i hi => ⟨g, 0, rfl, ?_, ?_, ?_, isIs_of (hg _ (List.getElem_mem hi)).1, isTexts_of (hg _ (List.getElem_mem hi)).2⟩⟩
    · rw [Nat.zero_add, h.cellAt _ (by omega)]
      have := cellsE_at L i hi 0 (by omega)
      simpa using this
    · rw [Nat.zero_add, h.cellAt _ (by omega)]
      have := cellsE_at L i hi 1 (by omega)
      simpa using this
    · rw [Nat.zero_add, h.cellAt _ (by omega)]
      have := cellsE_at L i hi 2 (by omega)
      simpa using this
end Go.Proofs.YtifbjngkdifenaaDoor
