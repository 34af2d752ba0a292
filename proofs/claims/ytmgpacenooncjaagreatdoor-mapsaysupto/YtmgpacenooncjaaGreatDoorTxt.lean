/- Slices of texts in memory; contracts of SameTexts, strings.Split and expr.Words. -/
import Derived.Test.YtmgpacenooncjaaGreatDoorRows
import Derived.Test.YtmgpacenooncjaaGreatDoorWrd
import Derived.Test.YtmgpacenooncjaaGreatDoorShelfE
import Derived.WalkKit
import Derived.ProofKit
import Derived.WalkLawsBesides
import Derived.Lib.Hide
import Derived.Deep.QuietTactic
import Derived.BigQuiet
import Derived.Deep.AppendLies
import Derived.Below
import Derived.Laws.NewBlocks
import Derived.Shelf.Strings.PiecesUse
namespace Go.Proofs.YtmgpacenooncjaaGreatDoor
open Go.ChangeShapes Go.WideShapes Go.ChangeAt Go.RowKit

/-- A slice value of texts, and what it holds in a world. -/
def IsTexts (w : World) (v : Value) (l : List ByteArray) : Prop :=
  ∃ a cap, v = .slice a l.length cap ∧ ∀ i (h : i < l.length), ∃ b off, a = some ⟨b, off, none⟩ ∧ w.cell? ⟨b, off + i, none⟩ = some (.string l[i])
/-- What the library's own variable holds: some number. -/
structure Env0 (w : World) : Prop where
  len : ∃ m, w.cell? ⟨0, 0, none⟩ = some (.int .i64 m)
theorem cell_below {w w' : World} {a : Addr} {v : Value} (h : w.cell? a = some v) (hb : Below w.heap.size w w') : w'.cell? a = some v := by
  rw [hb.cell (World.block_lt_of_cell? w a h)]; exact h
theorem Env0.below {w w' : World} (h : Env0 w) (hb : Below w.heap.size w w') : Env0 w' := by
  obtain ⟨m, hm⟩ := h.len
  exact ⟨⟨m, cell_below hm hb⟩⟩
theorem IsTexts.below {w w' : World} {v : Value} {l : List ByteArray} (h : IsTexts w v l) (hb : Below w.heap.size w w') : IsTexts w' v l := by
  obtain ⟨a, cap, rfl, hc⟩ := h
  refine ⟨a, cap, rfl, fun i hi => ?_⟩
  obtain ⟨b, off, rfl, c0⟩ := hc i hi
  exact ⟨b, off, rfl, cell_below c0 hb⟩
theorem below_trans {w w1 w2 : World} (h1 : Below w.heap.size w w1) (h2 : Below w1.heap.size w1 w2) : Below w.heap.size w w2 := h1.trans (h2.mono h1.size)
theorem below_drewN (w : World) (n : Nat) : Below w.heap.size w (w.drewN n) := ⟨rfl, rfl, rfl, Nat.le_refl _, fun _ _ => rfl⟩
theorem isTexts_nil (w : World) (a : Option Addr) (cap : Nat) : IsTexts w (.slice a 0 cap) [] := ⟨a, cap, rfl, fun i hi => absurd hi (by simp)⟩

set_option maxRecDepth 100000 in
set_option maxHeartbeats 400000 in
theorem sameTexts_any (v u : Value) (l m : List ByteArray) (w : World) (h : IsTexts w v l) (h' : IsTexts w u m) (hl : l.length ≤ maxLen) :
    Calls Tryz.prog 12 #[v, u] w fun e w' => e = .returned (.bool (decide (l = m))) ∧ ∃ n, w' = w.drewN n := by
  unfold maxLen at hl
  obtain ⟨a, cap, rfl, hc⟩ := h
  obtain ⟨a', cap', rfl, hc'⟩ := h'
  by_cases hm : l.length = m.length
  · rw [← hm]
    have HM := Lib.hid hm
    clear hm
    go_enter Tryz.func12, Tryz.ntmps12
    go_wp2
    go_loopw [5] (fun i wr => ∃ k : Nat, k ≤ l.length ∧ i = .int .i64 k ∧ l.take k = m.take k ∧ ∃ n, wr = w.drewN n) (fun i _ => l.length - (intOf i).toNat)
    case atStart => exact ⟨0, Nat.zero_le _, rfl, rfl, 0, rfl⟩
    case round =>
      obtain ⟨k, hk, rfl, hp, n, rfl⟩ := hrel
      by_cases hlt : k < l.length
      · obtain ⟨b, off, rfl, c0⟩ := hc k hlt
        have hltm : k < m.length := by have := HM.out; omega
        obtain ⟨b', off', rfl, c0'⟩ := hc' k hltm
        clear hc hc'
        cases he : l[k].toList == m[k].toList with
        | true =>
          go_wp2
          go_quiet (fail)
          go_wp2
          go_roundw
          case rel => exact ⟨k + 1, by omega, by go_num, by rw [List.take_succ_eq_append_getElem hlt, List.take_succ_eq_append_getElem hltm, hp, toList_inj (beq_iff_eq.1 he)], n + nq, by simp⟩
          case measure => simp [intOf]; omega
        | false =>
          go_wp2
          go_quiet (fail)
          go_wp2
          go_ret
          exact ⟨ret_bool (by rw [decide_eq_false]; intro hlm; subst hlm; simp at he), n + nq, by simp⟩
      · clear hc hc'
        go_wp2
        go_ret
        rw [List.take_of_length_le (by omega), List.take_of_length_le (by have := HM.out; omega)] at hp
        exact ⟨ret_bool (by simp [hp]), n, rfl⟩
  · have hm' : ((l.length : Int) == (m.length : Int)) = false := by simp; omega
    go_enter Tryz.func12, Tryz.ntmps12
    go_wp2
    go_ret
    exact ⟨ret_bool (by rw [decide_eq_false]; intro hlm; subst hlm; exact hm rfl), 0, rfl⟩

/-- strings.Split at one sign. -/
theorem pieces_eq (c : UInt8) (l : List UInt8) : Lib.splitB ⟨#[c]⟩ 0 (Lib.countB (bs l) ⟨#[c]⟩) (bs l) = (spl c l).map bs := by
  have h := Lib.splitB_data ⟨#[c]⟩ 0 (Lib.countB (bs l) ⟨#[c]⟩) (bs l)
  rw [bs_data] at h
  have h2 : Lib.countB (bs l) ⟨#[c]⟩ = Lib.count l [c] := by show Lib.count (bs l).data.toList [c] = _; rw [bs_data]
  have h3 : Lib.splitK (⟨#[c]⟩ : ByteArray).data.toList 0 (Lib.countB (bs l) ⟨#[c]⟩) l = spl c l := by rw [h2]; exact split_spl c l
  rw [h3] at h
  rw [← h, List.map_map]
  conv => lhs; rw [← List.map_id (Lib.splitB ⟨#[c]⟩ 0 (Lib.countB (bs l) ⟨#[c]⟩) (bs l))]
  apply List.map_congr_left
  intro x _
  exact (bs_of x).symm
theorem split_any (c : UInt8) (l : List UInt8) (w : World) (E : Env0 w) (hl : l.length < 4294967281) :
    Calls Tryz.prog 36 #[.string (bs l), .string ⟨#[c]⟩] w fun e w' => ∃ b, e = .returned (.slice (some ⟨b, 0, none⟩) (spl c l).length (spl c l).length) ∧ (∀ i x, (spl c l)[i]? = some x → w'.cell? ⟨b, i, none⟩ = some (.string (bs x))) ∧ Below w.heap.size w w' := by
  obtain ⟨m, hm⟩ := E.len
  refine (Any.strings_Split Tryz.lays146 (by kernel_rfl) (bs l) ⟨#[c]⟩ m w (by rw [bs_size]; exact hl) hm (Nat.le_refl 1)).mono ?_
  rintro e w' ⟨rfl, rfl⟩
  have hlen := Lib.splitB_all ⟨#[c]⟩ (Nat.le_refl 1) 0 _ (bs l) rfl
  rw [pieces_eq, List.length_map] at hlen
  rw [← hlen, pieces_eq]
  refine ⟨_, rfl, fun i x hx => ?_, (Below.refl _ _).alloc (Nat.le_refl _) _⟩
  have hi : i < (spl c l).length := by rw [List.getElem?_eq_some_iff] at hx; exact hx.1
  have h0 := Lib.pieces_cell w ((spl c l).map bs) 9 i (bs x) (by simp [hx])
  rw [Nat.zero_add] at h0
  exact h0

theorem owns_below {w w' : World} {base : Nat} {e : TypeId} {size : Nat} {v : Value} {n : Nat} {xs : List Value} (h : w.ownsRow base e size v n xs) (hb : Below w.heap.size w w') : w'.ownsRow base e size v n xs := by
  refine h.kept (row := none) ⟨hb.os, hb.tape, hb.output, hb.size, fun k hk _ => hb.block k hk⟩ ?_
  cases v.ownBlock with
  | none => exact .inl rfl
  | some k => exact .inr (by simp)
theorem lit_cells {w : World} {cs : Array Value} {e : TypeId} {g : Nat} (hg : g = w.heap.size) (hm : cs.size ≤ maxLen) : ∀ j u, cs.toList[j]? = some u → (w.alloc (.cells cs e)).cell? ((⟨g, 0, none⟩ : Addr).add j) = some u := by
  subst hg
  exact (World.ownsRow_lit (base := 0) (size := 1) (e := e) w cs cs.size (Nat.zero_le _) hm (by omega)).cells rfl
/-- The cells that texts fill. -/
def strs (l : List (List UInt8)) : List Value := l.map fun x => .string (bs x)
theorem strs_length (l : List (List UInt8)) : (strs l).length = l.length := by simp [strs]
theorem strs_append (a b : List (List UInt8)) : strs (a ++ b) = strs a ++ strs b := by simp [strs]
theorem strs_one (l : List (List UInt8)) : ∀ u ∈ strs l, u.oneCell' = true := by
  intro u hu
  simp only [strs, List.mem_map] at hu
  obtain ⟨x, _, rfl⟩ := hu
  rfl
theorem isTexts_of {w : World} {base : Nat} {v : Value} {l : List (List UInt8)} (h : w.ownsRow base 9 1 v l.length (strs l)) : IsTexts w v (l.map bs) := by
  rcases h.2 with ⟨rfl, h0⟩ | ⟨g, cap, cur, rfl, _⟩
  · exact ⟨none, 0, by rw [List.length_map, h0], fun i hi => by rw [List.length_map] at hi; omega⟩
  · refine ⟨some ⟨g, 0, none⟩, cap, by rw [List.length_map], fun i hi => ⟨g, 0, rfl, ?_⟩⟩
    rw [List.length_map] at hi
    rw [Nat.zero_add, h.cellAt i (by omega)]
    simp [strs, hi]
theorem owns_fresh {w : World} {base : Nat} {e : TypeId} {size : Nat} {v : Value} {n : Nat} {xs : List Value} (h : w.ownsRow base e size v n xs) : ∀ (x : Addr) (m c : Nat), v = .slice (some x) m c → base ≤ x.block := by
  intro x m c hv
  rcases h.2 with ⟨h1, _⟩ | ⟨g, cap, cur, h1, h2, _⟩
  · rw [h1] at hv; cases hv
  · rw [h1] at hv; cases hv; exact h2
theorem infoStr : (Tryz.prog.info? 9).map (fun i => (i.zero, i.size, i.bytes)) = some (some (.string ⟨#[]⟩), 1, 16) := by kernel_rfl
theorem info_parts {P : Program} {t : TypeId} {z : Value} {s b : Nat} (h : (P.info? t).map (fun i => (i.zero, i.size, i.bytes)) = some (some z, s, b)) : ∃ i, P.info? t = some i ∧ i.zero = some z ∧ i.size = s ∧ i.bytes = b := by
  cases hi : P.info? t with
  | none => rw [hi] at h; cases h
  | some i => rw [hi] at h; simp at h; exact ⟨i, rfl, h.1, h.2.1, h.2.2⟩
def WordsSaid (l : List UInt8) (w : World) (e : Ending) (w' : World) : Prop :=
  ∃ a cap, e = .returned (.slice a (wordsL l).length cap) ∧ Hid (IsTexts w' (.slice a (wordsL l).length cap) ((wordsL l).map bs)) ∧ Below w.heap.size w w' ∧ Hid (∀ x : Addr, a = some x → w.heap.size ≤ x.block)
theorem filt_step {ps : List (List UInt8)} {k : Nat} {x : List UInt8} (hx : ps[k]? = some x) : (ps.take (k + 1)).filter (fun x => !x.isEmpty) = (ps.take k).filter (fun x => !x.isEmpty) ++ (if x.isEmpty then [] else [x]) := by
  obtain ⟨hk, rfl⟩ := List.getElem?_eq_some_iff.1 hx
  rw [List.take_succ_eq_append_getElem hk, List.filter_append]
  congr 1
  cases h : ps[k].isEmpty <;> simp [h]
theorem filt_len (ps : List (List UInt8)) (k : Nat) : ((ps.take k).filter (fun x => !x.isEmpty)).length ≤ ps.length := Nat.le_trans (List.length_filter_le _ _) (by rw [List.length_take]; omega)
theorem spl_len (c : UInt8) (l : List UInt8) : (spl c l).length ≤ l.length + 1 := by
  induction l with
  | nil => simp [spl]
  | cons b r ih =>
    have hne := spl_ne c r
    unfold spl
    split
    · simp; omega
    · cases hs : spl c r with
      | nil => exact absurd hs hne
      | cons x t => rw [hs] at ih; simp at ih ⊢; omega
set_option maxRecDepth 100000 in
set_option maxHeartbeats 1000000 in
theorem words_any (l : List UInt8) (w : World) (E : Env0 w) (hl : l.length ≤ 1000000) :
    Calls Tryz.prog 75 #[.string (bs l)] w fun e w' => WordsSaid l w e w' := by
  obtain ⟨i0, hi, hz0, hz1, hz2⟩ := info_parts infoStr
  have S := Lib.hid (split_any 32 l w E (by omega))
  have hfin : Hid (wordsL l = (spl 32 l).filter (fun x => !x.isEmpty)) := words_spl l
  have hpl := spl_len 32 l
  generalize hps : spl 32 l = ps at S hfin hpl
  clear hps
  obtain ⟨n, hn⟩ : ∃ n, n = ps.length := ⟨_, rfl⟩
  rw [← hn] at S hpl
  have HN := Lib.hid hn
  clear hn
  go_enter Tryz.func75, Tryz.ntmps75
  go_wp2_with (go_at_call 36; refine S.out.mono ?_; rintro e w1 ⟨b, rfl, hc, hb1⟩)
  go_loopw [3, 9] (fun lv kv wr => ∃ k : Nat, k ≤ n ∧ kv = .int .i64 k ∧ wr.ownsRow w1.heap.size 9 1 lv ((ps.take k).filter (fun x => !x.isEmpty)).length (strs ((ps.take k).filter (fun x => !x.isEmpty))) ∧ Below w1.heap.size w1 wr) (fun _ kv _ => n - (intOf kv).toNat)
  case atStart => exact ⟨0, Nat.zero_le _, rfl, World.ownsRow_nil _ _ _ _, Below.refl _ _⟩
  case round =>
    obtain ⟨k, hk, rfl, hown, hb⟩ := hrel
    by_cases hlt : k < n
    · obtain ⟨x, hx⟩ : ∃ x, ps[k]? = some x := ⟨ps[k]'(by have := HN.out; omega), by simp⟩
      have c0 := cell_below (hc k x hx) hb
      have hfl := filt_len ps k
      have hst := Lib.hid (filt_step hx)
      have HX := Lib.hid hx
      clear hx
      rw [← HN.out] at hfl
      cases he : x.isEmpty with
      | true =>
        have hT : (bs x).toList.isEmpty = true := by rw [bs_toList]; exact he
        have hst2 : Hid ((ps.take (k + 1)).filter (fun x => !x.isEmpty) = (ps.take k).filter (fun x => !x.isEmpty)) := by
          show _ = _
          rw [hst.out, he]; simp
        go_wp2
        go_roundw
        case rel => exact ⟨k + 1, by omega, by go_num, by rw [hst2.out]; exact hown, hb⟩
        case measure => simp [intOf]; omega
      | false =>
        have hT : (bs x).toList.isEmpty = false := by rw [bs_toList]; exact he
        have hst2 : Hid ((ps.take (k + 1)).filter (fun x => !x.isEmpty) = (ps.take k).filter (fun x => !x.isEmpty) ++ [x]) := by
          show _ = _
          rw [hst.out, he]; simp
        clear hst he
        generalize (ps.take k).filter (fun x => !x.isEmpty) = acc at *
        go_wp2_with (at_builtin; refine Hid.out ?_)
        refine Lib.hid ?_
        have hbs := hb.size
        refine wpList_append_own _ rfl (.tmp 15) (.tmp 17) 25 rfl w1.heap.size 9 i0 (.string ⟨#[]⟩) 1 16 Tryz.underlying25 hi hz0 hz1 hz2 rfl (by decide) _ _ _ rfl (hown.alloc _) ⟨wr.heap.size, 0, none⟩ 1 1 (strs [x]) rfl rfl ?c1 (strs_one _) ?c2 ?c3 ?c4 ?_
        case c1 => exact lit_cells rfl (show 1 ≤ maxLen by decide)
        case c2 => unfold maxLen; omega
        case c3 => omega
        case c4 => simp; omega
        intro v2 w2 hown2 hg2 _
        have hb2 : Below w1.heap.size w1 w2 := (hb.alloc (by omega) _).grown hg2 (by simp; omega) (fun k hk => (hown.lt k hk).1)
        have hown3 : Hid (w2.ownsRow w1.heap.size 9 1 v2 (acc ++ [x]).length (strs (acc ++ [x]))) := by
          show World.ownsRow _ _ _ _ _ _ _
          rw [strs_append, List.length_append]
          exact hown2
        clear hown hown2 hg2
        go_wp2
        go_roundw
        case rel => exact ⟨k + 1, by omega, by go_num, by rw [hst2.out]; exact hown3.out, hb2⟩
        case measure => simp [intOf]; omega
    · have hall : Hid (ps.take k = ps) := List.take_of_length_le (by have := HN.out; omega)
      have h1 := isTexts_of hown
      rw [hall.out, ← hfin.out] at h1
      have hfv := Lib.hid h1
      have hfr := Lib.hid (owns_fresh hown)
      clear h1
      clear hown hc
      obtain ⟨a, cap, hv, _⟩ := id hfv.out
      rw [List.length_map] at hv
      subst hv
      go_wp2
      go_ret
      exact ⟨a, cap, rfl, hfv, below_trans hb1 hb, fun x hx => Nat.le_trans hb1.size (hfr.out x _ _ (by rw [hx]))⟩
end Go.Proofs.YtmgpacenooncjaaGreatDoor
