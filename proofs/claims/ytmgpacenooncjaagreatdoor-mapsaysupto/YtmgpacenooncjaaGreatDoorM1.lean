/- Mapper: looks of a rule at a record, in memory; what holds; the pair of a look. -/
import Derived.Test.YtmgpacenooncjaaGreatDoorM0
import Derived.Test.YtmgpacenooncjaaGreatDoorOw
import Derived.Deep.RegionWith
namespace Go.Proofs.YtmgpacenooncjaaGreatDoor
open Go.ChangeShapes Go.WideShapes Go.ChangeAt Go.RowKit
/-- A list of records, all with one list of words. -/
def IsRecs (w : World) (v wv : Value) (l : List Rc) : Prop :=
  ∃ a cap, v = .slice a l.length cap ∧ ∀ i x, l[i]? = some x → ∃ b off, a = some ⟨b, off, none⟩ ∧ w.cell? ⟨b, off + i * 3, none⟩ = some (.string (bs x.line)) ∧ w.cell? ⟨b, off + i * 3 + 1, none⟩ = some (.string (bs x.it)) ∧ w.cell? ⟨b, off + i * 3 + 2, none⟩ = some wv
theorem IsRecs.lower {w w' : World} {v wv : Value} {l : List Rc} (h : IsRecs w v wv l) (hb : Below w.heap.size w w') : IsRecs w' v wv l := by
  obtain ⟨a, cap, e, hc⟩ := h
  refine ⟨a, cap, e, fun i x hx => ?_⟩
  obtain ⟨b, off, ea, c0, c1, c2⟩ := hc i x hx
  exact ⟨b, off, ea, cell_below c0 hb, cell_below c1 hb, cell_below c2 hb⟩
/-- The cells that records fill. -/
def cellsR (wv : Value) (l : List Rc) : List Value := l.flatMap fun x => [.string (bs x.line), .string (bs x.it), wv]
theorem cellsR_append (wv : Value) (a b : List Rc) : cellsR wv (a ++ b) = cellsR wv a ++ cellsR wv b := by simp [cellsR]
theorem cellsR_length (wv : Value) (l : List Rc) : (cellsR wv l).length = l.length * 3 := by
  induction l with
  | nil => rfl
  | cons x l ih =>
    have : cellsR wv (x :: l) = [.string (bs x.line), .string (bs x.it), wv] ++ cellsR wv l := by simp [cellsR]
    rw [this, List.length_append, ih, List.length_cons]
    simp; omega
theorem cellsR_at (wv : Value) : ∀ (l : List Rc) (i : Nat) (x : Rc), l[i]? = some x → (cellsR wv l)[i * 3]? = some (.string (bs x.line)) ∧ (cellsR wv l)[i * 3 + 1]? = some (.string (bs x.it)) ∧ (cellsR wv l)[i * 3 + 2]? = some wv
  | [], i, x, h => by simp at h
  | y :: l, 0, x, h => by
    simp at h
    subst h
    exact ⟨rfl, rfl, rfl⟩
  | y :: l, i + 1, x, h => by
    have e : cellsR wv (y :: l) = .string (bs y.line) :: .string (bs y.it) :: wv :: cellsR wv l := by simp [cellsR]
    obtain ⟨h0, h1, h2⟩ := cellsR_at wv l i x (by simpa using h)
    rw [e, show (i + 1) * 3 = i * 3 + 1 + 1 + 1 by omega]
    exact ⟨by simpa using h0, by simpa using h1, by simpa using h2⟩
theorem isRecs_of {w : World} {base n : Nat} {v wv : Value} {l : List Rc} (hn : n = l.length) (h : w.ownsRow base 86 3 v n (cellsR wv l)) : IsRecs w v wv l := by
  subst hn
  rcases h.2 with ⟨rfl, h0⟩ | ⟨g, cap, cur, rfl, _⟩
  · exact ⟨none, 0, by rw [h0], fun i x hx => by have := List.eq_nil_of_length_eq_zero h0; subst this; simp at hx⟩
  · refine ⟨some ⟨g, 0, none⟩, cap, rfl, fun i x hx => ⟨g, 0, rfl, ?_⟩⟩
    have hi := (List.getElem?_eq_some_iff.1 hx).1
    obtain ⟨h0, h1, h2⟩ := cellsR_at wv l i x hx
    rw [Nat.zero_add, h.cellAt _ (by omega), h.cellAt _ (by omega), h.cellAt _ (by omega)]
    exact ⟨h0, h1, h2⟩
theorem infoRec : (Tryz.prog.info? 86).map (fun i => (i.zero, i.size, i.bytes)) = some (some (.agg #[.string ⟨#[]⟩, .string ⟨#[]⟩, .slice none 0 0]), 3, 56) := by kernel_rfl
theorem row_stay {w : World} {base g i n size : Nat} {e : TypeId} {v u : Value} {xs : List Value} (h : w.ownsRow base e size v n xs) (hg : g < base) : (w.setCell ⟨g, i, none⟩ u).ownsRow base e size v n xs := by
  refine h.kept (row := some g) ((Only.refl g w).setCell i u) ?_
  cases hv : v.ownBlock with
  | none => exact .inl rfl
  | some k =>
    have := (h.lt k hv).1
    exact .inr (by simp; omega)
theorem blk_new {w : World} {cs : Array Value} {t : TypeId} {g : Nat} (hg : g = w.heap.size) : Blk (w.alloc (.cells cs t)) g t cs.toList := by
  subst hg
  exact Blk.new w cs t
/-- What looks has made, so many words on. -/
structure Lk (w wr : World) (R : Rc) (wv lv : Value) (k : Nat) : Prop where
  blk : ∃ x : ByteArray, Blk wr (w.heap.size + 1) 86 [.string (bs R.line), .string x, wv]
  row : wr.ownsRow (w.heap.size + 1 + 1) 86 3 lv k (cellsR wv ((looksL true R).take k))
  bel : Below w.heap.size w wr
set_option maxRecDepth 100000 in
set_option maxHeartbeats 1000000 in
theorem looks_any (r : Rl) (ai ak av : Option Addr) (ci ck cv : Nat) (R : Rc) (ra : Option Addr) (rc : Nat) (w : World) (hR : IsTexts w (.slice ra R.words.length rc) (R.words.map bs)) (hl : R.words.length ≤ 1000000) :
    Calls Tryz.prog 47 #[r.value (.slice ai r.iff.a.length ci) (.slice ak r.key.a.length ck) (.slice av r.val.a.length cv), recV R ra rc] w fun e w' => ∃ u, e = .returned u ∧ w'.ownsRow w.heap.size 86 3 u (looksL r.each R).length (cellsR (.slice ra R.words.length rc) (looksL r.each R)) ∧ Below w.heap.size w w' := by
  obtain ⟨i0, hi0, hz0, hz1, hz2⟩ := info_parts infoRec
  have HR := Lib.hid hR
  clear hR
  unfold Rl.value recV
  cases he : r.each with
  | false =>
    go_enter Tryz.func47, Tryz.ntmps47
    go_wp2
    go_ret
    refine ⟨_, rfl, ?_, below_trans (below_trans (below_box _) (below_box _)) (below_box _)⟩
    have h := World.ownsRow_lit (base := w.heap.size) (size := 3) (e := 86) ((w.alloc (.cells #[.bool false, .int .i64 r.when, .int .i64 r.iff.k, .int .i64 r.iff.n, .string (bs r.iff.s), .slice ai r.iff.a.length ci, .string (bs r.s), .int .i64 r.key.k, .int .i64 r.key.n, .string (bs r.key.s), .slice ak r.key.a.length ck, .int .i64 r.val.k, .int .i64 r.val.n, .string (bs r.val.s), .slice av r.val.a.length cv] 58)).alloc (.cells #[.string (bs R.line), .string (bs R.it), .slice ra R.words.length rc] 86)) #[.string (bs R.line), .string (bs R.it), .slice ra R.words.length rc] 1 (by simp; omega) (by decide) rfl
    simpa [looksL, cellsR] using h
  | true =>
    obtain ⟨n, hn⟩ : ∃ n, n = R.words.length := ⟨_, rfl⟩
    rw [← hn] at HR hl ⊢
    have HN := Lib.hid hn
    have hlk : Hid (looksL true R = R.words.map fun x => ⟨R.line, x, R.words⟩) := if_pos rfl
    clear hn
    go_enter Tryz.func47, Tryz.ntmps47
    go_wp2
    go_loopw [5, 16] (fun lv kv wr => ∃ k : Nat, k ≤ n ∧ kv = .int .i64 k ∧ Hid (Lk w wr R (.slice ra n rc) lv k)) (fun _ kv _ => n - (intOf kv).toNat)
    case atStart =>
      refine ⟨0, Nat.zero_le _, rfl, ⟨bs R.it, ?_⟩, World.ownsRow_nil _ _ _ _, below_trans (below_box _) (below_box _)⟩
      exact blk_new (cs := #[.string (bs R.line), .string (bs R.it), .slice ra n rc]) (by simp)
    case round =>
      obtain ⟨k, hk, rfl, HK⟩ := hrel
      by_cases hlt : k < n
      · obtain ⟨x, hx⟩ : ∃ x, R.words[k]? = some x := ⟨R.words[k]'(by have := HN.out; omega), by simp⟩
        obtain ⟨b, off, rfl, c0⟩ := texts_get (by have := HR.out; rw [HN.out] at this; exact this) k x hx
        replace c0 := cell_below c0 HK.out.bel
        have HS : Hid ((looksL true R).take (k + 1) = (looksL true R).take k ++ [⟨R.line, x, R.words⟩]) := by
          show _ = _
          refine take_snoc ?_
          rw [hlk.out, List.getElem?_map, hx]
          rfl
        obtain ⟨y, hB⟩ := HK.out.blk
        have q0 := hB.at (i := 0) (v := .string (bs R.line)) rfl
        have q1 := hB.at (i := 1) (v := .string y) rfl
        have q2 := hB.at (i := 2) (v := .slice (some ⟨b, off, none⟩) n rc) rfl
        have f1 := hB.frozen 1
        have hB2 := hB.set 1 (.string (bs x))
        have p0 := hB2.at (i := 0) (v := .string (bs R.line)) rfl
        have p1 := hB2.at (i := 1) (v := .string (bs x)) rfl
        have p2 := hB2.at (i := 2) (v := .slice (some ⟨b, off, none⟩) n rc) rfl
        have HB2 := Lib.hid hB2
        have hsz := HK.out.bel.size
        clear hx hB hB2
        go_wp2_with (at_builtin; refine Hid.out ?_)
        refine Lib.hid ?_
        refine wpList_append_own _ rfl (.tmp 22) (.tmp 24) 88 rfl (w.heap.size + 1 + 1) 86 i0 (.agg #[.string ⟨#[]⟩, .string ⟨#[]⟩, .slice none 0 0]) 3 56 Tryz.underlying88 hi0 hz0 hz1 hz2 rfl (by decide) _ k (cellsR (.slice (some ⟨b, off, none⟩) n rc) ((looksL true R).take k)) rfl ((row_stay HK.out.row (by omega)).alloc _) ⟨wr.heap.size, 0, none⟩ 1 1 (cellsR (.slice (some ⟨b, off, none⟩) n rc) [⟨R.line, x, R.words⟩]) rfl rfl ?c1 ?c5 ?c2 ?c3 ?c4 ?_
        case c1 => exact lit_cells (by simp) (show 3 ≤ maxLen by decide)
        case c5 => intro u hu; simp [cellsR] at hu; rcases hu with rfl | rfl | rfl <;> rfl
        case c2 => unfold maxLen; omega
        case c3 => omega
        case c4 => have := HB2.out.lt; simp at this ⊢; omega
        intro v2 w2 hown2 hg2 _
        have hnb : ∀ q, u5.ownBlock = some q → w.heap.size + 1 + 1 ≤ q := fun q hq => (HK.out.row.lt q hq).1
        have HK2 : Hid (Lk w w2 R (.slice (some ⟨b, off, none⟩) n rc) v2 (k + 1)) := by
          refine ⟨⟨bs x, ?_⟩, ?_, ?_⟩
          · have r1 := HB2.out.blw (below_box (.cells #[.string (bs R.line), .string (bs x), .slice (some ⟨b, off, none⟩) n rc] 86))
            exact (hg2.block _ r1.lt (fun e => by have := hnb _ e.symm; omega)).trans r1
          · rw [HS.out, cellsR_append]
            exact hown2
          · exact ((HK.out.bel.setCell (p := ⟨w.heap.size + 1, 1, none⟩) (by simp) _).alloc (by simp; omega) _).grown hg2 (by simp; omega) (fun q hq => by have := hnb q hq; omega)
        clear hown2 hg2 q0 q1 q2 f1 p0 p1 p2 HB2 HK HS c0
        go_wp2
        go_roundw
        case rel => exact ⟨k + 1, by omega, by go_num, HK2⟩
        case measure => simp [intOf]; omega
      · have hall : Hid ((looksL true R).take k = looksL true R) := by
          show _ = _
          rw [hlk.out]
          exact List.take_of_length_le (by rw [List.length_map]; have := HN.out; omega)
        have hlen : (looksL true R).length = k := by rw [hlk.out, List.length_map]; have := HN.out; omega
        have h1 := HK.out.row
        rw [hall.out] at h1
        have HF := Lib.hid h1
        have HL := Lib.hid hlen
        have HB := Lib.hid HK.out.bel
        clear h1 HK
        obtain ⟨a, cap, hv, _⟩ := id (isRecs_of hlen.symm HF.out)
        rw [hlen] at hv
        subst hv
        clear hlen
        go_wp2
        go_ret
        exact ⟨_, rfl, by rw [HL.out]; exact ow_low HF.out (by omega), HB.out⟩
end Go.Proofs.YtmgpacenooncjaaGreatDoor
