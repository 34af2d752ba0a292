/- Journals: the document's entries of a text. -/
import Derived.Test.YtifbjngkdifenaaDoorK3
import Derived.Test.YtifbjngkdifenaaDoorJ8
namespace Go.Proofs.YtifbjngkdifenaaDoor
open Go.ChangeShapes Go.WideShapes Go.ChangeAt Go.RowKit
open Num
theorem infoREnt : (Tryd.prog.info? 30).map (fun i => (i.zero, i.size, i.bytes)) = some (some (.agg #[.string ⟨#[]⟩, .slice none 0 0, .slice none 0 0]), 3, 64) := by kernel_rfl
theorem Good.grownR {B B' n' size' : Nat} {w w' : World} {x : EV} {u : Value} {xs' : List Value} (h : Good B w x) (hu : w.ownsRow B' 30 size' u n' xs') (hg : w.grownBy w' u.ownBlock) : Good B w' x := ⟨owns_grown h.1 hu (by decide) hg, owns_grown h.2 hu (by decide) hg⟩
/-- What Entries has so far. -/
structure EntI (s : List UInt8) (w : World) (lv : Value) (L : List EV) (t : List UInt8) (wr : World) : Prop where
  row : wr.ownsRow w.heap.size 30 3 lv L.length (cellsE L)
  good : ∀ x ∈ L, Good w.heap.size wr x
  bel : Below w.heap.size w wr
  par : parL s = L.map EV.e ++ parL t
  few : L.length + t.length ≤ s.length
set_option maxRecDepth 100000 in
set_option maxHeartbeats 2000000 in
theorem entries_any (s : List UInt8) (w : World) (hs : s.length ≤ 10000000) :
    Calls Tryd.prog 13 #[.string (bs s)] w fun e w' => ∃ v L, e = .returned v ∧ L.map EV.e = parL s ∧ w'.ownsRow w.heap.size 30 3 v L.length (cellsE L) ∧ (∀ x ∈ L, Good w.heap.size w' x) ∧ Below w.heap.size w w' := by
  obtain ⟨i0, hi0, hz0, hz1, hz2⟩ := info_parts infoREnt
  go_enter Tryd.func13, Tryd.ntmps13
  go_wp2
  go_loopg [0, 3] s.length (fun gg sv lv wr => ∃ (L : List EV) (t : List UInt8), gg = t.length ∧ sv = .string (bs t) ∧ Hid (EntI s w lv L t wr))
  case atStart => exact ⟨[], s, rfl, rfl, ⟨World.ownsRow_nil _ _ _ _, fun x hx => (by cases hx), Below.refl _ _, rfl, by rw [List.length_nil]; omega⟩⟩
  case round =>
    obtain ⟨L, t, hgk, rfl, HI⟩ := hrel
    have HG := Lib.hid hgk
    clear hgk
    have hfew := HI.out.few
    have FA := Lib.hid (first_any t wr (by omega))
    go_wp2_with (go_at_call 10; refine Hid.out ?_)
    refine Lib.hid ?_
    refine FA.out.mono ?_
    clear FA
    rintro _ w1 ⟨⟨hno, rfl⟩ | ⟨en, r, vn, vt, n, hone, hnt, hdr, rfl, h1, h2⟩, hb1⟩
    · have hfin : L.map EV.e = parL s := by rw [HI.out.par, parL_none hno, List.append_nil]
      have HF := Lib.hid hfin
      clear hfin hno
      go_wp2
      go_ret
      exact ⟨_, L, rfl, HF.out, owns_below (owns_below HI.out.row hb1) ((Below.refl _ _).alloc (Nat.le_refl _) _), fun x hx => ((HI.out.good x hx).below hb1).below ((Below.refl _ _).alloc (Nat.le_refl _) _), below_trans (below_trans HI.out.bel hb1) ((Below.refl _ _).alloc (Nat.le_refl _) _)⟩
    · obtain ⟨an, cn, en1, _⟩ := isIs_of h1
      subst en1
      obtain ⟨at', ct, et1, _⟩ := isTexts_of h2
      rw [List.length_map] at et1
      subst et1
      obtain ⟨w2, hw2⟩ : ∃ w2, w2 = w1.alloc (.cells #[.string (bs en.kind), .slice an en.n.length cn, .slice at' en.texts.length ct] 30) := ⟨_, rfl⟩
      have hb2 : Below w1.heap.size w1 w2 := by rw [hw2]; exact (Below.refl _ _).alloc (Nat.le_refl _) _
      have K2 : Blk w2 w1.heap.size 30 [.string (bs en.kind), .slice an en.n.length cn, .slice at' en.texts.length ct] := by rw [hw2]; exact Blk.new w1 _ _
      obtain ⟨P, hP⟩ : ∃ P, P = w1.heap.size := ⟨_, rfl⟩
      rw [← hP] at K2
      have c0 := K2.at (i := 0) (v := .string (bs en.kind)) rfl
      have c1 := K2.at (i := 1) (v := .slice an en.n.length cn) rfl
      have c2 := K2.at (i := 2) (v := .slice at' en.texts.length ct) rfl
      have hlr := oneL_len hone
      have hpar : parL s = (L ++ [(⟨en, .slice an en.n.length cn, .slice at' en.texts.length ct⟩ : EV)]).map EV.e ++ parL r := by
        rw [HI.out.par, parL_some hone, List.map_append, List.append_assoc]
        rfl
      have HPAR := Lib.hid hpar
      have hb12 := below_trans hb1 hb2
      have HB2 := Lib.hid (below_trans HI.out.bel hb12)
      have row2 := Lib.hid (owns_below HI.out.row hb12)
      have GD2 : Hid (∀ x ∈ L ++ [(⟨en, .slice an en.n.length cn, .slice at' en.texts.length ct⟩ : EV)], Good w.heap.size w2 x) := fun x hx => by
        rcases List.mem_append.1 hx with h | h
        · exact (HI.out.good x h).below hb12
        · rw [List.mem_singleton] at h
          subst h
          exact Good.below (x := ⟨en, .slice an en.n.length cn, .slice at' en.texts.length ct⟩) ⟨owns_low h1 HI.out.bel.size, owns_low h2 HI.out.bel.size⟩ hb2
      have hLl : L.length ≤ 10000000 := by omega
      have hsz := bs_size t
      have hnz : n ≤ (bs t).size := by omega
      have hszt : (bs t).size ≤ 10000000 := by omega
      have HDR : Hid ((bs t).extract n (bs t).size = bs r) := by show _ = _; rw [bs_drop, hdr]
      have HS2 : Hid (w1.heap.size + 1 = w2.heap.size) := by show _ = _; rw [hw2]; simp
      have HW2 := Lib.hid hw2
      have HP := Lib.hid hP
      have HLR := Lib.hid hlr
      have hw2w : w.heap.size ≤ w2.heap.size := HB2.out.size
      have HIF := Lib.hid hfew
      clear hw2 hP hpar hlr hsz hdr hone h1 h2 hb1 hb2 hb12 HI K2 hfew c0 c1 c2
      go_wp2_with (at_builtin; refine Hid.out ?_)
      refine Lib.hid ?_
      rw [← HW2.out, HS2.out]
      refine wpList_append_own _ rfl (.tmp 16) (.tmp 18) 38 rfl w.heap.size 30 i0 (.agg #[.string ⟨#[]⟩, .slice none 0 0, .slice none 0 0]) 3 64 Tryd.underlying38 hi0 hz0 hz1 hz2 rfl (by decide) _ L.length (cellsE L) rfl (row2.out.alloc _) ⟨w2.heap.size, 0, none⟩ 1 1 [.string (bs en.kind), .slice an en.n.length cn, .slice at' en.texts.length ct] rfl rfl ?c1 ?c5 ?c2 ?c3 ?c4 ?_
      case c1 => exact lit_cells rfl (show 3 ≤ maxLen by decide)
      case c5 => intro u hu; simp at hu; rcases hu with rfl | rfl | rfl <;> rfl
      case c2 => unfold maxLen; omega
      case c3 => omega
      case c4 => simp; omega
      intro v4 w4 hown4 hg4 _
      obtain ⟨w3, hw3⟩ : ∃ w3, w3 = w2.alloc (.cells #[.string (bs en.kind), .slice an en.n.length cn, .slice at' en.texts.length ct] 30) := ⟨_, rfl⟩
      have hb3 : Below w2.heap.size w2 w3 := by rw [hw3]; exact (Below.refl _ _).alloc (Nat.le_refl _) _
      have g3 : w3.grownBy w4 u3.ownBlock := by rw [hw3]; exact hg4
      have row3 := owns_below row2.out hb3
      have hb03 := below_trans HB2.out hb3
      have hb4 : Below w.heap.size w w4 := hb03.grown g3 hb03.size (fun q hq => (row3.lt q hq).1)
      have I4 : Hid (EntI s w v4 (L ++ [(⟨en, .slice an en.n.length cn, .slice at' en.texts.length ct⟩ : EV)]) r w4) := by
        refine ⟨?_, fun x hx => ((GD2.out x hx).below hb3).grownR row3 g3, hb4, HPAR.out, ?_⟩
        · rw [cellsE_append, List.length_append]
          exact hown4
        · rw [List.length_append, List.length_singleton]
          have := HLR.out
          have := HIF.out
          omega
      clear hown4 hg4 g3 row3 hw3 hb3 hb03 hb4 GD2 row2 HPAR HB2
      go_wp2
      go_roundg r.length
      case measure => have := HG.out; have := HLR.out; omega
      case rel => exact ⟨_, r, rfl, by rw [← HDR.out], I4⟩
end Go.Proofs.YtifbjngkdifenaaDoor
