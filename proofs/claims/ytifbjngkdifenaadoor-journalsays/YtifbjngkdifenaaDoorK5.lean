/- Journals: two entries that are the same; the law's closed fact. -/
import Derived.Test.YtifbjngkdifenaaDoorK4
import Derived.Test.YtifbjngkdifenaaDoorK1
import Derived.Test.YtifbjngkdifenaaDoorJ12
namespace Go.Proofs.YtifbjngkdifenaaDoor
open Go.ChangeShapes Go.WideShapes Go.ChangeAt Go.RowKit
open Num
set_option maxRecDepth 100000 in
set_option maxHeartbeats 1000000 in
theorem sameEntry_any (k : List UInt8) (ns : List Int) (ts : List (List UInt8)) (vn vt un ut : Value) (w : World) (h1 : IsIs w vn ns) (h2 : IsTexts w vt (ts.map bs)) (h3 : IsIs w un ns) (h4 : IsTexts w ut (ts.map bs)) (hn : ns.length ≤ 1000000) (ht : ts.length ≤ 1000000) :
    Calls Tryd.prog 11 #[.agg #[.string (bs k), vn, vt], .agg #[.string (bs k), un, ut]] w fun e w' => e = .returned (.bool true) ∧ Below w.heap.size w w' := by
  obtain ⟨w1, hw1⟩ : ∃ w1, w1 = w.alloc (.cells #[.string (bs k), vn, vt] 25) := ⟨_, rfl⟩
  have hb1 : Below w.heap.size w w1 := by rw [hw1]; exact (Below.refl _ _).alloc (Nat.le_refl _) _
  obtain ⟨w2, hw2⟩ : ∃ w2, w2 = w1.alloc (.cells #[.string (bs k), un, ut] 30) := ⟨_, rfl⟩
  have hb2 : Below w1.heap.size w1 w2 := by rw [hw2]; exact (Below.refl _ _).alloc (Nat.le_refl _) _
  have hbb := below_trans hb1 hb2
  have SN := Lib.hid (sameNumbers_any vn un ns w2 (h1.below hbb) (h3.below hbb) hn)
  have ST : Hid (∀ w3, Below w2.heap.size w2 w3 → Calls Tryd.prog 15 #[vt, ut] w3 fun e w' => e = .returned (.bool true) ∧ Below w3.heap.size w3 w') := fun w3 hq => (sameTexts_any _ _ _ _ w3 ((h2.below hbb).below hq) ((h4.below hbb).below hq) (by rw [List.length_map]; unfold maxLen; omega)).mono fun e w' h => by
    obtain ⟨h1, m, rfl⟩ := h
    exact ⟨by rw [h1, decide_eq_true rfl], below_drewN _ _⟩
  have K2 : Blk w2 (w.heap.size + 1) 30 [.string (bs k), un, ut] := by
    have e : w1.heap.size = w.heap.size + 1 := by rw [hw1]; simp
    rw [← e, hw2]; exact Blk.new w1 _ _
  have K1 : Blk w2 w.heap.size 25 [.string (bs k), vn, vt] := by
    have h : Blk w1 w.heap.size 25 [.string (bs k), vn, vt] := by rw [hw1]; exact Blk.new w _ _
    exact h.blw hb2
  obtain ⟨an, cn, rfl, _⟩ := h1
  obtain ⟨at', ct, rfl, _⟩ := h2
  obtain ⟨bn, dn, rfl, _⟩ := h3
  obtain ⟨bt, dt, rfl, _⟩ := h4
  have HW : Hid (w2 = (w.alloc (.cells #[.string (bs k), .slice an ns.length cn, .slice at' (ts.map bs).length ct] 25)).alloc (.cells #[.string (bs k), .slice bn ns.length dn, .slice bt (ts.map bs).length dt] 30)) := by show _ = _; rw [hw2, hw1]
  clear hw1 hw2 hb1 hb2
  rw [List.length_map] at *
  have HK1 := Lib.hid K1
  have HK2 := Lib.hid K2
  clear K1 K2
  go_enter Tryd.func11, Tryd.ntmps11
  go_wp2_with (go_at_call 14; refine Hid.out ?_)
  refine Lib.hid ?_
  rw [← HW.out]
  refine SN.out.mono ?_
  rintro _ w3 ⟨rfl, hb3⟩
  have k1 := HK1.out.blw hb3
  have k2 := HK2.out.blw hb3
  have c2 := k1.at (i := 2) (v := .slice at' ts.length ct) rfl
  have d2 := k2.at (i := 2) (v := .slice bt ts.length dt) rfl
  clear SN HW HK1 HK2 k1 k2
  go_wp2_with (go_at_call 15; refine Hid.out ?_)
  refine Lib.hid ?_
  refine (ST.out _ hb3).mono ?_
  rintro _ w4 ⟨rfl, hb4⟩
  go_wp2
  go_ret
  exact ⟨rfl, below_trans hbb (below_trans hb3 hb4)⟩
theorem plain0 : Plain ⟨[111, 117, 116], [1, 2], [[97, 98]]⟩ := ⟨by simp, by decide, (by intro n hn; simp at hn; rcases hn with rfl | rfl <;> exact ⟨by omega, by omega⟩), by intro t ht; simp at ht; subst ht; decide⟩
theorem par0 : parL (entT [111, 117, 116] [1, 2] [[97, 98]]) = [⟨[111, 117, 116], [1, 2], [[97, 98]]⟩] := by
  have h := one_whole plain0 []
  rw [List.append_nil] at h
  have h2 := parL_some h
  exact h2
set_option maxRecDepth 100000 in
set_option maxHeartbeats 1000000 in
theorem entries0 (w : World) (E : Env w) :
    Calls Tryd.prog 5 #[] w fun e w' => e = .returned (.bool true) ∧ Below w.heap.size w w' := by
  obtain ⟨w2, hw2⟩ : ∃ w2, w2 = (w.alloc (.cells #[.int .i64 1, .int .i64 2] 3)).alloc (.cells #[.string ⟨#[97, 98]⟩] 9) := ⟨_, rfl⟩
  have hb2 : Below w.heap.size w w2 := by
    rw [hw2]
    exact ((Below.refl _ _).alloc (Nat.le_refl _) _).alloc (by simp) _
  have i1 : IsIs w2 (.slice (some ⟨w.heap.size, 0, none⟩) 2 2) [1, 2] := by
    rw [hw2]
    refine ⟨some ⟨w.heap.size, 0, none⟩, 2, rfl, fun i hi => ⟨w.heap.size, 0, rfl, ?_⟩⟩
    match i, hi with
    | 0, _ => simp
    | 1, _ => simp
  have t1 : IsTexts w2 (.slice (some ⟨w.heap.size + 1, 0, none⟩) 1 1) ([[97, 98]].map bs) := by
    rw [hw2]
    refine ⟨some ⟨w.heap.size + 1, 0, none⟩, 1, rfl, fun i hi => ⟨w.heap.size + 1, 0, rfl, ?_⟩⟩
    match i, hi with
    | 0, _ => simp; rfl
  have T0 := Lib.hid (jtext_any [111, 117, 116] [1, 2] [[97, 98]] _ _ w2 (E.below hb2) i1 plain0.fit t1 (by decide +kernel) (by decide) (by decide))
  have hT : (bs (entT [111, 117, 116] [1, 2] [[97, 98]])).toList = [111, 117, 116, 32, 49, 32, 50, 59, 32, 50, 10, 97, 98, 46] := by rw [bs_toList]; decide +kernel
  have P0 : Hid (∀ w3, Below w2.heap.size w2 w3 → Calls Tryd.prog 12 #[.string (bs (entT [111, 117, 116] [1, 2] [[97, 98]]))] w3 fun e w' => (∃ a c, e = .returned (.slice a 1 c)) ∧ Below w3.heap.size w3 w') := fun w3 hq => (parse_any _ w3 ((E.below hb2).below hq) (by decide +kernel)).mono fun e w' h => by
    obtain ⟨v, L, rfl, hp, hrow, hg, hb⟩ := h
    rw [par0] at hp
    have hl : L.length = 1 := by rw [← List.length_map (f := EV.e), hp]; rfl
    obtain ⟨a, c, rfl, _⟩ := isEnts_of hrow hg
    exact ⟨⟨a, c, by rw [hl]⟩, hb⟩
  have HW := Lib.hid hw2
  clear hw2 i1 t1
  generalize bs (entT [111, 117, 116] [1, 2] [[97, 98]]) = t0 at *
  go_enter Tryd.func5, Tryd.ntmps5
  go_wp2_with (go_at_call 7; refine Hid.out ?_)
  refine Lib.hid ?_
  rw [← HW.out]
  refine T0.out.mono ?_
  rintro _ w3 ⟨rfl, hb3⟩
  have P1 := Lib.hid (P0.out w3 hb3)
  clear T0 P0 HW
  go_wp2_with (go_at_call 12; refine Hid.out ?_)
  refine Lib.hid ?_
  refine P1.out.mono ?_
  rintro _ w4 ⟨⟨a, c, rfl⟩, hb4⟩
  go_wp2
  go_ret
  exact ⟨rfl, below_trans hb2 (below_trans hb3 hb4)⟩
end Go.Proofs.YtifbjngkdifenaaDoor
