/- Folders: Step: a group is put behind what is made. Written by tpl/mk_d4.py. -/
import Derived.Test.YtmgpacenooncjaaGreatDoorG2
namespace Go.Proofs.YtmgpacenooncjaaGreatDoor.Pp
open Go.ChangeShapes Go.WideShapes Go.ChangeAt Go.RowKit
open Grp Stable
theorem segs_grp_len {kind : Int} {ks : List ByteArray} {ss : List (List (ByteArray × Int))} (h : Segs ks ss) : (grp kind ss.flatten).length = ss.length := by
  obtain ⟨M, h1, h2, _⟩ := grp_segs kind h
  rw [h1, ← segs_len h, ← h2, List.length_map]
theorem segs_grp_at {kind : Int} {ks : List ByteArray} {ss : List (List (ByteArray × Int))} (h : Segs ks ss) (i : Nat) (hi : i < ss.length) (hi' : i < (grp kind ss.flatten).length) : grp kind ss[i] = [(grp kind ss.flatten)[i]] := by
  obtain ⟨M, h1, h2, h3⟩ := grp_segs kind h
  subst h1
  have := h3 i
  rw [List.getElem?_eq_getElem hi, List.getElem?_eq_getElem hi'] at this
  simpa using this
theorem mem_flat_le {α : Type} {s : List α} {ss : List (List α)} (h : s ∈ ss) : s.length ≤ ss.flatten.length := by
  induction ss with
  | nil => cases h
  | cons x ss ih =>
    rw [List.flatten_cons, List.length_append]
    rcases List.mem_cons.1 h with rfl | h
    · omega
    · have := ih h; omega
theorem owns_putR {w : World} {base g i : Nat} {e : TypeId} {size : Nat} {v x : Value} {n : Nat} {xs : List Value} (h : w.ownsRow base e size v n xs) (hg : g < base) : (w.setCell ⟨g, i, none⟩ x).ownsRow base e size v n xs := by
  refine ⟨h.1, ?_⟩
  rcases h.2 with h0 | ⟨b, cap, cur, a1, a2, a3, a4⟩
  · exact .inl h0
  · exact .inr ⟨b, cap, cur, a1, a2, (Below.heap_setCell w ⟨g, i, none⟩ x b (by show b ≠ g; omega)).trans a3, a4⟩
theorem IsRun.blk_grown {wr w9 w10 : World} {R : Nat} {kind : Int} {kv mv : Value} {ss : List (List (ByteArray × Int))} {l : List (ByteArray × Int)} (h : IsRun wr R kind kv ss mv l) (hb9 : Below wr.heap.size wr w9) (hg : w9.grownBy w10 mv.ownBlock) : Blk w10 R 103 [.int .i64 kind, kv, mv] := by
  have r9 := owns_blw h.row hb9
  exact (hg.block R (Nat.lt_of_lt_of_le h.blk.lt hb9.size) (fun e => by have := (r9.lt _ e.symm).1; omega)).trans (h.blk.blw hb9)
theorem IsRun.more {wr w9 w10 : World} {R : Nat} {kind : Int} {kv mv nv : Value} {ss : List (List (ByteArray × Int))} {l l' : List (ByteArray × Int)} (h : IsRun wr R kind kv ss mv l) (hb9 : Below wr.heap.size wr w9) (hg : w9.grownBy w10 mv.ownBlock) (ho : w10.ownsRow (R + 1) 67 2 nv l'.length (cellsP l')) : IsRun (w10.setCell ⟨R, 2, none⟩ nv) R kind kv ss nv l' := by
  have r9 := owns_blw h.row hb9
  have hRl := h.blk.lt
  have b10 : Below R wr w10 := (hb9.mono (Nat.le_of_lt hRl)).grown hg (by have := hb9.size; omega) (fun q hq => by have := (r9.lt q hq).1; omega)
  have b11 : Below R wr (w10.setCell ⟨R, 2, none⟩ nv) := b10.setCell (p := ⟨R, 2, none⟩) (Nat.le_refl _) _
  exact ⟨(h.blk_grown hb9 hg).set 2 nv, fun w' h' => h.keys w' (b11.trans h'), owns_putR ho (Nat.lt_succ_self _)⟩
set_option maxRecDepth 100000 in
set_option maxHeartbeats 8000000 in
theorem r3_any (R ak kb koff kc su uc mc : Nat) (kind : Int) (uo mo : Option Addr) (ss : List (List (ByteArray × Int))) (M : List (ByteArray × Int)) (q : ByteArray × Int) (w : World) (K : Act → World → Prop) (s1 s2 s3 s4 s5 s6 s7 s8 s9 s10 s11 s12 s13 s14 s15 s16 s17 s18 s19 s20 s21 s22 s23 s24 s25 s26 s27 s28 s29 s30 s31 s32 s33 s34 s35 s36 s37 s38 s39 s40 s41 s42 s43 s44 s45 s46 s47 s48 s49 s50 s51 s52 s53 s54 s55 : Value)
    (hr : IsRun w R kind (.slice (some ⟨kb, koff, none⟩) ss.length kc) ss (.slice mo ak mc) (M.take ak)) (hakl : ak < ss.length) (hss : ss.length ≤ 60000)
    (k0 : w.cell? ⟨kb, koff + ak, none⟩ = some (.slice uo su uc))
    (GR : Hid (Calls Tryz.prog 52 #[.int .i64 kind, .slice uo su uc] w.drew fun e w' => ∃ u, e = .returned u ∧ IsPairs w' u [q] ∧ Below w.drew.heap.size w.drew w'))
    (hTK : M.take (ak + 1) = M.take ak ++ [q]) (hlk : (M.take ak).length = ak)
    (HK : Hid (∀ (z20 z21 z22 z23 z24 z25 z26 z27 z28 z29 z30 z31 z32 z33 z34 z35 z36 z37 z38 z39 z40 z41 z42 z43 : Value) (g cap : Nat) (w' : World), IsRun w' R kind (.slice (some ⟨kb, koff, none⟩) ss.length kc) ss (.slice (some ⟨g, 0, none⟩) (ak + 1) cap) (M.take (ak + 1)) → (∀ w0 o, Fr w0 w R o → ((Value.slice mo ak mc).ownBlock = o ∨ ∀ b, (Value.slice mo ak mc).ownBlock = some b → w0.heap.size ≤ b) → Fr w0 w' R o ∧ (some g = o ∨ w0.heap.size ≤ g)) → K ⟨#[.pointer (some ⟨R, 0, none⟩), s1, s2, s3, s4, s5, s6, s7, s8, s9, s10, s11, s12, s13, s14, s15, s16, s17, s18, s19, z20, z21, z22, z23, z24, z25, z26, z27, z28, z29, z30, z31, z32, z33, z34, z35, z36, z37, z38, z39, z40, z41, z42, z43, s44, s45, s46, s47, s48, s49, s50, s51, s52, s53, s54, s55], []⟩ w')) :
    Code.wp Tryz.prog (regionIn Tryz.f27.body 3) (Exit.then K fun _ _ _ => False) ⟨#[.pointer (some ⟨R, 0, none⟩), s1, s2, s3, s4, s5, s6, s7, s8, s9, s10, s11, s12, s13, s14, s15, s16, s17, s18, s19, s20, s21, s22, s23, s24, s25, s26, s27, s28, s29, s30, s31, s32, s33, s34, s35, s36, s37, s38, s39, s40, s41, s42, s43, s44, s45, s46, s47, s48, s49, s50, s51, s52, s53, s54, s55], []⟩ w := by
  obtain ⟨i0, hi0, hz0, hz1, hz2⟩ := info_parts pairInfo
  have HR := Lib.hid hr
  have c0 := hr.blk.at (i := 0) (v := .int .i64 kind) rfl
  have c1 := hr.blk.at (i := 1) (v := .slice (some ⟨kb, koff, none⟩) ss.length kc) rfl
  have c2 := hr.blk.at (i := 2) (v := .slice mo ak mc) rfl
  have HROW : Hid (w.ownsRow (R + 1) 67 2 (.slice mo ak mc) ak (cellsP (M.take ak))) := by
    have h := hr.row
    rw [hlk] at h
    exact h
  have hRw := hr.blk.lt
  have hM1 : Hid (∀ u ∈ cellsP [q], u.oneCell' = true) := cellsP_one _
  have HTK := Lib.hid hTK
  have HLK := Lib.hid hlk
  clear hTK hlk hr
  conv => arg 2; whnf
  dsimp only
  go_region_law (first | (refine step_append_lies _ rfl (.tmp 24) (.tmp 40) 42 rfl (R + 1) 67 i0 (.agg #[.string ⟨#[]⟩, .int .i64 0]) 2 24 Tryz.underlying42 hi0 hz0 hz1 hz2 rfl (by decide) (.slice mo ak mc) ak (cellsP (M.take ak)) (by simp [Act.eval]) HOW.out ⟨gb, goff, none⟩ 1 gc (cellsP [q]) (by simp [Act.eval]) rfl HNEW.out hM1.out (by decide) (by unfold maxLen; omega) (by omega) hRw9 _ rfl ?_; intro g cap w10 hown10 hgrow10 hat10 hlt10; have k10 := HR.out.blk_grown HB9.out hgrow10; have c10 := k10.at (i := 2) (v := .slice mo ak mc) rfl; have f10 := k10.frozen 2; have HG10 := Lib.hid (And.intro hown10 (And.intro hgrow10 hat10)); clear hown10 hgrow10 hat10 hlt10 k10) | (go_simp; go_at_call 52; refine GR.out.mono ?_; rintro _ w9 ⟨gu, rfl, hgu, hb9⟩; obtain ⟨go', gc, rfl, hgc⟩ := id hgu; obtain ⟨gb, goff, rfl, _, _⟩ := hgc 0 (by simp); have HB9 := Lib.hid (blw_step (blw_drew (Below.refl _ w)) hb9); have R9 := HR.out.blw HB9.out; have d0 := R9.blk.at (i := 0) (v := .int .i64 kind) rfl; have d1 := R9.blk.at (i := 1) (v := .slice (some ⟨kb, koff, none⟩) ss.length kc) rfl; have d2 := R9.blk.at (i := 2) (v := .slice mo ak mc) rfl; have HOW := Lib.hid (owns_blw HROW.out HB9.out); have HNEW := Lib.hid (cellsP_src hgu); have hRw9 : R + 1 ≤ w9.heap.size := Nat.le_trans hRw HB9.out.size; clear hgc hgu hb9 R9))
  all_goals
    obtain ⟨hown, hg, hat⟩ := HG10.out
    refine HK.out _ _ _ _ _ _ _ _ _ _ _ _ _ _ _ _ _ _ _ _ _ _ _ _ g cap _ ?_ ?_
    · refine HR.out.more HB9.out hg ?_
      rw [HTK.out, List.length_append, cellsP_append, HLK.out]
      exact hown
    · intro w0 o hF ho
      refine ⟨(((hF.blw HB9.out).grown hg ho).put 2 _), ?_⟩
      rcases hat with h | h
      · rcases ho with h2 | h2
        · exact .inl (h.symm.trans h2)
        · exact .inr (h2 g h)
      · have h3 := hF.size
        have h4 := HB9.out.size
        exact .inr (by omega)
end Go.Proofs.YtmgpacenooncjaaGreatDoor.Pp
