/- Folders: a list that rises is cut where its keys turn. -/
import Derived.Test.YtapflhndpcgdiaaDoorD0
import Derived.Test.YtapflhndpcgdiaaDoorD1
import Derived.Deep.LoopGhost
namespace Go.Proofs.YtapflhndpcgdiaaDoor
open Go.ChangeShapes Go.WideShapes Go.ChangeAt Go.RowKit
open Grp
theorem infoL : (Tryd.prog.info? 22).map (fun i => (i.zero, i.size, i.bytes)) = some (some (.slice none 0 0), 1, 24) := by kernel_rfl
/-- What byKey has so far. -/
structure SegI (Z : List (ByteArray × Int)) (i B : Nat) (ks : List ByteArray) (ss : List (List (ByteArray × Int))) : Prop where
  segs : Segs ks ss
  flat : ss.flatten = Z.take B
  run : ∀ (j : Nat) (p q : ByteArray × Int), B ≤ j → j ≤ i → Z[B]? = some p → Z[j]? = some q → q.1 = p.1
  sep : ∀ (k : ByteArray) (p : ByteArray × Int), ks.getLast? = some k → Z[B]? = some p → k ≠ p.1
  fin : i = Z.length → B = i
theorem SegI.start (Z : List (ByteArray × Int)) : SegI Z 0 0 [] [] :=
  ⟨trivial, rfl, fun j p q h1 h2 hp hq => by have : j = 0 := by omega
                                             subst this; rw [hp] at hq; cases hq; rfl, fun k p h => by simp at h, fun h => rfl⟩
theorem SegI.cut {Z : List (ByteArray × Int)} {i B : Nat} {ks : List ByteArray} {ss : List (List (ByteArray × Int))} (h : SegI Z i B ks ss) (hB : B ≤ i) (hi : i < Z.length) (hx : ∀ q, Z[i + 1]? = some q → q.1 ≠ Z[i].1) :
    SegI Z (i + 1) (i + 1) (ks ++ [Z[i].1]) (ss ++ [(Z.drop B).take (i + 1 - B)]) := by
  have hBl : B < Z.length := by omega
  have hk : Z[i].1 = Z[B].1 := h.run i Z[B] Z[i] hB (Nat.le_refl _) (List.getElem?_eq_getElem hBl) (List.getElem?_eq_getElem hi)
  refine ⟨segs_snoc h.segs ⟨?_, fun p hp => ?_⟩ (fun k' hk' => ?_), ?_, ?_, ?_, fun _ => rfl⟩
  · intro e
    have := congrArg List.length e
    rw [List.length_take, List.length_drop, List.length_nil] at this
    omega
  · obtain ⟨m, hm, rfl⟩ := List.getElem_of_mem hp
    rw [List.length_take, List.length_drop] at hm
    rw [List.getElem_take, List.getElem_drop, hk]
    exact h.run (B + m) _ _ (by omega) (by omega) (List.getElem?_eq_getElem hBl) (List.getElem?_eq_getElem (by omega))
  · rw [hk]
    exact h.sep k' Z[B] hk' (List.getElem?_eq_getElem hBl)
  · rw [List.flatten_append, h.flat, List.flatten_singleton, ← List.take_add]
    congr 1
    omega
  · intro j p q h1 h2 hp hq
    have : j = i + 1 := by omega
    subst this
    rw [hp] at hq
    cases hq
    rfl
  · intro k p hk' hp
    rw [List.getLast?_append, List.getLast?_singleton, Option.some_or, Option.some.injEq] at hk'
    subst hk'
    exact fun e => hx p hp e.symm
theorem SegI.on {Z : List (ByteArray × Int)} {i B : Nat} {ks : List ByteArray} {ss : List (List (ByteArray × Int))} (h : SegI Z i B ks ss) (hB : B ≤ i) (hi : i + 1 < Z.length) (hx : Z[i + 1].1 = Z[i].1) : SegI Z (i + 1) B ks ss := by
  refine ⟨h.segs, h.flat, fun j p q h1 h2 hp hq => ?_, h.sep, fun e => by omega⟩
  by_cases hj : j = i + 1
  · subst hj
    rw [List.getElem?_eq_getElem hi, Option.some.injEq] at hq
    rw [← hq, hx]
    exact h.run i p Z[i] hB (Nat.le_refl _) hp (List.getElem?_eq_getElem (by omega))
  · exact h.run j p q h1 (by omega) hp hq
theorem isPairs_mid {w : World} {b off n cap : Nat} {l : List (ByteArray × Int)} (h : IsPairs w (.slice (some ⟨b, off, none⟩) n cap) l) (B m : Nat) (hm : B + m ≤ l.length) (cap' : Nat) : IsPairs w (.slice (some ⟨b, off + B * 2, none⟩) m cap') ((l.drop B).take m) := by
  obtain ⟨a, c, e, hc⟩ := h
  have hlen : ((l.drop B).take m).length = m := by rw [List.length_take, List.length_drop]; omega
  refine ⟨some ⟨b, off + B * 2, none⟩, cap', by rw [hlen], fun i hi => ?_⟩
  rw [hlen] at hi
  obtain ⟨b', off', ea, c0, c1⟩ := hc (B + i) (by omega)
  injection e with e1 e2 e3
  rw [← e1, Option.some.injEq, Addr.mk.injEq] at ea
  obtain ⟨rfl, rfl, _⟩ := ea
  refine ⟨b, off + B * 2, rfl, ?_, ?_⟩
  · rw [List.getElem_take, List.getElem_drop, show off + B * 2 + i * 2 = off + (B + i) * 2 by omega]; exact c0
  · rw [List.getElem_take, List.getElem_drop, show off + B * 2 + i * 2 + 1 = off + (B + i) * 2 + 1 by omega]; exact c1
theorem isLists_of {w : World} {base : Nat} {v : Value} {us : List Value} {ss : List (List (ByteArray × Int))} (h : w.ownsRow base 22 1 v us.length us) (hl : us.length = ss.length) (hp : ∀ j (h : j < ss.length) (h' : j < us.length), IsPairs w us[j] ss[j]) : IsLists w v ss := by
  rcases h.2 with ⟨rfl, h0⟩ | ⟨g, cap, cur, rfl, _⟩
  · exact ⟨none, 0, by rw [← hl, h0], fun i hi => by omega⟩
  · refine ⟨some ⟨g, 0, none⟩, cap, by rw [hl], fun i hi => ⟨g, 0, us[i], rfl, ?_, hp i hi (by omega)⟩⟩
    rw [Nat.zero_add, h.cellAt i (by omega)]
    exact List.getElem?_eq_getElem (by omega)
set_option maxRecDepth 100000 in
set_option maxHeartbeats 2000000 in
theorem byKey_any (g off n : Nat) (Z : List (ByteArray × Int)) (w : World) (h : IsPairs w (.slice (some ⟨g, off, none⟩) n n) Z) (hn : n = Z.length) (hl : n ≤ 1000000) :
    Calls Tryd.prog 44 #[.slice (some ⟨g, off, none⟩) n n] w fun e w' => ∃ kv ks ss, e = .returned kv ∧ Segs ks ss ∧ ss.flatten = Z ∧ IsLists w' kv ss ∧ Below w.heap.size w w' := by
  obtain ⟨i0, hi0, hz0, hz1, hz2⟩ := info_parts infoL
  have HP := Lib.hid h
  have HN := Lib.hid hn
  have HC : Hid (∀ j (h : j < Z.length), w.cell? ⟨g, off + j * 2, none⟩ = some (.string Z[j].1)) := fun j hj => by
    obtain ⟨a, c, e, hc⟩ := h
    obtain ⟨b', off', ea, c0, _⟩ := hc j hj
    injection e with e1 e2 e3
    rw [← e1, Option.some.injEq, Addr.mk.injEq] at ea
    obtain ⟨rfl, rfl, _⟩ := ea
    exact c0
  clear h hn
  go_enter Tryd.func44, Tryd.ntmps44
  go_wp2
  go_loopg [3, 4, 8] n (fun gg lv bv kv wr => ∃ (i B : Nat) (ks : List ByteArray) (ss : List (List (ByteArray × Int))) (us : List Value), gg = n - i ∧ i ≤ n ∧ B ≤ i ∧ kv = .int .i64 i ∧ bv = .int .i64 B ∧ Hid (SegI Z i B ks ss) ∧ Hid (us.length = ss.length) ∧ us.length ≤ i ∧ Hid (∀ j (h : j < ss.length) (h' : j < us.length), IsPairs w us[j] ss[j]) ∧ Hid (∀ u ∈ us, u.oneCell' = true) ∧ Hid (wr.ownsRow w.heap.size 22 1 lv us.length us) ∧ Below w.heap.size w wr)
  case atStart => exact ⟨0, 0, [], [], [], rfl, Nat.zero_le _, Nat.le_refl _, rfl, rfl, SegI.start Z, rfl, Nat.le_refl _, (show ∀ j (h : j < _) (h' : j < _), _ from fun j h => by simp at h), (show ∀ u ∈ _, _ from fun u hu => by cases hu), World.ownsRow_nil _ _ _ _, Below.refl _ _⟩
  case round =>
    obtain ⟨i, B, ks, ss, us, hgi, hi, hBi, rfl, rfl, HS, HUL, hul, HUP, HU1, HO, hb⟩ := hrel
    have HGI := Lib.hid hgi
    clear hgi
    by_cases hlt : i < n
    · have hiz : i < Z.length := by have := HN.out; omega
      have c0 := (hb.cell (block_lt (HC.out i hiz))).trans (HC.out i hiz)
      obtain ⟨i1, hi1⟩ : ∃ i1 : Nat, (i : Int) + 1 = (i1 : Int) := ⟨i + 1, rfl⟩
      have HI1 : Hid (i1 = i + 1) := by show _ = _; omega
      have hi1n : i1 ≤ n := by omega
      have hBi1 : B ≤ i1 := by omega
      have hBn : B < n := by omega
      have hbs := hb.size
      obtain ⟨x0, hx0⟩ : ∃ x0, x0 = Z[i].1 := ⟨_, rfl⟩
      have HX0 := Lib.hid hx0
      rw [← hx0] at c0
      have HSL : Hid (∀ cap', IsPairs w (.slice (some ⟨g, off + B * 2, none⟩) (i1 - B) cap') ((Z.drop B).take (i + 1 - B))) := fun cap' => by
        have e : i1 - B = i + 1 - B := by rw [HI1.out]
        rw [e]
        exact isPairs_mid HP.out B (i + 1 - B) (by omega) cap'
      clear hx0
      by_cases hE : i1 = n
      case' pos =>
        have hEq : ((i1 : Int) == (n : Int)) = true := by simp [hE]
        have HX : Hid (∀ q, Z[i + 1]? = some q → q.1 ≠ Z[i].1) := fun q hq => by
          rw [List.getElem?_eq_none (by have := HN.out; have := HI1.out; omega)] at hq
          cases hq
        clear hE
        go_wp2
        go_quiet (fail)
      case' neg =>
        have hEq : ((i1 : Int) == (n : Int)) = false := by simp only [beq_eq_false_iff_ne, ne_eq]; omega
        have hi1z : i + 1 < Z.length := by have := HN.out; have := HI1.out; omega
        have hi1l : i1 < n := by omega
        have c1 := (hb.cell (block_lt (HC.out (i + 1) hi1z))).trans (HC.out (i + 1) hi1z)
        obtain ⟨x1, hx1⟩ : ∃ x1, x1 = Z[i + 1].1 := ⟨_, rfl⟩
        rw [← hx1, ← HI1.out] at c1
        have HX1 := Lib.hid hx1
        clear hx1 hE
        by_cases hk : x1 = x0
        case' pos =>
          have HON := Lib.hid (HS.out.on hBi hi1z (by rw [← HX1.out, ← HX0.out, hk]))
          subst hk
          have hkk : (x1.toList == x1.toList) = true := by simp
          go_wp2
          go_quiet (fail)
          have hb2 : Below w.heap.size w (wr.drewN nq) := blw_step hb (blw_drewN _ _)
          have HO2 := Lib.hid (owns_drewN HO.out nq)
          generalize wr.drewN nq = w3 at *
          clear c0 c1 HO
          go_wp2
          go_roundg (n - (i + 1))
          case measure => have := HGI.out; omega
          case rel => exact ⟨i + 1, B, ks, ss, us, rfl, by omega, by omega, by go_num, rfl, HON, HUL, by omega, HUP, HU1, HO2, hb2⟩
        case' neg =>
          have hkk : (x1.toList == x0.toList) = false := neq_list hk
          have HX : Hid (∀ q, Z[i + 1]? = some q → q.1 ≠ Z[i].1) := fun q hq => by
            rw [List.getElem?_eq_getElem hi1z, Option.some.injEq] at hq
            rw [← hq, ← HX1.out, ← HX0.out]
            exact hk
          clear hk
          go_wp2
          go_quiet (fail)
      all_goals
        have hb2 : Below w.heap.size w (wr.drewN nq) := blw_step hb (blw_drewN _ _)
        have HO2 := Lib.hid (owns_drewN HO.out nq)
        generalize wr.drewN nq = w3 at *
        have hbs2 := hb2.size
        have HCT := Lib.hid (HS.out.cut hBi hiz HX.out)
        clear HO hb
        go_wp2_with (at_builtin; refine Hid.out ?_)
        refine Lib.hid ?_
        refine wpList_append_own _ rfl (.tmp 30) (.tmp 36) 45 rfl w.heap.size 22 i0 (.slice none 0 0) 1 24 Tryd.underlying45 hi0 hz0 hz1 hz2 rfl (by decide) _ us.length us rfl (HO2.out.alloc _) ⟨w3.heap.size, 0, none⟩ 1 1 [.slice (some ⟨g, off + B * 2, none⟩) (i1 - B) (n - B)] rfl rfl ?c1 ?c5 ?c2 ?c3 ?c4 ?_
        case c1 => exact lit_cells rfl (show 1 ≤ maxLen by decide)
        case c5 => intro u hu; simp at hu; subst hu; rfl
        case c2 => unfold maxLen; omega
        case c3 => omega
        case c4 => simp; omega
        intro v4 w4 hown4 hg4 _
        have hb4 : Below w.heap.size w w4 := (hb2.alloc (by omega) _).grown hg4 (by simp; omega) (fun k hk => (HO2.out.lt k hk).1)
        have HO4 : Hid (w4.ownsRow w.heap.size 22 1 v4 (us ++ [Value.slice (some ⟨g, off + B * 2, none⟩) (i1 - B) (n - B)]).length (us ++ [Value.slice (some ⟨g, off + B * 2, none⟩) (i1 - B) (n - B)])) := by
          show World.ownsRow _ _ _ _ _ _ _
          rw [List.length_append]
          exact hown4
        have HUP2 : Hid (∀ j (h : j < (ss ++ [(Z.drop B).take (i + 1 - B)]).length) (h' : j < (us ++ [Value.slice (some ⟨g, off + B * 2, none⟩) (i1 - B) (n - B)]).length), IsPairs w (us ++ [Value.slice (some ⟨g, off + B * 2, none⟩) (i1 - B) (n - B)])[j] (ss ++ [(Z.drop B).take (i + 1 - B)])[j]) := fun j h h' => by
          by_cases hj : j < us.length
          · rw [List.getElem_append_left hj, List.getElem_append_left (by rw [← HUL.out]; exact hj)]
            exact HUP.out j (by rw [← HUL.out]; exact hj) hj
          · rw [List.length_append, List.length_singleton] at h'
            have ej : j = us.length := by omega
            subst ej
            rw [List.getElem_append_right (Nat.le_refl _), List.getElem_append_right (by rw [HUL.out]; exact Nat.le_refl _)]
            simp only [HUL.out, Nat.sub_self, List.getElem_cons_zero]
            exact HSL.out _
        have HUL2 : Hid ((us ++ [Value.slice (some ⟨g, off + B * 2, none⟩) (i1 - B) (n - B)]).length = (ss ++ [(Z.drop B).take (i + 1 - B)]).length) := by
          show _ = _
          rw [List.length_append, List.length_append, HUL.out]
          rfl
        have HU12 : Hid (∀ u ∈ us ++ [Value.slice (some ⟨g, off + B * 2, none⟩) (i1 - B) (n - B)], u.oneCell' = true) := fun u hu => by
          rcases List.mem_append.1 hu with hu | hu
          · exact HU1.out u hu
          · rw [List.mem_singleton] at hu
            subst hu
            rfl
        clear hown4 hg4 HO2
        go_wp2
        go_roundg (n - (i + 1))
        case measure => have := HGI.out; omega
        case rel => exact ⟨i + 1, i + 1, _, _, _, rfl, by omega, Nat.le_refl _, by go_num, by go_num, HCT, HUL2, by rw [List.length_append, List.length_singleton]; omega, HUP2, HU12, HO4, hb4⟩
    · have hfin : ss.flatten = Z := by
        have e : i = Z.length := by have := HN.out; omega
        have := HS.out.fin e
        rw [HS.out.flat, List.take_of_length_le (by omega)]
      have HF := Lib.hid hfin
      clear hfin
      go_wp2
      go_ret
      exact ⟨_, ks, ss, rfl, HS.out.segs, HF.out, isLists_of HO.out HUL.out (fun j h h' => isPairs_below (HUP.out j h h') hb), hb⟩
end Go.Proofs.YtapflhndpcgdiaaDoor
