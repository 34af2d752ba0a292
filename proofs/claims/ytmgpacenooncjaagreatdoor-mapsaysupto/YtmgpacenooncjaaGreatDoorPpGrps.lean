/- Contract of fold.Groups: of each key one pair. -/
import Derived.Test.YtmgpacenooncjaaGreatDoorPpOwn
import Derived.Test.YtmgpacenooncjaaGreatDoorPpFoldT
import Derived.Test.YtmgpacenooncjaaGreatDoorPpBlw
import Derived.Deep.RegionWith
namespace Go.Proofs.YtmgpacenooncjaaGreatDoor.Pp
open Go.ChangeShapes Go.WideShapes Go.ChangeAt Go.RowKit
open Grp
theorem cellsP_snoc_set (A : List (ByteArray × Int)) (q : ByteArray × Int) (x : Int) : (cellsP (A ++ [q])).set (A.length * 2 + 1) (.int .i64 x) = cellsP (A ++ [(q.1, x)]) := by
  have h := cellsP_set (A ++ [q]) A.length q.1 x (by simp)
  rw [set_at A q (q.1, x) [] A.length rfl] at h
  rw [← h]
  congr 1
  have k := (cellsP_at (A ++ [q]) A.length (by simp)).1
  have hlt : A.length * 2 < (cellsP (A ++ [q])).length := by rw [cellsP_length]; simp
  rw [List.getElem?_eq_getElem hlt, Option.some.injEq] at k
  simp only [List.getElem_append_right (Nat.le_refl _), Nat.sub_self, List.getElem_singleton] at k
  rw [← k, List.set_getElem_self]
theorem owns_val {w : World} {base g n cap : Nat} {A : List (ByteArray × Int)} {q : ByteArray × Int} (h : w.ownsRow base 67 2 (.slice (some ⟨g, 0, none⟩) n cap) (A ++ [q]).length (cellsP (A ++ [q]))) (x : Int) :
    (w.setCell ⟨g, A.length * 2 + 1, none⟩ (.int .i64 x)).ownsRow base 67 2 (.slice (some ⟨g, 0, none⟩) n cap) (A ++ [(q.1, x)]).length (cellsP (A ++ [(q.1, x)])) := by
  refine ⟨by rw [cellsP_length], ?_⟩
  rcases h.2 with ⟨h1, _⟩ | ⟨g', cap', cur, h1, h2, h3, h4, h5, h6, h7⟩
  · cases h1
  · injection h1 with e1 e2 e3
    injection e1 with e1
    injection e1 with e1
    subst e1 e3
    refine .inr ⟨g, cap, _, by rw [e2]; simp, h2, heap_set h3 _, ?_, h5, by simp [h6], ?_⟩
    · simpa using h4
    · rw [Array.toList_setIfInBounds]
      have e : (A ++ [(q.1, x)]).length * 2 = (A ++ [q]).length * 2 := by simp
      rw [e, List.take_set, h7, cellsP_snoc_set]
theorem isPairs_one {w : World} (s : ByteArray) (x : Int) (cap g : Nat) (hg : g = w.heap.size) : IsPairs (w.alloc (.cells #[.string s, .int .i64 x] 67)) (.slice (some ⟨g, 0, none⟩) 1 cap) [(s, x)] := by
  subst hg
  refine ⟨_, _, rfl, fun i hi => ⟨w.heap.size, 0, rfl, ?_⟩⟩
  have : i = 0 := by simp at hi; omega
  subst this
  simp
theorem neq_list {a b : ByteArray} (h : ¬ a = b) : (a.toList == b.toList) = false := by
  rw [beq_eq_false_iff_ne]
  exact fun e => h (toList_inj e)
set_option maxRecDepth 100000 in
set_option maxHeartbeats 2000000 in
theorem groups_any (kind : Int) (v : Value) (l : List (ByteArray × Int)) (w : World) (h : IsPairs w v l) (hl : l.length ≤ 1000000) :
    Calls Tryz.prog 52 #[.int .i64 kind, v] w fun e w' => ∃ u, e = .returned u ∧ IsPairs w' u (grp kind l) ∧ Below w.heap.size w w' := by
  obtain ⟨ao, cap0, rfl, hc0⟩ := h
  have HC := Lib.hid hc0
  clear hc0
  obtain ⟨n, hn⟩ : ∃ n, n = l.length := ⟨_, rfl⟩
  rw [← hn] at hl ⊢
  have HN := Lib.hid hn
  clear hn
  go_enter Tryz.func52, Tryz.ntmps52
  go_wp2_with fail
  go_loopw [5, 11] (fun gv kv wr => ∃ (k : Nat), kv = .int .i64 k ∧ k ≤ n ∧ Below w.heap.size w wr ∧ Hid (wr.ownsRow w.heap.size 67 2 gv (grp kind (l.take k)).length (cellsP (grp kind (l.take k))))) (fun _ kv _ => n - (intOf kv).toNat)
  case atStart => exact ⟨0, by go_num, Nat.zero_le _, Below.refl _ _, owns_nil _ _⟩
  case round =>
    obtain ⟨k, rfl, hkn, hb, HO⟩ := hrel
    by_cases hlt : k < n
    · have hlt' : k < l.length := by have := HN.out; omega
      obtain ⟨b, off, ea, c0, c1⟩ := HC.out k hlt'
      subst ea
      have HG : Hid (grp kind (l.take (k + 1)) = Grp.step kind (grp kind (l.take k)) l[k]) := by
        show _ = _
        rw [List.take_succ_eq_append_getElem hlt', grp_snoc]
      have hgl : (grp kind (l.take k)).length ≤ k := by
        have h1 := grp_len kind (l.take k)
        have h2 := List.length_take_le k l
        omega
      replace c0 := (hb.cell (block_lt c0)).trans c0
      replace c1 := (hb.cell (block_lt c1)).trans c1
      generalize l[k] = p at c0 c1 HG
      obtain ⟨G, hG⟩ : ∃ G, G = grp kind (l.take k) := ⟨_, rfl⟩
      rw [← hG] at HO HG hgl
      clear hG
      obtain ⟨G2, hG2⟩ : ∃ G2, G2 = grp kind (l.take (k + 1)) := ⟨_, rfl⟩
      rw [← hG2] at HG
      have HG2 := Lib.hid hG2
      clear hG2
      obtain ⟨ps, pv⟩ := p
      rcases List.eq_nil_or_concat G with hG0 | ⟨A, q, hGA⟩
      · subst hG0
        obtain ⟨ga, gc, hgv⟩ : ∃ a c, u5 = .slice a 0 c := by
          rcases owns_row HO.out with ⟨h1, _⟩ | ⟨g, cap, h1, _, _⟩
          · exact ⟨_, _, h1⟩
          · exact ⟨_, _, h1⟩
        subst hgv
        go_wp2
        go_quiet (fail)
        go_wp2_with (at_builtin; refine Hid.out ?_)
        refine Lib.hid ?_
        refine wpList_append_pairs (w0 := w) rfl (.tmp 30) (.tmp 32) rfl _ [] rfl ((owns_drewN (HO.out.alloc _) _).alloc _) (.slice (some ⟨wr.heap.size + 1, 0, none⟩) 1 1) [(ps, pv)] rfl (isPairs_one ps pv _ _ (by simp)) (by simp) (blw_step hb (blw_step (blw_step (blw_box _) (blw_drewN _ _)) (blw_box _))) ?_
        intro v2 w2 hown2 hb2
        have HO2 := Lib.hid hown2
        clear c0 c1 HC HO hown2
        go_wp2
        go_roundw
        case rel => exact ⟨k + 1, by go_num, by omega, hb2, by rw [← HG2.out, HG.out]; exact HO2.out⟩
        case measure => simp [intOf]; omega
      · rw [List.concat_eq_append] at hGA
        subst hGA
        obtain ⟨g, gc, hgv, hbg, hrow⟩ : ∃ g c, u5 = .slice (some ⟨g, 0, none⟩) (A.length + 1) c ∧ w.heap.size ≤ g ∧ Row g (A ++ [q]) wr := by
          rcases owns_row HO.out with ⟨_, h2⟩ | ⟨g, cap, h1, h2, h3⟩
          · simp at h2
          · exact ⟨g, cap, by simpa using h1, h2, h3⟩
        subst hgv
        obtain ⟨q0, q1⟩ := hrow.at A.length (by simp)
        simp only [List.getElem_append_right (Nat.le_refl _), Nat.sub_self, List.getElem_singleton] at q0 q1
        have hgsz := hrow.lt
        have fz := hrow.frozen (A.length * 2 + 1)
        obtain ⟨qs, qv⟩ := q
        simp only at q0 q1
        simp only [List.length_append, List.length_cons, List.length_nil] at hgl
        obtain ⟨m, hm⟩ : ∃ m, m = A.length := ⟨_, rfl⟩
        rw [← hm] at q0 q1 fz hgl
        have HM := Lib.hid hm
        have HO' : Hid (wr.ownsRow w.heap.size 67 2 (.slice (some ⟨g, 0, none⟩) (m + 1) gc) (A ++ [(qs, qv)]).length (cellsP (A ++ [(qs, qv)]))) := by rw [hm]; exact HO.out
        rw [← hm]
        clear hm HO hrow
        have hd0 : decide ((m : Int) < 0) = false := decide_eq_false (by omega)
        by_cases hk : qs = ps
        · subst hk
          have T2 := two_any kind qv pv
          have HG3 : Hid (G2 = A ++ [(qs, two kind qv pv)]) := by
            show _ = _
            rw [HG.out, step_same kind A (qs, qv) (qs, pv) rfl]
          clear HG
          generalize two kind qv pv = x at *
          have HT2 := Lib.hid T2
          clear T2
          go_wp2
          go_quiet (fail)
          go_wp2
          obtain ⟨w1, hw1⟩ : ∃ w1, w1 = (wr.alloc (.cells #[.string qs, .int .i64 pv] 67)).drewN nq := ⟨_, rfl⟩
          have p1 : w1.cell? ⟨wr.heap.size, 1, none⟩ = some (.int .i64 pv) := by rw [hw1]; simp
          have hb1 : Below wr.heap.size wr w1 := by rw [hw1]; exact blw_step (blw_box _) (blw_drewN _ _)
          have HO1 : Hid (w1.ownsRow w.heap.size 67 2 (.slice (some ⟨g, 0, none⟩) (m + 1) gc) (A ++ [(qs, qv)]).length (cellsP (A ++ [(qs, qv)]))) := by rw [hw1]; exact owns_drewN (HO'.out.alloc _) _
          rw [← hw1]
          clear hw1 c0 c1 HC HO'
          replace q1 := (hb1.cell (p := ⟨g, m * 2 + 1, none⟩) hgsz).trans q1
          replace fz := (hb1.frozen (p := ⟨g, m * 2 + 1, none⟩) hgsz).trans fz
          go_region_with (go_at_call 83; refine (HT2.out _).mono ?_; rintro _ _ ⟨rfl, rfl⟩)
          all_goals
            have HO2 : Hid ((w1.setCell ⟨g, m * 2 + 1, none⟩ (.int .i64 x)).drew.ownsRow w.heap.size 67 2 (.slice (some ⟨g, 0, none⟩) (m + 1) gc) (A ++ [(qs, x)]).length (cellsP (A ++ [(qs, x)]))) := by
              have h1 := owns_val HO1.out x
              rw [← HM.out] at h1
              exact ⟨h1.1, h1.2⟩
            have hb2 : Below w.heap.size w (w1.setCell ⟨g, m * 2 + 1, none⟩ (.int .i64 x)).drew := blw_drew ((blw_step hb hb1).setCell hbg _)
            clear q1 fz p1 HO1
            generalize (w1.setCell ⟨g, m * 2 + 1, none⟩ (.int .i64 x)).drew = w2 at *
            go_wp2
            go_roundw
            case rel => exact ⟨k + 1, by go_num, by omega, hb2, by rw [← HG2.out, HG3.out]; exact HO2.out⟩
            case measure => simp [intOf]; omega
        · have hE := neq_list hk
          have HG3 : Hid (G2 = A ++ [(qs, qv)] ++ [(ps, pv)]) := by
            show _ = _
            rw [HG.out, step_other kind A (qs, qv) (ps, pv) hk]
          clear HG
          go_wp2
          go_quiet (fail)
          go_wp2_with (at_builtin; refine Hid.out ?_)
          refine Lib.hid ?_
          refine wpList_append_pairs (w0 := w) rfl (.tmp 30) (.tmp 32) rfl _ (A ++ [(qs, qv)]) rfl ((owns_drewN (HO'.out.alloc _) _).alloc _) (.slice (some ⟨wr.heap.size + 1, 0, none⟩) 1 1) [(ps, pv)] rfl (isPairs_one ps pv _ _ (by simp)) (by have := HM.out; simp; omega) (blw_step hb (blw_step (blw_step (blw_box _) (blw_drewN _ _)) (blw_box _))) ?_
          intro v2 w2 hown2 hb2
          have HO2 := Lib.hid hown2
          clear c0 c1 HC HO' hown2 q0 q1 fz hE hk hgsz hbg
          go_wp2
          go_roundw
          case rel => exact ⟨k + 1, by go_num, by omega, hb2, by rw [← HG2.out, HG3.out]; exact HO2.out⟩
          case measure => simp [intOf]; omega
    · have hfin : Hid (IsPairs wr u5 (grp kind l)) := by
        have h1 := owns_isPairs HO.out
        rw [List.take_of_length_le (by have := HN.out; omega)] at h1
        exact h1
      clear HC HO
      go_wp2
      go_ret
      exact ⟨_, rfl, hfin.out, hb⟩
end Go.Proofs.YtmgpacenooncjaaGreatDoor.Pp
