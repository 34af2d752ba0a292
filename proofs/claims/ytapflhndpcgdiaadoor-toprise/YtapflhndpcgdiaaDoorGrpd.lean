/- Contract of the document's Grouped: of each key one pair. -/
import Derived.Test.YtapflhndpcgdiaaDoorGrps
namespace Go.Proofs.YtapflhndpcgdiaaDoor
open Go.ChangeShapes Go.WideShapes Go.ChangeAt Go.RowKit
open Grp
/-- A group ends here. -/
def Ends (G l : List (ByteArray × Int)) (k : Nat) : Prop := ∀ A q, G = A ++ [q] → ∀ p, l[k]? = some p → q.1 ≠ p.1
theorem ends_step {kind : Int} {G l : List (ByteArray × Int)} {k : Nat} {p : ByteArray × Int} (h : Ends G l k) (hp : l[k]? = some p) : Grp.step kind G p = G ++ [p] := by
  rcases List.eq_nil_or_concat G with rfl | ⟨A, q, rfl⟩
  · rfl
  · rw [List.concat_eq_append] at h ⊢
    exact step_other kind A q p (h A q rfl p hp)
theorem ends_of {G l : List (ByteArray × Int)} {j : Nat} {s : ByteArray} {x : Int} (h : j = l.length ∨ ∀ p, l[j]? = some p → s ≠ p.1) : Ends (G ++ [(s, x)]) l j := by
  intro A q e p hp
  have h1 := (List.append_inj' e rfl).2
  simp only [List.cons.injEq, and_true] at h1
  subst h1
  rcases h with h | h
  · subst h; simp at hp
  · exact h p hp
set_option maxRecDepth 100000 in
set_option maxHeartbeats 4000000 in
theorem grouped_own (kind : Int) (v : Value) (l : List (ByteArray × Int)) (w : World) (h : IsPairs w v l) (hl : l.length ≤ 1000000) :
    Calls Tryd.prog 26 #[.int .i64 kind, v] w fun e w' => ∃ u, e = .returned u ∧ w'.ownsRow w.heap.size 30 2 u (grp kind l).length (cellsP (grp kind l)) ∧ Below w.heap.size w w' := by
  obtain ⟨ao, cap0, rfl, hc0⟩ := h
  have HC := Lib.hid hc0
  clear hc0
  obtain ⟨n, hn⟩ : ∃ n, n = l.length := ⟨_, rfl⟩
  rw [← hn] at hl ⊢
  have HN := Lib.hid hn
  clear hn
  go_enter Tryd.func26, Tryd.ntmps26
  go_wp2_with fail
  go_loopw [5, 6] (fun gv kv wr => ∃ (k : Nat), kv = .int .i64 k ∧ k ≤ n ∧ Below w.heap.size w wr ∧ Hid (wr.ownsRow w.heap.size 30 2 gv (grp kind (l.take k)).length (cellsP (grp kind (l.take k)))) ∧ Hid (Ends (grp kind (l.take k)) l k)) (fun _ kv _ => n - (intOf kv).toNat)
  case atStart => exact ⟨0, by go_num, Nat.zero_le _, Below.refl _ _, owns_nil _ _, show Ends _ _ _ from fun A q e => by simp [grp_nil] at e⟩
  case round =>
    obtain ⟨k, rfl, hkn, hb, HO, HE⟩ := hrel
    by_cases hlt : k < n
    · have hlt' : k < l.length := by have := HN.out; omega
      obtain ⟨b, off, ea, c0, c1⟩ := HC.out k hlt'
      subst ea
      have HG : Hid (grp kind (l.take (k + 1)) = grp kind (l.take k) ++ [l[k]]) := by
        show _ = _
        rw [List.take_succ_eq_append_getElem hlt', grp_snoc, ends_step HE.out (List.getElem?_eq_getElem hlt')]
      have hgl : (grp kind (l.take k)).length ≤ k := by
        have h1 := grp_len kind (l.take k)
        have h2 := List.length_take_le k l
        omega
      replace c0 := (hb.cell (block_lt c0)).trans c0
      replace c1 := (hb.cell (block_lt c1)).trans c1
      generalize l[k] = p at c0 c1 HG
      obtain ⟨G, hG⟩ : ∃ G, G = grp kind (l.take k) := ⟨_, rfl⟩
      rw [← hG] at HO HG hgl
      clear hG HE
      obtain ⟨ps, pv⟩ := p
      generalize wr = w1 at *
      go_wp2
      go_loopw [6] (fun jv wq => ∃ (j : Nat) (x : Int), jv = .int .i64 j ∧ j ≤ n ∧ k < j ∧ Below w1.heap.size w1 wq ∧ wq.heap[w1.heap.size]? = some (.cells #[.string ps, .int .i64 x] 30 (0, 0)) ∧ Hid (grp kind (l.take j) = G ++ [(ps, x)])) (fun jv _ => n - (intOf jv).toNat)
      case atStart => exact ⟨k + 1, pv, by go_num, by omega, by omega, blw_box _, heap_alloc_new _ _, HG⟩
      case round =>
        obtain ⟨j, x, rfl, hjn, hkj, hbq, hP, HJ⟩ := hrel
        clear c0 c1 HG
        have P0 : wr.cell? ⟨w1.heap.size, 0, none⟩ = some (.string ps) := by rw [cell_of_row wr _ _ _ _ (0, 0) hP]; rfl
        have P1 : wr.cell? ⟨w1.heap.size, 1, none⟩ = some (.int .i64 x) := by rw [cell_of_row wr _ _ _ _ (0, 0) hP]; rfl
        have fz : wr.frozen? ⟨w1.heap.size, 1, none⟩ = false := frozen_of_row wr _ _ _ _ hP
        have HP := Lib.hid hP
        clear hP
        by_cases hjlt : j < n
        · have hjlt' : j < l.length := by have := HN.out; omega
          obtain ⟨b', off', ea, d0, d1⟩ := HC.out j hjlt'
          injection ea with ea
          injection ea with ea eo
          subst ea eo
          have hbw := blw_step hb hbq
          replace d0 := (hbw.cell (block_lt d0)).trans d0
          replace d1 := (hbw.cell (block_lt d1)).trans d1
          have HS : Hid (grp kind (l.take (j + 1)) = Grp.step kind (G ++ [(ps, x)]) l[j]) := by
            show _ = _
            rw [List.take_succ_eq_append_getElem hjlt', grp_snoc, HJ.out]
          have HQ : Hid (l[j]? = some l[j]) := List.getElem?_eq_getElem hjlt'
          generalize l[j] = q at d0 d1 HS HQ
          obtain ⟨qs, qv⟩ := q
          simp only at d0 d1
          by_cases hk : qs = ps
          · subst hk
            have hjd : decide ((j : Int) < (n : Int)) = true := decide_eq_true (by omega)
            have HS2 : Hid (grp kind (l.take (j + 1)) = G ++ [(qs, two kind x qv)]) := by
              show _ = _
              rw [HS.out, step_same kind G (qs, x) (qs, qv) rfl]
            have T2 := Lib.hid (twoR_any kind x qv)
            clear HS HJ
            generalize two kind x qv = y at *
            go_wp2
            go_quiet (fail)
            go_wp2
            obtain ⟨w2, hw2⟩ : ∃ w2, w2 = wr.drewN nq := ⟨_, rfl⟩
            have hb2 : Below wr.heap.size wr w2 := by rw [hw2]; exact blw_drewN _ _
            have HP2 : Hid (w2.heap[w1.heap.size]? = some (.cells #[.string qs, .int .i64 x] 30 (0, 0))) := by rw [hw2]; exact HP.out
            replace P1 := (hb2.cell (block_lt P1)).trans P1
            replace d1 := (hb2.cell (block_lt d1)).trans d1
            have fz2 : w2.frozen? ⟨w1.heap.size, 1, none⟩ = false := by rw [hw2]; exact fz
            rw [← hw2]
            clear hw2 P0 d0 fz HP
            go_region_with (go_at_call 45; refine (T2.out _).mono ?_; rintro _ _ ⟨rfl, rfl⟩)
            all_goals
              have hb3 : Below w1.heap.size w1 (w2.setCell ⟨w1.heap.size, 1, none⟩ (.int .i64 y)).drew := ((blw_step hbq hb2).setCell (Nat.le_refl _) _).drew
              have HP3 : Hid ((w2.setCell ⟨w1.heap.size, 1, none⟩ (.int .i64 y)).drew.heap[w1.heap.size]? = some (.cells #[.string qs, .int .i64 y] 30 (0, 0))) := heap_set HP2.out _
              clear P1 d1 fz2 HP2
              generalize (w2.setCell ⟨w1.heap.size, 1, none⟩ (.int .i64 y)).drew = w3 at *
              go_wp2
              go_roundw
              case rel => exact ⟨j + 1, y, by go_num, by omega, by omega, hb3, HP3.out, HS2⟩
              case measure => simp [intOf]; omega
          · have hE := neq_list hk
            have hjd : decide ((j : Int) < (n : Int)) = true := decide_eq_true (by omega)
            have HEND : Hid (Ends (grp kind (l.take j)) l j) := by
              show Ends _ _ _
              rw [HJ.out]
              refine ends_of (.inr fun p hp => ?_)
              rw [HQ.out, Option.some.injEq] at hp
              subst hp
              exact fun e => hk e.symm
            clear HS HQ
            go_wp2
            go_quiet (fail)
            go_wp2_with (at_builtin; refine Hid.out ?_)
            refine Lib.hid ?_
            have hbq2 := blw_step hbq (blw_step (blw_drewN wr nq) (blw_box (.cells #[.string ps, .int .i64 x] 30)))
            refine wpList_append_pairs (w0 := w) rfl (.tmp 44) (.tmp 46) rfl _ G rfl (owns_blw HO.out hbq2) (.slice (some ⟨wr.heap.size, 0, none⟩) 1 1) [(ps, x)] rfl (isPairs_one ps x _ _ (by simp)) (by simp; omega) (blw_step hb hbq2) ?_
            intro v2 w2 hown2 hb2
            have HO2 : Hid (w2.ownsRow w.heap.size 30 2 v2 (grp kind (l.take j)).length (cellsP (grp kind (l.take j)))) := by rw [HJ.out]; exact hown2
            clear P0 P1 fz HP d0 d1 hE hk HO HC hown2
            go_wp2
            go_roundw
            case rel => exact ⟨j, rfl, by omega, hb2, HO2, HEND⟩
            case measure => simp [intOf]; omega
        · have hjd : decide ((j : Int) < (n : Int)) = false := decide_eq_false (by omega)
          have HEND : Hid (Ends (grp kind (l.take j)) l j) := by
            show Ends _ _ _
            rw [HJ.out]
            exact ends_of (.inl (by have := HN.out; omega))
          have hjn' : j = n := by omega
          have HJN := Lib.hid hjn'
          clear hjn'
          go_wp2
          go_quiet (fail)
          go_wp2_with (at_builtin; refine Hid.out ?_)
          refine Lib.hid ?_
          have hbq2 := blw_step hbq (blw_step (blw_drewN wr nq) (blw_box (.cells #[.string ps, .int .i64 x] 30)))
          refine wpList_append_pairs (w0 := w) rfl (.tmp 44) (.tmp 46) rfl _ G rfl (owns_blw HO.out hbq2) (.slice (some ⟨wr.heap.size, 0, none⟩) 1 1) [(ps, x)] rfl (isPairs_one ps x _ _ (by simp)) (by simp; omega) (blw_step hb hbq2) ?_
          intro v2 w2 hown2 hb2
          have HO2 : Hid (w2.ownsRow w.heap.size 30 2 v2 (grp kind (l.take j)).length (cellsP (grp kind (l.take j)))) := by rw [HJ.out]; exact hown2
          clear P0 P1 fz HP HO HC hown2
          go_wp2
          go_roundw
          case rel => exact ⟨j, rfl, by omega, hb2, HO2, HEND⟩
          case measure => simp [intOf]; omega
    · have hfin : Hid (wr.ownsRow w.heap.size 30 2 u5 (grp kind l).length (cellsP (grp kind l))) := by
        have h1 := HO.out
        rw [List.take_of_length_le (by have := HN.out; omega)] at h1
        exact h1
      clear HC HO HE
      go_wp2
      go_ret
      exact ⟨_, rfl, hfin.out, hb⟩
theorem grouped_any (kind : Int) (v : Value) (l : List (ByteArray × Int)) (w : World) (h : IsPairs w v l) (hl : l.length ≤ 1000000) :
    Calls Tryd.prog 26 #[.int .i64 kind, v] w fun e w' => ∃ u, e = .returned u ∧ IsPairs w' u (grp kind l) ∧ Below w.heap.size w w' :=
  (grouped_own kind v l w h hl).mono fun _ _ ⟨u, h1, h2, h3⟩ => ⟨u, h1, owns_isPairs h2, h3⟩
end Go.Proofs.YtapflhndpcgdiaaDoor
