/- Contract of threshfloorref.Sorted. -/
import Derived.Test.YtapflhndpcgdiaaDoorSort
import Derived.Laws.NewBlocks
namespace Go.Proofs.YtapflhndpcgdiaaDoor
open Go.ChangeShapes Go.WideShapes Go.ChangeAt Go.RowKit
open Stable
set_option maxRecDepth 100000 in
set_option maxHeartbeats 4000000 in
theorem sorted_any (v : Value) (l : List (ByteArray × Int)) (w : World) (h : IsPairs w v l) (hl : l.length ≤ 1000000) :
    Calls Tryd.prog 46 #[v] w fun e w' => ∃ u Z, e = .returned u ∧ Sorted Z ∧ SE l Z ∧ Z.length = l.length ∧ IsPairs w' u Z ∧ Below w.heap.size w w' := by
  have H := Lib.hid h
  have HLEN := Lib.hid hl
  obtain ⟨ao, cap, hv, _⟩ := h
  obtain ⟨n, hn⟩ : ∃ n, n = l.length := ⟨_, rfl⟩
  subst hv
  rw [← hn] at H hl ⊢
  have HN := Lib.hid hn
  clear hn
  go_enter Tryd.func46, Tryd.ntmps46
  go_wp2_with (at_builtin; refine Hid.out ?_)
  refine Lib.hid ?_
  refine wpList_append_pairs (w0 := w) rfl (.const (.slice none 0 0)) (.tmp 7) rfl (.slice none 0 0) [] rfl (owns_nil _ _) (.slice ao n cap) l rfl H.out (by have := HLEN.out; simp; omega) (Below.refl _ _) ?_
  intro v1 w1 hown hb1
  rw [List.nil_append] at hown
  cases l with
  | nil =>
    have hn0 : n = 0 := HN.out
    obtain ⟨a1, c1, rfl⟩ : ∃ a1 c1, v1 = .slice a1 0 c1 := by
      rcases owns_row hown with ⟨rfl, _⟩ | ⟨g, c, rfl, _⟩
      · exact ⟨_, _, rfl⟩
      · exact ⟨_, _, rfl⟩
    clear hown hn0
    go_wp2_with fail
    go_loopw [4, 5, 6] (fun iv _ _ wr => iv = .int .i64 1 ∧ wr = w1) (fun _ _ _ _ => 0)
    case atStart => exact ⟨rfl, rfl⟩
    case round =>
      obtain ⟨rfl, rfl⟩ := hrel
      go_wp2
      go_ret
      exact ⟨_, [], rfl, List.Pairwise.nil, SE.refl _, HN.out.symm, isPairs_zero _ _ _, hb1⟩
  | cons s0 S0 =>
    obtain ⟨g, cap1, rfl, hgw, hrow0⟩ : ∃ g cap1, v1 = .slice (some ⟨g, 0, none⟩) n cap1 ∧ w.heap.size ≤ g ∧ Row g (s0 :: S0) w1 := by
      rcases owns_row hown with ⟨_, h⟩ | ⟨g, c, h1, h2, h3⟩
      · cases h
      · exact ⟨g, c, by rw [HN.out]; exact h1, h2, h3⟩
    clear hown
    go_wp2_with fail
    go_loopw [4, 5, 6] (fun iv _ _ wr => ∃ (i : Nat) (E D R : List (ByteArray × Int)), iv = .int .i64 i ∧ i ≤ n ∧ Only g w1 wr ∧ Row g (D ++ R) wr ∧ Hid (s0 :: S0 = E ++ R ∧ SE E D ∧ Sorted D ∧ E.length = D.length ∧ i = 0 + D.length ∧ 0 < D.length)) (fun iv _ _ _ => n - (intOf iv).toNat)
    case atStart => exact ⟨1, [s0], [s0], S0, by go_num, by have := HN.out; simp at this; omega, Only.refl _ _, by simpa using hrow0, ⟨rfl, SE.refl _, List.pairwise_singleton _ _, rfl, rfl, by simp⟩⟩
    case round =>
      obtain ⟨i, E, D, R, rfl, hib, ho, hrow, HD⟩ := hrel
      clear hrow0
      by_cases hlt : i < n
      · obtain ⟨x, R', rfl⟩ : ∃ x R', R = x :: R' := by
          cases R with
          | nil =>
            have h1 := HD.out
            have h2 := congrArg List.length h1.1
            have h4 := HN.out
            simp at h2 h4
            omega
          | cons x R' => exact ⟨x, R', rfl⟩
        go_wp2_with fail
        go_loopw [5, 6] (fun jv _ wr2 => ∃ (j : Nat) (D1 D2 : List (ByteArray × Int)), jv = .int .i64 j ∧ j < n ∧ Only g w1 wr2 ∧ Row g (D1 ++ x :: D2 ++ R') wr2 ∧ Hid (D = D1 ++ D2 ∧ j = D1.length ∧ ∀ d ∈ D2, bl (key x) (key d) = true)) (fun jv _ _ => (intOf jv).toNat)
        case atStart => exact ⟨i, D, [], rfl, hlt, ho, by simpa using hrow, ⟨by simp, by have := HD.out.2.2.2.2.1; omega, by simp⟩⟩
        case round =>
          obtain ⟨j, D1, D2, rfl, hjn, ho2, hrow2, HD2⟩ := hrel
          clear hrow ho
          rcases List.eq_nil_or_concat D1 with hD1 | ⟨D3, d, hD1⟩
          · subst hD1
            have hj0 : j = 0 := by have := HD2.out.2.1; simpa using this
            have hg : decide (0 < j) = false := by simp; omega
            have HNX := Lib.hid (ins_step HD.out HD2.out.1 HD2.out.2.2 (by simp))
            subst hj0
            go_wp2
            go_quiet (fail)
            have HO : Only g w1 (wr.drewN nq) := ho2.trans (Only.of_below (below_drewNs wr nq))
            have HR : Row g (([] ++ x :: D2) ++ R') (wr.drewN nq) := hrow2.keep rfl
            generalize wr.drewN nq = w3 at *
            go_wp2
            go_roundw
            case rel => exact ⟨i + 1, E ++ [x], [] ++ x :: D2, R', by go_num, by omega, HO, HR, HNX⟩
            case measure => simp [intOf]; omega
          · rw [List.concat_eq_append] at hD1
            subst hD1
            have hd2 := HD2.out
            have hjl : j = D3.length + 1 := by have := hd2.2.1; simp at this; omega
            have hg : decide (0 < j) = true := by simp; omega
            have e1 : IntKind.i64.wrap ((j : Int) - 1) = ((j - 1 : Nat) : Int) := by rw [wrap_small _ (by omega) (by omega)]; omega
            have eR : D3 ++ [d] ++ x :: D2 ++ R' = D3 ++ d :: ([] ++ x :: (D2 ++ R')) := by simp
            rw [eR] at hrow2
            obtain ⟨⟨d0, d1, x0, x1⟩, _, hsw⟩ := hrow2.two (j - 1) j (by omega) (by simp; omega)
            have hj1 : j - 1 < n := by omega
            have hj0 : 0 < j := by omega
            have HJ := Lib.hid hjl
            clear hjl
            cases hc : bl (key x) (key d) with
            | false =>
              have hcm : Op.bytesLess x.1.toList d.1.toList = false := hc
              have HNX := Lib.hid (ins_step HD.out hd2.1 hd2.2.2 (last_le (by have h5 := HD.out.2.2.1; rw [hd2.1] at h5; exact (sorted_append.1 h5).1) hc))
              clear hd2 hsw
              go_wp2
              go_quiet (fail)
              have HO : Only g w1 (wr.drewN nq) := ho2.trans (Only.of_below (below_drewNs wr nq))
              have HR : Row g (((D3 ++ [d]) ++ x :: D2) ++ R') (wr.drewN nq) := by rw [eR]; exact hrow2.keep rfl
              generalize wr.drewN nq = w3 at *
              clear d0 d1 x0 x1 hrow2
              go_wp2
              go_roundw
              case rel => exact ⟨i + 1, E ++ [x], (D3 ++ [d]) ++ x :: D2, R', by go_num, by omega, HO, HR, HNX⟩
              case measure => simp [intOf]; omega
            | true =>
              have hcm : Op.bytesLess x.1.toList d.1.toList = true := hc
              clear hd2 hsw
              go_wp2
              go_quiet (fail)
              have HO : Only g w1 (wr.drewN nq) := ho2.trans (Only.of_below (below_drewNs wr nq))
              have HR : Row g (D3 ++ d :: ([] ++ x :: (D2 ++ R'))) (wr.drewN nq) := hrow2.keep rfl
              generalize wr.drewN nq = w3 at *
              clear d0 d1 x0 x1 hrow2 ho2
              have hgs : g < w3.heap.size := HR.lt
              obtain ⟨⟨d0, d1, x0, x1⟩, _, hsw⟩ := HR.two (j - 1) j (by have := HJ.out; omega) (by have := HJ.out; simp; omega)
              have fz := HR.frozen
              have hne : ¬ g = w3.heap.size := by omega
              have HS2 := Lib.hid (hsw.below ((Below.refl _ _).alloc (Nat.le_refl _) (.cells #[.string x.1, .int .i64 x.2] 30)))
              have HO2 := Lib.hid (((((HO.setCell (j * 2) (.string d.1)).setCell (j * 2 + 1) (.int .i64 d.2)).setCell ((j - 1) * 2) (.string x.1)).setCell ((j - 1) * 2 + 1) (.int .i64 x.2)).trans (Only.of_below ((Below.refl _ _).alloc (Nat.le_refl _) (.cells #[.string x.1, .int .i64 x.2] 30))))
              clear HR HO hsw
              go_wp2
              refine ⟨⟨j - 1, D3, d :: D2, rfl, by omega, HO2.out, by have h := HS2.out; simpa using h, ⟨by rw [HD2.out.1]; simp, by have := HJ.out; omega, fun y hy => (List.mem_cons.1 hy).elim (fun e => by rw [e]; exact hc) (fun h => HD2.out.2.2 y h)⟩⟩, ?_⟩
              simp [intOf]; omega
      · have hd := HD.out
        have hR : R = [] := by
          have h2 := congrArg List.length hd.1
          have h4 := HN.out
          simp at h2 h4
          exact List.eq_nil_of_length_eq_zero (by omega)
        subst hR
        have hfin : Hid (∃ S', Sorted S' ∧ SE (s0 :: S0) S' ∧ S'.length = n ∧ Row g S' wr) := by
          refine ⟨D, hd.2.2.1, ?_, ?_, by simpa using hrow⟩
          · rw [hd.1]; simpa using hd.2.1
          · have h4 := HN.out; rw [h4, hd.1]; simp; exact hd.2.2.2.1.symm
        clear hrow hd
        go_wp2
        go_ret
        obtain ⟨S', z1, z2, z3, z4⟩ := hfin.out
        exact ⟨_, S', rfl, z1, z2, z3, z4.isPairs z3.symm, below_of_only hb1 hgw ho⟩
end Go.Proofs.YtapflhndpcgdiaaDoor
