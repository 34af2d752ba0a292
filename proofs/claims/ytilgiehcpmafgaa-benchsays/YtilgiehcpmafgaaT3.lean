/- Tasks: what a worker had mapped is lost. -/
import Derived.Test.YtilgiehcpmafgaaT2
namespace Go.Proofs.Ytilgiehcpmafgaa
open Go.ChangeShapes Go.WideShapes Go.ChangeAt Go.RowKit
namespace Tk
/-- Behind the first k parts: what they are, which ones were lost. -/
def lk (a c : List Int) (m : Int) : Nat → List Int × List Int
  | 0 => (a, [])
  | k + 1 => if (lk a c m k).1.getD k 0 = 2 ∧ c.getD k 0 = m then ((lk a c m k).1.set k 0, (lk a c m k).2 ++ [(k : Int)]) else lk a c m k
theorem lk_len (a c : List Int) (m : Int) (k : Nat) : (lk a c m k).1.length = a.length ∧ (lk a c m k).2.length ≤ k := by
  induction k with
  | zero => simp [lk]
  | succ k ih =>
    unfold lk
    split
    · simp; omega
    · omega
end Tk
open Tk
theorem IsT.grown {T : TypeId} {w w' : World} {lo hi P : Nat} {va vb vc v : Value} {a b c : List Int} (h : IsT T w lo hi P va vb vc a b c) (hg : w.grownBy w' v.ownBlock) (hv : ∀ k, v.ownBlock = some k → hi ≤ k) : IsT T w' lo hi P va vb vc a b c := by
  have key : ∀ j, j < hi → j < w.heap.size → w'.heap[j]? = w.heap[j]? := fun j h2 h3 => hg.block j h3 (fun e => by have := hv j e.symm; omega)
  exact { h with
    row := (key P h.phi h.row.lt).trans h.row
    oa := owns_same h.oa fun j hj => key j (h.ha j hj) (owns_lt h.oa hj).2
    ob := owns_same h.ob fun j hj => key j (h.hb j hj) (owns_lt h.ob hj).2
    oc := owns_same h.oc fun j hj => key j (h.hc j hj) (owns_lt h.oc hj).2 }
theorem Win.grown {lo hi : Nat} {W w w' : World} {v : Value} (h : Win lo hi W w) (hg : w.grownBy w' v.ownBlock) (hv : ∀ k, v.ownBlock = some k → W.heap.size ≤ k) : Win lo hi W w' :=
  ⟨hg.os.trans h.os, hg.tape.trans h.tape, hg.output.trans h.output, Nat.le_trans h.size hg.size, fun k hk hk' => (hg.block k (Nat.lt_of_lt_of_le hk h.size) (fun e => by have := hv k e.symm; omega)).trans (h.block k hk hk')⟩
theorem Win.alloc {lo hi : Nat} {W w : World} (h : Win lo hi W w) (o : Obj) : Win lo hi W (w.alloc o) := h.trans (Win.of_blw (blw_box o))
theorem owns_win {w w' : World} {lo hi base : Nat} {e : TypeId} {size : Nat} {v : Value} {n : Nat} {xs : List Value} (h : w.ownsRow base e size v n xs) (k : Win lo hi w w') (hb : hi ≤ base) : w'.ownsRow base e size v n xs :=
  owns_same h fun j hj => k.block j (owns_lt h hj).2 (.inr (Nat.le_trans hb (owns_lt h hj).1))
theorem owns_setCell {w : World} {base g i : Nat} {e : TypeId} {size : Nat} {v : Value} {n : Nat} {xs : List Value} {x : Value} (h : w.ownsRow base e size v n xs) (hg : g < base) : (w.setCell ⟨g, i, none⟩ x).ownsRow base e size v n xs :=
  owns_same h fun j hj => Below.heap_setCell w ⟨g, i, none⟩ x j (by have := (owns_lt h hj).1; show j ≠ g; omega)
/-- What is lost, and what is left, said of an ending. -/
def LostSaid (T : TypeId) (lo hi P : Nat) (va vb vc : Value) (a b c : List Int) (m : Int) (w : World) (e : Ending) (w' : World) : Prop :=
  ∃ v, e = .returned v ∧ w'.ownsRow w.heap.size 3 1 v (lk a c m a.length).2.length (cellsI (lk a c m a.length).2) ∧ IsT T w' lo hi P va vb vc (lk a c m a.length).1 b c ∧ Win lo hi w w'
set_option maxRecDepth 100000 in
set_option maxHeartbeats 2000000 in
theorem lose_any {lo hi P : Nat} {va vb vc : Value} {a b c : List Int} (w : World) (h : IsT 70 w lo hi P va vb vc a b c) (hw : hi ≤ w.heap.size) (m : Int) :
    Calls Try.prog 15 #[.pointer (some ⟨P, 0, none⟩), .int .i64 m] w fun e w' => LostSaid 70 lo hi P va vb vc a b c m w e w' := by
  obtain ⟨i0, hi0, hz0, hz1, hz2⟩ := info_parts infoInt
  have H := Lib.hid h
  have C0 := h.row.at (i := 0) (v := va) rfl
  have hsm := h.small
  obtain ⟨ao, cap, ea⟩ := h.sa
  obtain ⟨n, hn⟩ : ∃ n, n = a.length := ⟨_, rfl⟩
  have HN := Lib.hid hn
  rw [ea] at C0
  rw [← hn] at C0 ea hsm
  have HEA := Lib.hid ea
  clear h ea hn
  go_enter Try.func15, Try.ntmps15
  go_wp2
  go_loopw [5, 6, 7, 13] (fun lv _ _ kv wr => ∃ k : Nat, k ≤ n ∧ kv = .int .i64 k ∧ Hid (wr.ownsRow w.heap.size 3 1 lv (lk a c m k).2.length (cellsI (lk a c m k).2) ∧ IsT 70 wr lo hi P va vb vc (lk a c m k).1 b c ∧ Win lo hi w wr)) (fun _ _ _ kv _ => n - (intOf kv).toNat)
  case atStart => exact ⟨0, Nat.zero_le _, rfl, World.ownsRow_nil _ _ _ _, H.out, Win.refl _ _ _⟩
  case round =>
    obtain ⟨k, hk, rfl, HH⟩ := hrel
    have hlk := lk_len a c m k
    clear C0
    by_cases hlt : k < n
    · obtain ⟨ho, hT, hW⟩ := HH.out
      have hka : k < (lk a c m k).1.length := by have := HN.out; omega
      have hkc : k < c.length := by omega
      obtain ⟨g, cap1, hv, c0, f0, hg1, hg2, hS⟩ := hT.setA hka
      have HS := Lib.hid hS
      obtain ⟨g3, cap3, hv3, c3, f3, hg5, hg6, _⟩ := hT.setC hkc
      have p0 := hT.row.at (i := 0) (v := va) rfl
      have p2 := hT.row.at (i := 2) (v := vc) rfl
      have hal : (lk a c m k).1.length = n := by have := HN.out; omega
      rw [hal] at hv
      have hea := HEA.out
      rw [hv] at hea
      injection hea with e1 e2 e3
      subst e1 e3
      rw [hv] at p0
      rw [hv3] at p2
      have HST : Hid (lk a c m (k + 1) = if (lk a c m k).1[k] = 2 ∧ c[k] = m then ((lk a c m k).1.set k 0, (lk a c m k).2 ++ [(k : Int)]) else lk a c m k) := by
        show _ = _
        rw [lk, getD_at _ _ hka, getD_at _ _ hkc]
      have HO := Lib.hid ho
      have HT := Lib.hid hT
      have HW := Lib.hid hW
      have hl2 := hlk.2
      have hcl : c.length ≤ 60 := by omega
      clear hv hv3 hS ho hT hW HH hlk hal e2
      generalize (lk a c m k).1[k] = x at *
      generalize c[k] = y at *
      cases gx : x == 2 with
      | false =>
        have HST' : Hid (lk a c m (k + 1) = lk a c m k) := by
          show _ = _
          rw [HST.out, if_neg (fun h => by rw [h.1] at gx; simp at gx)]
        clear HST
        go_wp2
        go_roundw
        case rel => exact ⟨k + 1, by omega, by go_num, by rw [HST'.out]; exact ⟨HO.out, HT.out, HW.out⟩⟩
        case measure => simp [intOf]; omega
      | true =>
        cases gy : y == m with
        | false =>
          have HST' : Hid (lk a c m (k + 1) = lk a c m k) := by
            show _ = _
            rw [HST.out, if_neg (fun h => by rw [h.2] at gy; simp at gy)]
          clear HST
          go_wp2
          go_roundw
          case rel => exact ⟨k + 1, by omega, by go_num, by rw [HST'.out]; exact ⟨HO.out, HT.out, HW.out⟩⟩
          case measure => simp [intOf]; omega
        | true =>
          have HST' : Hid (lk a c m (k + 1) = ((lk a c m k).1.set k 0, (lk a c m k).2 ++ [(k : Int)])) := by
            show _ = _
            rw [HST.out, if_pos ⟨by simpa using gx, by simpa using gy⟩]
          have HO2 : Hid ((wr.setCell ⟨g, k, none⟩ (.int .i64 0)).ownsRow w.heap.size 3 1 u5 (lk a c m k).2.length (cellsI (lk a c m k).2)) := owns_setCell HO.out (by omega)
          have HT2 := Lib.hid (HS.out 0)
          have HW2 : Hid (Win lo hi w (wr.setCell ⟨g, k, none⟩ (.int .i64 0))) := HW.out.store _ hg1 hg2
          clear HST HS HO HT HW
          go_wp2_with (at_builtin; refine Hid.out ?_)
          refine Lib.hid ?_
          have hsz : wr.heap.size = (wr.setCell ⟨g, k, none⟩ (.int .i64 0)).heap.size := (World.size_setCell _ _ _).symm
          generalize wr.setCell ⟨g, k, none⟩ (.int .i64 0) = w3 at *
          generalize lk a c m k = R at *
          have hbs : w.heap.size ≤ w3.heap.size := HW2.out.size
          refine wpList_append_own _ rfl (.tmp 37) (.tmp 39) 42 rfl w.heap.size 3 i0 (.int .i64 0) 1 8 Try.underlying42 hi0 hz0 hz1 hz2 rfl (by decide) _ _ _ rfl (HO2.out.alloc _) ⟨wr.heap.size, 0, none⟩ 1 1 (cellsI [(k : Int)]) rfl rfl ?c1 (cellsI_one _) ?c2 ?c3 ?c4 ?_
          case c1 => exact lit_cells hsz (show 1 ≤ maxLen by decide)
          case c2 => unfold maxLen; omega
          case c3 => omega
          case c4 => simp; omega
          intro v4 w4 hown4 hg4 _
          have hvb : ∀ k, u5.ownBlock = some k → w.heap.size ≤ k := fun k hk => (owns_lt HO2.out hk).1
          have HT4 : Hid (IsT 70 w4 lo hi P va vb vc (R.1.set k 0) b c) := (HT2.out.blw (blw_box _)).grown hg4 (fun k hk => Nat.le_trans hw (hvb k hk))
          have HW4 : Hid (Win lo hi w w4) := (HW2.out.alloc _).grown hg4 hvb
          have HO4 : Hid (w4.ownsRow w.heap.size 3 1 v4 (R.2 ++ [(k : Int)]).length (cellsI (R.2 ++ [(k : Int)]))) := by
            show World.ownsRow _ _ _ _ _ _ _
            rw [cellsI_append, List.length_append]
            exact hown4
          clear HO2 HT2 HW2 hown4 hg4 p0 p2 c0 f0 c3 f3
          go_wp2
          go_roundw
          case rel => exact ⟨k + 1, by omega, by go_num, by rw [HST'.out]; exact ⟨HO4.out, HT4.out, HW4.out⟩⟩
          case measure => simp [intOf]; omega
    · have hkn : k = a.length := by have := HN.out; omega
      have HF : Hid (LostSaid 70 lo hi P va vb vc a b c m w (.returned u5) wr) := by
        obtain ⟨ho, hT, hW⟩ := HH.out
        rw [hkn] at ho hT
        exact ⟨_, rfl, ho, hT, hW⟩
      clear HH hkn
      go_wp2
      go_ret
      exact HF.out
end Go.Proofs.Ytilgiehcpmafgaa
