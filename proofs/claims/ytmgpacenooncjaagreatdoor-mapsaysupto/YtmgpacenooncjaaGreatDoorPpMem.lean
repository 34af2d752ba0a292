/- A row of pairs in memory of the call's own: read, written, swapped; swapRange and rotate of package slices. -/
import Derived.Test.YtmgpacenooncjaaGreatDoorPpBase
import Derived.Test.YtmgpacenooncjaaGreatDoorPpOnl
import Derived.Test.YtmgpacenooncjaaGreatDoorPpStable
import Derived.RegionTactic
import Derived.BigRegion
import Derived.Lib.QuietBelow
namespace Go.Proofs.YtmgpacenooncjaaGreatDoor.Pp
open Go.ChangeShapes Go.WideShapes Go.ChangeAt Go.RowKit

/-- The cells that pairs fill. -/
def cellsP (l : List (ByteArray × Int)) : List Value := l.flatMap fun p => [.string p.1, .int .i64 p.2]
theorem cellsP_length (l : List (ByteArray × Int)) : (cellsP l).length = l.length * 2 := by
  induction l with
  | nil => rfl
  | cons p l ih => simp only [cellsP, List.flatMap_cons, List.length_append, List.length_cons, List.length_nil] at *; omega
theorem cellsP_at (l : List (ByteArray × Int)) : ∀ (i : Nat) (h : i < l.length), (cellsP l)[i * 2]? = some (.string l[i].1) ∧ (cellsP l)[i * 2 + 1]? = some (.int .i64 l[i].2) := by
  induction l with
  | nil => intro i h; simp at h
  | cons p l ih =>
    intro i h
    cases i with
    | zero => exact ⟨rfl, rfl⟩
    | succ i =>
      have h' : i < l.length := by simpa using h
      have e : cellsP (p :: l) = .string p.1 :: .int .i64 p.2 :: cellsP l := rfl
      rw [e, show (i + 1) * 2 = i * 2 + 1 + 1 by omega]
      simpa using ih i h'
theorem cellsP_set (l : List (ByteArray × Int)) : ∀ (i : Nat) (s : ByteArray) (m : Int), i < l.length → ((cellsP l).set (i * 2) (.string s)).set (i * 2 + 1) (.int .i64 m) = cellsP (l.set i (s, m)) := by
  induction l with
  | nil => intro i s m h; simp at h
  | cons p l ih =>
    intro i s m h
    cases i with
    | zero => rfl
    | succ i =>
      have h' : i < l.length := by simpa using h
      have e : cellsP (p :: l) = .string p.1 :: .int .i64 p.2 :: cellsP l := rfl
      have e2 : cellsP (p :: l.set i (s, m)) = .string p.1 :: .int .i64 p.2 :: cellsP (l.set i (s, m)) := rfl
      rw [List.set_cons_succ, e, e2, show (i + 1) * 2 = i * 2 + 1 + 1 by omega, List.set_cons_succ, List.set_cons_succ, List.set_cons_succ, List.set_cons_succ, ih i s m h']
/-- Block g is a row that begins with these pairs. -/
def Row (g : Nat) (l : List (ByteArray × Int)) (w : World) : Prop := ∃ cur : Array Value, w.heap[g]? = some (.cells cur 67 (0, 0)) ∧ cur.toList.take (l.length * 2) = cellsP l
theorem Row.len {l : List (ByteArray × Int)} {cur : Array Value} (h : cur.toList.take (l.length * 2) = cellsP l) : l.length * 2 ≤ cur.size := by
  have := congrArg List.length h
  simp only [List.length_take, cellsP_length, Array.length_toList] at this
  omega
theorem Row.at {g : Nat} {l : List (ByteArray × Int)} {w : World} (h : Row g l w) (i : Nat) (hi : i < l.length) : w.cell? ⟨g, i * 2, none⟩ = some (.string l[i].1) ∧ w.cell? ⟨g, i * 2 + 1, none⟩ = some (.int .i64 l[i].2) := by
  obtain ⟨cur, hc, ht⟩ := h
  obtain ⟨a, b⟩ := cellsP_at l i hi
  rw [← ht, List.getElem?_take, if_pos (by omega)] at a b
  rw [cell_of_row w g _ cur _ (0, 0) hc, cell_of_row w g _ cur _ (0, 0) hc]
  rw [Array.getElem?_toList] at a b
  exact ⟨a, b⟩
theorem Row.frozen {g : Nat} {l : List (ByteArray × Int)} {w : World} (h : Row g l w) (j : Nat) : w.frozen? ⟨g, j, none⟩ = false := by
  obtain ⟨cur, hc, _⟩ := h
  exact frozen_of_row w g j cur _ hc
theorem Row.lt {g : Nat} {l : List (ByteArray × Int)} {w : World} (h : Row g l w) : g < w.heap.size := by
  obtain ⟨cur, hc, _⟩ := h
  exact (Array.getElem?_eq_some_iff.1 hc).1
theorem Row.keep {g : Nat} {l : List (ByteArray × Int)} {w w' : World} (h : Row g l w) (hk : w'.heap[g]? = w.heap[g]?) : Row g l w' := by
  obtain ⟨cur, hc, ht⟩ := h
  exact ⟨cur, hk.trans hc, ht⟩
theorem Row.below {g : Nat} {l : List (ByteArray × Int)} {w w' : World} (h : Row g l w) (hb : Below w.heap.size w w') : Row g l w' := h.keep (hb.block g h.lt)
theorem Row.store {g : Nat} {l : List (ByteArray × Int)} {w : World} (h : Row g l w) (i : Nat) (hi : i < l.length) (s : ByteArray) (m : Int) :
    Row g (l.set i (s, m)) ((w.setCell ⟨g, i * 2, none⟩ (.string s)).setCell ⟨g, i * 2 + 1, none⟩ (.int .i64 m)) := by
  obtain ⟨cur, hc, ht⟩ := h
  refine ⟨_, heap_set (heap_set hc _) _, ?_⟩
  rw [List.length_set, Array.toList_setIfInBounds, Array.toList_setIfInBounds, List.take_set, List.take_set, ht, cellsP_set l i s m hi]
theorem set_at {α : Type} (A : List α) (x y : α) (B : List α) (i : Nat) (h : i = A.length) : (A ++ x :: B).set i y = A ++ y :: B := by
  subst h; simp
theorem get_at {α : Type} (A : List α) (x : α) (B : List α) (i : Nat) (h : i = A.length) (hi : i < (A ++ x :: B).length) : (A ++ x :: B)[i] = x := by
  subst h; simp
/-- Two places of a row: what they hold, and the row when they have been swapped, whichever is written first. -/
theorem Row.two {g : Nat} {A B C : List (ByteArray × Int)} {x y : ByteArray × Int} {w : World} (h : Row g (A ++ x :: (B ++ y :: C)) w) (i j : Nat) (hi : i = A.length) (hj : j = A.length + 1 + B.length) :
    (w.cell? ⟨g, i * 2, none⟩ = some (.string x.1) ∧ w.cell? ⟨g, i * 2 + 1, none⟩ = some (.int .i64 x.2) ∧ w.cell? ⟨g, j * 2, none⟩ = some (.string y.1) ∧ w.cell? ⟨g, j * 2 + 1, none⟩ = some (.int .i64 y.2)) ∧
    Row g (A ++ y :: (B ++ x :: C)) ((((w.setCell ⟨g, i * 2, none⟩ (.string y.1)).setCell ⟨g, i * 2 + 1, none⟩ (.int .i64 y.2)).setCell ⟨g, j * 2, none⟩ (.string x.1)).setCell ⟨g, j * 2 + 1, none⟩ (.int .i64 x.2)) ∧
    Row g (A ++ y :: (B ++ x :: C)) ((((w.setCell ⟨g, j * 2, none⟩ (.string x.1)).setCell ⟨g, j * 2 + 1, none⟩ (.int .i64 x.2)).setCell ⟨g, i * 2, none⟩ (.string y.1)).setCell ⟨g, i * 2 + 1, none⟩ (.int .i64 y.2)) := by
  have li : i < (A ++ x :: (B ++ y :: C)).length := by simp; omega
  have lj : j < (A ++ x :: (B ++ y :: C)).length := by simp; omega
  have gx := get_at A x (B ++ y :: C) i hi li
  have e : A ++ x :: (B ++ y :: C) = (A ++ x :: B) ++ y :: C := by simp
  have gy : (A ++ x :: (B ++ y :: C))[j] = y := by
    have := get_at (A ++ x :: B) y C j (by simp; omega) (by simp; omega)
    exact (List.getElem_of_eq e lj).trans this
  obtain ⟨a0, a1⟩ := h.at i li
  obtain ⟨b0, b1⟩ := h.at j lj
  rw [gx] at a0 a1
  rw [gy] at b0 b1
  refine ⟨⟨a0, a1, b0, b1⟩, ?_, ?_⟩
  · have s1 := h.store i li y.1 y.2
    have s2 := s1.store j (by simpa using lj) x.1 x.2
    rw [set_at A x (y.1, y.2) _ i hi, show A ++ (y.1, y.2) :: (B ++ y :: C) = (A ++ y :: B) ++ y :: C by simp, set_at (A ++ y :: B) y (x.1, x.2) C j (by simp; omega)] at s2
    simpa using s2
  · have s1 := h.store j lj x.1 x.2
    have s2 := s1.store i (by simpa using li) y.1 y.2
    rw [e, set_at (A ++ x :: B) y (x.1, x.2) C j (by simp; omega), show (A ++ x :: B) ++ (x.1, x.2) :: C = A ++ x :: (B ++ x :: C) by simp, set_at A x (y.1, y.2) _ i hi] at s2
    simpa using s2

set_option maxRecDepth 100000 in
set_option maxHeartbeats 1000000 in
theorem swapRange_any (g n cap : Nat) (c : Value) (P X M Y Q : List (ByteArray × Int)) (w : World) (hr : Row g (P ++ X ++ M ++ Y ++ Q) w) (hn : n = (P ++ X ++ M ++ Y ++ Q).length) (hN : n ≤ 1000000) (a b k : Nat) (ha : a = P.length) (hX : X.length = k) (hY : Y.length = k) (hb : b = P.length + k + M.length) :
    Calls Tryz.prog 137 #[.slice (some ⟨g, 0, none⟩) n cap, .int .i64 a, .int .i64 b, .int .i64 k, c] w fun e w' => e = .returned (.tuple #[]) ∧ Row g (P ++ Y ++ M ++ X ++ Q) w' ∧ Only g w w' := by
  have hlen : n = P.length + k + M.length + k + Q.length := by rw [hn]; simp; omega
  have HN := Lib.hid hlen
  have HX := Lib.hid hX
  have HY := Lib.hid hY
  have HA := Lib.hid ha
  have HB := Lib.hid hb
  have hbn : b + k ≤ n := by omega
  have han : a + k ≤ b := by omega
  clear hn hX hY ha hb hlen
  go_enter Tryz.func137, Tryz.ntmps137
  go_wp2
  go_loopw [10] (fun iv wr => ∃ (i : Nat) (X1 X2 Y1 Y2 : List (ByteArray × Int)), i ≤ k ∧ iv = .int .i64 i ∧ Only g w wr ∧ Row g (P ++ (Y1 ++ X2) ++ M ++ (X1 ++ Y2) ++ Q) wr ∧ Hid (X = X1 ++ X2 ∧ Y = Y1 ++ Y2 ∧ X1.length = i ∧ Y1.length = i)) (fun iv _ => k - (intOf iv).toNat)
  case atStart => exact ⟨0, [], X, [], Y, Nat.zero_le _, rfl, Only.refl _ _, by simpa using hr, ⟨rfl, rfl, rfl, rfl⟩⟩
  case round =>
    obtain ⟨i, X1, X2, Y1, Y2, hi, rfl, ho, hrow, HD⟩ := hrel
    clear hr
    by_cases hlt : i < k
    · obtain ⟨x, X3, rfl⟩ : ∃ x X3, X2 = x :: X3 := by
        cases X2 with
        | nil => have := HD.out; have h2 := HX.out; rw [this.1] at h2; simp at h2; omega
        | cons x X3 => exact ⟨x, X3, rfl⟩
      obtain ⟨y, Y3, rfl⟩ : ∃ y Y3, Y2 = y :: Y3 := by
        cases Y2 with
        | nil => have := HD.out; have h2 := HY.out; rw [this.2.1] at h2; simp at h2; omega
        | cons y Y3 => exact ⟨y, Y3, rfl⟩
      have hd := HD.out
      have hXl : X1.length + 1 + X3.length = k := by have h2 := HX.out; rw [hd.1] at h2; simp at h2; omega
      have e : P ++ (Y1 ++ x :: X3) ++ M ++ (X1 ++ y :: Y3) ++ Q = (P ++ Y1) ++ x :: ((X3 ++ M ++ X1) ++ y :: (Y3 ++ Q)) := by simp
      rw [e] at hrow
      obtain ⟨⟨x0, x1, y0, y1⟩, hw, _⟩ := hrow.two (a + i) (b + i) (by rw [HA.out]; simp; omega) (by rw [HB.out]; simp; omega)
      have e1 : IntKind.i64.wrap ((a : Int) + (i : Int)) = ((a + i : Nat) : Int) := by rw [wrap_small _ (by omega) (by omega)]; rfl
      have e2 : IntKind.i64.wrap ((b : Int) + (i : Int)) = ((b + i : Nat) : Int) := by rw [wrap_small _ (by omega) (by omega)]; rfl
      have fz := hrow.frozen
      have h1n : a + i < n := by omega
      have h2n : b + i < n := by omega
      have hfin : Hid (Row g (P ++ (Y1 ++ [y] ++ X3) ++ M ++ (X1 ++ [x] ++ Y3) ++ Q) ((((wr.setCell ⟨g, (a + i) * 2, none⟩ (.string y.1)).setCell ⟨g, (a + i) * 2 + 1, none⟩ (.int .i64 y.2)).setCell ⟨g, (b + i) * 2, none⟩ (.string x.1)).setCell ⟨g, (b + i) * 2 + 1, none⟩ (.int .i64 x.2))) := by
        show Row _ _ _
        have e3 : P ++ (Y1 ++ [y] ++ X3) ++ M ++ (X1 ++ [x] ++ Y3) ++ Q = (P ++ Y1) ++ y :: ((X3 ++ M ++ X1) ++ x :: (Y3 ++ Q)) := by simp
        rw [e3]; exact hw
      have hon : Hid (Only g w ((((wr.setCell ⟨g, (a + i) * 2, none⟩ (.string y.1)).setCell ⟨g, (a + i) * 2 + 1, none⟩ (.int .i64 y.2)).setCell ⟨g, (b + i) * 2, none⟩ (.string x.1)).setCell ⟨g, (b + i) * 2 + 1, none⟩ (.int .i64 x.2))) := (((ho.setCell _ _).setCell _ _).setCell _ _).setCell _ _
      clear hw hrow hd
      go_wp2
      go_region
      have HO2 := hon.out.drew
      have HF2 : Row g (P ++ (Y1 ++ [y] ++ X3) ++ M ++ (X1 ++ [x] ++ Y3) ++ Q) _ := hfin.out.keep (w' := ((((wr.setCell ⟨g, (a + i) * 2, none⟩ (.string y.1)).setCell ⟨g, (a + i) * 2 + 1, none⟩ (.int .i64 y.2)).setCell ⟨g, (b + i) * 2, none⟩ (.string x.1)).setCell ⟨g, (b + i) * 2 + 1, none⟩ (.int .i64 x.2)).drew) rfl
      clear x0 x1 y0 y1 fz e1 e2 hfin hon
      generalize ((((wr.setCell ⟨g, (a + i) * 2, none⟩ (.string y.1)).setCell ⟨g, (a + i) * 2 + 1, none⟩ (.int .i64 y.2)).setCell ⟨g, (b + i) * 2, none⟩ (.string x.1)).setCell ⟨g, (b + i) * 2 + 1, none⟩ (.int .i64 x.2)).drew = w2 at *
      go_wp2
      go_roundw
      case rel => exact ⟨i + 1, X1 ++ [x], X3, Y1 ++ [y], Y3, by omega, by go_num, HO2, HF2, ⟨by have := HD.out.1; simp [this], by have := HD.out.2.1; simp [this], by have := HD.out.2.2.1; simp [this], by have := HD.out.2.2.2; simp [this]⟩⟩
      case measure => simp [intOf]; omega
    · have hd := HD.out
      have hX2 : X2 = [] := by have h2 := HX.out; rw [hd.1] at h2; simp at h2; exact List.eq_nil_of_length_eq_zero (by omega)
      have hY2 : Y2 = [] := by have h2 := HY.out; rw [hd.2.1] at h2; simp at h2; exact List.eq_nil_of_length_eq_zero (by omega)
      have hfin : Hid (Row g (P ++ Y ++ M ++ X ++ Q) wr) := by
        show Row _ _ _
        subst hX2 hY2
        rw [hd.1, hd.2.1]
        simpa using hrow
      clear hrow hd hX2 hY2
      go_wp2
      go_end0
      exact ⟨rfl, hfin.out, ho⟩

theorem split_len {α : Type} (l : List α) (k : Nat) (h : k ≤ l.length) : ∃ a b, l = a ++ b ∧ a.length = k ∧ b.length = l.length - k :=
  ⟨l.take k, l.drop k, (List.take_append_drop k l).symm, by simp; omega, by simp⟩
set_option maxRecDepth 100000 in
set_option maxHeartbeats 1000000 in
theorem rotate_any (g n cap : Nat) (c : Value) (P X Y Q : List (ByteArray × Int)) (w : World) (hr : Row g (P ++ X ++ Y ++ Q) w) (hn : n = (P ++ X ++ Y ++ Q).length) (hN : n ≤ 1000000) (a m b : Nat) (ha : a = P.length) (hm : m = P.length + X.length) (hb : b = P.length + X.length + Y.length) (hX : 0 < X.length) (hY : 0 < Y.length) :
    Calls Tryz.prog 130 #[.slice (some ⟨g, 0, none⟩) n cap, .int .i64 a, .int .i64 m, .int .i64 b, c] w fun e w' => e = .returned (.tuple #[]) ∧ Row g (P ++ Y ++ X ++ Q) w' ∧ Only g w w' := by
  have hlen : n = P.length + X.length + Y.length + Q.length := by rw [hn]; simp; omega
  have HN := Lib.hid hlen
  have hmn : m ≤ n := by omega
  have hbn : b ≤ n := by omega
  have ham : a < m := by omega
  have hmb : m < b := by omega
  have hi0 : (m : Int) - (a : Int) = (X.length : Int) := by omega
  have hj0 : (b : Int) - (m : Int) = (Y.length : Int) := by omega
  have HM : Hid (m = P.length + X.length) := hm
  clear hn ha hm hb hlen
  go_enter Tryz.func130, Tryz.ntmps130
  go_wp2_with fail
  go_loopw [10, 11] (fun iv jv wr => ∃ (i j : Nat) (P' U V Q' : List (ByteArray × Int)), iv = .int .i64 i ∧ jv = .int .i64 j ∧ 0 < i ∧ 0 < j ∧ i ≤ m ∧ m + j ≤ n ∧ Only g w wr ∧ Row g (P' ++ U ++ V ++ Q') wr ∧ Hid (P' ++ V ++ U ++ Q' = P ++ Y ++ X ++ Q ∧ U.length = i ∧ V.length = j ∧ P'.length + i = m)) (fun iv jv _ => (intOf iv).toNat + (intOf jv).toNat)
  case atStart =>
    refine ⟨X.length, Y.length, P, X, Y, Q, by first | rfl | rw [hi0] | simp [hi0], by first | rfl | rw [hj0] | simp [hj0], hX, hY, by have := HM.out; omega, by have := HM.out; have := HN.out; omega, Only.refl _ _, hr, ⟨rfl, rfl, rfl, by have := HM.out; omega⟩⟩
  case round =>
    obtain ⟨i, j, P', U, V, Q', rfl, rfl, h0i, h0j, him, hjn, ho, hrow, HD⟩ := hrel
    have hd := HD.out
    have HLEN : Hid (n = (P' ++ U ++ V ++ Q').length) := by
      show _ = _
      have h1 := congrArg List.length hd.1
      have h2 := HN.out
      simp at h1 ⊢
      omega
    clear hr
    by_cases hij : i = j
    · subst hij
      have C1 : Hid (Calls Tryz.prog 137 #[.slice (some ⟨g, 0, none⟩) n cap, .int .i64 ((m - i : Nat) : Int), .int .i64 m, .int .i64 i, c] wr fun e w' => e = .returned (.tuple #[]) ∧ Row g (P' ++ V ++ [] ++ U ++ Q') w' ∧ Only g wr w') :=
        swapRange_any g n cap c P' U [] V Q' wr (by simpa using hrow) (by rw [HLEN.out]; simp) hN (m - i) m i (by omega) hd.2.1 hd.2.2.1 (by simp; omega)
      have e1 : (m : Int) - (i : Int) = ((m - i : Nat) : Int) := by omega
      have hfin : Hid (P' ++ V ++ [] ++ U ++ Q' = P ++ Y ++ X ++ Q) := by rw [List.append_nil]; exact hd.1
      clear hrow hd
      go_wp2_with (go_at_call 137; refine Hid.out ?_)
      refine Lib.hid ?_
      refine C1.out.mono ?_
      rintro e w2 ⟨rfl, hr2, ho2⟩
      go_wp2
      go_end0
      refine ⟨rfl, ?_, ho.trans ho2⟩
      rw [← hfin.out]; exact hr2
    · have hij' : ((i : Int) == (j : Int)) = false := by simp; omega
      have hij2 : ((j : Int) == (i : Int)) = false := by simp; omega
      have e1 : (m : Int) - (i : Int) = ((m - i : Nat) : Int) := by omega
      by_cases hgt : j < i
      · obtain ⟨U1, U2, rfl, hU1, hU2⟩ := split_len U j (by omega)
        have C1 : Hid (Calls Tryz.prog 137 #[.slice (some ⟨g, 0, none⟩) n cap, .int .i64 ((m - i : Nat) : Int), .int .i64 m, .int .i64 j, c] wr fun e w' => e = .returned (.tuple #[]) ∧ Row g (P' ++ V ++ U2 ++ U1 ++ Q') w' ∧ Only g wr w') :=
          swapRange_any g n cap c P' U1 U2 V Q' wr (by simpa using hrow) (by rw [HLEN.out]; simp) hN (m - i) m j (by omega) hU1 hd.2.2.1 (by rw [hU2, hd.2.1]; omega)
        have HD2 : Hid ((P' ++ V) ++ U1 ++ U2 ++ Q' = P ++ Y ++ X ++ Q ∧ U2.length = i - j ∧ U1.length = j ∧ (P' ++ V).length + (i - j) = m) := by
          refine ⟨by rw [← hd.1]; simp, by rw [hU2, hd.2.1], hU1, by rw [List.length_append]; omega⟩
        have e3 : (i : Int) - (j : Int) = ((i - j : Nat) : Int) := by omega
        clear hrow hd HLEN
        go_wp2_with (go_at_call 137; refine Hid.out ?_)
        refine Lib.hid ?_
        refine C1.out.mono ?_
        rintro e w2 ⟨rfl, hr2, ho2⟩
        go_wp2
        go_roundw
        case rel => exact ⟨i - j, j, P' ++ V, U2, U1, Q', by first | rfl | rw [e3], rfl, by omega, h0j, by omega, hjn, ho.trans ho2, hr2, HD2⟩
        case measure => simp [intOf]; omega
      · obtain ⟨V1, V2, rfl, hV1, hV2⟩ := split_len V (j - i) (by omega)
        have C1 : Hid (Calls Tryz.prog 137 #[.slice (some ⟨g, 0, none⟩) n cap, .int .i64 ((m - i : Nat) : Int), .int .i64 ((m + j - i : Nat) : Int), .int .i64 i, c] wr fun e w' => e = .returned (.tuple #[]) ∧ Row g (P' ++ V2 ++ V1 ++ U ++ Q') w' ∧ Only g wr w') :=
          swapRange_any g n cap c P' U V1 V2 Q' wr (by simpa using hrow) (by rw [HLEN.out]; simp) hN (m - i) (m + j - i) i (by omega) hd.2.1 (by rw [hV2, hd.2.2.1]; omega) (by rw [hV1]; omega)
        have HD2 : Hid (P' ++ V1 ++ V2 ++ (U ++ Q') = P ++ Y ++ X ++ Q ∧ V2.length = i ∧ V1.length = j - i ∧ P'.length + i = m) := by
          refine ⟨by rw [← hd.1]; simp, by rw [hV2, hd.2.2.1]; omega, hV1, hd.2.2.2⟩
        have e2 : (m : Int) + (j : Int) - (i : Int) = ((m + j - i : Nat) : Int) := by omega
        have e3 : (j : Int) - (i : Int) = ((j - i : Nat) : Int) := by omega
        clear hrow hd HLEN
        go_wp2_with (go_at_call 137; refine Hid.out ?_)
        refine Lib.hid ?_
        refine C1.out.mono ?_
        rintro e w2 ⟨rfl, hr2, ho2⟩
        go_wp2
        go_roundw
        case rel => exact ⟨i, j - i, P', V2, V1, U ++ Q', rfl, by first | rfl | rw [e3], h0i, by omega, him, by omega, ho.trans ho2, by simpa using hr2, HD2⟩
        case measure => simp [intOf]; omega
end Go.Proofs.YtmgpacenooncjaaGreatDoor.Pp
