/- Benches: a task is put into a slot, a slot is freed. -/
import Derived.Test.YtilgiehcpmafgaaB3
namespace Go.Proofs.Ytilgiehcpmafgaa
open Go.ChangeShapes Go.WideShapes Go.ChangeAt Go.RowKit
open Bn
theorem cellsS_upd {L : List Sl} {k : Nat} (hk : k < L.length) (s : Sl) (ys : List Value) (hl : ys.length = (cellsS L).length) (h1 : ∀ i, i < 6 → ys[k * 6 + i]? = s.cells[i]?) (h2 : ∀ m, (m < k * 6 ∨ k * 6 + 6 ≤ m) → ys[m]? = (cellsS L)[m]?) : ys = cellsS (L.set k s) := by
  apply List.ext_getElem?
  intro m
  rw [cellsS_length] at hl
  by_cases hm : m < L.length * 6
  · have e : m = m / 6 * 6 + m % 6 := by omega
    have hr : m % 6 < 6 := Nat.mod_lt _ (by omega)
    have hq : m / 6 < L.length := by omega
    have hq' : m / 6 < (L.set k s).length := by rw [List.length_set]; exact hq
    by_cases hqk : m / 6 = k
    · rw [e, hqk, h1 _ hr, cellsS_at (L.set k s) k (by rw [List.length_set]; exact hk) _ hr, List.getElem_set_self]
    · rw [h2 m (by omega), e, cellsS_at L _ hq _ hr, cellsS_at (L.set k s) _ hq' _ hr, List.getElem_set_ne (by omega)]
  · rw [List.getElem?_eq_none (by omega), List.getElem?_eq_none (by rw [cellsS_length, List.length_set]; omega)]
theorem IsB.upd {w w' : World} {lo hi P W S g cap : Nat} {L : List Sl} (h : IsB w lo hi P W S g cap L) {k : Nat} (hk : k < L.length) (s : Sl) (hp : s.pw = L[k].pw ∧ s.ps = L[k].ps) (hrow : Blk w' P 82 [.int .i64 W, .int .i64 S, .slice (some ⟨g, 0, none⟩) L.length cap]) (ys : List Value) (ho : w'.ownsRow lo 84 6 (.slice (some ⟨g, 0, none⟩) L.length cap) L.length ys) (hy : ys = cellsS (L.set k s)) : IsB w' lo hi P W S g cap (L.set k s) :=
  { h with
    row := by rw [List.length_set]; exact hrow
    ow := by rw [List.length_set, ← hy]; exact ho
    len := by rw [List.length_set]; exact h.len
    place := fun m hm => by
      have hm' : m < L.length := by rw [List.length_set] at hm; exact hm
      by_cases e : m = k
      · subst e
        rw [List.getElem_set_self]
        have := h.place m hm'
        rw [hp.1, hp.2]
        exact this
      · rw [List.getElem_set_ne (fun e' => e e'.symm)]
        exact h.place m hm' }
def Sl.put (s : Sl) (j : Int) (f : Bool) (i : Int) : Sl := ⟨s.pw, s.ps, true, j, f, i⟩
def Sl.free (s : Sl) : Sl := ⟨s.pw, s.ps, false, 0, false, 0⟩
/-- Stores into cells of one row, one behind the other. -/
theorem put_rows {w : World} {lo hi P W S g cap : Nat} {L : List Sl} (h : IsB w lo hi P W S g cap L) {k : Nat} (hk : k < L.length) (j i : Int) (f : Bool) :
    IsB ((((w.setCell ⟨g, k * 6 + 2, none⟩ (.bool true)).setCell ⟨g, k * 6 + 3, none⟩ (.int .i64 j)).setCell ⟨g, k * 6 + 4, none⟩ (.bool f)).setCell ⟨g, k * 6 + 5, none⟩ (.int .i64 i)) lo hi P W S g cap (L.set k (L[k].put j f i)) ∧
    IsB ((((w.setCell ⟨g, k * 6 + 3, none⟩ (.int .i64 j)).setCell ⟨g, k * 6 + 4, none⟩ (.bool f)).setCell ⟨g, k * 6 + 5, none⟩ (.int .i64 i)).setCell ⟨g, k * 6 + 2, none⟩ (.bool true)) lo hi P W S g cap (L.set k (L[k].put j f i)) := by
  have hne : P ≠ g := fun e => h.ne e.symm
  have hlen : (cellsS L).length = L.length * 6 := cellsS_length L
  have c0 := cellsS_at L k hk 0 (by omega)
  have c1 := cellsS_at L k hk 1 (by omega)
  constructor
  · refine h.upd hk _ ⟨rfl, rfl⟩ ((((h.row.other _ _ hne).other _ _ hne).other _ _ hne).other _ _ hne) _ ((((h.ow.stored _ _).1.stored _ _).1.stored _ _).1.stored _ _).1 ?_
    refine cellsS_upd hk _ _ (by simp) (fun m hm => ?_) (fun m hm => ?_)
    · have : m = 0 ∨ m = 1 ∨ m = 2 ∨ m = 3 ∨ m = 4 ∨ m = 5 := by omega
      rcases this with rfl | rfl | rfl | rfl | rfl | rfl
      · rw [List.getElem?_set_ne (by omega), List.getElem?_set_ne (by omega), List.getElem?_set_ne (by omega), List.getElem?_set_ne (by omega)]; exact c0
      · rw [List.getElem?_set_ne (by omega), List.getElem?_set_ne (by omega), List.getElem?_set_ne (by omega), List.getElem?_set_ne (by omega)]; exact c1
      · simp [List.getElem?_set, Sl.put, Sl.cells, hlen]; omega
      · simp [List.getElem?_set, Sl.put, Sl.cells, hlen]; omega
      · simp [List.getElem?_set, Sl.put, Sl.cells, hlen]; omega
      · simp [List.getElem?_set, Sl.put, Sl.cells, hlen]; omega
    · rw [List.getElem?_set_ne (by omega), List.getElem?_set_ne (by omega), List.getElem?_set_ne (by omega), List.getElem?_set_ne (by omega)]
  · refine h.upd hk _ ⟨rfl, rfl⟩ ((((h.row.other _ _ hne).other _ _ hne).other _ _ hne).other _ _ hne) _ ((((h.ow.stored _ _).1.stored _ _).1.stored _ _).1.stored _ _).1 ?_
    refine cellsS_upd hk _ _ (by simp) (fun m hm => ?_) (fun m hm => ?_)
    · have : m = 0 ∨ m = 1 ∨ m = 2 ∨ m = 3 ∨ m = 4 ∨ m = 5 := by omega
      rcases this with rfl | rfl | rfl | rfl | rfl | rfl
      · rw [List.getElem?_set_ne (by omega), List.getElem?_set_ne (by omega), List.getElem?_set_ne (by omega), List.getElem?_set_ne (by omega)]; exact c0
      · rw [List.getElem?_set_ne (by omega), List.getElem?_set_ne (by omega), List.getElem?_set_ne (by omega), List.getElem?_set_ne (by omega)]; exact c1
      · simp [List.getElem?_set, Sl.put, Sl.cells, hlen]; omega
      · simp [List.getElem?_set, Sl.put, Sl.cells, hlen]; omega
      · simp [List.getElem?_set, Sl.put, Sl.cells, hlen]; omega
      · simp [List.getElem?_set, Sl.put, Sl.cells, hlen]; omega
    · rw [List.getElem?_set_ne (by omega), List.getElem?_set_ne (by omega), List.getElem?_set_ne (by omega), List.getElem?_set_ne (by omega)]
theorem free_rows {w : World} {lo hi P W S g cap : Nat} {L : List Sl} (h : IsB w lo hi P W S g cap L) {k : Nat} (hk : k < L.length) (a b : Int) (ha : L[k].pw = a) (hb : L[k].ps = b) :
    IsB ((((((w.setCell ⟨g, k * 6, none⟩ (.int .i64 a)).setCell ⟨g, k * 6 + 1, none⟩ (.int .i64 b)).setCell ⟨g, k * 6 + 2, none⟩ (.bool false)).setCell ⟨g, k * 6 + 3, none⟩ (.int .i64 0)).setCell ⟨g, k * 6 + 4, none⟩ (.bool false)).setCell ⟨g, k * 6 + 5, none⟩ (.int .i64 0)) lo hi P W S g cap (L.set k L[k].free) := by
  have hne : P ≠ g := fun e => h.ne e.symm
  have hlen : (cellsS L).length = L.length * 6 := cellsS_length L
  refine h.upd hk _ ⟨rfl, rfl⟩ ((((((h.row.other _ _ hne).other _ _ hne).other _ _ hne).other _ _ hne).other _ _ hne).other _ _ hne) _ ((((((h.ow.stored _ _).1.stored _ _).1.stored _ _).1.stored _ _).1.stored _ _).1.stored _ _).1 ?_
  refine cellsS_upd hk _ _ (by simp) (fun m hm => ?_) (fun m hm => ?_)
  · have : m = 0 ∨ m = 1 ∨ m = 2 ∨ m = 3 ∨ m = 4 ∨ m = 5 := by omega
    rcases this with rfl | rfl | rfl | rfl | rfl | rfl
    · simp [List.getElem?_set, Sl.free, Sl.cells, hlen, ha]; omega
    · simp [List.getElem?_set, Sl.free, Sl.cells, hlen, hb]; omega
    · simp [List.getElem?_set, Sl.free, Sl.cells, hlen]; omega
    · simp [List.getElem?_set, Sl.free, Sl.cells, hlen]; omega
    · simp [List.getElem?_set, Sl.free, Sl.cells, hlen]; omega
    · simp [List.getElem?_set, Sl.free, Sl.cells, hlen]; omega
  · rw [List.getElem?_set_ne (by omega), List.getElem?_set_ne (by omega), List.getElem?_set_ne (by omega), List.getElem?_set_ne (by omega), List.getElem?_set_ne (by omega), List.getElem?_set_ne (by omega)]
theorem idx_sat (p : Sl → Bool) (L : List Sl) (k : Nat) (hk : k < L.length) (h : idx p L = k) : p L[k] = true := by
  induction L generalizing k with
  | nil => simp at hk
  | cons x L ih =>
    unfold idx at h
    by_cases hx : p x = true
    · rw [if_pos hx] at h
      have : k = 0 := by omega
      subst this
      exact hx
    · rw [if_neg hx] at h
      by_cases hn : idx p L < 0
      · rw [if_pos hn] at h; omega
      · rw [if_neg hn] at h
        cases k with
        | zero => omega
        | succ k => exact ih k (by simpa using hk) (by omega)
/-- What Put says, and leaves. -/
def PutSaid (lo hi P W S g cap : Nat) (L : List Sl) (a b j i : Int) (f : Bool) (e : Ending) (w' : World) : Prop :=
  (idx (isPlace a b) L = -1 ∧ e = .returned (.iface 68 (.int .i64 5)) ∧ IsB w' lo hi P W S g cap L) ∨ ∃ (k : Nat) (hk : k < L.length), idx (isPlace a b) L = k ∧ ((L[k].taken = true ∧ e = .returned (.iface 68 (.int .i64 8)) ∧ IsB w' lo hi P W S g cap L) ∨ (L[k].taken = false ∧ e = .returned .nilIface ∧ IsB w' lo hi P W S g cap (L.set k (L[k].put j f i))))
set_option maxRecDepth 100000 in
set_option maxHeartbeats 2000000 in
theorem put_any {lo hi P W S g cap : Nat} {L : List Sl} (w : World) (h : IsB w lo hi P W S g cap L) (hw : hi ≤ w.heap.size) (a b j i : Int) (f : Bool) :
    Calls Try.prog 20 #[.pointer (some ⟨P, 0, none⟩), .agg #[.int .i64 a, .int .i64 b], .agg #[.int .i64 j, .bool f, .int .i64 i]] w fun e w' => PutSaid lo hi P W S g cap L a b j i f e w' ∧ Win lo hi w w' := by
  obtain ⟨w1, hw1⟩ : ∃ w1, w1 = (w.alloc (.cells #[.int .i64 a, .int .i64 b] 54)).alloc (.cells #[.int .i64 j, .bool f, .int .i64 i] 51) := ⟨_, rfl⟩
  have hb1 : Below w.heap.size w w1 := by rw [hw1]; exact blw_step (blw_box _) (blw_box _)
  have r1 : Blk w1 (w.heap.size + 1) 51 [.int .i64 j, .bool f, .int .i64 i] := by
    have h := Blk.new (w.alloc (.cells #[.int .i64 a, .int .i64 b] 54)) #[.int .i64 j, .bool f, .int .i64 i] 51
    rw [show (w.alloc (.cells #[.int .i64 a, .int .i64 b] 54)).heap.size = w.heap.size + 1 by simp] at h
    rw [hw1]
    exact h
  have D := Lib.hid (at_any w1 (h.blw hb1) a b)
  have H1 := Lib.hid (h.blw hb1)
  have R1 := Lib.hid r1
  have HW := Lib.hid hw1
  have hgl := h.glo
  have hgh := h.ghi
  clear h hw1 r1
  go_enter Try.func20, Try.ntmps20
  go_wp2_with (go_at_call 39; refine Hid.out ?_)
  refine Lib.hid ?_
  rw [← HW.out]
  refine D.out.mono ?_
  obtain ⟨G, hGe⟩ : ∃ G, G = w.heap.size + 1 := ⟨_, rfl⟩
  rw [← hGe] at R1 ⊢
  have hGw : w.heap.size ≤ G := by omega
  have hGg : ¬ G = g := by omega
  have hgG : ¬ g = G := by omega
  clear hGe HW D
  rintro _ w2 ⟨⟨k, hk, hx, rfl⟩ | ⟨hx, rfl⟩, hb2⟩
  · have HX := Lib.hid hx
    have R2 := Lib.hid (R1.out.blw hb2)
    have hb02 := blw_step hb1 hb2
    have H2 := Lib.hid (H1.out.blw hb2)
    have c2 := H2.out.cell hk (i := 2) (by omega) rfl
    have c3 := H2.out.cell hk (i := 3) (by omega) rfl
    have c4 := H2.out.cell hk (i := 4) (by omega) rfl
    have c5 := H2.out.cell hk (i := 5) (by omega) rfl
    have y2 := H2.out.ow.frozenAt (k * 6 + 2)
    have y3 := H2.out.ow.frozenAt (k * 6 + 3)
    have y4 := H2.out.ow.frozenAt (k * 6 + 4)
    have y5 := H2.out.ow.frozenAt (k * 6 + 5)
    have x0 := R2.out.at (i := 0) (v := .int .i64 j) rfl
    have x1 := R2.out.at (i := 1) (v := .bool f) rfl
    have x2 := R2.out.at (i := 2) (v := .int .i64 i) rfl
    have HB : Hid (L[k].taken = true → PutSaid lo hi P W S g cap L a b j i f (.returned (.iface 68 (.int .i64 8))) w2) := fun e => .inr ⟨k, hk, HX.out, .inl ⟨e, rfl, H2.out⟩⟩
    have HF : Hid (∀ w3, L[k].taken = false → IsB w3 lo hi P W S g cap (L.set k (L[k].put j f i)) → PutSaid lo hi P W S g cap L a b j i f (.returned .nilIface) w3) := fun w3 e h3 => .inr ⟨k, hk, HX.out, .inr ⟨e, rfl, h3⟩⟩
    have HP := Lib.hid (put_rows H2.out hk j i f).1
    clear hx H1
    generalize L[k].put j f i = s' at *
    generalize L[k].taken = tk at *
    generalize L[k].job = q3 at *
    generalize L[k].fold = q4 at *
    generalize L[k].index = q5 at *
    cases tk with
    | true =>
      have HB' := Lib.hid (HB.out rfl)
      clear HB HF HP
      go_wp2
      go_ret
      exact ⟨HB'.out, Win.of_blw hb02⟩
    | false =>
      have HF' : Hid (∀ w3, IsB w3 lo hi P W S g cap (L.set k s') → PutSaid lo hi P W S g cap L a b j i f (.returned .nilIface) w3) := fun w3 h3 => HF.out w3 rfl h3
      have hb02' : Win lo hi w w2 := Win.of_blw hb02
      clear HB HF H2
      go_wp2
      go_region
      go_wp2
      go_ret
      exact ⟨HF'.out _ (HP.out.blw (blw_drew _)), ((((hb02'.store _ hgl hgh).store _ hgl hgh).store _ hgl hgh).store _ hgl hgh).trans (Win.of_blw (blw_drew _))⟩
  · have HS : Hid (PutSaid lo hi P W S g cap L a b j i f (.returned (.iface 68 (.int .i64 5))) w2) := .inl ⟨hx, rfl, H1.out.blw hb2⟩
    have hb02 := blw_step hb1 hb2
    clear hx H1
    go_wp2
    go_ret
    exact ⟨HS.out, Win.of_blw hb02⟩
end Go.Proofs.Ytilgiehcpmafgaa
