/- Journals: what is read of a text: numbers with a blank ahead, texts of given sizes. -/
import Derived.Test.YtifbjngkdifenaaDoorJ1
namespace Go.Proofs.YtifbjngkdifenaaDoor
open Go.ChangeShapes Go.WideShapes Go.ChangeAt Go.RowKit
open Num
/-- Numbers of words; none: one of them is none. -/
def numL : List (List UInt8) → Option (List Int)
  | [] => some []
  | x :: l => match numB x with
    | none => none
    | some n => match numL l with
      | none => none
      | some r => some (n :: r)
theorem numL_snoc (l : List (List UInt8)) (x : List UInt8) : numL (l ++ [x]) = match numL l with
    | none => none
    | some r => match numB x with
      | none => none
      | some n => some (r ++ [n]) := by
  induction l with
  | nil => simp only [List.nil_append, numL]
  | cons y l ih =>
    simp only [List.cons_append, numL]
    cases numB y with
    | none => rfl
    | some n =>
      rw [ih]
      cases numL l with
      | none => rfl
      | some r => cases numB x <;> rfl
theorem numL_stop {l : List (List UInt8)} {k : Nat} (h : numL (l.take k) = none) : numL l = none := by
  induction l generalizing k with
  | nil => rw [List.take_nil] at h; cases h
  | cons y l ih =>
    cases k with
    | zero => rw [List.take_zero] at h; cases h
    | succ k =>
      rw [List.take_succ_cons] at h
      simp only [numL] at h ⊢
      cases hy : numB y with
      | none => rfl
      | some n =>
        rw [hy] at h
        cases hl : numL (l.take k) with
        | none => rw [ih hl]
        | some r => rw [hl] at h; cases h
theorem spl_word (c : UInt8) (l : List UInt8) : ∀ x ∈ spl c l, x.length ≤ l.length := by
  induction l with
  | nil =>
    intro x hx
    simp only [spl, List.mem_singleton] at hx
    subst hx
    exact Nat.le_refl _
  | cons b r ih =>
    intro x hx
    unfold spl at hx
    rw [List.length_cons]
    split at hx
    · rcases List.mem_cons.1 hx with h | h
      · subst h; exact Nat.zero_le _
      · have := ih x h; omega
    · rcases List.mem_cons.1 hx with h | h
      · subst h
        have hne := spl_ne c r
        cases hq : spl c r with
        | nil => exact absurd hq hne
        | cons y ys =>
          have := ih y (by rw [hq]; exact List.mem_cons_self)
          simp only [List.headD_cons, List.length_cons]
          omega
      · have := ih x (List.mem_of_mem_tail h)
        omega
theorem numL_len {l : List (List UInt8)} {r : List Int} (h : numL l = some r) : r.length = l.length := by
  induction l generalizing r with
  | nil => simp only [numL, Option.some.injEq] at h; subst h; rfl
  | cons y l ih =>
    simp only [numL] at h
    cases hy : numB y with
    | none => rw [hy] at h; cases h
    | some n =>
      rw [hy] at h
      cases hl : numL l with
      | none => rw [hl] at h; cases h
      | some r' =>
        rw [hl] at h
        simp only [Option.some.injEq] at h
        subst h
        rw [List.length_cons, List.length_cons, ih hl]
/-- What stands ahead of the first blank, and the numbers behind it. -/
def numbersL (s : List UInt8) : Option (List UInt8 × List Int) :=
  match numL (spl 32 s).tail with
  | none => none
  | some r => some ((spl 32 s).headD [], r)
/-- Texts of these sizes, one behind the other, and what is left. -/
def cutL (s : List UInt8) : List Int → Option (List (List UInt8) × List UInt8)
  | [] => some ([], s)
  | n :: l => if n < 0 ∨ (s.length : Int) < n then none else match cutL (s.drop n.toNat) l with
    | none => none
    | some (ts, r) => some (s.take n.toNat :: ts, r)
def cellsI (L : List Int) : List Value := L.map fun x => .int .i64 x
theorem cellsI_length (L : List Int) : (cellsI L).length = L.length := by simp [cellsI]
theorem cellsI_append (A B : List Int) : cellsI (A ++ B) = cellsI A ++ cellsI B := by simp [cellsI]
theorem isIs_of {w : World} {base : Nat} {v : Value} {l : List Int} (h : w.ownsRow base 3 1 v l.length (cellsI l)) : IsIs w v l := by
  rcases h.2 with ⟨rfl, h0⟩ | ⟨g, cap, cur, rfl, _⟩
  · exact ⟨none, 0, by rw [h0], fun i hi => by omega⟩
  · refine ⟨some ⟨g, 0, none⟩, cap, rfl, fun i hi => ⟨g, 0, rfl, ?_⟩⟩
    rw [Nat.zero_add, h.cellAt i (by omega)]
    simp [cellsI, hi]
theorem cellsI_one (l : List Int) : ∀ u ∈ cellsI l, u.oneCell' = true := by
  intro u hu
  simp only [cellsI, List.mem_map] at hu
  obtain ⟨x, _, rfl⟩ := hu
  rfl
theorem infoInt : (Tryd.prog.info? 3).map (fun i => (i.zero, i.size, i.bytes)) = some (some (.int .i64 0), 1, 8) := by kernel_rfl
theorem spl_len (c : UInt8) (l : List UInt8) : (spl c l).length ≤ l.length + 1 := by
  induction l with
  | nil => simp [spl]
  | cons b r ih =>
    have hne := spl_ne c r
    unfold spl
    split
    · simp; omega
    · cases hs : spl c r with
      | nil => exact absurd hs hne
      | cons x t => rw [hs] at ih; simp at ih ⊢; omega
theorem owns_low {w : World} {lo base : Nat} {e : TypeId} {size : Nat} {v : Value} {n : Nat} {xs : List Value} (h : w.ownsRow base e size v n xs) (hl : lo ≤ base) : w.ownsRow lo e size v n xs :=
  ⟨h.1, h.2.imp id (fun ⟨g, cap, cur, a, b, c⟩ => ⟨g, cap, cur, a, Nat.le_trans hl b, c⟩)⟩
/-- What numbers says. -/
def NumsSaid (s : List UInt8) (w : World) (e : Ending) (w' : World) : Prop :=
  (numbersL s = none ∧ e = .returned (.tuple #[.string (bs []), .slice none 0 0, .bool false])) ∨ ∃ k r v, numbersL s = some (k, r) ∧ e = .returned (.tuple #[.string (bs k), v, .bool true]) ∧ w'.ownsRow w.heap.size 3 1 v r.length (cellsI r)
set_option maxRecDepth 100000 in
set_option maxHeartbeats 1000000 in
theorem numbers_any (s : List UInt8) (w : World) (E : Env w) (hs : s.length ≤ 10000000) :
    Calls Tryd.prog 22 #[.string (bs s)] w fun e w' => NumsSaid s w e w' ∧ Below w.heap.size w w' := by
  obtain ⟨i0, hi0, hz0, hz1, hz2⟩ := info_parts infoInt
  obtain ⟨h, ts, hsp⟩ : ∃ h ts, spl 32 s = h :: ts := by
    cases hq : spl 32 s with
    | nil => exact absurd hq (spl_ne 32 s)
    | cons h ts => exact ⟨h, ts, rfl⟩
  have hlen := spl_len 32 s
  have HXL : Hid (∀ x ∈ ts, x.length ≤ 10000000) := fun x hx => by
    have := spl_word 32 s x (by rw [hsp]; exact List.mem_cons_of_mem _ hx)
    omega
  have E0 : Env0 w := ⟨E.len⟩
  have SP := Lib.hid (split_any 32 s w E0 (by omega))
  have HN : Hid (numbersL s = match numL ts with
    | none => none
    | some r => some (h, r)) := by show _ = _; unfold numbersL; rw [hsp]; rfl
  rw [hsp] at SP hlen
  rw [List.length_cons] at hlen
  have HE := Lib.hid E
  clear E E0 hsp
  cases ts with
  | nil =>
    have HN2 : Hid (numbersL s = some (h, [])) := HN.out
    rw [show ([h] : List (List UInt8)).length = 1 from rfl] at SP
    clear HN hlen
    go_enter Tryd.func22, Tryd.ntmps22
    go_wp2_with (go_at_call 30; refine SP.out.mono ?_; rintro e w1 ⟨b, rfl, hc, hb1⟩; have c0 := hc 0 h rfl; clear hc)
    go_loopw [3, 7, 8, 9, 15] (fun lv _ _ _ kv wr => kv = .int .i64 0 ∧ lv = .slice none 0 0 ∧ wr = w1) (fun _ _ _ _ _ _ => 0)
    case atStart => exact ⟨rfl, rfl, rfl⟩
    case round =>
      obtain ⟨rfl, rfl, rfl⟩ := hrel
      go_wp2
      go_ret3
      exact ⟨.inr ⟨h, [], .slice none 0 0, HN2.out, rfl, World.ownsRow_nil _ _ _ _⟩, hb1⟩
  | cons t0 tr =>
    obtain ⟨ts, hts⟩ : ∃ ts, ts = t0 :: tr := ⟨_, rfl⟩
    obtain ⟨n, hn⟩ : ∃ n, n = ts.length := ⟨_, rfl⟩
    have hn1 : 1 ≤ n := by rw [hn, hts]; simp
    rw [← hts] at SP hlen HN HXL
    rw [List.length_cons, ← hn] at SP
    rw [← hn] at hlen
    have HNN := Lib.hid hn
    have hne : ¬ n + 1 = 1 := by omega
    clear hn hts
    go_enter Tryd.func22, Tryd.ntmps22
    go_wp2_with (go_at_call 30; refine SP.out.mono ?_; rintro e w1 ⟨b, rfl, hc, hb1⟩; have HC := Lib.hid hc; have c0 := hc 0 h rfl; clear hc)
    go_loopw [3, 7, 8, 9, 15] (fun lv _ _ _ kv wr => ∃ (i : Nat) (r : List Int), i ≤ n ∧ kv = .int .i64 i ∧ Hid (numL (ts.take i) = some r) ∧ r.length = i ∧ Hid (wr.ownsRow w1.heap.size 3 1 lv r.length (cellsI r)) ∧ Below w1.heap.size w1 wr) (fun _ _ _ _ kv _ => n - (intOf kv).toNat)
    case atStart => exact ⟨0, [], Nat.zero_le _, rfl, rfl, rfl, World.ownsRow_nil _ _ _ _, Below.refl _ _⟩
    case round =>
      obtain ⟨i, r, hi, rfl, HR, hrl, HO, hb⟩ := hrel
      have hs1 : w.heap.size ≤ w1.heap.size := hb1.size
      by_cases hlt : i < n
      · have hil : i < ts.length := by have := HNN.out; omega
        have hgx : (h :: ts)[i + 1]? = some ts[i] := by rw [List.getElem?_cons_succ, List.getElem?_eq_getElem hil]
        have c1 := cell_below (HC.out (i + 1) ts[i] hgx) hb
        rw [Nat.add_comm] at c1
        have hxl : ts[i].length ≤ 10000000 := HXL.out _ (List.getElem_mem hil)
        have NB := Lib.hid (number_pair ts[i] wr ((HE.out.below hb1).below hb) (by omega))
        have hsn : numL (ts.take (i + 1)) = match numB ts[i] with
            | none => none
            | some x => some (r ++ [x]) := by rw [List.take_succ_eq_append_getElem hil, numL_snoc, HR.out]
        have HS := Lib.hid hsn
        clear hsn hgx HC
        generalize ts[i] = tv at *
        cases hnb : numB tv with
        | none =>
          rw [hnb] at NB HS
          have hno : numbersL s = none := by rw [HN.out, numL_stop HS.out]
          have HNO := Lib.hid hno
          clear hno hnb
          go_wp2_with (go_at_call 31; refine NB.out.mono ?_; rintro _ w2 ⟨rfl, hb2⟩)
          go_ret3
          exact ⟨.inl ⟨HNO.out, rfl⟩, below_trans hb1 (below_trans hb hb2)⟩
        | some x =>
          rw [hnb] at NB HS
          clear hnb
          go_wp2_with (first | (go_at_call 31; refine NB.out.mono ?_; rintro _ w2 ⟨rfl, hb2⟩; have HO2 := Lib.hid (owns_below HO.out hb2); have hb02 := below_trans hb hb2) | (at_builtin; refine Hid.out ?_))
          refine Lib.hid ?_
          have hbs := hb02.size
          refine wpList_append_own _ rfl (.tmp 26) (.tmp 28) 22 rfl w1.heap.size 3 i0 (.int .i64 0) 1 8 Tryd.underlying22 hi0 hz0 hz1 hz2 rfl (by decide) _ _ _ rfl (HO2.out.alloc _) ⟨w2.heap.size, 0, none⟩ 1 1 (cellsI [x]) rfl rfl ?c1 (cellsI_one _) ?c2 ?c3 ?c4 ?_
          case c1 => exact lit_cells rfl (show 1 ≤ maxLen by decide)
          case c2 => unfold maxLen; omega
          case c3 => omega
          case c4 => simp; omega
          intro v4 w4 hown4 hg4 _
          have hb4 : Below w1.heap.size w1 w4 := (hb02.alloc (by omega) _).grown hg4 (by simp; omega) (fun k hk => (HO2.out.lt k hk).1)
          have HO4 : Hid (w4.ownsRow w1.heap.size 3 1 v4 (r ++ [x]).length (cellsI (r ++ [x]))) := by
            show World.ownsRow _ _ _ _ _ _ _
            rw [cellsI_append, List.length_append]
            exact hown4
          clear HO HO2 hown4 hg4
          go_wp2
          go_roundw
          case rel => exact ⟨i + 1, r ++ [x], by omega, by go_num, HS.out, by simp; omega, HO4, hb4⟩
          case measure => simp [intOf]; omega
      · have e : i = n := by omega
        subst e
        have c0' := cell_below c0 hb
        have hfin : numbersL s = some (h, r) := by
          have hh := HR.out
          rw [HNN.out, List.take_length] at hh
          rw [HN.out, hh]
        have HFN := Lib.hid hfin
        clear hfin HC
        go_wp2
        go_ret3
        exact ⟨.inr ⟨h, r, _, HFN.out, rfl, owns_low HO.out hs1⟩, below_trans hb1 hb⟩
end Go.Proofs.YtifbjngkdifenaaDoor
