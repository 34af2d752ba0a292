/- Journals: texts of given sizes cut off a text. -/
import Derived.Test.YtifbjngkdifenaaDoorJ3
namespace Go.Proofs.YtifbjngkdifenaaDoor
open Go.ChangeShapes Go.WideShapes Go.ChangeAt Go.RowKit
open Num
/-- One size: what it leaves. -/
theorem cutL_snoc (s : List UInt8) (l : List Int) (n : Int) : cutL s (l ++ [n]) = match cutL s l with
    | none => none
    | some (ts, r) => if n < 0 ∨ (r.length : Int) < n then none else some (ts ++ [r.take n.toNat], r.drop n.toNat) := by
  induction l generalizing s with
  | nil =>
    simp only [List.nil_append, cutL]
  | cons m l ih =>
    simp only [List.cons_append, cutL]
    by_cases h : m < 0 ∨ (s.length : Int) < m
    · rw [if_pos h, if_pos h]
    · rw [if_neg h, if_neg h, ih]
      cases cutL (s.drop m.toNat) l with
      | none => rfl
      | some p =>
        obtain ⟨ts, r⟩ := p
        simp only
        by_cases h2 : n < 0 ∨ (r.length : Int) < n
        · rw [if_pos h2, if_pos h2]
        · rw [if_neg h2, if_neg h2]
          rfl
theorem cutL_stop {s : List UInt8} {l : List Int} {k : Nat} (h : cutL s (l.take k) = none) : cutL s l = none := by
  induction l generalizing s k with
  | nil => rw [List.take_nil] at h; cases h
  | cons m l ih =>
    cases k with
    | zero => rw [List.take_zero] at h; cases h
    | succ k =>
      rw [List.take_succ_cons] at h
      simp only [cutL] at h ⊢
      by_cases h1 : m < 0 ∨ (s.length : Int) < m
      · rw [if_pos h1]
      · rw [if_neg h1] at h ⊢
        cases hl : cutL (s.drop m.toNat) (l.take k) with
        | none => rw [ih hl]
        | some p => rw [hl] at h; cases h
theorem cutL_len {s : List UInt8} {l : List Int} {ts : List (List UInt8)} {r : List UInt8} (h : cutL s l = some (ts, r)) : ts.length = l.length ∧ r.length ≤ s.length := by
  induction l generalizing s ts r with
  | nil => simp only [cutL, Option.some.injEq, Prod.mk.injEq] at h; obtain ⟨rfl, rfl⟩ := h; exact ⟨rfl, Nat.le_refl _⟩
  | cons m l ih =>
    simp only [cutL] at h
    by_cases h1 : m < 0 ∨ (s.length : Int) < m
    · rw [if_pos h1] at h; cases h
    · rw [if_neg h1] at h
      cases hl : cutL (s.drop m.toNat) l with
      | none => rw [hl] at h; cases h
      | some p =>
        obtain ⟨ts', r'⟩ := p
        rw [hl] at h
        simp only [Option.some.injEq, Prod.mk.injEq] at h
        obtain ⟨rfl, rfl⟩ := h
        have h2 := ih hl
        rw [List.length_drop] at h2
        rw [List.length_cons, List.length_cons]
        omega
/-- What cutTexts says. -/
def CutSaid (s : List UInt8) (l : List Int) (w : World) (e : Ending) (w' : World) : Prop :=
  (cutL s l = none ∧ e = .returned (.tuple #[.slice none 0 0, .string (bs []), .bool false])) ∨ ∃ ts r v, cutL s l = some (ts, r) ∧ e = .returned (.tuple #[v, .string (bs r), .bool true]) ∧ w'.ownsRow w.heap.size 9 1 v ts.length (strs ts)
set_option maxRecDepth 100000 in
set_option maxHeartbeats 1000000 in
theorem cutTexts_any (s : List UInt8) (l : List Int) (v : Value) (w : World) (hv : IsIs w v l) (hs : s.length ≤ 10000000) (hl : l.length ≤ 10000001) :
    Calls Tryd.prog 23 #[.string (bs s), v] w fun e w' => CutSaid s l w e w' ∧ Below w.heap.size w w' := by
  obtain ⟨i0, hi0, hz0, hz1, hz2⟩ := info_parts infoStr
  obtain ⟨ao, cap, rfl, hc⟩ := hv
  have HC := Lib.hid hc
  clear hc
  obtain ⟨n, hn⟩ : ∃ n, n = l.length := ⟨_, rfl⟩
  rw [← hn] at hl ⊢
  have HN := Lib.hid hn
  clear hn
  go_enter Tryd.func23, Tryd.ntmps23
  go_wp2
  go_loopw [0, 4, 8, 11] (fun sv lv _ kv wr => ∃ (i : Nat) (ts : List (List UInt8)) (r : List UInt8), i ≤ n ∧ kv = .int .i64 i ∧ sv = .string (bs r) ∧ Hid (cutL s (l.take i) = some (ts, r)) ∧ ts.length = i ∧ r.length ≤ 10000000 ∧ Hid (wr.ownsRow w.heap.size 9 1 lv ts.length (strs ts)) ∧ Below w.heap.size w wr) (fun _ _ _ kv _ => n - (intOf kv).toNat)
  case atStart => exact ⟨0, [], s, Nat.zero_le _, rfl, rfl, rfl, rfl, hs, World.ownsRow_nil _ _ _ _, Below.refl _ _⟩
  case round =>
    obtain ⟨i, ts, r, hi, rfl, rfl, HR, htl, hrl, HO, hb⟩ := hrel
    by_cases hlt : i < n
    · have hil : i < l.length := by have := HN.out; omega
      obtain ⟨b, off, rfl, c0⟩ := HC.out i hil
      have c1 := cell_below c0 hb
      have hsn : cutL s (l.take (i + 1)) = if l[i] < 0 ∨ (r.length : Int) < l[i] then none else some (ts ++ [r.take l[i].toNat], r.drop l[i].toNat) := by
        rw [List.take_succ_eq_append_getElem hil, cutL_snoc, HR.out]
      have HS := Lib.hid hsn
      have hsz := bs_size r
      have hszi : ((bs r).size : Int) = (r.length : Int) := by rw [hsz]
      clear hsn c0 HC
      generalize l[i] = x at *
      by_cases hx0 : x < 0
      · have HNO : Hid (cutL s l = none) := cutL_stop (HS.out.trans (if_pos (.inl hx0)))
        have hd : decide (x < 0) = true := decide_eq_true hx0
        go_wp2
        go_ret3
        exact ⟨.inl ⟨HNO.out, rfl⟩, hb⟩
      · by_cases hx1 : (r.length : Int) < x
        · have HNO : Hid (cutL s l = none) := cutL_stop (HS.out.trans (if_pos (.inr hx1)))
          go_wp2
          go_ret3
          exact ⟨.inl ⟨HNO.out, rfl⟩, hb⟩
        · obtain ⟨m, rfl⟩ := Int.eq_ofNat_of_zero_le (a := x) (by omega)
          have HS2 : Hid (cutL s (l.take (i + 1)) = some (ts ++ [r.take m], r.drop m)) := HS.out.trans (if_neg (by omega))
          have hmr : m ≤ r.length := by omega
          have htk : (bs r).extract 0 m = bs (r.take m) := bs_take r m
          have hdr : (bs r).extract m (bs r).size = bs (r.drop m) := bs_drop r m
          have HDR : Hid ((bs r).extract m r.length = bs (r.drop m)) := by show _ = _; rw [← hsz]; exact bs_drop r m
          clear HS hdr
          go_wp2_with (at_builtin; refine Hid.out ?_)
          refine Lib.hid ?_
          have hbs := hb.size
          refine wpList_append_own _ rfl (.tmp 23) (.tmp 27) 23 rfl w.heap.size 9 i0 (.string ⟨#[]⟩) 1 16 Tryd.underlying23 hi0 hz0 hz1 hz2 rfl (by decide) _ _ _ rfl (HO.out.alloc _) ⟨wr.heap.size, 0, none⟩ 1 1 (strs [r.take m]) rfl rfl ?c1 (strs_one _) ?c2 ?c3 ?c4 ?_
          case c1 => exact lit_cells rfl (show 1 ≤ maxLen by decide)
          case c2 => unfold maxLen; omega
          case c3 => omega
          case c4 => simp; omega
          intro v4 w4 hown4 hg4 _
          have hb4 : Below w.heap.size w w4 := (hb.alloc (by omega) _).grown hg4 (by simp; omega) (fun k hk => (HO.out.lt k hk).1)
          have HO4 : Hid (w4.ownsRow w.heap.size 9 1 v4 (ts ++ [r.take m]).length (strs (ts ++ [r.take m]))) := by
            show World.ownsRow _ _ _ _ _ _ _
            rw [strs_append, List.length_append]
            exact hown4
          clear HO hown4 hg4
          go_wp2
          go_roundw
          case rel => exact ⟨i + 1, ts ++ [r.take m], r.drop m, by omega, by go_num, congrArg Value.string HDR.out, HS2, by simp; omega, by rw [List.length_drop]; omega, HO4, hb4⟩
          case measure => simp [intOf]; omega
    · have e : i = n := by omega
      subst e
      have hfin : Hid (cutL s l = some (ts, r)) := by
        have h := HR.out
        rw [HN.out, List.take_length] at h
        exact h
      go_wp2
      go_ret3
      exact ⟨.inr ⟨ts, r, _, hfin.out, rfl, HO.out⟩, hb⟩
end Go.Proofs.YtifbjngkdifenaaDoor
