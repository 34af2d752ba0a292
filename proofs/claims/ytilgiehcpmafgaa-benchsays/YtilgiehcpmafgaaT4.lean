/- Tasks: the document's answers. -/
import Derived.Test.YtilgiehcpmafgaaT3
namespace Go.Proofs.Ytilgiehcpmafgaa
open Go.ChangeShapes Go.WideShapes Go.ChangeAt Go.RowKit
open Tk
set_option maxRecDepth 100000 in
set_option maxHeartbeats 2000000 in
theorem lost_any {lo hi P : Nat} {va vb vc : Value} {a b c : List Int} (w : World) (h : IsT 72 w lo hi P va vb vc a b c) (hw : hi ≤ w.heap.size) (m : Int) :
    Calls Try.prog 16 #[.pointer (some ⟨P, 0, none⟩), .int .i64 m] w fun e w' => LostSaid 72 lo hi P va vb vc a b c m w e w' := by
  obtain ⟨i0, hi0, hz0, hz1, hz2⟩ := info_parts infoInt
  have H := Lib.hid h
  have C0 := h.row.at (i := 0) (v := va) rfl
  have hsm := h.small
  obtain ⟨ao, cap, ea⟩ := h.sa
  obtain ⟨n, hn⟩ : ∃ n, n = a.length := ⟨_, rfl⟩
  have HN := Lib.hid hn
  rw [ea] at C0
  rw [← hn] at C0 ea hsm
  have HEA := Lib.hid ea
  clear h ea hn
  go_enter Try.func16, Try.ntmps16
  go_wp2
  go_loopw [5, 6] (fun lv kv wr => ∃ k : Nat, k ≤ n ∧ kv = .int .i64 k ∧ Hid (wr.ownsRow w.heap.size 3 1 lv (lk a c m k).2.length (cellsI (lk a c m k).2) ∧ IsT 72 wr lo hi P va vb vc (lk a c m k).1 b c ∧ Win lo hi w wr)) (fun _ kv _ => n - (intOf kv).toNat)
  case atStart => exact ⟨0, Nat.zero_le _, rfl, World.ownsRow_nil _ _ _ _, H.out, Win.refl _ _ _⟩
  case round =>
    obtain ⟨k, hk, rfl, HH⟩ := hrel
    have hlk := lk_len a c m k
    clear C0
    by_cases hlt : k < n
    · obtain ⟨ho, hT, hW⟩ := HH.out
      have hka : k < (lk a c m k).1.length := by have := HN.out; omega
      have hkc : k < c.length := by omega
      obtain ⟨g, cap1, hv, c0, f0, hg1, hg2, hS⟩ := hT.setA hka
      have HS := Lib.hid hS
      obtain ⟨g3, cap3, hv3, c3, f3, hg5, hg6, _⟩ := hT.setC hkc
      have p0 := hT.row.at (i := 0) (v := va) rfl
      have p2 := hT.row.at (i := 2) (v := vc) rfl
      have hal : (lk a c m k).1.length = n := by have := HN.out; omega
      rw [hal] at hv
      have hea := HEA.out
      rw [hv] at hea
      injection hea with e1 e2 e3
      subst e1 e3
      rw [hv] at p0
      rw [hv3] at p2
      have HST : Hid (lk a c m (k + 1) = if (lk a c m k).1[k] = 2 ∧ c[k] = m then ((lk a c m k).1.set k 0, (lk a c m k).2 ++ [(k : Int)]) else lk a c m k) := by
        show _ = _
        rw [lk, getD_at _ _ hka, getD_at _ _ hkc]
      have HO := Lib.hid ho
      have HT := Lib.hid hT
      have HW := Lib.hid hW
      have hl2 := hlk.2
      have hcl : c.length ≤ 60 := by omega
      clear hv hv3 hS ho hT hW HH hlk hal e2
      generalize (lk a c m k).1[k] = x at *
      generalize c[k] = y at *
      cases gx : x == 2 with
      | false =>
        have HST' : Hid (lk a c m (k + 1) = lk a c m k) := by
          show _ = _
          rw [HST.out, if_neg (fun h => by rw [h.1] at gx; simp at gx)]
        clear HST
        go_wp2
        go_roundw
        case rel => exact ⟨k + 1, by omega, by go_num, by rw [HST'.out]; exact ⟨HO.out, HT.out, HW.out⟩⟩
        case measure => simp [intOf]; omega
      | true =>
        cases gy : y == m with
        | false =>
          have HST' : Hid (lk a c m (k + 1) = lk a c m k) := by
            show _ = _
            rw [HST.out, if_neg (fun h => by rw [h.2] at gy; simp at gy)]
          clear HST
          go_wp2
          go_roundw
          case rel => exact ⟨k + 1, by omega, by go_num, by rw [HST'.out]; exact ⟨HO.out, HT.out, HW.out⟩⟩
          case measure => simp [intOf]; omega
        | true =>
          have HST' : Hid (lk a c m (k + 1) = ((lk a c m k).1.set k 0, (lk a c m k).2 ++ [(k : Int)])) := by
            show _ = _
            rw [HST.out, if_pos ⟨by simpa using gx, by simpa using gy⟩]
          have HO2 : Hid ((wr.setCell ⟨g, k, none⟩ (.int .i64 0)).ownsRow w.heap.size 3 1 u5 (lk a c m k).2.length (cellsI (lk a c m k).2)) := owns_setCell HO.out (by omega)
          have HT2 := Lib.hid (HS.out 0)
          have HW2 : Hid (Win lo hi w (wr.setCell ⟨g, k, none⟩ (.int .i64 0))) := HW.out.store _ hg1 hg2
          clear HST HS HO HT HW
          go_wp2_with (at_builtin; refine Hid.out ?_)
          refine Lib.hid ?_
          have hsz : wr.heap.size = (wr.setCell ⟨g, k, none⟩ (.int .i64 0)).heap.size := (World.size_setCell _ _ _).symm
          generalize wr.setCell ⟨g, k, none⟩ (.int .i64 0) = w3 at *
          generalize lk a c m k = R at *
          have hbs : w.heap.size ≤ w3.heap.size := HW2.out.size
          refine wpList_append_own _ rfl (.tmp 41) (.tmp 43) 42 rfl w.heap.size 3 i0 (.int .i64 0) 1 8 Try.underlying42 hi0 hz0 hz1 hz2 rfl (by decide) _ _ _ rfl (HO2.out.alloc _) ⟨wr.heap.size, 0, none⟩ 1 1 (cellsI [(k : Int)]) rfl rfl ?c1 (cellsI_one _) ?c2 ?c3 ?c4 ?_
          case c1 => exact lit_cells hsz (show 1 ≤ maxLen by decide)
          case c2 => unfold maxLen; omega
          case c3 => omega
          case c4 => simp; omega
          intro v4 w4 hown4 hg4 _
          have hvb : ∀ k, u5.ownBlock = some k → w.heap.size ≤ k := fun k hk => (owns_lt HO2.out hk).1
          have HT4 : Hid (IsT 72 w4 lo hi P va vb vc (R.1.set k 0) b c) := (HT2.out.blw (blw_box _)).grown hg4 (fun k hk => Nat.le_trans hw (hvb k hk))
          have HW4 : Hid (Win lo hi w w4) := (HW2.out.alloc _).grown hg4 hvb
          have HO4 : Hid (w4.ownsRow w.heap.size 3 1 v4 (R.2 ++ [(k : Int)]).length (cellsI (R.2 ++ [(k : Int)]))) := by
            show World.ownsRow _ _ _ _ _ _ _
            rw [cellsI_append, List.length_append]
            exact hown4
          clear HO2 HT2 HW2 hown4 hg4 p0 p2 c0 f0 c3 f3
          go_wp2
          go_roundw
          case rel => exact ⟨k + 1, by omega, by go_num, by rw [HST'.out]; exact ⟨HO4.out, HT4.out, HW4.out⟩⟩
          case measure => simp [intOf]; omega
    · have hkn : k = a.length := by have := HN.out; omega
      have p0 := HH.out.2.1.row.at (i := 0) (v := va) rfl
      rw [HEA.out] at p0
      have HF : Hid (LostSaid 72 lo hi P va vb vc a b c m w (.returned u5) wr) := by
        obtain ⟨ho, hT, hW⟩ := HH.out
        rw [hkn] at ho hT
        exact ⟨_, rfl, ho, hT, hW⟩
      clear HH hkn
      go_wp2
      go_ret
      exact HF.out
set_option maxRecDepth 100000 in
set_option maxHeartbeats 1000000 in
theorem list_any (fold : Bool) (P : Nat) (va vb vc : Value) (w : World) (h : Blk w P 72 [va, vb, vc]) (hs : ∃ ao n cap, va = .slice ao n cap) (hs2 : ∃ ao n cap, vb = .slice ao n cap) :
    Calls Try.prog 31 #[.pointer (some ⟨P, 0, none⟩), .bool fold] w fun e w' => e = .returned (if fold then vb else va) ∧ w' = w := by
  have c0 := h.at (i := 0) (v := va) rfl
  have c1 := h.at (i := 1) (v := vb) rfl
  obtain ⟨a1, a2, a3, rfl⟩ := hs
  obtain ⟨b1, b2, b3, rfl⟩ := hs2
  clear h
  cases fold with
  | false =>
    go_enter Try.func31, Try.ntmps31
    go_wp2
    go_ret
    exact ⟨rfl, rfl⟩
  | true =>
    go_enter Try.func31, Try.ntmps31
    go_wp2
    go_ret
    exact ⟨rfl, rfl⟩
theorem IsT.list {w : World} {lo hi P : Nat} {va vb vc : Value} {a b c : List Int} (h : IsT 72 w lo hi P va vb vc a b c) (fold : Bool) :
    Calls Try.prog 31 #[.pointer (some ⟨P, 0, none⟩), .bool fold] w fun e w' => e = .returned (if fold then vb else va) ∧ w' = w := by
  obtain ⟨ao, cap, ea⟩ := h.sa
  obtain ⟨bo, cap', eb⟩ := h.sb
  exact list_any fold P va vb vc w h.row ⟨_, _, _, ea⟩ ⟨_, _, _, eb⟩
theorem all_take (l : List Int) (k : Nat) (hk : k < l.length) (h : (l.take k).all (· == 2) = true) (hx : (l[k] == 2) = true) : (l.take (k + 1)).all (· == 2) = true := by
  rw [List.take_succ_eq_append_getElem hk, List.all_append, h]
  simpa using hx
theorem all_not (l : List Int) (k : Nat) (hk : k < l.length) (hx : (l[k] == 2) = false) : allD l = false := by
  unfold allD
  rw [List.all_eq_false]
  exact ⟨l[k], List.getElem_mem hk, by rw [hx]; simp⟩
set_option maxRecDepth 100000 in
set_option maxHeartbeats 1000000 in
theorem over_any {lo hi P : Nat} {va vb vc : Value} {a b c : List Int} (w : World) (h : IsT 72 w lo hi P va vb vc a b c) (fold : Bool) :
    Calls Try.prog 32 #[.pointer (some ⟨P, 0, none⟩), .bool fold] w fun e w' => e = .returned (.bool (allD (sel fold a b))) ∧ w' = w := by
  have D := h.list fold
  have hl := sel_len h fold
  obtain ⟨ao, cap, e, hc⟩ := h.pick fold
  rw [e] at D
  have HD := Lib.hid D
  have HC := Lib.hid hc
  clear D h e hc
  generalize sel fold a b = l at *
  obtain ⟨n, hn⟩ : ∃ n, n = l.length := ⟨_, rfl⟩
  rw [← hn] at hl HD
  have HN := Lib.hid hn
  clear hn
  go_enter Try.func32, Try.ntmps32
  go_wp2_with (go_at_call 31; refine HD.out.mono ?_; rintro _ w9 ⟨rfl, h9⟩; rw [h9]; clear h9 w9)
  go_loop [6] (fun kv => ∃ k : Nat, k ≤ n ∧ kv = .int .i64 k ∧ Hid ((l.take k).all (· == 2) = true)) (fun kv => n - (intOf kv).toNat)
  case atStart => exact ⟨0, Nat.zero_le _, rfl, rfl⟩
  case round =>
    obtain ⟨k, hk, rfl, HP⟩ := hrel
    by_cases hlt : k < n
    · have hkl : k < l.length := by have := HN.out; omega
      obtain ⟨g, off, rfl, c0⟩ := HC.out k hkl
      have HT : Hid ((l[k] == 2) = true → (l.take (k + 1)).all (· == 2) = true) := all_take l k hkl HP.out
      have HF : Hid ((l[k] == 2) = false → allD l = false) := all_not l k hkl
      clear HC HP
      generalize l[k] = x at c0 HT HF
      cases gx : x == 2 with
      | true =>
        have HT' := Lib.hid (HT.out gx)
        have gx2 : (x != 2) = false := by simpa [bne] using gx
        clear HT HF gx
        go_wp2
        go_round
        case rel => exact ⟨k + 1, by omega, by go_num, HT'⟩
        case measure => simp [intOf]; omega
      | false =>
        have HF' := Lib.hid (HF.out gx)
        have gx2 : (x != 2) = true := by simpa [bne] using gx
        clear HT HF gx
        go_wp2
        go_ret
        exact ⟨by rw [HF'.out]; rfl, rfl⟩
    · have HE : Hid (allD l = true) := by
        have h1 := HP.out
        rw [List.take_of_length_le (by have := HN.out; omega)] at h1
        exact h1
      clear HC HP
      go_wp2
      go_ret
      exact ⟨by rw [HE.out]; rfl, rfl⟩
set_option maxRecDepth 100000 in
set_option maxHeartbeats 1000000 in
theorem has_any {lo hi P : Nat} {va vb vc : Value} {a b c : List Int} (w : World) (h : IsT 72 w lo hi P va vb vc a b c) (fold : Bool) (i : Int) :
    Calls Try.prog 30 #[.pointer (some ⟨P, 0, none⟩), .bool fold, .int .i64 i] w fun e w' => e = .returned (.bool (decide (0 ≤ i) && decide (i < (sel fold a b).length))) ∧ w' = w := by
  have D := h.list fold
  obtain ⟨ao, cap, e, hc⟩ := h.pick fold
  rw [e] at D
  have HD := Lib.hid D
  clear D h e hc
  generalize (sel fold a b).length = n at *
  cases g1 : decide (0 ≤ i) with
  | false =>
    go_enter Try.func30, Try.ntmps30
    go_wp2_with (go_at_call 31; refine HD.out.mono ?_; rintro _ w9 ⟨rfl, h9⟩; rw [h9]; clear h9 w9)
    go_ret
    exact ⟨rfl, rfl⟩
  | true =>
    go_enter Try.func30, Try.ntmps30
    go_wp2_with (go_at_call 31; refine HD.out.mono ?_; rintro _ w9 ⟨rfl, h9⟩; rw [h9]; clear h9 w9)
    go_ret
    exact ⟨rfl, rfl⟩
set_option maxRecDepth 100000 in
set_option maxHeartbeats 1000000 in
theorem set_out {lo hi P : Nat} {va vb vc : Value} {a b c : List Int} (w : World) (h : IsT 72 w lo hi P va vb vc a b c) (fold : Bool) (i s m : Int) (hi' : i < 0 ∨ ((sel fold a b).length : Int) ≤ i) :
    Calls Try.prog 10 #[.pointer (some ⟨P, 0, none⟩), .bool fold, .int .i64 i, .int .i64 s, .int .i64 m] w fun e w' => e = .returned (.tuple #[.bool false, .int .i64 5]) ∧ w' = w := by
  have D := has_any w h fold i
  have e : (decide (0 ≤ i) && decide (i < (sel fold a b).length)) = false := by
    rcases hi' with h | h
    · rw [decide_eq_false (by omega)]; rfl
    · rw [decide_eq_false (p := i < _) (by omega), Bool.and_false]
  rw [e] at D
  have HD := Lib.hid D
  clear D e h hi'
  go_enter Try.func10, Try.ntmps10
  go_wp2_with (go_at_call 30; refine HD.out.mono ?_; rintro _ w9 ⟨rfl, h9⟩; rw [h9]; clear h9 w9)
  go_ret2
  exact ⟨rfl, rfl⟩
theorem has_in {lo hi P : Nat} {va vb vc : Value} {a b c : List Int} (w : World) (h : IsT 72 w lo hi P va vb vc a b c) (fold : Bool) (k : Nat) (hk : k < (sel fold a b).length) :
    Calls Try.prog 30 #[.pointer (some ⟨P, 0, none⟩), .bool fold, .int .i64 k] w fun e w' => e = .returned (.bool true) ∧ w' = w := by
  have D := has_any w h fold k
  rw [decide_eq_true (p := (0 : Int) ≤ k) (by omega), decide_eq_true (p := (k : Int) < _) (by omega)] at D
  exact D
set_option maxRecDepth 100000 in
set_option maxHeartbeats 1000000 in
theorem set1_in {lo hi P : Nat} {va vb vc : Value} {a b c : List Int} (w : World) (h : IsT 72 w lo hi P va vb vc a b c) (fold : Bool) (k : Nat) (hk : k < (sel fold a b).length) :
    Calls Try.prog 10 #[.pointer (some ⟨P, 0, none⟩), .bool fold, .int .i64 k, .int .i64 1, .int .i64 0] w fun e w' => ∃ bl, e = .returned (.tuple #[.bool bl, .int .i64 (begF a b fold k)]) ∧ IsT 72 w' lo hi P va vb vc (if begF a b fold k = 0 then updA fold a k 1 else a) (if begF a b fold k = 0 then updB fold b k 1 else b) c ∧ Win lo hi w w' := by
  have D := Lib.hid (has_in w h fold k hk)
  have M := Lib.hid (over_any w h false)
  have O := Lib.hid (h.list fold)
  obtain ⟨g, cap, hv, c0, f0, hg1, hg2, hS⟩ := h.setS fold hk
  have HS := Lib.hid hS
  have hF : begF a b fold k = if (sel fold a b)[k] = 2 ∨ (fold = true ∧ allD a = false) then 7 else 0 := by unfold begF; rw [getD_at _ _ hk]
  have hl := sel_len h fold
  have HH := Lib.hid h
  have eM : sel false a b = a := rfl
  rw [eM] at M
  rw [hv] at O
  rw [hF]
  clear h hF eM hS hv
  generalize (sel fold a b)[k] = x at *
  generalize (sel fold a b).length = n at *
  by_cases hx : x = 2
  · rw [if_pos (.inl hx)]
    have hx' : (x == 2) = true := by simpa using hx
    clear hx
    go_enter Try.func10, Try.ntmps10
    go_wp2_with (first | (go_at_call 30; refine D.out.mono ?_; rintro _ w9 ⟨rfl, h9⟩; rw [h9]; clear h9 w9) | (go_at_call 31; refine O.out.mono ?_; rintro _ w9 ⟨rfl, h9⟩; rw [h9]; clear h9 w9))
    go_ret2
    exact ⟨(by first | exact Or.inl rfl | exact Or.inr rfl), HH.out, Win.refl _ _ _⟩
  · have hx' : (x == 2) = false := by simpa using hx
    have hx2 : (x != 2) = true := by simpa using hx
    cases fold with
    | false =>
      rw [if_neg (by simp [hx])]
      clear hx M
      go_enter Try.func10, Try.ntmps10
      go_wp2_with (first | (go_at_call 30; refine D.out.mono ?_; rintro _ w9 ⟨rfl, h9⟩; rw [h9]; clear h9 w9) | (go_at_call 31; refine O.out.mono ?_; rintro _ w9 ⟨rfl, h9⟩; rw [h9]; clear h9 w9))
      go_ret2
      exact ⟨(by first | exact Or.inl rfl | exact Or.inr rfl), HS.out 1, (Win.refl _ _ _).store _ hg1 hg2⟩
    | true =>
      cases hA : allD a with
      | false =>
        rw [if_pos (.inr ⟨rfl, rfl⟩)]
        rw [hA] at M
        clear hx
        go_enter Try.func10, Try.ntmps10
        go_wp2_with (first | (go_at_call 30; refine D.out.mono ?_; rintro _ w9 ⟨rfl, h9⟩; rw [h9]; clear h9 w9) | (go_at_call 31; refine O.out.mono ?_; rintro _ w9 ⟨rfl, h9⟩; rw [h9]; clear h9 w9) | (go_at_call 32; refine M.out.mono ?_; rintro _ w9 ⟨rfl, h9⟩; rw [h9]; clear h9 w9))
        go_ret2
        exact ⟨(by first | exact Or.inl rfl | exact Or.inr rfl), HH.out, Win.refl _ _ _⟩
      | true =>
        rw [if_neg (by simp [hx])]
        rw [hA] at M
        clear hx
        go_enter Try.func10, Try.ntmps10
        go_wp2_with (first | (go_at_call 30; refine D.out.mono ?_; rintro _ w9 ⟨rfl, h9⟩; rw [h9]; clear h9 w9) | (go_at_call 31; refine O.out.mono ?_; rintro _ w9 ⟨rfl, h9⟩; rw [h9]; clear h9 w9) | (go_at_call 32; refine M.out.mono ?_; rintro _ w9 ⟨rfl, h9⟩; rw [h9]; clear h9 w9))
        go_ret2
        exact ⟨(by first | exact Or.inl rfl | exact Or.inr rfl), HS.out 1, (Win.refl _ _ _).store _ hg1 hg2⟩
set_option maxRecDepth 100000 in
set_option maxHeartbeats 1000000 in
theorem set0_in {lo hi P : Nat} {va vb vc : Value} {a b c : List Int} (w : World) (h : IsT 72 w lo hi P va vb vc a b c) (fold : Bool) (k : Nat) (hk : k < (sel fold a b).length) :
    Calls Try.prog 10 #[.pointer (some ⟨P, 0, none⟩), .bool fold, .int .i64 k, .int .i64 0, .int .i64 0] w fun e w' => ∃ bl, e = .returned (.tuple #[.bool bl, .int .i64 0]) ∧ IsT 72 w' lo hi P va vb vc (if (sel fold a b).getD k 0 = 1 then updA fold a k 0 else a) (if (sel fold a b).getD k 0 = 1 then updB fold b k 0 else b) c ∧ Win lo hi w w' := by
  have D := Lib.hid (has_in w h fold k hk)
  have O := Lib.hid (h.list fold)
  obtain ⟨g, cap, hv, c0, f0, hg1, hg2, hS⟩ := h.setS fold hk
  have HS := Lib.hid hS
  have hl := sel_len h fold
  have HH := Lib.hid h
  rw [hv] at O
  rw [getD_at _ _ hk]
  clear h hS hv
  generalize (sel fold a b)[k] = x at *
  generalize (sel fold a b).length = n at *
  by_cases hx : x = 1
  · rw [if_pos hx, if_pos hx]
    have hx' : (x == 1) = true := by simpa using hx
    clear hx
    go_enter Try.func10, Try.ntmps10
    go_wp2_with (first | (go_at_call 30; refine D.out.mono ?_; rintro _ w9 ⟨rfl, h9⟩; rw [h9]; clear h9 w9) | (go_at_call 31; refine O.out.mono ?_; rintro _ w9 ⟨rfl, h9⟩; rw [h9]; clear h9 w9))
    go_ret2
    exact ⟨_, rfl, HS.out 0, (Win.refl _ _ _).store _ hg1 hg2⟩
  · rw [if_neg hx, if_neg hx]
    have hx' : (x == 1) = false := by simpa using hx
    clear hx
    go_enter Try.func10, Try.ntmps10
    go_wp2_with (first | (go_at_call 30; refine D.out.mono ?_; rintro _ w9 ⟨rfl, h9⟩; rw [h9]; clear h9 w9) | (go_at_call 31; refine O.out.mono ?_; rintro _ w9 ⟨rfl, h9⟩; rw [h9]; clear h9 w9))
    go_ret2
    exact ⟨_, rfl, HH.out, Win.refl _ _ _⟩
set_option maxRecDepth 100000 in
set_option maxHeartbeats 1000000 in
theorem set2_in {lo hi P : Nat} {va vb vc : Value} {a b c : List Int} (w : World) (h : IsT 72 w lo hi P va vb vc a b c) (fold : Bool) (k : Nat) (m : Int) (hk : k < (sel fold a b).length) :
    Calls Try.prog 10 #[.pointer (some ⟨P, 0, none⟩), .bool fold, .int .i64 k, .int .i64 2, .int .i64 m] w fun e w' => e = .returned (.tuple #[.bool ((sel fold a b).getD k 0 != 2), .int .i64 0]) ∧ IsT 72 w' lo hi P va vb vc (updA fold a k 2) (updB fold b k 2) (if (sel fold a b).getD k 0 != 2 && !fold then c.set k m else c) ∧ Win lo hi w w' := by
  have D := Lib.hid (has_in w h fold k hk)
  have O := Lib.hid (h.list fold)
  obtain ⟨g, cap, hv, c0, f0, hg1, hg2, hS⟩ := h.setS fold hk
  have HS := Lib.hid hS
  have hl := sel_len h fold
  have C2 := Lib.hid (hS 2).row
  rw [hv] at O
  rw [getD_at _ _ hk]
  have hkc : fold = false → k < c.length := fun e => by subst e; have := h.small; simp [sel] at hk; omega
  have HSC : Hid (∀ e : fold = false, ∃ g' cap', vc = .slice (some ⟨g', 0, none⟩) c.length cap' ∧ (w.setCell ⟨g, k, none⟩ (.int .i64 2)).cell? ⟨g', k, none⟩ = some (.int .i64 (c[k]'(hkc e))) ∧ (w.setCell ⟨g, k, none⟩ (.int .i64 2)).frozen? ⟨g', k, none⟩ = false ∧ lo ≤ g' ∧ g' < hi ∧ ∀ x, IsT 72 ((w.setCell ⟨g, k, none⟩ (.int .i64 2)).setCell ⟨g', k, none⟩ (.int .i64 x)) lo hi P va vb vc (updA fold a k 2) (updB fold b k 2) (c.set k x)) := fun e => (hS 2).setC (hkc e)
  have hsm := h.small
  clear h hS hv
  generalize (sel fold a b)[k] = x at *
  generalize (sel fold a b).length = n at *
  cases fold with
  | true =>
    clear HSC C2 hkc
    rw [show ((x != 2) && !true) = false by simp]
    cases gx : x != 2 <;>
    (go_enter Try.func10, Try.ntmps10
     go_wp2_with (first | (go_at_call 30; refine D.out.mono ?_; rintro _ w9 ⟨rfl, h9⟩; rw [h9]; clear h9 w9) | (go_at_call 31; refine O.out.mono ?_; rintro _ w9 ⟨rfl, h9⟩; rw [h9]; clear h9 w9))
     go_ret2
     exact ⟨rfl, HS.out 2, (Win.refl _ _ _).store _ hg1 hg2⟩)
  | false =>
    obtain ⟨g', cap', hvc, d0, e0, hg3, hg4, hSC⟩ := HSC.out rfl
    have HSC' := Lib.hid hSC
    have hkc' := hkc rfl
    have p2 : (w.setCell ⟨g, k, none⟩ (.int .i64 2)).cell? ⟨P, 2, none⟩ = some vc := C2.out.at rfl
    rw [hvc] at p2
    generalize c[k] = y at *
    have hcl : c.length ≤ 60 := by omega
    clear HSC C2 hkc hSC hvc hsm
    cases gx : x != 2 with
    | true =>
      clear HS
      go_enter Try.func10, Try.ntmps10
      go_wp2_with (first | (go_at_call 30; refine D.out.mono ?_; rintro _ w9 ⟨rfl, h9⟩; rw [h9]; clear h9 w9) | (go_at_call 31; refine O.out.mono ?_; rintro _ w9 ⟨rfl, h9⟩; rw [h9]; clear h9 w9))
      go_ret2
      exact ⟨rfl, HSC'.out m, ((Win.refl _ _ _).store _ hg1 hg2).store _ hg3 hg4⟩
    | false =>
      clear HSC'
      go_enter Try.func10, Try.ntmps10
      go_wp2_with (first | (go_at_call 30; refine D.out.mono ?_; rintro _ w9 ⟨rfl, h9⟩; rw [h9]; clear h9 w9) | (go_at_call 31; refine O.out.mono ?_; rintro _ w9 ⟨rfl, h9⟩; rw [h9]; clear h9 w9))
      go_ret2
      exact ⟨rfl, HS.out 2, (Win.refl _ _ _).store _ hg1 hg2⟩
set_option maxRecDepth 100000 in
set_option maxHeartbeats 2000000 in
theorem nextOf_any {lo hi P : Nat} {va vb vc : Value} {a b c : List Int} (w : World) (h : IsT 72 w lo hi P va vb vc a b c) :
    Calls Try.prog 36 #[.pointer (some ⟨P, 0, none⟩)] w fun e w' => e = .returned (.tuple #[.bool (next a b).1, .int .i64 (next a b).2.1, .bool (next a b).2.2]) ∧ w' = w := by
  have c0 := h.row.at (i := 0) (v := va) rfl
  have c1 := h.row.at (i := 1) (v := vb) rfl
  have O1 := Lib.hid (over_any w h true)
  have O2 := Lib.hid (over_any w h false)
  have e1 : sel true a b = b := rfl
  have e2 : sel false a b = a := rfl
  rw [e1] at O1
  rw [e2] at O2
  clear e1 e2
  have hsm := h.small
  obtain ⟨ao, cap, ea, ha⟩ := isIs_of h.oa
  obtain ⟨bo, cap', eb, hb⟩ := isIs_of h.ob
  subst ea eb
  have HA := Lib.hid ha
  have HB := Lib.hid hb
  clear h ha hb
  have HX : Hid (next a b = if allD b then (false, 0, false) else if 0 ≤ idx a then (false, idx a, true) else if 0 ≤ idx b ∧ allD a = true then (true, idx b, true) else (false, 0, false)) := rfl
  generalize next a b = X at *
  obtain ⟨n, hn⟩ : ∃ n, n = a.length := ⟨_, rfl⟩
  obtain ⟨n', hn'⟩ : ∃ n, n = b.length := ⟨_, rfl⟩
  rw [← hn] at c0 hsm
  rw [← hn'] at c1 hsm
  have HN := Lib.hid hn
  have HN' := Lib.hid hn'
  clear hn hn'
  cases hB : allD b with
  | true =>
    have HX' : Hid (X = (false, 0, false)) := by show _ = _; rw [HX.out, hB]; rfl
    rw [hB] at O1
    clear HX HA HB
    go_enter Try.func36, Try.ntmps36
    go_wp2_with (go_at_call 32; refine O1.out.mono ?_; rintro _ w9 ⟨rfl, h9⟩; rw [h9]; clear h9 w9)
    go_ret3
    exact ⟨by rw [HX'.out]; rfl, rfl⟩
  | false =>
    rw [hB] at O1
    go_enter Try.func36, Try.ntmps36
    go_wp2_with (go_at_call 32; refine O1.out.mono ?_; rintro _ w9 ⟨rfl, h9⟩; rw [h9]; clear h9 w9)
    clear O1
    go_loop [5] (fun kv => ∃ (k : Nat), k ≤ n ∧ kv = .int .i64 k ∧ Hid (∀ j (h : j < a.length), j < k → a[j] ≠ 0)) (fun kv => n - (intOf kv).toNat)
    case atStart => exact ⟨0, Nat.zero_le _, rfl, fun j _ h => absurd h (by omega)⟩
    case round =>
      obtain ⟨k, hk, rfl, HP⟩ := hrel
      by_cases hlt : k < n
      · have hkl : k < a.length := by have := HN.out; omega
        obtain ⟨g, off, rfl, d0⟩ := HA.out k hkl
        have HF : Hid (a[k] = 0 → idx a = k) := fun h => idx_at a k hkl HP.out h
        have HT : Hid (a[k] ≠ 0 → ∀ j (h : j < a.length), j < k + 1 → a[j] ≠ 0) := fun h j hj hjk => by
          by_cases e : j = k
          · subst e; exact h
          · exact HP.out j hj (by omega)
        clear HA HB HP O2
        generalize a[k] = x at d0 HF HT
        by_cases hx : x = 0
        · have HX' : Hid (X = (false, (k : Int), true)) := by
            show _ = _
            rw [HX.out, hB, if_neg (by simp), HF.out hx, if_pos (by omega)]
          subst hx
          clear HF HT HX
          go_wp2
          go_ret3
          exact ⟨by rw [HX'.out]; rfl, rfl⟩
        · have HT' := Lib.hid (HT.out hx)
          have hx' : (x == 0) = false := by simpa using hx
          clear HF HT hx
          go_wp2
          go_round
          case rel => exact ⟨k + 1, by omega, by go_num, HT'⟩
          case measure => simp [intOf]; omega
      · have HE : Hid (idx a = -1) := idx_none a fun j h => HP.out j h (by have := HN.out; omega)
        clear HA HP
        cases hA : allD a with
        | false =>
          have HX' : Hid (X = (false, 0, false)) := by
            show _ = _
            rw [HX.out, hB, if_neg (by simp), HE.out, if_neg (by omega), hA, if_neg (by simp)]
          rw [hA] at O2
          clear HX HB HE
          go_wp2_with (go_at_call 32; refine O2.out.mono ?_; rintro _ w9 ⟨rfl, h9⟩; rw [h9]; clear h9 w9)
          go_ret3
          exact ⟨by rw [HX'.out]; rfl, rfl⟩
        | true =>
          have HX2 : Hid (X = if 0 ≤ idx b then (true, idx b, true) else (false, 0, false)) := by
            show _ = _
            rw [HX.out, hB, if_neg (by simp), HE.out, if_neg (by omega), hA]
            simp
          rw [hA] at O2
          clear HX HE
          go_wp2_with (go_at_call 32; refine O2.out.mono ?_; rintro _ w9 ⟨rfl, h9⟩; rw [h9]; clear h9 w9)
          clear O2
          try generalize decide (k < n) = bb
          go_loop [6] (fun kv => ∃ (k : Nat), k ≤ n' ∧ kv = .int .i64 k ∧ Hid (∀ j (h : j < b.length), j < k → b[j] ≠ 0)) (fun kv => n' - (intOf kv).toNat)
          case atStart => exact ⟨0, Nat.zero_le _, rfl, fun j _ h => absurd h (by omega)⟩
          case round =>
            obtain ⟨k2, hk2, rfl, HP⟩ := hrel
            by_cases hlt2 : k2 < n'
            · have hkl : k2 < b.length := by have := HN'.out; omega
              obtain ⟨g, off, rfl, d0⟩ := HB.out k2 hkl
              have HF : Hid (b[k2] = 0 → idx b = k2) := fun h => idx_at b k2 hkl HP.out h
              have HT : Hid (b[k2] ≠ 0 → ∀ j (h : j < b.length), j < k2 + 1 → b[j] ≠ 0) := fun h j hj hjk => by
                by_cases e : j = k2
                · subst e; exact h
                · exact HP.out j hj (by omega)
              clear HB HP
              generalize b[k2] = x at d0 HF HT
              by_cases hx : x = 0
              · have HX' : Hid (X = (true, (k2 : Int), true)) := by
                  show _ = _
                  rw [HX2.out, HF.out hx, if_pos (by omega)]
                subst hx
                clear HF HT HX2
                go_wp2
                go_ret3
                exact ⟨by rw [HX'.out]; rfl, rfl⟩
              · have HT' := Lib.hid (HT.out hx)
                have hx' : (x == 0) = false := by simpa using hx
                clear HF HT hx
                go_wp2
                go_round
                case rel => exact ⟨k2 + 1, by omega, by go_num, HT'⟩
                case measure => simp [intOf]; omega
            · have HX' : Hid (X = (false, 0, false)) := by
                show _ = _
                rw [HX2.out, idx_none b fun j h => HP.out j h (by have := HN'.out; omega), if_neg (by omega)]
              clear HB HP HX2
              go_wp2
              go_ret3
              exact ⟨by rw [HX'.out]; rfl, rfl⟩
end Go.Proofs.Ytilgiehcpmafgaa
