/- Put together of Mp3, Mp9, ExQ, ExF, Jf1, Jf2, Mp10. -/
import Derived.Test.YtmgpacenooncjaaGreatDoorG4
import Derived.Test.YtmgpacenooncjaaGreatDoorJb
import Derived.Test.YtmgpacenooncjaaGreatDoorShelfM
import Derived.Test.YtmgpacenooncjaaGreatDoorG3
import Derived.Test.YtmgpacenooncjaaGreatDoorJbC
import Derived.Test.YtmgpacenooncjaaGreatDoorPcs
import Derived.Deep.LoopGhost
/- Records of an input. -/
namespace Go.Proofs.YtmgpacenooncjaaGreatDoor
open Go.ChangeShapes Go.WideShapes Go.ChangeAt Go.RowKit
theorem spl_count (c : UInt8) : ∀ t : List UInt8, (spl c t).length = t.count c + 1 := by
  intro t
  induction t with
  | nil => rfl
  | cons b r ih =>
    unfold spl
    by_cases h : b = c
    · subst h
      rw [if_pos rfl, List.length_cons, ih, List.count_cons_self]
    · rw [if_neg h, List.length_cons, List.length_tail, ih, List.count_cons_of_ne (by simpa using h)]
      omega
theorem suffix_end (t : List UInt8) (c : UInt8) : Lib.hasSuffix (t ++ [c]) [10] = decide (c = 10) := by
  unfold Lib.hasSuffix
  by_cases h : c = 10
  · subst h
    rw [decide_eq_true rfl, List.isSuffixOf_iff_suffix]
    exact ⟨t, rfl⟩
  · rw [decide_eq_false h, Bool.eq_false_iff]
    intro hs
    rw [List.isSuffixOf_iff_suffix] at hs
    obtain ⟨u, hu⟩ := hs
    have := (List.append_inj' hu rfl).2
    injection this with this
    exact h this.symm
theorem trim_one (t : List UInt8) : Lib.trimSuffix (t ++ [10]) [10] = t := by
  unfold Lib.trimSuffix
  rw [if_pos (by rw [suffix_end]; rfl)]
  simp
theorem any_at {α : Type} {l : List α} {p : α → Bool} {i : Nat} {x : α} (hx : l[i]? = some x) (hp : p x = true) : l.any p = true := List.any_eq_true.2 ⟨x, List.mem_of_getElem? hx, hp⟩
theorem any_take {α : Type} {l : List α} {p : α → Bool} {i : Nat} {x : α} (hx : l[i]? = some x) (hp : p x = false) (h : (l.take i).any p = false) : (l.take (i + 1)).any p = false := by
  rw [take_snoc hx, List.any_append, h]
  simp [hp]
set_option maxRecDepth 100000 in
set_option maxHeartbeats 4000000 in
theorem records_any (s : List UInt8) (w : World) (E : Env0 w) (hs : s.length ≤ 100000) :
    Calls Tryz.prog 9 #[.string (bs s)] w fun e w' => ∃ v, e = .returned (.tuple #[v, errV (recsF s).2]) ∧ IsTexts w' v ((recsF s).1.map bs) ∧ Below w.heap.size w w' := by
  by_cases h0 : s = []
  · subst h0
    have h1 : (bs []).toList.isEmpty = true := by rw [bs_toList]; rfl
    go_enter Tryz.func9, Tryz.ntmps9
    go_wp2
    go_ret2
    exact ⟨_, rfl, nil_texts _, Below.refl _ _⟩
  have h1 : (bs s).toList.isEmpty = false := by rw [bs_toList]; simpa using h0
  obtain ⟨t, c, rfl⟩ : ∃ t c, s = t ++ [c] := ⟨s.dropLast, s.getLast h0, (List.dropLast_concat_getLast h0).symm⟩
  have htl : t.length ≤ 100000 := by simp at hs; omega
  have hz : (bs (t ++ [c])).size ≤ 9223372036854775807 := by rw [bs_size]; omega
  have HS : Hid (Calls Tryz.prog 34 #[.string (bs (t ++ [c])), .string ⟨#[10]⟩] w fun e w' => e = .returned (.bool (decide (c = 10))) ∧ w' = w) := by
    have h := Any.strings_HasSuffix Tryz.lays100 (bs (t ++ [c])) ⟨#[10]⟩ w hz
    rw [bs_data, suffix_end] at h
    exact h
  by_cases hc : c = 10
  · subst hc
    have CT : Hid (Calls Tryz.prog 35 #[.string (bs (t ++ [10])), .string ⟨#[10]⟩] w fun e w' => e = .returned (.int .i64 ((spl 10 t).length : Nat)) ∧ w' = w) := by
      have h := Any.strings_Count_one Tryz.lays138 (bs (t ++ [10])) 10 w
      have e : Lib.countByte (t ++ [10]) 10 = (spl 10 t).length := by
        unfold Lib.countByte
        rw [spl_count, List.count_append]
        rfl
      rw [bs_data, e] at h
      exact h
    have TR : Hid (Calls Tryz.prog 37 #[.string (bs (t ++ [10])), .string ⟨#[10]⟩] w fun e w' => e = .returned (.string (bs t)) ∧ w' = w) := by
      have h := Any.strings_TrimSuffix Tryz.lays102 (bs (t ++ [10])) ⟨#[10]⟩ w hz
      have e : (⟨(Lib.trimSuffix (t ++ [10]) [10]).toArray⟩ : ByteArray) = bs t := by rw [trim_one]; rfl
      rw [bs_data, show (⟨#[10]⟩ : ByteArray).data.toList = [10] from rfl, e] at h
      exact h
    have SP := Lib.hid (split_any 10 t w E (by omega))
    have HRF := Lib.hid (recsF_end t)
    obtain ⟨L, hL⟩ : ∃ L, L = spl 10 t := ⟨_, rfl⟩
    have HLN : Hid (∀ x ∈ L, x.length ≤ 100000) := fun x hx => by
      rw [hL] at hx
      have := spl_mem_len 10 t x hx
      omega
    have hll : L.length ≤ 100001 := by rw [hL]; have := spl_lenR 10 t; omega
    rw [← hL] at CT SP HRF
    obtain ⟨n, hn⟩ : ∃ n, n = L.length := ⟨_, rfl⟩
    rw [← hn] at CT SP HRF hll
    have HN := Lib.hid hn
    clear hz hs hL hn h0
    go_enter Tryz.func9, Tryz.ntmps9
    go_wp2_with (go_at_call 34; refine Hid.out ?_)
    refine Lib.hid ?_
    refine HS.out.mono ?_
    rintro _ w1 ⟨rfl, rfl⟩
    go_wp2_with (go_at_call 35; refine Hid.out ?_)
    refine Lib.hid ?_
    refine CT.out.mono ?_
    rintro _ w2 ⟨rfl, rfl⟩
    by_cases h60 : 60 < n
    · have g : (60 : Int) < (n : Int) := by omega
      go_wp2
      go_ret2
      rw [HRF.out, if_pos h60]
      exact ⟨_, rfl, nil_texts _, Below.refl _ _⟩
    · have g : ¬ (60 : Int) < (n : Int) := by omega
      have HRF2 : Hid (recsF (t ++ [10]) = if L.any (fun x => decide (120 < x.length)) = true then ([], 1) else (L, 0)) := by
        show _ = _
        rw [HRF.out, if_neg h60]
      clear HRF
      go_wp2_with (go_at_call 37; refine Hid.out ?_)
      refine Lib.hid ?_
      refine TR.out.mono ?_
      rintro _ w3 ⟨rfl, rfl⟩
      go_wp2_with (go_at_call 36; refine Hid.out ?_)
      refine Lib.hid ?_
      refine SP.out.mono ?_
      rintro _ w4 ⟨sb, rfl, hcell, hb4⟩
      have HC := Lib.hid hcell
      have HB4 := Lib.hid hb4
      have A0 : Hid ((L.take 0).any (fun x => decide (120 < x.length)) = false) := rfl
      clear hcell hb4 HS CT TR SP
      go_wp2
      go_loopg [25] n (fun gg iv wr => ∃ i : Nat, gg = n - i ∧ i ≤ n ∧ iv = .int .i64 i ∧ wr = w4 ∧ Hid ((L.take i).any (fun x => decide (120 < x.length)) = false))
      case atStart => exact ⟨0, rfl, Nat.zero_le _, rfl, rfl, A0⟩
      case round =>
        clear A0
        obtain ⟨i, hgi, hi, rfl, rfl, HA⟩ := hrel
        have HGI := Lib.hid hgi
        clear hgi
        by_cases hlt : i < n
        · obtain ⟨x, hx⟩ : ∃ x, L[i]? = some x := ⟨L[i]'(by rw [← HN.out]; exact hlt), by simp⟩
          have c0 := HC.out i x hx
          have hxl := HLN.out x (List.mem_of_getElem? hx)
          have hbx : (bs x).size = x.length := bs_size x
          obtain ⟨xn, hxn⟩ : ∃ xn, xn = x.length := ⟨_, rfl⟩
          rw [← hxn] at hbx hxl
          have HXN := Lib.hid hxn
          have HX := Lib.hid hx
          have hin : (i : Int) < (n : Int) := by omega
          clear hx hxn
          by_cases h120 : 120 < xn
          · have g2 : (120 : Int) < (xn : Int) := by omega
            have HY : Hid (L.any (fun x => decide (120 < x.length)) = true) := any_at HX.out (decide_eq_true (by rw [← HXN.out]; exact h120))
            go_wp2
            go_ret2
            rw [HRF2.out, if_pos HY.out]
            exact ⟨_, rfl, nil_texts _, HB4.out⟩
          · have g2 : ¬ (120 : Int) < (xn : Int) := by omega
            have HY : Hid ((L.take (i + 1)).any (fun x => decide (120 < x.length)) = false) := any_take HX.out (decide_eq_false (by rw [← HXN.out]; exact h120)) HA.out
            go_wp2
            go_roundg (n - (i + 1))
            case measure => have := HGI.out; omega
            case rel => exact ⟨i + 1, rfl, hlt, by go_num, rfl, HY⟩
        · have HY : Hid (L.any (fun x => decide (120 < x.length)) = false) := by
            have h := HA.out
            rw [List.take_of_length_le (by rw [← HN.out]; omega)] at h
            exact h
          go_wp2
          go_ret2
          rw [HRF2.out, if_neg (by rw [HY.out]; decide)]
          refine ⟨_, rfl, ⟨some ⟨sb, 0, none⟩, n, by rw [List.length_map, ← HN.out]; rfl, fun k hk => ?_⟩, HB4.out⟩
          rw [List.length_map] at hk
          exact ⟨sb, 0, rfl, by rw [Nat.zero_add, HC.out k L[k] (by simp)]; simp⟩
  · rw [decide_eq_false hc] at HS
    have HRF := Lib.hid (recsF_not t c hc)
    clear hc hz hs h0
    go_enter Tryz.func9, Tryz.ntmps9
    go_wp2_with (go_at_call 34; refine Hid.out ?_)
    refine Lib.hid ?_
    refine HS.out.mono ?_
    rintro _ w1 ⟨rfl, rfl⟩
    go_wp2
    go_ret2
    rw [HRF.out]
    exact ⟨_, rfl, nil_texts _, Below.refl _ _⟩
end Go.Proofs.YtmgpacenooncjaaGreatDoor
/- Mapping: the closed fact maps. -/
namespace Go.Proofs.YtmgpacenooncjaaGreatDoor
open Go.ChangeShapes Go.WideShapes Go.ChangeAt Go.RowKit
def litMr : Rl := ⟨true, 0, .mk 0 0 [] [], [], .mk 1 0 [] [], .mk 7 7 [] []⟩
def litMb : Jb := ⟨[litMr], 1, false, 1⟩
theorem nilExN (w : World) (k n : Int) : IsEx w (.slice none 0 0) (.mk k n [] []) :=
  IsEx.mk k n [] none 0 [] 0 0 (fun _ => undef) (fun h => by simp at h) (fun i x hx => by simp at hx) (fun i x hx => by simp at hx)
theorem litMb_fault : jobFault litMb = 0 := by decide +kernel
theorem litMb_pairs : rulesP litMb.rules litMb.fold [97, 32, 98] = [(⟨#[97]⟩, 7), (⟨#[98]⟩, 7)] := by decide +kernel
theorem litMb_wt : rulesWt litMb.rules ≤ 1000000000 := by decide +kernel
theorem isPairs_two (w : World) : Pp.IsPairs (w.alloc (.cells #[.string ⟨#[97]⟩, .int .i64 7, .string ⟨#[98]⟩, .int .i64 7] 67)) (.slice (some ⟨w.heap.size, 0, none⟩) 2 2) [(⟨#[97]⟩, 7), (⟨#[98]⟩, 7)] := by
  have b := blk_new (w := w) (cs := #[.string ⟨#[97]⟩, .int .i64 7, .string ⟨#[98]⟩, .int .i64 7]) (t := 67) rfl
  refine ⟨_, 2, rfl, fun i hi => ⟨w.heap.size, 0, rfl, ?_⟩⟩
  have hi2 : i < 2 := hi
  have h : i = 0 ∨ i = 1 := by omega
  rcases h with rfl | rfl
  · exact ⟨b.at (i := 0) rfl, b.at (i := 1) rfl⟩
  · exact ⟨b.at (i := 2) rfl, b.at (i := 3) rfl⟩
set_option maxRecDepth 100000 in
set_option maxHeartbeats 1000000 in
theorem maps_any (w : World) (E : EnvS w) : Calls Tryz.prog 6 #[] w fun e w' => e = .returned (.bool true) ∧ Below w.heap.size w w' := by
  obtain ⟨w1, hw1⟩ : ∃ w1, w1 = w.alloc (.cells #[.bool true, .int .i64 0, .int .i64 0, .int .i64 0, .string ⟨#[]⟩, .slice none 0 0, .string ⟨#[]⟩, .int .i64 1, .int .i64 0, .string ⟨#[]⟩, .slice none 0 0, .int .i64 7, .int .i64 7, .string ⟨#[]⟩, .slice none 0 0] 58) := ⟨_, rfl⟩
  have hB : Blk w1 w.heap.size 58 [.bool true, .int .i64 0, .int .i64 0, .int .i64 0, .string ⟨#[]⟩, .slice none 0 0, .string ⟨#[]⟩, .int .i64 1, .int .i64 0, .string ⟨#[]⟩, .slice none 0 0, .int .i64 7, .int .i64 7, .string ⟨#[]⟩, .slice none 0 0] := by rw [hw1]; exact blk_new rfl
  obtain ⟨w2, hw2⟩ : ∃ w2, w2 = w1.alloc (.cells #[.slice (some ⟨w.heap.size, 0, none⟩) 1 1, .int .i64 1, .bool false, .int .i64 1] 24) := ⟨_, rfl⟩
  have hs1 : w1.heap.size = w.heap.size + 1 := by rw [hw1]; simp
  have hb1 : Below w.heap.size w w1 := by rw [hw1]; exact below_box _
  have hb12 : Below w1.heap.size w1 w2 := by rw [hw2]; exact below_box _
  have hb2 := below_trans hb1 hb12
  have hR : IsRules w2 (.slice (some ⟨w.heap.size, 0, none⟩) 1 1) litMb.rules := by
    have hB2 := hB.blw hb12
    refine ⟨_, 1, w.heap.size, 0, fun _ => .slice none 0 0, fun _ => .slice none 0 0, fun _ => .slice none 0 0, rfl, fun _ => rfl, fun i x hx => ?_⟩
    have hk : i = 0 ∧ litMr = x := by
      cases i with
      | zero => simpa [litMb] using hx
      | succ i => simp [litMb] at hx
    obtain ⟨rfl, rfl⟩ := hk
    refine ⟨⟨hB2.at rfl, hB2.at rfl, hB2.at rfl, hB2.at rfl, hB2.at rfl, hB2.at rfl, hB2.at rfl, hB2.at rfl, hB2.at rfl, hB2.at rfl, hB2.at rfl, hB2.at rfl, hB2.at rfl, hB2.at rfl, hB2.at rfl⟩, nilExN _ _ _, nilExN _ _ _, nilExN _ _ _⟩
  have JB2 : Blk w2 (w.heap.size + 1) 24 [.slice (some ⟨w.heap.size, 0, none⟩) 1 1, .int .i64 1, .bool false, .int .i64 1] := by rw [hw2]; exact blk_new hs1.symm
  have P := Lib.hid (pairs_any litMb _ [97, 32, 98] w2 hR litMb_wt litMb_fault (by decide) (E.lower hb2))
  rw [litMb_pairs] at P
  have k0 := JB2.at (i := 0) (v := .slice (some ⟨w.heap.size, 0, none⟩) 1 1) rfl
  have k1 := JB2.at (i := 1) (v := .int .i64 1) rfl
  have k2 := JB2.at (i := 2) (v := .bool false) rfl
  have k3 := JB2.at (i := 3) (v := .int .i64 1) rfl
  rw [hw1] at hw2
  have HW2 := Lib.hid hw2
  have HB2 := Lib.hid hb2
  clear hw1 hw2 hB hs1 hb1 hb12 hb2 hR JB2 E
  go_enter Tryz.func6, Tryz.ntmps6
  go_upto_region 2 with fail
  rw [← HW2.out]
  clear HW2
  go_wp2_with (go_at_call 18; refine Hid.out ?_)
  refine Lib.hid ?_
  refine P.out.mono ?_
  clear P
  rintro _ w3 ⟨u, rfl, hrow, hb3⟩
  have hP := Pp.owns_isPairs hrow
  have SP := Lib.hid (Pp.samePairs_any u (.slice (some ⟨w3.heap.size, 0, none⟩) 2 2) [(⟨#[97]⟩, 7), (⟨#[98]⟩, 7)] [(⟨#[97]⟩, 7), (⟨#[98]⟩, 7)] (w3.alloc (.cells #[.string ⟨#[97]⟩, .int .i64 7, .string ⟨#[98]⟩, .int .i64 7] 67)) (Pp.isPairs_below hP (below_box _)) (isPairs_two w3) (by decide))
  rw [decide_eq_true rfl] at SP
  have hb := below_trans HB2.out hb3
  obtain ⟨ua, uc, rfl, -⟩ := hP
  clear hrow hb3
  dsimp only
  go_wp2_with (go_at_call 17; refine Hid.out ?_)
  refine Lib.hid ?_
  refine SP.out.mono ?_
  rintro _ w4 ⟨rfl, nd, hd⟩
  have hb4 : Below w.heap.size w w4 := by rw [hd]; exact below_trans (below_trans hb (below_box _)) (below_drewN _ _)
  clear hd SP
  go_wp2
  go_ret
  exact ⟨rfl, hb4⟩
end Go.Proofs.YtmgpacenooncjaaGreatDoor
/- Contracts of the document's answer: shaped, ExprFault. Written by tpl/mk_shaped.py. -/
namespace Go.Proofs.YtmgpacenooncjaaGreatDoor
open Go.ChangeShapes Go.WideShapes Go.ChangeAt Go.RowKit
theorem fits_zero (s : List UInt8) : fitsB s 0 = true ↔ s = [] := by
  unfold fitsB
  cases s <;> simp
theorem ok_head {k n : Int} {s : List UInt8} {l : List Ex} {text each : Bool} (h : ¬ hdOk k n s l.length text each = true) : (Ex.mk k n s l).ok text each = false := by
  have h' : hdOk k n s l.length text each = false := by simpa using h
  simp [Ex.ok, h']
theorem hd1 {n : Int} {s : List UInt8} {len : Nat} {text each : Bool} : hdOk 1 n s len text each = true ↔ (((n = 0) ∧ s = []) ∧ (each = true) ∧ len = 0 ∧ text = true) := by
  have hz := fits_zero s
  cases text <;> cases each <;> simp [hdOk, known, isTxt, lowK, highK, bytesK, partsK, hz]
  all_goals (intros; omega)
theorem hd2 {n : Int} {s : List UInt8} {len : Nat} {text each : Bool} : hdOk 2 n s len text each = true ↔ (((n = 0) ∧ s = []) ∧ (True) ∧ len = 0 ∧ text = true) := by
  have hz := fits_zero s
  cases text <;> cases each <;> simp [hdOk, known, isTxt, lowK, highK, bytesK, partsK, hz]
  all_goals (intros; omega)
theorem hd3 {n : Int} {s : List UInt8} {len : Nat} {text each : Bool} : hdOk 3 n s len text each = true ↔ (((0 ≤ n ∧ n ≤ 120) ∧ s = []) ∧ (True) ∧ len = 0 ∧ text = true) := by
  have hz := fits_zero s
  cases text <;> cases each <;> simp [hdOk, known, isTxt, lowK, highK, bytesK, partsK, hz]
theorem hd4 {n : Int} {s : List UInt8} {len : Nat} {text each : Bool} : hdOk 4 n s len text each = true ↔ (((n = 0) ∧ fitsB s 20 = true) ∧ (True) ∧ len = 0 ∧ text = true) := by
  have hz := fits_zero s
  cases text <;> cases each <;> simp [hdOk, known, isTxt, lowK, highK, bytesK, partsK]
  all_goals (intros; omega)
theorem hd5 {n : Int} {s : List UInt8} {len : Nat} {text each : Bool} : hdOk 5 n s len text each = true ↔ (((n = 0) ∧ s = []) ∧ (True) ∧ len = 2 ∧ text = true) := by
  have hz := fits_zero s
  cases text <;> cases each <;> simp [hdOk, known, isTxt, lowK, highK, bytesK, partsK, hz]
  all_goals (intros; omega)
theorem hd6 {n : Int} {s : List UInt8} {len : Nat} {text each : Bool} : hdOk 6 n s len text each = true ↔ (((0 ≤ n ∧ n ≤ 120) ∧ s = []) ∧ (True) ∧ len = 1 ∧ text = true) := by
  have hz := fits_zero s
  cases text <;> cases each <;> simp [hdOk, known, isTxt, lowK, highK, bytesK, partsK, hz]
theorem hd7 {n : Int} {s : List UInt8} {len : Nat} {text each : Bool} : hdOk 7 n s len text each = true ↔ (((-1000 ≤ n ∧ n ≤ 1000) ∧ s = []) ∧ (True) ∧ len = 0 ∧ text = false) := by
  have hz := fits_zero s
  cases text <;> cases each <;> simp [hdOk, known, isTxt, lowK, highK, bytesK, partsK, hz]
theorem hd8 {n : Int} {s : List UInt8} {len : Nat} {text each : Bool} : hdOk 8 n s len text each = true ↔ (((n = 0) ∧ s = []) ∧ (True) ∧ len = 1 ∧ text = false) := by
  have hz := fits_zero s
  cases text <;> cases each <;> simp [hdOk, known, isTxt, lowK, highK, bytesK, partsK, hz]
  all_goals (intros; omega)
theorem hd9 {n : Int} {s : List UInt8} {len : Nat} {text each : Bool} : hdOk 9 n s len text each = true ↔ (((n = 0) ∧ s = []) ∧ (True) ∧ len = 0 ∧ text = false) := by
  have hz := fits_zero s
  cases text <;> cases each <;> simp [hdOk, known, isTxt, lowK, highK, bytesK, partsK, hz]
  all_goals (intros; omega)
theorem hd10 {n : Int} {s : List UInt8} {len : Nat} {text each : Bool} : hdOk 10 n s len text each = true ↔ (((n = 0) ∧ s = []) ∧ (True) ∧ len = 2 ∧ text = false) := by
  have hz := fits_zero s
  cases text <;> cases each <;> simp [hdOk, known, isTxt, lowK, highK, bytesK, partsK, hz]
  all_goals (intros; omega)
set_option maxRecDepth 100000 in
set_option maxHeartbeats 4000000 in
theorem shaped_any {w : World} {sv : Value} {e : Ex} (h : IsEx w sv e) : e.wt ≤ 1000000000 → ∀ (text each : Bool) w', Below w.heap.size w w' →
    Calls Tryz.prog 72 #[e.val sv, .bool text, .bool each] w' fun r w'' => r = .returned (.bool (e.ok text each)) ∧ Below w'.heap.size w' w'' := by
  induction h using IsEx.ind with
  | mk k n s a cap l b off A ha hc kids ih =>
    intro hw text each w1 hb
    simp only [Ex.wt] at hw
    have hl := len_wtL l
    have HA := Lib.hid ha
    have HC := Lib.hid hc
    have HB := Lib.hid hb
    have IH := Lib.hid (fun i x hx t => ih i x hx (by have := wt_kid hx; omega) t each)
    have NE := Lib.hid (fun w => noEnd_any s w (by omega))
    have hsz : (bs s).size ≤ 1000000000 := by rw [bs_size]; omega
    have HS := Lib.hid (bs_size s)
    clear ha hc hb ih kids
    simp only [Ex.val, Ex.k, Ex.n, Ex.s]
    have hT : (bs s).toList.isEmpty = s.isEmpty := by rw [bs_toList]
    have hk : k = 1 ∨ k = 2 ∨ k = 3 ∨ k = 4 ∨ k = 5 ∨ k = 6 ∨ k = 7 ∨ k = 8 ∨ k = 9 ∨ k = 10 ∨ ¬ (1 ≤ k ∧ k ≤ 10) := by omega
    rcases hk with rfl | rfl | rfl | rfl | rfl | rfl | rfl | rfl | rfl | rfl | hk
    · skip
      by_cases hn : ¬ n = 0
      · have hn2 : (n == 0) = false := by simpa using hn
        have HF : Hid ((Ex.mk 1 n s l).ok text each = false) := ok_head (fun h => absurd (hd1.1 h) (by intro hh; exact hn hh.1.1))
        generalize (Ex.mk 1 n s l).ok text each = R at *
        go_enter Tryz.func72, Tryz.ntmps72
        go_wp2
        go_ret
        exact ⟨by rw [HF.out]; rfl, below_box _⟩
      replace hn := Decidable.not_not.1 hn
      subst hn
      have n0 : ((0 : Int) == 0) = true := rfl
      cases hs : s with
      | cons c s' =>
        rw [hs] at hT
        rw [← hs]
        have hT2 : (bs s).toList.isEmpty = false := by rw [hs]; exact hT
        clear hT
        have HF : Hid ((Ex.mk 1 0 s l).ok text each = false) := ok_head (fun h => absurd (hd1.1 h) (by intro hh; have h1 := hh.1.2; rw [hs] at h1; cases h1))
        generalize (Ex.mk 1 0 s l).ok text each = R at *
        clear hs
        go_enter Tryz.func72, Tryz.ntmps72
        go_wp2
        go_ret
        exact ⟨by rw [HF.out]; rfl, below_box _⟩
      | nil =>
      subst hs
      have hT2 : (bs []).toList.isEmpty = true := by rw [bs_toList]; rfl
      clear hT
      cases each with
      | false =>
        have HF : Hid ((Ex.mk 1 0 [] l).ok text false = false) := ok_head (fun h => absurd (hd1.1 h) (by intro hh; exact absurd hh.2.1 (by decide)))
        generalize (Ex.mk 1 0 [] l).ok text false = R at *
        go_enter Tryz.func72, Tryz.ntmps72
        go_wp2
        go_ret
        exact ⟨by rw [HF.out]; rfl, below_box _⟩
      | true =>
      by_cases hlen : ¬ l.length = 0
      · have hlen2 : ((l.length : Int) == 0) = false := by rw [beq_eq_false_iff_ne]; omega
        have HF : Hid ((Ex.mk 1 0 [] l).ok text true = false) := ok_head (fun h => absurd (hd1.1 h) (by intro hh; exact hlen hh.2.2.1))
        generalize (Ex.mk 1 0 [] l).ok text true = R at *
        go_enter Tryz.func72, Tryz.ntmps72
        go_wp2
        go_ret
        exact ⟨by rw [HF.out]; rfl, below_box _⟩
      replace hlen := Decidable.not_not.1 hlen
      have hlen2 : ((l.length : Int) == 0) = true := by rw [beq_iff_eq]; omega
      cases text with
      | false =>
        have HF : Hid ((Ex.mk 1 0 [] l).ok false true = false) := ok_head (fun h => absurd (hd1.1 h) (by intro hh; exact absurd hh.2.2.2 (by decide)))
        generalize (Ex.mk 1 0 [] l).ok false true = R at *
        go_enter Tryz.func72, Tryz.ntmps72
        go_wp2
        go_ret
        exact ⟨by rw [HF.out]; rfl, below_box _⟩
      | true =>
      have HO : Hid ((Ex.mk 1 0 [] l).ok true true = Ex.ok.okL l false true) := by
        show _ = _
        have h1 : hdOk 1 0 [] l.length true true = true := hd1.2 ⟨⟨rfl, rfl⟩, rfl, hlen, rfl⟩
        simp [Ex.ok, h1, textsK]
      generalize (Ex.mk 1 0 [] l).ok true true = R at *
      have HR : Hid (R = true) := by
        show _ = true
        rw [HO.out, List.eq_nil_of_length_eq_zero hlen]; rfl
      go_enter Tryz.func72, Tryz.ntmps72
      go_wp2
      go_loop [12] (fun iv => iv = .int .i64 0) (fun _ => 0)
      case atStart => rfl
      case round =>
        subst hrel
        go_wp2
        go_ret
        exact ⟨by rw [HR.out]; rfl, below_box _⟩
    · skip
      by_cases hn : ¬ n = 0
      · have hn2 : (n == 0) = false := by simpa using hn
        have HF : Hid ((Ex.mk 2 n s l).ok text each = false) := ok_head (fun h => absurd (hd2.1 h) (by intro hh; exact hn hh.1.1))
        generalize (Ex.mk 2 n s l).ok text each = R at *
        go_enter Tryz.func72, Tryz.ntmps72
        go_wp2
        go_ret
        exact ⟨by rw [HF.out]; rfl, below_box _⟩
      replace hn := Decidable.not_not.1 hn
      subst hn
      have n0 : ((0 : Int) == 0) = true := rfl
      cases hs : s with
      | cons c s' =>
        rw [hs] at hT
        rw [← hs]
        have hT2 : (bs s).toList.isEmpty = false := by rw [hs]; exact hT
        clear hT
        have HF : Hid ((Ex.mk 2 0 s l).ok text each = false) := ok_head (fun h => absurd (hd2.1 h) (by intro hh; have h1 := hh.1.2; rw [hs] at h1; cases h1))
        generalize (Ex.mk 2 0 s l).ok text each = R at *
        clear hs
        go_enter Tryz.func72, Tryz.ntmps72
        go_wp2
        go_ret
        exact ⟨by rw [HF.out]; rfl, below_box _⟩
      | nil =>
      subst hs
      have hT2 : (bs []).toList.isEmpty = true := by rw [bs_toList]; rfl
      clear hT
      by_cases hlen : ¬ l.length = 0
      · have hlen2 : ((l.length : Int) == 0) = false := by rw [beq_eq_false_iff_ne]; omega
        have HF : Hid ((Ex.mk 2 0 [] l).ok text each = false) := ok_head (fun h => absurd (hd2.1 h) (by intro hh; exact hlen hh.2.2.1))
        generalize (Ex.mk 2 0 [] l).ok text each = R at *
        go_enter Tryz.func72, Tryz.ntmps72
        go_wp2
        go_ret
        exact ⟨by rw [HF.out]; rfl, below_box _⟩
      replace hlen := Decidable.not_not.1 hlen
      have hlen2 : ((l.length : Int) == 0) = true := by rw [beq_iff_eq]; omega
      cases text with
      | false =>
        have HF : Hid ((Ex.mk 2 0 [] l).ok false each = false) := ok_head (fun h => absurd (hd2.1 h) (by intro hh; exact absurd hh.2.2.2 (by decide)))
        generalize (Ex.mk 2 0 [] l).ok false each = R at *
        go_enter Tryz.func72, Tryz.ntmps72
        go_wp2
        go_ret
        exact ⟨by rw [HF.out]; rfl, below_box _⟩
      | true =>
      have HO : Hid ((Ex.mk 2 0 [] l).ok true each = Ex.ok.okL l false each) := by
        show _ = _
        have h1 : hdOk 2 0 [] l.length true each = true := hd2.2 ⟨⟨rfl, rfl⟩, trivial, hlen, rfl⟩
        simp [Ex.ok, h1, textsK]
      generalize (Ex.mk 2 0 [] l).ok true each = R at *
      have HR : Hid (R = true) := by
        show _ = true
        rw [HO.out, List.eq_nil_of_length_eq_zero hlen]; rfl
      go_enter Tryz.func72, Tryz.ntmps72
      go_wp2
      go_loop [12] (fun iv => iv = .int .i64 0) (fun _ => 0)
      case atStart => rfl
      case round =>
        subst hrel
        go_wp2
        go_ret
        exact ⟨by rw [HR.out]; rfl, below_box _⟩
    · skip
      by_cases hn1 : ¬ 0 ≤ n
      · skip
        have HF : Hid ((Ex.mk 3 n s l).ok text each = false) := ok_head (fun h => absurd (hd3.1 h) (by intro hh; exact hn1 hh.1.1.1))
        generalize (Ex.mk 3 n s l).ok text each = R at *
        go_enter Tryz.func72, Tryz.ntmps72
        go_wp2
        go_ret
        exact ⟨by rw [HF.out]; rfl, below_box _⟩
      replace hn1 := Decidable.not_not.1 hn1
      by_cases hn2 : ¬ n ≤ 120
      · skip
        have HF : Hid ((Ex.mk 3 n s l).ok text each = false) := ok_head (fun h => absurd (hd3.1 h) (by intro hh; exact hn2 hh.1.1.2))
        generalize (Ex.mk 3 n s l).ok text each = R at *
        go_enter Tryz.func72, Tryz.ntmps72
        go_wp2
        go_ret
        exact ⟨by rw [HF.out]; rfl, below_box _⟩
      replace hn2 := Decidable.not_not.1 hn2
      cases hs : s with
      | cons c s' =>
        rw [hs] at hT
        rw [← hs]
        have hT2 : (bs s).toList.isEmpty = false := by rw [hs]; exact hT
        clear hT
        have HF : Hid ((Ex.mk 3 n s l).ok text each = false) := ok_head (fun h => absurd (hd3.1 h) (by intro hh; have h1 := hh.1.2; rw [hs] at h1; cases h1))
        generalize (Ex.mk 3 n s l).ok text each = R at *
        clear hs
        go_enter Tryz.func72, Tryz.ntmps72
        go_wp2
        go_ret
        exact ⟨by rw [HF.out]; rfl, below_box _⟩
      | nil =>
      subst hs
      have hT2 : (bs []).toList.isEmpty = true := by rw [bs_toList]; rfl
      clear hT
      by_cases hlen : ¬ l.length = 0
      · have hlen2 : ((l.length : Int) == 0) = false := by rw [beq_eq_false_iff_ne]; omega
        have HF : Hid ((Ex.mk 3 n [] l).ok text each = false) := ok_head (fun h => absurd (hd3.1 h) (by intro hh; exact hlen hh.2.2.1))
        generalize (Ex.mk 3 n [] l).ok text each = R at *
        go_enter Tryz.func72, Tryz.ntmps72
        go_wp2
        go_ret
        exact ⟨by rw [HF.out]; rfl, below_box _⟩
      replace hlen := Decidable.not_not.1 hlen
      have hlen2 : ((l.length : Int) == 0) = true := by rw [beq_iff_eq]; omega
      cases text with
      | false =>
        have HF : Hid ((Ex.mk 3 n [] l).ok false each = false) := ok_head (fun h => absurd (hd3.1 h) (by intro hh; exact absurd hh.2.2.2 (by decide)))
        generalize (Ex.mk 3 n [] l).ok false each = R at *
        go_enter Tryz.func72, Tryz.ntmps72
        go_wp2
        go_ret
        exact ⟨by rw [HF.out]; rfl, below_box _⟩
      | true =>
      have HO : Hid ((Ex.mk 3 n [] l).ok true each = Ex.ok.okL l false each) := by
        show _ = _
        have h1 : hdOk 3 n [] l.length true each = true := hd3.2 ⟨⟨⟨hn1, hn2⟩, rfl⟩, trivial, hlen, rfl⟩
        simp [Ex.ok, h1, textsK]
      generalize (Ex.mk 3 n [] l).ok true each = R at *
      have HR : Hid (R = true) := by
        show _ = true
        rw [HO.out, List.eq_nil_of_length_eq_zero hlen]; rfl
      go_enter Tryz.func72, Tryz.ntmps72
      go_wp2
      go_loop [12] (fun iv => iv = .int .i64 0) (fun _ => 0)
      case atStart => rfl
      case round =>
        subst hrel
        go_wp2
        go_ret
        exact ⟨by rw [HR.out]; rfl, below_box _⟩
    · skip
      by_cases hn : ¬ n = 0
      · have hn2 : (n == 0) = false := by simpa using hn
        have HF : Hid ((Ex.mk 4 n s l).ok text each = false) := ok_head (fun h => absurd (hd4.1 h) (by intro hh; exact hn hh.1.1))
        generalize (Ex.mk 4 n s l).ok text each = R at *
        by_cases hs1 : (bs s).size ≤ 20
        · cases hs2 : s.contains 10 with
          | true =>
            rw [hs2] at NE
            go_enter Tryz.func72, Tryz.ntmps72
            go_wp2_with (go_at_call 39; refine (NE.out _).mono ?_; rintro _ w2 ⟨rfl, rfl⟩)
            go_ret
            exact ⟨by rw [HF.out]; rfl, below_box _⟩
          | false =>
            rw [hs2] at NE
            go_enter Tryz.func72, Tryz.ntmps72
            go_wp2_with (go_at_call 39; refine (NE.out _).mono ?_; rintro _ w2 ⟨rfl, rfl⟩)
            go_ret
            exact ⟨by rw [HF.out]; rfl, below_box _⟩
        · go_enter Tryz.func72, Tryz.ntmps72
          go_wp2
          go_ret
          exact ⟨by rw [HF.out]; rfl, below_box _⟩
      replace hn := Decidable.not_not.1 hn
      subst hn
      have n0 : ((0 : Int) == 0) = true := rfl
      by_cases hs1 : ¬ (bs s).size ≤ 20
      · skip
        have HF : Hid ((Ex.mk 4 0 s l).ok text each = false) := ok_head (fun h => absurd (hd4.1 h) (by intro hh; have h1 := hh.1.2; simp only [fitsB, Bool.and_eq_true, decide_eq_true_eq] at h1; have := HS.out; omega))
        generalize (Ex.mk 4 0 s l).ok text each = R at *
        go_enter Tryz.func72, Tryz.ntmps72
        go_wp2
        go_ret
        exact ⟨by rw [HF.out]; rfl, below_box _⟩
      replace hs1 := Decidable.not_not.1 hs1
      cases hs2 : s.contains 10 with
      | true =>
        rw [hs2] at NE
        have HF : Hid ((Ex.mk 4 0 s l).ok text each = false) := ok_head (fun h => absurd (hd4.1 h) (by intro hh; have h1 := hh.1.2; simp [fitsB] at h1; have h2 := List.contains_iff_mem.1 hs2; exact h1.2 h2))
        generalize (Ex.mk 4 0 s l).ok text each = R at *
        go_enter Tryz.func72, Tryz.ntmps72
        go_wp2_with (go_at_call 39; refine (NE.out _).mono ?_; rintro _ w2 ⟨rfl, rfl⟩)
        go_ret
        exact ⟨by rw [HF.out]; rfl, below_box _⟩
      | false =>
      rw [hs2] at NE
      have hfit : Hid (fitsB s 20 = true) := by
        show _ = true
        simp only [fitsB, hs2, Bool.not_false, Bool.and_true, decide_eq_true_eq]
        have := HS.out; omega
      by_cases hlen : ¬ l.length = 0
      · have hlen2 : ((l.length : Int) == 0) = false := by rw [beq_eq_false_iff_ne]; omega
        have HF : Hid ((Ex.mk 4 0 s l).ok text each = false) := ok_head (fun h => absurd (hd4.1 h) (by intro hh; exact hlen hh.2.2.1))
        generalize (Ex.mk 4 0 s l).ok text each = R at *
        go_enter Tryz.func72, Tryz.ntmps72
        go_wp2_with (go_at_call 39; refine (NE.out _).mono ?_; rintro _ w2 ⟨rfl, rfl⟩)
        go_ret
        exact ⟨by rw [HF.out]; rfl, below_box _⟩
      replace hlen := Decidable.not_not.1 hlen
      have hlen2 : ((l.length : Int) == 0) = true := by rw [beq_iff_eq]; omega
      cases text with
      | false =>
        have HF : Hid ((Ex.mk 4 0 s l).ok false each = false) := ok_head (fun h => absurd (hd4.1 h) (by intro hh; exact absurd hh.2.2.2 (by decide)))
        generalize (Ex.mk 4 0 s l).ok false each = R at *
        go_enter Tryz.func72, Tryz.ntmps72
        go_wp2_with (go_at_call 39; refine (NE.out _).mono ?_; rintro _ w2 ⟨rfl, rfl⟩)
        go_ret
        exact ⟨by rw [HF.out]; rfl, below_box _⟩
      | true =>
      have HO : Hid ((Ex.mk 4 0 s l).ok true each = Ex.ok.okL l false each) := by
        show _ = _
        have h1 : hdOk 4 0 s l.length true each = true := hd4.2 ⟨⟨rfl, hfit.out⟩, trivial, hlen, rfl⟩
        simp [Ex.ok, h1, textsK]
      generalize (Ex.mk 4 0 s l).ok true each = R at *
      have HR : Hid (R = true) := by
        show _ = true
        rw [HO.out, List.eq_nil_of_length_eq_zero hlen]; rfl
      go_enter Tryz.func72, Tryz.ntmps72
      go_wp2_with (go_at_call 39; refine (NE.out _).mono ?_; rintro _ w2 ⟨rfl, rfl⟩)
      go_loop [12] (fun iv => iv = .int .i64 0) (fun _ => 0)
      case atStart => rfl
      case round =>
        subst hrel
        go_wp2
        go_ret
        exact ⟨by rw [HR.out]; rfl, below_box _⟩
    · skip
      by_cases hn : ¬ n = 0
      · have hn2 : (n == 0) = false := by simpa using hn
        have HF : Hid ((Ex.mk 5 n s l).ok text each = false) := ok_head (fun h => absurd (hd5.1 h) (by intro hh; exact hn hh.1.1))
        generalize (Ex.mk 5 n s l).ok text each = R at *
        go_enter Tryz.func72, Tryz.ntmps72
        go_wp2
        go_ret
        exact ⟨by rw [HF.out]; rfl, below_box _⟩
      replace hn := Decidable.not_not.1 hn
      subst hn
      have n0 : ((0 : Int) == 0) = true := rfl
      cases hs : s with
      | cons c s' =>
        rw [hs] at hT
        rw [← hs]
        have hT2 : (bs s).toList.isEmpty = false := by rw [hs]; exact hT
        clear hT
        have HF : Hid ((Ex.mk 5 0 s l).ok text each = false) := ok_head (fun h => absurd (hd5.1 h) (by intro hh; have h1 := hh.1.2; rw [hs] at h1; cases h1))
        generalize (Ex.mk 5 0 s l).ok text each = R at *
        clear hs
        go_enter Tryz.func72, Tryz.ntmps72
        go_wp2
        go_ret
        exact ⟨by rw [HF.out]; rfl, below_box _⟩
      | nil =>
      subst hs
      have hT2 : (bs []).toList.isEmpty = true := by rw [bs_toList]; rfl
      clear hT
      by_cases hlen : ¬ l.length = 2
      · have hlen2 : ((l.length : Int) == 2) = false := by rw [beq_eq_false_iff_ne]; omega
        have HF : Hid ((Ex.mk 5 0 [] l).ok text each = false) := ok_head (fun h => absurd (hd5.1 h) (by intro hh; exact hlen hh.2.2.1))
        generalize (Ex.mk 5 0 [] l).ok text each = R at *
        go_enter Tryz.func72, Tryz.ntmps72
        go_wp2
        go_ret
        exact ⟨by rw [HF.out]; rfl, below_box _⟩
      replace hlen := Decidable.not_not.1 hlen
      have hlen2 : ((l.length : Int) == 2) = true := by rw [beq_iff_eq]; omega
      cases text with
      | false =>
        have HF : Hid ((Ex.mk 5 0 [] l).ok false each = false) := ok_head (fun h => absurd (hd5.1 h) (by intro hh; exact absurd hh.2.2.2 (by decide)))
        generalize (Ex.mk 5 0 [] l).ok false each = R at *
        go_enter Tryz.func72, Tryz.ntmps72
        go_wp2
        go_ret
        exact ⟨by rw [HF.out]; rfl, below_box _⟩
      | true =>
      have HO : Hid ((Ex.mk 5 0 [] l).ok true each = Ex.ok.okL l true each) := by
        show _ = _
        have h1 : hdOk 5 0 [] l.length true each = true := hd5.2 ⟨⟨rfl, rfl⟩, trivial, hlen, rfl⟩
        simp [Ex.ok, h1, textsK]
      generalize (Ex.mk 5 0 [] l).ok true each = R at *
      have hlt2 : l.length ≤ 2 := by omega
      have hlt3 : 2 ≤ l.length := by omega
      have HLEN := Lib.hid hlen
      clear hlen
      go_enter Tryz.func72, Tryz.ntmps72
      go_wp2
      go_loopw [12] (fun iv wr => ∃ i : Nat, i ≤ 2 ∧ iv = .int .i64 i ∧ Hid (Ex.ok.okL (l.take i) true each = true) ∧ Below w1.heap.size w1 wr ∧ wr.cell? ⟨w1.heap.size, 3, none⟩ = some (.slice a l.length cap)) (fun iv _ => 2 - (intOf iv).toNat)
      case atStart => exact ⟨0, Nat.zero_le _, rfl, (show Ex.ok.okL _ _ _ = true from rfl), below_box _, by simp⟩
      case round =>
        obtain ⟨i, hi, rfl, hok, hbr, cb⟩ := hrel
        by_cases hlt : i < 2
        · obtain ⟨x, hx⟩ : ∃ x, l[i]? = some x := ⟨l[i]'(by omega), by simp⟩
          have ea := HA.out (by omega)
          subst ea
          have hbw := below_trans HB.out hbr
          obtain ⟨c0, c1, c2, c3⟩ := HC.out i x hx
          replace c0 := cell_below c0 hbw
          replace c1 := cell_below c1 hbw
          replace c2 := cell_below c2 hbw
          replace c3 := cell_below c3 hbw
          have hil : i < l.length := by omega
          have I := Lib.hid (IH.out i x hx true _ hbw)
          have hnx := Lib.hid (okL_take hx true each)
          have hno := Lib.hid (okL_not hx true each)
          unfold Ex.val at I
          clear hx
          generalize x.ok true each = g at *
          go_wp2_with (go_at_call 72; refine Hid.out ?_)
          refine Lib.hid ?_
          refine I.out.mono ?_
          rintro _ w7 ⟨rfl, hb7⟩
          have cb2 := cell_below cb hb7
          have hb8 := below_trans hbr hb7
          clear c0 c1 c2 c3 I
          cases g with
          | false =>
            go_wp2
            go_ret
            exact ⟨by rw [HO.out, hno.out (by simp)]; rfl, hb8⟩
          | true =>
            have hok2 : Hid (Ex.ok.okL (l.take (i + 1)) true each = true) := by
              show _ = true
              rw [hnx.out, hok.out]; rfl
            go_wp2
            go_roundw
            case rel => exact ⟨i + 1, by omega, by go_num, hok2, hb8, cb2⟩
            case measure => simp [intOf]; omega
        · have hall : Hid (Ex.ok.okL l true each = true) := by
            show _ = true
            have h2 := hok.out
            rw [List.take_of_length_le (by omega)] at h2
            exact h2
          go_wp2
          go_ret
          exact ⟨by rw [HO.out, hall.out]; rfl, hbr⟩
    · skip
      by_cases hn1 : ¬ 0 ≤ n
      · skip
        have HF : Hid ((Ex.mk 6 n s l).ok text each = false) := ok_head (fun h => absurd (hd6.1 h) (by intro hh; exact hn1 hh.1.1.1))
        generalize (Ex.mk 6 n s l).ok text each = R at *
        go_enter Tryz.func72, Tryz.ntmps72
        go_wp2
        go_ret
        exact ⟨by rw [HF.out]; rfl, below_box _⟩
      replace hn1 := Decidable.not_not.1 hn1
      by_cases hn2 : ¬ n ≤ 120
      · skip
        have HF : Hid ((Ex.mk 6 n s l).ok text each = false) := ok_head (fun h => absurd (hd6.1 h) (by intro hh; exact hn2 hh.1.1.2))
        generalize (Ex.mk 6 n s l).ok text each = R at *
        go_enter Tryz.func72, Tryz.ntmps72
        go_wp2
        go_ret
        exact ⟨by rw [HF.out]; rfl, below_box _⟩
      replace hn2 := Decidable.not_not.1 hn2
      cases hs : s with
      | cons c s' =>
        rw [hs] at hT
        rw [← hs]
        have hT2 : (bs s).toList.isEmpty = false := by rw [hs]; exact hT
        clear hT
        have HF : Hid ((Ex.mk 6 n s l).ok text each = false) := ok_head (fun h => absurd (hd6.1 h) (by intro hh; have h1 := hh.1.2; rw [hs] at h1; cases h1))
        generalize (Ex.mk 6 n s l).ok text each = R at *
        clear hs
        go_enter Tryz.func72, Tryz.ntmps72
        go_wp2
        go_ret
        exact ⟨by rw [HF.out]; rfl, below_box _⟩
      | nil =>
      subst hs
      have hT2 : (bs []).toList.isEmpty = true := by rw [bs_toList]; rfl
      clear hT
      by_cases hlen : ¬ l.length = 1
      · have hlen2 : ((l.length : Int) == 1) = false := by rw [beq_eq_false_iff_ne]; omega
        have HF : Hid ((Ex.mk 6 n [] l).ok text each = false) := ok_head (fun h => absurd (hd6.1 h) (by intro hh; exact hlen hh.2.2.1))
        generalize (Ex.mk 6 n [] l).ok text each = R at *
        go_enter Tryz.func72, Tryz.ntmps72
        go_wp2
        go_ret
        exact ⟨by rw [HF.out]; rfl, below_box _⟩
      replace hlen := Decidable.not_not.1 hlen
      have hlen2 : ((l.length : Int) == 1) = true := by rw [beq_iff_eq]; omega
      cases text with
      | false =>
        have HF : Hid ((Ex.mk 6 n [] l).ok false each = false) := ok_head (fun h => absurd (hd6.1 h) (by intro hh; exact absurd hh.2.2.2 (by decide)))
        generalize (Ex.mk 6 n [] l).ok false each = R at *
        go_enter Tryz.func72, Tryz.ntmps72
        go_wp2
        go_ret
        exact ⟨by rw [HF.out]; rfl, below_box _⟩
      | true =>
      have HO : Hid ((Ex.mk 6 n [] l).ok true each = Ex.ok.okL l true each) := by
        show _ = _
        have h1 : hdOk 6 n [] l.length true each = true := hd6.2 ⟨⟨⟨hn1, hn2⟩, rfl⟩, trivial, hlen, rfl⟩
        simp [Ex.ok, h1, textsK]
      generalize (Ex.mk 6 n [] l).ok true each = R at *
      have hlt2 : l.length ≤ 1 := by omega
      have hlt3 : 1 ≤ l.length := by omega
      have HLEN := Lib.hid hlen
      clear hlen
      go_enter Tryz.func72, Tryz.ntmps72
      go_wp2
      go_loopw [12] (fun iv wr => ∃ i : Nat, i ≤ 1 ∧ iv = .int .i64 i ∧ Hid (Ex.ok.okL (l.take i) true each = true) ∧ Below w1.heap.size w1 wr ∧ wr.cell? ⟨w1.heap.size, 3, none⟩ = some (.slice a l.length cap)) (fun iv _ => 1 - (intOf iv).toNat)
      case atStart => exact ⟨0, Nat.zero_le _, rfl, (show Ex.ok.okL _ _ _ = true from rfl), below_box _, by simp⟩
      case round =>
        obtain ⟨i, hi, rfl, hok, hbr, cb⟩ := hrel
        by_cases hlt : i < 1
        · obtain ⟨x, hx⟩ : ∃ x, l[i]? = some x := ⟨l[i]'(by omega), by simp⟩
          have ea := HA.out (by omega)
          subst ea
          have hbw := below_trans HB.out hbr
          obtain ⟨c0, c1, c2, c3⟩ := HC.out i x hx
          replace c0 := cell_below c0 hbw
          replace c1 := cell_below c1 hbw
          replace c2 := cell_below c2 hbw
          replace c3 := cell_below c3 hbw
          have hil : i < l.length := by omega
          have I := Lib.hid (IH.out i x hx true _ hbw)
          have hnx := Lib.hid (okL_take hx true each)
          have hno := Lib.hid (okL_not hx true each)
          unfold Ex.val at I
          clear hx
          generalize x.ok true each = g at *
          go_wp2_with (go_at_call 72; refine Hid.out ?_)
          refine Lib.hid ?_
          refine I.out.mono ?_
          rintro _ w7 ⟨rfl, hb7⟩
          have cb2 := cell_below cb hb7
          have hb8 := below_trans hbr hb7
          clear c0 c1 c2 c3 I
          cases g with
          | false =>
            go_wp2
            go_ret
            exact ⟨by rw [HO.out, hno.out (by simp)]; rfl, hb8⟩
          | true =>
            have hok2 : Hid (Ex.ok.okL (l.take (i + 1)) true each = true) := by
              show _ = true
              rw [hnx.out, hok.out]; rfl
            go_wp2
            go_roundw
            case rel => exact ⟨i + 1, by omega, by go_num, hok2, hb8, cb2⟩
            case measure => simp [intOf]; omega
        · have hall : Hid (Ex.ok.okL l true each = true) := by
            show _ = true
            have h2 := hok.out
            rw [List.take_of_length_le (by omega)] at h2
            exact h2
          go_wp2
          go_ret
          exact ⟨by rw [HO.out, hall.out]; rfl, hbr⟩
    · skip
      by_cases hn1 : ¬ -1000 ≤ n
      · skip
        have HF : Hid ((Ex.mk 7 n s l).ok text each = false) := ok_head (fun h => absurd (hd7.1 h) (by intro hh; exact hn1 hh.1.1.1))
        generalize (Ex.mk 7 n s l).ok text each = R at *
        go_enter Tryz.func72, Tryz.ntmps72
        go_wp2
        go_ret
        exact ⟨by rw [HF.out]; rfl, below_box _⟩
      replace hn1 := Decidable.not_not.1 hn1
      by_cases hn2 : ¬ n ≤ 1000
      · skip
        have HF : Hid ((Ex.mk 7 n s l).ok text each = false) := ok_head (fun h => absurd (hd7.1 h) (by intro hh; exact hn2 hh.1.1.2))
        generalize (Ex.mk 7 n s l).ok text each = R at *
        go_enter Tryz.func72, Tryz.ntmps72
        go_wp2
        go_ret
        exact ⟨by rw [HF.out]; rfl, below_box _⟩
      replace hn2 := Decidable.not_not.1 hn2
      cases hs : s with
      | cons c s' =>
        rw [hs] at hT
        rw [← hs]
        have hT2 : (bs s).toList.isEmpty = false := by rw [hs]; exact hT
        clear hT
        have HF : Hid ((Ex.mk 7 n s l).ok text each = false) := ok_head (fun h => absurd (hd7.1 h) (by intro hh; have h1 := hh.1.2; rw [hs] at h1; cases h1))
        generalize (Ex.mk 7 n s l).ok text each = R at *
        clear hs
        go_enter Tryz.func72, Tryz.ntmps72
        go_wp2
        go_ret
        exact ⟨by rw [HF.out]; rfl, below_box _⟩
      | nil =>
      subst hs
      have hT2 : (bs []).toList.isEmpty = true := by rw [bs_toList]; rfl
      clear hT
      by_cases hlen : ¬ l.length = 0
      · have hlen2 : ((l.length : Int) == 0) = false := by rw [beq_eq_false_iff_ne]; omega
        have HF : Hid ((Ex.mk 7 n [] l).ok text each = false) := ok_head (fun h => absurd (hd7.1 h) (by intro hh; exact hlen hh.2.2.1))
        generalize (Ex.mk 7 n [] l).ok text each = R at *
        go_enter Tryz.func72, Tryz.ntmps72
        go_wp2
        go_ret
        exact ⟨by rw [HF.out]; rfl, below_box _⟩
      replace hlen := Decidable.not_not.1 hlen
      have hlen2 : ((l.length : Int) == 0) = true := by rw [beq_iff_eq]; omega
      cases text with
      | true =>
        have HF : Hid ((Ex.mk 7 n [] l).ok true each = false) := ok_head (fun h => absurd (hd7.1 h) (by intro hh; exact absurd hh.2.2.2 (by decide)))
        generalize (Ex.mk 7 n [] l).ok true each = R at *
        go_enter Tryz.func72, Tryz.ntmps72
        go_wp2
        go_ret
        exact ⟨by rw [HF.out]; rfl, below_box _⟩
      | false =>
      have HO : Hid ((Ex.mk 7 n [] l).ok false each = Ex.ok.okL l false each) := by
        show _ = _
        have h1 : hdOk 7 n [] l.length false each = true := hd7.2 ⟨⟨⟨hn1, hn2⟩, rfl⟩, trivial, hlen, rfl⟩
        simp [Ex.ok, h1, textsK]
      generalize (Ex.mk 7 n [] l).ok false each = R at *
      have HR : Hid (R = true) := by
        show _ = true
        rw [HO.out, List.eq_nil_of_length_eq_zero hlen]; rfl
      go_enter Tryz.func72, Tryz.ntmps72
      go_wp2
      go_loop [12] (fun iv => iv = .int .i64 0) (fun _ => 0)
      case atStart => rfl
      case round =>
        subst hrel
        go_wp2
        go_ret
        exact ⟨by rw [HR.out]; rfl, below_box _⟩
    · skip
      by_cases hn : ¬ n = 0
      · have hn2 : (n == 0) = false := by simpa using hn
        have HF : Hid ((Ex.mk 8 n s l).ok text each = false) := ok_head (fun h => absurd (hd8.1 h) (by intro hh; exact hn hh.1.1))
        generalize (Ex.mk 8 n s l).ok text each = R at *
        go_enter Tryz.func72, Tryz.ntmps72
        go_wp2
        go_ret
        exact ⟨by rw [HF.out]; rfl, below_box _⟩
      replace hn := Decidable.not_not.1 hn
      subst hn
      have n0 : ((0 : Int) == 0) = true := rfl
      cases hs : s with
      | cons c s' =>
        rw [hs] at hT
        rw [← hs]
        have hT2 : (bs s).toList.isEmpty = false := by rw [hs]; exact hT
        clear hT
        have HF : Hid ((Ex.mk 8 0 s l).ok text each = false) := ok_head (fun h => absurd (hd8.1 h) (by intro hh; have h1 := hh.1.2; rw [hs] at h1; cases h1))
        generalize (Ex.mk 8 0 s l).ok text each = R at *
        clear hs
        go_enter Tryz.func72, Tryz.ntmps72
        go_wp2
        go_ret
        exact ⟨by rw [HF.out]; rfl, below_box _⟩
      | nil =>
      subst hs
      have hT2 : (bs []).toList.isEmpty = true := by rw [bs_toList]; rfl
      clear hT
      by_cases hlen : ¬ l.length = 1
      · have hlen2 : ((l.length : Int) == 1) = false := by rw [beq_eq_false_iff_ne]; omega
        have HF : Hid ((Ex.mk 8 0 [] l).ok text each = false) := ok_head (fun h => absurd (hd8.1 h) (by intro hh; exact hlen hh.2.2.1))
        generalize (Ex.mk 8 0 [] l).ok text each = R at *
        go_enter Tryz.func72, Tryz.ntmps72
        go_wp2
        go_ret
        exact ⟨by rw [HF.out]; rfl, below_box _⟩
      replace hlen := Decidable.not_not.1 hlen
      have hlen2 : ((l.length : Int) == 1) = true := by rw [beq_iff_eq]; omega
      cases text with
      | true =>
        have HF : Hid ((Ex.mk 8 0 [] l).ok true each = false) := ok_head (fun h => absurd (hd8.1 h) (by intro hh; exact absurd hh.2.2.2 (by decide)))
        generalize (Ex.mk 8 0 [] l).ok true each = R at *
        go_enter Tryz.func72, Tryz.ntmps72
        go_wp2
        go_ret
        exact ⟨by rw [HF.out]; rfl, below_box _⟩
      | false =>
      have HO : Hid ((Ex.mk 8 0 [] l).ok false each = Ex.ok.okL l true each) := by
        show _ = _
        have h1 : hdOk 8 0 [] l.length false each = true := hd8.2 ⟨⟨rfl, rfl⟩, trivial, hlen, rfl⟩
        simp [Ex.ok, h1, textsK]
      generalize (Ex.mk 8 0 [] l).ok false each = R at *
      have hlt2 : l.length ≤ 1 := by omega
      have hlt3 : 1 ≤ l.length := by omega
      have HLEN := Lib.hid hlen
      clear hlen
      go_enter Tryz.func72, Tryz.ntmps72
      go_wp2
      go_loopw [12] (fun iv wr => ∃ i : Nat, i ≤ 1 ∧ iv = .int .i64 i ∧ Hid (Ex.ok.okL (l.take i) true each = true) ∧ Below w1.heap.size w1 wr ∧ wr.cell? ⟨w1.heap.size, 3, none⟩ = some (.slice a l.length cap)) (fun iv _ => 1 - (intOf iv).toNat)
      case atStart => exact ⟨0, Nat.zero_le _, rfl, (show Ex.ok.okL _ _ _ = true from rfl), below_box _, by simp⟩
      case round =>
        obtain ⟨i, hi, rfl, hok, hbr, cb⟩ := hrel
        by_cases hlt : i < 1
        · obtain ⟨x, hx⟩ : ∃ x, l[i]? = some x := ⟨l[i]'(by omega), by simp⟩
          have ea := HA.out (by omega)
          subst ea
          have hbw := below_trans HB.out hbr
          obtain ⟨c0, c1, c2, c3⟩ := HC.out i x hx
          replace c0 := cell_below c0 hbw
          replace c1 := cell_below c1 hbw
          replace c2 := cell_below c2 hbw
          replace c3 := cell_below c3 hbw
          have hil : i < l.length := by omega
          have I := Lib.hid (IH.out i x hx true _ hbw)
          have hnx := Lib.hid (okL_take hx true each)
          have hno := Lib.hid (okL_not hx true each)
          unfold Ex.val at I
          clear hx
          generalize x.ok true each = g at *
          go_wp2_with (go_at_call 72; refine Hid.out ?_)
          refine Lib.hid ?_
          refine I.out.mono ?_
          rintro _ w7 ⟨rfl, hb7⟩
          have cb2 := cell_below cb hb7
          have hb8 := below_trans hbr hb7
          clear c0 c1 c2 c3 I
          cases g with
          | false =>
            go_wp2
            go_ret
            exact ⟨by rw [HO.out, hno.out (by simp)]; rfl, hb8⟩
          | true =>
            have hok2 : Hid (Ex.ok.okL (l.take (i + 1)) true each = true) := by
              show _ = true
              rw [hnx.out, hok.out]; rfl
            go_wp2
            go_roundw
            case rel => exact ⟨i + 1, by omega, by go_num, hok2, hb8, cb2⟩
            case measure => simp [intOf]; omega
        · have hall : Hid (Ex.ok.okL l true each = true) := by
            show _ = true
            have h2 := hok.out
            rw [List.take_of_length_le (by omega)] at h2
            exact h2
          go_wp2
          go_ret
          exact ⟨by rw [HO.out, hall.out]; rfl, hbr⟩
    · skip
      by_cases hn : ¬ n = 0
      · have hn2 : (n == 0) = false := by simpa using hn
        have HF : Hid ((Ex.mk 9 n s l).ok text each = false) := ok_head (fun h => absurd (hd9.1 h) (by intro hh; exact hn hh.1.1))
        generalize (Ex.mk 9 n s l).ok text each = R at *
        go_enter Tryz.func72, Tryz.ntmps72
        go_wp2
        go_ret
        exact ⟨by rw [HF.out]; rfl, below_box _⟩
      replace hn := Decidable.not_not.1 hn
      subst hn
      have n0 : ((0 : Int) == 0) = true := rfl
      cases hs : s with
      | cons c s' =>
        rw [hs] at hT
        rw [← hs]
        have hT2 : (bs s).toList.isEmpty = false := by rw [hs]; exact hT
        clear hT
        have HF : Hid ((Ex.mk 9 0 s l).ok text each = false) := ok_head (fun h => absurd (hd9.1 h) (by intro hh; have h1 := hh.1.2; rw [hs] at h1; cases h1))
        generalize (Ex.mk 9 0 s l).ok text each = R at *
        clear hs
        go_enter Tryz.func72, Tryz.ntmps72
        go_wp2
        go_ret
        exact ⟨by rw [HF.out]; rfl, below_box _⟩
      | nil =>
      subst hs
      have hT2 : (bs []).toList.isEmpty = true := by rw [bs_toList]; rfl
      clear hT
      by_cases hlen : ¬ l.length = 0
      · have hlen2 : ((l.length : Int) == 0) = false := by rw [beq_eq_false_iff_ne]; omega
        have HF : Hid ((Ex.mk 9 0 [] l).ok text each = false) := ok_head (fun h => absurd (hd9.1 h) (by intro hh; exact hlen hh.2.2.1))
        generalize (Ex.mk 9 0 [] l).ok text each = R at *
        go_enter Tryz.func72, Tryz.ntmps72
        go_wp2
        go_ret
        exact ⟨by rw [HF.out]; rfl, below_box _⟩
      replace hlen := Decidable.not_not.1 hlen
      have hlen2 : ((l.length : Int) == 0) = true := by rw [beq_iff_eq]; omega
      cases text with
      | true =>
        have HF : Hid ((Ex.mk 9 0 [] l).ok true each = false) := ok_head (fun h => absurd (hd9.1 h) (by intro hh; exact absurd hh.2.2.2 (by decide)))
        generalize (Ex.mk 9 0 [] l).ok true each = R at *
        go_enter Tryz.func72, Tryz.ntmps72
        go_wp2
        go_ret
        exact ⟨by rw [HF.out]; rfl, below_box _⟩
      | false =>
      have HO : Hid ((Ex.mk 9 0 [] l).ok false each = Ex.ok.okL l false each) := by
        show _ = _
        have h1 : hdOk 9 0 [] l.length false each = true := hd9.2 ⟨⟨rfl, rfl⟩, trivial, hlen, rfl⟩
        simp [Ex.ok, h1, textsK]
      generalize (Ex.mk 9 0 [] l).ok false each = R at *
      have HR : Hid (R = true) := by
        show _ = true
        rw [HO.out, List.eq_nil_of_length_eq_zero hlen]; rfl
      go_enter Tryz.func72, Tryz.ntmps72
      go_wp2
      go_loop [12] (fun iv => iv = .int .i64 0) (fun _ => 0)
      case atStart => rfl
      case round =>
        subst hrel
        go_wp2
        go_ret
        exact ⟨by rw [HR.out]; rfl, below_box _⟩
    · skip
      by_cases hn : ¬ n = 0
      · have hn2 : (n == 0) = false := by simpa using hn
        have HF : Hid ((Ex.mk 10 n s l).ok text each = false) := ok_head (fun h => absurd (hd10.1 h) (by intro hh; exact hn hh.1.1))
        generalize (Ex.mk 10 n s l).ok text each = R at *
        go_enter Tryz.func72, Tryz.ntmps72
        go_wp2
        go_ret
        exact ⟨by rw [HF.out]; rfl, below_box _⟩
      replace hn := Decidable.not_not.1 hn
      subst hn
      have n0 : ((0 : Int) == 0) = true := rfl
      cases hs : s with
      | cons c s' =>
        rw [hs] at hT
        rw [← hs]
        have hT2 : (bs s).toList.isEmpty = false := by rw [hs]; exact hT
        clear hT
        have HF : Hid ((Ex.mk 10 0 s l).ok text each = false) := ok_head (fun h => absurd (hd10.1 h) (by intro hh; have h1 := hh.1.2; rw [hs] at h1; cases h1))
        generalize (Ex.mk 10 0 s l).ok text each = R at *
        clear hs
        go_enter Tryz.func72, Tryz.ntmps72
        go_wp2
        go_ret
        exact ⟨by rw [HF.out]; rfl, below_box _⟩
      | nil =>
      subst hs
      have hT2 : (bs []).toList.isEmpty = true := by rw [bs_toList]; rfl
      clear hT
      by_cases hlen : ¬ l.length = 2
      · have hlen2 : ((l.length : Int) == 2) = false := by rw [beq_eq_false_iff_ne]; omega
        have HF : Hid ((Ex.mk 10 0 [] l).ok text each = false) := ok_head (fun h => absurd (hd10.1 h) (by intro hh; exact hlen hh.2.2.1))
        generalize (Ex.mk 10 0 [] l).ok text each = R at *
        go_enter Tryz.func72, Tryz.ntmps72
        go_wp2
        go_ret
        exact ⟨by rw [HF.out]; rfl, below_box _⟩
      replace hlen := Decidable.not_not.1 hlen
      have hlen2 : ((l.length : Int) == 2) = true := by rw [beq_iff_eq]; omega
      cases text with
      | true =>
        have HF : Hid ((Ex.mk 10 0 [] l).ok true each = false) := ok_head (fun h => absurd (hd10.1 h) (by intro hh; exact absurd hh.2.2.2 (by decide)))
        generalize (Ex.mk 10 0 [] l).ok true each = R at *
        go_enter Tryz.func72, Tryz.ntmps72
        go_wp2
        go_ret
        exact ⟨by rw [HF.out]; rfl, below_box _⟩
      | false =>
      have HO : Hid ((Ex.mk 10 0 [] l).ok false each = Ex.ok.okL l false each) := by
        show _ = _
        have h1 : hdOk 10 0 [] l.length false each = true := hd10.2 ⟨⟨rfl, rfl⟩, trivial, hlen, rfl⟩
        simp [Ex.ok, h1, textsK]
      generalize (Ex.mk 10 0 [] l).ok false each = R at *
      have hlt2 : l.length ≤ 2 := by omega
      have hlt3 : 2 ≤ l.length := by omega
      have HLEN := Lib.hid hlen
      clear hlen
      go_enter Tryz.func72, Tryz.ntmps72
      go_wp2
      go_loopw [12] (fun iv wr => ∃ i : Nat, i ≤ 2 ∧ iv = .int .i64 i ∧ Hid (Ex.ok.okL (l.take i) false each = true) ∧ Below w1.heap.size w1 wr ∧ wr.cell? ⟨w1.heap.size, 3, none⟩ = some (.slice a l.length cap)) (fun iv _ => 2 - (intOf iv).toNat)
      case atStart => exact ⟨0, Nat.zero_le _, rfl, (show Ex.ok.okL _ _ _ = true from rfl), below_box _, by simp⟩
      case round =>
        obtain ⟨i, hi, rfl, hok, hbr, cb⟩ := hrel
        by_cases hlt : i < 2
        · obtain ⟨x, hx⟩ : ∃ x, l[i]? = some x := ⟨l[i]'(by omega), by simp⟩
          have ea := HA.out (by omega)
          subst ea
          have hbw := below_trans HB.out hbr
          obtain ⟨c0, c1, c2, c3⟩ := HC.out i x hx
          replace c0 := cell_below c0 hbw
          replace c1 := cell_below c1 hbw
          replace c2 := cell_below c2 hbw
          replace c3 := cell_below c3 hbw
          have hil : i < l.length := by omega
          have I := Lib.hid (IH.out i x hx false _ hbw)
          have hnx := Lib.hid (okL_take hx false each)
          have hno := Lib.hid (okL_not hx false each)
          unfold Ex.val at I
          clear hx
          generalize x.ok false each = g at *
          go_wp2_with (go_at_call 72; refine Hid.out ?_)
          refine Lib.hid ?_
          refine I.out.mono ?_
          rintro _ w7 ⟨rfl, hb7⟩
          have cb2 := cell_below cb hb7
          have hb8 := below_trans hbr hb7
          clear c0 c1 c2 c3 I
          cases g with
          | false =>
            go_wp2
            go_ret
            exact ⟨by rw [HO.out, hno.out (by simp)]; rfl, hb8⟩
          | true =>
            have hok2 : Hid (Ex.ok.okL (l.take (i + 1)) false each = true) := by
              show _ = true
              rw [hnx.out, hok.out]; rfl
            go_wp2
            go_roundw
            case rel => exact ⟨i + 1, by omega, by go_num, hok2, hb8, cb2⟩
            case measure => simp [intOf]; omega
        · have hall : Hid (Ex.ok.okL l false each = true) := by
            show _ = true
            have h2 := hok.out
            rw [List.take_of_length_le (by omega)] at h2
            exact h2
          go_wp2
          go_ret
          exact ⟨by rw [HO.out, hall.out]; rfl, hbr⟩
    · have HF : Hid ((Ex.mk k n s l).ok text each = false) := ok_head (fun h => hk (by
        simp only [hdOk, known, Bool.and_eq_true, decide_eq_true_eq] at h
        exact h.1.1.1.1.1.1))
      generalize (Ex.mk k n s l).ok text each = R at *
      have m1 : ¬ k = 1 := by omega
      have m2 : ¬ k = 2 := by omega
      have m3 : ¬ k = 3 := by omega
      have m4 : ¬ k = 4 := by omega
      have m5 : ¬ k = 5 := by omega
      have m6 : ¬ k = 6 := by omega
      have m7 : ¬ k = 7 := by omega
      have m8 : ¬ k = 8 := by omega
      have m9 : ¬ k = 9 := by omega
      have m10 : ¬ k = 10 := by omega
      clear hk
      go_enter Tryz.func72, Tryz.ntmps72
      go_wp2
      go_ret
      exact ⟨by rw [HF.out]; rfl, below_box _⟩
end Go.Proofs.YtmgpacenooncjaaGreatDoor
/- Contracts of ExprFault, same and exprs. -/
namespace Go.Proofs.YtmgpacenooncjaaGreatDoor
open Go.ChangeShapes Go.WideShapes Go.ChangeAt Go.RowKit
set_option maxRecDepth 100000 in
set_option maxHeartbeats 1000000 in
theorem exprFault_any {w : World} {sv : Value} {e : Ex} (h : IsEx w sv e) (hw : e.wt ≤ 1000000000) (text each : Bool) :
    Calls Tryz.prog 40 #[e.val sv, .bool text, .bool each] w fun r w' => r = .returned (.int .i64 (faultE e text each)) ∧ Below w.heap.size w w' := by
  obtain ⟨a, cap, rfl⟩ := h.slice
  have C := Lib.hid (parts_any h hw)
  have M := Lib.hid (shaped_any h hw text each)
  have hcw := cnt_wt e
  have hdc := dep_cnt e
  clear h
  unfold Ex.val at C M ⊢
  obtain ⟨R, hR⟩ : ∃ R : Nat, R = faultE e text each := ⟨_, rfl⟩
  rw [← hR]
  unfold faultE at hR
  have HR := Lib.hid hR
  clear hR
  generalize e.cnt = c at *
  generalize e.dep = d at *
  go_enter Tryz.func40, Tryz.ntmps40
  go_wp2_with (go_at_call 71; refine Hid.out ?_)
  refine Lib.hid ?_
  refine (C.out _ (below_box _)).mono ?_
  rintro _ w2 ⟨rfl, hb2⟩
  by_cases hc : ¬ c ≤ 30
  · go_wp2
    go_ret
    exact ⟨by rw [HR.out, if_neg (by omega)]; rfl, below_trans (below_box _) hb2⟩
  replace hc := Decidable.not_not.1 hc
  by_cases hd : ¬ d ≤ 5
  · go_wp2
    go_ret
    exact ⟨by rw [HR.out, if_neg (by omega)]; rfl, below_trans (below_box _) hb2⟩
  replace hd := Decidable.not_not.1 hd
  have k0 := cell_below (a := ⟨w.heap.size, 0, none⟩) (v := .int .i64 e.k) (by simp) hb2
  have k1 := cell_below (a := ⟨w.heap.size, 1, none⟩) (v := .int .i64 e.n) (by simp) hb2
  have k2 := cell_below (a := ⟨w.heap.size, 2, none⟩) (v := .string (bs e.s)) (by simp) hb2
  have k3 := cell_below (a := ⟨w.heap.size, 3, none⟩) (v := .slice a e.a.length cap) (by simp) hb2
  have hb3 := below_trans (below_box _) hb2
  clear hb2
  have HOK : Hid (R = if e.ok text each = true then 0 else 3) := by
    show R = _
    have h1 := HR.out
    rw [if_pos ⟨hc, hd⟩] at h1
    exact h1
  generalize e.ok text each = g at *
  go_wp2_with (go_at_call 72; refine Hid.out ?_)
  refine Lib.hid ?_
  refine (M.out _ hb3).mono ?_
  rintro _ w4 ⟨rfl, hb4⟩
  cases g with
  | true =>
    go_wp2
    go_ret
    have h1 := HOK.out
    simp at h1
    exact ⟨by rw [h1]; rfl, below_trans hb3 hb4⟩
  | false =>
    go_wp2
    go_ret
    have h1 := HOK.out
    simp at h1
    exact ⟨by rw [h1]; rfl, below_trans hb3 hb4⟩
theorem assert_err (n : Int) (w : World) : Sem.run Tryz.prog (Instr.typeAssert (Value.iface 70 (Value.int IntKind.i64 n)) 31 70 true) w = .ok (.tuple #[.int .i64 n, .bool true]) w := by kernel_rfl
set_option maxRecDepth 100000 in
theorem same_any (f : Nat) (w : World) : Calls Tryz.prog 11 #[errV f, .int .i64 f] w fun e w' => e = .returned (.bool true) ∧ w' = w := by
  unfold errV
  by_cases h : f = 0
  · subst h
    rw [if_pos rfl]
    go_enter Tryz.func11, Tryz.ntmps11
    go_wp2
    go_ret
    exact ⟨rfl, rfl⟩
  · rw [if_neg h]
    have ta := assert_err f
    have hf : 0 < f := by omega
    go_enter Tryz.func11, Tryz.ntmps11
    go_wp2
    go_ret
    exact ⟨rfl, rfl⟩
theorem isEx_none (w : World) (k n : Int) (s : List UInt8) : IsEx w (.slice none 0 0) (.mk k n s []) :=
  IsEx.mk k n s none 0 [] 0 0 (fun _ => undef) (fun h => absurd h (by simp)) (fun i x hx => by simp at hx) (fun i x hx => by simp at hx)
theorem litStr (w : World) (E : EnvS w) (ra : Option Addr) (rd : Nat) (h : IsTexts w (.slice ra 2 rd) ((wordsL [97, 32, 98, 99]).map bs)) :
    Calls Tryz.prog 76 #[.agg #[.int .i64 3, .int .i64 1, .string ⟨#[]⟩, .slice none 0 0], .agg #[.string (bs [97, 32, 98, 99]), .string ⟨#[]⟩, .slice ra 2 rd]] w fun r w' => r = .returned (.string ⟨#[98, 99]⟩) ∧ Below w.heap.size w w' :=
  StrX_any (ofL [97, 32, 98, 99]) ra rd (isEx_none w 3 1 []) h (by decide) (by decide) (by decide) E
theorem litInt (w : World) (E : EnvS w) (ra : Option Addr) (rd : Nat) (h : IsTexts w (.slice ra 2 rd) ((wordsL [97, 32, 98, 99]).map bs)) :
    Calls Tryz.prog 78 #[.agg #[.int .i64 9, .int .i64 0, .string ⟨#[]⟩, .slice none 0 0], .agg #[.string (bs [97, 32, 98, 99]), .string ⟨#[]⟩, .slice ra 2 rd]] w fun r w' => r = .returned (.int .i64 2) ∧ Below w.heap.size w w' :=
  IntX_any (ofL [97, 32, 98, 99]) ra rd (isEx_none w 9 0 []) h (by decide) (by decide) (by decide) E
end Go.Proofs.YtmgpacenooncjaaGreatDoor
/- The document's JobFault: when a rule makes a pair. Written by tpl/mk_jf.py. -/
namespace Go.Proofs.YtmgpacenooncjaaGreatDoor
open Go.ChangeShapes Go.WideShapes Go.ChangeAt Go.RowKit
/-- What a way out by return asks. -/
def retQ (R : Act → World → Prop) (e : Exit) (a : Act) (w : World) : Prop := match e with
  | .ret => R a w
  | _ => False
theorem wp_normR {c : Code} {K : Act → World → Prop} {Q0 : Exit → Act → World → Prop} {a : Act} {w : World} (h : c.wp Tryz.prog (Exit.then K (retQ fun a w => Q0 .ret a w)) a w) : c.wp Tryz.prog (Exit.then K Q0) a w :=
  wp_mono h fun e a w hq => by
    cases e with
    | normal => exact hq
    | exit id => exact False.elim hq
    | goto l => exact False.elim hq
    | ret => exact hq
    | panic ch => exact False.elim hq
    | outgrown => exact False.elim hq
set_option maxRecDepth 1000000 in
set_option maxHeartbeats 4000000 in
theorem jf_b2 (r : Rl) (B W : Nat) (wn : Int) (ai ak av : Option Addr) (ci ck cv : Nat) (w0 : World) (K KR : Act → World → Prop) (s0 s1 s2 s3 s5 s6 s7 s8 s9 s10 s11 s12 s13 s14 s15 s16 s17 s18 s19 s20 s21 s22 s23 s24 s25 s26 s27 s28 s29 s30 s31 s32 s33 s34 s35 s36 s37 s38 s39 s40 s41 s42 s43 s44 s45 s46 s47 s49 s50 s51 s52 s53 s54 s55 s56 s57 s58 s59 s60 s61 s62 s63 s64 s65 s66 s67 s68 s69 s70 s71 s72 s73 s74 s75 s76 s77 s78 s79 s80 s81 s82 s83 s84 s85 s86 s87 s88 s89 s90 s91 s92 s93 s94 s95 s96 s97 s98 s99 s100 s101 s102 s103 s104 s105 s106 s107 s108 s109 s110 s111 s112 s113 s114 s115 s116 : Value)
    (HW : Hid (W = whenFault r))
    (HWN : Hid (wn = r.when))
    (RU : Hid (∀ w', Below w0.heap.size w0 w' → Blk w' B 58 (ruleCells r ai ak av ci ck cv)))
    (XI : Hid (∀ w', Below w0.heap.size w0 w' → IsEx w' (.slice ai r.iff.a.length ci) r.iff))
    (hw : r.wt ≤ 1000000000)
    (HK : Hid (∀ (z2 z5 z6 z49 z50 z51 z52 z53 z54 z55 z56 z57 z58 z59 z60 z61 z62 z63 z64 z65 z66 z67 z68 z69 z70 z71 z72 z73 z74 z75 z76 z77 z78 z79 z80 z81 z82 z83 z84 z85 z86 z87 z88 z89 z90 z91 z92 z93 z94 z95 z96 z97 z98 z99 z100 : Value) (wx : World), W = 0 → Below w0.heap.size w0 wx → K ⟨#[s0, s1, z2, s3, .pointer (some ⟨B, 0, none⟩), z5, z6, s7, s8, s9, s10, s11, s12, s13, s14, s15, s16, s17, s18, s19, s20, s21, s22, s23, s24, s25, s26, s27, s28, s29, s30, s31, s32, s33, s34, s35, s36, s37, s38, s39, s40, s41, s42, s43, s44, s45, s46, s47, .int .i64 wn, z49, z50, z51, z52, z53, z54, z55, z56, z57, z58, z59, z60, z61, z62, z63, z64, z65, z66, z67, z68, z69, z70, z71, z72, z73, z74, z75, z76, z77, z78, z79, z80, z81, z82, z83, z84, z85, z86, z87, z88, z89, z90, z91, z92, z93, z94, z95, z96, z97, z98, z99, z100, s101, s102, s103, s104, s105, s106, s107, s108, s109, s110, s111, s112, s113, s114, s115, s116], []⟩ wx))
    (HKR : Hid (∀ (z5 z6 z49 z50 z51 z52 z53 z54 z55 z56 z57 z58 z59 z60 z61 z62 z63 z64 z65 z66 z67 z68 z69 z70 z71 z72 z73 z74 z75 z76 z77 z78 z79 z80 z81 z82 z83 z84 z85 z86 z87 z88 z89 z90 z91 z92 z93 z94 z95 z96 z97 z98 z99 z100 : Value) (wx : World), W ≠ 0 → Below w0.heap.size w0 wx → KR ⟨#[s0, s1, .int .i64 (W : Int), s3, .pointer (some ⟨B, 0, none⟩), z5, z6, s7, s8, s9, s10, s11, s12, s13, s14, s15, s16, s17, s18, s19, s20, s21, s22, s23, s24, s25, s26, s27, s28, s29, s30, s31, s32, s33, s34, s35, s36, s37, s38, s39, s40, s41, s42, s43, s44, s45, s46, s47, .int .i64 wn, z49, z50, z51, z52, z53, z54, z55, z56, z57, z58, z59, z60, z61, z62, z63, z64, z65, z66, z67, z68, z69, z70, z71, z72, z73, z74, z75, z76, z77, z78, z79, z80, z81, z82, z83, z84, z85, z86, z87, z88, z89, z90, z91, z92, z93, z94, z95, z96, z97, z98, z99, z100, s101, s102, s103, s104, s105, s106, s107, s108, s109, s110, s111, s112, s113, s114, s115, s116], []⟩ wx)) :
    Code.wp Tryz.prog (pieceIn Tryz.f13.body 2) (Exit.then K (retQ KR)) ⟨#[s0, s1, s2, s3, .pointer (some ⟨B, 0, none⟩), s5, s6, s7, s8, s9, s10, s11, s12, s13, s14, s15, s16, s17, s18, s19, s20, s21, s22, s23, s24, s25, s26, s27, s28, s29, s30, s31, s32, s33, s34, s35, s36, s37, s38, s39, s40, s41, s42, s43, s44, s45, s46, s47, .int .i64 wn, s49, s50, s51, s52, s53, s54, s55, s56, s57, s58, s59, s60, s61, s62, s63, s64, s65, s66, s67, s68, s69, s70, s71, s72, s73, s74, s75, s76, s77, s78, s79, s80, s81, s82, s83, s84, s85, s86, s87, s88, s89, s90, s91, s92, s93, s94, s95, s96, s97, s98, s99, s100, s101, s102, s103, s104, s105, s106, s107, s108, s109, s110, s111, s112, s113, s114, s115, s116], []⟩ w0 := by
  have hw2 := hw
  unfold Rl.wt at hw2
  have hln : r.iff.a.length ≤ 1000000000 := by
    have h1 : r.iff.wt ≤ 1000000000 := by omega
    cases hr : r.iff with
    | mk k n s a =>
      rw [hr] at h1
      simp only [Ex.wt] at h1
      have := len_wtL a
      simp only [Ex.a]; omega
  have NE := Lib.hid (fun w => noEnd_any r.s w (by omega))
  have EF : Hid (∀ w', Below w0.heap.size w0 w' → Calls Tryz.prog 40 #[r.iff.val (.slice ai r.iff.a.length ci), .bool true, .bool r.each] w' fun q w'' => q = .returned (.int .i64 (faultE r.iff true r.each : Nat)) ∧ Below w'.heap.size w' w'') := fun w' hb => exprFault_any (XI.out w' hb) (by omega) true r.each
  unfold Ex.val at EF
  have hW := HW.out
  unfold whenFault fitsB Ex.zero at hW
  have HWD := Lib.hid hW
  have hsz : (bs r.s).size = r.s.length := bs_size r.s
  have t1 : (bs r.s).toList.isEmpty = r.s.isEmpty := by rw [bs_toList]
  have t2 : (bs r.iff.s).toList.isEmpty = r.iff.s.isEmpty := by rw [bs_toList]
  obtain ⟨q0, q1, q2, q3, q4, q5, q6, q7, q8, q9, q10, q11, q12, q13, q14⟩ := ruleAt (RU.out w0 (Below.refl _ _))
  have Q0 := Lib.hid q0
  have HSB : Hid (r.s.length ≤ 1000000000) := by show _ ≤ _; omega
  clear hW hw hw2
  rw [← HWN.out] at HWD q1
  by_cases h0 : wn = 0
  · have HWD2 : Hid (W = if ((decide (r.iff.k = 0) && decide (r.iff.n = 0) && r.iff.s.isEmpty && decide (r.iff.a.length = 0)) && r.s.isEmpty) = true then 0 else 3) := by
      show _ = _
      have h := HWD.out
      rw [if_pos h0] at h
      exact h
    subst h0
    clear HWD
    obtain ⟨K0, hK0⟩ : ∃ x, x = r.iff.k := ⟨_, rfl⟩
    obtain ⟨N0, hN0⟩ : ∃ x, x = r.iff.n := ⟨_, rfl⟩
    obtain ⟨LA, hLA⟩ : ∃ x, x = r.iff.a.length := ⟨_, rfl⟩
    rw [← hK0, ← hN0, ← hLA] at HWD2
    rw [← hK0] at q2
    rw [← hN0] at q3
    rw [← hLA] at q5 hln
    generalize r.s.isEmpty = e1 at *
    generalize r.iff.s.isEmpty = e2 at *
    clear hK0 hN0 hLA EF NE
    conv => arg 2; whnf
    cases e1 with
    | false =>
      have HF3 : Hid (W = 3) := by show _ = _; rw [HWD2.out]; simp
      go_wp2
      (have e := HF3.out; subst e; exact HKR.out _ _ _ _ _ _ _ _ _ _ _ _ _ _ _ _ _ _ _ _ _ _ _ _ _ _ _ _ _ _ _ _ _ _ _ _ _ _ _ _ _ _ _ _ _ _ _ _ _ _ _ _ _ _ _ (by decide) (Below.refl _ _))
    | true =>
      by_cases hk : K0 = 0
      · subst hk
        by_cases hn : N0 = 0
        · subst hn
          cases e2 with
          | false =>
            have HF3 : Hid (W = 3) := by show _ = _; rw [HWD2.out]; simp
            go_wp2
            (have e := HF3.out; subst e; exact HKR.out _ _ _ _ _ _ _ _ _ _ _ _ _ _ _ _ _ _ _ _ _ _ _ _ _ _ _ _ _ _ _ _ _ _ _ _ _ _ _ _ _ _ _ _ _ _ _ _ _ _ _ _ _ _ _ (by decide) (Below.refl _ _))
          | true =>
            by_cases hl : 0 < LA
            · have HF3 : Hid (W = 3) := by
                show _ = _
                rw [HWD2.out, decide_eq_false (show ¬ LA = 0 by omega)]
                simp
              have hl2 : (0 : Int) < (LA : Int) := by omega
              go_wp2
              (have e := HF3.out; subst e; exact HKR.out _ _ _ _ _ _ _ _ _ _ _ _ _ _ _ _ _ _ _ _ _ _ _ _ _ _ _ _ _ _ _ _ _ _ _ _ _ _ _ _ _ _ _ _ _ _ _ _ _ _ _ _ _ _ _ (by decide) (Below.refl _ _))
            · have HF0 : Hid (W = 0) := by
                show _ = _
                rw [HWD2.out, decide_eq_true (show LA = 0 by omega)]
                simp
              have hl2 : ¬ (0 : Int) < (LA : Int) := by omega
              go_wp2
              exact HK.out _ _ _ _ _ _ _ _ _ _ _ _ _ _ _ _ _ _ _ _ _ _ _ _ _ _ _ _ _ _ _ _ _ _ _ _ _ _ _ _ _ _ _ _ _ _ _ _ _ _ _ _ _ _ _ _ HF0.out (Below.refl _ _)
        · have HF3 : Hid (W = 3) := by
            show _ = _
            rw [HWD2.out, decide_eq_false hn]
            simp
          have hn2 : (N0 == 0) = false := by simpa using hn
          go_wp2
          (have e := HF3.out; subst e; exact HKR.out _ _ _ _ _ _ _ _ _ _ _ _ _ _ _ _ _ _ _ _ _ _ _ _ _ _ _ _ _ _ _ _ _ _ _ _ _ _ _ _ _ _ _ _ _ _ _ _ _ _ _ _ _ _ _ (by decide) (Below.refl _ _))
      · have HF3 : Hid (W = 3) := by
          show _ = _
          rw [HWD2.out, decide_eq_false hk]
          simp
        have hk2 : (K0 == 0) = false := by simpa using hk
        go_wp2
        (have e := HF3.out; subst e; exact HKR.out _ _ _ _ _ _ _ _ _ _ _ _ _ _ _ _ _ _ _ _ _ _ _ _ _ _ _ _ _ _ _ _ _ _ _ _ _ _ _ _ _ _ _ _ _ _ _ _ _ _ _ _ _ _ _ (by decide) (Below.refl _ _))
  · have h0' : (wn == 0) = false := by simpa using h0
    by_cases h12 : ¬ (wn = 1 ∨ wn = 2)
    · have h1 : ¬ wn = 1 := fun h => h12 (.inl h)
      have h2 : ¬ wn = 2 := fun h => h12 (.inr h)
      have h1' : (wn == 1) = false := by simpa using h1
      have h2' : (wn == 2) = false := by simpa using h2
      have HF3 : Hid (W = 3) := by
        show _ = _
        rw [HWD.out, if_neg h0, if_neg h12]
      clear h12 h0 h1 h2 HWD
      conv => arg 2; whnf
      go_wp2
      (have e := HF3.out; subst e; exact HKR.out _ _ _ _ _ _ _ _ _ _ _ _ _ _ _ _ _ _ _ _ _ _ _ _ _ _ _ _ _ _ _ _ _ _ _ _ _ _ _ _ _ _ _ _ _ _ _ _ _ _ _ _ _ _ _ (by decide) (Below.refl _ _))
    · replace h12 := Decidable.not_not.1 h12
      have HWD2 : Hid (W = if (decide (r.s.length ≤ 20) && !r.s.contains 10) = true then faultE r.iff true r.each else 3) := by
        show _ = _
        have h := HWD.out
        rw [if_neg h0, if_pos h12] at h
        exact h
      obtain ⟨sl, hsl⟩ : ∃ x, x = r.s.length := ⟨_, rfl⟩
      rw [← hsl] at HWD2 hsz
      have hslb : sl ≤ 1000000000 := by rw [hsl]; exact HSB.out
      generalize (!r.s.contains 10) = nb at *
      generalize faultE r.iff true r.each = fe at *
      clear HWD h0 hsl hln
      rcases h12 with rfl | rfl
      · have gA : ((1 : Int) == 0) = false := by decide
        conv => arg 2; whnf
        go_wp2_with (go_at_call 39; refine Hid.out ?_)
        refine Lib.hid ?_
        refine (NE.out _).mono ?_
        rintro _ w2 ⟨rfl, rfl⟩
        by_cases hl20 : 20 < sl
        · have HF3 : Hid (W = 3) := by
            show _ = _
            rw [HWD2.out, decide_eq_false (show ¬ sl ≤ 20 by omega)]
            simp
          have hl21 : (20 : Int) < (sl : Int) := by omega
          go_wp2
          (have e := HF3.out; subst e; exact HKR.out _ _ _ _ _ _ _ _ _ _ _ _ _ _ _ _ _ _ _ _ _ _ _ _ _ _ _ _ _ _ _ _ _ _ _ _ _ _ _ _ _ _ _ _ _ _ _ _ _ _ _ _ _ _ _ (by decide) (Below.refl _ _))
        · have hl21 : ¬ (20 : Int) < (sl : Int) := by omega
          cases nb with
          | false =>
            have HF3 : Hid (W = 3) := by
              show _ = _
              rw [HWD2.out]
              simp
            go_wp2
            (have e := HF3.out; subst e; exact HKR.out _ _ _ _ _ _ _ _ _ _ _ _ _ _ _ _ _ _ _ _ _ _ _ _ _ _ _ _ _ _ _ _ _ _ _ _ _ _ _ _ _ _ _ _ _ _ _ _ _ _ _ _ _ _ _ (by decide) (Below.refl _ _))
          | true =>
            have HFE : Hid (W = fe) := by
              show _ = _
              rw [HWD2.out, decide_eq_true (show sl ≤ 20 by omega)]
              rfl
            go_wp2_with (go_at_call 40; refine Hid.out ?_)
            refine Lib.hid ?_
            refine (EF.out _ (Below.refl _ _)).mono ?_
            rintro _ w3 ⟨rfl, hb3⟩
            have HB3 := Lib.hid hb3
            clear hb3
            by_cases hfe : fe = 0
            · have hf1 : ¬ (0 : Int) < (fe : Int) := by omega
              go_wp2
              exact HK.out _ _ _ _ _ _ _ _ _ _ _ _ _ _ _ _ _ _ _ _ _ _ _ _ _ _ _ _ _ _ _ _ _ _ _ _ _ _ _ _ _ _ _ _ _ _ _ _ _ _ _ _ _ _ _ _ (by rw [HFE.out]; exact hfe) HB3.out
            · have hf1 : (0 : Int) < (fe : Int) := by omega
              go_wp2
              have e := HFE.out
              subst e
              exact HKR.out _ _ _ _ _ _ _ _ _ _ _ _ _ _ _ _ _ _ _ _ _ _ _ _ _ _ _ _ _ _ _ _ _ _ _ _ _ _ _ _ _ _ _ _ _ _ _ _ _ _ _ _ _ _ _ hfe HB3.out
      · have gA : ((1 : Int) == 0) = false := by decide
        conv => arg 2; whnf
        go_wp2_with (go_at_call 39; refine Hid.out ?_)
        refine Lib.hid ?_
        refine (NE.out _).mono ?_
        rintro _ w2 ⟨rfl, rfl⟩
        by_cases hl20 : 20 < sl
        · have HF3 : Hid (W = 3) := by
            show _ = _
            rw [HWD2.out, decide_eq_false (show ¬ sl ≤ 20 by omega)]
            simp
          have hl21 : (20 : Int) < (sl : Int) := by omega
          go_wp2
          (have e := HF3.out; subst e; exact HKR.out _ _ _ _ _ _ _ _ _ _ _ _ _ _ _ _ _ _ _ _ _ _ _ _ _ _ _ _ _ _ _ _ _ _ _ _ _ _ _ _ _ _ _ _ _ _ _ _ _ _ _ _ _ _ _ (by decide) (Below.refl _ _))
        · have hl21 : ¬ (20 : Int) < (sl : Int) := by omega
          cases nb with
          | false =>
            have HF3 : Hid (W = 3) := by
              show _ = _
              rw [HWD2.out]
              simp
            go_wp2
            (have e := HF3.out; subst e; exact HKR.out _ _ _ _ _ _ _ _ _ _ _ _ _ _ _ _ _ _ _ _ _ _ _ _ _ _ _ _ _ _ _ _ _ _ _ _ _ _ _ _ _ _ _ _ _ _ _ _ _ _ _ _ _ _ _ (by decide) (Below.refl _ _))
          | true =>
            have HFE : Hid (W = fe) := by
              show _ = _
              rw [HWD2.out, decide_eq_true (show sl ≤ 20 by omega)]
              rfl
            go_wp2_with (go_at_call 40; refine Hid.out ?_)
            refine Lib.hid ?_
            refine (EF.out _ (Below.refl _ _)).mono ?_
            rintro _ w3 ⟨rfl, hb3⟩
            have HB3 := Lib.hid hb3
            clear hb3
            by_cases hfe : fe = 0
            · have hf1 : ¬ (0 : Int) < (fe : Int) := by omega
              go_wp2
              exact HK.out _ _ _ _ _ _ _ _ _ _ _ _ _ _ _ _ _ _ _ _ _ _ _ _ _ _ _ _ _ _ _ _ _ _ _ _ _ _ _ _ _ _ _ _ _ _ _ _ _ _ _ _ _ _ _ _ (by rw [HFE.out]; exact hfe) HB3.out
            · have hf1 : (0 : Int) < (fe : Int) := by omega
              go_wp2
              have e := HFE.out
              subst e
              exact HKR.out _ _ _ _ _ _ _ _ _ _ _ _ _ _ _ _ _ _ _ _ _ _ _ _ _ _ _ _ _ _ _ _ _ _ _ _ _ _ _ _ _ _ _ _ _ _ _ _ _ _ _ _ _ _ _ hfe HB3.out
end Go.Proofs.YtmgpacenooncjaaGreatDoor
/- The document's JobFault. Written by tpl/mk_jf.py. -/
namespace Go.Proofs.YtmgpacenooncjaaGreatDoor
open Go.ChangeShapes Go.WideShapes Go.ChangeAt Go.RowKit
set_option maxRecDepth 1000000 in
set_option maxHeartbeats 8000000 in
theorem rJobFault_any (j : Jb) (rv : Value) (w : World) (h : IsRules w rv j.rules) (hw : rulesWt j.rules ≤ 1000000000) :
    Calls Tryz.prog 13 #[j.value rv] w fun v w' => v = .returned (.int .i64 ((jobFault j : Nat) : Int)) ∧ Below w.heap.size w w' := by
  obtain ⟨l, fo, ea', sl⟩ := j
  simp only [Jb.value] at *
  obtain ⟨a, cap, b, off, AI, AK, AV, rfl, ha, hc⟩ := h
  have hl := rules_len l
  have HA := Lib.hid ha
  have HC := Lib.hid hc
  clear ha hc
  obtain ⟨R, hR⟩ : ∃ R : Nat, R = jobFault ⟨l, fo, ea', sl⟩ := ⟨_, rfl⟩
  rw [← hR]
  simp only [jobFault] at hR
  have HR := Lib.hid hR
  obtain ⟨ln, hln⟩ : ∃ n, n = l.length := ⟨_, rfl⟩
  rw [← hln]
  have HLN := Lib.hid hln
  have hln2 : ln ≤ 1000000000 := by omega
  clear hR hln hl
  obtain ⟨w1, hw1⟩ : ∃ w1, w1 = w.alloc (.cells #[.slice a ln cap, .int .i64 fo, .bool ea', .int .i64 sl] 24) := ⟨_, rfl⟩
  obtain ⟨P, hP⟩ : ∃ P, P = w.heap.size := ⟨_, rfl⟩
  have hb1 : Below w.heap.size w w1 := by rw [hw1]; exact below_box _
  have HJ : Hid (Blk w1 P 24 [.slice a ln cap, .int .i64 fo, .bool ea', .int .i64 sl]) := by
    show Blk _ _ _ _
    rw [hw1]
    exact blk_new hP
  have HB1 := Lib.hid hb1
  have HW1 := Lib.hid hw1
  have HPP := Lib.hid hP
  clear hw1 hP hb1
  go_enter Tryz.func13, Tryz.ntmps13
  go_upto_region 1 with fail
  rw [← HW1.out, ← HPP.out]
  clear HW1 HPP
  have k0 := HJ.out.at (i := 0) (v := .slice a ln cap) rfl
  have k1 := HJ.out.at (i := 1) (v := .int .i64 fo) rfl
  have k2 := HJ.out.at (i := 2) (v := .bool ea') rfl
  have k3 := HJ.out.at (i := 3) (v := .int .i64 sl) rfl
  by_cases h1 : ln < 1
  · have g1 : (ln : Int) < 1 := by omega
    go_wp2
    go_ret
    exact ⟨by rw [HR.out, if_pos (.inl (by rw [← HLN.out]; exact h1))]; rfl, HB1.out⟩
  have g1 : ¬ (ln : Int) < 1 := by omega
  by_cases h2 : 4 < ln
  · have g2 : (4 : Int) < (ln : Int) := by omega
    go_wp2
    go_ret
    exact ⟨by rw [HR.out, if_pos (.inr (by rw [← HLN.out]; exact h2))]; rfl, HB1.out⟩
  have g2 : ¬ (4 : Int) < (ln : Int) := by omega
  have HNL : Hid (¬ (l.length < 1 ∨ 4 < l.length)) := by show ¬ _; rw [← HLN.out]; omega
  by_cases h3 : fo < 1
  · go_wp2
    go_ret
    exact ⟨by rw [HR.out, if_neg HNL.out, if_pos (.inl h3)]; rfl, HB1.out⟩
  by_cases h4 : 4 < fo
  · go_wp2
    go_ret
    exact ⟨by rw [HR.out, if_neg HNL.out, if_pos (.inr h4)]; rfl, HB1.out⟩
  by_cases h5 : sl < 1
  · go_wp2
    go_ret
    exact ⟨by rw [HR.out, if_neg HNL.out, if_neg (by omega), if_pos (.inl h5)]; rfl, HB1.out⟩
  by_cases h6 : 4 < sl
  · go_wp2
    go_ret
    exact ⟨by rw [HR.out, if_neg HNL.out, if_neg (by omega), if_pos (.inr h6)]; rfl, HB1.out⟩
  have HR2 : Hid (R = rulesFault l) := by
    show R = _
    have h0 := HR.out
    rw [if_neg HNL.out, if_neg (by omega), if_neg (by omega)] at h0
    exact h0
  have hln4 : ln ≤ 4 := by omega
  clear HR h1 h2
  go_wp2
  clear k0 k1 k2 k3 g1 g2 h3 h4 h5 h6
  go_loopg [3] ln (fun gg iv wr => ∃ i : Nat, gg = ln - i ∧ i ≤ ln ∧ iv = .int .i64 i ∧ Hid (rulesFault (l.take i) = 0) ∧ Hid (Below w1.heap.size w1 wr))
  case atStart => exact ⟨0, rfl, Nat.zero_le _, rfl, (show rulesFault _ = 0 from rfl), (Below.refl _ _ : Below w1.heap.size w1 w1)⟩
  case round =>
    obtain ⟨i, hgi, hi, rfl, HZ, HBR⟩ := hrel
    have HGI := Lib.hid hgi
    clear hgi
    have k0 := (HJ.out.blw HBR.out).at (i := 0) (v := .slice a ln cap) rfl
    by_cases hlt : i < ln
    · obtain ⟨r, hr⟩ : ∃ r, l[i]? = some r := ⟨l[i]'(by rw [← HLN.out]; exact hlt), by simp⟩
      have ea := HA.out (by rw [← HLN.out]; omega)
      subst ea
      have hbw := below_trans HB1.out HBR.out
      obtain ⟨⟨c0, c1, c2, c3, c4, c5, c6, c7, c8, c9, c10, c11, c12, c13, c14⟩, xi, xk, xv⟩ := HC.out i r hr
      obtain ⟨ai, ci, ei⟩ := xi.slice
      obtain ⟨ak, ck, ek⟩ := xk.slice
      obtain ⟨av, cv, ev⟩ := xv.slice
      rw [ei] at c5 xi
      rw [ek] at c10 xk
      rw [ev] at c14 xv
      replace c0 := cell_below c0 hbw
      replace c1 := cell_below c1 hbw
      replace c2 := cell_below c2 hbw
      replace c3 := cell_below c3 hbw
      replace c4 := cell_below c4 hbw
      replace c5 := cell_below c5 hbw
      replace c6 := cell_below c6 hbw
      replace c7 := cell_below c7 hbw
      replace c8 := cell_below c8 hbw
      replace c9 := cell_below c9 hbw
      replace c10 := cell_below c10 hbw
      replace c11 := cell_below c11 hbw
      replace c12 := cell_below c12 hbw
      replace c13 := cell_below c13 hbw
      replace c14 := cell_below c14 hbw
      obtain ⟨w4, hw4⟩ : ∃ w4, w4 = wr.alloc (.cells #[.bool r.each, .int .i64 r.when, .int .i64 r.iff.k, .int .i64 r.iff.n, .string (bs r.iff.s), .slice ai r.iff.a.length ci, .string (bs r.s), .int .i64 r.key.k, .int .i64 r.key.n, .string (bs r.key.s), .slice ak r.key.a.length ck, .int .i64 r.val.k, .int .i64 r.val.n, .string (bs r.val.s), .slice av r.val.a.length cv] 58) := ⟨_, rfl⟩
      obtain ⟨B, hB⟩ : ∃ B, B = wr.heap.size := ⟨_, rfl⟩
      have RU : Hid (Blk w4 B 58 (ruleCells r ai ak av ci ck cv)) := by show Blk _ _ _ _; rw [hw4]; exact blk_new hB
      have hb4 : Below wr.heap.size wr w4 := by rw [hw4]; exact below_box _
      have HB4 : Hid (Below w.heap.size w w4) := below_trans hbw hb4
      have XI : Hid (∀ w', Below w4.heap.size w4 w' → IsEx w' (.slice ai r.iff.a.length ci) r.iff) := fun w' hb => xi.lower (below_trans HB4.out hb)
      have hwr := rule_wt hr
      have hwr2 : r.wt ≤ 1000000000 := by omega
      have hwk : r.key.wt ≤ 1000000000 ∧ r.val.wt ≤ 1000000000 := by unfold Rl.wt at hwr2; omega
      have EK : Hid (∀ w', Below w4.heap.size w4 w' → Calls Tryz.prog 40 #[r.key.val (.slice ak r.key.a.length ck), .bool true, .bool r.each] w' fun q w'' => q = .returned (.int .i64 (faultE r.key true r.each : Nat)) ∧ Below w'.heap.size w' w'') := fun w' hb => exprFault_any (xk.lower (below_trans HB4.out hb)) hwk.1 true r.each
      have EV : Hid (∀ w', Below w4.heap.size w4 w' → Calls Tryz.prog 40 #[r.val.val (.slice av r.val.a.length cv), .bool false, .bool r.each] w' fun q w'' => q = .returned (.int .i64 (faultE r.val false r.each : Nat)) ∧ Below w'.heap.size w' w'') := fun w' hb => exprFault_any (xv.lower (below_trans HB4.out hb)) hwk.2 false r.each
      unfold Ex.val at EK EV
      have HN := Lib.hid (rulesFault_at hr HZ.out)
      have HW4 := Lib.hid hw4
      have HBB := Lib.hid hB
      have HB1R : Hid (Below w1.heap.size w1 w4) := below_trans HBR.out hb4
      obtain ⟨WF, hWF⟩ : ∃ x, x = whenFault r := ⟨_, rfl⟩
      have HWF := Lib.hid hWF
      have q1 := RU.out.at (i := 1) (v := .int .i64 r.when) rfl
      have hRF : ruleFault r = if WF ≠ 0 then WF else if faultE r.key true r.each ≠ 0 then faultE r.key true r.each else faultE r.val false r.each := by rw [hWF]; rfl
      have HRF := Lib.hid hRF
      have HWR := Lib.hid hwr2
      have HBW := Lib.hid hbw
      clear hr hw4 hB hb4 hbw xi xk xv ei ek ev hwr hwk hWF hRF
      go_upto_region 11 with fail
      rw [← HW4.out, ← HBB.out]
      clear HW4 HBB c0 c1 c2 c3 c4 c5 c6 c7 c8 c9 c10 c11 c12 c13 c14
      go_upto_block 2 with fail
      trace_state
      refine wp_normR (jf_b2 r B WF r.when ai ak av ci ck cv _ _ _ _ _ _ _ _ _ _ _ _ _ _ _ _ _ _ _ _ _ _ _ _ _ _ _ _ _ _ _ _ _ _ _ _ _ _ _ _ _ _ _ _ _ _ _ _ _ _ _ _ _ _ _ _ _ _ _ _ _ _ _ _ _ _ _ _ _ _ _ _ _ _ _ _ _ _ _ _ _ _ _ _ _ _ _ _ _ _ _ _ _ _ _ _ _ _ _ _ _ _ _ _ _ _ _ _ _ _ _ _ _ _ _ _ _ _ HWF (Lib.hid rfl) (fun w' hb => RU.out.blw hb) XI HWR.out ?_ ?_)
      · refine Lib.hid ?_
        intro z2 z5 z6 z49 z50 z51 z52 z53 z54 z55 z56 z57 z58 z59 z60 z61 z62 z63 z64 z65 z66 z67 z68 z69 z70 z71 z72 z73 z74 z75 z76 z77 z78 z79 z80 z81 z82 z83 z84 z85 z86 z87 z88 z89 z90 z91 z92 z93 z94 z95 z96 z97 z98 z99 z100 wx hW0 hbx
        have HW0 := Lib.hid hW0
        have RUX := Lib.hid (RU.out.blw hbx)
        have HBX := Lib.hid hbx
        obtain ⟨q0, q1, q2, q3, q4, q5, q6, q7, q8, q9, q10, q11, q12, q13, q14⟩ := ruleAt RUX.out
        obtain ⟨f2, hf2⟩ : ∃ x, x = faultE r.key true r.each := ⟨_, rfl⟩
        obtain ⟨f3, hf3⟩ : ∃ x, x = faultE r.val false r.each := ⟨_, rfl⟩
        have HRF2 : Hid (ruleFault r = if f2 ≠ 0 then f2 else f3) := by
          show _ = _
          rw [HRF.out, if_neg (by rw [HW0.out]; decide), hf2, hf3]
        rw [← hf2] at EK
        rw [← hf3] at EV
        clear hW0 hbx hf2 hf3 q1 q2 q3 q4 q5 q6 k0
        go_wp2_with (go_at_call 40; refine Hid.out ?_)
        refine Lib.hid ?_
        refine (EK.out _ HBX.out).mono ?_
        rintro _ w5 ⟨rfl, hb5⟩
        have RU5 := Lib.hid (RUX.out.blw hb5)
        have HB5 : Hid (Below w4.heap.size w4 w5) := below_trans HBX.out hb5
        clear q0 q7 q8 q9 q10 q11 q12 q13 q14 hb5
        obtain ⟨q0, q1, q2, q3, q4, q5, q6, q7, q8, q9, q10, q11, q12, q13, q14⟩ := ruleAt RU5.out
        clear q1 q2 q3 q4 q5 q6 q7 q8 q9 q10
        by_cases h2 : f2 = 0
        · have g2 : ¬ (0 : Int) < (f2 : Int) := by omega
          have HF3 : Hid (ruleFault r = f3) := by
            show _ = _
            rw [HRF2.out, if_neg (by rw [h2]; decide)]
          go_wp2_with (go_at_call 40; refine Hid.out ?_)
          refine Lib.hid ?_
          refine (EV.out _ HB5.out).mono ?_
          rintro _ w6 ⟨rfl, hb6⟩
          have HB6 : Hid (Below w4.heap.size w4 w6) := below_trans HB5.out hb6
          clear q0 q11 q12 q13 q14 hb6
          by_cases h3 : f3 = 0
          · have g3 : ¬ (0 : Int) < (f3 : Int) := by omega
            have hz2 : Hid (rulesFault (l.take (i + 1)) = 0) := HN.out.1.trans (HF3.out.trans h3)
            have HBW6 : Hid (Below w1.heap.size w1 w6) := below_trans HB1R.out HB6.out
            go_wp2
            go_roundg (ln - (i + 1))
            case measure => have := HGI.out; omega
            case rel => exact ⟨i + 1, rfl, hlt, by go_num, hz2, HBW6⟩
          · have g3 : (0 : Int) < (f3 : Int) := by omega
            have HBW6 : Hid (Below w.heap.size w w6) := below_trans HB4.out HB6.out
            have HFIN : Hid (R = f3) := by show _ = _; rw [HR2.out, HN.out.2 (by rw [HF3.out]; exact h3), HF3.out]
            go_wp2
            go_ret
            exact ⟨by rw [HFIN.out]; rfl, HBW6.out⟩
        · have g2 : (0 : Int) < (f2 : Int) := by omega
          have HF2 : Hid (ruleFault r = f2) := by
            show _ = _
            rw [HRF2.out, if_pos h2]
          have HBW5 : Hid (Below w.heap.size w w5) := below_trans HB4.out HB5.out
          have HFIN : Hid (R = f2) := by show _ = _; rw [HR2.out, HN.out.2 (by rw [HF2.out]; exact h2), HF2.out]
          go_wp2
          go_ret
          exact ⟨by rw [HFIN.out]; rfl, HBW5.out⟩
      · refine Lib.hid ?_
        intro z5 z6 z49 z50 z51 z52 z53 z54 z55 z56 z57 z58 z59 z60 z61 z62 z63 z64 z65 z66 z67 z68 z69 z70 z71 z72 z73 z74 z75 z76 z77 z78 z79 z80 z81 z82 z83 z84 z85 z86 z87 z88 z89 z90 z91 z92 z93 z94 z95 z96 z97 z98 z99 z100 wx hW0 hbx
        have HF2 : Hid (ruleFault r = WF) := by
          show _ = _
          rw [HRF.out, if_pos hW0]
        have HBWX : Hid (Below w.heap.size w wx) := below_trans HB4.out hbx
        have HFIN : Hid (R = WF) := by show _ = _; rw [HR2.out, HN.out.2 (by rw [HF2.out]; exact hW0), HF2.out]
        (try simp only [Exit.then, Exit.inBlock])
        go_ret
        exact ⟨by rw [HFIN.out]; rfl, HBWX.out⟩
    · have HZ3 : Hid (rulesFault l = 0) := by
        have h0 := HZ.out
        rw [List.take_of_length_le (by rw [← HLN.out]; omega)] at h0
        exact h0
      have HBF : Hid (Below w.heap.size w wr) := below_trans HB1.out HBR.out
      go_wp2
      go_ret
      exact ⟨by rw [HR2.out, HZ3.out]; rfl, HBF.out⟩
end Go.Proofs.YtmgpacenooncjaaGreatDoor
/- Mapping: the walk of MapSays. Written by tpl/mk_mp.py. -/
namespace Go.Proofs.YtmgpacenooncjaaGreatDoor
open Go.ChangeShapes Go.WideShapes Go.ChangeAt Go.RowKit
set_option maxRecDepth 100000 in
set_option maxHeartbeats 1000000 in
theorem new_bad2 (j : Jb) (rv lv : Value) (w : World) (h : IsRules w rv j.rules) (hw : rulesWt j.rules ≤ 1000000000) (hf : jobFault j ≠ 0) (E : EnvS w) :
    Calls Tryz.prog 14 #[j.value rv, lv] w fun r w' => r = .returned (.tuple #[.pointer none, errV (jobFault j)]) ∧ Below w.heap.size w w' := by
  have CK := Lib.hid (fun w h E => jobCheck_any j rv w h (by omega) E)
  have H := Lib.hid h
  obtain ⟨a, cap, rfl⟩ := h.slice
  have HE := Lib.hid E
  obtain ⟨f, hff⟩ : ∃ f, f = jobFault j := ⟨_, rfl⟩
  rw [← hff] at CK hf ⊢
  clear h E hff
  obtain ⟨l, fo, ea, sl⟩ := j
  simp only [Jb.value] at *
  generalize l.length = n at *
  have hv : errV f = .iface 70 (.int .i64 f) := if_neg hf
  rw [hv] at CK ⊢
  go_enter Tryz.func14, Tryz.ntmps14
  go_wp2_with (go_at_call 25; refine Hid.out ?_)
  refine Lib.hid ?_
  refine (CK.out _ (H.out.lower (below_box _)) (HE.out.lower (below_box _))).mono ?_
  rintro _ w1 ⟨rfl, hb1⟩
  go_wp2
  go_ret2
  exact ⟨rfl, below_trans (below_box _) hb1⟩
set_option maxRecDepth 1000000 in
set_option maxHeartbeats 16000000 in
theorem mapSays_walk (SD : StepDoes) (input : List UInt8) (j : Jb) (a : Option Addr) (cap : Nat) (la : Option Addr) (lc : Nat) (lines : List (List UInt8)) (sa : Option Addr) (sc : Nat) (steps : List Int) (w : World) (E : EnvS w) (EP : Pp.Env w) (hin : input.length ≤ 1000000000) (h : IsRules w (.slice a j.rules.length cap) j.rules) (hw : rulesWt j.rules ≤ 1000000000) (hv : IsTexts w (.slice la lines.length lc) (lines.map bs)) (hll : lines.length ≤ 1000000000) (hn : IsNums w (.slice sa steps.length sc) steps) (hsi : ∀ n ∈ steps, -9223372036854775808 ≤ n ∧ n ≤ 9223372036854775807) (hsl : steps.length ≤ 1000000000) :
    Calls Tryz.prog 3 #[.string (bs input), j.value (.slice a j.rules.length cap), .slice la lines.length lc, .slice sa steps.length sc] w fun e w' => e = .returned (.bool true) ∧ Below w.heap.size w w' := by
  have MPS := Lib.hid (fun w E => maps_any w E)
  have LJ := Lib.hid (fun w h => lightJob_any j (.slice a j.rules.length cap) w h hw)
  have JFT := Lib.hid (fun w h => rJobFault_any j (.slice a j.rules.length cap) w h hw)
  have LT := Lib.hid (fun w' (hb : Below w.heap.size w w') => lightTexts_any (.slice la lines.length lc) (lines.map bs) 70 150 w' (IsTexts.below hv hb) (by unfold maxLen; rw [List.length_map]; omega))
  have HSD := Lib.hid SD
  have HV0 : Hid (∀ w', Below w.heap.size w w' → IsTexts w' (.slice la lines.length lc) (lines.map bs)) := fun w' hb => IsTexts.below hv hb
  have HN0 : Hid (∀ w', Below w.heap.size w w' → IsNums w' (.slice sa steps.length sc) steps) := fun w' hb => IsNums.below hn hb
  have HP : Hid (∀ w', Below w.heap.size w w' → Pp.Env w') := fun w' hb => EP.below hb
  have HE : Hid (∀ w', Below w.heap.size w w' → EnvS w') := fun w' hb => E.lower hb
  have H : Hid (∀ w', Below w.heap.size w w' → IsRules w' (.slice a j.rules.length cap) j.rules) := fun w' hb => h.lower hb
  have hbi : (bs input).size = input.length := bs_size input
  obtain ⟨f, hf⟩ : ∃ f, f = jobFault j := ⟨_, rfl⟩
  have HF := Lib.hid hf
  obtain ⟨l, fo, ea, sl⟩ := j
  simp only [Jb.value] at *
  rw [List.length_map] at LT
  obtain ⟨ln, hln⟩ : ∃ ln, ln = lines.length := ⟨_, rfl⟩
  rw [← hln] at LT HV0 ⊢
  have HLN : Hid (ln = lines.length) := hln
  obtain ⟨sn, hsn⟩ : ∃ sn, sn = steps.length := ⟨_, rfl⟩
  rw [← hsn] at HN0 hsl ⊢
  have HSN : Hid (sn = steps.length) := hsn
  have HSI := Lib.hid hsi
  obtain ⟨rn, hrn⟩ : ∃ rn, rn = l.length := ⟨_, rfl⟩
  rw [← hrn] at LJ JFT H ⊢
  rw [← hf] at JFT
  obtain ⟨il, hil⟩ : ∃ il, il = input.length := ⟨_, rfl⟩
  rw [← hil] at hbi hin
  have HIL := Lib.hid hil
  have HWT := Lib.hid hw
  clear hrn hln hf h E EP SD hv hn hsn hsi hil hll hw
  obtain ⟨w0, hw0⟩ : ∃ w0, w0 = w.alloc (.cells #[.slice a rn cap, .int .i64 fo, .bool ea, .int .i64 sl] 24) := ⟨_, rfl⟩
  have hb0 : Below w.heap.size w w0 := by rw [hw0]; exact below_box _
  have JB0 : Blk w0 w.heap.size 24 [.slice a rn cap, .int .i64 fo, .bool ea, .int .i64 sl] := by rw [hw0]; exact blk_new rfl
  have HB0 := Lib.hid hb0
  have HJB0 := Lib.hid JB0
  have HW0 := Lib.hid hw0
  clear hb0 JB0 hw0
  go_enter Tryz.func3, Tryz.ntmps3
  go_upto_region 1 with fail
  rw [← HW0.out]
  clear HW0
  go_wp2_with (go_at_call 6; refine Hid.out ?_)
  refine Lib.hid ?_
  refine (MPS.out _ (HE.out _ HB0.out)).mono ?_
  clear MPS
  rintro _ w1 ⟨rfl, hb1⟩
  have HB1 : Hid (Below w.heap.size w w1) := below_trans HB0.out hb1
  have JB1 := Lib.hid (HJB0.out.blw hb1)
  clear hb1 HB0 HJB0
  by_cases h9 : 9000 < il
  · have g9 : (9000 : Int) < (il : Int) := by omega
    go_wp2
    go_ret
    exact ⟨rfl, HB1.out⟩
  have g9 : ¬ (9000 : Int) < (il : Int) := by omega
  have k0 := JB1.out.at (i := 0) (v := .slice a rn cap) rfl
  have k1 := JB1.out.at (i := 1) (v := .int .i64 fo) rfl
  have k2 := JB1.out.at (i := 2) (v := .bool ea) rfl
  have k3 := JB1.out.at (i := 3) (v := .int .i64 sl) rfl
  go_wp2_with (go_at_call 7; refine Hid.out ?_)
  refine Lib.hid ?_
  refine (LJ.out w1 (H.out _ HB1.out)).mono ?_
  rintro _ w2 ⟨g, rfl, hb2⟩
  have HB2 : Hid (Below w.heap.size w w2) := below_trans HB1.out hb2
  have JB2 := Lib.hid (JB1.out.blw hb2)
  clear k0 k1 k2 k3 JB1 HB1 hb2 LJ
  cases g with
  | false =>
    go_wp2
    go_ret
    exact ⟨rfl, HB2.out⟩
  | true =>
  have LT2 := Lib.hid (LT.out w2 HB2.out)
  obtain ⟨lt, hlt⟩ : ∃ lt, lt = (decide ((ln : Int) ≤ 70) && lightT (lines.map bs) 150) := ⟨_, rfl⟩
  rw [← hlt] at LT2
  have HLT := Lib.hid hlt
  clear hlt LT
  go_wp2_with (go_at_call 8; refine Hid.out ?_)
  refine Lib.hid ?_
  refine LT2.out.mono ?_
  rintro _ w3 ⟨rfl, h3⟩
  rw [h3]
  clear h3 w3 LT2
  cases lt with
  | false =>
    go_wp2
    go_ret
    exact ⟨rfl, HB2.out⟩
  | true =>
  have h70 : ln ≤ 70 := by
    have h := HLT.out.symm
    rw [Bool.and_eq_true, decide_eq_true_eq] at h
    omega
  have HLO : Hid (∀ x ∈ lines, x.length ≤ 150) := fun x hx => by
    have h := HLT.out.symm
    rw [Bool.and_eq_true] at h
    have h2 := h.2
    unfold lightT at h2
    rw [List.all_eq_true] at h2
    have := of_decide_eq_true (h2 (bs x) (List.mem_map.2 ⟨x, hx, rfl⟩))
    rw [bs_size] at this
    omega
  clear HLT
  by_cases h30 : 30 < sn
  · have g30 : (30 : Int) < (sn : Int) := by omega
    go_wp2
    go_ret
    exact ⟨rfl, HB2.out⟩
  have g30 : ¬ (30 : Int) < (sn : Int) := by omega
  have hs30 : sn ≤ 30 := by omega
  have hi9 : input.length ≤ 100000 := by have := HIL.out; omega
  have RC := Lib.hid (records_any input w2 (HE.out _ HB2.out).toEnv0 hi9)
  have RO := Lib.hid (fun w' => recordsOf_any input w' hi9)
  obtain ⟨rl, rf, hrr⟩ : ∃ rl rf, recsF input = (rl, rf) := ⟨_, _, rfl⟩
  rw [hrr] at RC RO
  simp only at RC RO
  have HRL : Hid ((rl.map bs).length ≤ maxLen) := by
    show _ ≤ _
    have h : rl.length ≤ input.length + 1 := by
      have e : rl = (recsF input).1 := by rw [hrr]
      rw [e]
      unfold recsF
      split
      · simp
      · split
        · simp
        · split
          · simp
          · split
            · simp
            · have := spl_lenR 10 input.dropLast
              rw [List.length_dropLast] at this
              simp only
              omega
    rw [List.length_map]
    unfold maxLen
    omega
  have SM := Lib.hid (fun w' => same_any rf w')
  clear hrr hi9 HIL
  go_wp2_with (go_at_call 9; refine Hid.out ?_)
  refine Lib.hid ?_
  refine RC.out.mono ?_
  clear RC
  rintro _ w4 ⟨xv, rfl, hx4, hb4⟩
  have HX4 := Lib.hid hx4
  have HB4 : Hid (Below w.heap.size w w4) := below_trans HB2.out hb4
  have JB4 := Lib.hid (JB2.out.blw hb4)
  clear hx4 hb4 JB2 HB2
  dsimp only
  go_wp2_with (go_at_call 10; refine Hid.out ?_)
  refine Lib.hid ?_
  refine (RO.out _).mono ?_
  clear RO
  rintro _ w5 ⟨yv, rfl, hy5, hb5⟩
  have HY5 := Lib.hid hy5
  have HX5 := Lib.hid (IsTexts.below HX4.out hb5)
  have HB5 : Hid (Below w.heap.size w w5) := below_trans HB4.out hb5
  have JB5 := Lib.hid (JB4.out.blw hb5)
  clear hy5 hb5 HX4 JB4 HB4
  dsimp only
  go_wp2_with (go_at_call 11; refine Hid.out ?_)
  refine Lib.hid ?_
  refine (SM.out _).mono ?_
  clear SM
  rintro _ w6 ⟨rfl, h6⟩
  rw [h6]
  clear h6 w6
  have ST : Hid (Calls Tryz.prog 12 #[xv, yv] w5 fun e w' => e = .returned (.bool true) ∧ Below w5.heap.size w5 w') := by
    refine (sameTexts_any xv yv _ _ w5 HX5.out HY5.out HRL.out).mono ?_
    rintro e w' ⟨rfl, n, rfl⟩
    exact ⟨by rw [decide_eq_true rfl], below_drewN _ _⟩
  go_wp2_with (go_at_call 12; refine Hid.out ?_)
  refine Lib.hid ?_
  refine ST.out.mono ?_
  clear ST
  rintro _ w7 ⟨rfl, hb7⟩
  have HB7 : Hid (Below w.heap.size w w7) := below_trans HB5.out hb7
  have JB7 := Lib.hid (JB5.out.blw hb7)
  clear hb7 JB5 HB5 HX5 HY5 HRL
  have k0 := JB7.out.at (i := 0) (v := .slice a rn cap) rfl
  have k1 := JB7.out.at (i := 1) (v := .int .i64 fo) rfl
  have k2 := JB7.out.at (i := 2) (v := .bool ea) rfl
  have k3 := JB7.out.at (i := 3) (v := .int .i64 sl) rfl
  go_wp2_with (go_at_call 13; refine Hid.out ?_)
  refine Lib.hid ?_
  refine (JFT.out w7 (H.out _ HB7.out)).mono ?_
  clear JFT
  rintro _ w8 ⟨rfl, hb8⟩
  have HB8 : Hid (Below w.heap.size w w8) := below_trans HB7.out hb8
  have JB8 := Lib.hid (JB7.out.blw hb8)
  clear k0 k1 k2 k3 hb8 JB7 HB7
  have k0 := JB8.out.at (i := 0) (v := .slice a rn cap) rfl
  have k1 := JB8.out.at (i := 1) (v := .int .i64 fo) rfl
  have k2 := JB8.out.at (i := 2) (v := .bool ea) rfl
  have k3 := JB8.out.at (i := 3) (v := .int .i64 sl) rfl
  by_cases hf0 : f = 0
  · subst hf0
    have HJF : Hid (jobFault ⟨l, fo, ea, sl⟩ = 0) := HF.out.symm
    by_cases h60 : 60 < ln
    · have g60 : (60 : Int) < (ln : Int) := by omega
      have SM2 := Lib.hid (fun w' => same_any 2 w')
      rw [show errV 2 = .iface 70 (.int .i64 2) from rfl] at SM2
      have NM := Lib.hid (new_many ⟨l, fo, ea, sl⟩ (.slice a rn cap) la ln lc w8 (H.out _ HB8.out) (by have := job_small HJF.out; simp only at this ⊢; omega) HJF.out h60 (HE.out _ HB8.out))
      simp only [Jb.value] at NM
      go_wp2_with (go_at_call 14; refine Hid.out ?_)
      refine Lib.hid ?_
      refine NM.out.mono ?_
      clear NM
      rintro _ w9 ⟨rfl, hb9⟩
      have HB9 : Hid (Below w.heap.size w w9) := below_trans HB8.out hb9
      clear k0 k1 k2 k3 hb9 JB8 HB8
      dsimp only
      go_wp2_with (go_at_call 11; refine Hid.out ?_)
      refine Lib.hid ?_
      refine (SM2.out _).mono ?_
      rintro _ w10 ⟨rfl, h10⟩
      rw [h10]
      clear h10 w10 SM2
      go_wp2
      go_ret
      exact ⟨rfl, HB9.out⟩
    · have g60 : ¬ (60 : Int) < (ln : Int) := by omega
      have hl60 : ln ≤ 60 := by omega
      obtain ⟨-, -, -, -, hs1, hs4, -⟩ := jobFault_parts HJF.out
      simp only at hs1 hs4
      obtain ⟨ns, rfl⟩ : ∃ ns : Nat, sl = (ns : Int) := ⟨sl.toNat, by omega⟩
      have hns1 : 1 ≤ ns := by omega
      have hns4 : ns ≤ 4 := by omega
      have hn6 : lines.length ≤ 60 := by rw [← HLN.out]; exact hl60
      have HLEN : Hid (∀ d, (madeOf ⟨l, fo, ea, (ns : Int)⟩ (lines.take d)).length ≤ 59999 ∧ Pp.Fits (madeOf ⟨l, fo, ea, (ns : Int)⟩ (lines.take d))) := fun d => ⟨made_take_len2 HJF.out HLO.out hn6 d, made_fits HJF.out (fun x hx => by have := HLO.out x (List.mem_of_mem_take hx); omega)⟩
      have CKS : Hid (∀ (wx : World) (R B d : Nat) (rv lv mv av : Value), MA w wx w.heap.size B R [.slice a rn cap, .int .i64 fo, .bool ea, .int .i64 (ns : Int)] ⟨l, fo, ea, (ns : Int)⟩ rv lv mv lines d av d →
          (∀ w', Below wx.heap.size wx w' → Calls Tryz.prog 19 #[.pointer (some ⟨R, 0, none⟩)] w' fun e w'' => e = .returned (.int .i64 (d : Int)) ∧ Below wx.heap.size wx w'') ∧
          (∀ w', Below wx.heap.size wx w' → Calls Tryz.prog 21 #[.pointer (some ⟨R, 0, none⟩)] w' fun e w'' => ∃ ua uc, e = .returned (.slice ua ns uc) ∧ Hid (Pp.IsLists w'' (.slice ua ns uc) (slicesOf fo ea ns (madeOf ⟨l, fo, ea, (ns : Int)⟩ (lines.take d)))) ∧ Below wx.heap.size wx w'') ∧
          (∀ ua uc w', Hid (Pp.IsLists w' (.slice ua ns uc) (slicesOf fo ea ns (madeOf ⟨l, fo, ea, (ns : Int)⟩ (lines.take d)))) → Below wx.heap.size wx w' → Calls Tryz.prog 22 #[.agg #[.slice a rn cap, .int .i64 fo, .bool ea, .int .i64 (ns : Int)], av] w' fun e w'' => ∃ va vc, e = .returned (.slice va ns vc) ∧ Hid (Pp.IsLists w'' (.slice ua ns uc) (slicesOf fo ea ns (madeOf ⟨l, fo, ea, (ns : Int)⟩ (lines.take d)))) ∧ Hid (Pp.IsLists w'' (.slice va ns vc) (slicesOf fo ea ns (madeOf ⟨l, fo, ea, (ns : Int)⟩ (lines.take d)))) ∧ Below wx.heap.size wx w'') ∧
          (∀ ua uc va vc w', Hid (Pp.IsLists w' (.slice ua ns uc) (slicesOf fo ea ns (madeOf ⟨l, fo, ea, (ns : Int)⟩ (lines.take d)))) → Hid (Pp.IsLists w' (.slice va ns vc) (slicesOf fo ea ns (madeOf ⟨l, fo, ea, (ns : Int)⟩ (lines.take d)))) → Below wx.heap.size wx w' → Calls Tryz.prog 20 #[.slice ua ns uc, .slice va ns vc] w' fun e w'' => e = .returned (.bool true) ∧ Below wx.heap.size wx w'')) := fun wx R B d rv lv mv av h => by
        have hml := (HLEN.out d).1
        have hmk : ∀ p ∈ madeOf ⟨l, fo, ea, (ns : Int)⟩ (lines.take d), p.1.size ≤ 1000 := fun p hp => by have := made_key hp; omega
        have hsl : (slicesOf fo ea ns (madeOf ⟨l, fo, ea, (ns : Int)⟩ (lines.take d))).length = ns := by simp [slicesOf]
        refine ⟨fun w' hb => ?_, fun w' hb => ?_, fun ua uc w' hu hb => ?_, fun ua uc va vc w' hu hv hb => ?_⟩
        · refine (at_any R d ⟨l, fo, ea, (ns : Int)⟩ rv lv mv lines _ w' (h.run.blw hb)).mono ?_
          rintro e w'' ⟨rfl, rfl⟩
          exact ⟨rfl, hb⟩
        · refine (slices_any R d l fo ea ns rv lv mv lines _ w' (h.run.blw hb) hns1 hns4 (by omega) hmk).mono ?_
          rintro e w'' ⟨u, rfl, hl, hb2⟩
          have hl2 := Lib.hid hl
          obtain ⟨ua, uc, e2, -⟩ := hl
          rw [hsl] at e2
          subst e2
          exact ⟨ua, uc, rfl, hl2, below_trans hb hb2⟩
        · refine (cut_any fo ea ns (.slice a rn cap) av _ w' (Pp.owns_isPairs (h.below hb).all) hns1 hns4 (by omega) hmk).mono ?_
          rintro e w'' ⟨u, rfl, hl, hb2⟩
          have hl2 := Lib.hid hl
          obtain ⟨va, vc, e2, -⟩ := hl
          rw [hsl] at e2
          subst e2
          exact ⟨va, vc, rfl, lists_below hu.out hb2, hl2, below_trans hb hb2⟩
        · refine (sameSlices_same _ _ _ w' hu.out hv.out (fun L hL => ?_) (by rw [hsl]; omega)).mono ?_
          · unfold slicesOf at hL
            rw [List.mem_map] at hL
            obtain ⟨k, _, rfl⟩ := hL
            have h1 := part_len fo ea ns k ⟨l, fo, ea, (ns : Int)⟩ (lines.take d)
            unfold partOf at h1
            omega
          · rintro e w'' ⟨rfl, hb2⟩
            exact ⟨rfl, below_trans hb hb2⟩
      have NW := Lib.hid (new_ok2 ⟨l, fo, ea, (ns : Int)⟩ (.slice a rn cap) (.slice la ln lc) lines w8 (H.out _ HB8.out) (by have := job_small HJF.out; simp only at this ⊢; omega) HJF.out (HV0.out _ HB8.out) hn6 (HE.out _ HB8.out))
      unfold MadeNew2 at NW
      simp only [Jb.value] at NW
      clear hs1 hs4 HF
      go_wp2_with (go_at_call 14; refine Hid.out ?_)
      refine Lib.hid ?_
      refine NW.out.mono ?_
      clear NW
      rintro _ w9 ⟨R, rv, lv, rfl, hm9, hh9, hb9⟩
      have HMA : Hid (MA w w9 w.heap.size w8.heap.size R [.slice a rn cap, .int .i64 fo, .bool ea, .int .i64 (ns : Int)] ⟨l, fo, ea, (ns : Int)⟩ rv lv (.slice none 0 0) lines 0 (.slice none 0 0) 0) := ⟨below_trans HB8.out hb9, JB8.out.blw hb9, Nat.le_refl _, JB8.out.lt, hm9, hh9, World.ownsRow_nil _ _ _ _, fun g hg => absurd hg (by simp [Value.ownBlock]), Nat.zero_le _⟩
      clear k0 k1 k2 k3 hb9 hm9 hh9 JB8 HB8 g60 h60
      dsimp only
      go_upto_block 0 with fail
      refine wp_norm (map_b0 HSD.out w w.heap.size w8.heap.size R ns ln lc rn cap sn sc fo ea l a la sa rv lv (.slice none 0 0) (.slice none 0 0) lines steps _ _ _ _ _ _ _ _ _ _ _ _ _ _ _ _ _ _ _ _ _ _ _ _ _ _ _ _ _ _ _ _ _ _ _ _ _ _ _ _ _ _ _ _ _ _ _ _ _ _ _ _ _ _ _ _ _ _ _ _ _ _ _ _ _ _ _ _ _ _ _ _ _ _ _ _ _ _ _ _ _ _ _ _ _ _ _ _ _ _ _ _ _ _ _ _ _ _ _ _ _ _ _ _ _ _ _ _ _ _ _ _ _ _ _ _ _ _ _ _ _ _ _ _ _ _ _ _ _ _ _ _ _ _ _ _ _ _ _ _ _ _ _ _ _ _ _ _ _ _ _ _ _ _ _ _ _ _ _ _ _ _ _ _ _ _ _ _ _ _ _ _ _ _ _ _ _ _ _ _ _ _ _ _ _ _ _ _ _ _ _ HP HE H HWT HV0 HLN HJF HLO hl60 HMA.out HN0 HSN HSI hs30 ?_)
      refine Lib.hid ?_
      intro z8 z17 z18 z19 z20 z21 z22 z97 z98 z99 z100 z101 z102 z103 z104 z105 z106 z107 z108 z109 z110 z111 z112 z113 z114 z115 z116 z117 z118 z119 z120 z121 z122 z123 z124 z125 z126 z127 z128 z129 z130 z131 z132 z133 z134 z135 z136 z137 z138 z139 z140 z141 z142 z143 z144 z145 z146 z147 z148 z149 z150 z151 z152 z153 z154 z155 z156 z157 z158 z159 z160 z161 z162 z163 z164 z165 z166 z167 z168 z169 z170 z171 z172 z173 z174 z175 z176 z177 z178 z179 z180 z181 z182 z183 B2 R2 d2 rv2 lv2 mv2 av' wx hMx
      have HMX := Lib.hid hMx
      clear hMx HMA
      have AT := Lib.hid (CKS.out _ _ _ _ _ _ _ _ HMX.out).1
      have SLS := Lib.hid (CKS.out _ _ _ _ _ _ _ _ HMX.out).2.1
      have CUT := Lib.hid (CKS.out _ _ _ _ _ _ _ _ HMX.out).2.2.1
      have SMS := Lib.hid (CKS.out _ _ _ _ _ _ _ _ HMX.out).2.2.2
      have c0 := HMX.out.job.at (i := 0) (v := .slice a rn cap) rfl
      have c1 := HMX.out.job.at (i := 1) (v := .int .i64 fo) rfl
      have c2 := HMX.out.job.at (i := 2) (v := .bool ea) rfl
      have c3 := HMX.out.job.at (i := 3) (v := .int .i64 (ns : Int)) rfl
      have C0 := Lib.hid c0
      have C1 := Lib.hid c1
      have C2 := Lib.hid c2
      have C3 := Lib.hid c3
      have hb00 : Below wx.heap.size wx wx.drew := ⟨rfl, rfl, rfl, Nat.le_refl _, fun _ _ => rfl⟩
      go_upto_region 36 with fail
      go_region_held3 (fun w' => Below wx.heap.size wx w' ∧ w'.cell? ⟨w.heap.size, 0, none⟩ = some (.slice a rn cap) ∧ w'.cell? ⟨w.heap.size, 1, none⟩ = some (.int .i64 fo) ∧ w'.cell? ⟨w.heap.size, 2, none⟩ = some (.bool ea) ∧ w'.cell? ⟨w.heap.size, 3, none⟩ = some (.int .i64 (ns : Int)))
        (refine ⟨?_, ?_, ?_, ?_, ?_⟩ <;> first | assumption | exact Below.refl _ _ | exact cell_below C0.out (by assumption) | exact cell_below C1.out (by assumption) | exact cell_below C2.out (by assumption) | exact cell_below C3.out (by assumption))
        (first
          | (go_at_call 19; refine (AT.out _ (by assumption)).mono ?_; rintro _ wa ⟨rfl, hba⟩)
          | (go_at_call 21; refine (SLS.out _ (by assumption)).mono ?_; rintro _ wc ⟨ua, uc, rfl, HU, hbc⟩)
          | (go_at_call 22; refine (CUT.out _ _ _ HU (by assumption)).mono ?_; rintro _ wd ⟨va, vc, rfl, HU2, HV2, hbd⟩)
          | (go_at_call 20; refine (SMS.out _ _ _ _ _ HU2 HV2 (by assumption)).mono ?_; rintro _ we ⟨rfl, hbe⟩))
      (try simp only [Exit.then])
      have HBX : Hid (Below w.heap.size w we) := HMX.out.org.trans (hbe.mono HMX.out.org.size)
      rename_i hheld
      clear hheld hb00 c0 c1 c2 c3 hba hbc HU HU2 HV2 hbd hbe AT SLS CUT SMS CKS C0 C1 C2 C3
      go_wp2
      go_ret
      exact ⟨rfl, HBX.out⟩
  · have gf : ((f : Int) == 0) = false := by rw [beq_eq_false_iff_ne]; omega
    have gf2 : (0 : Int) < (f : Int) := by omega
    have SM2 := Lib.hid (fun w' => same_any f w')
    have NB := Lib.hid (new_bad2 ⟨l, fo, ea, sl⟩ (.slice a rn cap) (.slice la ln lc) w8 (H.out _ HB8.out) HWT.out (by rw [← HF.out]; exact hf0) (HE.out _ HB8.out))
    rw [← HF.out] at NB
    simp only [Jb.value] at NB
    generalize errV f = fv at *
    go_wp2_with (go_at_call 14; refine Hid.out ?_)
    refine Lib.hid ?_
    refine NB.out.mono ?_
    clear NB
    rintro _ w9 ⟨rfl, hb9⟩
    have HB9 : Hid (Below w.heap.size w w9) := below_trans HB8.out hb9
    clear k0 k1 k2 k3 hb9 JB8 HB8
    dsimp only
    go_wp2_with (go_at_call 11; refine Hid.out ?_)
    refine Lib.hid ?_
    refine (SM2.out _).mono ?_
    rintro _ w10 ⟨rfl, h10⟩
    rw [h10]
    clear h10 w10 SM2
    go_wp2
    go_ret
    exact ⟨rfl, HB9.out⟩
end Go.Proofs.YtmgpacenooncjaaGreatDoor
