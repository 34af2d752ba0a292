/- Journals: the text of an entry. -/
import Derived.Test.YtifbjngkdifenaaDoorJ1
namespace Go.Proofs.YtifbjngkdifenaaDoor
open Go.ChangeShapes Go.WideShapes Go.ChangeAt Go.RowKit
open Num
theorem ent_parts (k : List UInt8) (ns : List Int) (ts : List (List UInt8)) : (entT k ns ts).length = k.length + (numsT ns).length + 1 + (sizesT ts).length + 1 + ts.flatten.length + 1 := by
  simp only [entT, List.length_append, List.length_cons, List.length_nil]
theorem mem_len {t : List UInt8} {ts : List (List UInt8)} (h : t ∈ ts) : t.length ≤ ts.flatten.length := by
  induction ts with
  | nil => simp at h
  | cons x ts ih =>
    rw [List.flatten_cons, List.length_append]
    rcases List.mem_cons.1 h with h1 | h1
    · subst h1; omega
    · have := ih h1; omega
set_option maxRecDepth 100000 in
set_option maxHeartbeats 2000000 in
theorem jtext_any (k : List UInt8) (ns : List Int) (ts : List (List UInt8)) (vn vt : Value) (w : World) (E : Env w) (hn : IsIs w vn ns) (hf : ∀ n ∈ ns, Fit n) (ht : IsTexts w vt (ts.map bs)) (hl : (entT k ns ts).length ≤ 10000000) (hnl : ns.length ≤ 10000000) (htl : ts.length ≤ 10000000) :
    Calls Tryd.prog 7 #[.agg #[.string (bs k), vn, vt]] w fun e w' => e = .returned (.string (bs (entT k ns ts))) ∧ Below w.heap.size w w' := by
  have hlen := ent_parts k ns ts
  obtain ⟨an, cn, rfl, qn⟩ := hn
  obtain ⟨at', ct, rfl, qt⟩ := ht
  rw [List.length_map] at *
  obtain ⟨w0, hw0⟩ : ∃ w0, w0 = w.alloc (.cells #[.string (bs k), .slice an ns.length cn, .slice at' ts.length ct] 25) := ⟨_, rfl⟩
  have hb0 : Below w.heap.size w w0 := by rw [hw0]; exact (Below.refl _ _).alloc (Nat.le_refl _) _
  have hs0 : w0.heap.size = w.heap.size + 1 := by rw [hw0]; simp
  have E0 := Lib.hid (E.below hb0)
  obtain ⟨w1, hw1⟩ : ∃ w1, w1 = w0.alloc (.cells #[.pointer none, .slice none 0 0] 47) := ⟨_, rfl⟩
  have h1 : Hid (Bd w0.heap.size [] w0 w1) := by
    rw [hw1]
    exact ⟨Lib.IsBuilderF.of (Lib.fresh_isBuilder _ _ w0), (Below.refl _ _).alloc (Nat.le_refl _) _, by simp⟩
  have cell0 : ∀ w' : World, Below w0.heap.size w0 w' → w'.cell? ⟨w.heap.size, 0, none⟩ = some (.string (bs k)) ∧ w'.cell? ⟨w.heap.size, 1, none⟩ = some (.slice an ns.length cn) ∧ w'.cell? ⟨w.heap.size, 2, none⟩ = some (.slice at' ts.length ct) := fun w' hb => by
    have z0 : w0.cell? ⟨w.heap.size, 0, none⟩ = some (.string (bs k)) := by rw [hw0]; simp
    have z1 : w0.cell? ⟨w.heap.size, 1, none⟩ = some (.slice an ns.length cn) := by rw [hw0]; simp
    have z2 : w0.cell? ⟨w.heap.size, 2, none⟩ = some (.slice at' ts.length ct) := by rw [hw0]; simp
    exact ⟨cell_below z0 hb, cell_below z1 hb, cell_below z2 hb⟩
  have HC := Lib.hid cell0
  have HW0 := Lib.hid hw0
  have HW1 := Lib.hid hw1
  have QN := Lib.hid qn
  have QT := Lib.hid qt
  have HF := Lib.hid hf
  clear cell0 hw0 hw1 qn qt hf E
  go_enter Tryd.func7, Tryd.ntmps7
  go_wp2_with (go_at_call 16; refine Hid.out ?_)
  refine Lib.hid ?_
  rw [← HW0.out]
  have hkl : k.length ≤ 10000000 := by omega
  have hnn : (numsT ns).length ≤ 10000000 := by omega
  have hss : (sizesT ts).length ≤ 10000000 := by omega
  have hff : ts.flatten.length ≤ 10000000 := by omega
  have HL := Lib.hid hlen
  clear hlen
  obtain ⟨sz, hsz⟩ : ∃ sz, sz = w.heap.size := ⟨_, rfl⟩
  rw [← hsz] at HC
  have HSZ := Lib.hid hsz
  have HS0 := Lib.hid hs0
  have W1 := Lib.hid (ws_bd h1.out (by simp) k (by omega))
  rw [← HW1.out, ← HS0.out, ← hsz]
  refine W1.out.mono ?_
  rintro _ w2 ⟨rfl, h2⟩
  rw [List.nil_append] at h2
  have H2 := Lib.hid h2
  have q2 := HC.out _ h2.below
  obtain ⟨r0, r1, r2⟩ := q2
  have hB0 : sz < w0.heap.size := by have := HS0.out; have := HSZ.out; omega
  clear h2 W1 h1 hsz hs0 HW0 HW1
  go_wp2
  go_loopw [5, 16] (fun _ iv wr => ∃ i : Nat, i ≤ ns.length ∧ iv = .int .i64 i ∧ Hid (Bd w0.heap.size (k ++ numsT (ns.take i)) w0 wr)) (fun _ iv _ => ns.length - (intOf iv).toNat)
  case atStart => exact ⟨0, Nat.zero_le _, rfl, by simpa [numsT] using H2⟩
  case round =>
    obtain ⟨i, hi, rfl, HB⟩ := hrel
    by_cases hlt : i < ns.length
    · obtain ⟨b, off, rfl, c0⟩ := QN.out i hlt
      have c1 := cell_below (cell_below c0 hb0) HB.out.below
      have hstep := fm_succ numT ns i hlt
      have hle := fm_le numT ns i
      have WN := Lib.hid (wn_bd HB.out E0.out (by rw [List.length_append]; unfold numsT at hnn ⊢; omega) ns[i] (HF.out _ (List.getElem_mem hlt)))
      have HS := Lib.hid hstep
      clear c0 hstep hle
      generalize ns[i] = x at *
      go_wp2_with (go_at_call 17; refine WN.out.mono ?_; rintro _ w3 ⟨rfl, h3⟩; have H3 := Lib.hid h3; clear h3)
      go_roundw
      case rel => exact ⟨i + 1, by omega, by go_num, by have h := H3.out; show Bd _ _ _ _; unfold numsT at h ⊢; rw [HS.out, ← List.append_assoc]; exact h⟩
      case measure => simp [intOf]; omega
    · have e : i = ns.length := by omega
      subst e
      rw [List.take_length] at HB
      obtain ⟨r0, r1, r2⟩ := HC.out _ HB.out.below
      obtain ⟨x1, hx1⟩ : ∃ x1, x1 = k ++ numsT ns ++ [59] := ⟨_, rfl⟩
      have hx1l : x1.length ≤ 20000001 := by rw [hx1]; simp only [List.length_append, List.length_cons, List.length_nil]; omega
      have B1 := Lib.hid (wb_bd HB.out (by rw [List.length_append]; omega) 59 59 rfl)
      rw [← hx1] at B1
      have HX1 := Lib.hid hx1
      clear hx1 HB QN
      go_wp2_with (go_at_call 18; refine B1.out.mono ?_; rintro _ w3 ⟨rfl, h3⟩; have H3 := Lib.hid h3; clear h3; obtain ⟨r0, r1, r2⟩ := HC.out _ H3.out.below)
      go_loopw [7, 27] (fun _ iv wr => ∃ i : Nat, i ≤ ts.length ∧ iv = .int .i64 i ∧ Hid (Bd w0.heap.size (x1 ++ sizesT (ts.take i)) w0 wr)) (fun _ iv _ => ts.length - (intOf iv).toNat)
      case atStart => exact ⟨0, Nat.zero_le _, rfl, by simpa [sizesT] using H3⟩
      case round =>
        obtain ⟨i, hi, rfl, HB⟩ := hrel
        clear H3 B1 H2
        by_cases hlt : i < ts.length
        · obtain ⟨b, off, rfl, c0⟩ := QT.out i (by rw [List.length_map]; exact hlt)
          rw [List.getElem_map] at c0
          have c1 := cell_below (cell_below c0 hb0) HB.out.below
          have hstep := fm_succ (fun t => numT (t.length : Int)) ts i hlt
          have hle := fm_le (fun t => numT (t.length : Int)) ts i
          have htl' := mem_len (List.getElem_mem hlt)
          have hbz := bs_size ts[i]
          have WN := Lib.hid (wn_bd HB.out E0.out (by rw [List.length_append]; unfold sizesT at hss ⊢; omega) (ts[i].length : Int) ⟨by omega, by omega⟩)
          have HS := Lib.hid hstep
          have hz : ((bs ts[i]).size : Int) = (ts[i].length : Int) := by rw [hbz]
          have hz2 : ts[i].length ≤ 10000000 := by omega
          clear c0 hstep hle hbz
          generalize ts[i].length = tl at *
          generalize bs ts[i] = tb at *
          go_wp2_with (go_at_call 17; refine WN.out.mono ?_; rintro _ w3 ⟨rfl, h3⟩; have H3 := Lib.hid h3; clear h3)
          go_roundw
          case rel => exact ⟨i + 1, by omega, by go_num, by have h := H3.out; show Bd _ _ _ _; unfold sizesT at h ⊢; rw [HS.out, ← List.append_assoc]; exact h⟩
          case measure => simp [intOf]; omega
        · have e : i = ts.length := by omega
          subst e
          rw [List.take_length] at HB
          obtain ⟨r0, r1, r2⟩ := HC.out _ HB.out.below
          obtain ⟨x2, hx2⟩ : ∃ x2, x2 = x1 ++ sizesT ts ++ [10] := ⟨_, rfl⟩
          have hx2l : x2.length ≤ 30000002 := by rw [hx2]; simp only [List.length_append, List.length_cons, List.length_nil]; omega
          have B1 := Lib.hid (wb_bd HB.out (by rw [List.length_append]; omega) 10 10 rfl)
          rw [← hx2] at B1
          have HX2 := Lib.hid hx2
          clear hx2 HB
          go_wp2_with (go_at_call 18; refine B1.out.mono ?_; rintro _ w3 ⟨rfl, h3⟩; have H3 := Lib.hid h3; clear h3; obtain ⟨r0, r1, r2⟩ := HC.out _ H3.out.below)
          go_loopw [9, 39] (fun _ iv wr => ∃ i : Nat, i ≤ ts.length ∧ iv = .int .i64 i ∧ Hid (Bd w0.heap.size (x2 ++ (ts.take i).flatten) w0 wr)) (fun _ iv _ => ts.length - (intOf iv).toNat)
          case atStart => exact ⟨0, Nat.zero_le _, rfl, by simpa using H3⟩
          case round =>
            obtain ⟨i, hi, rfl, HB⟩ := hrel
            clear H3 B1
            by_cases hlt : i < ts.length
            · obtain ⟨b, off, rfl, c0⟩ := QT.out i (by rw [List.length_map]; exact hlt)
              rw [List.getElem_map] at c0
              have c1 := cell_below (cell_below c0 hb0) HB.out.below
              have hstep : (ts.take (i + 1)).flatten = (ts.take i).flatten ++ ts[i] := by
                rw [List.take_succ_eq_append_getElem hlt, List.flatten_append]
                simp
              have hle : (ts.take i).flatten.length ≤ ts.flatten.length := by
                have h := fm_le (id : List UInt8 → List UInt8) ts i
                rw [← flat_fm, ← flat_fm] at h
                exact h
              have htl' := mem_len (List.getElem_mem hlt)
              have WS := Lib.hid (ws_bd HB.out (by rw [List.length_append]; omega) ts[i] (by omega))
              have HS := Lib.hid hstep
              clear c0 hstep hle
              generalize ts[i] = tv at *
              go_wp2_with (go_at_call 16; refine WS.out.mono ?_; rintro _ w3 ⟨rfl, h3⟩; have H3 := Lib.hid h3; clear h3)
              go_roundw
              case rel => exact ⟨i + 1, by omega, by go_num, by have h := H3.out; show Bd _ _ _ _; rw [HS.out, ← List.append_assoc]; exact h⟩
              case measure => simp [intOf]; omega
            · have e : i = ts.length := by omega
              subst e
              rw [List.take_length] at HB
              obtain ⟨x3, hx3⟩ : ∃ x3, x3 = x2 ++ ts.flatten ++ [46] := ⟨_, rfl⟩
              have B1 := Lib.hid (wb_bd HB.out (by rw [List.length_append]; omega) 46 46 rfl)
              rw [← hx3] at B1
              have HX3 : Hid (x3 = entT k ns ts) := by show _ = _; rw [hx3, HX2.out, HX1.out]; rfl
              have SB : Hid (∀ w3, Bd w0.heap.size x3 w0 w3 → Calls Tryd.prog 19 #[.pointer (some ⟨w0.heap.size, 0, none⟩)] w3 fun e w' => e = .returned (.string (bs x3)) ∧ Below w0.heap.size w3 w') := fun w3 h3 => (Any.Builder_String_any_k Tryd.lays169 Tryd.Builder_Extra_169 w0.heap.size w0.heap.size x3 w3 h3.bld (Nat.le_of_lt h3.le)).mono fun e w' h => ⟨h.1, h.2.2.1⟩
              have HXB : Hid (bs x3 = bs (entT k ns ts)) := by show _ = _; rw [HX3.out]
              clear hx3 HB HX3
              generalize bs x3 = sx at *
              go_wp2_with (first | (go_at_call 18; refine B1.out.mono ?_; rintro _ w3 ⟨rfl, h3⟩; have H3 := Lib.hid h3; clear h3) | (go_at_call 19; refine (SB.out _ H3.out).mono ?_; rintro _ w4 ⟨rfl, hb4⟩))
              go_ret
              exact ⟨congrArg (fun x => Ending.returned (Value.string x)) HXB.out, hb0.trans ((H3.out.below.trans hb4).mono hb0.size)⟩
end Go.Proofs.YtifbjngkdifenaaDoor
