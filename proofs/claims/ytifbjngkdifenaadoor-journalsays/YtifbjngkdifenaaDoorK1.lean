/- Journals: the document's text of an entry. -/
import Derived.Test.YtifbjngkdifenaaDoorJ2
import Derived.Test.YtifbjngkdifenaaDoorJ10
namespace Go.Proofs.YtifbjngkdifenaaDoor
open Go.ChangeShapes Go.WideShapes Go.ChangeAt Go.RowKit
open Num
theorem bs_app (a b : List UInt8) : bs a ++ bs b = bs (a ++ b) := bytes_append a b
theorem flat_succ (ts : List (List UInt8)) (i : Nat) (h : i < ts.length) : (ts.take (i + 1)).flatten = (ts.take i).flatten ++ ts[i] := by
  rw [List.take_succ_eq_append_getElem h, List.flatten_append]
  simp
theorem flat_le (ts : List (List UInt8)) (i : Nat) : (ts.take i).flatten.length ≤ ts.flatten.length := by
  conv => rhs; rw [← List.take_append_drop i ts, List.flatten_append, List.length_append]
  omega
set_option maxRecDepth 100000 in
set_option maxHeartbeats 2000000 in
theorem etext_any (k : List UInt8) (ns : List Int) (ts : List (List UInt8)) (vn vt : Value) (w : World) (hn : IsIs w vn ns) (hf : ∀ n ∈ ns, Fit n) (ht : IsTexts w vt (ts.map bs)) (hl : (entT k ns ts).length ≤ 10000000) (hnl : ns.length ≤ 10000000) (htl : ts.length ≤ 10000000) :
    Calls Tryd.prog 8 #[.agg #[.string (bs k), vn, vt]] w fun e w' => e = .returned (.string (bs (entT k ns ts))) ∧ Below w.heap.size w w' := by
  have hlen := ent_parts k ns ts
  obtain ⟨an, cn, rfl, qn⟩ := hn
  obtain ⟨at', ct, rfl, qt⟩ := ht
  rw [List.length_map] at *
  obtain ⟨w0, hw0⟩ : ∃ w0, w0 = w.alloc (.cells #[.string (bs k), .slice an ns.length cn, .slice at' ts.length ct] 30) := ⟨_, rfl⟩
  have hb0 : Below w.heap.size w w0 := by rw [hw0]; exact (Below.refl _ _).alloc (Nat.le_refl _) _
  have cell0 : ∀ w' : World, Below w0.heap.size w0 w' → w'.cell? ⟨w.heap.size, 0, none⟩ = some (.string (bs k)) ∧ w'.cell? ⟨w.heap.size, 1, none⟩ = some (.slice an ns.length cn) ∧ w'.cell? ⟨w.heap.size, 2, none⟩ = some (.slice at' ts.length ct) := fun w' hb => by
    have z0 : w0.cell? ⟨w.heap.size, 0, none⟩ = some (.string (bs k)) := by rw [hw0]; simp
    have z1 : w0.cell? ⟨w.heap.size, 1, none⟩ = some (.slice an ns.length cn) := by rw [hw0]; simp
    have z2 : w0.cell? ⟨w.heap.size, 2, none⟩ = some (.slice at' ts.length ct) := by rw [hw0]; simp
    exact ⟨cell_below z0 hb, cell_below z1 hb, cell_below z2 hb⟩
  obtain ⟨G, hG⟩ : ∃ G, G = w.heap.size := ⟨_, rfl⟩
  rw [← hG] at cell0
  have HC := Lib.hid cell0
  have HW0 := Lib.hid hw0
  have HG := Lib.hid hG
  have QN := Lib.hid qn
  have QT := Lib.hid qt
  have HF := Lib.hid hf
  have HL := Lib.hid hlen
  have hkl : k.length ≤ 10000000 := by omega
  have hnn : (numsT ns).length ≤ 10000000 := by omega
  have hss : (sizesT ts).length ≤ 10000000 := by omega
  have hff : ts.flatten.length ≤ 10000000 := by omega
  have z := cell0 w0 (Below.refl _ _)
  clear cell0 hw0 qn qt hf hlen hG
  go_enter Tryd.func8, Tryd.ntmps8
  go_wp2
  rw [← HW0.out, ← HG.out]
  clear HW0 HG z
  go_loopw [3, 4] (fun sv iv wr => ∃ i : Nat, i ≤ ns.length ∧ iv = .int .i64 i ∧ sv = .string (bs (k ++ numsT (ns.take i))) ∧ Below w0.heap.size w0 wr) (fun _ iv _ => ns.length - (intOf iv).toNat)
  case atStart => exact ⟨0, Nat.zero_le _, rfl, by simp [numsT], Below.refl _ _⟩
  case round =>
    obtain ⟨i, hi, rfl, rfl, hb⟩ := hrel
    obtain ⟨r0, r1, r2⟩ := HC.out wr hb
    by_cases hlt : i < ns.length
    · obtain ⟨b, off, rfl, c0⟩ := QN.out i hlt
      have c1 := cell_below (cell_below c0 hb0) hb
      have hstep := fm_succ numT ns i hlt
      have hle := fm_le numT ns i
      have hfit := HF.out _ (List.getElem_mem hlt)
      have DC := Lib.hid (decimal_any ns[i] wr hfit.1 hfit.2)
      have h20 := itoa_len ns[i] hfit
      have hsa := bs_size (k ++ numsT (ns.take i))
      rw [List.length_append] at hsa
      have hsb := bs_size (Lib.itoa ns[i])
      have HN : Hid (bs (k ++ numsT (ns.take i)) ++ ⟨#[32]⟩ ++ bs (Lib.itoa ns[i]) = bs (k ++ numsT (ns.take (i + 1)))) := by
        show _ = _
        rw [show (⟨#[32]⟩ : ByteArray) = bs [32] from rfl, bs_app, bs_app]
        unfold numsT
        rw [hstep]
        unfold numT
        simp
      have hsa2 : (bs (k ++ numsT (ns.take i))).size ≤ 20000000 := by unfold numsT at hsa hnn ⊢; omega
      have hsb2 : (bs (Lib.itoa ns[i])).size ≤ 20 := by omega
      change Hid (Calls _ _ _ _ fun e w' => e = .returned (.string (bs (Lib.itoa ns[i]))) ∧ _) at DC
      generalize bs (Lib.itoa ns[i]) = dT at *
      generalize bs (k ++ numsT (ns.take i)) = sA at *
      clear c0 hstep hle hfit h20 hsa hsb QT QN
      go_wp2_with (go_at_call 20; refine DC.out.mono ?_; rintro _ w1 ⟨rfl, hb1⟩)
      go_roundw
      case rel => exact ⟨i + 1, by omega, by go_num, by rw [← HN.out], below_trans hb hb1⟩
      case measure => simp [intOf]; omega
    · have e : i = ns.length := by omega
      have hall : numsT (ns.take i) = numsT ns := by rw [List.take_of_length_le (by omega)]
      rw [hall]
      have hsa := bs_size (k ++ numsT ns)
      rw [List.length_append] at hsa
      have hsa2 : (bs (k ++ numsT ns)).size ≤ 20000000 := by omega
      have HA : Hid (bs (k ++ numsT ns) ++ ⟨#[59]⟩ = bs (k ++ numsT ns ++ [59] ++ sizesT (ts.take 0))) := by
        show _ = _
        rw [show (⟨#[59]⟩ : ByteArray) = bs [59] from rfl, bs_app]
        simp [sizesT]
      generalize bs (k ++ numsT ns) = sA at *
      clear e hall hsa QN
      go_wp2
      go_loopw [3, 5, 6] (fun sv tv iv wq => ∃ i : Nat, i ≤ ts.length ∧ iv = .int .i64 i ∧ sv = .string (bs (k ++ numsT ns ++ [59] ++ sizesT (ts.take i))) ∧ tv = .string (bs (ts.take i).flatten) ∧ Below w0.heap.size w0 wq) (fun _ _ iv _ => ts.length - (intOf iv).toNat)
      case atStart => exact ⟨0, Nat.zero_le _, rfl, by rw [← HA.out], rfl, hb⟩
      case round =>
        clear HA r0 r1 r2
        obtain ⟨i, hi, rfl, rfl, rfl, hb⟩ := hrel
        obtain ⟨r0, r1, r2⟩ := HC.out wr hb
        by_cases hlt : i < ts.length
        · obtain ⟨b, off, rfl, c0⟩ := QT.out i (by rw [List.length_map]; exact hlt)
          rw [List.getElem_map] at c0
          have c1 := cell_below (cell_below c0 hb0) hb
          have hstep := fm_succ (fun t : List UInt8 => numT t.length) ts i hlt
          have hle := fm_le (fun t : List UInt8 => numT t.length) ts i
          have hft := flat_succ ts i hlt
          have hfl := flat_le ts i
          have hml : ts[i].length ≤ ts.flatten.length := mem_len (List.getElem_mem hlt)
          have hfit : Fit (ts[i].length : Int) := ⟨by omega, by omega⟩
          have hst := bs_size ts[i]
          have DC := Lib.hid (fun w => decimal_any (ts[i].length : Int) w hfit.1 hfit.2)
          rw [← hst] at DC
          have h20 := itoa_len (ts[i].length : Int) hfit
          have hsa := bs_size (k ++ numsT ns ++ [59] ++ sizesT (ts.take i))
          rw [List.length_append, List.length_append, List.length_append, List.length_singleton] at hsa
          have hsb := bs_size (Lib.itoa (ts[i].length : Int))
          have hsc := bs_size (ts.take i).flatten
          have HN : Hid (bs (k ++ numsT ns ++ [59] ++ sizesT (ts.take i)) ++ ⟨#[32]⟩ ++ bs (Lib.itoa (ts[i].length : Int)) = bs (k ++ numsT ns ++ [59] ++ sizesT (ts.take (i + 1)))) := by
            show _ = _
            rw [show (⟨#[32]⟩ : ByteArray) = bs [32] from rfl, bs_app, bs_app]
            unfold sizesT
            rw [hstep]
            unfold numT
            simp
          have HT : Hid (bs (ts.take i).flatten ++ bs ts[i] = bs (ts.take (i + 1)).flatten) := by
            show _ = _
            rw [bs_app, hft]
          have hsa2 : (bs (k ++ numsT ns ++ [59] ++ sizesT (ts.take i))).size ≤ 40000000 := by unfold sizesT at hsa hss ⊢; omega
          have hsb2 : (bs (Lib.itoa (ts[i].length : Int))).size ≤ 20 := by omega
          have hsc2 : (bs (ts.take i).flatten).size ≤ 20000000 := by omega
          have hsd2 : (bs ts[i]).size ≤ 20000000 := by omega
          rw [← hst] at HN hsb2
          change Hid (∀ w, Calls _ _ _ _ fun e w' => e = .returned (.string (bs (Lib.itoa ((bs ts[i]).size : Int)))) ∧ _) at DC
          generalize bs (Lib.itoa ((bs ts[i]).size : Int)) = dT at *
          generalize bs (k ++ numsT ns ++ [59] ++ sizesT (ts.take i)) = sA at *
          generalize bs (ts.take i).flatten = tA at *
          generalize bs ts[i] = tI at *
          clear c0 hstep hle hfit h20 hsa hsb hsc hft hfl hml hst QT
          go_wp2_with (go_at_call 20; refine (DC.out _).mono ?_; rintro _ w1 ⟨rfl, hb1⟩; replace r2 := cell_below r2 hb1; replace c1 := cell_below c1 hb1)
          go_roundw
          case rel => exact ⟨i + 1, by omega, by go_num, by rw [← HN.out], by rw [← HT.out], below_trans hb hb1⟩
          case measure => simp [intOf]; omega
        · have hall : ts.take i = ts := List.take_of_length_le (by omega)
          rw [hall]
          have HN : Hid (bs (k ++ numsT ns ++ [59] ++ sizesT ts) ++ ⟨#[10]⟩ ++ bs ts.flatten ++ ⟨#[46]⟩ = bs (entT k ns ts)) := by
            show _ = _
            rw [show (⟨#[10]⟩ : ByteArray) = bs [10] from rfl, show (⟨#[46]⟩ : ByteArray) = bs [46] from rfl, bs_app, bs_app, bs_app]
            rfl
          have hsa := bs_size (k ++ numsT ns ++ [59] ++ sizesT ts)
          rw [List.length_append, List.length_append, List.length_append, List.length_singleton] at hsa
          have hsc := bs_size ts.flatten
          have hsa2 : (bs (k ++ numsT ns ++ [59] ++ sizesT ts)).size ≤ 40000000 := by omega
          have hsc2 : (bs ts.flatten).size ≤ 20000000 := by omega
          generalize bs (k ++ numsT ns ++ [59] ++ sizesT ts) = sA at *
          generalize bs ts.flatten = tA at *
          clear hall hsa hsc QT
          go_wp2
          go_ret
          exact ⟨ret_str HN.out, below_trans hb0 hb⟩
end Go.Proofs.YtifbjngkdifenaaDoor
