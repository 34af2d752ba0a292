/- Contracts of the document's answer: shaped, ExprFault. Written by tpl/mk_shaped.py. -/
import Derived.Test.YtfjpgjkfmcedoaaGreatDoorExR
namespace Go.Proofs.YtfjpgjkfmcedoaaGreatDoor
open Go.ChangeShapes Go.WideShapes Go.ChangeAt Go.RowKit
theorem fits_zero (s : List UInt8) : fitsB s 0 = true ↔ s = [] := by
  unfold fitsB
  cases s <;> simp
theorem ok_head {k n : Int} {s : List UInt8} {l : List Ex} {text each : Bool} (h : ¬ hdOk k n s l.length text each = true) : (Ex.mk k n s l).ok text each = false := by
  have h' : hdOk k n s l.length text each = false := by simpa using h
  simp [Ex.ok, h']
theorem hd1 {n : Int} {s : List UInt8} {len : Nat} {text each : Bool} : hdOk 1 n s len text each = true ↔ (((n = 0) ∧ s = []) ∧ (each = true) ∧ len = 0 ∧ text = true) := by
  have hz := fits_zero s
  cases text <;> cases each <;> simp [hdOk, known, isTxt, lowK, highK, bytesK, partsK, hz]
  all_goals (intros; omega)
theorem hd2 {n : Int} {s : List UInt8} {len : Nat} {text each : Bool} : hdOk 2 n s len text each = true ↔ (((n = 0) ∧ s = []) ∧ (True) ∧ len = 0 ∧ text = true) := by
  have hz := fits_zero s
  cases text <;> cases each <;> simp [hdOk, known, isTxt, lowK, highK, bytesK, partsK, hz]
  all_goals (intros; omega)
theorem hd3 {n : Int} {s : List UInt8} {len : Nat} {text each : Bool} : hdOk 3 n s len text each = true ↔ (((0 ≤ n ∧ n ≤ 120) ∧ s = []) ∧ (True) ∧ len = 0 ∧ text = true) := by
  have hz := fits_zero s
  cases text <;> cases each <;> simp [hdOk, known, isTxt, lowK, highK, bytesK, partsK, hz]
theorem hd4 {n : Int} {s : List UInt8} {len : Nat} {text each : Bool} : hdOk 4 n s len text each = true ↔ (((n = 0) ∧ fitsB s 20 = true) ∧ (True) ∧ len = 0 ∧ text = true) := by
  have hz := fits_zero s
  cases text <;> cases each <;> simp [hdOk, known, isTxt, lowK, highK, bytesK, partsK]
  all_goals (intros; omega)
theorem hd5 {n : Int} {s : List UInt8} {len : Nat} {text each : Bool} : hdOk 5 n s len text each = true ↔ (((n = 0) ∧ s = []) ∧ (True) ∧ len = 2 ∧ text = true) := by
  have hz := fits_zero s
  cases text <;> cases each <;> simp [hdOk, known, isTxt, lowK, highK, bytesK, partsK, hz]
  all_goals (intros; omega)
theorem hd6 {n : Int} {s : List UInt8} {len : Nat} {text each : Bool} : hdOk 6 n s len text each = true ↔ (((0 ≤ n ∧ n ≤ 120) ∧ s = []) ∧ (True) ∧ len = 1 ∧ text = true) := by
  have hz := fits_zero s
  cases text <;> cases each <;> simp [hdOk, known, isTxt, lowK, highK, bytesK, partsK, hz]
theorem hd7 {n : Int} {s : List UInt8} {len : Nat} {text each : Bool} : hdOk 7 n s len text each = true ↔ (((-1000 ≤ n ∧ n ≤ 1000) ∧ s = []) ∧ (True) ∧ len = 0 ∧ text = false) := by
  have hz := fits_zero s
  cases text <;> cases each <;> simp [hdOk, known, isTxt, lowK, highK, bytesK, partsK, hz]
theorem hd8 {n : Int} {s : List UInt8} {len : Nat} {text each : Bool} : hdOk 8 n s len text each = true ↔ (((n = 0) ∧ s = []) ∧ (True) ∧ len = 1 ∧ text = false) := by
  have hz := fits_zero s
  cases text <;> cases each <;> simp [hdOk, known, isTxt, lowK, highK, bytesK, partsK, hz]
  all_goals (intros; omega)
theorem hd9 {n : Int} {s : List UInt8} {len : Nat} {text each : Bool} : hdOk 9 n s len text each = true ↔ (((n = 0) ∧ s = []) ∧ (True) ∧ len = 0 ∧ text = false) := by
  have hz := fits_zero s
  cases text <;> cases each <;> simp [hdOk, known, isTxt, lowK, highK, bytesK, partsK, hz]
  all_goals (intros; omega)
theorem hd10 {n : Int} {s : List UInt8} {len : Nat} {text each : Bool} : hdOk 10 n s len text each = true ↔ (((n = 0) ∧ s = []) ∧ (True) ∧ len = 2 ∧ text = false) := by
  have hz := fits_zero s
  cases text <;> cases each <;> simp [hdOk, known, isTxt, lowK, highK, bytesK, partsK, hz]
  all_goals (intros; omega)
set_option maxRecDepth 100000 in
set_option maxHeartbeats 4000000 in
theorem shaped_any {w : World} {sv : Value} {e : Ex} (h : IsEx w sv e) : e.wt ≤ 1000000000 → ∀ (text each : Bool) w', Below w.heap.size w w' →
    Calls Tryz.prog 33 #[e.val sv, .bool text, .bool each] w' fun r w'' => r = .returned (.bool (e.ok text each)) ∧ Below w'.heap.size w' w'' := by
  induction h using IsEx.ind with
  | mk k n s a cap l b off A ha hc kids ih =>
    intro hw text each w1 hb
    simp only [Ex.wt] at hw
    have hl := len_wtL l
    have HA := Lib.hid ha
    have HC := Lib.hid hc
    have HB := Lib.hid hb
    have IH := Lib.hid (fun i x hx t => ih i x hx (by have := wt_kid hx; omega) t each)
    have NE := Lib.hid (fun w => noEnd_any s w (by omega))
    have hsz : (bs s).size ≤ 1000000000 := by rw [bs_size]; omega
    have HS := Lib.hid (bs_size s)
    clear ha hc hb ih kids
    simp only [Ex.val, Ex.k, Ex.n, Ex.s]
    have hT : (bs s).toList.isEmpty = s.isEmpty := by rw [bs_toList]
    have hk : k = 1 ∨ k = 2 ∨ k = 3 ∨ k = 4 ∨ k = 5 ∨ k = 6 ∨ k = 7 ∨ k = 8 ∨ k = 9 ∨ k = 10 ∨ ¬ (1 ≤ k ∧ k ≤ 10) := by omega
    rcases hk with rfl | rfl | rfl | rfl | rfl | rfl | rfl | rfl | rfl | rfl | hk
    · skip
      by_cases hn : ¬ n = 0
      · have hn2 : (n == 0) = false := by simpa using hn
        have HF : Hid ((Ex.mk 1 n s l).ok text each = false) := ok_head (fun h => absurd (hd1.1 h) (by intro hh; exact hn hh.1.1))
        generalize (Ex.mk 1 n s l).ok text each = R at *
        go_enter Tryz.func33, Tryz.ntmps33
        go_wp2
        go_ret
        exact ⟨by rw [HF.out]; rfl, below_box _⟩
      replace hn := Decidable.not_not.1 hn
      subst hn
      have n0 : ((0 : Int) == 0) = true := rfl
      cases hs : s with
      | cons c s' =>
        rw [hs] at hT
        rw [← hs]
        have hT2 : (bs s).toList.isEmpty = false := by rw [hs]; exact hT
        clear hT
        have HF : Hid ((Ex.mk 1 0 s l).ok text each = false) := ok_head (fun h => absurd (hd1.1 h) (by intro hh; have h1 := hh.1.2; rw [hs] at h1; cases h1))
        generalize (Ex.mk 1 0 s l).ok text each = R at *
        clear hs
        go_enter Tryz.func33, Tryz.ntmps33
        go_wp2
        go_ret
        exact ⟨by rw [HF.out]; rfl, below_box _⟩
      | nil =>
      subst hs
      have hT2 : (bs []).toList.isEmpty = true := by rw [bs_toList]; rfl
      clear hT
      cases each with
      | false =>
        have HF : Hid ((Ex.mk 1 0 [] l).ok text false = false) := ok_head (fun h => absurd (hd1.1 h) (by intro hh; exact absurd hh.2.1 (by decide)))
        generalize (Ex.mk 1 0 [] l).ok text false = R at *
        go_enter Tryz.func33, Tryz.ntmps33
        go_wp2
        go_ret
        exact ⟨by rw [HF.out]; rfl, below_box _⟩
      | true =>
      by_cases hlen : ¬ l.length = 0
      · have hlen2 : ((l.length : Int) == 0) = false := by rw [beq_eq_false_iff_ne]; omega
        have HF : Hid ((Ex.mk 1 0 [] l).ok text true = false) := ok_head (fun h => absurd (hd1.1 h) (by intro hh; exact hlen hh.2.2.1))
        generalize (Ex.mk 1 0 [] l).ok text true = R at *
        go_enter Tryz.func33, Tryz.ntmps33
        go_wp2
        go_ret
        exact ⟨by rw [HF.out]; rfl, below_box _⟩
      replace hlen := Decidable.not_not.1 hlen
      have hlen2 : ((l.length : Int) == 0) = true := by rw [beq_iff_eq]; omega
      cases text with
      | false =>
        have HF : Hid ((Ex.mk 1 0 [] l).ok false true = false) := ok_head (fun h => absurd (hd1.1 h) (by intro hh; exact absurd hh.2.2.2 (by decide)))
        generalize (Ex.mk 1 0 [] l).ok false true = R at *
        go_enter Tryz.func33, Tryz.ntmps33
        go_wp2
        go_ret
        exact ⟨by rw [HF.out]; rfl, below_box _⟩
      | true =>
      have HO : Hid ((Ex.mk 1 0 [] l).ok true true = Ex.ok.okL l false true) := by
        show _ = _
        have h1 : hdOk 1 0 [] l.length true true = true := hd1.2 ⟨⟨rfl, rfl⟩, rfl, hlen, rfl⟩
        simp [Ex.ok, h1, textsK]
      generalize (Ex.mk 1 0 [] l).ok true true = R at *
      have HR : Hid (R = true) := by
        show _ = true
        rw [HO.out, List.eq_nil_of_length_eq_zero hlen]; rfl
      go_enter Tryz.func33, Tryz.ntmps33
      go_wp2
      go_loop [12] (fun iv => iv = .int .i64 0) (fun _ => 0)
      case atStart => rfl
      case round =>
        subst hrel
        go_wp2
        go_ret
        exact ⟨by rw [HR.out]; rfl, below_box _⟩
    · skip
      by_cases hn : ¬ n = 0
      · have hn2 : (n == 0) = false := by simpa using hn
        have HF : Hid ((Ex.mk 2 n s l).ok text each = false) := ok_head (fun h => absurd (hd2.1 h) (by intro hh; exact hn hh.1.1))
        generalize (Ex.mk 2 n s l).ok text each = R at *
        go_enter Tryz.func33, Tryz.ntmps33
        go_wp2
        go_ret
        exact ⟨by rw [HF.out]; rfl, below_box _⟩
      replace hn := Decidable.not_not.1 hn
      subst hn
      have n0 : ((0 : Int) == 0) = true := rfl
      cases hs : s with
      | cons c s' =>
        rw [hs] at hT
        rw [← hs]
        have hT2 : (bs s).toList.isEmpty = false := by rw [hs]; exact hT
        clear hT
        have HF : Hid ((Ex.mk 2 0 s l).ok text each = false) := ok_head (fun h => absurd (hd2.1 h) (by intro hh; have h1 := hh.1.2; rw [hs] at h1; cases h1))
        generalize (Ex.mk 2 0 s l).ok text each = R at *
        clear hs
        go_enter Tryz.func33, Tryz.ntmps33
        go_wp2
        go_ret
        exact ⟨by rw [HF.out]; rfl, below_box _⟩
      | nil =>
      subst hs
      have hT2 : (bs []).toList.isEmpty = true := by rw [bs_toList]; rfl
      clear hT
      by_cases hlen : ¬ l.length = 0
      · have hlen2 : ((l.length : Int) == 0) = false := by rw [beq_eq_false_iff_ne]; omega
        have HF : Hid ((Ex.mk 2 0 [] l).ok text each = false) := ok_head (fun h => absurd (hd2.1 h) (by intro hh; exact hlen hh.2.2.1))
        generalize (Ex.mk 2 0 [] l).ok text each = R at *
        go_enter Tryz.func33, Tryz.ntmps33
        go_wp2
        go_ret
        exact ⟨by rw [HF.out]; rfl, below_box _⟩
      replace hlen := Decidable.not_not.1 hlen
      have hlen2 : ((l.length : Int) == 0) = true := by rw [beq_iff_eq]; omega
      cases text with
      | false =>
        have HF : Hid ((Ex.mk 2 0 [] l).ok false each = false) := ok_head (fun h => absurd (hd2.1 h) (by intro hh; exact absurd hh.2.2.2 (by decide)))
        generalize (Ex.mk 2 0 [] l).ok false each = R at *
        go_enter Tryz.func33, Tryz.ntmps33
        go_wp2
        go_ret
        exact ⟨by rw [HF.out]; rfl, below_box _⟩
      | true =>
      have HO : Hid ((Ex.mk 2 0 [] l).ok true each = Ex.ok.okL l false each) := by
        show _ = _
        have h1 : hdOk 2 0 [] l.length true each = true := hd2.2 ⟨⟨rfl, rfl⟩, trivial, hlen, rfl⟩
        simp [Ex.ok, h1, textsK]
      generalize (Ex.mk 2 0 [] l).ok true each = R at *
      have HR : Hid (R = true) := by
        show _ = true
        rw [HO.out, List.eq_nil_of_length_eq_zero hlen]; rfl
      go_enter Tryz.func33, Tryz.ntmps33
      go_wp2
      go_loop [12] (fun iv => iv = .int .i64 0) (fun _ => 0)
      case atStart => rfl
      case round =>
        subst hrel
        go_wp2
        go_ret
        exact ⟨by rw [HR.out]; rfl, below_box _⟩
    · skip
      by_cases hn1 : ¬ 0 ≤ n
      · skip
        have HF : Hid ((Ex.mk 3 n s l).ok text each = false) := ok_head (fun h => absurd (hd3.1 h) (by intro hh; exact hn1 hh.1.1.1))
        generalize (Ex.mk 3 n s l).ok text each = R at *
        go_enter Tryz.func33, Tryz.ntmps33
        go_wp2
        go_ret
        exact ⟨by rw [HF.out]; rfl, below_box _⟩
      replace hn1 := Decidable.not_not.1 hn1
      by_cases hn2 : ¬ n ≤ 120
      · skip
        have HF : Hid ((Ex.mk 3 n s l).ok text each = false) := ok_head (fun h => absurd (hd3.1 h) (by intro hh; exact hn2 hh.1.1.2))
        generalize (Ex.mk 3 n s l).ok text each = R at *
        go_enter Tryz.func33, Tryz.ntmps33
        go_wp2
        go_ret
        exact ⟨by rw [HF.out]; rfl, below_box _⟩
      replace hn2 := Decidable.not_not.1 hn2
      cases hs : s with
      | cons c s' =>
        rw [hs] at hT
        rw [← hs]
        have hT2 : (bs s).toList.isEmpty = false := by rw [hs]; exact hT
        clear hT
        have HF : Hid ((Ex.mk 3 n s l).ok text each = false) := ok_head (fun h => absurd (hd3.1 h) (by intro hh; have h1 := hh.1.2; rw [hs] at h1; cases h1))
        generalize (Ex.mk 3 n s l).ok text each = R at *
        clear hs
        go_enter Tryz.func33, Tryz.ntmps33
        go_wp2
        go_ret
        exact ⟨by rw [HF.out]; rfl, below_box _⟩
      | nil =>
      subst hs
      have hT2 : (bs []).toList.isEmpty = true := by rw [bs_toList]; rfl
      clear hT
      by_cases hlen : ¬ l.length = 0
      · have hlen2 : ((l.length : Int) == 0) = false := by rw [beq_eq_false_iff_ne]; omega
        have HF : Hid ((Ex.mk 3 n [] l).ok text each = false) := ok_head (fun h => absurd (hd3.1 h) (by intro hh; exact hlen hh.2.2.1))
        generalize (Ex.mk 3 n [] l).ok text each = R at *
        go_enter Tryz.func33, Tryz.ntmps33
        go_wp2
        go_ret
        exact ⟨by rw [HF.out]; rfl, below_box _⟩
      replace hlen := Decidable.not_not.1 hlen
      have hlen2 : ((l.length : Int) == 0) = true := by rw [beq_iff_eq]; omega
      cases text with
      | false =>
        have HF : Hid ((Ex.mk 3 n [] l).ok false each = false) := ok_head (fun h => absurd (hd3.1 h) (by intro hh; exact absurd hh.2.2.2 (by decide)))
        generalize (Ex.mk 3 n [] l).ok false each = R at *
        go_enter Tryz.func33, Tryz.ntmps33
        go_wp2
        go_ret
        exact ⟨by rw [HF.out]; rfl, below_box _⟩
      | true =>
      have HO : Hid ((Ex.mk 3 n [] l).ok true each = Ex.ok.okL l false each) := by
        show _ = _
        have h1 : hdOk 3 n [] l.length true each = true := hd3.2 ⟨⟨⟨hn1, hn2⟩, rfl⟩, trivial, hlen, rfl⟩
        simp [Ex.ok, h1, textsK]
      generalize (Ex.mk 3 n [] l).ok true each = R at *
      have HR : Hid (R = true) := by
        show _ = true
        rw [HO.out, List.eq_nil_of_length_eq_zero hlen]; rfl
      go_enter Tryz.func33, Tryz.ntmps33
      go_wp2
      go_loop [12] (fun iv => iv = .int .i64 0) (fun _ => 0)
      case atStart => rfl
      case round =>
        subst hrel
        go_wp2
        go_ret
        exact ⟨by rw [HR.out]; rfl, below_box _⟩
    · skip
      by_cases hn : ¬ n = 0
      · have hn2 : (n == 0) = false := by simpa using hn
        have HF : Hid ((Ex.mk 4 n s l).ok text each = false) := ok_head (fun h => absurd (hd4.1 h) (by intro hh; exact hn hh.1.1))
        generalize (Ex.mk 4 n s l).ok text each = R at *
        by_cases hs1 : (bs s).size ≤ 20
        · cases hs2 : s.contains 10 with
          | true =>
            rw [hs2] at NE
            go_enter Tryz.func33, Tryz.ntmps33
            go_wp2_with (go_at_call 15; refine (NE.out _).mono ?_; rintro _ w2 ⟨rfl, rfl⟩)
            go_ret
            exact ⟨by rw [HF.out]; rfl, below_box _⟩
          | false =>
            rw [hs2] at NE
            go_enter Tryz.func33, Tryz.ntmps33
            go_wp2_with (go_at_call 15; refine (NE.out _).mono ?_; rintro _ w2 ⟨rfl, rfl⟩)
            go_ret
            exact ⟨by rw [HF.out]; rfl, below_box _⟩
        · go_enter Tryz.func33, Tryz.ntmps33
          go_wp2
          go_ret
          exact ⟨by rw [HF.out]; rfl, below_box _⟩
      replace hn := Decidable.not_not.1 hn
      subst hn
      have n0 : ((0 : Int) == 0) = true := rfl
      by_cases hs1 : ¬ (bs s).size ≤ 20
      · skip
        have HF : Hid ((Ex.mk 4 0 s l).ok text each = false) := ok_head (fun h => absurd (hd4.1 h) (by intro hh; have h1 := hh.1.2; simp only [fitsB, Bool.and_eq_true, decide_eq_true_eq] at h1; have := HS.out; omega))
        generalize (Ex.mk 4 0 s l).ok text each = R at *
        go_enter Tryz.func33, Tryz.ntmps33
        go_wp2
        go_ret
        exact ⟨by rw [HF.out]; rfl, below_box _⟩
      replace hs1 := Decidable.not_not.1 hs1
      cases hs2 : s.contains 10 with
      | true =>
        rw [hs2] at NE
        have HF : Hid ((Ex.mk 4 0 s l).ok text each = false) := ok_head (fun h => absurd (hd4.1 h) (by intro hh; have h1 := hh.1.2; simp [fitsB] at h1; have h2 := List.contains_iff_mem.1 hs2; exact h1.2 h2))
        generalize (Ex.mk 4 0 s l).ok text each = R at *
        go_enter Tryz.func33, Tryz.ntmps33
        go_wp2_with (go_at_call 15; refine (NE.out _).mono ?_; rintro _ w2 ⟨rfl, rfl⟩)
        go_ret
        exact ⟨by rw [HF.out]; rfl, below_box _⟩
      | false =>
      rw [hs2] at NE
      have hfit : Hid (fitsB s 20 = true) := by
        show _ = true
        simp only [fitsB, hs2, Bool.not_false, Bool.and_true, decide_eq_true_eq]
        have := HS.out; omega
      by_cases hlen : ¬ l.length = 0
      · have hlen2 : ((l.length : Int) == 0) = false := by rw [beq_eq_false_iff_ne]; omega
        have HF : Hid ((Ex.mk 4 0 s l).ok text each = false) := ok_head (fun h => absurd (hd4.1 h) (by intro hh; exact hlen hh.2.2.1))
        generalize (Ex.mk 4 0 s l).ok text each = R at *
        go_enter Tryz.func33, Tryz.ntmps33
        go_wp2_with (go_at_call 15; refine (NE.out _).mono ?_; rintro _ w2 ⟨rfl, rfl⟩)
        go_ret
        exact ⟨by rw [HF.out]; rfl, below_box _⟩
      replace hlen := Decidable.not_not.1 hlen
      have hlen2 : ((l.length : Int) == 0) = true := by rw [beq_iff_eq]; omega
      cases text with
      | false =>
        have HF : Hid ((Ex.mk 4 0 s l).ok false each = false) := ok_head (fun h => absurd (hd4.1 h) (by intro hh; exact absurd hh.2.2.2 (by decide)))
        generalize (Ex.mk 4 0 s l).ok false each = R at *
        go_enter Tryz.func33, Tryz.ntmps33
        go_wp2_with (go_at_call 15; refine (NE.out _).mono ?_; rintro _ w2 ⟨rfl, rfl⟩)
        go_ret
        exact ⟨by rw [HF.out]; rfl, below_box _⟩
      | true =>
      have HO : Hid ((Ex.mk 4 0 s l).ok true each = Ex.ok.okL l false each) := by
        show _ = _
        have h1 : hdOk 4 0 s l.length true each = true := hd4.2 ⟨⟨rfl, hfit.out⟩, trivial, hlen, rfl⟩
        simp [Ex.ok, h1, textsK]
      generalize (Ex.mk 4 0 s l).ok true each = R at *
      have HR : Hid (R = true) := by
        show _ = true
        rw [HO.out, List.eq_nil_of_length_eq_zero hlen]; rfl
      go_enter Tryz.func33, Tryz.ntmps33
      go_wp2_with (go_at_call 15; refine (NE.out _).mono ?_; rintro _ w2 ⟨rfl, rfl⟩)
      go_loop [12] (fun iv => iv = .int .i64 0) (fun _ => 0)
      case atStart => rfl
      case round =>
        subst hrel
        go_wp2
        go_ret
        exact ⟨by rw [HR.out]; rfl, below_box _⟩
    · skip
      by_cases hn : ¬ n = 0
      · have hn2 : (n == 0) = false := by simpa using hn
        have HF : Hid ((Ex.mk 5 n s l).ok text each = false) := ok_head (fun h => absurd (hd5.1 h) (by intro hh; exact hn hh.1.1))
        generalize (Ex.mk 5 n s l).ok text each = R at *
        go_enter Tryz.func33, Tryz.ntmps33
        go_wp2
        go_ret
        exact ⟨by rw [HF.out]; rfl, below_box _⟩
      replace hn := Decidable.not_not.1 hn
      subst hn
      have n0 : ((0 : Int) == 0) = true := rfl
      cases hs : s with
      | cons c s' =>
        rw [hs] at hT
        rw [← hs]
        have hT2 : (bs s).toList.isEmpty = false := by rw [hs]; exact hT
        clear hT
        have HF : Hid ((Ex.mk 5 0 s l).ok text each = false) := ok_head (fun h => absurd (hd5.1 h) (by intro hh; have h1 := hh.1.2; rw [hs] at h1; cases h1))
        generalize (Ex.mk 5 0 s l).ok text each = R at *
        clear hs
        go_enter Tryz.func33, Tryz.ntmps33
        go_wp2
        go_ret
        exact ⟨by rw [HF.out]; rfl, below_box _⟩
      | nil =>
      subst hs
      have hT2 : (bs []).toList.isEmpty = true := by rw [bs_toList]; rfl
      clear hT
      by_cases hlen : ¬ l.length = 2
      · have hlen2 : ((l.length : Int) == 2) = false := by rw [beq_eq_false_iff_ne]; omega
        have HF : Hid ((Ex.mk 5 0 [] l).ok text each = false) := ok_head (fun h => absurd (hd5.1 h) (by intro hh; exact hlen hh.2.2.1))
        generalize (Ex.mk 5 0 [] l).ok text each = R at *
        go_enter Tryz.func33, Tryz.ntmps33
        go_wp2
        go_ret
        exact ⟨by rw [HF.out]; rfl, below_box _⟩
      replace hlen := Decidable.not_not.1 hlen
      have hlen2 : ((l.length : Int) == 2) = true := by rw [beq_iff_eq]; omega
      cases text with
      | false =>
        have HF : Hid ((Ex.mk 5 0 [] l).ok false each = false) := ok_head (fun h => absurd (hd5.1 h) (by intro hh; exact absurd hh.2.2.2 (by decide)))
        generalize (Ex.mk 5 0 [] l).ok false each = R at *
        go_enter Tryz.func33, Tryz.ntmps33
        go_wp2
        go_ret
        exact ⟨by rw [HF.out]; rfl, below_box _⟩
      | true =>
      have HO : Hid ((Ex.mk 5 0 [] l).ok true each = Ex.ok.okL l true each) := by
        show _ = _
        have h1 : hdOk 5 0 [] l.length true each = true := hd5.2 ⟨⟨rfl, rfl⟩, trivial, hlen, rfl⟩
        simp [Ex.ok, h1, textsK]
      generalize (Ex.mk 5 0 [] l).ok true each = R at *
      have hlt2 : l.length ≤ 2 := by omega
      have hlt3 : 2 ≤ l.length := by omega
      have HLEN := Lib.hid hlen
      clear hlen
      go_enter Tryz.func33, Tryz.ntmps33
      go_wp2
      go_loopw [12] (fun iv wr => ∃ i : Nat, i ≤ 2 ∧ iv = .int .i64 i ∧ Hid (Ex.ok.okL (l.take i) true each = true) ∧ Below w1.heap.size w1 wr ∧ wr.cell? ⟨w1.heap.size, 3, none⟩ = some (.slice a l.length cap)) (fun iv _ => 2 - (intOf iv).toNat)
      case atStart => exact ⟨0, Nat.zero_le _, rfl, (show Ex.ok.okL _ _ _ = true from rfl), below_box _, by simp⟩
      case round =>
        obtain ⟨i, hi, rfl, hok, hbr, cb⟩ := hrel
        by_cases hlt : i < 2
        · obtain ⟨x, hx⟩ : ∃ x, l[i]? = some x := ⟨l[i]'(by omega), by simp⟩
          have ea := HA.out (by omega)
          subst ea
          have hbw := below_trans HB.out hbr
          obtain ⟨c0, c1, c2, c3⟩ := HC.out i x hx
          replace c0 := cell_below c0 hbw
          replace c1 := cell_below c1 hbw
          replace c2 := cell_below c2 hbw
          replace c3 := cell_below c3 hbw
          have hil : i < l.length := by omega
          have I := Lib.hid (IH.out i x hx true _ hbw)
          have hnx := Lib.hid (okL_take hx true each)
          have hno := Lib.hid (okL_not hx true each)
          unfold Ex.val at I
          clear hx
          generalize x.ok true each = g at *
          go_wp2_with (go_at_call 33; refine Hid.out ?_)
          refine Lib.hid ?_
          refine I.out.mono ?_
          rintro _ w7 ⟨rfl, hb7⟩
          have cb2 := cell_below cb hb7
          have hb8 := below_trans hbr hb7
          clear c0 c1 c2 c3 I
          cases g with
          | false =>
            go_wp2
            go_ret
            exact ⟨by rw [HO.out, hno.out (by simp)]; rfl, hb8⟩
          | true =>
            have hok2 : Hid (Ex.ok.okL (l.take (i + 1)) true each = true) := by
              show _ = true
              rw [hnx.out, hok.out]; rfl
            go_wp2
            go_roundw
            case rel => exact ⟨i + 1, by omega, by go_num, hok2, hb8, cb2⟩
            case measure => simp [intOf]; omega
        · have hall : Hid (Ex.ok.okL l true each = true) := by
            show _ = true
            have h2 := hok.out
            rw [List.take_of_length_le (by omega)] at h2
            exact h2
          go_wp2
          go_ret
          exact ⟨by rw [HO.out, hall.out]; rfl, hbr⟩
    · skip
      by_cases hn1 : ¬ 0 ≤ n
      · skip
        have HF : Hid ((Ex.mk 6 n s l).ok text each = false) := ok_head (fun h => absurd (hd6.1 h) (by intro hh; exact hn1 hh.1.1.1))
        generalize (Ex.mk 6 n s l).ok text each = R at *
        go_enter Tryz.func33, Tryz.ntmps33
        go_wp2
        go_ret
        exact ⟨by rw [HF.out]; rfl, below_box _⟩
      replace hn1 := Decidable.not_not.1 hn1
      by_cases hn2 : ¬ n ≤ 120
      · skip
        have HF : Hid ((Ex.mk 6 n s l).ok text each = false) := ok_head (fun h => absurd (hd6.1 h) (by intro hh; exact hn2 hh.1.1.2))
        generalize (Ex.mk 6 n s l).ok text each = R at *
        go_enter Tryz.func33, Tryz.ntmps33
        go_wp2
        go_ret
        exact ⟨by rw [HF.out]; rfl, below_box _⟩
      replace hn2 := Decidable.not_not.1 hn2
      cases hs : s with
      | cons c s' =>
        rw [hs] at hT
        rw [← hs]
        have hT2 : (bs s).toList.isEmpty = false := by rw [hs]; exact hT
        clear hT
        have HF : Hid ((Ex.mk 6 n s l).ok text each = false) := ok_head (fun h => absurd (hd6.1 h) (by intro hh; have h1 := hh.1.2; rw [hs] at h1; cases h1))
        generalize (Ex.mk 6 n s l).ok text each = R at *
        clear hs
        go_enter Tryz.func33, Tryz.ntmps33
        go_wp2
        go_ret
        exact ⟨by rw [HF.out]; rfl, below_box _⟩
      | nil =>
      subst hs
      have hT2 : (bs []).toList.isEmpty = true := by rw [bs_toList]; rfl
      clear hT
      by_cases hlen : ¬ l.length = 1
      · have hlen2 : ((l.length : Int) == 1) = false := by rw [beq_eq_false_iff_ne]; omega
        have HF : Hid ((Ex.mk 6 n [] l).ok text each = false) := ok_head (fun h => absurd (hd6.1 h) (by intro hh; exact hlen hh.2.2.1))
        generalize (Ex.mk 6 n [] l).ok text each = R at *
        go_enter Tryz.func33, Tryz.ntmps33
        go_wp2
        go_ret
        exact ⟨by rw [HF.out]; rfl, below_box _⟩
      replace hlen := Decidable.not_not.1 hlen
      have hlen2 : ((l.length : Int) == 1) = true := by rw [beq_iff_eq]; omega
      cases text with
      | false =>
        have HF : Hid ((Ex.mk 6 n [] l).ok false each = false) := ok_head (fun h => absurd (hd6.1 h) (by intro hh; exact absurd hh.2.2.2 (by decide)))
        generalize (Ex.mk 6 n [] l).ok false each = R at *
        go_enter Tryz.func33, Tryz.ntmps33
        go_wp2
        go_ret
        exact ⟨by rw [HF.out]; rfl, below_box _⟩
      | true =>
      have HO : Hid ((Ex.mk 6 n [] l).ok true each = Ex.ok.okL l true each) := by
        show _ = _
        have h1 : hdOk 6 n [] l.length true each = true := hd6.2 ⟨⟨⟨hn1, hn2⟩, rfl⟩, trivial, hlen, rfl⟩
        simp [Ex.ok, h1, textsK]
      generalize (Ex.mk 6 n [] l).ok true each = R at *
      have hlt2 : l.length ≤ 1 := by omega
      have hlt3 : 1 ≤ l.length := by omega
      have HLEN := Lib.hid hlen
      clear hlen
      go_enter Tryz.func33, Tryz.ntmps33
      go_wp2
      go_loopw [12] (fun iv wr => ∃ i : Nat, i ≤ 1 ∧ iv = .int .i64 i ∧ Hid (Ex.ok.okL (l.take i) true each = true) ∧ Below w1.heap.size w1 wr ∧ wr.cell? ⟨w1.heap.size, 3, none⟩ = some (.slice a l.length cap)) (fun iv _ => 1 - (intOf iv).toNat)
      case atStart => exact ⟨0, Nat.zero_le _, rfl, (show Ex.ok.okL _ _ _ = true from rfl), below_box _, by simp⟩
      case round =>
        obtain ⟨i, hi, rfl, hok, hbr, cb⟩ := hrel
        by_cases hlt : i < 1
        · obtain ⟨x, hx⟩ : ∃ x, l[i]? = some x := ⟨l[i]'(by omega), by simp⟩
          have ea := HA.out (by omega)
          subst ea
          have hbw := below_trans HB.out hbr
          obtain ⟨c0, c1, c2, c3⟩ := HC.out i x hx
          replace c0 := cell_below c0 hbw
          replace c1 := cell_below c1 hbw
          replace c2 := cell_below c2 hbw
          replace c3 := cell_below c3 hbw
          have hil : i < l.length := by omega
          have I := Lib.hid (IH.out i x hx true _ hbw)
          have hnx := Lib.hid (okL_take hx true each)
          have hno := Lib.hid (okL_not hx true each)
          unfold Ex.val at I
          clear hx
          generalize x.ok true each = g at *
          go_wp2_with (go_at_call 33; refine Hid.out ?_)
          refine Lib.hid ?_
          refine I.out.mono ?_
          rintro _ w7 ⟨rfl, hb7⟩
          have cb2 := cell_below cb hb7
          have hb8 := below_trans hbr hb7
          clear c0 c1 c2 c3 I
          cases g with
          | false =>
            go_wp2
            go_ret
            exact ⟨by rw [HO.out, hno.out (by simp)]; rfl, hb8⟩
          | true =>
            have hok2 : Hid (Ex.ok.okL (l.take (i + 1)) true each = true) := by
              show _ = true
              rw [hnx.out, hok.out]; rfl
            go_wp2
            go_roundw
            case rel => exact ⟨i + 1, by omega, by go_num, hok2, hb8, cb2⟩
            case measure => simp [intOf]; omega
        · have hall : Hid (Ex.ok.okL l true each = true) := by
            show _ = true
            have h2 := hok.out
            rw [List.take_of_length_le (by omega)] at h2
            exact h2
          go_wp2
          go_ret
          exact ⟨by rw [HO.out, hall.out]; rfl, hbr⟩
    · skip
      by_cases hn1 : ¬ -1000 ≤ n
      · skip
        have HF : Hid ((Ex.mk 7 n s l).ok text each = false) := ok_head (fun h => absurd (hd7.1 h) (by intro hh; exact hn1 hh.1.1.1))
        generalize (Ex.mk 7 n s l).ok text each = R at *
        go_enter Tryz.func33, Tryz.ntmps33
        go_wp2
        go_ret
        exact ⟨by rw [HF.out]; rfl, below_box _⟩
      replace hn1 := Decidable.not_not.1 hn1
      by_cases hn2 : ¬ n ≤ 1000
      · skip
        have HF : Hid ((Ex.mk 7 n s l).ok text each = false) := ok_head (fun h => absurd (hd7.1 h) (by intro hh; exact hn2 hh.1.1.2))
        generalize (Ex.mk 7 n s l).ok text each = R at *
        go_enter Tryz.func33, Tryz.ntmps33
        go_wp2
        go_ret
        exact ⟨by rw [HF.out]; rfl, below_box _⟩
      replace hn2 := Decidable.not_not.1 hn2
      cases hs : s with
      | cons c s' =>
        rw [hs] at hT
        rw [← hs]
        have hT2 : (bs s).toList.isEmpty = false := by rw [hs]; exact hT
        clear hT
        have HF : Hid ((Ex.mk 7 n s l).ok text each = false) := ok_head (fun h => absurd (hd7.1 h) (by intro hh; have h1 := hh.1.2; rw [hs] at h1; cases h1))
        generalize (Ex.mk 7 n s l).ok text each = R at *
        clear hs
        go_enter Tryz.func33, Tryz.ntmps33
        go_wp2
        go_ret
        exact ⟨by rw [HF.out]; rfl, below_box _⟩
      | nil =>
      subst hs
      have hT2 : (bs []).toList.isEmpty = true := by rw [bs_toList]; rfl
      clear hT
      by_cases hlen : ¬ l.length = 0
      · have hlen2 : ((l.length : Int) == 0) = false := by rw [beq_eq_false_iff_ne]; omega
        have HF : Hid ((Ex.mk 7 n [] l).ok text each = false) := ok_head (fun h => absurd (hd7.1 h) (by intro hh; exact hlen hh.2.2.1))
        generalize (Ex.mk 7 n [] l).ok text each = R at *
        go_enter Tryz.func33, Tryz.ntmps33
        go_wp2
        go_ret
        exact ⟨by rw [HF.out]; rfl, below_box _⟩
      replace hlen := Decidable.not_not.1 hlen
      have hlen2 : ((l.length : Int) == 0) = true := by rw [beq_iff_eq]; omega
      cases text with
      | true =>
        have HF : Hid ((Ex.mk 7 n [] l).ok true each = false) := ok_head (fun h => absurd (hd7.1 h) (by intro hh; exact absurd hh.2.2.2 (by decide)))
        generalize (Ex.mk 7 n [] l).ok true each = R at *
        go_enter Tryz.func33, Tryz.ntmps33
        go_wp2
        go_ret
        exact ⟨by rw [HF.out]; rfl, below_box _⟩
      | false =>
      have HO : Hid ((Ex.mk 7 n [] l).ok false each = Ex.ok.okL l false each) := by
        show _ = _
        have h1 : hdOk 7 n [] l.length false each = true := hd7.2 ⟨⟨⟨hn1, hn2⟩, rfl⟩, trivial, hlen, rfl⟩
        simp [Ex.ok, h1, textsK]
      generalize (Ex.mk 7 n [] l).ok false each = R at *
      have HR : Hid (R = true) := by
        show _ = true
        rw [HO.out, List.eq_nil_of_length_eq_zero hlen]; rfl
      go_enter Tryz.func33, Tryz.ntmps33
      go_wp2
      go_loop [12] (fun iv => iv = .int .i64 0) (fun _ => 0)
      case atStart => rfl
      case round =>
        subst hrel
        go_wp2
        go_ret
        exact ⟨by rw [HR.out]; rfl, below_box _⟩
    · skip
      by_cases hn : ¬ n = 0
      · have hn2 : (n == 0) = false := by simpa using hn
        have HF : Hid ((Ex.mk 8 n s l).ok text each = false) := ok_head (fun h => absurd (hd8.1 h) (by intro hh; exact hn hh.1.1))
        generalize (Ex.mk 8 n s l).ok text each = R at *
        go_enter Tryz.func33, Tryz.ntmps33
        go_wp2
        go_ret
        exact ⟨by rw [HF.out]; rfl, below_box _⟩
      replace hn := Decidable.not_not.1 hn
      subst hn
      have n0 : ((0 : Int) == 0) = true := rfl
      cases hs : s with
      | cons c s' =>
        rw [hs] at hT
        rw [← hs]
        have hT2 : (bs s).toList.isEmpty = false := by rw [hs]; exact hT
        clear hT
        have HF : Hid ((Ex.mk 8 0 s l).ok text each = false) := ok_head (fun h => absurd (hd8.1 h) (by intro hh; have h1 := hh.1.2; rw [hs] at h1; cases h1))
        generalize (Ex.mk 8 0 s l).ok text each = R at *
        clear hs
        go_enter Tryz.func33, Tryz.ntmps33
        go_wp2
        go_ret
        exact ⟨by rw [HF.out]; rfl, below_box _⟩
      | nil =>
      subst hs
      have hT2 : (bs []).toList.isEmpty = true := by rw [bs_toList]; rfl
      clear hT
      by_cases hlen : ¬ l.length = 1
      · have hlen2 : ((l.length : Int) == 1) = false := by rw [beq_eq_false_iff_ne]; omega
        have HF : Hid ((Ex.mk 8 0 [] l).ok text each = false) := ok_head (fun h => absurd (hd8.1 h) (by intro hh; exact hlen hh.2.2.1))
        generalize (Ex.mk 8 0 [] l).ok text each = R at *
        go_enter Tryz.func33, Tryz.ntmps33
        go_wp2
        go_ret
        exact ⟨by rw [HF.out]; rfl, below_box _⟩
      replace hlen := Decidable.not_not.1 hlen
      have hlen2 : ((l.length : Int) == 1) = true := by rw [beq_iff_eq]; omega
      cases text with
      | true =>
        have HF : Hid ((Ex.mk 8 0 [] l).ok true each = false) := ok_head (fun h => absurd (hd8.1 h) (by intro hh; exact absurd hh.2.2.2 (by decide)))
        generalize (Ex.mk 8 0 [] l).ok true each = R at *
        go_enter Tryz.func33, Tryz.ntmps33
        go_wp2
        go_ret
        exact ⟨by rw [HF.out]; rfl, below_box _⟩
      | false =>
      have HO : Hid ((Ex.mk 8 0 [] l).ok false each = Ex.ok.okL l true each) := by
        show _ = _
        have h1 : hdOk 8 0 [] l.length false each = true := hd8.2 ⟨⟨rfl, rfl⟩, trivial, hlen, rfl⟩
        simp [Ex.ok, h1, textsK]
      generalize (Ex.mk 8 0 [] l).ok false each = R at *
      have hlt2 : l.length ≤ 1 := by omega
      have hlt3 : 1 ≤ l.length := by omega
      have HLEN := Lib.hid hlen
      clear hlen
      go_enter Tryz.func33, Tryz.ntmps33
      go_wp2
      go_loopw [12] (fun iv wr => ∃ i : Nat, i ≤ 1 ∧ iv = .int .i64 i ∧ Hid (Ex.ok.okL (l.take i) true each = true) ∧ Below w1.heap.size w1 wr ∧ wr.cell? ⟨w1.heap.size, 3, none⟩ = some (.slice a l.length cap)) (fun iv _ => 1 - (intOf iv).toNat)
      case atStart => exact ⟨0, Nat.zero_le _, rfl, (show Ex.ok.okL _ _ _ = true from rfl), below_box _, by simp⟩
      case round =>
        obtain ⟨i, hi, rfl, hok, hbr, cb⟩ := hrel
        by_cases hlt : i < 1
        · obtain ⟨x, hx⟩ : ∃ x, l[i]? = some x := ⟨l[i]'(by omega), by simp⟩
          have ea := HA.out (by omega)
          subst ea
          have hbw := below_trans HB.out hbr
          obtain ⟨c0, c1, c2, c3⟩ := HC.out i x hx
          replace c0 := cell_below c0 hbw
          replace c1 := cell_below c1 hbw
          replace c2 := cell_below c2 hbw
          replace c3 := cell_below c3 hbw
          have hil : i < l.length := by omega
          have I := Lib.hid (IH.out i x hx true _ hbw)
          have hnx := Lib.hid (okL_take hx true each)
          have hno := Lib.hid (okL_not hx true each)
          unfold Ex.val at I
          clear hx
          generalize x.ok true each = g at *
          go_wp2_with (go_at_call 33; refine Hid.out ?_)
          refine Lib.hid ?_
          refine I.out.mono ?_
          rintro _ w7 ⟨rfl, hb7⟩
          have cb2 := cell_below cb hb7
          have hb8 := below_trans hbr hb7
          clear c0 c1 c2 c3 I
          cases g with
          | false =>
            go_wp2
            go_ret
            exact ⟨by rw [HO.out, hno.out (by simp)]; rfl, hb8⟩
          | true =>
            have hok2 : Hid (Ex.ok.okL (l.take (i + 1)) true each = true) := by
              show _ = true
              rw [hnx.out, hok.out]; rfl
            go_wp2
            go_roundw
            case rel => exact ⟨i + 1, by omega, by go_num, hok2, hb8, cb2⟩
            case measure => simp [intOf]; omega
        · have hall : Hid (Ex.ok.okL l true each = true) := by
            show _ = true
            have h2 := hok.out
            rw [List.take_of_length_le (by omega)] at h2
            exact h2
          go_wp2
          go_ret
          exact ⟨by rw [HO.out, hall.out]; rfl, hbr⟩
    · skip
      by_cases hn : ¬ n = 0
      · have hn2 : (n == 0) = false := by simpa using hn
        have HF : Hid ((Ex.mk 9 n s l).ok text each = false) := ok_head (fun h => absurd (hd9.1 h) (by intro hh; exact hn hh.1.1))
        generalize (Ex.mk 9 n s l).ok text each = R at *
        go_enter Tryz.func33, Tryz.ntmps33
        go_wp2
        go_ret
        exact ⟨by rw [HF.out]; rfl, below_box _⟩
      replace hn := Decidable.not_not.1 hn
      subst hn
      have n0 : ((0 : Int) == 0) = true := rfl
      cases hs : s with
      | cons c s' =>
        rw [hs] at hT
        rw [← hs]
        have hT2 : (bs s).toList.isEmpty = false := by rw [hs]; exact hT
        clear hT
        have HF : Hid ((Ex.mk 9 0 s l).ok text each = false) := ok_head (fun h => absurd (hd9.1 h) (by intro hh; have h1 := hh.1.2; rw [hs] at h1; cases h1))
        generalize (Ex.mk 9 0 s l).ok text each = R at *
        clear hs
        go_enter Tryz.func33, Tryz.ntmps33
        go_wp2
        go_ret
        exact ⟨by rw [HF.out]; rfl, below_box _⟩
      | nil =>
      subst hs
      have hT2 : (bs []).toList.isEmpty = true := by rw [bs_toList]; rfl
      clear hT
      by_cases hlen : ¬ l.length = 0
      · have hlen2 : ((l.length : Int) == 0) = false := by rw [beq_eq_false_iff_ne]; omega
        have HF : Hid ((Ex.mk 9 0 [] l).ok text each = false) := ok_head (fun h => absurd (hd9.1 h) (by intro hh; exact hlen hh.2.2.1))
        generalize (Ex.mk 9 0 [] l).ok text each = R at *
        go_enter Tryz.func33, Tryz.ntmps33
        go_wp2
        go_ret
        exact ⟨by rw [HF.out]; rfl, below_box _⟩
      replace hlen := Decidable.not_not.1 hlen
      have hlen2 : ((l.length : Int) == 0) = true := by rw [beq_iff_eq]; omega
      cases text with
      | true =>
        have HF : Hid ((Ex.mk 9 0 [] l).ok true each = false) := ok_head (fun h => absurd (hd9.1 h) (by intro hh; exact absurd hh.2.2.2 (by decide)))
        generalize (Ex.mk 9 0 [] l).ok true each = R at *
        go_enter Tryz.func33, Tryz.ntmps33
        go_wp2
        go_ret
        exact ⟨by rw [HF.out]; rfl, below_box _⟩
      | false =>
      have HO : Hid ((Ex.mk 9 0 [] l).ok false each = Ex.ok.okL l false each) := by
        show _ = _
        have h1 : hdOk 9 0 [] l.length false each = true := hd9.2 ⟨⟨rfl, rfl⟩, trivial, hlen, rfl⟩
        simp [Ex.ok, h1, textsK]
      generalize (Ex.mk 9 0 [] l).ok false each = R at *
      have HR : Hid (R = true) := by
        show _ = true
        rw [HO.out, List.eq_nil_of_length_eq_zero hlen]; rfl
      go_enter Tryz.func33, Tryz.ntmps33
      go_wp2
      go_loop [12] (fun iv => iv = .int .i64 0) (fun _ => 0)
      case atStart => rfl
      case round =>
        subst hrel
        go_wp2
        go_ret
        exact ⟨by rw [HR.out]; rfl, below_box _⟩
    · skip
      by_cases hn : ¬ n = 0
      · have hn2 : (n == 0) = false := by simpa using hn
        have HF : Hid ((Ex.mk 10 n s l).ok text each = false) := ok_head (fun h => absurd (hd10.1 h) (by intro hh; exact hn hh.1.1))
        generalize (Ex.mk 10 n s l).ok text each = R at *
        go_enter Tryz.func33, Tryz.ntmps33
        go_wp2
        go_ret
        exact ⟨by rw [HF.out]; rfl, below_box _⟩
      replace hn := Decidable.not_not.1 hn
      subst hn
      have n0 : ((0 : Int) == 0) = true := rfl
      cases hs : s with
      | cons c s' =>
        rw [hs] at hT
        rw [← hs]
        have hT2 : (bs s).toList.isEmpty = false := by rw [hs]; exact hT
        clear hT
        have HF : Hid ((Ex.mk 10 0 s l).ok text each = false) := ok_head (fun h => absurd (hd10.1 h) (by intro hh; have h1 := hh.1.2; rw [hs] at h1; cases h1))
        generalize (Ex.mk 10 0 s l).ok text each = R at *
        clear hs
        go_enter Tryz.func33, Tryz.ntmps33
        go_wp2
        go_ret
        exact ⟨by rw [HF.out]; rfl, below_box _⟩
      | nil =>
      subst hs
      have hT2 : (bs []).toList.isEmpty = true := by rw [bs_toList]; rfl
      clear hT
      by_cases hlen : ¬ l.length = 2
      · have hlen2 : ((l.length : Int) == 2) = false := by rw [beq_eq_false_iff_ne]; omega
        have HF : Hid ((Ex.mk 10 0 [] l).ok text each = false) := ok_head (fun h => absurd (hd10.1 h) (by intro hh; exact hlen hh.2.2.1))
        generalize (Ex.mk 10 0 [] l).ok text each = R at *
        go_enter Tryz.func33, Tryz.ntmps33
        go_wp2
        go_ret
        exact ⟨by rw [HF.out]; rfl, below_box _⟩
      replace hlen := Decidable.not_not.1 hlen
      have hlen2 : ((l.length : Int) == 2) = true := by rw [beq_iff_eq]; omega
      cases text with
      | true =>
        have HF : Hid ((Ex.mk 10 0 [] l).ok true each = false) := ok_head (fun h => absurd (hd10.1 h) (by intro hh; exact absurd hh.2.2.2 (by decide)))
        generalize (Ex.mk 10 0 [] l).ok true each = R at *
        go_enter Tryz.func33, Tryz.ntmps33
        go_wp2
        go_ret
        exact ⟨by rw [HF.out]; rfl, below_box _⟩
      | false =>
      have HO : Hid ((Ex.mk 10 0 [] l).ok false each = Ex.ok.okL l false each) := by
        show _ = _
        have h1 : hdOk 10 0 [] l.length false each = true := hd10.2 ⟨⟨rfl, rfl⟩, trivial, hlen, rfl⟩
        simp [Ex.ok, h1, textsK]
      generalize (Ex.mk 10 0 [] l).ok false each = R at *
      have hlt2 : l.length ≤ 2 := by omega
      have hlt3 : 2 ≤ l.length := by omega
      have HLEN := Lib.hid hlen
      clear hlen
      go_enter Tryz.func33, Tryz.ntmps33
      go_wp2
      go_loopw [12] (fun iv wr => ∃ i : Nat, i ≤ 2 ∧ iv = .int .i64 i ∧ Hid (Ex.ok.okL (l.take i) false each = true) ∧ Below w1.heap.size w1 wr ∧ wr.cell? ⟨w1.heap.size, 3, none⟩ = some (.slice a l.length cap)) (fun iv _ => 2 - (intOf iv).toNat)
      case atStart => exact ⟨0, Nat.zero_le _, rfl, (show Ex.ok.okL _ _ _ = true from rfl), below_box _, by simp⟩
      case round =>
        obtain ⟨i, hi, rfl, hok, hbr, cb⟩ := hrel
        by_cases hlt : i < 2
        · obtain ⟨x, hx⟩ : ∃ x, l[i]? = some x := ⟨l[i]'(by omega), by simp⟩
          have ea := HA.out (by omega)
          subst ea
          have hbw := below_trans HB.out hbr
          obtain ⟨c0, c1, c2, c3⟩ := HC.out i x hx
          replace c0 := cell_below c0 hbw
          replace c1 := cell_below c1 hbw
          replace c2 := cell_below c2 hbw
          replace c3 := cell_below c3 hbw
          have hil : i < l.length := by omega
          have I := Lib.hid (IH.out i x hx false _ hbw)
          have hnx := Lib.hid (okL_take hx false each)
          have hno := Lib.hid (okL_not hx false each)
          unfold Ex.val at I
          clear hx
          generalize x.ok false each = g at *
          go_wp2_with (go_at_call 33; refine Hid.out ?_)
          refine Lib.hid ?_
          refine I.out.mono ?_
          rintro _ w7 ⟨rfl, hb7⟩
          have cb2 := cell_below cb hb7
          have hb8 := below_trans hbr hb7
          clear c0 c1 c2 c3 I
          cases g with
          | false =>
            go_wp2
            go_ret
            exact ⟨by rw [HO.out, hno.out (by simp)]; rfl, hb8⟩
          | true =>
            have hok2 : Hid (Ex.ok.okL (l.take (i + 1)) false each = true) := by
              show _ = true
              rw [hnx.out, hok.out]; rfl
            go_wp2
            go_roundw
            case rel => exact ⟨i + 1, by omega, by go_num, hok2, hb8, cb2⟩
            case measure => simp [intOf]; omega
        · have hall : Hid (Ex.ok.okL l false each = true) := by
            show _ = true
            have h2 := hok.out
            rw [List.take_of_length_le (by omega)] at h2
            exact h2
          go_wp2
          go_ret
          exact ⟨by rw [HO.out, hall.out]; rfl, hbr⟩
    · have HF : Hid ((Ex.mk k n s l).ok text each = false) := ok_head (fun h => hk (by
        simp only [hdOk, known, Bool.and_eq_true, decide_eq_true_eq] at h
        exact h.1.1.1.1.1.1))
      generalize (Ex.mk k n s l).ok text each = R at *
      have m1 : ¬ k = 1 := by omega
      have m2 : ¬ k = 2 := by omega
      have m3 : ¬ k = 3 := by omega
      have m4 : ¬ k = 4 := by omega
      have m5 : ¬ k = 5 := by omega
      have m6 : ¬ k = 6 := by omega
      have m7 : ¬ k = 7 := by omega
      have m8 : ¬ k = 8 := by omega
      have m9 : ¬ k = 9 := by omega
      have m10 : ¬ k = 10 := by omega
      clear hk
      go_enter Tryz.func33, Tryz.ntmps33
      go_wp2
      go_ret
      exact ⟨by rw [HF.out]; rfl, below_box _⟩
end Go.Proofs.YtfjpgjkfmcedoaaGreatDoor
