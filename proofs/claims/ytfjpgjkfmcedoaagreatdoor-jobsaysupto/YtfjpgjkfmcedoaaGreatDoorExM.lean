/- Contracts of expr.ShapeOf, Known, Texts, Fits and may: what may be. -/
import Derived.Test.YtfjpgjkfmcedoaaGreatDoorG2
import Derived.Laws.Rows
namespace Go.Proofs.YtfjpgjkfmcedoaaGreatDoor
open Go.ChangeShapes Go.WideShapes Go.ChangeAt Go.RowKit
/- What a kind has use for. -/
def lowK (k : Int) : Int := if k = 7 then -1000 else 0
def highK (k : Int) : Int := if k = 3 ∨ k = 6 then 120 else if k = 7 then 1000 else 0
def bytesK (k : Int) : Nat := if k = 4 then 20 else 0
def partsK (k : Int) : Nat := if k = 5 ∨ k = 10 then 2 else if k = 6 ∨ k = 8 then 1 else 0
def textsK (k : Int) : Bool := decide (k = 5) || decide (k = 6) || decide (k = 8)
def known (k : Int) : Bool := decide (1 ≤ k) && decide (k ≤ 10)
def isTxt (k : Int) : Bool := decide (1 ≤ k) && decide (k ≤ 6)
def fitsB (s : List UInt8) (most : Nat) : Bool := decide (s.length ≤ most) && !s.contains 10
/-- What an expression itself must be. -/
def hdOk (k n : Int) (s : List UInt8) (len : Nat) (text each : Bool) : Bool :=
  known k && (isTxt k == text) && !(decide (k = 1) && !each) && decide (lowK k ≤ n) && decide (n ≤ highK k) && fitsB s (bytesK k) && decide (len = partsK k)
/-- May an expression be? -/
def Ex.ok : Ex → Bool → Bool → Bool
  | .mk k n s a, text, each => hdOk k n s a.length text each && okL a (textsK k) each
  where okL : List Ex → Bool → Bool → Bool
  | [], _, _ => true
  | e :: r, text, each => e.ok text each && okL r text each
theorem okL_append (a b : List Ex) (t c : Bool) : Ex.ok.okL (a ++ b) t c = (Ex.ok.okL a t c && Ex.ok.okL b t c) := by
  induction a with
  | nil => simp [Ex.ok.okL]
  | cons x a ih => simp only [List.cons_append, Ex.ok.okL, ih, Bool.and_assoc]
theorem okL_take {l : List Ex} {i : Nat} {x : Ex} (hx : l[i]? = some x) (t c : Bool) : Ex.ok.okL (l.take (i + 1)) t c = (Ex.ok.okL (l.take i) t c && x.ok t c) := by rw [take_snoc hx, okL_append]; simp [Ex.ok.okL]
theorem okL_not {l : List Ex} {i : Nat} {x : Ex} (hx : l[i]? = some x) (t c : Bool) (h : x.ok t c = false) : Ex.ok.okL l t c = false := by
  conv => lhs; rw [← List.take_append_drop (i + 1) l, okL_append, okL_take hx, h]
  simp
/-- The table of what kinds have use for, as it lies. -/
structure EnvS (w : World) : Prop extends Env0 w where
  sh : ∀ k : Nat, k ≤ 10 → w.cell? ⟨1, k * 5, none⟩ = some (.int .i64 (lowK k)) ∧ w.cell? ⟨1, k * 5 + 1, none⟩ = some (.int .i64 (highK k)) ∧ w.cell? ⟨1, k * 5 + 2, none⟩ = some (.int .i64 (bytesK k)) ∧ w.cell? ⟨1, k * 5 + 3, none⟩ = some (.int .i64 (partsK k)) ∧ w.cell? ⟨1, k * 5 + 4, none⟩ = some (.bool (textsK k))
theorem EnvS.lower {w w' : World} (h : EnvS w) (hb : Below w.heap.size w w') : EnvS w' := by
  refine ⟨h.toEnv0.below hb, fun k hk => ?_⟩
  obtain ⟨h0, h1, h2, h3, h4⟩ := h.sh k hk
  exact ⟨cell_below h0 hb, cell_below h1 hb, cell_below h2 hb, cell_below h3 hb, cell_below h4 hb⟩
set_option maxRecDepth 100000 in
theorem known_any (k : Int) (w : World) : Calls Tryz.prog 63 #[.int .i64 k] w fun r w' => r = .returned (.bool (known k)) ∧ w' = w := by
  by_cases h1 : 1 ≤ k
  · by_cases h2 : k ≤ 10
    · go_enter Tryz.func63, Tryz.ntmps63
      go_wp2
      go_ret
      exact ⟨by simp [known, h1, h2], rfl⟩
    · go_enter Tryz.func63, Tryz.ntmps63
      go_wp2
      go_ret
      exact ⟨by simp [known, h1, h2], rfl⟩
  · go_enter Tryz.func63, Tryz.ntmps63
    go_wp2
    go_ret
    exact ⟨by simp [known]; omega, rfl⟩
set_option maxRecDepth 100000 in
theorem texts_any (k n : Int) (s : ByteArray) (sv : Value) (w : World) : Calls Tryz.prog 64 #[.agg #[.int .i64 k, .int .i64 n, .string s, sv]] w fun r w' => r = .returned (.bool (isTxt k)) ∧ Below w.heap.size w w' := by
  by_cases h1 : 1 ≤ k
  · by_cases h2 : k ≤ 6
    · go_enter Tryz.func64, Tryz.ntmps64
      go_wp2
      go_ret
      exact ⟨by simp [isTxt, h1, h2], below_box _⟩
    · go_enter Tryz.func64, Tryz.ntmps64
      go_wp2
      go_ret
      exact ⟨by simp [isTxt, h1, h2], below_box _⟩
  · go_enter Tryz.func64, Tryz.ntmps64
    go_wp2
    go_ret
    exact ⟨by simp [isTxt]; omega, below_box _⟩
theorem indexByte_in (l : List UInt8) (c : UInt8) : decide (0 ≤ Lib.indexByte l c) = l.contains c := by
  induction l with
  | nil => rfl
  | cons b r ih =>
    have hge := Lib.indexByte_ge r c
    unfold Lib.indexByte
    by_cases hb : b = c
    · subst hb; simp
    · have hcb : (c == b) = false := by rw [beq_eq_false_iff_ne]; exact fun h => hb h.symm
      have hbc : (b == c) = false := by rw [beq_eq_false_iff_ne]; exact hb
      rw [List.contains_cons, ← ih, hcb, hbc, Bool.false_or, if_neg (by simp)]
      by_cases h1 : Lib.indexByte r c = -1
      · rw [h1]; rfl
      · rw [if_neg (by simpa using h1)]
        have h2 : 0 ≤ Lib.indexByte r c := by omega
        rw [decide_eq_true h2, decide_eq_true (by omega)]
set_option maxRecDepth 100000 in
theorem fits_any (s : List UInt8) (most : Nat) (w : World) (hs : s.length ≤ 1000000000) :
    Calls Tryz.prog 44 #[.string (bs s), .int .i64 most] w fun r w' => r = .returned (.bool (fitsB s most)) ∧ w' = w := by
  have C := Lib.hid (Any.strings_Contains_one Tryz.lays144 (bs s) 10 w)
  rw [bs_data, indexByte_in] at C
  have hsz := bs_size s
  have hsl : (bs s).size ≤ 1000000000 := by omega
  by_cases h1 : s.length ≤ most
  · have h1' : (bs s).size ≤ most := by omega
    unfold fitsB
    rw [decide_eq_true h1, Bool.true_and]
    clear h1 hsz
    generalize s.contains 10 = g at *
    cases g
    · go_enter Tryz.func44, Tryz.ntmps44
      go_wp2_with (go_at_call 61; refine C.out.mono ?_; rintro e w' ⟨rfl, rfl⟩)
      go_ret
      exact ⟨rfl, rfl⟩
    · go_enter Tryz.func44, Tryz.ntmps44
      go_wp2_with (go_at_call 61; refine C.out.mono ?_; rintro e w' ⟨rfl, rfl⟩)
      go_ret
      exact ⟨rfl, rfl⟩
  · have h1' : ¬ (bs s).size ≤ most := by omega
    unfold fitsB
    rw [decide_eq_false h1, Bool.false_and]
    clear h1 hsz
    go_enter Tryz.func44, Tryz.ntmps44
    go_wp2
    go_ret
    exact ⟨rfl, rfl⟩
def shV (k : Int) : Value := .agg #[.int .i64 (lowK k), .int .i64 (highK k), .int .i64 (bytesK k), .int .i64 (partsK k), .bool (textsK k)]
theorem shV_not {k : Int} (h : known k = false) : shV k = .agg #[.int .i64 0, .int .i64 0, .int .i64 0, .int .i64 0, .bool false] := by
  have hk : ¬ (1 ≤ k ∧ k ≤ 10) := by
    intro hk
    simp [known, hk.1, hk.2] at h
  unfold shV lowK highK bytesK partsK textsK
  rw [if_neg (by omega), if_neg (by omega), if_neg (by omega), if_neg (by omega), if_neg (by omega), if_neg (by omega), decide_eq_false (by omega), decide_eq_false (by omega), decide_eq_false (by omega)]
  rfl
set_option maxRecDepth 100000 in
theorem shapeOf_any (k : Int) (w : World) (E : EnvS w) : Calls Tryz.prog 62 #[.int .i64 k] w fun r w' => r = .returned (shV k) ∧ Below w.heap.size w w' := by
  cases hk : known k with
  | false =>
    rw [shV_not hk]
    have K := Lib.hid (fun w => known_any k w)
    rw [hk] at K
    go_enter Tryz.func62, Tryz.ntmps62
    go_wp2_with (go_at_call 63; refine (K.out _).mono ?_; rintro e w' ⟨rfl, rfl⟩)
    (try simp only [Exit.inBlock, Exit.then])
    refine bodyPost_ret (results_cell_row rfl _ _ w.heap.size 95 _ (0, 0) _ rfl (heap_alloc_new _ _) Tryz.underlying95 rfl (by kernel_rfl)) rfl ?_
    exact ⟨rfl, below_box _⟩
  | true =>
    have hk2 : ∃ m : Nat, m ≤ 10 ∧ k = (m : Int) := by
      simp only [known, Bool.and_eq_true, decide_eq_true_eq] at hk
      exact ⟨k.toNat, by omega, by omega⟩
    obtain ⟨m, hm, rfl⟩ := hk2
    have K := Lib.hid (fun w => known_any m w)
    rw [hk] at K
    clear hk
    obtain ⟨c0, c1, c2, c3, c4⟩ := E.sh m hm
    have hal : Below w.heap.size w (w.alloc (.cells #[.int .i64 0, .int .i64 0, .int .i64 0, .int .i64 0, .bool false] 95)) := below_box _
    replace c0 := cell_below c0 hal
    replace c1 := cell_below c1 hal
    replace c2 := cell_below c2 hal
    replace c3 := cell_below c3 hal
    replace c4 := cell_below c4 hal
    unfold shV
    generalize lowK (m : Int) = lo at *
    generalize highK (m : Int) = hi at *
    generalize bytesK (m : Int) = by' at *
    generalize partsK (m : Int) = pa at *
    generalize textsK (m : Int) = tx at *
    go_enter Tryz.func62, Tryz.ntmps62
    go_wp2_with (go_at_call 63; refine (K.out _).mono ?_; rintro e w' ⟨rfl, rfl⟩)
    (try simp only [Exit.inBlock, Exit.then])
    refine bodyPost_ret (results_cell_row rfl _ _ w.heap.size 95 _ (0, 0) _ rfl (heap_alloc_new _ _) Tryz.underlying95 rfl (by kernel_rfl)) rfl ?_
    exact ⟨rfl, below_box _⟩
set_option maxRecDepth 100000 in
set_option maxHeartbeats 2000000 in
theorem may_any {w : World} {sv : Value} {e : Ex} (h : IsEx w sv e) : e.wt ≤ 1000000000 → ∀ (text each : Bool) w', Below w.heap.size w w' → EnvS w' →
    Calls Tryz.prog 46 #[e.val sv, .bool text, .bool each] w' fun r w'' => r = .returned (.bool (e.ok text each)) ∧ Below w'.heap.size w' w'' := by
  induction h using IsEx.ind with
  | mk k n s a cap l b off A ha hc kids ih =>
    intro hw text each w1 hb E
    simp only [Ex.wt] at hw
    simp only [Ex.val, Ex.k, Ex.n, Ex.s, Ex.ok, hdOk]
    have hl := len_wtL l
    have HA := Lib.hid ha
    have HC := Lib.hid hc
    have HB := Lib.hid hb
    have HE := Lib.hid E
    have SH := Lib.hid (fun w E => shapeOf_any k w E)
    have KN := Lib.hid (fun w => known_any k w)
    have TX := Lib.hid (fun w => texts_any k n (bs s) (.slice a l.length cap) w)
    have FT := Lib.hid (fun w => fits_any s (bytesK k) w (by omega))
    unfold shV at SH
    have IH := Lib.hid (fun i x hx => ih i x hx (by have := wt_kid hx; omega) (textsK k) each)
    have KD := Lib.hid kids
    clear ha hc hb E ih kids
    generalize hlo : lowK k = lo at *
    generalize hhi : highK k = hi at *
    generalize hby : bytesK k = by' at *
    generalize hpa : partsK k = pa at *
    generalize htx : textsK k = tx at *
    generalize hkn : known k = kn at *
    generalize htk : isTxt k = tk at *
    generalize hft : fitsB s by' = ft at *
    clear hlo hhi hby hpa htx hkn htk hft
    go_enter Tryz.func46, Tryz.ntmps46
    go_wp2_with (go_at_call 62; refine Hid.out ?_)
    refine Lib.hid ?_
    refine (SH.out _ (HE.out.lower (below_box _))).mono ?_
    rintro _ w2 ⟨rfl, hb2⟩
    have k0 := cell_below (a := ⟨w1.heap.size, 0, none⟩) (v := .int .i64 k) (by simp) hb2
    have k1 := cell_below (a := ⟨w1.heap.size, 1, none⟩) (v := .int .i64 n) (by simp) hb2
    have k2 := cell_below (a := ⟨w1.heap.size, 2, none⟩) (v := .string (bs s)) (by simp) hb2
    have k3 := cell_below (a := ⟨w1.heap.size, 3, none⟩) (v := .slice a l.length cap) (by simp) hb2
    have hal := below_box (w := w2) (.cells #[.int .i64 lo, .int .i64 hi, .int .i64 by', .int .i64 pa, .bool tx] 95)
    replace k0 := cell_below k0 hal
    replace k1 := cell_below k1 hal
    replace k2 := cell_below k2 hal
    replace k3 := cell_below k3 hal
    have s0 : (w2.alloc (.cells #[.int .i64 lo, .int .i64 hi, .int .i64 by', .int .i64 pa, .bool tx] 95)).cell? ⟨w2.heap.size, 0, none⟩ = some (.int .i64 lo) := by simp
    have s1 : (w2.alloc (.cells #[.int .i64 lo, .int .i64 hi, .int .i64 by', .int .i64 pa, .bool tx] 95)).cell? ⟨w2.heap.size, 1, none⟩ = some (.int .i64 hi) := by simp
    have s2 : (w2.alloc (.cells #[.int .i64 lo, .int .i64 hi, .int .i64 by', .int .i64 pa, .bool tx] 95)).cell? ⟨w2.heap.size, 2, none⟩ = some (.int .i64 by') := by simp
    have s3 : (w2.alloc (.cells #[.int .i64 lo, .int .i64 hi, .int .i64 by', .int .i64 pa, .bool tx] 95)).cell? ⟨w2.heap.size, 3, none⟩ = some (.int .i64 pa) := by simp
    have s4 : (w2.alloc (.cells #[.int .i64 lo, .int .i64 hi, .int .i64 by', .int .i64 pa, .bool tx] 95)).cell? ⟨w2.heap.size, 4, none⟩ = some (.bool tx) := by simp
    have HB2 := Lib.hid (below_trans (below_trans (below_box _) hb2) hal)
    clear hb2 hal
    go_wp2_with (go_at_call 63; refine Hid.out ?_)
    refine Lib.hid ?_
    generalize w2.alloc (.cells #[.int .i64 lo, .int .i64 hi, .int .i64 by', .int .i64 pa, .bool tx] 95) = w3 at *
    generalize w2.heap.size = g2 at *
    refine (KN.out _).mono ?_
    rintro _ w4 ⟨rfl, rfl⟩
    cases kn with
    | false =>
      go_wp2
      go_ret
      exact ⟨by simp, HB2.out⟩
    | true =>
    go_wp2_with (go_at_call 64; refine Hid.out ?_)
    refine Lib.hid ?_
    refine (TX.out _).mono ?_
    rintro _ w5 ⟨rfl, hb5⟩
    have j0 := cell_below k0 hb5
    have j1 := cell_below k1 hb5
    have j2 := cell_below k2 hb5
    have j3 := cell_below k3 hb5
    replace s0 := cell_below s0 hb5
    replace s1 := cell_below s1 hb5
    replace s2 := cell_below s2 hb5
    replace s3 := cell_below s3 hb5
    replace s4 := cell_below s4 hb5
    have HB5 := Lib.hid (below_trans HB2.out hb5)
    clear k0 k1 k2 k3 HB2 hb5
    cases htt : (tk == text) with
    | false =>
      go_wp2
      go_ret
      exact ⟨by simp at htt; simp [htt], HB5.out⟩
    | true =>
    obtain rfl : tk = text := by simpa using htt
    clear htt
    by_cases hk1 : k = 1 ∧ each = false
    · obtain ⟨rfl, rfl⟩ := hk1
      go_wp2
      go_ret
      exact ⟨by simp, HB5.out⟩
    by_cases hlo : ¬ lo ≤ n
    · by_cases h1 : k = 1
      · subst h1
        cases each
        · exact absurd ⟨rfl, rfl⟩ hk1
        go_wp2
        go_ret
        exact ⟨by simp; intros; exfalso; omega, HB5.out⟩
      · go_wp2
        go_ret
        exact ⟨by simp; intros; exfalso; omega, HB5.out⟩
    replace hlo := Decidable.not_not.1 hlo
    by_cases hhi : ¬ n ≤ hi
    · by_cases h1 : k = 1
      · subst h1
        cases each
        · exact absurd ⟨rfl, rfl⟩ hk1
        go_wp2
        go_ret
        exact ⟨by simp; intros; exfalso; omega, HB5.out⟩
      · go_wp2
        go_ret
        exact ⟨by simp; intros; exfalso; omega, HB5.out⟩
    replace hhi := Decidable.not_not.1 hhi
    have hg : Hid (k = 1 → each = true) := by
      show k = 1 → each = true
      intro h1
      cases each
      · exact absurd ⟨h1, rfl⟩ hk1
      · rfl
    clear hk1 KN TX SH
    rcases Decidable.em (k = 1) with h1 | h1
    · obtain rfl : each = true := hg.out h1
      subst h1
      go_wp2_with (go_at_call 44; refine Hid.out ?_)
      refine Lib.hid ?_
      refine (FT.out _).mono ?_
      rintro _ w6 ⟨rfl, rfl⟩
      cases ft with
      | false =>
        go_wp2
        go_ret
        exact ⟨ret_bool (by simp [*]), HB5.out⟩
      | true =>
      by_cases hpa : ¬ l.length = pa
      · have hm' : ((l.length : Int) == (pa : Int)) = false := by simp; omega
        go_wp2
        go_ret
        exact ⟨ret_bool (by simp [*]), HB5.out⟩
      replace hpa := Decidable.not_not.1 hpa
      subst hpa
      go_wp2
      go_loopw [55] (fun iv wr => ∃ i : Nat, i ≤ l.length ∧ iv = .int .i64 i ∧ Hid (Ex.ok.okL (l.take i) tx true = true) ∧ Below w1.heap.size w1 wr ∧ wr.cell? ⟨g2, 4, none⟩ = some (.bool tx)) (fun iv _ => l.length - (intOf iv).toNat)
      case atStart => exact ⟨0, Nat.zero_le _, rfl, (show Ex.ok.okL _ _ _ = true from rfl), HB5.out, s4⟩
      case round =>
        obtain ⟨i, hi, rfl, hok, hbr, t4⟩ := hrel
        by_cases hlt : i < l.length
        · obtain ⟨x, hx⟩ : ∃ x, l[i]? = some x := ⟨l[i], by simp⟩
          have ea := HA.out (by omega)
          subst ea
          have hbw := below_trans HB.out hbr
          obtain ⟨c0, c1, c2, c3⟩ := HC.out i x hx
          obtain ⟨ax, capx, eA⟩ := (KD.out i x hx).slice
          have IX := IH.out i x hx
          rw [eA] at c3 IX
          generalize x.a.length = nx at *
          replace c0 := cell_below c0 hbw
          replace c1 := cell_below c1 hbw
          replace c2 := cell_below c2 hbw
          replace c3 := cell_below c3 hbw
          have hal := below_box (w := wr) (.cells #[.int .i64 x.k, .int .i64 x.n, .string (bs x.s), .slice ax nx capx] 44)
          have u4 := cell_below t4 hal
          have I := Lib.hid (IX _ (below_trans hbw hal) (HE.out.lower (below_trans hbr hal)))
          have hnx := Lib.hid (okL_take hx tx true)
          have hno := Lib.hid (okL_not hx tx true)
          have HX := Lib.hid hx
          unfold Ex.val at I
          have HAL := Lib.hid hal
          clear hx hal IX eA
          generalize x.ok tx true = g at *
          go_wp2_with (go_at_call 46; refine Hid.out ?_)
          refine Lib.hid ?_
          refine I.out.mono ?_
          rintro _ w7 ⟨rfl, hb7⟩
          have hb8 := below_trans hbr (below_trans HAL.out hb7)
          cases g with
          | false =>
            go_wp2
            go_ret
            have hno2 := hno.out (by simp)
            exact ⟨ret_bool (by simp [*]), hb8⟩
          | true =>
            have v4 := cell_below u4 hb7
            have hok2 : Hid (Ex.ok.okL (l.take (i + 1)) tx true = true) := by
              show _ = true
              rw [hnx.out, hok.out]; rfl
            clear c0 c1 c2 c3 t4 u4 I hb7
            go_wp2
            go_roundw
            case rel => exact ⟨i + 1, by omega, by go_num, hok2, hb8, v4⟩
            case measure => simp [intOf]; omega
        · have hall : Hid (Ex.ok.okL l tx true = true) := by
            show _ = true
            have h2 := hok.out
            rw [List.take_of_length_le (by omega)] at h2
            exact h2
          go_wp2
          go_ret
          have hall2 := hall.out
          exact ⟨ret_bool (by simp [*]), hbr⟩
    · go_wp2_with (go_at_call 44; refine Hid.out ?_)
      refine Lib.hid ?_
      refine (FT.out _).mono ?_
      rintro _ w6 ⟨rfl, rfl⟩
      cases ft with
      | false =>
        go_wp2
        go_ret
        exact ⟨ret_bool (by simp [*]), HB5.out⟩
      | true =>
      by_cases hpa : ¬ l.length = pa
      · have hm' : ((l.length : Int) == (pa : Int)) = false := by simp; omega
        go_wp2
        go_ret
        exact ⟨ret_bool (by simp [*]), HB5.out⟩
      replace hpa := Decidable.not_not.1 hpa
      subst hpa
      go_wp2
      go_loopw [55] (fun iv wr => ∃ i : Nat, i ≤ l.length ∧ iv = .int .i64 i ∧ Hid (Ex.ok.okL (l.take i) tx each = true) ∧ Below w1.heap.size w1 wr ∧ wr.cell? ⟨g2, 4, none⟩ = some (.bool tx)) (fun iv _ => l.length - (intOf iv).toNat)
      case atStart => exact ⟨0, Nat.zero_le _, rfl, (show Ex.ok.okL _ _ _ = true from rfl), HB5.out, s4⟩
      case round =>
        obtain ⟨i, hi, rfl, hok, hbr, t4⟩ := hrel
        by_cases hlt : i < l.length
        · obtain ⟨x, hx⟩ : ∃ x, l[i]? = some x := ⟨l[i], by simp⟩
          have ea := HA.out (by omega)
          subst ea
          have hbw := below_trans HB.out hbr
          obtain ⟨c0, c1, c2, c3⟩ := HC.out i x hx
          obtain ⟨ax, capx, eA⟩ := (KD.out i x hx).slice
          have IX := IH.out i x hx
          rw [eA] at c3 IX
          generalize x.a.length = nx at *
          replace c0 := cell_below c0 hbw
          replace c1 := cell_below c1 hbw
          replace c2 := cell_below c2 hbw
          replace c3 := cell_below c3 hbw
          have hal := below_box (w := wr) (.cells #[.int .i64 x.k, .int .i64 x.n, .string (bs x.s), .slice ax nx capx] 44)
          have u4 := cell_below t4 hal
          have I := Lib.hid (IX _ (below_trans hbw hal) (HE.out.lower (below_trans hbr hal)))
          have hnx := Lib.hid (okL_take hx tx each)
          have hno := Lib.hid (okL_not hx tx each)
          have HX := Lib.hid hx
          unfold Ex.val at I
          have HAL := Lib.hid hal
          clear hx hal IX eA
          generalize x.ok tx each = g at *
          go_wp2_with (go_at_call 46; refine Hid.out ?_)
          refine Lib.hid ?_
          refine I.out.mono ?_
          rintro _ w7 ⟨rfl, hb7⟩
          have hb8 := below_trans hbr (below_trans HAL.out hb7)
          cases g with
          | false =>
            go_wp2
            go_ret
            have hno2 := hno.out (by simp)
            exact ⟨ret_bool (by simp [*]), hb8⟩
          | true =>
            have v4 := cell_below u4 hb7
            have hok2 : Hid (Ex.ok.okL (l.take (i + 1)) tx each = true) := by
              show _ = true
              rw [hnx.out, hok.out]; rfl
            clear c0 c1 c2 c3 t4 u4 I hb7
            go_wp2
            go_roundw
            case rel => exact ⟨i + 1, by omega, by go_num, hok2, hb8, v4⟩
            case measure => simp [intOf]; omega
        · have hall : Hid (Ex.ok.okL l tx each = true) := by
            show _ = true
            have h2 := hok.out
            rw [List.take_of_length_le (by omega)] at h2
            exact h2
          go_wp2
          go_ret
          have hall2 := hall.out
          exact ⟨ret_bool (by simp [*]), hbr⟩
end Go.Proofs.YtfjpgjkfmcedoaaGreatDoor
