/- Contracts of expr.word, str and num: what expressions that may be are. -/
import Derived.Test.YtmgpacenooncjaaGreatDoorExS
namespace Go.Proofs.YtmgpacenooncjaaGreatDoor
open Go.ChangeShapes Go.WideShapes Go.ChangeAt Go.RowKit
/-- A record's value, its words' list this. -/
def recV (R : Rc) (a : Option Addr) (cap : Nat) : Value := .agg #[.string (bs R.line), .string (bs R.it), .slice a R.words.length cap]
theorem texts_get {w : World} {a : Option Addr} {n cap : Nat} {ws : List (List UInt8)} (h : IsTexts w (.slice a n cap) (ws.map bs)) (k : Nat) (x : List UInt8) (hx : ws[k]? = some x) : ∃ b off, a = some ⟨b, off, none⟩ ∧ w.cell? ⟨b, off + k, none⟩ = some (.string (bs x)) := by
  obtain ⟨a', c, e, hc⟩ := h
  injection e with e1 e2 e3
  obtain ⟨hk, rfl⟩ := List.getElem?_eq_some_iff.1 hx
  obtain ⟨b, off, ea, c0⟩ := hc k (by simpa using hk)
  exact ⟨b, off, e1.trans ea, by simpa using c0⟩
set_option maxRecDepth 100000 in
theorem word_any (ws : List (List UInt8)) (a : Option Addr) (cap m : Nat) (w : World) (h : IsTexts w (.slice a ws.length cap) (ws.map bs)) :
    Calls Tryz.prog 115 #[.slice a ws.length cap, .int .i64 m] w fun r w' => r = .returned (.string (bs ((ws[m]?).getD []))) ∧ w' = w := by
  cases hx : ws[m]? with
  | none =>
    have hm : ws.length ≤ m := by simpa using hx
    clear h hx
    go_enter Tryz.func115, Tryz.ntmps115
    go_wp2
    go_ret
    exact ⟨rfl, rfl⟩
  | some x =>
    have hm : m < ws.length := (List.getElem?_eq_some_iff.1 hx).1
    obtain ⟨b, off, rfl, c0⟩ := texts_get h m x hx
    clear h hx
    go_enter Tryz.func115, Tryz.ntmps115
    go_wp2
    go_ret
    exact ⟨rfl, rfl⟩
theorem wrap_mid (n : Int) (h0 : -9223372036854775808 ≤ n) (h1 : n < 9223372036854775808) : IntKind.i64.wrap n = n := by
  unfold IntKind.wrap
  simp [IntKind.bits, IntKind.signed]
  omega
theorem ok_text {k n : Int} {s : List UInt8} {l : List Ex} {each : Bool} (h : (Ex.mk k n s l).ok true each = true) : (k = 1 ∨ k = 2 ∨ (k = 3 ∧ 0 ≤ n ∧ n ≤ 120) ∨ k = 4 ∨ (k = 5 ∧ l.length = 2 ∧ Ex.ok.okL l true each = true) ∨ (k = 6 ∧ l.length = 1 ∧ 0 ≤ n ∧ n ≤ 120 ∧ Ex.ok.okL l true each = true)) := by
  simp only [Ex.ok, hdOk, Bool.and_eq_true, decide_eq_true_eq] at h
  obtain ⟨⟨⟨⟨⟨⟨⟨h1, h2⟩, h3⟩, h4⟩, h5⟩, h6⟩, h7⟩, h8⟩ := h
  simp only [beq_iff_eq, isTxt, Bool.and_eq_true, decide_eq_true_eq] at h2
  have hk : k = 1 ∨ k = 2 ∨ k = 3 ∨ k = 4 ∨ k = 5 ∨ k = 6 := by omega
  rcases hk with rfl | rfl | rfl | rfl | rfl | rfl
  · exact .inl rfl
  · exact .inr (.inl rfl)
  · simp [lowK, highK] at h4 h5; exact .inr (.inr (.inl ⟨rfl, h4, h5⟩))
  · exact .inr (.inr (.inr (.inl rfl)))
  · simp [partsK, textsK] at h7 h8; exact .inr (.inr (.inr (.inr (.inl ⟨rfl, h7, h8⟩))))
  · simp [partsK, textsK, lowK, highK] at h4 h5 h7 h8; exact .inr (.inr (.inr (.inr (.inr ⟨rfl, h7, h4, h5, h8⟩))))
theorem ok_num {k n : Int} {s : List UInt8} {l : List Ex} {each : Bool} (h : (Ex.mk k n s l).ok false each = true) : k = 7 ∨ (k = 8 ∧ l.length = 1 ∧ Ex.ok.okL l true each = true) ∨ k = 9 ∨ (k = 10 ∧ l.length = 2 ∧ Ex.ok.okL l false each = true) := by
  simp only [Ex.ok, hdOk, Bool.and_eq_true, decide_eq_true_eq] at h
  obtain ⟨⟨⟨⟨⟨⟨⟨h1, h2⟩, h3⟩, h4⟩, h5⟩, h6⟩, h7⟩, h8⟩ := h
  simp only [known, Bool.and_eq_true, decide_eq_true_eq] at h1
  have h2' : ¬ (1 ≤ k ∧ k ≤ 6) := by
    intro hh
    simp [isTxt, hh.1, hh.2] at h2
  have hk : k = 7 ∨ k = 8 ∨ k = 9 ∨ k = 10 := by omega
  rcases hk with rfl | rfl | rfl | rfl
  · exact .inl rfl
  · simp [partsK, textsK] at h7 h8; exact .inr (.inl ⟨rfl, h7, h8⟩)
  · exact .inr (.inr (.inl rfl))
  · simp [partsK, textsK] at h7 h8; exact .inr (.inr (.inr ⟨rfl, h7, h8⟩))
theorem two_of {α : Type} {l : List α} (h : l.length = 2) : ∃ x y, l = [x, y] := by
  match l, h with
  | [x, y], _ => exact ⟨x, y, rfl⟩
theorem one_of {α : Type} {l : List α} (h : l.length = 1) : ∃ x, l = [x] := by
  match l, h with
  | [x], _ => exact ⟨x, rfl⟩
set_option maxRecDepth 100000 in
set_option maxHeartbeats 1000000 in
theorem str_any (R : Rc) (ra : Option Addr) (rc : Nat) (each : Bool) {w : World} {sv : Value} {e : Ex} (h : IsEx w sv e) (hR : IsTexts w (.slice ra R.words.length rc) (R.words.map bs)) : e.ok true each = true → e.len R ≤ 1000000000 → ∀ w', Below w.heap.size w w' →
    Calls Tryz.prog 97 #[e.val sv, recV R ra rc] w' fun r w'' => r = .returned (.string (bs (e.str R))) ∧ Below w'.heap.size w' w'' := by
  have hmix : Tryz.prog.follows .mixedOrders = true := by kernel_rfl
  induction h using IsEx.ind with
  | mk k n s a cap l b off A ha hc kids ih =>
    intro hok hlen w1 hb
    have HA := Lib.hid ha
    have HC := Lib.hid hc
    have HR := Lib.hid hR
    have hcase := ok_text hok
    clear ha hc hok hR kids
    simp only [Ex.val, recV, Ex.k, Ex.n, Ex.s]
    rcases hcase with rfl | rfl | ⟨rfl, h0, h1⟩ | rfl | ⟨rfl, hl2, hok2⟩ | ⟨rfl, hl1, h0, h1, hok1⟩
    · go_enter Tryz.func97, Tryz.ntmps97
      go_wp2
      go_ret
      exact ⟨rfl, below_trans (below_box _) (below_box _)⟩
    · go_enter Tryz.func97, Tryz.ntmps97
      go_wp2
      go_ret
      exact ⟨rfl, below_trans (below_box _) (below_box _)⟩
    · obtain ⟨m, rfl⟩ : ∃ m : Nat, n = (m : Int) := ⟨n.toNat, by omega⟩
      have WD := Lib.hid (fun w h => word_any R.words ra rc m w h)
      go_enter Tryz.func97, Tryz.ntmps97
      go_wp2_with (go_at_call 115; refine Hid.out ?_)
      refine Lib.hid ?_
      refine (WD.out _ ((HR.out.below hb).below (below_trans (below_box _) (below_box _)))).mono ?_
      rintro _ w2 ⟨rfl, rfl⟩
      go_wp2
      go_ret
      exact ⟨rfl, below_trans (below_box _) (below_box _)⟩
    · go_enter Tryz.func97, Tryz.ntmps97
      go_wp2
      go_ret
      exact ⟨rfl, below_trans (below_box _) (below_box _)⟩
    · obtain ⟨x, y, rfl⟩ := two_of hl2
      simp only [Ex.ok.okL, Bool.and_true, Bool.and_eq_true] at hok2
      have hlen2 : x.len R + y.len R ≤ 1000000000 := by simpa [Ex.len, Ex.len.lenL] using hlen
      have ea := HA.out (by simp)
      subst ea
      obtain ⟨w2, hw2⟩ : ∃ w2, w2 = (w1.alloc (.cells #[.int .i64 5, .int .i64 n, .string (bs s), .slice (some ⟨b, off, none⟩) 2 cap] 56)).alloc (.cells #[.string (bs R.line), .string (bs R.it), .slice ra R.words.length rc] 86) := ⟨_, rfl⟩
      have hbx : Below w1.heap.size w1 w2 := by rw [hw2]; exact below_trans (below_box _) (below_box _)
      have hbw := below_trans hb hbx
      have D1 : Hid (∀ d os, Calls Tryz.prog 97 #[x.val (A 0), recV R ra rc] (Sort.grow (redrawn w2 d) os) fun e w'' => e = .returned (.string (bs (x.str R))) ∧ ∃ p : Regrown, w'' = Sort.grow (redrawn w2 p.d) p.os) := fun d os => Calls.regrown_of (ih 0 x rfl hok2.1 (by omega) _ (below_trans hbw (below_regrown _ _ _)))
      have D2 : Hid (∀ d os, Calls Tryz.prog 97 #[y.val (A 1), recV R ra rc] (Sort.grow (redrawn w2 d) os) fun e w'' => e = .returned (.string (bs (y.str R))) ∧ ∃ p : Regrown, w'' = Sort.grow (redrawn w2 p.d) p.os) := fun d os => Calls.regrown_of (ih 1 y rfl hok2.2 (by omega) _ (below_trans hbw (below_regrown _ _ _)))
      obtain ⟨c0, c1, c2, c3⟩ := HC.out 0 x rfl
      obtain ⟨d0, d1, d2, d3⟩ := HC.out 1 y rfl
      simp at c0 c1 c2 c3 d0 d1 d2 d3
      replace c0 := cell_regrown (cell_below c0 hbw)
      replace c1 := cell_regrown (cell_below c1 hbw)
      replace c2 := cell_regrown (cell_below c2 hbw)
      replace c3 := cell_regrown (cell_below c3 hbw)
      replace d0 := cell_regrown (cell_below d0 hbw)
      replace d1 := cell_regrown (cell_below d1 hbw)
      replace d2 := cell_regrown (cell_below d2 hbw)
      replace d3 := cell_regrown (cell_below d3 hbw)
      have e3 : w2.cell? ⟨w1.heap.size, 3, none⟩ = some (.slice (some ⟨b, off, none⟩) 2 cap) := by rw [hw2]; simp
      have r0 : w2.cell? ⟨w1.heap.size + 1, 0, none⟩ = some (.string (bs R.line)) := by rw [hw2]; simp
      have r1 : w2.cell? ⟨w1.heap.size + 1, 1, none⟩ = some (.string (bs R.it)) := by rw [hw2]; simp
      have r2 : w2.cell? ⟨w1.heap.size + 1, 2, none⟩ = some (.slice ra R.words.length rc) := by rw [hw2]; simp
      replace e3 := cell_regrown e3
      replace r0 := cell_regrown r0
      replace r1 := cell_regrown r1
      replace r2 := cell_regrown r2
      have sx := str_len R x
      have sy := str_len R y
      rw [← bs_size] at sx sy
      have HE : Hid (bs (x.str R) ++ bs (y.str R) = bs ((Ex.mk 5 n s [x, y]).str R)) := by
        show _ = _
        rw [bs_append]
        simp [Ex.str, Ex.str.strL]
      unfold Ex.val recV at D1 D2
      have HW2 := Lib.hid hw2
      have HBX := Lib.hid hbx
      clear hw2 hbx hbw ih HC HA hok2 hlen
      generalize x.k = xk at *
      generalize x.n = xn at *
      generalize bs x.s = xs at *
      generalize A 0 = xa at *
      generalize y.k = yk at *
      generalize y.n = yn at *
      generalize bs y.s = ys at *
      generalize A 1 = ya at *
      generalize bs (x.str R) = X at *
      generalize bs (y.str R) = Y at *
      have n1 : ¬ 9223372036854775807 < X.size + Y.size := by omega
      go_enter Tryz.func97, Tryz.ntmps97
      go_wp2
      rw [← HW2.out]
      refine wp_region_quiet_below hmix (by kernel_rfl) ?_
      repeat (quiet_step (first | (go_at_call_of 97 (Value.agg #[Value.int IntKind.i64 yk, Value.int IntKind.i64 yn, Value.string ys, ya]); exact D2.out _ _) | (go_at_call 97; exact D1.out _ _)))
      refine wpQuiet_nil ?_
      intro _ hw'
      obtain ⟨⟨dq, osq⟩, hw''⟩ := hw'
      subst hw''
      have hbb : Below w1.heap.size w1 (Sort.grow (redrawn w2 dq) osq) := below_trans HBX.out (below_regrown w2 dq osq)
      generalize Sort.grow (redrawn w2 dq) osq = w3 at *
      go_wp2
      go_ret
      exact ⟨by rw [← HE.out]; rfl, hbb⟩
    · obtain ⟨x, rfl⟩ := one_of hl1
      obtain ⟨m, rfl⟩ : ∃ m : Nat, n = (m : Int) := ⟨n.toNat, by omega⟩
      simp only [Ex.ok.okL, Bool.and_true] at hok1
      have hlen2 : x.len R ≤ 1000000000 := by simpa [Ex.len, Ex.len.lenL] using hlen
      have ea := HA.out (by simp)
      subst ea
      obtain ⟨w2, hw2⟩ : ∃ w2, w2 = (w1.alloc (.cells #[.int .i64 6, .int .i64 m, .string (bs s), .slice (some ⟨b, off, none⟩) 1 cap] 56)).alloc (.cells #[.string (bs R.line), .string (bs R.it), .slice ra R.words.length rc] 86) := ⟨_, rfl⟩
      have hbx : Below w1.heap.size w1 w2 := by rw [hw2]; exact below_trans (below_box _) (below_box _)
      have hbw := below_trans hb hbx
      have D1 : Hid (∀ d os, Calls Tryz.prog 97 #[x.val (A 0), recV R ra rc] (Sort.grow (redrawn w2 d) os) fun e w'' => e = .returned (.string (bs (x.str R))) ∧ ∃ p : Regrown, w'' = Sort.grow (redrawn w2 p.d) p.os) := fun d os => Calls.regrown_of (ih 0 x rfl hok1 (by omega) _ (below_trans hbw (below_regrown _ _ _)))
      obtain ⟨c0, c1, c2, c3⟩ := HC.out 0 x rfl
      simp at c0 c1 c2 c3
      replace c0 := cell_regrown (cell_below c0 hbw)
      replace c1 := cell_regrown (cell_below c1 hbw)
      replace c2 := cell_regrown (cell_below c2 hbw)
      replace c3 := cell_regrown (cell_below c3 hbw)
      have e1 : w2.cell? ⟨w1.heap.size, 1, none⟩ = some (.int .i64 m) := by rw [hw2]; simp
      have e3 : w2.cell? ⟨w1.heap.size, 3, none⟩ = some (.slice (some ⟨b, off, none⟩) 1 cap) := by rw [hw2]; simp
      have r0 : w2.cell? ⟨w1.heap.size + 1, 0, none⟩ = some (.string (bs R.line)) := by rw [hw2]; simp
      have r1 : w2.cell? ⟨w1.heap.size + 1, 1, none⟩ = some (.string (bs R.it)) := by rw [hw2]; simp
      have r2 : w2.cell? ⟨w1.heap.size + 1, 2, none⟩ = some (.slice ra R.words.length rc) := by rw [hw2]; simp
      have e1' := Lib.hid (cell_regrown e1)
      clear e1
      replace e3 := cell_regrown e3
      replace r0 := cell_regrown r0
      replace r1 := cell_regrown r1
      replace r2 := cell_regrown r2
      have sx := str_len R x
      rw [← bs_size] at sx
      have HE : Hid ((bs (x.str R)).extract 0 m = bs ((Ex.mk 6 m s [x]).str R)) := by
        show _ = _
        rw [bs_take]
        simp [Ex.str, Ex.str.strL]
      have HF : Hid ((bs (x.str R)).size ≤ m → bs (x.str R) = bs ((Ex.mk 6 m s [x]).str R)) := by
        show _ → _
        intro hh
        rw [bs_size] at hh
        simp [Ex.str, Ex.str.strL, List.take_of_length_le hh]
      unfold Ex.val recV at D1
      have HW2 := Lib.hid hw2
      have HBX := Lib.hid hbx
      clear hw2 hbx hbw ih HC HA hok1 hlen
      generalize x.k = xk at *
      generalize x.n = xn at *
      generalize bs x.s = xs at *
      generalize A 0 = xa at *
      generalize bs (x.str R) = X at *
      go_enter Tryz.func97, Tryz.ntmps97
      go_wp2
      rw [← HW2.out]
      refine wp_region_quiet_below hmix (by kernel_rfl) ?_
      repeat (quiet_step (first | (go_at_call 97; exact D1.out _ _)))
      refine wpQuiet_nil ?_
      intro _ hw'
      obtain ⟨⟨dq, osq⟩, hw''⟩ := hw'
      subst hw''
      have hbb : Below w1.heap.size w1 (Sort.grow (redrawn w2 dq) osq) := below_trans HBX.out (below_regrown w2 dq osq)
      have e1 := e1'.out dq osq
      clear e1' c0 c1 c2 c3 e3 r0 r1 r2 D1
      generalize Sort.grow (redrawn w2 dq) osq = w3 at *
      by_cases hm : m ≤ X.size
      · have hmin : min (m : Int) (X.size : Int) = (m : Int) := by omega
        go_wp2
        go_ret
        exact ⟨by rw [← HE.out]; rfl, hbb⟩
      · have hmin : min (m : Int) (X.size : Int) = (X.size : Int) := by omega
        go_wp2
        go_ret
        exact ⟨by rw [← HF.out (by omega)]; rfl, hbb⟩
set_option maxRecDepth 100000 in
set_option maxHeartbeats 1000000 in
theorem num_any (R : Rc) (ra : Option Addr) (rc : Nat) (each : Bool) {w : World} {sv : Value} {e : Ex} (h : IsEx w sv e) (hR : IsTexts w (.slice ra R.words.length rc) (R.words.map bs)) : e.ok false each = true → e.far R ≤ 1000000000 → ∀ w', Below w.heap.size w w' →
    Calls Tryz.prog 98 #[e.val sv, recV R ra rc] w' fun r w'' => r = .returned (.int .i64 (e.num R)) ∧ Below w'.heap.size w' w'' := by
  have hmix : Tryz.prog.follows .mixedOrders = true := by kernel_rfl
  induction h using IsEx.ind with
  | mk k n s a cap l b off A ha hc kids ih =>
    intro hok hfar w1 hb
    have HA := Lib.hid ha
    have HC := Lib.hid hc
    have HR := Lib.hid hR
    have hcase := ok_num hok
    have KS := Lib.hid (fun i x hx => str_any R ra rc each (kids i x hx) hR)
    clear ha hc hok hR kids
    simp only [Ex.val, recV, Ex.k, Ex.n, Ex.s]
    rcases hcase with rfl | ⟨rfl, hl1, hok1⟩ | rfl | ⟨rfl, hl2, hok2⟩
    · go_enter Tryz.func98, Tryz.ntmps98
      go_wp2
      go_ret
      exact ⟨rfl, below_trans (below_box _) (below_box _)⟩
    · obtain ⟨x, rfl⟩ := one_of hl1
      simp only [Ex.ok.okL, Bool.and_true] at hok1
      have hlen2 : x.len R ≤ 1000000000 := by simpa [Ex.far, Ex.len.lenL] using hfar
      have ea := HA.out (by simp)
      subst ea
      obtain ⟨w2, hw2⟩ : ∃ w2, w2 = (w1.alloc (.cells #[.int .i64 8, .int .i64 n, .string (bs s), .slice (some ⟨b, off, none⟩) 1 cap] 56)).alloc (.cells #[.string (bs R.line), .string (bs R.it), .slice ra R.words.length rc] 86) := ⟨_, rfl⟩
      have hbx : Below w1.heap.size w1 w2 := by rw [hw2]; exact below_trans (below_box _) (below_box _)
      have hbw := below_trans hb hbx
      have D1 : Hid (∀ d os, Calls Tryz.prog 97 #[x.val (A 0), recV R ra rc] (Sort.grow (redrawn w2 d) os) fun e w'' => e = .returned (.string (bs (x.str R))) ∧ ∃ p : Regrown, w'' = Sort.grow (redrawn w2 p.d) p.os) := fun d os => Calls.regrown_of (KS.out 0 x rfl hok1 (by omega) _ (below_trans hbw (below_regrown _ _ _)))
      obtain ⟨c0, c1, c2, c3⟩ := HC.out 0 x rfl
      simp at c0 c1 c2 c3
      replace c0 := cell_regrown (cell_below c0 hbw)
      replace c1 := cell_regrown (cell_below c1 hbw)
      replace c2 := cell_regrown (cell_below c2 hbw)
      replace c3 := cell_regrown (cell_below c3 hbw)
      have e3 : w2.cell? ⟨w1.heap.size, 3, none⟩ = some (.slice (some ⟨b, off, none⟩) 1 cap) := by rw [hw2]; simp
      have r0 : w2.cell? ⟨w1.heap.size + 1, 0, none⟩ = some (.string (bs R.line)) := by rw [hw2]; simp
      have r1 : w2.cell? ⟨w1.heap.size + 1, 1, none⟩ = some (.string (bs R.it)) := by rw [hw2]; simp
      have r2 : w2.cell? ⟨w1.heap.size + 1, 2, none⟩ = some (.slice ra R.words.length rc) := by rw [hw2]; simp
      replace e3 := cell_regrown e3
      replace r0 := cell_regrown r0
      replace r1 := cell_regrown r1
      replace r2 := cell_regrown r2
      have sx := str_len R x
      rw [← bs_size] at sx
      have HE : Hid (((bs (x.str R)).size : Int) = (Ex.mk 8 n s [x]).num R) := by
        show _ = _
        rw [bs_size]
        simp [Ex.num, Ex.str.strL]
      unfold Ex.val recV at D1
      have HW2 := Lib.hid hw2
      have HBX := Lib.hid hbx
      clear hw2 hbx hbw ih HC HA hok1 hfar KS
      generalize x.k = xk at *
      generalize x.n = xn at *
      generalize bs x.s = xs at *
      generalize A 0 = xa at *
      generalize bs (x.str R) = X at *
      go_enter Tryz.func98, Tryz.ntmps98
      go_wp2
      rw [← HW2.out]
      refine wp_region_quiet_below hmix (by kernel_rfl) ?_
      repeat (quiet_step (first | (go_at_call 97; exact D1.out _ _)))
      refine wpQuiet_nil ?_
      intro _ hw'
      obtain ⟨⟨dq, osq⟩, hw''⟩ := hw'
      subst hw''
      have hbb : Below w1.heap.size w1 (Sort.grow (redrawn w2 dq) osq) := below_trans HBX.out (below_regrown w2 dq osq)
      clear c0 c1 c2 c3 e3 r0 r1 r2 D1
      generalize Sort.grow (redrawn w2 dq) osq = w3 at *
      go_wp2
      go_ret
      exact ⟨by rw [← HE.out]; rfl, hbb⟩
    · go_enter Tryz.func98, Tryz.ntmps98
      go_wp2
      go_ret
      exact ⟨rfl, below_trans (below_box _) (below_box _)⟩
    · obtain ⟨x, y, rfl⟩ := two_of hl2
      simp only [Ex.ok.okL, Bool.and_true, Bool.and_eq_true] at hok2
      have hlen2 : x.far R + y.far R ≤ 1000000000 := by simpa [Ex.far, Ex.far.farL] using hfar
      have ea := HA.out (by simp)
      subst ea
      obtain ⟨w2, hw2⟩ : ∃ w2, w2 = (w1.alloc (.cells #[.int .i64 10, .int .i64 n, .string (bs s), .slice (some ⟨b, off, none⟩) 2 cap] 56)).alloc (.cells #[.string (bs R.line), .string (bs R.it), .slice ra R.words.length rc] 86) := ⟨_, rfl⟩
      have hbx : Below w1.heap.size w1 w2 := by rw [hw2]; exact below_trans (below_box _) (below_box _)
      have hbw := below_trans hb hbx
      have D1 : Hid (∀ d os, Calls Tryz.prog 98 #[x.val (A 0), recV R ra rc] (Sort.grow (redrawn w2 d) os) fun e w'' => e = .returned (.int .i64 (x.num R)) ∧ ∃ p : Regrown, w'' = Sort.grow (redrawn w2 p.d) p.os) := fun d os => Calls.regrown_of (ih 0 x rfl hok2.1 (by omega) _ (below_trans hbw (below_regrown _ _ _)))
      have D2 : Hid (∀ d os, Calls Tryz.prog 98 #[y.val (A 1), recV R ra rc] (Sort.grow (redrawn w2 d) os) fun e w'' => e = .returned (.int .i64 (y.num R)) ∧ ∃ p : Regrown, w'' = Sort.grow (redrawn w2 p.d) p.os) := fun d os => Calls.regrown_of (ih 1 y rfl hok2.2 (by omega) _ (below_trans hbw (below_regrown _ _ _)))
      obtain ⟨c0, c1, c2, c3⟩ := HC.out 0 x rfl
      obtain ⟨d0, d1, d2, d3⟩ := HC.out 1 y rfl
      simp at c0 c1 c2 c3 d0 d1 d2 d3
      replace c0 := cell_regrown (cell_below c0 hbw)
      replace c1 := cell_regrown (cell_below c1 hbw)
      replace c2 := cell_regrown (cell_below c2 hbw)
      replace c3 := cell_regrown (cell_below c3 hbw)
      replace d0 := cell_regrown (cell_below d0 hbw)
      replace d1 := cell_regrown (cell_below d1 hbw)
      replace d2 := cell_regrown (cell_below d2 hbw)
      replace d3 := cell_regrown (cell_below d3 hbw)
      have e3 : w2.cell? ⟨w1.heap.size, 3, none⟩ = some (.slice (some ⟨b, off, none⟩) 2 cap) := by rw [hw2]; simp
      have r0 : w2.cell? ⟨w1.heap.size + 1, 0, none⟩ = some (.string (bs R.line)) := by rw [hw2]; simp
      have r1 : w2.cell? ⟨w1.heap.size + 1, 1, none⟩ = some (.string (bs R.it)) := by rw [hw2]; simp
      have r2 : w2.cell? ⟨w1.heap.size + 1, 2, none⟩ = some (.slice ra R.words.length rc) := by rw [hw2]; simp
      replace e3 := cell_regrown e3
      replace r0 := cell_regrown r0
      replace r1 := cell_regrown r1
      replace r2 := cell_regrown r2
      have sx := num_far R x
      have sy := num_far R y
      have HE : Hid (x.num R + y.num R = (Ex.mk 10 n s [x, y]).num R) := by
        show _ = _
        simp [Ex.num, Ex.num.numL]
      unfold Ex.val recV at D1 D2
      have HW2 := Lib.hid hw2
      have HBX := Lib.hid hbx
      clear hw2 hbx hbw ih HC HA hok2 hfar KS
      generalize x.k = xk at *
      generalize x.n = xn at *
      generalize bs x.s = xs at *
      generalize A 0 = xa at *
      generalize y.k = yk at *
      generalize y.n = yn at *
      generalize bs y.s = ys at *
      generalize A 1 = ya at *
      generalize x.num R = X at *
      generalize y.num R = Y at *
      generalize x.far R = fx at *
      generalize y.far R = fy at *
      have b1 : -1000000000 ≤ X ∧ X ≤ 1000000000 := by omega
      have b2 : -1000000000 ≤ Y ∧ Y ≤ 1000000000 := by omega
      clear sx sy hlen2
      obtain ⟨b1, b1'⟩ := b1
      obtain ⟨b2, b2'⟩ := b2
      go_enter Tryz.func98, Tryz.ntmps98
      go_wp2
      rw [← HW2.out]
      refine wp_region_quiet_below hmix (by kernel_rfl) ?_
      repeat (quiet_step (first | (go_at_call_of 98 (Value.agg #[Value.int IntKind.i64 yk, Value.int IntKind.i64 yn, Value.string ys, ya]); exact D2.out _ _) | (go_at_call 98; exact D1.out _ _)))
      refine wpQuiet_nil ?_
      intro _ hw'
      obtain ⟨⟨dq, osq⟩, hw''⟩ := hw'
      subst hw''
      have hbb : Below w1.heap.size w1 (Sort.grow (redrawn w2 dq) osq) := below_trans HBX.out (below_regrown w2 dq osq)
      generalize Sort.grow (redrawn w2 dq) osq = w3 at *
      go_wp2
      go_ret
      refine ⟨?_, hbb⟩
      show Ending.returned (.int .i64 (IntKind.i64.wrap (X + Y))) = _
      rw [wrap_mid (X + Y) (by omega) (by omega), ← HE.out]
end Go.Proofs.YtmgpacenooncjaaGreatDoor
