/- Contracts of the document's answer: Str and Int of expressions that may be. Made out of ExT's by program. -/
import Derived.Test.YtahklpihbkdclaaDoorExV
namespace Go.Proofs.YtahklpihbkdclaaDoor
open Go.ChangeShapes Go.WideShapes Go.ChangeAt Go.RowKit
/-- A record, and the word of it that is looked at. -/
def rc (line it : List UInt8) : Rc := ⟨line, it, wordsL line⟩
set_option maxRecDepth 100000 in
set_option maxHeartbeats 1000000 in
theorem rstr_any (line it : List UInt8) (hline : line.length ≤ 1000000) (each : Bool) {w : World} {sv : Value} {e : Ex} (h : IsEx w sv e) : e.ok true each = true → e.len (rc line it) ≤ 1000000000 → ∀ w', Below w.heap.size w w' →
    Calls Tryd.prog 35 #[e.val sv, .string (bs line), .string (bs it)] w' fun r w'' => r = .returned (.string (bs (e.str (rc line it)))) ∧ Below w'.heap.size w' w'' := by
  have hmix : Tryd.prog.follows .mixedOrders = true := by kernel_rfl
  induction h using IsEx.ind with
  | mk k n s a cap l b off A ha hc kids ih =>
    intro hok hlen w1 hb
    have HA := Lib.hid ha
    have HC := Lib.hid hc
    have hcase := ok_text hok
    clear ha hc hok kids
    simp only [Ex.val, Ex.k, Ex.n, Ex.s]
    rcases hcase with rfl | rfl | ⟨rfl, h0, h1⟩ | rfl | ⟨rfl, hl2, hok2⟩ | ⟨rfl, hl1, h0, h1, hok1⟩
    · go_enter Tryd.func35, Tryd.ntmps35
      go_wp2
      go_ret
      exact ⟨rfl, below_box _⟩
    · go_enter Tryd.func35, Tryd.ntmps35
      go_wp2
      go_ret
      exact ⟨rfl, below_box _⟩
    · obtain ⟨m, rfl⟩ : ∃ m : Nat, n = (m : Int) := ⟨n.toNat, by omega⟩
      have WD := Lib.hid (fun w => rwords_any line w hline)
      go_enter Tryd.func35, Tryd.ntmps35
      go_wp2_with (go_at_call 31; refine Hid.out ?_)
      refine Lib.hid ?_
      refine (WD.out _).mono ?_
      rintro _ w2 ⟨ra, rcp, rfl, HT, hb2⟩
      have e1 := cell_below (a := ⟨w1.heap.size, 1, none⟩) (v := .int .i64 m) (by simp) hb2
      have hb3 := below_trans (below_box _) hb2
      clear hb2
      cases hx : (wordsL line)[m]? with
      | none =>
        have hm : (wordsL line).length ≤ m := by simpa using hx
        have HV : Hid (bs ((Ex.mk 3 m s l).str (rc line it)) = ⟨#[]⟩) := by
          show _ = _
          simp [Ex.str, rc, hx]; rfl
        clear hx
        generalize (wordsL line).length = nw at *
        go_wp2
        go_ret
        exact ⟨by rw [HV.out]; rfl, hb3⟩
      | some x =>
        have hm : m < (wordsL line).length := (List.getElem?_eq_some_iff.1 hx).1
        obtain ⟨bb, oo, rfl, cc⟩ := texts_get HT.out m x hx
        have HV : Hid (bs ((Ex.mk 3 m s l).str (rc line it)) = bs x) := by
          show _ = _
          simp [Ex.str, rc, hx]
        clear hx HT
        generalize (wordsL line).length = nw at *
        go_wp2
        go_ret
        exact ⟨by rw [HV.out]; rfl, hb3⟩
    · go_enter Tryd.func35, Tryd.ntmps35
      go_wp2
      go_ret
      exact ⟨rfl, below_box _⟩
    · obtain ⟨x, y, rfl⟩ := two_of hl2
      simp only [Ex.ok.okL, Bool.and_true, Bool.and_eq_true] at hok2
      have hlen2 : x.len (rc line it) + y.len (rc line it) ≤ 1000000000 := by simpa [Ex.len, Ex.len.lenL] using hlen
      have ea := HA.out (by simp)
      subst ea
      obtain ⟨w2, hw2⟩ : ∃ w2, w2 = w1.alloc (.cells #[.int .i64 5, .int .i64 n, .string (bs s), .slice (some ⟨b, off, none⟩) 2 cap] 53) := ⟨_, rfl⟩
      have hbx : Below w1.heap.size w1 w2 := by rw [hw2]; exact below_box _
      have hbw := below_trans hb hbx
      have D1 : Hid (∀ d os, Calls Tryd.prog 35 #[x.val (A 0), .string (bs line), .string (bs it)] (Sort.grow (redrawn w2 d) os) fun e w'' => e = .returned (.string (bs (x.str (rc line it)))) ∧ ∃ p : Regrown, w'' = Sort.grow (redrawn w2 p.d) p.os) := fun d os => Calls.regrown_of (ih 0 x rfl hok2.1 (by omega) _ (below_trans hbw (below_regrown _ _ _)))
      have D2 : Hid (∀ d os, Calls Tryd.prog 35 #[y.val (A 1), .string (bs line), .string (bs it)] (Sort.grow (redrawn w2 d) os) fun e w'' => e = .returned (.string (bs (y.str (rc line it)))) ∧ ∃ p : Regrown, w'' = Sort.grow (redrawn w2 p.d) p.os) := fun d os => Calls.regrown_of (ih 1 y rfl hok2.2 (by omega) _ (below_trans hbw (below_regrown _ _ _)))
      obtain ⟨c0, c1, c2, c3⟩ := HC.out 0 x rfl
      obtain ⟨d0, d1, d2, d3⟩ := HC.out 1 y rfl
      simp at c0 c1 c2 c3 d0 d1 d2 d3
      replace c0 := cell_regrown (cell_below c0 hbw)
      replace c1 := cell_regrown (cell_below c1 hbw)
      replace c2 := cell_regrown (cell_below c2 hbw)
      replace c3 := cell_regrown (cell_below c3 hbw)
      replace d0 := cell_regrown (cell_below d0 hbw)
      replace d1 := cell_regrown (cell_below d1 hbw)
      replace d2 := cell_regrown (cell_below d2 hbw)
      replace d3 := cell_regrown (cell_below d3 hbw)
      have e3 : w2.cell? ⟨w1.heap.size, 3, none⟩ = some (.slice (some ⟨b, off, none⟩) 2 cap) := by rw [hw2]; simp
      replace e3 := cell_regrown e3
      have sx := str_len (rc line it) x
      have sy := str_len (rc line it) y
      rw [← bs_size] at sx sy
      have HE : Hid (bs (x.str (rc line it)) ++ bs (y.str (rc line it)) = bs ((Ex.mk 5 n s [x, y]).str (rc line it))) := by
        show _ = _
        rw [bs_append]
        simp [Ex.str, Ex.str.strL]
      unfold Ex.val at D1 D2
      have HW2 := Lib.hid hw2
      have HBX := Lib.hid hbx
      clear hw2 hbx hbw ih HC HA hok2 hlen
      generalize x.k = xk at *
      generalize x.n = xn at *
      generalize bs x.s = xs at *
      generalize A 0 = xa at *
      generalize y.k = yk at *
      generalize y.n = yn at *
      generalize bs y.s = ys at *
      generalize A 1 = ya at *
      generalize bs (x.str (rc line it)) = X at *
      generalize bs (y.str (rc line it)) = Y at *
      have n1 : ¬ 9223372036854775807 < X.size + Y.size := by omega
      go_enter Tryd.func35, Tryd.ntmps35
      go_wp2
      rw [← HW2.out]
      refine wp_region_quiet_below hmix (by kernel_rfl) ?_
      repeat (quiet_step (first | (go_at_call_of 35 (Value.agg #[Value.int IntKind.i64 yk, Value.int IntKind.i64 yn, Value.string ys, ya]); exact D2.out _ _) | (go_at_call 35; exact D1.out _ _)))
      refine wpQuiet_nil ?_
      intro _ hw'
      obtain ⟨⟨dq, osq⟩, hw''⟩ := hw'
      subst hw''
      have hbb : Below w1.heap.size w1 (Sort.grow (redrawn w2 dq) osq) := below_trans HBX.out (below_regrown w2 dq osq)
      generalize Sort.grow (redrawn w2 dq) osq = w3 at *
      go_wp2
      go_ret
      exact ⟨by rw [← HE.out]; rfl, hbb⟩
    · obtain ⟨x, rfl⟩ := one_of hl1
      obtain ⟨m, rfl⟩ : ∃ m : Nat, n = (m : Int) := ⟨n.toNat, by omega⟩
      simp only [Ex.ok.okL, Bool.and_true] at hok1
      have hlen2 : x.len (rc line it) ≤ 1000000000 := by simpa [Ex.len, Ex.len.lenL] using hlen
      have ea := HA.out (by simp)
      subst ea
      obtain ⟨w2, hw2⟩ : ∃ w2, w2 = w1.alloc (.cells #[.int .i64 6, .int .i64 m, .string (bs s), .slice (some ⟨b, off, none⟩) 1 cap] 53) := ⟨_, rfl⟩
      have hbx : Below w1.heap.size w1 w2 := by rw [hw2]; exact below_box _
      have hbw := below_trans hb hbx
      have D1 := Lib.hid (ih 0 x rfl hok1 (by omega) w2 hbw)
      obtain ⟨c0, c1, c2, c3⟩ := HC.out 0 x rfl
      simp at c0 c1 c2 c3
      replace c0 := cell_below c0 hbw
      replace c1 := cell_below c1 hbw
      replace c2 := cell_below c2 hbw
      replace c3 := cell_below c3 hbw
      have sx := str_len (rc line it) x
      rw [← bs_size] at sx
      have HE : Hid ((bs (x.str (rc line it))).extract 0 m = bs ((Ex.mk 6 m s [x]).str (rc line it))) := by
        show _ = _
        rw [bs_take]
        simp [Ex.str, Ex.str.strL]
      have HF : Hid ((bs (x.str (rc line it))).size ≤ m → bs (x.str (rc line it)) = bs ((Ex.mk 6 m s [x]).str (rc line it))) := by
        show _ → _
        intro hh
        rw [bs_size] at hh
        simp [Ex.str, Ex.str.strL, List.take_of_length_le hh]
      unfold Ex.val at D1
      rw [hw2] at c0 c1 c2 c3
      have HW2 := Lib.hid hw2
      have HBX := Lib.hid hbx
      clear hw2 hbx hbw ih HC HA hok1 hlen
      generalize x.k = xk at *
      generalize x.n = xn at *
      generalize bs x.s = xs at *
      generalize A 0 = xa at *
      generalize bs (x.str (rc line it)) = X at *
      go_enter Tryd.func35, Tryd.ntmps35
      go_wp2_with (go_at_call 35; refine Hid.out ?_)
      refine Lib.hid ?_
      rw [← HW2.out]
      refine D1.out.mono ?_
      rintro _ w3 ⟨rfl, hb3⟩
      have e1 := cell_below (a := ⟨w1.heap.size, 1, none⟩) (v := .int .i64 m) (by rw [HW2.out]; simp) hb3
      have hbb := below_trans HBX.out hb3
      clear c0 c1 c2 c3 D1 hb3
      by_cases hm : m < X.size
      · go_wp2
        go_ret
        exact ⟨by rw [← HE.out]; rfl, hbb⟩
      · go_wp2
        go_ret
        exact ⟨by rw [← HF.out (by omega)]; rfl, hbb⟩
set_option maxRecDepth 100000 in
set_option maxHeartbeats 1000000 in
theorem rint_any (line it : List UInt8) (hline : line.length ≤ 1000000) (each : Bool) {w : World} {sv : Value} {e : Ex} (h : IsEx w sv e) : e.ok false each = true → e.far (rc line it) ≤ 1000000000 → ∀ w', Below w.heap.size w w' →
    Calls Tryd.prog 37 #[e.val sv, .string (bs line), .string (bs it)] w' fun r w'' => r = .returned (.int .i64 (e.num (rc line it))) ∧ Below w'.heap.size w' w'' := by
  have hmix : Tryd.prog.follows .mixedOrders = true := by kernel_rfl
  induction h using IsEx.ind with
  | mk k n s a cap l b off A ha hc kids ih =>
    intro hok hfar w1 hb
    have HA := Lib.hid ha
    have HC := Lib.hid hc
    have hcase := ok_num hok
    have KS := Lib.hid (fun i x hx => rstr_any line it hline each (kids i x hx))
    clear ha hc hok kids
    simp only [Ex.val, Ex.k, Ex.n, Ex.s]
    rcases hcase with rfl | ⟨rfl, hl1, hok1⟩ | rfl | ⟨rfl, hl2, hok2⟩
    · go_enter Tryd.func37, Tryd.ntmps37
      go_wp2
      go_ret
      exact ⟨rfl, below_box _⟩
    · obtain ⟨x, rfl⟩ := one_of hl1
      simp only [Ex.ok.okL, Bool.and_true] at hok1
      have hlen2 : x.len (rc line it) ≤ 1000000000 := by simpa [Ex.far, Ex.len.lenL] using hfar
      have ea := HA.out (by simp)
      subst ea
      obtain ⟨w2, hw2⟩ : ∃ w2, w2 = w1.alloc (.cells #[.int .i64 8, .int .i64 n, .string (bs s), .slice (some ⟨b, off, none⟩) 1 cap] 53) := ⟨_, rfl⟩
      have hbx : Below w1.heap.size w1 w2 := by rw [hw2]; exact below_box _
      have hbw := below_trans hb hbx
      have D1 := Lib.hid (KS.out 0 x rfl hok1 (by omega) w2 hbw)
      obtain ⟨c0, c1, c2, c3⟩ := HC.out 0 x rfl
      simp at c0 c1 c2 c3
      replace c0 := cell_below c0 hbw
      replace c1 := cell_below c1 hbw
      replace c2 := cell_below c2 hbw
      replace c3 := cell_below c3 hbw
      have sx := str_len (rc line it) x
      rw [← bs_size] at sx
      have HE : Hid (((bs (x.str (rc line it))).size : Int) = (Ex.mk 8 n s [x]).num (rc line it)) := by
        show _ = _
        rw [bs_size]
        simp [Ex.num, Ex.str.strL]
      unfold Ex.val at D1
      rw [hw2] at c0 c1 c2 c3
      have HW2 := Lib.hid hw2
      have HBX := Lib.hid hbx
      clear hw2 hbx hbw ih HC HA hok1 hfar KS
      generalize x.k = xk at *
      generalize x.n = xn at *
      generalize bs x.s = xs at *
      generalize A 0 = xa at *
      generalize bs (x.str (rc line it)) = X at *
      go_enter Tryd.func37, Tryd.ntmps37
      go_wp2_with (go_at_call 35; refine Hid.out ?_)
      refine Lib.hid ?_
      rw [← HW2.out]
      refine D1.out.mono ?_
      rintro _ w3 ⟨rfl, hb3⟩
      have hbb := below_trans HBX.out hb3
      clear c0 c1 c2 c3 D1 hb3
      go_wp2
      go_ret
      exact ⟨by rw [← HE.out]; rfl, hbb⟩
    · have WD := Lib.hid (fun w => rwords_any line w hline)
      have HV : Hid ((Ex.mk 9 n s l).num (rc line it) = ((wordsL line).length : Int)) := by
        show _ = _
        simp [Ex.num, rc]
      generalize (Ex.mk 9 n s l).num (rc line it) = V at *
      go_enter Tryd.func37, Tryd.ntmps37
      go_wp2_with (go_at_call 31; refine Hid.out ?_)
      refine Lib.hid ?_
      refine (WD.out _).mono ?_
      rintro _ w2 ⟨ra, rcp, rfl, HT, hb2⟩
      go_wp2
      go_ret
      exact ⟨by rw [HV.out]; rfl, below_trans (below_box _) hb2⟩
    · obtain ⟨x, y, rfl⟩ := two_of hl2
      simp only [Ex.ok.okL, Bool.and_true, Bool.and_eq_true] at hok2
      have hlen2 : x.far (rc line it) + y.far (rc line it) ≤ 1000000000 := by simpa [Ex.far, Ex.far.farL] using hfar
      have ea := HA.out (by simp)
      subst ea
      obtain ⟨w2, hw2⟩ : ∃ w2, w2 = w1.alloc (.cells #[.int .i64 10, .int .i64 n, .string (bs s), .slice (some ⟨b, off, none⟩) 2 cap] 53) := ⟨_, rfl⟩
      have hbx : Below w1.heap.size w1 w2 := by rw [hw2]; exact below_box _
      have hbw := below_trans hb hbx
      have D1 : Hid (∀ d os, Calls Tryd.prog 37 #[x.val (A 0), .string (bs line), .string (bs it)] (Sort.grow (redrawn w2 d) os) fun e w'' => e = .returned (.int .i64 (x.num (rc line it))) ∧ ∃ p : Regrown, w'' = Sort.grow (redrawn w2 p.d) p.os) := fun d os => Calls.regrown_of (ih 0 x rfl hok2.1 (by omega) _ (below_trans hbw (below_regrown _ _ _)))
      have D2 : Hid (∀ d os, Calls Tryd.prog 37 #[y.val (A 1), .string (bs line), .string (bs it)] (Sort.grow (redrawn w2 d) os) fun e w'' => e = .returned (.int .i64 (y.num (rc line it))) ∧ ∃ p : Regrown, w'' = Sort.grow (redrawn w2 p.d) p.os) := fun d os => Calls.regrown_of (ih 1 y rfl hok2.2 (by omega) _ (below_trans hbw (below_regrown _ _ _)))
      obtain ⟨c0, c1, c2, c3⟩ := HC.out 0 x rfl
      obtain ⟨d0, d1, d2, d3⟩ := HC.out 1 y rfl
      simp at c0 c1 c2 c3 d0 d1 d2 d3
      replace c0 := cell_regrown (cell_below c0 hbw)
      replace c1 := cell_regrown (cell_below c1 hbw)
      replace c2 := cell_regrown (cell_below c2 hbw)
      replace c3 := cell_regrown (cell_below c3 hbw)
      replace d0 := cell_regrown (cell_below d0 hbw)
      replace d1 := cell_regrown (cell_below d1 hbw)
      replace d2 := cell_regrown (cell_below d2 hbw)
      replace d3 := cell_regrown (cell_below d3 hbw)
      have e3 : w2.cell? ⟨w1.heap.size, 3, none⟩ = some (.slice (some ⟨b, off, none⟩) 2 cap) := by rw [hw2]; simp
      replace e3 := cell_regrown e3
      have sx := num_far (rc line it) x
      have sy := num_far (rc line it) y
      have HE : Hid (x.num (rc line it) + y.num (rc line it) = (Ex.mk 10 n s [x, y]).num (rc line it)) := by
        show _ = _
        simp [Ex.num, Ex.num.numL]
      unfold Ex.val at D1 D2
      have HW2 := Lib.hid hw2
      have HBX := Lib.hid hbx
      clear hw2 hbx hbw ih HC HA hok2 hfar KS
      generalize x.k = xk at *
      generalize x.n = xn at *
      generalize bs x.s = xs at *
      generalize A 0 = xa at *
      generalize y.k = yk at *
      generalize y.n = yn at *
      generalize bs y.s = ys at *
      generalize A 1 = ya at *
      generalize x.num (rc line it) = X at *
      generalize y.num (rc line it) = Y at *
      generalize x.far (rc line it) = fx at *
      generalize y.far (rc line it) = fy at *
      have b1 : -1000000000 ≤ X ∧ X ≤ 1000000000 := by omega
      have b2 : -1000000000 ≤ Y ∧ Y ≤ 1000000000 := by omega
      clear sx sy hlen2
      obtain ⟨b1, b1'⟩ := b1
      obtain ⟨b2, b2'⟩ := b2
      go_enter Tryd.func37, Tryd.ntmps37
      go_wp2
      rw [← HW2.out]
      refine wp_region_quiet_below hmix (by kernel_rfl) ?_
      repeat (quiet_step (first | (go_at_call_of 37 (Value.agg #[Value.int IntKind.i64 yk, Value.int IntKind.i64 yn, Value.string ys, ya]); exact D2.out _ _) | (go_at_call 37; exact D1.out _ _)))
      refine wpQuiet_nil ?_
      intro _ hw'
      obtain ⟨⟨dq, osq⟩, hw''⟩ := hw'
      subst hw''
      have hbb : Below w1.heap.size w1 (Sort.grow (redrawn w2 dq) osq) := below_trans HBX.out (below_regrown w2 dq osq)
      generalize Sort.grow (redrawn w2 dq) osq = w3 at *
      go_wp2
      go_ret
      refine ⟨?_, hbb⟩
      show Ending.returned (.int .i64 (IntKind.i64.wrap (X + Y))) = _
      rw [wrap_mid (X + Y) (by omega) (by omega), ← HE.out]
end Go.Proofs.YtahklpihbkdclaaDoor
