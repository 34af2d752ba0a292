/- The document's lexer: a quoted text. -/
import Derived.Test.YtfjpgjkfmcedoaaGreatDoorG9
namespace Go.Proofs.YtfjpgjkfmcedoaaGreatDoor
open Go.ChangeShapes Go.WideShapes Go.ChangeAt Go.RowKit
/-- A quoted text, behind its first sign: what it is, how many signs are taken, whether it is bad. -/
def lexQ : List UInt8 → List UInt8 × Nat × Bool
  | [] => ([], 0, true)
  | [b] => if b = 34 then ([], 2, false) else ([b], 1, true)
  | b :: c :: t => if b = 34 then ([], 2, decide (c ≠ 32)) else if b = 92 then (c :: (lexQ t).1, (lexQ t).2.1 + 2, (lexQ t).2.2) else (b :: (lexQ (c :: t)).1, (lexQ (c :: t)).2.1 + 1, (lexQ (c :: t)).2.2)
theorem lexQ_end (r : List UInt8) : lexQ (34 :: r) = ([], 2, match r with | [] => false | c :: _ => decide (c ≠ 32)) := by
  cases r with
  | nil => simp [lexQ]
  | cons c t => simp [lexQ]
theorem lexQ_esc (c : UInt8) (t : List UInt8) : lexQ (92 :: c :: t) = (c :: (lexQ t).1, (lexQ t).2.1 + 2, (lexQ t).2.2) := by
  rw [lexQ, if_neg (by decide), if_pos rfl]
theorem lexQ_sign (b : UInt8) (r : List UInt8) (h1 : b ≠ 34) (h2 : b ≠ 92 ∨ r = []) : lexQ (b :: r) = (b :: (lexQ r).1, (lexQ r).2.1 + 1, (lexQ r).2.2) := by
  cases r with
  | nil => simp [lexQ, h1]
  | cons c t =>
    have h3 : b ≠ 92 := by rcases h2 with h | h; exact h; cases h
    rw [lexQ, if_neg h1, if_neg h3]
theorem lexQ_quo (rest : List UInt8) (hr : Stop1 rest) : ∀ s : List UInt8, lexQ (quoL s ++ 34 :: rest) = (s, (quoL s).length + 2, false) := by
  intro s
  induction s with
  | nil =>
    show lexQ (34 :: rest) = _
    rw [lexQ_end]
    rcases hr with rfl | ⟨t, rfl⟩
    · simp [quoL]
    · simp [quoL]
  | cons c s ih =>
    unfold quoL
    by_cases h : c = 34 ∨ c = 92
    · rw [if_pos h]
      show lexQ (92 :: c :: (quoL s ++ 34 :: rest)) = _
      rw [lexQ_esc, ih]
      simp
    · rw [if_neg h]
      show lexQ (c :: (quoL s ++ 34 :: rest)) = _
      rw [lexQ_sign c _ (fun e => h (.inl e)) (.inl fun e => h (.inr e)), ih]
      simp
theorem lexQ_len (n : Nat) : ∀ s : List UInt8, s.length ≤ n → (lexQ s).1.length ≤ s.length ∧ (lexQ s).2.1 ≤ s.length + 1 := by
  induction n with
  | zero => intro s h; obtain rfl : s = [] := List.eq_nil_of_length_eq_zero (by omega); simp [lexQ]
  | succ n ih =>
    intro s h
    cases s with
    | nil => simp [lexQ]
    | cons b r =>
      by_cases h1 : b = 34
      · subst h1; rw [lexQ_end]; simp
      · by_cases h2 : b = 92
        · subst h2
          cases r with
          | nil => rw [lexQ_sign _ _ (by decide) (.inr rfl)]; simp [lexQ]
          | cons c t =>
            rw [lexQ_esc]
            have := ih t (by simp at h; omega)
            simp only [List.length_cons] at h ⊢; omega
        · rw [lexQ_sign b r h1 (.inl h2)]
          have := ih r (by simp at h; omega)
          simp only [List.length_cons] at h ⊢; omega
/-- What quoted gives at a place: the text, the next place, whether it is bad by then. -/
def lexT (s : List UInt8) (a : Nat) (b : Bool) : List UInt8 × Nat × Bool :=
  match s.drop a with
  | [] => ([], a, true)
  | c :: r => if c = 34 then ((lexQ r).1, a + 1 + (lexQ r).2.1, b || (lexQ r).2.2) else ([], a, true)
theorem LxAt.bad {P : Nat} {s : List UInt8} {a : Nat} {b : Bool} {w wr : World} (h : LxAt P s a b w wr) : LxAt P s a true w (wr.setCell ⟨P, 2, none⟩ (.bool true)) :=
  ⟨h.at'.set 2 _, h.only.setCell 2 _⟩
set_option maxRecDepth 20000 in
set_option maxHeartbeats 8000000 in
theorem lquoted_any (P : Nat) (s : List UInt8) (a0 : Nat) (b : Bool) (w : World) (h : Blk w P 64 (lexC s a0 b)) (hs : s.length ≤ 1000) (ha : a0 ≤ 100000) :
    Calls Tryz.prog 29 #[.pointer (some ⟨P, 0, none⟩)] w fun e w' => e = .returned (.string (bs (lexT s a0 b).1)) ∧ LxAt P s (lexT s a0 b).2.1 (lexT s a0 b).2.2 w w' := by
  have A0 : Hid (LxAt P s a0 b w w) := ⟨h, Only.refl _ _⟩
  obtain ⟨S, hS⟩ : ∃ S, S = bs s := ⟨_, rfl⟩
  have hsz : S.size = s.length := by rw [hS, bs_size]
  have HS := Lib.hid hS
  obtain ⟨sl, hsl⟩ : ∃ n, n = s.length := ⟨_, rfl⟩
  rw [← hsl] at hsz hs
  have HSL := Lib.hid hsl
  have k0 : w.cell? ⟨P, 0, none⟩ = some (.string S) := by rw [hS]; exact h.at (i := 0) rfl
  have k1 := h.at (i := 1) (v := .int .i64 (a0 : Int)) rfl
  have f2 := h.frozen 2
  have f1 := h.frozen 1
  clear h hS hsl
  by_cases hlt : a0 < sl
  · obtain ⟨c, hc⟩ : ∃ c, s[a0]? = some c := ⟨s[a0]'(by rw [← HSL.out]; exact hlt), by simp⟩
    have hd : s.drop a0 = c :: s.drop (a0 + 1) := by
      obtain ⟨h1, h2⟩ := List.getElem?_eq_some_iff.1 hc
      rw [List.drop_eq_getElem_cons h1, h2]
    have hix : ∀ h : a0 < S.size, S[a0]'h = c := by
      have e := HS.out
      subst e
      exact fun h => bs_get hc h
    have g1 : decide (sl ≤ a0) = false := decide_eq_false (by omega)
    have g1' : decide ((sl : Int) ≤ (a0 : Int)) = false := decide_eq_false (by omega)
    by_cases h34 : c = 34
    · have he : ((c.toNat : Int) == 34) = true := by rw [h34]; rfl
      obtain ⟨T, hT⟩ : ∃ T, T = lexQ (s.drop (a0 + 1)) := ⟨_, rfl⟩
      have HLT : Hid (lexT s a0 b = (T.1, a0 + 1 + T.2.1, b || T.2.2)) := by
        show _ = _
        unfold lexT
        rw [hd, h34]
        simp only [if_true]
        rw [hT]
      have HT := Lib.hid hT
      obtain ⟨a1, ha1⟩ : ∃ n, n = a0 + 1 := ⟨_, rfl⟩
      have hp1 : (a0 : Int) + 1 = (a1 : Int) := by omega
      have hw1 : IntKind.i64.wrap (a1 : Int) = (a1 : Int) := by rw [IntKind.wrap_i64]; omega
      have hv1 : wrap64 (a1 : Int) = (a1 : Int) := by unfold wrap64; omega
      have HA1 := Lib.hid ha1
      have HLT1 : Hid (a1 ≤ sl) := by show _ ≤ _; omega
      clear hc hd h34 hT ha1
      go_enter Tryz.func29, Tryz.ntmps29
      go_upto_region 1 with fail
      go_quiet (fail)
      obtain ⟨w1, hw1⟩ : ∃ w1, w1 = w.drewN nq := ⟨_, rfl⟩
      have hb1 : Below w.heap.size w w1 := by rw [hw1]; exact below_drewN _ _
      rw [← hw1]
      have HL1 : Hid (LxAt P s a0 b w w1) := A0.out.blw hb1
      clear hw1 hb1 k0 k1 f1 f2 A0
      have k1 := HL1.out.at'.at (i := 1) (v := .int .i64 (a0 : Int)) rfl
      have f1 := HL1.out.at'.frozen 1
      have HL2 : Hid (LxAt P s a1 b w (w1.setCell ⟨P, 1, none⟩ (.int .i64 (a1 : Int)))) := HL1.out.go
      go_upto_region 6 with fail
      generalize w1.setCell ⟨P, 1, none⟩ (.int .i64 (a1 : Int)) = w2 at *
      have I0 : Hid (T.1 = [] ++ (lexQ (s.drop a1)).1 ∧ a1 + T.2.1 = a1 + (lexQ (s.drop a1)).2.1 ∧ T.2.2 = (lexQ (s.drop a1)).2.2) := by
        rw [HT.out, HA1.out]
        exact ⟨rfl, rfl, rfl⟩
      clear k1 f1 he hix hw1 hv1 hp1 g1 g1' HL1
      have ha1s := HLT1.out
      have hex0 : (.string ⟨#[]⟩ : Value) = .string (bs []) := rfl
      go_loopg [3] (sl - a1) (fun gg tv wr => ∃ (ak : Nat) (t : List UInt8), gg = sl - ak ∧ ak ≤ sl ∧ t.length ≤ ak ∧ tv = .string (bs t) ∧ Hid (T.1 = t ++ (lexQ (s.drop ak)).1 ∧ a1 + T.2.1 = ak + (lexQ (s.drop ak)).2.1 ∧ T.2.2 = (lexQ (s.drop ak)).2.2) ∧ Hid (LxAt P s ak b w wr))
      case atStart => exact ⟨a1, [], rfl, ha1s, by simp, hex0, I0, HL2⟩
      case round =>
        clear I0 HL2 hex0
        obtain ⟨ak, t, hgk, hak, htk, rfl, HI, HL⟩ := hrel
        have HGK := Lib.hid hgk
        clear hgk
        have k0 : wr.cell? ⟨P, 0, none⟩ = some (.string S) := by rw [HS.out]; exact HL.out.at'.at (i := 0) rfl
        have k1 := HL.out.at'.at (i := 1) (v := .int .i64 (ak : Int)) rfl
        by_cases hal : ak < sl
        · obtain ⟨d, hd⟩ : ∃ d, s[ak]? = some d := ⟨s[ak]'(by rw [← HSL.out]; exact hal), by simp⟩
          obtain ⟨ak1, hak1⟩ : ∃ n, n = ak + 1 := ⟨_, rfl⟩
          have hdr : s.drop ak = d :: s.drop ak1 := by
            obtain ⟨h1, h2⟩ := List.getElem?_eq_some_iff.1 hd
            rw [List.drop_eq_getElem_cons h1, h2, hak1]
          have ha1 : (ak : Int) + 1 = (ak1 : Int) := by omega
          have hex : S.extract ak ak1 = bs [d] := by rw [HS.out, hak1]; exact bs_oneL hd
          have hwk : IntKind.i64.wrap (ak1 : Int) = (ak1 : Int) := by rw [IntKind.wrap_i64]; omega
          have hvk : wrap64 (ak1 : Int) = (ak1 : Int) := by unfold wrap64; omega
          have hlo : (0 : Int) ≤ (ak : Int) := by omega
          have hle : (ak : Int) ≤ (ak1 : Int) := by omega
          have hle2 : (ak1 : Int) ≤ (sl : Int) := by omega
          have g1 : decide ((ak : Int) < (sl : Int)) = true := decide_eq_true (by omega)
          have hint : (ak : Int) < (sl : Int) := by omega
          have HDR := Lib.hid hdr
          have HAK1 := Lib.hid hak1
          clear hd hdr hak1
          go_upto_region 6 with fail
          go_quiet (fail)
          obtain ⟨w4, hw4⟩ : ∃ w4, w4 = wr.drewN nq := ⟨_, rfl⟩
          have hb4 : Below wr.heap.size wr w4 := by rw [hw4]; exact below_drewN _ _
          rw [← hw4]
          have HL4 : Hid (LxAt P s ak b w w4) := HL.out.blw hb4
          clear hw4 hb4 k0 k1 HL
          have k0 : w4.cell? ⟨P, 0, none⟩ = some (.string S) := by rw [HS.out]; exact HL4.out.at'.at (i := 0) rfl
          have k1 := HL4.out.at'.at (i := 1) (v := .int .i64 (ak : Int)) rfl
          go_upto_region 7 with fail
          go_quiet (fail)
          obtain ⟨w5, hw5⟩ : ∃ w5, w5 = w4.drewN nq := ⟨_, rfl⟩
          have hb5 : Below w4.heap.size w4 w5 := by rw [hw5]; exact below_drewN _ _
          rw [← hw5]
          have HL5 : Hid (LxAt P s ak b w w5) := HL4.out.blw hb5
          clear hw5 hb5 k0 k1 HL4
          have HWK := Lib.hid hwk
          have HVK := Lib.hid hvk
          clear hwk hvk
          by_cases h34 : d = 34
          · have t1 : ((bs [d]).toList == [34]) = true := by rw [bs_toList, h34]; rfl
            have k0 : w5.cell? ⟨P, 0, none⟩ = some (.string S) := by rw [HS.out]; exact HL5.out.at'.at (i := 0) rfl
            have k1 := HL5.out.at'.at (i := 1) (v := .int .i64 (ak : Int)) rfl
            have f1 := HL5.out.at'.frozen 1
            have f2 := HL5.out.at'.frozen 2
            have k2 := HL5.out.at'.at (i := 2) (v := .bool b) rfl
            obtain ⟨ak2, hak2⟩ : ∃ n, n = ak1 + 1 := ⟨_, rfl⟩
            have ha2 : (ak1 : Int) + 1 = (ak2 : Int) := by omega
            have HWK2 : Hid (IntKind.i64.wrap (ak2 : Int) = (ak2 : Int)) := by show _ = _; rw [IntKind.wrap_i64]; omega
            have HVK2 : Hid (wrap64 (ak2 : Int) = (ak2 : Int)) := by show _ = _; unfold wrap64; omega
            have HAK2 : Hid (ak2 = ak + 2) := by show _ = _; rw [hak2, HAK1.out]
            have HAK2b := Lib.hid hak2
            clear hak2
            have HLX : Hid (lexQ (s.drop ak) = ([], 2, match s.drop ak1 with | [] => false | c :: _ => decide (c ≠ 32))) := by
              show _ = _
              rw [HDR.out, h34, lexQ_end]
            clear h34
            obtain ⟨w6, hw6⟩ : ∃ w6, w6 = w5.setCell ⟨P, 1, none⟩ (.int .i64 (ak1 : Int)) := ⟨_, rfl⟩
            have HL6 : Hid (LxAt P s ak1 b w w6) := by show LxAt _ _ _ _ _ _; rw [hw6]; exact HL5.out.go
            have HW6 := Lib.hid hw6
            clear hw6
            have hwk := HWK.out
            have hvk := HVK.out
            have hwk2 := HWK2.out
            have hvk2 := HVK2.out
            go_upto_region 10 with fail
            rw [← HW6.out]
            clear HW6 hwk hvk hwk2 hvk2
            clear k0 k1 k2 f1 f2
            have k0 : w6.cell? ⟨P, 0, none⟩ = some (.string S) := by rw [HS.out]; exact HL6.out.at'.at (i := 0) rfl
            have k1 := HL6.out.at'.at (i := 1) (v := .int .i64 (ak1 : Int)) rfl
            have f1 := HL6.out.at'.frozen 1
            have f2 := HL6.out.at'.frozen 2
            have k2 := HL6.out.at'.at (i := 2) (v := .bool b) rfl
            by_cases hal2 : ak1 < sl
            · obtain ⟨e, he⟩ : ∃ e, s[ak1]? = some e := ⟨s[ak1]'(by rw [← HSL.out]; exact hal2), by simp⟩
              have hdr2 : s.drop ak1 = e :: s.drop ak2 := by
                obtain ⟨h1, h2⟩ := List.getElem?_eq_some_iff.1 he
                rw [List.drop_eq_getElem_cons h1, h2, HAK2b.out]
              have hie : ∀ h : ak1 < S.size, S[ak1]'h = e := by
                have e' := HS.out
                subst e'
                exact fun h => bs_get he h
              have g2 : decide ((ak1 : Int) < (sl : Int)) = true := decide_eq_true (by omega)
              by_cases h32 : e = 32
              · have he2 : ((e.toNat : Int) == 32) = true := by rw [h32]; rfl
                have HFIN : Hid (lexT s a0 b = (t, ak2, b)) := by
                  show _ = _
                  obtain ⟨i1, i2, i3⟩ := HI.out
                  rw [HLX.out, hdr2, h32] at i1 i2 i3
                  rw [HLT.out, ← HA1.out, i1, i2, i3, HAK2.out]
                  simp
                clear hdr2 he h32
                have hwk := HWK.out
                have hvk := HVK.out
                have hwk2 := HWK2.out
                have hvk2 := HVK2.out
                go_quiet (fail)
                obtain ⟨w7, hw7⟩ : ∃ x, x = w6.drewN nq := ⟨_, rfl⟩
                have hbw7 : Below w6.heap.size w6 w7 := by rw [hw7]; exact below_drewN _ _
                rw [← hw7]
                have HL7 : Hid (LxAt P s ak1 b w w7) := HL6.out.blw hbw7
                clear hw7 hbw7
                clear k0 k1 k2 f1 f2
                have k0 : w7.cell? ⟨P, 0, none⟩ = some (.string S) := by rw [HS.out]; exact HL7.out.at'.at (i := 0) rfl
                have k1 := HL7.out.at'.at (i := 1) (v := .int .i64 (ak1 : Int)) rfl
                have f1 := HL7.out.at'.frozen 1
                have f2 := HL7.out.at'.frozen 2
                have k2 := HL7.out.at'.at (i := 2) (v := .bool b) rfl
                have HL8 : Hid (LxAt P s ak2 b w (w7.setCell ⟨P, 1, none⟩ (.int .i64 (ak2 : Int)))) := HL7.out.go
                go_wp2
                go_ret
                rw [HFIN.out]
                exact ⟨rfl, HL8.out⟩
              · have he2 : ((e.toNat : Int) == 32) = false := by
                  simp only [beq_eq_false_iff_ne, ne_eq]
                  intro e'
                  exact h32 (UInt8.toNat_inj.1 (by show e.toNat = 32; omega))
                have HFIN : Hid (lexT s a0 b = (t, ak2, true)) := by
                  show _ = _
                  obtain ⟨i1, i2, i3⟩ := HI.out
                  rw [HLX.out, hdr2] at i1 i2 i3
                  simp only [decide_eq_true h32] at i3
                  rw [HLT.out, ← HA1.out, i1, i2, i3, HAK2.out]
                  simp
                clear hdr2 he h32
                have hwk := HWK.out
                have hvk := HVK.out
                have hwk2 := HWK2.out
                have hvk2 := HVK2.out
                go_quiet (fail)
                obtain ⟨w7, hw7⟩ : ∃ x, x = w6.drewN nq := ⟨_, rfl⟩
                have hbw7 : Below w6.heap.size w6 w7 := by rw [hw7]; exact below_drewN _ _
                rw [← hw7]
                have HL7 : Hid (LxAt P s ak1 b w w7) := HL6.out.blw hbw7
                clear hw7 hbw7
                clear k0 k1 k2 f1 f2
                have k0 : w7.cell? ⟨P, 0, none⟩ = some (.string S) := by rw [HS.out]; exact HL7.out.at'.at (i := 0) rfl
                have k1 := HL7.out.at'.at (i := 1) (v := .int .i64 (ak1 : Int)) rfl
                have f1 := HL7.out.at'.frozen 1
                have f2 := HL7.out.at'.frozen 2
                have k2 := HL7.out.at'.at (i := 2) (v := .bool b) rfl
                obtain ⟨w7b, hw7b⟩ : ∃ w7b, w7b = w7.setCell ⟨P, 2, none⟩ (.bool true) := ⟨_, rfl⟩
                have HL7b : Hid (LxAt P s ak1 true w w7b) := by show LxAt _ _ _ _ _ _; rw [hw7b]; exact HL7.out.bad
                have HW7b := Lib.hid hw7b
                clear hw7b
                go_upto_region 12 with fail
                rw [← HW7b.out]
                clear HW7b
                clear k0 k1 k2 f1 f2
                have k0 : w7b.cell? ⟨P, 0, none⟩ = some (.string S) := by rw [HS.out]; exact HL7b.out.at'.at (i := 0) rfl
                have k1 := HL7b.out.at'.at (i := 1) (v := .int .i64 (ak1 : Int)) rfl
                have f1 := HL7b.out.at'.frozen 1
                have f2 := HL7b.out.at'.frozen 2
                have k2 := HL7b.out.at'.at (i := 2) (v := .bool true) rfl
                have HL8 : Hid (LxAt P s ak2 true w (w7b.setCell ⟨P, 1, none⟩ (.int .i64 (ak2 : Int)))) := HL7b.out.go
                go_wp2
                go_ret
                rw [HFIN.out]
                exact ⟨rfl, HL8.out⟩
            · have hdr2 : s.drop ak1 = [] := List.drop_eq_nil_of_le (by rw [← HSL.out]; omega)
              have g2 : decide ((ak1 : Int) < (sl : Int)) = false := decide_eq_false (by omega)
              have HFIN : Hid (lexT s a0 b = (t, ak2, b)) := by
                show _ = _
                obtain ⟨i1, i2, i3⟩ := HI.out
                rw [HLX.out, hdr2] at i1 i2 i3
                rw [HLT.out, ← HA1.out, i1, i2, i3, HAK2.out]
                simp
              clear hdr2
              have hwk := HWK.out
              have hvk := HVK.out
              have hwk2 := HWK2.out
              have hvk2 := HVK2.out
              go_quiet (fail)
              obtain ⟨w7, hw7⟩ : ∃ x, x = w6.drewN nq := ⟨_, rfl⟩
              have hbw7 : Below w6.heap.size w6 w7 := by rw [hw7]; exact below_drewN _ _
              rw [← hw7]
              have HL7 : Hid (LxAt P s ak1 b w w7) := HL6.out.blw hbw7
              clear hw7 hbw7
              clear k0 k1 k2 f1 f2
              have k0 : w7.cell? ⟨P, 0, none⟩ = some (.string S) := by rw [HS.out]; exact HL7.out.at'.at (i := 0) rfl
              have k1 := HL7.out.at'.at (i := 1) (v := .int .i64 (ak1 : Int)) rfl
              have f1 := HL7.out.at'.frozen 1
              have f2 := HL7.out.at'.frozen 2
              have k2 := HL7.out.at'.at (i := 2) (v := .bool b) rfl
              have HL8 : Hid (LxAt P s ak2 b w (w7.setCell ⟨P, 1, none⟩ (.int .i64 (ak2 : Int)))) := HL7.out.go
              go_wp2
              go_ret
              rw [HFIN.out]
              exact ⟨rfl, HL8.out⟩
          · have t1 : ((bs [d]).toList == [34]) = false := by rw [bs_toList]; simpa using h34
            by_cases h92 : d = 92
            · by_cases hal2 : ak1 < sl
              · have t2 : ((bs [d]).toList == [92]) = true := by rw [bs_toList, h92]; rfl
                have k0 : w5.cell? ⟨P, 0, none⟩ = some (.string S) := by rw [HS.out]; exact HL5.out.at'.at (i := 0) rfl
                have k1 := HL5.out.at'.at (i := 1) (v := .int .i64 (ak : Int)) rfl
                have f1 := HL5.out.at'.frozen 1
                have f2 := HL5.out.at'.frozen 2
                have k2 := HL5.out.at'.at (i := 2) (v := .bool b) rfl
                obtain ⟨ak2, hak2⟩ : ∃ n, n = ak1 + 1 := ⟨_, rfl⟩
                have ha2 : (ak1 : Int) + 1 = (ak2 : Int) := by omega
                have HWK2 : Hid (IntKind.i64.wrap (ak2 : Int) = (ak2 : Int)) := by show _ = _; rw [IntKind.wrap_i64]; omega
                have HVK2 : Hid (wrap64 (ak2 : Int) = (ak2 : Int)) := by show _ = _; unfold wrap64; omega
                have HAK2 : Hid (ak2 = ak + 2) := by show _ = _; rw [hak2, HAK1.out]
                have HAK2b := Lib.hid hak2
                clear hak2
                obtain ⟨e, he⟩ : ∃ e, s[ak1]? = some e := ⟨s[ak1]'(by rw [← HSL.out]; exact hal2), by simp⟩
                have hdr2 : s.drop ak1 = e :: s.drop ak2 := by
                  obtain ⟨h1, h2⟩ := List.getElem?_eq_some_iff.1 he
                  rw [List.drop_eq_getElem_cons h1, h2, HAK2b.out]
                have HLX : Hid (lexQ (s.drop ak) = (e :: (lexQ (s.drop ak2)).1, (lexQ (s.drop ak2)).2.1 + 2, (lexQ (s.drop ak2)).2.2)) := by
                  show _ = _
                  rw [HDR.out, h92, hdr2, lexQ_esc]
                have HI2 : Hid (T.1 = (t ++ [e]) ++ (lexQ (s.drop ak2)).1 ∧ a1 + T.2.1 = ak2 + (lexQ (s.drop ak2)).2.1 ∧ T.2.2 = (lexQ (s.drop ak2)).2.2) := by
                  obtain ⟨i1, i2, i3⟩ := HI.out
                  rw [HLX.out] at i1 i2 i3
                  refine ⟨by rw [i1]; simp, ?_, i3⟩
                  have := HAK2.out
                  simp only at i2
                  omega
                have hex2 : S.extract ak1 ak2 = bs [e] := by rw [HS.out, HAK2b.out]; exact bs_oneL he
                have g2 : decide ((ak1 : Int) < (sl : Int)) = true := decide_eq_true (by omega)
                have hlo2 : (0 : Int) ≤ (ak1 : Int) := by omega
                have hle3 : (ak1 : Int) ≤ (ak2 : Int) := by have := HAK2b.out; omega
                have hle4 : (ak2 : Int) ≤ (sl : Int) := by have := HAK2b.out; omega
                have hak2s : ak2 ≤ sl := by have := HAK2b.out; omega
                have htk2 : (t ++ [e]).length ≤ ak2 := by have h1 := HAK2b.out; have h2 := HAK1.out; simp; omega
                have hcat : ¬ 9223372036854775807 < (bs t).size + (bs [e]).size := by rw [bs_size, bs_size]; simp; omega
                have happ : bs t ++ bs [e] = bs (t ++ [e]) := by rw [bs_append]
                clear he hdr2 h92 h34
                have hwk := HWK.out
                have hvk := HVK.out
                have hwk2 := HWK2.out
                have hvk2 := HVK2.out
                go_upto_region 14 with fail
                go_quiet (fail)
                obtain ⟨w6, hw6⟩ : ∃ x, x = w5.drewN nq := ⟨_, rfl⟩
                have hbw6 : Below w5.heap.size w5 w6 := by rw [hw6]; exact below_drewN _ _
                rw [← hw6]
                have HL6 : Hid (LxAt P s ak b w w6) := HL5.out.blw hbw6
                clear hw6 hbw6
                clear k0 k1 k2 f1 f2
                have k0 : w6.cell? ⟨P, 0, none⟩ = some (.string S) := by rw [HS.out]; exact HL6.out.at'.at (i := 0) rfl
                have k1 := HL6.out.at'.at (i := 1) (v := .int .i64 (ak : Int)) rfl
                have f1 := HL6.out.at'.frozen 1
                have f2 := HL6.out.at'.frozen 2
                have k2 := HL6.out.at'.at (i := 2) (v := .bool b) rfl
                have HL7 : Hid (LxAt P s ak1 b w (w6.setCell ⟨P, 1, none⟩ (.int .i64 (ak1 : Int)))) := HL6.out.go
                go_upto_region 16 with fail
                generalize w6.setCell ⟨P, 1, none⟩ (.int .i64 (ak1 : Int)) = w7 at *
                clear k0 k1 k2 f1 f2
                have k0 : w7.cell? ⟨P, 0, none⟩ = some (.string S) := by rw [HS.out]; exact HL7.out.at'.at (i := 0) rfl
                have k1 := HL7.out.at'.at (i := 1) (v := .int .i64 (ak1 : Int)) rfl
                have f1 := HL7.out.at'.frozen 1
                have f2 := HL7.out.at'.frozen 2
                have k2 := HL7.out.at'.at (i := 2) (v := .bool b) rfl
                go_quiet (fail)
                obtain ⟨w8, hw8⟩ : ∃ x, x = w7.drewN nq := ⟨_, rfl⟩
                have hbw8 : Below w7.heap.size w7 w8 := by rw [hw8]; exact below_drewN _ _
                rw [← hw8]
                have HL8 : Hid (LxAt P s ak1 b w w8) := HL7.out.blw hbw8
                clear hw8 hbw8
                clear k0 k1 k2 f1 f2
                have k0 : w8.cell? ⟨P, 0, none⟩ = some (.string S) := by rw [HS.out]; exact HL8.out.at'.at (i := 0) rfl
                have k1 := HL8.out.at'.at (i := 1) (v := .int .i64 (ak1 : Int)) rfl
                have f1 := HL8.out.at'.frozen 1
                have f2 := HL8.out.at'.frozen 2
                have k2 := HL8.out.at'.at (i := 2) (v := .bool b) rfl
                have HL9 : Hid (LxAt P s ak2 b w (w8.setCell ⟨P, 1, none⟩ (.int .i64 (ak2 : Int)))) := HL8.out.go
                go_wp2
                go_roundg (sl - ak2)
                case measure => clear hwk hvk hwk2 hvk2; have := HGK.out; have := HAK2.out; omega
                case rel => exact ⟨ak2, t ++ [e], rfl, hak2s, htk2, rfl, HI2, HL9⟩
              · have t2 : ((bs [d]).toList == [92]) = true := by rw [bs_toList, h92]; rfl
                have hdr2 : s.drop ak1 = [] := List.drop_eq_nil_of_le (by rw [← HSL.out]; omega)
                have g2 : decide ((ak1 : Int) < (sl : Int)) = false := decide_eq_false (by omega)
                have HLX : Hid (lexQ (s.drop ak) = (d :: (lexQ (s.drop ak1)).1, (lexQ (s.drop ak1)).2.1 + 1, (lexQ (s.drop ak1)).2.2)) := by
                  show _ = _
                  rw [HDR.out]
                  exact lexQ_sign d _ h34 (.inr hdr2)
                have HI2 : Hid (T.1 = (t ++ [d]) ++ (lexQ (s.drop ak1)).1 ∧ a1 + T.2.1 = ak1 + (lexQ (s.drop ak1)).2.1 ∧ T.2.2 = (lexQ (s.drop ak1)).2.2) := by
                  obtain ⟨i1, i2, i3⟩ := HI.out
                  rw [HLX.out] at i1 i2 i3
                  refine ⟨by rw [i1]; simp, ?_, i3⟩
                  have := HAK1.out
                  simp only at i2
                  omega
                have k0 : w5.cell? ⟨P, 0, none⟩ = some (.string S) := by rw [HS.out]; exact HL5.out.at'.at (i := 0) rfl
                have k1 := HL5.out.at'.at (i := 1) (v := .int .i64 (ak : Int)) rfl
                have f1 := HL5.out.at'.frozen 1
                have f2 := HL5.out.at'.frozen 2
                have k2 := HL5.out.at'.at (i := 2) (v := .bool b) rfl
                have htk2 : (t ++ [d]).length ≤ ak1 := by have h2 := HAK1.out; simp; omega
                have hak1s : ak1 ≤ sl := by have h2 := HAK1.out; omega
                have hcat : ¬ 9223372036854775807 < (bs t).size + (bs [d]).size := by rw [bs_size, bs_size]; simp; omega
                have happ : bs t ++ bs [d] = bs (t ++ [d]) := by rw [bs_append]
                clear h92 hdr2 h34
                have hwk := HWK.out
                have hvk := HVK.out
                go_upto_region 14 with fail
                go_quiet (fail)
                obtain ⟨w6, hw6⟩ : ∃ x, x = w5.drewN nq := ⟨_, rfl⟩
                have hbw6 : Below w5.heap.size w5 w6 := by rw [hw6]; exact below_drewN _ _
                rw [← hw6]
                have HL6 : Hid (LxAt P s ak b w w6) := HL5.out.blw hbw6
                clear hw6 hbw6
                clear k0 k1 k2 f1 f2
                have k0 : w6.cell? ⟨P, 0, none⟩ = some (.string S) := by rw [HS.out]; exact HL6.out.at'.at (i := 0) rfl
                have k1 := HL6.out.at'.at (i := 1) (v := .int .i64 (ak : Int)) rfl
                have f1 := HL6.out.at'.frozen 1
                have f2 := HL6.out.at'.frozen 2
                have k2 := HL6.out.at'.at (i := 2) (v := .bool b) rfl
                have HL7 : Hid (LxAt P s ak1 b w (w6.setCell ⟨P, 1, none⟩ (.int .i64 (ak1 : Int)))) := HL6.out.go
                go_wp2
                go_roundg (sl - ak1)
                case measure => clear hwk hvk; have := HGK.out; have := HAK1.out; omega
                case rel => exact ⟨ak1, t ++ [d], rfl, hak1s, htk2, rfl, HI2, HL7⟩
            · have t2 : ((bs [d]).toList == [92]) = false := by rw [bs_toList]; simpa using h92
              have HLX : Hid (lexQ (s.drop ak) = (d :: (lexQ (s.drop ak1)).1, (lexQ (s.drop ak1)).2.1 + 1, (lexQ (s.drop ak1)).2.2)) := by
                show _ = _
                rw [HDR.out]
                exact lexQ_sign d _ h34 (.inl h92)
              have HI2 : Hid (T.1 = (t ++ [d]) ++ (lexQ (s.drop ak1)).1 ∧ a1 + T.2.1 = ak1 + (lexQ (s.drop ak1)).2.1 ∧ T.2.2 = (lexQ (s.drop ak1)).2.2) := by
                obtain ⟨i1, i2, i3⟩ := HI.out
                rw [HLX.out] at i1 i2 i3
                refine ⟨by rw [i1]; simp, ?_, i3⟩
                have := HAK1.out
                simp only at i2
                omega
              have k0 : w5.cell? ⟨P, 0, none⟩ = some (.string S) := by rw [HS.out]; exact HL5.out.at'.at (i := 0) rfl
              have k1 := HL5.out.at'.at (i := 1) (v := .int .i64 (ak : Int)) rfl
              have f1 := HL5.out.at'.frozen 1
              have f2 := HL5.out.at'.frozen 2
              have k2 := HL5.out.at'.at (i := 2) (v := .bool b) rfl
              have htk2 : (t ++ [d]).length ≤ ak1 := by have h2 := HAK1.out; simp; omega
              have hak1s : ak1 ≤ sl := by have h2 := HAK1.out; omega
              have hcat : ¬ 9223372036854775807 < (bs t).size + (bs [d]).size := by rw [bs_size, bs_size]; simp; omega
              have happ : bs t ++ bs [d] = bs (t ++ [d]) := by rw [bs_append]
              clear h92 h34
              have hwk := HWK.out
              have hvk := HVK.out
              go_upto_region 14 with fail
              go_quiet (fail)
              obtain ⟨w6, hw6⟩ : ∃ x, x = w5.drewN nq := ⟨_, rfl⟩
              have hbw6 : Below w5.heap.size w5 w6 := by rw [hw6]; exact below_drewN _ _
              rw [← hw6]
              have HL6 : Hid (LxAt P s ak b w w6) := HL5.out.blw hbw6
              clear hw6 hbw6
              clear k0 k1 k2 f1 f2
              have k0 : w6.cell? ⟨P, 0, none⟩ = some (.string S) := by rw [HS.out]; exact HL6.out.at'.at (i := 0) rfl
              have k1 := HL6.out.at'.at (i := 1) (v := .int .i64 (ak : Int)) rfl
              have f1 := HL6.out.at'.frozen 1
              have f2 := HL6.out.at'.frozen 2
              have k2 := HL6.out.at'.at (i := 2) (v := .bool b) rfl
              have HL7 : Hid (LxAt P s ak1 b w (w6.setCell ⟨P, 1, none⟩ (.int .i64 (ak1 : Int)))) := HL6.out.go
              go_wp2
              go_roundg (sl - ak1)
              case measure => clear hwk hvk; have := HGK.out; have := HAK1.out; omega
              case rel => exact ⟨ak1, t ++ [d], rfl, hak1s, htk2, rfl, HI2, HL7⟩
        · have hdr : s.drop ak = [] := List.drop_eq_nil_of_le (by rw [← HSL.out]; omega)
          have g1 : decide ((ak : Int) < (sl : Int)) = false := decide_eq_false (by omega)
          have HFIN : Hid (lexT s a0 b = (t, ak, true)) := by
            show _ = _
            obtain ⟨i1, i2, i3⟩ := HI.out
            rw [hdr] at i1 i2 i3
            rw [HLT.out, ← HA1.out, i1, i2, i3]
            simp [lexQ]
          clear hdr
          go_upto_region 6 with fail
          go_quiet (fail)
          obtain ⟨w4, hw4⟩ : ∃ x, x = wr.drewN nq := ⟨_, rfl⟩
          have hbw4 : Below wr.heap.size wr w4 := by rw [hw4]; exact below_drewN _ _
          rw [← hw4]
          have HL4 : Hid (LxAt P s ak b w w4) := HL.out.blw hbw4
          clear hw4 hbw4
          clear k0 k1
          have k0 : w4.cell? ⟨P, 0, none⟩ = some (.string S) := by rw [HS.out]; exact HL4.out.at'.at (i := 0) rfl
          have k1 := HL4.out.at'.at (i := 1) (v := .int .i64 (ak : Int)) rfl
          have f1 := HL4.out.at'.frozen 1
          have f2 := HL4.out.at'.frozen 2
          have k2 := HL4.out.at'.at (i := 2) (v := .bool b) rfl
          have HL5 : Hid (LxAt P s ak true w (w4.setCell ⟨P, 2, none⟩ (.bool true))) := HL4.out.bad
          go_wp2
          go_ret
          rw [HFIN.out]
          exact ⟨rfl, HL5.out⟩
    · have he : ((c.toNat : Int) == 34) = false := by
        simp only [beq_eq_false_iff_ne, ne_eq]
        intro e
        exact h34 (UInt8.toNat_inj.1 (by show c.toNat = 34; omega))
      have HFIN : Hid (lexT s a0 b = ([], a0, true)) := by
        show _ = _
        unfold lexT
        rw [hd]
        simp only [if_neg h34]
      clear hc hd h34
      go_enter Tryz.func29, Tryz.ntmps29
      go_upto_region 1 with fail
      go_quiet (fail)
      obtain ⟨w1, hw1⟩ : ∃ x, x = w.drewN nq := ⟨_, rfl⟩
      have hbw1 : Below w.heap.size w w1 := by rw [hw1]; exact below_drewN _ _
      rw [← hw1]
      have HL1 : Hid (LxAt P s a0 b w w1) := A0.out.blw hbw1
      clear hw1 hbw1
      clear k0 k1 f1 f2
      have k0 : w1.cell? ⟨P, 0, none⟩ = some (.string S) := by rw [HS.out]; exact HL1.out.at'.at (i := 0) rfl
      have k1 := HL1.out.at'.at (i := 1) (v := .int .i64 (a0 : Int)) rfl
      have f1 := HL1.out.at'.frozen 1
      have f2 := HL1.out.at'.frozen 2
      have k2 := HL1.out.at'.at (i := 2) (v := .bool b) rfl
      have HL5 : Hid (LxAt P s a0 true w (w1.setCell ⟨P, 2, none⟩ (.bool true))) := HL1.out.bad
      go_wp2
      go_ret
      rw [HFIN.out]
      exact ⟨rfl, HL5.out⟩
  · have hd : s.drop a0 = [] := List.drop_eq_nil_of_le (by rw [← HSL.out]; omega)
    have g1 : decide (sl ≤ a0) = true := decide_eq_true (by omega)
    have g1' : decide ((sl : Int) ≤ (a0 : Int)) = true := decide_eq_true (by omega)
    have HFIN : Hid (lexT s a0 b = ([], a0, true)) := by
      show _ = _
      unfold lexT
      rw [hd]
    clear hd
    go_enter Tryz.func29, Tryz.ntmps29
    go_upto_region 1 with fail
    go_quiet (fail)
    obtain ⟨w1, hw1⟩ : ∃ x, x = w.drewN nq := ⟨_, rfl⟩
    have hbw1 : Below w.heap.size w w1 := by rw [hw1]; exact below_drewN _ _
    rw [← hw1]
    have HL1 : Hid (LxAt P s a0 b w w1) := A0.out.blw hbw1
    clear hw1 hbw1
    clear k0 k1 f1 f2
    have k0 : w1.cell? ⟨P, 0, none⟩ = some (.string S) := by rw [HS.out]; exact HL1.out.at'.at (i := 0) rfl
    have k1 := HL1.out.at'.at (i := 1) (v := .int .i64 (a0 : Int)) rfl
    have f1 := HL1.out.at'.frozen 1
    have f2 := HL1.out.at'.frozen 2
    have k2 := HL1.out.at'.at (i := 2) (v := .bool b) rfl
    have HL5 : Hid (LxAt P s a0 true w (w1.setCell ⟨P, 2, none⟩ (.bool true))) := HL1.out.bad
    go_wp2
    go_ret
    rw [HFIN.out]
    exact ⟨rfl, HL5.out⟩
end Go.Proofs.YtfjpgjkfmcedoaaGreatDoor
