/- Contract of PairsOf of the document's answer: the pairs of which a text is the text, or a number of an error. -/
import Derived.Test.YtmjjnlhmconheaaDoorParse
import Derived.Test.YtmjjnlhmconheaaDoorNumber
namespace Go.Proofs.YtmjjnlhmconheaaDoor
open Go.ChangeShapes Go.WideShapes Go.ChangeAt Go.RowKit
open Num

theorem st_ok {r : List UInt8} (h : (cutAt 58 r).2.2 = false) : (stepT r).2.2 = false := by
  have : keyT r = ([], [], false) := by unfold keyT; rw [if_neg (by simp [h])]
  unfold stepT; rw [this]; simp
theorem st_num {r : List UInt8} (h : numB (cutAt 58 r).1 = none) : (stepT r).2.2 = false := by
  have : keyT r = ([], [], false) := by unfold keyT; rw [h]; simp
  unfold stepT; rw [this]; simp
theorem st_range {r : List UInt8} {n : Int} (h : numB (cutAt 58 r).1 = some n) (hr : ¬ (0 ≤ n ∧ n < ((cutAt 58 r).2.1.length : Int))) : (stepT r).2.2 = false := by
  have : (keyT r).2.2 = false ∨ (keyT r).2.1 = [] := by
    unfold keyT
    rw [h]
    simp only
    split
    · split
      · right
        simp only [List.drop_eq_nil_iff]
        omega
      · exact .inl rfl
    · exact .inl rfl
  unfold stepT
  rw [if_neg]
  rintro ⟨h1, h2⟩
  rcases this with h | h
  · rw [h] at h1; cases h1
  · rw [h] at h2; simp at h2
theorem st_key {r : List UInt8} {k : Nat} (h0 : (cutAt 58 r).2.2 = true) (h : numB (cutAt 58 r).1 = some (k : Int)) (hk : k < (cutAt 58 r).2.1.length) :
    keyT r = ((cutAt 58 r).2.1.take k, (cutAt 58 r).2.1[k] :: (cutAt 58 r).2.1.drop (k + 1), true) := by
  unfold keyT
  rw [if_pos h0, h]
  simp only
  rw [if_pos (by omega), Int.toNat_natCast, List.drop_eq_getElem_cons hk]
theorem stepT_of {r key tl : List UInt8} {c : UInt8} (h : keyT r = (key, c :: tl, true)) :
    (c ≠ 32 → (stepT r).2.2 = false) ∧ ((cutAt 10 tl).2.2 = false → (stepT r).2.2 = false) ∧ (numB (cutAt 10 tl).1 = none → (stepT r).2.2 = false) ∧
    (∀ v, c = 32 → (cutAt 10 tl).2.2 = true → numB (cutAt 10 tl).1 = some v → stepT r = ((key, v), (cutAt 10 tl).2.1, true)) := by
  have h1 : (keyT r).1 = key := by rw [h]
  have h2 : (keyT r).2.1 = c :: tl := by rw [h]
  have h3 : (keyT r).2.2 = true := by rw [h]
  unfold stepT
  rw [h1, h2, h3, List.head?_cons, List.tail_cons]
  refine ⟨fun hc => ?_, fun he => ?_, fun hn => ?_, fun v hc he hn => ?_⟩
  · rw [if_neg (by simpa using hc)]
  · split
    · rw [if_neg (by rw [he]; simp)]
    · rfl
  · split
    · split
      · rw [hn]
      · rfl
    · rfl
  · subst hc
    rw [if_pos ⟨rfl, rfl⟩, if_pos he, hn]
theorem st_blank {r : List UInt8} {k : Nat} (h0 : (cutAt 58 r).2.2 = true) (h : numB (cutAt 58 r).1 = some (k : Int)) (hk : k < (cutAt 58 r).2.1.length) (hb : (cutAt 58 r).2.1[k] ≠ 32) : (stepT r).2.2 = false :=
  (stepT_of (st_key h0 h hk)).1 hb
theorem st_end {r : List UInt8} {k : Nat} (h0 : (cutAt 58 r).2.2 = true) (h : numB (cutAt 58 r).1 = some (k : Int)) (hk : k < (cutAt 58 r).2.1.length) (he : (cutAt 10 ((cutAt 58 r).2.1.drop (k + 1))).2.2 = false) : (stepT r).2.2 = false :=
  (stepT_of (st_key h0 h hk)).2.1 he
theorem st_val {r : List UInt8} {k : Nat} (h0 : (cutAt 58 r).2.2 = true) (h : numB (cutAt 58 r).1 = some (k : Int)) (hk : k < (cutAt 58 r).2.1.length) (he : numB (cutAt 10 ((cutAt 58 r).2.1.drop (k + 1))).1 = none) : (stepT r).2.2 = false :=
  (stepT_of (st_key h0 h hk)).2.2.1 he
theorem st_all {r : List UInt8} {k : Nat} {v : Int} (h0 : (cutAt 58 r).2.2 = true) (h : numB (cutAt 58 r).1 = some (k : Int)) (hk : k < (cutAt 58 r).2.1.length) (hb : (cutAt 58 r).2.1[k] = 32)
    (he : (cutAt 10 ((cutAt 58 r).2.1.drop (k + 1))).2.2 = true) (hv : numB (cutAt 10 ((cutAt 58 r).2.1.drop (k + 1))).1 = some v) :
    stepT r = (((cutAt 58 r).2.1.take k, v), (cutAt 10 ((cutAt 58 r).2.1.drop (k + 1))).2.1, true) :=
  (stepT_of (st_key h0 h hk)).2.2.2 v hb he hv

def OfSaid (l : List UInt8) (w : World) (e : Ending) (w' : World) : Prop :=
  (∃ v, e = .returned (.tuple #[v, .int .i64 (if (pairsL l).isSome then 0 else 4)]) ∧ IsPairs w' v (((pairsL l).getD []).map conv)) ∧ Below w.heap.size w w'
theorem ofSaid_none {l : List UInt8} {w w' : World} (h : pairsL l = none) (hb : Below w.heap.size w w') : OfSaid l w (.returned (.tuple #[.slice none 0 0, .int .i64 4])) w' :=
  ⟨⟨_, by rw [h]; rfl, by rw [h]; exact isPairs_nil _⟩, hb⟩
theorem ofSaid_some {l : List UInt8} {w w' : World} {v : Value} {ps : List (List UInt8 × Int)} (h : pairsL l = some ps) (hb : Below w.heap.size w w') (hv : IsPairs w' v (ps.map conv)) : OfSaid l w (.returned (.tuple #[v, .int .i64 0])) w' :=
  ⟨⟨_, by rw [h]; rfl, by rw [h]; exact hv⟩, hb⟩
theorem upTo_58 (r : List UInt8) (w : World) (h : r.length ≤ 1000000) : Calls Tryd.prog 22 #[.string (bs r), .int .u8 58] w fun e w' => e = .returned (.tuple #[.string (bs (cutAt 58 r).1), .string (bs (cutAt 58 r).2.1), .bool (cutAt 58 r).2.2]) ∧ Below w.heap.size w w' := by
  have := upTo_any (bs r) 58 w (by rw [bs_size]; unfold maxLen; omega)
  rw [bs_data] at this
  refine this.mono ?_
  rintro e w' ⟨rfl, n, rfl⟩
  exact ⟨rfl, below_drewN _ _⟩
theorem upTo_10 (r : List UInt8) (w : World) (h : r.length ≤ 1000000) : Calls Tryd.prog 22 #[.string (bs r), .int .u8 10] w fun e w' => e = .returned (.tuple #[.string (bs (cutAt 10 r).1), .string (bs (cutAt 10 r).2.1), .bool (cutAt 10 r).2.2]) ∧ Below w.heap.size w w' := by
  have := upTo_any (bs r) 10 w (by rw [bs_size]; unfold maxLen; omega)
  rw [bs_data] at this
  refine this.mono ?_
  rintro e w' ⟨rfl, n, rfl⟩
  exact ⟨rfl, below_drewN _ _⟩
theorem number_bs (a : List UInt8) (w : World) (h : a.length ≤ 1000000) : Calls Tryd.prog 23 #[.string (bs a)] w fun e w' => (∃ x, e = .returned (.tuple #[.int .i64 x, .bool (numB a).isSome]) ∧ ∀ v, numB a = some v → x = v) ∧ w' = w := by
  have := number_any (bs a) w (by rw [bs_size]; unfold maxLen; omega)
  unfold NumSaid at this
  rw [bs_data] at this
  exact this
theorem number_no (a : List UInt8) (w : World) (h : a.length ≤ 1000000) (hn : numB a = none) : Calls Tryd.prog 23 #[.string (bs a)] w fun e w' => (∃ x, e = .returned (.tuple #[.int .i64 x, .bool false])) ∧ w' = w := by
  refine (number_bs a w h).mono ?_
  rintro e w' ⟨⟨x, rfl, _⟩, rfl⟩
  exact ⟨⟨x, by rw [hn]; rfl⟩, rfl⟩
theorem number_yes (a : List UInt8) (v : Int) (w : World) (h : a.length ≤ 1000000) (hn : numB a = some v) : Calls Tryd.prog 23 #[.string (bs a)] w fun e w' => e = .returned (.tuple #[.int .i64 v, .bool true]) ∧ w' = w := by
  refine (number_bs a w h).mono ?_
  rintro e w' ⟨⟨x, rfl, hx⟩, rfl⟩
  exact ⟨by rw [hx v hn, hn]; rfl, rfl⟩
theorem bs_at (l : List UInt8) (k : Nat) (h : k < (bs l).size) (h' : k < l.length) : (bs l)[k]'h = l[k]'h' := by
  have : (bs l).data.toList[k]? = some l[k] := by rw [bs_data]; exact List.getElem?_eq_getElem h'
  rw [List.getElem?_eq_getElem (by simpa using h), Option.some.injEq] at this
  exact this

theorem bs_is (l : List UInt8) (k : Nat) (h : k < (bs l).size) (h' : k < l.length) (he : l[k] = 32) : ((((bs l)[k]'h).toNat : Int) != 32) = false := by
  have e := bs_at l k h h'
  rw [he] at e
  have e2 := congrArg UInt8.toNat e
  rw [show (32 : UInt8).toNat = 32 from rfl] at e2
  simp [e2]
theorem bs_isnt (l : List UInt8) (k : Nat) (h : k < (bs l).size) (h' : k < l.length) (he : l[k] ≠ 32) : ((((bs l)[k]'h).toNat : Int) != 32) = true := by
  have e := bs_at l k h h'
  rw [bne_iff_ne]
  intro e2
  apply he
  rw [← e]
  exact UInt8.toNat_inj.1 (by rw [show (32 : UInt8).toNat = 32 from rfl]; omega)
set_option maxRecDepth 100000 in
set_option maxHeartbeats 4000000 in
theorem pairsOf_any (l : List UInt8) (w : World) (hl : l.length ≤ 1000000) :
    Calls Tryd.prog 15 #[.string (bs l)] w fun e w' => OfSaid l w e w' := by
  obtain ⟨i0, hi, hz0, hz1, hz2⟩ := info_parts infoPair
  go_enter Tryd.func15, Tryd.ntmps15
  go_wp2
  go_loopw [0, 4] (fun sv lv wr => ∃ (r : List UInt8) (acc : List (List UInt8 × Int)), sv = .string (bs r) ∧ wr.ownsRow w.heap.size 30 2 lv (acc.map conv).length (flat (acc.map conv)) ∧ Below w.heap.size w wr ∧ acc.length + r.length ≤ l.length ∧ Hid (pairsL l = (pairsL r).map (acc ++ ·))) (fun sv _ _ => szOf sv)
  case atStart =>
    refine ⟨l, [], rfl, World.ownsRow_nil _ _ _ _, Below.refl _ _, by simp, ?_⟩
    show pairsL l = _
    simp
  case round =>
    obtain ⟨r, acc, rfl, hown, hb, hlen, HP⟩ := hrel
    by_cases hr : r = []
    · subst hr
      have hT : (bs []).size = 0 := by rw [bs_size]; rfl
      have hfin : Hid (pairsL l = some acc) := by
        show _ = _
        rw [HP.out, pairsL_nil]; simp
      have hv := Lib.hid (isPairs_of hown)
      clear hown
      go_wp2
      go_ret2
      exact ofSaid_some hfin.out hb hv.out
    · have h0 : 0 < (bs r).size := by
        rw [bs_size]
        cases r with
        | nil => exact absurd rfl hr
        | cons a b => simp
      have h0' : (0 : Int) < (bs r).size := by omega
      have hbad : Hid ((stepT r).2.2 = false → pairsL l = none) := fun h => by rw [HP.out, pairsL_none hr h]; rfl
      have hgood : Hid (∀ key v more, stepT r = ((key, v), more, true) → more.length < r.length ∧ pairsL l = (pairsL more).map ((acc ++ [(key, v)]) ++ ·)) := by
        intro key v more h
        have h1 := stepT_lt r (by rw [h])
        have h2 := pairsL_step hr (by rw [h])
        rw [h] at h1 h2
        refine ⟨h1, ?_⟩
        rw [HP.out, h2, Option.map_map]
        congr 1
        funext x
        simp
      have C1 : Hid (∀ w, Calls Tryd.prog 22 #[.string (bs r), .int .u8 58] w fun e w' => e = .returned (.tuple #[.string (bs (cutAt 58 r).1), .string (bs (cutAt 58 r).2.1), .bool (cutAt 58 r).2.2]) ∧ Below w.heap.size w w') := fun w => upTo_58 r w (by omega)
      have hcl := cutAt_len 58 r
      have HN := Lib.hid hr
      clear hr HP
      cases hok : (cutAt 58 r).2.2 with
      | false =>
        have hfin : Hid (pairsL l = none) := hbad.out (st_ok hok)
        rw [hok] at C1
        have C2 : Hid (∀ w, Calls Tryd.prog 23 #[.string (bs (cutAt 58 r).1)] w fun e w' => (∃ x, e = .returned (.tuple #[.int .i64 x, .bool (numB (cutAt 58 r).1).isSome]) ∧ ∀ v, numB (cutAt 58 r).1 = some v → x = v) ∧ w' = w) := fun w => number_bs _ w (by omega)
        generalize (cutAt 58 r).1 = a at *
        generalize (cutAt 58 r).2.1 = rest at *
        clear hok hgood hbad
        go_wp2_with (first | (go_at_call_of 22 (Value.string (bs r)); refine (C1.out _).mono ?_; rintro e w1 ⟨rfl, hb1⟩) | (go_at_call_of 23 (Value.string (bs a)); refine (C2.out _).mono ?_; rintro e w2 ⟨⟨x, rfl, _⟩, rfl⟩))
        go_ret2
        exact ofSaid_none hfin.out (hb.trans (hb1.mono hb.size))
      | true =>
        rw [hok] at C1
        cases hn : numB (cutAt 58 r).1 with
        | none =>
          have hfin : Hid (pairsL l = none) := hbad.out (st_num hn)
          have C2 : Hid (∀ w, Calls Tryd.prog 23 #[.string (bs (cutAt 58 r).1)] w fun e w' => (∃ x, e = .returned (.tuple #[.int .i64 x, .bool false])) ∧ w' = w) := fun w => number_no _ w (by omega) hn
          clear hn hok hgood hbad
          generalize (cutAt 58 r).1 = a at *
          generalize (cutAt 58 r).2.1 = rest at *
          go_wp2_with (first | (go_at_call_of 22 (Value.string (bs r)); refine (C1.out _).mono ?_; rintro e w1 ⟨rfl, hb1⟩) | (go_at_call_of 23 (Value.string (bs a)); refine (C2.out _).mono ?_; rintro e w2 ⟨⟨x, rfl⟩, rfl⟩))
          go_ret2
          exact ofSaid_none hfin.out (hb.trans (hb1.mono hb.size))
        | some n =>
          have C2 : Hid (∀ w, Calls Tryd.prog 23 #[.string (bs (cutAt 58 r).1)] w fun e w' => e = .returned (.tuple #[.int .i64 n, .bool true]) ∧ w' = w) := fun w => number_yes _ n w (by omega) hn
          have hrs := bs_size (cutAt 58 r).2.1
          by_cases hrg : 0 ≤ n ∧ n < ((cutAt 58 r).2.1.length : Int)
          · obtain ⟨hr0, hr1⟩ := hrg
            obtain ⟨k, rfl⟩ := Int.eq_ofNat_of_zero_le hr0
            have hk : k < (cutAt 58 r).2.1.length := by omega
            have S1 := Lib.hid (st_blank hok hn hk)
            have S2 := Lib.hid (st_end hok hn hk)
            have S3 := Lib.hid (st_val hok hn hk)
            have S4 := Lib.hid (fun v => st_all (v := v) hok hn hk)
            have hcl2 := cutAt_len 10 ((cutAt 58 r).2.1.drop (k + 1))
            have hdl : ((cutAt 58 r).2.1.drop (k + 1)).length ≤ (cutAt 58 r).2.1.length := by simp
            clear hn hok hr0 hr1
            generalize (cutAt 58 r).1 = a at *
            generalize (cutAt 58 r).2.1 = rest at *
            have hks : k < (bs rest).size := by omega
            have hksz : (bs rest).size ≤ 2000000 := by omega
            have hD := bs_drop rest (k + 1)
            have hT := bs_take rest k
            generalize List.drop (k + 1) rest = tl at *
            have HRS := Lib.hid hrs
            clear hrs
            by_cases hbk : rest[k] = 32
            · have C3 : Hid (∀ w, Calls Tryd.prog 22 #[.string (bs tl), .int .u8 10] w fun e w' => e = .returned (.tuple #[.string (bs (cutAt 10 tl).1), .string (bs (cutAt 10 tl).2.1), .bool (cutAt 10 tl).2.2]) ∧ Below w.heap.size w w') := fun w => upTo_10 _ w (by omega)
              have hb' := bs_is rest k hks hk hbk
              have H32 := Lib.hid hbk
              clear hbk
              cases hok2 : (cutAt 10 tl).2.2 with
              | false =>
                have hfin : Hid (pairsL l = none) := hbad.out (S2.out hok2)
                rw [hok2] at C3
                have C4 : Hid (∀ w, Calls Tryd.prog 23 #[.string (bs (cutAt 10 tl).1)] w fun e w' => (∃ x, e = .returned (.tuple #[.int .i64 x, .bool (numB (cutAt 10 tl).1).isSome]) ∧ ∀ v, numB (cutAt 10 tl).1 = some v → x = v) ∧ w' = w) := fun w => number_bs _ w (by omega)
                clear hok2 S1 S2 S3 S4 hbad hgood
                generalize (cutAt 10 tl).1 = b at *
                generalize (cutAt 10 tl).2.1 = more at *
                go_wp2_with (first | (go_at_call_of 22 (Value.string (bs r)); refine (C1.out _).mono ?_; rintro e w1 ⟨rfl, hb1⟩) | (go_at_call_of 22 (Value.string (bs tl)); refine (C3.out _).mono ?_; rintro e w3 ⟨rfl, hb3⟩) | (go_at_call_of 23 (Value.string (bs a)); refine (C2.out _).mono ?_; rintro e w2 ⟨rfl, rfl⟩) | (go_at_call_of 23 (Value.string (bs b)); refine (C4.out _).mono ?_; rintro e w4 ⟨⟨x, rfl, _⟩, rfl⟩))
                all_goals go_ret2
                all_goals exact ofSaid_none hfin.out ((hb.trans (hb1.mono hb.size)).trans (hb3.mono (hb.trans (hb1.mono hb.size)).size))
              | true =>
                rw [hok2] at C3
                cases hn2 : numB (cutAt 10 tl).1 with
                | none =>
                  have hfin : Hid (pairsL l = none) := hbad.out (S3.out hn2)
                  have C4 : Hid (∀ w, Calls Tryd.prog 23 #[.string (bs (cutAt 10 tl).1)] w fun e w' => (∃ x, e = .returned (.tuple #[.int .i64 x, .bool false])) ∧ w' = w) := fun w => number_no _ w (by omega) hn2
                  clear hok2 hn2 S1 S2 S3 S4 hbad hgood
                  generalize (cutAt 10 tl).1 = b at *
                  generalize (cutAt 10 tl).2.1 = more at *
                  go_wp2_with (first | (go_at_call_of 22 (Value.string (bs r)); refine (C1.out _).mono ?_; rintro e w1 ⟨rfl, hb1⟩) | (go_at_call_of 22 (Value.string (bs tl)); refine (C3.out _).mono ?_; rintro e w3 ⟨rfl, hb3⟩) | (go_at_call_of 23 (Value.string (bs a)); refine (C2.out _).mono ?_; rintro e w2 ⟨rfl, rfl⟩) | (go_at_call_of 23 (Value.string (bs b)); refine (C4.out _).mono ?_; rintro e w4 ⟨⟨x, rfl⟩, rfl⟩))
                  all_goals go_ret2
                  all_goals exact ofSaid_none hfin.out ((hb.trans (hb1.mono hb.size)).trans (hb3.mono (hb.trans (hb1.mono hb.size)).size))
                | some v =>
                  have C4 : Hid (∀ w, Calls Tryd.prog 23 #[.string (bs (cutAt 10 tl).1)] w fun e w' => e = .returned (.tuple #[.int .i64 v, .bool true]) ∧ w' = w) := fun w => number_yes _ v w (by omega) hn2
                  have hst := Lib.hid (hgood.out _ _ _ (S4.out v H32.out hok2 hn2))
                  clear hok2 hn2 S1 S2 S3 S4 hbad hgood
                  generalize (cutAt 10 tl).1 = b at *
                  generalize (cutAt 10 tl).2.1 = more at *
                  generalize List.take k rest = key at *
                  go_wp2_with (first | (go_at_call_of 22 (Value.string (bs r)); refine (C1.out _).mono ?_; rintro e w1 ⟨rfl, hb1⟩) | (go_at_call_of 22 (Value.string (bs tl)); refine (C3.out _).mono ?_; rintro e w3 ⟨rfl, hb3⟩) | (go_at_call_of 23 (Value.string (bs a)); refine (C2.out _).mono ?_; rintro e w2 ⟨rfl, rfl⟩) | (go_at_call_of 23 (Value.string (bs b)); refine (C4.out _).mono ?_; rintro e w4 ⟨rfl, rfl⟩) | (at_builtin; refine Hid.out ?_))
                  refine Lib.hid ?_
                  have hbs := hb.size
                  have hbs1 := hb1.size
                  have hbs3 := hb3.size
                  have hlt := hst.out.1
                  refine wpList_append_own _ rfl (.tmp 69) (.tmp 75) 22 rfl w.heap.size 30 i0 (.agg #[.string ⟨#[]⟩, .int .i64 0]) 2 24 Tryd.underlying22 hi hz0 hz1 hz2 rfl (by decide) _ _ _ rfl ((owns_below (owns_below hown hb1) hb3).alloc _) ⟨_, 0, none⟩ 1 1 (flat [(bs key, v)]) rfl rfl ?c1 flat_one ?c2 ?c3 ?c4 ?_
                  case c1 => exact lit_cells rfl (show 2 ≤ maxLen by decide)
                  case c2 => rw [List.length_map]; unfold maxLen; omega
                  case c3 => rw [List.length_map]; omega
                  case c4 => simp; omega
                  intro v2 w5 hown2 hg2 _
                  have hb13 := (hb.trans (hb1.mono hb.size)).trans (hb3.mono (hb.trans (hb1.mono hb.size)).size)
                  have hb2 : Below w.heap.size w w5 := (hb13.alloc hb13.size _).grown hg2 (by have := hb13.size; simp; omega) (fun k hk => (hown.lt k hk).1)
                  have hown3 := owns_push hown2
                  clear hown hown2 hg2 hb1 hb3
                  go_wp2
                  go_roundw
                  case rel => exact ⟨more, acc ++ [(key, v)], rfl, hown3, hb2, by simp; omega, hst.out.2⟩
                  case measure => simp only [szOf, bs_size]; exact hlt
            · have hfin : Hid (pairsL l = none) := hbad.out (S1.out hbk)
              have hb' := bs_isnt rest k hks hk hbk
              clear hbk S1 S2 S3 S4 hbad hgood
              go_wp2_with (first | (go_at_call_of 22 (Value.string (bs r)); refine (C1.out _).mono ?_; rintro e w1 ⟨rfl, hb1⟩) | (go_at_call_of 23 (Value.string (bs a)); refine (C2.out _).mono ?_; rintro e w2 ⟨rfl, rfl⟩))
              all_goals go_ret2
              all_goals exact ofSaid_none hfin.out (hb.trans (hb1.mono hb.size))
          · have hfin : Hid (pairsL l = none) := hbad.out (st_range hn hrg)
            have hrg' : ¬ (0 ≤ n ∧ n < ((bs (cutAt 58 r).2.1).size : Int)) := by rw [hrs]; exact hrg
            clear hn hok hgood hbad hrg hrs
            generalize (cutAt 58 r).1 = a at *
            generalize (cutAt 58 r).2.1 = rest at *
            go_wp2_with (first | (go_at_call_of 22 (Value.string (bs r)); refine (C1.out _).mono ?_; rintro e w1 ⟨rfl, hb1⟩) | (go_at_call_of 23 (Value.string (bs a)); refine (C2.out _).mono ?_; rintro e w2 ⟨rfl, rfl⟩))
            all_goals go_ret2
            all_goals exact ofSaid_none hfin.out (hb.trans (hb1.mono hb.size))
end Go.Proofs.YtmjjnlhmconheaaDoor
