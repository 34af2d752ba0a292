/- The law TopWords, walked: whatever the two texts, it returns true, and turns nothing that was there. -/
import Derived.Test.YtahklpihbkdclabDoorTxt
namespace Go.Proofs.YtahklpihbkdclabDoor
open Go.ChangeShapes Go.WideShapes Go.ChangeAt Go.RowKit
theorem isTexts_none {w : World} {n cap : Nat} {l : List ByteArray} (h : IsTexts w (.slice none n cap) l) : l = [] ∧ n = 0 := by
  obtain ⟨a, c, e, hc⟩ := h
  injection e with e1 e2 e3
  cases l with
  | nil => exact ⟨rfl, by rw [e2]; rfl⟩
  | cons p l =>
    obtain ⟨b, off, ea, _⟩ := hc 0 (by simp)
    rw [ea] at e1; cases e1
theorem run_append_nilx {P : Program} {w : World} (base : Nat) (t ty e : TypeId) (i : TypeInfo) (size c : Nat) (ht : P.underlying t = some (.slice e)) (hi : P.info? e = some i)
    (v : Value) (n : Nat) (xs : List Value) (hown : w.ownsRow base e size v n xs) :
    (Builtin.append_ #[t, t] ty #[v, .slice none 0 c]).run P w = .ok v w := by
  rcases hown.2 with ⟨rfl, rfl⟩ | ⟨g, cap, cur, rfl, _, _, hnc, _⟩
  · simp [Builtin.append_, run_underlying ht, sizeOf, typeInfo, hi, Builtin.lenOf, Builtin.firstCells]
  · simp [Builtin.append_, run_underlying ht, sizeOf, typeInfo, hi, Builtin.lenOf, Builtin.firstCells, hnc, storeCells]
theorem add_none (b off j : Nat) : (⟨b, off, none⟩ : Addr).add j = ⟨b, off + j, none⟩ := by
  unfold Addr.add
  split
  · rename_i h; subst h; rfl
  · rfl
theorem strs_src {w : World} {ad : Addr} {n c : Nat} {B : List (List UInt8)} (h : IsTexts w (.slice (some ad) n c) (B.map bs)) : ∀ j u, (strs B)[j]? = some u → w.cell? (ad.add j) = some u := by
  intro j u hu
  obtain ⟨a, cap, e, hc⟩ := h
  injection e with e1 e2 e3
  have hj : j < B.length := by
    rw [List.getElem?_eq_some_iff] at hu
    obtain ⟨h1, _⟩ := hu
    rwa [strs_length] at h1
  obtain ⟨b, off, ea, c0⟩ := hc j (by simpa using hj)
  rw [ea] at e1
  injection e1 with e1
  subst e1
  rw [add_none, c0]
  simp only [strs, List.getElem?_map, List.getElem?_eq_getElem hj, Option.map_some, Option.some.injEq] at hu
  rw [← hu]
  simp
theorem wpList_append_texts {w w0 : World} {ops : Array Oper} {rest : List Oper} {o : Oper} {a : Act} {Q : Exit → Act → World → Prop} (hgd : o.guard = none) (s x : Operand)
    (ho : o.op = .call { callee := .builtin .append, args := #[s, x], argTypes := #[23, 23] })
    (v : Value) (A : List (List UInt8)) (hs : a.eval s = v) (hown : w.ownsRow w0.heap.size 9 1 v A.length (strs A))
    (xv : Value) (B : List (List UInt8)) (hx : a.eval x = xv) (hB : IsTexts w xv (B.map bs)) (hlen : A.length + B.length ≤ 1000000) (hb : Below w0.heap.size w0 w)
    (h : ∀ v' w', w'.ownsRow w0.heap.size 9 1 v' (A ++ B).length (strs (A ++ B)) → Below w0.heap.size w0 w' → wpList Tryd.prog ops Q rest (a.put o.dst v') w') : wpList Tryd.prog ops Q (o :: rest) a w := by
  obtain ⟨i0, hi, hz0, hz1, hz2⟩ := info_parts infoStr
  have hB' := hB
  obtain ⟨ao, c, rfl, _⟩ := hB
  rw [List.length_map] at hx hB'
  cases ao with
  | none =>
    obtain ⟨h0, _⟩ := isTexts_none hB'
    obtain rfl : B = [] := List.map_eq_nil_iff.1 h0
    refine wpList_plain hgd fun K hK' => ?_
    have hrun := run_append_nilx (P := Tryd.prog) w0.heap.size 23 o.type 9 i0 1 c Tryd.underlying23 hi v _ _ hown
    have hx' : a.eval x = .slice none 0 c := hx
    unfold Oper.wp
    simp [execOp, ho, resolve, invoke, builtin, hs, hx', hrun, Result.andThen]
    exact hK' _ _ (h v w (by rw [List.append_nil]; exact hown) hb)
  | some ad =>
    refine wpList_append_own w hgd s x 23 ho w0.heap.size 9 i0 (.string ⟨#[]⟩) 1 16 Tryd.underlying23 hi hz0 hz1 hz2 rfl (by decide) v _ _ hs hown ad B.length c (strs B) hx (by rw [strs_length, Nat.mul_one]) (strs_src hB') (strs_one B) (by unfold maxLen; omega) (by omega) hb.size ?_
    intro v' w' ho' hg' _
    refine h v' w' ?_ (hb.grown hg' hb.size (fun k hk => (hown.lt k hk).1))
    rw [List.length_append, strs_append]
    exact ho'
theorem words_same (l : List (List UInt8)) (v u : Value) (w : World) (h : IsTexts w v (l.map bs)) (h' : IsTexts w u (l.map bs)) (hl : l.length ≤ 1000000) :
    Calls Tryd.prog 6 #[v, u] w fun e w' => e = .returned (.bool true) ∧ Below w.heap.size w w' := by
  refine (sameTexts_any v u _ _ w h h' (by rw [List.length_map]; unfold maxLen; omega)).mono ?_
  rintro e w' ⟨rfl, n, rfl⟩
  exact ⟨by simp, below_drewN _ _⟩
/-- Words, their number and list by other letters. -/
theorem words_as (l : List UInt8) (ws : List (List UInt8)) (n : Nat) (hw : wordsL l = ws) (hn : n = ws.length) (w : World) (E : Env0 w) (hl : l.length ≤ 1000000) :
    Calls Tryd.prog 7 #[.string (bs l)] w fun e w' => ∃ a cap, e = .returned (.slice a n cap) ∧ Hid (IsTexts w' (.slice a n cap) (ws.map bs)) ∧ Below w.heap.size w w' := by
  subst hw hn
  refine (words_any l w E hl).mono ?_
  rintro _ w' ⟨a, cap, h1, h2, h3, _⟩
  exact ⟨a, cap, h1, h2, h3⟩
theorem two_texts (w : World) (x y : List UInt8) (t : TypeId) : IsTexts (w.alloc (.cells #[.string (bs x), .string (bs y)] t)) (.slice (some ⟨w.heap.size, 0, none⟩) 2 2) ([x, y].map bs) := by
  refine ⟨_, _, rfl, fun i hi => ⟨_, _, rfl, ?_⟩⟩
  have hi' : i < 2 := hi
  match i, hi' with
  | 0, _ => simp
  | 1, _ => simp
theorem texts_at {w : World} {a : Option Addr} {n cap : Nat} {ws : List (List UInt8)} (h : IsTexts w (.slice a n cap) (ws.map bs)) (k : Nat) (x : List UInt8) (hx : ws[k]? = some x) : ∃ b off, a = some ⟨b, off, none⟩ ∧ w.cell? ⟨b, off + k, none⟩ = some (.string (bs x)) := by
  obtain ⟨a', c, e, hc⟩ := h
  injection e with e1 e2 e3
  obtain ⟨hk, rfl⟩ := List.getElem?_eq_some_iff.1 hx
  obtain ⟨b, off, ea, c0⟩ := hc k (by simpa using hk)
  exact ⟨b, off, e1.trans ea, by simpa using c0⟩
theorem joinW_take (ws : List (List UInt8)) (k : Nat) : (joinW (ws.take k)).length ≤ (joinW ws).length := by
  have h : joinW ws = joinW (ws.take k) ++ joinW (ws.drop k) := by conv => lhs; rw [← List.take_append_drop k ws]
                                                                   simp only [joinW, List.flatMap_append]
  rw [h, List.length_append]
  omega
theorem bs_at (x : List UInt8) (j : Nat) (h : j < x.length) (hq : j < (bs x).size) : (bs x)[j]'hq = x[j]'h := by simp only [bs]; rfl
set_option maxRecDepth 100000 in
set_option maxHeartbeats 4000000 in
theorem topWords_walk (a b : List UInt8) (w : World) (E : Env0 w) (ha : (bs a).size ≤ maxLen) (hb : (bs b).size ≤ maxLen) :
    Calls Tryd.prog 3 #[.string (bs a), .string (bs b)] w fun e w' => e = .returned (.bool true) ∧ Below w.heap.size w w' := by
  unfold maxLen at ha hb
  go_enter Tryd.func3, Tryd.ntmps3
  go_wp2_with (go_at_call 7; refine Hid.out ?_)
  refine Lib.hid ?_
  refine (words_as [32, 120, 32, 32, 121] [[120], [121]] 2 (by decide) rfl w E (by decide)).mono ?_
  rintro _ w1 ⟨a1, c1, rfl, H1, hb1⟩
  go_wp2_with (go_at_call 6; refine Hid.out ?_)
  refine Lib.hid ?_
  have hb2 : Below w1.heap.size w1 (w1.alloc (.cells #[.string (bs [120]), .string (bs [121])] 9)) := (Below.refl _ _).alloc (Nat.le_refl _) _
  refine (words_same [[120], [121]] _ _ _ (H1.out.below hb2) (two_texts w1 [120] [121] 9) (by decide)).mono ?_
  rintro _ w2 ⟨rfl, hb3⟩
  replace hb3 := below_trans hb1 (below_trans hb2 hb3)
  clear hb1 hb2 H1
  by_cases hla : (bs a).size ≤ 200
  · by_cases hlb : (bs b).size ≤ 200
    · have hla' : a.length ≤ 200 := by rw [bs_size] at hla; exact hla
      have hlb' : b.length ≤ 200 := by rw [bs_size] at hlb; exact hlb
      go_wp2_with (go_at_call 7; refine Hid.out ?_)
      refine Lib.hid ?_
      obtain ⟨ws, hws⟩ : ∃ ws, wordsL a = ws := ⟨_, rfl⟩
      obtain ⟨n, hn⟩ : ∃ n, n = ws.length := ⟨_, rfl⟩
      refine (words_as a ws n hws hn w2 (E.below hb3) (by omega)).mono ?_
      rintro _ w4 ⟨al, cl, rfl, HL, hb4⟩
      replace hb4 := below_trans hb3 hb4
      clear hb3
      have HW : Hid (∀ x ∈ ws, IsWord x) := by show ∀ x ∈ ws, IsWord x; rw [← hws]; exact words_are a
      have hwl : n ≤ 200 := by rw [hn, ← hws]; exact Nat.le_trans (words_len a) hla'
      have HJ : Hid ((joinW ws).length ≤ 201) := by show _ ≤ 201; rw [← hws]; have := joinW_len a []; simp only [List.length_nil] at this; exact Nat.le_trans this (by omega)
      have HWS := Lib.hid hws
      have HN := Lib.hid hn
      clear hws hn
      go_wp2
      go_loopw [6, 7] (fun sv iv wr => ∃ k : Nat, k ≤ n ∧ iv = .int .i64 k ∧ sv = .string (bs (joinW (ws.take k))) ∧ Below w.heap.size w wr ∧ Below w4.heap.size w4 wr) (fun _ iv _ => n - (intOf iv).toNat)
      case atStart => exact ⟨0, Nat.zero_le _, rfl, rfl, hb4, Below.refl _ _⟩
      case round =>
        obtain ⟨k, hk, rfl, rfl, hbr, hb4r⟩ := hrel
        by_cases hlt : k < n
        · obtain ⟨x, hx⟩ : ∃ x, ws[k]? = some x := ⟨ws[k]'(by have := HN.out; omega), by simp⟩
          obtain ⟨bl, ol, rfl, c0⟩ := texts_at (HL.out.below hb4r) k x hx
          have hxw := HW.out x (List.mem_of_getElem? hx)
          have HX := Lib.hid hx
          clear hx
          have hT : (bs x).toList.isEmpty = false := by rw [bs_toList]; cases x with | nil => exact absurd rfl hxw.1 | cons _ _ => rfl
          have hxs : (bs x).size ≤ 200 := by
            rw [bs_size]
            have h1 := List.mem_of_getElem? HX.out
            rw [← HWS.out] at h1
            have := word_len h1
            simp at this
            omega
          have HXW := Lib.hid hxw.2
          clear hxw
          have hjs : (bs (joinW (ws.take k))).size ≤ 201 := by rw [bs_size]; exact Nat.le_trans (joinW_take ws k) HJ.out
          have hnx : Hid (bs (joinW (ws.take k)) ++ bs x ++ ⟨#[32]⟩ = bs (joinW (ws.take (k + 1)))) := by
            show _ = _
            obtain ⟨hk', hxe⟩ := List.getElem?_eq_some_iff.1 HX.out
            rw [List.take_succ_eq_append_getElem hk', hxe, joinW_snoc, ← bs_append, ← bs_append]
            rfl
          go_wp2
          go_loop [8] (fun kv => ∃ j : Nat, j ≤ (bs x).size ∧ kv = .int .i64 j) (fun kv => (bs x).size - (intOf kv).toNat)
          case atStart => exact ⟨0, Nat.zero_le _, rfl⟩
          case round =>
            obtain ⟨j, hj, rfl⟩ := hrel
            by_cases hjl : j < (bs x).size
            · have hne : ((((bs x)[j]'hjl).toNat : Int) == 32) = false := by
                have hj' : j < x.length := by rw [bs_size] at hjl; exact hjl
                rw [bs_at x j hj' hjl, beq_eq_false_iff_ne]
                intro h
                refine HXW.out _ (List.getElem_mem hj') (UInt8.toNat_inj.1 ?_)
                have h2 : (x[j]'hj').toNat = 32 := by omega
                exact h2
              go_wp2
              go_round
              case rel => exact ⟨j + 1, by omega, by go_num⟩
              case measure => simp [intOf]; omega
            · go_wp2
              go_roundw
              case rel => exact ⟨k + 1, by omega, by go_num, by rw [← hnx.out], hbr, hb4r⟩
              case measure => simp [intOf]; omega
        · have HT : Hid (ws.take k = ws) := List.take_of_length_le (by have := HN.out; omega)
          rw [HT.out]
          have hjs : (bs (joinW ws)).size ≤ 201 := by rw [bs_size]; exact HJ.out
          have hlr := Lib.hid (HL.out.below hb4r)
          clear HL hb4r
          go_wp2_with (at_builtin; refine Hid.out ?_)
          refine Lib.hid ?_
          refine wpList_append_texts (w0 := wr) rfl (.tmp 58) (.tmp 59) rfl _ [] rfl (World.ownsRow_nil _ _ _ _) _ ws rfl hlr.out (by have := HN.out; simp; omega) (Below.refl _ _) ?_
          intro v5 w5 hown5 hb5
          rw [List.nil_append] at hown5
          obtain ⟨us, hus⟩ : ∃ us, wordsL b = us := ⟨_, rfl⟩
          obtain ⟨m, hm⟩ : ∃ m, m = us.length := ⟨_, rfl⟩
          have hml : m ≤ 200 := by rw [hm, ← hus]; exact Nat.le_trans (words_len b) hlb'
          have E5 := E.below (below_trans hbr hb5)
          have W6 := Lib.hid (words_as b us m hus hm w5 E5 (by omega))
          have HUS := Lib.hid hus
          have HM := Lib.hid hm
          clear hus hm
          go_wp2_with (go_at_call 7; refine Hid.out ?_)
          refine Lib.hid ?_
          refine W6.out.mono ?_
          rintro _ w6 ⟨a6, c6, rfl, H6, hb6⟩
          clear W6
          have hown6 := owns_below hown5 hb6
          replace hb6 := below_trans hb5 hb6
          clear hown5 hb5
          go_wp2_with (at_builtin; refine Hid.out ?_)
          refine Lib.hid ?_
          refine wpList_append_texts (w0 := wr) rfl (.tmp 61) (.tmp 63) rfl _ ws rfl hown6 _ us rfl H6.out (by have := HN.out; have := HM.out; omega) hb6 ?_
          intro v7 w7 hown7 hb7
          have hv7 := Lib.hid (isTexts_of hown7)
          clear hown7 hown6 H6 hb6
          obtain ⟨a7, c7, e7, _⟩ := id hv7.out
          rw [List.length_map] at e7
          obtain ⟨n7, hn7⟩ : ∃ n7, n7 = (ws ++ us).length := ⟨_, rfl⟩
          rw [← hn7] at e7
          have hn7l : n7 ≤ 400 := by rw [hn7, List.length_append, ← HN.out, ← HM.out]; omega
          have HN7 := Lib.hid hn7
          clear hn7
          subst e7
          have E7 := E.below (below_trans hbr hb7)
          have W8 := Lib.hid (words_as (joinW ws) ws n (words_join ws HW.out) HN.out w7 E7 (by have := HJ.out; omega))
          go_wp2_with (go_at_call 7; refine Hid.out ?_)
          refine Lib.hid ?_
          refine W8.out.mono ?_
          rintro _ w8 ⟨a8, c8, rfl, H8, hb8⟩
          clear W8
          go_wp2_with (go_at_call 6; refine Hid.out ?_)
          refine Lib.hid ?_
          refine (words_same ws _ _ _ H8.out ((hlr.out.below hb7).below hb8) (by have := HN.out; omega)).mono ?_
          rintro _ w9 ⟨rfl, hb9⟩
          replace hb9 := below_trans hb8 hb9
          clear H8 hb8
          have hab : Hid (bs a ++ ⟨#[32]⟩ ++ bs b = bs (a ++ 32 :: b)) := by
            show _ = _
            rw [show (⟨#[32]⟩ : ByteArray) = bs [32] from rfl, bs_append, bs_append]
            simp
          have W10 := Lib.hid (words_as (a ++ 32 :: b) (ws ++ us) n7 (by rw [words_append, HWS.out, HUS.out]) HN7.out w9 (E7.below hb9) (by simp; omega))
          rw [← hab.out] at W10
          go_wp2_with (go_at_call 7; refine Hid.out ?_)
          refine Lib.hid ?_
          refine W10.out.mono ?_
          rintro _ w10 ⟨a10, c10, rfl, H10, hb10⟩
          clear W10
          go_wp2_with (go_at_call 6; refine Hid.out ?_)
          refine Lib.hid ?_
          refine (words_same (ws ++ us) _ _ _ H10.out ((hv7.out.below hb9).below hb10) (by have := HN7.out; omega)).mono ?_
          rintro _ w11 ⟨rfl, hb11⟩
          go_wp2
          go_ret
          exact ⟨rfl, below_trans hbr (below_trans hb7 (below_trans hb9 (below_trans hb10 hb11)))⟩
    · go_wp2
      go_ret
      exact ⟨rfl, hb3⟩
  · go_wp2
    go_ret
    exact ⟨rfl, hb3⟩
end Go.Proofs.YtahklpihbkdclabDoor
