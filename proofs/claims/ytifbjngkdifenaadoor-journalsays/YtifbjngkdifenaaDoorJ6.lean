/- Journals: the walk of One. -/
import Derived.Test.YtifbjngkdifenaaDoorJ5
import Derived.Test.YtifbjngkdifenaaDoorBlk
namespace Go.Proofs.YtifbjngkdifenaaDoor
open Go.ChangeShapes Go.WideShapes Go.ChangeAt Go.RowKit
open Num
/-- What One says. -/
def OneSaid (s : List UInt8) (w : World) (e : Ending) (w' : World) : Prop :=
  (oneL s = none ∧ e = .returned (.tuple #[.agg #[.string ⟨#[]⟩, .slice none 0 0, .slice none 0 0], .string (bs s), .bool false])) ∨ ∃ (en : Ent) (r : List UInt8) (vn vt : Value), oneL s = some (en, r) ∧ e = .returned (.tuple #[.agg #[.string (bs en.kind), vn, vt], .string (bs r), .bool true]) ∧ w'.ownsRow w.heap.size 3 1 vn en.n.length (cellsI en.n) ∧ w'.ownsRow w.heap.size 9 1 vt en.texts.length (strs en.texts)
theorem cutAt_le (c : UInt8) (l : List UInt8) : (cutAt c l).1.length ≤ l.length ∧ (cutAt c l).2.1.length ≤ l.length := by
  induction l with
  | nil => exact ⟨Nat.le_refl _, Nat.le_refl _⟩
  | cons b r ih =>
    unfold cutAt
    split
    · exact ⟨Nat.zero_le _, Nat.le_succ _⟩
    · simp only [List.length_cons]
      omega
theorem below_drew (w : World) : Below w.heap.size w w.drew := ⟨rfl, rfl, rfl, Nat.le_refl _, fun _ _ => rfl⟩
theorem owns_put {w : World} {base g i : Nat} {e : TypeId} {size : Nat} {v x : Value} {n : Nat} {xs : List Value} (h : w.ownsRow base e size v n xs) (hg : g < base) : (w.setCell ⟨g, i, none⟩ x).ownsRow base e size v n xs := by
  refine ⟨h.1, ?_⟩
  rcases h.2 with h0 | ⟨b, cap, cur, a1, a2, a3, a4⟩
  · exact .inl h0
  · exact .inr ⟨b, cap, cur, a1, a2, (Below.heap_setCell w ⟨g, i, none⟩ x b (by show b ≠ g; omega)).trans a3, a4⟩
/-- The zero entry. -/
def ent0 (s : List UInt8) : Value := .tuple #[.agg #[.string ⟨#[]⟩, .slice none 0 0, .slice none 0 0], .string (bs s), .bool false]
theorem numbersL_len {s k : List UInt8} {r : List Int} (h : numbersL s = some (k, r)) : r.length ≤ s.length := by
  unfold numbersL at h
  cases hn : numL (spl 32 s).tail with
  | none => rw [hn] at h; cases h
  | some q =>
    rw [hn] at h
    simp only [Option.some.injEq, Prod.mk.injEq] at h
    obtain ⟨_, rfl⟩ := h
    have h1 := numL_len hn
    have h2 := spl_len 32 s
    rw [List.length_tail] at h1
    omega
set_option maxRecDepth 100000 in
set_option maxHeartbeats 4000000 in
theorem one_any (s : List UInt8) (w : World) (E : Env w) (hs : s.length ≤ 10000000) :
    Calls Tryd.prog 9 #[.string (bs s)] w fun e w' => OneSaid s w e w' ∧ Below w.heap.size w w' := by
  obtain ⟨w0, hw0⟩ : ∃ w0, w0 = w.alloc (.cells #[.string ⟨#[]⟩, .slice none 0 0, .slice none 0 0] 25) := ⟨_, rfl⟩
  have hb0 : Below w.heap.size w w0 := by rw [hw0]; exact (Below.refl _ _).alloc (Nat.le_refl _) _
  have A0 : Blk w0 w.heap.size 25 [.string ⟨#[]⟩, .slice none 0 0, .slice none 0 0] := by rw [hw0]; exact Blk.new w _ _
  obtain ⟨G, hG⟩ : ∃ G, G = w.heap.size := ⟨_, rfl⟩
  rw [← hG] at A0
  have hGe : w.heap.size ≤ G := by omega
  have EA := Lib.hid A0
  obtain ⟨line, behind, ended, hc1⟩ : ∃ line behind ended, cutAt 10 s = (line, behind, ended) := ⟨_, _, _, rfl⟩
  obtain ⟨hd, tl, parted, hc2⟩ : ∃ hd tl parted, cutAt 59 line = (hd, tl, parted) := ⟨_, _, _, rfl⟩
  have l1 := cutAt_le 10 s
  rw [hc1] at l1
  have l2 := cutAt_le 59 line
  rw [hc2] at l2
  simp only at l1 l2
  have HE : Hid (∀ w1, Below w.heap.size w w1 → Env w1) := fun w1 h1 => E.below h1
  have C1 : Hid (∀ w1, Below w.heap.size w w1 → Calls Tryd.prog 21 #[.string (bs s), .string ⟨#[10]⟩] w1 fun e w' => e = .returned (.tuple #[.string (bs line), .string (bs behind), .bool ended]) ∧ Below w1.heap.size w1 w') := fun w1 h1 => by
    have h := cut_any (bs s) 10 w1 (E.below h1) (by rw [bs_size]; omega)
    rw [bs_data, hc1] at h
    exact h
  have C2 : Hid (∀ w1, Below w.heap.size w w1 → Calls Tryd.prog 21 #[.string (bs line), .string ⟨#[59]⟩] w1 fun e w' => e = .returned (.tuple #[.string (bs hd), .string (bs tl), .bool parted]) ∧ Below w1.heap.size w1 w') := fun w1 h1 => by
    have h := cut_any (bs line) 59 w1 (E.below h1) (by rw [bs_size]; omega)
    rw [bs_data, hc2] at h
    exact h
  have H1 : Hid (oneL s = if ended = false ∨ parted = false then none else
      match numbersL hd with
      | none => none
      | some (k, ns) => if k = [] then none else
        match numbersL tl with
        | none => none
        | some (k2, sz) => if k2 ≠ [] then none else
          match cutL behind sz with
          | none => none
          | some (ts, r) => if r.head? = some 46 then some (⟨k, ns, ts⟩, r.drop 1) else none) := by
    show _ = _
    unfold oneL
    rw [hc1]
    simp only
    rw [hc2]
    rfl
  have HW0 := Lib.hid hw0
  have HG := Lib.hid hG
  clear hw0 hG hc1 hc2 A0 E
  go_enter Tryd.func9, Tryd.ntmps9
  go_wp2_with (go_at_call 21; refine Hid.out ?_)
  refine Lib.hid ?_
  rw [← HW0.out, ← HG.out]
  clear HW0
  refine (C1.out _ hb0).mono ?_
  rintro _ w1 ⟨rfl, hb1⟩
  have hbb1 := below_trans hb0 hb1
  have EA1 := Lib.hid (EA.out.blw hb1)
  go_wp2_with (go_at_call 21; refine Hid.out ?_)
  refine Lib.hid ?_
  refine (C2.out _ hbb1).mono ?_
  rintro _ w2 ⟨rfl, hb2⟩
  have hbb2 := below_trans hbb1 hb2
  have EA2 := Lib.hid (EA1.out.blw hb2)
  clear C1 C2 EA EA1 hb0 hb1 hbb1 hb2
  by_cases hep : ended = false ∨ parted = false
  · have HNO : Hid (oneL s = none) := by show _ = _; rw [H1.out, if_pos hep]
    clear H1
    cases ended with
    | false =>
      have z0 := EA2.out.at (i := 0) (v := .string ⟨#[]⟩) rfl
      have z1 := EA2.out.at (i := 1) (v := .slice none 0 0) rfl
      have z2 := EA2.out.at (i := 2) (v := .slice none 0 0) rfl
      have f0 := EA2.out.frozen 0
      have f1 := EA2.out.frozen 1
      have f2 := EA2.out.frozen 2
      go_wp2
      have g6 := ((EA2.out.set 0 (.string ⟨#[]⟩)).set 1 (.slice none 0 0)).set 2 (.slice none 0 0)
      have y0 := g6.at (i := 0) (v := .string ⟨#[]⟩) rfl
      have y1 := g6.at (i := 1) (v := .slice none 0 0) rfl
      have y2 := g6.at (i := 2) (v := .slice none 0 0) rfl
      exact bodyPost_ret (v := ent0 s) (by simp [results, Tryd.results9, go_sem, y0, y1, y2, ent0]) rfl ⟨.inl ⟨HNO.out, rfl⟩, ((hbb2.setCell (p := ⟨G, 0, none⟩) hGe _).setCell (p := ⟨G, 1, none⟩) hGe _).setCell (p := ⟨G, 2, none⟩) hGe _⟩
    | true =>
      have hp : parted = false := by rcases hep with h | h; cases h; exact h
      subst hp
      have z0 := EA2.out.at (i := 0) (v := .string ⟨#[]⟩) rfl
      have z1 := EA2.out.at (i := 1) (v := .slice none 0 0) rfl
      have z2 := EA2.out.at (i := 2) (v := .slice none 0 0) rfl
      have f0 := EA2.out.frozen 0
      have f1 := EA2.out.frozen 1
      have f2 := EA2.out.frozen 2
      go_wp2
      have g6 := ((EA2.out.set 0 (.string ⟨#[]⟩)).set 1 (.slice none 0 0)).set 2 (.slice none 0 0)
      have y0 := g6.at (i := 0) (v := .string ⟨#[]⟩) rfl
      have y1 := g6.at (i := 1) (v := .slice none 0 0) rfl
      have y2 := g6.at (i := 2) (v := .slice none 0 0) rfl
      exact bodyPost_ret (v := ent0 s) (by simp [results, Tryd.results9, go_sem, y0, y1, y2, ent0]) rfl ⟨.inl ⟨HNO.out, rfl⟩, ((hbb2.setCell (p := ⟨G, 0, none⟩) hGe _).setCell (p := ⟨G, 1, none⟩) hGe _).setCell (p := ⟨G, 2, none⟩) hGe _⟩
  · obtain ⟨rfl, rfl⟩ : ended = true ∧ parted = true := by
      cases ended <;> cases parted <;> simp_all
    rw [if_neg (by simp)] at H1
    clear hep
    have N1 := Lib.hid (numbers_any hd w2 (HE.out _ hbb2) (by omega))
    go_wp2_with (go_at_call 22; refine Hid.out ?_)
    refine Lib.hid ?_
    refine N1.out.mono ?_
    clear N1
    rintro _ w3 ⟨⟨hn1, rfl⟩ | ⟨k, ns, vn, hn1, rfl, ho1⟩, hb3⟩
    · have hbb3 := below_trans hbb2 hb3
      have EA3 := Lib.hid (EA2.out.blw hb3)
      have HNO : Hid (oneL s = none) := by show _ = _; rw [H1.out, hn1]
      clear H1 hn1 EA2 hb3 hbb2
      have z0 := EA3.out.at (i := 0) (v := .string ⟨#[]⟩) rfl
      have z1 := EA3.out.at (i := 1) (v := .slice none 0 0) rfl
      have z2 := EA3.out.at (i := 2) (v := .slice none 0 0) rfl
      have f0 := EA3.out.frozen 0
      have f1 := EA3.out.frozen 1
      have f2 := EA3.out.frozen 2
      go_wp2
      have g6 := ((EA3.out.set 0 (.string ⟨#[]⟩)).set 1 (.slice none 0 0)).set 2 (.slice none 0 0)
      have y0 := g6.at (i := 0) (v := .string ⟨#[]⟩) rfl
      have y1 := g6.at (i := 1) (v := .slice none 0 0) rfl
      have y2 := g6.at (i := 2) (v := .slice none 0 0) rfl
      exact bodyPost_ret (v := ent0 s) (by simp [results, Tryd.results9, go_sem, y0, y1, y2, ent0]) rfl ⟨.inl ⟨HNO.out, rfl⟩, ((hbb3.setCell (p := ⟨G, 0, none⟩) hGe _).setCell (p := ⟨G, 1, none⟩) hGe _).setCell (p := ⟨G, 2, none⟩) hGe _⟩
    · have hbb3 := below_trans hbb2 hb3
      have EA3 := Lib.hid (EA2.out.blw hb3)
      obtain ⟨an, cn, en, _⟩ := isIs_of ho1
      subst en
      have HO1 := Lib.hid (owns_low (lo := G + 1) ho1 EA2.out.lt)
      rw [hn1] at H1
      simp only at H1
      clear hn1 ho1 EA2 hb3 hbb2
      by_cases hk0 : k = []
      · subst hk0
        have HNO : Hid (oneL s = none) := by show _ = _; rw [H1.out, if_pos rfl]
        have hemp : (bs ([] : List UInt8)).toList.isEmpty = true := by rw [bs_toList]; rfl
        generalize bs ([] : List UInt8) = sk at *
        clear H1
        have z0 := EA3.out.at (i := 0) (v := .string ⟨#[]⟩) rfl
        have z1 := EA3.out.at (i := 1) (v := .slice none 0 0) rfl
        have z2 := EA3.out.at (i := 2) (v := .slice none 0 0) rfl
        have f0 := EA3.out.frozen 0
        have f1 := EA3.out.frozen 1
        have f2 := EA3.out.frozen 2
        go_wp2
        have g6 := ((EA3.out.set 0 (.string ⟨#[]⟩)).set 1 (.slice none 0 0)).set 2 (.slice none 0 0)
        have y0 := g6.at (i := 0) (v := .string ⟨#[]⟩) rfl
        have y1 := g6.at (i := 1) (v := .slice none 0 0) rfl
        have y2 := g6.at (i := 2) (v := .slice none 0 0) rfl
        exact bodyPost_ret (v := ent0 s) (by simp [results, Tryd.results9, go_sem, y0, y1, y2, ent0]) rfl ⟨.inl ⟨HNO.out, rfl⟩, ((hbb3.setCell (p := ⟨G, 0, none⟩) hGe _).setCell (p := ⟨G, 1, none⟩) hGe _).setCell (p := ⟨G, 2, none⟩) hGe _⟩
      · rw [if_neg hk0] at H1
        have hemp : (bs k).toList.isEmpty = false := by
          rw [bs_toList]
          cases k with
          | nil => exact absurd rfl hk0
          | cons _ _ => rfl
        have N2 := Lib.hid (numbers_any tl w3 (HE.out _ hbb3) (by omega))
        have HK0 := Lib.hid hk0
        clear hk0
        obtain ⟨sk, hsk⟩ : ∃ sk, sk = bs k := ⟨_, rfl⟩
        have HSK := Lib.hid hsk
        rw [← hsk] at hemp ⊢
        clear hsk
        go_wp2_with (go_at_call 22; refine Hid.out ?_)
        refine Lib.hid ?_
        refine N2.out.mono ?_
        clear N2
        rintro _ w4 ⟨⟨hn2, rfl⟩ | ⟨k2, sz, vs, hn2, rfl, ho2⟩, hb4⟩
        · have hbb4 := below_trans hbb3 hb4
          have EA4 := Lib.hid (EA3.out.blw hb4)
          have HNO : Hid (oneL s = none) := by show _ = _; rw [H1.out, hn2]
          clear H1 hn2 EA3 hb4 hbb3
          have z0 := EA4.out.at (i := 0) (v := .string ⟨#[]⟩) rfl
          have z1 := EA4.out.at (i := 1) (v := .slice none 0 0) rfl
          have z2 := EA4.out.at (i := 2) (v := .slice none 0 0) rfl
          have f0 := EA4.out.frozen 0
          have f1 := EA4.out.frozen 1
          have f2 := EA4.out.frozen 2
          go_wp2
          have g6 := ((EA4.out.set 0 (.string ⟨#[]⟩)).set 1 (.slice none 0 0)).set 2 (.slice none 0 0)
          have y0 := g6.at (i := 0) (v := .string ⟨#[]⟩) rfl
          have y1 := g6.at (i := 1) (v := .slice none 0 0) rfl
          have y2 := g6.at (i := 2) (v := .slice none 0 0) rfl
          exact bodyPost_ret (v := ent0 s) (by simp [results, Tryd.results9, go_sem, y0, y1, y2, ent0]) rfl ⟨.inl ⟨HNO.out, rfl⟩, ((hbb4.setCell (p := ⟨G, 0, none⟩) hGe _).setCell (p := ⟨G, 1, none⟩) hGe _).setCell (p := ⟨G, 2, none⟩) hGe _⟩
        · have hbb4 := below_trans hbb3 hb4
          have EA4 := Lib.hid (EA3.out.blw hb4)
          have HO4 := Lib.hid (owns_below HO1.out hb4)
          obtain ⟨as2, cs2, es2, hs2⟩ := isIs_of ho2
          have IS := isIs_of ho2
          have hszl := numbersL_len hn2
          rw [hn2] at H1
          simp only at H1
          clear hn2 ho2 EA3 hb4 hbb3 HO1
          by_cases hk2 : k2 = []
          · subst hk2
            rw [if_neg (by simp)] at H1
            have hemp2 : (bs ([] : List UInt8)).toList.isEmpty = true := by rw [bs_toList]; rfl
            have CT := Lib.hid (cutTexts_any behind sz vs w4 IS (by omega) (by omega))
            subst es2
            generalize bs ([] : List UInt8) = sk2 at hemp2 ⊢
            clear IS hs2
            go_wp2_with (go_at_call 23; refine Hid.out ?_)
            refine Lib.hid ?_
            refine CT.out.mono ?_
            clear CT
            rintro _ w5 ⟨⟨hc5, rfl⟩ | ⟨ts, r, vt, hc5, rfl, ho5⟩, hb5⟩
            · have hbb5 := below_trans hbb4 hb5
              have EA5 := Lib.hid (EA4.out.blw hb5)
              have HNO : Hid (oneL s = none) := by show _ = _; rw [H1.out, hc5]
              clear H1 hc5 EA4 hb5 hbb4
              have z0 := EA5.out.at (i := 0) (v := .string ⟨#[]⟩) rfl
              have z1 := EA5.out.at (i := 1) (v := .slice none 0 0) rfl
              have z2 := EA5.out.at (i := 2) (v := .slice none 0 0) rfl
              have f0 := EA5.out.frozen 0
              have f1 := EA5.out.frozen 1
              have f2 := EA5.out.frozen 2
              go_wp2
              have g6 := ((EA5.out.set 0 (.string ⟨#[]⟩)).set 1 (.slice none 0 0)).set 2 (.slice none 0 0)
              have y0 := g6.at (i := 0) (v := .string ⟨#[]⟩) rfl
              have y1 := g6.at (i := 1) (v := .slice none 0 0) rfl
              have y2 := g6.at (i := 2) (v := .slice none 0 0) rfl
              exact bodyPost_ret (v := ent0 s) (by simp [results, Tryd.results9, go_sem, y0, y1, y2, ent0]) rfl ⟨.inl ⟨HNO.out, rfl⟩, ((hbb5.setCell (p := ⟨G, 0, none⟩) hGe _).setCell (p := ⟨G, 1, none⟩) hGe _).setCell (p := ⟨G, 2, none⟩) hGe _⟩
            · have hbb5 := below_trans hbb4 hb5
              have EA5 := Lib.hid (EA4.out.blw hb5)
              have HO5 := Lib.hid (owns_below HO4.out hb5)
              have HT5 := Lib.hid (owns_low (lo := G + 1) ho5 EA4.out.lt)
              obtain ⟨at5, ct5, et5, _⟩ := isTexts_of ho5
              rw [List.length_map] at et5
              subst et5
              have hrl := (cutL_len hc5).2
              rw [hc5] at H1
              simp only at H1
              have PX := Lib.hid (prefix_any r w5 (by omega))
              clear hc5 ho5 EA4 hb5 hbb4 HO4
              by_cases hdot : r.head? = some 46
              · rw [decide_eq_true hdot] at PX
                rw [if_pos hdot] at H1
                have hr1 : 1 ≤ r.length := by
                  cases r with
                  | nil => cases hdot
                  | cons _ _ => simp
                have hbz := bs_size r
                have HDR : Hid ((bs r).extract 1 r.length = bs (r.drop 1)) := by show _ = _; rw [← hbz]; exact bs_drop r 1
                clear hdot
                go_wp2_with (go_at_call 24; refine Hid.out ?_)
                refine Lib.hid ?_
                refine PX.out.mono ?_
                rintro _ w6 ⟨rfl, hb6⟩
                have hbb6 := below_trans hbb5 hb6
                have EA6 := Lib.hid (EA5.out.blw hb6)
                have HO6 := Lib.hid (owns_below HO5.out hb6)
                have HT6 := Lib.hid (owns_below HT5.out hb6)
                clear EA5 HO5 HT5 hb6 hbb5 PX
                have z0 := EA6.out.at (i := 0) (v := .string ⟨#[]⟩) rfl
                have z1 := EA6.out.at (i := 1) (v := .slice none 0 0) rfl
                have z2 := EA6.out.at (i := 2) (v := .slice none 0 0) rfl
                have f0 := EA6.out.frozen 0
                have f1 := EA6.out.frozen 1
                have f2 := EA6.out.frozen 2
                go_wp2
                go_region
                go_wp2
                have g6 := ((EA6.out.set 0 (.string sk)).set 1 (.slice an ns.length cn)).set 2 (.slice at5 ts.length ct5)
                have y0 := g6.at (i := 0) (v := .string sk) rfl
                have y1 := g6.at (i := 1) (v := .slice an ns.length cn) rfl
                have y2 := g6.at (i := 2) (v := .slice at5 ts.length ct5) rfl
                refine bodyPost_ret (v := .tuple #[.agg #[.string sk, .slice an ns.length cn, .slice at5 ts.length ct5], .string ((bs r).extract 1 r.length), .bool true]) (by simp [results, Tryd.results9, go_sem, y0, y1, y2]) rfl ⟨.inr ⟨⟨k, ns, ts⟩, r.drop 1, .slice an ns.length cn, .slice at5 ts.length ct5, H1.out, by rw [HSK.out, HDR.out], ?_, ?_⟩, ?_⟩
                · exact owns_low (owns_below (owns_put (owns_put (owns_put HO6.out (Nat.lt_succ_self _)) (Nat.lt_succ_self _)) (Nat.lt_succ_self _)) (below_drew _)) (by omega)
                · exact owns_low (owns_below (owns_put (owns_put (owns_put HT6.out (Nat.lt_succ_self _)) (Nat.lt_succ_self _)) (Nat.lt_succ_self _)) (below_drew _)) (by omega)
                · exact below_trans (((hbb6.setCell (p := ⟨G, 0, none⟩) hGe _).setCell (p := ⟨G, 1, none⟩) hGe _).setCell (p := ⟨G, 2, none⟩) hGe _) (below_drew _)
              · rw [decide_eq_false hdot] at PX
                rw [if_neg hdot] at H1
                have HNO : Hid (oneL s = none) := H1
                clear hdot
                go_wp2_with (go_at_call 24; refine Hid.out ?_)
                refine Lib.hid ?_
                refine PX.out.mono ?_
                rintro _ w6 ⟨rfl, hb6⟩
                have hbb6 := below_trans hbb5 hb6
                have EA6 := Lib.hid (EA5.out.blw hb6)
                clear EA5 hb6 hbb5 PX H1
                have z0 := EA6.out.at (i := 0) (v := .string ⟨#[]⟩) rfl
                have z1 := EA6.out.at (i := 1) (v := .slice none 0 0) rfl
                have z2 := EA6.out.at (i := 2) (v := .slice none 0 0) rfl
                have f0 := EA6.out.frozen 0
                have f1 := EA6.out.frozen 1
                have f2 := EA6.out.frozen 2
                go_wp2
                have g6 := ((EA6.out.set 0 (.string ⟨#[]⟩)).set 1 (.slice none 0 0)).set 2 (.slice none 0 0)
                have y0 := g6.at (i := 0) (v := .string ⟨#[]⟩) rfl
                have y1 := g6.at (i := 1) (v := .slice none 0 0) rfl
                have y2 := g6.at (i := 2) (v := .slice none 0 0) rfl
                exact bodyPost_ret (v := ent0 s) (by simp [results, Tryd.results9, go_sem, y0, y1, y2, ent0]) rfl ⟨.inl ⟨HNO.out, rfl⟩, ((hbb6.setCell (p := ⟨G, 0, none⟩) hGe _).setCell (p := ⟨G, 1, none⟩) hGe _).setCell (p := ⟨G, 2, none⟩) hGe _⟩
          · have HNO : Hid (oneL s = none) := by show _ = _; rw [H1.out, if_pos hk2]
            have hemp2 : (bs k2).toList.isEmpty = false := by
              rw [bs_toList]
              cases k2 with
              | nil => exact absurd rfl hk2
              | cons _ _ => rfl
            subst es2
            generalize bs k2 = sk2 at *
            clear H1 hk2 hs2 IS
            have z0 := EA4.out.at (i := 0) (v := .string ⟨#[]⟩) rfl
            have z1 := EA4.out.at (i := 1) (v := .slice none 0 0) rfl
            have z2 := EA4.out.at (i := 2) (v := .slice none 0 0) rfl
            have f0 := EA4.out.frozen 0
            have f1 := EA4.out.frozen 1
            have f2 := EA4.out.frozen 2
            go_wp2
            have g6 := ((EA4.out.set 0 (.string ⟨#[]⟩)).set 1 (.slice none 0 0)).set 2 (.slice none 0 0)
            have y0 := g6.at (i := 0) (v := .string ⟨#[]⟩) rfl
            have y1 := g6.at (i := 1) (v := .slice none 0 0) rfl
            have y2 := g6.at (i := 2) (v := .slice none 0 0) rfl
            exact bodyPost_ret (v := ent0 s) (by simp [results, Tryd.results9, go_sem, y0, y1, y2, ent0]) rfl ⟨.inl ⟨HNO.out, rfl⟩, ((hbb4.setCell (p := ⟨G, 0, none⟩) hGe _).setCell (p := ⟨G, 1, none⟩) hGe _).setCell (p := ⟨G, 2, none⟩) hGe _⟩
end Go.Proofs.YtifbjngkdifenaaDoor
