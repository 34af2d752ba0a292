/- Journals: the document's first entry of a text. -/
import Derived.Test.YtifbjngkdifenaaDoorK2
namespace Go.Proofs.YtifbjngkdifenaaDoor
open Go.ChangeShapes Go.WideShapes Go.ChangeAt Go.RowKit
open Num
theorem numbersL_word (wd t : List UInt8) (h : (32 : UInt8) ∉ wd) (ht : t = [] ∨ ∃ r, t = 32 :: r) : numbersL (wd ++ t) = match figL t with
    | none => none
    | some r => some (wd, r) := by
  unfold numbersL
  rcases ht with rfl | ⟨r, rfl⟩
  · rw [List.append_nil, spl_not 32 wd h]
    rfl
  · rw [spl_here 32 wd r h, figL_blank, List.tail_cons]
    rfl
theorem numbersL_fig (t : List UInt8) : (match numbersL t with
      | none => (none : Option (List Int))
      | some (k2, sz) => if k2 ≠ [] then none else some sz) = figL t := by
  unfold figL
  cases numbersL t with
  | none => rfl
  | some p =>
    obtain ⟨k, r⟩ := p
    cases k <;> rfl
/-- oneL, as FirstEntry goes over a text. -/
theorem oneL_fig {s line behind hd tl wd t : List UInt8} (hc1 : cutAt 10 s = (line, behind, true)) (hc2 : cutAt 59 line = (hd, tl, true)) (hw : hd = wd ++ t) (h : (32 : UInt8) ∉ wd) (ht : t = [] ∨ ∃ r, t = 32 :: r) :
    oneL s = match figL t with
      | none => none
      | some ns => match figL tl with
        | none => none
        | some sz => if wd = [] then none else match cutL behind sz with
          | none => none
          | some (ts, r) => if r.head? = some 46 then some (⟨wd, ns, ts⟩, r.drop 1) else none := by
  unfold oneL
  rw [hc1]
  simp only
  rw [hc2]
  simp only [Bool.true_eq_false, or_self, if_false]
  rw [hw, numbersL_word wd t h ht, ← numbersL_fig tl]
  cases figL t with
  | none => rfl
  | some ns =>
    simp only
    cases numbersL tl with
    | none => split <;> rfl
    | some p =>
      obtain ⟨k2, sz⟩ := p
      simp only
      by_cases hk : k2 ≠ []
      · rw [if_pos hk, if_pos hk]
        split <;> rfl
      · rw [if_neg hk, if_neg hk]
        rfl
theorem cutAt_eq (c : UInt8) : ∀ (s a b : List UInt8), cutAt c s = (a, b, true) → s = a ++ c :: b := by
  intro s
  induction s with
  | nil => intro a b h; simp [cutAt] at h
  | cons x s ih =>
    intro a b h
    unfold cutAt at h
    split at h
    · rename_i hx
      simp only [Prod.mk.injEq] at h
      obtain ⟨rfl, rfl, _⟩ := h
      rw [hx]
      rfl
    · obtain ⟨p, q, r, hq⟩ : ∃ p q r, cutAt c s = (p, q, r) := ⟨_, _, _, rfl⟩
      rw [hq] at h
      simp only [Prod.mk.injEq] at h
      obtain ⟨rfl, rfl, rfl⟩ := h
      rw [ih p q hq]
      rfl
/-- What FirstEntry says. -/
def FirstSaid (s : List UInt8) (w : World) (e : Ending) (w' : World) : Prop :=
  (oneL s = none ∧ e = .returned (.tuple #[.agg #[.string ⟨#[]⟩, .slice none 0 0, .slice none 0 0], .int .i64 0, .bool false])) ∨ ∃ (en : Ent) (r : List UInt8) (vn vt : Value) (n : Nat), oneL s = some (en, r) ∧ n ≤ s.length ∧ s.drop n = r ∧ e = .returned (.tuple #[.agg #[.string (bs en.kind), vn, vt], .int .i64 n, .bool true]) ∧ w'.ownsRow w.heap.size 3 1 vn en.n.length (cellsI en.n) ∧ w'.ownsRow w.heap.size 9 1 vt en.texts.length (strs en.texts)
def fe0 : Value := .tuple #[.agg #[.string ⟨#[]⟩, .slice none 0 0, .slice none 0 0], .int .i64 0, .bool false]
theorem figL_len {s : List UInt8} {r : List Int} (h : figL s = some r) : r.length ≤ s.length := by
  unfold figL at h
  cases hn : numbersL s with
  | none => rw [hn] at h; cases h
  | some p =>
    obtain ⟨k, q⟩ := p
    rw [hn] at h
    cases k with
    | nil =>
      simp only [Option.some.injEq] at h
      rw [← h]
      exact numbersL_len hn
    | cons _ _ => cases h
theorem bs_mid (s : List UInt8) (a m : Nat) : (bs s).extract a (a + m) = bs ((s.drop a).take m) := by
  apply ByteArray.ext
  apply Array.ext'
  simp only [ByteArray.data_extract, Array.toList_extract, List.extract_eq_take_drop, bs_data]
  rw [show a + m - a = m by omega]
/-- What FirstEntry has so far: its result's block, the entry's, the rows of numbers, of sizes and of texts. -/
structure FE (w : World) (G P : Nat) (wd : List UInt8) (ns sz : List Int) (vn vs tv : Value) (ts : List (List UInt8)) (wr : World) : Prop where
  res : Blk wr G 30 [.string ⟨#[]⟩, .slice none 0 0, .slice none 0 0]
  ent : Blk wr P 30 [.string (bs wd), vn, tv]
  rn : wr.ownsRow (P + 1) 3 1 vn ns.length (cellsI ns)
  rs : wr.ownsRow (P + 1) 3 1 vs sz.length (cellsI sz)
  rt : wr.ownsRow (P + 1) 9 1 tv ts.length (strs ts)
  bel : Below w.heap.size w wr
theorem FE.more {w wr w9 w10 : World} {G P : Nat} {wd x : List UInt8} {ns sz : List Int} {vn vs tv nv : Value} {ts : List (List UInt8)} (h : FE w G P wd ns sz vn vs tv ts wr) (hGP : G < P) (hwG : w.heap.size ≤ G) (hb9 : Below wr.heap.size wr w9) (hg : w9.grownBy w10 tv.ownBlock) (ho : w10.ownsRow (P + 1) 9 1 nv (ts ++ [x]).length (strs (ts ++ [x]))) : FE w G P wd ns sz vn vs nv (ts ++ [x]) (w10.setCell ⟨P, 2, none⟩ nv) := by
  have r9 := owns_below h.rt hb9
  have hP9 : P < w9.heap.size := Nat.lt_of_lt_of_le h.ent.lt hb9.size
  have hb := below_trans h.bel hb9
  have e10 : Blk w10 P 30 [.string (bs wd), vn, tv] := (hg.block P hP9 (fun e => by have := (r9.lt _ e.symm).1; omega)).trans (h.ent.blw hb9)
  have g10 : Blk w10 G 30 [.string ⟨#[]⟩, .slice none 0 0, .slice none 0 0] := (hg.block G (by omega) (fun e => by have := (r9.lt _ e.symm).1; omega)).trans (h.res.blw hb9)
  have b10 : Below w.heap.size w w10 := hb.grown hg hb.size (fun q hq => by have := (r9.lt q hq).1; omega)
  refine ⟨g10.other 2 nv (by omega), ?_, owns_put (owns_grown (owns_below h.rn hb9) r9 (by decide) hg) (Nat.lt_succ_self _), owns_put (owns_grown (owns_below h.rs hb9) r9 (by decide) hg) (Nat.lt_succ_self _), owns_put ho (Nat.lt_succ_self _), b10.setCell (p := ⟨P, 2, none⟩) (by show w.heap.size ≤ P; omega) _⟩
  exact e10.set 2 nv
theorem FE.ent_grown {w wr w9 w10 : World} {G P : Nat} {wd : List UInt8} {ns sz : List Int} {vn vs tv : Value} {ts : List (List UInt8)} (h : FE w G P wd ns sz vn vs tv ts wr) (hb9 : Below wr.heap.size wr w9) (hg : w9.grownBy w10 tv.ownBlock) : Blk w10 P 30 [.string (bs wd), vn, tv] := by
  have r9 := owns_below h.rt hb9
  have hP9 : P < w9.heap.size := Nat.lt_of_lt_of_le h.ent.lt hb9.size
  exact (hg.block P hP9 (fun e => by have := (r9.lt _ e.symm).1; omega)).trans (h.ent.blw hb9)
theorem drop_head (l : List UInt8) (a : Nat) : (l.drop a).head? = l[a]? := by rw [List.head?_drop]
set_option maxRecDepth 100000 in
set_option maxHeartbeats 4000000 in
theorem first_any (s : List UInt8) (w : World) (hs : s.length ≤ 10000000) :
    Calls Tryd.prog 10 #[.string (bs s)] w fun e w' => FirstSaid s w e w' ∧ Below w.heap.size w w' := by
  obtain ⟨w0, hw0⟩ : ∃ w0, w0 = w.alloc (.cells #[.string ⟨#[]⟩, .slice none 0 0, .slice none 0 0] 30) := ⟨_, rfl⟩
  have hb0 : Below w.heap.size w w0 := by rw [hw0]; exact (Below.refl _ _).alloc (Nat.le_refl _) _
  have A0 : Blk w0 w.heap.size 30 [.string ⟨#[]⟩, .slice none 0 0, .slice none 0 0] := by rw [hw0]; exact Blk.new w _ _
  obtain ⟨G, hG⟩ : ∃ G, G = w.heap.size := ⟨_, rfl⟩
  rw [← hG] at A0
  have hGe : w.heap.size ≤ G := by omega
  have EA := Lib.hid A0
  obtain ⟨line, behind, ended, hc1⟩ : ∃ line behind ended, cutAt 10 s = (line, behind, ended) := ⟨_, _, _, rfl⟩
  obtain ⟨hd, tl, parted, hc2⟩ : ∃ hd tl parted, cutAt 59 line = (hd, tl, parted) := ⟨_, _, _, rfl⟩
  have l1 := cutAt_le 10 s
  rw [hc1] at l1
  have l2 := cutAt_le 59 line
  rw [hc2] at l2
  simp only at l1 l2
  have U1 : Hid (∀ w1, Calls Tryd.prog 25 #[.string (bs s), .int .u8 10] w1 fun e w' => e = .returned (.tuple #[.string (bs line), .string (bs behind), .bool ended]) ∧ Below w1.heap.size w1 w') := fun w1 => by
    have h := upTo_any (bs s) 10 w1 (by rw [bs_size]; unfold maxLen; omega)
    rw [bs_data, hc1] at h
    refine Calls.mono h fun e w' q => ?_
    obtain ⟨q1, n, q2⟩ := q
    exact ⟨q1, by rw [q2]; exact below_drewN _ _⟩
  have U2 : Hid (∀ w1, Calls Tryd.prog 25 #[.string (bs line), .int .u8 59] w1 fun e w' => e = .returned (.tuple #[.string (bs hd), .string (bs tl), .bool parted]) ∧ Below w1.heap.size w1 w') := fun w1 => by
    have h := upTo_any (bs line) 59 w1 (by rw [bs_size]; unfold maxLen; omega)
    rw [bs_data, hc2] at h
    refine Calls.mono h fun e w' q => ?_
    obtain ⟨q1, n, q2⟩ := q
    exact ⟨q1, by rw [q2]; exact below_drewN _ _⟩
  have HC1 := Lib.hid hc1
  have HC2 := Lib.hid hc2
  have HW0 := Lib.hid hw0
  have HG := Lib.hid hG
  clear hw0 hG A0 hc1 hc2
  go_enter Tryd.func10, Tryd.ntmps10
  go_wp2_with (go_at_call 25; refine Hid.out ?_)
  refine Lib.hid ?_
  rw [← HW0.out, ← HG.out]
  clear HW0
  refine (U1.out _).mono ?_
  rintro _ w1 ⟨rfl, hb1⟩
  have hbb1 := below_trans hb0 hb1
  have EA1 := Lib.hid (EA.out.blw hb1)
  go_wp2_with (go_at_call 25; refine Hid.out ?_)
  refine Lib.hid ?_
  refine (U2.out _).mono ?_
  rintro _ w2 ⟨rfl, hb2⟩
  have hbb2 := below_trans hbb1 hb2
  have EA2 := Lib.hid (EA1.out.blw hb2)
  clear U1 U2 EA EA1 hb0 hb1 hbb1 hb2
  by_cases hep : ended = false ∨ parted = false
  · have HNO : Hid (oneL s = none) := by
      show _ = _
      unfold oneL
      rw [HC1.out]
      simp only
      rw [HC2.out, if_pos hep]
    clear HC1 HC2
    cases ended with
    | false =>
      have z0 := EA2.out.at (i := 0) (v := .string ⟨#[]⟩) rfl
      have z1 := EA2.out.at (i := 1) (v := .slice none 0 0) rfl
      have z2 := EA2.out.at (i := 2) (v := .slice none 0 0) rfl
      have f0 := EA2.out.frozen 0
      have f1 := EA2.out.frozen 1
      have f2 := EA2.out.frozen 2
      go_wp2
      have g6 := ((EA2.out.set 0 (.string ⟨#[]⟩)).set 1 (.slice none 0 0)).set 2 (.slice none 0 0)
      have y0 := g6.at (i := 0) (v := .string ⟨#[]⟩) rfl
      have y1 := g6.at (i := 1) (v := .slice none 0 0) rfl
      have y2 := g6.at (i := 2) (v := .slice none 0 0) rfl
      exact bodyPost_ret (v := fe0) (by simp [results, Tryd.results10, go_sem, y0, y1, y2, fe0]) rfl ⟨.inl ⟨HNO.out, rfl⟩, ((hbb2.setCell (p := ⟨G, 0, none⟩) hGe _).setCell (p := ⟨G, 1, none⟩) hGe _).setCell (p := ⟨G, 2, none⟩) hGe _⟩
    | true =>
      have hp : parted = false := by rcases hep with h | h; cases h; exact h
      subst hp
      have z0 := EA2.out.at (i := 0) (v := .string ⟨#[]⟩) rfl
      have z1 := EA2.out.at (i := 1) (v := .slice none 0 0) rfl
      have z2 := EA2.out.at (i := 2) (v := .slice none 0 0) rfl
      have f0 := EA2.out.frozen 0
      have f1 := EA2.out.frozen 1
      have f2 := EA2.out.frozen 2
      go_wp2
      have g6 := ((EA2.out.set 0 (.string ⟨#[]⟩)).set 1 (.slice none 0 0)).set 2 (.slice none 0 0)
      have y0 := g6.at (i := 0) (v := .string ⟨#[]⟩) rfl
      have y1 := g6.at (i := 1) (v := .slice none 0 0) rfl
      have y2 := g6.at (i := 2) (v := .slice none 0 0) rfl
      exact bodyPost_ret (v := fe0) (by simp [results, Tryd.results10, go_sem, y0, y1, y2, fe0]) rfl ⟨.inl ⟨HNO.out, rfl⟩, ((hbb2.setCell (p := ⟨G, 0, none⟩) hGe _).setCell (p := ⟨G, 1, none⟩) hGe _).setCell (p := ⟨G, 2, none⟩) hGe _⟩
  · obtain ⟨rfl, rfl⟩ : ended = true ∧ parted = true := by
      cases ended <;> cases parted <;> simp_all
    clear hep
    obtain ⟨wd, t, hwt, hnw, ht⟩ := word_of hd
    have H1 := Lib.hid (oneL_fig HC1.out HC2.out hwt hnw ht)
    have HSE := Lib.hid (cutAt_eq 10 s line behind HC1.out)
    have hlen : wd.length + t.length = hd.length := by rw [hwt, List.length_append]
    have HWT := Lib.hid hwt
    have HNW := Lib.hid hnw
    have HT := Lib.hid ht
    have HLN := Lib.hid hlen
    have hsz := bs_size hd
    have hsz2 : (bs hd).size ≤ 10000000 := by omega
    have HSZ := Lib.hid hsz
    clear HC1 HC2 hwt hnw ht hlen hsz
    go_wp2
    go_loopg [11] wd.length (fun gg nv wq => ∃ j : Nat, gg = wd.length - j ∧ j ≤ wd.length ∧ nv = .int .i64 j ∧ wq = w2)
    case atStart => exact ⟨0, rfl, Nat.zero_le _, rfl, rfl⟩
    case round =>
      obtain ⟨j, hgj, hj, rfl, rfl⟩ := hrel
      have HGJ := Lib.hid hgj
      clear hgj
      by_cases hjl : j < wd.length
      · have hps : j < (bs hd).size := by have := HLN.out; have := HSZ.out; omega
        obtain ⟨y, hy⟩ : ∃ y, wd[j]? = some y := ⟨wd[j], List.getElem?_eq_getElem hjl⟩
        have hsy : hd[j]? = some y := by rw [HWT.out, List.getElem?_append_left hjl, hy]
        have hby := byte_at3 hps hsy
        have hy32 : ((y.toNat : Int) == 32) = false := by
          simp only [beq_eq_false_iff_ne, ne_eq]
          intro e
          have : y = 32 := UInt8.toNat_inj.1 (by show y.toNat = 32; omega)
          subst this
          exact HNW.out (List.mem_of_getElem? hy)
        clear hy hsy
        go_wp2
        go_roundg (wd.length - (j + 1))
        case measure => have := HGJ.out; omega
        case rel => exact ⟨j + 1, rfl, by omega, by go_num, rfl⟩
      · have ej : j = wd.length := by omega
        have hjs : j ≤ (bs hd).size := by have := HLN.out; have := HSZ.out; omega
        have htk : (bs hd).extract 0 j = bs wd := by rw [bs_take, HWT.out, ej, List.take_left]
        have hdr : (bs hd).extract j (bs hd).size = bs t := by rw [bs_drop, HWT.out, ej, List.drop_left]
        have hpe : ¬ j < (bs hd).size ∨ ∃ h : j < (bs hd).size, (bs hd)[j]'h = 32 := by
          rcases HT.out with h | ⟨rr, h⟩
          · left
            have := HLN.out
            rw [h, List.length_nil] at this
            have := HSZ.out
            omega
          · right
            have := HLN.out
            rw [h, List.length_cons] at this
            have hlt : j < (bs hd).size := by have := HSZ.out; omega
            refine ⟨hlt, byte_at3 hlt ?_⟩
            rw [HWT.out, ej, h, List.getElem?_append_right (Nat.le_refl _), Nat.sub_self]
            rfl
        obtain ⟨w3, hw3⟩ : ∃ w3, w3 = wr.alloc (.cells #[.string (bs wd), .slice none 0 0, .slice none 0 0] 30) := ⟨_, rfl⟩
        obtain ⟨P, hP⟩ : ∃ P, P = wr.heap.size := ⟨_, rfl⟩
        have hb3 : Below wr.heap.size wr w3 := by rw [hw3]; exact (Below.refl _ _).alloc (Nat.le_refl _) _
        have EP3 : Hid (Blk w3 P 30 [.string (bs wd), .slice none 0 0, .slice none 0 0]) := by rw [hw3, hP]; exact Blk.new wr _ _
        have EA3 := Lib.hid (EA2.out.blw hb3)
        have hbb3 := below_trans hbb2 hb3
        have hGP : G < P := by rw [hP]; exact EA2.out.lt
        have HW3 := Lib.hid hw3
        have HP := Lib.hid hP
        have HEJ := Lib.hid ej
        have F1 := Lib.hid (figures_any t w3 (by have := HLN.out; omega))
        clear hw3 hP ej hb3
        rcases hpe with hpe | ⟨hpe, hby⟩
        case' inr =>
          have hy32 : (((32 : UInt8).toNat : Int) == 32) = true := rfl
          generalize (32 : UInt8) = c32 at hby hy32
        all_goals
          go_wp2_with (go_at_call 26; refine Hid.out ?_)
          refine Lib.hid ?_
          rw [← HW3.out, ← HP.out]
          clear HW3 HP htk hdr EA2 hbb2
          refine F1.out.mono ?_
          rintro _ w4 ⟨q4, hb4⟩
          have hbb4 := below_trans hbb3 hb4
          have EA4 := Lib.hid (EA3.out.blw hb4)
          have EP4 := Lib.hid (EP3.out.blw hb4)
          have F2 := Lib.hid (figures_any tl w4 (by omega))
          have hP3 := EP3.out.lt
          clear F1 EA3 EP3 hbb3
          rcases q4 with ⟨hf4, rfl⟩ | ⟨ns, vn, hf4, rfl, ho4⟩
          · have HNO : Hid (oneL s = none) := by show _ = _; rw [H1.out, hf4]
            clear H1 hf4
            go_wp2_with (go_at_call 26; refine Hid.out ?_)
            refine Lib.hid ?_
            refine F2.out.mono ?_
            rintro _ w5 ⟨q5, hb5⟩
            have hbb5 := below_trans hbb4 hb5
            have EA5 := Lib.hid (EA4.out.blw hb5)
            clear F2 EA4 hbb4 hb5
            rcases q5 with ⟨hf5, rfl⟩ | ⟨sz, vs, hf5, rfl, ho5⟩
            all_goals
              have z0 := EA5.out.at (i := 0) (v := .string ⟨#[]⟩) rfl
              have z1 := EA5.out.at (i := 1) (v := .slice none 0 0) rfl
              have z2 := EA5.out.at (i := 2) (v := .slice none 0 0) rfl
              have f0 := EA5.out.frozen 0
              have f1 := EA5.out.frozen 1
              have f2 := EA5.out.frozen 2
              go_wp2
              have g6 := ((EA5.out.set 0 (.string ⟨#[]⟩)).set 1 (.slice none 0 0)).set 2 (.slice none 0 0)
              have y0 := g6.at (i := 0) (v := .string ⟨#[]⟩) rfl
              have y1 := g6.at (i := 1) (v := .slice none 0 0) rfl
              have y2 := g6.at (i := 2) (v := .slice none 0 0) rfl
              exact bodyPost_ret (v := fe0) (by simp [results, Tryd.results10, go_sem, y0, y1, y2, fe0]) rfl ⟨.inl ⟨HNO.out, rfl⟩, ((hbb5.setCell (p := ⟨G, 0, none⟩) hGe _).setCell (p := ⟨G, 1, none⟩) hGe _).setCell (p := ⟨G, 2, none⟩) hGe _⟩
          · obtain ⟨an, cn, en, _⟩ := isIs_of ho4
            subst en
            have HO4 := Lib.hid (owns_low (lo := P + 1) ho4 hP3)
            rw [hf4] at H1
            simp only at H1
            clear ho4
            go_wp2_with (go_at_call 26; refine Hid.out ?_)
            refine Lib.hid ?_
            refine F2.out.mono ?_
            rintro _ w5 ⟨q5, hb5⟩
            have hbb5 := below_trans hbb4 hb5
            have EA5 := Lib.hid (EA4.out.blw hb5)
            have EP5 := Lib.hid (EP4.out.blw hb5)
            have HO5 := Lib.hid (owns_below HO4.out hb5)
            have hP4 := EP4.out.lt
            clear F2 EA4 EP4 HO4 hbb4 hb4
            rcases q5 with ⟨hf5, rfl⟩ | ⟨sz, vs, hf5, rfl, ho5⟩
            · have HNO : Hid (oneL s = none) := by show _ = _; rw [H1.out, hf5]
              clear H1 hf5
              have z0 := EA5.out.at (i := 0) (v := .string ⟨#[]⟩) rfl
              have z1 := EA5.out.at (i := 1) (v := .slice none 0 0) rfl
              have z2 := EA5.out.at (i := 2) (v := .slice none 0 0) rfl
              have f0 := EA5.out.frozen 0
              have f1 := EA5.out.frozen 1
              have f2 := EA5.out.frozen 2
              go_wp2
              have g6 := ((EA5.out.set 0 (.string ⟨#[]⟩)).set 1 (.slice none 0 0)).set 2 (.slice none 0 0)
              have y0 := g6.at (i := 0) (v := .string ⟨#[]⟩) rfl
              have y1 := g6.at (i := 1) (v := .slice none 0 0) rfl
              have y2 := g6.at (i := 2) (v := .slice none 0 0) rfl
              exact bodyPost_ret (v := fe0) (by simp [results, Tryd.results10, go_sem, y0, y1, y2, fe0]) rfl ⟨.inl ⟨HNO.out, rfl⟩, ((hbb5.setCell (p := ⟨G, 0, none⟩) hGe _).setCell (p := ⟨G, 1, none⟩) hGe _).setCell (p := ⟨G, 2, none⟩) hGe _⟩
            · obtain ⟨as2, cs2, es2, _⟩ := isIs_of ho5
              subst es2
              have HS5 := Lib.hid (owns_low (lo := P + 1) ho5 hP4)
              have hszl := figL_len hf5
              rw [hf5] at H1
              simp only at H1
              clear ho5 hb5
              by_cases hw0 : wd = []
              · have HNO : Hid (oneL s = none) := by show _ = _; rw [H1.out, if_pos hw0]
                have hj0 : j = 0 := by rw [HEJ.out, hw0]; rfl
                subst hj0
                clear H1 hw0
                have z0 := EA5.out.at (i := 0) (v := .string ⟨#[]⟩) rfl
                have z1 := EA5.out.at (i := 1) (v := .slice none 0 0) rfl
                have z2 := EA5.out.at (i := 2) (v := .slice none 0 0) rfl
                have f0 := EA5.out.frozen 0
                have f1 := EA5.out.frozen 1
                have f2 := EA5.out.frozen 2
                go_wp2
                have g6 := ((EA5.out.set 0 (.string ⟨#[]⟩)).set 1 (.slice none 0 0)).set 2 (.slice none 0 0)
                have y0 := g6.at (i := 0) (v := .string ⟨#[]⟩) rfl
                have y1 := g6.at (i := 1) (v := .slice none 0 0) rfl
                have y2 := g6.at (i := 2) (v := .slice none 0 0) rfl
                exact bodyPost_ret (v := fe0) (by simp [results, Tryd.results10, go_sem, y0, y1, y2, fe0]) rfl ⟨.inl ⟨HNO.out, rfl⟩, ((hbb5.setCell (p := ⟨G, 0, none⟩) hGe _).setCell (p := ⟨G, 1, none⟩) hGe _).setCell (p := ⟨G, 2, none⟩) hGe _⟩
              · rw [if_neg hw0] at H1
                have hj0 : ¬ j = 0 := fun e => hw0 (List.length_eq_zero_iff.1 (by rw [← HEJ.out, e]))
                have hj0' : ((j : Int) == 0) = false := by simp only [beq_eq_false_iff_ne, ne_eq]; omega
                have hPG : w.heap.size ≤ P := by omega
                obtain ⟨w6, hw6⟩ : ∃ w6, w6 = w5.setCell ⟨P, 1, none⟩ (.slice an ns.length cn) := ⟨_, rfl⟩
                have E6 : Hid (FE w G P wd ns sz (.slice an ns.length cn) (.slice as2 sz.length cs2) (.slice none 0 0) [] w6) := by
                  rw [hw6]
                  exact ⟨EA5.out.other 1 _ (by omega), EP5.out.set 1 _, owns_put HO5.out (Nat.lt_succ_self _), owns_put HS5.out (Nat.lt_succ_self _), World.ownsRow_nil _ _ _ _, hbb5.setCell (p := ⟨P, 1, none⟩) hPG _⟩
                have HW6 := Lib.hid hw6
                have z1 := EP5.out.at (i := 1) (v := .slice none 0 0) rfl
                have f1 := EP5.out.frozen 1
                have hsb := bs_size behind
                have hsb2 : (bs behind).size ≤ 10000000 := by omega
                have hsl := bs_size line
                have hsl2 : (bs line).size ≤ 10000000 := by omega
                have HSB := Lib.hid hsb
                have HSL := Lib.hid hsl
                have hszm : sz.length ≤ 10000000 := by omega
                clear hw6 hsb hsl EA5 EP5 HO5 HS5 hbb5 hw0 HEJ hf5
                go_wp2
                rw [← HW6.out]
                clear HW6 z1 f1
                go_loopg [17, 18] sz.length (fun gg av iv wq => ∃ (i a : Nat) (ts : List (List UInt8)) (tv : Value), gg = sz.length - i ∧ i ≤ sz.length ∧ av = .int .i64 a ∧ iv = .int .i64 i ∧ a ≤ (bs behind).size ∧ ts.length = i ∧ Hid (cutL behind (sz.take i) = some (ts, behind.drop a)) ∧ Hid (FE w G P wd ns sz (.slice an ns.length cn) (.slice as2 sz.length cs2) tv ts wq))
                case atStart => exact ⟨0, 0, [], _, rfl, Nat.zero_le _, rfl, rfl, Nat.zero_le _, rfl, rfl, E6⟩
                case round =>
                  clear E6
                  obtain ⟨i, a, ts, tv, hgi, hi, rfl, rfl, ha, htl, HR, HF⟩ := hrel
                  have HGI := Lib.hid hgi
                  have HTL := Lib.hid htl
                  have htm : ts.length ≤ sz.length := by omega
                  clear htl
                  have EA6 : Hid (Blk wr G 30 [.string ⟨#[]⟩, .slice none 0 0, .slice none 0 0]) := HF.out.res
                  have hbb6 := HF.out.bel
                  clear hgi
                  by_cases hlt : i < sz.length
                  · obtain ⟨a0', c0', ea, hcell⟩ := isIs_of HF.out.rs
                    simp only [Value.slice.injEq] at ea
                    obtain ⟨rfl, _, rfl⟩ := ea
                    obtain ⟨b, off, rfl, c1⟩ := hcell i hlt
                    have hsn : cutL behind (sz.take (i + 1)) = if sz[i] < 0 ∨ ((behind.drop a).length : Int) < sz[i] then none else some (ts ++ [(behind.drop a).take sz[i].toNat], (behind.drop a).drop sz[i].toNat) := by
                      rw [List.take_succ_eq_append_getElem hlt, cutL_snoc, HR.out]
                    have HS := Lib.hid hsn
                    have HST : Hid (cutL behind (sz.take (i + 1)) = none → oneL s = none) := fun h => by rw [H1.out, cutL_stop h]
                    clear hsn hcell
                    generalize hxx : sz[i] = x at *
                    have HXX := Lib.hid hxx
                    clear hxx
                    by_cases hx0 : x < 0
                    · have HNO : Hid (oneL s = none) := HST.out (HS.out.trans (if_pos (.inl hx0)))
                      have hd : decide (x < 0) = true := decide_eq_true hx0
                      clear H1 HR HF HS HST
                      have z0 := EA6.out.at (i := 0) (v := .string ⟨#[]⟩) rfl
                      have z1 := EA6.out.at (i := 1) (v := .slice none 0 0) rfl
                      have z2 := EA6.out.at (i := 2) (v := .slice none 0 0) rfl
                      have f0 := EA6.out.frozen 0
                      have f1 := EA6.out.frozen 1
                      have f2 := EA6.out.frozen 2
                      go_wp2
                      have g6 := ((EA6.out.set 0 (.string ⟨#[]⟩)).set 1 (.slice none 0 0)).set 2 (.slice none 0 0)
                      have y0 := g6.at (i := 0) (v := .string ⟨#[]⟩) rfl
                      have y1 := g6.at (i := 1) (v := .slice none 0 0) rfl
                      have y2 := g6.at (i := 2) (v := .slice none 0 0) rfl
                      exact bodyPost_ret (v := fe0) (by simp [results, Tryd.results10, go_sem, y0, y1, y2, fe0]) rfl ⟨.inl ⟨HNO.out, rfl⟩, ((hbb6.setCell (p := ⟨G, 0, none⟩) hGe _).setCell (p := ⟨G, 1, none⟩) hGe _).setCell (p := ⟨G, 2, none⟩) hGe _⟩
                    · by_cases hx1 : ((bs behind).size : Int) - (a : Int) < x
                      · have HNO : Hid (oneL s = none) := HST.out (HS.out.trans (if_pos (.inr (by rw [List.length_drop]; have := HSB.out; omega))))
                        clear H1 HR HF HS HST
                        have z0 := EA6.out.at (i := 0) (v := .string ⟨#[]⟩) rfl
                        have z1 := EA6.out.at (i := 1) (v := .slice none 0 0) rfl
                        have z2 := EA6.out.at (i := 2) (v := .slice none 0 0) rfl
                        have f0 := EA6.out.frozen 0
                        have f1 := EA6.out.frozen 1
                        have f2 := EA6.out.frozen 2
                        go_wp2
                        have g6 := ((EA6.out.set 0 (.string ⟨#[]⟩)).set 1 (.slice none 0 0)).set 2 (.slice none 0 0)
                        have y0 := g6.at (i := 0) (v := .string ⟨#[]⟩) rfl
                        have y1 := g6.at (i := 1) (v := .slice none 0 0) rfl
                        have y2 := g6.at (i := 2) (v := .slice none 0 0) rfl
                        exact bodyPost_ret (v := fe0) (by simp [results, Tryd.results10, go_sem, y0, y1, y2, fe0]) rfl ⟨.inl ⟨HNO.out, rfl⟩, ((hbb6.setCell (p := ⟨G, 0, none⟩) hGe _).setCell (p := ⟨G, 1, none⟩) hGe _).setCell (p := ⟨G, 2, none⟩) hGe _⟩
                      · obtain ⟨m, rfl⟩ := Int.eq_ofNat_of_zero_le (a := x) (by omega)
                        obtain ⟨am, ham⟩ : ∃ am : Nat, (a : Int) + (m : Int) = (am : Int) := ⟨a + m, by omega⟩
                        have ham1 : a ≤ am := by omega
                        have ham2 : am ≤ (bs behind).size := by omega
                        have hwam : IntKind.i64.wrap (am : Int) = (am : Int) := wrap_small _ (by omega) (by omega)
                        have HAM : Hid (am = a + m) := by show _ = _; omega
                        have HS2 : Hid (cutL behind (sz.take (i + 1)) = some (ts ++ [(behind.drop a).take m], behind.drop am)) := by
                          show _ = _
                          rw [HS.out, if_neg (by rw [List.length_drop]; have := HSB.out; omega), HAM.out, Int.toNat_natCast, List.drop_drop]
                        have HEX : Hid ((bs behind).extract a am = bs ((behind.drop a).take m)) := by
                          show _ = _
                          rw [HAM.out]
                          exact bs_mid behind a m
                        obtain ⟨i0, hi0, hz0, hz1, hz2⟩ := info_parts infoStr
                        have q2 := HF.out.ent.at (i := 2) (v := tv) rfl
                        have hPw := HF.out.ent.lt
                        have HMO : Hid (∀ (w9 w10 : World) (g cap : Nat), Below wr.heap.size wr w9 → w9.grownBy w10 tv.ownBlock → w10.ownsRow (P + 1) 9 1 (.slice (some ⟨g, 0, none⟩) (ts.length + 1) cap) (ts.length + 1) (strs ts ++ [.string ((bs behind).extract a am)]) → FE w G P wd ns sz (.slice an ns.length cn) (.slice (some ⟨b, off, none⟩) sz.length cs2) (.slice (some ⟨g, 0, none⟩) (ts.length + 1) cap) (ts ++ [(behind.drop a).take m]) (w10.setCell ⟨P, 2, none⟩ (.slice (some ⟨g, 0, none⟩) (ts.length + 1) cap))) := fun w9 w10 g cap hb9 hg ho => by
                          refine HF.out.more hGP hGe hb9 hg ?_
                          rw [strs_append, List.length_append]
                          have e : strs [(behind.drop a).take m] = [.string ((bs behind).extract a am)] := by rw [HEX.out]; rfl
                          rw [e]
                          exact ho
                        clear HS HST HR
                        go_wp2_with fail
                        go_region_law (refine step_append_lies _ rfl (.tmp 103) (.tmp 113) 23 rfl (P + 1) 9 i0 (.string ⟨#[]⟩) 1 16 Tryd.underlying23 hi0 hz0 hz1 hz2 rfl (by decide) tv ts.length (strs ts) (by simp [Act.eval]) ((owns_below HF.out.rt (below_drew wr)).alloc _) ⟨wr.heap.size, 0, none⟩ 1 1 [.string ((bs behind).extract a am)] (by simp [Act.eval]) rfl (World.news_of_block (heap_alloc_new _ _)) (by intro u hu; simp at hu; subst hu; rfl) (by decide) (by unfold maxLen; omega) (by omega) (by simp; omega) _ rfl ?_; intro g cap w10 hown10 hgrow10 hat10 hlt10; have q10 := Lib.hid (HMO.out _ _ g cap (below_trans (below_drew wr) ((Below.refl _ _).alloc (Nat.le_refl _) _)) hgrow10 hown10); have k10 := HF.out.ent_grown (below_trans (below_drew wr) ((Below.refl _ _).alloc (Nat.le_refl _) _)) hgrow10; have c10 := k10.at (i := 2) (v := tv) rfl; have f10 := k10.frozen 2)
                        all_goals
                          clear k10 c10 f10 hown10 hgrow10 hat10 hlt10 HMO q2 c1
                          generalize w10.setCell ⟨P, 2, none⟩ (.slice (some ⟨g, 0, none⟩) (ts.length + 1) cap) = w11 at *
                          obtain ⟨a0', c0', ea, hcell⟩ := isIs_of q10.out.rs
                          simp only [Value.slice.injEq] at ea
                          obtain ⟨rfl, _, rfl⟩ := ea
                          obtain ⟨b', off', eb, c11⟩ := hcell i hlt
                          rw [Option.some.injEq, Addr.mk.injEq] at eb
                          obtain ⟨rfl, rfl, _⟩ := eb
                          rw [HXX.out] at c11
                          clear hcell
                          go_wp2
                          go_roundg (sz.length - (i + 1))
                          case measure => have := HGI.out; omega
                          case rel => exact ⟨i + 1, am, _, _, rfl, by omega, by first | rfl | go_num, by go_num, ham2, by rw [List.length_append, HTL.out]; rfl, HS2, q10⟩
                  · have ei : i = sz.length := by omega
                    have HR2 : Hid (cutL behind sz = some (ts, behind.drop a)) := by
                      have h := HR.out
                      rw [ei, List.take_length] at h
                      exact h
                    rw [HR2.out] at H1
                    simp only at H1
                    clear HR HR2 ei
                    by_cases hae : a < (bs behind).size
                    · obtain ⟨y, hy⟩ : ∃ y, behind[a]? = some y := ⟨behind[a]'(by have := HSB.out; omega), List.getElem?_eq_getElem _⟩
                      have hby := byte_at3 hae hy
                      rw [drop_head, hy] at H1
                      by_cases h46 : y = 46
                      · have hy46 : ((y.toNat : Int) == 46) = true := by rw [h46]; rfl
                        have hy46b : ((y.toNat : Int) != 46) = false := by rw [h46]; rfl
                        have hsa : decide ((bs behind).size ≤ a) = false := decide_eq_false (by omega)
                        rw [if_pos (by rw [h46])] at H1
                        have q0 := HF.out.ent.at (i := 0) (v := .string (bs wd)) rfl
                        have q1 := HF.out.ent.at (i := 1) (v := .slice an ns.length cn) rfl
                        have q2 := HF.out.ent.at (i := 2) (v := tv) rfl
                        have z0 := EA6.out.at (i := 0) (v := .string ⟨#[]⟩) rfl
                        have z1 := EA6.out.at (i := 1) (v := .slice none 0 0) rfl
                        have z2 := EA6.out.at (i := 2) (v := .slice none 0 0) rfl
                        have f0 := EA6.out.frozen 0
                        have f1 := EA6.out.frozen 1
                        have f2 := EA6.out.frozen 2
                        obtain ⟨av, cv, etv, _⟩ := isTexts_of HF.out.rt
                        rw [List.length_map] at etv
                        subst etv
                        clear h46 hy
                        go_wp2
                        have g6 := ((EA6.out.set 0 (.string (bs wd))).set 1 (.slice an ns.length cn)).set 2 (.slice av ts.length cv)
                        have y0 := g6.at (i := 0) (v := .string (bs wd)) rfl
                        have y1 := g6.at (i := 1) (v := .slice an ns.length cn) rfl
                        have y2 := g6.at (i := 2) (v := .slice av ts.length cv) rfl
                        have hnn : (((bs line).size : Int) + 1 + (a : Int) + 1) = ((line.length + 1 + a + 1 : Nat) : Int) := by rw [HSL.out]; omega
                        refine bodyPost_ret (v := .tuple #[.agg #[.string (bs wd), .slice an ns.length cn, .slice av ts.length cv], .int .i64 (((bs line).size : Int) + 1 + (a : Int) + 1), .bool true]) (by simp [results, Tryd.results10, go_sem, y0, y1, y2]) rfl ⟨.inr ⟨⟨wd, ns, ts⟩, (behind.drop a).drop 1, .slice an ns.length cn, .slice av ts.length cv, line.length + 1 + a + 1, H1.out, ?_, ?_, by rw [hnn], ?_, ?_⟩, ?_⟩
                        · have h := congrArg List.length HSE.out
                          rw [List.length_append, List.length_cons] at h
                          have := HSB.out
                          omega
                        · rw [HSE.out, show line.length + 1 + a + 1 = line.length + (1 + (a + 1)) by omega, ← List.drop_drop, List.drop_left, show 1 + (a + 1) = (a + 1) + 1 by omega, List.drop_succ_cons, List.drop_drop]
                        · exact owns_low (owns_put (owns_put (owns_put HF.out.rn (by omega)) (by omega)) (by omega)) (by omega)
                        · exact owns_low (owns_put (owns_put (owns_put HF.out.rt (by omega)) (by omega)) (by omega)) (by omega)
                        · exact ((hbb6.setCell (p := ⟨G, 0, none⟩) hGe _).setCell (p := ⟨G, 1, none⟩) hGe _).setCell (p := ⟨G, 2, none⟩) hGe _
                      · have hy46 : ((y.toNat : Int) == 46) = false := by
                          simp only [beq_eq_false_iff_ne, ne_eq]
                          intro e
                          exact h46 (UInt8.toNat_inj.1 (by show y.toNat = 46; omega))
                        have hy46b : ((y.toNat : Int) != 46) = true := by rw [bne, hy46]; rfl
                        have hsa : decide ((bs behind).size ≤ a) = false := decide_eq_false (by omega)
                        rw [if_neg (fun e => h46 (Option.some.inj e))] at H1
                        have HNO : Hid (oneL s = none) := H1
                        clear h46 hy HF
                        have z0 := EA6.out.at (i := 0) (v := .string ⟨#[]⟩) rfl
                        have z1 := EA6.out.at (i := 1) (v := .slice none 0 0) rfl
                        have z2 := EA6.out.at (i := 2) (v := .slice none 0 0) rfl
                        have f0 := EA6.out.frozen 0
                        have f1 := EA6.out.frozen 1
                        have f2 := EA6.out.frozen 2
                        go_wp2
                        have g6 := ((EA6.out.set 0 (.string ⟨#[]⟩)).set 1 (.slice none 0 0)).set 2 (.slice none 0 0)
                        have y0 := g6.at (i := 0) (v := .string ⟨#[]⟩) rfl
                        have y1 := g6.at (i := 1) (v := .slice none 0 0) rfl
                        have y2 := g6.at (i := 2) (v := .slice none 0 0) rfl
                        exact bodyPost_ret (v := fe0) (by simp [results, Tryd.results10, go_sem, y0, y1, y2, fe0]) rfl ⟨.inl ⟨HNO.out, rfl⟩, ((hbb6.setCell (p := ⟨G, 0, none⟩) hGe _).setCell (p := ⟨G, 1, none⟩) hGe _).setCell (p := ⟨G, 2, none⟩) hGe _⟩
                    · have hn46 : ¬ (behind.drop a).head? = some 46 := by
                        rw [drop_head, List.getElem?_eq_none (by have := HSB.out; omega)]
                        simp
                      rw [if_neg hn46] at H1
                      have HNO : Hid (oneL s = none) := H1
                      clear HF hn46
                      have z0 := EA6.out.at (i := 0) (v := .string ⟨#[]⟩) rfl
                      have z1 := EA6.out.at (i := 1) (v := .slice none 0 0) rfl
                      have z2 := EA6.out.at (i := 2) (v := .slice none 0 0) rfl
                      have f0 := EA6.out.frozen 0
                      have f1 := EA6.out.frozen 1
                      have f2 := EA6.out.frozen 2
                      go_wp2
                      have g6 := ((EA6.out.set 0 (.string ⟨#[]⟩)).set 1 (.slice none 0 0)).set 2 (.slice none 0 0)
                      have y0 := g6.at (i := 0) (v := .string ⟨#[]⟩) rfl
                      have y1 := g6.at (i := 1) (v := .slice none 0 0) rfl
                      have y2 := g6.at (i := 2) (v := .slice none 0 0) rfl
                      exact bodyPost_ret (v := fe0) (by simp [results, Tryd.results10, go_sem, y0, y1, y2, fe0]) rfl ⟨.inl ⟨HNO.out, rfl⟩, ((hbb6.setCell (p := ⟨G, 0, none⟩) hGe _).setCell (p := ⟨G, 1, none⟩) hGe _).setCell (p := ⟨G, 2, none⟩) hGe _⟩
end Go.Proofs.YtifbjngkdifenaaDoor
