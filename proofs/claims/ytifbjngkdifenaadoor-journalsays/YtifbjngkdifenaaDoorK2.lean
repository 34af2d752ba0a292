/- Journals: the document's figures: numbers, each with a blank ahead. -/
import Derived.Test.YtifbjngkdifenaaDoorJ10
import Derived.Test.YtifbjngkdifenaaDoorNumbJ
namespace Go.Proofs.YtifbjngkdifenaaDoor
open Go.ChangeShapes Go.WideShapes Go.ChangeAt Go.RowKit
open Num
/-- The numbers of a text, each with a blank ahead. -/
def figL (s : List UInt8) : Option (List Int) :=
  match numbersL s with
  | some ([], r) => some r
  | _ => none
theorem figL_nil : figL [] = some [] := rfl
theorem figL_other (c : UInt8) (d : List UInt8) (h : c ≠ 32) : figL (c :: d) = none := by
  unfold figL numbersL
  have e : spl 32 (c :: d) = (c :: (spl 32 d).headD []) :: (spl 32 d).tail := by rw [spl, if_neg h]
  rw [e]
  cases numL ((c :: (spl 32 d).headD []) :: (spl 32 d).tail).tail <;> rfl
theorem figL_blank (d : List UInt8) : figL (32 :: d) = numL (spl 32 d) := by
  unfold figL numbersL
  have e : spl 32 (32 :: d) = [] :: spl 32 d := by rw [spl, if_pos rfl]
  rw [e, List.tail_cons]
  cases numL (spl 32 d) <;> rfl
theorem figL_step (wd t : List UInt8) (h : (32 : UInt8) ∉ wd) (ht : t = [] ∨ ∃ r, t = 32 :: r) : figL (32 :: (wd ++ t)) = match numB wd with
    | none => none
    | some x => match figL t with
      | none => none
      | some q => some (x :: q) := by
  rw [figL_blank]
  rcases ht with rfl | ⟨r, rfl⟩
  · rw [List.append_nil, spl_not 32 wd h, figL_nil]
    simp only [numL]
    cases numB wd <;> rfl
  · rw [spl_here 32 wd r h, figL_blank]
    simp only [numL]
    cases numB wd <;> rfl
theorem word_of (d : List UInt8) : ∃ wd t : List UInt8, d = wd ++ t ∧ (32 : UInt8) ∉ wd ∧ (t = [] ∨ ∃ r, t = 32 :: r) := by
  induction d with
  | nil => exact ⟨[], [], rfl, by simp, .inl rfl⟩
  | cons c d ih =>
    by_cases hc : c = 32
    · exact ⟨[], c :: d, rfl, by simp, .inr ⟨d, by rw [hc]⟩⟩
    · obtain ⟨wd, t, e, h1, h2⟩ := ih
      exact ⟨c :: wd, t, by rw [e]; rfl, by simp [h1, Ne.symm hc], h2⟩
theorem at_bs3 (x : List UInt8) (j : Nat) (h : j < x.length) (hq : j < (bs x).size) : (bs x)[j]'hq = x[j]'h := by simp only [bs]; rfl
theorem byte_at3 {x : List UInt8} {j : Nat} {b : UInt8} (hq : j < (bs x).size) (hx : x[j]? = some b) : (bs x)[j]'hq = b := by
  obtain ⟨h, rfl⟩ := List.getElem?_eq_some_iff.1 hx
  exact at_bs3 x j h hq
theorem bs_one (s : List UInt8) (p : Nat) (b : UInt8) (h : s[p]? = some b) : (bs s).extract p (p + 1) = bs [b] := by
  apply ByteArray.ext
  apply Array.ext'
  obtain ⟨hp, rfl⟩ := List.getElem?_eq_some_iff.1 h
  simp only [ByteArray.data_extract, Array.toList_extract, List.extract_eq_take_drop, bs_data]
  rw [show p + 1 - p = 1 by omega]
  rw [List.drop_eq_getElem_cons hp]
  rfl
theorem bs_snoc (l : List UInt8) (b : UInt8) : bs l ++ bs [b] = bs (l ++ [b]) := bytes_append l [b]
def FigSaid (s : List UInt8) (w : World) (e : Ending) (w' : World) : Prop :=
  (figL s = none ∧ e = .returned (.tuple #[.slice none 0 0, .bool false])) ∨ ∃ r v, figL s = some r ∧ e = .returned (.tuple #[v, .bool true]) ∧ w'.ownsRow w.heap.size 3 1 v r.length (cellsI r)
set_option maxRecDepth 100000 in
set_option maxHeartbeats 2000000 in
theorem figures_any (s : List UInt8) (w : World) (hs : s.length ≤ 10000000) :
    Calls Tryd.prog 26 #[.string (bs s)] w fun e w' => FigSaid s w e w' ∧ Below w.heap.size w w' := by
  obtain ⟨i0, hi0, hz0, hz1, hz2⟩ := info_parts infoInt
  have hsz := bs_size s
  have hsz2 : (bs s).size ≤ 10000000 := by omega
  have HSZ := Lib.hid hsz
  clear hsz
  go_enter Tryd.func26, Tryd.ntmps26
  go_wp2
  go_loopg [4, 5] s.length (fun gg lv av wr => ∃ (a : Nat) (r : List Int), gg = s.length - a ∧ a ≤ s.length ∧ av = .int .i64 a ∧ r.length ≤ a ∧ Hid (figL s = match figL (s.drop a) with
      | none => none
      | some q => some (r ++ q)) ∧ Hid (wr.ownsRow w.heap.size 3 1 lv r.length (cellsI r)) ∧ Below w.heap.size w wr)
  case atStart => exact ⟨0, [], rfl, Nat.zero_le _, rfl, Nat.le_refl _, by show _ = _; rw [List.drop_zero]; cases figL s <;> rfl, World.ownsRow_nil _ _ _ _, Below.refl _ _⟩
  case round =>
    obtain ⟨a, r, hga, ha, rfl, hra, HR, HO, hb⟩ := hrel
    have HGA := Lib.hid hga
    clear hga
    by_cases hlt : a < s.length
    · have hlt2 : a < (bs s).size := by rw [HSZ.out]; exact hlt
      obtain ⟨x, hx⟩ : ∃ x, s[a]? = some x := ⟨s[a], List.getElem?_eq_getElem hlt⟩
      have hbx := byte_at3 hlt2 hx
      have hdr : s.drop a = x :: s.drop (a + 1) := by
        rw [List.drop_eq_getElem_cons hlt]
        rw [List.getElem?_eq_getElem hlt, Option.some.injEq] at hx
        rw [hx]
      have HDR := Lib.hid hdr
      clear hdr hx
      by_cases h32 : x = 32
      · have hx32 : ((x.toNat : Int) == 32) = true := by rw [h32]; rfl
        obtain ⟨wd, t, hd, hnw, ht⟩ := word_of (s.drop (a + 1))
        have HFS : Hid (figL (s.drop a) = match numB wd with
            | none => none
            | some x => match figL t with
              | none => none
              | some q => some (x :: q)) := by
          show _ = _
          rw [HDR.out, h32, hd]
          exact figL_step wd t hnw ht
        have hlen : wd.length + t.length = s.length - (a + 1) := by
          have := congrArg List.length hd
          rw [List.length_drop, List.length_append] at this
          omega
        have HAT : Hid (∀ j, s[a + 1 + j]? = (wd ++ t)[j]?) := fun j => by
          rw [← hd, List.getElem?_drop]
        have HDD : Hid (s.drop (a + 1 + wd.length) = t) := by
          show _ = _
          rw [← List.drop_drop, hd, List.drop_left]
        have HNW := Lib.hid hnw
        have HT := Lib.hid ht
        have HLN := Lib.hid hlen
        clear h32 hd hnw ht hlen HDR
        go_wp2
        go_loopg [5, 6] wd.length (fun gg av sv wq => ∃ (j p : Nat), gg = wd.length - j ∧ j ≤ wd.length ∧ Hid (p = a + 1 + j) ∧ av = .int .i64 p ∧ sv = .string (bs (wd.take j)) ∧ wq = wr)
        case atStart => exact ⟨0, a + 1, rfl, Nat.zero_le _, rfl, by go_num, rfl, rfl⟩
        case round =>
          obtain ⟨j, p, hgj, hj, HPJ, rfl, rfl, rfl⟩ := hrel
          have HGJ := Lib.hid hgj
          clear hgj
          have hpl : p ≤ 10000000 := by have := HPJ.out; have := HLN.out; omega
          by_cases hjl : j < wd.length
          · have hps : p < (bs s).size := by have := HPJ.out; have := HLN.out; have := HSZ.out; omega
            obtain ⟨y, hy⟩ : ∃ y, wd[j]? = some y := ⟨wd[j], List.getElem?_eq_getElem hjl⟩
            have hsy : s[p]? = some y := by
              rw [HPJ.out, HAT.out, List.getElem?_append_left hjl, hy]
            have hby := byte_at3 hps hsy
            have hy32 : ((y.toNat : Int) == 32) = false := by
              simp only [beq_eq_false_iff_ne, ne_eq]
              intro e
              have : y = 32 := UInt8.toNat_inj.1 (by show y.toNat = 32; omega)
              subst this
              exact HNW.out (List.mem_of_getElem? hy)
            obtain ⟨p1, hp1⟩ : ∃ p1 : Nat, (p : Int) + 1 = (p1 : Int) := ⟨p + 1, rfl⟩
            have hp1s : p1 ≤ (bs s).size := by omega
            have hpp1 : p ≤ p1 := by omega
            have HP1 : Hid (p1 = p + 1) := by show _ = _; omega
            have HX1 : Hid ((bs s).extract p p1 = bs [y]) := by show _ = _; rw [HP1.out]; exact bs_one s p y hsy
            have HX2 : Hid (bs (wd.take j) ++ bs [y] = bs (wd.take (j + 1))) := by
              show _ = _
              rw [bs_snoc, List.take_succ_eq_append_getElem hjl]
              rw [List.getElem?_eq_getElem hjl, Option.some.injEq] at hy
              rw [hy]
            have hst := bs_size (wd.take j)
            rw [List.length_take] at hst
            have hst2 : (bs (wd.take j)).size ≤ 10000000 := by have := HLN.out; omega
            generalize bs (wd.take j) = sA at *
            clear hy hsy hst
            go_wp2
            go_roundg (wd.length - (j + 1))
            case measure => have := HGJ.out; omega
            case rel => exact ⟨j + 1, p1, rfl, by omega, by show _ = _; rw [HP1.out, HPJ.out]; omega, by first | rfl | go_num, by rw [← HX2.out, ← HX1.out], rfl⟩
          · have ej : j = wd.length := by omega
            subst ej
            rw [List.take_length]
            have hwl : wd.length ≤ 10000000 := by have := HLN.out; omega
            have NB := Lib.hid (number_any (bs wd) wr (by rw [bs_size]; unfold maxLen; omega))
            unfold NumSaid at NB
            rw [bs_data] at NB
            have hpe : ¬ p < s.length ∨ ∃ rr, t = 32 :: rr ∧ p < s.length := by
              rcases HT.out with h | ⟨rr, h⟩
              · left
                have := HLN.out
                rw [h, List.length_nil] at this
                have := HPJ.out
                omega
              · right
                have := HLN.out
                rw [h, List.length_cons] at this
                have := HPJ.out
                exact ⟨rr, h, by omega⟩
            have HGO : Hid (s.drop p = t) := by show _ = _; rw [HPJ.out]; exact HDD.out
            have hap : a < p := by have := HPJ.out; omega
            have hps : p ≤ s.length := by have := HPJ.out; have := HLN.out; omega
            rcases hpe with hpe | ⟨rr, hpe1, hpe2⟩
            case' inl =>
              have hpe' : ¬ p < (bs s).size := by rw [HSZ.out]; exact hpe
            case' inr =>
              have hpe' : p < (bs s).size := by rw [HSZ.out]; exact hpe2
              have hs32 : s[p]? = some 32 := by
                rw [HPJ.out, HAT.out, hpe1, List.getElem?_append_right (Nat.le_refl _), Nat.sub_self]
                rfl
              have hby := byte_at3 hpe' hs32
              have hy32 : (((32 : UInt8).toNat : Int) == 32) = true := rfl
              generalize (32 : UInt8) = c32 at hby hy32
              clear hpe1 hpe2 hs32
            all_goals
              cases hnb : numB wd with
              | none =>
                rw [hnb] at NB
                have HNO : Hid (figL s = none) := by
                  show _ = _
                  rw [HR.out, HFS.out, hnb]
                clear hnb HFS
                go_wp2_with (go_at_call 33; refine NB.out.mono ?_; rintro _ w2 ⟨⟨xv, rfl, _⟩, rfl⟩)
                go_ret2
                exact ⟨.inl ⟨HNO.out, rfl⟩, hb⟩
              | some xv =>
                rw [hnb] at NB
                have HR2 : Hid (figL s = match figL (s.drop p) with
                    | none => none
                    | some q => some ((r ++ [xv]) ++ q)) := by
                  show _ = _
                  rw [HR.out, HFS.out, hnb, HGO.out]
                  cases figL t with
                  | none => rfl
                  | some q => simp
                clear hnb HFS
                have hbs := hb.size
                go_wp2_with (first | (go_at_call 33; refine NB.out.mono ?_; rintro _ w2 ⟨⟨xu, rfl, hxu⟩, rfl⟩; obtain rfl := hxu _ rfl) | (at_builtin; refine Hid.out ?_))
                refine Lib.hid ?_
                refine wpList_append_own _ rfl (.tmp 45) (.tmp 47) 22 rfl w.heap.size 3 i0 (.int .i64 0) 1 8 Tryd.underlying22 hi0 hz0 hz1 hz2 rfl (by decide) _ _ _ rfl (HO.out.alloc _) ⟨w2.heap.size, 0, none⟩ 1 1 (cellsI [xu]) rfl rfl ?c1 (cellsI_one _) ?c2 ?c3 ?c4 ?_
                case c1 => exact lit_cells rfl (show 1 ≤ maxLen by decide)
                case c2 => unfold maxLen; omega
                case c3 => omega
                case c4 => simp; omega
                intro v4 w4 hown4 hg4 _
                have hb4 : Below w.heap.size w w4 := (hb.alloc (by omega) _).grown hg4 (by simp; omega) (fun k hk => (HO.out.lt k hk).1)
                have HO4 : Hid (w4.ownsRow w.heap.size 3 1 v4 (r ++ [xu]).length (cellsI (r ++ [xu]))) := by
                  show World.ownsRow _ _ _ _ _ _ _
                  rw [cellsI_append, List.length_append]
                  exact hown4
                clear HO hown4 hg4
                go_wp2
                go_roundg (s.length - p)
                case measure => have := HGA.out; omega
                case rel => exact ⟨p, r ++ [xu], rfl, hps, rfl, by simp; omega, HR2, HO4, hb4⟩
      · have hx32 : ((x.toNat : Int) == 32) = false := by
          simp only [beq_eq_false_iff_ne, ne_eq]
          intro e
          exact h32 (UInt8.toNat_inj.1 (by show x.toNat = 32; omega))
        have HNO : Hid (figL s = none) := by
          show _ = _
          rw [HR.out, HDR.out, figL_other _ _ h32]
        clear h32
        go_wp2
        go_ret2
        exact ⟨.inl ⟨HNO.out, rfl⟩, hb⟩
    · have HFN : Hid (figL s = some r) := by
        show _ = _
        rw [HR.out, List.drop_of_length_le (by omega), figL_nil]
        simp
      have hn : ¬ a < (bs s).size := by rw [HSZ.out]; exact hlt
      go_wp2
      go_ret2
      exact ⟨.inr ⟨r, _, HFN.out, rfl, HO.out⟩, hb⟩
end Go.Proofs.YtifbjngkdifenaaDoor
