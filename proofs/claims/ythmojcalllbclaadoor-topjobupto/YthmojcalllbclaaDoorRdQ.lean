/- Contract of reader.quoted: a quoted text, and what is left. -/
import Derived.Test.YthmojcalllbclaaDoorRdM
import Derived.Deep.RegionWith
namespace Go.Proofs.YthmojcalllbclaaDoor
open Go.ChangeShapes Go.WideShapes Go.ChangeAt Go.RowKit
theorem builder_only {P B b : Nat} {p : Value} {xs : List Value} {w w' : World} (h : Lib.BuilderAtF 88 5 B b p xs w) (hP : P < B) (ho : Only P w w') : Lib.BuilderAtF 88 5 B b p xs w' := by
  obtain ⟨hB, v, hbk, hown, hne⟩ := h
  have keep : ∀ (k : Nat) (o : Obj), k ≠ P → w.heap[k]? = some o → w'.heap[k]? = some o := by
    intro k o hne hk
    rw [ho.block k (Array.getElem?_eq_some_iff.1 hk).1 (by simpa using hne)]; exact hk
  refine ⟨hB, v, keep _ _ (by omega) hbk, ⟨hown.1, ?_⟩, hne⟩
  rcases hown.2 with h | ⟨g, cap, cur, fz, hv, h1, h2, h3⟩
  · exact .inl h
  · exact .inr ⟨g, cap, cur, fz, hv, h1, keep _ _ (by omega) h2, h3⟩
theorem isBuilder_only {P B b : Nat} {xs : List Value} {w w' : World} (h : Lib.IsBuilderF 88 5 B b xs w) (hP : P < B) (ho : Only P w w') : Lib.IsBuilderF 88 5 B b xs w' :=
  h.elim (fun h => .inl (builder_only h hP ho)) (fun h => .inr (builder_only h hP ho))
/-- A reader and a builder, side by side. -/
structure QSt (P B : Nat) (r x : List UInt8) (w0 w : World) : Prop where
  rd : RdAt P r w
  bld : Lib.IsBuilderF 88 5 B B (Lib.byteCells x) w
  lt : P < B
  le : B ≤ w.heap.size
  base : B = w0.heap.size
  only : Only P w0 w
theorem QSt.read {P B : Nat} {r r' x : List UInt8} {w0 w w' : World} (h : QSt P B r x w0 w) (hr : RdAt P r' w') (ho : Only P w w') : QSt P B r' x w0 w' :=
  ⟨hr, isBuilder_only h.bld h.lt ho, h.lt, Nat.le_trans h.le ho.size, h.base, h.only.trans ho⟩
theorem QSt.wrote {P B : Nat} {r x y : List UInt8} {w0 w w' : World} (h : QSt P B r x w0 w) (hA : Lib.BuilderAtF 88 5 B B (.pointer (some ⟨B, 0, none⟩)) (Lib.byteCells y) w') (hb : Below B w w') : QSt P B r y w0 w' := by
  refine ⟨(hb.block P h.lt).trans h.rd, .inr hA, h.lt, Nat.le_trans h.le hb.size, h.base, ?_⟩
  exact ⟨hb.os.trans h.only.os, hb.tape.trans h.only.tape, hb.output.trans h.only.output, Nat.le_trans h.only.size hb.size, fun k hk hne => (hb.block k (by rw [h.base]; exact hk)).trans (h.only.block k hk hne)⟩
theorem QSt.drew {P B : Nat} {r x : List UInt8} {w0 w : World} (h : QSt P B r x w0 w) : QSt P B r x w0 w.drew := ⟨h.rd, h.bld, h.lt, h.le, h.base, h.only.drew⟩
theorem cells_str (x : List UInt8) (s : ByteArray) : Lib.byteCells x ++ Lib.strCells s = Lib.byteCells (x ++ s.data.toList) := by
  simp [Lib.byteCells, Lib.strCells]
theorem ws_q {P B : Nat} {r x : List UInt8} {w0 w : World} (h : QSt P B r x w0 w) (hx : x.length ≤ 1000000) (y : List UInt8) (hy : y.length ≤ 1) :
    Calls Tryd.prog 68 #[.pointer (some ⟨B, 0, none⟩), .string (bs y)] w fun e w' => (∃ n, e = .returned (.tuple #[.int .i64 n, .nilIface])) ∧ QSt P B r (x ++ y) w0 w' := by
  refine (writeString_any B B _ (bs y) w h.bld (by rw [Lib.byteCells_length, bs_size]; omega) h.le).mono ?_
  rintro e w' ⟨rfl, hA, hb, hk⟩
  rw [cells_str, bs_data] at hA
  exact ⟨⟨_, rfl⟩, h.wrote hA hb⟩
def lenAt : Option Value → Nat
  | some (.string s) => s.size
  | _ => 0
theorem QSt.len {P B : Nat} {r x : List UInt8} {w0 w : World} (h : QSt P B r x w0 w) : lenAt (w.cell? ⟨P, 0, none⟩) = r.length := by
  rw [h.rd.cell]; exact bs_size r
theorem bs_first (r : List UInt8) : (bs r).extract 0 (min (1 : Int) ((bs r).size : Int)).toNat = bs (r.take 1) := by
  rw [bs_size]
  cases r with
  | nil => rfl
  | cons c t =>
    rw [show (min (1 : Int) ((c :: t).length : Int)).toNat = 1 by simp only [List.length_cons]; omega]
    apply ByteArray.ext
    simp [bs]
theorem ret_bs {a b : List UInt8} (h : a = b) : Ending.returned (.string ⟨a.toArray⟩) = .returned (.string (bs b)) := by rw [h]; rfl
set_option maxRecDepth 100000 in
set_option maxHeartbeats 4000000 in
theorem quoted_any (P : Nat) (s : List UInt8) (w : World) (h : RdAt P s w) (hs : s.length ≤ 1000000) :
    Calls Tryd.prog 51 #[.pointer (some ⟨P, 0, none⟩)] w fun e w' => e = .returned (.string (bs (unqL (s.drop 1)).1)) ∧ RdAt P (unqL (s.drop 1)).2 w' ∧ Only P w w' := by
  have H := Lib.hid h
  clear h
  obtain ⟨w1, hw1⟩ : ∃ w1, w1 = w.alloc (.cells #[.pointer none, .slice none 0 0] 88) := ⟨_, rfl⟩
  have q0 : QSt P w.heap.size s [] w w1 := by
    rw [hw1]
    exact ⟨H.out.lower ((Below.refl _ _).alloc (Nat.le_refl _) _), Lib.IsBuilderF.of (Lib.fresh_isBuilder _ _ w), H.out.lt, by simp, rfl, Only.of_below ((Below.refl _ _).alloc (Nat.le_refl _) _)⟩
  have SK := Lib.hid (skip_any P s 1 w1 q0.rd hs (by omega))
  have HW := Lib.hid hw1
  have Q0 := Lib.hid q0
  clear hw1 q0
  obtain ⟨R, hR⟩ : ∃ R, R = unqL (s.drop 1) := ⟨_, rfl⟩
  rw [← hR]
  have HR := Lib.hid hR
  clear hR
  go_enter Tryd.func51, Tryd.ntmps51
  go_wp2_with (go_at_call 47; refine Hid.out ?_)
  rw [← HW.out]
  refine Lib.hid ?_
  refine SK.out.mono ?_
  rintro _ w2 ⟨rfl, r2, o2⟩
  have Q2 := Lib.hid (Q0.out.read r2 o2)
  clear SK Q0 r2 o2 HW
  go_wp2_with fail
  go_loopw [6] (fun _ wr => ∃ r x, Hid (QSt P w.heap.size r x w wr) ∧ Hid (R = (x ++ (unqL r).1, (unqL r).2)) ∧ x.length + r.length ≤ 1000000) (fun _ wr => lenAt (wr.cell? ⟨P, 0, none⟩))
  case atStart => exact ⟨s.drop 1, [], Q2, show R = _ by rw [HR.out]; rfl, by simp; omega⟩
  case round =>
    obtain ⟨r, x, Q, HE, hlen⟩ := hrel
    clear Q2 HR
    have c0 := Q.out.rd.cell
    have hsz := bs_size r
    cases r with
    | nil =>
      have hT : ((bs []).toList == []) = true := by rw [bs_toList]; rfl
      go_wp2_with (go_at_call 47; refine Hid.out ?_)
      refine Lib.hid ?_
      refine (skip_any P [] 1 wr Q.out.rd (by simp) (by omega)).mono ?_
      rintro _ w3 ⟨rfl, r3, o3⟩
      have q3 := Q.out.read r3 o3
      clear c0 hT Q
      go_wp2_with (go_at_call 58; refine Hid.out ?_)
      refine Lib.hid ?_
      refine (Any.Builder_String_any_k Tryd.lays169 Tryd.Builder_Extra_169 w.heap.size w.heap.size x _ q3.bld q3.le).mono ?_
      rintro _ w4 ⟨rfl, _, hb4, _⟩
      have o4 : Only P w w4 := ⟨hb4.os.trans q3.only.os, hb4.tape.trans q3.only.tape, hb4.output.trans q3.only.output, Nat.le_trans q3.only.size hb4.size, fun k hk hne => (hb4.block k hk).trans (q3.only.block k hk hne)⟩
      have r4 := (hb4.block P q3.lt).trans q3.rd
      go_wp2
      go_ret
      exact ⟨ret_bs (by rw [HE.out]; simp [unqL]), by rw [HE.out]; exact r4, o4⟩
    | cons b t =>
      have hT : ((bs (b :: t)).toList == []) = false := by rw [bs_toList]; rfl
      have hq : 0 < (bs (b :: t)).size := by rw [bs_size]; simp
      have hb0 : (bs (b :: t))[0]'hq = b := rfl
      have hb256 := b.toNat_lt
      by_cases h34 : b = 34
      · have e34 : ((b.toNat : Int) == 34) = true := by rw [h34]; rfl
        have H34 := Lib.hid h34
        clear h34
        go_wp2_with (go_at_call 47; refine Hid.out ?_)
        refine Lib.hid ?_
        refine (skip_any P (b :: t) 1 wr Q.out.rd (by simp at hlen ⊢; omega) (by omega)).mono ?_
        rintro _ w3 ⟨rfl, r3, o3⟩
        have q3 := Q.out.read r3 o3
        clear c0 hT Q
        go_wp2_with (go_at_call 58; refine Hid.out ?_)
        refine Lib.hid ?_
        refine (Any.Builder_String_any_k Tryd.lays169 Tryd.Builder_Extra_169 w.heap.size w.heap.size x _ q3.bld q3.le).mono ?_
        rintro _ w4 ⟨rfl, _, hb4, _⟩
        have o4 : Only P w w4 := ⟨hb4.os.trans q3.only.os, hb4.tape.trans q3.only.tape, hb4.output.trans q3.only.output, Nat.le_trans q3.only.size hb4.size, fun k hk hne => (hb4.block k hk).trans (q3.only.block k hk hne)⟩
        have r4 := (hb4.block P q3.lt).trans q3.rd
        go_wp2
        go_ret
        exact ⟨ret_bs (by rw [HE.out, H34.out, unq_end]; simp), by rw [HE.out]; rw [H34.out, unq_end]; exact r4, o4⟩
      · have e34 : ((b.toNat : Int) == 34) = false := by
          rw [beq_eq_false_iff_ne]
          intro h
          exact h34 (UInt8.toNat_inj.1 (by have h3 : b.toNat = 34 := by omega
                                           exact h3))
        have L0 : Hid (lenAt (wr.cell? ⟨P, 0, none⟩) = (b :: t).length) := Q.out.len
        have TK : Hid (Calls Tryd.prog 49 #[.pointer (some ⟨P, 0, none⟩), .string ⟨#[92]⟩] wr fun e w' => e = .returned (.bool ([92].isPrefixOf (b :: t))) ∧ RdAt P (takeR [92] (b :: t)) w' ∧ Only P wr w') := take_any P (b :: t) [92] wr Q.out.rd
        have H34 := Lib.hid h34
        clear h34
        by_cases h92 : b = 92
        · have hp : ([92] : List UInt8).isPrefixOf (b :: t) = true := by rw [h92]; simp [List.isPrefixOf]
          have htk : takeR [92] (b :: t) = t := by unfold takeR; rw [if_pos hp]; rfl
          rw [hp, htk] at TK
          have H92 := Lib.hid h92
          clear hp htk h92
          go_wp2_with (go_at_call 49; refine Hid.out ?_)
          refine Lib.hid ?_
          refine TK.out.mono ?_
          rintro _ w2 ⟨rfl, r2, o2⟩
          have hq2 : Hid (QSt P w.heap.size (t) x w w2.drew) := (Q.out.read r2 o2).drew
          have d0 := r2.cell
          have hdz : (bs (t)).size ≤ 1000000 := by rw [bs_size]; simp at hlen ⊢; omega
          have HF := Lib.hid (bs_first (t))
          have WS : Hid (Calls Tryd.prog 68 #[.pointer (some ⟨w.heap.size, 0, none⟩), .string (bs ((t).take 1))] w2.drew fun e w' => (∃ n, e = .returned (.tuple #[.int .i64 n, .nilIface])) ∧ QSt P w.heap.size (t) (x ++ (t).take 1) w w') := ws_q hq2.out (by omega) _ (by simp <;> omega)
          have HLEN : Hid (x.length + (b :: t).length ≤ 1000000) := hlen
          clear c0 Q r2 o2 TK hT hb0 hsz
          go_wp2
          go_region_with (go_at_call 68; rw [HF.out]; refine WS.out.mono ?_; rintro _ w3 ⟨⟨n3, rfl⟩, q3⟩)
          all_goals
            have q3' := q3
            clear q3 d0 hdz
            go_wp2_with (go_at_call 47; refine Hid.out ?_)
            refine Lib.hid ?_
            refine (skip_any P _ 1 w3 q3'.rd (by have := HLEN.out; simp at this ⊢; omega) (by omega)).mono ?_
            rintro _ w5 ⟨rfl, r5, o5⟩
            have q5 := Lib.hid (q3'.read r5 o5)
            clear q3' r5 o5
            go_wp2
            go_roundw
            case rel => exact ⟨_, _, q5, show R = _ by rw [HE.out]; rw [H92.out]; cases t with | nil => simp [unqL] | cons c t' => rw [unq_esc]; simp, by have := HLEN.out; simp at this ⊢; omega⟩
            case measure =>
              rw [q5.out.len, L0.out]
              simp; omega
        · have hp : ([92] : List UInt8).isPrefixOf (b :: t) = false := by simp [List.isPrefixOf]; exact fun e => h92 e.symm
          have htk : takeR [92] (b :: t) = b :: t := by unfold takeR; rw [if_neg (by simp [hp])]
          rw [hp, htk] at TK
          have H92 := Lib.hid h92
          clear hp htk h92
          go_wp2_with (go_at_call 49; refine Hid.out ?_)
          refine Lib.hid ?_
          refine TK.out.mono ?_
          rintro _ w2 ⟨rfl, r2, o2⟩
          have hq2 : Hid (QSt P w.heap.size (b :: t) x w w2.drew) := (Q.out.read r2 o2).drew
          have d0 := r2.cell
          have hdz : (bs (b :: t)).size ≤ 1000000 := by rw [bs_size]; simp at hlen ⊢; omega
          have HF := Lib.hid (bs_first (b :: t))
          have WS : Hid (Calls Tryd.prog 68 #[.pointer (some ⟨w.heap.size, 0, none⟩), .string (bs ((b :: t).take 1))] w2.drew fun e w' => (∃ n, e = .returned (.tuple #[.int .i64 n, .nilIface])) ∧ QSt P w.heap.size (b :: t) (x ++ (b :: t).take 1) w w') := ws_q hq2.out (by omega) _ (by simp <;> omega)
          have HLEN : Hid (x.length + (b :: t).length ≤ 1000000) := hlen
          clear c0 Q r2 o2 TK hT hb0 hsz
          go_wp2
          go_region_with (go_at_call 68; rw [HF.out]; refine WS.out.mono ?_; rintro _ w3 ⟨⟨n3, rfl⟩, q3⟩)
          all_goals
            have q3' := q3
            clear q3 d0 hdz
            go_wp2_with (go_at_call 47; refine Hid.out ?_)
            refine Lib.hid ?_
            refine (skip_any P _ 1 w3 q3'.rd (by have := HLEN.out; simp at this ⊢; omega) (by omega)).mono ?_
            rintro _ w5 ⟨rfl, r5, o5⟩
            have q5 := Lib.hid (q3'.read r5 o5)
            clear q3' r5 o5
            go_wp2
            go_roundw
            case rel => exact ⟨_, _, q5, show R = _ by rw [HE.out]; rw [unq_sign b t H34.out H92.out]; simp, by have := HLEN.out; simp at this ⊢; omega⟩
            case measure =>
              rw [q5.out.len, L0.out]
              simp
end Go.Proofs.YthmojcalllbclaaDoor
