/- Put together of RdQ, RdN, Kp. -/
import Derived.Test.YtfjpgjkfmcedoaaGreatDoorG7
import Derived.Deep.RegionWith
import Derived.Maps.Views
import Derived.Test.YtfjpgjkfmcedoaaGreatDoorG2
import Derived.Test.YtfjpgjkfmcedoaaGreatDoorG6
/- Contract of reader.quoted: a quoted text, and what is left. -/
namespace Go.Proofs.YtfjpgjkfmcedoaaGreatDoor
open Go.ChangeShapes Go.WideShapes Go.ChangeAt Go.RowKit
theorem builder_only {P B b : Nat} {p : Value} {xs : List Value} {w w' : World} (h : Lib.BuilderAtF 85 5 B b p xs w) (hP : P < B) (ho : Only P w w') : Lib.BuilderAtF 85 5 B b p xs w' := by
  obtain ⟨hB, v, hbk, hown, hne⟩ := h
  have keep : ∀ (k : Nat) (o : Obj), k ≠ P → w.heap[k]? = some o → w'.heap[k]? = some o := by
    intro k o hne hk
    rw [ho.block k (Array.getElem?_eq_some_iff.1 hk).1 (by simpa using hne)]; exact hk
  refine ⟨hB, v, keep _ _ (by omega) hbk, ⟨hown.1, ?_⟩, hne⟩
  rcases hown.2 with h | ⟨g, cap, cur, fz, hv, h1, h2, h3⟩
  · exact .inl h
  · exact .inr ⟨g, cap, cur, fz, hv, h1, keep _ _ (by omega) h2, h3⟩
theorem isBuilder_only {P B b : Nat} {xs : List Value} {w w' : World} (h : Lib.IsBuilderF 85 5 B b xs w) (hP : P < B) (ho : Only P w w') : Lib.IsBuilderF 85 5 B b xs w' :=
  h.elim (fun h => .inl (builder_only h hP ho)) (fun h => .inr (builder_only h hP ho))
/-- A reader and a builder, side by side. -/
structure QSt (P B : Nat) (r x : List UInt8) (w0 w : World) : Prop where
  rd : RdAt P r w
  bld : Lib.IsBuilderF 85 5 B B (Lib.byteCells x) w
  lt : P < B
  le : B ≤ w.heap.size
  base : B = w0.heap.size
  only : Only P w0 w
theorem QSt.read {P B : Nat} {r r' x : List UInt8} {w0 w w' : World} (h : QSt P B r x w0 w) (hr : RdAt P r' w') (ho : Only P w w') : QSt P B r' x w0 w' :=
  ⟨hr, isBuilder_only h.bld h.lt ho, h.lt, Nat.le_trans h.le ho.size, h.base, h.only.trans ho⟩
theorem QSt.wrote {P B : Nat} {r x y : List UInt8} {w0 w w' : World} (h : QSt P B r x w0 w) (hA : Lib.BuilderAtF 85 5 B B (.pointer (some ⟨B, 0, none⟩)) (Lib.byteCells y) w') (hb : Below B w w') : QSt P B r y w0 w' := by
  refine ⟨(hb.block P h.lt).trans h.rd, .inr hA, h.lt, Nat.le_trans h.le hb.size, h.base, ?_⟩
  exact ⟨hb.os.trans h.only.os, hb.tape.trans h.only.tape, hb.output.trans h.only.output, Nat.le_trans h.only.size hb.size, fun k hk hne => (hb.block k (by rw [h.base]; exact hk)).trans (h.only.block k hk hne)⟩
theorem QSt.drew {P B : Nat} {r x : List UInt8} {w0 w : World} (h : QSt P B r x w0 w) : QSt P B r x w0 w.drew := ⟨h.rd, h.bld, h.lt, h.le, h.base, h.only.drew⟩
theorem cells_str (x : List UInt8) (s : ByteArray) : Lib.byteCells x ++ Lib.strCells s = Lib.byteCells (x ++ s.data.toList) := by
  simp [Lib.byteCells, Lib.strCells]
theorem ws_q {P B : Nat} {r x : List UInt8} {w0 w : World} (h : QSt P B r x w0 w) (hx : x.length ≤ 1000000) (y : List UInt8) (hy : y.length ≤ 1) :
    Calls Tryz.prog 75 #[.pointer (some ⟨B, 0, none⟩), .string (bs y)] w fun e w' => (∃ n, e = .returned (.tuple #[.int .i64 n, .nilIface])) ∧ QSt P B r (x ++ y) w0 w' := by
  refine (writeString_any B B _ (bs y) w h.bld (by rw [Lib.byteCells_length, bs_size]; omega) h.le).mono ?_
  rintro e w' ⟨rfl, hA, hb, hk⟩
  rw [cells_str, bs_data] at hA
  exact ⟨⟨_, rfl⟩, h.wrote hA hb⟩
def lenAt : Option Value → Nat
  | some (.string s) => s.size
  | _ => 0
theorem QSt.len {P B : Nat} {r x : List UInt8} {w0 w : World} (h : QSt P B r x w0 w) : lenAt (w.cell? ⟨P, 0, none⟩) = r.length := by
  rw [h.rd.cell]; exact bs_size r
theorem bs_first (r : List UInt8) : (bs r).extract 0 (min (1 : Int) ((bs r).size : Int)).toNat = bs (r.take 1) := by
  rw [bs_size]
  cases r with
  | nil => rfl
  | cons c t =>
    rw [show (min (1 : Int) ((c :: t).length : Int)).toNat = 1 by simp only [List.length_cons]; omega]
    apply ByteArray.ext
    simp [bs]
theorem ret_bs {a b : List UInt8} (h : a = b) : Ending.returned (.string ⟨a.toArray⟩) = .returned (.string (bs b)) := by rw [h]; rfl
set_option maxRecDepth 100000 in
set_option maxHeartbeats 4000000 in
theorem quoted_any (P : Nat) (s : List UInt8) (w : World) (h : RdAt P s w) (hs : s.length ≤ 1000000) :
    Calls Tryz.prog 60 #[.pointer (some ⟨P, 0, none⟩)] w fun e w' => e = .returned (.string (bs (unqL (s.drop 1)).1)) ∧ RdAt P (unqL (s.drop 1)).2 w' ∧ Only P w w' := by
  have H := Lib.hid h
  clear h
  obtain ⟨w1, hw1⟩ : ∃ w1, w1 = w.alloc (.cells #[.pointer none, .slice none 0 0] 85) := ⟨_, rfl⟩
  have q0 : QSt P w.heap.size s [] w w1 := by
    rw [hw1]
    exact ⟨H.out.lower ((Below.refl _ _).alloc (Nat.le_refl _) _), Lib.IsBuilderF.of (Lib.fresh_isBuilder _ _ w), H.out.lt, by simp, rfl, Only.of_below ((Below.refl _ _).alloc (Nat.le_refl _) _)⟩
  have SK := Lib.hid (skip_any P s 1 w1 q0.rd hs (by omega))
  have HW := Lib.hid hw1
  have Q0 := Lib.hid q0
  clear hw1 q0
  obtain ⟨R, hR⟩ : ∃ R, R = unqL (s.drop 1) := ⟨_, rfl⟩
  rw [← hR]
  have HR := Lib.hid hR
  clear hR
  go_enter Tryz.func60, Tryz.ntmps60
  go_wp2_with (go_at_call 56; refine Hid.out ?_)
  rw [← HW.out]
  refine Lib.hid ?_
  refine SK.out.mono ?_
  rintro _ w2 ⟨rfl, r2, o2⟩
  have Q2 := Lib.hid (Q0.out.read r2 o2)
  clear SK Q0 r2 o2 HW
  go_wp2_with fail
  go_loopw [6] (fun _ wr => ∃ r x, Hid (QSt P w.heap.size r x w wr) ∧ Hid (R = (x ++ (unqL r).1, (unqL r).2)) ∧ x.length + r.length ≤ 1000000) (fun _ wr => lenAt (wr.cell? ⟨P, 0, none⟩))
  case atStart => exact ⟨s.drop 1, [], Q2, show R = _ by rw [HR.out]; rfl, by simp; omega⟩
  case round =>
    obtain ⟨r, x, Q, HE, hlen⟩ := hrel
    clear Q2 HR
    have c0 := Q.out.rd.cell
    have hsz := bs_size r
    cases r with
    | nil =>
      have hT : ((bs []).toList == []) = true := by rw [bs_toList]; rfl
      go_wp2_with (go_at_call 56; refine Hid.out ?_)
      refine Lib.hid ?_
      refine (skip_any P [] 1 wr Q.out.rd (by simp) (by omega)).mono ?_
      rintro _ w3 ⟨rfl, r3, o3⟩
      have q3 := Q.out.read r3 o3
      clear c0 hT Q
      go_wp2_with (go_at_call 52; refine Hid.out ?_)
      refine Lib.hid ?_
      refine (Any.Builder_String_any_k Tryz.lays169 Tryz.Builder_Extra_169 w.heap.size w.heap.size x _ q3.bld q3.le).mono ?_
      rintro _ w4 ⟨rfl, _, hb4, _⟩
      have o4 : Only P w w4 := ⟨hb4.os.trans q3.only.os, hb4.tape.trans q3.only.tape, hb4.output.trans q3.only.output, Nat.le_trans q3.only.size hb4.size, fun k hk hne => (hb4.block k hk).trans (q3.only.block k hk hne)⟩
      have r4 := (hb4.block P q3.lt).trans q3.rd
      go_wp2
      go_ret
      exact ⟨ret_bs (by rw [HE.out]; simp [unqL]), by rw [HE.out]; exact r4, o4⟩
    | cons b t =>
      have hT : ((bs (b :: t)).toList == []) = false := by rw [bs_toList]; rfl
      have hq : 0 < (bs (b :: t)).size := by rw [bs_size]; simp
      have hb0 : (bs (b :: t))[0]'hq = b := rfl
      have hb256 := b.toNat_lt
      by_cases h34 : b = 34
      · have e34 : ((b.toNat : Int) == 34) = true := by rw [h34]; rfl
        have H34 := Lib.hid h34
        clear h34
        go_wp2_with (go_at_call 56; refine Hid.out ?_)
        refine Lib.hid ?_
        refine (skip_any P (b :: t) 1 wr Q.out.rd (by simp at hlen ⊢; omega) (by omega)).mono ?_
        rintro _ w3 ⟨rfl, r3, o3⟩
        have q3 := Q.out.read r3 o3
        clear c0 hT Q
        go_wp2_with (go_at_call 52; refine Hid.out ?_)
        refine Lib.hid ?_
        refine (Any.Builder_String_any_k Tryz.lays169 Tryz.Builder_Extra_169 w.heap.size w.heap.size x _ q3.bld q3.le).mono ?_
        rintro _ w4 ⟨rfl, _, hb4, _⟩
        have o4 : Only P w w4 := ⟨hb4.os.trans q3.only.os, hb4.tape.trans q3.only.tape, hb4.output.trans q3.only.output, Nat.le_trans q3.only.size hb4.size, fun k hk hne => (hb4.block k hk).trans (q3.only.block k hk hne)⟩
        have r4 := (hb4.block P q3.lt).trans q3.rd
        go_wp2
        go_ret
        exact ⟨ret_bs (by rw [HE.out, H34.out, unq_end]; simp), by rw [HE.out]; rw [H34.out, unq_end]; exact r4, o4⟩
      · have e34 : ((b.toNat : Int) == 34) = false := by
          rw [beq_eq_false_iff_ne]
          intro h
          exact h34 (UInt8.toNat_inj.1 (by have h3 : b.toNat = 34 := by omega
                                           exact h3))
        have L0 : Hid (lenAt (wr.cell? ⟨P, 0, none⟩) = (b :: t).length) := Q.out.len
        have TK : Hid (Calls Tryz.prog 58 #[.pointer (some ⟨P, 0, none⟩), .string ⟨#[92]⟩] wr fun e w' => e = .returned (.bool ([92].isPrefixOf (b :: t))) ∧ RdAt P (takeR [92] (b :: t)) w' ∧ Only P wr w') := take_any P (b :: t) [92] wr Q.out.rd
        have H34 := Lib.hid h34
        clear h34
        by_cases h92 : b = 92
        · have hp : ([92] : List UInt8).isPrefixOf (b :: t) = true := by rw [h92]; simp [List.isPrefixOf]
          have htk : takeR [92] (b :: t) = t := by unfold takeR; rw [if_pos hp]; rfl
          rw [hp, htk] at TK
          have H92 := Lib.hid h92
          clear hp htk h92
          go_wp2_with (go_at_call 58; refine Hid.out ?_)
          refine Lib.hid ?_
          refine TK.out.mono ?_
          rintro _ w2 ⟨rfl, r2, o2⟩
          have hq2 : Hid (QSt P w.heap.size (t) x w w2.drew) := (Q.out.read r2 o2).drew
          have d0 := r2.cell
          have hdz : (bs (t)).size ≤ 1000000 := by rw [bs_size]; simp at hlen ⊢; omega
          have HF := Lib.hid (bs_first (t))
          have WS : Hid (Calls Tryz.prog 75 #[.pointer (some ⟨w.heap.size, 0, none⟩), .string (bs ((t).take 1))] w2.drew fun e w' => (∃ n, e = .returned (.tuple #[.int .i64 n, .nilIface])) ∧ QSt P w.heap.size (t) (x ++ (t).take 1) w w') := ws_q hq2.out (by omega) _ (by simp <;> omega)
          have HLEN : Hid (x.length + (b :: t).length ≤ 1000000) := hlen
          clear c0 Q r2 o2 TK hT hb0 hsz
          go_wp2
          go_region_with (go_at_call 75; rw [HF.out]; refine WS.out.mono ?_; rintro _ w3 ⟨⟨n3, rfl⟩, q3⟩)
          all_goals
            have q3' := q3
            clear q3 d0 hdz
            go_wp2_with (go_at_call 56; refine Hid.out ?_)
            refine Lib.hid ?_
            refine (skip_any P _ 1 w3 q3'.rd (by have := HLEN.out; simp at this ⊢; omega) (by omega)).mono ?_
            rintro _ w5 ⟨rfl, r5, o5⟩
            have q5 := Lib.hid (q3'.read r5 o5)
            clear q3' r5 o5
            go_wp2
            go_roundw
            case rel => exact ⟨_, _, q5, show R = _ by rw [HE.out]; rw [H92.out]; cases t with | nil => simp [unqL] | cons c t' => rw [unq_esc]; simp, by have := HLEN.out; simp at this ⊢; omega⟩
            case measure =>
              rw [q5.out.len, L0.out]
              simp; omega
        · have hp : ([92] : List UInt8).isPrefixOf (b :: t) = false := by simp [List.isPrefixOf]; exact fun e => h92 e.symm
          have htk : takeR [92] (b :: t) = b :: t := by unfold takeR; rw [if_neg (by simp [hp])]
          rw [hp, htk] at TK
          have H92 := Lib.hid h92
          clear hp htk h92
          go_wp2_with (go_at_call 58; refine Hid.out ?_)
          refine Lib.hid ?_
          refine TK.out.mono ?_
          rintro _ w2 ⟨rfl, r2, o2⟩
          have hq2 : Hid (QSt P w.heap.size (b :: t) x w w2.drew) := (Q.out.read r2 o2).drew
          have d0 := r2.cell
          have hdz : (bs (b :: t)).size ≤ 1000000 := by rw [bs_size]; simp at hlen ⊢; omega
          have HF := Lib.hid (bs_first (b :: t))
          have WS : Hid (Calls Tryz.prog 75 #[.pointer (some ⟨w.heap.size, 0, none⟩), .string (bs ((b :: t).take 1))] w2.drew fun e w' => (∃ n, e = .returned (.tuple #[.int .i64 n, .nilIface])) ∧ QSt P w.heap.size (b :: t) (x ++ (b :: t).take 1) w w') := ws_q hq2.out (by omega) _ (by simp <;> omega)
          have HLEN : Hid (x.length + (b :: t).length ≤ 1000000) := hlen
          clear c0 Q r2 o2 TK hT hb0 hsz
          go_wp2
          go_region_with (go_at_call 75; rw [HF.out]; refine WS.out.mono ?_; rintro _ w3 ⟨⟨n3, rfl⟩, q3⟩)
          all_goals
            have q3' := q3
            clear q3 d0 hdz
            go_wp2_with (go_at_call 56; refine Hid.out ?_)
            refine Lib.hid ?_
            refine (skip_any P _ 1 w3 q3'.rd (by have := HLEN.out; simp at this ⊢; omega) (by omega)).mono ?_
            rintro _ w5 ⟨rfl, r5, o5⟩
            have q5 := Lib.hid (q3'.read r5 o5)
            clear q3' r5 o5
            go_wp2
            go_roundw
            case rel => exact ⟨_, _, q5, show R = _ by rw [HE.out]; rw [unq_sign b t H34.out H92.out]; simp, by have := HLEN.out; simp at this ⊢; omega⟩
            case measure =>
              rw [q5.out.len, L0.out]
              simp
end Go.Proofs.YtfjpgjkfmcedoaaGreatDoor
/- A name, looked up in job.names. Written by tpl/mk_rdn.py. -/
namespace Go.Proofs.YtfjpgjkfmcedoaaGreatDoor
open Go.ChangeShapes Go.WideShapes Go.ChangeAt Go.RowKit Go.WideMaps Go.Maps
set_option maxRecDepth 100000 in
theorem name_at (x : List UInt8) : (nameD).atKey (.string x) (.lit (.int .i64 0)) = .lit (.int .i64 (nameK x)) := by
  by_cases h1 : x = [105, 116]
  · subst h1; kernel_rfl
  by_cases h2 : x = [108, 105, 110, 101]
  · subst h2; kernel_rfl
  by_cases h3 : x = [119, 111, 114, 100]
  · subst h3; kernel_rfl
  by_cases h4 : x = [116, 101, 120, 116]
  · subst h4; kernel_rfl
  by_cases h5 : x = [99, 97, 116]
  · subst h5; kernel_rfl
  by_cases h6 : x = [99, 117, 116]
  · subst h6; kernel_rfl
  by_cases h7 : x = [110, 117, 109]
  · subst h7; kernel_rfl
  by_cases h8 : x = [108, 101, 110]
  · subst h8; kernel_rfl
  by_cases h9 : x = [109, 97, 110, 121]
  · subst h9; kernel_rfl
  by_cases h10 : x = [97, 100, 100]
  · subst h10; kernel_rfl
  unfold nameD nameK
  rw [if_neg h1, if_neg h2, if_neg h3, if_neg h4, if_neg h5, if_neg h6, if_neg h7, if_neg h8, if_neg h9, if_neg h10]
  rw [atKey_put_other (fun e => h10 (by injection e)), atKey_put_other (fun e => h9 (by injection e)), atKey_put_other (fun e => h8 (by injection e)), atKey_put_other (fun e => h7 (by injection e)), atKey_put_other (fun e => h6 (by injection e)), atKey_put_other (fun e => h5 (by injection e)), atKey_put_other (fun e => h4 (by injection e)), atKey_put_other (fun e => h3 (by injection e)), atKey_put_other (fun e => h2 (by injection e)), atKey_put_other (fun e => h1 (by injection e))]
  rfl
theorem map_only {w w' : World} {P b n : Nat} {D : DataW Unit} (h : w.ownsMap Tryz.prog 9 (plainElem (H := Unit) Tryz.prog 3) b n D) (ho : Only P w w') (hne : b ≠ P) : w'.ownsMap Tryz.prog 9 (plainElem (H := Unit) Tryz.prog 3) b n D :=
  h.kept ho (by simpa using hne)
theorem zeroInt (w : World) : (zeroValue 3).run Tryz.prog w = .ok (.int .i64 0) w := Tryz.zeroValue3 w
set_option maxRecDepth 100000 in
theorem look_name {w : World} {b n : Nat} (h : w.ownsMap Tryz.prog 9 (plainElem (H := Unit) Tryz.prog 3) b n nameD) (x : List UInt8) (hx : x.length ≤ 1000000) :
    (Instr.lookup 98 (.map (some b)) (.string (bs x)) false).run Tryz.prog w = .ok (.int .i64 (nameK x)) w := by
  obtain ⟨c, hrun, hat, _⟩ := h.lookup_int strKey mapT Tryz.underlying3 (zeroInt w) (key_lit (bs x) (by rw [bs_size]; unfold maxLen; omega))
  have h2 : (nameD).atKey (.string x) (.lit (.int .i64 0)) = .lit (.int .i64 c) := by have h3 := hat; rw [bs_data] at h3; exact h3
  rw [name_at] at h2
  have h4 : nameK x = c := by
    generalize nameK x = k at h2
    injection h2 with h5
    injection h5
  rw [hrun, h4]
end Go.Proofs.YtfjpgjkfmcedoaaGreatDoor
/- Expressions that lie in a window of blocks; the cells that a list of them fills; copies of lists. -/
namespace Go.Proofs.YtfjpgjkfmcedoaaGreatDoor
open Go.ChangeShapes Go.WideShapes Go.ChangeAt Go.RowKit
/-- Between these blocks both worlds are the same. -/
def Keeps (lo hi : Nat) (w w' : World) : Prop := ∀ k, lo ≤ k → k < hi → w'.heap[k]? = w.heap[k]?
theorem Keeps.trans {lo hi : Nat} {a b c : World} (h : Keeps lo hi a b) (k : Keeps lo hi b c) : Keeps lo hi a c := fun i h1 h2 => (k i h1 h2).trans (h i h1 h2)
theorem Keeps.sub {lo hi lo' hi' : Nat} {a b : World} (h : Keeps lo hi a b) (h1 : lo ≤ lo') (h2 : hi' ≤ hi) : Keeps lo' hi' a b := fun i h3 h4 => h i (by omega) (by omega)
theorem Keeps.of_below {lo hi : Nat} {w w' : World} (h : Below w.heap.size w w') (hh : hi ≤ w.heap.size) : Keeps lo hi w w' := fun k _ h2 => h.block k (by omega)
theorem Keeps.of_grown {lo hi : Nat} {w w' : World} {row : Option Nat} (h : w.grownBy w' row) (hh : hi ≤ w.heap.size) (hr : ∀ g, row = some g → g < lo ∨ hi ≤ g) : Keeps lo hi w w' := fun k h1 h2 => h.block k (by omega) (fun e => by have := hr k e.symm; omega)
theorem Keeps.of_only {lo hi P : Nat} {w w' : World} (h : Only P w w') (hh : hi ≤ w.heap.size) (hr : P < lo ∨ hi ≤ P) : Keeps lo hi w w' := Keeps.of_grown h hh (fun g e => by injection e with e; omega)
/-- An expression that lies between these blocks. -/
def IsExW (lo hi : Nat) (w : World) (v : Value) (e : Ex) : Prop := ∀ w', Keeps lo hi w w' → IsEx w' v e
theorem IsExW.self {lo hi : Nat} {w : World} {v : Value} {e : Ex} (h : IsExW lo hi w v e) : IsEx w v e := h w (fun _ _ _ => rfl)
theorem IsExW.carry {lo hi : Nat} {w w' : World} {v : Value} {e : Ex} (h : IsExW lo hi w v e) (hk : Keeps lo hi w w') : IsExW lo hi w' v e := fun _ hk' => h _ (hk.trans hk')
theorem IsExW.wide {lo hi lo' hi' : Nat} {w : World} {v : Value} {e : Ex} (h : IsExW lo hi w v e) (h1 : lo' ≤ lo) (h2 : hi ≤ hi') : IsExW lo' hi' w v e := fun _ hk => h _ (hk.sub h1 h2)
theorem IsExW.put {lo hi b j : Nat} {w : World} {v : Value} {e : Ex} (h : IsExW lo hi w v e) (hb : b < lo) (u : Value) : IsExW lo hi (w.setCell ⟨b, j, none⟩ u) v e :=
  h.carry (fun k hk1 _ => Below.heap_setCell w ⟨b, j, none⟩ u k (fun e => by simp at e; omega))
/-- The cells that expressions fill, their lists these. -/
def cellsX (l : List Ex) (A : Nat → Value) : List Value := (l.zipIdx).flatMap fun p => [.int .i64 p.1.k, .int .i64 p.1.n, .string (bs p.1.s), A p.2]
theorem cellsX_snoc (l : List Ex) (A : Nat → Value) (x : Ex) : cellsX (l ++ [x]) A = cellsX l A ++ [.int .i64 x.k, .int .i64 x.n, .string (bs x.s), A l.length] := by
  unfold cellsX; rw [List.zipIdx_append]; simp
theorem cellsX_len (l : List Ex) (A : Nat → Value) : (cellsX l A).length = l.length * 4 := by
  have : ∀ (l : List Ex) (m : Nat), ((l.zipIdx m).flatMap fun p => [Value.int .i64 p.1.k, .int .i64 p.1.n, .string (bs p.1.s), A p.2]).length = l.length * 4 := by
    intro l
    induction l with
    | nil => intro m; rfl
    | cons x l ih => intro m; rw [List.zipIdx_cons, List.flatMap_cons, List.length_append, ih]; simp; omega
  exact this l 0
theorem cellsX_congr (l : List Ex) (A A' : Nat → Value) (h : ∀ j, j < l.length → A j = A' j) : cellsX l A = cellsX l A' := by
  have gen : ∀ (l : List Ex) (m : Nat), (∀ j, j < l.length → A (m + j) = A' (m + j)) → ((l.zipIdx m).flatMap fun p => [Value.int .i64 p.1.k, .int .i64 p.1.n, .string (bs p.1.s), A p.2]) = ((l.zipIdx m).flatMap fun p => [Value.int .i64 p.1.k, .int .i64 p.1.n, .string (bs p.1.s), A' p.2]) := by
    intro l
    induction l with
    | nil => intro m _; rfl
    | cons x l ih =>
      intro m h
      have h0 := h 0 (by simp)
      rw [Nat.add_zero] at h0
      rw [List.zipIdx_cons, List.flatMap_cons, List.flatMap_cons, ih (m + 1) (fun j hj => by have := h (j + 1) (by simpa using hj); rw [show m + 1 + j = m + (j + 1) by omega]; exact this), h0]
  exact gen l 0 (fun j hj => by rw [Nat.zero_add]; exact h j hj)
theorem cellsX_at (A : Nat → Value) : ∀ (l : List Ex) (i : Nat) (x : Ex), l[i]? = some x → (cellsX l A)[i * 4]? = some (.int .i64 x.k) ∧ (cellsX l A)[i * 4 + 1]? = some (.int .i64 x.n) ∧ (cellsX l A)[i * 4 + 2]? = some (.string (bs x.s)) ∧ (cellsX l A)[i * 4 + 3]? = some (A i) := by
  have gen : ∀ (l : List Ex) (m i : Nat) (x : Ex), l[i]? = some x → ((l.zipIdx m).flatMap fun p => [Value.int .i64 p.1.k, .int .i64 p.1.n, .string (bs p.1.s), A p.2])[i * 4]? = some (.int .i64 x.k) ∧ ((l.zipIdx m).flatMap fun p => [Value.int .i64 p.1.k, .int .i64 p.1.n, .string (bs p.1.s), A p.2])[i * 4 + 1]? = some (.int .i64 x.n) ∧ ((l.zipIdx m).flatMap fun p => [Value.int .i64 p.1.k, .int .i64 p.1.n, .string (bs p.1.s), A p.2])[i * 4 + 2]? = some (.string (bs x.s)) ∧ ((l.zipIdx m).flatMap fun p => [Value.int .i64 p.1.k, .int .i64 p.1.n, .string (bs p.1.s), A p.2])[i * 4 + 3]? = some (A (m + i)) := by
    intro l
    induction l with
    | nil => intro m i x hx; simp at hx
    | cons y l ih =>
      intro m i x hx
      cases i with
      | zero =>
        simp at hx
        subst hx
        simp [List.zipIdx_cons]
      | succ i =>
        have h := ih (m + 1) i x (by simpa using hx)
        rw [List.zipIdx_cons, List.flatMap_cons]
        rw [show (i + 1) * 4 = i * 4 + 4 by omega]
        have e : m + 1 + i = m + (i + 1) := by omega
        rw [e] at h
        refine ⟨?_, ?_, ?_, ?_⟩
        · rw [List.getElem?_append_right (by simp)]; simpa using h.1
        · rw [List.getElem?_append_right (by simp)]; simpa [show i * 4 + 4 + 1 - 4 = i * 4 + 1 by omega] using h.2.1
        · rw [List.getElem?_append_right (by simp)]; simpa [show i * 4 + 4 + 2 - 4 = i * 4 + 2 by omega] using h.2.2.1
        · rw [List.getElem?_append_right (by simp)]; simpa [show i * 4 + 4 + 3 - 4 = i * 4 + 3 by omega] using h.2.2.2
  intro l i x hx
  have := gen l 0 i x hx
  rw [Nat.zero_add] at this
  exact this
theorem cellsX_one (l : List Ex) (A : Nat → Value) (h : ∀ i x, l[i]? = some x → (A i).oneCell' = true) : ∀ u ∈ cellsX l A, u.oneCell' = true := by
  intro u hu
  obtain ⟨j, hj⟩ := List.getElem?_of_mem hu
  have hlt := (List.getElem?_eq_some_iff.1 hj).1
  rw [cellsX_len] at hlt
  have hi : j / 4 < l.length := by omega
  obtain ⟨x, hx⟩ : ∃ x, l[j / 4]? = some x := ⟨l[j / 4], by simp⟩
  obtain ⟨c0, c1, c2, c3⟩ := cellsX_at A l _ x hx
  have hj4 : j = j / 4 * 4 ∨ j = j / 4 * 4 + 1 ∨ j = j / 4 * 4 + 2 ∨ j = j / 4 * 4 + 3 := by omega
  rcases hj4 with e | e | e | e <;> rw [e] at hj
  · rw [c0, Option.some.injEq] at hj; subst hj; rfl
  · rw [c1, Option.some.injEq] at hj; subst hj; rfl
  · rw [c2, Option.some.injEq] at hj; subst hj; rfl
  · rw [c3, Option.some.injEq] at hj; subst hj; exact h _ x hx
theorem eqlNil {P : Program} (w : World) (t e : TypeId) (a : Option Addr) (l c : Nat) (h : P.underlying t = some (.slice e)) : (binOp .eql t (.slice a l c) (.slice none 0 0)).run P w = .ok (.bool a.isNone) w := by
  simp only [binOp]
  simp [run_equal_slice_nil w t e a l c h]
theorem infoExpr : (Tryz.prog.info? 44).map (fun i => (i.zero, i.size, i.bytes)) = some (some (.agg #[.int .i64 0, .int .i64 0, .string ⟨#[]⟩, .slice none 0 0]), 4, 56) := by kernel_rfl
end Go.Proofs.YtfjpgjkfmcedoaaGreatDoor
