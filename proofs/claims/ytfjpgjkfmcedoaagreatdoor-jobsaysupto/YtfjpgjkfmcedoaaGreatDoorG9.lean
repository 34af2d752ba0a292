/- Put together of Blk, Pcs, Lx1, Lx2. -/
import Derived.Test.YtfjpgjkfmcedoaaGreatDoorRows
import Derived.WalkKit
import Derived.ProofKit
import Derived.WalkLawsBesides
import Derived.Lib.Hide
import Derived.Deep.AppendLies
import Derived.OwnWalk
import Derived.Deep.DeepCutAuto
import Derived.Deep.CutBlock
import Derived.Test.YtfjpgjkfmcedoaaGreatDoorRd
import Derived.Test.YtfjpgjkfmcedoaaGreatDoorG6
import Derived.Deep.LoopGhost
import Derived.BigQuiet
import Derived.Deep.QuietTactic
/- A block that is known whole: its cells, stores into it, other blocks. -/
namespace Go.Proofs.YtfjpgjkfmcedoaaGreatDoor
open Go.ChangeShapes Go.WideShapes Go.ChangeAt Go.RowKit
/-- The block g holds just these. -/
def Blk (w : World) (g : Nat) (t : TypeId) (xs : List Value) : Prop := w.heap[g]? = some (.cells xs.toArray t (0, 0))
theorem Blk.lt {w : World} {g : Nat} {t : TypeId} {xs : List Value} (h : Blk w g t xs) : g < w.heap.size := by
  rcases Nat.lt_or_ge g w.heap.size with hb | hb
  · exact hb
  · unfold Blk at h; rw [Array.getElem?_eq_none hb] at h; cases h
theorem Blk.cell {w : World} {g : Nat} {t : TypeId} {xs : List Value} (h : Blk w g t xs) (i : Nat) : w.cell? ⟨g, i, none⟩ = xs[i]? := by
  rw [cell_of_row w g i _ t (0, 0) h]; simp
theorem Blk.at {w : World} {g : Nat} {t : TypeId} {xs : List Value} (h : Blk w g t xs) {i : Nat} {v : Value} (hv : xs[i]? = some v) : w.cell? ⟨g, i, none⟩ = some v := (h.cell i).trans hv
theorem Blk.frozen {w : World} {g : Nat} {t : TypeId} {xs : List Value} (h : Blk w g t xs) (i : Nat) : w.frozen? ⟨g, i, none⟩ = false := frozen_of_row w g i _ t h
theorem Blk.set {w : World} {g : Nat} {t : TypeId} {xs : List Value} (h : Blk w g t xs) (i : Nat) (v : Value) : Blk (w.setCell ⟨g, i, none⟩ v) g t (xs.set i v) := by
  unfold Blk
  rw [heap_setCell_same w g i _ t v h]
  simp
theorem Blk.other {w : World} {g g' : Nat} {t : TypeId} {xs : List Value} (h : Blk w g t xs) (i : Nat) (v : Value) (hne : g ≠ g') : Blk (w.setCell ⟨g', i, none⟩ v) g t xs := (Below.heap_setCell w ⟨g', i, none⟩ v g hne).trans h
theorem Blk.blw {w w' : World} {g : Nat} {t : TypeId} {xs : List Value} (h : Blk w g t xs) (hb : Below w.heap.size w w') : Blk w' g t xs := (hb.block g h.lt).trans h
theorem Blk.drewN {w : World} {g : Nat} {t : TypeId} {xs : List Value} (h : Blk w g t xs) (n : Nat) : Blk (w.drewN n) g t xs := h
theorem Blk.drew {w : World} {g : Nat} {t : TypeId} {xs : List Value} (h : Blk w g t xs) : Blk w.drew g t xs := h
theorem Blk.new (w : World) (cs : Array Value) (t : TypeId) : Blk (w.alloc (.cells cs t)) w.heap.size t cs.toList := by
  unfold Blk
  rw [heap_alloc_new]
theorem owns_blk {w : World} {base g n : Nat} {e : TypeId} {size : Nat} {xs : List Value} (h : w.ownsRow base e size (.slice (some ⟨g, 0, none⟩) n n) n xs) : Blk w g e xs ∧ base ≤ g := by
  rcases h.2 with ⟨h1, _⟩ | ⟨g', cap', cur, h1, h2, h3, _, _, h6, h7⟩
  · cases h1
  · injection h1 with e1 e2 e3
    injection e1 with e1
    injection e1 with e1
    subst e1 e3
    refine ⟨?_, h2⟩
    unfold Blk
    rw [h3, ← h7, List.take_of_length_le (by simp; omega)]
theorem set_mid {α : Type} (A : List α) (z v : α) (B : List α) (i : Nat) (h : i = A.length) : (A ++ z :: B).set i v = A ++ v :: B := by
  subst h
  rw [List.set_append_right _ _ (Nat.le_refl _), Nat.sub_self]
  rfl
end Go.Proofs.YtfjpgjkfmcedoaaGreatDoor
/- Pieces of a function's code, by their numbers. -/
namespace Go.Proofs.YtfjpgjkfmcedoaaGreatDoor
open Go.ChangeShapes Go.WideShapes Go.ChangeAt Go.RowKit
/-- The block of that number in a piece of code. -/
def findBlock (n : Nat) : Code → Option Code
  | .block k c => if k = n then some (.block k c) else findBlock n c
  | .loop c => findBlock n c
  | .scope c => findBlock n c
  | .seq a b => match findBlock n a with
    | some c => some c
    | none => findBlock n b
  | .cond _ a b => match findBlock n a with
    | some c => some c
    | none => findBlock n b
  | _ => none
/-- The region of that number in a piece of code. -/
def findRegion (n : Nat) : Code → Option Code
  | .region k l b => if k = n then some (.region k l b) else none
  | .block _ c => findRegion n c
  | .loop c => findRegion n c
  | .scope c => findRegion n c
  | .seq a b => match findRegion n a with
    | some c => some c
    | none => findRegion n b
  | .cond _ a b => match findRegion n a with
    | some c => some c
    | none => findRegion n b
  | _ => none
def regionIn (o : Option Code) (n : Nat) : Code := ((o.bind (findRegion n)).getD .skip)
def pieceIn (o : Option Code) (n : Nat) : Code := ((o.bind (findBlock n)).getD .skip)
theorem wp_norm {c : Code} {K : Act → World → Prop} {Q0 : Exit → Act → World → Prop} {a : Act} {w : World} (h : c.wp Tryz.prog (Exit.then K fun _ _ _ => False) a w) : c.wp Tryz.prog (Exit.then K Q0) a w :=
  wp_mono h fun e a w hq => by
    cases e with
    | normal => exact hq
    | exit id => exact False.elim hq
    | goto l => exact False.elim hq
    | ret => exact False.elim hq
    | panic ch => exact False.elim hq
    | outgrown => exact False.elim hq
end Go.Proofs.YtfjpgjkfmcedoaaGreatDoor
/- The document's lexer: a word. -/
namespace Go.Proofs.YtfjpgjkfmcedoaaGreatDoor
open Go.ChangeShapes Go.WideShapes Go.ChangeAt Go.RowKit
/-- The lexer's own cells: its text, where it is, whether it is bad. -/
def lexC (s : List UInt8) (a : Nat) (b : Bool) : List Value := [.string (bs s), .int .i64 (a : Int), .bool b]
/-- The lexer in memory: all that was there but its own block stays. -/
structure LxAt (P : Nat) (s : List UInt8) (a : Nat) (b : Bool) (w wr : World) : Prop where
  at' : Blk wr P 64 (lexC s a b)
  only : Only P w wr
theorem LxAt.go {P : Nat} {s : List UInt8} {a a' : Nat} {b : Bool} {w wr : World} (h : LxAt P s a b w wr) : LxAt P s a' b w (wr.setCell ⟨P, 1, none⟩ (.int .i64 (a' : Int))) :=
  ⟨h.at'.set 1 _, h.only.setCell 1 _⟩
theorem LxAt.blw {P : Nat} {s : List UInt8} {a : Nat} {b : Bool} {w wr w' : World} (h : LxAt P s a b w wr) (hb : Below wr.heap.size wr w') : LxAt P s a b w w' := ⟨h.at'.blw hb, h.only.trans (Only.of_below hb)⟩
theorem wordR_get {s : List UInt8} : ∀ {k : Nat}, k < (wordR s).length → ∃ c, s[k]? = some c ∧ c ≠ 32 ∧ (wordR s)[k]? = some c := by
  induction s with
  | nil => intro k h; simp [wordR] at h
  | cons b r ih =>
    intro k h
    unfold wordR at h ⊢
    by_cases hb : b = 32
    · rw [if_pos hb] at h; simp at h
    · rw [if_neg hb] at h ⊢
      cases k with
      | zero => exact ⟨b, rfl, hb, rfl⟩
      | succ k => simpa using ih (by simpa using h)
theorem wordR_end {s : List UInt8} : s.length ≤ (wordR s).length ∨ s[(wordR s).length]? = some 32 := by
  induction s with
  | nil => left; simp
  | cons b r ih =>
    unfold wordR
    by_cases hb : b = 32
    · rw [if_pos hb]; right; simp [hb]
    · rw [if_neg hb]
      rcases ih with h | h
      · left; simp; omega
      · right; simpa using h
theorem bs_oneL {s : List UInt8} {k : Nat} {c : UInt8} (h : s[k]? = some c) : (bs s).extract k (k + 1) = bs [c] := by
  apply ByteArray.ext
  apply Array.ext'
  obtain ⟨hk, he⟩ := List.getElem?_eq_some_iff.1 h
  simp [bs, List.drop_eq_getElem_cons hk, he, List.extract_eq_take_drop]
theorem bs_get {s : List UInt8} {k : Nat} {c : UInt8} (h : s[k]? = some c) (hk : k < (bs s).size) : (bs s)[k] = c := by
  obtain ⟨hk2, he⟩ := List.getElem?_eq_some_iff.1 h
  have e : (s.toArray)[k]'(by simpa using hk2) = c := by simpa using he
  exact e
set_option maxRecDepth 100000 in
set_option maxHeartbeats 4000000 in
theorem lword_any (P : Nat) (s : List UInt8) (a0 : Nat) (b : Bool) (w : World) (h : Blk w P 64 (lexC s a0 b)) (hs : s.length ≤ 1000) (ha : a0 ≤ 100000) :
    Calls Tryz.prog 25 #[.pointer (some ⟨P, 0, none⟩)] w fun e w' => e = .returned (.string (bs (wordR (s.drop a0)))) ∧ LxAt P s (a0 + (wordR (s.drop a0)).length + 1) b w w' := by
  have A0 : Hid (LxAt P s a0 b w w) := ⟨h, Only.refl _ _⟩
  obtain ⟨W, hW⟩ : ∃ W, W = wordR (s.drop a0) := ⟨_, rfl⟩
  have HW := Lib.hid hW
  have hwl : W.length ≤ 1000 := by rw [hW]; have := wordR_len (s.drop a0); simp at this; omega
  rw [← hW]
  obtain ⟨S, hS⟩ : ∃ S, S = bs s := ⟨_, rfl⟩
  have hsz : S.size = s.length := by rw [hS, bs_size]
  have HS := Lib.hid hS
  have HSZ := Lib.hid hsz
  obtain ⟨sl, hsl⟩ : ∃ n, n = s.length := ⟨_, rfl⟩
  rw [← hsl] at hsz hs
  have HSL := Lib.hid hsl
  clear h hW hS hsl
  go_enter Tryz.func25, Tryz.ntmps25
  go_wp2
  go_loopg [3] W.length (fun gg wv wr => ∃ k ak : Nat, gg = W.length - k ∧ k ≤ W.length ∧ ak ≤ 101000 ∧ Hid (ak = a0 + k) ∧ wv = .string (bs (W.take k)) ∧ Hid (LxAt P s ak b w wr))
  case atStart => exact ⟨0, a0, rfl, Nat.zero_le _, by omega, (show a0 = a0 + 0 from rfl), rfl, A0⟩
  case round =>
    clear A0
    obtain ⟨k, ak, hgk, hk, hak, HAK, rfl, HL⟩ := hrel
    have HGK := Lib.hid hgk
    clear hgk
    have k0 : wr.cell? ⟨P, 0, none⟩ = some (.string S) := by rw [HS.out]; exact HL.out.at'.at (i := 0) rfl
    have k1 := HL.out.at'.at (i := 1) (v := .int .i64 (ak : Int)) rfl
    have f1 := HL.out.at'.frozen 1
    by_cases hkw : k < W.length
    · obtain ⟨c, hc, hc32, hwc⟩ := wordR_get (s := s.drop a0) (k := k) (by rw [← HW.out]; exact hkw)
      rw [List.getElem?_drop, ← HAK.out] at hc
      rw [← HW.out] at hwc
      have hal : ak < sl := by rw [HSL.out]; exact (List.getElem?_eq_some_iff.1 hc).1
      have hix : ∀ h : ak < S.size, S[ak]'h = c := by
        have e := HS.out
        subst e
        exact fun h => bs_get hc h
      have he : ((c.toNat : Int) == 32) = false := by
        simp only [beq_eq_false_iff_ne, ne_eq]
        intro e
        exact hc32 (UInt8.toNat_inj.1 (by show c.toNat = 32; omega))
      have g1 : decide ((ak : Int) < (sl : Int)) = true := decide_eq_true (by omega)
      obtain ⟨ak1, hak1⟩ : ∃ n, n = ak + 1 := ⟨_, rfl⟩
      have ha1 : (ak : Int) + 1 = (ak1 : Int) := by omega
      have hex : S.extract ak ak1 = bs [c] := by
        rw [HS.out, hak1]
        exact bs_oneL hc
      have happ : bs (W.take k) ++ bs [c] = bs (W.take (k + 1)) := by rw [bs_append, take_snoc hwc]
      have hak2 : ak1 ≤ sl := by omega
      have HAK1 := Lib.hid hak1
      have HKW := Lib.hid hkw
      clear hc hwc hkw hak1
      go_upto_region 2 with fail
      go_quiet (fail)
      obtain ⟨w4, hw4⟩ : ∃ w4, w4 = wr.drewN nq := ⟨_, rfl⟩
      have hb4 : Below wr.heap.size wr w4 := by rw [hw4]; exact below_drewN _ _
      rw [← hw4]
      have HL4 : Hid (LxAt P s ak b w w4) := HL.out.blw hb4
      clear hw4 hb4 k0 k1 f1 HL
      have k0 : w4.cell? ⟨P, 0, none⟩ = some (.string S) := by rw [HS.out]; exact HL4.out.at'.at (i := 0) rfl
      have k1 := HL4.out.at'.at (i := 1) (v := .int .i64 (ak : Int)) rfl
      have hw1 : wrap64 (ak1 : Int) = (ak1 : Int) := by unfold wrap64; omega
      have hwk : IntKind.i64.wrap (ak1 : Int) = (ak1 : Int) := by rw [IntKind.wrap_i64]; omega
      have hcat : ¬ 9223372036854775807 < (bs (W.take k)).size + (bs [c]).size := by rw [bs_size, bs_size, List.length_take]; simp; omega
      have hlo : (0 : Int) ≤ (ak : Int) := by omega
      have hle : (ak : Int) ≤ (ak1 : Int) := by omega
      have hle2 : (ak1 : Int) ≤ (sl : Int) := by omega
      go_upto_region 3 with fail
      go_quiet (fail)
      obtain ⟨w5, hw5⟩ : ∃ w5, w5 = w4.drewN nq := ⟨_, rfl⟩
      have hb5 : Below w4.heap.size w4 w5 := by rw [hw5]; exact below_drewN _ _
      rw [← hw5]
      have HL5 : Hid (LxAt P s ak b w w5) := HL4.out.blw hb5
      clear hw5 hb5 k0 k1 HL4
      have k1 := HL5.out.at'.at (i := 1) (v := .int .i64 (ak : Int)) rfl
      have f1 := HL5.out.at'.frozen 1
      trace_state
      have HL6 : Hid (LxAt P s ak1 b w (w5.setCell ⟨P, 1, none⟩ (.int .i64 (ak1 : Int)))) := HL5.out.go
      go_wp2
      go_roundg (W.length - (k + 1))
      case measure => have := HGK.out; have := HKW.out; omega
      case rel => exact ⟨k + 1, ak1, rfl, HKW.out, by have := hak2; omega, (by show ak1 = a0 + (k + 1); rw [HAK1.out, HAK.out]; omega), rfl, HL6⟩
    · have hkW : k = W.length := by omega
      subst hkW
      have HAKW : Hid (ak = a0 + W.length) := HAK.out
      have hend := wordR_end (s := s.drop a0)
      rw [← HW.out, List.length_drop, ← HSL.out, List.getElem?_drop, ← HAK.out] at hend
      obtain ⟨ak1, hak1⟩ : ∃ n, n = ak + 1 := ⟨_, rfl⟩
      have ha1 : (ak : Int) + 1 = (ak1 : Int) := by omega
      have HAK1 : Hid (ak1 = a0 + W.length + 1) := by show _ = _; rw [hak1, HAKW.out]
      have hW : bs (W.take W.length) = bs W := by rw [List.take_length]
      have hw1 : wrap64 (ak1 : Int) = (ak1 : Int) := by unfold wrap64; omega
      by_cases hal : ak < sl
      · have hc : s[ak]? = some 32 := by
          rcases hend with h | h
          · have := HAKW.out; omega
          · exact h
        have hix : ∀ h : ak < S.size, S[ak]'h = 32 := by
          have e := HS.out
          subst e
          exact fun h => bs_get hc h
        have g1 : decide ((ak : Int) < (sl : Int)) = true := decide_eq_true (by omega)
        clear hc hend hak1
        go_upto_region 2 with fail
        go_quiet (fail)
        obtain ⟨w4, hw4⟩ : ∃ w4, w4 = wr.drewN nq := ⟨_, rfl⟩
        have hb4 : Below wr.heap.size wr w4 := by rw [hw4]; exact below_drewN _ _
        rw [← hw4]
        have HL4 : Hid (LxAt P s ak b w w4) := HL.out.blw hb4
        clear hw4 hb4 k0 k1 f1 HL
        have k1 := HL4.out.at'.at (i := 1) (v := .int .i64 (ak : Int)) rfl
        have f1 := HL4.out.at'.frozen 1
        have HL6 : Hid (LxAt P s ak1 b w (w4.setCell ⟨P, 1, none⟩ (.int .i64 (ak1 : Int)))) := HL4.out.go
        go_wp2
        go_ret
        exact ⟨by rw [hW]; rfl, by rw [← HAK1.out]; exact HL6.out⟩
      · have g1 : decide ((ak : Int) < (sl : Int)) = false := decide_eq_false (by omega)
        clear hend hak1
        go_upto_region 2 with fail
        go_quiet (fail)
        obtain ⟨w4, hw4⟩ : ∃ w4, w4 = wr.drewN nq := ⟨_, rfl⟩
        have hb4 : Below wr.heap.size wr w4 := by rw [hw4]; exact below_drewN _ _
        rw [← hw4]
        have HL4 : Hid (LxAt P s ak b w w4) := HL.out.blw hb4
        clear hw4 hb4 k0 k1 f1 HL
        have k1 := HL4.out.at'.at (i := 1) (v := .int .i64 (ak : Int)) rfl
        have f1 := HL4.out.at'.frozen 1
        have HL6 : Hid (LxAt P s ak1 b w (w4.setCell ⟨P, 1, none⟩ (.int .i64 (ak1 : Int)))) := HL4.out.go
        go_wp2
        go_ret
        exact ⟨by rw [hW]; rfl, by rw [← HAK1.out]; exact HL6.out⟩
end Go.Proofs.YtfjpgjkfmcedoaaGreatDoor
/- The document's lexer: whether this is the next word. -/
namespace Go.Proofs.YtfjpgjkfmcedoaaGreatDoor
open Go.ChangeShapes Go.WideShapes Go.ChangeAt Go.RowKit
theorem bs_mid (s : List UInt8) (a b : Nat) : (bs s).extract a b = bs ((s.drop a).take (b - a)) := by
  apply ByteArray.ext
  apply Array.ext'
  simp [bs, List.extract_eq_take_drop]
/-- Is this the next word? -/
def peekL (s p : List UInt8) : Bool := (p ++ [32]).isPrefixOf s
theorem peek_take {s p : List UInt8} (h : p.length < s.length) : (s.take (p.length + 1) == p ++ [32]) = peekL s p := by
  unfold peekL
  rw [Bool.eq_iff_iff, beq_iff_eq, List.isPrefixOf_iff_prefix]
  constructor
  · intro e
    rw [← e]
    exact List.take_prefix _ _
  · rintro ⟨t, rfl⟩
    rw [show p.length + 1 = (p ++ [32]).length by simp, List.take_left]
theorem peek_short {s p : List UInt8} (h : s.length ≤ p.length) : peekL s p = false := by
  unfold peekL
  rw [Bool.eq_false_iff]
  intro e
  rw [List.isPrefixOf_iff_prefix] at e
  have := e.length_le
  simp at this
  omega
set_option maxRecDepth 100000 in
set_option maxHeartbeats 4000000 in
theorem lpeek_any (P : Nat) (s p : List UInt8) (a : Nat) (b : Bool) (w : World) (h : Blk w P 64 (lexC s a b)) (hs : s.length ≤ 1000) (ha : a ≤ 100000) (hp : p.length ≤ 100) :
    Calls Tryz.prog 27 #[.pointer (some ⟨P, 0, none⟩), .string (bs p)] w fun e w' => e = .returned (.bool (peekL (s.drop a) p)) ∧ ∃ n, w' = w.drewN n := by
  obtain ⟨S, hS⟩ : ∃ S, S = bs s := ⟨_, rfl⟩
  have hsz : S.size = s.length := by rw [hS, bs_size]
  have HS := Lib.hid hS
  obtain ⟨sl, hsl⟩ : ∃ n, n = s.length := ⟨_, rfl⟩
  rw [← hsl] at hsz hs
  have HSL := Lib.hid hsl
  have k0 : w.cell? ⟨P, 0, none⟩ = some (.string S) := by rw [hS]; exact h.at (i := 0) rfl
  have k1 := h.at (i := 1) (v := .int .i64 (a : Int)) rfl
  obtain ⟨pl, hpl⟩ : ∃ n, n = p.length := ⟨_, rfl⟩
  have hpz : (bs p).size = pl := by rw [bs_size, hpl]
  have HPL := Lib.hid hpl
  rw [← hpl] at hp
  obtain ⟨a1, ha1⟩ : ∃ n, n = a + pl := ⟨_, rfl⟩
  have hp1 : (a : Int) + (pl : Int) = (a1 : Int) := by omega
  have hw1 : IntKind.i64.wrap (a1 : Int) = (a1 : Int) := by rw [IntKind.wrap_i64]; omega
  have HA1 := Lib.hid ha1
  obtain ⟨R, hR⟩ : ∃ R, R = peekL (s.drop a) p := ⟨_, rfl⟩
  have HR := Lib.hid hR
  rw [← hR]
  by_cases hlt : a1 < sl
  · obtain ⟨a2, ha2⟩ : ∃ n, n = a1 + 1 := ⟨_, rfl⟩
    have hp2 : (a1 : Int) + 1 = (a2 : Int) := by omega
    have hw2 : IntKind.i64.wrap (a2 : Int) = (a2 : Int) := by rw [IntKind.wrap_i64]; omega
    have hex : S.extract a a2 = bs ((s.drop a).take (pl + 1)) := by rw [hS, bs_mid]; congr 2; omega
    have happ : bs p ++ ⟨#[32]⟩ = bs (p ++ [32]) := by
      apply ByteArray.ext
      simp [bs]
    have hcmp : ((bs ((s.drop a).take (pl + 1))).toList == (bs (p ++ [32])).toList) = R := by
      rw [bs_toList, bs_toList, hR, hpl]
      exact peek_take (by rw [List.length_drop]; omega)
    have hcat : ¬ 9223372036854775807 < (bs p).size + (⟨#[32]⟩ : ByteArray).size := by rw [bs_size]; simp [ByteArray.size]; omega
    have g1 : decide ((a1 : Int) < (sl : Int)) = true := decide_eq_true (by omega)
    have hle : (a : Int) ≤ (a2 : Int) := by omega
    have hle2 : (a2 : Int) ≤ (sl : Int) := by omega
    clear hS hsl hR hpl h ha2 ha1
    go_enter Tryz.func27, Tryz.ntmps27
    go_upto_region 1 with fail
    go_quiet (fail)
    go_wp2
    go_ret
    exact ⟨rfl, _, rfl⟩
  · have hRF : R = false := by
      rw [hR]
      exact peek_short (by rw [List.length_drop]; omega)
    have g1 : decide ((a1 : Int) < (sl : Int)) = false := decide_eq_false (by omega)
    have HRF := Lib.hid hRF
    clear hS hsl hR hpl h ha1 hRF
    go_enter Tryz.func27, Tryz.ntmps27
    go_upto_region 1 with fail
    go_quiet (fail)
    go_wp2
    go_ret
    exact ⟨by rw [HRF.out]; rfl, _, rfl⟩
end Go.Proofs.YtfjpgjkfmcedoaaGreatDoor
