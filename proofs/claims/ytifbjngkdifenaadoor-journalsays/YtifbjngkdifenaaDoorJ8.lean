/- Journals: the walk of Parse. -/
import Derived.Test.YtifbjngkdifenaaDoorJ7
namespace Go.Proofs.YtifbjngkdifenaaDoor
open Go.ChangeShapes Go.WideShapes Go.ChangeAt Go.RowKit
open Num
theorem infoEnt : (Tryd.prog.info? 25).map (fun i => (i.zero, i.size, i.bytes)) = some (some (.agg #[.string ⟨#[]⟩, .slice none 0 0, .slice none 0 0]), 3, 64) := by kernel_rfl
/-- What One has said of the text t. -/
def Cur (B : Nat) (t : List UInt8) (k : ByteArray) (vn vt : Value) (r : List UInt8) (ok : Bool) (w : World) : Prop :=
  (ok = false ∧ oneL t = none) ∨ (ok = true ∧ ∃ en, oneL t = some (en, r) ∧ k = bs en.kind ∧ Good B w ⟨en, vn, vt⟩)
theorem Cur.below {B : Nat} {t r : List UInt8} {k : ByteArray} {vn vt : Value} {ok : Bool} {w w' : World} (h : Cur B t k vn vt r ok w) (hb : Below w.heap.size w w') : Cur B t k vn vt r ok w' := by
  rcases h with h | ⟨h1, en, h2, h3, h4⟩
  · exact .inl h
  · exact .inr ⟨h1, en, h2, h3, h4.below hb⟩
theorem Cur.store {B g i : Nat} {t r : List UInt8} {k : ByteArray} {vn vt u : Value} {ok : Bool} {w : World} {ys : List Value} (h : Cur B t k vn vt r ok w) (hk : Blk w g 25 ys) : Cur B t k vn vt r ok (w.setCell ⟨g, i, none⟩ u) := by
  rcases h with h | ⟨h1, en, h2, h3, h4⟩
  · exact .inl h
  · exact .inr ⟨h1, en, h2, h3, h4.store hk⟩
theorem one_cur (t : List UInt8) (w : World) (E : Env w) (hs : t.length ≤ 10000000) (B : Nat) (hB : B ≤ w.heap.size) :
    Calls Tryd.prog 9 #[.string (bs t)] w fun e w' => ∃ k an n cn at' m ct r ok, e = .returned (.tuple #[.agg #[.string k, .slice an n cn, .slice at' m ct], .string (bs r), .bool ok]) ∧ Cur B t k (.slice an n cn) (.slice at' m ct) r ok w' ∧ Below w.heap.size w w' := by
  refine (one_any t w E hs).mono ?_
  rintro e w' ⟨⟨h1, rfl⟩ | ⟨en, r, vn, vt, h1, rfl, h2, h3⟩, hb⟩
  · exact ⟨⟨#[]⟩, none, 0, 0, none, 0, 0, t, false, rfl, .inl ⟨rfl, h1⟩, hb⟩
  · obtain ⟨an, cn, e1, _⟩ := isIs_of h2
    obtain ⟨at', ct, e2, _⟩ := isTexts_of h3
    subst e1
    subst e2
    exact ⟨_, _, _, _, _, _, _, r, true, rfl, .inr ⟨rfl, en, h1, rfl, owns_low h2 hB, owns_low h3 hB⟩, hb⟩
/-- What Parse has so far. -/
structure ParI (s : List UInt8) (w : World) (P : Nat) (lv : Value) (L : List EV) (t : List UInt8) (wr : World) : Prop where
  row : wr.ownsRow (P + 1) 25 3 lv L.length (cellsE L)
  good : ∀ x ∈ L, Good w.heap.size wr x
  bel : Below w.heap.size w wr
  par : parL s = L.map EV.e ++ parL t
  few : L.length + t.length ≤ s.length
set_option maxRecDepth 100000 in
set_option maxHeartbeats 2000000 in
theorem parse_any (s : List UInt8) (w : World) (E : Env w) (hs : s.length ≤ 10000000) :
    Calls Tryd.prog 12 #[.string (bs s)] w fun e w' => ∃ v L, e = .returned v ∧ L.map EV.e = parL s ∧ w'.ownsRow w.heap.size 25 3 v L.length (cellsE L) ∧ (∀ x ∈ L, Good w.heap.size w' x) ∧ Below w.heap.size w w' := by
  obtain ⟨i0, hi0, hz0, hz1, hz2⟩ := info_parts infoEnt
  have HE : Hid (∀ w1, Below w.heap.size w w1 → Env w1) := fun w1 h => E.below h
  have O1 := Lib.hid (one_cur s w E hs w.heap.size (Nat.le_refl _))
  clear E
  go_enter Tryd.func12, Tryd.ntmps12
  go_wp2_with (go_at_call 9; refine Hid.out ?_)
  refine Lib.hid ?_
  refine O1.out.mono ?_
  rintro _ w1 ⟨k, an, n, cn, at', m, ct, r, ok, rfl, hcur, hb1⟩
  obtain ⟨P, hP⟩ : ∃ P, P = w1.heap.size := ⟨_, rfl⟩
  obtain ⟨w2, hw2⟩ : ∃ w2, w2 = w1.alloc (.cells #[.string k, .slice an n cn, .slice at' m ct] 25) := ⟨_, rfl⟩
  have hb2 : Below w1.heap.size w1 w2 := by rw [hw2]; exact (Below.refl _ _).alloc (Nat.le_refl _) _
  have K2 : Hid (Blk w2 P 25 [.string k, .slice an n cn, .slice at' m ct]) := by rw [hw2, hP]; exact Blk.new w1 _ _
  have C2 := Lib.hid (hcur.below hb2)
  have hPw : w.heap.size ≤ P := by rw [hP]; exact hb1.size
  have I2 : Hid (ParI s w P (.slice none 0 0) [] s w2) := ⟨World.ownsRow_nil _ _ _ _, fun x hx => (by cases hx), below_trans hb1 hb2, (by rfl), (by rw [List.length_nil]; omega)⟩
  have HW2 := Lib.hid hw2
  have HP := Lib.hid hP
  clear hw2 hP hcur hb1 hb2 O1
  dsimp only
  go_wp2
  rw [← HW2.out, ← HP.out]
  clear HW2 HP
  go_loopg [3, 5, 6] s.length (fun gg lv rv okv wr => ∃ (L : List EV) (t r : List UInt8) (k : ByteArray) (an : Option Addr) (n cn : Nat) (at' : Option Addr) (m ct : Nat) (ok : Bool), gg = t.length ∧ rv = .string (bs r) ∧ okv = .bool ok ∧ Hid (Blk wr P 25 [.string k, .slice an n cn, .slice at' m ct]) ∧ Hid (Cur w.heap.size t k (.slice an n cn) (.slice at' m ct) r ok wr) ∧ Hid (ParI s w P lv L t wr))
  case atStart => exact ⟨[], s, r, k, an, n, cn, at', m, ct, ok, rfl, rfl, rfl, K2, C2, I2⟩
  case round =>
    clear K2 C2 I2
    obtain ⟨L, t, r, k, an, n, cn, at', m, ct, ok, hgk, rfl, rfl, HK, HC, HI⟩ := hrel
    have HG := Lib.hid hgk
    clear hgk
    rcases HC.out with ⟨hok, hno⟩ | ⟨hok, en, hone, hk, hgood⟩
    · subst hok
      have hfin : L.map EV.e = parL s := by rw [HI.out.par, parL_none hno, List.append_nil]
      have HF := Lib.hid hfin
      clear hfin hno HC
      go_wp2
      go_ret
      exact ⟨_, L, rfl, HF.out, owns_low HI.out.row (by omega), HI.out.good, HI.out.bel⟩
    · subst hok
      have hlr := oneL_len hone
      have hpar : parL s = (L ++ [(⟨en, .slice an n cn, .slice at' m ct⟩ : EV)]).map EV.e ++ parL r := by
        rw [HI.out.par, parL_some hone, List.map_append, List.append_assoc]
        rfl
      have hfew := HI.out.few
      have HPAR := Lib.hid hpar
      have HGD := Lib.hid hgood
      have c0 := HK.out.at (i := 0) (v := .string k) rfl
      have c1 := HK.out.at (i := 1) (v := .slice an n cn) rfl
      have c2 := HK.out.at (i := 2) (v := .slice at' m ct) rfl
      have hPlt := HK.out.lt
      have hLl : L.length ≤ 10000000 := by omega
      have HKK := Lib.hid hk
      clear hpar hgood HC hone hk
      go_wp2_with (at_builtin; refine Hid.out ?_)
      refine Lib.hid ?_
      refine wpList_append_own _ rfl (.tmp 14) (.tmp 16) 36 rfl (P + 1) 25 i0 (.agg #[.string ⟨#[]⟩, .slice none 0 0, .slice none 0 0]) 3 64 Tryd.underlying36 hi0 hz0 hz1 hz2 rfl (by decide) _ L.length (cellsE L) rfl (HI.out.row.alloc _) ⟨wr.heap.size, 0, none⟩ 1 1 [.string k, .slice an n cn, .slice at' m ct] rfl rfl ?c1 ?c5 ?c2 ?c3 ?c4 ?_
      case c1 => exact lit_cells rfl (show 3 ≤ maxLen by decide)
      case c5 => intro u hu; simp at hu; rcases hu with rfl | rfl | rfl <;> rfl
      case c2 => unfold maxLen; omega
      case c3 => omega
      case c4 => simp; omega
      intro v4 w4 hown4 hg4 _
      obtain ⟨w3, hw3⟩ : ∃ w3, w3 = wr.alloc (.cells #[.string k, .slice an n cn, .slice at' m ct] 25) := ⟨_, rfl⟩
      have hb3 : Below wr.heap.size wr w3 := by rw [hw3]; exact (Below.refl _ _).alloc (Nat.le_refl _) _
      have g3 : w3.grownBy w4 u3.ownBlock := by rw [hw3]; exact hg4
      have row3 := owns_below HI.out.row hb3
      have hb03 := below_trans HI.out.bel hb3
      have hP3 : P < w3.heap.size := Nat.lt_of_lt_of_le hPlt hb3.size
      have hb4 : Below w.heap.size w w4 := hb03.grown g3 hb03.size (fun q hq => by have := (row3.lt q hq).1; omega)
      have K4 : Hid (Blk w4 P 25 [.string k, .slice an n cn, .slice at' m ct]) := (g3.block P hP3 (fun e => by have := (row3.lt _ e.symm).1; omega)).trans (HK.out.blw hb3)
      have GD4 : Hid (∀ x ∈ L ++ [(⟨en, .slice an n cn, .slice at' m ct⟩ : EV)], Good w.heap.size w4 x) := fun x hx => by
        rcases List.mem_append.1 hx with h | h
        · exact ((HI.out.good x h).below hb3).grown row3 g3
        · rw [List.mem_singleton] at h
          subst h
          exact (HGD.out.below hb3).grown row3 g3
      have R4 : Hid (w4.ownsRow (P + 1) 25 3 v4 (L ++ [(⟨en, .slice an n cn, .slice at' m ct⟩ : EV)]).length (cellsE (L ++ [(⟨en, .slice an n cn, .slice at' m ct⟩ : EV)]))) := by
        show World.ownsRow _ _ _ _ _ _ _
        rw [cellsE_append, List.length_append]
        have e : cellsE [(⟨en, .slice an n cn, .slice at' m ct⟩ : EV)] = [.string k, .slice an n cn, .slice at' m ct] := by rw [HKK.out]; rfl
        rw [e]
        exact hown4
      have ON := Lib.hid (one_cur r w4 (HE.out _ hb4) (by omega) w.heap.size hb4.size)
      have HB4 := Lib.hid hb4
      have HLR := Lib.hid hlr
      have HFW : Hid ((L ++ [(⟨en, .slice an n cn, .slice at' m ct⟩ : EV)]).length + r.length ≤ s.length) := by
        show _ ≤ _
        rw [List.length_append, List.length_singleton]
        omega
      generalize L ++ [(⟨en, .slice an n cn, .slice at' m ct⟩ : EV)] = L' at *
      clear hown4 hg4 g3 row3 hw3 hb3 hb03 HI HK HGD hb4 c0 c1 c2 hlr hfew
      go_wp2_with (go_at_call 9; refine Hid.out ?_)
      refine Lib.hid ?_
      refine ON.out.mono ?_
      clear ON
      rintro _ w5 ⟨k', an', n', cn', bt, m', ct', r', ok', rfl, hcur, hb5⟩
      dsimp only
      have K5 := K4.out.blw hb5
      have z0 := K5.at (i := 0) (v := .string k) rfl
      have z1 := K5.at (i := 1) (v := .slice an n cn) rfl
      have z2 := K5.at (i := 2) (v := .slice at' m ct) rfl
      have f0 := K5.frozen 0
      have f1 := K5.frozen 1
      have f2 := K5.frozen 2
      have HK5 := Lib.hid K5
      have HC5 := Lib.hid hcur
      have HB5 := Lib.hid hb5
      clear hcur K5 hb5
      go_wp2
      go_roundg r.length
      case measure => have h1 := HG.out; have h2 := HLR.out; omega
      case rel =>
        have q1 := HK5.out.set 0 (.string k')
        have q2 := q1.set 1 (.slice an' n' cn')
        have q3 := q2.set 2 (.slice bt m' ct')
        refine ⟨L', r, r', k', an', n', cn', bt, m', ct', ok', rfl, rfl, rfl, q3, ((HC5.out.store HK5.out).store q1).store q2, ⟨?_, ?_, ?_, HPAR.out, HFW.out⟩⟩
        · exact owns_put (owns_put (owns_put (owns_below R4.out HB5.out) (Nat.lt_succ_self _)) (Nat.lt_succ_self _)) (Nat.lt_succ_self _)
        · exact fun x hx => ((((GD4.out x hx).below HB5.out).store HK5.out).store q1).store q2
        · exact (((below_trans HB4.out HB5.out).setCell (p := ⟨P, 0, none⟩) hPw _).setCell (p := ⟨P, 1, none⟩) hPw _).setCell (p := ⟨P, 2, none⟩) hPw _
end Go.Proofs.YtifbjngkdifenaaDoor
