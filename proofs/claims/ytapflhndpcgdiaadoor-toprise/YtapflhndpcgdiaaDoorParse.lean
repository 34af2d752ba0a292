/- Contract of pair.Parse: the pairs of which a text is the text, or an error. -/
import Derived.Test.YtapflhndpcgdiaaDoorFirst
namespace Go.Proofs.YtapflhndpcgdiaaDoor
open Go.ChangeShapes Go.WideShapes Go.ChangeAt Go.RowKit
open Num

/-- The cells that pairs fill. -/
def flat (l : List (ByteArray × Int)) : List Value := l.flatMap fun p => [.string p.1, .int .i64 p.2]
theorem flat_length (l : List (ByteArray × Int)) : (flat l).length = l.length * 2 := by
  induction l with
  | nil => rfl
  | cons p l ih => simp only [flat, List.flatMap_cons, List.length_append, List.length_cons, List.length_nil] at *; omega
theorem flat_append (a b : List (ByteArray × Int)) : flat (a ++ b) = flat a ++ flat b := by simp [flat]
theorem flat_at (l : List (ByteArray × Int)) : ∀ (i : Nat) (h : i < l.length), (flat l)[i * 2]? = some (.string l[i].1) ∧ (flat l)[i * 2 + 1]? = some (.int .i64 l[i].2) := by
  induction l with
  | nil => intro i h; simp at h
  | cons p l ih =>
    intro i h
    cases i with
    | zero => exact ⟨rfl, rfl⟩
    | succ i =>
      have h' : i < l.length := by simpa using h
      have e : flat (p :: l) = .string p.1 :: .int .i64 p.2 :: flat l := rfl
      rw [e, show (i + 1) * 2 = i * 2 + 1 + 1 by omega]
      simpa using ih i h'
theorem isPairs_of {w : World} {base : Nat} {v : Value} {l : List (ByteArray × Int)} (h : w.ownsRow base 30 2 v l.length (flat l)) : IsPairs w v l := by
  rcases h.2 with ⟨rfl, h0⟩ | ⟨g, cap, cur, rfl, _⟩
  · exact ⟨none, 0, by rw [h0], fun i hi => by omega⟩
  · refine ⟨some ⟨g, 0, none⟩, cap, rfl, fun i hi => ⟨g, 0, rfl, ?_, ?_⟩⟩
    · rw [Nat.zero_add, h.cellAt (i * 2) (by omega)]; exact (flat_at l i hi).1
    · rw [Nat.zero_add, h.cellAt (i * 2 + 1) (by omega)]; exact (flat_at l i hi).2
theorem flat_one {p : ByteArray × Int} : ∀ u ∈ flat [p], u.oneCell' = true := by
  intro u hu
  simp only [flat, List.flatMap_cons, List.flatMap_nil, List.append_nil, List.mem_cons, List.not_mem_nil, or_false] at hu
  rcases hu with rfl | rfl <;> rfl

theorem owns_below {w w' : World} {base : Nat} {e : TypeId} {size : Nat} {v : Value} {n : Nat} {xs : List Value} (h : w.ownsRow base e size v n xs) (hb : Below w.heap.size w w') : w'.ownsRow base e size v n xs := by
  refine h.kept (row := none) ⟨hb.os, hb.tape, hb.output, hb.size, fun k hk _ => hb.block k hk⟩ ?_
  cases v.ownBlock with
  | none => exact .inl rfl
  | some k => exact .inr (by simp)
theorem lit_cells {w : World} {cs : Array Value} {e : TypeId} {g : Nat} (hg : g = w.heap.size) (hm : cs.size ≤ maxLen) : ∀ j u, cs.toList[j]? = some u → (w.alloc (.cells cs e)).cell? ((⟨g, 0, none⟩ : Addr).add j) = some u := by
  subst hg
  exact (World.ownsRow_lit (base := 0) (size := 1) (e := e) w cs cs.size (Nat.zero_le _) hm (by omega)).cells rfl
theorem stepT_lt (l : List UInt8) (h : (stepT l).2.2 = true) : (stepT l).2.1.length < l.length := by
  have h2 := (keyT_len l).2
  have h3 := cutAt_len 10 (keyT l).2.1.tail
  unfold stepT at h ⊢
  by_cases hk : (keyT l).2.2 = true ∧ (keyT l).2.1.head? = some 32
  · rw [if_pos hk] at h ⊢
    by_cases hc : (cutAt 10 (keyT l).2.1.tail).2.2 = true
    · rw [if_pos hc] at h ⊢
      cases hv : numB (cutAt 10 (keyT l).2.1.tail).1 with
      | none => rw [hv] at h; simp at h
      | some v =>
        simp only
        have h4 : 1 ≤ (keyT l).2.1.length := by
          cases hr : (keyT l).2.1 with
          | nil => rw [hr] at hk; simp at hk
          | cons a b => simp
        have h5 := h3.2.1
        rw [List.length_tail] at h5
        omega
    · rw [if_neg hc] at h; simp at h
  · rw [if_neg hk] at h; simp at h
/-- The pairs of a text. -/
def parseT : Nat → List UInt8 → Option (List (List UInt8 × Int))
  | 0, _ => none
  | f + 1, l => if l = [] then some [] else if (stepT l).2.2 then (parseT f (stepT l).2.1).map ((stepT l).1 :: ·) else none
def pairsL (l : List UInt8) : Option (List (List UInt8 × Int)) := parseT (l.length + 1) l
theorem parseT_more : ∀ (f : Nat) (l : List UInt8), l.length < f → parseT f l = pairsL l := by
  intro f
  induction f using Nat.strongRecOn with
  | ind f ih =>
    intro l hl
    cases f with
    | zero => omega
    | succ f =>
      unfold pairsL
      simp only [parseT]
      split
      · rfl
      · split
        · rename_i h
          have h1 := stepT_lt l h
          rw [ih f (by omega) _ (by omega)]
          by_cases hf : l.length < f
          · rw [ih l.length (by omega) _ (by omega)]
          · rw [show l.length = f by omega, ih f (by omega) _ (by omega)]
        · rfl
theorem pairsL_nil : pairsL [] = some [] := rfl
theorem pairsL_step {l : List UInt8} (hl : l ≠ []) (h : (stepT l).2.2 = true) : pairsL l = (pairsL (stepT l).2.1).map ((stepT l).1 :: ·) := by
  have h1 := stepT_lt l h
  rw [← parseT_more (l.length + 1) l (by omega)]
  simp only [parseT]
  rw [if_neg hl, if_pos h, parseT_more _ _ h1]
theorem pairsL_none {l : List UInt8} (hl : l ≠ []) (h : (stepT l).2.2 = false) : pairsL l = none := by
  rw [← parseT_more (l.length + 1) l (by omega)]
  simp only [parseT]
  rw [if_neg hl, if_neg (by simp [h])]
def conv (p : List UInt8 × Int) : ByteArray × Int := (bs p.1, p.2)
def szOf : Value → Nat
  | .string s => s.size
  | _ => 0
def errV (b : Bool) (n : Int) : Value := if b then .nilIface else .iface 58 (.int .i64 n)
def ParseSaid (l : List UInt8) (w : World) (e : Ending) (w' : World) : Prop :=
  (∃ v, e = .returned (.tuple #[v, errV (pairsL l).isSome 4]) ∧ IsPairs w' v (((pairsL l).getD []).map conv)) ∧ Below w.heap.size w w'
/-- The same, and the row is the call's own. -/
def ParseOwn (l : List UInt8) (w : World) (e : Ending) (w' : World) : Prop :=
  (∃ v, e = .returned (.tuple #[v, errV (pairsL l).isSome 4]) ∧ w'.ownsRow w.heap.size 30 2 v (((pairsL l).getD []).map conv).length (flat (((pairsL l).getD []).map conv))) ∧ Below w.heap.size w w'
theorem parseOwn_none {l : List UInt8} {w w' : World} (h : pairsL l = none) (hb : Below w.heap.size w w') : ParseOwn l w (.returned (.tuple #[.slice none 0 0, .iface 58 (.int .i64 4)])) w' :=
  ⟨⟨_, by rw [h]; rfl, by rw [h]; exact World.ownsRow_nil _ _ _ _⟩, hb⟩
theorem parseOwn_some {l : List UInt8} {w w' : World} {v : Value} {ps : List (List UInt8 × Int)} (h : pairsL l = some ps) (hb : Below w.heap.size w w') (hv : w'.ownsRow w.heap.size 30 2 v (ps.map conv).length (flat (ps.map conv))) : ParseOwn l w (.returned (.tuple #[v, .nilIface])) w' :=
  ⟨⟨_, by rw [h]; rfl, by rw [h]; exact hv⟩, hb⟩
theorem isPairs_nil (w : World) : IsPairs w (.slice none 0 0) [] := ⟨none, 0, rfl, fun i hi => absurd hi (by simp)⟩
theorem infoPair : (Tryd.prog.info? 30).map (fun i => (i.zero, i.size, i.bytes)) = some (some (.agg #[.string ⟨#[]⟩, .int .i64 0]), 2, 24) := by kernel_rfl

theorem owns_push {w : World} {base : Nat} {v : Value} {acc : List (List UInt8 × Int)} {key : List UInt8} {x : Int}
    (h : w.ownsRow base 30 2 v ((acc.map conv).length + 1) (flat (acc.map conv) ++ flat [(bs key, x)])) : w.ownsRow base 30 2 v ((acc ++ [(key, x)]).map conv).length (flat ((acc ++ [(key, x)]).map conv)) := by
  have e : (acc ++ [(key, x)]).map conv = acc.map conv ++ [(bs key, x)] := by simp [conv]
  rw [e, flat_append, List.length_append]
  exact h
theorem parseSaid_none {l : List UInt8} {w w' : World} (h : pairsL l = none) (hb : Below w.heap.size w w') : ParseSaid l w (.returned (.tuple #[.slice none 0 0, .iface 58 (.int .i64 4)])) w' :=
  ⟨⟨_, by rw [h]; rfl, by rw [h]; exact isPairs_nil _⟩, hb⟩
theorem parseSaid_some {l : List UInt8} {w w' : World} {v : Value} {ps : List (List UInt8 × Int)} (h : pairsL l = some ps) (hb : Below w.heap.size w w') (hv : IsPairs w' v (ps.map conv)) : ParseSaid l w (.returned (.tuple #[v, .nilIface])) w' :=
  ⟨⟨_, by rw [h]; rfl, by rw [h]; exact hv⟩, hb⟩
set_option maxRecDepth 100000 in
set_option maxHeartbeats 2000000 in
theorem parse_own (l : List UInt8) (w : World) (E : Env w) (hl : l.length ≤ 1000000) :
    Calls Tryd.prog 16 #[.string (bs l)] w fun e w' => ParseOwn l w e w' := by
  obtain ⟨i0, hi, hz0, hz1, hz2⟩ := info_parts infoPair
  go_enter Tryd.func16, Tryd.ntmps16
  go_wp2
  go_loopw [0, 4] (fun sv lv wr => ∃ (r : List UInt8) (acc : List (List UInt8 × Int)), sv = .string (bs r) ∧ wr.ownsRow w.heap.size 30 2 lv (acc.map conv).length (flat (acc.map conv)) ∧ Below w.heap.size w wr ∧ acc.length + r.length ≤ l.length ∧ Hid (pairsL l = (pairsL r).map (acc ++ ·))) (fun sv _ _ => szOf sv)
  case atStart =>
    refine ⟨l, [], rfl, World.ownsRow_nil _ _ _ _, Below.refl _ _, by simp, ?_⟩
    show pairsL l = _
    simp
  case round =>
    obtain ⟨r, acc, rfl, hown, hb, hlen, HP⟩ := hrel
    have Er : Env wr := E.below hb
    cases hr : r with
    | nil =>
      subst hr
      have hT : (bs []).toList.isEmpty = true := by rw [bs_toList]; rfl
      have hfin : Hid (pairsL l = some acc) := by
        show _ = _
        rw [HP.out, pairsL_nil]; simp
      have hv := Lib.hid hown
      clear hown
      go_wp2
      go_ret2
      exact parseOwn_some hfin.out hb hv.out
    | cons c r' =>
      rw [← hr]
      have hT : (bs r).toList.isEmpty = false := by rw [hr]; exact bs_cons_ne c r'
      have hne : Hid (r ≠ []) := by rw [hr]; exact List.cons_ne_nil _ _
      clear hr
      have C1 : Hid (∀ w, Env w → Calls Tryd.prog 33 #[.string (bs r)] w fun e w' => e = .returned (fstV (stepT r)) ∧ Below w.heap.size w w') := fun w E => first_any r w E (by omega)
      have hst := Lib.hid (stepT_lt r)
      have hps := Lib.hid (fun h => pairsL_step (l := r) hne.out h)
      have hpn := Lib.hid (fun h => pairsL_none (l := r) hne.out h)
      rcases hs : stepT r with ⟨⟨key, v⟩, more, ok⟩
      rw [hs] at C1 hst hps hpn
      simp only [fstV] at C1 hst hps hpn
      clear hs
      cases ok with
      | false =>
        go_wp2_with (go_at_call 33; refine (C1.out _ Er).mono ?_; rintro e w1 ⟨rfl, hb1⟩)
        go_ret2
        refine parseOwn_none ?_ ((hb.trans (hb1.mono hb.size)).alloc (Nat.le_trans hb.size hb1.size) _)
        rw [HP.out, hpn.out (by simp)]; rfl
      | true =>
        go_wp2_with (first | (go_at_call 33; refine (C1.out _ Er).mono ?_; rintro e w1 ⟨rfl, hb1⟩) | (at_builtin; refine Hid.out ?_))
        refine Lib.hid ?_
        have hbs := hb.size
        have hbs1 := hb1.size
        refine wpList_append_own _ rfl (.tmp 19) (.tmp 21) 22 rfl w.heap.size 30 i0 (.agg #[.string ⟨#[]⟩, .int .i64 0]) 2 24 Tryd.underlying22 hi hz0 hz1 hz2 rfl (by decide) _ _ _ rfl (((owns_below hown hb1).alloc _).alloc _) ⟨w1.heap.size + 1, 0, none⟩ 1 1 (flat [(bs key, v)]) rfl rfl ?c1 flat_one ?c2 ?c3 ?c4 ?_
        case c1 => exact lit_cells (by simp) (show 2 ≤ maxLen by decide)
        case c2 => rw [List.length_map]; unfold maxLen; omega
        case c3 => rw [List.length_map]; omega
        case c4 => simp; omega
        intro v2 w2 hown2 hg2 _
        have hb2 : Below w.heap.size w w2 := (((hb.trans (hb1.mono hb.size)).alloc (by omega) _).alloc (by simp; omega) _).grown hg2 (by simp; omega) (fun k hk => (hown.lt k hk).1)
        have hown3 := owns_push hown2
        have hlt := hst.out (by simp)
        have HP2 : Hid (pairsL l = (pairsL more).map ((acc ++ [(key, v)]) ++ ·)) := by
          show _ = _
          rw [HP.out, hps.out (by simp), Option.map_map]
          congr 1
          funext x
          simp
        clear hown hown2 hg2 hb1 HP hps hpn hst
        go_wp2
        go_roundw
        case rel => exact ⟨more, acc ++ [(key, v)], rfl, hown3, hb2, by simp; omega, HP2⟩
        case measure => simp only [szOf, bs_size]; exact hlt
theorem parse_any (l : List UInt8) (w : World) (E : Env w) (hl : l.length ≤ 1000000) :
    Calls Tryd.prog 16 #[.string (bs l)] w fun e w' => ParseSaid l w e w' :=
  (parse_own l w E hl).mono fun _ _ ⟨⟨v, h1, h2⟩, h3⟩ => ⟨⟨v, h1, isPairs_of h2⟩, h3⟩
end Go.Proofs.YtapflhndpcgdiaaDoor
