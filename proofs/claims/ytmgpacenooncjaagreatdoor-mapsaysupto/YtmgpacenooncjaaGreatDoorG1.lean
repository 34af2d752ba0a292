/- Put together of LaidE, LaidX, PpNum, PpDec. -/
import Derived.Test.YtmgpacenooncjaaGreatDoorCards
import Derived.Test.YtmgpacenooncjaaGreatDoorTxt
import Derived.Deep.DeepHandedRow
import Derived.Lib.LaidTab
import Derived.Stop.LaidErr
import Derived.Shelf.Vars
import Derived.Test.YtmgpacenooncjaaGreatDoorExM
import Derived.OpenShut
import Derived.Lib.AtoiAll
import Derived.Lib.ItoaNum
import Derived.Lib.ItoaLen
import GoSem.Op.String
import Derived.Test.YtmgpacenooncjaaGreatDoorPpBase
import Derived.Lib.IndexMore
import Derived.Lib.IndexBytes
import Derived.Deep.RegionWith
import Derived.RegionTactic
/- A world in which the listed variables hold what their initialisers lay, for the laws of expressions. -/
namespace Go.Proofs.YtmgpacenooncjaaGreatDoor
open Go.ChangeShapes Go.WideShapes Go.ChangeAt Go.RowKit
namespace Laid
def litV : DataW Unit → Value
  | .lit (.int k n) => .int k n
  | .lit (.bool b) => .bool b
  | .lit (.string b) => .string ⟨b.toArray⟩
  | _ => .bool false
def rowOf : DataW Unit → List Value
  | .agg m => m.map litV
  | d => [litV d]
def tabOf : DataW Unit → Array Value
  | .agg l => (l.flatMap rowOf).toArray
  | _ => #[]
def put (w : World) (g : Nat) (cs : Array Value) : World :=
  { w with heap := w.heap.modify g fun
      | .cells _ t frozen => .cells cs t frozen
      | o => o }
theorem env0_of {W : World} (hs : W.ShapedOpen Tryz.prog) : Env0 W :=
  ⟨cell_of_shapedOpen_int (g := 0) (t := 3) (zero := #[.int .i64 0]) (k := .i64) hs (by decide +kernel) (by kernel_rfl) rfl (by kernel_rfl) (by kernel_rfl) Tryz.underlying3⟩
/-- A world with the decoder's tables laid. -/
def laidU (w : World) : World := put (put w 3 (tabOf Rows.laid_unicode_utf8_acceptRanges)) 2 (tabOf Rows.laid_unicode_utf8_first)
end Laid
end Go.Proofs.YtmgpacenooncjaaGreatDoor
/- What the rows list of the table of kinds gives, and a world in which it is so. -/
namespace Go.Proofs.YtmgpacenooncjaaGreatDoor
open Go.ChangeShapes Go.WideShapes Go.ChangeAt Go.RowKit
namespace Laid
theorem c5 : Tryz.prog.cellsOf 156 = 5 := by kernel_rfl
theorem ci : Tryz.prog.cellsOf 3 = 1 := by kernel_rfl
theorem cb : Tryz.prog.cellsOf 4 = 1 := by kernel_rfl
def shD (k : Nat) : DataW Unit := .agg [.lit (.int .i64 (lowK k)), .lit (.int .i64 (highK k)), .lit (.int .i64 (bytesK k)), .lit (.int .i64 (partsK k)), .lit (.bool (textsK k))]
theorem shapes_datum : (Rows.laid_threshfloor_expr_shapes : DataW Unit) = .agg ((List.range 11).map shD) := by kernel_rfl
set_option maxRecDepth 100000 in
theorem shape_elem {H : Type} {enc : TypeId × Value → H} {w : World} {base : Nat} {sp : Nat → Bool} {held : Bool} {fuel : Nat} {cs : List Value} {a0 a1 a2 a3 : Int} {a4 : Bool} {p : List MemPlace}
    (h : DataW.trod enc Tryz.prog w base sp held fuel 156 cs = some (.agg [.lit (.int .i64 a0), .lit (.int .i64 a1), .lit (.int .i64 a2), .lit (.int .i64 a3), .lit (.bool a4)], p)) : cs = [.int .i64 a0, .int .i64 a1, .int .i64 a2, .int .i64 a3, .bool a4] := by
  obtain ⟨xs, n', hn', hxy, hcl, hxl, hf⟩ := DataW.trod_struct Tryz.underlying156 h
  rw [c5] at hcl
  match xs, hxl, cs, hcl with
  | [y0, y1, y2, y3, y4], _, [v0, v1, v2, v3, v4], _ =>
    have g0 := hf 0 _ rfl
    have g1 := hf 1 _ rfl
    have g2 := hf 2 _ rfl
    have g3 := hf 3 _ rfl
    have g4 := hf 4 _ rfl
    simp [ci, cb] at g0 g1 g2 g3 g4
    obtain ⟨k0, e0, rfl, _⟩ := DataW.trod_int Tryz.underlying3 g0
    obtain ⟨k1, e1, rfl, _⟩ := DataW.trod_int Tryz.underlying3 g1
    obtain ⟨k2, e2, rfl, _⟩ := DataW.trod_int Tryz.underlying3 g2
    obtain ⟨k3, e3, rfl, _⟩ := DataW.trod_int Tryz.underlying3 g3
    obtain ⟨k4, e4, rfl⟩ := DataW.trod_bool Tryz.underlying4 g4
    simp at hxy e0 e1 e2 e3 e4
    obtain ⟨⟨rfl, rfl, rfl, rfl, rfl⟩, _⟩ := hxy
    rw [e0, e1, e2, e3, e4]
theorem gSh : Tryz.prog.globalNamed "threshfloor/expr.shapes" = some 1 := by kernel_rfl
theorem tSh : (Tryz.prog.globals[1]?).map (·.type) = some 166 := by kernel_rfl
theorem envS_of {W : World} {rest : List (String × DataW Unit)} (hs : W.ShapedOpen Tryz.prog) (h : laidMet Tryz.prog (("threshfloor/expr.shapes", Rows.laid_threshfloor_expr_shapes) :: rest) W) : EnvS W := by
  refine ⟨env0_of hs, ?_⟩
  obtain ⟨ps, ⟨g', t', cs, fuel, p, q, hg', ht', hvar, hd, _, _⟩, _⟩ := h
  obtain rfl := Option.some.inj (gSh.symm.trans hg')
  obtain rfl := Option.some.inj (tSh.symm.trans ht')
  rw [shapes_datum] at hd
  obtain ⟨xs, m, _, ex, hlen, hl, hel⟩ := DataW.trod_array Tryz.underlying166 hd
  intro k hk
  have hx : xs[k]?.map (·.1) = some (shD k) := by
    have h1 : (DataW.agg ((List.range 11).map shD) : DataW Unit) = .agg (xs.map (·.1)) := congrArg Prod.fst ex
    injection h1 with h1
    rw [← List.getElem?_map, ← h1, List.getElem?_map, List.getElem?_range (by omega)]
    rfl
  cases hy : xs[k]? with
  | none => rw [hy] at hx; cases hx
  | some y =>
    rw [hy] at hx
    obtain ⟨yd, yp⟩ := y
    simp only [Option.map_some, Option.some.injEq] at hx
    subst hx
    have he := hel k (by omega)
    rw [hy, c5] at he
    have hc := shape_elem he
    have cell : ∀ j v, [Value.int .i64 (lowK k), .int .i64 (highK k), .int .i64 (bytesK k), .int .i64 (partsK k), .bool (textsK k)][j]? = some v → W.cell? ⟨1, k * 5 + j, none⟩ = some v := by
      intro j v hv
      rw [World.var?_cell gSh hvar (k * 5 + j)]
      rw [← hc] at hv
      have hj : j < 5 := by
        have := (List.getElem?_eq_some_iff.1 hv).1
        simp at this
        omega
      rw [List.getElem?_take, if_pos hj, List.getElem?_drop] at hv
      simpa using hv
    exact ⟨cell 0 _ rfl, cell 1 _ rfl, cell 2 _ rfl, cell 3 _ rfl, cell 4 _ rfl⟩
/-- A world with the decoder's tables and that of kinds laid. -/
def laidX (w : World) : World := put (laidU w) 1 (tabOf Rows.laid_threshfloor_expr_shapes)
end Laid
end Go.Proofs.YtmgpacenooncjaaGreatDoor
/- Decimal numbers as texts: plain facts, of no program. -/
namespace Go.Proofs.YtmgpacenooncjaaGreatDoor.Pp.Num
open Go.Lib (atoiAll itoa decDigits parseMag parseUint10)

def digB (c : UInt8) : Bool := decide (48 ≤ c.toNat) && decide (c.toNat ≤ 57)
theorem digB_iff (c : UInt8) : digB c = true ↔ 48 ≤ c.toNat ∧ c.toNat ≤ 57 := by simp [digB]
def val (l : List UInt8) : Nat := l.foldl (fun a c => a * 10 + (c.toNat - 48)) 0
theorem val_snoc (l : List UInt8) (c : UInt8) : val (l ++ [c]) = val l * 10 + (c.toNat - 48) := by
  unfold val; rw [List.foldl_append]; rfl
theorem fold_le (r : List UInt8) : ∀ a : Nat, a ≤ r.foldl (fun a c => a * 10 + (c.toNat - 48)) a := by
  induction r with
  | nil => intro a; exact Nat.le_refl _
  | cons c r ih => intro a; simp only [List.foldl_cons]; have := ih (a * 10 + (c.toNat - 48)); omega
theorem ofNat_dig (d : Nat) (h : d < 10) : (UInt8.ofNat (48 + d)).toNat = 48 + d := by
  rw [UInt8.toNat_ofNat']; omega
theorem dec_small {u : Nat} (h : u < 10) : decDigits u = [UInt8.ofNat (48 + u)] := by rw [decDigits, dif_pos h]
theorem dec_big {u : Nat} (h : ¬ u < 10) : decDigits u = decDigits (u / 10) ++ [UInt8.ofNat (48 + u % 10)] := by rw [decDigits, dif_neg h]
theorem dec_ne (u : Nat) : decDigits u ≠ [] := by
  by_cases h : u < 10
  · rw [dec_small h]; simp
  · rw [dec_big h]; simp
theorem dec_val (u : Nat) : val (decDigits u) = u := by
  induction u using Nat.strongRecOn with
  | ind u ih =>
    by_cases h : u < 10
    · rw [dec_small h]
      simp only [val, List.foldl_cons, List.foldl_nil, ofNat_dig u h]
      omega
    · rw [dec_big h, val_snoc, ih (u / 10) (by omega), ofNat_dig _ (by omega)]
      omega
theorem dec_dig (u : Nat) : ∀ c ∈ decDigits u, digB c = true := by
  induction u using Nat.strongRecOn with
  | ind u ih =>
    intro c hc
    by_cases h : u < 10
    · rw [dec_small h, List.mem_singleton] at hc
      subst hc
      rw [digB_iff, ofNat_dig u h]; omega
    · rw [dec_big h, List.mem_append, List.mem_singleton] at hc
      rcases hc with hc | rfl
      · exact ih (u / 10) (by omega) c hc
      · rw [digB_iff, ofNat_dig _ (by omega)]; omega
theorem head_append {α : Type} {x y : List α} (h : x ≠ []) : (x ++ y).head? = x.head? := by
  cases x with
  | nil => exact absurd rfl h
  | cons a r => rfl
theorem dec_head (u : Nat) (h0 : 0 < u) : (decDigits u).head? ≠ some 48 := by
  induction u using Nat.strongRecOn with
  | ind u ih =>
    by_cases h : u < 10
    · rw [dec_small h]
      intro hh
      simp only [List.head?_cons, Option.some.injEq] at hh
      have := congrArg UInt8.toNat hh
      rw [ofNat_dig u h] at this
      have e : (48 : UInt8).toNat = 48 := rfl
      omega
    · rw [dec_big h, head_append (dec_ne _)]
      exact ih (u / 10) (by omega) (by omega)
theorem val_pos {t : List UInt8} (hne : t ≠ []) (hd : ∀ c ∈ t, digB c = true) (hh : t.head? ≠ some 48) : 0 < val t := by
  cases t with
  | nil => exact absurd rfl hne
  | cons c r =>
    have h1 := (digB_iff c).1 (hd c (List.mem_cons_self ..))
    have h2 : c.toNat ≠ 48 := by
      intro h
      apply hh
      simp only [List.head?_cons, Option.some.injEq]
      exact UInt8.toNat_inj.1 (by rw [h]; rfl)
    have := fold_le r (0 * 10 + (c.toNat - 48))
    unfold val
    simp only [List.foldl_cons]
    omega
theorem val_dec : ∀ (n : Nat) (t : List UInt8), t.length = n → t ≠ [] → (∀ c ∈ t, digB c = true) → (t = [48] ∨ t.head? ≠ some 48) → decDigits (val t) = t := by
  intro n
  induction n with
  | zero => intro t hl hne; exact absurd (List.eq_nil_of_length_eq_zero hl) hne
  | succ n ih =>
    intro t hl hne hd hh
    rcases List.eq_nil_or_concat t with rfl | ⟨t', c, rfl⟩
    · exact absurd rfl hne
    rw [List.concat_eq_append] at hl hd hh ⊢
    have hc := (digB_iff c).1 (hd c (by simp))
    have ec : UInt8.ofNat (48 + (c.toNat - 48)) = c := by
      apply UInt8.toNat_inj.1
      rw [ofNat_dig _ (by omega)]; omega
    by_cases h' : t' = []
    · subst h'
      rw [val_snoc]
      have e0 : val [] = 0 := rfl
      rw [e0, dec_small (by omega), Nat.zero_mul, Nat.zero_add, ec]
      rfl
    · have hd' : ∀ c ∈ t', digB c = true := fun x hx => hd x (by simp [hx])
      have hh' : t'.head? ≠ some 48 := by
        rcases hh with hh | hh
        · have := congrArg List.length hh
          simp only [List.length_append, List.length_cons, List.length_nil] at this
          have : t'.length = 0 := by omega
          exact absurd (List.eq_nil_of_length_eq_zero this) h'
        · rw [head_append h'] at hh; exact hh
      have hp := val_pos h' hd' hh'
      rw [val_snoc, dec_big (by omega), show (val t' * 10 + (c.toNat - 48)) / 10 = val t' by omega, show (val t' * 10 + (c.toNat - 48)) % 10 = c.toNat - 48 by omega, ec, ih t' (by simp at hl; omega) h' hd' (.inr hh')]
theorem val_lt : ∀ (n : Nat) (t : List UInt8), t.length = n → (∀ c ∈ t, digB c = true) → val t < 10 ^ n := by
  intro n
  induction n with
  | zero => intro t hl _; rw [List.eq_nil_of_length_eq_zero hl]; simp [val]
  | succ n ih =>
    intro t hl hd
    rcases List.eq_nil_or_concat t with rfl | ⟨t', c, rfl⟩
    · simp at hl
    rw [List.concat_eq_append] at hl hd ⊢
    have hc := (digB_iff c).1 (hd c (by simp))
    have := ih t' (by simp at hl; omega) (fun x hx => hd x (by simp [hx]))
    rw [val_snoc, Nat.pow_succ]
    omega
theorem parse_ok : ∀ (r : List UInt8) (acc : Nat), (∀ c ∈ r, digB c = true) → r.foldl (fun a c => a * 10 + (c.toNat - 48)) acc ≤ 9223372036854775808 → parseUint10 acc r = .ok (r.foldl (fun a c => a * 10 + (c.toNat - 48)) acc) := by
  intro r
  induction r with
  | nil => intro acc _ _; rfl
  | cons c r ih =>
    intro acc hd hb
    have hc := (digB_iff c).1 (hd c (List.mem_cons_self ..))
    simp only [List.foldl_cons] at hb ⊢
    have hm := fold_le r (acc * 10 + (c.toNat - 48))
    rw [parseUint10, if_pos hc, if_neg (by omega), if_neg (by omega), ih _ (fun x hx => hd x (List.mem_cons_of_mem _ hx)) hb]
theorem mag_dec (u : Nat) (h : u ≤ 9223372036854775808) : parseMag (decDigits u) = .ok u := by
  unfold parseMag
  rw [if_neg (dec_ne u), parse_ok _ 0 (dec_dig u) (by have := dec_val u; unfold val at this; omega)]
  have := dec_val u
  unfold val at this
  rw [this]
theorem atoi_itoa (v : Int) (h0 : -9223372036854775808 ≤ v) (h1 : v ≤ 9223372036854775807) : atoiAll (itoa v) = .ok v := by
  unfold itoa
  by_cases hn : v < 0
  · rw [if_pos hn]
    have e : (45 : UInt8).toNat = 45 := rfl
    simp only [atoiAll, e, if_true, or_true, not_true_eq_false, false_and, if_false, true_and]
    rw [mag_dec _ (by omega)]
    simp only
    rw [if_neg (by omega)]
    congr 1
    omega
  · rw [if_neg hn]
    cases hl : decDigits v.toNat with
    | nil => exact absurd hl (dec_ne _)
    | cons c r =>
      have hc := (digB_iff c).1 (dec_dig v.toNat c (by rw [hl]; exact List.mem_cons_self ..))
      have hm := mag_dec v.toNat (by omega)
      rw [hl] at hm
      simp only [atoiAll]
      rw [if_neg (by omega), hm]
      simp only
      rw [if_neg (by omega), if_neg (by omega), if_neg (by omega)]
      congr 1
      omega

/-- The number that a text is the decimal text of, if there is one. -/
def numB (l : List UInt8) : Option Int :=
  match atoiAll l with
  | .ok v => if itoa v = l then some v else none
  | _ => none
theorem num_itoa {v : Int} (h0 : -9223372036854775808 ≤ v) (h1 : v ≤ 9223372036854775807) : numB (itoa v) = some v := by
  simp [numB, atoi_itoa v h0 h1]
theorem atoi_bd {l : List UInt8} {v : Int} (h : atoiAll l = .ok v) : -9223372036854775808 ≤ v ∧ v ≤ 9223372036854775807 := by
  cases l with
  | nil => simp [atoiAll] at h
  | cons c r =>
    simp only [atoiAll] at h
    split at h
    · cases h
    · cases h
    · split at h
      · cases h
      · split at h
        · cases h
        · injection h with h
          split at h <;> omega
theorem num_some {l : List UInt8} {v : Int} (h : numB l = some v) : itoa v = l ∧ -9223372036854775808 ≤ v ∧ v ≤ 9223372036854775807 := by
  unfold numB at h
  split at h
  · split at h
    · injection h with h
      subst h
      exact ⟨by assumption, atoi_bd (by assumption)⟩
    · cases h
  · cases h

/-- What stands behind a '-'. -/
def mag (l : List UInt8) : List UInt8 := if l.head? = some 45 then l.tail else l
theorem mag_itoa (v : Int) : mag (itoa v) = decDigits v.natAbs := by
  unfold itoa mag
  by_cases hn : v < 0
  · simp [hn]
  · rw [if_neg hn]
    have e : v.toNat = v.natAbs := by omega
    rw [e]
    rw [if_neg]
    intro h
    cases hl : decDigits v.natAbs with
    | nil => exact absurd hl (dec_ne _)
    | cons c r =>
      rw [hl] at h
      simp only [List.head?_cons, Option.some.injEq] at h
      have hc := (digB_iff c).1 (dec_dig v.natAbs c (by rw [hl]; exact List.mem_cons_self ..))
      subst h
      have e : (45 : UInt8).toNat = 45 := rfl
      omega
theorem nDig_le (u : Nat) (h : u ≤ 9223372036854775808) : (decDigits u).length ≤ 19 := by
  rcases Nat.lt_or_ge (decDigits u).length 20 with h' | h'
  · omega
  · exfalso
    -- twenty digits are at least 10^19
    have key : ∀ n u, (decDigits u).length = n + 1 → 0 < n → 10 ^ n ≤ u := by
      intro n
      induction n with
      | zero => intro u _ h; omega
      | succ n ih =>
        intro u hu _
        by_cases hs : u < 10
        · rw [dec_small hs] at hu; simp at hu
        · rw [dec_big hs] at hu
          simp only [List.length_append, List.length_cons, List.length_nil] at hu
          by_cases hn : n = 0
          · subst hn; simp; omega
          · have := ih (u / 10) (by omega) (by omega)
            rw [Nat.pow_succ]; omega
    have := key ((decDigits u).length - 1) u (by omega) (by omega)
    have h2 : 10 ^ 19 ≤ 10 ^ ((decDigits u).length - 1) := Nat.pow_le_pow_right (by omega) (by omega)
    omega
theorem num_shape {l : List UInt8} {v : Int} (h : numB l = some v) :
    mag l = decDigits v.natAbs ∧ mag l ≠ [] ∧ (mag l).length ≤ 19 ∧ (∀ c ∈ mag l, digB c = true) ∧ ¬ ((mag l).head? = some 48 ∧ 1 < l.length) := by
  obtain ⟨hl, h0, h1⟩ := num_some h
  have hm : mag l = decDigits v.natAbs := by rw [← hl]; exact mag_itoa v
  refine ⟨hm, by rw [hm]; exact dec_ne _, by rw [hm]; exact nDig_le _ (by omega), by rw [hm]; exact dec_dig _, ?_⟩
  rintro ⟨hh, hlen⟩
  rw [hm] at hh
  by_cases hz : v = 0
  · subst hz
    have : itoa 0 = [48] := by decide +kernel
    rw [← hl, this] at hlen
    simp at hlen
  · exact dec_head _ (by omega) hh
theorem num_small {l : List UInt8} (hne : mag l ≠ []) (hd : ∀ c ∈ mag l, digB c = true) (hh : ¬ ((mag l).head? = some 48 ∧ 1 < l.length)) (hv : val (mag l) ≤ 9223372036854775807) :
    numB l = some (if l.head? = some 45 then -(val (mag l) : Int) else val (mag l)) := by
  have key : itoa (if l.head? = some 45 then -(val (mag l) : Int) else val (mag l)) = l := by
    by_cases hn : l.head? = some 45
    · rw [if_pos hn]
      have hm : mag l = l.tail := by unfold mag; rw [if_pos hn]
      cases l with
      | nil => simp at hn
      | cons c t =>
        simp only [List.head?_cons, Option.some.injEq] at hn
        subst hn
        simp only [List.tail_cons] at hm
        rw [hm] at hne hd hh hv ⊢
        have ht : 1 ≤ t.length := by
          cases t with
          | nil => exact absurd rfl hne
          | cons a r => simp
        have hh' : t.head? ≠ some 48 := fun e => hh ⟨e, by simp only [List.length_cons]; omega⟩
        have hp := val_pos hne hd hh'
        unfold itoa
        rw [if_pos (by omega), show (-(val t : Int)).natAbs = val t by omega, val_dec _ t rfl hne hd (.inr hh')]
    · rw [if_neg hn]
      have hm : mag l = l := by unfold mag; rw [if_neg hn]
      rw [hm] at hne hd hh hv ⊢
      unfold itoa
      rw [if_neg (by omega), Int.toNat_natCast]
      refine val_dec _ l rfl hne hd ?_
      by_cases h1 : 1 < l.length
      · exact .inr fun e => hh ⟨e, h1⟩
      · cases l with
        | nil => exact absurd rfl hne
        | cons c r =>
          have : r = [] := by
            cases r with
            | nil => rfl
            | cons a b => simp at h1
          subst this
          by_cases hc : c = 48
          · subst hc; exact .inl rfl
          · right; simpa using hc
  have h2 := num_itoa (v := if l.head? = some 45 then -(val (mag l) : Int) else val (mag l)) (by split <;> omega) (by split <;> omega)
  rw [key] at h2
  exact h2
theorem num_big {l : List UInt8} (hv : 9223372036854775807 < val (mag l)) (hne : l ≠ itoa (-9223372036854775808)) : numB l = none := by
  cases h : numB l with
  | none => rfl
  | some v =>
    exfalso
    obtain ⟨hl, h0, h1⟩ := num_some h
    have hm := (num_shape h).1
    rw [hm, dec_val] at hv
    have : v = -9223372036854775808 := by omega
    subst this
    exact hne hl.symm
theorem num_least : numB (itoa (-9223372036854775808)) = some (-9223372036854775808) := num_itoa (by omega) (by omega)

theorem lt_fold (x : List UInt8) : ∀ (y : List UInt8) (a b : Nat), x.length = y.length → (∀ c ∈ x, digB c = true) → (∀ c ∈ y, digB c = true) → a < b →
    y.foldl (fun a c => a * 10 + (c.toNat - 48)) a < x.foldl (fun a c => a * 10 + (c.toNat - 48)) b := by
  induction x with
  | nil =>
    intro y a b hl _ _ h
    cases y with
    | nil => exact h
    | cons c r => simp at hl
  | cons c x ih =>
    intro y a b hl hx hy h
    cases y with
    | nil => simp at hl
    | cons d y =>
      have hc := (digB_iff c).1 (hx c (List.mem_cons_self ..))
      have hd := (digB_iff d).1 (hy d (List.mem_cons_self ..))
      simp only [List.foldl_cons]
      exact ih y _ _ (by simpa using hl) (fun e he => hx e (List.mem_cons_of_mem _ he)) (fun e he => hy e (List.mem_cons_of_mem _ he)) (by omega)
/-- Of two digit texts of one length the lesser number comes first. -/
theorem less_val (x : List UInt8) : ∀ (y : List UInt8) (a : Nat), x.length = y.length → (∀ c ∈ x, digB c = true) → (∀ c ∈ y, digB c = true) →
    (Op.bytesLess x y = true ↔ x.foldl (fun a c => a * 10 + (c.toNat - 48)) a < y.foldl (fun a c => a * 10 + (c.toNat - 48)) a) := by
  induction x with
  | nil =>
    intro y a hl _ _
    cases y with
    | nil => simp [Op.bytesLess]
    | cons c r => simp at hl
  | cons c x ih =>
    intro y a hl hx hy
    cases y with
    | nil => simp at hl
    | cons d y =>
      have hc := (digB_iff c).1 (hx c (List.mem_cons_self ..))
      have hd := (digB_iff d).1 (hy d (List.mem_cons_self ..))
      have hl' : x.length = y.length := by simpa using hl
      have hx' : ∀ c ∈ x, digB c = true := fun e he => hx e (List.mem_cons_of_mem _ he)
      have hy' : ∀ c ∈ y, digB c = true := fun e he => hy e (List.mem_cons_of_mem _ he)
      simp only [List.foldl_cons, Op.bytesLess, Bool.or_eq_true, Bool.and_eq_true, decide_eq_true_eq, beq_iff_eq]
      by_cases h1 : c.toNat < d.toNat
      · exact ⟨fun _ => lt_fold y x _ _ hl'.symm hy' hx' (by omega), fun _ => .inl (UInt8.lt_iff_toNat_lt.2 h1)⟩
      · by_cases h2 : c = d
        · subst h2
          have hn : ¬ c < c := fun h => by have := UInt8.lt_iff_toNat_lt.1 h; omega
          exact ⟨fun h => (ih y _ hl' hx' hy').1 (h.resolve_left hn).2, fun h => .inr ⟨rfl, (ih y _ hl' hx' hy').2 h⟩⟩
        · have h3 : c.toNat ≠ d.toNat := fun h => h2 (UInt8.toNat_inj.1 h)
          have h4 := lt_fold x y (a * 10 + (d.toNat - 48)) (a * 10 + (c.toNat - 48)) hl' hx' hy' (by omega)
          exact ⟨fun h => h.elim (fun h => absurd (UInt8.lt_iff_toNat_lt.1 h) h1) (fun h => absurd h.1 h2), fun h => by omega⟩
def maxText : List UInt8 := [57, 50, 50, 51, 51, 55, 50, 48, 51, 54, 56, 53, 52, 55, 55, 53, 56, 48, 55]
theorem less_max {t : List UInt8} (hl : t.length = 19) (hd : ∀ c ∈ t, digB c = true) : Op.bytesLess maxText t = true ↔ 9223372036854775807 < val t := by
  have h := less_val maxText t 0 (by rw [hl]; rfl) (by decide) hd
  rw [h]
  have e : maxText.foldl (fun a c => a * 10 + (c.toNat - 48)) 0 = 9223372036854775807 := by decide +kernel
  rw [e]; rfl
end Go.Proofs.YtmgpacenooncjaaGreatDoor.Pp.Num
/- Contracts of upTo and Decimal of the document's answer, and of what strings.Cut gives at one byte. -/
namespace Go.Proofs.YtmgpacenooncjaaGreatDoor.Pp
open Go.ChangeShapes Go.WideShapes Go.ChangeAt Go.RowKit
open Num

/-- What stands ahead of the first c, behind it, and whether it is there. -/
def cutAt (c : UInt8) : List UInt8 → List UInt8 × List UInt8 × Bool
  | [] => ([], [], false)
  | b :: r => if b = c then ([], r, true) else (b :: (cutAt c r).1, (cutAt c r).2.1, (cutAt c r).2.2)
theorem cutAt_at {c : UInt8} : ∀ {l : List UInt8} {k : Nat} (h : k < l.length), (∀ j (h : j < l.length), j < k → l[j] ≠ c) → l[k] = c → cutAt c l = (l.take k, l.drop (k + 1), true) := by
  intro l
  induction l with
  | nil => intro k h; simp at h
  | cons b r ih =>
    intro k h hno hk
    cases k with
    | zero => simp only [List.getElem_cons_zero] at hk; simp [cutAt, hk]
    | succ k =>
      have h0 : b ≠ c := hno 0 (by simp) (by omega)
      simp only [List.getElem_cons_succ] at hk
      rw [cutAt, if_neg h0, ih (by simpa using h) (fun j hj hjk => by have := hno (j + 1) (by simpa using hj) (by omega); simpa using this) hk]
      simp
theorem cutAt_none {c : UInt8} : ∀ {l : List UInt8}, (∀ j (h : j < l.length), l[j] ≠ c) → cutAt c l = (l, [], false) := by
  intro l
  induction l with
  | nil => intro _; rfl
  | cons b r ih =>
    intro hno
    have h0 : b ≠ c := hno 0 (by simp)
    rw [cutAt, if_neg h0, ih (fun j hj => by have := hno (j + 1) (by simpa using hj); simpa using this)]
theorem cut_one (c : UInt8) : ∀ l : List UInt8, Lib.cut l [c] = cutAt c l := by
  intro l
  induction l with
  | nil => simp [Lib.cut, Lib.index, cutAt]
  | cons b r ih =>
    by_cases h : b = c
    · subst h
      simp [Lib.cut, Lib.index, cutAt, List.isPrefixOf]
    · rw [cutAt, if_neg h, ← ih]
      have h' : (c == b) = false := by simpa using fun e => h e.symm
      have hge := Lib.index_ge r [c]
      simp only [Lib.cut, Lib.index, List.isPrefixOf, h', Bool.false_and, Bool.false_eq_true, if_false]
      by_cases h1 : Lib.index r [c] = -1
      · simp [h1]
      · have h2 : 0 ≤ Lib.index r [c] := by omega
        have h3 : (Lib.index r [c] + 1).toNat = (Lib.index r [c]).toNat + 1 := by omega
        have hb : (Lib.index r [c] == -1) = false := by simpa using h1
        simp only [hb, Bool.false_eq_true, if_false]
        rw [if_pos (by omega), if_pos h2, h3]
        simp

theorem bytes_take (s : ByteArray) (k : Nat) : s.extract 0 k = ⟨(s.data.toList.take k).toArray⟩ := by
  apply ByteArray.ext
  apply Array.ext'
  simp
theorem bytes_drop (s : ByteArray) (k : Nat) : s.extract k s.size = ⟨(s.data.toList.drop k).toArray⟩ := by
  apply ByteArray.ext
  apply Array.ext'
  simp only [ByteArray.data_extract, Array.toList_extract, List.extract_eq_take_drop]
  rw [List.take_of_length_le (by rw [List.length_drop, Array.length_toList]; exact Nat.le_refl _)]

set_option maxRecDepth 100000 in
set_option maxHeartbeats 400000 in
theorem upTo_any (s : ByteArray) (c : UInt8) (w : World) (hs : s.size ≤ maxLen) :
    Calls Tryz.prog 38 #[.string s, .int .u8 c.toNat] w fun e w' => e = .returned (.tuple #[.string ⟨(cutAt c s.data.toList).1.toArray⟩, .string ⟨(cutAt c s.data.toList).2.1.toArray⟩, .bool (cutAt c s.data.toList).2.2]) ∧ ∃ n, w' = w.drewN n := by
  unfold maxLen at hs
  go_enter Tryz.func38, Tryz.ntmps38
  go_wp2
  go_loop [7] (fun i => ∃ k : Nat, k ≤ s.size ∧ i = .int .i64 k ∧ ∀ j (h : j < s.size), j < k → s[j] ≠ c) (fun i => s.size - (intOf i).toNat)
  case atStart => exact ⟨0, Nat.zero_le _, rfl, fun j _ h => absurd h (by omega)⟩
  case round =>
    obtain ⟨k, hk, rfl, hp⟩ := hrel
    have HP := Lib.hid hp
    clear hp
    by_cases hlt : k < s.size
    · by_cases he : s[k] = c
      · have he' : ((s[k].toNat : Int) == (c.toNat : Int)) = true := by simp [he]
        have hcut : Hid (cutAt c s.data.toList = (s.data.toList.take k, s.data.toList.drop (k + 1), true)) := cutAt_at (l := s.data.toList) (by simpa using hlt) (fun j hj hjk => HP.out j (by simpa using hj) hjk) he
        clear he
        go_wp2
        go_quiet (fail)
        go_wp2
        go_ret3
        refine ⟨?_, _, rfl⟩
        show Ending.returned (.tuple #[.string (s.extract 0 k), .string (s.extract (k + 1) s.size), .bool true]) = _
        rw [hcut.out, bytes_take, bytes_drop]
      · have he' : ((s[k].toNat : Int) == (c.toNat : Int)) = false := by
          simp only [beq_eq_false_iff_ne, ne_eq]
          intro e
          exact he (UInt8.toNat_inj.1 (by omega))
        go_wp2
        go_round
        case rel =>
          refine ⟨k + 1, by omega, by go_num, fun j hj hjk => ?_⟩
          by_cases hjk' : j = k
          · subst hjk'; exact he
          · exact HP.out j hj (by omega)
        case measure => simp [intOf]; omega
    · have hcut : Hid (cutAt c s.data.toList = (s.data.toList, [], false)) := cutAt_none (l := s.data.toList) (fun j hj => HP.out j (by simpa using hj) (by rw [Array.length_toList] at hj; have e : s.size = s.data.size := rfl; omega))
      go_wp2
      go_ret3
      rw [hcut.out]
      exact ⟨rfl, 0, rfl⟩

theorem itoa_small {n : Int} (h0 : 0 ≤ n) (h1 : n < 10) : Lib.itoa n = [UInt8.ofNat (48 + n.toNat)] := by
  unfold Lib.itoa
  rw [if_neg (by omega), dec_small (by omega)]
theorem itoa_big {n : Int} (h1 : 10 ≤ n) : Lib.itoa n = Lib.itoa (n / 10) ++ [UInt8.ofNat (48 + (n % 10).toNat)] := by
  unfold Lib.itoa
  rw [if_neg (by omega), if_neg (by omega), dec_big (by omega), show (n / 10).toNat = n.toNat / 10 by omega, show (n % 10).toNat = n.toNat % 10 by omega]
theorem itoa_neg {n : Int} (h : n < 0) : Lib.itoa n = 45 :: Lib.itoa (-n) := by
  unfold Lib.itoa
  rw [if_pos h, if_neg (by omega), show (-n).toNat = n.natAbs by omega]
theorem bcell {W w1 : World} (hb : Below W.heap.size W w1) : (∀ b o, b < W.heap.size → w1.cell? ⟨b, o, none⟩ = W.cell? ⟨b, o, none⟩) ∧ (∀ b o, b < W.heap.size → w1.frozen? ⟨b, o, none⟩ = W.frozen? ⟨b, o, none⟩) :=
  ⟨fun b o h => hb.cell (p := ⟨b, o, none⟩) h, fun b o h => hb.frozen (p := ⟨b, o, none⟩) h⟩
theorem conv_one (W : World) (b : Nat) (c : UInt8) (x : Int) (hx : x = c.toNat) (h : W.cell? ⟨b, 0, none⟩ = some (.int .u8 x)) :
    (convert 127 9 (.slice (some ⟨b, 0, none⟩) 1 1)).run Tryz.prog W = .ok (.string ⟨#[c]⟩) W := by
  refine run_convert_bytes_back W 127 9 5 ⟨b, 0, none⟩ 1 [c] Tryz.underlying127 Tryz.underlying5 Tryz.underlying9 ?_
  intro j hj
  have : j = 0 := by simp at hj; omega
  subst this
  rw [hx] at h
  exact h
theorem dig_of (d : Int) (h0 : 0 ≤ d) (h1 : d ≤ 9) : ∃ c : UInt8, UInt8.ofNat (48 + d.toNat) = c ∧ 48 + d = c.toNat :=
  ⟨_, rfl, by rw [ofNat_dig _ (by omega)]; omega⟩
set_option maxRecDepth 100000 in
set_option maxHeartbeats 400000 in
theorem decimal_small (n : Int) (w : World) (h0 : 0 ≤ n) (h1 : n < 10) :
    Calls Tryz.prog 93 #[.int .i64 n] w fun e w' => e = .returned (.string ⟨(Lib.itoa n).toArray⟩) ∧ Below w.heap.size w w' := by
  obtain ⟨c, hc, hx⟩ := dig_of n h0 (by omega)
  rw [itoa_small h0 h1, hc]
  have hcv := fun W b => conv_one W b c (48 + n) hx
  clear hc hx
  go_enter Tryz.func93, Tryz.ntmps93
  go_wp2
  go_ret
  exact ⟨rfl, (Below.refl _ _).alloc (Nat.le_refl _) _⟩
theorem bytes_append (a b : List UInt8) : (⟨a.toArray⟩ : ByteArray) ++ (⟨b.toArray⟩ : ByteArray) = ⟨(a ++ b).toArray⟩ := by
  apply ByteArray.ext
  simp
theorem ret_str {a b : ByteArray} (h : a = b) : Ending.returned (.string a) = .returned (.string b) := by rw [h]
theorem itoa_len_le (n : Int) (h0 : 0 ≤ n) (h1 : n ≤ 9223372036854775807) : (Lib.itoa n).length ≤ 19 := by
  unfold Lib.itoa
  rw [if_neg (by omega)]
  exact nDig_le _ (by omega)
set_option maxRecDepth 100000 in
set_option maxHeartbeats 1000000 in
theorem decimal_nat (m : Nat) : ∀ (n : Int) (w : World), 0 ≤ n → n ≤ 9223372036854775807 → n.toNat ≤ m →
    Calls Tryz.prog 93 #[.int .i64 n] w fun e w' => e = .returned (.string ⟨(Lib.itoa n).toArray⟩) ∧ Below w.heap.size w w' := by
  induction m with
  | zero => intro n w h0 _ h1; exact decimal_small n w h0 (by omega)
  | succ m ih =>
    intro n w h0 hb h1
    by_cases hs : n < 10
    · exact decimal_small n w h0 hs
    · obtain ⟨c, hc, hx⟩ := dig_of (n % 10) (by omega) (by omega)
      rw [itoa_big (by omega), hc]
      have hcv := fun W b => conv_one W b c (48 + n % 10) hx
      have hc256 : 48 + n % 10 ≤ 57 := by omega
      have hlen := itoa_len_le (n / 10) (by omega) (by omega)
      have IH : Hid (∀ w : World, Calls Tryz.prog 93 #[.int .i64 (n / 10)] w fun e w' => e = .returned (.string ⟨(Lib.itoa (n / 10)).toArray⟩) ∧ Below w.heap.size w w') := fun w => ih (n / 10) w (by omega) (by omega) (by omega)
      clear ih hc hx
      have e0 : n.tdiv 10 = n / 10 := Int.tdiv_eq_ediv_of_nonneg h0
      have e1 : IntKind.i64.wrap (n / 10) = n / 10 := wrap_small _ (by omega) (by omega)
      have e2 : n.tmod 10 = n % 10 := Int.tmod_eq_emod_of_nonneg h0
      have e3 : IntKind.i64.wrap (48 + n % 10) = 48 + n % 10 := wrap_small _ (by omega) (by omega)
      have e4 : IntKind.u8.wrap (48 + n % 10) = 48 + n % 10 := wraps_u8 _ (by omega) (by omega)
      clear hb h1 hc256
      generalize Lib.itoa (n / 10) = tx at *
      go_enter Tryz.func93, Tryz.ntmps93
      go_wp2
      go_region_with (go_at_call 93; refine (IH.out _).mono ?_; rintro e w1 ⟨rfl, hb1⟩; obtain ⟨hc1, hf1⟩ := bcell hb1)
      all_goals
        go_wp2
        go_ret
        refine ⟨ret_str (bytes_append tx [c]), ?_⟩
        first
          | exact ((Below.drew (Below.refl _ w)).trans hb1).alloc (by have := hb1.size; simpa using this) _
          | exact (Below.drew ((Below.refl _ w).alloc (Nat.le_refl _) _)).trans (hb1.mono (by simp))
theorem least_text' : Lib.itoa (-9223372036854775808) = [45, 57, 50, 50, 51, 51, 55, 50, 48, 51, 54, 56, 53, 52, 55, 55, 53, 56, 48, 56] := by decide +kernel
set_option maxRecDepth 100000 in
set_option maxHeartbeats 1000000 in
theorem decimal_any (n : Int) (w : World) (h0 : -9223372036854775808 ≤ n) (h1 : n ≤ 9223372036854775807) :
    Calls Tryz.prog 93 #[.int .i64 n] w fun e w' => e = .returned (.string ⟨(Lib.itoa n).toArray⟩) ∧ Below w.heap.size w w' := by
  by_cases hn : n < 0
  · by_cases hm : n = -9223372036854775808
    · subst hm
      rw [least_text']
      go_enter Tryz.func93, Tryz.ntmps93
      go_wp2
      go_ret
      exact ⟨rfl, Below.refl _ _⟩
    · have hm' : (n == -9223372036854775808) = false := by simpa using hm
      have IH : Hid (∀ w : World, Calls Tryz.prog 93 #[.int .i64 (-n)] w fun e w' => e = .returned (.string ⟨(Lib.itoa (-n)).toArray⟩) ∧ Below w.heap.size w w') := fun w => decimal_nat (-n).toNat (-n) w (by omega) (by omega) (Nat.le_refl _)
      have hlen := itoa_len_le (-n) (by omega) (by omega)
      rw [itoa_neg hn]
      generalize Lib.itoa (-n) = tx at *
      have hlo : -9223372036854775807 ≤ n := by omega
      clear hm
      go_enter Tryz.func93, Tryz.ntmps93
      go_wp2_with (go_at_call 93; refine (IH.out _).mono ?_; rintro e w1 ⟨rfl, hb1⟩)
      go_ret
      exact ⟨ret_str (bytes_append [45] tx), hb1⟩
  · exact decimal_nat n.toNat n w (by omega) h1 (Nat.le_refl _)
end Go.Proofs.YtmgpacenooncjaaGreatDoor.Pp
