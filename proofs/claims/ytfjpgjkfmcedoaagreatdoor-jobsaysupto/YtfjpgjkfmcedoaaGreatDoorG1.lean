/- Put together of Txt, LaidE. -/
import Derived.Test.YtfjpgjkfmcedoaaGreatDoorRows
import Derived.Test.YtfjpgjkfmcedoaaGreatDoorWrd
import Derived.Test.YtfjpgjkfmcedoaaGreatDoorShelfE
import Derived.WalkKit
import Derived.ProofKit
import Derived.WalkLawsBesides
import Derived.Lib.Hide
import Derived.Deep.QuietTactic
import Derived.BigQuiet
import Derived.Deep.AppendLies
import Derived.Below
import Derived.Laws.NewBlocks
import Derived.Shelf.Strings.PiecesUse
import Derived.Test.YtfjpgjkfmcedoaaGreatDoorCards
import Derived.Deep.DeepHandedRow
import Derived.Lib.LaidTab
import Derived.Stop.LaidErr
import Derived.Shelf.Vars
/- Slices of texts in memory; contracts of SameTexts, strings.Split and expr.Words. -/
namespace Go.Proofs.YtfjpgjkfmcedoaaGreatDoor
open Go.ChangeShapes Go.WideShapes Go.ChangeAt Go.RowKit

/-- A slice value of texts, and what it holds in a world. -/
def IsTexts (w : World) (v : Value) (l : List ByteArray) : Prop :=
  ∃ a cap, v = .slice a l.length cap ∧ ∀ i (h : i < l.length), ∃ b off, a = some ⟨b, off, none⟩ ∧ w.cell? ⟨b, off + i, none⟩ = some (.string l[i])
/-- What the library's own variable holds: some number. -/
structure Env0 (w : World) : Prop where
  len : ∃ m, w.cell? ⟨3, 0, none⟩ = some (.int .i64 m)
theorem cell_below {w w' : World} {a : Addr} {v : Value} (h : w.cell? a = some v) (hb : Below w.heap.size w w') : w'.cell? a = some v := by
  rw [hb.cell (World.block_lt_of_cell? w a h)]; exact h
theorem Env0.below {w w' : World} (h : Env0 w) (hb : Below w.heap.size w w') : Env0 w' := by
  obtain ⟨m, hm⟩ := h.len
  exact ⟨⟨m, cell_below hm hb⟩⟩
theorem IsTexts.below {w w' : World} {v : Value} {l : List ByteArray} (h : IsTexts w v l) (hb : Below w.heap.size w w') : IsTexts w' v l := by
  obtain ⟨a, cap, rfl, hc⟩ := h
  refine ⟨a, cap, rfl, fun i hi => ?_⟩
  obtain ⟨b, off, rfl, c0⟩ := hc i hi
  exact ⟨b, off, rfl, cell_below c0 hb⟩
theorem below_trans {w w1 w2 : World} (h1 : Below w.heap.size w w1) (h2 : Below w1.heap.size w1 w2) : Below w.heap.size w w2 := h1.trans (h2.mono h1.size)
theorem below_drewN (w : World) (n : Nat) : Below w.heap.size w (w.drewN n) := ⟨rfl, rfl, rfl, Nat.le_refl _, fun _ _ => rfl⟩
theorem isTexts_nil (w : World) (a : Option Addr) (cap : Nat) : IsTexts w (.slice a 0 cap) [] := ⟨a, cap, rfl, fun i hi => absurd hi (by simp)⟩

/-- strings.Split at one sign. -/
theorem pieces_eq (c : UInt8) (l : List UInt8) : Lib.splitB ⟨#[c]⟩ 0 (Lib.countB (bs l) ⟨#[c]⟩) (bs l) = (spl c l).map bs := by
  have h := Lib.splitB_data ⟨#[c]⟩ 0 (Lib.countB (bs l) ⟨#[c]⟩) (bs l)
  rw [bs_data] at h
  have h2 : Lib.countB (bs l) ⟨#[c]⟩ = Lib.count l [c] := by show Lib.count (bs l).data.toList [c] = _; rw [bs_data]
  have h3 : Lib.splitK (⟨#[c]⟩ : ByteArray).data.toList 0 (Lib.countB (bs l) ⟨#[c]⟩) l = spl c l := by rw [h2]; exact split_spl c l
  rw [h3] at h
  rw [← h, List.map_map]
  conv => lhs; rw [← List.map_id (Lib.splitB ⟨#[c]⟩ 0 (Lib.countB (bs l) ⟨#[c]⟩) (bs l))]
  apply List.map_congr_left
  intro x _
  exact (bs_of x).symm
theorem split_any (c : UInt8) (l : List UInt8) (w : World) (E : Env0 w) (hl : l.length < 4294967281) :
    Calls Tryz.prog 39 #[.string (bs l), .string ⟨#[c]⟩] w fun e w' => ∃ b, e = .returned (.slice (some ⟨b, 0, none⟩) (spl c l).length (spl c l).length) ∧ (∀ i x, (spl c l)[i]? = some x → w'.cell? ⟨b, i, none⟩ = some (.string (bs x))) ∧ Below w.heap.size w w' := by
  obtain ⟨m, hm⟩ := E.len
  refine (Any.strings_Split Tryz.lays146 (by kernel_rfl) (bs l) ⟨#[c]⟩ m w (by rw [bs_size]; exact hl) hm (Nat.le_refl 1)).mono ?_
  rintro e w' ⟨rfl, rfl⟩
  have hlen := Lib.splitB_all ⟨#[c]⟩ (Nat.le_refl 1) 0 _ (bs l) rfl
  rw [pieces_eq, List.length_map] at hlen
  rw [← hlen, pieces_eq]
  refine ⟨_, rfl, fun i x hx => ?_, (Below.refl _ _).alloc (Nat.le_refl _) _⟩
  have hi : i < (spl c l).length := by rw [List.getElem?_eq_some_iff] at hx; exact hx.1
  have h0 := Lib.pieces_cell w ((spl c l).map bs) 9 i (bs x) (by simp [hx])
  rw [Nat.zero_add] at h0
  exact h0

theorem owns_below {w w' : World} {base : Nat} {e : TypeId} {size : Nat} {v : Value} {n : Nat} {xs : List Value} (h : w.ownsRow base e size v n xs) (hb : Below w.heap.size w w') : w'.ownsRow base e size v n xs := by
  refine h.kept (row := none) ⟨hb.os, hb.tape, hb.output, hb.size, fun k hk _ => hb.block k hk⟩ ?_
  cases v.ownBlock with
  | none => exact .inl rfl
  | some k => exact .inr (by simp)
theorem lit_cells {w : World} {cs : Array Value} {e : TypeId} {g : Nat} (hg : g = w.heap.size) (hm : cs.size ≤ maxLen) : ∀ j u, cs.toList[j]? = some u → (w.alloc (.cells cs e)).cell? ((⟨g, 0, none⟩ : Addr).add j) = some u := by
  subst hg
  exact (World.ownsRow_lit (base := 0) (size := 1) (e := e) w cs cs.size (Nat.zero_le _) hm (by omega)).cells rfl
/-- The cells that texts fill. -/
def strs (l : List (List UInt8)) : List Value := l.map fun x => .string (bs x)
theorem strs_length (l : List (List UInt8)) : (strs l).length = l.length := by simp [strs]
theorem strs_append (a b : List (List UInt8)) : strs (a ++ b) = strs a ++ strs b := by simp [strs]
theorem strs_one (l : List (List UInt8)) : ∀ u ∈ strs l, u.oneCell' = true := by
  intro u hu
  simp only [strs, List.mem_map] at hu
  obtain ⟨x, _, rfl⟩ := hu
  rfl
theorem isTexts_of {w : World} {base : Nat} {v : Value} {l : List (List UInt8)} (h : w.ownsRow base 9 1 v l.length (strs l)) : IsTexts w v (l.map bs) := by
  rcases h.2 with ⟨rfl, h0⟩ | ⟨g, cap, cur, rfl, _⟩
  · exact ⟨none, 0, by rw [List.length_map, h0], fun i hi => by rw [List.length_map] at hi; omega⟩
  · refine ⟨some ⟨g, 0, none⟩, cap, by rw [List.length_map], fun i hi => ⟨g, 0, rfl, ?_⟩⟩
    rw [List.length_map] at hi
    rw [Nat.zero_add, h.cellAt i (by omega)]
    simp [strs, hi]
theorem owns_fresh {w : World} {base : Nat} {e : TypeId} {size : Nat} {v : Value} {n : Nat} {xs : List Value} (h : w.ownsRow base e size v n xs) : ∀ (x : Addr) (m c : Nat), v = .slice (some x) m c → base ≤ x.block := by
  intro x m c hv
  rcases h.2 with ⟨h1, _⟩ | ⟨g, cap, cur, h1, h2, _⟩
  · rw [h1] at hv; cases hv
  · rw [h1] at hv; cases hv; exact h2
theorem infoStr : (Tryz.prog.info? 9).map (fun i => (i.zero, i.size, i.bytes)) = some (some (.string ⟨#[]⟩), 1, 16) := by kernel_rfl
theorem info_parts {P : Program} {t : TypeId} {z : Value} {s b : Nat} (h : (P.info? t).map (fun i => (i.zero, i.size, i.bytes)) = some (some z, s, b)) : ∃ i, P.info? t = some i ∧ i.zero = some z ∧ i.size = s ∧ i.bytes = b := by
  cases hi : P.info? t with
  | none => rw [hi] at h; cases h
  | some i => rw [hi] at h; simp at h; exact ⟨i, rfl, h.1, h.2.1, h.2.2⟩
def WordsSaid (l : List UInt8) (w : World) (e : Ending) (w' : World) : Prop :=
  ∃ a cap, e = .returned (.slice a (wordsL l).length cap) ∧ Hid (IsTexts w' (.slice a (wordsL l).length cap) ((wordsL l).map bs)) ∧ Below w.heap.size w w' ∧ Hid (∀ x : Addr, a = some x → w.heap.size ≤ x.block)
theorem filt_step {ps : List (List UInt8)} {k : Nat} {x : List UInt8} (hx : ps[k]? = some x) : (ps.take (k + 1)).filter (fun x => !x.isEmpty) = (ps.take k).filter (fun x => !x.isEmpty) ++ (if x.isEmpty then [] else [x]) := by
  obtain ⟨hk, rfl⟩ := List.getElem?_eq_some_iff.1 hx
  rw [List.take_succ_eq_append_getElem hk, List.filter_append]
  congr 1
  cases h : ps[k].isEmpty <;> simp [h]
theorem filt_len (ps : List (List UInt8)) (k : Nat) : ((ps.take k).filter (fun x => !x.isEmpty)).length ≤ ps.length := Nat.le_trans (List.length_filter_le _ _) (by rw [List.length_take]; omega)
theorem spl_len (c : UInt8) (l : List UInt8) : (spl c l).length ≤ l.length + 1 := by
  induction l with
  | nil => simp [spl]
  | cons b r ih =>
    have hne := spl_ne c r
    unfold spl
    split
    · simp; omega
    · cases hs : spl c r with
      | nil => exact absurd hs hne
      | cons x t => rw [hs] at ih; simp at ih ⊢; omega
end Go.Proofs.YtfjpgjkfmcedoaaGreatDoor
/- A world in which the listed variables hold what their initialisers lay, for the laws of expressions. -/
namespace Go.Proofs.YtfjpgjkfmcedoaaGreatDoor
open Go.ChangeShapes Go.WideShapes Go.ChangeAt Go.RowKit
namespace Laid
def litV : DataW Unit → Value
  | .lit (.int k n) => .int k n
  | .lit (.bool b) => .bool b
  | .lit (.string b) => .string ⟨b.toArray⟩
  | _ => .bool false
def rowOf : DataW Unit → List Value
  | .agg m => m.map litV
  | d => [litV d]
def tabOf : DataW Unit → Array Value
  | .agg l => (l.flatMap rowOf).toArray
  | _ => #[]
def put (w : World) (g : Nat) (cs : Array Value) : World :=
  { w with heap := w.heap.modify g fun
      | .cells _ t frozen => .cells cs t frozen
      | o => o }
theorem env0_of {W : World} (hs : W.ShapedOpen Tryz.prog) : Env0 W :=
  ⟨cell_of_shapedOpen_int (g := 3) (t := 3) (zero := #[.int .i64 0]) (k := .i64) hs (by decide +kernel) (by kernel_rfl) rfl (by kernel_rfl) (by kernel_rfl) Tryz.underlying3⟩
/-- A world with the decoder's tables laid. -/
def laidU (w : World) : World := put (put w 5 (tabOf Rows.laid_unicode_utf8_acceptRanges)) 4 (tabOf Rows.laid_unicode_utf8_first)
end Laid
end Go.Proofs.YtfjpgjkfmcedoaaGreatDoor
