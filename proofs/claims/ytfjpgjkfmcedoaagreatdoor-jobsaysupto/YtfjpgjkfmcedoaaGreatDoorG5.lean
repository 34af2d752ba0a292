/- Put together of BuildW, XT. -/
import Derived.Test.YtfjpgjkfmcedoaaGreatDoorG3
import Derived.Test.YtfjpgjkfmcedoaaGreatDoorG4
import Derived.Lib.AppendIntMem
import Derived.Lib.ItoaLen
/- Contracts of strings.Builder's writers at this program. -/
namespace Go.Proofs.YtfjpgjkfmcedoaaGreatDoor
open Go.ChangeShapes Go.WideShapes Go.ChangeAt Go.RowKit

theorem sizeB : (Tryz.prog.info? 85).map (·.size) = some 2 := by kernel_rfl
theorem infoByte : (Tryz.prog.info? 5).map (fun i => (i.zero, i.size, i.bytes)) = some (some (.int .u8 0), 1, 1) := by kernel_rfl

set_option maxRecDepth 100000 in
theorem copyCheck_fresh (b : Nat) (w : World) (h0 : w.cell? ⟨b, 0, none⟩ = some (.pointer none)) (hsh : w.shape? b = some (85, 2)) (hfz : w.frozen? ⟨b, 0, none⟩ = false) :
    Calls Tryz.prog 67 #[.pointer (some ⟨b, 0, none⟩)] w fun e w' => e = .returned (.tuple #[]) ∧ w' = w.setCell ⟨b, 0, none⟩ (.pointer (some ⟨b, 0, none⟩)) := by
  obtain ⟨j, hj, hjs⟩ := Option.map_eq_some_iff.1 sizeB
  go_enter Tryz.func67, Tryz.ntmps67
  go_wp2
  rw [Lib.run_to_unsafe w ⟨b, 0, none⟩ Tryz.underlying83 Tryz.underlying116 hj (by rw [hjs]; decide) hsh (Nat.zero_lt_succ 1)]
  simp only [Result.andThen]
  rw [Oper.upon_value]
  go_wp2
  rw [run_callFunc_extern Tryz.func80 (by kernel_rfl) (by kernel_rfl) (by kernel_rfl) (e := Extern.AbiNoEscape.same) (by kernel_rfl)]
  rw [Lib.run_noEscape]
  simp only [Result.andThen]
  rw [Oper.upon_value]
  go_wp2
  rw [Lib.run_from_unsafe w ⟨b, 0, none⟩ Tryz.underlying116 Tryz.underlying83 hj hsh (by kernel_rfl)]
  simp only [Result.andThen]
  rw [Oper.upon_value]
  go_wp2
  go_end0
  exact ⟨rfl, rfl⟩
set_option maxRecDepth 100000 in
theorem copyCheck_used (b : Nat) (w : World) (h0 : w.cell? ⟨b, 0, none⟩ = some (.pointer (some ⟨b, 0, none⟩))) :
    Calls Tryz.prog 67 #[.pointer (some ⟨b, 0, none⟩)] w fun e w' => e = .returned (.tuple #[]) ∧ w' = w := by
  obtain ⟨j, hj, _⟩ := Option.map_eq_some_iff.1 sizeB
  go_enter Tryz.func67, Tryz.ntmps67
  go_wp2
  rw [Lib.run_neq_ptr_same w _ Tryz.underlying83 hj]
  go_wp2
  go_end0
  exact ⟨rfl, rfl⟩
theorem copyCheck_any (B b : Nat) (xs : List Value) (w : World) (h : Lib.IsBuilderF 85 5 B b xs w) :
    Calls Tryz.prog 67 #[.pointer (some ⟨b, 0, none⟩)] w fun e w' => e = .returned (.tuple #[]) ∧ (Lib.BuilderAtF 85 5 B b (.pointer (some ⟨b, 0, none⟩)) xs w' ∧ Below B w w' ∧ Lib.OthersKept 5 (some b) w w') := by
  rcases h with h | h
  · refine (copyCheck_fresh b w h.cell0 h.shape h.frozen0).mono ?_
    rintro e w' ⟨rfl, rfl⟩
    exact ⟨rfl, h.used _, (Below.refl B w).setCell (p := ⟨b, 0, none⟩) h.1 _, (Lib.OthersKept.refl _ _ w).setCell ⟨b, 0, none⟩ rfl _⟩
  · refine (copyCheck_used b w h.cell0).mono ?_
    rintro e w' ⟨rfl, rfl⟩
    exact ⟨rfl, h, Below.refl B _, Lib.OthersKept.refl _ _ _⟩

set_option maxHeartbeats 2000000 in
set_option maxRecDepth 100000 in
theorem writeByte_any (B b : Nat) (xs : List Value) (c : Int) (w : World) (h : Lib.IsBuilderF 85 5 B b xs w) (hlen : xs.length + 1 ≤ 140737488355328) (hBw : B ≤ w.heap.size) :
    Calls Tryz.prog 51 #[.pointer (some ⟨b, 0, none⟩), .int .u8 c] w fun e w' => e = .returned .nilIface ∧ (Lib.BuilderAtF 85 5 B b (.pointer (some ⟨b, 0, none⟩)) (xs ++ [.int .u8 c]) w' ∧ Below B w w' ∧ Lib.OthersKept 5 (some b) w w') := by
  obtain ⟨i0, hi, hz0, hz1, hz2⟩ := info_parts infoByte
  go_enter Tryz.func51, Tryz.ntmps51
  go_wp2_with (go_at_call 67; refine (copyCheck_any B b xs _ h).mono ?_)
  rintro e w1 ⟨rfl, h1, hb1, hk1⟩
  obtain ⟨hB, v, hbk, hown, hne⟩ := h1
  have c0 : w1.cell? ⟨b, 0, none⟩ = some (.pointer (some ⟨b, 0, none⟩)) := by rw [Lib.cell_of_heap hbk]; rfl
  have c1 : w1.cell? ⟨b, 1, none⟩ = some v := by rw [Lib.cell_of_heap hbk]; rfl
  go_wp2_with (at_builtin; refine wpList_append_ownF _ rfl _ _ 76 rfl B 5 i0 (.int .u8 0) 1 1 Tryz.underlying76 hi hz0 hz1 hz2 rfl (by decide) _ _ _ rfl (hown.alloc _) ⟨w1.heap.size, 0, none⟩ 1 1 [.int .u8 c] rfl rfl ?c1 ?c2 ?c3 ?c4 ?c5 ?_)
  case c1 =>
    intro j u hj
    match j, hj with
    | 0, hj => simp at hj; subst hj; simp [Addr.add]
  case c2 => intro u hu; simp at hu; subst hu; rfl
  case c3 => unfold maxLen; omega
  case c4 => omega
  case c5 => have := hb1.size; simp; omega
  intro v' w2 hown' hgrow _
  have hlt : b < w1.heap.size := by
    rcases Nat.lt_or_ge b w1.heap.size with h' | h'
    · exact h'
    · simp [Array.getElem?_eq_none h'] at hbk
  have hb2 : w2.heap[b]? = some (.cells #[.pointer (some ⟨b, 0, none⟩), v] 85 (0, 0)) := by
    rw [hgrow.block b (by simp; omega) (fun e => hne e.symm), Lib.alloc_old w1 _ b hlt]
    exact hbk
  have d0 : w2.cell? ⟨b, 0, none⟩ = some (.pointer (some ⟨b, 0, none⟩)) := by rw [Lib.cell_of_heap hb2]; rfl
  have d1 : w2.cell? ⟨b, 1, none⟩ = some v := by rw [Lib.cell_of_heap hb2]; rfl
  have f1 : w2.frozen? ⟨b, 1, none⟩ = false := Lib.frozen_of_heap hb2 1
  obtain ⟨g, cap, rfl⟩ : ∃ g cap, v' = .slice (some ⟨g, 0, none⟩) (xs.length + 1) cap := by
    rcases hown'.2 with ⟨_, h0⟩ | ⟨g, cap, cur, fz, hv, _⟩
    · omega
    · exact ⟨g, cap, hv⟩
  go_wp2
  go_ret
  refine ⟨rfl, ?_, ?_, ((hk1.alloc _).grown hgrow (Lib.ownsRowF_kind (hown.alloc _))).setCell ⟨b, 1, none⟩ rfl _⟩
  · exact Lib.BuilderAtF.put (T := 85) (e := 5) hB hb2 (bs' := xs ++ [.int .u8 c]) (by simpa using hown') (by decide)
  · exact ((hb1.alloc (by have := hb1.size; omega) _).grown hgrow (by have := hb1.size; simp; omega) (fun k hk => (hown.lt k hk).1)).setCell (p := ⟨b, 1, none⟩) hB _

set_option maxHeartbeats 2000000 in
set_option maxRecDepth 100000 in
theorem writeString_any (B b : Nat) (xs : List Value) (s : ByteArray) (w : World) (h : Lib.IsBuilderF 85 5 B b xs w) (hlen : xs.length + s.size ≤ 140737488355328) (hBw : B ≤ w.heap.size) :
    Calls Tryz.prog 75 #[.pointer (some ⟨b, 0, none⟩), .string s] w fun e w' => e = .returned (.tuple #[.int .i64 s.size, .nilIface]) ∧ (Lib.BuilderAtF 85 5 B b (.pointer (some ⟨b, 0, none⟩)) (xs ++ Lib.strCells s) w' ∧ Below B w w' ∧ Lib.OthersKept 5 (some b) w w') := by
  obtain ⟨i0, hi, hz0, hz1, hz2⟩ := info_parts infoByte
  go_enter Tryz.func75, Tryz.ntmps75
  go_wp2_with (go_at_call 67; refine (copyCheck_any B b xs _ h).mono ?_)
  rintro e w1 ⟨rfl, h1, hb1, hk1⟩
  obtain ⟨hB, v, hbk, hown, hne⟩ := h1
  have c0 : w1.cell? ⟨b, 0, none⟩ = some (.pointer (some ⟨b, 0, none⟩)) := by rw [Lib.cell_of_heap hbk]; rfl
  have c1 : w1.cell? ⟨b, 1, none⟩ = some v := by rw [Lib.cell_of_heap hbk]; rfl
  go_wp2_with (at_builtin; refine Lib.wpList_append_own_stringF _ rfl _ _ 76 9 rfl B 5 i0 Tryz.underlying76 Tryz.underlying9 hi hz0 hz1 hz2 _ _ _ rfl hown s rfl ?c3 ?c4 ?c5 ?_)
  case c3 => unfold maxLen; omega
  case c4 => omega
  case c5 => have := hb1.size; omega
  intro v' w2 hown' hgrow _
  have hlt : b < w1.heap.size := by
    rcases Nat.lt_or_ge b w1.heap.size with h' | h'
    · exact h'
    · simp [Array.getElem?_eq_none h'] at hbk
  have hb2 : w2.heap[b]? = some (.cells #[.pointer (some ⟨b, 0, none⟩), v] 85 (0, 0)) := by
    rw [hgrow.block b hlt (fun e => hne e.symm)]
    exact hbk
  have d0 : w2.cell? ⟨b, 0, none⟩ = some (.pointer (some ⟨b, 0, none⟩)) := by rw [Lib.cell_of_heap hb2]; rfl
  have d1 : w2.cell? ⟨b, 1, none⟩ = some v := by rw [Lib.cell_of_heap hb2]; rfl
  have f1 : w2.frozen? ⟨b, 1, none⟩ = false := Lib.frozen_of_heap hb2 1
  obtain ⟨ao, n', cap, rfl⟩ : ∃ ao n' cap, v' = .slice ao n' cap := by
    rcases hown'.2 with ⟨hv, _⟩ | ⟨g, cap, cur, fz, hv, _⟩
    · exact ⟨_, _, _, hv⟩
    · exact ⟨_, _, _, hv⟩
  go_wp2
  go_ret2
  refine ⟨rfl, ?_, ?_, (hk1.grown hgrow (Lib.ownsRowF_kind hown)).setCell ⟨b, 1, none⟩ rfl _⟩
  · exact Lib.BuilderAtF.put (T := 85) (e := 5) hB hb2 (bs' := xs ++ Lib.strCells s) (by simpa [Lib.strCells_length] using hown') (by decide)
  · exact (hb1.grown hgrow (by have := hb1.size; omega) (fun k hk => (hown.lt k hk).1)).setCell (p := ⟨b, 1, none⟩) hB _

theorem builder_below {B b : Nat} {p : Value} {xs : List Value} {w w' : World} (h : Lib.BuilderAtF 85 5 B b p xs w) (hb : Below w.heap.size w w') : Lib.BuilderAtF 85 5 B b p xs w' := by
  obtain ⟨hB, v, hbk, hown, hne⟩ := h
  have keep : ∀ (k : Nat) (o : Obj), w.heap[k]? = some o → w'.heap[k]? = some o := by
    intro k o hk
    rw [hb.block k (Array.getElem?_eq_some_iff.1 hk).1]; exact hk
  refine ⟨hB, v, keep _ _ hbk, ⟨hown.1, ?_⟩, hne⟩
  rcases hown.2 with h | ⟨g, cap, cur, fz, hv, h1, h2, h3⟩
  · exact .inl h
  · exact .inr ⟨g, cap, cur, fz, hv, h1, keep _ _ h2, h3⟩
/-- What a builder holds, of whom nothing that was there is. -/
structure Bd (B : Nat) (x : List UInt8) (w0 w : World) : Prop where
  bld : Lib.IsBuilderF 85 5 B B (Lib.byteCells x) w
  below : Below B w0 w
  le : B < w.heap.size
theorem byte_cells (x : List UInt8) (c : UInt8) : Lib.byteCells x ++ [.int .u8 c.toNat] = Lib.byteCells (x ++ [c]) := by simp [Lib.byteCells]
theorem wb_bd {B : Nat} {x : List UInt8} {w0 w : World} (h : Bd B x w0 w) (hx : x.length ≤ 100000000) (c : UInt8) (n : Int) (hn : n = c.toNat) :
    Calls Tryz.prog 51 #[.pointer (some ⟨B, 0, none⟩), .int .u8 n] w fun e w' => e = .returned .nilIface ∧ Bd B (x ++ [c]) w0 w' := by
  have hle := h.le
  refine (writeByte_any B B _ n w h.bld (by rw [Lib.byteCells_length]; omega) (Nat.le_of_lt hle)).mono ?_
  rintro e w' ⟨rfl, hA, hb, hk⟩
  rw [hn, byte_cells] at hA
  exact ⟨rfl, .inr hA, h.below.trans hb, Nat.lt_of_lt_of_le hle hb.size⟩
/-- A text, quoted. -/
def quoL : List UInt8 → List UInt8
  | [] => []
  | c :: r => (if c = 34 ∨ c = 92 then [92, c] else [c]) ++ quoL r
def quoteL (s : List UInt8) : List UInt8 := 34 :: quoL s ++ [34]
theorem quoL_append (a b : List UInt8) : quoL (a ++ b) = quoL a ++ quoL b := by
  induction a with
  | nil => rfl
  | cons c a ih => simp only [List.cons_append, quoL, ih, List.append_assoc]
theorem quoL_len (a : List UInt8) : (quoL a).length ≤ 2 * a.length := by
  induction a with
  | nil => simp [quoL]
  | cons c a ih => unfold quoL; split <;> simp <;> omega
theorem quoL_take {s : List UInt8} {i : Nat} {x : UInt8} (hx : s[i]? = some x) : quoL (s.take (i + 1)) = quoL (s.take i) ++ (if x = 34 ∨ x = 92 then [92, x] else [x]) := by
  rw [take_snoc hx, quoL_append]; simp [quoL]
theorem at_bs2 (x : List UInt8) (j : Nat) (h : j < x.length) (hq : j < (bs x).size) : (bs x)[j]'hq = x[j]'h := by simp only [bs]; rfl
theorem byte_at {x : List UInt8} {j : Nat} {b : UInt8} (hq : j < (bs x).size) (hx : x[j]? = some b) : (bs x)[j]'hq = b := by
  obtain ⟨h, rfl⟩ := List.getElem?_eq_some_iff.1 hx
  exact at_bs2 x j h hq
set_option maxHeartbeats 2000000 in
set_option maxRecDepth 100000 in
theorem quote_any (s : List UInt8) (w : World) (hs : s.length ≤ 1100000) :
    Calls Tryz.prog 38 #[.string (bs s)] w fun e w' => e = .returned (.string (bs (quoteL s))) ∧ Below w.heap.size w w' := by
  have hsz : (bs s).size ≤ 1100000 := by rw [bs_size]; exact hs
  have HS := Lib.hid (bs_size s)
  go_enter Tryz.func38, Tryz.ntmps38
  go_wp2_with (go_at_call 51; refine Hid.out ?_)
  refine Lib.hid ?_
  have h0 : Bd w.heap.size [] w (w.alloc (.cells #[.pointer none, .slice none 0 0] 85)) := ⟨Lib.IsBuilderF.of (Lib.fresh_isBuilder _ _ w), (Below.refl _ _).alloc (Nat.le_refl _) _, by simp⟩
  refine (wb_bd h0 (by simp) 34 34 rfl).mono ?_
  rintro e w1 ⟨rfl, h1⟩
  clear h0
  go_wp2
  go_loopw [8] (fun iv wr => ∃ i : Nat, i ≤ (bs s).size ∧ iv = .int .i64 i ∧ Bd w.heap.size (34 :: quoL (s.take i)) w wr) (fun iv _ => (bs s).size - (intOf iv).toNat)
  case atStart => exact ⟨0, Nat.zero_le _, rfl, h1⟩
  case round =>
    obtain ⟨i, hi, rfl, hB⟩ := hrel
    clear h1
    by_cases hlt : i < (bs s).size
    · obtain ⟨x, hx⟩ : ∃ x, s[i]? = some x := ⟨s[i]'(by have := HS.out; omega), by simp⟩
      have hbx := byte_at hlt hx
      have HQ := Lib.hid (quoL_take hx)
      have hln : (34 :: quoL (s.take i)).length ≤ 10000000 := by
        have h1 := quoL_len (s.take i)
        rw [List.length_take] at h1
        simp only [List.length_cons]; omega
      clear hx
      by_cases c1 : x = 34
      · have e1 : ((x.toNat : Int) == 34) = true := by rw [c1]; rfl
        have C1 := Lib.hid c1
        clear c1
        go_wp2_with (go_at_call 51; refine Hid.out ?_)
        refine Lib.hid ?_
        refine (wb_bd hB (by omega) 92 92 rfl).mono ?_
        rintro e w2 ⟨rfl, hB2⟩
        clear hB
        go_wp2_with (go_at_call 51; refine Hid.out ?_)
        refine Lib.hid ?_
        refine (wb_bd hB2 (by simp only [List.length_append, List.length_cons, List.length_nil] at hln ⊢; omega) x (x.toNat : Int) rfl).mono ?_
        rintro e w3 ⟨rfl, hB3⟩
        clear hB2
        have HB : Hid (Bd w.heap.size (34 :: quoL (s.take (i + 1))) w w3) := by
          show Bd _ _ _ _
          rw [HQ.out, if_pos (.inl C1.out)]
          simpa using hB3
        clear hB3
        go_wp2
        go_roundw
        case rel => exact ⟨i + 1, by omega, by go_num, HB.out⟩
        case measure => simp [intOf]; omega
      have e1 : ((x.toNat : Int) == 34) = false := by
        rw [beq_eq_false_iff_ne]
        intro h
        exact c1 (UInt8.toNat_inj.1 (by have h3 : x.toNat = 34 := by omega
                                        exact h3))
      by_cases c2 : x = 92
      · have e2 : ((x.toNat : Int) == 92) = true := by rw [c2]; rfl
        have C2 := Lib.hid c2
        clear c2 c1
        go_wp2_with (go_at_call 51; refine Hid.out ?_)
        refine Lib.hid ?_
        refine (wb_bd hB (by omega) 92 92 rfl).mono ?_
        rintro e w2 ⟨rfl, hB2⟩
        clear hB
        go_wp2_with (go_at_call 51; refine Hid.out ?_)
        refine Lib.hid ?_
        refine (wb_bd hB2 (by simp only [List.length_append, List.length_cons, List.length_nil] at hln ⊢; omega) x (x.toNat : Int) rfl).mono ?_
        rintro e w3 ⟨rfl, hB3⟩
        clear hB2
        have HB : Hid (Bd w.heap.size (34 :: quoL (s.take (i + 1))) w w3) := by
          show Bd _ _ _ _
          rw [HQ.out, if_pos (.inr C2.out)]
          simpa using hB3
        clear hB3
        go_wp2
        go_roundw
        case rel => exact ⟨i + 1, by omega, by go_num, HB.out⟩
        case measure => simp [intOf]; omega
      have e2 : ((x.toNat : Int) == 92) = false := by
        rw [beq_eq_false_iff_ne]
        intro h
        exact c2 (UInt8.toNat_inj.1 (by have h3 : x.toNat = 92 := by omega
                                        exact h3))
      go_wp2_with (go_at_call 51; refine Hid.out ?_)
      refine Lib.hid ?_
      refine (wb_bd hB (by omega) x (x.toNat : Int) rfl).mono ?_
      rintro e w3 ⟨rfl, hB3⟩
      clear hB
      have HB : Hid (Bd w.heap.size (34 :: quoL (s.take (i + 1))) w w3) := by
        show Bd _ _ _ _
        rw [HQ.out, if_neg (by rintro (h | h); exact c1 h; exact c2 h)]
        simpa using hB3
      clear hB3
      go_wp2
      go_roundw
      case rel => exact ⟨i + 1, by omega, by go_num, HB.out⟩
      case measure => simp [intOf]; omega
    · have hall : Hid (s.take i = s) := List.take_of_length_le (by have := HS.out; omega)
      rw [hall.out] at hB
      have hln := quoL_len s
      go_wp2_with (go_at_call 51; refine Hid.out ?_)
      refine Lib.hid ?_
      refine (wb_bd hB (by simp only [List.length_cons]; omega) 34 34 rfl).mono ?_
      rintro e w2 ⟨rfl, hB2⟩
      clear hB
      have hle := hB2.le
      have hbl := hB2.below
      go_wp2_with (go_at_call 52; refine (Any.Builder_String_any_k Tryz.lays169 Tryz.Builder_Extra_169 w.heap.size w.heap.size (34 :: quoL s ++ [34]) _ hB2.bld (Nat.le_of_lt hle)).mono ?_; rintro e w3 ⟨rfl, _, hb3, _⟩)
      go_ret
      exact ⟨rfl, hbl.trans hb3⟩
end Go.Proofs.YtfjpgjkfmcedoaaGreatDoor
/- Contracts of strconv.Itoa, job.hasNumber, hasText and exprText: an expression's text. -/
namespace Go.Proofs.YtfjpgjkfmcedoaaGreatDoor
open Go.ChangeShapes Go.WideShapes Go.ChangeAt Go.RowKit
/-- What the program's and the library's own variables hold, for the texts of jobs. -/
structure EnvT (w : World) : Prop extends EnvS w where
  tab : Lib.TabIs Tryz.prog w "internal/strconv.uint64pow10" .u64 Lib.pow10Tab
theorem EnvT.lower {w w' : World} (h : EnvT w) (hb : Below w.heap.size w w') : EnvT w' := ⟨h.toEnvS.lower hb, Lib.tabBelow_of_tabIs h.tab w' hb⟩
theorem itoa_any (n : Int) (w : World) (E : EnvT w) (h0 : -9223372036854775808 ≤ n) (h1 : n ≤ 9223372036854775807) :
    Calls Tryz.prog 36 #[.int .i64 n] w fun e w' => e = .returned (.string (bs (Lib.itoa n))) ∧ Below w.heap.size w w' := by
  refine (Any.strconv_Itoa Tryz.laysM171 n h0 h1 w E.tab).mono ?_
  rintro e w' ⟨rfl, k, os, rfl⟩
  exact ⟨rfl, Lib.below_grow _ w (Nat.le_refl _) k os⟩
def hasNum (k : Int) : Bool := decide (lowK k < highK k)
def hasTxt (k : Int) : Bool := decide (0 < bytesK k)
set_option maxRecDepth 100000 in
theorem hasNumber_any (k : Int) (w : World) (E : EnvS w) : Calls Tryz.prog 49 #[.int .i64 k] w fun e w' => e = .returned (.bool (hasNum k)) ∧ Below w.heap.size w w' := by
  have SH := Lib.hid (shapeOf_any k w E)
  unfold shV at SH
  unfold hasNum
  generalize lowK k = lo at *
  generalize highK k = hi at *
  go_enter Tryz.func49, Tryz.ntmps49
  go_wp2_with (go_at_call 62; refine Hid.out ?_)
  refine Lib.hid ?_
  refine SH.out.mono ?_
  rintro _ w2 ⟨rfl, hb2⟩
  by_cases h : lo < hi
  · go_wp2
    go_ret
    exact ⟨by simp [h], below_trans hb2 (below_box _)⟩
  · go_wp2
    go_ret
    exact ⟨by simp, below_trans hb2 (below_box _)⟩
set_option maxRecDepth 100000 in
theorem hasText_any (k : Int) (w : World) (E : EnvS w) : Calls Tryz.prog 50 #[.int .i64 k] w fun e w' => e = .returned (.bool (hasTxt k)) ∧ Below w.heap.size w w' := by
  have SH := Lib.hid (shapeOf_any k w E)
  unfold shV at SH
  unfold hasTxt
  generalize bytesK k = by' at *
  have hfd : ∀ w : World, (Instr.field 95 (.agg #[.int .i64 (lowK k), .int .i64 (highK k), .int .i64 (by' : Int), .int .i64 (partsK k : Int), .bool (textsK k)]) 2).run Tryz.prog w = .ok (.int .i64 (by' : Int)) w := fun _ => by kernel_rfl
  go_enter Tryz.func50, Tryz.ntmps50
  go_wp2_with (go_at_call 62; refine Hid.out ?_)
  refine Lib.hid ?_
  refine SH.out.mono ?_
  rintro _ w2 ⟨rfl, hb2⟩
  by_cases h : 0 < by'
  · go_wp2
    go_ret
    exact ⟨by simp [h], hb2⟩
  · go_wp2
    go_ret
    exact ⟨by simp [h], hb2⟩
/-- An expression's own words: its name, its number, its text. -/
def hdTxt (k n : Int) (s : List UInt8) : List UInt8 := nameL k ++ (if hasNum k then 32 :: Lib.itoa n else []) ++ (if hasTxt k then 32 :: quoteL s else [])
/-- An expression's text. -/
def Ex.txt : Ex → List UInt8
  | .mk k n s a => hdTxt k n s ++ txtL a
  where txtL : List Ex → List UInt8
  | [] => []
  | e :: r => (32 :: e.txt) ++ txtL r
theorem txtL_append (a b : List Ex) : Ex.txt.txtL (a ++ b) = Ex.txt.txtL a ++ Ex.txt.txtL b := by
  induction a with
  | nil => rfl
  | cons x a ih => simp only [List.cons_append, Ex.txt.txtL, ih, List.append_assoc]
theorem txtL_take {l : List Ex} {i : Nat} {x : Ex} (hx : l[i]? = some x) : Ex.txt.txtL (l.take (i + 1)) = Ex.txt.txtL (l.take i) ++ (32 :: x.txt) := by rw [take_snoc hx, txtL_append]; simp [Ex.txt.txtL]
theorem nameL_len (k : Int) : (nameL k).length ≤ 4 := by
  unfold nameL
  repeat' split
  all_goals simp
theorem hdTxt_len (k n : Int) (s : List UInt8) (h0 : -9223372036854775808 ≤ n) (h1 : n ≤ 9223372036854775807) : (hdTxt k n s).length ≤ 40 + 2 * s.length := by
  have a := nameL_len k
  have b := Lib.itoa_length_le n h0 h1
  have c := quoL_len s
  unfold hdTxt
  simp only [List.length_append]
  have e1 : (if hasNum k = true then 32 :: Lib.itoa n else []).length ≤ 22 := by split <;> simp <;> omega
  have e2 : (if hasTxt k = true then 32 :: quoteL s else []).length ≤ 3 + 2 * s.length := by
    split
    · simp only [quoteL, List.length_cons, List.length_append, List.length_nil]; omega
    · simp
  omega
/-- Its numbers fit. -/
def Ex.fit : Ex → Prop
  | .mk _ n _ a => (-9223372036854775808 ≤ n ∧ n ≤ 9223372036854775807) ∧ fitL a
  where fitL : List Ex → Prop
  | [] => True
  | e :: r => e.fit ∧ fitL r
theorem fit_kid {l : List Ex} : ∀ {i : Nat} {x : Ex}, l[i]? = some x → Ex.fit.fitL l → x.fit := by
  induction l with
  | nil => intro i x hx; simp at hx
  | cons y l ih =>
    intro i x hx h
    cases i with
    | zero => simp at hx; subst hx; exact h.1
    | succ i => exact ih (by simpa using hx) h.2
theorem txt_len (e : Ex) : e.fit → e.txt.length ≤ 42 * e.cnt + 2 * e.wt - 1 := by
  refine Ex.ind (P := fun e => e.fit → e.txt.length ≤ 42 * e.cnt + 2 * e.wt - 1) ?_ e
  intro k n s a ih hf
  simp only [Ex.fit] at hf
  have h1 := hdTxt_len k n s hf.1.1 hf.1.2
  have h2 : (Ex.txt.txtL a).length ≤ 42 * Ex.cnt.cntL a + 2 * Ex.wt.wtL a := by
    have hf2 := hf.2
    clear hf h1
    induction a with
    | nil => simp [Ex.txt.txtL]
    | cons x a ihl =>
      have h3 := ih x (by simp) hf2.1
      have h6 : 1 ≤ x.cnt := cnt_pos x
      have h4 := ihl (fun e he => ih e (by simp [he])) hf2.2
      have h5 := cnt_pos x
      simp only [Ex.txt.txtL, Ex.cnt.cntL, Ex.wt.wtL, List.length_append, List.length_cons]; omega
  simp only [Ex.txt, Ex.cnt, Ex.wt, List.length_append]; omega
end Go.Proofs.YtfjpgjkfmcedoaaGreatDoor
