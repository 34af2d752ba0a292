/- Contracts of strings.Builder's writers at this program, and of pair.Text. -/
import Derived.Test.YtapflhndpcgdiaaDoorText
namespace Go.Proofs.YtapflhndpcgdiaaDoor
open Go.ChangeShapes Go.WideShapes Go.ChangeAt Go.RowKit
open Num

theorem sizeB : (Tryd.prog.info? 70).map (·.size) = some 2 := by kernel_rfl
theorem infoByte : (Tryd.prog.info? 5).map (fun i => (i.zero, i.size, i.bytes)) = some (some (.int .u8 0), 1, 1) := by kernel_rfl

set_option maxRecDepth 100000 in
theorem copyCheck_fresh (b : Nat) (w : World) (h0 : w.cell? ⟨b, 0, none⟩ = some (.pointer none)) (hsh : w.shape? b = some (70, 2)) (hfz : w.frozen? ⟨b, 0, none⟩ = false) :
    Calls Tryd.prog 52 #[.pointer (some ⟨b, 0, none⟩)] w fun e w' => e = .returned (.tuple #[]) ∧ w' = w.setCell ⟨b, 0, none⟩ (.pointer (some ⟨b, 0, none⟩)) := by
  obtain ⟨j, hj, hjs⟩ := Option.map_eq_some_iff.1 sizeB
  go_enter Tryd.func52, Tryd.ntmps52
  go_wp2
  rw [Lib.run_to_unsafe w ⟨b, 0, none⟩ Tryd.underlying67 Tryd.underlying86 hj (by rw [hjs]; decide) hsh (Nat.zero_lt_succ 1)]
  simp only [Result.andThen]
  rw [Oper.upon_value]
  go_wp2
  rw [run_callFunc_extern Tryd.func59 (by kernel_rfl) (by kernel_rfl) (by kernel_rfl) (e := Extern.AbiNoEscape.same) (by kernel_rfl)]
  rw [Lib.run_noEscape]
  simp only [Result.andThen]
  rw [Oper.upon_value]
  go_wp2
  rw [Lib.run_from_unsafe w ⟨b, 0, none⟩ Tryd.underlying86 Tryd.underlying67 hj hsh (by kernel_rfl)]
  simp only [Result.andThen]
  rw [Oper.upon_value]
  go_wp2
  go_end0
  exact ⟨rfl, rfl⟩
set_option maxRecDepth 100000 in
theorem copyCheck_used (b : Nat) (w : World) (h0 : w.cell? ⟨b, 0, none⟩ = some (.pointer (some ⟨b, 0, none⟩))) :
    Calls Tryd.prog 52 #[.pointer (some ⟨b, 0, none⟩)] w fun e w' => e = .returned (.tuple #[]) ∧ w' = w := by
  obtain ⟨j, hj, _⟩ := Option.map_eq_some_iff.1 sizeB
  go_enter Tryd.func52, Tryd.ntmps52
  go_wp2
  rw [Lib.run_neq_ptr_same w _ Tryd.underlying67 hj]
  go_wp2
  go_end0
  exact ⟨rfl, rfl⟩
theorem copyCheck_any (B b : Nat) (xs : List Value) (w : World) (h : Lib.IsBuilderF 70 5 B b xs w) :
    Calls Tryd.prog 52 #[.pointer (some ⟨b, 0, none⟩)] w fun e w' => e = .returned (.tuple #[]) ∧ (Lib.BuilderAtF 70 5 B b (.pointer (some ⟨b, 0, none⟩)) xs w' ∧ Below B w w' ∧ Lib.OthersKept 5 (some b) w w') := by
  rcases h with h | h
  · refine (copyCheck_fresh b w h.cell0 h.shape h.frozen0).mono ?_
    rintro e w' ⟨rfl, rfl⟩
    exact ⟨rfl, h.used _, (Below.refl B w).setCell (p := ⟨b, 0, none⟩) h.1 _, (Lib.OthersKept.refl _ _ w).setCell ⟨b, 0, none⟩ rfl _⟩
  · refine (copyCheck_used b w h.cell0).mono ?_
    rintro e w' ⟨rfl, rfl⟩
    exact ⟨rfl, h, Below.refl B _, Lib.OthersKept.refl _ _ _⟩

set_option maxHeartbeats 2000000 in
set_option maxRecDepth 100000 in
theorem writeByte_any (B b : Nat) (xs : List Value) (c : Int) (w : World) (h : Lib.IsBuilderF 70 5 B b xs w) (hlen : xs.length + 1 ≤ 140737488355328) (hBw : B ≤ w.heap.size) :
    Calls Tryd.prog 38 #[.pointer (some ⟨b, 0, none⟩), .int .u8 c] w fun e w' => e = .returned .nilIface ∧ (Lib.BuilderAtF 70 5 B b (.pointer (some ⟨b, 0, none⟩)) (xs ++ [.int .u8 c]) w' ∧ Below B w w' ∧ Lib.OthersKept 5 (some b) w w') := by
  obtain ⟨i0, hi, hz0, hz1, hz2⟩ := info_parts infoByte
  go_enter Tryd.func38, Tryd.ntmps38
  go_wp2_with (go_at_call 52; refine (copyCheck_any B b xs _ h).mono ?_)
  rintro e w1 ⟨rfl, h1, hb1, hk1⟩
  obtain ⟨hB, v, hbk, hown, hne⟩ := h1
  have c0 : w1.cell? ⟨b, 0, none⟩ = some (.pointer (some ⟨b, 0, none⟩)) := by rw [Lib.cell_of_heap hbk]; rfl
  have c1 : w1.cell? ⟨b, 1, none⟩ = some v := by rw [Lib.cell_of_heap hbk]; rfl
  go_wp2_with (at_builtin; refine wpList_append_ownF _ rfl _ _ 68 rfl B 5 i0 (.int .u8 0) 1 1 Tryd.underlying68 hi hz0 hz1 hz2 rfl (by decide) _ _ _ rfl (hown.alloc _) ⟨w1.heap.size, 0, none⟩ 1 1 [.int .u8 c] rfl rfl ?c1 ?c2 ?c3 ?c4 ?c5 ?_)
  case c1 =>
    intro j u hj
    match j, hj with
    | 0, hj => simp at hj; subst hj; simp [Addr.add]
  case c2 => intro u hu; simp at hu; subst hu; rfl
  case c3 => unfold maxLen; omega
  case c4 => omega
  case c5 => have := hb1.size; simp; omega
  intro v' w2 hown' hgrow _
  have hlt : b < w1.heap.size := by
    rcases Nat.lt_or_ge b w1.heap.size with h' | h'
    · exact h'
    · simp [Array.getElem?_eq_none h'] at hbk
  have hb2 : w2.heap[b]? = some (.cells #[.pointer (some ⟨b, 0, none⟩), v] 70 (0, 0)) := by
    rw [hgrow.block b (by simp; omega) (fun e => hne e.symm), Lib.alloc_old w1 _ b hlt]
    exact hbk
  have d0 : w2.cell? ⟨b, 0, none⟩ = some (.pointer (some ⟨b, 0, none⟩)) := by rw [Lib.cell_of_heap hb2]; rfl
  have d1 : w2.cell? ⟨b, 1, none⟩ = some v := by rw [Lib.cell_of_heap hb2]; rfl
  have f1 : w2.frozen? ⟨b, 1, none⟩ = false := Lib.frozen_of_heap hb2 1
  obtain ⟨g, cap, rfl⟩ : ∃ g cap, v' = .slice (some ⟨g, 0, none⟩) (xs.length + 1) cap := by
    rcases hown'.2 with ⟨_, h0⟩ | ⟨g, cap, cur, fz, hv, _⟩
    · omega
    · exact ⟨g, cap, hv⟩
  go_wp2
  go_ret
  refine ⟨rfl, ?_, ?_, ((hk1.alloc _).grown hgrow (Lib.ownsRowF_kind (hown.alloc _))).setCell ⟨b, 1, none⟩ rfl _⟩
  · exact Lib.BuilderAtF.put (T := 70) (e := 5) hB hb2 (bs' := xs ++ [.int .u8 c]) (by simpa using hown') (by decide)
  · exact ((hb1.alloc (by have := hb1.size; omega) _).grown hgrow (by have := hb1.size; simp; omega) (fun k hk => (hown.lt k hk).1)).setCell (p := ⟨b, 1, none⟩) hB _

set_option maxHeartbeats 2000000 in
set_option maxRecDepth 100000 in
theorem writeString_any (B b : Nat) (xs : List Value) (s : ByteArray) (w : World) (h : Lib.IsBuilderF 70 5 B b xs w) (hlen : xs.length + s.size ≤ 140737488355328) (hBw : B ≤ w.heap.size) :
    Calls Tryd.prog 36 #[.pointer (some ⟨b, 0, none⟩), .string s] w fun e w' => e = .returned (.tuple #[.int .i64 s.size, .nilIface]) ∧ (Lib.BuilderAtF 70 5 B b (.pointer (some ⟨b, 0, none⟩)) (xs ++ Lib.strCells s) w' ∧ Below B w w' ∧ Lib.OthersKept 5 (some b) w w') := by
  obtain ⟨i0, hi, hz0, hz1, hz2⟩ := info_parts infoByte
  go_enter Tryd.func36, Tryd.ntmps36
  go_wp2_with (go_at_call 52; refine (copyCheck_any B b xs _ h).mono ?_)
  rintro e w1 ⟨rfl, h1, hb1, hk1⟩
  obtain ⟨hB, v, hbk, hown, hne⟩ := h1
  have c0 : w1.cell? ⟨b, 0, none⟩ = some (.pointer (some ⟨b, 0, none⟩)) := by rw [Lib.cell_of_heap hbk]; rfl
  have c1 : w1.cell? ⟨b, 1, none⟩ = some v := by rw [Lib.cell_of_heap hbk]; rfl
  go_wp2_with (at_builtin; refine Lib.wpList_append_own_stringF _ rfl _ _ 68 9 rfl B 5 i0 Tryd.underlying68 Tryd.underlying9 hi hz0 hz1 hz2 _ _ _ rfl hown s rfl ?c3 ?c4 ?c5 ?_)
  case c3 => unfold maxLen; omega
  case c4 => omega
  case c5 => have := hb1.size; omega
  intro v' w2 hown' hgrow _
  have hlt : b < w1.heap.size := by
    rcases Nat.lt_or_ge b w1.heap.size with h' | h'
    · exact h'
    · simp [Array.getElem?_eq_none h'] at hbk
  have hb2 : w2.heap[b]? = some (.cells #[.pointer (some ⟨b, 0, none⟩), v] 70 (0, 0)) := by
    rw [hgrow.block b hlt (fun e => hne e.symm)]
    exact hbk
  have d0 : w2.cell? ⟨b, 0, none⟩ = some (.pointer (some ⟨b, 0, none⟩)) := by rw [Lib.cell_of_heap hb2]; rfl
  have d1 : w2.cell? ⟨b, 1, none⟩ = some v := by rw [Lib.cell_of_heap hb2]; rfl
  have f1 : w2.frozen? ⟨b, 1, none⟩ = false := Lib.frozen_of_heap hb2 1
  obtain ⟨ao, n', cap, rfl⟩ : ∃ ao n' cap, v' = .slice ao n' cap := by
    rcases hown'.2 with ⟨hv, _⟩ | ⟨g, cap, cur, fz, hv, _⟩
    · exact ⟨_, _, _, hv⟩
    · exact ⟨_, _, _, hv⟩
  go_wp2
  go_ret2
  refine ⟨rfl, ?_, ?_, (hk1.grown hgrow (Lib.ownsRowF_kind hown)).setCell ⟨b, 1, none⟩ rfl _⟩
  · exact Lib.BuilderAtF.put (T := 70) (e := 5) hB hb2 (bs' := xs ++ Lib.strCells s) (by simpa [Lib.strCells_length] using hown') (by decide)
  · exact (hb1.grown hgrow (by have := hb1.size; omega) (fun k hk => (hown.lt k hk).1)).setCell (p := ⟨b, 1, none⟩) hB _

theorem builder_below {B b : Nat} {p : Value} {xs : List Value} {w w' : World} (h : Lib.BuilderAtF 70 5 B b p xs w) (hb : Below w.heap.size w w') : Lib.BuilderAtF 70 5 B b p xs w' := by
  obtain ⟨hB, v, hbk, hown, hne⟩ := h
  have keep : ∀ (k : Nat) (o : Obj), w.heap[k]? = some o → w'.heap[k]? = some o := by
    intro k o hk
    rw [hb.block k (Array.getElem?_eq_some_iff.1 hk).1]; exact hk
  refine ⟨hB, v, keep _ _ hbk, ⟨hown.1, ?_⟩, hne⟩
  rcases hown.2 with h | ⟨g, cap, cur, fz, hv, h1, h2, h3⟩
  · exact .inl h
  · exact .inr ⟨g, cap, cur, fz, hv, h1, keep _ _ h2, h3⟩
/-- Where a round of pair.Text stands: what the builder holds, and the round's own pair. -/
structure St (B P : Nat) (s : ByteArray) (m : Int) (x : List UInt8) (w0 w : World) : Prop where
  bld : Lib.IsBuilderF 70 5 B B (Lib.byteCells x) w
  below : Below B w0 w
  cel : w.heap[P]? = some (.cells #[.string s, .int .i64 m] 30 (0, 0))
  lt : B < P
  le : B ≤ w.heap.size
theorem St.next {B P : Nat} {s : ByteArray} {m : Int} {x : List UInt8} {w0 w w' : World} (h : St B P s m x w0 w) (hb : Below w.heap.size w w') : St B P s m x w0 w' := by
  refine ⟨?_, h.below.trans (hb.mono h.le), ?_, h.lt, Nat.le_trans h.le hb.size⟩
  · rcases h.bld with h' | h'
    · exact .inl (builder_below h' hb)
    · exact .inr (builder_below h' hb)
  · rw [hb.block P (Array.getElem?_eq_some_iff.1 h.cel).1]; exact h.cel
theorem St.wrote {B P : Nat} {s : ByteArray} {m : Int} {x y : List UInt8} {w0 w w' : World} (h : St B P s m x w0 w) (hA : Lib.BuilderAtF 70 5 B B (.pointer (some ⟨B, 0, none⟩)) (Lib.byteCells y) w') (hb : Below B w w') (hk : Lib.OthersKept 5 (some B) w w') : St B P s m y w0 w' := by
  have hlt := h.lt
  refine ⟨.inr hA, h.below.trans hb, hk P _ h.cel (by simp; omega) (by intro c fz e; simp at e), h.lt, Nat.le_trans h.le hb.size⟩
theorem St.c0 {B P : Nat} {s : ByteArray} {m : Int} {x : List UInt8} {w0 w : World} (h : St B P s m x w0 w) : w.cell? ⟨P, 0, none⟩ = some (.string s) := by rw [Lib.cell_of_heap h.cel]; rfl
theorem St.c1 {B P : Nat} {s : ByteArray} {m : Int} {x : List UInt8} {w0 w : World} (h : St B P s m x w0 w) : w.cell? ⟨P, 1, none⟩ = some (.int .i64 m) := by rw [Lib.cell_of_heap h.cel]; rfl
theorem cells_byte (x : List UInt8) (c : UInt8) : Lib.byteCells x ++ [.int .u8 c.toNat] = Lib.byteCells (x ++ [c]) := by simp [Lib.byteCells]
theorem cells_str (x : List UInt8) (s : ByteArray) : Lib.byteCells x ++ Lib.strCells s = Lib.byteCells (x ++ s.data.toList) := by
  rw [Lib.byteCells_append]; rfl
theorem ws_st {B P : Nat} {s : ByteArray} {m : Int} {x : List UInt8} {w0 w : World} (h : St B P s m x w0 w) (hx : x.length ≤ 100000000) (t : ByteArray) (ht : t.size ≤ 100000000) :
    Calls Tryd.prog 36 #[.pointer (some ⟨B, 0, none⟩), .string t] w fun e w' => e = .returned (.tuple #[.int .i64 t.size, .nilIface]) ∧ St B P s m (x ++ t.data.toList) w0 w' := by
  refine (writeString_any B B _ t w h.bld (by rw [Lib.byteCells_length]; omega) h.le).mono ?_
  rintro e w' ⟨rfl, hA, hb, hk⟩
  rw [cells_str] at hA
  exact ⟨rfl, h.wrote hA hb hk⟩
theorem wb_st {B P : Nat} {s : ByteArray} {m : Int} {x : List UInt8} {w0 w : World} (h : St B P s m x w0 w) (hx : x.length ≤ 100000000) (c : UInt8) (n : Int) (hn : n = c.toNat) :
    Calls Tryd.prog 38 #[.pointer (some ⟨B, 0, none⟩), .int .u8 n] w fun e w' => e = .returned .nilIface ∧ St B P s m (x ++ [c]) w0 w' := by
  refine (writeByte_any B B _ n w h.bld (by rw [Lib.byteCells_length]; omega) h.le).mono ?_
  rintro e w' ⟨rfl, hA, hb, hk⟩
  rw [hn, cells_byte] at hA
  exact ⟨rfl, h.wrote hA hb hk⟩

set_option maxHeartbeats 2000000 in
set_option maxRecDepth 100000 in
theorem text_any (v : Value) (l : List (ByteArray × Int)) (w : World) (E : Env w) (h : IsPairs w v l) (hf : Fits l) (hl : l.length ≤ 1000) :
    Calls Tryd.prog 19 #[v] w fun e w' => e = .returned (.string (bs (textL l))) ∧ Below w.heap.size w w' := by
  obtain ⟨a, cap, rfl, hc⟩ := h
  go_enter Tryd.func19, Tryd.ntmps19
  go_wp2
  go_loopw [8] (fun i wr => ∃ k : Nat, k ≤ l.length ∧ i = .int .i64 k ∧ Lib.IsBuilderF 70 5 w.heap.size w.heap.size (Lib.byteCells (textL (l.take k))) wr ∧ Below w.heap.size w wr ∧ w.heap.size < wr.heap.size) (fun i _ => l.length - (intOf i).toNat)
  case atStart => exact ⟨0, Nat.zero_le _, rfl, Lib.IsBuilderF.of (Lib.fresh_isBuilder _ _ w), (Below.refl _ _).alloc (Nat.le_refl _) _, by simp⟩
  case round =>
    obtain ⟨k, hk, rfl, hbld, hb, hsz⟩ := hrel
    by_cases hlt : k < l.length
    · obtain ⟨b, off, rfl, c0, c1⟩ := hc k hlt
      have hf1 := hf l[k] (List.getElem_mem hlt)
      have HS := Lib.hid (textL_step l k hlt)
      have hlen : (textL (l.take k)).length ≤ 1100 * 1000 := by
        have h1 := textL_len (l := l.take k) (fun p hp => hf p (List.mem_of_mem_take hp))
        rw [List.length_take] at h1
        omega
      have k0 := cell_below c0 hb
      have k1 := cell_below c1 hb
      have hi1 := itoa_len (l[k].1.size : Int) (by omega) (by omega)
      have hi2 := itoa_len l[k].2 hf1.2.1 hf1.2.2
      have hdl : l[k].1.data.toList.length = l[k].1.size := Array.length_toList
      have s0 : St w.heap.size wr.heap.size l[k].1 l[k].2 (textL (l.take k)) w (wr.alloc (.cells #[.string l[k].1, .int .i64 l[k].2] 30)) := by
        refine ⟨?_, hb.alloc (Nat.le_of_lt hsz) _, heap_alloc_new wr _, hsz, by simp; omega⟩
        rcases hbld with h' | h'
        · exact .inl (builder_below h' ((Below.refl _ _).alloc (Nat.le_refl _) _))
        · exact .inr (builder_below h' ((Below.refl _ _).alloc (Nat.le_refl _) _))
      clear c0 c1 hc hbld
      generalize l[k] = pp at *
      obtain ⟨s, m⟩ := pp
      simp only at *
      go_wp2_with (go_at_call 37; refine Hid.out ?_)
      refine Lib.hid ?_
      refine (itoa_any _ _ (E.below s0.below) (by omega) (by omega)).mono ?_
      rintro e w1 ⟨rfl, hb1⟩
      have s1 := s0.next hb1
      have E1 := E.below s1.below
      clear s0 hb1
      go_wp2_with (go_at_call 36; refine Hid.out ?_)
      refine Lib.hid ?_
      refine (ws_st s1 (by omega) _ (by rw [bs_size]; omega)).mono ?_
      rintro e w2 ⟨rfl, s2⟩
      clear s1
      go_wp2_with (go_at_call 38; refine Hid.out ?_)
      refine Lib.hid ?_
      refine (wb_st s2 (by simp only [List.length_append, bs_data]; omega) 58 58 rfl).mono ?_
      rintro e w3 ⟨rfl, s3⟩
      have q3 := s3.c0
      clear s2
      go_wp2_with (go_at_call 36; refine Hid.out ?_)
      refine Lib.hid ?_
      refine (ws_st s3 (by simp only [List.length_append, List.length_cons, List.length_nil, bs_data]; omega) s (by omega)).mono ?_
      rintro e w4 ⟨rfl, s4⟩
      clear s3 q3
      go_wp2_with (go_at_call 38; refine Hid.out ?_)
      refine Lib.hid ?_
      refine (wb_st s4 (by simp only [List.length_append, List.length_cons, List.length_nil, bs_data]; omega) 32 32 rfl).mono ?_
      rintro e w5 ⟨rfl, s5⟩
      have q5 := s5.c1
      clear s4
      go_wp2_with (go_at_call 37; refine Hid.out ?_)
      refine Lib.hid ?_
      refine (itoa_any _ _ (E.below s5.below) (by omega) (by omega)).mono ?_
      rintro e w6 ⟨rfl, hb6⟩
      have s6 := s5.next hb6
      clear s5 hb6 q5
      go_wp2_with (go_at_call 36; refine Hid.out ?_)
      refine Lib.hid ?_
      refine (ws_st s6 (by simp only [List.length_append, List.length_cons, List.length_nil, bs_data]; omega) _ (by rw [bs_size]; omega)).mono ?_
      rintro e w7 ⟨rfl, s7⟩
      clear s6
      go_wp2_with (go_at_call 38; refine Hid.out ?_)
      refine Lib.hid ?_
      refine (wb_st s7 (by simp only [List.length_append, List.length_cons, List.length_nil, bs_data]; omega) 10 10 rfl).mono ?_
      rintro e w8 ⟨rfl, s8⟩
      have hbl := s8.bld
      have hbe := s8.below
      have hlt8 : w.heap.size < w8.heap.size := Nat.lt_trans s8.lt (Array.getElem?_eq_some_iff.1 s8.cel).1
      have HB : Hid (Lib.IsBuilderF 70 5 w.heap.size w.heap.size (Lib.byteCells (textL (l.take (k + 1)))) w8) := by
        show Lib.IsBuilderF _ _ _ _ _ _
        rw [HS.out]
        simp only [bs_data, List.append_assoc] at hbl
        simp only [text1, List.append_assoc]
        exact hbl
      clear s7 s8 hbl k0 k1
      go_wp2
      go_roundw
      case rel => exact ⟨k + 1, by omega, by go_num, HB.out, hbe, hlt8⟩
      case measure => simp [intOf]; omega
    · go_wp2_with (go_at_call 39; refine (Any.Builder_String_any_k Tryd.lays169 Tryd.Builder_Extra_169 w.heap.size w.heap.size (textL (l.take k)) _ hbld (Nat.le_of_lt hsz)).mono ?_; rintro e w1 ⟨rfl, _, hb1, _⟩)
      go_ret
      rw [List.take_of_length_le (by omega)]
      exact ⟨rfl, hb.trans hb1⟩
end Go.Proofs.YtapflhndpcgdiaaDoor
