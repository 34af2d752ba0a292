/- Contract of job.readRule: a rule's line. Written by tpl/mk_rdr.py. -/
import Derived.Test.YtfjpgjkfmcedoaaGreatDoorRdE
import Derived.Test.YtfjpgjkfmcedoaaGreatDoorRd2
import Derived.Deep.Cut
import Derived.Deep.MidRow
namespace Go.Proofs.YtfjpgjkfmcedoaaGreatDoor
open Go.ChangeShapes Go.WideShapes Go.ChangeAt Go.RowKit
def zeroR : Array Value := #[.bool false, .int .i64 0, .int .i64 0, .int .i64 0, .string ⟨#[]⟩, .slice none 0 0, .string ⟨#[]⟩, .int .i64 0, .int .i64 0, .string ⟨#[]⟩, .slice none 0 0, .int .i64 0, .int .i64 0, .string ⟨#[]⟩, .slice none 0 0]
/-- While a rule is read. -/
structure YSt (P B : Nat) (r : List UInt8) (cs : Array Value) (w wr : World) : Prop where
  rd : RdAt P r wr
  res : wr.heap[w.heap.size]? = some (.cells zeroR 46 (0, 0))
  ex : wr.heap[B]? = some (.cells cs 46 (0, 0))
  bel : Below w.heap.size w wr
  hP : P = w.heap.size + 1
  ltB : P < B
theorem YSt.read {P B : Nat} {r r' : List UInt8} {cs : Array Value} {w wr w' : World} (h : YSt P B r cs w wr) (hr : RdAt P r' w') (ho : Only P wr w') : YSt P B r' cs w w' := by
  have h1 := h.hP
  have h2 := h.ltB
  exact ⟨hr, (ho.block _ (blockLt h.res) (by simp; omega)).trans h.res, (ho.block _ (blockLt h.ex) (by simp; omega)).trans h.ex, below_of_only h.bel (by omega) ho, h1, h2⟩
theorem YSt.put {P B : Nat} (j : Nat) {r : List UInt8} {cs cs' : Array Value} {v : Value} {w wr : World} (h : YSt P B r cs w wr) (hc : cs.setIfInBounds j v = cs') : YSt P B r cs' w (wr.setCell ⟨B, j, none⟩ v) := by
  have h1 := h.hP
  have h2 := h.ltB
  refine ⟨rd_far (by omega) h.rd, (Below.heap_setCell wr ⟨B, j, none⟩ v _ (fun e => by simp at e; omega)).trans h.res, ?_, h.bel.setCell (p := ⟨B, j, none⟩) (by simp; omega) v, h1, h2⟩
  rw [← hc]; exact heap_set h.ex v
theorem YSt.c (i : Nat) {P B : Nat} {r : List UInt8} {cs : Array Value} {w wr : World} (h : YSt P B r cs w wr) : wr.cell? ⟨B, i, none⟩ = cs[i]? := cell_of_row wr B i _ _ (0, 0) h.ex
theorem YSt.f (i : Nat) {P B : Nat} {r : List UInt8} {cs : Array Value} {w wr : World} (h : YSt P B r cs w wr) : wr.frozen? ⟨B, i, none⟩ = false := frozen_of_row wr B i _ _ h.ex
/-- An expression that lies beyond that block. -/
def Ly (B : Nat) (wr : World) (v : Value) (e : Ex) : Prop := ∃ lo hi, B < lo ∧ hi ≤ wr.heap.size ∧ IsExW lo hi wr v e
theorem Ly.only {P B : Nat} {wr w' : World} {v : Value} {e : Ex} (h : Ly B wr v e) (ho : Only P wr w') (hP : P < B) : Ly B w' v e := by
  obtain ⟨lo, hi, h1, h2, h3⟩ := h
  exact ⟨lo, hi, h1, Nat.le_trans h2 ho.size, h3.carry (Keeps.of_only ho h2 (.inl (by omega)))⟩
theorem Ly.put {B b j : Nat} {wr : World} {v u : Value} {e : Ex} (h : Ly B wr v e) (hb : b ≤ B) : Ly B (wr.setCell ⟨b, j, none⟩ u) v e := by
  obtain ⟨lo, hi, h1, h2, h3⟩ := h
  exact ⟨lo, hi, h1, by simpa using h2, h3.put (by omega) u⟩
theorem Ly.wide {B : Nat} {wr : World} {v : Value} {e : Ex} (h : Ly B wr v e) : IsExW (B + 1) wr.heap.size wr v e := by
  obtain ⟨lo, hi, h1, h2, h3⟩ := h
  exact h3.wide (by omega) h2
theorem Ly.zero (B : Nat) (wr : World) : Ly B wr (.slice none 0 0) (.mk 0 0 [] []) :=
  ⟨B + 1, 0, by omega, Nat.zero_le _, fun w' _ => IsEx.mk 0 0 [] none 0 [] 0 0 (fun _ => undef) (fun h => by simp at h) (fun i x hx => by simp at hx) (fun i x hx => by simp at hx)⟩
theorem Ly.made {P B : Nat} {s : List UInt8} {w w' : World} {r : Ending} (h : ExprSaid P s w r w') (hB : B < w.heap.size) : ∃ e' s' a cap, r = .returned (.agg #[.int .i64 e'.k, .int .i64 e'.n, .string (bs e'.s), .slice a e'.a.length cap]) ∧ Ly B w' (.slice a e'.a.length cap) e' ∧ ReadsE s e' s' ∧ RdAt P s' w' ∧ Only P w w' := by
  obtain ⟨e', s', sv, h1, h2, h3, h4, h5⟩ := h
  obtain ⟨a, cap, rfl⟩ := h2.self.slice
  exact ⟨e', s', a, cap, h1, ⟨w.heap.size, w'.heap.size, hB, Nat.le_refl _, h2⟩, h3, h4, h5⟩
theorem Ly.row {B b : Nat} {wr : World} {v : Value} {e : Ex} (h : Ly B wr v e) (hb : b < B) (cs : Array Value) : Ly B (wr.setRow b cs) v e := by
  obtain ⟨lo, hi, h1, h2, h3⟩ := h
  exact ⟨lo, hi, h1, by simpa [World.setRow] using h2, h3.carry (fun k hk1 _ => setRow_other wr b k cs (by omega))⟩
theorem below_setRow {w wr : World} {b : Nat} (h : Below w.heap.size w wr) (hb : w.heap.size ≤ b) (cs : Array Value) : Below w.heap.size w (wr.setRow b cs) :=
  ⟨h.os, h.tape, h.output, Nat.le_trans h.size (by simp [World.setRow]), fun k hk => (setRow_other wr b k cs (by omega)).trans (h.block k hk)⟩
theorem ruleSize : (Tryz.prog.info? 46).map (·.size) = some 15 := by kernel_rfl
theorem ruleLoad {w : World} {g : Nat} {cs : Array Value} (h : w.heap[g]? = some (.cells cs 46 (0, 0))) (h2 : cs.size = 15) : (Instr.loadAt 46 (.pointer (some ⟨g, 0, none⟩))).run Tryz.prog w = .ok (.agg cs) w := by
  simp only [Instr.loadAt, Instr.sureAddr, Sem.run_bind, Sem.run_pure, Result.andThen_ok, run_loadVar_row w g 46 46 cs (0, 0) _ h Tryz.underlying46 rfl (by rw [h2]; exact ruleSize)]
theorem ruleStore {w : World} {g : Nat} {old : Array Value} (h : w.heap[g]? = some (.cells old 46 (0, 0))) (cs : Array Value) (h2 : old.size = 15 ∧ cs.size = 15) (h3 : cs.all (·.oneCell') = true) : (Instr.storeAt 46 (.pointer (some ⟨g, 0, none⟩)) (.agg cs)).run Tryz.prog w = .ok () (w.setRow g cs) := by
  simp only [Instr.storeAt, Instr.sureAddr, Sem.run_bind, Sem.run_pure, Result.andThen_ok, run_storeVar_row w g 46 46 old cs h (by rw [h2.2]; exact ruleSize) (by rw [h2.1, h2.2]) h3]
theorem wpList_loadR {w : World} {ops : Array Oper} {rest : List Oper} {o : Oper} {a : Act} {Q : Exit → Act → World → Prop} (hgd : o.guard = none) (x : Operand) (ho : o.op = .load 46 x) (g : Nat) (cs : Array Value) (hx : a.eval x = .pointer (some ⟨g, 0, none⟩))
    (hg : w.heap[g]? = some (.cells cs 46 (0, 0))) (h2 : cs.size = 15) (h : wpList Tryz.prog ops Q rest (a.put o.dst (.agg cs)) w) : wpList Tryz.prog ops Q (o :: rest) a w :=
  wpList_plain hgd fun _ hK => by
    unfold Oper.wp execOp
    simp only [ho, hx, Sem.run_bind, Sem.run_pure, Result.andThen_ok, ruleLoad hg h2]
    exact hK _ _ h
theorem wpList_storeR {w : World} {ops : Array Oper} {rest : List Oper} {o : Oper} {a : Act} {Q : Exit → Act → World → Prop} (hgd : o.guard = none) (x y : Operand) (ho : o.op = .store 46 x y) (g : Nat) (old cs : Array Value) (hx : a.eval x = .pointer (some ⟨g, 0, none⟩)) (hy : a.eval y = .agg cs)
    (hg : w.heap[g]? = some (.cells old 46 (0, 0))) (h2 : old.size = 15 ∧ cs.size = 15) (h3 : cs.all (·.oneCell') = true) (h : wpList Tryz.prog ops Q rest (a.put o.dst undef) (w.setRow g cs)) : wpList Tryz.prog ops Q (o :: rest) a w :=
  wpList_plain hgd fun _ hK => by
    unfold Oper.wp execOp
    simp only [ho, hx, hy, Sem.run_bind, Sem.run_pure, Result.andThen_ok, ruleStore hg cs h2 h3]
    exact hK _ _ h
def RuleSaid (line : List UInt8) (w : World) (v : Ending) (w' : World) : Prop :=
  ∃ r' ai ci ak ck av cv, v = .returned (Rl.value r' (.slice ai r'.iff.a.length ci) (.slice ak r'.key.a.length ck) (.slice av r'.val.a.length cv)) ∧ IsExW (w.heap.size + 1) w'.heap.size w' (.slice ai r'.iff.a.length ci) r'.iff ∧ IsExW (w.heap.size + 1) w'.heap.size w' (.slice ak r'.key.a.length ck) r'.key ∧ IsExW (w.heap.size + 1) w'.heap.size w' (.slice av r'.val.a.length cv) r'.val ∧ ReadsR line r' ∧ Below w.heap.size w w'
set_option maxRecDepth 100000 in
set_option maxHeartbeats 8000000 in
theorem readRule_any (line : List UInt8) (w : World) (E : EnvR w) (hs : line.length ≤ 1000) :
    Calls Tryz.prog 42 #[.string (bs line)] w (RuleSaid line w) := by
  have HE := Lib.hid E
  clear E
  obtain ⟨P, hP⟩ : ∃ P, P = w.heap.size + 1 := ⟨_, rfl⟩
  obtain ⟨w1, hw1⟩ : ∃ w1, w1 = (w.alloc (.cells zeroR 46)).alloc (.cells #[.string (bs line)] 89) := ⟨_, rfl⟩
  have hb1 : Below w.heap.size w w1 := by rw [hw1]; exact below_trans (below_box _) (below_box _)
  have hr1 : RdAt P line w1 := by
    show _ = _
    rw [hw1, hP]
    have := heap_alloc_new (w.alloc (.cells zeroR 46)) (.cells #[.string (bs line)] 89)
    simpa using this
  have hz1 : w1.heap[w.heap.size]? = some (.cells zeroR 46 (0, 0)) := by
    rw [hw1, Lib.alloc_old _ _ _ (by simp)]
    exact heap_alloc_new _ _
  have hsz1 : w1.heap.size = w.heap.size + 2 := by rw [hw1]; simp
  have T1 : Hid (Calls Tryz.prog 58 #[.pointer (some ⟨P, 0, none⟩), .string ⟨#[101, 97, 99, 104, 32]⟩] w1 fun e w' => e = .returned (.bool (eachT.isPrefixOf line)) ∧ RdAt P (takeR eachT line) w' ∧ Only P w1 w') := take_any P line eachT w1 hr1
  have HW1 := Lib.hid hw1
  have HZ1 := Lib.hid hz1
  have HSZ1 := Lib.hid hsz1
  have HPD := Lib.hid hP
  have hPlt : w.heap.size < P := by omega
  clear hw1 hz1 hsz1 hr1 hP
  unfold zeroR at HW1
  go_enter Tryz.func42, Tryz.ntmps42
  go_wp2_with (go_at_call 58; refine Hid.out ?_)
  rw [← HW1.out, ← HPD.out]
  refine Lib.hid ?_
  refine T1.out.mono ?_
  rintro _ w2 ⟨rfl, r2, o2⟩
  obtain ⟨B, hB⟩ : ∃ B, B = w2.heap.size := ⟨_, rfl⟩
  have hl0 := takeR_len eachT line
  obtain ⟨e0, he0⟩ : ∃ e0, e0 = eachT.isPrefixOf line := ⟨_, rfl⟩
  rw [← he0]
  have HE0 := Lib.hid he0
  obtain ⟨s1, hs1⟩ : ∃ s1, s1 = takeR eachT line := ⟨_, rfl⟩
  rw [← hs1] at r2 hl0
  have HS1 := Lib.hid hs1
  clear he0 hs1
  have Y3 : Hid (YSt P B s1 #[.bool e0, .int .i64 0, .int .i64 0, .int .i64 0, .string ⟨#[]⟩, .slice none 0 0, .string ⟨#[]⟩, .int .i64 0, .int .i64 0, .string ⟨#[]⟩, .slice none 0 0, .int .i64 0, .int .i64 0, .string ⟨#[]⟩, .slice none 0 0] w (w2.alloc (.cells #[.bool e0, .int .i64 0, .int .i64 0, .int .i64 0, .string ⟨#[]⟩, .slice none 0 0, .string ⟨#[]⟩, .int .i64 0, .int .i64 0, .string ⟨#[]⟩, .slice none 0 0, .int .i64 0, .int .i64 0, .string ⟨#[]⟩, .slice none 0 0] 46))) := by
    have hbo := below_of_only hb1 (by omega) o2
    have hsz := HSZ1.out
    have hPd := HPD.out
    have hle := o2.size
    refine ⟨r2.lower (below_box _), ?_, by rw [hB]; exact heap_alloc_new _ _, below_trans hbo (below_box _), HPD.out, by omega⟩
    rw [(below_box (w := w2) _).block _ (by omega), o2.block _ (by omega) (by simp; omega)]
    exact HZ1.out
  obtain ⟨w3, hw3⟩ : ∃ w3, w3 = w2.alloc (.cells #[.bool e0, .int .i64 0, .int .i64 0, .int .i64 0, .string ⟨#[]⟩, .slice none 0 0, .string ⟨#[]⟩, .int .i64 0, .int .i64 0, .string ⟨#[]⟩, .slice none 0 0, .int .i64 0, .int .i64 0, .string ⟨#[]⟩, .slice none 0 0] 46) := ⟨_, rfl⟩
  rw [← hw3] at Y3
  have HW3 := Lib.hid hw3
  have T2 : Hid (Calls Tryz.prog 58 #[.pointer (some ⟨P, 0, none⟩), .string ⟨#[115, 97, 109, 101, 32]⟩] w3 fun e w' => e = .returned (.bool (sameT.isPrefixOf s1)) ∧ RdAt P (takeR sameT s1) w' ∧ Only P w3 w') := take_any P s1 sameT w3 Y3.out.rd
  have HBD := Lib.hid hB
  clear hw3 T1 HZ1 HSZ1 HW1 r2 o2 hb1 hB
  go_wp2_with (go_at_call 58; refine Hid.out ?_)
  rw [← HW3.out, ← HBD.out]
  clear HW3 HBD
  refine Lib.hid ?_
  cases hsm : sameT.isPrefixOf s1 with
  | true =>
    rw [hsm] at T2
    refine T2.out.mono ?_
    rintro _ w4 ⟨rfl, r4, o4⟩
    have e4 : takeR sameT s1 = s1.drop 5 := by unfold takeR; rw [if_pos hsm]; rfl
    rw [e4] at r4
    have Y4 := Lib.hid (Y3.out.read r4 o4)
    clear Y3 T2 r4 o4 e4
    have c1 : w4.cell? ⟨B, 1, none⟩ = some (.int .i64 0) := Y4.out.c 1
    have f1 := Y4.out.f 1
    have Y4b : Hid (YSt P B (s1.drop 5) #[.bool e0, .int .i64 1, .int .i64 0, .int .i64 0, .string ⟨#[]⟩, .slice none 0 0, .string ⟨#[]⟩, .int .i64 0, .int .i64 0, .string ⟨#[]⟩, .slice none 0 0, .int .i64 0, .int .i64 0, .string ⟨#[]⟩, .slice none 0 0] w (w4.setCell ⟨B, 1, none⟩ (.int .i64 1))) := Y4.out.put 1 rfl
    obtain ⟨w4b, hw4b⟩ : ∃ x, x = w4.setCell ⟨B, 1, none⟩ (.int .i64 1) := ⟨_, rfl⟩
    rw [← hw4b] at Y4b
    have HW4B := Lib.hid hw4b
    have hl4 : (s1.drop 5).length ≤ s1.length := by simp
    have EX := Lib.hid (expr_any ((s1.drop 5).length + 1) (s1.drop 5) P w4b w (by omega) (by omega) Y4b.out.rd Y4b.out.bel (by omega) HE.out)
    clear Y4 hw4b
    go_wp2_with (go_at_call 59; refine Hid.out ?_)
    rw [← HW4B.out]
    clear c1 f1 HW4B
    refine Lib.hid ?_
    refine EX.out.mono ?_
    intro ex w5 hsaid
    obtain ⟨iff, s3, ai, ci, rfl, li5, re5, r5, o5⟩ := Ly.made hsaid (blockLt Y4b.out.ex)
    have Y5 := Lib.hid (Y4b.out.read r5 o5)
    clear hsaid EX Y4b r5 o5
    have q2 : w5.cell? ⟨B, 2, none⟩ = some (.int .i64 0) := Y5.out.c 2
    have q3 : w5.cell? ⟨B, 3, none⟩ = some (.int .i64 0) := Y5.out.c 3
    have q4 : w5.cell? ⟨B, 4, none⟩ = some (.string ⟨#[]⟩) := Y5.out.c 4
    have q5 : w5.cell? ⟨B, 5, none⟩ = some (.slice none 0 0) := Y5.out.c 5
    have f2 := Y5.out.f 2
    have f3 := Y5.out.f 3
    have f4 := Y5.out.f 4
    have f5 := Y5.out.f 5
    obtain ⟨w6, hw6⟩ : ∃ x, x = (((w5.setCell ⟨B, 2, none⟩ (.int .i64 iff.k)).setCell ⟨B, 3, none⟩ (.int .i64 iff.n)).setCell ⟨B, 4, none⟩ (.string (bs iff.s))).setCell ⟨B, 5, none⟩ (.slice ai iff.a.length ci) := ⟨_, rfl⟩
    have Y6 : Hid (YSt P B s3 #[.bool e0, .int .i64 1, .int .i64 iff.k, .int .i64 iff.n, .string (bs iff.s), .slice ai iff.a.length ci, .string ⟨#[]⟩, .int .i64 0, .int .i64 0, .string ⟨#[]⟩, .slice none 0 0, .int .i64 0, .int .i64 0, .string ⟨#[]⟩, .slice none 0 0] w w6) := by
      rw [hw6]
      exact (((Y5.out.put 2 rfl).put 3 rfl).put 4 rfl).put 5 rfl
    have L6 : Hid (Ly B w6 (.slice ai iff.a.length ci) iff) := by
      rw [hw6]
      exact (((li5.put (Nat.le_refl _)).put (Nat.le_refl _)).put (Nat.le_refl _)).put (Nat.le_refl _)
    have HW6 := Lib.hid hw6
    have hl6 : s3.length ≤ s1.length := by have := re5.1; omega
    have SK6 := Lib.hid (skip_any P s3 1 w6 Y6.out.rd (by omega) (by omega))
    clear Y5 hw6 li5
    go_wp2_with (go_at_call 56; refine Hid.out ?_)
    rw [← HW6.out]
    clear q2 q3 q4 q5 f2 f3 f4 f5 HW6
    refine Lib.hid ?_
    refine SK6.out.mono ?_
    rintro _ w7 ⟨rfl, r7, o7⟩
    have Y7 := Lib.hid (Y6.out.read r7 o7)
    have L7 := Lib.hid (L6.out.only o7 Y6.out.ltB)
    have hl7 : (s3.drop 1).length ≤ s3.length := by simp
    have QU := Lib.hid (quoted_any P (s3.drop 1) w7 r7 (by omega))
    clear SK6 Y6 L6 r7 o7
    go_wp2_with (go_at_call 60; refine Hid.out ?_)
    refine Lib.hid ?_
    refine QU.out.mono ?_
    rintro _ w8 ⟨rfl, r8, o8⟩
    have Y8 := Lib.hid (Y7.out.read r8 o8)
    have L8 := Lib.hid (L7.out.only o8 Y7.out.ltB)
    obtain ⟨S, hS⟩ : ∃ S, S = (unqL ((s3.drop 1).drop 1)).1 := ⟨_, rfl⟩
    obtain ⟨s4, hs4⟩ : ∃ s4, s4 = (unqL ((s3.drop 1).drop 1)).2 := ⟨_, rfl⟩
    rw [← hs4] at Y8
    rw [← hS]
    have hl8 : s4.length ≤ s3.length := by
      have := unq_len _ ((s3.drop 1).drop 1) (Nat.le_refl _)
      rw [← hs4] at this
      simp at this; omega
    have HRW : Hid (ReadsW (s1.drop 5) iff S (s4.drop 1)) := ⟨s3, re5, by rw [hS, hs4]⟩
    clear QU Y7 L7 r8 o8 hS hs4
    have q6 : w8.cell? ⟨B, 6, none⟩ = some (.string ⟨#[]⟩) := Y8.out.c 6
    have f6 := Y8.out.f 6
    obtain ⟨w9, hw9⟩ : ∃ x, x = w8.setCell ⟨B, 6, none⟩ (.string (bs S)) := ⟨_, rfl⟩
    have Y9 : Hid (YSt P B s4 #[.bool e0, .int .i64 1, .int .i64 iff.k, .int .i64 iff.n, .string (bs iff.s), .slice ai iff.a.length ci, .string (bs S), .int .i64 0, .int .i64 0, .string ⟨#[]⟩, .slice none 0 0, .int .i64 0, .int .i64 0, .string ⟨#[]⟩, .slice none 0 0] w w9) := by
      rw [hw9]
      exact Y8.out.put 6 rfl
    have L9 : Hid (Ly B w9 (.slice ai iff.a.length ci) iff) := by
      rw [hw9]
      exact L8.out.put (Nat.le_refl _)
    have HW9 := Lib.hid hw9
    have SK9 := Lib.hid (skip_any P s4 1 w9 Y9.out.rd (by omega) (by omega))
    clear Y8 hw9 L8
    go_wp2_with (go_at_call 56; refine Hid.out ?_)
    rw [← HW9.out]
    clear q6 f6 HW9
    refine Lib.hid ?_
    refine SK9.out.mono ?_
    rintro _ w10 ⟨rfl, r10, o10⟩
    have Y10 := Lib.hid (Y9.out.read r10 o10)
    have LI := Lib.hid (L9.out.only o10 Y9.out.ltB)
    obtain ⟨s5, hs5⟩ : ∃ s5, s5 = s4.drop 1 := ⟨_, rfl⟩
    rw [← hs5] at Y10 HRW
    have hl5 : s5.length ≤ line.length := by rw [hs5]; simp; omega
    have HFIN : Hid (∀ key val, ReadsKV s5 key val → ReadsR line ⟨e0, 1, iff, S, key, val⟩) := fun key val h => by
      have hq := Or.inl (b := sameT.isPrefixOf (takeR eachT line) = false) (rfl : true = true)
      have h3 := HRW.out
      rw [HS1.out] at h3
      rw [HE0.out]
      exact rule_when true (by rw [← HS1.out]; exact hsm) hq h3 h
    clear SK9 Y9 L9 r10 o10 hs5
    go_wp2_with (go_at_call 56; refine Hid.out ?_)
    refine Lib.hid ?_
    refine (skip_any P s5 4 w10 Y10.out.rd (by omega) (by omega)).mono ?_
    rintro _ w11 ⟨rfl, r11, o11⟩
    have Y11 := Lib.hid (Y10.out.read r11 o11)
    have L11 := Lib.hid (LI.out.only o11 Y10.out.ltB)
    have hl11 : (s5.drop 4).length ≤ s5.length := by simp
    have EK := Lib.hid (expr_any ((s5.drop 4).length + 1) (s5.drop 4) P w11 w (by omega) (by omega) Y11.out.rd Y11.out.bel (by omega) HE.out)
    clear Y10 LI r11 o11
    go_wp2_with (go_at_call 59; refine Hid.out ?_)
    refine Lib.hid ?_
    refine EK.out.mono ?_
    intro ek w12 hsaid
    obtain ⟨key, s7, ak, ck, rfl, lk12, rek, r12, o12⟩ := Ly.made hsaid (blockLt Y11.out.ex)
    have Y12 := Lib.hid (Y11.out.read r12 o12)
    have L12 := Lib.hid (L11.out.only o12 Y11.out.ltB)
    clear hsaid EK Y11 L11 r12 o12
    have q7 : w12.cell? ⟨B, 7, none⟩ = some (.int .i64 0) := Y12.out.c 7
    have q8 : w12.cell? ⟨B, 8, none⟩ = some (.int .i64 0) := Y12.out.c 8
    have q9 : w12.cell? ⟨B, 9, none⟩ = some (.string ⟨#[]⟩) := Y12.out.c 9
    have q10 : w12.cell? ⟨B, 10, none⟩ = some (.slice none 0 0) := Y12.out.c 10
    have f7 := Y12.out.f 7
    have f8 := Y12.out.f 8
    have f9 := Y12.out.f 9
    have f10 := Y12.out.f 10
    obtain ⟨w13, hw13⟩ : ∃ x, x = (((w12.setCell ⟨B, 7, none⟩ (.int .i64 key.k)).setCell ⟨B, 8, none⟩ (.int .i64 key.n)).setCell ⟨B, 9, none⟩ (.string (bs key.s))).setCell ⟨B, 10, none⟩ (.slice ak key.a.length ck) := ⟨_, rfl⟩
    have Y13 : Hid (YSt P B s7 #[.bool e0, .int .i64 1, .int .i64 (iff.k), .int .i64 (iff.n), .string (bs (iff.s)), .slice ai iff.a.length ci, .string (bs S), .int .i64 key.k, .int .i64 key.n, .string (bs key.s), .slice ak key.a.length ck, .int .i64 0, .int .i64 0, .string ⟨#[]⟩, .slice none 0 0] w w13) := by
      rw [hw13]
      exact (((Y12.out.put 7 rfl).put 8 rfl).put 9 rfl).put 10 rfl
    have L13 : Hid (Ly B w13 (.slice ai iff.a.length ci) iff) := by
      rw [hw13]
      exact (((L12.out.put (Nat.le_refl _)).put (Nat.le_refl _)).put (Nat.le_refl _)).put (Nat.le_refl _)
    have K13 : Hid (Ly B w13 (.slice ak key.a.length ck) key) := by
      rw [hw13]
      exact (((lk12.put (Nat.le_refl _)).put (Nat.le_refl _)).put (Nat.le_refl _)).put (Nat.le_refl _)
    have HW13 := Lib.hid hw13
    have hl13 : s7.length ≤ s5.length := by have := rek.1; omega
    have SK13 := Lib.hid (skip_any P s7 5 w13 Y13.out.rd (by omega) (by omega))
    clear Y12 L12 hw13 lk12
    go_wp2_with (go_at_call 56; refine Hid.out ?_)
    rw [← HW13.out]
    clear q7 q8 q9 q10 f7 f8 f9 f10 HW13
    refine Lib.hid ?_
    refine SK13.out.mono ?_
    rintro _ w14 ⟨rfl, r14, o14⟩
    have Y14 := Lib.hid (Y13.out.read r14 o14)
    have L14 := Lib.hid (L13.out.only o14 Y13.out.ltB)
    have K14 := Lib.hid (K13.out.only o14 Y13.out.ltB)
    have hl14 : (s7.drop 5).length ≤ s7.length := by simp
    have EV := Lib.hid (expr_any ((s7.drop 5).length + 1) (s7.drop 5) P w14 w (by omega) (by omega) Y14.out.rd Y14.out.bel (by omega) HE.out)
    clear SK13 Y13 L13 K13 r14 o14
    go_wp2_with (go_at_call 59; refine Hid.out ?_)
    refine Lib.hid ?_
    refine EV.out.mono ?_
    intro ev w15 hsaid
    obtain ⟨val, s9, av, cv, rfl, lv15, rev, r15, o15⟩ := Ly.made hsaid (blockLt Y14.out.ex)
    have Y15 := Lib.hid (Y14.out.read r15 o15)
    have L15 := Lib.hid (L14.out.only o15 Y14.out.ltB)
    have K15 := Lib.hid (K14.out.only o15 Y14.out.ltB)
    have HRR := Lib.hid (HFIN.out key val ⟨s7, s9, rek, rev⟩)
    have LV15 := Lib.hid lv15
    clear hsaid EV Y14 L14 K14 r15 o15 HFIN lv15
    have q11 : w15.cell? ⟨B, 11, none⟩ = some (.int .i64 0) := Y15.out.c 11
    have f11 := Y15.out.f 11
    have q12 : w15.cell? ⟨B, 12, none⟩ = some (.int .i64 0) := Y15.out.c 12
    have f12 := Y15.out.f 12
    have q13 : w15.cell? ⟨B, 13, none⟩ = some (.string ⟨#[]⟩) := Y15.out.c 13
    have f13 := Y15.out.f 13
    have q14 : w15.cell? ⟨B, 14, none⟩ = some (.slice none 0 0) := Y15.out.c 14
    have f14 := Y15.out.f 14
    have hBlt : w.heap.size < B := by have := Y15.out.ltB; omega
    obtain ⟨w16, hw16⟩ : ∃ x, x = (((w15.setCell ⟨B, 11, none⟩ (.int .i64 val.k)).setCell ⟨B, 12, none⟩ (.int .i64 val.n)).setCell ⟨B, 13, none⟩ (.string (bs val.s))).setCell ⟨B, 14, none⟩ (.slice av val.a.length cv) := ⟨_, rfl⟩
    have Y16 : Hid (YSt P B s9 #[.bool e0, .int .i64 1, .int .i64 (iff.k), .int .i64 (iff.n), .string (bs (iff.s)), .slice ai iff.a.length ci, .string (bs S), .int .i64 key.k, .int .i64 key.n, .string (bs key.s), .slice ak key.a.length ck, .int .i64 val.k, .int .i64 val.n, .string (bs val.s), .slice av val.a.length cv] w w16) := by
      rw [hw16]
      exact (((Y15.out.put 11 rfl).put 12 rfl).put 13 rfl).put 14 rfl
    have L16 := Lib.hid ((((L15.out.put (b := B) (j := 11) (u := .int .i64 val.k) (Nat.le_refl _)).put (b := B) (j := 12) (u := .int .i64 val.n) (Nat.le_refl _)).put (b := B) (j := 13) (u := .string (bs val.s)) (Nat.le_refl _)).put (b := B) (j := 14) (u := .slice av val.a.length cv) (Nat.le_refl _))
    rw [← hw16] at L16
    have K16 := Lib.hid ((((K15.out.put (b := B) (j := 11) (u := .int .i64 val.k) (Nat.le_refl _)).put (b := B) (j := 12) (u := .int .i64 val.n) (Nat.le_refl _)).put (b := B) (j := 13) (u := .string (bs val.s)) (Nat.le_refl _)).put (b := B) (j := 14) (u := .slice av val.a.length cv) (Nat.le_refl _))
    rw [← hw16] at K16
    have V16 := Lib.hid ((((LV15.out.put (b := B) (j := 11) (u := .int .i64 val.k) (Nat.le_refl _)).put (b := B) (j := 12) (u := .int .i64 val.n) (Nat.le_refl _)).put (b := B) (j := 13) (u := .string (bs val.s)) (Nat.le_refl _)).put (b := B) (j := 14) (u := .slice av val.a.length cv) (Nat.le_refl _))
    rw [← hw16] at V16
    have HW16 := Lib.hid hw16
    clear Y15 L15 K15 LV15 hw16
    go_upto_region 16 with fail
    rw [← HW16.out]
    clear q11 q12 q13 q14 f11 f12 f13 f14 HW16
    refine wp_region_lit ?_
    refine wpList_loadR rfl (.tmp 4) rfl B #[.bool e0, .int .i64 1, .int .i64 (iff.k), .int .i64 (iff.n), .string (bs (iff.s)), .slice ai iff.a.length ci, .string (bs S), .int .i64 key.k, .int .i64 key.n, .string (bs key.s), .slice ak key.a.length ck, .int .i64 val.k, .int .i64 val.n, .string (bs val.s), .slice av val.a.length cv] rfl Y16.out.ex rfl ?_
    refine wpList_storeR rfl (.tmp 2) (.tmp 28) rfl w.heap.size zeroR #[.bool e0, .int .i64 1, .int .i64 (iff.k), .int .i64 (iff.n), .string (bs (iff.s)), .slice ai iff.a.length ci, .string (bs S), .int .i64 key.k, .int .i64 key.n, .string (bs key.s), .slice ak key.a.length ck, .int .i64 val.k, .int .i64 val.n, .string (bs val.s), .slice av val.a.length cv] rfl rfl Y16.out.res ⟨rfl, rfl⟩ (by simp [Value.oneCell']) ?_
    go_wp2
    (try simp only [Exit.inBlock, Exit.then])
    have g14 := setRow_heap w16 w.heap.size _ #[.bool e0, .int .i64 1, .int .i64 (iff.k), .int .i64 (iff.n), .string (bs (iff.s)), .slice ai iff.a.length ci, .string (bs S), .int .i64 key.k, .int .i64 key.n, .string (bs key.s), .slice ak key.a.length ck, .int .i64 val.k, .int .i64 val.n, .string (bs val.s), .slice av val.a.length cv] _ _ Y16.out.res
    refine bodyPost_ret (results_cell_row rfl _ _ w.heap.size 46 #[.bool e0, .int .i64 1, .int .i64 (iff.k), .int .i64 (iff.n), .string (bs (iff.s)), .slice ai iff.a.length ci, .string (bs S), .int .i64 key.k, .int .i64 key.n, .string (bs key.s), .slice ak key.a.length ck, .int .i64 val.k, .int .i64 val.n, .string (bs val.s), .slice av val.a.length cv] (0, 0) _ rfl g14 Tryz.underlying46 rfl (by kernel_rfl)) rfl ?_
    refine ⟨⟨e0, 1, iff, S, key, val⟩, ai, ci, ak, ck, av, cv, rfl, ?_, ?_, ?_, HRR.out, ?_⟩
    · exact (L16.out.row hBlt _).wide.wide (by omega) (Nat.le_refl _)
    · exact (K16.out.row hBlt _).wide.wide (by omega) (Nat.le_refl _)
    · exact (V16.out.row hBlt _).wide.wide (by omega) (Nat.le_refl _)
    · exact below_setRow Y16.out.bel (Nat.le_refl _) _
  | false =>
    rw [hsm, takeR_not hsm] at T2
    refine T2.out.mono ?_
    rintro _ w4a ⟨rfl, r4a, o4a⟩
    have Y4a := Lib.hid (Y3.out.read r4a o4a)
    clear Y3 T2 r4a o4a
    have T3 : Hid (Calls Tryz.prog 58 #[.pointer (some ⟨P, 0, none⟩), .string ⟨#[111, 116, 104, 101, 114, 32]⟩] w4a fun e w' => e = .returned (.bool (otherT.isPrefixOf s1)) ∧ RdAt P (takeR otherT s1) w' ∧ Only P w4a w') := take_any P s1 otherT w4a Y4a.out.rd
    go_wp2_with (go_at_call 58; refine Hid.out ?_)
    refine Lib.hid ?_
    cases hot : otherT.isPrefixOf s1 with
    | true =>
      rw [hot] at T3
      refine T3.out.mono ?_
      rintro _ w4 ⟨rfl, r4, o4⟩
      have e4 : takeR otherT s1 = s1.drop 6 := by unfold takeR; rw [if_pos hot]; rfl
      rw [e4] at r4
      have Y4 := Lib.hid (Y4a.out.read r4 o4)
      clear Y4a T3 r4 o4 e4
      have c1 : w4.cell? ⟨B, 1, none⟩ = some (.int .i64 0) := Y4.out.c 1
      have f1 := Y4.out.f 1
      have Y4b : Hid (YSt P B (s1.drop 6) #[.bool e0, .int .i64 2, .int .i64 0, .int .i64 0, .string ⟨#[]⟩, .slice none 0 0, .string ⟨#[]⟩, .int .i64 0, .int .i64 0, .string ⟨#[]⟩, .slice none 0 0, .int .i64 0, .int .i64 0, .string ⟨#[]⟩, .slice none 0 0] w (w4.setCell ⟨B, 1, none⟩ (.int .i64 2))) := Y4.out.put 1 rfl
      obtain ⟨w4b, hw4b⟩ : ∃ x, x = w4.setCell ⟨B, 1, none⟩ (.int .i64 2) := ⟨_, rfl⟩
      rw [← hw4b] at Y4b
      have HW4B := Lib.hid hw4b
      have hl4 : (s1.drop 6).length ≤ s1.length := by simp
      have EX := Lib.hid (expr_any ((s1.drop 6).length + 1) (s1.drop 6) P w4b w (by omega) (by omega) Y4b.out.rd Y4b.out.bel (by omega) HE.out)
      clear Y4 hw4b
      go_wp2_with (go_at_call 59; refine Hid.out ?_)
      rw [← HW4B.out]
      clear c1 f1 HW4B
      refine Lib.hid ?_
      refine EX.out.mono ?_
      intro ex w5 hsaid
      obtain ⟨iff, s3, ai, ci, rfl, li5, re5, r5, o5⟩ := Ly.made hsaid (blockLt Y4b.out.ex)
      have Y5 := Lib.hid (Y4b.out.read r5 o5)
      clear hsaid EX Y4b r5 o5
      have q2 : w5.cell? ⟨B, 2, none⟩ = some (.int .i64 0) := Y5.out.c 2
      have q3 : w5.cell? ⟨B, 3, none⟩ = some (.int .i64 0) := Y5.out.c 3
      have q4 : w5.cell? ⟨B, 4, none⟩ = some (.string ⟨#[]⟩) := Y5.out.c 4
      have q5 : w5.cell? ⟨B, 5, none⟩ = some (.slice none 0 0) := Y5.out.c 5
      have f2 := Y5.out.f 2
      have f3 := Y5.out.f 3
      have f4 := Y5.out.f 4
      have f5 := Y5.out.f 5
      obtain ⟨w6, hw6⟩ : ∃ x, x = (((w5.setCell ⟨B, 2, none⟩ (.int .i64 iff.k)).setCell ⟨B, 3, none⟩ (.int .i64 iff.n)).setCell ⟨B, 4, none⟩ (.string (bs iff.s))).setCell ⟨B, 5, none⟩ (.slice ai iff.a.length ci) := ⟨_, rfl⟩
      have Y6 : Hid (YSt P B s3 #[.bool e0, .int .i64 2, .int .i64 iff.k, .int .i64 iff.n, .string (bs iff.s), .slice ai iff.a.length ci, .string ⟨#[]⟩, .int .i64 0, .int .i64 0, .string ⟨#[]⟩, .slice none 0 0, .int .i64 0, .int .i64 0, .string ⟨#[]⟩, .slice none 0 0] w w6) := by
        rw [hw6]
        exact (((Y5.out.put 2 rfl).put 3 rfl).put 4 rfl).put 5 rfl
      have L6 : Hid (Ly B w6 (.slice ai iff.a.length ci) iff) := by
        rw [hw6]
        exact (((li5.put (Nat.le_refl _)).put (Nat.le_refl _)).put (Nat.le_refl _)).put (Nat.le_refl _)
      have HW6 := Lib.hid hw6
      have hl6 : s3.length ≤ s1.length := by have := re5.1; omega
      have SK6 := Lib.hid (skip_any P s3 1 w6 Y6.out.rd (by omega) (by omega))
      clear Y5 hw6 li5
      go_wp2_with (go_at_call 56; refine Hid.out ?_)
      rw [← HW6.out]
      clear q2 q3 q4 q5 f2 f3 f4 f5 HW6
      refine Lib.hid ?_
      refine SK6.out.mono ?_
      rintro _ w7 ⟨rfl, r7, o7⟩
      have Y7 := Lib.hid (Y6.out.read r7 o7)
      have L7 := Lib.hid (L6.out.only o7 Y6.out.ltB)
      have hl7 : (s3.drop 1).length ≤ s3.length := by simp
      have QU := Lib.hid (quoted_any P (s3.drop 1) w7 r7 (by omega))
      clear SK6 Y6 L6 r7 o7
      go_wp2_with (go_at_call 60; refine Hid.out ?_)
      refine Lib.hid ?_
      refine QU.out.mono ?_
      rintro _ w8 ⟨rfl, r8, o8⟩
      have Y8 := Lib.hid (Y7.out.read r8 o8)
      have L8 := Lib.hid (L7.out.only o8 Y7.out.ltB)
      obtain ⟨S, hS⟩ : ∃ S, S = (unqL ((s3.drop 1).drop 1)).1 := ⟨_, rfl⟩
      obtain ⟨s4, hs4⟩ : ∃ s4, s4 = (unqL ((s3.drop 1).drop 1)).2 := ⟨_, rfl⟩
      rw [← hs4] at Y8
      rw [← hS]
      have hl8 : s4.length ≤ s3.length := by
        have := unq_len _ ((s3.drop 1).drop 1) (Nat.le_refl _)
        rw [← hs4] at this
        simp at this; omega
      have HRW : Hid (ReadsW (s1.drop 6) iff S (s4.drop 1)) := ⟨s3, re5, by rw [hS, hs4]⟩
      clear QU Y7 L7 r8 o8 hS hs4
      have q6 : w8.cell? ⟨B, 6, none⟩ = some (.string ⟨#[]⟩) := Y8.out.c 6
      have f6 := Y8.out.f 6
      obtain ⟨w9, hw9⟩ : ∃ x, x = w8.setCell ⟨B, 6, none⟩ (.string (bs S)) := ⟨_, rfl⟩
      have Y9 : Hid (YSt P B s4 #[.bool e0, .int .i64 2, .int .i64 iff.k, .int .i64 iff.n, .string (bs iff.s), .slice ai iff.a.length ci, .string (bs S), .int .i64 0, .int .i64 0, .string ⟨#[]⟩, .slice none 0 0, .int .i64 0, .int .i64 0, .string ⟨#[]⟩, .slice none 0 0] w w9) := by
        rw [hw9]
        exact Y8.out.put 6 rfl
      have L9 : Hid (Ly B w9 (.slice ai iff.a.length ci) iff) := by
        rw [hw9]
        exact L8.out.put (Nat.le_refl _)
      have HW9 := Lib.hid hw9
      have SK9 := Lib.hid (skip_any P s4 1 w9 Y9.out.rd (by omega) (by omega))
      clear Y8 hw9 L8
      go_wp2_with (go_at_call 56; refine Hid.out ?_)
      rw [← HW9.out]
      clear q6 f6 HW9
      refine Lib.hid ?_
      refine SK9.out.mono ?_
      rintro _ w10 ⟨rfl, r10, o10⟩
      have Y10 := Lib.hid (Y9.out.read r10 o10)
      have LI := Lib.hid (L9.out.only o10 Y9.out.ltB)
      obtain ⟨s5, hs5⟩ : ∃ s5, s5 = s4.drop 1 := ⟨_, rfl⟩
      rw [← hs5] at Y10 HRW
      have hl5 : s5.length ≤ line.length := by rw [hs5]; simp; omega
      have HFIN : Hid (∀ key val, ReadsKV s5 key val → ReadsR line ⟨e0, 2, iff, S, key, val⟩) := fun key val h => by
        have hq := Or.inr (a := false = true) (show sameT.isPrefixOf (takeR eachT line) = false by rw [← HS1.out]; exact hsm)
        have h3 := HRW.out
        rw [HS1.out] at h3
        rw [HE0.out]
        exact rule_when false (by rw [← HS1.out]; exact hot) hq h3 h
      clear SK9 Y9 L9 r10 o10 hs5
      go_wp2_with (go_at_call 56; refine Hid.out ?_)
      refine Lib.hid ?_
      refine (skip_any P s5 4 w10 Y10.out.rd (by omega) (by omega)).mono ?_
      rintro _ w11 ⟨rfl, r11, o11⟩
      have Y11 := Lib.hid (Y10.out.read r11 o11)
      have L11 := Lib.hid (LI.out.only o11 Y10.out.ltB)
      have hl11 : (s5.drop 4).length ≤ s5.length := by simp
      have EK := Lib.hid (expr_any ((s5.drop 4).length + 1) (s5.drop 4) P w11 w (by omega) (by omega) Y11.out.rd Y11.out.bel (by omega) HE.out)
      clear Y10 LI r11 o11
      go_wp2_with (go_at_call 59; refine Hid.out ?_)
      refine Lib.hid ?_
      refine EK.out.mono ?_
      intro ek w12 hsaid
      obtain ⟨key, s7, ak, ck, rfl, lk12, rek, r12, o12⟩ := Ly.made hsaid (blockLt Y11.out.ex)
      have Y12 := Lib.hid (Y11.out.read r12 o12)
      have L12 := Lib.hid (L11.out.only o12 Y11.out.ltB)
      clear hsaid EK Y11 L11 r12 o12
      have q7 : w12.cell? ⟨B, 7, none⟩ = some (.int .i64 0) := Y12.out.c 7
      have q8 : w12.cell? ⟨B, 8, none⟩ = some (.int .i64 0) := Y12.out.c 8
      have q9 : w12.cell? ⟨B, 9, none⟩ = some (.string ⟨#[]⟩) := Y12.out.c 9
      have q10 : w12.cell? ⟨B, 10, none⟩ = some (.slice none 0 0) := Y12.out.c 10
      have f7 := Y12.out.f 7
      have f8 := Y12.out.f 8
      have f9 := Y12.out.f 9
      have f10 := Y12.out.f 10
      obtain ⟨w13, hw13⟩ : ∃ x, x = (((w12.setCell ⟨B, 7, none⟩ (.int .i64 key.k)).setCell ⟨B, 8, none⟩ (.int .i64 key.n)).setCell ⟨B, 9, none⟩ (.string (bs key.s))).setCell ⟨B, 10, none⟩ (.slice ak key.a.length ck) := ⟨_, rfl⟩
      have Y13 : Hid (YSt P B s7 #[.bool e0, .int .i64 2, .int .i64 (iff.k), .int .i64 (iff.n), .string (bs (iff.s)), .slice ai iff.a.length ci, .string (bs S), .int .i64 key.k, .int .i64 key.n, .string (bs key.s), .slice ak key.a.length ck, .int .i64 0, .int .i64 0, .string ⟨#[]⟩, .slice none 0 0] w w13) := by
        rw [hw13]
        exact (((Y12.out.put 7 rfl).put 8 rfl).put 9 rfl).put 10 rfl
      have L13 : Hid (Ly B w13 (.slice ai iff.a.length ci) iff) := by
        rw [hw13]
        exact (((L12.out.put (Nat.le_refl _)).put (Nat.le_refl _)).put (Nat.le_refl _)).put (Nat.le_refl _)
      have K13 : Hid (Ly B w13 (.slice ak key.a.length ck) key) := by
        rw [hw13]
        exact (((lk12.put (Nat.le_refl _)).put (Nat.le_refl _)).put (Nat.le_refl _)).put (Nat.le_refl _)
      have HW13 := Lib.hid hw13
      have hl13 : s7.length ≤ s5.length := by have := rek.1; omega
      have SK13 := Lib.hid (skip_any P s7 5 w13 Y13.out.rd (by omega) (by omega))
      clear Y12 L12 hw13 lk12
      go_wp2_with (go_at_call 56; refine Hid.out ?_)
      rw [← HW13.out]
      clear q7 q8 q9 q10 f7 f8 f9 f10 HW13
      refine Lib.hid ?_
      refine SK13.out.mono ?_
      rintro _ w14 ⟨rfl, r14, o14⟩
      have Y14 := Lib.hid (Y13.out.read r14 o14)
      have L14 := Lib.hid (L13.out.only o14 Y13.out.ltB)
      have K14 := Lib.hid (K13.out.only o14 Y13.out.ltB)
      have hl14 : (s7.drop 5).length ≤ s7.length := by simp
      have EV := Lib.hid (expr_any ((s7.drop 5).length + 1) (s7.drop 5) P w14 w (by omega) (by omega) Y14.out.rd Y14.out.bel (by omega) HE.out)
      clear SK13 Y13 L13 K13 r14 o14
      go_wp2_with (go_at_call 59; refine Hid.out ?_)
      refine Lib.hid ?_
      refine EV.out.mono ?_
      intro ev w15 hsaid
      obtain ⟨val, s9, av, cv, rfl, lv15, rev, r15, o15⟩ := Ly.made hsaid (blockLt Y14.out.ex)
      have Y15 := Lib.hid (Y14.out.read r15 o15)
      have L15 := Lib.hid (L14.out.only o15 Y14.out.ltB)
      have K15 := Lib.hid (K14.out.only o15 Y14.out.ltB)
      have HRR := Lib.hid (HFIN.out key val ⟨s7, s9, rek, rev⟩)
      have LV15 := Lib.hid lv15
      clear hsaid EV Y14 L14 K14 r15 o15 HFIN lv15
      have q11 : w15.cell? ⟨B, 11, none⟩ = some (.int .i64 0) := Y15.out.c 11
      have f11 := Y15.out.f 11
      have q12 : w15.cell? ⟨B, 12, none⟩ = some (.int .i64 0) := Y15.out.c 12
      have f12 := Y15.out.f 12
      have q13 : w15.cell? ⟨B, 13, none⟩ = some (.string ⟨#[]⟩) := Y15.out.c 13
      have f13 := Y15.out.f 13
      have q14 : w15.cell? ⟨B, 14, none⟩ = some (.slice none 0 0) := Y15.out.c 14
      have f14 := Y15.out.f 14
      have hBlt : w.heap.size < B := by have := Y15.out.ltB; omega
      obtain ⟨w16, hw16⟩ : ∃ x, x = (((w15.setCell ⟨B, 11, none⟩ (.int .i64 val.k)).setCell ⟨B, 12, none⟩ (.int .i64 val.n)).setCell ⟨B, 13, none⟩ (.string (bs val.s))).setCell ⟨B, 14, none⟩ (.slice av val.a.length cv) := ⟨_, rfl⟩
      have Y16 : Hid (YSt P B s9 #[.bool e0, .int .i64 2, .int .i64 (iff.k), .int .i64 (iff.n), .string (bs (iff.s)), .slice ai iff.a.length ci, .string (bs S), .int .i64 key.k, .int .i64 key.n, .string (bs key.s), .slice ak key.a.length ck, .int .i64 val.k, .int .i64 val.n, .string (bs val.s), .slice av val.a.length cv] w w16) := by
        rw [hw16]
        exact (((Y15.out.put 11 rfl).put 12 rfl).put 13 rfl).put 14 rfl
      have L16 := Lib.hid ((((L15.out.put (b := B) (j := 11) (u := .int .i64 val.k) (Nat.le_refl _)).put (b := B) (j := 12) (u := .int .i64 val.n) (Nat.le_refl _)).put (b := B) (j := 13) (u := .string (bs val.s)) (Nat.le_refl _)).put (b := B) (j := 14) (u := .slice av val.a.length cv) (Nat.le_refl _))
      rw [← hw16] at L16
      have K16 := Lib.hid ((((K15.out.put (b := B) (j := 11) (u := .int .i64 val.k) (Nat.le_refl _)).put (b := B) (j := 12) (u := .int .i64 val.n) (Nat.le_refl _)).put (b := B) (j := 13) (u := .string (bs val.s)) (Nat.le_refl _)).put (b := B) (j := 14) (u := .slice av val.a.length cv) (Nat.le_refl _))
      rw [← hw16] at K16
      have V16 := Lib.hid ((((LV15.out.put (b := B) (j := 11) (u := .int .i64 val.k) (Nat.le_refl _)).put (b := B) (j := 12) (u := .int .i64 val.n) (Nat.le_refl _)).put (b := B) (j := 13) (u := .string (bs val.s)) (Nat.le_refl _)).put (b := B) (j := 14) (u := .slice av val.a.length cv) (Nat.le_refl _))
      rw [← hw16] at V16
      have HW16 := Lib.hid hw16
      clear Y15 L15 K15 LV15 hw16
      go_upto_region 16 with fail
      rw [← HW16.out]
      clear q11 q12 q13 q14 f11 f12 f13 f14 HW16
      refine wp_region_lit ?_
      refine wpList_loadR rfl (.tmp 4) rfl B #[.bool e0, .int .i64 2, .int .i64 (iff.k), .int .i64 (iff.n), .string (bs (iff.s)), .slice ai iff.a.length ci, .string (bs S), .int .i64 key.k, .int .i64 key.n, .string (bs key.s), .slice ak key.a.length ck, .int .i64 val.k, .int .i64 val.n, .string (bs val.s), .slice av val.a.length cv] rfl Y16.out.ex rfl ?_
      refine wpList_storeR rfl (.tmp 2) (.tmp 28) rfl w.heap.size zeroR #[.bool e0, .int .i64 2, .int .i64 (iff.k), .int .i64 (iff.n), .string (bs (iff.s)), .slice ai iff.a.length ci, .string (bs S), .int .i64 key.k, .int .i64 key.n, .string (bs key.s), .slice ak key.a.length ck, .int .i64 val.k, .int .i64 val.n, .string (bs val.s), .slice av val.a.length cv] rfl rfl Y16.out.res ⟨rfl, rfl⟩ (by simp [Value.oneCell']) ?_
      go_wp2
      (try simp only [Exit.inBlock, Exit.then])
      have g14 := setRow_heap w16 w.heap.size _ #[.bool e0, .int .i64 2, .int .i64 (iff.k), .int .i64 (iff.n), .string (bs (iff.s)), .slice ai iff.a.length ci, .string (bs S), .int .i64 key.k, .int .i64 key.n, .string (bs key.s), .slice ak key.a.length ck, .int .i64 val.k, .int .i64 val.n, .string (bs val.s), .slice av val.a.length cv] _ _ Y16.out.res
      refine bodyPost_ret (results_cell_row rfl _ _ w.heap.size 46 #[.bool e0, .int .i64 2, .int .i64 (iff.k), .int .i64 (iff.n), .string (bs (iff.s)), .slice ai iff.a.length ci, .string (bs S), .int .i64 key.k, .int .i64 key.n, .string (bs key.s), .slice ak key.a.length ck, .int .i64 val.k, .int .i64 val.n, .string (bs val.s), .slice av val.a.length cv] (0, 0) _ rfl g14 Tryz.underlying46 rfl (by kernel_rfl)) rfl ?_
      refine ⟨⟨e0, 2, iff, S, key, val⟩, ai, ci, ak, ck, av, cv, rfl, ?_, ?_, ?_, HRR.out, ?_⟩
      · exact (L16.out.row hBlt _).wide.wide (by omega) (Nat.le_refl _)
      · exact (K16.out.row hBlt _).wide.wide (by omega) (Nat.le_refl _)
      · exact (V16.out.row hBlt _).wide.wide (by omega) (Nat.le_refl _)
      · exact below_setRow Y16.out.bel (Nat.le_refl _) _
    | false =>
      rw [hot, takeR_not hot] at T3
      refine T3.out.mono ?_
      rintro _ w5 ⟨rfl, r5, o5⟩
      have Y5 := Lib.hid (Y4a.out.read r5 o5)
      clear Y4a T3 r5 o5
      have c1 : w5.cell? ⟨B, 1, none⟩ = some (.int .i64 0) := Y5.out.c 1
      have LI := Lib.hid (Ly.zero B w5)
      obtain ⟨s5, hs5⟩ : ∃ s5, s5 = s1 := ⟨_, rfl⟩
      rw [← hs5] at Y5
      have hl5 : s5.length ≤ line.length := by rw [hs5]; exact hl0
      have HFIN : Hid (∀ key val, ReadsKV s5 key val → ReadsR line ⟨e0, 0, .mk 0 0 [] [], [], key, val⟩) := fun key val h => by
        rw [HE0.out]
        rw [hs5, HS1.out] at h
        rw [HS1.out] at hsm hot
        exact rule_always hsm hot h
      clear hsm hot hs5
      go_wp2_with (go_at_call 56; refine Hid.out ?_)
      clear c1
      refine Lib.hid ?_
      refine (skip_any P s5 4 w5 Y5.out.rd (by omega) (by omega)).mono ?_
      rintro _ w11 ⟨rfl, r11, o11⟩
      have Y11 := Lib.hid (Y5.out.read r11 o11)
      have L11 := Lib.hid (LI.out.only o11 Y5.out.ltB)
      have hl11 : (s5.drop 4).length ≤ s5.length := by simp
      have EK := Lib.hid (expr_any ((s5.drop 4).length + 1) (s5.drop 4) P w11 w (by omega) (by omega) Y11.out.rd Y11.out.bel (by omega) HE.out)
      clear Y5 LI r11 o11
      go_wp2_with (go_at_call 59; refine Hid.out ?_)
      refine Lib.hid ?_
      refine EK.out.mono ?_
      intro ek w12 hsaid
      obtain ⟨key, s7, ak, ck, rfl, lk12, rek, r12, o12⟩ := Ly.made hsaid (blockLt Y11.out.ex)
      have Y12 := Lib.hid (Y11.out.read r12 o12)
      have L12 := Lib.hid (L11.out.only o12 Y11.out.ltB)
      clear hsaid EK Y11 L11 r12 o12
      have q7 : w12.cell? ⟨B, 7, none⟩ = some (.int .i64 0) := Y12.out.c 7
      have q8 : w12.cell? ⟨B, 8, none⟩ = some (.int .i64 0) := Y12.out.c 8
      have q9 : w12.cell? ⟨B, 9, none⟩ = some (.string ⟨#[]⟩) := Y12.out.c 9
      have q10 : w12.cell? ⟨B, 10, none⟩ = some (.slice none 0 0) := Y12.out.c 10
      have f7 := Y12.out.f 7
      have f8 := Y12.out.f 8
      have f9 := Y12.out.f 9
      have f10 := Y12.out.f 10
      obtain ⟨w13, hw13⟩ : ∃ x, x = (((w12.setCell ⟨B, 7, none⟩ (.int .i64 key.k)).setCell ⟨B, 8, none⟩ (.int .i64 key.n)).setCell ⟨B, 9, none⟩ (.string (bs key.s))).setCell ⟨B, 10, none⟩ (.slice ak key.a.length ck) := ⟨_, rfl⟩
      have Y13 : Hid (YSt P B s7 #[.bool e0, .int .i64 0, .int .i64 (0), .int .i64 (0), .string (bs ([])), .slice none 0 0, .string (bs []), .int .i64 key.k, .int .i64 key.n, .string (bs key.s), .slice ak key.a.length ck, .int .i64 0, .int .i64 0, .string ⟨#[]⟩, .slice none 0 0] w w13) := by
        rw [hw13]
        exact (((Y12.out.put 7 rfl).put 8 rfl).put 9 rfl).put 10 rfl
      have L13 : Hid (Ly B w13 (.slice none 0 0) (.mk 0 0 [] [])) := by
        rw [hw13]
        exact (((L12.out.put (Nat.le_refl _)).put (Nat.le_refl _)).put (Nat.le_refl _)).put (Nat.le_refl _)
      have K13 : Hid (Ly B w13 (.slice ak key.a.length ck) key) := by
        rw [hw13]
        exact (((lk12.put (Nat.le_refl _)).put (Nat.le_refl _)).put (Nat.le_refl _)).put (Nat.le_refl _)
      have HW13 := Lib.hid hw13
      have hl13 : s7.length ≤ s5.length := by have := rek.1; omega
      have SK13 := Lib.hid (skip_any P s7 5 w13 Y13.out.rd (by omega) (by omega))
      clear Y12 L12 hw13 lk12
      go_wp2_with (go_at_call 56; refine Hid.out ?_)
      rw [← HW13.out]
      clear q7 q8 q9 q10 f7 f8 f9 f10 HW13
      refine Lib.hid ?_
      refine SK13.out.mono ?_
      rintro _ w14 ⟨rfl, r14, o14⟩
      have Y14 := Lib.hid (Y13.out.read r14 o14)
      have L14 := Lib.hid (L13.out.only o14 Y13.out.ltB)
      have K14 := Lib.hid (K13.out.only o14 Y13.out.ltB)
      have hl14 : (s7.drop 5).length ≤ s7.length := by simp
      have EV := Lib.hid (expr_any ((s7.drop 5).length + 1) (s7.drop 5) P w14 w (by omega) (by omega) Y14.out.rd Y14.out.bel (by omega) HE.out)
      clear SK13 Y13 L13 K13 r14 o14
      go_wp2_with (go_at_call 59; refine Hid.out ?_)
      refine Lib.hid ?_
      refine EV.out.mono ?_
      intro ev w15 hsaid
      obtain ⟨val, s9, av, cv, rfl, lv15, rev, r15, o15⟩ := Ly.made hsaid (blockLt Y14.out.ex)
      have Y15 := Lib.hid (Y14.out.read r15 o15)
      have L15 := Lib.hid (L14.out.only o15 Y14.out.ltB)
      have K15 := Lib.hid (K14.out.only o15 Y14.out.ltB)
      have HRR := Lib.hid (HFIN.out key val ⟨s7, s9, rek, rev⟩)
      have LV15 := Lib.hid lv15
      clear hsaid EV Y14 L14 K14 r15 o15 HFIN lv15
      have q11 : w15.cell? ⟨B, 11, none⟩ = some (.int .i64 0) := Y15.out.c 11
      have f11 := Y15.out.f 11
      have q12 : w15.cell? ⟨B, 12, none⟩ = some (.int .i64 0) := Y15.out.c 12
      have f12 := Y15.out.f 12
      have q13 : w15.cell? ⟨B, 13, none⟩ = some (.string ⟨#[]⟩) := Y15.out.c 13
      have f13 := Y15.out.f 13
      have q14 : w15.cell? ⟨B, 14, none⟩ = some (.slice none 0 0) := Y15.out.c 14
      have f14 := Y15.out.f 14
      have hBlt : w.heap.size < B := by have := Y15.out.ltB; omega
      obtain ⟨w16, hw16⟩ : ∃ x, x = (((w15.setCell ⟨B, 11, none⟩ (.int .i64 val.k)).setCell ⟨B, 12, none⟩ (.int .i64 val.n)).setCell ⟨B, 13, none⟩ (.string (bs val.s))).setCell ⟨B, 14, none⟩ (.slice av val.a.length cv) := ⟨_, rfl⟩
      have Y16 : Hid (YSt P B s9 #[.bool e0, .int .i64 0, .int .i64 (0), .int .i64 (0), .string (bs ([])), .slice none 0 0, .string (bs []), .int .i64 key.k, .int .i64 key.n, .string (bs key.s), .slice ak key.a.length ck, .int .i64 val.k, .int .i64 val.n, .string (bs val.s), .slice av val.a.length cv] w w16) := by
        rw [hw16]
        exact (((Y15.out.put 11 rfl).put 12 rfl).put 13 rfl).put 14 rfl
      have L16 := Lib.hid ((((L15.out.put (b := B) (j := 11) (u := .int .i64 val.k) (Nat.le_refl _)).put (b := B) (j := 12) (u := .int .i64 val.n) (Nat.le_refl _)).put (b := B) (j := 13) (u := .string (bs val.s)) (Nat.le_refl _)).put (b := B) (j := 14) (u := .slice av val.a.length cv) (Nat.le_refl _))
      rw [← hw16] at L16
      have K16 := Lib.hid ((((K15.out.put (b := B) (j := 11) (u := .int .i64 val.k) (Nat.le_refl _)).put (b := B) (j := 12) (u := .int .i64 val.n) (Nat.le_refl _)).put (b := B) (j := 13) (u := .string (bs val.s)) (Nat.le_refl _)).put (b := B) (j := 14) (u := .slice av val.a.length cv) (Nat.le_refl _))
      rw [← hw16] at K16
      have V16 := Lib.hid ((((LV15.out.put (b := B) (j := 11) (u := .int .i64 val.k) (Nat.le_refl _)).put (b := B) (j := 12) (u := .int .i64 val.n) (Nat.le_refl _)).put (b := B) (j := 13) (u := .string (bs val.s)) (Nat.le_refl _)).put (b := B) (j := 14) (u := .slice av val.a.length cv) (Nat.le_refl _))
      rw [← hw16] at V16
      have HW16 := Lib.hid hw16
      clear Y15 L15 K15 LV15 hw16
      go_upto_region 16 with fail
      rw [← HW16.out]
      clear q11 q12 q13 q14 f11 f12 f13 f14 HW16
      refine wp_region_lit ?_
      refine wpList_loadR rfl (.tmp 4) rfl B #[.bool e0, .int .i64 0, .int .i64 (0), .int .i64 (0), .string (bs ([])), .slice none 0 0, .string (bs []), .int .i64 key.k, .int .i64 key.n, .string (bs key.s), .slice ak key.a.length ck, .int .i64 val.k, .int .i64 val.n, .string (bs val.s), .slice av val.a.length cv] rfl Y16.out.ex rfl ?_
      refine wpList_storeR rfl (.tmp 2) (.tmp 28) rfl w.heap.size zeroR #[.bool e0, .int .i64 0, .int .i64 (0), .int .i64 (0), .string (bs ([])), .slice none 0 0, .string (bs []), .int .i64 key.k, .int .i64 key.n, .string (bs key.s), .slice ak key.a.length ck, .int .i64 val.k, .int .i64 val.n, .string (bs val.s), .slice av val.a.length cv] rfl rfl Y16.out.res ⟨rfl, rfl⟩ (by simp [Value.oneCell']) ?_
      go_wp2
      (try simp only [Exit.inBlock, Exit.then])
      have g14 := setRow_heap w16 w.heap.size _ #[.bool e0, .int .i64 0, .int .i64 (0), .int .i64 (0), .string (bs ([])), .slice none 0 0, .string (bs []), .int .i64 key.k, .int .i64 key.n, .string (bs key.s), .slice ak key.a.length ck, .int .i64 val.k, .int .i64 val.n, .string (bs val.s), .slice av val.a.length cv] _ _ Y16.out.res
      refine bodyPost_ret (results_cell_row rfl _ _ w.heap.size 46 #[.bool e0, .int .i64 0, .int .i64 (0), .int .i64 (0), .string (bs ([])), .slice none 0 0, .string (bs []), .int .i64 key.k, .int .i64 key.n, .string (bs key.s), .slice ak key.a.length ck, .int .i64 val.k, .int .i64 val.n, .string (bs val.s), .slice av val.a.length cv] (0, 0) _ rfl g14 Tryz.underlying46 rfl (by kernel_rfl)) rfl ?_
      refine ⟨⟨e0, 0, (.mk 0 0 [] []), [], key, val⟩, none, 0, ak, ck, av, cv, rfl, ?_, ?_, ?_, HRR.out, ?_⟩
      · exact (L16.out.row hBlt _).wide.wide (by omega) (Nat.le_refl _)
      · exact (K16.out.row hBlt _).wide.wide (by omega) (Nat.le_refl _)
      · exact (V16.out.row hBlt _).wide.wide (by omega) (Nat.le_refl _)
      · exact below_setRow Y16.out.bel (Nat.le_refl _) _
end Go.Proofs.YtfjpgjkfmcedoaaGreatDoor
