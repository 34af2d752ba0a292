/- Put together of ExV, ExW, ExF, M4c. -/
import Derived.Test.YtfjpgjkfmcedoaaGreatDoorExR
import Derived.Test.YtfjpgjkfmcedoaaGreatDoorExQ
import Derived.Test.YtfjpgjkfmcedoaaGreatDoorG8
import Derived.Test.YtfjpgjkfmcedoaaGreatDoorG9
/- Contracts of the document's answer: Words, Str, Int over expressions that may be. -/
namespace Go.Proofs.YtfjpgjkfmcedoaaGreatDoor
open Go.ChangeShapes Go.WideShapes Go.ChangeAt Go.RowKit
/-- Words so far, and the word that is begun. -/
def wst (acc : List (List UInt8)) (cur : List UInt8) : List UInt8 → List (List UInt8) × List UInt8
  | [] => (acc, cur)
  | b :: r => if b = 32 then wst (if cur = [] then acc else acc ++ [cur]) [] r else wst acc (cur ++ [b]) r
theorem wst_go (l : List UInt8) : ∀ acc cur, (wst acc cur l).1 ++ (if (wst acc cur l).2 = [] then [] else [(wst acc cur l).2]) = acc ++ wgo cur l := by
  induction l with
  | nil => intro acc cur; rfl
  | cons b r ih =>
    intro acc cur
    unfold wst wgo
    by_cases hb : b = 32
    · rw [if_pos hb, if_pos hb, ih]
      by_cases hc : cur = []
      · rw [if_pos hc, if_pos hc]
      · rw [if_neg hc, if_neg hc]; simp
    · rw [if_neg hb, if_neg hb, ih]
theorem wst_snoc (l : List UInt8) (b : UInt8) : ∀ acc cur, wst acc cur (l ++ [b]) = if b = 32 then ((if (wst acc cur l).2 = [] then (wst acc cur l).1 else (wst acc cur l).1 ++ [(wst acc cur l).2]), []) else ((wst acc cur l).1, (wst acc cur l).2 ++ [b]) := by
  induction l with
  | nil => intro acc cur; by_cases hb : b = 32 <;> by_cases hc : cur = [] <;> simp [wst, hb, hc]
  | cons x r ih =>
    intro acc cur
    simp only [List.cons_append, wst]
    split <;> exact ih _ _
theorem wst_len (l : List UInt8) : ∀ acc cur, (wst acc cur l).1.length ≤ acc.length + l.length ∧ (wst acc cur l).2.length ≤ cur.length + l.length := by
  induction l with
  | nil => intro acc cur; simp [wst]
  | cons b r ih =>
    intro acc cur
    unfold wst
    split
    · have h := ih (if cur = [] then acc else acc ++ [cur]) []
      have h2 : (if cur = [] then acc else acc ++ [cur]).length ≤ acc.length + 1 := by split <;> simp
      simp only [List.length_cons, List.length_nil] at h ⊢
      omega
    · have h := ih acc (cur ++ [b])
      simp only [List.length_cons, List.length_nil, List.length_append] at h ⊢
      omega
theorem bs_one (l : List UInt8) (k : Nat) (x : UInt8) (hx : l[k]? = some x) : (bs l).extract k (k + 1) = bs [x] := by
  obtain ⟨hk, rfl⟩ := List.getElem?_eq_some_iff.1 hx
  apply ByteArray.ext
  apply Array.ext'
  rw [ByteArray.data_extract]
  simp only [bs, Array.toList_extract, List.extract_eq_take_drop]
  simp [List.take_one, List.head?_drop, hk]
/-- Words so far at a place. -/
def wat (s : List UInt8) (i : Nat) : List (List UInt8) × List UInt8 := if i ≤ s.length then wst [] [] (s.take i) else (wordsL s, [])
theorem wat_zero (s : List UInt8) : wat s 0 = ([], []) := by simp [wat, wst]
theorem wat_some {s : List UInt8} {i : Nat} {x : UInt8} (hx : s[i]? = some x) : wat s (i + 1) = if x = 32 then ((if (wat s i).2 = [] then (wat s i).1 else (wat s i).1 ++ [(wat s i).2]), []) else ((wat s i).1, (wat s i).2 ++ [x]) := by
  have hi : i < s.length := (List.getElem?_eq_some_iff.1 hx).1
  have e1 : wat s i = wst [] [] (s.take i) := if_pos (by omega)
  have e2 : wat s (i + 1) = wst [] [] (s.take (i + 1)) := if_pos (by omega)
  rw [e1, e2, take_snoc hx, wst_snoc]
theorem wat_end {s : List UInt8} {i : Nat} (hi : i = s.length) : wat s (i + 1) = ((if (wat s i).2 = [] then (wat s i).1 else (wat s i).1 ++ [(wat s i).2]), []) := by
  have h := wst_go s [] []
  have e1 : wat s i = wst [] [] s := by
    have e0 : wat s i = wst [] [] (s.take i) := if_pos (by omega)
    rw [e0, List.take_of_length_le (by omega)]
  have e2 : wat s (i + 1) = (wordsL s, []) := if_neg (by omega)
  rw [e1, e2]
  have h2 : wordsL s = (wst [] [] s).1 ++ (if (wst [] [] s).2 = [] then [] else [(wst [] [] s).2]) := by rw [h]; rfl
  rw [h2]
  by_cases hc : (wst [] [] s).2 = [] <;> simp [hc]
theorem wat_all (s : List UInt8) (i : Nat) (h : s.length < i) : wat s i = (wordsL s, []) := by unfold wat; rw [if_neg (by omega)]
theorem wat_len (s : List UInt8) (i : Nat) : (wat s i).1.length ≤ s.length ∧ (wat s i).2.length ≤ s.length := by
  unfold wat
  split
  · have h := wst_len (s.take i) [] []
    rw [List.length_take] at h
    simp only [List.length_nil] at h
    omega
  · exact ⟨words_len s, by simp⟩
end Go.Proofs.YtfjpgjkfmcedoaaGreatDoor
/- Contracts of the document's answer: Str and Int of expressions that may be. Made out of ExT's by program. -/
namespace Go.Proofs.YtfjpgjkfmcedoaaGreatDoor
open Go.ChangeShapes Go.WideShapes Go.ChangeAt Go.RowKit
/-- A record, and the word of it that is looked at. -/
def rc (line it : List UInt8) : Rc := ⟨line, it, wordsL line⟩
end Go.Proofs.YtfjpgjkfmcedoaaGreatDoor
/- Contracts of ExprFault, same and exprs. -/
namespace Go.Proofs.YtfjpgjkfmcedoaaGreatDoor
open Go.ChangeShapes Go.WideShapes Go.ChangeAt Go.RowKit
set_option maxRecDepth 100000 in
set_option maxHeartbeats 1000000 in
theorem exprFault_any {w : World} {sv : Value} {e : Ex} (h : IsEx w sv e) (hw : e.wt ≤ 1000000000) (text each : Bool) :
    Calls Tryz.prog 16 #[e.val sv, .bool text, .bool each] w fun r w' => r = .returned (.int .i64 (faultE e text each)) ∧ Below w.heap.size w w' := by
  obtain ⟨a, cap, rfl⟩ := h.slice
  have C := Lib.hid (parts_any h hw)
  have M := Lib.hid (shaped_any h hw text each)
  have hcw := cnt_wt e
  have hdc := dep_cnt e
  clear h
  unfold Ex.val at C M ⊢
  obtain ⟨R, hR⟩ : ∃ R : Nat, R = faultE e text each := ⟨_, rfl⟩
  rw [← hR]
  unfold faultE at hR
  have HR := Lib.hid hR
  clear hR
  generalize e.cnt = c at *
  generalize e.dep = d at *
  go_enter Tryz.func16, Tryz.ntmps16
  go_wp2_with (go_at_call 32; refine Hid.out ?_)
  refine Lib.hid ?_
  refine (C.out _ (below_box _)).mono ?_
  rintro _ w2 ⟨rfl, hb2⟩
  by_cases hc : ¬ c ≤ 30
  · go_wp2
    go_ret
    exact ⟨by rw [HR.out, if_neg (by omega)]; rfl, below_trans (below_box _) hb2⟩
  replace hc := Decidable.not_not.1 hc
  by_cases hd : ¬ d ≤ 5
  · go_wp2
    go_ret
    exact ⟨by rw [HR.out, if_neg (by omega)]; rfl, below_trans (below_box _) hb2⟩
  replace hd := Decidable.not_not.1 hd
  have k0 := cell_below (a := ⟨w.heap.size, 0, none⟩) (v := .int .i64 e.k) (by simp) hb2
  have k1 := cell_below (a := ⟨w.heap.size, 1, none⟩) (v := .int .i64 e.n) (by simp) hb2
  have k2 := cell_below (a := ⟨w.heap.size, 2, none⟩) (v := .string (bs e.s)) (by simp) hb2
  have k3 := cell_below (a := ⟨w.heap.size, 3, none⟩) (v := .slice a e.a.length cap) (by simp) hb2
  have hb3 := below_trans (below_box _) hb2
  clear hb2
  have HOK : Hid (R = if e.ok text each = true then 0 else 3) := by
    show R = _
    have h1 := HR.out
    rw [if_pos ⟨hc, hd⟩] at h1
    exact h1
  generalize e.ok text each = g at *
  go_wp2_with (go_at_call 33; refine Hid.out ?_)
  refine Lib.hid ?_
  refine (M.out _ hb3).mono ?_
  rintro _ w4 ⟨rfl, hb4⟩
  cases g with
  | true =>
    go_wp2
    go_ret
    have h1 := HOK.out
    simp at h1
    exact ⟨by rw [h1]; rfl, below_trans hb3 hb4⟩
  | false =>
    go_wp2
    go_ret
    have h1 := HOK.out
    simp at h1
    exact ⟨by rw [h1]; rfl, below_trans hb3 hb4⟩
theorem assert_err (n : Int) (w : World) : Sem.run Tryz.prog (Instr.typeAssert (Value.iface 50 (Value.int IntKind.i64 n)) 30 50 true) w = .ok (.tuple #[.int .i64 n, .bool true]) w := by kernel_rfl
set_option maxRecDepth 100000 in
theorem same_any (f : Nat) (w : World) : Calls Tryz.prog 7 #[errV f, .int .i64 f] w fun e w' => e = .returned (.bool true) ∧ w' = w := by
  unfold errV
  by_cases h : f = 0
  · subst h
    rw [if_pos rfl]
    go_enter Tryz.func7, Tryz.ntmps7
    go_wp2
    go_ret
    exact ⟨rfl, rfl⟩
  · rw [if_neg h]
    have ta := assert_err f
    have hf : 0 < f := by omega
    go_enter Tryz.func7, Tryz.ntmps7
    go_wp2
    go_ret
    exact ⟨rfl, rfl⟩
theorem isEx_none (w : World) (k n : Int) (s : List UInt8) : IsEx w (.slice none 0 0) (.mk k n s []) :=
  IsEx.mk k n s none 0 [] 0 0 (fun _ => undef) (fun h => absurd h (by simp)) (fun i x hx => by simp at hx) (fun i x hx => by simp at hx)
end Go.Proofs.YtfjpgjkfmcedoaaGreatDoor
/- A rule in memory, its cells. -/
namespace Go.Proofs.YtfjpgjkfmcedoaaGreatDoor
open Go.ChangeShapes Go.WideShapes Go.ChangeAt Go.RowKit
def ruleCells (r : Rl) (ai ak av : Option Addr) (ci ck cv : Nat) : List Value := [.bool r.each, .int .i64 r.when, .int .i64 r.iff.k, .int .i64 r.iff.n, .string (bs r.iff.s), .slice ai r.iff.a.length ci, .string (bs r.s), .int .i64 r.key.k, .int .i64 r.key.n, .string (bs r.key.s), .slice ak r.key.a.length ck, .int .i64 r.val.k, .int .i64 r.val.n, .string (bs r.val.s), .slice av r.val.a.length cv]
theorem ruleAt {w : World} {B : Nat} {r : Rl} {ai ak av : Option Addr} {ci ck cv : Nat} (h : Blk w B 46 (ruleCells r ai ak av ci ck cv)) : w.cell? ⟨B, 0, none⟩ = some (.bool r.each) ∧ w.cell? ⟨B, 1, none⟩ = some (.int .i64 r.when) ∧ w.cell? ⟨B, 2, none⟩ = some (.int .i64 r.iff.k) ∧ w.cell? ⟨B, 3, none⟩ = some (.int .i64 r.iff.n) ∧ w.cell? ⟨B, 4, none⟩ = some (.string (bs r.iff.s)) ∧ w.cell? ⟨B, 5, none⟩ = some (.slice ai r.iff.a.length ci) ∧ w.cell? ⟨B, 6, none⟩ = some (.string (bs r.s)) ∧ w.cell? ⟨B, 7, none⟩ = some (.int .i64 r.key.k) ∧ w.cell? ⟨B, 8, none⟩ = some (.int .i64 r.key.n) ∧ w.cell? ⟨B, 9, none⟩ = some (.string (bs r.key.s)) ∧ w.cell? ⟨B, 10, none⟩ = some (.slice ak r.key.a.length ck) ∧ w.cell? ⟨B, 11, none⟩ = some (.int .i64 r.val.k) ∧ w.cell? ⟨B, 12, none⟩ = some (.int .i64 r.val.n) ∧ w.cell? ⟨B, 13, none⟩ = some (.string (bs r.val.s)) ∧ w.cell? ⟨B, 14, none⟩ = some (.slice av r.val.a.length cv) :=
  ⟨h.at rfl, h.at rfl, h.at rfl, h.at rfl, h.at rfl, h.at rfl, h.at rfl, h.at rfl, h.at rfl, h.at rfl, h.at rfl, h.at rfl, h.at rfl, h.at rfl, h.at rfl⟩
theorem blk_new {w : World} {cs : Array Value} {t : TypeId} {g : Nat} (hg : g = w.heap.size) : Blk (w.alloc (.cells cs t)) g t cs.toList := by
  subst hg
  exact Blk.new w cs t
end Go.Proofs.YtfjpgjkfmcedoaaGreatDoor
