/- Contracts of strconv.Itoa, job.hasNumber, hasText and exprText: an expression's text. -/
import Derived.Test.YthmojcalllbclaaDoorNam2
import Derived.Test.YthmojcalllbclaaDoorBuildW
import Derived.Lib.AppendIntMem
import Derived.Lib.ItoaLen
namespace Go.Proofs.YthmojcalllbclaaDoor
open Go.ChangeShapes Go.WideShapes Go.ChangeAt Go.RowKit
/-- What the program's and the library's own variables hold, for the texts of jobs. -/
structure EnvT (w : World) : Prop extends EnvS w where
  tab : Lib.TabIs Tryd.prog w "internal/strconv.uint64pow10" .u64 Lib.pow10Tab
theorem EnvT.lower {w w' : World} (h : EnvT w) (hb : Below w.heap.size w w') : EnvT w' := ⟨h.toEnvS.lower hb, Lib.tabBelow_of_tabIs h.tab w' hb⟩
theorem itoa_any (n : Int) (w : World) (E : EnvT w) (h0 : -9223372036854775808 ≤ n) (h1 : n ≤ 9223372036854775807) :
    Calls Tryd.prog 38 #[.int .i64 n] w fun e w' => e = .returned (.string (bs (Lib.itoa n))) ∧ Below w.heap.size w w' := by
  refine (Any.strconv_Itoa Tryd.laysM171 n h0 h1 w E.tab).mono ?_
  rintro e w' ⟨rfl, k, os, rfl⟩
  exact ⟨rfl, Lib.below_grow _ w (Nat.le_refl _) k os⟩
def hasNum (k : Int) : Bool := decide (lowK k < highK k)
def hasTxt (k : Int) : Bool := decide (0 < bytesK k)
set_option maxRecDepth 100000 in
theorem hasNumber_any (k : Int) (w : World) (E : EnvS w) : Calls Tryd.prog 55 #[.int .i64 k] w fun e w' => e = .returned (.bool (hasNum k)) ∧ Below w.heap.size w w' := by
  have SH := Lib.hid (shapeOf_any k w E)
  unfold shV at SH
  unfold hasNum
  generalize lowK k = lo at *
  generalize highK k = hi at *
  go_enter Tryd.func55, Tryd.ntmps55
  go_wp2_with (go_at_call 30; refine Hid.out ?_)
  refine Lib.hid ?_
  refine SH.out.mono ?_
  rintro _ w2 ⟨rfl, hb2⟩
  by_cases h : lo < hi
  · go_wp2
    go_ret
    exact ⟨by simp [h], below_trans hb2 (below_box _)⟩
  · go_wp2
    go_ret
    exact ⟨by simp, below_trans hb2 (below_box _)⟩
set_option maxRecDepth 100000 in
theorem hasText_any (k : Int) (w : World) (E : EnvS w) : Calls Tryd.prog 56 #[.int .i64 k] w fun e w' => e = .returned (.bool (hasTxt k)) ∧ Below w.heap.size w w' := by
  have SH := Lib.hid (shapeOf_any k w E)
  unfold shV at SH
  unfold hasTxt
  generalize bytesK k = by' at *
  have hfd : ∀ w : World, (Instr.field 64 (.agg #[.int .i64 (lowK k), .int .i64 (highK k), .int .i64 (by' : Int), .int .i64 (partsK k : Int), .bool (textsK k)]) 2).run Tryd.prog w = .ok (.int .i64 (by' : Int)) w := fun _ => by kernel_rfl
  go_enter Tryd.func56, Tryd.ntmps56
  go_wp2_with (go_at_call 30; refine Hid.out ?_)
  refine Lib.hid ?_
  refine SH.out.mono ?_
  rintro _ w2 ⟨rfl, hb2⟩
  by_cases h : 0 < by'
  · go_wp2
    go_ret
    exact ⟨by simp [h], hb2⟩
  · go_wp2
    go_ret
    exact ⟨by simp [h], hb2⟩
/-- An expression's own words: its name, its number, its text. -/
def hdTxt (k n : Int) (s : List UInt8) : List UInt8 := nameL k ++ (if hasNum k then 32 :: Lib.itoa n else []) ++ (if hasTxt k then 32 :: quoteL s else [])
/-- An expression's text. -/
def Ex.txt : Ex → List UInt8
  | .mk k n s a => hdTxt k n s ++ txtL a
  where txtL : List Ex → List UInt8
  | [] => []
  | e :: r => (32 :: e.txt) ++ txtL r
theorem txtL_append (a b : List Ex) : Ex.txt.txtL (a ++ b) = Ex.txt.txtL a ++ Ex.txt.txtL b := by
  induction a with
  | nil => rfl
  | cons x a ih => simp only [List.cons_append, Ex.txt.txtL, ih, List.append_assoc]
theorem txtL_take {l : List Ex} {i : Nat} {x : Ex} (hx : l[i]? = some x) : Ex.txt.txtL (l.take (i + 1)) = Ex.txt.txtL (l.take i) ++ (32 :: x.txt) := by rw [take_snoc hx, txtL_append]; simp [Ex.txt.txtL]
theorem nameL_len (k : Int) : (nameL k).length ≤ 4 := by
  unfold nameL
  repeat' split
  all_goals simp
theorem hdTxt_len (k n : Int) (s : List UInt8) (h0 : -9223372036854775808 ≤ n) (h1 : n ≤ 9223372036854775807) : (hdTxt k n s).length ≤ 40 + 2 * s.length := by
  have a := nameL_len k
  have b := Lib.itoa_length_le n h0 h1
  have c := quoL_len s
  unfold hdTxt
  simp only [List.length_append]
  have e1 : (if hasNum k = true then 32 :: Lib.itoa n else []).length ≤ 22 := by split <;> simp <;> omega
  have e2 : (if hasTxt k = true then 32 :: quoteL s else []).length ≤ 3 + 2 * s.length := by
    split
    · simp only [quoteL, List.length_cons, List.length_append, List.length_nil]; omega
    · simp
  omega
/-- Its numbers fit. -/
def Ex.fit : Ex → Prop
  | .mk _ n _ a => (-9223372036854775808 ≤ n ∧ n ≤ 9223372036854775807) ∧ fitL a
  where fitL : List Ex → Prop
  | [] => True
  | e :: r => e.fit ∧ fitL r
theorem fit_kid {l : List Ex} : ∀ {i : Nat} {x : Ex}, l[i]? = some x → Ex.fit.fitL l → x.fit := by
  induction l with
  | nil => intro i x hx; simp at hx
  | cons y l ih =>
    intro i x hx h
    cases i with
    | zero => simp at hx; subst hx; exact h.1
    | succ i => exact ih (by simpa using hx) h.2
theorem txt_len (e : Ex) : e.fit → e.txt.length ≤ 42 * e.cnt + 2 * e.wt - 1 := by
  refine Ex.ind (P := fun e => e.fit → e.txt.length ≤ 42 * e.cnt + 2 * e.wt - 1) ?_ e
  intro k n s a ih hf
  simp only [Ex.fit] at hf
  have h1 := hdTxt_len k n s hf.1.1 hf.1.2
  have h2 : (Ex.txt.txtL a).length ≤ 42 * Ex.cnt.cntL a + 2 * Ex.wt.wtL a := by
    have hf2 := hf.2
    clear hf h1
    induction a with
    | nil => simp [Ex.txt.txtL]
    | cons x a ihl =>
      have h3 := ih x (by simp) hf2.1
      have h6 : 1 ≤ x.cnt := cnt_pos x
      have h4 := ihl (fun e he => ih e (by simp [he])) hf2.2
      have h5 := cnt_pos x
      simp only [Ex.txt.txtL, Ex.cnt.cntL, Ex.wt.wtL, List.length_append, List.length_cons]; omega
  simp only [Ex.txt, Ex.cnt, Ex.wt, List.length_append]; omega
end Go.Proofs.YthmojcalllbclaaDoor
