/- A name, looked up in job.names. Written by tpl/mk_rdn.py. -/
import Derived.Test.YthmojcalllbclaaDoorRdM
import Derived.Maps.Views
namespace Go.Proofs.YthmojcalllbclaaDoor
open Go.ChangeShapes Go.WideShapes Go.ChangeAt Go.RowKit Go.WideMaps Go.Maps
set_option maxRecDepth 100000 in
theorem name_at (x : List UInt8) : (nameD).atKey (.string x) (.lit (.int .i64 0)) = .lit (.int .i64 (nameK x)) := by
  by_cases h1 : x = [105, 116]
  · subst h1; kernel_rfl
  by_cases h2 : x = [108, 105, 110, 101]
  · subst h2; kernel_rfl
  by_cases h3 : x = [119, 111, 114, 100]
  · subst h3; kernel_rfl
  by_cases h4 : x = [116, 101, 120, 116]
  · subst h4; kernel_rfl
  by_cases h5 : x = [99, 97, 116]
  · subst h5; kernel_rfl
  by_cases h6 : x = [99, 117, 116]
  · subst h6; kernel_rfl
  by_cases h7 : x = [110, 117, 109]
  · subst h7; kernel_rfl
  by_cases h8 : x = [108, 101, 110]
  · subst h8; kernel_rfl
  by_cases h9 : x = [109, 97, 110, 121]
  · subst h9; kernel_rfl
  by_cases h10 : x = [97, 100, 100]
  · subst h10; kernel_rfl
  unfold nameD nameK
  rw [if_neg h1, if_neg h2, if_neg h3, if_neg h4, if_neg h5, if_neg h6, if_neg h7, if_neg h8, if_neg h9, if_neg h10]
  rw [atKey_put_other (fun e => h10 (by injection e)), atKey_put_other (fun e => h9 (by injection e)), atKey_put_other (fun e => h8 (by injection e)), atKey_put_other (fun e => h7 (by injection e)), atKey_put_other (fun e => h6 (by injection e)), atKey_put_other (fun e => h5 (by injection e)), atKey_put_other (fun e => h4 (by injection e)), atKey_put_other (fun e => h3 (by injection e)), atKey_put_other (fun e => h2 (by injection e)), atKey_put_other (fun e => h1 (by injection e))]
  rfl
theorem map_only {w w' : World} {P b n : Nat} {D : DataW Unit} (h : w.ownsMap Tryd.prog 9 (plainElem (H := Unit) Tryd.prog 3) b n D) (ho : Only P w w') (hne : b ≠ P) : w'.ownsMap Tryd.prog 9 (plainElem (H := Unit) Tryd.prog 3) b n D :=
  h.kept ho (by simpa using hne)
theorem zeroInt (w : World) : (zeroValue 3).run Tryd.prog w = .ok (.int .i64 0) w := Tryd.zeroValue3 w
set_option maxRecDepth 100000 in
theorem look_name {w : World} {b n : Nat} (h : w.ownsMap Tryd.prog 9 (plainElem (H := Unit) Tryd.prog 3) b n nameD) (x : List UInt8) (hx : x.length ≤ 1000000) :
    (Instr.lookup 101 (.map (some b)) (.string (bs x)) false).run Tryd.prog w = .ok (.int .i64 (nameK x)) w := by
  obtain ⟨c, hrun, hat, _⟩ := h.lookup_int strKey mapT Tryd.underlying3 (zeroInt w) (key_lit (bs x) (by rw [bs_size]; unfold maxLen; omega))
  have h2 : (nameD).atKey (.string x) (.lit (.int .i64 0)) = .lit (.int .i64 c) := by have h3 := hat; rw [bs_data] at h3; exact h3
  rw [name_at] at h2
  have h4 : nameK x = c := by
    generalize nameK x = k at h2
    injection h2 with h5
    injection h5
  rw [hrun, h4]
end Go.Proofs.YthmojcalllbclaaDoor
