/- Contracts of slices.Clone: of expressions, of rules, of texts. Written by tpl/mk_n1.py. -/
import Derived.Test.YtmgpacenooncjaaGreatDoorKp
import Derived.Test.YtmgpacenooncjaaGreatDoorOw
import Derived.Test.YtmgpacenooncjaaGreatDoorTxt
namespace Go.Proofs.YtmgpacenooncjaaGreatDoor
open Go.ChangeShapes Go.WideShapes Go.ChangeAt Go.RowKit
theorem infoRule : (Tryz.prog.info? 58).map (fun i => (i.zero, i.size, i.bytes)) = some (some (.agg #[.bool false, .int .i64 0, .int .i64 0, .int .i64 0, .string ⟨#[]⟩, .slice none 0 0, .string ⟨#[]⟩, .int .i64 0, .int .i64 0, .string ⟨#[]⟩, .slice none 0 0, .int .i64 0, .int .i64 0, .string ⟨#[]⟩, .slice none 0 0]), 15, 200) := by kernel_rfl
set_option maxRecDepth 100000 in
set_option maxHeartbeats 1000000 in
theorem cloneX_any (a : Option Addr) (n cap : Nat) (xs : List Value) (w : World) (hx : xs.length = n * 4) (hn : a = none → n = 0) (hs : ∀ ad, a = some ad → ∀ j u, xs[j]? = some u → w.cell? (ad.add j) = some u) (h1 : ∀ u ∈ xs, u.oneCell' = true) (hl : n ≤ 1000000) :
    Calls Tryz.prog 96 #[.slice a n cap] w fun e w' => ∃ v, e = .returned v ∧ w'.ownsRow w.heap.size 56 4 v n xs ∧ Below w.heap.size w w' := by
  obtain ⟨i0, hi0, hz0, hz1, hz2⟩ := info_parts infoExpr
  have heq : ∀ w', (binOp .eql 54 (.slice a n cap) (.slice none 0 0)).run Tryz.prog w' = .ok (.bool a.isNone) w' := fun w' => eqlNil w' 54 56 _ _ _ Tryz.underlying54
  cases a with
  | none =>
    obtain rfl := hn rfl
    obtain rfl : xs = [] := List.eq_nil_of_length_eq_zero (by simpa using hx)
    simp only [Option.isNone_none] at heq
    go_enter Tryz.func96, Tryz.ntmps96
    go_wp2
    go_ret
    exact ⟨_, rfl, World.ownsRow_nil _ _ _ _, Below.refl _ _⟩
  | some ad =>
    simp only [Option.isNone_some] at heq
    have HX := Lib.hid hx
    have HS := Lib.hid (hs ad rfl)
    have H1 := Lib.hid h1
    clear hx hn hs h1
    go_enter Tryz.func96, Tryz.ntmps96
    go_wp2_with (at_builtin; refine Hid.out ?_)
    refine Lib.hid ?_
    have hb1 : Below w.heap.size w (w.alloc (.cells #[] 56)) := (Below.refl _ _).alloc (Nat.le_refl _) _
    have o0 : (w.alloc (.cells #[] 56)).ownsRow w.heap.size 56 4 (.slice (some ⟨w.heap.size, 0, none⟩) 0 0) 0 [] := World.ownsRow_lit (base := w.heap.size) (size := 4) (e := 56) w #[] 0 (Nat.le_refl _) (by decide) (by rfl)
    refine wpList_append_own _ rfl (.tmp 5) (.tmp 6) 54 rfl w.heap.size 56 i0 (.agg #[.int .i64 0, .int .i64 0, .string ⟨#[]⟩, .slice none 0 0]) 4 56 Tryz.underlying54 hi0 hz0 hz1 hz2 rfl (by decide) (.slice (some ⟨w.heap.size, 0, none⟩) 0 0) 0 [] rfl o0 ad n cap xs rfl HX.out (fun j u hu => cell_below (HS.out j u hu) hb1) H1.out ?c2 ?c3 ?c4 ?_
    case c2 => unfold maxLen; omega
    case c3 => omega
    case c4 => simp
    intro v2 w2 hown2 hg2 _
    have hb2 : Below w.heap.size w w2 := hb1.grown hg2 (by simp) (fun k hk => by simp [Value.ownBlock] at hk; omega)
    rw [List.nil_append, Nat.zero_add] at hown2
    have HO := Lib.hid hown2
    clear hown2 hg2 o0 hb1
    go_wp2
    go_ret
    exact ⟨_, rfl, HO.out, hb2⟩
set_option maxRecDepth 100000 in
set_option maxHeartbeats 1000000 in
theorem cloneR_any (a : Option Addr) (n cap : Nat) (xs : List Value) (w : World) (hx : xs.length = n * 15) (hn : a = none → n = 0) (hs : ∀ ad, a = some ad → ∀ j u, xs[j]? = some u → w.cell? (ad.add j) = some u) (h1 : ∀ u ∈ xs, u.oneCell' = true) (hl : n ≤ 1000000) :
    Calls Tryz.prog 73 #[.slice a n cap] w fun e w' => ∃ v, e = .returned v ∧ w'.ownsRow w.heap.size 58 15 v n xs ∧ Below w.heap.size w w' := by
  obtain ⟨i0, hi0, hz0, hz1, hz2⟩ := info_parts infoRule
  have heq : ∀ w', (binOp .eql 22 (.slice a n cap) (.slice none 0 0)).run Tryz.prog w' = .ok (.bool a.isNone) w' := fun w' => eqlNil w' 22 58 _ _ _ Tryz.underlying22
  cases a with
  | none =>
    obtain rfl := hn rfl
    obtain rfl : xs = [] := List.eq_nil_of_length_eq_zero (by simpa using hx)
    simp only [Option.isNone_none] at heq
    go_enter Tryz.func73, Tryz.ntmps73
    go_wp2
    go_ret
    exact ⟨_, rfl, World.ownsRow_nil _ _ _ _, Below.refl _ _⟩
  | some ad =>
    simp only [Option.isNone_some] at heq
    have HX := Lib.hid hx
    have HS := Lib.hid (hs ad rfl)
    have H1 := Lib.hid h1
    clear hx hn hs h1
    go_enter Tryz.func73, Tryz.ntmps73
    go_wp2_with (at_builtin; refine Hid.out ?_)
    refine Lib.hid ?_
    have hb1 : Below w.heap.size w (w.alloc (.cells #[] 58)) := (Below.refl _ _).alloc (Nat.le_refl _) _
    have o0 : (w.alloc (.cells #[] 58)).ownsRow w.heap.size 58 15 (.slice (some ⟨w.heap.size, 0, none⟩) 0 0) 0 [] := World.ownsRow_lit (base := w.heap.size) (size := 15) (e := 58) w #[] 0 (Nat.le_refl _) (by decide) (by rfl)
    refine wpList_append_own _ rfl (.tmp 5) (.tmp 6) 22 rfl w.heap.size 58 i0 (.agg #[.bool false, .int .i64 0, .int .i64 0, .int .i64 0, .string ⟨#[]⟩, .slice none 0 0, .string ⟨#[]⟩, .int .i64 0, .int .i64 0, .string ⟨#[]⟩, .slice none 0 0, .int .i64 0, .int .i64 0, .string ⟨#[]⟩, .slice none 0 0]) 15 200 Tryz.underlying22 hi0 hz0 hz1 hz2 rfl (by decide) (.slice (some ⟨w.heap.size, 0, none⟩) 0 0) 0 [] rfl o0 ad n cap xs rfl HX.out (fun j u hu => cell_below (HS.out j u hu) hb1) H1.out ?c2 ?c3 ?c4 ?_
    case c2 => unfold maxLen; omega
    case c3 => omega
    case c4 => simp
    intro v2 w2 hown2 hg2 _
    have hb2 : Below w.heap.size w w2 := hb1.grown hg2 (by simp) (fun k hk => by simp [Value.ownBlock] at hk; omega)
    rw [List.nil_append, Nat.zero_add] at hown2
    have HO := Lib.hid hown2
    clear hown2 hg2 o0 hb1
    go_wp2
    go_ret
    exact ⟨_, rfl, HO.out, hb2⟩
set_option maxRecDepth 100000 in
set_option maxHeartbeats 1000000 in
theorem cloneS_any (a : Option Addr) (n cap : Nat) (xs : List Value) (w : World) (hx : xs.length = n * 1) (hn : a = none → n = 0) (hs : ∀ ad, a = some ad → ∀ j u, xs[j]? = some u → w.cell? (ad.add j) = some u) (h1 : ∀ u ∈ xs, u.oneCell' = true) (hl : n ≤ 1000000) :
    Calls Tryz.prog 42 #[.slice a n cap] w fun e w' => ∃ v, e = .returned v ∧ w'.ownsRow w.heap.size 9 1 v n xs ∧ Below w.heap.size w w' := by
  obtain ⟨i0, hi0, hz0, hz1, hz2⟩ := info_parts infoStr
  have heq : ∀ w', (binOp .eql 25 (.slice a n cap) (.slice none 0 0)).run Tryz.prog w' = .ok (.bool a.isNone) w' := fun w' => eqlNil w' 25 9 _ _ _ Tryz.underlying25
  cases a with
  | none =>
    obtain rfl := hn rfl
    obtain rfl : xs = [] := List.eq_nil_of_length_eq_zero (by simpa using hx)
    simp only [Option.isNone_none] at heq
    go_enter Tryz.func42, Tryz.ntmps42
    go_wp2
    go_ret
    exact ⟨_, rfl, World.ownsRow_nil _ _ _ _, Below.refl _ _⟩
  | some ad =>
    simp only [Option.isNone_some] at heq
    have HX := Lib.hid hx
    have HS := Lib.hid (hs ad rfl)
    have H1 := Lib.hid h1
    clear hx hn hs h1
    go_enter Tryz.func42, Tryz.ntmps42
    go_wp2_with (at_builtin; refine Hid.out ?_)
    refine Lib.hid ?_
    have hb1 : Below w.heap.size w (w.alloc (.cells #[] 9)) := (Below.refl _ _).alloc (Nat.le_refl _) _
    have o0 : (w.alloc (.cells #[] 9)).ownsRow w.heap.size 9 1 (.slice (some ⟨w.heap.size, 0, none⟩) 0 0) 0 [] := World.ownsRow_lit (base := w.heap.size) (size := 1) (e := 9) w #[] 0 (Nat.le_refl _) (by decide) (by rfl)
    refine wpList_append_own _ rfl (.tmp 5) (.tmp 6) 25 rfl w.heap.size 9 i0 (.string ⟨#[]⟩) 1 16 Tryz.underlying25 hi0 hz0 hz1 hz2 rfl (by decide) (.slice (some ⟨w.heap.size, 0, none⟩) 0 0) 0 [] rfl o0 ad n cap xs rfl HX.out (fun j u hu => cell_below (HS.out j u hu) hb1) H1.out ?c2 ?c3 ?c4 ?_
    case c2 => unfold maxLen; omega
    case c3 => omega
    case c4 => simp
    intro v2 w2 hown2 hg2 _
    have hb2 : Below w.heap.size w w2 := hb1.grown hg2 (by simp) (fun k hk => by simp [Value.ownBlock] at hk; omega)
    rw [List.nil_append, Nat.zero_add] at hown2
    have HO := Lib.hid hown2
    clear hown2 hg2 o0 hb1
    go_wp2
    go_ret
    exact ⟨_, rfl, HO.out, hb2⟩
end Go.Proofs.YtmgpacenooncjaaGreatDoor
