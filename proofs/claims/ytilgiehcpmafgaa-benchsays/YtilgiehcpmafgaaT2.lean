/- Tasks: begun, waiting again, finished. -/
import Derived.Test.YtilgiehcpmafgaaT1
namespace Go.Proofs.Ytilgiehcpmafgaa
open Go.ChangeShapes Go.WideShapes Go.ChangeAt Go.RowKit
namespace Tk
def updA (fold : Bool) (a : List Int) (k : Nat) (x : Int) : List Int := if fold then a else a.set k x
def updB (fold : Bool) (b : List Int) (k : Nat) (x : Int) : List Int := if fold then b.set k x else b
/-- What is wrong with beginning the k-th one. -/
def begF (a b : List Int) (fold : Bool) (k : Nat) : Int := if (sel fold a b).getD k 0 = 2 ∨ (fold = true ∧ allD a = false) then 7 else 0
theorem set_self (l : List Int) (k : Nat) (x : Int) (h : k < l.length) (e : l[k] = x) : l.set k x = l := by subst e; exact List.set_getElem_self _
theorem getD_at (l : List Int) (k : Nat) (h : k < l.length) : l.getD k 0 = l[k] := by simp [List.getD, List.getElem?_eq_getElem h]
end Tk
open Tk
theorem own_at {w : World} {lo : Nat} {v : Value} {L : List Int} (h : w.ownsRow lo 3 1 v L.length (cellsI L)) {k : Nat} (hk : k < L.length) : ∃ g cap, v = .slice (some ⟨g, 0, none⟩) L.length cap ∧ lo ≤ g := by
  rcases h.2 with ⟨_, h0⟩ | ⟨g, cap, cur, h1, h2, _⟩
  · omega
  · exact ⟨g, cap, h1, h2⟩
theorem IsT.setA {T : TypeId} {w : World} {lo hi P : Nat} {va vb vc : Value} {a b c : List Int} (h : IsT T w lo hi P va vb vc a b c) {k : Nat} (hk : k < a.length) : ∃ g cap, va = .slice (some ⟨g, 0, none⟩) a.length cap ∧ w.cell? ⟨g, k, none⟩ = some (.int .i64 a[k]) ∧ w.frozen? ⟨g, k, none⟩ = false ∧ lo ≤ g ∧ g < hi ∧ ∀ x, IsT T (w.setCell ⟨g, k, none⟩ (.int .i64 x)) lo hi P va vb vc (a.set k x) b c := by
  obtain ⟨g, cap, hv, hlo⟩ := own_at h.oa hk
  have hob : va.ownBlock = some g := by rw [hv]; rfl
  have oa := h.oa
  rw [hv] at oa
  obtain ⟨c0, f0⟩ := owns_cell oa hk
  refine ⟨g, cap, hv, c0, f0, hlo, h.ha g hob, fun x => ?_⟩
  exact { h with
    row := h.row.other k _ (fun e => h.pa (by rw [hob, e]))
    oa := by rw [hv]; exact owns_store oa rfl x
    ob := owns_same h.ob fun j hj => Below.heap_setCell w ⟨g, k, none⟩ _ j (fun e => h.ab (by rw [hob, hj, e]))
    oc := owns_same h.oc fun j hj => Below.heap_setCell w ⟨g, k, none⟩ _ j (fun e => h.ac (by rw [hob, hj, e]))
    small := by rw [List.length_set]; exact h.small }
theorem IsT.setB {T : TypeId} {w : World} {lo hi P : Nat} {va vb vc : Value} {a b c : List Int} (h : IsT T w lo hi P va vb vc a b c) {k : Nat} (hk : k < b.length) : ∃ g cap, vb = .slice (some ⟨g, 0, none⟩) b.length cap ∧ w.cell? ⟨g, k, none⟩ = some (.int .i64 b[k]) ∧ w.frozen? ⟨g, k, none⟩ = false ∧ lo ≤ g ∧ g < hi ∧ ∀ x, IsT T (w.setCell ⟨g, k, none⟩ (.int .i64 x)) lo hi P va vb vc a (b.set k x) c := by
  obtain ⟨g, cap, hv, hlo⟩ := own_at h.ob hk
  have hob : vb.ownBlock = some g := by rw [hv]; rfl
  have ob := h.ob
  rw [hv] at ob
  obtain ⟨c0, f0⟩ := owns_cell ob hk
  refine ⟨g, cap, hv, c0, f0, hlo, h.hb g hob, fun x => ?_⟩
  exact { h with
    row := h.row.other k _ (fun e => h.pb (by rw [hob, e]))
    ob := by rw [hv]; exact owns_store ob rfl x
    oa := owns_same h.oa fun j hj => Below.heap_setCell w ⟨g, k, none⟩ _ j (fun e => h.ab (by rw [hob, hj, e]))
    oc := owns_same h.oc fun j hj => Below.heap_setCell w ⟨g, k, none⟩ _ j (fun e => h.bc (by rw [hob, hj, e]))
    small := by rw [List.length_set]; exact h.small }
theorem IsT.setC {T : TypeId} {w : World} {lo hi P : Nat} {va vb vc : Value} {a b c : List Int} (h : IsT T w lo hi P va vb vc a b c) {k : Nat} (hk : k < c.length) : ∃ g cap, vc = .slice (some ⟨g, 0, none⟩) c.length cap ∧ w.cell? ⟨g, k, none⟩ = some (.int .i64 c[k]) ∧ w.frozen? ⟨g, k, none⟩ = false ∧ lo ≤ g ∧ g < hi ∧ ∀ x, IsT T (w.setCell ⟨g, k, none⟩ (.int .i64 x)) lo hi P va vb vc a b (c.set k x) := by
  obtain ⟨g, cap, hv, hlo⟩ := own_at h.oc hk
  have hob : vc.ownBlock = some g := by rw [hv]; rfl
  have oc := h.oc
  rw [hv] at oc
  obtain ⟨c0, f0⟩ := owns_cell oc hk
  refine ⟨g, cap, hv, c0, f0, hlo, h.hc g hob, fun x => ?_⟩
  exact { h with
    row := h.row.other k _ (fun e => h.pc (by rw [hob, e]))
    oc := by rw [hv]; exact owns_store oc rfl x
    oa := owns_same h.oa fun j hj => Below.heap_setCell w ⟨g, k, none⟩ _ j (fun e => h.ac (by rw [hob, hj, e]))
    ob := owns_same h.ob fun j hj => Below.heap_setCell w ⟨g, k, none⟩ _ j (fun e => h.bc (by rw [hob, hj, e]))
    small := by rw [List.length_set]; exact h.small }
theorem IsT.setS {T : TypeId} {w : World} {lo hi P : Nat} {va vb vc : Value} {a b c : List Int} (h : IsT T w lo hi P va vb vc a b c) (fold : Bool) {k : Nat} (hk : k < (sel fold a b).length) : ∃ g cap, (if fold then vb else va) = .slice (some ⟨g, 0, none⟩) (sel fold a b).length cap ∧ w.cell? ⟨g, k, none⟩ = some (.int .i64 (sel fold a b)[k]) ∧ w.frozen? ⟨g, k, none⟩ = false ∧ lo ≤ g ∧ g < hi ∧ ∀ x, IsT T (w.setCell ⟨g, k, none⟩ (.int .i64 x)) lo hi P va vb vc (updA fold a k x) (updB fold b k x) c := by
  cases fold with
  | false => exact h.setA hk
  | true => exact h.setB hk
set_option maxRecDepth 100000 in
set_option maxHeartbeats 1000000 in
theorem begin_out {lo hi P : Nat} {va vb vc : Value} {a b c : List Int} (w : World) (h : IsT 70 w lo hi P va vb vc a b c) (fold : Bool) (i : Int) (hi' : i < 0 ∨ ((sel fold a b).length : Int) ≤ i) :
    Calls Try.prog 11 #[.pointer (some ⟨P, 0, none⟩), .bool fold, .int .i64 i] w fun e w' => e = .returned (.iface 68 (.int .i64 5)) ∧ w' = w := by
  have D := Lib.hid (state_out w h fold i hi')
  clear h hi'
  go_enter Try.func11, Try.ntmps11
  go_wp2_with (go_at_call 33; refine D.out.mono ?_; rintro _ w9 ⟨rfl, h9⟩; rw [h9]; clear h9 w9)
  go_ret
  exact ⟨rfl, rfl⟩
set_option maxRecDepth 100000 in
set_option maxHeartbeats 1000000 in
theorem wait_out {lo hi P : Nat} {va vb vc : Value} {a b c : List Int} (w : World) (h : IsT 70 w lo hi P va vb vc a b c) (fold : Bool) (i : Int) (hi' : i < 0 ∨ ((sel fold a b).length : Int) ≤ i) :
    Calls Try.prog 12 #[.pointer (some ⟨P, 0, none⟩), .bool fold, .int .i64 i] w fun e w' => e = .returned (.iface 68 (.int .i64 5)) ∧ w' = w := by
  have D := Lib.hid (state_out w h fold i hi')
  clear h hi'
  go_enter Try.func12, Try.ntmps12
  go_wp2_with (go_at_call 33; refine D.out.mono ?_; rintro _ w9 ⟨rfl, h9⟩; rw [h9]; clear h9 w9)
  go_ret
  exact ⟨rfl, rfl⟩
set_option maxRecDepth 100000 in
set_option maxHeartbeats 1000000 in
theorem finish_out {lo hi P : Nat} {va vb vc : Value} {a b c : List Int} (w : World) (h : IsT 70 w lo hi P va vb vc a b c) (fold : Bool) (i n : Int) (hi' : i < 0 ∨ ((sel fold a b).length : Int) ≤ i) :
    Calls Try.prog 13 #[.pointer (some ⟨P, 0, none⟩), .bool fold, .int .i64 i, .int .i64 n] w fun e w' => e = .returned (.tuple #[.bool false, .iface 68 (.int .i64 5)]) ∧ w' = w := by
  have D := Lib.hid (state_out w h fold i hi')
  clear h hi'
  go_enter Try.func13, Try.ntmps13
  go_wp2_with (go_at_call 33; refine D.out.mono ?_; rintro _ w9 ⟨rfl, h9⟩; rw [h9]; clear h9 w9)
  go_ret2
  exact ⟨rfl, rfl⟩
set_option maxRecDepth 100000 in
set_option maxHeartbeats 1000000 in
theorem begin_in {lo hi P : Nat} {va vb vc : Value} {a b c : List Int} (w : World) (h : IsT 70 w lo hi P va vb vc a b c) (fold : Bool) (k : Nat) (hk : k < (sel fold a b).length) :
    Calls Try.prog 11 #[.pointer (some ⟨P, 0, none⟩), .bool fold, .int .i64 k] w fun e w' => e = .returned (errV (begF a b fold k)) ∧ IsT 70 w' lo hi P va vb vc (if begF a b fold k = 0 then updA fold a k 1 else a) (if begF a b fold k = 0 then updB fold b k 1 else b) c ∧ Win lo hi w w' := by
  have D := Lib.hid (state_in w h fold k hk)
  have M := Lib.hid (mapped_any w h)
  have O : Hid (∀ w', Below w.heap.size w w' → Calls Try.prog 35 #[.pointer (some ⟨P, 0, none⟩), .bool fold] w' fun e w'' => e = .returned (if fold then vb else va) ∧ w'' = w') := fun w' hb => (h.blw hb).of fold
  have S : Hid (∀ w', Below w.heap.size w w' → ∃ g cap, (if fold then vb else va) = .slice (some ⟨g, 0, none⟩) (sel fold a b).length cap ∧ w'.cell? ⟨g, k, none⟩ = some (.int .i64 (sel fold a b)[k]) ∧ w'.frozen? ⟨g, k, none⟩ = false ∧ lo ≤ g ∧ g < hi ∧ ∀ x, IsT 70 (w'.setCell ⟨g, k, none⟩ (.int .i64 x)) lo hi P va vb vc (updA fold a k x) (updB fold b k x) c) := fun w' hb => (h.blw hb).setS fold hk
  have hF : begF a b fold k = if (sel fold a b)[k] = 2 ∨ (fold = true ∧ allD a = false) then 7 else 0 := by unfold begF; rw [getD_at _ _ hk]
  have hl := sel_len h fold
  have HH := Lib.hid h
  clear h
  rw [hF]
  clear hF
  generalize (sel fold a b)[k] = x at *
  generalize (sel fold a b).length = n at *
  by_cases hx : x = 2
  · rw [if_pos (.inl hx)]
    have hx' : (x == 2) = true := by simpa using hx
    clear hx
    go_enter Try.func11, Try.ntmps11
    go_wp2_with (go_at_call 33; refine D.out.mono ?_; rintro _ w9 ⟨rfl, h9⟩; rw [h9]; clear h9 w9)
    go_ret
    exact ⟨rfl, HH.out, Win.refl _ _ _⟩
  · have hx' : (x == 2) = false := by simpa using hx
    cases fold with
    | false =>
      rw [if_neg (by simp [hx])]
      clear hx M
      obtain ⟨g, cap, hv, c0, f0, hg1, hg2, hS⟩ := S.out w (Below.refl _ _)
      rw [hv] at O
      have HS := Lib.hid hS
      clear S hv hS
      go_enter Try.func11, Try.ntmps11
      go_wp2_with (first | (go_at_call 33; refine D.out.mono ?_; rintro _ w9 ⟨rfl, h9⟩; rw [h9]; clear h9 w9) | (go_at_call 35; refine (O.out _ (Below.refl _ _)).mono ?_; rintro _ w9 ⟨rfl, h9⟩; rw [h9]; clear h9 w9))
      go_ret
      exact ⟨rfl, HS.out 1, (Win.refl _ _ _).store _ hg1 hg2⟩
    | true =>
      cases hA : allD a with
      | false =>
        rw [if_pos (.inr ⟨rfl, rfl⟩)]
        rw [hA] at M
        clear hx S O
        go_enter Try.func11, Try.ntmps11
        go_wp2_with (first | (go_at_call 33; refine D.out.mono ?_; rintro _ w9 ⟨rfl, h9⟩; rw [h9]; clear h9 w9) | (go_at_call 34; refine M.out.mono ?_; rintro _ w1 ⟨rfl, hb1⟩))
        go_ret
        exact ⟨rfl, HH.out.blw hb1, Win.of_blw hb1⟩
      | true =>
        rw [if_neg (by simp [hx])]
        rw [hA] at M
        clear hx
        go_enter Try.func11, Try.ntmps11
        go_wp2_with (first | (go_at_call 33; refine D.out.mono ?_; rintro _ w9 ⟨rfl, h9⟩; rw [h9]; clear h9 w9) | (go_at_call 34; refine M.out.mono ?_; rintro _ w1 ⟨rfl, hb1⟩; obtain ⟨g, cap, hv, c0, f0, hg1, hg2, hS⟩ := S.out w1 hb1; have HS := Lib.hid hS; clear hS; rw [hv] at O; clear hv) | (go_at_call 35; refine (O.out _ hb1).mono ?_; rintro _ w9 ⟨rfl, h9⟩; rw [h9]; clear h9 w9))
        go_ret
        exact ⟨rfl, HS.out 1, (Win.of_blw hb1).store _ hg1 hg2⟩
set_option maxRecDepth 100000 in
set_option maxHeartbeats 1000000 in
theorem wait_in {lo hi P : Nat} {va vb vc : Value} {a b c : List Int} (w : World) (h : IsT 70 w lo hi P va vb vc a b c) (fold : Bool) (k : Nat) (hk : k < (sel fold a b).length) :
    Calls Try.prog 12 #[.pointer (some ⟨P, 0, none⟩), .bool fold, .int .i64 k] w fun e w' => e = .returned .nilIface ∧ IsT 70 w' lo hi P va vb vc (if (sel fold a b).getD k 0 = 1 then updA fold a k 0 else a) (if (sel fold a b).getD k 0 = 1 then updB fold b k 0 else b) c ∧ Win lo hi w w' := by
  have D := Lib.hid (state_in w h fold k hk)
  have O := Lib.hid (h.of fold)
  obtain ⟨g, cap, hv, c0, f0, hg1, hg2, hS⟩ := h.setS fold hk
  have HS := Lib.hid hS
  have hl := sel_len h fold
  have HH := Lib.hid h
  rw [hv] at O
  rw [getD_at _ _ hk]
  clear h hS hv
  generalize (sel fold a b)[k] = x at *
  generalize (sel fold a b).length = n at *
  by_cases hx : x = 1
  · rw [if_pos hx, if_pos hx]
    have hx' : (x == 1) = true := by simpa using hx
    clear hx
    go_enter Try.func12, Try.ntmps12
    go_wp2_with (first | (go_at_call 33; refine D.out.mono ?_; rintro _ w9 ⟨rfl, h9⟩; rw [h9]; clear h9 w9) | (go_at_call 35; refine O.out.mono ?_; rintro _ w9 ⟨rfl, h9⟩; rw [h9]; clear h9 w9))
    go_ret
    exact ⟨rfl, HS.out 0, (Win.refl _ _ _).store _ hg1 hg2⟩
  · rw [if_neg hx, if_neg hx]
    have hx' : (x == 1) = false := by simpa using hx
    clear hx
    go_enter Try.func12, Try.ntmps12
    go_wp2_with (first | (go_at_call 33; refine D.out.mono ?_; rintro _ w9 ⟨rfl, h9⟩; rw [h9]; clear h9 w9) | (go_at_call 35; refine O.out.mono ?_; rintro _ w9 ⟨rfl, h9⟩; rw [h9]; clear h9 w9))
    go_ret
    exact ⟨rfl, HH.out, Win.refl _ _ _⟩
set_option maxRecDepth 100000 in
set_option maxHeartbeats 1000000 in
theorem finish_in {lo hi P : Nat} {va vb vc : Value} {a b c : List Int} (w : World) (h : IsT 70 w lo hi P va vb vc a b c) (fold : Bool) (k : Nat) (m : Int) (hk : k < (sel fold a b).length) :
    Calls Try.prog 13 #[.pointer (some ⟨P, 0, none⟩), .bool fold, .int .i64 k, .int .i64 m] w fun e w' => e = .returned (.tuple #[.bool ((sel fold a b).getD k 0 != 2), .nilIface]) ∧ IsT 70 w' lo hi P va vb vc (updA fold a k 2) (updB fold b k 2) (if (sel fold a b).getD k 0 != 2 && !fold then c.set k m else c) ∧ Win lo hi w w' := by
  have D := Lib.hid (state_in w h fold k hk)
  have O := Lib.hid (h.of fold)
  obtain ⟨g, cap, hv, c0, f0, hg1, hg2, hS⟩ := h.setS fold hk
  have HS := Lib.hid hS
  have hl := sel_len h fold
  have HH := Lib.hid h
  have C2 := Lib.hid (hS 2).row
  rw [hv] at O
  rw [getD_at _ _ hk]
  have hsame : (sel fold a b)[k] = 2 → updA fold a k 2 = a ∧ updB fold b k 2 = b := by
    intro e
    cases fold with
    | false =>
      refine ⟨?_, rfl⟩
      exact set_self a k 2 hk e
    | true =>
      refine ⟨rfl, ?_⟩
      exact set_self b k 2 hk e
  have hkc : fold = false → k < c.length := fun e => by subst e; have := h.small; simp [sel] at hk; omega
  have HSC : Hid (∀ e : fold = false, ∃ g' cap', vc = .slice (some ⟨g', 0, none⟩) c.length cap' ∧ (w.setCell ⟨g, k, none⟩ (.int .i64 2)).cell? ⟨g', k, none⟩ = some (.int .i64 (c[k]'(hkc e))) ∧ (w.setCell ⟨g, k, none⟩ (.int .i64 2)).frozen? ⟨g', k, none⟩ = false ∧ lo ≤ g' ∧ g' < hi ∧ ∀ x, IsT 70 ((w.setCell ⟨g, k, none⟩ (.int .i64 2)).setCell ⟨g', k, none⟩ (.int .i64 x)) lo hi P va vb vc (updA fold a k 2) (updB fold b k 2) (c.set k x)) := fun e => (hS 2).setC (hkc e)
  have HSM := Lib.hid hsame
  have hsm := h.small
  clear h hS hv hsame
  generalize (sel fold a b)[k] = x at *
  generalize (sel fold a b).length = n at *
  by_cases hx : x = 2
  · obtain ⟨e1, e2⟩ := HSM.out hx
    rw [e1, e2]
    have hx' : (x == 2) = true := by simpa using hx
    have hx2 : (x != 2) = false := by simpa using hx
    rw [hx2]
    clear hx e1 e2 HSM HSC C2 hkc
    go_enter Try.func13, Try.ntmps13
    go_wp2_with (first | (go_at_call 33; refine D.out.mono ?_; rintro _ w9 ⟨rfl, h9⟩; rw [h9]; clear h9 w9) | (go_at_call 35; refine O.out.mono ?_; rintro _ w9 ⟨rfl, h9⟩; rw [h9]; clear h9 w9))
    go_ret2
    exact ⟨rfl, HH.out, Win.refl _ _ _⟩
  · have hx' : (x == 2) = false := by simpa using hx
    have hx2 : (x != 2) = true := by simpa using hx
    rw [hx2]
    clear hx HSM
    cases fold with
    | true =>
      clear HSC C2 hkc
      go_enter Try.func13, Try.ntmps13
      go_wp2_with (first | (go_at_call 33; refine D.out.mono ?_; rintro _ w9 ⟨rfl, h9⟩; rw [h9]; clear h9 w9) | (go_at_call 35; refine O.out.mono ?_; rintro _ w9 ⟨rfl, h9⟩; rw [h9]; clear h9 w9))
      go_ret2
      exact ⟨rfl, HS.out 2, (Win.refl _ _ _).store _ hg1 hg2⟩
    | false =>
      obtain ⟨g', cap', hvc, d0, e0, hg3, hg4, hSC⟩ := HSC.out rfl
      have HSC' := Lib.hid hSC
      have hkc' := hkc rfl
      have p2 : (w.setCell ⟨g, k, none⟩ (.int .i64 2)).cell? ⟨P, 2, none⟩ = some vc := C2.out.at rfl
      rw [hvc] at p2
      generalize c[k] = y at *
      have hcl : c.length ≤ 60 := by omega
      clear HSC C2 hkc hSC hvc HS HH hsm
      go_enter Try.func13, Try.ntmps13
      go_wp2_with (first | (go_at_call 33; refine D.out.mono ?_; rintro _ w9 ⟨rfl, h9⟩; rw [h9]; clear h9 w9) | (go_at_call 35; refine O.out.mono ?_; rintro _ w9 ⟨rfl, h9⟩; rw [h9]; clear h9 w9))
      go_ret2
      exact ⟨rfl, HSC'.out m, ((Win.refl _ _ _).store _ hg1 hg2).store _ hg3 hg4⟩
end Go.Proofs.Ytilgiehcpmafgaa
