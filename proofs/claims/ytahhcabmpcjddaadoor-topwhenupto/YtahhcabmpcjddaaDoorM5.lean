/- Mapper: the closed fact ready; the walk of TopRules. -/
import Derived.Test.YtahhcabmpcjddaaDoorM4
namespace Go.Proofs.YtahhcabmpcjddaaDoor
open Go.ChangeShapes Go.WideShapes Go.ChangeAt Go.RowKit
def litRl : Rl := ⟨false, 0, .mk 0 0 [] [], [], .mk 2 0 [] [], .mk 9 0 [] []⟩
def litJb : Jb := ⟨[litRl], 1, false, 1⟩
theorem nilEx (w : World) (k : Int) : IsEx w (.slice none 0 0) (.mk k 0 [] []) :=
  IsEx.mk k 0 [] none 0 [] 0 0 (fun _ => undef) (fun h => by simp at h) (fun i x hx => by simp at hx) (fun i x hx => by simp at hx)
theorem litJb_fault : jobFault litJb = 0 := by decide +kernel
theorem litJb_pairs : rulesP litJb.rules litJb.fold [97, 32, 98] = [(⟨#[97, 32, 98]⟩, 2)] := by decide +kernel
theorem litJb_wt : rulesWt litJb.rules ≤ 1000000000 := by decide +kernel
theorem isRules_sub {w : World} {b off n cap i : Nat} {l : List Rl} {r : Rl} (h : IsRules w (.slice (some ⟨b, off, none⟩) n cap) l) (hr : l[i]? = some r) (cap' : Nat) : IsRules w (.slice (some ⟨b, off + i * 15, none⟩) 1 cap') [r] := by
  obtain ⟨a, cap0, b0, off0, AI, AK, AV, e, ha, hc⟩ := h
  have hi := (List.getElem?_eq_some_iff.1 hr).1
  have ha' := ha (by omega)
  injection e with e1 e2 e3
  rw [ha'] at e1
  injection e1 with e1
  injection e1 with e1 e4
  subst e1 e4
  refine ⟨_, cap', b, off + i * 15, fun k => AI (i + k), fun k => AK (i + k), fun k => AV (i + k), rfl, fun _ => rfl, fun k x hx => ?_⟩
  have hk : k = 0 ∧ r = x := by
    cases k with
    | zero => simpa using hx
    | succ k => simp at hx
  obtain ⟨rfl, rfl⟩ := hk
  have := hc i r hr
  simpa using this
set_option maxRecDepth 100000 in
set_option maxHeartbeats 1000000 in
theorem ready_any (w : World) (E : EnvS w) : Calls Tryd.prog 18 #[] w fun e w' => e = .returned (.bool true) ∧ Below w.heap.size w w' := by
  obtain ⟨w1, hw1⟩ : ∃ w1, w1 = w.alloc (.cells #[.bool false, .int .i64 0, .int .i64 0, .int .i64 0, .string ⟨#[]⟩, .slice none 0 0, .string ⟨#[]⟩, .int .i64 2, .int .i64 0, .string ⟨#[]⟩, .slice none 0 0, .int .i64 9, .int .i64 0, .string ⟨#[]⟩, .slice none 0 0] 50) := ⟨_, rfl⟩
  have hB : Blk w1 w.heap.size 50 [.bool false, .int .i64 0, .int .i64 0, .int .i64 0, .string ⟨#[]⟩, .slice none 0 0, .string ⟨#[]⟩, .int .i64 2, .int .i64 0, .string ⟨#[]⟩, .slice none 0 0, .int .i64 9, .int .i64 0, .string ⟨#[]⟩, .slice none 0 0] := by rw [hw1]; exact blk_new rfl
  obtain ⟨w2, hw2⟩ : ∃ w2, w2 = w1.alloc (.cells #[.slice (some ⟨w.heap.size, 0, none⟩) 1 1, .int .i64 1, .bool false, .int .i64 1] 24) := ⟨_, rfl⟩
  have hs1 : w1.heap.size = w.heap.size + 1 := by rw [hw1]; simp
  have hb1 : Below w.heap.size w w1 := by rw [hw1]; exact below_box _
  have hb12 : Below w1.heap.size w1 w2 := by rw [hw2]; exact below_box _
  have hb2 := below_trans hb1 hb12
  have hR : IsRules w2 (.slice (some ⟨w.heap.size, 0, none⟩) 1 1) litJb.rules := by
    have hB2 := hB.blw hb12
    refine ⟨_, 1, w.heap.size, 0, fun _ => .slice none 0 0, fun _ => .slice none 0 0, fun _ => .slice none 0 0, rfl, fun _ => rfl, fun i x hx => ?_⟩
    have hk : i = 0 ∧ litRl = x := by
      cases i with
      | zero => simpa [litJb] using hx
      | succ i => simp [litJb] at hx
    obtain ⟨rfl, rfl⟩ := hk
    refine ⟨⟨hB2.at rfl, hB2.at rfl, hB2.at rfl, hB2.at rfl, hB2.at rfl, hB2.at rfl, hB2.at rfl, hB2.at rfl, hB2.at rfl, hB2.at rfl, hB2.at rfl, hB2.at rfl, hB2.at rfl, hB2.at rfl, hB2.at rfl⟩, nilEx _ _, nilEx _ _, nilEx _ _⟩
  have JB2 : Blk w2 (w.heap.size + 1) 24 [.slice (some ⟨w.heap.size, 0, none⟩) 1 1, .int .i64 1, .bool false, .int .i64 1] := by rw [hw2]; exact blk_new hs1.symm
  have P := Lib.hid (pairs_any litJb _ [97, 32, 98] w2 hR litJb_wt litJb_fault (by decide) (E.lower hb2))
  rw [litJb_pairs] at P
  have k0 := JB2.at (i := 0) (v := .slice (some ⟨w.heap.size, 0, none⟩) 1 1) rfl
  have k1 := JB2.at (i := 1) (v := .int .i64 1) rfl
  have k2 := JB2.at (i := 2) (v := .bool false) rfl
  have k3 := JB2.at (i := 3) (v := .int .i64 1) rfl
  rw [hw1] at hw2
  have HW2 := Lib.hid hw2
  have HB2 := Lib.hid hb2
  clear hw1 hw2 hB hs1 hb1 hb12 hb2 hR JB2 E
  go_enter Tryd.func18, Tryd.ntmps18
  go_upto_region 2 with fail
  rw [← HW2.out]
  clear HW2
  go_wp2_with (go_at_call 19; refine Hid.out ?_)
  refine Lib.hid ?_
  refine P.out.mono ?_
  clear P
  rintro _ w3 ⟨u, rfl, hrow, hb3⟩
  have hP := Pp.owns_isPairs hrow
  have SP := Lib.hid (Pp.samePairs_any u (.slice (some ⟨w3.heap.size, 0, none⟩) 1 1) [(⟨#[97, 32, 98]⟩, 2)] [(⟨#[97, 32, 98]⟩, 2)] (w3.alloc (.cells #[.string ⟨#[97, 32, 98]⟩, .int .i64 2] 61)) (Pp.isPairs_below hP (below_box _)) (Pp.isPairs_one _ _ _ _ rfl) (by decide))
  rw [decide_eq_true rfl] at SP
  have hb := below_trans HB2.out hb3
  obtain ⟨ua, uc, rfl, -⟩ := hP
  clear hrow hb3
  dsimp only
  go_wp2_with (go_at_call 22; refine Hid.out ?_)
  refine Lib.hid ?_
  refine SP.out.mono ?_
  rintro _ w4 ⟨rfl, nd, hd⟩
  have hb4 : Below w.heap.size w w4 := by rw [hd]; exact below_trans (below_trans hb (below_box _)) (below_drewN _ _)
  clear hd SP
  go_wp2
  go_ret
  exact ⟨rfl, hb4⟩
end Go.Proofs.YtahhcabmpcjddaaDoor
