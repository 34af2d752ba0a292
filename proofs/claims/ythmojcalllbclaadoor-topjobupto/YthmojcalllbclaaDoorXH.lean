/- Contract of job.headText: a job's first line. -/
import Derived.Test.YthmojcalllbclaaDoorXR
namespace Go.Proofs.YthmojcalllbclaaDoor
open Go.ChangeShapes Go.WideShapes Go.ChangeAt Go.RowKit
/-- A fold's name. -/
def foldL (k : Nat) : List UInt8 := if k = 1 then [115, 117, 109] else if k = 2 then [108, 101, 97, 115, 116] else if k = 3 then [103, 114, 101, 97, 116, 101, 115, 116] else if k = 4 then [99, 111, 117, 110, 116] else []
theorem foldL_len (k : Nat) : (foldL k).length ≤ 8 := by
  unfold foldL
  repeat' split
  all_goals simp
/-- The table of folds besides. -/
structure EnvJ (w : World) : Prop extends EnvT w where
  fo : ∀ k : Nat, k ≤ 4 → w.cell? ⟨0, k, none⟩ = some (.string (bs (foldL k)))
theorem EnvJ.lower {w w' : World} (h : EnvJ w) (hb : Below w.heap.size w w') : EnvJ w' := ⟨h.toEnvT.lower hb, fun k hk => cell_below (h.fo k hk) hb⟩
/-- A job's first line. -/
def headL (j : Jb) : List UInt8 := foldL j.fold.toNat ++ [32] ++ Lib.itoa j.slices ++ (if j.early then [32, 101, 97, 114, 108, 121] else []) ++ [10]
set_option maxRecDepth 100000 in
set_option maxHeartbeats 1000000 in
theorem headText_any (j : Jb) (a : Option Addr) (n cap : Nat) (w : World) (E : EnvJ w) (h1 : 1 ≤ j.fold) (h2 : j.fold ≤ 4) (h3 : 1 ≤ j.slices) (h4 : j.slices ≤ 4) :
    Calls Tryd.prog 25 #[j.value (.slice a n cap)] w fun e w' => e = .returned (.string (bs (headL j))) ∧ Below w.heap.size w w' := by
  have hmix : Tryd.prog.follows .mixedOrders = true := by kernel_rfl
  obtain ⟨m, hm⟩ : ∃ m : Nat, j.fold = (m : Int) := ⟨j.fold.toNat, by omega⟩
  have hm4 : m < 5 := by omega
  obtain ⟨w1, hw1⟩ : ∃ w1, w1 = w.alloc (.cells #[.slice a n cap, .int .i64 m, .bool j.early, .int .i64 j.slices] 41) := ⟨_, rfl⟩
  have hb1 : Below w.heap.size w w1 := by rw [hw1]; exact below_box _
  have k1 : w1.cell? ⟨w.heap.size, 1, none⟩ = some (.int .i64 m) := by rw [hw1]; simp
  have k2 : w1.cell? ⟨w.heap.size, 2, none⟩ = some (.bool j.early) := by rw [hw1]; simp
  have k3 : w1.cell? ⟨w.heap.size, 3, none⟩ = some (.int .i64 j.slices) := by rw [hw1]; simp
  have kf := cell_below (E.fo m (by omega)) hb1
  have DI : Hid (∀ d os, Calls Tryd.prog 38 #[.int .i64 j.slices] (Sort.grow (redrawn w1 d) os) fun e w'' => e = .returned (.string (bs (Lib.itoa j.slices))) ∧ ∃ p : Regrown, w'' = Sort.grow (redrawn w1 p.d) p.os) := fun d os => Calls.regrown_of (itoa_any j.slices _ (E.toEnvT.lower (below_trans hb1 (below_regrown _ _ _))) (by omega) (by omega))
  have qF : (bs (foldL m)).size ≤ 8 := by rw [bs_size]; exact foldL_len m
  have qI := Lib.itoa_length_le j.slices (by omega) (by omega)
  rw [← bs_size] at qI
  have HE : Hid (bs (foldL m) ++ ⟨#[32]⟩ ++ bs (Lib.itoa j.slices) ++ (if j.early then ⟨#[32, 101, 97, 114, 108, 121]⟩ else ⟨#[]⟩) ++ ⟨#[10]⟩ = bs (headL j)) := by
    show _ = _
    unfold headL
    rw [hm]
    simp only [← bs_append, Int.toNat_natCast]
    congr 2
    split <;> rfl
  have HW1 := Lib.hid hw1
  unfold Jb.value
  rw [hm]
  clear hw1 E h1 h2 hm
  generalize bs (headL j) = OUT at *
  generalize bs (foldL m) = FT at *
  generalize bs (Lib.itoa j.slices) = IT at *
  generalize j.slices = sl at *
  generalize j.early = ea at *
  have n0 : ¬ 9223372036854775807 < FT.size + 1 := by omega
  have n1 : ¬ 9223372036854775807 < FT.size + 1 + IT.size := by omega
  have n2 : ¬ 9223372036854775807 < FT.size + 1 + IT.size + 6 := by omega
  have n3 : ¬ 9223372036854775807 < FT.size + 1 + IT.size + 6 + 1 := by omega
  have n4 : ¬ 9223372036854775807 < FT.size + 1 + IT.size + 1 := by omega
  have j1 := cell_regrown k1
  have j3 := cell_regrown k3
  have jf := cell_regrown kf
  have hix : ∀ w : World, (Instr.indexAt 71 (.pointer (some ⟨0, 0, none⟩)) (.int .i64 (m : Int))).run Tryd.prog w = .ok (.pointer (some ⟨0, m, none⟩)) w := by
    intro w
    obtain rfl | rfl | rfl | rfl | rfl : m = 0 ∨ m = 1 ∨ m = 2 ∨ m = 3 ∨ m = 4 := by omega
    all_goals kernel_rfl
  go_enter Tryd.func25, Tryd.ntmps25
  go_wp2
  rw [← HW1.out]
  refine wp_region_quiet_below hmix (by kernel_rfl) ?_
  repeat (quiet_step (first | (go_at_call 38; exact DI.out _ _)))
  refine wpQuiet_nil ?_
  intro _ hw'
  obtain ⟨⟨dq, osq⟩, hw''⟩ := hw'
  subst hw''
  have hbb : Below w.heap.size w (Sort.grow (redrawn w1 dq) osq) := below_trans hb1 (below_regrown w1 dq osq)
  replace k2 := cell_regrown k2 (d := dq) (os := osq)
  generalize Sort.grow (redrawn w1 dq) osq = w9 at *
  cases ea
  · go_wp2
    go_ret
    exact ⟨by rw [← HE.out]; simp [app_none], hbb⟩
  · go_wp2
    go_ret
    exact ⟨by rw [← HE.out]; simp, hbb⟩
end Go.Proofs.YthmojcalllbclaaDoor
