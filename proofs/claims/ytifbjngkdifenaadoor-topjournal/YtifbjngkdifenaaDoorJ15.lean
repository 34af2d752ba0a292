/- Journals: the law TopJournal: what it has written so far, plainly. -/
import Derived.Test.YtifbjngkdifenaaDoorJ12
import Derived.Test.YtifbjngkdifenaaDoorJ13
import Derived.Test.YtifbjngkdifenaaDoorJ14
namespace Go.Proofs.YtifbjngkdifenaaDoor
open Num
/-- Where each of the entries ends. -/
def endsL (l : List Ent) (i : Nat) : List Int := (List.range i).map fun j => ((allT (l.take (j + 1))).length : Int)
theorem endsL_len (l : List Ent) (i : Nat) : (endsL l i).length = i := by simp [endsL]
theorem endsL_at (l : List Ent) (i j : Nat) (h : j < (endsL l i).length) : (endsL l i)[j] = ((allT (l.take (j + 1))).length : Int) := by simp [endsL]
theorem endsL_succ (l : List Ent) (i : Nat) : endsL l (i + 1) = endsL l i ++ [((allT (l.take (i + 1))).length : Int)] := by
  unfold endsL
  rw [List.range_succ, List.map_append]
  rfl
theorem allT_succ (l : List Ent) (i : Nat) (h : i < l.length) : allT (l.take (i + 1)) = allT (l.take i) ++ entE l[i] := by
  unfold allT
  exact fm_succ entE l i h
/-- Of the cut at n the first M entries are read, where M of them end ahead of it. -/
theorem par_many (l : List Ent) (hp : ∀ e ∈ l, Plain e) (n M : Nat) (hM : M ≤ (endsL l l.length).length) (h1 : ∀ j (h : j < (endsL l l.length).length), j < M → (endsL l l.length)[j] ≤ n) (h2 : ∀ h : M < (endsL l l.length).length, (n : Int) < (endsL l l.length)[M]) : parL ((allT l).take n) = l.take M := by
  rw [endsL_len] at hM
  refine par_at l hp M n hM ?_ (fun hlt => ?_)
  · cases M with
    | zero =>
      rw [List.take_zero]
      exact Nat.zero_le _
    | succ M =>
      have h := h1 M (by rw [endsL_len]; omega) (Nat.lt_succ_self _)
      rw [endsL_at] at h
      omega
  · have h := h2 (by rw [endsL_len]; exact hlt)
    rw [endsL_at] at h
    omega
end Go.Proofs.YtifbjngkdifenaaDoor
