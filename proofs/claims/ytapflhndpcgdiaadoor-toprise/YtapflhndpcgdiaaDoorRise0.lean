/- Contract of threshfloorlaw.rising. Written by tpl/mk_rise.py. -/
import Derived.Test.YtapflhndpcgdiaaDoorOwn
import Derived.Test.YtapflhndpcgdiaaDoorIns
import Derived.Test.YtapflhndpcgdiaaDoorSymP
namespace Go.Proofs.YtapflhndpcgdiaaDoor
open Go.ChangeShapes Go.WideShapes Go.ChangeAt Go.RowKit
open Stable
def RisesP (l : List (ByteArray × Int)) : Prop := ∀ k, 1 ≤ k → k < l.length → bl (key (pr l k)) (key (pr l (k - 1))) = false
theorem isPairs_some {w : World} {ao : Option Addr} {n cap : Nat} {l : List (ByteArray × Int)} (h : IsPairs w (.slice ao n cap) l) (hl : 0 < l.length) : ∃ b off, ao = some ⟨b, off, none⟩ ∧ ∀ i, i < l.length → w.cell? ⟨b, off + i * 2, none⟩ = some (.string (pr l i).1) ∧ w.cell? ⟨b, off + i * 2 + 1, none⟩ = some (.int .i64 (pr l i).2) := by
  obtain ⟨a, c, e, hc⟩ := h
  injection e with e1 e2 e3
  obtain ⟨b, off, ea, _⟩ := hc 0 hl
  refine ⟨b, off, e1.trans ea, fun i hi => ?_⟩
  obtain ⟨b', off', ea', c0, c1⟩ := hc i hi
  rw [ea] at ea'
  injection ea' with ea'
  injection ea' with e4 e5
  subst e4 e5
  rw [pr_eq l i hi] at c0 c1
  exact ⟨c0, c1⟩
set_option maxRecDepth 100000 in
set_option maxHeartbeats 1000000 in
theorem rising_any (v : Value) (l : List (ByteArray × Int)) (w : World) (h : IsPairs w v l) (hl : l.length ≤ 1000000) :
    Calls Tryd.prog 24 #[v] w fun e w' => ∃ r : Bool, e = .returned (.bool r) ∧ (r = true ↔ RisesP l) ∧ Below w.heap.size w w' := by
  have H := Lib.hid h
  obtain ⟨ao, cap, hv, _⟩ := h
  obtain ⟨n, hn⟩ : ∃ n, n = l.length := ⟨_, rfl⟩
  subst hv
  rw [← hn] at H hl ⊢
  have HN := Lib.hid hn
  clear hn
  by_cases h2 : n ≤ 1
  · have hn1 : (n : Int) ≤ 1 := by omega
    go_enter Tryd.func24, Tryd.ntmps24
    go_wp2_with fail
    go_loopw [3] (fun iv wr => iv = .int .i64 1 ∧ wr = w) (fun _ _ => 0)
    case atStart => exact ⟨rfl, rfl⟩
    case round =>
      obtain ⟨rfl, rfl⟩ := hrel
      go_wp2
      go_ret
      exact ⟨true, rfl, ⟨fun _ k h1 h3 => by have := HN.out; omega, fun _ => rfl⟩, Below.refl _ _⟩
  · obtain ⟨b, off, rfl, hc⟩ := isPairs_some H.out (by have := HN.out; omega)
    have HC := Lib.hid hc
    clear hc
    go_enter Tryd.func24, Tryd.ntmps24
    go_wp2_with fail
    go_loopw [3] (fun iv wr => ∃ i : Nat, iv = .int .i64 i ∧ 1 ≤ i ∧ i ≤ n ∧ Below w.heap.size w wr ∧ Hid (∀ k, 1 ≤ k → k < i → bl (key (pr l k)) (key (pr l (k - 1))) = false)) (fun iv _ => n - (intOf iv).toNat)
    case atStart => exact ⟨1, by go_num, Nat.le_refl _, by omega, Below.refl _ _, fun k h1 h3 => by omega⟩
    case round =>
      obtain ⟨i, rfl, hi1, hin, hb, HD⟩ := hrel
      by_cases hlt : i < n
      · have e1 : IntKind.i64.wrap ((i : Int) - 1) = ((i - 1 : Nat) : Int) := by rw [wrap_small _ (by omega) (by omega)]; omega
        have hi2 : i - 1 < n := by omega
        obtain ⟨c0, _⟩ := HC.out i (by have := HN.out; omega)
        obtain ⟨d0, _⟩ := HC.out (i - 1) (by have := HN.out; omega)
        have k0 := (hb.cell (block_lt c0)).trans c0
        have k1 := (hb.cell (block_lt d0)).trans d0
        clear c0 d0
        obtain ⟨px, hpx⟩ : ∃ q, q = pr l i := ⟨_, rfl⟩
        obtain ⟨py, hpy⟩ : ∃ q, q = pr l (i - 1) := ⟨_, rfl⟩
        rw [← hpx] at k0
        rw [← hpy] at k1
        have HX := Lib.hid hpx
        have HY := Lib.hid hpy
        clear hpx hpy
        cases hc : bl (key px) (key py) with
        | true =>
          have hcm : Op.bytesLess px.1.toList py.1.toList = true := hc
          go_wp2
          go_quiet (fail)
          have HB := hb.trans ((below_drewNs wr nq).mono hb.size)
          go_wp2
          go_ret
          refine ⟨false, rfl, ⟨(fun h => by cases h), fun h => ?_⟩, HB⟩
          have := h i hi1 (by have := HN.out; omega)
          rw [← HX.out, ← HY.out, hc] at this
          exact this.symm
        | false =>
          have hcm : Op.bytesLess px.1.toList py.1.toList = false := hc
          go_wp2
          go_quiet (fail)
          have HB := hb.trans ((below_drewNs wr nq).mono hb.size)
          generalize wr.drewN nq = w3 at *
          clear k0 k1
          go_wp2
          go_roundw
          case rel => exact ⟨i + 1, by go_num, by omega, by omega, HB, fun k h1 h3 => by
            rcases Nat.lt_or_ge k i with h | h
            · exact HD.out k h1 h
            · have : k = i := by omega
              rw [this, ← HX.out, ← HY.out, hc]⟩
          case measure => simp [intOf]; omega
      · go_wp2
        go_ret
        exact ⟨true, rfl, ⟨fun _ k h1 h3 => HD.out k h1 (by have := HN.out; omega), fun _ => rfl⟩, hb⟩
end Go.Proofs.YtapflhndpcgdiaaDoor
