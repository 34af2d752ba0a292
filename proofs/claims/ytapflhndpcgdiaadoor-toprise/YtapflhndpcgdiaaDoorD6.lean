/- Folders: Load. -/
import Derived.Test.YtapflhndpcgdiaaDoorD5
namespace Go.Proofs.YtapflhndpcgdiaaDoor
open Go.ChangeShapes Go.WideShapes Go.ChangeAt Go.RowKit
open Grp Stable
theorem owns_lowR {w : World} {lo base : Nat} {e : TypeId} {size : Nat} {v : Value} {n : Nat} {xs : List Value} (h : w.ownsRow base e size v n xs) (hl : lo ≤ base) : w.ownsRow lo e size v n xs :=
  ⟨h.1, h.2.imp id (fun ⟨g, cap, cur, a, b, c⟩ => ⟨g, cap, cur, a, Nat.le_trans hl b, c⟩)⟩
set_option maxRecDepth 100000 in
set_option maxHeartbeats 1000000 in
theorem load_any (R : Nat) (kind : Int) (ko : Option Addr) (kc : Nat) (mv : Value) (ss : List (List (ByteArray × Int))) (ks : List ByteArray) (l L : List (ByteArray × Int)) (w : World) (E : Env w) (h : IsRun w R kind (.slice ko ss.length kc) ss mv l) (hk : Segs ks ss) (hf : Fits L) (hL : ∀ (i : Nat) (h : i < L.length), ks[i]? = some L[i].1) (hLs : L.length ≤ ss.length) (hss : ss.length ≤ 900) :
    Calls Tryd.prog 30 #[.pointer (some ⟨R, 0, none⟩), .string (bs (textL L))] w fun e w' => ∃ (lo : Option Addr) (lc : Nat), e = .returned (.bool true) ∧ IsRun w' R kind (.slice ko ss.length kc) ss (.slice lo L.length lc) L ∧ Fr w w' R none ∧ ∀ b, (Value.slice lo L.length lc).ownBlock = some b → w.heap.size ≤ b := by
  have P := Lib.hid (readOwn L w E hf (by omega))
  have BG : Hid (∀ w1 lv, Below w.heap.size w w1 → IsPairs w1 lv L → Calls Tryd.prog 48 #[.pointer (some ⟨R, 0, none⟩), lv] w1 fun e w' => e = .returned (.bool true) ∧ Below w1.heap.size w1 w') := fun w1 lv hb hv => begins_any R kind ko kc mv lv ss ks l L w1 (h.blw hb) hk hv hL hLs (by omega)
  have HR := Lib.hid h
  clear h hk hL E
  generalize bs (textL L) = tx at *
  go_enter Tryd.func30, Tryd.ntmps30
  go_wp2_with (go_at_call 16; refine Hid.out ?_)
  refine Lib.hid ?_
  refine P.out.mono ?_
  clear P
  rintro _ w1 ⟨lv, rfl, hown, hb1⟩
  have hp := owns_isPairs hown
  have B1 := Lib.hid (BG.out w1 lv hb1 hp)
  obtain ⟨lo, lc, rfl, _⟩ := hp
  have HO := Lib.hid hown
  clear hown BG
  dsimp only
  go_wp2_with (go_at_call 48; refine Hid.out ?_)
  refine Lib.hid ?_
  refine B1.out.mono ?_
  clear B1
  rintro _ w2 ⟨rfl, hb2⟩
  have hb12 := blw_step hb1 hb2
  have HR2 := Lib.hid (HR.out.blw hb12)
  have HO2 := Lib.hid (owns_blw HO.out hb2)
  have z2 := HR2.out.blk.at (i := 2) (v := mv) rfl
  have f2 := HR2.out.blk.frozen 2
  have hRw := HR.out.blk.lt
  have HFIN : Hid (IsRun (w2.setCell ⟨R, 2, none⟩ (.slice lo L.length lc)) R kind (.slice ko ss.length kc) ss (.slice lo L.length lc) L ∧ Fr w (w2.setCell ⟨R, 2, none⟩ (.slice lo L.length lc)) R none ∧ ∀ b, (Value.slice lo L.length lc).ownBlock = some b → w.heap.size ≤ b) := by
    refine ⟨⟨HR2.out.blk.set 2 _, fun w' h' => HR2.out.keys w' (((Below.refl R w2).setCell (p := ⟨R, 2, none⟩) (Nat.le_refl _) _).trans h'), owns_putR (owns_lowR HO2.out hRw) (Nat.lt_succ_self _)⟩, (Fr.of_blw hb12 R none).put 2 _, fun b hb => (HO2.out.lt b hb).1⟩
  clear hb1 hb2 hb12 HR HO HO2 HR2
  dsimp only
  go_wp2
  go_ret
  exact ⟨lo, lc, rfl, HFIN.out⟩
end Go.Proofs.YtapflhndpcgdiaaDoor
