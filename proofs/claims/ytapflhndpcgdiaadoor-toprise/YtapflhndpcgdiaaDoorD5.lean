/- Folders: Out, Save, begins, Load. -/
import Derived.Test.YtapflhndpcgdiaaDoorD4
namespace Go.Proofs.YtapflhndpcgdiaaDoor
open Go.ChangeShapes Go.WideShapes Go.ChangeAt Go.RowKit
open Grp Stable
set_option maxRecDepth 100000 in
theorem out_any (R : Nat) (kind : Int) (kv mv : Value) (ss : List (List (ByteArray × Int))) (l : List (ByteArray × Int)) (w : World) (E : Env w) (h : IsRun w R kind kv ss mv l) (hf : Fits l) (hl : l.length ≤ 1000) :
    Calls Tryd.prog 29 #[.pointer (some ⟨R, 0, none⟩)] w fun e w' => e = .returned (.string (bs (textL l))) ∧ Below w.heap.size w w' := by
  have c2 := h.blk.at (i := 2) (v := mv) rfl
  have hp := owns_isPairs h.row
  have T := Lib.hid (text_any mv l w E hp hf hl)
  obtain ⟨a, c, rfl, _⟩ := hp
  generalize bs (textL l) = t at *
  go_enter Tryd.func29, Tryd.ntmps29
  go_wp2_with (go_at_call 19; refine T.out.mono ?_; rintro _ w1 ⟨rfl, hb1⟩)
  go_ret
  exact ⟨rfl, hb1⟩
set_option maxRecDepth 100000 in
theorem save_any (R : Nat) (kind : Int) (kv mv : Value) (ss : List (List (ByteArray × Int))) (l : List (ByteArray × Int)) (w : World) (E : Env w) (h : IsRun w R kind kv ss mv l) (hf : Fits l) (hl : l.length ≤ 1000) :
    Calls Tryd.prog 31 #[.pointer (some ⟨R, 0, none⟩)] w fun e w' => e = .returned (.string (bs (textL l))) ∧ Below w.heap.size w w' := by
  have T := Lib.hid (out_any R kind kv mv ss l w E h hf hl)
  generalize bs (textL l) = t at *
  go_enter Tryd.func31, Tryd.ntmps31
  go_wp2_with (go_at_call 29; refine T.out.mono ?_; rintro _ w1 ⟨rfl, hb1⟩)
  go_ret
  exact ⟨rfl, hb1⟩
theorem segs_key : ∀ {ks : List ByteArray} {ss : List (List (ByteArray × Int))}, Segs ks ss → ∀ (i : Nat) (h : i < ss.length), ∃ p t, ss[i] = p :: t ∧ ks[i]? = some p.1
  | [], [], _, i, h => by simp at h
  | k :: ks, s :: ss, hs, i, h => by
    cases i with
    | zero =>
      cases hq : s with
      | nil => exact absurd hq hs.1.ne
      | cons p t =>
        refine ⟨p, t, by simp, ?_⟩
        rw [List.getElem?_cons_zero, ← hs.1.key p (by rw [hq]; exact List.mem_cons_self)]
    | succ i =>
      obtain ⟨p, t, h1, h2⟩ := segs_key hs.2.2 i (by simpa using h)
      exact ⟨p, t, by simpa using h1, by simpa using h2⟩
  | [], _ :: _, h, _, _ => h.elim
  | _ :: _, [], h, _, _ => h.elim
set_option maxRecDepth 100000 in
set_option maxHeartbeats 1000000 in
theorem begins_any (R : Nat) (kind : Int) (ko : Option Addr) (kc : Nat) (mv lv : Value) (ss : List (List (ByteArray × Int))) (ks : List ByteArray) (l L : List (ByteArray × Int)) (w : World) (h : IsRun w R kind (.slice ko ss.length kc) ss mv l) (hk : Segs ks ss) (hv : IsPairs w lv L) (hL : ∀ (i : Nat) (h : i < L.length), ks[i]? = some L[i].1) (hLs : L.length ≤ ss.length) (hss : ss.length ≤ 1000) :
    Calls Tryd.prog 48 #[.pointer (some ⟨R, 0, none⟩), lv] w fun e w' => e = .returned (.bool true) ∧ Below w.heap.size w w' := by
  obtain ⟨lo, lc, rfl, hlc⟩ := hv
  have c1 := h.blk.at (i := 1) (v := .slice ko ss.length kc) rfl
  have HR := Lib.hid h
  have HK := Lib.hid hk
  have HL := Lib.hid hL
  have HLC := Lib.hid hlc
  obtain ⟨n, hn⟩ : ∃ n, n = L.length := ⟨_, rfl⟩
  have HN := Lib.hid hn
  rw [← hn] at hLs ⊢
  clear h hk hL hlc hn
  go_enter Tryd.func48, Tryd.ntmps48
  go_wp2
  clear c1
  go_loopg [17] n (fun gg iv wr => ∃ i : Nat, gg = n - i ∧ i ≤ n ∧ iv = .int .i64 i ∧ Below w.heap.size w wr)
  case atStart => exact ⟨0, rfl, Nat.zero_le _, rfl, Below.refl _ _⟩
  case round =>
    obtain ⟨i, hgi, hi, rfl, hb⟩ := hrel
    have HGI := Lib.hid hgi
    clear hgi
    by_cases hlt : i < n
    · have hiL : i < L.length := by have := HN.out; omega
      have his : i < ss.length := by omega
      obtain ⟨lb, loff, rfl, l0, l1⟩ := HLC.out i hiL
      replace l0 := (hb.cell (block_lt l0)).trans l0
      replace l1 := (hb.cell (block_lt l1)).trans l1
      have hRw := HR.out.blk.lt
      have c1 := (HR.out.blw hb).blk.at (i := 1) (v := .slice ko ss.length kc) rfl
      obtain ⟨a0', cp0, ek, hcell⟩ := HR.out.keys wr (hb.mono (Nat.le_of_lt hRw))
      simp only [Value.slice.injEq] at ek
      obtain ⟨rfl, _, rfl⟩ := ek
      obtain ⟨kb, koff, u, rfl, k0, hu⟩ := hcell i his
      obtain ⟨p, t, hpt, hkp⟩ := segs_key HK.out i his
      rw [hpt] at hu
      obtain ⟨uo, uc, eu, huc⟩ := hu
      subst eu
      obtain ⟨ub, uoff, rfl, u0, _⟩ := huc 0 (by simp)
      have hpk : p.1 = L[i].1 := by
        have := HL.out i hiL
        rw [hkp] at this
        exact Option.some.inj this
      rw [List.getElem_cons_zero, hpk] at u0
      rw [Nat.zero_mul, Nat.add_zero] at u0
      have hul : 0 < (p :: t).length := by simp
      clear huc
      generalize (p :: t).length = un at *
      clear hpt hkp hcell hpk
      generalize L[i].1 = x at *
      generalize L[i].2 = y at *
      obtain ⟨w2, hw2⟩ : ∃ w2, w2 = wr.alloc (.cells #[.string x, .int .i64 y] 30) := ⟨_, rfl⟩
      have hb2 : Below wr.heap.size wr w2 := by rw [hw2]; exact blw_box _
      obtain ⟨P, hP⟩ : ∃ P, P = wr.heap.size := ⟨_, rfl⟩
      have p0 : w2.cell? ⟨P, 0, none⟩ = some (.string x) := by rw [hw2, hP]; simp
      have c12 := (hb2.cell (block_lt c1)).trans c1
      have k02 := (hb2.cell (block_lt k0)).trans k0
      have u02 := (hb2.cell (block_lt u0)).trans u0
      have hb22 := Lib.hid (blw_step hb hb2)
      have HW2 := Lib.hid hw2
      have HP := Lib.hid hP
      clear c1 k0 u0 hw2 hP hb2 hb
      go_wp2_with fail
      rw [← HW2.out, ← HP.out]
      clear HW2 HP
      go_quiet (fail)
      have hb3 : Below w.heap.size w (w2.drewN nq) := blw_step hb22.out (blw_drewN _ _)
      generalize w2.drewN nq = w3 at *
      clear c12 k02 u02 p0 l0 l1
      go_wp2
      go_roundg (n - (i + 1))
      case measure => have := HGI.out; omega
      case rel => exact ⟨i + 1, rfl, by omega, by go_num, hb3⟩
    · go_wp2
      go_ret
      exact ⟨rfl, hb⟩
end Go.Proofs.YtapflhndpcgdiaaDoor
