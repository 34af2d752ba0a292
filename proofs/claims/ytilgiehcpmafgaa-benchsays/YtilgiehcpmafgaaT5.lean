/- Tasks: made anew. -/
import Derived.Test.YtilgiehcpmafgaaT4
import Derived.RegionTactic
import Derived.Deep.RegionLaw
namespace Go.Proofs.Ytilgiehcpmafgaa
open Go.ChangeShapes Go.WideShapes Go.ChangeAt Go.RowKit
open Tk
def zeros (n : Nat) : List Int := List.replicate n 0
theorem zeros_len (n : Nat) : (zeros n).length = n := by simp [zeros]
theorem zeros_succ (n : Nat) : zeros (n + 1) = zeros n ++ [0] := by unfold zeros; rw [List.replicate_succ']
set_option maxRecDepth 100000 in
set_option maxHeartbeats 1000000 in
theorem waiting_any (n : Nat) (hn : n ≤ 60) (w : World) :
    Calls Try.prog 29 #[.int .i64 n] w fun e w' => ∃ v, e = .returned v ∧ w'.ownsRow w.heap.size 3 1 v (zeros n).length (cellsI (zeros n)) ∧ Below w.heap.size w w' := by
  obtain ⟨i0, hi0, hz0, hz1, hz2⟩ := info_parts infoInt
  go_enter Try.func29, Try.ntmps29
  go_wp2
  go_loopw [3, 5] (fun lv kv wr => ∃ k : Nat, k ≤ n ∧ kv = .int .i64 k ∧ Hid (wr.ownsRow w.heap.size 3 1 lv (zeros k).length (cellsI (zeros k))) ∧ Below w.heap.size w wr) (fun _ kv _ => n - (intOf kv).toNat)
  case atStart => exact ⟨0, Nat.zero_le _, rfl, World.ownsRow_nil _ _ _ _, Below.refl _ _⟩
  case round =>
    obtain ⟨k, hk, rfl, HO, hb⟩ := hrel
    by_cases hlt : k < n
    · have hl := zeros_len k
      have HZ := Lib.hid (zeros_succ k)
      generalize zeros k = acc at *
      have hl' : acc.length ≤ k := by omega
      have HL := Lib.hid hl
      clear hl
      go_wp2_with (at_builtin; refine Hid.out ?_)
      refine Lib.hid ?_
      have hbs := hb.size
      refine wpList_append_own _ rfl (.tmp 7) (.tmp 8) 42 rfl w.heap.size 3 i0 (.int .i64 0) 1 8 Try.underlying42 hi0 hz0 hz1 hz2 rfl (by decide) _ _ _ rfl (HO.out.alloc _) ⟨wr.heap.size, 0, none⟩ 1 1 (cellsI [0]) rfl rfl ?c1 (cellsI_one _) ?c2 ?c3 ?c4 ?_
      case c1 => exact lit_cells rfl (show 1 ≤ maxLen by decide)
      case c2 => unfold maxLen; omega
      case c3 => omega
      case c4 => simp; omega
      intro v4 w4 hown4 hg4 _
      have hb4 : Below w.heap.size w w4 := (hb.alloc (by omega) _).grown hg4 (by simp; omega) (fun k hk => (HO.out.lt k hk).1)
      have HO4 : Hid (w4.ownsRow w.heap.size 3 1 v4 (acc ++ [0]).length (cellsI (acc ++ [0]))) := by
        show World.ownsRow _ _ _ _ _ _ _
        rw [cellsI_append, List.length_append]
        exact hown4
      clear HO hown4 hg4
      go_wp2
      go_roundw
      case rel => exact ⟨k + 1, by omega, by go_num, by rw [HZ.out]; exact HO4.out, hb4⟩
      case measure => simp [intOf]; omega
    · have hkn : k = n := by omega
      subst hkn
      go_wp2
      go_ret
      exact ⟨_, rfl, HO.out, hb⟩
/-- The cells that make lays. -/
def made (n : Nat) : Array Value := madeCells #[.int .i64 0] (n * 1)
theorem made_list (n : Nat) : (made n).toList = cellsI (zeros n) := by
  unfold made zeros
  rw [Nat.mul_one, toList_madeCells_one]
  simp [cellsI]
theorem make_run (n : Nat) (hn : n ≤ 60) (w : World) : (Instr.makeSlice 42 (.int .i64 (n : Int)) (.int .i64 (n : Int))).run Try.prog w = .ok (.slice (some ⟨w.heap.size, 0, none⟩) n n) (w.alloc (.cells (made n) 3)) := by
  obtain ⟨i0, hi0, hz0, hz1, hz2⟩ := info_parts infoInt
  have h := run_make (P := Try.prog) w 42 3 i0 _ Try.underlying42 hi0 hz0 .i64 .i64 n n (by omega) (Int.le_refl _) (by rw [hz2]; omega) (by omega)
  rw [hz1] at h
  exact h
theorem blk_made {w : World} {n : Nat} : Blk (w.alloc (.cells (made n) 3)) w.heap.size 3 (cellsI (zeros n)) := by
  have := Blk.new w (made n) 3
  rw [made_list] at this
  exact this
theorem owns_of_blk {w : World} {lo g n : Nat} {L : List Int} (h : Blk w g 3 (cellsI L)) (hlo : lo ≤ g) (hn : n = L.length) (hm : n ≤ maxLen) : w.ownsRow lo 3 1 (.slice (some ⟨g, 0, none⟩) n n) L.length (cellsI L) := by
  subst hn
  refine ⟨by rw [cellsI_length]; omega, .inr ⟨g, L.length, (cellsI L).toArray, rfl, hlo, h, Nat.le_refl _, hm, by simp [cellsI], ?_⟩⟩
  rw [Nat.mul_one, List.toList_toArray, List.take_of_length_le (by rw [cellsI_length]; omega)]
theorem blk4 (w : World) (x y z b : Array Value) (t T : TypeId) :
    Blk ((((w.alloc (.cells x t)).alloc (.cells y t)).alloc (.cells z t)).alloc (.cells b T)).drew w.heap.size t x.toList ∧
    Blk ((((w.alloc (.cells x t)).alloc (.cells y t)).alloc (.cells z t)).alloc (.cells b T)).drew (w.heap.size + 1) t y.toList ∧
    Blk ((((w.alloc (.cells x t)).alloc (.cells y t)).alloc (.cells z t)).alloc (.cells b T)).drew (w.heap.size + 1 + 1) t z.toList ∧
    Blk ((((w.alloc (.cells x t)).alloc (.cells y t)).alloc (.cells z t)).alloc (.cells b T)).drew (w.heap.size + 1 + 1 + 1) T b.toList ∧
    ((((w.alloc (.cells x t)).alloc (.cells y t)).alloc (.cells z t)).alloc (.cells b T)).drew.heap.size = w.heap.size + 4 ∧
    Below w.heap.size w ((((w.alloc (.cells x t)).alloc (.cells y t)).alloc (.cells z t)).alloc (.cells b T)).drew := by
  have s1 : (w.alloc (.cells x t)).heap.size = w.heap.size + 1 := by simp
  have s2 : ((w.alloc (.cells x t)).alloc (.cells y t)).heap.size = w.heap.size + 1 + 1 := by simp
  have s3 : (((w.alloc (.cells x t)).alloc (.cells y t)).alloc (.cells z t)).heap.size = w.heap.size + 1 + 1 + 1 := by simp
  have s4 : ((((w.alloc (.cells x t)).alloc (.cells y t)).alloc (.cells z t)).alloc (.cells b T)).heap.size = w.heap.size + 4 := by simp
  have b1 := Blk.new w x t
  have b2 := Blk.new (w.alloc (.cells x t)) y t
  have b3 := Blk.new ((w.alloc (.cells x t)).alloc (.cells y t)) z t
  have b4 := Blk.new (((w.alloc (.cells x t)).alloc (.cells y t)).alloc (.cells z t)) b T
  rw [s1] at b2
  rw [s2] at b3
  rw [s3] at b4
  exact ⟨(((b1.blw (blw_box _)).blw (blw_box _)).blw (blw_box _)).drew, ((b2.blw (blw_box _)).blw (blw_box _)).drew, (b3.blw (blw_box _)).drew, b4.drew, s4, blw_step (blw_step (blw_step (blw_step (blw_box _) (blw_box _)) (blw_box _)) (blw_box _)) (blw_drew _)⟩
theorem isT_made {T : TypeId} {w : World} {lo hi P ga gb gc n m : Nat} (h0 : Blk w P T [.slice (some ⟨ga, 0, none⟩) n n, .slice (some ⟨gb, 0, none⟩) m m, .slice (some ⟨gc, 0, none⟩) n n]) (h1 : Blk w ga 3 (cellsI (zeros n))) (h2 : Blk w gb 3 (cellsI (zeros m))) (h3 : Blk w gc 3 (cellsI (zeros n)))
    (hn : n ≤ 60) (hm : m ≤ 4) (l0 : lo ≤ P ∧ P < hi) (l1 : lo ≤ ga ∧ ga < hi) (l2 : lo ≤ gb ∧ gb < hi) (l3 : lo ≤ gc ∧ gc < hi) (d : ga ≠ gb ∧ ga ≠ gc ∧ gb ≠ gc ∧ ga ≠ P ∧ gb ≠ P ∧ gc ≠ P) :
    IsT T w lo hi P (.slice (some ⟨ga, 0, none⟩) n n) (.slice (some ⟨gb, 0, none⟩) m m) (.slice (some ⟨gc, 0, none⟩) n n) (zeros n) (zeros m) (zeros n) where
  plo := l0.1
  phi := l0.2
  row := h0
  oa := owns_of_blk h1 l1.1 (zeros_len n).symm (by unfold maxLen; omega)
  ob := owns_of_blk h2 l2.1 (zeros_len m).symm (by unfold maxLen; omega)
  oc := owns_of_blk h3 l3.1 (zeros_len n).symm (by unfold maxLen; omega)
  ab := by simp [Value.ownBlock]; exact d.1
  ac := by simp [Value.ownBlock]; exact d.2.1
  bc := by simp [Value.ownBlock]; exact d.2.2.1
  pa := by simp [Value.ownBlock]; exact d.2.2.2.1
  pb := by simp [Value.ownBlock]; exact d.2.2.2.2.1
  pc := by simp [Value.ownBlock]; exact d.2.2.2.2.2
  ha := fun k hk => by simp [Value.ownBlock] at hk; omega
  hb := fun k hk => by simp [Value.ownBlock] at hk; omega
  hc := fun k hk => by simp [Value.ownBlock] at hk; omega
  small := ⟨by rw [zeros_len]; exact hn, by rw [zeros_len]; exact hm, rfl⟩
set_option maxRecDepth 100000 in
set_option maxHeartbeats 1000000 in
theorem newTasks_in (n m : Nat) (hn : n ≤ 60) (hm1 : 1 ≤ m) (hm : m ≤ 4) (w : World) :
    Calls Try.prog 8 #[.int .i64 n, .int .i64 m] w fun e w' => ∃ P va vb vc, e = .returned (.tuple #[.pointer (some ⟨P, 0, none⟩), .int .i64 0]) ∧ IsT 72 w' w.heap.size w'.heap.size P va vb vc (zeros n) (zeros m) (zeros n) ∧ Below w.heap.size w w' := by
  have M1 := make_run n hn
  have M2 := make_run m (by omega)
  go_enter Try.func8, Try.ntmps8
  go_wp2
  go_region
  all_goals go_wp2
  all_goals go_ret2
  all_goals
    refine ⟨_, _, _, _, rfl, isT_made (blk4 w _ _ _ _ _ _).2.2.2.1 ?_ ?_ ?_ hn hm ?_ ?_ ?_ ?_ ?_, (blk4 w _ _ _ _ _ _).2.2.2.2.2⟩
    all_goals first
      | (rw [← made_list]; first | exact (blk4 w _ _ _ _ _ _).1 | exact (blk4 w _ _ _ _ _ _).2.1 | exact (blk4 w _ _ _ _ _ _).2.2.1)
      | exact ⟨by omega, by rw [(blk4 w _ _ _ _ _ _).2.2.2.2.1]; omega⟩
      | exact ⟨by omega, by omega, by omega, by omega, by omega, by omega⟩
theorem newTasks_out (n m : Int) (h : n < 0 ∨ 60 < n ∨ m < 1 ∨ 4 < m) (w : World) :
    Calls Try.prog 8 #[.int .i64 n, .int .i64 m] w fun e w' => e = .returned (.tuple #[.pointer none, .int .i64 1]) ∧ w' = w := by
  cases g1 : decide (n < 0) with
  | true =>
    clear h
    go_enter Try.func8, Try.ntmps8
    go_wp2
    all_goals go_ret2
    all_goals exact ⟨rfl, rfl⟩
  | false =>
    cases g2 : decide (60 < n) with
    | true =>
      clear h
      go_enter Try.func8, Try.ntmps8
      go_wp2
      all_goals go_ret2
      all_goals exact ⟨rfl, rfl⟩
    | false =>
      cases g3 : decide (m < 1) with
      | true =>
        clear h
        go_enter Try.func8, Try.ntmps8
        go_wp2
        all_goals go_ret2
        all_goals exact ⟨rfl, rfl⟩
      | false =>
        have g4 : decide (4 < m) = true := decide_eq_true (by have := of_decide_eq_false g1; have := of_decide_eq_false g2; have := of_decide_eq_false g3; omega)
        clear h
        go_enter Try.func8, Try.ntmps8
        go_wp2
        all_goals go_ret2
        all_goals exact ⟨rfl, rfl⟩
theorem new_out (n m : Int) (h : n < 0 ∨ 60 < n ∨ m < 1 ∨ 4 < m) (w : World) :
    Calls Try.prog 7 #[.int .i64 n, .int .i64 m] w fun e w' => e = .returned (.tuple #[.pointer none, .iface 68 (.int .i64 1)]) ∧ w' = w := by
  cases g1 : decide (n < 0) with
  | true =>
    clear h
    go_enter Try.func7, Try.ntmps7
    go_wp2
    all_goals go_ret2
    all_goals exact ⟨rfl, rfl⟩
  | false =>
    cases g2 : decide (60 < n) with
    | true =>
      clear h
      go_enter Try.func7, Try.ntmps7
      go_wp2
      all_goals go_ret2
      all_goals exact ⟨rfl, rfl⟩
    | false =>
      cases g3 : decide (m < 1) with
      | true =>
        clear h
        go_enter Try.func7, Try.ntmps7
        go_wp2
        all_goals go_ret2
        all_goals exact ⟨rfl, rfl⟩
      | false =>
        have g4 : decide (4 < m) = true := decide_eq_true (by have := of_decide_eq_false g1; have := of_decide_eq_false g2; have := of_decide_eq_false g3; omega)
        clear h
        go_enter Try.func7, Try.ntmps7
        go_wp2
        all_goals go_ret2
        all_goals exact ⟨rfl, rfl⟩
theorem owns_lower {w : World} {lo base : Nat} {e : TypeId} {size : Nat} {v : Value} {n : Nat} {xs : List Value} (h : w.ownsRow base e size v n xs) (hl : lo ≤ base) : w.ownsRow lo e size v n xs := by
  refine ⟨h.1, ?_⟩
  rcases h.2 with h1 | ⟨g, cap, cur, h1, h2, h3⟩
  · exact .inl h1
  · exact .inr ⟨g, cap, cur, h1, Nat.le_trans hl h2, h3⟩
theorem owns_blw {w w' : World} {base : Nat} {e : TypeId} {size : Nat} {v : Value} {n : Nat} {xs : List Value} (h : w.ownsRow base e size v n xs) (hb : Below w.heap.size w w') : w'.ownsRow base e size v n xs := owns_same h fun k hk => hb.block k (owns_lt h hk).2
theorem isT_new {T : TypeId} {w : World} {lo hi P n m A1 A2 B1 B2 C1 C2 : Nat} {va vb vc : Value} (h0 : Blk w P T [va, vb, vc]) (oa : w.ownsRow A1 3 1 va (zeros n).length (cellsI (zeros n))) (ob : w.ownsRow B1 3 1 vb (zeros m).length (cellsI (zeros m))) (oc : w.ownsRow C1 3 1 vc (zeros n).length (cellsI (zeros n)))
    (ua : ∀ k, va.ownBlock = some k → k < A2) (ub : ∀ k, vb.ownBlock = some k → k < B2) (uc : ∀ k, vc.ownBlock = some k → k < C2) (la : lo ≤ A1) (lb : lo ≤ B1) (lc : lo ≤ C1) (ab : A2 ≤ B1 ∨ B2 ≤ A1) (ac : A2 ≤ C1 ∨ C2 ≤ A1) (bc : B2 ≤ C1 ∨ C2 ≤ B1) (pa : A2 ≤ P) (pb : B2 ≤ P) (pc : C2 ≤ P) (hp : lo ≤ P ∧ P < hi) (hn : n ≤ 60) (hm1 : 1 ≤ m) (hm : m ≤ 4) (hc : vc.ownBlock ≠ none) :
    IsT T w lo hi P va vb vc (zeros n) (zeros m) (zeros n) := by
  have hbn : vb.ownBlock ≠ none := by
    rcases ob.2 with ⟨_, h⟩ | ⟨g, cap, cur, h, _⟩
    · rw [zeros_len] at h; omega
    · rw [h]; simp [Value.ownBlock]
  have la' : ∀ k, va.ownBlock = some k → A1 ≤ k := fun k hk => (owns_lt oa hk).1
  have lb' : ∀ k, vb.ownBlock = some k → B1 ≤ k := fun k hk => (owns_lt ob hk).1
  have lc' : ∀ k, vc.ownBlock = some k → C1 ≤ k := fun k hk => (owns_lt oc hk).1
  exact {
    plo := hp.1
    phi := hp.2
    row := h0
    oa := owns_lower oa la
    ob := owns_lower ob lb
    oc := owns_lower oc lc
    ab := fun e => by
      cases hv : vb.ownBlock with
      | none => exact hbn hv
      | some k =>
        rw [hv] at e
        have := ua k e
        have := la' k e
        have := ub k hv
        have := lb' k hv
        omega
    ac := fun e => by
      cases hv : vc.ownBlock with
      | none => exact hc hv
      | some k =>
        rw [hv] at e
        have := ua k e
        have := la' k e
        have := uc k hv
        have := lc' k hv
        omega
    bc := fun e => by
      cases hv : vc.ownBlock with
      | none => exact hc hv
      | some k =>
        rw [hv] at e
        have := ub k e
        have := lb' k e
        have := uc k hv
        have := lc' k hv
        omega
    pa := fun e => by have := ua P e; omega
    pb := fun e => by have := ub P e; omega
    pc := fun e => by have := uc P e; omega
    ha := fun k hk => by have := ua k hk; omega
    hb := fun k hk => by have := ub k hk; omega
    hc := fun k hk => by have := uc k hk; omega
    small := ⟨by rw [zeros_len]; exact hn, by rw [zeros_len]; exact hm, rfl⟩ }
set_option maxRecDepth 100000 in
set_option maxHeartbeats 1000000 in
theorem new_in (n m : Nat) (hn : n ≤ 60) (hm1 : 1 ≤ m) (hm : m ≤ 4) (w : World) :
    Calls Try.prog 7 #[.int .i64 n, .int .i64 m] w fun e w' => ∃ P va vb vc, e = .returned (.tuple #[.pointer (some ⟨P, 0, none⟩), .nilIface]) ∧ IsT 70 w' w.heap.size w'.heap.size P va vb vc (zeros n) (zeros m) (zeros n) ∧ Below w.heap.size w w' := by
  have M1 := make_run n hn
  have W1 := Lib.hid (waiting_any n hn)
  have W2 := Lib.hid (waiting_any m (by omega))
  go_enter Try.func7, Try.ntmps7
  go_wp2
  go_region_with (first | (go_at_call_of 29 (Value.int IntKind.i64 (n : Int)); refine (W1.out _).mono ?_; rintro _ w1 ⟨va, rfl, oa, hb1⟩; obtain ⟨ao1, cap1, e1, _⟩ := isIs_of oa; rw [zeros_len] at e1; subst e1; have OA := Lib.hid oa; clear oa) | (go_at_call_of 29 (Value.int IntKind.i64 (m : Int)); refine (W2.out _).mono ?_; rintro _ w2 ⟨vb, rfl, ob, hb2⟩; obtain ⟨ao2, cap2, e2, _⟩ := isIs_of ob; rw [zeros_len] at e2; subst e2; have OB := Lib.hid ob; clear ob))
  all_goals go_wp2
  all_goals go_ret2
  · have z0 : w.drew.heap.size = w.heap.size := rfl
    have z1 : (w2.alloc (.cells (made n) 3)).heap.size = w2.heap.size + 1 := by simp
    have s1 := hb1.size
    have s2 := hb2.size
    rw [z0] at s1
    have bx := blw_step (w := w2) (blw_box (.cells (made n) 3)) (blw_box (.cells #[.slice ao1 n cap1, .slice ao2 m cap2, .slice (some ⟨w2.heap.size, 0, none⟩) n n] 70))
    have bP := Blk.new (w2.alloc (.cells (made n) 3)) #[.slice ao1 n cap1, .slice ao2 m cap2, .slice (some ⟨w2.heap.size, 0, none⟩) n n] 70
    rw [z1] at bP
    have bC := (blk_made (w := w2) (n := n)).blw (blw_box (.cells #[.slice ao1 n cap1, .slice ao2 m cap2, .slice (some ⟨w2.heap.size, 0, none⟩) n n] 70))
    refine ⟨_, _, _, _, rfl, isT_new (A1 := w.heap.size) (A2 := w1.heap.size) (B1 := w1.heap.size) (B2 := w2.heap.size) (C1 := w2.heap.size) (C2 := w2.heap.size + 1) bP (owns_blw (owns_blw OA.out hb2) bx) (owns_blw OB.out bx) (owns_of_blk bC (Nat.le_refl _) (zeros_len n).symm (by unfold maxLen; omega)) (fun k hk => (owns_lt OA.out hk).2) (fun k hk => (owns_lt OB.out hk).2) (fun k hk => by simp [Value.ownBlock] at hk; omega) (Nat.le_refl _) s1 (by omega) (.inl (Nat.le_refl _)) (.inl s2) (.inl (Nat.le_refl _)) (by omega) (by omega) (by omega) ⟨by omega, by simp⟩ hn hm1 hm (by simp [Value.ownBlock]), blw_step (blw_step (blw_step (blw_drew w) hb1) hb2) bx⟩
  · have z0 : w.drew.heap.size = w.heap.size := rfl
    have z1 : (w1.alloc (.cells (made n) 3)).heap.size = w1.heap.size + 1 := by simp
    have s1 := hb1.size
    have s2 := hb2.size
    rw [z0] at s1
    rw [z1] at s2
    have OB' := OB.out
    rw [z1] at OB'
    have bx := blw_box (w := w2) (.cells #[.slice ao1 n cap1, .slice ao2 m cap2, .slice (some ⟨w1.heap.size, 0, none⟩) n n] 70)
    have bP := Blk.new w2 #[.slice ao1 n cap1, .slice ao2 m cap2, .slice (some ⟨w1.heap.size, 0, none⟩) n n] 70
    have bC := ((blk_made (w := w1) (n := n)).blw hb2).blw bx
    refine ⟨_, _, _, _, rfl, isT_new (A1 := w.heap.size) (A2 := w1.heap.size) (B1 := w1.heap.size + 1) (B2 := w2.heap.size) (C1 := w1.heap.size) (C2 := w1.heap.size + 1) bP (owns_blw (owns_blw (owns_blw OA.out (blw_box _)) hb2) bx) (owns_blw OB' bx) (owns_of_blk bC (Nat.le_refl _) (zeros_len n).symm (by unfold maxLen; omega)) (fun k hk => (owns_lt OA.out hk).2) (fun k hk => (owns_lt OB.out hk).2) (fun k hk => by simp [Value.ownBlock] at hk; omega) (Nat.le_refl _) (by omega) s1 (.inl (by omega)) (.inl (Nat.le_refl _)) (.inr (Nat.le_refl _)) (by omega) (by omega) (by omega) ⟨by omega, by simp⟩ hn hm1 hm (by simp [Value.ownBlock]), blw_step (blw_step (blw_step (blw_step (blw_drew w) hb1) (blw_box _)) hb2) bx⟩
  · have z0 : (w.alloc (.cells (made n) 3)).drew.heap.size = w.heap.size + 1 := by simp
    have s1 := hb1.size
    have s2 := hb2.size
    rw [z0] at s1
    have OA' := OA.out
    rw [z0] at OA'
    have bx := blw_box (w := w2) (.cells #[.slice ao1 n cap1, .slice ao2 m cap2, .slice (some ⟨w.heap.size, 0, none⟩) n n] 70)
    have bP := Blk.new w2 #[.slice ao1 n cap1, .slice ao2 m cap2, .slice (some ⟨w.heap.size, 0, none⟩) n n] 70
    have bC := (((blk_made (w := w) (n := n)).drew.blw hb1).blw hb2).blw bx
    refine ⟨_, _, _, _, rfl, isT_new (A1 := w.heap.size + 1) (A2 := w1.heap.size) (B1 := w1.heap.size) (B2 := w2.heap.size) (C1 := w.heap.size) (C2 := w.heap.size + 1) bP (owns_blw (owns_blw OA' hb2) bx) (owns_blw OB.out bx) (owns_of_blk bC (Nat.le_refl _) (zeros_len n).symm (by unfold maxLen; omega)) (fun k hk => (owns_lt OA.out hk).2) (fun k hk => (owns_lt OB.out hk).2) (fun k hk => by simp [Value.ownBlock] at hk; omega) (by omega) (by omega) (Nat.le_refl _) (.inl (Nat.le_refl _)) (.inr (Nat.le_refl _)) (.inr (by omega)) (by omega) (by omega) (by omega) ⟨by omega, by simp⟩ hn hm1 hm (by simp [Value.ownBlock]), blw_step (blw_step (blw_step (blw_step (blw_box _) (blw_drew _)) hb1) hb2) bx⟩
set_option maxRecDepth 100000 in
set_option maxHeartbeats 1000000 in
/-- Two slices that hold the same. -/
theorem sameNumbers_any (u v : Value) (l : List Int) (w : World) (h1 : IsIs w u l) (h2 : IsIs w v l) (hl : l.length ≤ 1000000) :
    Calls Try.prog 14 #[u, v] w fun e w' => e = .returned (.bool true) ∧ Below w.heap.size w w' := by
  obtain ⟨ao, cap, rfl, q1⟩ := h1
  obtain ⟨bo, cap', rfl, q2⟩ := h2
  have H1 := Lib.hid q1
  have H2 := Lib.hid q2
  clear q1 q2
  obtain ⟨n, hn⟩ : ∃ n, n = l.length := ⟨_, rfl⟩
  rw [← hn] at hl ⊢
  have HN := Lib.hid hn
  clear hn
  go_enter Try.func14, Try.ntmps14
  go_wp2
  go_loopw [5] (fun kv wr => ∃ k : Nat, k ≤ n ∧ kv = .int .i64 k ∧ Below w.heap.size w wr) (fun kv _ => n - (intOf kv).toNat)
  case atStart => exact ⟨0, Nat.zero_le _, rfl, Below.refl _ _⟩
  case round =>
    obtain ⟨k, hk, rfl, hb⟩ := hrel
    by_cases hlt : k < n
    · have hkl : k < l.length := by have := HN.out; omega
      obtain ⟨b, off, rfl, c0⟩ := H1.out k hkl
      obtain ⟨b', off', rfl, c1⟩ := H2.out k hkl
      replace c0 := cell_blw c0 hb
      replace c1 := cell_blw c1 hb
      clear H1 H2
      generalize l[k] = x at c0 c1
      go_wp2
      go_quiet (fail)
      have hb2 : Below w.heap.size w (wr.drewN nq) := blw_step hb (blw_drewN _ _)
      generalize wr.drewN nq = w3 at *
      go_wp2
      go_roundw
      case rel => exact ⟨k + 1, by omega, by go_num, hb2⟩
      case measure => simp [intOf]; omega
    · clear H1 H2
      go_wp2
      go_ret
      exact ⟨rfl, hb⟩
set_option maxRecDepth 100000 in
set_option maxHeartbeats 1000000 in
theorem lists_any (w : World) : Calls Try.prog 5 #[] w fun e w' => e = .returned (.bool true) ∧ Below w.heap.size w w' := by
  have N := Lib.hid (new_in 1 1 (by omega) (by omega) (by omega) w)
  go_enter Try.func5, Try.ntmps5
  go_wp2_with (go_at_call 7; refine Hid.out ?_)
  refine Lib.hid ?_
  refine N.out.mono ?_
  rintro _ w1 ⟨P, va, vb, vc, rfl, hT, hb1⟩
  have X := Lib.hid (next_any w1 hT)
  have B := Lib.hid (fun w2 (hb : Below w1.heap.size w1 w2) => begin_in w2 (hT.blw hb) false 0 (by decide))
  have e1 : next (zeros 1) (zeros 1) = (false, 0, true) := by decide
  have e2 : begF (zeros 1) (zeros 1) false 0 = 0 := by decide
  have e3 : errV 0 = .nilIface := rfl
  rw [e1] at X
  simp only [e2, e3] at B
  have hlo : w.heap.size ≤ w.heap.size := Nat.le_refl _
  clear e1 e2 e3 hT
  go_wp2_with (first | (go_at_call 28; refine X.out.mono ?_; rintro _ w2 ⟨rfl, hb2⟩) | (go_at_call 11; refine (B.out _ hb2).mono ?_; rintro _ w3 ⟨rfl, _, hw3⟩))
  go_ret
  exact ⟨rfl, Win.blw (blw_step hb1 hb2) hw3 hlo⟩
end Go.Proofs.Ytilgiehcpmafgaa
