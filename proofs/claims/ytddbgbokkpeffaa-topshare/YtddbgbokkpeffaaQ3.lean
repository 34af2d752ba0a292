/- Queues: whose turn it is: queue.Pick. -/
import Derived.Test.YtddbgbokkpeffaaQ2
import Derived.OwnWalk
namespace Go.Proofs.Ytddbgbokkpeffaa
open Go.ChangeShapes Go.WideShapes Go.ChangeAt Go.RowKit
namespace Pk
/-- Whose turn it is, among the first n: the first one than which no other has less; -1: there is none. -/
def Turn (l : List (Int × Int)) (has : List Int) (wants : List Bool) (n : Nat) (r : Int) : Prop :=
  ((∀ i, i < n → okB l has wants i = false) ∧ r = -1) ∨ ∃ i : Nat, r = i ∧ i < n ∧ okB l has wants i = true ∧ (∀ k, k < n → okB l has wants k = true → less l has k i = false) ∧ (∀ j, j < i → okB l has wants j = true → less l has i j = true)
theorem Turn.unique {l : List (Int × Int)} {has : List Int} {wants : List Bool} {n : Nat} {r s : Int} (h : Turn l has wants n r) (k : Turn l has wants n s) : r = s := by
  rcases h with ⟨h1, h2⟩ | ⟨i, h1, h2, h3, h4, h5⟩
  · rcases k with ⟨k1, k2⟩ | ⟨j, k1, k2, k3, k4, k5⟩
    · rw [h2, k2]
    · have := h1 j k2; rw [k3] at this; cases this
  · rcases k with ⟨k1, k2⟩ | ⟨j, k1, k2, k3, k4, k5⟩
    · have := k1 i h2; rw [h3] at this; cases this
    · rcases Nat.lt_trichotomy i j with hij | hij | hij
      · have a := k5 i hij h3
        have b := h4 j k2 k3
        rw [a] at b; cases b
      · rw [h1, k1, hij]
      · have a := h5 j hij k3
        have b := k4 i h2 h3
        rw [a] at b; cases b
theorem neg_trans (hk hi hj wk wi wj : Int) (p1 : 0 < wk) (p2 : 0 < wi) (p3 : 0 < wj) (h1 : hk * wj < hj * wk) (h2 : ¬ hk * wi < hi * wk) : hi * wj < hj * wi := by
  have a : hk * wj * wi < hj * wk * wi := Int.mul_lt_mul_of_pos_right h1 p2
  have b : hi * wk * wj ≤ hk * wi * wj := Int.mul_le_mul_of_nonneg_right (by omega) (by omega)
  have e1 : hk * wj * wi = hk * wi * wj := Int.mul_right_comm _ _ _
  have e2 : hi * wk * wj = hi * wj * wk := Int.mul_right_comm _ _ _
  have e3 : hj * wk * wi = hj * wi * wk := Int.mul_right_comm _ _ _
  rw [e1, e3] at a
  rw [e2] at b
  exact Int.lt_of_mul_lt_mul_right (Int.lt_of_le_of_lt b a) (by omega)
theorem wOf_pos {l : List (Int × Int)} {has : List Int} (hg : GoodQ l has) {i : Nat} (h : i < l.length) : 0 < wOf l i := by
  unfold wOf
  rw [List.getD_eq_getElem?_getD, List.getElem?_eq_getElem h]
  exact (hg.1 l[i] (List.getElem_mem h)).1
theorem less_neg {l : List (Int × Int)} {has : List Int} (hg : GoodQ l has) {i j k : Nat} (hi : i < l.length) (hj : j < l.length) (hk : k < l.length) (h1 : less l has k j = true) (h2 : less l has k i = false) : less l has i j = true := by
  unfold less at *
  rw [decide_eq_true_eq] at *
  rw [decide_eq_false_iff_not] at h2
  exact neg_trans _ _ _ _ _ _ (wOf_pos hg hk) (wOf_pos hg hi) (wOf_pos hg hj) h1 h2
theorem less_irrefl (l : List (Int × Int)) (has : List Int) (i : Nat) : less l has i i = false := by unfold less; simp
theorem less_asymm {l : List (Int × Int)} {has : List Int} {i j : Nat} (h1 : less l has i j = true) : less l has j i = false := by
  unfold less at *
  rw [decide_eq_true_eq] at h1
  rw [decide_eq_false_iff_not]
  omega
theorem exists_least {l : List (Int × Int)} {has : List Int} (hg : GoodQ l has) : ∀ M : List Nat, (∀ k ∈ M, k < l.length) → M ≠ [] → ∃ i ∈ M, ∀ k ∈ M, less l has k i = false := by
  intro M
  induction M with
  | nil => intro _ h; exact absurd rfl h
  | cons a M ih =>
    intro hM _
    by_cases hne : M = []
    · subst hne
      exact ⟨a, by simp, fun k hk => by simp at hk; subst hk; exact less_irrefl l has k⟩
    · obtain ⟨i, hi, hk⟩ := ih (fun k hk => hM k (List.mem_cons_of_mem _ hk)) hne
      cases hl : less l has a i with
      | false => exact ⟨i, List.mem_cons_of_mem _ hi, fun k hk' => by
          rcases List.mem_cons.1 hk' with rfl | h
          · exact hl
          · exact hk k h⟩
      | true => exact ⟨a, by simp, fun k hk' => by
          rcases List.mem_cons.1 hk' with rfl | h
          · exact less_irrefl _ _ _
          · cases hka : less l has k a with
            | false => rfl
            | true =>
              have h1 := less_asymm hl
              have h2 := hk k h
              have h4 : less l has i a = true := less_neg hg (hM i (List.mem_cons_of_mem _ hi)) (hM a (by simp)) (hM k (List.mem_cons_of_mem _ h)) hka h2
              rw [h4] at h1; cases h1⟩
/-- At the k-th of those that may: it is the first one than which none has less. -/
theorem turn_at {l : List (Int × Int)} {has : List Int} {wants : List Bool} {n : Nat} (hg : GoodQ l has) (hn : n ≤ l.length) (M : List Nat) (hM : M = may l has wants n) (k : Nat) (hk : k < M.length)
    (h0 : ∀ x ∈ M.take k, M.any (fun y => less l has y x) = true) (h1 : M.any (fun y => less l has y M[k]) = false) : Turn l has wants n (M[k] : Nat) := by
  have hmem : M[k] ∈ M := List.getElem_mem hk
  have hlt : ∀ y ∈ M, y < n ∧ okB l has wants y = true := fun y hy => mem_may.1 (hM ▸ hy)
  have hle : ∀ y ∈ M, less l has y M[k] = false := fun y hy => by
    have := List.any_eq_false.1 h1 y hy
    simpa using this
  refine .inr ⟨M[k], rfl, (hlt _ hmem).1, (hlt _ hmem).2, fun y hy hy' => hle y (hM ▸ mem_may.2 ⟨hy, hy'⟩), fun j hj hj' => ?_⟩
  have hjM : j ∈ M := hM ▸ mem_may.2 ⟨Nat.lt_trans hj (hlt _ hmem).1, hj'⟩
  have hjk : j ∈ M.take k := by
    have hs : M.Pairwise (· < ·) := by rw [hM]; exact (List.pairwise_lt_range).filter _
    rw [← List.take_append_drop k M] at hjM
    rcases List.mem_append.1 hjM with h | h
    · exact h
    · obtain ⟨q, hq, e⟩ := List.getElem_of_mem h
      rw [List.getElem_drop] at e
      have hq' : k + q < M.length := by simp at hq; omega
      by_cases hq0 : q = 0
      · subst hq0; simp at e; omega
      · have := List.pairwise_iff_getElem.1 hs k (k + q) hk hq' (by omega)
        omega
  obtain ⟨y, hy, hyl⟩ := List.any_eq_true.1 (h0 j hjk)
  exact less_neg hg (Nat.lt_of_lt_of_le (hlt _ hmem).1 hn) (Nat.lt_of_lt_of_le (hlt _ (List.mem_of_mem_take hjk)).1 hn) (Nat.lt_of_lt_of_le (hlt _ hy).1 hn) hyl (hle y hy)
theorem turn_none {l : List (Int × Int)} {has : List Int} {wants : List Bool} {n : Nat} (hg : GoodQ l has) (hn : n ≤ l.length) (M : List Nat) (hM : M = may l has wants n)
    (h0 : ∀ x ∈ M, M.any (fun y => less l has y x) = true) : Turn l has wants n (-1) := by
  refine .inl ⟨fun i hi => ?_, rfl⟩
  have hlt : ∀ y ∈ M, y < n ∧ okB l has wants y = true := fun y hy => mem_may.1 (hM ▸ hy)
  by_cases hne : M = []
  · cases hok : okB l has wants i with
    | false => rfl
    | true =>
      have : i ∈ M := hM ▸ mem_may.2 ⟨hi, hok⟩
      rw [hne] at this; cases this
  · obtain ⟨x, hx, hk⟩ := exists_least hg M (fun k hk => Nat.lt_of_lt_of_le (hlt k hk).1 hn) hne
    obtain ⟨y, hy, hyl⟩ := List.any_eq_true.1 (h0 x hx)
    rw [hk y hy] at hyl; cases hyl
end Pk
open Pk
def cellsI (L : List Int) : List Value := L.map fun x => .int .i64 x
theorem cellsI_length (L : List Int) : (cellsI L).length = L.length := by simp [cellsI]
theorem cellsI_append (A B : List Int) : cellsI (A ++ B) = cellsI A ++ cellsI B := by simp [cellsI]
theorem cellsI_one (l : List Int) : ∀ u ∈ cellsI l, u.oneCell' = true := by
  intro u hu
  simp only [cellsI, List.mem_map] at hu
  obtain ⟨x, _, rfl⟩ := hu
  rfl
theorem isIs_of {w : World} {base : Nat} {v : Value} {l : List Int} (h : w.ownsRow base 3 1 v l.length (cellsI l)) : IsIs w v l := by
  rcases h.2 with ⟨rfl, h0⟩ | ⟨g, cap, cur, rfl, _⟩
  · exact ⟨none, 0, by rw [h0], fun i hi => by omega⟩
  · refine ⟨some ⟨g, 0, none⟩, cap, rfl, fun i hi => ⟨g, 0, rfl, ?_⟩⟩
    rw [Nat.zero_add, h.cellAt i (by omega)]
    simp [cellsI, hi]
theorem infoInt : (Try.prog.info? 3).map (fun i => (i.zero, i.size, i.bytes)) = some (some (.int .i64 0), 1, 8) := by kernel_rfl
theorem info_parts {P : Program} {t : TypeId} {z : Value} {s b : Nat} (h : (P.info? t).map (fun i => (i.zero, i.size, i.bytes)) = some (some z, s, b)) : ∃ i, P.info? t = some i ∧ i.zero = some z ∧ i.size = s ∧ i.bytes = b := by
  cases hi : P.info? t with
  | none => rw [hi] at h; cases h
  | some i => rw [hi] at h; simp at h; exact ⟨i, rfl, h.1, h.2.1, h.2.2⟩
theorem lit_cells {w : World} {cs : Array Value} {e : TypeId} {g : Nat} (hg : g = w.heap.size) (hm : cs.size ≤ maxLen) : ∀ j u, cs.toList[j]? = some u → (w.alloc (.cells cs e)).cell? ((⟨g, 0, none⟩ : Addr).add j) = some u := by
  subst hg
  exact (World.ownsRow_lit (base := 0) (size := 1) (e := e) w cs cs.size (Nat.zero_le _) hm (by omega)).cells rfl
theorem natsV_append (A B : List Nat) : natsV (A ++ B) = natsV A ++ natsV B := by simp [natsV]
set_option maxRecDepth 100000 in
set_option maxHeartbeats 4000000 in
theorem pick_any (lv hv wv : Value) (l : List (Int × Int)) (has : List Int) (wants : List Bool) (w : World) (h1 : IsQs w lv l) (h2 : IsIs w hv has) (h3 : IsBs w wv wants) (hg : GoodQ l has) (hll : l.length ≤ 1000000) :
    Calls Try.prog 11 #[lv, hv, wv] w fun e w' => ∃ r : Int, e = .returned (.int .i64 r) ∧ Hid (Turn l has wants (min (min l.length has.length) wants.length) r) ∧ Below w.heap.size w w' := by
  obtain ⟨i0, hi, hz0, hz1, hz2⟩ := info_parts infoInt
  have H1 := Lib.hid h1
  have H2 := Lib.hid h2
  obtain ⟨la, lc, rfl, q1⟩ := h1
  obtain ⟨ha, hc, rfl, q2⟩ := h2
  obtain ⟨wa, wc, rfl, q3⟩ := h3
  have HQ1 := Lib.hid q1
  have HQ2 := Lib.hid q2
  have HQ3 := Lib.hid q3
  have HG := Lib.hid hg
  clear q1 q2 q3 hg
  obtain ⟨w2, hw2⟩ : ∃ w2, w2 = (w.alloc (.cells #[.slice la l.length lc] 22)).alloc (.cells #[.slice ha has.length hc] 23) := ⟨_, rfl⟩
  have b2 : Below w.heap.size w w2 := by rw [hw2]; exact blw_step (blw_box _) (blw_box _)
  have k1 : w2.cell? ⟨w.heap.size, 0, none⟩ = some (.slice la l.length lc) := by rw [hw2]; simp
  have k2 : w2.cell? ⟨w.heap.size + 1, 0, none⟩ = some (.slice ha has.length hc) := by rw [hw2]; simp
  obtain ⟨n, hn⟩ : ∃ n, n = min (min l.length has.length) wants.length := ⟨_, rfl⟩
  rw [← hn]
  have n1 : n ≤ l.length := by omega
  have n2 : n ≤ has.length := by omega
  have n3 : n ≤ wants.length := by omega
  have HW2 := Lib.hid hw2
  have HN := Lib.hid hn
  clear hw2 hn
  go_enter Try.func11, Try.ntmps11
  go_wp2
  all_goals
    try (have z1 : wants.length ≤ n := by have := HN.out; omega)
    try (have z2 : has.length ≤ n := by have := HN.out; omega)
    try (have z3 : l.length ≤ n := by have := HN.out; omega)
    rw [← HW2.out]
    go_loopw [7, 8, 19] (fun mv _ kv wr => ∃ k : Nat, k ≤ n ∧ kv = .int .i64 k ∧ Hid (wr.ownsRow w2.heap.size 3 1 mv (natsV (may l has wants k)).length (cellsI (natsV (may l has wants k)))) ∧ Below w2.heap.size w2 wr) (fun _ _ kv _ => n - (intOf kv).toNat)
    case atStart => exact ⟨0, Nat.zero_le _, rfl, World.ownsRow_nil _ _ _ _, Below.refl _ _⟩
    case round =>
      obtain ⟨k, hk, rfl, HO, hb⟩ := hrel
      by_cases hlt : k < n
      · obtain ⟨lb, lo, rfl, c0, c1⟩ := HQ1.out k (by omega)
        obtain ⟨hb', ho, rfl, c2⟩ := HQ2.out k (by omega)
        obtain ⟨wb, wo, rfl, c3⟩ := HQ3.out k (by omega)
        replace c0 := cell_blw (cell_blw c0 b2) hb
        replace c1 := cell_blw (cell_blw c1 b2) hb
        replace c2 := cell_blw (cell_blw c2 b2) hb
        replace c3 := cell_blw (cell_blw c3 b2) hb
        have m1 := cell_blw k1 hb
        have m2 := cell_blw k2 hb
        have hml := may_length l has wants k
        have HS := Lib.hid (may_succ l has wants k)
        have HOK : Hid (okB l has wants k = (wants[k]'(by omega) && decide (has[k]'(by omega) < (l[k]'(by omega)).2))) := by
          show _ = _
          unfold okB cOf
          rw [getD_lt _ _ _ (by omega), getD_lt _ _ _ (by omega), getD_lt _ _ _ (by omega)]
        clear HQ1 HQ2 HQ3 H1 H2
        generalize l[k]'(by omega) = q at c0 c1 HOK
        generalize has[k]'(by omega) = x at c2 HOK
        generalize wants[k]'(by omega) = y at c3 HOK
        obtain ⟨qw, qc⟩ := q
        simp only at c0 c1 HOK
        cases y with
        | false =>
          have HE : Hid (may l has wants (k + 1) = may l has wants k) := by
            show _ = _
            rw [HS.out, HOK.out]; simp
          clear HS HOK
          go_wp2
          go_quiet (fail)
          have hb2 : Below w2.heap.size w2 (wr.drewN nq) := blw_step hb (blw_drewN _ _)
          have HO2 : Hid ((wr.drewN nq).ownsRow w2.heap.size 3 1 u7 (natsV (may l has wants k)).length (cellsI (natsV (may l has wants k)))) := ⟨HO.out.1, HO.out.2⟩
          generalize wr.drewN nq = w3 at *
          clear c0 c1 c2 c3 m1 m2 HO
          go_wp2
          go_roundw
          case rel => exact ⟨k + 1, by omega, by go_num, by rw [HE.out]; exact HO2.out, hb2⟩
          case measure => simp [intOf]; omega
        | true =>
          cases g : decide (x < qc) with
          | false =>
            have HE : Hid (may l has wants (k + 1) = may l has wants k) := by
              show _ = _
              rw [HS.out, HOK.out, g]; simp
            clear HS HOK
            go_wp2
            go_quiet (fail)
            have hb2 : Below w2.heap.size w2 (wr.drewN nq) := blw_step hb (blw_drewN _ _)
            have HO2 : Hid ((wr.drewN nq).ownsRow w2.heap.size 3 1 u7 (natsV (may l has wants k)).length (cellsI (natsV (may l has wants k)))) := ⟨HO.out.1, HO.out.2⟩
            generalize wr.drewN nq = w3 at *
            clear c0 c1 c2 c3 m1 m2 HO
            go_wp2
            go_roundw
            case rel => exact ⟨k + 1, by omega, by go_num, by rw [HE.out]; exact HO2.out, hb2⟩
            case measure => simp [intOf]; omega
          | true =>
            have HE : Hid (natsV (may l has wants (k + 1)) = natsV (may l has wants k) ++ [(k : Int)]) := by
              show _ = _
              rw [HS.out, HOK.out, g, natsV_append]; simp [natsV]
            have hml2 : (natsV (may l has wants k)).length ≤ k := by rw [natsV_length]; exact hml
            clear HS HOK hml
            generalize natsV (may l has wants k) = acc at *
            go_wp2
            go_quiet (fail)
            have hb2 : Below w2.heap.size w2 (wr.drewN nq) := blw_step hb (blw_drewN _ _)
            have HO2 : Hid ((wr.drewN nq).ownsRow w2.heap.size 3 1 u7 acc.length (cellsI acc)) := ⟨HO.out.1, HO.out.2⟩
            generalize wr.drewN nq = w3 at *
            clear c0 c1 c2 c3 m1 m2 HO
            go_wp2_with (at_builtin; refine Hid.out ?_)
            refine Lib.hid ?_
            have hbs := hb2.size
            refine wpList_append_own _ rfl (.tmp 38) (.tmp 40) 23 rfl w2.heap.size 3 i0 (.int .i64 0) 1 8 Try.underlying23 hi hz0 hz1 hz2 rfl (by decide) _ _ _ rfl (HO2.out.alloc _) ⟨w3.heap.size, 0, none⟩ 1 1 (cellsI [(k : Int)]) rfl rfl ?c1 (cellsI_one _) ?c2 ?c3 ?c4 ?_
            case c1 => exact lit_cells rfl (show 1 ≤ maxLen by decide)
            case c2 => unfold maxLen; omega
            case c3 => omega
            case c4 => simp; omega
            intro v4 w4 hown4 hg4 _
            have hb4 : Below w2.heap.size w2 w4 := (hb2.alloc (by omega) _).grown hg4 (by simp; omega) (fun k hk => (HO2.out.lt k hk).1)
            have HO4 : Hid (w4.ownsRow w2.heap.size 3 1 v4 (acc ++ [(k : Int)]).length (cellsI (acc ++ [(k : Int)]))) := by
              show World.ownsRow _ _ _ _ _ _ _
              rw [cellsI_append, List.length_append]
              exact hown4
            clear HO2 hown4 hg4
            go_wp2
            go_roundw
            case rel => exact ⟨k + 1, by omega, by go_num, by rw [HE.out]; exact HO4.out, hb4⟩
            case measure => simp [intOf]; omega
      · have hkn : k = n := by omega
        subst hkn
        have hv := isIs_of HO.out
        have HMM : Hid (∀ x ∈ may l has wants k, x < l.length ∧ x < has.length) := fun x hx => by have := (mem_may.1 hx).1; omega
        have hml := may_length l has wants k
        clear HO
        obtain ⟨M, hM⟩ : ∃ M, M = may l has wants k := ⟨_, rfl⟩
        rw [← hM] at hv HMM hml
        have HM := Lib.hid hM
        clear hM
        have HV := Lib.hid hv
        obtain ⟨ma, mc, hmv, _⟩ := hv
        rw [natsV_length] at hmv
        subst hmv
        obtain ⟨m, hm⟩ : ∃ m, m = M.length := ⟨_, rfl⟩
        rw [← hm] at hml HV ⊢
        have Hm := Lib.hid hm
        clear hm
        generalize wr = w6 at *
        go_wp2
        try generalize decide (k < wants.length) = bb
        try generalize decide (k < has.length) = bb
        try generalize decide (k < l.length) = bb
        go_loopw [10, 11, 45] (fun _ _ kv wr => ∃ j : Nat, j ≤ m ∧ kv = .int .i64 j ∧ Hid (∀ x ∈ M.take j, M.any (fun y => less l has y x) = true) ∧ Below w6.heap.size w6 wr) (fun _ _ kv _ => m - (intOf kv).toNat)
        case atStart => exact ⟨0, Nat.zero_le _, rfl, (fun x hx => by simp at hx), Below.refl _ _⟩
        case round =>
          obtain ⟨j, hj, rfl, HP, hb3⟩ := hrel
          by_cases hjm : j < m
          · have hjM : j < M.length := by have := Hm.out; omega
            have hmem : M[j] ∈ M := List.getElem_mem hjM
            have hlim := HMM.out M[j] hmem
            obtain ⟨_, _, e, hcc⟩ := HV.out
            injection e with e1 e2 e3
            subst e1 e3
            clear e2
            obtain ⟨mb, mo, rfl, d0⟩ := hcc j (by rw [natsV_length]; exact hjM)
            rw [natsV_at] at d0
            replace d0 := cell_blw d0 hb3
            clear hcc
            have HT : Hid (M.any (fun y => less l has y M[j]) = true → ∀ x ∈ M.take (j + 1), M.any (fun y => less l has y x) = true) := fun h x hx => by
              rw [List.take_succ_eq_append_getElem hjM] at hx
              rcases List.mem_append.1 hx with hx | hx
              · exact HP.out x hx
              · rw [List.mem_singleton] at hx; subst hx; exact h
            have HF : Hid (M.any (fun y => less l has y M[j]) = false → Turn l has wants k (M[j] : Nat)) := fun h => turn_at HG.out n1 M HM.out j hjM HP.out h
            clear hmem
            generalize M[j]'hjM = x at *
            obtain ⟨w5, hw5⟩ : ∃ w5, w5 = wr.alloc (.cells #[.int .i64 x] 3) := ⟨_, rfl⟩
            have hb5 : Below wr.heap.size wr w5 := by rw [hw5]; exact blw_box _
            have d5 : w5.cell? ⟨wr.heap.size, 0, none⟩ = some (.int .i64 x) := by rw [hw5]; simp
            have HW5 := Lib.hid hw5
            have bb5 : Below w6.heap.size w6 w5 := blw_step hb3 hb5
            have bb6 : Below w2.heap.size w2 w5 := blw_step hb bb5
            have D := Lib.hid (containsFunc_any M _ l has w.heap.size (w.heap.size + 1) wr.heap.size x w5 (isIs_blw HV.out bb5) ⟨⟨_, cell_blw k1 bb6, isQs_blw (isQs_blw H1.out b2) bb6⟩, ⟨_, cell_blw k2 bb6, isIs_blw (isIs_blw H2.out b2) bb6⟩, d5⟩ HG.out hlim.1 hlim.2 HMM.out (by have := Hm.out; omega))
            clear hw5 HP HQ1 HQ2 HQ3
            cases hany : M.any (fun y => less l has y x) with
            | true =>
              have HT' := Lib.hid (HT.out hany)
              rw [hany] at D
              clear HT HF hany
              go_wp2_with (go_at_call 15; refine Hid.out ?_)
              refine Lib.hid ?_
              rw [← HW5.out]
              refine D.out.mono ?_
              rintro _ w7 ⟨rfl, hb7⟩
              clear D d0
              go_wp2
              go_roundw
              case rel => exact ⟨j + 1, by omega, by go_num, HT', blw_step bb5 hb7⟩
              case measure => simp [intOf]; omega
            | false =>
              have HF' := Lib.hid (HF.out hany)
              rw [hany] at D
              clear HT HF hany
              go_wp2_with (go_at_call 15; refine Hid.out ?_)
              refine Lib.hid ?_
              rw [← HW5.out]
              refine D.out.mono ?_
              rintro _ w7 ⟨rfl, hb7⟩
              replace d5 := cell_blw d5 hb7
              clear D d0
              go_wp2
              go_ret
              exact ⟨_, rfl, HF', blw_step b2 (blw_step bb6 hb7)⟩
          · have HF : Hid (Turn l has wants k (-1)) := by
              refine turn_none HG.out n1 M HM.out fun x hx => HP.out x ?_
              rw [List.take_of_length_le (by have := Hm.out; omega)]
              exact hx
            clear HQ1 HQ2 HQ3 HV HP
            go_wp2
            go_ret
            exact ⟨_, rfl, HF, blw_step b2 (blw_step hb hb3)⟩
end Go.Proofs.Ytddbgbokkpeffaa
