/- Jobs: plain, and how they lie in memory; contracts of LightJob and of what checks a job. Written by tpl/mk_jb.py. -/
import Derived.Test.YtfjpgjkfmcedoaaGreatDoorG3
namespace Go.Proofs.YtfjpgjkfmcedoaaGreatDoor
open Go.ChangeShapes Go.WideShapes Go.ChangeAt Go.RowKit
/-- A rule; a job. -/
structure Rl where
  each : Bool
  when : Int
  iff : Ex
  s : List UInt8
  key : Ex
  val : Ex
structure Jb where
  rules : List Rl
  fold : Int
  early : Bool
  slices : Int
def Rl.value (r : Rl) (si sk sv : Value) : Value := .agg #[.bool r.each, .int .i64 r.when, .int .i64 r.iff.k, .int .i64 r.iff.n, .string (bs r.iff.s), si, .string (bs r.s), .int .i64 r.key.k, .int .i64 r.key.n, .string (bs r.key.s), sk, .int .i64 r.val.k, .int .i64 r.val.n, .string (bs r.val.s), sv]
def Jb.value (j : Jb) (rv : Value) : Value := .agg #[rv, .int .i64 j.fold, .bool j.early, .int .i64 j.slices]
/-- A list's value, of rules, as it lies in a world. -/
def IsRules (w : World) (v : Value) (l : List Rl) : Prop :=
  ∃ (a : Option Addr) (cap b off : Nat) (AI AK AV : Nat → Value), v = .slice a l.length cap ∧ (0 < l.length → a = some ⟨b, off, none⟩) ∧
    ∀ i x, l[i]? = some x → (w.cell? ⟨b, off + i * 15, none⟩ = some (.bool x.each) ∧ w.cell? ⟨b, off + i * 15 + 1, none⟩ = some (.int .i64 x.when) ∧ w.cell? ⟨b, off + i * 15 + 2, none⟩ = some (.int .i64 x.iff.k) ∧ w.cell? ⟨b, off + i * 15 + 3, none⟩ = some (.int .i64 x.iff.n) ∧ w.cell? ⟨b, off + i * 15 + 4, none⟩ = some (.string (bs x.iff.s)) ∧ w.cell? ⟨b, off + i * 15 + 5, none⟩ = some (AI i) ∧ w.cell? ⟨b, off + i * 15 + 6, none⟩ = some (.string (bs x.s)) ∧ w.cell? ⟨b, off + i * 15 + 7, none⟩ = some (.int .i64 x.key.k) ∧ w.cell? ⟨b, off + i * 15 + 8, none⟩ = some (.int .i64 x.key.n) ∧ w.cell? ⟨b, off + i * 15 + 9, none⟩ = some (.string (bs x.key.s)) ∧ w.cell? ⟨b, off + i * 15 + 10, none⟩ = some (AK i) ∧ w.cell? ⟨b, off + i * 15 + 11, none⟩ = some (.int .i64 x.val.k) ∧ w.cell? ⟨b, off + i * 15 + 12, none⟩ = some (.int .i64 x.val.n) ∧ w.cell? ⟨b, off + i * 15 + 13, none⟩ = some (.string (bs x.val.s)) ∧ w.cell? ⟨b, off + i * 15 + 14, none⟩ = some (AV i)) ∧ IsEx w (AI i) x.iff ∧ IsEx w (AK i) x.key ∧ IsEx w (AV i) x.val
theorem IsRules.lower {w w' : World} {v : Value} {l : List Rl} (h : IsRules w v l) (hb : Below w.heap.size w w') : IsRules w' v l := by
  obtain ⟨a, cap, b, off, AI, AK, AV, h1, h2, h3⟩ := h
  refine ⟨a, cap, b, off, AI, AK, AV, h1, h2, fun i x hx => ?_⟩
  obtain ⟨⟨c0, c1, c2, c3, c4, c5, c6, c7, c8, c9, c10, c11, c12, c13, c14⟩, x1, x2, x3⟩ := h3 i x hx
  exact ⟨⟨cell_below c0 hb, cell_below c1 hb, cell_below c2 hb, cell_below c3 hb, cell_below c4 hb, cell_below c5 hb, cell_below c6 hb, cell_below c7 hb, cell_below c8 hb, cell_below c9 hb, cell_below c10 hb, cell_below c11 hb, cell_below c12 hb, cell_below c13 hb, cell_below c14 hb⟩, x1.lower hb, x2.lower hb, x3.lower hb⟩
theorem IsRules.slice {w : World} {v : Value} {l : List Rl} (h : IsRules w v l) : ∃ a cap, v = .slice a l.length cap := by
  obtain ⟨a, cap, b, off, AI, AK, AV, h1, _⟩ := h
  exact ⟨a, cap, h1⟩
def Rl.wt (r : Rl) : Nat := 1 + r.iff.wt + r.s.length + r.key.wt + r.val.wt
def rulesWt (l : List Rl) : Nat := (l.map Rl.wt).sum
theorem rule_wt {l : List Rl} {i : Nat} {x : Rl} (hx : l[i]? = some x) : x.wt ≤ rulesWt l := by
  have hm := List.mem_of_getElem? hx
  clear hx
  unfold rulesWt
  induction l with
  | nil => cases hm
  | cons y l ih =>
    simp only [List.map_cons, List.sum_cons]
    rcases List.mem_cons.1 hm with rfl | hm
    · omega
    · have := ih hm; omega
theorem rules_len (l : List Rl) : l.length ≤ rulesWt l := by
  unfold rulesWt
  induction l with
  | nil => simp
  | cons y l ih =>
    have : 1 ≤ y.wt := by unfold Rl.wt; omega
    simp only [List.map_cons, List.sum_cons, List.length_cons]; omega

/-- Is an expression zero? -/
def Ex.zero (e : Ex) : Bool := decide (e.k = 0) && decide (e.n = 0) && e.s.isEmpty && decide (e.a.length = 0)
set_option maxRecDepth 100000 in
theorem isZero_any (e : Ex) (a : Option Addr) (cap : Nat) (w : World) (hl : e.a.length ≤ 1000000000) :
    Calls Tryz.prog 43 #[e.val (.slice a e.a.length cap)] w fun r w' => r = .returned (.bool e.zero) ∧ Below w.heap.size w w' := by
  unfold Ex.val Ex.zero
  have hT : (bs e.s).toList.isEmpty = e.s.isEmpty := by rw [bs_toList]
  generalize bs e.s = S at *
  generalize e.s.isEmpty = se at *
  generalize e.k = k at *
  generalize e.n = n at *
  generalize e.a.length = l at *
  by_cases h1 : ¬ k = 0
  · have h1' : (k == 0) = false := by simpa using h1
    go_enter Tryz.func43, Tryz.ntmps43
    go_wp2
    go_ret
    exact ⟨by simp [h1], below_box _⟩
  replace h1 := Decidable.not_not.1 h1
  subst h1
  by_cases h2 : ¬ n = 0
  · have h2' : (n == 0) = false := by simpa using h2
    go_enter Tryz.func43, Tryz.ntmps43
    go_wp2
    go_ret
    exact ⟨by simp [h2], below_box _⟩
  replace h2 := Decidable.not_not.1 h2
  subst h2
  cases se with
  | false =>
    go_enter Tryz.func43, Tryz.ntmps43
    go_wp2
    go_ret
    exact ⟨by simp, below_box _⟩
  | true =>
    by_cases h3 : l = 0
    · subst h3
      go_enter Tryz.func43, Tryz.ntmps43
      go_wp2
      go_ret
      exact ⟨by simp, below_box _⟩
    · have h3' : ((l : Int) == 0) = false := by rw [beq_eq_false_iff_ne]; omega
      go_enter Tryz.func43, Tryz.ntmps43
      go_wp2
      go_ret
      exact ⟨by simp [h3], below_box _⟩
theorem errV_cases (n : Nat) : (n = 0 ∧ errV n = .nilIface) ∨ (n ≠ 0 ∧ errV n = .iface 50 (.int .i64 n)) := by
  unfold errV
  by_cases h : n = 0
  · exact .inl ⟨h, if_pos h⟩
  · exact .inr ⟨h, if_neg h⟩
/-- What is wrong with when a rule makes a pair; with a rule; with a job. -/
def whenFault (r : Rl) : Nat := if r.when = 0 then (if (r.iff.zero && r.s.isEmpty) = true then 0 else 3) else if r.when = 1 ∨ r.when = 2 then (if fitsB r.s 20 = true then faultE r.iff true r.each else 3) else 3
def ruleFault (r : Rl) : Nat := if whenFault r ≠ 0 then whenFault r else if faultE r.key true r.each ≠ 0 then faultE r.key true r.each else faultE r.val false r.each
def rulesFault : List Rl → Nat
  | [] => 0
  | r :: l => if ruleFault r ≠ 0 then ruleFault r else rulesFault l
def jobFault (j : Jb) : Nat := if j.rules.length < 1 ∨ 4 < j.rules.length then 2 else if j.fold < 1 ∨ 4 < j.fold then 3 else if j.slices < 1 ∨ 4 < j.slices then 1 else rulesFault j.rules

set_option maxRecDepth 100000 in
set_option maxHeartbeats 1000000 in
theorem checkWhen_any (r : Rl) (si sk sv : Value) (w : World) (xi : IsEx w si r.iff) (xk : IsEx w sk r.key) (xv : IsEx w sv r.val) (hw : r.wt ≤ 1000000000) (E : EnvS w) :
    Calls Tryz.prog 34 #[r.value si sk sv] w fun v w' => v = .returned (errV (whenFault r)) ∧ Below w.heap.size w w' := by
  obtain ⟨ai, ci, rfl⟩ := xi.slice
  obtain ⟨ak, ck, rfl⟩ := xk.slice
  obtain ⟨av, cv, rfl⟩ := xv.slice
  unfold Rl.wt at hw
  have hlen : r.iff.a.length ≤ 1000000000 := by
    have h1 : r.iff.wt ≤ 1000000000 := by omega
    cases hr : r.iff with
    | mk k n s a =>
      rw [hr] at h1
      simp only [Ex.wt] at h1
      have := len_wtL a
      simp only [Ex.a]; omega
  have Z := Lib.hid (fun w => isZero_any r.iff ai ci w hlen)
  have FT := Lib.hid (fun w => fits_any r.s 20 w (by omega))
  have C := Lib.hid (fun w (h : IsEx w (.slice ai r.iff.a.length ci) r.iff) E => check_any h (by omega) true r.each E)
  have XI := Lib.hid xi
  have HE := Lib.hid E
  have hT : (bs r.s).toList.isEmpty = r.s.isEmpty := by rw [bs_toList]
  clear xi xk xv E hlen
  unfold Rl.value
  unfold Ex.val at Z C
  obtain ⟨R, hR⟩ : ∃ R : Nat, R = whenFault r := ⟨_, rfl⟩
  rw [← hR]
  unfold whenFault at hR
  have HR := Lib.hid hR
  clear hR
  generalize r.iff.zero = z at *
  generalize fitsB r.s 20 = ft at *
  generalize r.s.isEmpty = se at *
  generalize r.when = wn at *
  generalize faultE r.iff true r.each = fe at *
  by_cases h0 : wn = 0
  · subst h0
    go_enter Tryz.func34, Tryz.ntmps34
    go_wp2_with (go_at_call 43; refine Hid.out ?_)
    refine Lib.hid ?_
    refine (Z.out _).mono ?_
    rintro _ w2 ⟨rfl, hb2⟩
    have k6 := cell_below (a := ⟨w.heap.size, 6, none⟩) (v := .string (bs r.s)) (by simp) hb2
    have hb := below_trans (below_box _) hb2
    clear hb2
    cases z with
    | false =>
      go_wp2
      go_ret
      have h1 := HR.out
      simp at h1
      exact ⟨by rw [h1]; rfl, hb⟩
    | true =>
      cases se with
      | false =>
        go_wp2
        go_ret
        have h1 := HR.out
        simp at h1
        exact ⟨by rw [h1]; rfl, hb⟩
      | true =>
        go_wp2
        go_ret
        have h1 := HR.out
        simp at h1
        exact ⟨by rw [h1]; rfl, hb⟩
  have h0' : (wn == 0) = false := by simpa using h0
  by_cases h12 : ¬ (wn = 1 ∨ wn = 2)
  · have h1 : ¬ wn = 1 := fun h => h12 (.inl h)
    have h2 : ¬ wn = 2 := fun h => h12 (.inr h)
    have hR2 := Lib.hid HR.out
    go_enter Tryz.func34, Tryz.ntmps34
    go_wp2
    go_ret
    exact ⟨by rw [hR2.out, if_neg h0, if_neg (by rintro (h | h); exact h1 h; exact h2 h)]; rfl, below_box _⟩
  replace h12 := Decidable.not_not.1 h12
  have HR2 : Hid (R = if ft = true then fe else 3) := by
    show R = _
    have h1 := HR.out
    rw [if_neg h0, if_pos h12] at h1
    exact h1
  clear HR h0 h0'
  rcases h12 with rfl | rfl
  · skip
    go_enter Tryz.func34, Tryz.ntmps34
    go_wp2_with (go_at_call 44; refine Hid.out ?_)
    refine Lib.hid ?_
    refine (FT.out _).mono ?_
    rintro _ w2 ⟨rfl, rfl⟩
    cases ft with
    | false =>
      go_wp2
      go_ret
      have h1 := HR2.out
      simp at h1
      exact ⟨by rw [h1]; rfl, below_box _⟩
    | true =>
      go_wp2_with (go_at_call 35; refine Hid.out ?_)
      refine Lib.hid ?_
      refine (C.out _ (XI.out.lower (below_box _)) (HE.out.lower (below_box _))).mono ?_
      rintro _ w3 ⟨rfl, hb3⟩
      go_wp2
      go_ret
      have h1 := HR2.out
      simp at h1
      exact ⟨by rw [h1]; rfl, below_trans (below_box _) hb3⟩
  · skip
    go_enter Tryz.func34, Tryz.ntmps34
    go_wp2_with (go_at_call 44; refine Hid.out ?_)
    refine Lib.hid ?_
    refine (FT.out _).mono ?_
    rintro _ w2 ⟨rfl, rfl⟩
    cases ft with
    | false =>
      go_wp2
      go_ret
      have h1 := HR2.out
      simp at h1
      exact ⟨by rw [h1]; rfl, below_box _⟩
    | true =>
      go_wp2_with (go_at_call 35; refine Hid.out ?_)
      refine Lib.hid ?_
      refine (C.out _ (XI.out.lower (below_box _)) (HE.out.lower (below_box _))).mono ?_
      rintro _ w3 ⟨rfl, hb3⟩
      go_wp2
      go_ret
      have h1 := HR2.out
      simp at h1
      exact ⟨by rw [h1]; rfl, below_trans (below_box _) hb3⟩
end Go.Proofs.YtfjpgjkfmcedoaaGreatDoor
