/- Contract of job.nameOf: a kind's name. Written by tpl/mk_nam.py. -/
import Derived.Test.YthmojcalllbclaaDoorNam
namespace Go.Proofs.YthmojcalllbclaaDoor
open Go.ChangeShapes Go.WideShapes Go.ChangeAt Go.RowKit Go.WideMaps Go.Maps
/-- A kind's name, or nothing. -/
def nameL (k : Int) : List UInt8 := if k = 1 then [105, 116] else if k = 2 then [108, 105, 110, 101] else if k = 3 then [119, 111, 114, 100] else if k = 4 then [116, 101, 120, 116] else if k = 5 then [99, 97, 116] else if k = 6 then [99, 117, 116] else if k = 7 then [110, 117, 109] else if k = 8 then [108, 101, 110] else if k = 9 then [109, 97, 110, 121] else if k = 10 then [97, 100, 100] else []
theorem nameD_at (s : List UInt8) (c : Int) (h : ∀ zd : DataW Unit, nameD.atKey (.string s) zd = .lit (.int .i64 c)) : s = nameL c ∧ s ≠ [] := by
  have h1 := h .nil
  have e : nameD = .map [(.string [97, 100, 100], .lit (.int .i64 10)), (.string [99, 97, 116], .lit (.int .i64 5)), (.string [99, 117, 116], .lit (.int .i64 6)), (.string [105, 116], .lit (.int .i64 1)), (.string [108, 101, 110], .lit (.int .i64 8)), (.string [108, 105, 110, 101], .lit (.int .i64 2)), (.string [109, 97, 110, 121], .lit (.int .i64 9)), (.string [110, 117, 109], .lit (.int .i64 7)), (.string [116, 101, 120, 116], .lit (.int .i64 4)), (.string [119, 111, 114, 100], .lit (.int .i64 3))] := by kernel_rfl
  rw [e] at h1
  have sk : ∀ a : List UInt8, Lit.sameKey (.string a) (.string s) = decide (a = s) := fun a => by simp only [Lit.sameKey]; by_cases h : a = s <;> simp [h]
  simp only [DataW.atKey, List.find?, sk] at h1
  by_cases q10 : [97, 100, 100] = s
  · rw [decide_eq_true q10] at h1
    simp only [DataW.lit.injEq, Lit.int.injEq, true_and] at h1
    subst h1 q10
    exact ⟨by decide, by decide⟩
  rw [decide_eq_false q10] at h1
  simp only at h1
  by_cases q5 : [99, 97, 116] = s
  · rw [decide_eq_true q5] at h1
    simp only [DataW.lit.injEq, Lit.int.injEq, true_and] at h1
    subst h1 q5
    exact ⟨by decide, by decide⟩
  rw [decide_eq_false q5] at h1
  simp only at h1
  by_cases q6 : [99, 117, 116] = s
  · rw [decide_eq_true q6] at h1
    simp only [DataW.lit.injEq, Lit.int.injEq, true_and] at h1
    subst h1 q6
    exact ⟨by decide, by decide⟩
  rw [decide_eq_false q6] at h1
  simp only at h1
  by_cases q1 : [105, 116] = s
  · rw [decide_eq_true q1] at h1
    simp only [DataW.lit.injEq, Lit.int.injEq, true_and] at h1
    subst h1 q1
    exact ⟨by decide, by decide⟩
  rw [decide_eq_false q1] at h1
  simp only at h1
  by_cases q8 : [108, 101, 110] = s
  · rw [decide_eq_true q8] at h1
    simp only [DataW.lit.injEq, Lit.int.injEq, true_and] at h1
    subst h1 q8
    exact ⟨by decide, by decide⟩
  rw [decide_eq_false q8] at h1
  simp only at h1
  by_cases q2 : [108, 105, 110, 101] = s
  · rw [decide_eq_true q2] at h1
    simp only [DataW.lit.injEq, Lit.int.injEq, true_and] at h1
    subst h1 q2
    exact ⟨by decide, by decide⟩
  rw [decide_eq_false q2] at h1
  simp only at h1
  by_cases q9 : [109, 97, 110, 121] = s
  · rw [decide_eq_true q9] at h1
    simp only [DataW.lit.injEq, Lit.int.injEq, true_and] at h1
    subst h1 q9
    exact ⟨by decide, by decide⟩
  rw [decide_eq_false q9] at h1
  simp only at h1
  by_cases q7 : [110, 117, 109] = s
  · rw [decide_eq_true q7] at h1
    simp only [DataW.lit.injEq, Lit.int.injEq, true_and] at h1
    subst h1 q7
    exact ⟨by decide, by decide⟩
  rw [decide_eq_false q7] at h1
  simp only at h1
  by_cases q4 : [116, 101, 120, 116] = s
  · rw [decide_eq_true q4] at h1
    simp only [DataW.lit.injEq, Lit.int.injEq, true_and] at h1
    subst h1 q4
    exact ⟨by decide, by decide⟩
  rw [decide_eq_false q4] at h1
  simp only at h1
  by_cases q3 : [119, 111, 114, 100] = s
  · rw [decide_eq_true q3] at h1
    simp only [DataW.lit.injEq, Lit.int.injEq, true_and] at h1
    subst h1 q3
    exact ⟨by decide, by decide⟩
  rw [decide_eq_false q3] at h1
  simp only at h1
  cases h1
theorem name_has (k : Int) (h : nameL k ≠ []) : Maps.has nameD (.string (nameL k)) = true := by
  have hk : k = 1 ∨ k = 2 ∨ k = 3 ∨ k = 4 ∨ k = 5 ∨ k = 6 ∨ k = 7 ∨ k = 8 ∨ k = 9 ∨ k = 10 := by
    by_cases hk : k = 1 ∨ k = 2 ∨ k = 3 ∨ k = 4 ∨ k = 5 ∨ k = 6 ∨ k = 7 ∨ k = 8 ∨ k = 9 ∨ k = 10
    · exact hk
    · exfalso
      apply h
      unfold nameL
      rw [if_neg (by omega), if_neg (by omega), if_neg (by omega), if_neg (by omega), if_neg (by omega), if_neg (by omega), if_neg (by omega), if_neg (by omega), if_neg (by omega), if_neg (by omega)]
  clear h
  rcases hk with rfl | rfl | rfl | rfl | rfl | rfl | rfl | rfl | rfl | rfl <;> decide +kernel
theorem name_inj {c k : Int} (h : nameL c = nameL k) (hc : nameL c ≠ []) : c = k := by
  have all : ∀ x : Int, nameL x = [] ∨ (1 ≤ x ∧ x ≤ 10) := by
    intro x
    by_cases hx : 1 ≤ x ∧ x ≤ 10
    · exact .inr hx
    · left
      unfold nameL
      rw [if_neg (by omega), if_neg (by omega), if_neg (by omega), if_neg (by omega), if_neg (by omega), if_neg (by omega), if_neg (by omega), if_neg (by omega), if_neg (by omega), if_neg (by omega)]
  have h1 := (all c).resolve_left hc
  have h2 := (all k).resolve_left (by rw [← h]; exact hc)
  have fin : ∀ a b : Fin 11, nameL (a.val : Int) = nameL (b.val : Int) → nameL (a.val : Int) ≠ [] → a = b := by decide +kernel
  have h3 := fin ⟨c.toNat, by omega⟩ ⟨k.toNat, by omega⟩ (by simp only [show ((c.toNat : Nat) : Int) = c by omega, show ((k.toNat : Nat) : Int) = k by omega]; exact h) (by simp only [show ((c.toNat : Nat) : Int) = c by omega]; exact hc)
  have h4 := congrArg Fin.val h3
  simp only at h4
  omega
theorem key_inv {key : Value} {kl : Lit} (h : keyOf Tryd.prog 9 key = some kl) : ∃ s : ByteArray, key = .string s ∧ kl = .string s.data.toList := by
  cases key <;> simp [keyOf, mapKey, Tryd.underlying9] at h
  exact ⟨_, rfl, h.2.symm⟩
/-- Where the loop stands: the name has been met, or is still to come (or there is none). -/
def Met (k : Int) (left : Lit → Bool) (F : List UInt8) : Prop := (left (.string (nameL k)) = false ∧ F = nameL k) ∨ ((nameL k = [] ∨ left (.string (nameL k)) = true) ∧ F = [])
set_option maxRecDepth 100000 in
set_option maxHeartbeats 2000000 in
theorem nameOf_any (k : Int) (w : World) : Calls Tryd.prog 54 #[.int .i64 k] w fun e w' => e = .returned (.string (bs (nameL k))) ∧ Below w.heap.size w w' := by
  go_enter Tryd.func54, Tryd.ntmps54
  go_wp2_with (go_at_call 67; refine Hid.out ?_)
  refine Lib.hid ?_
  refine (names_any w).mono ?_
  rintro _ w1 ⟨rfl, hown, hb1⟩
  obtain ⟨w2, hrg, hra, hg2, hz2⟩ := hown.range strKey mapT
  have hb2 : Below w.heap.size w w2 := hb1.grown hg2 hb1.size (fun k hk => by cases hk)
  have hrs : Hid (w.heap.size ≤ w1.heap.size) := hb1.size
  generalize hrr : w1.heap.size = r at *
  go_wp2
  go_loopw [3] (fun fv wr => ∃ (F : List UInt8) (left : Lit → Bool) (cnt : Nat), fv = .string (bs F) ∧ Hid (Met k left F) ∧ wr.ranges Tryd.prog 9 (plainElem (H := Unit) Tryd.prog 3) w.heap.size r 10 nameD left cnt ∧ Below w.heap.size w wr) (fun _ wr => wr.rangeLeft w.heap.size r)
  case atStart =>
    refine ⟨[], _, _, rfl, ?_, hra, hb2⟩
    show Met k _ _
    by_cases h : nameL k = []
    · exact .inr ⟨.inl h, rfl⟩
    · exact .inr ⟨.inr (name_has k h), rfl⟩
  case round =>
    obtain ⟨F, left, cnt, rfl, hM, hR, hb⟩ := hrel
    have hcnt := hR.left_eq
    rcases hR.next strKey 0 with ⟨h0, hl, hrun⟩ | ⟨key, v, kl, y, w', cnt', hkey, hlk, hv, hat, hrun, hrg', hlt, hgr, hsz, hen⟩
    · have hnx : ∀ ty, (Instr.next (.pointer (some ⟨r, 0, none⟩)) false ty).run Tryd.prog wr = _ := fun _ => hrun
      have hF : Hid (F = nameL k) := by
        show F = _
        rcases hM.out with ⟨_, h⟩ | ⟨h1 | h1, h2⟩
        · exact h
        · rw [h1, h2]
        · rw [hl] at h1; cases h1
      clear hR hrun
      go_wp2
      go_ret
      exact ⟨by rw [← hF.out]; rfl, hb⟩
    · obtain ⟨s, rfl, rfl⟩ := key_inv hkey
      obtain ⟨c, rfl, hy, _⟩ := plainElem_int_inv Tryd.underlying3 hv
      rw [hy] at hat
      obtain ⟨hs1, hs2⟩ := nameD_at _ _ hat
      have hnx : ∀ ty, (Instr.next (.pointer (some ⟨r, 0, none⟩)) false ty).run Tryd.prog wr = _ := fun _ => hrun
      have hb' : Below w.heap.size w w' := hb.grown hgr hb.size (fun k hk => by cases hk; exact hrs.out)
      have hlt' : Hid (w'.rangeLeft w.heap.size r < wr.rangeLeft w.heap.size r) := by
        show _ < _
        rw [hrg'.left_eq, hcnt]; exact hlt
      have self : ∀ a : List UInt8, Lit.sameKey (.string a) (.string a) = true := fun a => by simp [Lit.sameKey]
      by_cases hck : c = k
      · have HM2 : Hid (Met k (fun x => left x && !x.sameKey (.string s.data.toList)) (nameL k)) := by
          refine .inl ⟨?_, rfl⟩
          rw [← hck, ← hs1]
          show (left (.string s.data.toList) && !Lit.sameKey (.string s.data.toList) (.string s.data.toList)) = false
          rw [self]
          simp
        have HV : Hid (s = bs (nameL k)) := by
          show s = _
          rw [← hck, ← hs1, bs_of]
        have hck2 : (c == k) = true := by simpa using hck
        have HCK := Lib.hid hck
        clear hs1 hs2 hkey hv hat hy hR hrun hM hck
        go_wp2
        go_roundw
        case rel => exact ⟨nameL k, _, cnt', by rw [HV.out], HM2, hrg', hb'⟩
        case measure => exact hlt'.out
      · have HM2 : Hid (Met k (fun x => left x && !x.sameKey (.string s.data.toList)) F) := by
          have hne : nameL k ≠ [] → Lit.sameKey (.string (nameL k)) (.string s.data.toList) = false := by
            intro hn
            simp only [Lit.sameKey]
            rw [beq_eq_false_iff_ne]
            intro h
            exact hck (name_inj (by rw [h, ← hs1]) (by rw [← hs1]; exact hs2))
          rcases hM.out with ⟨h1, h2⟩ | ⟨h1 | h1, h2⟩
          · exact .inl ⟨by simp [h1], h2⟩
          · exact .inr ⟨.inl h1, h2⟩
          · by_cases hn : nameL k = []
            · exact .inr ⟨.inl hn, h2⟩
            · exact .inr ⟨.inr (by simp [h1, hne hn]), h2⟩
        have hck2 : (c == k) = false := by simpa using hck
        clear hs1 hs2 hkey hv hat hy hR hrun hM
        go_wp2
        go_roundw
        case rel => exact ⟨F, _, cnt', rfl, HM2, hrg', hb'⟩
        case measure => exact hlt'.out
end Go.Proofs.YthmojcalllbclaaDoor
