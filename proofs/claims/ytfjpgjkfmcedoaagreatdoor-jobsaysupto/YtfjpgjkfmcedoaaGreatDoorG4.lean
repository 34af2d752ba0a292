/- Put together of Nam2, ShelfB. -/
import Derived.Test.YtfjpgjkfmcedoaaGreatDoorG3
import Derived.Shelf.Strings.BuilderK
import Derived.Shelf.Strconv.Itoa3
import Derived.Test.YtfjpgjkfmcedoaaGreatDoorProg
/- Contract of job.nameOf: a kind's name. Written by tpl/mk_nam.py. -/
namespace Go.Proofs.YtfjpgjkfmcedoaaGreatDoor
open Go.ChangeShapes Go.WideShapes Go.ChangeAt Go.RowKit Go.WideMaps Go.Maps
/-- A kind's name, or nothing. -/
def nameL (k : Int) : List UInt8 := if k = 1 then [105, 116] else if k = 2 then [108, 105, 110, 101] else if k = 3 then [119, 111, 114, 100] else if k = 4 then [116, 101, 120, 116] else if k = 5 then [99, 97, 116] else if k = 6 then [99, 117, 116] else if k = 7 then [110, 117, 109] else if k = 8 then [108, 101, 110] else if k = 9 then [109, 97, 110, 121] else if k = 10 then [97, 100, 100] else []
theorem nameD_at (s : List UInt8) (c : Int) (h : ∀ zd : DataW Unit, nameD.atKey (.string s) zd = .lit (.int .i64 c)) : s = nameL c ∧ s ≠ [] := by
  have h1 := h .nil
  have e : nameD = .map [(.string [97, 100, 100], .lit (.int .i64 10)), (.string [99, 97, 116], .lit (.int .i64 5)), (.string [99, 117, 116], .lit (.int .i64 6)), (.string [105, 116], .lit (.int .i64 1)), (.string [108, 101, 110], .lit (.int .i64 8)), (.string [108, 105, 110, 101], .lit (.int .i64 2)), (.string [109, 97, 110, 121], .lit (.int .i64 9)), (.string [110, 117, 109], .lit (.int .i64 7)), (.string [116, 101, 120, 116], .lit (.int .i64 4)), (.string [119, 111, 114, 100], .lit (.int .i64 3))] := by kernel_rfl
  rw [e] at h1
  have sk : ∀ a : List UInt8, Lit.sameKey (.string a) (.string s) = decide (a = s) := fun a => by simp only [Lit.sameKey]; by_cases h : a = s <;> simp [h]
  simp only [DataW.atKey, List.find?, sk] at h1
  by_cases q10 : [97, 100, 100] = s
  · rw [decide_eq_true q10] at h1
    simp only [DataW.lit.injEq, Lit.int.injEq, true_and] at h1
    subst h1 q10
    exact ⟨by decide, by decide⟩
  rw [decide_eq_false q10] at h1
  simp only at h1
  by_cases q5 : [99, 97, 116] = s
  · rw [decide_eq_true q5] at h1
    simp only [DataW.lit.injEq, Lit.int.injEq, true_and] at h1
    subst h1 q5
    exact ⟨by decide, by decide⟩
  rw [decide_eq_false q5] at h1
  simp only at h1
  by_cases q6 : [99, 117, 116] = s
  · rw [decide_eq_true q6] at h1
    simp only [DataW.lit.injEq, Lit.int.injEq, true_and] at h1
    subst h1 q6
    exact ⟨by decide, by decide⟩
  rw [decide_eq_false q6] at h1
  simp only at h1
  by_cases q1 : [105, 116] = s
  · rw [decide_eq_true q1] at h1
    simp only [DataW.lit.injEq, Lit.int.injEq, true_and] at h1
    subst h1 q1
    exact ⟨by decide, by decide⟩
  rw [decide_eq_false q1] at h1
  simp only at h1
  by_cases q8 : [108, 101, 110] = s
  · rw [decide_eq_true q8] at h1
    simp only [DataW.lit.injEq, Lit.int.injEq, true_and] at h1
    subst h1 q8
    exact ⟨by decide, by decide⟩
  rw [decide_eq_false q8] at h1
  simp only at h1
  by_cases q2 : [108, 105, 110, 101] = s
  · rw [decide_eq_true q2] at h1
    simp only [DataW.lit.injEq, Lit.int.injEq, true_and] at h1
    subst h1 q2
    exact ⟨by decide, by decide⟩
  rw [decide_eq_false q2] at h1
  simp only at h1
  by_cases q9 : [109, 97, 110, 121] = s
  · rw [decide_eq_true q9] at h1
    simp only [DataW.lit.injEq, Lit.int.injEq, true_and] at h1
    subst h1 q9
    exact ⟨by decide, by decide⟩
  rw [decide_eq_false q9] at h1
  simp only at h1
  by_cases q7 : [110, 117, 109] = s
  · rw [decide_eq_true q7] at h1
    simp only [DataW.lit.injEq, Lit.int.injEq, true_and] at h1
    subst h1 q7
    exact ⟨by decide, by decide⟩
  rw [decide_eq_false q7] at h1
  simp only at h1
  by_cases q4 : [116, 101, 120, 116] = s
  · rw [decide_eq_true q4] at h1
    simp only [DataW.lit.injEq, Lit.int.injEq, true_and] at h1
    subst h1 q4
    exact ⟨by decide, by decide⟩
  rw [decide_eq_false q4] at h1
  simp only at h1
  by_cases q3 : [119, 111, 114, 100] = s
  · rw [decide_eq_true q3] at h1
    simp only [DataW.lit.injEq, Lit.int.injEq, true_and] at h1
    subst h1 q3
    exact ⟨by decide, by decide⟩
  rw [decide_eq_false q3] at h1
  simp only at h1
  cases h1
theorem name_has (k : Int) (h : nameL k ≠ []) : Maps.has nameD (.string (nameL k)) = true := by
  have hk : k = 1 ∨ k = 2 ∨ k = 3 ∨ k = 4 ∨ k = 5 ∨ k = 6 ∨ k = 7 ∨ k = 8 ∨ k = 9 ∨ k = 10 := by
    by_cases hk : k = 1 ∨ k = 2 ∨ k = 3 ∨ k = 4 ∨ k = 5 ∨ k = 6 ∨ k = 7 ∨ k = 8 ∨ k = 9 ∨ k = 10
    · exact hk
    · exfalso
      apply h
      unfold nameL
      rw [if_neg (by omega), if_neg (by omega), if_neg (by omega), if_neg (by omega), if_neg (by omega), if_neg (by omega), if_neg (by omega), if_neg (by omega), if_neg (by omega), if_neg (by omega)]
  clear h
  rcases hk with rfl | rfl | rfl | rfl | rfl | rfl | rfl | rfl | rfl | rfl <;> decide +kernel
theorem name_inj {c k : Int} (h : nameL c = nameL k) (hc : nameL c ≠ []) : c = k := by
  have all : ∀ x : Int, nameL x = [] ∨ (1 ≤ x ∧ x ≤ 10) := by
    intro x
    by_cases hx : 1 ≤ x ∧ x ≤ 10
    · exact .inr hx
    · left
      unfold nameL
      rw [if_neg (by omega), if_neg (by omega), if_neg (by omega), if_neg (by omega), if_neg (by omega), if_neg (by omega), if_neg (by omega), if_neg (by omega), if_neg (by omega), if_neg (by omega)]
  have h1 := (all c).resolve_left hc
  have h2 := (all k).resolve_left (by rw [← h]; exact hc)
  have fin : ∀ a b : Fin 11, nameL (a.val : Int) = nameL (b.val : Int) → nameL (a.val : Int) ≠ [] → a = b := by decide +kernel
  have h3 := fin ⟨c.toNat, by omega⟩ ⟨k.toNat, by omega⟩ (by simp only [show ((c.toNat : Nat) : Int) = c by omega, show ((k.toNat : Nat) : Int) = k by omega]; exact h) (by simp only [show ((c.toNat : Nat) : Int) = c by omega]; exact hc)
  have h4 := congrArg Fin.val h3
  simp only at h4
  omega
theorem key_inv {key : Value} {kl : Lit} (h : keyOf Tryz.prog 9 key = some kl) : ∃ s : ByteArray, key = .string s ∧ kl = .string s.data.toList := by
  cases key <;> simp [keyOf, mapKey, Tryz.underlying9] at h
  exact ⟨_, rfl, h.2.symm⟩
/-- Where the loop stands: the name has been met, or is still to come (or there is none). -/
def Met (k : Int) (left : Lit → Bool) (F : List UInt8) : Prop := (left (.string (nameL k)) = false ∧ F = nameL k) ∨ ((nameL k = [] ∨ left (.string (nameL k)) = true) ∧ F = [])
set_option maxRecDepth 100000 in
set_option maxHeartbeats 2000000 in
theorem nameOf_any (k : Int) (w : World) : Calls Tryz.prog 48 #[.int .i64 k] w fun e w' => e = .returned (.string (bs (nameL k))) ∧ Below w.heap.size w w' := by
  go_enter Tryz.func48, Tryz.ntmps48
  go_wp2_with (go_at_call 66; refine Hid.out ?_)
  refine Lib.hid ?_
  refine (names_any w).mono ?_
  rintro _ w1 ⟨rfl, hown, hb1⟩
  obtain ⟨w2, hrg, hra, hg2, hz2⟩ := hown.range strKey mapT
  have hb2 : Below w.heap.size w w2 := hb1.grown hg2 hb1.size (fun k hk => by cases hk)
  have hrs : Hid (w.heap.size ≤ w1.heap.size) := hb1.size
  generalize hrr : w1.heap.size = r at *
  go_wp2
  go_loopw [3] (fun fv wr => ∃ (F : List UInt8) (left : Lit → Bool) (cnt : Nat), fv = .string (bs F) ∧ Hid (Met k left F) ∧ wr.ranges Tryz.prog 9 (plainElem (H := Unit) Tryz.prog 3) w.heap.size r 10 nameD left cnt ∧ Below w.heap.size w wr) (fun _ wr => wr.rangeLeft w.heap.size r)
  case atStart =>
    refine ⟨[], _, _, rfl, ?_, hra, hb2⟩
    show Met k _ _
    by_cases h : nameL k = []
    · exact .inr ⟨.inl h, rfl⟩
    · exact .inr ⟨.inr (name_has k h), rfl⟩
  case round =>
    obtain ⟨F, left, cnt, rfl, hM, hR, hb⟩ := hrel
    have hcnt := hR.left_eq
    rcases hR.next strKey 0 with ⟨h0, hl, hrun⟩ | ⟨key, v, kl, y, w', cnt', hkey, hlk, hv, hat, hrun, hrg', hlt, hgr, hsz, hen⟩
    · have hnx : ∀ ty, (Instr.next (.pointer (some ⟨r, 0, none⟩)) false ty).run Tryz.prog wr = _ := fun _ => hrun
      have hF : Hid (F = nameL k) := by
        show F = _
        rcases hM.out with ⟨_, h⟩ | ⟨h1 | h1, h2⟩
        · exact h
        · rw [h1, h2]
        · rw [hl] at h1; cases h1
      clear hR hrun
      go_wp2
      go_ret
      exact ⟨by rw [← hF.out]; rfl, hb⟩
    · obtain ⟨s, rfl, rfl⟩ := key_inv hkey
      obtain ⟨c, rfl, hy, _⟩ := plainElem_int_inv Tryz.underlying3 hv
      rw [hy] at hat
      obtain ⟨hs1, hs2⟩ := nameD_at _ _ hat
      have hnx : ∀ ty, (Instr.next (.pointer (some ⟨r, 0, none⟩)) false ty).run Tryz.prog wr = _ := fun _ => hrun
      have hb' : Below w.heap.size w w' := hb.grown hgr hb.size (fun k hk => by cases hk; exact hrs.out)
      have hlt' : Hid (w'.rangeLeft w.heap.size r < wr.rangeLeft w.heap.size r) := by
        show _ < _
        rw [hrg'.left_eq, hcnt]; exact hlt
      have self : ∀ a : List UInt8, Lit.sameKey (.string a) (.string a) = true := fun a => by simp [Lit.sameKey]
      by_cases hck : c = k
      · have HM2 : Hid (Met k (fun x => left x && !x.sameKey (.string s.data.toList)) (nameL k)) := by
          refine .inl ⟨?_, rfl⟩
          rw [← hck, ← hs1]
          show (left (.string s.data.toList) && !Lit.sameKey (.string s.data.toList) (.string s.data.toList)) = false
          rw [self]
          simp
        have HV : Hid (s = bs (nameL k)) := by
          show s = _
          rw [← hck, ← hs1, bs_of]
        have hck2 : (c == k) = true := by simpa using hck
        have HCK := Lib.hid hck
        clear hs1 hs2 hkey hv hat hy hR hrun hM hck
        go_wp2
        go_roundw
        case rel => exact ⟨nameL k, _, cnt', by rw [HV.out], HM2, hrg', hb'⟩
        case measure => exact hlt'.out
      · have HM2 : Hid (Met k (fun x => left x && !x.sameKey (.string s.data.toList)) F) := by
          have hne : nameL k ≠ [] → Lit.sameKey (.string (nameL k)) (.string s.data.toList) = false := by
            intro hn
            simp only [Lit.sameKey]
            rw [beq_eq_false_iff_ne]
            intro h
            exact hck (name_inj (by rw [h, ← hs1]) (by rw [← hs1]; exact hs2))
          rcases hM.out with ⟨h1, h2⟩ | ⟨h1 | h1, h2⟩
          · exact .inl ⟨by simp [h1], h2⟩
          · exact .inr ⟨.inl h1, h2⟩
          · by_cases hn : nameL k = []
            · exact .inr ⟨.inl hn, h2⟩
            · exact .inr ⟨.inr (by simp [h1, hne hn]), h2⟩
        have hck2 : (c == k) = false := by simpa using hck
        clear hs1 hs2 hkey hv hat hy hR hrun hM
        go_wp2
        go_roundw
        case rel => exact ⟨F, _, cnt', rfl, HM2, hrg', hb'⟩
        case measure => exact hlt'.out
end Go.Proofs.YtfjpgjkfmcedoaaGreatDoor
/- The library contracts that the proofs lean on, laid at this program: by program (no walk). -/
namespace Go.Proofs
open Go.Shelf
def Tryz.lays169_ren : Go.Shelf.Ren := ⟨fun | 169 => 52 | n => n, fun | 70 => 83 | 9 => 9 | 0 => 0 | 72 => 85 | 37 => 76 | 127 => 100 | 3 => 3 | 5 => 5 | n => n, fun | n => n⟩
theorem Tryz.lays169 : Go.Proofs.Lays.n169 Tryz.prog Tryz.lays169_ren := {
  mixed := by kernel_rfl
  f169 := Tryz.func52.trans (congrArg some (by kernel_rfl))
  t0 := Tryz.underlying0
  a0 := Tryz.isAgg0
  z0 := Tryz.sizeOf0
  v0 := Tryz.zeroValue0
  t3 := Tryz.underlying3
  a3 := Tryz.isAgg3
  z3 := Tryz.sizeOf3
  v3 := Tryz.zeroValue3
  t9 := Tryz.underlying9
  a9 := Tryz.isAgg9
  z9 := Tryz.sizeOf9
  v9 := Tryz.zeroValue9
  t37 := Tryz.underlying76
  a37 := Tryz.isAgg76
  z37 := Tryz.sizeOf76
  v37 := Tryz.zeroValue76
  t70 := Tryz.underlying83
  a70 := Tryz.isAgg83
  z70 := Tryz.sizeOf83
  v70 := Tryz.zeroValue83
  t72 := Tryz.underlying85
  a72 := Tryz.isAgg85
  z72 := Tryz.sizeOf85
  v72 := Tryz.zeroValue85
  t127 := Tryz.underlying100
  a127 := Tryz.isAgg100
  z127 := Tryz.sizeOf100
  v127 := Tryz.zeroValue100 }
theorem Tryz.Builder_Extra_169 : Builder.Extra Tryz.prog Tryz.lays169_ren := {
  sizeBuilder := by kernel_rfl
  liesBuilder := by kernel_rfl
  t5 := Tryz.underlying5
  a5 := Tryz.isAgg5
  z5 := Tryz.sizeOf5
  v5 := Tryz.zeroValue5
  infoByte := by kernel_rfl
  cellsByte := by kernel_rfl
  sizeByte := by kernel_rfl
  neB5 := by decide }
def Tryz.laysM171_ren : Go.Shelf.Ren := ⟨fun | 171 => 36 | 243 => 47 | 246 => 65 | 283 => 76 | 284 => 77 | 285 => 78 | 286 => 79 | 129 => 90 | 317 => 89 | 318 => 91 | 319 => 92 | 320 => 93 | 337 => 105 | 338 => 106 | n => n, fun | 3 => 3 | 9 => 9 | 2 => 2 | 4 => 4 | 171 => 110 | 0 => 0 | 53 => 111 | 37 => 76 | 5 => 5 | 173 => 114 | 212 => 125 | 51 => 126 | 20 => 20 | 213 => 127 | 46 => 128 | 232 => 148 | 233 => 149 | n => n, fun | 17 => 2 | 18 => 8 | 19 => 9 | n => n⟩
theorem Tryz.laysM171 : Go.Proofs.LaysM.n171 Tryz.prog Tryz.laysM171_ren := {
  mixed := by kernel_rfl
  f129 := Tryz.func90.trans (congrArg some (by kernel_rfl))
  f171 := Tryz.func36.trans (congrArg some (by kernel_rfl))
  f243 := Tryz.func47.trans (congrArg some (by kernel_rfl))
  f246 := Tryz.func65.trans (congrArg some (by kernel_rfl))
  f283 := Tryz.func76.trans (congrArg some (by kernel_rfl))
  f284 := Tryz.func77.trans (congrArg some (by kernel_rfl))
  f285 := Tryz.func78.trans (congrArg some (by kernel_rfl))
  f286 := Tryz.func79.trans (congrArg some (by kernel_rfl))
  f317 := Tryz.func89.trans (congrArg some (by kernel_rfl))
  f318 := Tryz.func91.trans (congrArg some (by kernel_rfl))
  f319 := Tryz.func92.trans (congrArg some (by kernel_rfl))
  f320 := Tryz.func93.trans (congrArg some (by kernel_rfl))
  f337 := Tryz.func105.trans (congrArg some (by kernel_rfl))
  f338 := Tryz.func106.trans (congrArg some (by kernel_rfl))
  t0 := Tryz.underlying0
  a0 := Tryz.isAgg0
  z0 := Tryz.sizeOf0
  v0 := Tryz.zeroValue0
  t2 := Tryz.underlying2
  a2 := Tryz.isAgg2
  z2 := Tryz.sizeOf2
  v2 := Tryz.zeroValue2
  t3 := Tryz.underlying3
  a3 := Tryz.isAgg3
  z3 := Tryz.sizeOf3
  v3 := Tryz.zeroValue3
  t4 := Tryz.underlying4
  a4 := Tryz.isAgg4
  z4 := Tryz.sizeOf4
  v4 := Tryz.zeroValue4
  t5 := Tryz.underlying5
  a5 := Tryz.isAgg5
  z5 := Tryz.sizeOf5
  v5 := Tryz.zeroValue5
  t9 := Tryz.underlying9
  a9 := Tryz.isAgg9
  z9 := Tryz.sizeOf9
  v9 := Tryz.zeroValue9
  t20 := Tryz.underlying20
  a20 := Tryz.isAgg20
  z20 := Tryz.sizeOf20
  v20 := Tryz.zeroValue20
  t37 := Tryz.underlying76
  a37 := Tryz.isAgg76
  z37 := Tryz.sizeOf76
  v37 := Tryz.zeroValue76
  t46 := Tryz.underlying128
  a46 := Tryz.isAgg128
  z46 := Tryz.sizeOf128
  v46 := Tryz.zeroValue128
  t51 := Tryz.underlying126
  a51 := Tryz.isAgg126
  z51 := Tryz.sizeOf126
  v51 := Tryz.zeroValue126
  t53 := Tryz.underlying111
  a53 := Tryz.isAgg111
  z53 := Tryz.sizeOf111
  v53 := Tryz.zeroValue111
  t171 := Tryz.underlying110
  a171 := Tryz.isAgg110
  z171 := Tryz.sizeOf110
  v171 := Tryz.zeroValue110
  t173 := Tryz.underlying114
  a173 := Tryz.isAgg114
  z173 := Tryz.sizeOf114
  v173 := Tryz.zeroValue114
  t212 := Tryz.underlying125
  a212 := Tryz.isAgg125
  z212 := Tryz.sizeOf125
  v212 := Tryz.zeroValue125
  t213 := Tryz.underlying127
  a213 := Tryz.isAgg127
  z213 := Tryz.sizeOf127
  t232 := Tryz.underlying148
  a232 := Tryz.isAgg148
  z232 := Tryz.sizeOf148
  v232 := Tryz.zeroValue148
  t233 := Tryz.underlying149
  a233 := Tryz.isAgg149
  z233 := Tryz.sizeOf149
  v233 := Tryz.zeroValue149
  g17 := by kernel_rfl
  g18 := by kernel_rfl
  g19 := by kernel_rfl
  i0 := by kernel_rfl
  i2 := by kernel_rfl
  i3 := by kernel_rfl
  i4 := by kernel_rfl
  i5 := by kernel_rfl
  i9 := by kernel_rfl
  i20 := by kernel_rfl
  i37 := by kernel_rfl
  i46 := by kernel_rfl
  i51 := by kernel_rfl
  i53 := by kernel_rfl
  i171 := by kernel_rfl
  i173 := by kernel_rfl
  i212 := by kernel_rfl
  i232 := by kernel_rfl
  i233 := by kernel_rfl
  m17 := by kernel_rfl
  m18 := by kernel_rfl
  m19 := by kernel_rfl }
end Go.Proofs
