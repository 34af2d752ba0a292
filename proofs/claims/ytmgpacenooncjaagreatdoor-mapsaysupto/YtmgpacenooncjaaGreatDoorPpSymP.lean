/- The plain facts of the merge in place: places of a list, the search, what the two halves are. -/
import Derived.Test.YtmgpacenooncjaaGreatDoorPpIns
namespace Go.Proofs.YtmgpacenooncjaaGreatDoor.Pp
open Stable

def pr (L : List (ByteArray × Int)) (i : Nat) : ByteArray × Int := L[i]?.getD (ByteArray.empty, 0)
theorem pr_eq (L : List (ByteArray × Int)) (i : Nat) (h : i < L.length) : L[i] = pr L i := by unfold pr; rw [List.getElem?_eq_getElem h]; rfl
theorem Row.pr {g : Nat} {L : List (ByteArray × Int)} {w : World} (h : Row g L w) (i : Nat) (hi : i < L.length) : w.cell? ⟨g, i * 2, none⟩ = some (.string (pr L i).1) ∧ w.cell? ⟨g, i * 2 + 1, none⟩ = some (.int .i64 (pr L i).2) := by
  rw [← pr_eq L i hi]; exact h.at i hi
theorem pr_mid (A B C : List (ByteArray × Int)) (k : Nat) (h : k < B.length) : pr (A ++ B ++ C) (A.length + k) = B[k] := by
  unfold pr
  rw [List.append_assoc, List.getElem?_append_right (by omega), Nat.add_sub_cancel_left, List.getElem?_append_left h, List.getElem?_eq_getElem h]
  rfl
theorem sorted_pr {A B C L : List (ByteArray × Int)} (hL : L = A ++ B ++ C) (hs : Sorted B) {i j : Nat} (hi : A.length ≤ i) (hij : i ≤ j) (hj : j < A.length + B.length) : bl (key (pr L j)) (key (pr L i)) = false := by
  obtain ⟨i', rfl⟩ := Nat.exists_eq_add_of_le hi
  obtain ⟨j', rfl⟩ := Nat.exists_eq_add_of_le (Nat.le_trans hi hij)
  rw [hL, pr_mid A B C i' (by omega), pr_mid A B C j' (by omega)]
  rcases Nat.lt_or_ge i' j' with h | h
  · exact List.pairwise_iff_getElem.1 hs i' j' _ _ h
  · have : i' = j' := by omega
    subst this
    exact bl_irrefl _
theorem mem_take_pr {A B C L : List (ByteArray × Int)} (hL : L = A ++ B ++ C) {t : Nat} {p : ByteArray × Int} (hp : p ∈ B.take t) : ∃ i, A.length ≤ i ∧ i < A.length + t ∧ i < A.length + B.length ∧ pr L i = p := by
  obtain ⟨k, hk, e⟩ := List.mem_iff_getElem.1 hp
  rw [List.length_take] at hk
  refine ⟨A.length + k, by omega, by omega, by omega, ?_⟩
  rw [hL, pr_mid A B C k (by omega), ← e, List.getElem_take]
theorem mem_drop_pr {A B C L : List (ByteArray × Int)} (hL : L = A ++ B ++ C) {t : Nat} {p : ByteArray × Int} (hp : p ∈ B.drop t) : ∃ i, A.length + t ≤ i ∧ i < A.length + B.length ∧ pr L i = p := by
  obtain ⟨k, hk, e⟩ := List.mem_iff_getElem.1 hp
  rw [List.length_drop] at hk
  refine ⟨A.length + (t + k), by omega, by omega, ?_⟩
  rw [hL, pr_mid A B C (t + k) (by omega), ← e, List.getElem_drop]

/-- Where the search stands. -/
def Srch (T : Nat → Bool) (lo hi i j : Nat) : Prop := lo ≤ i ∧ i ≤ j ∧ j ≤ hi ∧ (∀ k, lo ≤ k → k < i → T k = false) ∧ (∀ k, j ≤ k → k < hi → T k = true)
def Mono (T : Nat → Bool) (lo hi : Nat) : Prop := ∀ k k', lo ≤ k → k ≤ k' → k' < hi → T k = true → T k' = true
theorem Srch.start (T : Nat → Bool) {lo hi : Nat} (h : lo ≤ hi) : Srch T lo hi lo hi := ⟨Nat.le_refl _, h, Nat.le_refl _, fun k h1 h2 => by omega, fun k h1 h2 => by omega⟩
theorem Srch.right {T : Nat → Bool} {lo hi i j h : Nat} (s : Srch T lo hi i j) (m : Mono T lo hi) (h1 : i ≤ h) (h2 : h < j) (t : T h = false) : Srch T lo hi (h + 1) j := by
  obtain ⟨a, b, c, d, e⟩ := s
  refine ⟨by omega, by omega, c, fun k k1 k2 => ?_, e⟩
  cases hk : T k with
  | false => rfl
  | true => rw [m k h k1 (by omega) (by omega) hk] at t; cases t
theorem Srch.left {T : Nat → Bool} {lo hi i j h : Nat} (s : Srch T lo hi i j) (m : Mono T lo hi) (h1 : i ≤ h) (h2 : h < j) (t : T h = true) : Srch T lo hi i h := by
  obtain ⟨a, b, c, d, e⟩ := s
  exact ⟨a, h1, by omega, d, fun k k1 k2 => m h k (by omega) k1 k2 t⟩

/-- One at the left goes in. -/
theorem one_left {x : ByteArray × Int} {Y1 Y2 : List (ByteArray × Int)} (hs : Sorted (Y1 ++ Y2)) (h1 : ∀ y ∈ Y1, bl (key y) (key x) = true) (h2 : ∀ y ∈ Y2, bl (key y) (key x) = false) :
    Sorted (Y1 ++ x :: Y2) ∧ SE ([x] ++ (Y1 ++ Y2)) (Y1 ++ x :: Y2) := by
  obtain ⟨s1, s2, s3⟩ := sorted_append.1 hs
  constructor
  · refine sorted_append.2 ⟨s1, List.pairwise_cons.2 ⟨fun d hd => h2 d hd, s2⟩, ?_⟩
    intro p hp q hq
    rcases List.mem_cons.1 hq with rfl | hq
    · exact lt_le (h1 p hp)
    · exact s3 p hp q hq
  · have : SE ([x] ++ Y1) (Y1 ++ [x]) := SE.of_lt (by intro p hp q hq; rw [List.mem_singleton] at hp; subst hp; exact h1 q hq)
    have h := this.append (SE.refl Y2)
    simpa using h
theorem left_fact {P Y Q L : List (ByteArray × Int)} {x : ByteArray × Int} {a m b i : Nat} (hL : L = P ++ [x] ++ Y ++ Q) (ha : a = P.length) (hm : m = a + 1) (hb : b = m + Y.length) (hs : Sorted Y)
    (h : Srch (fun k => !bl (key (pr L k)) (key (pr L a))) m b i i) :
    ∃ Y1 Y2, Y = Y1 ++ Y2 ∧ i = m + Y1.length ∧ Sorted (Y1 ++ x :: Y2) ∧ SE ([x] ++ Y) (Y1 ++ x :: Y2) := by
  obtain ⟨h1, _, h2, h3, h4⟩ := h
  have e : Y = Y.take (i - m) ++ Y.drop (i - m) := (List.take_append_drop _ _).symm
  have hx : pr L a = x := by
    have := pr_mid P [x] (Y ++ Q) 0 (by simp)
    rw [Nat.add_zero] at this
    rw [hL, ha, List.append_assoc (P ++ [x]), this]; rfl
  have hL2 : L = (P ++ [x]) ++ Y ++ Q := hL
  have hl : (P ++ [x]).length = m := by simp; omega
  have k1 := one_left (x := x) (Y1 := Y.take (i - m)) (Y2 := Y.drop (i - m)) (by rw [← e]; exact hs)
    (fun y hy => by
      obtain ⟨k, a1, a2, a3, a4⟩ := mem_take_pr hL2 hy
      rw [hl] at a1 a2
      have := h3 k a1 (by omega)
      dsimp only at this
      rw [hx, a4] at this
      simpa using this)
    (fun y hy => by
      obtain ⟨k, a1, a2, a4⟩ := mem_drop_pr hL2 hy
      rw [hl] at a1 a2
      have := h4 k (by omega) (by omega)
      dsimp only at this
      rw [hx, a4] at this
      simpa using this)
  rw [← e] at k1
  exact ⟨_, _, e, by rw [List.length_take]; omega, k1.1, k1.2⟩
theorem left_mono {P Y Q L : List (ByteArray × Int)} {x : ByteArray × Int} {a m b : Nat} (hL : L = P ++ [x] ++ Y ++ Q) (ha : a = P.length) (hm : m = a + 1) (hb : b = m + Y.length) (hs : Sorted Y) : Mono (fun k => !bl (key (pr L k)) (key (pr L a))) m b := by
  intro k k' h1 h2 h3 h4
  have hL2 : L = (P ++ [x]) ++ Y ++ Q := hL
  have hl : (P ++ [x]).length = m := by simp; omega
  have := sorted_pr hL2 hs (i := k) (j := k') (by omega) h2 (by omega)
  simp only [Bool.not_eq_true'] at h4 ⊢
  exact le_trans h4 this
/-- One at the right goes in. -/
theorem right_fact {P X Q L : List (ByteArray × Int)} {y : ByteArray × Int} {a m i : Nat} (hL : L = P ++ X ++ [y] ++ Q) (ha : a = P.length) (hm : m = a + X.length) (hs : Sorted X)
    (h : Srch (fun k => bl (key (pr L m)) (key (pr L k))) a m i i) :
    ∃ X1 X2, X = X1 ++ X2 ∧ i = a + X1.length ∧ Sorted (X1 ++ y :: X2) ∧ SE (X ++ [y]) (X1 ++ y :: X2) := by
  obtain ⟨h1, _, h2, h3, h4⟩ := h
  have e : X = X.take (i - a) ++ X.drop (i - a) := (List.take_append_drop _ _).symm
  have hy : pr L m = y := by
    have := pr_mid (P ++ X) [y] Q 0 (by simp)
    rw [hL]
    simpa [hm, ha] using this
  have hL2 : L = P ++ X ++ ([y] ++ Q) := by rw [hL]; simp
  have k2 : ∀ d ∈ X.drop (i - a), bl (key y) (key d) = true := by
    intro d hd
    obtain ⟨k, a1, a2, a4⟩ := mem_drop_pr hL2 hd
    have := h4 k (by omega) (by omega)
    dsimp only at this
    rw [hy, a4] at this
    exact this
  have k1 : ∀ d ∈ X.take (i - a), bl (key y) (key d) = false := by
    intro d hd
    obtain ⟨k, a1, a2, a3, a4⟩ := mem_take_pr hL2 hd
    have := h3 k (by omega) (by omega)
    dsimp only at this
    rw [hy, a4] at this
    exact this
  refine ⟨_, _, e, by rw [List.length_take]; omega, ins_sorted (by rw [← e]; exact hs) k2 k1, ?_⟩
  have := ins_se (D1 := X.take (i - a)) k2
  rwa [← e] at this
theorem right_mono {P X Q L : List (ByteArray × Int)} {y : ByteArray × Int} {a m : Nat} (hL : L = P ++ X ++ [y] ++ Q) (ha : a = P.length) (hm : m = a + X.length) (hs : Sorted X) : Mono (fun k => bl (key (pr L m)) (key (pr L k))) a m := by
  intro k k' h1 h2 h3 h4
  have hL2 : L = P ++ X ++ ([y] ++ Q) := by rw [hL]; simp
  have := sorted_pr hL2 hs (i := k) (j := k') (by omega) h2 (by omega)
  exact lt_of_lt_le h4 this

theorem mid_mono {P X Y Q L : List (ByteArray × Int)} {a m b p lo hi : Nat} (hL : L = P ++ X ++ Y ++ Q) (ha : a = P.length) (hm : m = a + X.length) (hb : b = m + Y.length) (hX : Sorted X) (hY : Sorted Y)
    (h1 : a ≤ lo) (h2 : hi ≤ m) (h3 : m + hi ≤ p + 1) (h4 : p < b + lo) : Mono (fun c => bl (key (pr L (p - c))) (key (pr L c))) lo hi := by
  intro k k' k1 k2 k3 k4
  dsimp only at k4 ⊢
  have hLX : L = P ++ X ++ (Y ++ Q) := by rw [hL]; simp
  have hLY : L = (P ++ X) ++ Y ++ Q := hL
  have hl : (P ++ X).length = m := by simp; omega
  have e1 := sorted_pr hLX hX (i := k) (j := k') (by omega) k2 (by omega)
  have e2 := sorted_pr hLY hY (i := p - k') (j := p - k) (by omega) (by omega) (by omega)
  exact lt_of_lt_le (lt_of_le_lt e2 k4) e1
/-- Where the search has ended: what stands between the halves. -/
theorem mid_fact {P X Y Q L : List (ByteArray × Int)} {a m b p lo hi s mid : Nat} (hL : L = P ++ X ++ Y ++ Q) (ha : a = P.length) (hm : m = a + X.length) (hb : b = m + Y.length) (hX : Sorted X) (hY : Sorted Y)
    (hp : p + 1 = mid + m) (h1 : a ≤ lo) (h2 : hi ≤ m) (h3 : hi ≤ mid) (h4 : mid + m ≤ b + lo) (h5 : hi = m ∨ hi = mid) (h6 : lo = a ∨ lo + b = mid + m)
    (h : Srch (fun c => bl (key (pr L (p - c))) (key (pr L c))) lo hi s s) :
    ∃ X1 X2 Y1 Y2, X = X1 ++ X2 ∧ Y = Y1 ++ Y2 ∧ X1.length = s - a ∧ X2.length = m - s ∧ Y1.length = mid - s ∧ Y2.length = b - (mid + m - s) ∧
      (∀ y ∈ Y1, ∀ x ∈ X2, bl (key y) (key x) = true) ∧ (∀ x ∈ X1, ∀ y ∈ Y2, bl (key y) (key x) = false) := by
  obtain ⟨s1, _, s2, s3, s4⟩ := h
  have hLX : L = P ++ X ++ (Y ++ Q) := by rw [hL]; simp
  have hLY : L = (P ++ X) ++ Y ++ Q := hL
  have hl : (P ++ X).length = m := by simp; omega
  refine ⟨X.take (s - a), X.drop (s - a), Y.take (mid - s), Y.drop (mid - s), (List.take_append_drop _ _).symm, (List.take_append_drop _ _).symm, by rw [List.length_take]; omega, by rw [List.length_drop]; omega, by rw [List.length_take]; omega, by rw [List.length_drop]; omega, ?_, ?_⟩
  · intro y hy x hx
    obtain ⟨j, a1, a2, a3, rfl⟩ := mem_take_pr hLY hy
    obtain ⟨i, b1, b2, rfl⟩ := mem_drop_pr hLX hx
    rw [hl] at a1 a2 a3
    have hlt : s < hi := by omega
    have t := s4 s (Nat.le_refl _) hlt
    have e1 := sorted_pr hLX hX (i := s) (j := i) (by omega) (by omega) (by omega)
    have e2 := sorted_pr hLY hY (i := j) (j := p - s) (by omega) (by omega) (by omega)
    exact lt_of_lt_le (lt_of_le_lt e2 t) e1
  · intro x hx y hy
    obtain ⟨i, a1, a2, a3, rfl⟩ := mem_take_pr hLX hx
    obtain ⟨j, b1, b2, rfl⟩ := mem_drop_pr hLY hy
    rw [hl] at b1 b2
    have hlt : lo < s := by omega
    have t := s3 (s - 1) (by omega) (by omega)
    have e1 := sorted_pr hLX hX (i := i) (j := s - 1) (by omega) (by omega) (by omega)
    have e2 := sorted_pr hLY hY (i := p - (s - 1)) (j := j) (by omega) (by omega) (by omega)
    exact le_trans (le_trans e1 t) e2
theorem mid_end {X1 X2 Y1 Y2 Z1 Z2 : List (ByteArray × Int)} (hX : Sorted (X1 ++ X2)) (hY : Sorted (Y1 ++ Y2)) (h1 : ∀ y ∈ Y1, ∀ x ∈ X2, bl (key y) (key x) = true) (h2 : ∀ x ∈ X1, ∀ y ∈ Y2, bl (key y) (key x) = false)
    (hZ1 : Sorted Z1) (e1 : SE (X1 ++ Y1) Z1) (hZ2 : Sorted Z2) (e2 : SE (X2 ++ Y2) Z2) : Sorted (Z1 ++ Z2) ∧ SE ((X1 ++ X2) ++ (Y1 ++ Y2)) (Z1 ++ Z2) := by
  obtain ⟨_, _, x3⟩ := sorted_append.1 hX
  obtain ⟨_, _, y3⟩ := sorted_append.1 hY
  constructor
  · refine sorted_append.2 ⟨hZ1, hZ2, ?_⟩
    intro p hp q hq
    have hp' := e1.symm.mem hp
    have hq' := e2.symm.mem hq
    rcases List.mem_append.1 hp' with hp' | hp' <;> rcases List.mem_append.1 hq' with hq' | hq'
    · exact x3 p hp' q hq'
    · exact h2 p hp' q hq'
    · exact lt_le (h1 p hp' q hq')
    · exact y3 p hp' q hq'
  · have a : SE (X2 ++ Y1) (Y1 ++ X2) := SE.of_lt (fun p hp q hq => h1 q hq p hp)
    have b := ((SE.refl X1).append a).append (SE.refl Y2)
    have c := e1.append e2
    have d : X1 ++ (Y1 ++ X2) ++ Y2 = (X1 ++ Y1) ++ (X2 ++ Y2) := by simp
    rw [d] at b
    have f : (X1 ++ X2) ++ (Y1 ++ Y2) = X1 ++ (X2 ++ Y1) ++ Y2 := by simp
    rw [f]
    exact b.trans c
end Go.Proofs.YtmgpacenooncjaaGreatDoor.Pp
