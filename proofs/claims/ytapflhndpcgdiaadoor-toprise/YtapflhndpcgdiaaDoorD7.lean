/- Folders: what is known of the groups; the law's closed fact. -/
import Derived.Test.YtapflhndpcgdiaaDoorD6
import Derived.Test.YtapflhndpcgdiaaDoorPFlt
import Derived.Test.YtapflhndpcgdiaaDoorRise0
import Derived.Test.YtapflhndpcgdiaaDoorSame0
namespace Go.Proofs.YtapflhndpcgdiaaDoor
open Go.ChangeShapes Go.WideShapes Go.ChangeAt Go.RowKit
open Grp Stable
/-- A pair whose key is short, and whose value fits. -/
def Ok1 (p : ByteArray × Int) : Prop := p.1.size ≤ 1000 ∧ -9223372036854775808 ≤ p.2 ∧ p.2 ≤ 9223372036854775807
theorem two_fit (kind a b : Int) (ha : -9223372036854775808 ≤ a ∧ a ≤ 9223372036854775807) (hb : -9223372036854775808 ≤ b ∧ b ≤ 9223372036854775807) : -9223372036854775808 ≤ two kind a b ∧ two kind a b ≤ 9223372036854775807 := by
  unfold two
  split
  · omega
  · split
    · omega
    · rw [wrap_eq]
      have h1 := Int.le_bmod (x := a + b) (m := 18446744073709551616) (by decide)
      have h2 := Int.bmod_lt (x := a + b) (m := 18446744073709551616) (by decide)
      omega
theorem fits_step (kind : Int) (A : List (ByteArray × Int)) (p : ByteArray × Int) (hA : Fits A) (hp : Ok1 p) : Fits (Grp.step kind A p) := by
  rcases List.eq_nil_or_concat A with rfl | ⟨A, q, rfl⟩
  · intro r hr
    rw [step_nil, List.mem_singleton] at hr
    subst hr
    exact hp
  · rw [List.concat_eq_append] at *
    have hq := hA q (by simp)
    by_cases h : q.1 = p.1
    · rw [step_same _ _ _ _ h]
      intro r hr
      rcases List.mem_append.1 hr with hr | hr
      · exact hA r (by simp [hr])
      · rw [List.mem_singleton] at hr
        subst hr
        exact ⟨hq.1, two_fit kind _ _ hq.2 hp.2⟩
    · rw [step_other _ _ _ _ h]
      intro r hr
      rcases List.mem_append.1 hr with hr | hr
      · exact hA r hr
      · rw [List.mem_singleton] at hr
        subst hr
        exact hp
theorem fits_grp (kind : Int) (l : List (ByteArray × Int)) (h : Fits l) : Fits (grp kind l) := by
  have : ∀ (b A : List (ByteArray × Int)), Fits A → (∀ p ∈ b, Ok1 p) → Fits (b.foldl (Grp.step kind) A) := by
    intro b
    induction b with
    | nil => intro A hA _; exact hA
    | cons p b ih => intro A hA hb; exact ih _ (fits_step kind A p hA (hb p List.mem_cons_self)) (fun q hq => hb q (List.mem_cons_of_mem _ hq))
  exact this l [] (fun p hp => by cases hp) h
theorem fits_se {l m : List (ByteArray × Int)} (h : SE l m) (hl : Fits l) : Fits m := fun p hp => hl p (h.symm.mem hp)
theorem fits_take {l : List (ByteArray × Int)} (n : Nat) (h : Fits l) : Fits (l.take n) := fun p hp => h p (List.mem_of_mem_take hp)
theorem owns_cap {w : World} {base : Nat} {v : Value} {L : List (ByteArray × Int)} (h : w.ownsRow base 30 2 v L.length (cellsP L)) : ∃ a cap, v = .slice a L.length cap ∧ L.length ≤ cap := by
  rcases h.2 with ⟨rfl, h0⟩ | ⟨g, cap, cur, rfl, _, _, h4, _⟩
  · exact ⟨none, 0, by rw [h0], by omega⟩
  · exact ⟨some ⟨g, 0, none⟩, cap, rfl, h4⟩
/-- What is known behind New and a whole Step, of lists that are known. -/
theorem fresh_grp {w w' : World} {ls : List (List (ByteArray × Int))} {kind : Int} {R : Nat} {kv : Value} {Z : List (ByteArray × Int)} {ks : List ByteArray} {ss : List (List (ByteArray × Int))} (h : Fresh w w' ls kind R kv Z ks ss) {X : List (ByteArray × Int)} (hX : Sorted X) (hse : SE ls.flatten X) : Z = X ∧ ss.length = (grp kind X).length := by
  have e : Z = X := sorted_unique Z X h.sorted hX ((h.se.symm).trans hse)
  subst e
  exact ⟨rfl, by rw [← h.flat, segs_grp_len h.segs]⟩
def litF : List (ByteArray × Int) := [(⟨#[97]⟩, 2), (⟨#[97]⟩, 3)]
theorem litF_grp : grp 1 litF = [(⟨#[97]⟩, 5)] := by decide +kernel
theorem litF_sorted : Sorted litF := List.pairwise_cons.2 ⟨fun q hq => by rw [List.mem_singleton] at hq; subst hq; decide +kernel, List.pairwise_singleton _ _⟩
theorem litF_text : (bs (textL [(⟨#[97]⟩, 5)])).toList = [49, 58, 97, 32, 53, 10] := by rw [bs_toList]; decide +kernel
theorem litF_fits : Fits [((⟨#[97]⟩ : ByteArray), (5 : Int))] := by intro p hp; simp only [List.mem_singleton] at hp; subst hp; decide
set_option maxRecDepth 100000 in
set_option maxHeartbeats 1000000 in
theorem foldings_any (w : World) (E : Env w) : Calls Tryd.prog 23 #[] w fun e w' => e = .returned (.bool true) ∧ Below w.heap.size w w' := by
  obtain ⟨w3, hw3⟩ : ∃ w3, w3 = ((w.alloc (.cells #[.string ⟨#[97]⟩, .int .i64 2] 30)).alloc (.cells #[.string ⟨#[97]⟩, .int .i64 3] 30)).alloc (.cells #[.slice (some ⟨w.heap.size, 0, none⟩) 1 1, .slice (some ⟨w.heap.size + 1, 0, none⟩) 1 1] 22) := ⟨_, rfl⟩
  have hb3 : Below w.heap.size w w3 := by
    rw [hw3]
    exact (((Below.refl _ _).alloc (Nat.le_refl _) _).alloc (by simp) _).alloc (by simp; omega) _
  have k1 : Blk w3 w.heap.size 30 [.string ⟨#[97]⟩, .int .i64 2] := by
    rw [hw3]
    exact ((Blk.new w _ _).blw (blw_box _)).blw (blw_box _)
  have k2 : Blk w3 (w.heap.size + 1) 30 [.string ⟨#[97]⟩, .int .i64 3] := by
    rw [hw3]
    have h := Blk.new (w.alloc (.cells #[.string ⟨#[97]⟩, .int .i64 2] 30)) #[.string ⟨#[97]⟩, .int .i64 3] 30
    rw [show (w.alloc (.cells #[.string ⟨#[97]⟩, .int .i64 2] 30)).heap.size = w.heap.size + 1 by simp] at h
    exact h.blw (blw_box _)
  have k3 : Blk w3 (w.heap.size + 1 + 1) 22 [.slice (some ⟨w.heap.size, 0, none⟩) 1 1, .slice (some ⟨w.heap.size + 1, 0, none⟩) 1 1] := by
    rw [hw3]
    have h := Blk.new ((w.alloc (.cells #[.string ⟨#[97]⟩, .int .i64 2] 30)).alloc (.cells #[.string ⟨#[97]⟩, .int .i64 3] 30)) #[.slice (some ⟨w.heap.size, 0, none⟩) 1 1, .slice (some ⟨w.heap.size + 1, 0, none⟩) 1 1] 22
    rw [show ((w.alloc (.cells #[.string ⟨#[97]⟩, .int .i64 2] 30)).alloc (.cells #[.string ⟨#[97]⟩, .int .i64 3] 30)).heap.size = w.heap.size + 1 + 1 by simp] at h
    exact h
  have hL : IsLists w3 (.slice (some ⟨w.heap.size + 1 + 1, 0, none⟩) 2 2) [[(⟨#[97]⟩, 2)], [(⟨#[97]⟩, 3)]] := by
    refine ⟨some ⟨w.heap.size + 1 + 1, 0, none⟩, 2, rfl, fun i hi => ?_⟩
    match i, hi with
    | 0, _ =>
      refine ⟨w.heap.size + 1 + 1, 0, .slice (some ⟨w.heap.size, 0, none⟩) 1 1, rfl, k3.at rfl, some ⟨w.heap.size, 0, none⟩, 1, rfl, fun j hj => ?_⟩
      match j, hj with
      | 0, _ => exact ⟨w.heap.size, 0, rfl, k1.at rfl, k1.at rfl⟩
    | 1, _ =>
      refine ⟨w.heap.size + 1 + 1, 0, .slice (some ⟨w.heap.size + 1, 0, none⟩) 1 1, rfl, k3.at rfl, some ⟨w.heap.size + 1, 0, none⟩, 1, rfl, fun j hj => ?_⟩
      match j, hj with
      | 0, _ => exact ⟨w.heap.size + 1, 0, rfl, k2.at rfl, k2.at rfl⟩
  have NW := Lib.hid (new_ok 1 _ _ w3 (by decide) hL (by decide) (by decide))
  have E3 := E.below hb3
  have HE : Hid (∀ w', Below w3.heap.size w3 w' → Env w') := fun w' h => E3.below h
  have HW := Lib.hid hw3
  clear hw3 hL E E3 k1 k2 k3
  go_enter Tryd.func23, Tryd.ntmps23
  go_wp2_with (go_at_call 25; refine Hid.out ?_)
  refine Lib.hid ?_
  rw [← HW.out]
  refine NW.out.mono ?_
  clear NW HW
  rintro _ w4 ⟨R, kv, Z, ks, ss, rfl, hfr⟩
  obtain ⟨rfl, hsl⟩ := fresh_grp hfr litF_sorted (SE.refl _)
  rw [litF_grp] at hsl
  have hss : ss.length = 1 := hsl
  have hkv := hfr.run.keys w4 (Below.refl _ _)
  obtain ⟨ko, kc, rfl, _⟩ := hkv
  have hb4 := hfr.bel
  have SM := Lib.hid (fun w => same_nil w)
  have ST : Hid (∀ w', Below w4.heap.size w4 w' → Calls Tryd.prog 28 #[.pointer (some ⟨R, 0, none⟩), .int .i64 1] w' fun e w'' => e = .returned (.bool true) ∧ Below w3.heap.size w3 w'' ∧ ∃ mv, IsRun w'' R 1 (.slice ko ss.length kc) ss mv [(⟨#[97]⟩, 5)]) := fun w' hb' => by
    refine (step_any R 0 1 1 ko kc ss ks none 0 (grp 1 litF) w' (hfr.run.blw hb') (by rw [hfr.flat]) hfr.segs (Nat.zero_le _) (by omega) (by rw [hfr.flat]; decide) (by decide) (by decide)).mono ?_
    rintro e w'' ⟨a', mo', mc', ha', rfl, hr, hF, _⟩
    have ha1 : a' = 1 := by rw [ha', hss]; rfl
    subst ha1
    rw [litF_grp] at hr
    refine ⟨by rw [hss]; rfl, ?_, _, hr⟩
    have hbb := blw_step hb4 hb'
    refine hbb.trans (hF.below hbb.size hfr.low (fun b hb => ?_))
    cases hb
  clear hfr hsl
  dsimp only
  go_wp2_with (go_at_call 9; refine Hid.out ?_)
  refine Lib.hid ?_
  refine (SM.out _).mono ?_
  rintro _ w5 ⟨rfl, hb5⟩
  have S5 := Lib.hid (ST.out w5 hb5)
  clear ST SM
  go_wp2_with (go_at_call 28; refine Hid.out ?_)
  refine Lib.hid ?_
  refine S5.out.mono ?_
  rintro _ w6 ⟨rfl, hb6, mv, hr6⟩
  have O6 := Lib.hid (out_any R 1 _ mv ss _ w6 (HE.out _ hb6) hr6 litF_fits (by decide))
  have hT := litF_text
  generalize bs (textL [(⟨#[97]⟩, 5)]) = tx at O6 hT
  clear S5 hr6
  go_wp2_with (go_at_call 29; refine Hid.out ?_)
  refine Lib.hid ?_
  refine O6.out.mono ?_
  rintro _ w7 ⟨rfl, hb7⟩
  go_wp2
  go_ret
  exact ⟨rfl, blw_step hb3 (blw_step hb6 hb7)⟩
end Go.Proofs.YtapflhndpcgdiaaDoor
