/- Contract of package slices' stable sort at pairs. -/
import Derived.Test.YtmgpacenooncjaaGreatDoorPpSymAll
namespace Go.Proofs.YtmgpacenooncjaaGreatDoor.Pp
open Go.ChangeShapes Go.WideShapes Go.ChangeAt Go.RowKit
open Stable
set_option maxRecDepth 100000 in
set_option maxHeartbeats 8000000 in
theorem stable_any (g n cap : Nat) (L : List (ByteArray × Int)) (w : World) (hr : Row g L w) (hn : n = L.length) (hN : n ≤ 1000000) :
    Calls Tryz.prog 99 #[.slice (some ⟨g, 0, none⟩) n cap, .int .i64 n, .func (.func 80) #[] #[]] w fun e w' => e = .returned (.tuple #[]) ∧ (∃ Z, Sorted Z ∧ SE L Z ∧ Z.length = L.length ∧ Row g Z w') ∧ Only g w w' := by
  have HN := Lib.hid hn
  clear hn
  go_enter Tryz.func99, Tryz.ntmps99
  go_wp2_with fail
  go_loopw [7, 8] (fun av bv wr => ∃ (a b : Nat) (D R : List (ByteArray × Int)), av = .int .i64 a ∧ bv = .int .i64 b ∧ a ≤ n ∧ a + 20 ≤ b ∧ b ≤ a + 20 ∧ Only g w wr ∧ Row g (D ++ R) wr ∧ Hid (D.length = a ∧ D.length + R.length = n ∧ Fu 20 D ∧ SE L (D ++ R) ∧ Bk 0 [])) (fun av _ _ => n - (intOf av).toNat)
  case atStart => exact ⟨0, 20, [], L, rfl, rfl, Nat.zero_le _, Nat.le_refl _, Nat.le_refl _, Only.refl _ _, hr, ⟨rfl, by have := HN.out; simp; omega, Fu.nil, SE.refl _, Bk.last (Nat.le_refl _) List.Pairwise.nil⟩⟩
  case round =>
    obtain ⟨a, b, D, R, rfl, rfl, han, hab, hba, ho, hrow, HD⟩ := hrel
    clear hr
    by_cases hlt : b ≤ n
    · obtain ⟨S, R', hR, hS, hR'⟩ := split_len R 20 (by have := HD.out.1; have := HD.out.2.1; omega)
      subst hR
      have C1 := Lib.hid (insertion_any g n cap D S R' wr (by simpa using hrow) (by have := HD.out.2.1; simp at this ⊢; omega) hN a b HD.out.1.symm (by have := HD.out.1; omega))
      have HS := Lib.hid hS
      clear hrow hS hR'
      go_wp2_with (go_at_call 116; refine Hid.out ?_)
      refine Lib.hid ?_
      refine C1.out.mono ?_
      rintro _ w2 ⟨rfl, ⟨S', s1, s2, s3, hr2⟩, ho2⟩
      have HO2 := ho.trans ho2
      have HR2 : Row g ((D ++ S') ++ R') w2 := by simpa using hr2
      have HD2 : Hid ((D ++ S').length = b ∧ (D ++ S').length + R'.length = n ∧ Fu 20 (D ++ S') ∧ SE L ((D ++ S') ++ R') ∧ Bk 0 []) := by
        have h := HD.out
        have h2 := HS.out
        refine ⟨by simp; omega, by have := h.2.1; simp at this ⊢; omega, Fu.snoc h.2.2.1 (by omega) s1, h.2.2.2.1.trans ?_, h.2.2.2.2⟩
        have := (SE.refl D).append (s2.append (SE.refl R'))
        simpa using this
      clear C1 hr2 ho2 ho s1 s2 s3
      go_wp2
      go_roundw
      case rel => exact ⟨b, b + 20, D ++ S', R', rfl, by go_num, hlt, Nat.le_refl _, Nat.le_refl _, HO2, HR2, HD2⟩
      case measure => simp [intOf]; omega
    · have C1 := Lib.hid (insertion_any g n cap D R [] wr (by simpa using hrow) (by have := HD.out.2.1; simp at this ⊢; omega) hN a n HD.out.1.symm (by have := HD.out.2.1; omega))
      clear hrow
      go_wp2_with (go_at_call 116; refine Hid.out ?_)
      refine Lib.hid ?_
      refine C1.out.mono ?_
      rintro _ w2 ⟨rfl, ⟨S', s1, s2, s3, hr2⟩, ho2⟩
      have HO2 := ho.trans ho2
      have HR2 : Row g (D ++ S') w2 := by simpa using hr2
      have HD2 : Hid ((D ++ S').length = n ∧ Bk 20 (D ++ S') ∧ SE L (D ++ S')) := by
        have h := HD.out
        refine ⟨by simp; omega, h.2.2.1.bk S' (Bk.last (by omega) s1), h.2.2.2.1.trans ((SE.refl D).append s2)⟩
      clear C1 hr2 ho2 ho s1 s2 s3 HD
      generalize D ++ S' = M0 at *
      go_wp2_with fail
      go_loopw [6, 7, 8] (fun kv av bv wr2 => ∃ (k a' b' : Nat) (M : List (ByteArray × Int)), kv = .int .i64 k ∧ av = .int .i64 a' ∧ bv = .int .i64 b' ∧ 20 ≤ k ∧ k ≤ 2000000 ∧ Only g w wr2 ∧ Row g M wr2 ∧ Hid (M.length = n ∧ Bk k M ∧ SE L M)) (fun kv _ _ _ => n - (intOf kv).toNat)
      case atStart => exact ⟨20, a, b, M0, rfl, rfl, rfl, Nat.le_refl _, by omega, HO2, HR2, HD2⟩
      case round =>
        obtain ⟨k, a', b', M, rfl, rfl, rfl, hk20, hkN, ho3, hrow3, HM⟩ := hrel
        clear HO2 HR2 HD2 han hab hba hlt
        by_cases hkn : k < n
        · obtain ⟨kk, hkk⟩ : ∃ kk, kk = 2 * k := ⟨_, rfl⟩
          have e2 : (2 : Int) * (k : Int) = (kk : Int) := by omega
          have e3 : (k : Int) * 2 = (kk : Int) := by omega
          have hk1 : kk ≤ 2000000 := by omega
          have hk2 : k + 20 ≤ kk := by omega
          have HK := Lib.hid hkk
          clear hkk
          go_wp2_with fail
          go_loopw [7, 8] (fun av bv wr4 => ∃ (a b : Nat) (D R : List (ByteArray × Int)), av = .int .i64 a ∧ bv = .int .i64 b ∧ a ≤ n ∧ a + kk ≤ b ∧ b ≤ a + kk ∧ Only g w wr4 ∧ Row g (D ++ R) wr4 ∧ Hid (D.length = a ∧ D.length + R.length = n ∧ Fu kk D ∧ SE L (D ++ R) ∧ Bk k R)) (fun av _ _ => n - (intOf av).toNat)
          case atStart => exact ⟨0, kk, [], M, rfl, rfl, Nat.zero_le _, by omega, by omega, ho3, hrow3, ⟨rfl, by have := HM.out.1; simp; omega, Fu.nil, HM.out.2.2, HM.out.2.1⟩⟩
          case round =>
            obtain ⟨a, b, D, R, rfl, rfl, han, hab, hba, ho5, hrow5, HD⟩ := hrel
            clear ho3 hrow3
            obtain ⟨ak, hak⟩ : ∃ ak, ak = a + k := ⟨_, rfl⟩
            have e4 : (a : Int) + (k : Int) = (ak : Int) := by omega
            have hak1 : ak ≤ 3000000 := by omega
            have HAK := Lib.hid hak
            clear hak
            by_cases hlt : b ≤ n
            · obtain ⟨l1, l2, R', hR, h1, h2, h3, h4, h5⟩ := Bk.two HD.out.2.2.2.2 (by omega) (by have := HD.out.1; have := HD.out.2.1; have := HK.out; omega)
              subst hR
              have C1 := Lib.hid (symMerge_any g n cap D l1 l2 R' wr (by simpa using hrow5) (by have := HD.out.2.1; simp at this ⊢; omega) hN a ak b HD.out.1.symm (by have := HAK.out; omega) (by have := HK.out; have := HAK.out; omega) (by omega) (by omega) h3 h4)
              have HB := Lib.hid (And.intro h1 (And.intro h2 h5))
              clear hrow5 h1 h2 h3 h4 h5
              go_wp2_with (go_at_call 117; refine Hid.out ?_)
              refine Lib.hid ?_
              refine C1.out.mono ?_
              rintro _ w6 ⟨rfl, ⟨Z, s1, s2, s3, hr6⟩, ho6⟩
              have HO6 := ho5.trans ho6
              have HR6 : Row g ((D ++ Z) ++ R') w6 := by simpa using hr6
              have HD6 : Hid ((D ++ Z).length = b ∧ (D ++ Z).length + R'.length = n ∧ Fu kk (D ++ Z) ∧ SE L ((D ++ Z) ++ R') ∧ Bk k R') := by
                have h := HD.out
                have hb := HB.out
                have hk := HK.out
                refine ⟨by simp; omega, by have := h.2.1; simp at this ⊢; omega, Fu.snoc h.2.2.1 (by omega) s1, h.2.2.2.1.trans ?_, hb.2.2⟩
                have := (SE.refl D).append (s2.append (SE.refl R'))
                simpa using this
              clear C1 hr6 ho6 ho5 s1 s2 s3
              obtain ⟨bk, hbk⟩ : ∃ bk, bk = b + kk := ⟨_, rfl⟩
              have e5 : (b : Int) + (kk : Int) = (bk : Int) := by omega
              have hbk1 : b + kk ≤ bk := by omega
              have hbk2 : bk ≤ b + kk := by omega
              clear hbk
              go_wp2
              go_roundw
              case rel => exact ⟨b, bk, D ++ Z, R', rfl, by first | rfl | go_num, hlt, hbk1, hbk2, HO6, HR6, HD6⟩
              case measure => simp [intOf]; omega
            · by_cases hmn : ak < n
              · obtain ⟨l1, l2, hR, h1, h3, h4⟩ := Bk.one HD.out.2.2.2.2 (by have := HD.out.1; have := HD.out.2.1; have := HAK.out; omega) (by have := HD.out.1; have := HD.out.2.1; have := HK.out; omega)
                subst hR
                have C1 := Lib.hid (symMerge_any g n cap D l1 l2 [] wr (by simpa using hrow5) (by have := HD.out.2.1; simp at this ⊢; omega) hN a ak n HD.out.1.symm (by have := HAK.out; omega) (by have h7 := HD.out.2.1; have := HD.out.1; have := HAK.out; rw [List.length_append] at h7; omega) (by omega) (by have h7 := HD.out.2.1; have := HD.out.1; have := HAK.out; rw [List.length_append] at h7; omega) h3 h4)
                have HB := Lib.hid h1
                clear hrow5 h1 h3 h4
                go_wp2_with (go_at_call 117; refine Hid.out ?_)
                refine Lib.hid ?_
                refine C1.out.mono ?_
                rintro _ w6 ⟨rfl, ⟨Z, s1, s2, s3, hr6⟩, ho6⟩
                have HO6 := ho5.trans ho6
                have HR6 : Row g (D ++ Z) w6 := by simpa using hr6
                have HD6 : Hid ((D ++ Z).length = n ∧ Bk kk (D ++ Z) ∧ SE L (D ++ Z)) := by
                  have h := HD.out
                  have h2 := h.2.1
                  simp at h2
                  refine ⟨by simp; omega, h.2.2.1.bk Z (Bk.last (by omega) s1), h.2.2.2.1.trans ((SE.refl D).append s2)⟩
                clear C1 hr6 ho6 ho5 s1 s2 s3
                go_wp2
                go_roundw
                case rel => exact ⟨kk, a, b, D ++ Z, by first | rfl | go_num, rfl, rfl, by omega, hk1, HO6, HR6, HD6⟩
                case measure => simp [intOf]; omega
              · have HD6 : Hid ((D ++ R).length = n ∧ Bk kk (D ++ R) ∧ SE L (D ++ R)) := by
                  have h := HD.out
                  have h2 := h.2.1
                  exact ⟨by simp; omega, h.2.2.1.bk R (Bk.last (by have := HAK.out; omega) (h.2.2.2.2.none (by have := HAK.out; omega))), h.2.2.2.1⟩
                go_wp2
                go_roundw
                case rel => exact ⟨kk, a, b, D ++ R, by first | rfl | go_num, rfl, rfl, by omega, hk1, ho5, hrow5, HD6⟩
                case measure => simp [intOf]; omega
        · have hfin : Hid (∃ Z, Sorted Z ∧ SE L Z ∧ Z.length = L.length ∧ Row g Z wr) :=
            ⟨M, HM.out.2.1.none (by have := HM.out.1; omega), HM.out.2.2, by have := HM.out.1; have := HN.out; omega, hrow3⟩
          clear hrow3
          go_wp2
          go_end0
          exact ⟨rfl, hfin.out, ho3⟩
set_option maxRecDepth 100000 in
theorem sortStable_any (g n cap : Nat) (L : List (ByteArray × Int)) (w : World) (hr : Row g L w) (hn : n = L.length) (hN : n ≤ 1000000) :
    Calls Tryz.prog 79 #[.slice (some ⟨g, 0, none⟩) n cap, .func (.func 80) #[] #[]] w fun e w' => e = .returned (.tuple #[]) ∧ (∃ Z, Sorted Z ∧ SE L Z ∧ Z.length = L.length ∧ Row g Z w') ∧ Only g w w' := by
  have C1 := Lib.hid (stable_any g n cap L w hr hn hN)
  clear hr hn
  go_enter Tryz.func79, Tryz.ntmps79
  go_wp2_with (go_at_call 99; refine Hid.out ?_)
  refine Lib.hid ?_
  refine C1.out.mono ?_
  rintro _ w2 ⟨rfl, h2, ho2⟩
  go_wp2
  go_end0
  exact ⟨rfl, h2, ho2⟩
end Go.Proofs.YtmgpacenooncjaaGreatDoor.Pp
