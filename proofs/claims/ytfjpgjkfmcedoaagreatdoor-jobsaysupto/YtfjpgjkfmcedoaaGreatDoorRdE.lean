/- Contract of reader.expr: an expression, and what is left. Written by tpl/mk_rde.py. -/
import Derived.Test.YtfjpgjkfmcedoaaGreatDoorG13
namespace Go.Proofs.YtfjpgjkfmcedoaaGreatDoor
open Go.ChangeShapes Go.WideShapes Go.ChangeAt Go.RowKit
def ExprSaid (P : Nat) (s : List UInt8) (w : World) (r : Ending) (w' : World) : Prop :=
  ∃ e' s' sv, r = .returned (e'.val sv) ∧ IsExW w.heap.size w'.heap.size w' sv e' ∧ ReadsE s e' s' ∧ RdAt P s' w' ∧ Only P w w'
theorem rd_far {P b j : Nat} {s : List UInt8} {w : World} {u : Value} (hne : P ≠ b) (h : RdAt P s w) : RdAt P s (w.setCell ⟨b, j, none⟩ u) := (Below.heap_setCell w ⟨b, j, none⟩ u P (fun e => hne e)).trans h
theorem num_no_txt {k : Int} (h : hasNum k = true) : hasTxt k = false := by
  unfold hasNum at h
  unfold hasTxt
  have h1 := of_decide_eq_true h
  unfold lowK highK at h1
  unfold bytesK
  split
  · rename_i h4; subst h4; simp at h1
  · rfl
theorem exprInfo : (Tryz.prog.info? 44).map (fun i => (i.zero, i.size, i.bytes)) = some (some (.agg #[.int .i64 0, .int .i64 0, .string ⟨#[]⟩, .slice none 0 0]), 4, 56) := by kernel_rfl
set_option maxRecDepth 100000 in
set_option maxHeartbeats 4000000 in
theorem expr_any (m : Nat) : ∀ (s : List UInt8) (P : Nat) (w w0 : World), s.length < m → s.length ≤ 1000 → RdAt P s w → Below w0.heap.size w0 w → w0.heap.size ≤ P → EnvR w0 →
    Calls Tryz.prog 59 #[.pointer (some ⟨P, 0, none⟩)] w (ExprSaid P s w) := by
  induction m with
  | zero => intro s P w w0 h; omega
  | succ m ih =>
    intro s P w w0 hm hs hr hb0 hP E0
    have IH := Lib.hid ih
    have HE0 := Lib.hid E0
    have HB0 := Lib.hid hb0
    have HP := Lib.hid hP
    have HR := Lib.hid hr
    have hPw := hr.lt
    clear ih E0 hb0 hr
    have envAt : Hid (∀ wr, Only P w wr → EnvR wr) := fun wr ho => HE0.out.lower (below_of_only HB0.out HP.out ho)
    obtain ⟨w1, hw1⟩ : ∃ w1, w1 = w.alloc (.cells #[.int .i64 0, .int .i64 0, .string ⟨#[]⟩, .slice none 0 0] 44) := ⟨_, rfl⟩
    have hb1 : Below w.heap.size w w1 := by rw [hw1]; exact below_box _
    have hsz1 : w1.heap.size = w.heap.size + 1 := by rw [hw1]; simp
    have HRES : Hid (w1.heap[w.heap.size]? = some (.cells #[.int .i64 0, .int .i64 0, .string ⟨#[]⟩, .slice none 0 0] 44 (0, 0))) := by rw [hw1]; exact heap_alloc_new _ _
    have HW1 := Lib.hid hw1
    have HSZ1 := Lib.hid hsz1
    clear hw1 hsz1
    have NM := Lib.hid (names_any w1)
    go_enter Tryz.func59, Tryz.ntmps59
    go_wp2_with (go_at_call 66; refine Hid.out ?_)
    rw [← HW1.out]
    refine Lib.hid ?_
    refine NM.out.mono ?_
    rintro _ w2 ⟨rfl, hmap, hb2⟩
    have hb12 := below_trans hb1 hb2
    have o2 : Only P w w2 := Only.of_below hb12
    have WD := Lib.hid (rword_any P s w2 (HR.out.lower hb12) (envAt.out w2 o2).toEnvJ.toEnvT.toEnvS.toEnv0 (by omega))
    have HMAP := Lib.hid hmap
    clear NM hmap
    go_wp2_with (go_at_call 55; refine Hid.out ?_)
    refine Lib.hid ?_
    refine WD.out.mono ?_
    rintro _ w3 ⟨rfl, r3, o3⟩
    have hrun := look_name (map_only HMAP.out o3 (by have := HSZ1.out; omega)) (wordR s) (by have := wordR_len s; omega)
    have hres3 : Hid (w3.heap[w.heap.size]? = some (.cells #[.int .i64 0, .int .i64 0, .string ⟨#[]⟩, .slice none 0 0] 44 (0, 0))) := by
      show _ = _
      rw [o3.block w.heap.size (Nat.lt_of_lt_of_le (by have := HSZ1.out; omega) hb2.size) (by simp; omega), hb2.block w.heap.size (by have := HSZ1.out; omega)]
      exact HRES.out
    obtain ⟨B, hBd⟩ : ∃ B, B = w3.heap.size := ⟨_, rfl⟩
    have hlt3 : w.heap.size < B := by
      have a := hb2.size
      have b := o3.size
      have c := HSZ1.out
      omega
    obtain ⟨k, hk⟩ : ∃ k, k = nameK (wordR s) := ⟨_, rfl⟩
    rw [← hk] at hrun
    have HK := Lib.hid hk
    clear hk
    obtain ⟨w4, hw4⟩ : ∃ w4, w4 = w3.alloc (.cells #[.int .i64 k, .int .i64 0, .string ⟨#[]⟩, .slice none 0 0] 44) := ⟨_, rfl⟩
    have hb4 : Below w3.heap.size w3 w4 := by rw [hw4]; exact below_box _
    have X4 : Hid (XSt P B (s.drop (wordR s).length) k 0 [] (.slice none 0 0) w w4) := by
      refine ⟨r3.lower hb4, ?_, ?_, (o2.trans o3).trans (Only.of_below hb4), hPw, hlt3⟩
      · rw [hb4.block _ (by omega)]; exact hres3.out
      · rw [hw4, hBd]; exact heap_alloc_new _ _
    have HW4 := Lib.hid hw4
    have HBD := Lib.hid hBd
    clear hw4 WD HMAP r3 o3 hb4 hres3 HRES hb12 hb1 hb2 o2 hBd
    generalize hs1 : s.drop (wordR s).length = s1 at X4
    have HS1 := Lib.hid hs1
    clear hs1
    go_wp2_with (go_at_call 49; refine Hid.out ?_)
    rw [← HW4.out, ← HBD.out]
    refine Lib.hid ?_
    refine (hasNumber_any k w4 (envAt.out w4 X4.out.only).toEnvJ.toEnvT.toEnvS).mono ?_
    rintro _ w5 ⟨rfl, hb5⟩
    have X5 := Lib.hid (X4.out.lower hb5)
    have hl1 : s1.length ≤ s.length := by rw [← HS1.out]; simp
    clear X4 hb5 hrun HW4 HBD
    cases hnum : hasNum k with
    | true =>
      have htf := num_no_txt hnum
      have SK := Lib.hid (skip_any P s1 1 w5 X5.out.rd (by omega) (by omega))
      go_wp2_with (go_at_call 56; refine Hid.out ?_)
      refine Lib.hid ?_
      refine SK.out.mono ?_
      rintro _ w5a ⟨rfl, r5a, o5a⟩
      have X5a := Lib.hid (X5.out.read r5a o5a)
      have hl2 : (s1.drop 1).length ≤ s1.length := by simp
      have NB := Lib.hid (number_any P (s1.drop 1) w5a r5a (envAt.out w5a X5a.out.only) w0 (below_of_only HB0.out HP.out X5a.out.only) HP.out HE0.out (by omega))
      clear SK X5 r5a o5a
      go_wp2_with (go_at_call 57; refine Hid.out ?_)
      refine Lib.hid ?_
      refine NB.out.mono ?_
      rintro _ w5b ⟨n, rfl, hn1, hn2, r5b, o5b⟩
      have X5b := Lib.hid (X5a.out.read r5b o5b)
      have HNS : Hid (ReadsN k s1 n ((s1.drop 1).drop (wordR (s1.drop 1)).length)) := by
        show ReadsN _ _ _ _
        unfold ReadsN
        rw [if_pos hnum]
        exact ⟨rfl, hn1, hn2⟩
      have hl3 : ((s1.drop 1).drop (wordR (s1.drop 1)).length).length ≤ s1.length := by simp
      clear NB X5a r5b o5b hn2 hnum
      generalize (s1.drop 1).drop (wordR (s1.drop 1)).length = s2 at *
      have c1 : w5b.cell? ⟨B, 1, none⟩ = some (.int .i64 0) := X5b.out.c 1
      have f1 := X5b.out.f 1
      have c0 : w5b.cell? ⟨B, 0, none⟩ = some (.int .i64 k) := X5b.out.c 0
      have X5c : Hid (XSt P B s2 k n [] (.slice none 0 0) w (w5b.setCell ⟨B, 1, none⟩ (.int .i64 n))) := X5b.out.put (by rfl)
      clear X5b
      go_wp2_with (go_at_call 50; refine Hid.out ?_)
      clear c1 f1 c0
      generalize w5b.setCell ⟨B, 1, none⟩ (.int .i64 n) = w5d at *
      refine Lib.hid ?_
      refine (hasText_any k w5d (envAt.out w5d X5c.out.only).toEnvJ.toEnvT.toEnvS).mono ?_
      rintro _ w6 ⟨rfl, hb6⟩
      have X6 := Lib.hid (X5c.out.lower hb6)
      have HTS : Hid (ReadsT k s2 [] s2) := by
        show ReadsT _ _ _ _
        unfold ReadsT
        rw [if_neg (by simp [htf])]
        exact ⟨rfl, rfl⟩
      rw [htf]
      clear X5c hb6 htf
      have c0 := X6.out.c 0
      have SH := Lib.hid (shapeOf_any k w6 (envAt.out w6 X6.out.only).toEnvJ.toEnvT.toEnvS)
      unfold shV at SH
      obtain ⟨m2, hm2⟩ : ∃ m2, m2 = partsK k := ⟨_, rfl⟩
      have hm22 : m2 ≤ 2 := by rw [hm2]; unfold partsK; repeat' split
                               all_goals omega
      rw [← hm2] at SH
      have HM2 := Lib.hid hm2
      clear hm2
      have hfd : ∀ w : World, (Instr.field 95 (.agg #[.int .i64 (lowK k), .int .i64 (highK k), .int .i64 (bytesK k : Int), .int .i64 (m2 : Int), .bool (textsK k)]) 3).run Tryz.prog w = .ok (.int .i64 (m2 : Int)) w := fun _ => by kernel_rfl
      go_wp2_with (go_at_call 62; refine Hid.out ?_)
      refine Lib.hid ?_
      refine SH.out.mono ?_
      rintro _ w7 ⟨rfl, hb7⟩
      have X7 := Lib.hid (X6.out.lower hb7)
      clear X6 hb7 c0 SH
      go_wp2_with fail
      have hs3 : (s2).length ≤ s1.length := hl3
      go_loopw [29] (fun iv wr => ∃ (i : Nat) (ks : List Ex) (si : List UInt8) (sv : Value), iv = .int .i64 i ∧ i ≤ m2 ∧ Hid (XSt P B si k (n) ([]) sv w wr) ∧ Hid (KidsAt B w wr sv ks) ∧ Hid (ReadsK i (s2) ks si)) (fun iv _ => m2 - (intOf iv).toNat)
      case atStart => exact ⟨0, [], s2, .slice none 0 0, by go_num, Nat.zero_le _, X7, KidsAt.zero _ _ _, readsK_zero _⟩
      case round =>
        obtain ⟨i, ks, si, sv, rfl, him, X, KD, RK⟩ := hrel
        clear X7
        by_cases hlt : i < m2
        · have SK := Lib.hid (skip_any P si 1 wr X.out.rd (by have := RK.out.2.1; omega) (by omega))
          go_wp2_with (go_at_call 56; refine Hid.out ?_)
          refine Lib.hid ?_
          refine SK.out.mono ?_
          rintro _ w8 ⟨rfl, r8, o8⟩
          have X8 := Lib.hid (X.out.read r8 o8)
          have K8 := Lib.hid (KD.out.only o8 X.out.ltP X.out.ltB)
          have c8 : w8.cell? ⟨B, 3, none⟩ = some sv := X8.out.c 3
          have hB8 : B < w8.heap.size := blockLt X8.out.ex
          have hlen8 : (si.drop 1).length < m ∧ (si.drop 1).length ≤ 1000 := by
            have a1 := RK.out.2.1
            have a2 : (si.drop 1).length ≤ si.length := by simp
            have a3 : s1.length + 2 ≤ s.length := by
              rcases nameK_len (wordR s) with h | h
              · have e : m2 = 0 := by rw [HM2.out, HK.out, h]; rfl
                omega
              · have e := HS1.out
                have e2 := wordR_len s
                rw [← e]; simp; omega
            omega
          have IHC := Lib.hid (IH.out (si.drop 1) P w8.drew w0 hlen8.1 hlen8.2 X8.out.drew.rd (below_of_only HB0.out HP.out X8.out.drew.only) HP.out HE0.out)
          obtain ⟨i0, hi, hz0, hz1, hz2⟩ := info_parts exprInfo
          have hks : ks.length = i := RK.out.1
          clear SK X KD r8 o8
          go_wp2_with fail
          go_region_law (first | (refine step_append_lies _ rfl (.tmp 34) (.tmp 37) 42 rfl w.heap.size 44 i0 (.agg #[.int .i64 0, .int .i64 0, .string ⟨#[]⟩, .slice none 0 0]) 4 56 Tryz.underlying42 hi hz0 hz1 hz2 rfl (by decide) sv ks.length (cellsE ks A9) (by simp [Act.eval]) (own9.out.alloc _) ⟨w9.heap.size, 0, none⟩ 1 1 [.int .i64 x.k, .int .i64 x.n, .string (bs x.s), .slice xa x.a.length xc] (by simp [Act.eval]) rfl (World.news_of_block (heap_alloc_new _ _)) one9.out (by decide) (by unfold maxLen; omega) (by omega) (by have := le9.out; simp; omega) _ rfl ?_; intro g cap w10 hown10 hgrow10 hat10 hlt10; have X10 := Lib.hid ((X9.out.lower (below_box _)).grown hgrow10 bb9.out); have c10 : w10.cell? ⟨B, 3, none⟩ = some sv := X10.out.c 3; have f10 := X10.out.f 3) | (go_simp; go_at_call 59; refine IHC.out.mono ?_; rintro _ w9 ⟨x, s9, xv, rfl, hx9, re9, r9, o9⟩; obtain ⟨xa, xc, rfl⟩ := hx9.self.slice; unfold Ex.val; have X9 := Lib.hid (X8.out.drew.read r9 o9); have K9 := Lib.hid (K8.out.drew.only o9 X8.out.ltP X8.out.ltB); obtain ⟨A9, lo9, hi9, own9', bb9', _⟩ := K9.out; have own9 := Lib.hid own9'; have bb9 := Lib.hid bb9'; have c9 : w9.cell? ⟨B, 3, none⟩ = some sv := X9.out.c 3; have le9 : Hid (w.heap.size ≤ w9.heap.size) := X9.out.only.size; have hB9 : B < w9.heap.size := blockLt X9.out.ex; have one9 : Hid (∀ u ∈ [Value.int .i64 x.k, .int .i64 x.n, .string (bs x.s), .slice xa x.a.length xc], u.oneCell' = true) := (fun u hu => by simp only [List.mem_cons, List.not_mem_nil, or_false] at hu; rcases hu with rfl | rfl | rfl | rfl <;> rfl)))
          all_goals
            have hgx : (w9.alloc (.cells #[.int .i64 x.k, .int .i64 x.n, .string (bs x.s), .slice xa x.a.length xc] 44)).grownBy w10 sv.ownBlock := hgrow10
            have K10 : Hid (KidsAt B w w10 (.slice (some ⟨g, 0, none⟩) (ks.length + 1) cap) (ks ++ [x])) := by
              refine KidsAt.more (w1 := w8.drew) (w2 := w9.alloc (.cells #[.int .i64 x.k, .int .i64 x.n, .string (bs x.s), .slice xa x.a.length xc] 44)) (H := w9.heap.size) K8.out.drew hB8 (K9.out.only (Only.of_below (g := P) (below_box _)) X9.out.ltP X9.out.ltB) (hx9.carry (Keeps.of_below (below_box _) (Nat.le_refl _))) (by simp) o9.size (fun A hA => ?_) hgx ?_
              · rw [owns_unique hA (own9.out.alloc _)]; exact hown10
              · rcases hat10 with h | h
                · exact .inl h
                · exact .inr h
            have X11 : Hid (XSt P B s9 k (n) ([]) (.slice (some ⟨g, 0, none⟩) (ks.length + 1) cap) w (w10.setCell ⟨B, 3, none⟩ (.slice (some ⟨g, 0, none⟩) (ks.length + 1) cap))) := X10.out.put (by rfl)
            have K11 : Hid (KidsAt B w (w10.setCell ⟨B, 3, none⟩ (.slice (some ⟨g, 0, none⟩) (ks.length + 1) cap)) (.slice (some ⟨g, 0, none⟩) (ks.length + 1) cap) (ks ++ [x])) := K10.out.put
            have RK11 : Hid (ReadsK (i + 1) (s2) (ks ++ [x]) s9) := readsK_step RK.out re9
            clear K10 X10 hown10 hgrow10 hat10 hlt10 c10 f10 c9 own9' bb9' hgx hx9 r9 o9
            rw [hks] at X11 K11
            generalize w10.setCell ⟨B, 3, none⟩ (.slice (some ⟨g, 0, none⟩) (i + 1) cap) = w11 at *
            go_wp2
            go_roundw
            case rel => exact ⟨i + 1, ks ++ [x], s9, _, by go_num, by omega, X11, K11, RK11⟩
            case measure => simp [intOf]; omega
        · have hi2 : i = m2 := by omega
          have hfin : Hid (ReadsE s (.mk k (n) ([]) ks) si) := by
            show ReadsE _ _ _
            have e3 := RK.out
            rw [hi2] at e3
            have e4 := node_reads (s := s) (s2 := s2) (s3 := s2) (n := n) (t := []) (by rw [HS1.out, ← HK.out]; exact HNS.out) (by rw [← HK.out]; exact HTS.out) (by rw [← HK.out, ← HM2.out]; exact e3)
            rw [← HK.out] at e4
            exact e4
          have q0 : wr.cell? ⟨B, 0, none⟩ = some (.int .i64 k) := X.out.c 0
          have q1 : wr.cell? ⟨B, 1, none⟩ = some (.int .i64 (n)) := X.out.c 1
          have q2 : wr.cell? ⟨B, 2, none⟩ = some (.string (bs ([]))) := X.out.c 2
          have q3 : wr.cell? ⟨B, 3, none⟩ = some sv := X.out.c 3
          have p0 : wr.cell? ⟨w.heap.size, 0, none⟩ = some (.int .i64 0) := by rw [cell_of_row _ _ _ _ _ _ X.out.res]; rfl
          have p1 : wr.cell? ⟨w.heap.size, 1, none⟩ = some (.int .i64 0) := by rw [cell_of_row _ _ _ _ _ _ X.out.res]; rfl
          have p2 : wr.cell? ⟨w.heap.size, 2, none⟩ = some (.string ⟨#[]⟩) := by rw [cell_of_row _ _ _ _ _ _ X.out.res]; rfl
          have p3 : wr.cell? ⟨w.heap.size, 3, none⟩ = some (.slice none 0 0) := by rw [cell_of_row _ _ _ _ _ _ X.out.res]; rfl
          have f0 := frozen_of_row wr w.heap.size 0 _ _ X.out.res
          have f1 := frozen_of_row wr w.heap.size 1 _ _ X.out.res
          have f2 := frozen_of_row wr w.heap.size 2 _ _ X.out.res
          have f3 := frozen_of_row wr w.heap.size 3 _ _ X.out.res
          have hex := KD.out.done k (n) ([])
          obtain ⟨sa, sc, hsv⟩ := hex.self.slice
          simp only [Ex.a] at hsv
          subst hsv
          have hBne : ¬ B = w.heap.size := by omega
          have HEX := Lib.hid hex
          clear hex hi2
          go_wp2
          (try simp only [Exit.inBlock, Exit.then])
          have g1 := heap_set (j := 0) X.out.res (.int .i64 k)
          have g2 := heap_set (j := 1) g1 (.int .i64 (n))
          have g3 := heap_set (j := 2) g2 (.string (bs ([])))
          have g4 := heap_set (j := 3) g3 (.slice sa ks.length sc)
          have hPw2 : P ≠ w.heap.size := by omega
          have ltw : w.heap.size < B + 1 := by omega
          have rdr := X.out.rd
          have ton := X.out.only
          refine bodyPost_ret (results_cell_row rfl _ _ w.heap.size 44 #[.int .i64 k, .int .i64 (n), .string (bs ([])), .slice sa ks.length sc] (0, 0) _ rfl g4 Tryz.underlying44 rfl (by kernel_rfl)) rfl ?_
          refine ⟨.mk k (n) ([]) ks, si, .slice sa ks.length sc, rfl, ?_, hfin.out, ?_, only_setCell (only_setCell (only_setCell (only_setCell ton (Nat.le_refl _) _) (Nat.le_refl _) _) (Nat.le_refl _) _) (Nat.le_refl _) _⟩
          · exact ((((HEX.out.put ltw _).put ltw _).put ltw _).put ltw _).wide (by omega) (by simp)
          · exact rd_far hPw2 (rd_far hPw2 (rd_far hPw2 (rd_far hPw2 rdr)))
    | false =>
      have HNS : Hid (ReadsN k s1 0 s1) := by
        show ReadsN _ _ _ _
        unfold ReadsN
        rw [if_neg (by simp [hnum])]
        exact ⟨rfl, rfl⟩
      clear hnum
      have c0 := X5.out.c 0
      go_wp2_with (go_at_call 50; refine Hid.out ?_)
      refine Lib.hid ?_
      refine (hasText_any k w5 (envAt.out w5 X5.out.only).toEnvJ.toEnvT.toEnvS).mono ?_
      rintro _ w6 ⟨rfl, hb6⟩
      have X6 := Lib.hid (X5.out.lower hb6)
      clear X5 hb6 c0
      cases htxt : hasTxt k with
      | true =>
        have SK := Lib.hid (skip_any P s1 1 w6 X6.out.rd (by omega) (by omega))
        go_wp2_with (go_at_call 56; refine Hid.out ?_)
        refine Lib.hid ?_
        refine SK.out.mono ?_
        rintro _ w6a ⟨rfl, r6a, o6a⟩
        have X6a := Lib.hid (X6.out.read r6a o6a)
        have hl2 : (s1.drop 1).length ≤ s1.length := by simp
        have QU := Lib.hid (quoted_any P (s1.drop 1) w6a r6a (by omega))
        clear SK X6 r6a o6a
        go_wp2_with (go_at_call 60; refine Hid.out ?_)
        refine Lib.hid ?_
        refine QU.out.mono ?_
        rintro _ w6b ⟨rfl, r6b, o6b⟩
        have X6b := Lib.hid (X6a.out.read r6b o6b)
        have HTS : Hid (ReadsT k s1 (unqL ((s1.drop 1).drop 1)).1 (unqL ((s1.drop 1).drop 1)).2) := by
          show ReadsT _ _ _ _
          unfold ReadsT
          rw [if_pos htxt]
        have hl3 : (unqL ((s1.drop 1).drop 1)).2.length ≤ s1.length := by
          have := readsT_len HTS.out
          omega
        clear QU X6a r6b o6b htxt
        generalize (unqL ((s1.drop 1).drop 1)).1 = t at *
        generalize (unqL ((s1.drop 1).drop 1)).2 = s3 at *
        have c2 : w6b.cell? ⟨B, 2, none⟩ = some (.string ⟨#[]⟩) := X6b.out.c 2
        have f2 := X6b.out.f 2
        have c0 : w6b.cell? ⟨B, 0, none⟩ = some (.int .i64 k) := X6b.out.c 0
        have X6c : Hid (XSt P B s3 k 0 t (.slice none 0 0) w (w6b.setCell ⟨B, 2, none⟩ (.string (bs t)))) := X6b.out.put (by rfl)
        clear X6b
        have SH := Lib.hid (fun w6d E => shapeOf_any k w6d E)
        unfold shV at SH
        obtain ⟨m2, hm2⟩ : ∃ m2, m2 = partsK k := ⟨_, rfl⟩
        have hm22 : m2 ≤ 2 := by rw [hm2]; unfold partsK; repeat' split
                                 all_goals omega
        rw [← hm2] at SH
        have HM2 := Lib.hid hm2
        clear hm2
        have hfd : ∀ w : World, (Instr.field 95 (.agg #[.int .i64 (lowK k), .int .i64 (highK k), .int .i64 (bytesK k : Int), .int .i64 (m2 : Int), .bool (textsK k)]) 3).run Tryz.prog w = .ok (.int .i64 (m2 : Int)) w := fun _ => by kernel_rfl
        go_wp2_with (go_at_call 62; refine Hid.out ?_)
        clear c2 f2 c0
        generalize w6b.setCell ⟨B, 2, none⟩ (.string (bs t)) = w6d at *
        refine Lib.hid ?_
        refine (SH.out w6d (envAt.out w6d X6c.out.only).toEnvJ.toEnvT.toEnvS).mono ?_
        rintro _ w7 ⟨rfl, hb7⟩
        have X7 := Lib.hid (X6c.out.lower hb7)
        clear X6c hb7 SH
        go_wp2_with fail
        have hs3 : (s3).length ≤ s1.length := hl3
        go_loopw [29] (fun iv wr => ∃ (i : Nat) (ks : List Ex) (si : List UInt8) (sv : Value), iv = .int .i64 i ∧ i ≤ m2 ∧ Hid (XSt P B si k (0) (t) sv w wr) ∧ Hid (KidsAt B w wr sv ks) ∧ Hid (ReadsK i (s3) ks si)) (fun iv _ => m2 - (intOf iv).toNat)
        case atStart => exact ⟨0, [], s3, .slice none 0 0, by go_num, Nat.zero_le _, X7, KidsAt.zero _ _ _, readsK_zero _⟩
        case round =>
          obtain ⟨i, ks, si, sv, rfl, him, X, KD, RK⟩ := hrel
          clear X7
          by_cases hlt : i < m2
          · have SK := Lib.hid (skip_any P si 1 wr X.out.rd (by have := RK.out.2.1; omega) (by omega))
            go_wp2_with (go_at_call 56; refine Hid.out ?_)
            refine Lib.hid ?_
            refine SK.out.mono ?_
            rintro _ w8 ⟨rfl, r8, o8⟩
            have X8 := Lib.hid (X.out.read r8 o8)
            have K8 := Lib.hid (KD.out.only o8 X.out.ltP X.out.ltB)
            have c8 : w8.cell? ⟨B, 3, none⟩ = some sv := X8.out.c 3
            have hB8 : B < w8.heap.size := blockLt X8.out.ex
            have hlen8 : (si.drop 1).length < m ∧ (si.drop 1).length ≤ 1000 := by
              have a1 := RK.out.2.1
              have a2 : (si.drop 1).length ≤ si.length := by simp
              have a3 : s1.length + 2 ≤ s.length := by
                rcases nameK_len (wordR s) with h | h
                · have e : m2 = 0 := by rw [HM2.out, HK.out, h]; rfl
                  omega
                · have e := HS1.out
                  have e2 := wordR_len s
                  rw [← e]; simp; omega
              omega
            have IHC := Lib.hid (IH.out (si.drop 1) P w8.drew w0 hlen8.1 hlen8.2 X8.out.drew.rd (below_of_only HB0.out HP.out X8.out.drew.only) HP.out HE0.out)
            obtain ⟨i0, hi, hz0, hz1, hz2⟩ := info_parts exprInfo
            have hks : ks.length = i := RK.out.1
            clear SK X KD r8 o8
            go_wp2_with fail
            go_region_law (first | (refine step_append_lies _ rfl (.tmp 34) (.tmp 37) 42 rfl w.heap.size 44 i0 (.agg #[.int .i64 0, .int .i64 0, .string ⟨#[]⟩, .slice none 0 0]) 4 56 Tryz.underlying42 hi hz0 hz1 hz2 rfl (by decide) sv ks.length (cellsE ks A9) (by simp [Act.eval]) (own9.out.alloc _) ⟨w9.heap.size, 0, none⟩ 1 1 [.int .i64 x.k, .int .i64 x.n, .string (bs x.s), .slice xa x.a.length xc] (by simp [Act.eval]) rfl (World.news_of_block (heap_alloc_new _ _)) one9.out (by decide) (by unfold maxLen; omega) (by omega) (by have := le9.out; simp; omega) _ rfl ?_; intro g cap w10 hown10 hgrow10 hat10 hlt10; have X10 := Lib.hid ((X9.out.lower (below_box _)).grown hgrow10 bb9.out); have c10 : w10.cell? ⟨B, 3, none⟩ = some sv := X10.out.c 3; have f10 := X10.out.f 3) | (go_simp; go_at_call 59; refine IHC.out.mono ?_; rintro _ w9 ⟨x, s9, xv, rfl, hx9, re9, r9, o9⟩; obtain ⟨xa, xc, rfl⟩ := hx9.self.slice; unfold Ex.val; have X9 := Lib.hid (X8.out.drew.read r9 o9); have K9 := Lib.hid (K8.out.drew.only o9 X8.out.ltP X8.out.ltB); obtain ⟨A9, lo9, hi9, own9', bb9', _⟩ := K9.out; have own9 := Lib.hid own9'; have bb9 := Lib.hid bb9'; have c9 : w9.cell? ⟨B, 3, none⟩ = some sv := X9.out.c 3; have le9 : Hid (w.heap.size ≤ w9.heap.size) := X9.out.only.size; have hB9 : B < w9.heap.size := blockLt X9.out.ex; have one9 : Hid (∀ u ∈ [Value.int .i64 x.k, .int .i64 x.n, .string (bs x.s), .slice xa x.a.length xc], u.oneCell' = true) := (fun u hu => by simp only [List.mem_cons, List.not_mem_nil, or_false] at hu; rcases hu with rfl | rfl | rfl | rfl <;> rfl)))
            all_goals
              have hgx : (w9.alloc (.cells #[.int .i64 x.k, .int .i64 x.n, .string (bs x.s), .slice xa x.a.length xc] 44)).grownBy w10 sv.ownBlock := hgrow10
              have K10 : Hid (KidsAt B w w10 (.slice (some ⟨g, 0, none⟩) (ks.length + 1) cap) (ks ++ [x])) := by
                refine KidsAt.more (w1 := w8.drew) (w2 := w9.alloc (.cells #[.int .i64 x.k, .int .i64 x.n, .string (bs x.s), .slice xa x.a.length xc] 44)) (H := w9.heap.size) K8.out.drew hB8 (K9.out.only (Only.of_below (g := P) (below_box _)) X9.out.ltP X9.out.ltB) (hx9.carry (Keeps.of_below (below_box _) (Nat.le_refl _))) (by simp) o9.size (fun A hA => ?_) hgx ?_
                · rw [owns_unique hA (own9.out.alloc _)]; exact hown10
                · rcases hat10 with h | h
                  · exact .inl h
                  · exact .inr h
              have X11 : Hid (XSt P B s9 k (0) (t) (.slice (some ⟨g, 0, none⟩) (ks.length + 1) cap) w (w10.setCell ⟨B, 3, none⟩ (.slice (some ⟨g, 0, none⟩) (ks.length + 1) cap))) := X10.out.put (by rfl)
              have K11 : Hid (KidsAt B w (w10.setCell ⟨B, 3, none⟩ (.slice (some ⟨g, 0, none⟩) (ks.length + 1) cap)) (.slice (some ⟨g, 0, none⟩) (ks.length + 1) cap) (ks ++ [x])) := K10.out.put
              have RK11 : Hid (ReadsK (i + 1) (s3) (ks ++ [x]) s9) := readsK_step RK.out re9
              clear K10 X10 hown10 hgrow10 hat10 hlt10 c10 f10 c9 own9' bb9' hgx hx9 r9 o9
              rw [hks] at X11 K11
              generalize w10.setCell ⟨B, 3, none⟩ (.slice (some ⟨g, 0, none⟩) (i + 1) cap) = w11 at *
              go_wp2
              go_roundw
              case rel => exact ⟨i + 1, ks ++ [x], s9, _, by go_num, by omega, X11, K11, RK11⟩
              case measure => simp [intOf]; omega
          · have hi2 : i = m2 := by omega
            have hfin : Hid (ReadsE s (.mk k (0) (t) ks) si) := by
              show ReadsE _ _ _
              have e3 := RK.out
              rw [hi2] at e3
              have e4 := node_reads (s := s) (s2 := s1) (s3 := s3) (n := 0) (t := t) (by rw [HS1.out, ← HK.out]; exact HNS.out) (by rw [← HK.out]; exact HTS.out) (by rw [← HK.out, ← HM2.out]; exact e3)
              rw [← HK.out] at e4
              exact e4
            have q0 : wr.cell? ⟨B, 0, none⟩ = some (.int .i64 k) := X.out.c 0
            have q1 : wr.cell? ⟨B, 1, none⟩ = some (.int .i64 (0)) := X.out.c 1
            have q2 : wr.cell? ⟨B, 2, none⟩ = some (.string (bs (t))) := X.out.c 2
            have q3 : wr.cell? ⟨B, 3, none⟩ = some sv := X.out.c 3
            have p0 : wr.cell? ⟨w.heap.size, 0, none⟩ = some (.int .i64 0) := by rw [cell_of_row _ _ _ _ _ _ X.out.res]; rfl
            have p1 : wr.cell? ⟨w.heap.size, 1, none⟩ = some (.int .i64 0) := by rw [cell_of_row _ _ _ _ _ _ X.out.res]; rfl
            have p2 : wr.cell? ⟨w.heap.size, 2, none⟩ = some (.string ⟨#[]⟩) := by rw [cell_of_row _ _ _ _ _ _ X.out.res]; rfl
            have p3 : wr.cell? ⟨w.heap.size, 3, none⟩ = some (.slice none 0 0) := by rw [cell_of_row _ _ _ _ _ _ X.out.res]; rfl
            have f0 := frozen_of_row wr w.heap.size 0 _ _ X.out.res
            have f1 := frozen_of_row wr w.heap.size 1 _ _ X.out.res
            have f2 := frozen_of_row wr w.heap.size 2 _ _ X.out.res
            have f3 := frozen_of_row wr w.heap.size 3 _ _ X.out.res
            have hex := KD.out.done k (0) (t)
            obtain ⟨sa, sc, hsv⟩ := hex.self.slice
            simp only [Ex.a] at hsv
            subst hsv
            have hBne : ¬ B = w.heap.size := by omega
            have HEX := Lib.hid hex
            clear hex hi2
            go_wp2
            (try simp only [Exit.inBlock, Exit.then])
            have g1 := heap_set (j := 0) X.out.res (.int .i64 k)
            have g2 := heap_set (j := 1) g1 (.int .i64 (0))
            have g3 := heap_set (j := 2) g2 (.string (bs (t)))
            have g4 := heap_set (j := 3) g3 (.slice sa ks.length sc)
            have hPw2 : P ≠ w.heap.size := by omega
            have ltw : w.heap.size < B + 1 := by omega
            have rdr := X.out.rd
            have ton := X.out.only
            refine bodyPost_ret (results_cell_row rfl _ _ w.heap.size 44 #[.int .i64 k, .int .i64 (0), .string (bs (t)), .slice sa ks.length sc] (0, 0) _ rfl g4 Tryz.underlying44 rfl (by kernel_rfl)) rfl ?_
            refine ⟨.mk k (0) (t) ks, si, .slice sa ks.length sc, rfl, ?_, hfin.out, ?_, only_setCell (only_setCell (only_setCell (only_setCell ton (Nat.le_refl _) _) (Nat.le_refl _) _) (Nat.le_refl _) _) (Nat.le_refl _) _⟩
            · exact ((((HEX.out.put ltw _).put ltw _).put ltw _).put ltw _).wide (by omega) (by simp)
            · exact rd_far hPw2 (rd_far hPw2 (rd_far hPw2 (rd_far hPw2 rdr)))
      | false =>
        have HTS : Hid (ReadsT k s1 [] s1) := by
          show ReadsT _ _ _ _
          unfold ReadsT
          rw [if_neg (by simp [htxt])]
          exact ⟨rfl, rfl⟩
        clear htxt
        have c0 := X6.out.c 0
        have SH := Lib.hid (shapeOf_any k w6 (envAt.out w6 X6.out.only).toEnvJ.toEnvT.toEnvS)
        unfold shV at SH
        obtain ⟨m2, hm2⟩ : ∃ m2, m2 = partsK k := ⟨_, rfl⟩
        have hm22 : m2 ≤ 2 := by rw [hm2]; unfold partsK; repeat' split
                                 all_goals omega
        rw [← hm2] at SH
        have HM2 := Lib.hid hm2
        clear hm2
        have hfd : ∀ w : World, (Instr.field 95 (.agg #[.int .i64 (lowK k), .int .i64 (highK k), .int .i64 (bytesK k : Int), .int .i64 (m2 : Int), .bool (textsK k)]) 3).run Tryz.prog w = .ok (.int .i64 (m2 : Int)) w := fun _ => by kernel_rfl
        go_wp2_with (go_at_call 62; refine Hid.out ?_)
        refine Lib.hid ?_
        refine SH.out.mono ?_
        rintro _ w7 ⟨rfl, hb7⟩
        have X7 := Lib.hid (X6.out.lower hb7)
        clear X6 hb7 c0 SH
        go_wp2_with fail
        have hs3 : (s1).length ≤ s1.length := Nat.le_refl _
        go_loopw [29] (fun iv wr => ∃ (i : Nat) (ks : List Ex) (si : List UInt8) (sv : Value), iv = .int .i64 i ∧ i ≤ m2 ∧ Hid (XSt P B si k (0) ([]) sv w wr) ∧ Hid (KidsAt B w wr sv ks) ∧ Hid (ReadsK i (s1) ks si)) (fun iv _ => m2 - (intOf iv).toNat)
        case atStart => exact ⟨0, [], s1, .slice none 0 0, by go_num, Nat.zero_le _, X7, KidsAt.zero _ _ _, readsK_zero _⟩
        case round =>
          obtain ⟨i, ks, si, sv, rfl, him, X, KD, RK⟩ := hrel
          clear X7
          by_cases hlt : i < m2
          · have SK := Lib.hid (skip_any P si 1 wr X.out.rd (by have := RK.out.2.1; omega) (by omega))
            go_wp2_with (go_at_call 56; refine Hid.out ?_)
            refine Lib.hid ?_
            refine SK.out.mono ?_
            rintro _ w8 ⟨rfl, r8, o8⟩
            have X8 := Lib.hid (X.out.read r8 o8)
            have K8 := Lib.hid (KD.out.only o8 X.out.ltP X.out.ltB)
            have c8 : w8.cell? ⟨B, 3, none⟩ = some sv := X8.out.c 3
            have hB8 : B < w8.heap.size := blockLt X8.out.ex
            have hlen8 : (si.drop 1).length < m ∧ (si.drop 1).length ≤ 1000 := by
              have a1 := RK.out.2.1
              have a2 : (si.drop 1).length ≤ si.length := by simp
              have a3 : s1.length + 2 ≤ s.length := by
                rcases nameK_len (wordR s) with h | h
                · have e : m2 = 0 := by rw [HM2.out, HK.out, h]; rfl
                  omega
                · have e := HS1.out
                  have e2 := wordR_len s
                  rw [← e]; simp; omega
              omega
            have IHC := Lib.hid (IH.out (si.drop 1) P w8.drew w0 hlen8.1 hlen8.2 X8.out.drew.rd (below_of_only HB0.out HP.out X8.out.drew.only) HP.out HE0.out)
            obtain ⟨i0, hi, hz0, hz1, hz2⟩ := info_parts exprInfo
            have hks : ks.length = i := RK.out.1
            clear SK X KD r8 o8
            go_wp2_with fail
            go_region_law (first | (refine step_append_lies _ rfl (.tmp 34) (.tmp 37) 42 rfl w.heap.size 44 i0 (.agg #[.int .i64 0, .int .i64 0, .string ⟨#[]⟩, .slice none 0 0]) 4 56 Tryz.underlying42 hi hz0 hz1 hz2 rfl (by decide) sv ks.length (cellsE ks A9) (by simp [Act.eval]) (own9.out.alloc _) ⟨w9.heap.size, 0, none⟩ 1 1 [.int .i64 x.k, .int .i64 x.n, .string (bs x.s), .slice xa x.a.length xc] (by simp [Act.eval]) rfl (World.news_of_block (heap_alloc_new _ _)) one9.out (by decide) (by unfold maxLen; omega) (by omega) (by have := le9.out; simp; omega) _ rfl ?_; intro g cap w10 hown10 hgrow10 hat10 hlt10; have X10 := Lib.hid ((X9.out.lower (below_box _)).grown hgrow10 bb9.out); have c10 : w10.cell? ⟨B, 3, none⟩ = some sv := X10.out.c 3; have f10 := X10.out.f 3) | (go_simp; go_at_call 59; refine IHC.out.mono ?_; rintro _ w9 ⟨x, s9, xv, rfl, hx9, re9, r9, o9⟩; obtain ⟨xa, xc, rfl⟩ := hx9.self.slice; unfold Ex.val; have X9 := Lib.hid (X8.out.drew.read r9 o9); have K9 := Lib.hid (K8.out.drew.only o9 X8.out.ltP X8.out.ltB); obtain ⟨A9, lo9, hi9, own9', bb9', _⟩ := K9.out; have own9 := Lib.hid own9'; have bb9 := Lib.hid bb9'; have c9 : w9.cell? ⟨B, 3, none⟩ = some sv := X9.out.c 3; have le9 : Hid (w.heap.size ≤ w9.heap.size) := X9.out.only.size; have hB9 : B < w9.heap.size := blockLt X9.out.ex; have one9 : Hid (∀ u ∈ [Value.int .i64 x.k, .int .i64 x.n, .string (bs x.s), .slice xa x.a.length xc], u.oneCell' = true) := (fun u hu => by simp only [List.mem_cons, List.not_mem_nil, or_false] at hu; rcases hu with rfl | rfl | rfl | rfl <;> rfl)))
            all_goals
              have hgx : (w9.alloc (.cells #[.int .i64 x.k, .int .i64 x.n, .string (bs x.s), .slice xa x.a.length xc] 44)).grownBy w10 sv.ownBlock := hgrow10
              have K10 : Hid (KidsAt B w w10 (.slice (some ⟨g, 0, none⟩) (ks.length + 1) cap) (ks ++ [x])) := by
                refine KidsAt.more (w1 := w8.drew) (w2 := w9.alloc (.cells #[.int .i64 x.k, .int .i64 x.n, .string (bs x.s), .slice xa x.a.length xc] 44)) (H := w9.heap.size) K8.out.drew hB8 (K9.out.only (Only.of_below (g := P) (below_box _)) X9.out.ltP X9.out.ltB) (hx9.carry (Keeps.of_below (below_box _) (Nat.le_refl _))) (by simp) o9.size (fun A hA => ?_) hgx ?_
                · rw [owns_unique hA (own9.out.alloc _)]; exact hown10
                · rcases hat10 with h | h
                  · exact .inl h
                  · exact .inr h
              have X11 : Hid (XSt P B s9 k (0) ([]) (.slice (some ⟨g, 0, none⟩) (ks.length + 1) cap) w (w10.setCell ⟨B, 3, none⟩ (.slice (some ⟨g, 0, none⟩) (ks.length + 1) cap))) := X10.out.put (by rfl)
              have K11 : Hid (KidsAt B w (w10.setCell ⟨B, 3, none⟩ (.slice (some ⟨g, 0, none⟩) (ks.length + 1) cap)) (.slice (some ⟨g, 0, none⟩) (ks.length + 1) cap) (ks ++ [x])) := K10.out.put
              have RK11 : Hid (ReadsK (i + 1) (s1) (ks ++ [x]) s9) := readsK_step RK.out re9
              clear K10 X10 hown10 hgrow10 hat10 hlt10 c10 f10 c9 own9' bb9' hgx hx9 r9 o9
              rw [hks] at X11 K11
              generalize w10.setCell ⟨B, 3, none⟩ (.slice (some ⟨g, 0, none⟩) (i + 1) cap) = w11 at *
              go_wp2
              go_roundw
              case rel => exact ⟨i + 1, ks ++ [x], s9, _, by go_num, by omega, X11, K11, RK11⟩
              case measure => simp [intOf]; omega
          · have hi2 : i = m2 := by omega
            have hfin : Hid (ReadsE s (.mk k (0) ([]) ks) si) := by
              show ReadsE _ _ _
              have e3 := RK.out
              rw [hi2] at e3
              have e4 := node_reads (s := s) (s2 := s1) (s3 := s1) (n := 0) (t := []) (by rw [HS1.out, ← HK.out]; exact HNS.out) (by rw [← HK.out]; exact HTS.out) (by rw [← HK.out, ← HM2.out]; exact e3)
              rw [← HK.out] at e4
              exact e4
            have q0 : wr.cell? ⟨B, 0, none⟩ = some (.int .i64 k) := X.out.c 0
            have q1 : wr.cell? ⟨B, 1, none⟩ = some (.int .i64 (0)) := X.out.c 1
            have q2 : wr.cell? ⟨B, 2, none⟩ = some (.string (bs ([]))) := X.out.c 2
            have q3 : wr.cell? ⟨B, 3, none⟩ = some sv := X.out.c 3
            have p0 : wr.cell? ⟨w.heap.size, 0, none⟩ = some (.int .i64 0) := by rw [cell_of_row _ _ _ _ _ _ X.out.res]; rfl
            have p1 : wr.cell? ⟨w.heap.size, 1, none⟩ = some (.int .i64 0) := by rw [cell_of_row _ _ _ _ _ _ X.out.res]; rfl
            have p2 : wr.cell? ⟨w.heap.size, 2, none⟩ = some (.string ⟨#[]⟩) := by rw [cell_of_row _ _ _ _ _ _ X.out.res]; rfl
            have p3 : wr.cell? ⟨w.heap.size, 3, none⟩ = some (.slice none 0 0) := by rw [cell_of_row _ _ _ _ _ _ X.out.res]; rfl
            have f0 := frozen_of_row wr w.heap.size 0 _ _ X.out.res
            have f1 := frozen_of_row wr w.heap.size 1 _ _ X.out.res
            have f2 := frozen_of_row wr w.heap.size 2 _ _ X.out.res
            have f3 := frozen_of_row wr w.heap.size 3 _ _ X.out.res
            have hex := KD.out.done k (0) ([])
            obtain ⟨sa, sc, hsv⟩ := hex.self.slice
            simp only [Ex.a] at hsv
            subst hsv
            have hBne : ¬ B = w.heap.size := by omega
            have HEX := Lib.hid hex
            clear hex hi2
            go_wp2
            (try simp only [Exit.inBlock, Exit.then])
            have g1 := heap_set (j := 0) X.out.res (.int .i64 k)
            have g2 := heap_set (j := 1) g1 (.int .i64 (0))
            have g3 := heap_set (j := 2) g2 (.string (bs ([])))
            have g4 := heap_set (j := 3) g3 (.slice sa ks.length sc)
            have hPw2 : P ≠ w.heap.size := by omega
            have ltw : w.heap.size < B + 1 := by omega
            have rdr := X.out.rd
            have ton := X.out.only
            refine bodyPost_ret (results_cell_row rfl _ _ w.heap.size 44 #[.int .i64 k, .int .i64 (0), .string (bs ([])), .slice sa ks.length sc] (0, 0) _ rfl g4 Tryz.underlying44 rfl (by kernel_rfl)) rfl ?_
            refine ⟨.mk k (0) ([]) ks, si, .slice sa ks.length sc, rfl, ?_, hfin.out, ?_, only_setCell (only_setCell (only_setCell (only_setCell ton (Nat.le_refl _) _) (Nat.le_refl _) _) (Nat.le_refl _) _) (Nat.le_refl _) _⟩
            · exact ((((HEX.out.put ltw _).put ltw _).put ltw _).put ltw _).wide (by omega) (by simp)
            · exact rd_far hPw2 (rd_far hPw2 (rd_far hPw2 (rd_far hPw2 rdr)))
end Go.Proofs.YtfjpgjkfmcedoaaGreatDoor
