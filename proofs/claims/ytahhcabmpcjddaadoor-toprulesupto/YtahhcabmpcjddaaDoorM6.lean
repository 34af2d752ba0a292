/- Mapper: the walk of TopRules. -/
import Derived.Test.YtahhcabmpcjddaaDoorM5
namespace Go.Proofs.YtahhcabmpcjddaaDoor
open Go.ChangeShapes Go.WideShapes Go.ChangeAt Go.RowKit
theorem isTexts_slice {w : World} {v : Value} {l : List (ByteArray × Int)} (h : Pp.IsPairs w v l) : ∃ a cap, v = .slice a l.length cap := by
  obtain ⟨a, cap, e, _⟩ := h
  exact ⟨a, cap, e⟩
set_option maxRecDepth 100000 in
set_option maxHeartbeats 2000000 in
theorem topRules_walk (j : Jb) (a : Option Addr) (cap : Nat) (hcap : j.rules.length ≤ cap) (line : List UInt8) (w : World) (E : EnvS w) (h : IsRules w (.slice a j.rules.length cap) j.rules) (hw : rulesWt j.rules ≤ 1000000000) (hl : line.length ≤ 1000000000) :
    Calls Tryd.prog 5 #[j.value (.slice a j.rules.length cap), .string (bs line)] w fun e w' => e = .returned (.bool true) ∧ Below w.heap.size w w' := by
  have RD := Lib.hid (fun w E => ready_any w E)
  have LJ := Lib.hid (fun w h => lightJob_any j (.slice a j.rules.length cap) w h hw)
  have CK := Lib.hid (fun w h E => jobCheck_any j (.slice a j.rules.length cap) w h hw E)
  have PA := Lib.hid (fun w (h : IsRules w (.slice a j.rules.length cap) j.rules) (hf : jobFault j = 0) (hl : line.length ≤ 120) E => pairs_any j _ line w h hw hf (by omega) E)
  have PO := Lib.hid (fun w (rv' : Value) (r : Rl) (h : IsRules w rv' [r]) (hr : r ∈ j.rules) (hf : jobFault j = 0) (hl : line.length ≤ 120) E => pairs_any ⟨[r], j.fold, j.early, j.slices⟩ rv' line w h (by
    obtain ⟨i, hi⟩ := List.getElem?_of_mem hr
    have := rule_wt hi
    simp [rulesWt]; omega) (by
    obtain ⟨h1, h2, h3, h4, h5, h6, h7⟩ := jobFault_parts hf
    exact jobFault_of (by simp) (by simp) h3 h4 h5 h6 (rulesFault_of fun x hx => by rw [List.mem_singleton] at hx; subst hx; exact rulesFault_all h7 _ hr)) (by omega) E)
  have HRL : jobFault j = 0 → j.rules.length ≤ 4 := fun hf => (jobFault_parts hf).2.1
  obtain ⟨f, hf⟩ : ∃ f, f = jobFault j := ⟨_, rfl⟩
  rw [← hf] at CK PA PO HRL
  clear hf
  obtain ⟨l, fo, ea', sl⟩ := j
  simp only [Jb.value] at *
  have H := Lib.hid h
  have HE := Lib.hid E
  have hsz : (bs line).size ≤ 1000000000 := by rw [bs_size]; exact hl
  have HLS : Hid ((bs line).size = line.length) := bs_size line
  have HRL := Lib.hid HRL
  obtain ⟨n, hn⟩ : ∃ n, n = l.length := ⟨_, rfl⟩
  rw [← hn] at H CK LJ PA HRL hcap ⊢
  have HN := Lib.hid hn
  clear hn h E hl
  go_enter Tryd.func5, Tryd.ntmps5
  go_wp2_with (go_at_call 18; refine Hid.out ?_)
  refine Lib.hid ?_
  refine (RD.out _ (HE.out.lower (below_box _))).mono ?_
  rintro _ w1 ⟨rfl, hb1⟩
  have JB := Lib.hid ((blk_new (w := w) (cs := #[.slice a n cap, .int .i64 fo, .bool ea', .int .i64 sl]) (t := 24) rfl).blw hb1)
  have hb01 := below_trans (below_box _) hb1
  have k0 := JB.out.at (i := 0) (v := .slice a n cap) rfl
  have k1 := JB.out.at (i := 1) (v := .int .i64 fo) rfl
  have k2 := JB.out.at (i := 2) (v := .bool ea') rfl
  have k3 := JB.out.at (i := 3) (v := .int .i64 sl) rfl
  clear hb1 RD
  go_wp2_with (go_at_call 10; refine Hid.out ?_)
  refine Lib.hid ?_
  refine (LJ.out w1 (H.out.lower hb01)).mono ?_
  rintro _ w2 ⟨g, rfl, hb2⟩
  have hb02 := below_trans hb01 hb2
  have JB2 := Lib.hid (JB.out.blw hb2)
  clear k0 k1 k2 k3 JB hb01 hb2 LJ
  cases g with
  | false =>
    go_wp2
    go_ret
    exact ⟨rfl, hb02⟩
  | true =>
  by_cases hlen : 120 < (bs line).size
  · go_wp2
    go_ret
    exact ⟨rfl, hb02⟩
  have hl120 : Hid (line.length ≤ 120) := by show _ ≤ _; have := HLS.out; omega
  have k0 := JB2.out.at (i := 0) (v := .slice a n cap) rfl
  have k1 := JB2.out.at (i := 1) (v := .int .i64 fo) rfl
  have k2 := JB2.out.at (i := 2) (v := .bool ea') rfl
  have k3 := JB2.out.at (i := 3) (v := .int .i64 sl) rfl
  go_wp2_with (go_at_call 12; refine Hid.out ?_)
  refine Lib.hid ?_
  refine (CK.out w2 (H.out.lower hb02) (HE.out.lower hb02)).mono ?_
  rintro _ w3 ⟨rfl, hb3⟩
  have hb03 := below_trans hb02 hb3
  have JB3 := Lib.hid (JB2.out.blw hb3)
  clear k0 k1 k2 k3 JB2 hb02 hb3 CK
  rcases (errV_cases f).symm with ⟨h0, hv⟩ | ⟨h0, hv⟩
  · rw [hv]
    go_wp2
    go_ret
    exact ⟨rfl, hb03⟩
  rw [hv]
  have hn4 : n ≤ 4 := HRL.out h0
  have PA := Lib.hid (fun w h E => PA.out w h h0 hl120.out E)
  have PO := Lib.hid (fun w rv' r h hr E => PO.out w rv' r h hr h0 hl120.out E)
  have HB03 := Lib.hid hb03
  clear hv h0 HRL hb03
  have A0 : Hid (Mk w3 w3 (.slice none 0 0) (rulesP (l.take 0) fo line)) := ⟨World.ownsRow_nil _ _ _ _, Below.refl _ _⟩
  go_wp2
  go_loopg [6, 7] n (fun gg lv iv wr => ∃ i : Nat, gg = n - i ∧ i ≤ n ∧ iv = .int .i64 i ∧ Hid (Mk w3 wr lv (rulesP (l.take i) fo line)))
  case atStart => exact ⟨0, rfl, Nat.zero_le _, rfl, A0⟩
  case round =>
    clear A0
    obtain ⟨i, hgi, hi, rfl, HM⟩ := hrel
    have HGI := Lib.hid hgi
    clear hgi
    have hb0r := below_trans HB03.out HM.out.bel
    obtain ⟨k0, k1, k2, k3⟩ : wr.cell? ⟨w.heap.size, 0, none⟩ = some (.slice a n cap) ∧ wr.cell? ⟨w.heap.size, 1, none⟩ = some (.int .i64 fo) ∧ wr.cell? ⟨w.heap.size, 2, none⟩ = some (.bool ea') ∧ wr.cell? ⟨w.heap.size, 3, none⟩ = some (.int .i64 sl) := by
      have h := JB3.out.blw HM.out.bel
      exact ⟨h.at rfl, h.at rfl, h.at rfl, h.at rfl⟩
    by_cases hlt : i < n
    · obtain ⟨r, hr⟩ : ∃ r, l[i]? = some r := ⟨l[i]'(by have := HN.out; omega), by simp⟩
      obtain ⟨b, off, rfl⟩ : ∃ b off, a = some ⟨b, off, none⟩ := by
        obtain ⟨a', c', b, off, AI, AK, AV, e, ha, _⟩ := H.out
        injection e with e1
        exact ⟨b, off, e1.trans (ha (by have := HN.out; omega))⟩
      have HRP : Hid (rulesP (l.take (i + 1)) fo line = rulesP (l.take i) fo line ++ rulesP [r] fo line) := by
        show _ = _
        rw [take_snoc hr, rulesP_append]
      have HI1 : Hid (IsRules wr (.slice (some ⟨b, off + i * 15, none⟩) 1 (cap - i)) [r]) := isRules_sub (H.out.lower hb0r) hr _
      have HMEM := Lib.hid (List.mem_of_getElem? hr)
      have hic : ¬ cap = i := by omega
      have hic1 : i + 1 ≤ cap := by omega
      obtain ⟨w5, hw5⟩ : ∃ w5, w5 = wr.alloc (.cells #[.slice (some ⟨b, off, none⟩) n cap, .int .i64 fo, .bool ea', .int .i64 sl] 24) := ⟨_, rfl⟩
      obtain ⟨O, hO⟩ : ∃ O, O = wr.heap.size := ⟨_, rfl⟩
      have OB : Blk w5 O 24 [.slice (some ⟨b, off, none⟩) n cap, .int .i64 fo, .bool ea', .int .i64 sl] := by rw [hw5]; exact blk_new hO
      have hbr5 : Below wr.heap.size wr w5 := by rw [hw5]; exact below_box _
      have m0 := cell_below k0 hbr5
      have o0 := OB.at (i := 0) (v := .slice (some ⟨b, off, none⟩) n cap) rfl
      have o1 := OB.at (i := 1) (v := .int .i64 fo) rfl
      have o2 := OB.at (i := 2) (v := .bool ea') rfl
      have o3 := OB.at (i := 3) (v := .int .i64 sl) rfl
      have of0 := OB.frozen 0
      have HW5 := Lib.hid hw5
      have HO := Lib.hid hO
      have HOB := Lib.hid OB
      have HBR := Lib.hid hbr5
      clear hw5 hO OB hbr5
      go_upto_region 11 with fail
      rw [← HW5.out, ← HO.out]
      clear HW5 k0 k1 k2 k3
      obtain ⟨w6, hw6⟩ : ∃ w6, w6 = w5.setCell ⟨O, 0, none⟩ (.slice (some ⟨b, off + i * 15, none⟩) 1 (cap - i)) := ⟨_, rfl⟩
      have OB6 : Blk w6 O 24 [.slice (some ⟨b, off + i * 15, none⟩) 1 (cap - i), .int .i64 fo, .bool ea', .int .i64 sl] := by rw [hw6]; exact HOB.out.set 0 _
      have hbr6 : Below wr.heap.size wr w6 := by rw [hw6]; exact HBR.out.setCell (p := ⟨O, 0, none⟩) (by rw [HO.out]; exact Nat.le_refl _) _
      have p0 := OB6.at (i := 0) (v := .slice (some ⟨b, off + i * 15, none⟩) 1 (cap - i)) rfl
      have p1 := OB6.at (i := 1) (v := .int .i64 fo) rfl
      have p2 := OB6.at (i := 2) (v := .bool ea') rfl
      have p3 := OB6.at (i := 3) (v := .int .i64 sl) rfl
      have HM6 := Lib.hid (HM.out.below hbr6)
      have PO6 := Lib.hid (PO.out w6 (.slice (some ⟨b, off + i * 15, none⟩) 1 (cap - i)) r (HI1.out.lower hbr6) HMEM.out (HE.out.lower (below_trans HB03.out HM6.out.bel)))
      have hla : (rulesP (l.take i) fo line).length ≤ 484 := by
        have h1 := rulesP_len (l.take i) fo line
        have h2 : (l.take i).length ≤ 4 := by rw [List.length_take]; omega
        have h3 := Nat.mul_le_mul h2 (show line.length + 1 ≤ 121 by have := hl120.out; omega)
        omega
      have hlb : (rulesP [r] fo line).length ≤ 121 := by
        have h1 := rulesP_len [r] fo line
        have := hl120.out
        simp only [List.length_cons, List.length_nil] at h1
        omega
      generalize rulesP [r] fo line = X at *
      generalize rulesP (l.take i) fo line = acc at *
      have HLAB := Lib.hid (And.intro hla hlb)
      have HW6 := Lib.hid hw6
      have HIC := Lib.hid hic1
      clear HM hw6 hbr6 OB6 hla hlb
      go_upto_region 12 with fail
      rw [← HW6.out]
      clear HW6 o0 o1 o2 o3 of0 m0 HOB HBR
      go_wp2_with (go_at_call 19; refine Hid.out ?_)
      refine Lib.hid ?_
      refine PO6.out.mono ?_
      rintro _ w7 ⟨u, rfl, hrow, hb67⟩
      have HM7 := Lib.hid (HM6.out.below hb67)
      have hup := Pp.owns_isPairs hrow
      have HUP := Lib.hid hup
      obtain ⟨ua, uc, eu⟩ := isTexts_slice hup
      subst eu
      clear PO6 HM6 hb67 p0 p1 p2 p3 hrow hup
      dsimp only
      go_wp2_with (at_builtin; refine Hid.out ?_)
      refine Lib.hid ?_
      refine Pp.wpList_append_pairs (w0 := w3) rfl (.tmp 40) (.tmp 43) rfl _ acc rfl HM7.out.row _ X rfl HUP.out (by have := HLAB.out; omega) HM7.out.bel ?_
      intro v2 w8 hown8 hb8
      have HM8 : Hid (Mk w3 w8 v2 (rulesP (l.take (i + 1)) fo line)) := by
        rw [HRP.out]
        exact ⟨hown8, hb8⟩
      clear hown8 hb8 HM7 HUP
      go_wp2
      go_roundg (n - (i + 1))
      case measure => have := HGI.out; omega
      case rel => exact ⟨i + 1, rfl, by omega, by go_num, HM8⟩
    · have HFIN : Hid (l.take i = l) := List.take_of_length_le (by have := HN.out; omega)
      rw [HFIN.out] at HM
      have PA1 := Lib.hid (PA.out wr (H.out.lower hb0r) (HE.out.lower hb0r))
      have hla : (rulesP l fo line).length ≤ 484 := by
        have h1 := rulesP_len l fo line
        have h3 := Nat.mul_le_mul (show l.length ≤ 4 by have := HN.out; omega) (show line.length + 1 ≤ 121 by have := hl120.out; omega)
        omega
      generalize rulesP l fo line = X at *
      have HLA := Lib.hid hla
      have HUL := Lib.hid (Pp.owns_isPairs HM.out.row)
      clear hla
      go_wp2_with (go_at_call 19; refine Hid.out ?_)
      refine Lib.hid ?_
      refine PA1.out.mono ?_
      rintro _ w7 ⟨u, rfl, hrow, hb7⟩
      have SP := Lib.hid (Pp.samePairs_any u6 u X X w7 (Pp.isPairs_below HUL.out hb7) (Pp.owns_isPairs hrow) (by unfold maxLen; have := HLA.out; omega))
      rw [decide_eq_true rfl] at SP
      have hb07 := below_trans hb0r hb7
      clear hrow hb7 PA1 HM hb0r k0 k1 k2 k3
      dsimp only
      go_wp2_with (go_at_call 22; refine Hid.out ?_)
      refine Lib.hid ?_
      refine SP.out.mono ?_
      rintro _ w9 ⟨rfl, nd, hd⟩
      have hb9 : Below w.heap.size w w9 := by rw [hd]; exact below_trans hb07 (below_drewN _ _)
      clear hd SP
      go_wp2
      go_ret
      exact ⟨rfl, hb9⟩
end Go.Proofs.YtahhcabmpcjddaaDoor
