/- Benches: the law BenchSays: its loop over the places. -/
import Derived.Test.YtilgiehcpmafgaaB21
namespace Go.Proofs.Ytilgiehcpmafgaa
open Go.ChangeShapes Go.WideShapes Go.ChangeAt Go.RowKit
open Bn
theorem in_at {lo hi P W S g cap n : Nat} {L : List Sl} (w : World) (h : IsB w lo hi P W S g cap L) (hn : n < L.length) :
    Calls Try.prog 23 #[.pointer (some ⟨P, 0, none⟩), .agg #[.int .i64 ((n / S : Nat) : Int), .int .i64 ((n % S : Nat) : Int)]] w fun e w' => ((L[n].taken = false ∧ e = .returned (.tuple #[.agg #[.int .i64 0, .bool false, .int .i64 0], .iface 68 (.int .i64 7)])) ∨ (L[n].taken = true ∧ e = .returned (.tuple #[.agg #[.int .i64 L[n].job, .bool L[n].fold, .int .i64 L[n].index], .nilIface]))) ∧ Below w.heap.size w w' := by
  refine (in_any w h _ _).mono ?_
  have hp := h.placed
  have hb := hp.bound hn
  have hx := hp.there hb.1 hb.2
  have e0 : n / S * S + n % S = n := by rw [Nat.mul_comm]; exact Nat.div_add_mod n S
  rw [e0] at hx
  rintro e w' ⟨⟨h1, _⟩ | ⟨k, hk, h1, h2⟩, hw⟩
  · omega
  · have ek : k = n := by omega
    subst ek
    exact ⟨h2, hw⟩
theorem any_take {p : Sl → Bool} {L : List Sl} {n : Nat} (hn : n < L.length) : (L.take (n + 1)).any p = ((L.take n).any p || p L[n]) := by
  rw [List.take_succ_eq_append_getElem hn, List.any_append]
  simp
set_option maxRecDepth 1000000 in
set_option maxHeartbeats 8000000 in
theorem b5_any (W S A B g cp n15 n29 : Nat) (L : List Sl) (O I : List Value) (tj ti : Int) (fo : Bool) (w : World) (K : Act → World → Prop) (s2 s3 s4 s5 s6 s7 s9 s12 s13 s14 s16 s17 s18 s19 s20 s21 s22 s23 s24 s25 s26 s27 s31 s32 s33 s34 s35 s36 s37 s38 s39 s40 s41 s42 s43 s44 s45 s46 s47 s48 s49 s50 s51 s52 s53 s54 s55 s56 s57 s58 s59 s60 s61 s62 s63 s64 s65 s66 s67 s68 s69 s70 s71 s72 s73 s74 s75 s76 s77 s78 s79 s80 s81 s82 s83 s84 s85 s86 s87 s88 s89 s90 s91 s92 s93 s94 s95 s96 s97 s98 s99 s100 s101 s102 s103 s104 s105 s106 s107 s108 s109 s110 s111 s112 s113 s114 s115 s116 s117 s118 s119 s120 s121 s122 s123 s124 s125 s126 s127 s128 s129 s130 s131 s132 s133 s134 s135 s136 s137 s138 s139 s140 s141 s142 s143 s144 s145 s146 s147 s148 s149 s150 s151 s152 s153 s154 s155 s156 s157 s158 s159 s160 s161 s162 s163 s164 s165 s166 s167 s168 s169 s170 s171 s172 s173 s174 s175 s176 s177 s178 s179 s180 s181 s182 s183 s184 s185 s186 s187 s188 s189 s190 s191 s192 s193 s194 s195 s196 s197 s198 s199 s200 s201 s202 s203 s204 s205 s206 s207 s208 s209 s210 s211 s212 s213 s214 s215 s216 s217 s218 s219 s220 s221 s222 s223 s224 s225 s226 s227 s228 s229 s230 s231 s232 s233 s234 s235 s236 s237 s238 s239 s240 s241 s242 s243 s244 s245 s246 s247 s248 s249 s250 s251 s252 s253 s254 s255 s256 s257 s258 s259 s260 s261 s262 s263 s264 s265 s266 s267 s268 s269 s270 s271 s272 s273 s274 s275 s276 s277 s278 s279 s280 s281 s282 s283 s284 s285 s286 s287 s288 s289 s290 s291 s292 s293 s294 s295 s296 s297 s298 s299 s300 s301 s302 s303 s304 s305 s306 s307 s308 s309 s310 s311 s312 s313 s314 s315 s316 s317 s318 s319 s320 s321 s322 s323 s324 s325 s326 s327 s328 s329 s330 s331 s332 s333 s334 s335 s336 s337 s338 s339 s340 s341 s342 s343 s344 s345 s346 s347 s348 s349 s350 : Value)
    (hB : IsB w A B A W S g cp L) (hA : Arr 49 52 w B L O I) (hJ : Hid (JobsOk L)) (h15 : B + 2 ≤ n15) (h29 : n15 < n29)
    (t0 : w.cell? ⟨n15, 0, none⟩ = some (.int .i64 tj)) (t1 : w.cell? ⟨n15, 1, none⟩ = some (.bool fo)) (t2 : w.cell? ⟨n15, 2, none⟩ = some (.int .i64 ti))
    (hM : Blk w n29 60 (cellsI [0, 0, 0]))
    (HK : Hid (∀ (z6 z30 z31 z32 z237 z238 z239 z240 z241 z242 z243 z244 z245 z246 z247 z248 z249 z250 z251 z252 z253 z254 z255 z256 z257 z258 z259 z260 z261 z262 z263 z264 z265 z266 z267 z268 z269 z270 z271 z272 z273 z274 z275 z276 z277 z278 z279 z280 z281 z282 z283 z284 z285 z286 z287 z288 z289 z290 z291 z292 z293 z294 z295 z296 z297 z298 z299 z300 z301 z302 z303 z304 z305 z306 z307 z308 z309 z310 z311 z312 z313 z314 z315 z316 z317 z318 : Value) (wx : World), Blk wx n29 60 (cellsI (cnts L L.length)) → Win n29 (n29 + 1) w wx → K ⟨#[.int .i64 W, .int .i64 S, s2, s3, s4, s5, z6, s7, .pointer (some ⟨A, 0, none⟩), s9, .pointer (some ⟨B, 0, none⟩), .pointer (some ⟨B + 1, 0, none⟩), s12, s13, s14, .pointer (some ⟨n15, 0, none⟩), s16, s17, s18, s19, s20, s21, s22, s23, s24, s25, s26, s27, .bool (L.any (isTask tj fo ti)), .pointer (some ⟨n29, 0, none⟩), z30, z31, z32, s33, s34, s35, s36, s37, s38, s39, s40, s41, s42, s43, s44, s45, s46, s47, s48, s49, s50, s51, s52, s53, s54, s55, s56, s57, s58, s59, s60, s61, s62, s63, s64, s65, s66, s67, s68, s69, s70, s71, s72, s73, s74, s75, s76, s77, s78, s79, s80, s81, s82, s83, s84, s85, s86, s87, s88, s89, s90, s91, s92, s93, s94, s95, s96, s97, s98, s99, s100, s101, s102, s103, s104, s105, s106, s107, s108, s109, s110, s111, s112, s113, s114, s115, s116, s117, s118, s119, s120, s121, s122, s123, s124, s125, s126, s127, s128, s129, s130, s131, s132, s133, s134, s135, s136, s137, s138, s139, s140, s141, s142, s143, s144, s145, s146, s147, s148, s149, s150, s151, s152, s153, s154, s155, s156, s157, s158, s159, s160, s161, s162, s163, s164, s165, s166, s167, s168, s169, s170, s171, s172, s173, s174, s175, s176, s177, s178, s179, s180, s181, s182, s183, s184, s185, s186, s187, s188, s189, s190, s191, s192, s193, s194, s195, s196, s197, s198, s199, s200, s201, s202, s203, s204, s205, s206, s207, s208, s209, s210, s211, s212, s213, s214, s215, s216, s217, s218, s219, s220, s221, s222, s223, s224, s225, s226, s227, s228, s229, s230, s231, s232, s233, s234, s235, s236, z237, z238, z239, z240, z241, z242, z243, z244, z245, z246, z247, z248, z249, z250, z251, z252, z253, z254, z255, z256, z257, z258, z259, z260, z261, z262, z263, z264, z265, z266, z267, z268, z269, z270, z271, z272, z273, z274, z275, z276, z277, z278, z279, z280, z281, z282, z283, z284, z285, z286, z287, z288, z289, z290, z291, z292, z293, z294, z295, z296, z297, z298, z299, z300, z301, z302, z303, z304, z305, z306, z307, z308, z309, z310, z311, z312, z313, z314, z315, z316, z317, z318, s319, s320, s321, s322, s323, s324, s325, s326, s327, s328, s329, s330, s331, s332, s333, s334, s335, s336, s337, s338, s339, s340, s341, s342, s343, s344, s345, s346, s347, s348, s349, s350], []⟩ wx)) :
    Code.wp Try.prog (pieceIn Try.f4.body 5) (Exit.then K fun _ _ _ => False) ⟨#[.int .i64 W, .int .i64 S, s2, s3, s4, s5, s6, s7, .pointer (some ⟨A, 0, none⟩), s9, .pointer (some ⟨B, 0, none⟩), .pointer (some ⟨B + 1, 0, none⟩), s12, s13, s14, .pointer (some ⟨n15, 0, none⟩), s16, s17, s18, s19, s20, s21, s22, s23, s24, s25, s26, s27, .bool false, .pointer (some ⟨n29, 0, none⟩), .int .i64 0, s31, s32, s33, s34, s35, s36, s37, s38, s39, s40, s41, s42, s43, s44, s45, s46, s47, s48, s49, s50, s51, s52, s53, s54, s55, s56, s57, s58, s59, s60, s61, s62, s63, s64, s65, s66, s67, s68, s69, s70, s71, s72, s73, s74, s75, s76, s77, s78, s79, s80, s81, s82, s83, s84, s85, s86, s87, s88, s89, s90, s91, s92, s93, s94, s95, s96, s97, s98, s99, s100, s101, s102, s103, s104, s105, s106, s107, s108, s109, s110, s111, s112, s113, s114, s115, s116, s117, s118, s119, s120, s121, s122, s123, s124, s125, s126, s127, s128, s129, s130, s131, s132, s133, s134, s135, s136, s137, s138, s139, s140, s141, s142, s143, s144, s145, s146, s147, s148, s149, s150, s151, s152, s153, s154, s155, s156, s157, s158, s159, s160, s161, s162, s163, s164, s165, s166, s167, s168, s169, s170, s171, s172, s173, s174, s175, s176, s177, s178, s179, s180, s181, s182, s183, s184, s185, s186, s187, s188, s189, s190, s191, s192, s193, s194, s195, s196, s197, s198, s199, s200, s201, s202, s203, s204, s205, s206, s207, s208, s209, s210, s211, s212, s213, s214, s215, s216, s217, s218, s219, s220, s221, s222, s223, s224, s225, s226, s227, s228, s229, s230, s231, s232, s233, s234, s235, s236, s237, s238, s239, s240, s241, s242, s243, s244, s245, s246, s247, s248, s249, s250, s251, s252, s253, s254, s255, s256, s257, s258, s259, s260, s261, s262, s263, s264, s265, s266, s267, s268, s269, s270, s271, s272, s273, s274, s275, s276, s277, s278, s279, s280, s281, s282, s283, s284, s285, s286, s287, s288, s289, s290, s291, s292, s293, s294, s295, s296, s297, s298, s299, s300, s301, s302, s303, s304, s305, s306, s307, s308, s309, s310, s311, s312, s313, s314, s315, s316, s317, s318, s319, s320, s321, s322, s323, s324, s325, s326, s327, s328, s329, s330, s331, s332, s333, s334, s335, s336, s337, s338, s339, s340, s341, s342, s343, s344, s345, s346, s347, s348, s349, s350], []⟩ w := by
  have EQ := eqTask
  have HB := Lib.hid hB
  have HA := Lib.hid hA
  have HM := Lib.hid hM
  have hS3 : S ≤ 3 := hB.s1.2
  have hS1 : 1 ≤ S := hB.s1.1
  have hS0 : ¬ (S : Int) = 0 := by omega
  have hsm := hB.small
  have hmul : (W : Int) * (S : Int) = (L.length : Int) := by rw [hB.len]; simp
  have hwB : B + 1 < w.heap.size := hA.tk.lt
  have hn29 : n29 < w.heap.size := hM.lt
  have n1 : ¬ n15 = n29 := by omega
  have HT : Hid (∀ w1, Win n29 (n29 + 1) w w1 → w1.cell? ⟨n15, 0, none⟩ = some (.int .i64 tj) ∧ w1.cell? ⟨n15, 1, none⟩ = some (.bool fo) ∧ w1.cell? ⟨n15, 2, none⟩ = some (.int .i64 ti)) := fun w1 h1 => by
    have hb := h1.block n15 (by omega) (.inl h29)
    exact ⟨(World.cell?_of_block (w := w) (a := ⟨n15, 0, none⟩) hb).trans t0, (World.cell?_of_block (w := w) (a := ⟨n15, 1, none⟩) hb).trans t1, (World.cell?_of_block (w := w) (a := ⟨n15, 2, none⟩) hb).trans t2⟩
  obtain ⟨q, hq⟩ : ∃ q, q = L.length := ⟨_, rfl⟩
  rw [← hq] at hmul hsm HK
  have HQ := Lib.hid hq
  clear hB hA hM hq t0 t1 t2
  conv => arg 2; whnf
  go_wp2_with fail
  go_loopg [28, 30] q (fun gg rv nv wr => ∃ n : Nat, n ≤ q ∧ gg = q - n ∧ nv = .int .i64 n ∧ rv = .bool ((L.take n).any (isTask tj fo ti)) ∧ Hid (Blk wr n29 60 (cellsI (cnts L n))) ∧ Win n29 (n29 + 1) w wr)
  case atStart => exact ⟨0, Nat.zero_le _, rfl, rfl, rfl, HM, Win.refl _ _ _⟩
  case round =>
    obtain ⟨n, hn, hgk, rfl, hrv, HC, hw⟩ := hrel
    have HGK := Lib.hid hgk
    have HRV := Lib.hid hrv
    clear hgk hrv HM
    by_cases hlt : n < q
    · have hnl : n < L.length := by have := HQ.out; omega
      have HI := Lib.hid (fun w1 (hb : Below wr.heap.size wr w1) => in_at w1 ((HB.out.win hw (.inl (by omega))).blw hb) hnl)
      have A1 := Lib.hid (HA.out.of hw (by omega))
      obtain ⟨x0, x1, x2⟩ := HT.out wr hw
      have hquo : Int.tdiv (n : Int) (S : Int) = ((n / S : Nat) : Int) := rfl
      have hrem : Int.tmod (n : Int) (S : Int) = ((n % S : Nat) : Int) := rfl
      have hd1 : n / S < 12 := Nat.lt_of_le_of_lt (Nat.div_le_self _ _) (by omega)
      have hd2 : n % S < 12 := Nat.lt_of_le_of_lt (Nat.mod_le _ _) (by omega)
      have c0 : wr.cell? ⟨B, n, none⟩ = some (.bool L[n].taken) := A1.out.cellOn hnl
      have hns : (L.take (n + 1)).any (isTask tj fo ti) = ((L.take n).any (isTask tj fo ti) || isTask tj fo ti L[n]) := any_take hnl
      have hcn := cnts_succ (k := n) hnl
      have HNS := Lib.hid hns
      have HCN := Lib.hid hcn
      have hok := cnts_ok L n (by omega)
      have HOK := Lib.hid hok
      have hnB : n < 12 := by omega
      have hjb := hJ.out _ (List.getElem_mem hnl)
      have TS := Lib.hid (A1.out.ts n hnl)
      have S7 : Hid (∀ w1, Calls Try.prog 9 #[.iface 68 (.int .i64 7), .int .i64 7] w1 fun e w' => e = .returned (.bool true) ∧ w' = w1) := fun w1 => same_any 7 (by omega) w1
      clear hns hcn hok
      generalize n / S = d at *
      generalize n % S = e at *
      have hwd : IntKind.i64.wrap (d : Int) = d := by rw [IntKind.wrap_i64]; omega
      have hwe : IntKind.i64.wrap (e : Int) = e := by rw [IntKind.wrap_i64]; omega
      have HIa := Lib.hid hwd
      have hquo' := Lib.hid hquo
      have hrem' := Lib.hid hrem
      clear hwd hwe hquo hrem
      cases htk : L[n].taken with
      | false =>
        rw [htk] at c0
        have HI' : Hid (∀ w1, Below wr.heap.size wr w1 → Calls Try.prog 23 #[.pointer (some ⟨A, 0, none⟩), .agg #[.int .i64 d, .int .i64 e]] w1 fun e w' => e = .returned (.tuple #[.agg #[.int .i64 0, .bool false, .int .i64 0], .iface 68 (.int .i64 7)]) ∧ Below w1.heap.size w1 w') := fun w1 hb => (HI.out w1 hb).mono fun e w' h => ⟨by rcases h.1 with h1 | h1; exact h1.2; rw [htk] at h1; exact absurd h1.1 (by decide), h.2⟩
        have hno : isTask tj fo ti L[n] = false := by unfold isTask; rw [htk]; rfl
        have hone : cnts L (n + 1) = cnts L n := by rw [HCN.out, one, if_neg (by rw [htk]; simp)]
        have hrv2 : (L.take (n + 1)).any (isTask tj fo ti) = (L.take n).any (isTask tj fo ti) := by rw [HNS.out, hno, Bool.or_false]
        have HR2 := Lib.hid hrv2
        have HO2 := Lib.hid hone
        clear HI htk hno hone hrv2 HNS HCN TS HOK
        obtain ⟨rv, hrv⟩ : ∃ rv, rv = (L.take n).any (isTask tj fo ti) := ⟨_, rfl⟩
        have HR3 := Lib.hid hrv
        have e28 := HRV.out
        rw [← hrv] at e28
        subst e28
        clear hrv HRV
        go_upto_region 60 with fail
        refine wp_norm (r60_any S A n d e 0 0 false (.iface 68 (.int .i64 7)) wr _ _ _ _ _ _ _ _ _ _ _ _ _ _ _ _ _ _ _ _ _ _ _ _ _ _ _ _ _ _ _ _ _ _ _ _ _ _ _ _ _ _ _ _ _ _ _ _ _ _ _ _ _ _ _ _ _ _ _ _ _ _ _ _ _ _ _ _ _ _ _ _ _ _ _ _ _ _ _ _ _ _ _ _ _ _ _ _ _ _ _ _ _ _ _ _ _ _ _ _ _ _ _ _ _ _ _ _ _ _ _ _ _ _ _ _ _ _ _ _ _ _ _ _ _ _ _ _ _ _ _ _ _ _ _ _ _ _ _ _ _ _ _ _ _ _ _ _ _ _ _ _ _ _ _ _ _ _ _ _ _ _ _ _ _ _ _ _ _ _ _ _ _ _ _ _ _ _ _ _ _ _ _ _ _ _ _ _ _ _ _ _ _ _ _ _ _ _ _ _ _ _ _ _ _ _ _ _ _ _ _ _ _ _ _ _ _ _ _ _ _ _ _ _ _ _ _ _ _ _ _ _ _ _ _ _ _ _ _ _ _ _ _ _ _ _ _ _ _ _ _ _ _ _ _ _ _ _ _ _ _ _ _ _ _ _ _ _ _ _ _ _ _ _ _ _ _ _ _ _ _ _ _ _ _ _ _ _ _ _ _ _ _ _ _ _ _ _ _ _ _ _ _ _ _ _ _ _ _ _ _ _ _ _ _ _ _ _ _ _ _ _ _ _ _ _ _ _ _ _ _ _ _ _ _ _ _ _ _ _ _ _ _ _ _ _ _ _ _ hS0 hquo'.out hrem'.out hd1 hd2 HI' ?_)
        refine Lib.hid ?_
        intro z244 z245 z246 z247 z248 z249 z250 z251 z252 z253 z254 z255 wx G hG hbx g0 g1 g2
        have k0 := cell_blw c0 hbx
        have HAx := Lib.hid (A1.out.blw hbx)
        have y0 := cell_blw x0 hbx
        have y1 := cell_blw x1 hbx
        have y2 := cell_blw x2 hbx
        clear c0 x0 x1 x2 HI' A1
        cases rv with
        | false =>
          go_wp2_with fail
          go_quiet ((go_at_call 9; exact Calls.quiet_of_same (S7.out _)))
          go_wp2
          go_quiet (fail)
          go_wp2
          go_roundg (q - (n + 1))
          case measure => have := HGK.out; omega
          case rel => exact ⟨n + 1, by omega, rfl, by go_num, by rw [HR2.out, ← HR3.out], (by rw [HO2.out]; exact HC.out.blw (blw_step hbx (blw_drewN _ _))), hw.trans (Win.of_blw (blw_step hbx (blw_drewN _ _)))⟩
        | true =>
          go_wp2_with fail
          go_quiet ((go_at_call 9; exact Calls.quiet_of_same (S7.out _)))
          go_wp2
          go_quiet (fail)
          go_wp2
          go_roundg (q - (n + 1))
          case measure => have := HGK.out; omega
          case rel => exact ⟨n + 1, by omega, rfl, by go_num, by rw [HR2.out, ← HR3.out], (by rw [HO2.out]; exact HC.out.blw (blw_step hbx (blw_drewN _ _))), hw.trans (Win.of_blw (blw_step hbx (blw_drewN _ _)))⟩
      | true =>
        rw [htk] at c0
        have HI' : Hid (∀ w1, Below wr.heap.size wr w1 → Calls Try.prog 23 #[.pointer (some ⟨A, 0, none⟩), .agg #[.int .i64 d, .int .i64 e]] w1 fun e w' => e = .returned (.tuple #[.agg #[.int .i64 L[n].job, .bool L[n].fold, .int .i64 L[n].index], .nilIface]) ∧ Below w1.heap.size w1 w') := fun w1 hb => (HI.out w1 hb).mono fun e w' h => ⟨by rcases h.1 with h1 | h1; rw [htk] at h1; exact absurd h1.1 (by decide); exact h1.2, h.2⟩
        have hit : isTask tj fo ti L[n] = (L[n].job == tj && L[n].fold == fo && L[n].index == ti) := by unfold isTask; rw [htk]; rfl
        obtain ⟨r0, r1, r2⟩ := TS.out htk
        have i0 : wr.cell? ⟨B + 1, n * 3, none⟩ = some (.int .i64 L[n].job) := (A1.out.tk.cell _).trans r0
        have i1 : wr.cell? ⟨B + 1, n * 3 + 1, none⟩ = some (.bool L[n].fold) := (A1.out.tk.cell _).trans r1
        have i2 : wr.cell? ⟨B + 1, n * 3 + 2, none⟩ = some (.int .i64 L[n].index) := (A1.out.tk.cell _).trans r2
        obtain ⟨m, hm⟩ : ∃ m : Nat, L[n].job.tmod 5 = m := ⟨(L[n].job.tmod 5).toNat, by have := Int.tmod_nonneg 5 hjb; omega⟩
        have hm5 : m < 5 := by have := Int.tmod_lt_of_pos L[n].job (show (0 : Int) < 5 by omega); omega
        have T1 : Hid (¬ m < 3 → cnts L (n + 1) = cnts L n) := fun h3 => by rw [HCN.out, one, if_neg (by rw [hm]; omega)]
        have T2 : Hid (∀ hml : m < (cnts L n).length, m < 3 → cnts L (n + 1) = (cnts L n).set m ((cnts L n)[m] + 1)) := fun hml h3 => by
          rw [HCN.out, one, if_pos ⟨htk, by omega, by omega⟩, hm, Int.toNat_natCast, List.getD_eq_getElem?_getD, List.getElem?_eq_getElem hml, Option.getD_some]
        have HIT := Lib.hid hit
        clear HI htk hit HCN TS r0 r1 r2
        obtain ⟨rv, hrv⟩ : ∃ rv, rv = (L.take n).any (isTask tj fo ti) := ⟨_, rfl⟩
        have HR3 := Lib.hid hrv
        have e28 := HRV.out
        rw [← hrv] at e28
        subst e28
        clear hrv HRV
        obtain ⟨IT, hIT⟩ : ∃ IT, IT = isTask tj fo ti L[n] := ⟨_, rfl⟩
        rw [← hIT] at HNS HIT
        clear hIT
        generalize L[n].job = q3 at *
        generalize L[n].fold = q4 at *
        generalize L[n].index = q5 at *
        go_upto_region 60 with fail
        refine wp_norm (r60_any S A n d e q3 q5 q4 .nilIface wr _ _ _ _ _ _ _ _ _ _ _ _ _ _ _ _ _ _ _ _ _ _ _ _ _ _ _ _ _ _ _ _ _ _ _ _ _ _ _ _ _ _ _ _ _ _ _ _ _ _ _ _ _ _ _ _ _ _ _ _ _ _ _ _ _ _ _ _ _ _ _ _ _ _ _ _ _ _ _ _ _ _ _ _ _ _ _ _ _ _ _ _ _ _ _ _ _ _ _ _ _ _ _ _ _ _ _ _ _ _ _ _ _ _ _ _ _ _ _ _ _ _ _ _ _ _ _ _ _ _ _ _ _ _ _ _ _ _ _ _ _ _ _ _ _ _ _ _ _ _ _ _ _ _ _ _ _ _ _ _ _ _ _ _ _ _ _ _ _ _ _ _ _ _ _ _ _ _ _ _ _ _ _ _ _ _ _ _ _ _ _ _ _ _ _ _ _ _ _ _ _ _ _ _ _ _ _ _ _ _ _ _ _ _ _ _ _ _ _ _ _ _ _ _ _ _ _ _ _ _ _ _ _ _ _ _ _ _ _ _ _ _ _ _ _ _ _ _ _ _ _ _ _ _ _ _ _ _ _ _ _ _ _ _ _ _ _ _ _ _ _ _ _ _ _ _ _ _ _ _ _ _ _ _ _ _ _ _ _ _ _ _ _ _ _ _ _ _ _ _ _ _ _ _ _ _ _ _ _ _ _ _ _ _ _ _ _ _ _ _ _ _ _ _ _ _ _ _ _ _ _ _ _ _ _ _ _ _ _ _ _ _ _ _ _ _ _ _ _ hS0 hquo'.out hrem'.out hd1 hd2 HI' ?_)
        refine Lib.hid ?_
        intro z244 z245 z246 z247 z248 z249 z250 z251 z252 z253 z254 z255 wx G hG hbx g0 g1 g2
        have k0 := cell_blw c0 hbx
        have j0 := cell_blw i0 hbx
        have j1 := cell_blw i1 hbx
        have j2 := cell_blw i2 hbx
        have y0 := cell_blw x0 hbx
        have y1 := cell_blw x1 hbx
        have y2 := cell_blw x2 hbx
        have HCx := Lib.hid (HC.out.blw hbx)
        clear c0 x0 x1 x2 i0 i1 i2 HI' A1 HC
        by_cases h3 : m < 3
        · have hml : m < (cnts L n).length := by rw [HOK.out.1]; exact h3
          have HT2 := Lib.hid (T2.out hml h3)
          have hx := HOK.out.2 _ (List.getElem_mem hml)
          have v0 : wx.cell? ⟨n29, m, none⟩ = some (.int .i64 (cnts L n)[m]) := (HCx.out.cell m).trans (cellsI_at _ m hml)
          have v1 := HCx.out.frozen m
          have h3' : (m : Int) < 3 := by omega
          clear T1 T2 HOK
          generalize (cnts L n)[m] = x at *
          obtain ⟨hx0, hx1⟩ := hx
          have hx2 : x ≤ 12 := by omega
          cases rv with
          | false =>
            go_wp2_with fail
            go_quiet (fail)
            go_wp2
            go_quiet (fail)
            go_wp2
            go_roundg (q - (n + 1))
            case measure => have := HGK.out; omega
            case rel => exact ⟨n + 1, by omega, rfl, by go_num, (by rw [HNS.out, ← HR3.out, HIT.out]; simp), (by rw [HT2.out, ← cellsI_set]; exact (HCx.out.blw (blw_drewN _ _)).set m _), (hw.trans (Win.of_blw (blw_step hbx (blw_drewN _ _)))).store _ (Nat.le_refl _) (Nat.lt_succ_self _)⟩
          | true =>
            go_wp2_with fail
            go_quiet (fail)
            go_wp2
            go_quiet (fail)
            go_wp2
            go_roundg (q - (n + 1))
            case measure => have := HGK.out; omega
            case rel => exact ⟨n + 1, by omega, rfl, by go_num, (by rw [HNS.out, ← HR3.out, HIT.out]; simp), (by rw [HT2.out, ← cellsI_set]; exact (HCx.out.blw (blw_drewN _ _)).set m _), (hw.trans (Win.of_blw (blw_step hbx (blw_drewN _ _)))).store _ (Nat.le_refl _) (Nat.lt_succ_self _)⟩
        · have HT1 := Lib.hid (T1.out h3)
          have h3' : ¬ (m : Int) < 3 := by omega
          clear T1 T2 HOK
          cases rv with
          | false =>
            go_wp2_with fail
            go_quiet (fail)
            go_wp2
            go_quiet (fail)
            go_wp2
            go_roundg (q - (n + 1))
            case measure => have := HGK.out; omega
            case rel => exact ⟨n + 1, by omega, rfl, by go_num, (by rw [HNS.out, ← HR3.out, HIT.out]; simp), (by rw [HT1.out]; exact HCx.out.blw (blw_drewN _ _)), hw.trans (Win.of_blw (blw_step hbx (blw_drewN _ _)))⟩
          | true =>
            go_wp2_with fail
            go_quiet (fail)
            go_wp2
            go_quiet (fail)
            go_wp2
            go_roundg (q - (n + 1))
            case measure => have := HGK.out; omega
            case rel => exact ⟨n + 1, by omega, rfl, by go_num, (by rw [HNS.out, ← HR3.out, HIT.out]; simp), (by rw [HT1.out]; exact HCx.out.blw (blw_drewN _ _)), hw.trans (Win.of_blw (blw_step hbx (blw_drewN _ _)))⟩
    · have e : n = q := by omega
      subst e
      have e28 := HRV.out
      have hall : L.take n = L := by rw [HQ.out]; exact List.take_length
      rw [hall] at e28
      subst e28
      go_wp2
      exact HK.out _ _ _ _ _ _ _ _ _ _ _ _ _ _ _ _ _ _ _ _ _ _ _ _ _ _ _ _ _ _ _ _ _ _ _ _ _ _ _ _ _ _ _ _ _ _ _ _ _ _ _ _ _ _ _ _ _ _ _ _ _ _ _ _ _ _ _ _ _ _ _ _ _ _ _ _ _ _ _ _ _ _ _ _ _ _ wr (by have h := HC.out; rw [HQ.out] at h; rw [HQ.out]; exact h) hw
end Go.Proofs.Ytilgiehcpmafgaa
