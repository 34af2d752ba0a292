/- Benches: the law BenchSays: one act. -/
import Derived.Test.YtilgiehcpmafgaaB22
import Derived.Test.YtilgiehcpmafgaaB23
namespace Go.Proofs.Ytilgiehcpmafgaa
open Go.ChangeShapes Go.WideShapes Go.ChangeAt Go.RowKit
open Bn
theorem and_1023 (n : Int) : ∃ j : Nat, j ≤ 1023 ∧ bits BinOp.and IntKind.i64 n 1023 = (j : Int) := by
  refine ⟨(BitVec.ofInt 64 n &&& BitVec.ofInt 64 1023).toNat, ?_, ?_⟩
  · rw [BitVec.toNat_and]
    exact Nat.and_le_right
  · have h : (BitVec.ofInt 64 n &&& BitVec.ofInt 64 1023).toNat ≤ 1023 := by rw [BitVec.toNat_and]; exact Nat.and_le_right
    show IntKind.i64.wrap ((BitVec.ofInt 64 n &&& BitVec.ofInt 64 1023).toNat : Int) = _
    rw [IntKind.wrap_i64]
    omega
theorem isIs_arr {w : World} {g : Nat} {t : TypeId} {l : List Int} (h : Blk w g t (cellsI l)) (hl : l.length = 3) : IsIs w (.slice (some ⟨g, 0, none⟩) 3 3) l := by
  refine ⟨some ⟨g, 0, none⟩, 3, by rw [hl], fun i hi => ⟨g, 0, rfl, ?_⟩⟩
  rw [Nat.zero_add]
  exact (h.cell i).trans (cellsI_at l i hi)
theorem Win.thenUp {lo hi lo' hi' : Nat} {w w1 w2 : World} (h : Win lo hi w w1) (k : Win lo' hi' w1 w2) (h1 : w.heap.size ≤ lo') : Win lo hi w w2 :=
  ⟨k.os.trans h.os, k.tape.trans h.tape, k.output.trans h.output, Nat.le_trans h.size k.size, fun j hj hd => (k.block j (Nat.lt_of_lt_of_le hj h.size) (.inl (by omega))).trans (h.block j hj hd)⟩
set_option maxRecDepth 1000000 in
set_option maxHeartbeats 8000000 in
theorem b1_any (W S A B g cp q cap ga off k : Nat) (L : List Sl) (O I : List Value) (kd pr inp : ByteArray) (ta tb tc : Int) (fo : Bool) (w : World) (K : Act → World → Prop) (s3 s4 s5 s6 s7 s9 s13 s14 s15 s16 s17 s18 s19 s20 s21 s22 s23 s24 s25 s26 s27 s28 s29 s30 s31 s32 s33 s34 s35 s36 s37 s38 s39 s40 s41 s42 s43 s44 s45 s46 s47 s48 s49 s50 s51 s52 s53 s54 s55 s56 s57 s58 s59 s60 s61 s62 s63 s64 s65 s66 s67 s68 s69 s70 s71 s72 s73 s74 s75 s76 s77 s78 s79 s80 s81 s82 s83 s84 s85 s86 s87 s88 s89 s90 s91 s92 s93 s94 s95 s96 s97 s98 s99 s100 s101 s102 s103 s104 s105 s106 s107 s108 s109 s110 s111 s112 s113 s114 s115 s116 s117 s118 s119 s120 s121 s122 s123 s124 s125 s126 s127 s128 s129 s130 s131 s132 s133 s134 s135 s136 s137 s138 s139 s140 s141 s142 s143 s144 s145 s146 s147 s148 s149 s150 s151 s152 s153 s154 s155 s156 s157 s158 s159 s160 s161 s162 s163 s164 s165 s166 s167 s168 s169 s170 s171 s172 s173 s174 s175 s176 s177 s178 s179 s180 s181 s182 s183 s184 s185 s186 s187 s188 s189 s190 s191 s192 s193 s194 s195 s196 s197 s198 s199 s200 s201 s202 s203 s204 s205 s206 s207 s208 s209 s210 s211 s212 s213 s214 s215 s216 s217 s218 s219 s220 s221 s222 s223 s224 s225 s226 s227 s228 s229 s230 s231 s232 s233 s234 s235 s236 s237 s238 s239 s240 s241 s242 s243 s244 s245 s246 s247 s248 s249 s250 s251 s252 s253 s254 s255 s256 s257 s258 s259 s260 s261 s262 s263 s264 s265 s266 s267 s268 s269 s270 s271 s272 s273 s274 s275 s276 s277 s278 s279 s280 s281 s282 s283 s284 s285 s286 s287 s288 s289 s290 s291 s292 s293 s294 s295 s296 s297 s298 s299 s300 s301 s302 s303 s304 s305 s306 s307 s308 s309 s310 s311 s312 s313 s314 s315 s316 s317 s318 s319 s320 s321 s322 s323 s324 s325 s326 s327 s328 s329 s330 s331 s332 s333 s334 s335 s336 s337 s338 s339 s340 s341 s342 s343 s344 s345 s346 s347 s348 s349 s350 : Value)
    (hB : IsB w A B A W S g cp L) (hA : Arr 49 52 w B L O I) (hJ : Hid (JobsOk L)) (hAB : A ≤ B) (hk : k < q)
    (c0 : w.cell? ⟨ga, off + k * 7, none⟩ = some (.string kd)) (c1 : w.cell? ⟨ga, off + k * 7 + 1, none⟩ = some (.int .i64 ta)) (c2 : w.cell? ⟨ga, off + k * 7 + 2, none⟩ = some (.int .i64 tb)) (c3 : w.cell? ⟨ga, off + k * 7 + 3, none⟩ = some (.int .i64 tc)) (c4 : w.cell? ⟨ga, off + k * 7 + 4, none⟩ = some (.bool fo)) (c5 : w.cell? ⟨ga, off + k * 7 + 5, none⟩ = some (.string pr)) (c6 : w.cell? ⟨ga, off + k * 7 + 6, none⟩ = some (.string inp))
    (HK : Hid (∀ (z6 z13 z14 z15 z16 z17 z18 z19 z20 z21 z22 z23 z24 z25 z26 z27 z28 z29 z30 z31 z32 z33 z34 z35 z83 z84 z85 z86 z87 z88 z89 z90 z91 z92 z93 z94 z95 z96 z97 z98 z99 z100 z101 z102 z103 z104 z105 z106 z107 z108 z109 z110 z111 z112 z113 z114 z115 z116 z117 z118 z119 z120 z121 z122 z123 z124 z125 z126 z127 z128 z129 z130 z131 z132 z133 z134 z135 z136 z137 z138 z139 z140 z141 z142 z143 z144 z145 z146 z147 z148 z149 z150 z151 z152 z153 z154 z155 z156 z157 z158 z159 z160 z161 z162 z163 z164 z165 z166 z167 z168 z169 z170 z171 z172 z173 z174 z175 z176 z177 z178 z179 z180 z181 z182 z183 z184 z185 z186 z187 z188 z189 z190 z191 z192 z193 z194 z195 z196 z197 z198 z199 z200 z201 z202 z203 z204 z205 z206 z207 z208 z209 z210 z211 z212 z213 z214 z215 z216 z217 z218 z219 z220 z221 z222 z223 z224 z225 z226 z227 z228 z229 z230 z231 z232 z233 z234 z235 z236 z237 z238 z239 z240 z241 z242 z243 z244 z245 z246 z247 z248 z249 z250 z251 z252 z253 z254 z255 z256 z257 z258 z259 z260 z261 z262 z263 z264 z265 z266 z267 z268 z269 z270 z271 z272 z273 z274 z275 z276 z277 z278 z279 z280 z281 z282 z283 z284 z285 z286 z287 z288 z289 z290 z291 z292 z293 z294 z295 z296 z297 z298 z299 z300 z301 z302 z303 z304 z305 z306 z307 z308 z309 z310 z311 z312 z313 z314 z315 z316 z317 z318 z319 z320 z321 z322 z323 z324 z325 z326 z327 z328 z329 z330 z331 z332 z333 z334 z335 z336 z337 z338 z339 z340 z341 z342 z343 z344 z345 z346 z347 z348 z349 z350 : Value) (wx : World) (L' : List Sl) (O' I' : List Value), IsB wx A B A W S g cp L' → Hid (JobsOk L') → Arr 49 52 wx B L' O' I' → Win A (B + 2) w wx → K ⟨#[.int .i64 W, .int .i64 S, .slice (some ⟨ga, off, none⟩) q cap, s3, s4, s5, z6, s7, .pointer (some ⟨A, 0, none⟩), s9, .pointer (some ⟨B, 0, none⟩), .pointer (some ⟨B + 1, 0, none⟩), .int .i64 k, z13, z14, z15, z16, z17, z18, z19, z20, z21, z22, z23, z24, z25, z26, z27, z28, z29, z30, z31, z32, z33, z34, z35, s36, s37, s38, s39, s40, s41, s42, s43, s44, s45, s46, s47, s48, s49, s50, s51, s52, s53, s54, s55, s56, s57, s58, s59, s60, s61, s62, s63, s64, s65, s66, s67, s68, s69, s70, s71, s72, s73, s74, s75, s76, s77, s78, s79, s80, s81, s82, z83, z84, z85, z86, z87, z88, z89, z90, z91, z92, z93, z94, z95, z96, z97, z98, z99, z100, z101, z102, z103, z104, z105, z106, z107, z108, z109, z110, z111, z112, z113, z114, z115, z116, z117, z118, z119, z120, z121, z122, z123, z124, z125, z126, z127, z128, z129, z130, z131, z132, z133, z134, z135, z136, z137, z138, z139, z140, z141, z142, z143, z144, z145, z146, z147, z148, z149, z150, z151, z152, z153, z154, z155, z156, z157, z158, z159, z160, z161, z162, z163, z164, z165, z166, z167, z168, z169, z170, z171, z172, z173, z174, z175, z176, z177, z178, z179, z180, z181, z182, z183, z184, z185, z186, z187, z188, z189, z190, z191, z192, z193, z194, z195, z196, z197, z198, z199, z200, z201, z202, z203, z204, z205, z206, z207, z208, z209, z210, z211, z212, z213, z214, z215, z216, z217, z218, z219, z220, z221, z222, z223, z224, z225, z226, z227, z228, z229, z230, z231, z232, z233, z234, z235, z236, z237, z238, z239, z240, z241, z242, z243, z244, z245, z246, z247, z248, z249, z250, z251, z252, z253, z254, z255, z256, z257, z258, z259, z260, z261, z262, z263, z264, z265, z266, z267, z268, z269, z270, z271, z272, z273, z274, z275, z276, z277, z278, z279, z280, z281, z282, z283, z284, z285, z286, z287, z288, z289, z290, z291, z292, z293, z294, z295, z296, z297, z298, z299, z300, z301, z302, z303, z304, z305, z306, z307, z308, z309, z310, z311, z312, z313, z314, z315, z316, z317, z318, z319, z320, z321, z322, z323, z324, z325, z326, z327, z328, z329, z330, z331, z332, z333, z334, z335, z336, z337, z338, z339, z340, z341, z342, z343, z344, z345, z346, z347, z348, z349, z350], []⟩ wx)) :
    Code.wp Try.prog (pieceIn Try.f4.body 1) (Exit.then K fun _ _ _ => False) ⟨#[.int .i64 W, .int .i64 S, .slice (some ⟨ga, off, none⟩) q cap, s3, s4, s5, s6, s7, .pointer (some ⟨A, 0, none⟩), s9, .pointer (some ⟨B, 0, none⟩), .pointer (some ⟨B + 1, 0, none⟩), .int .i64 k, s13, s14, s15, s16, s17, s18, s19, s20, s21, s22, s23, s24, s25, s26, s27, s28, s29, s30, s31, s32, s33, s34, s35, s36, s37, s38, s39, s40, s41, s42, s43, s44, s45, s46, s47, s48, s49, s50, s51, s52, s53, s54, s55, s56, s57, s58, s59, s60, s61, s62, s63, s64, s65, s66, s67, s68, s69, s70, s71, s72, s73, s74, s75, s76, s77, s78, s79, s80, s81, s82, s83, s84, s85, s86, s87, s88, s89, s90, s91, s92, s93, s94, s95, s96, s97, s98, s99, s100, s101, s102, s103, s104, s105, s106, s107, s108, s109, s110, s111, s112, s113, s114, s115, s116, s117, s118, s119, s120, s121, s122, s123, s124, s125, s126, s127, s128, s129, s130, s131, s132, s133, s134, s135, s136, s137, s138, s139, s140, s141, s142, s143, s144, s145, s146, s147, s148, s149, s150, s151, s152, s153, s154, s155, s156, s157, s158, s159, s160, s161, s162, s163, s164, s165, s166, s167, s168, s169, s170, s171, s172, s173, s174, s175, s176, s177, s178, s179, s180, s181, s182, s183, s184, s185, s186, s187, s188, s189, s190, s191, s192, s193, s194, s195, s196, s197, s198, s199, s200, s201, s202, s203, s204, s205, s206, s207, s208, s209, s210, s211, s212, s213, s214, s215, s216, s217, s218, s219, s220, s221, s222, s223, s224, s225, s226, s227, s228, s229, s230, s231, s232, s233, s234, s235, s236, s237, s238, s239, s240, s241, s242, s243, s244, s245, s246, s247, s248, s249, s250, s251, s252, s253, s254, s255, s256, s257, s258, s259, s260, s261, s262, s263, s264, s265, s266, s267, s268, s269, s270, s271, s272, s273, s274, s275, s276, s277, s278, s279, s280, s281, s282, s283, s284, s285, s286, s287, s288, s289, s290, s291, s292, s293, s294, s295, s296, s297, s298, s299, s300, s301, s302, s303, s304, s305, s306, s307, s308, s309, s310, s311, s312, s313, s314, s315, s316, s317, s318, s319, s320, s321, s322, s323, s324, s325, s326, s327, s328, s329, s330, s331, s332, s333, s334, s335, s336, s337, s338, s339, s340, s341, s342, s343, s344, s345, s346, s347, s348, s349, s350], []⟩ w := by
  obtain ⟨tiN, hti, hand⟩ := and_1023 tc
  obtain ⟨tjN, htj⟩ : ∃ tjN : Nat, tjN = tiN / 2 := ⟨_, rfl⟩
  have hquo : Int.tdiv (tiN : Int) 2 = (tjN : Int) := by rw [htj]; rfl
  have htj2 : tjN ≤ 1023 := by omega
  obtain ⟨ti, hti'⟩ : ∃ ti : Int, ti = (tiN : Int) := ⟨_, rfl⟩
  obtain ⟨tj, htj'⟩ : ∃ tj : Int, tj = (tjN : Int) := ⟨_, rfl⟩
  rw [← hti'] at hand hquo
  rw [← htj'] at hquo
  have hti0 : 0 ≤ ti ∧ ti ≤ 1023 := by omega
  have htj0 : 0 ≤ tj ∧ tj ≤ 1023 := by omega
  clear hti htj hti' htj' htj2
  obtain ⟨hti0, hti1⟩ := hti0
  obtain ⟨htj0, htj1⟩ := htj0
  obtain ⟨w3, hw3⟩ : ∃ w3, w3 = ((w.alloc (.cells #[.string kd, .int .i64 ta, .int .i64 tb, .int .i64 tc, .bool fo, .string pr, .string inp] 35)).alloc (.cells #[.int .i64 ta, .int .i64 tb] 54)).alloc (.cells #[.int .i64 tj, .bool fo, .int .i64 ti] 51) := ⟨_, rfl⟩
  have hb3 : Below w.heap.size w w3 := by rw [hw3]; exact blw_step (blw_step (blw_box _) (blw_box _)) (blw_box _)
  have hwB : B + 1 < w.heap.size := hA.tk.lt
  have e1 : (w.alloc (.cells #[.string kd, .int .i64 ta, .int .i64 tb, .int .i64 tc, .bool fo, .string pr, .string inp] 35)).heap.size = w.heap.size + 1 := by simp
  have e2 : ((w.alloc (.cells #[.string kd, .int .i64 ta, .int .i64 tb, .int .i64 tc, .bool fo, .string pr, .string inp] 35)).alloc (.cells #[.int .i64 ta, .int .i64 tb] 54)).heap.size = w.heap.size + 1 + 1 := by simp
  have d1 : Blk w3 w.heap.size 35 [.string kd, .int .i64 ta, .int .i64 tb, .int .i64 tc, .bool fo, .string pr, .string inp] := by
    rw [hw3]; exact ((Blk.new w _ _).blw (blw_box _)).blw (blw_box _)
  have d2 : Blk w3 (w.heap.size + 1) 54 [.int .i64 ta, .int .i64 tb] := by
    rw [hw3, ← e1]; exact (Blk.new _ _ _).blw (blw_box _)
  have d3 : Blk w3 (w.heap.size + 1 + 1) 51 [.int .i64 tj, .bool fo, .int .i64 ti] := by
    rw [hw3, ← e2]; exact Blk.new _ _ _
  obtain ⟨n13, hn13⟩ : ∃ n, n = w.heap.size := ⟨_, rfl⟩
  obtain ⟨n14, hn14⟩ : ∃ n, n = w.heap.size + 1 := ⟨_, rfl⟩
  obtain ⟨n15, hn15⟩ : ∃ n, n = w.heap.size + 1 + 1 := ⟨_, rfl⟩
  rw [← hn15] at d3
  rw [← hn14] at d2
  rw [← hn13] at d1
  have h15 : B + 2 ≤ n15 := by omega
  have hlt15 : n15 < w3.heap.size := d3.lt
  have HF : Hid (SwF w3 A B n13 n14 n15 ta tb tj ti fo) := ⟨by omega, by omega, by omega, hAB, d1.at (i := 1) rfl, d1.at (i := 2) rfl, d2.at (i := 0) rfl, d2.at (i := 1) rfl, d3.at (i := 0) rfl, d3.at (i := 1) rfl, d3.at (i := 2) rfl, htj0⟩
  have T0 := Lib.hid (d3.at (i := 0) (v := .int .i64 tj) rfl)
  have T1 := Lib.hid (d3.at (i := 1) (v := .bool fo) rfl)
  have T2 := Lib.hid (d3.at (i := 2) (v := .int .i64 ti) rfl)
  have k0 := d1.at (i := 0) (v := .string kd) rfl
  have k1 := d1.at (i := 1) (v := .int .i64 ta) rfl
  have k2 := d1.at (i := 2) (v := .int .i64 tb) rfl
  have HW3 := Lib.hid hw3
  have H13 := Lib.hid hn13
  have H14 := Lib.hid hn14
  have H15 := Lib.hid hn15
  have HB3 := Lib.hid hb3
  have BW := Lib.hid (hB.blw hb3)
  have AW := Lib.hid (hA.blw hb3)
  have PL := Lib.hid hB.placed
  have hsm := hB.small
  have hS3 : S ≤ 3 := hB.s1.2
  have hW4 : W ≤ 4 := hB.w1.2
  clear hB hA hw3 hn13 hn14 hn15 hb3 d1 d2 d3 e1 e2
  conv => arg 2; whnf
  go_upto_region 17 with fail
  rw [← HW3.out, ← H15.out, ← H14.out, ← H13.out]
  refine r17_any W S n13 ta tb w3 _ _ _ _ _ _ _ _ _ _ _ _ _ _ _ _ _ _ _ _ _ _ _ _ _ _ _ _ _ _ _ _ _ _ _ _ _ _ _ _ _ _ _ _ _ _ _ _ _ _ _ _ _ _ _ _ _ _ _ _ _ _ _ _ _ _ _ _ _ _ _ _ _ _ _ _ _ _ _ _ _ _ _ _ _ _ _ _ _ _ _ _ _ _ _ _ _ _ _ _ _ _ _ _ _ _ _ _ _ _ _ _ _ _ _ _ _ _ _ _ _ _ _ _ _ _ _ _ _ _ _ _ _ _ _ _ _ _ _ _ _ _ _ _ _ _ _ _ _ _ _ _ _ _ _ _ _ _ _ _ _ _ _ _ _ _ _ _ _ _ _ _ _ _ _ _ _ _ _ _ _ _ _ _ _ _ _ _ _ _ _ _ _ _ _ _ _ _ _ _ _ _ _ _ _ _ _ _ _ _ _ _ _ _ _ _ _ _ _ _ _ _ _ _ _ _ _ _ _ _ _ _ _ _ _ _ _ _ _ _ _ _ _ _ _ _ _ _ _ _ _ _ _ _ _ _ _ _ _ _ _ _ _ _ _ _ _ _ _ _ _ _ _ _ _ _ _ _ _ _ _ _ _ _ _ _ _ _ _ _ _ _ _ _ _ _ _ _ _ _ _ _ _ _ _ _ _ _ _ _ _ _ _ _ _ _ _ _ _ _ _ _ _ _ _ _ _ _ _ _ _ _ _ _ _ _ _ _ _ _ _ _ _ _ _ _ _ _ _ _ k1 k2 ?_
  refine Lib.hid ?_
  intro r102 r103 r104 r105 r106 r107 r108 r109 r110 r111 r112 r113 r114 r115 r116 r117 r118 r119 r120 r121
  clear c0 c1 c2 c3 c4 c5 c6 hand hquo
  by_cases hth : (0 ≤ ta ∧ ta < W) ∧ 0 ≤ tb ∧ tb < S
  · rw [decide_eq_true hth]
    obtain ⟨⟨ha0, ha1⟩, hb0, hb1⟩ := hth
    obtain ⟨a, rfl⟩ := Int.eq_ofNat_of_zero_le ha0
    obtain ⟨b, rfl⟩ := Int.eq_ofNat_of_zero_le hb0
    have haW : a < W := by omega
    have hbS : b < S := by omega
    obtain ⟨aS, haS⟩ : ∃ aS, aS = a * S := ⟨_, rfl⟩
    obtain ⟨m, hm⟩ : ∃ m, m = aS + b := ⟨_, rfl⟩
    have hmul : (a : Int) * (S : Int) = (aS : Int) := by rw [haS]; simp
    have hadd : (aS : Int) + (b : Int) = (m : Int) := by rw [hm]; simp
    have hml := PL.out.lt haW hbS
    have hat : Hid (SwAt W S L a b m) := ⟨by rw [hm, haS]; exact PL.out.there haW hbS, by rw [hm, haS]; exact hml, by rw [hm, haS]; omega⟩
    have hm12 : m < 12 := hat.out.sm
    have haS12 : aS < 12 := by omega
    clear hm haS hml ha0 hb0
    go_upto_block 2 with fail
    refine sw_any W S A B g cp n13 n14 n15 L O I kd a b tj ti fo w3 _ _ _ _ _ _ _ _ _ _ _ _ _ _ _ _ _ _ _ _ _ _ _ _ _ _ _ _ _ _ _ _ _ _ _ _ _ _ _ _ _ _ _ _ _ _ _ _ _ _ _ _ _ _ _ _ _ _ _ _ _ _ _ _ _ _ _ _ _ _ _ _ _ _ _ _ _ _ _ _ _ _ _ _ _ _ _ _ _ _ _ _ _ _ _ _ _ _ _ _ _ _ _ _ _ _ _ _ _ _ _ _ _ _ _ _ _ _ _ _ _ _ _ _ _ _ _ _ _ _ _ _ _ _ _ _ _ _ _ _ _ _ _ _ _ _ _ _ _ _ _ _ _ _ _ _ _ _ _ _ _ _ _ _ _ _ _ _ _ _ _ _ _ _ _ _ _ _ _ _ _ _ _ _ _ _ _ _ _ _ _ _ _ _ _ _ _ _ _ _ _ _ _ _ _ _ _ _ _ _ _ _ _ _ _ _ _ _ _ _ _ _ _ _ _ _ _ _ _ _ _ _ _ _ _ _ _ _ _ _ _ _ _ _ _ _ _ _ _ _ _ _ _ _ _ _ _ _ _ _ _ _ _ _ _ _ _ _ _ _ _ _ _ _ _ _ _ _ _ _ _ _ _ _ _ _ _ _ _ _ _ _ _ _ _ _ _ _ _ _ _ _ _ _ _ _ _ _ _ _ _ _ _ _ _ _ _ _ _ _ _ _ _ _ _ _ _ _ _ _ _ _ _ _ _ _ _ _ _ _ _ BW.out AW.out HF.out hJ true m (.inl ⟨rfl, m, rfl, hat.out⟩) ?_
    refine Lib.hid ?_
    intro z19 z20 z21 z22 z23 z24 z25 z26 z27 z132 z133 z134 z135 z136 z137 z138 z139 z140 z141 z142 z143 z144 z145 z146 z147 z148 z149 z150 z151 z152 z153 z154 z155 z156 z157 z158 z159 z160 z161 z162 z163 z164 z165 z166 z167 z168 z169 z170 z171 z172 z173 z174 z175 z176 z177 z178 z179 z180 z181 z182 z183 z184 z185 z186 z187 z188 z189 z190 z191 z192 z193 z194 z195 z196 z197 z198 z199 z200 z201 z202 z203 z204 z205 z206 z207 z208 z209 z210 z211 z212 z213 z214 z215 z216 z217 z218 z219 z220 z221 z222 z223 z224 z225 z226 z227 z228 z229 z230 z231 z232 z233 z234 z235 z236 wx L' O' I' hB' hJ' hA' hw'
    have t0 := cell_win T0.out hw' h15
    have t1 := cell_win T1.out hw' h15
    have t2 := cell_win T2.out hw' h15
    have ws : w3.heap.size ≤ wx.heap.size := hw'.size
    obtain ⟨n29, hn29⟩ : ∃ n29, n29 = wx.heap.size := ⟨_, rfl⟩
    obtain ⟨w5, hw5⟩ : ∃ w5, w5 = wx.alloc (.cells #[.int .i64 0, .int .i64 0, .int .i64 0] 60) := ⟨_, rfl⟩
    have hb5 : Below wx.heap.size wx w5 := by rw [hw5]; exact blw_box _
    have M5 : Hid (Blk w5 n29 60 (cellsI [0, 0, 0])) := by rw [hw5, hn29]; exact Blk.new wx _ _
    have HW5 := Lib.hid hw5
    have HN29 := Lib.hid hn29
    have HWX := Lib.hid hw'
    have HBX := Lib.hid hB'
    have HAX := Lib.hid hA'
    have h29 : n15 < n29 := by omega
    clear hw5 hn29 hw' hB' hA' T0 T1 T2 HF
    go_upto_block 5 with fail
    rw [← HW5.out, ← HN29.out]
    refine wp_norm (b5_any W S A B g cp n15 n29 L' O' I' tj ti fo w5 _ _ _ _ _ _ _ _ _ _ _ _ _ _ _ _ _ _ _ _ _ _ _ _ _ _ _ _ _ _ _ _ _ _ _ _ _ _ _ _ _ _ _ _ _ _ _ _ _ _ _ _ _ _ _ _ _ _ _ _ _ _ _ _ _ _ _ _ _ _ _ _ _ _ _ _ _ _ _ _ _ _ _ _ _ _ _ _ _ _ _ _ _ _ _ _ _ _ _ _ _ _ _ _ _ _ _ _ _ _ _ _ _ _ _ _ _ _ _ _ _ _ _ _ _ _ _ _ _ _ _ _ _ _ _ _ _ _ _ _ _ _ _ _ _ _ _ _ _ _ _ _ _ _ _ _ _ _ _ _ _ _ _ _ _ _ _ _ _ _ _ _ _ _ _ _ _ _ _ _ _ _ _ _ _ _ _ _ _ _ _ _ _ _ _ _ _ _ _ _ _ _ _ _ _ _ _ _ _ _ _ _ _ _ _ _ _ _ _ _ _ _ _ _ _ _ _ _ _ _ _ _ _ _ _ _ _ _ _ _ _ _ _ _ _ _ _ _ _ _ _ _ _ _ _ _ _ _ _ _ _ _ _ _ _ _ _ _ _ _ _ _ _ _ _ _ _ _ _ _ _ _ _ _ _ _ _ _ _ _ _ _ _ _ _ _ _ _ _ _ _ _ _ _ _ _ _ _ _ _ _ _ _ _ _ _ _ _ _ _ _ _ _ _ _ _ _ _ _ _ _ _ _ _ _ _ _ _ _ _ _ _ _ (HBX.out.blw hb5) (HAX.out.blw hb5) hJ' h15 h29 (cell_blw t0 hb5) (cell_blw t1 hb5) (cell_blw t2 hb5) M5.out ?_)
    refine Lib.hid ?_
    intro y6 y30 y31 y32 y237 y238 y239 y240 y241 y242 y243 y244 y245 y246 y247 y248 y249 y250 y251 y252 y253 y254 y255 y256 y257 y258 y259 y260 y261 y262 y263 y264 y265 y266 y267 y268 y269 y270 y271 y272 y273 y274 y275 y276 y277 y278 y279 y280 y281 y282 y283 y284 y285 y286 y287 y288 y289 y290 y291 y292 y293 y294 y295 y296 y297 y298 y299 y300 y301 y302 y303 y304 y305 y306 y307 y308 y309 y310 y311 y312 y313 y314 y315 y316 y317 y318 wy hMy hwy
    have u0 := (World.cell?_of_block (w := w5) (a := ⟨n15, 0, none⟩) (hwy.block n15 (block_lt (cell_blw t0 hb5)) (.inl h29))).trans (cell_blw t0 hb5)
    have u1 := (World.cell?_of_block (w := w5) (a := ⟨n15, 1, none⟩) (hwy.block n15 (block_lt (cell_blw t0 hb5)) (.inl h29))).trans (cell_blw t1 hb5)
    have u2 := (World.cell?_of_block (w := w5) (a := ⟨n15, 2, none⟩) (hwy.block n15 (block_lt (cell_blw t0 hb5)) (.inl h29))).trans (cell_blw t2 hb5)
    have hBn : B + 1 < n29 := by omega
    have BY := Lib.hid ((HBX.out.blw hb5).win hwy (.inl (by omega)))
    have AY := Lib.hid ((HAX.out.blw hb5).of hwy hBn)
    have WY : Hid (Win A (B + 2) w wy) := ((Win.of_blw HB3.out).trans (HWX.out.trans (Win.of_blw hb5))).thenUp hwy (by rw [HN29.out]; exact Nat.le_trans HB3.out.size ws)
    have MY := Lib.hid hMy
    have SZ := Lib.hid (size_any wy BY.out)
    have CT : Hid (∀ w6, Below wy.heap.size wy w6 → Calls Try.prog 25 #[.pointer (some ⟨A, 0, none⟩), .int .i64 3, .func (.func 26) #[] #[]] w6 fun e w' => ∃ v, e = .returned v ∧ IsIs w' v (cnts L' L'.length) ∧ Below w6.heap.size w6 w') := fun w6 hb => (bcount_any w6 (BY.out.blw hb)).mono fun e w' h => by
      obtain ⟨v, h1, h2, h3⟩ := h
      exact ⟨v, h1, isIs_of h2, h3⟩
    have RN : Hid (∀ w6, Below wy.heap.size wy w6 → Calls Try.prog 27 #[.pointer (some ⟨A, 0, none⟩), .agg #[.int .i64 tj, .bool fo, .int .i64 ti]] w6 fun e w' => e = .returned (.bool (L'.any (isTask tj fo ti))) ∧ Below w6.heap.size w6 w') := fun w6 hb => by
      rw [← idx_any]
      exact runs_any w6 (BY.out.blw hb) tj ti fo
    have hlen := (cnts_ok L' L'.length (Nat.le_refl _)).1
    have SN : Hid (∀ v w6, Below wy.heap.size wy w6 → IsIs w6 v (cnts L' L'.length) → Calls Try.prog 14 #[v, .slice (some ⟨n29, 0, none⟩) 3 3] w6 fun e w' => e = .returned (.bool true) ∧ Below w6.heap.size w6 w') := fun v w6 hb hv => sameNumbers_any v _ _ w6 hv (isIs_arr (MY.out.blw hb) hlen) (by omega)
    obtain ⟨rb, hrb⟩ : ∃ rb, rb = L'.any (isTask tj fo ti) := ⟨_, rfl⟩
    rw [← hrb] at RN ⊢
    clear hrb hlen hMy hwy t0 t1 t2 hb5
    go_wp2_with (first | (go_at_call 24; refine SZ.out.mono ?_; rintro _ w6 ⟨rfl, hb6⟩; dsimp only) | (go_at_call 25; refine (CT.out _ hb6).mono ?_; rintro _ w7 ⟨v7, rfl, hv7, hb7⟩; have hb67 := blw_step hb6 hb7; have HV7 := Lib.hid hv7; clear hv7; have x0 := cell_blw u0 hb67; have x1 := cell_blw u1 hb67; have x2 := cell_blw u2 hb67; dsimp only) | (go_at_call 27; refine (RN.out _ hb67).mono ?_; rintro _ w8 ⟨rfl, hb8⟩; have hb68 := blw_step hb67 hb8; dsimp only) | (go_at_call 14; refine (SN.out _ _ hb68 (isIs_blw HV7.out hb8)).mono ?_; rintro _ w9 ⟨rfl, hb9⟩; dsimp only))
    exact HK.out _ _ _ _ _ _ _ _ _ _ _ _ _ _ _ _ _ _ _ _ _ _ _ _ _ _ _ _ _ _ _ _ _ _ _ _ _ _ _ _ _ _ _ _ _ _ _ _ _ _ _ _ _ _ _ _ _ _ _ _ _ _ _ _ _ _ _ _ _ _ _ _ _ _ _ _ _ _ _ _ _ _ _ _ _ _ _ _ _ _ _ _ _ _ _ _ _ _ _ _ _ _ _ _ _ _ _ _ _ _ _ _ _ _ _ _ _ _ _ _ _ _ _ _ _ _ _ _ _ _ _ _ _ _ _ _ _ _ _ _ _ _ _ _ _ _ _ _ _ _ _ _ _ _ _ _ _ _ _ _ _ _ _ _ _ _ _ _ _ _ _ _ _ _ _ _ _ _ _ _ _ _ _ _ _ _ _ _ _ _ _ _ _ _ _ _ _ _ _ _ _ _ _ _ _ _ _ _ _ _ _ _ _ _ _ _ _ _ _ _ _ _ _ _ _ _ _ _ _ _ _ _ _ _ _ _ _ _ _ _ _ _ _ _ _ _ _ _ _ _ _ _ _ _ _ _ _ _ _ _ _ _ _ _ _ _ _ _ _ _ _ _ _ _ _ _ _ _ _ _ _ _ _ _ _ _ _ _ _ _ _ _ w9 L' O' I' (BY.out.blw (blw_step hb68 hb9)) hJ' (AY.out.blw (blw_step hb68 hb9)) (WY.out.trans (Win.of_blw (blw_step hb68 hb9)))
  · rw [decide_eq_false hth]
    have HTH := Lib.hid hth
    clear hth
    go_upto_block 2 with fail
    refine sw_any W S A B g cp n13 n14 n15 L O I kd ta tb tj ti fo w3 _ _ _ _ _ _ _ _ _ _ _ _ _ _ _ _ _ _ _ _ _ _ _ _ _ _ _ _ _ _ _ _ _ _ _ _ _ _ _ _ _ _ _ _ _ _ _ _ _ _ _ _ _ _ _ _ _ _ _ _ _ _ _ _ _ _ _ _ _ _ _ _ _ _ _ _ _ _ _ _ _ _ _ _ _ _ _ _ _ _ _ _ _ _ _ _ _ _ _ _ _ _ _ _ _ _ _ _ _ _ _ _ _ _ _ _ _ _ _ _ _ _ _ _ _ _ _ _ _ _ _ _ _ _ _ _ _ _ _ _ _ _ _ _ _ _ _ _ _ _ _ _ _ _ _ _ _ _ _ _ _ _ _ _ _ _ _ _ _ _ _ _ _ _ _ _ _ _ _ _ _ _ _ _ _ _ _ _ _ _ _ _ _ _ _ _ _ _ _ _ _ _ _ _ _ _ _ _ _ _ _ _ _ _ _ _ _ _ _ _ _ _ _ _ _ _ _ _ _ _ _ _ _ _ _ _ _ _ _ _ _ _ _ _ _ _ _ _ _ _ _ _ _ _ _ _ _ _ _ _ _ _ _ _ _ _ _ _ _ _ _ _ _ _ _ _ _ _ _ _ _ _ _ _ _ _ _ _ _ _ _ _ _ _ _ _ _ _ _ _ _ _ _ _ _ _ _ _ _ _ _ _ _ _ _ _ _ _ _ _ _ _ _ _ _ _ _ _ _ _ _ _ _ _ _ _ _ _ _ _ _ BW.out AW.out HF.out hJ false 0 (.inr ⟨rfl, rfl, HTH.out⟩) ?_
    refine Lib.hid ?_
    intro z19 z20 z21 z22 z23 z24 z25 z26 z27 z132 z133 z134 z135 z136 z137 z138 z139 z140 z141 z142 z143 z144 z145 z146 z147 z148 z149 z150 z151 z152 z153 z154 z155 z156 z157 z158 z159 z160 z161 z162 z163 z164 z165 z166 z167 z168 z169 z170 z171 z172 z173 z174 z175 z176 z177 z178 z179 z180 z181 z182 z183 z184 z185 z186 z187 z188 z189 z190 z191 z192 z193 z194 z195 z196 z197 z198 z199 z200 z201 z202 z203 z204 z205 z206 z207 z208 z209 z210 z211 z212 z213 z214 z215 z216 z217 z218 z219 z220 z221 z222 z223 z224 z225 z226 z227 z228 z229 z230 z231 z232 z233 z234 z235 z236 wx L' O' I' hB' hJ' hA' hw'
    have t0 := cell_win T0.out hw' h15
    have t1 := cell_win T1.out hw' h15
    have t2 := cell_win T2.out hw' h15
    have ws : w3.heap.size ≤ wx.heap.size := hw'.size
    obtain ⟨n29, hn29⟩ : ∃ n29, n29 = wx.heap.size := ⟨_, rfl⟩
    obtain ⟨w5, hw5⟩ : ∃ w5, w5 = wx.alloc (.cells #[.int .i64 0, .int .i64 0, .int .i64 0] 60) := ⟨_, rfl⟩
    have hb5 : Below wx.heap.size wx w5 := by rw [hw5]; exact blw_box _
    have M5 : Hid (Blk w5 n29 60 (cellsI [0, 0, 0])) := by rw [hw5, hn29]; exact Blk.new wx _ _
    have HW5 := Lib.hid hw5
    have HN29 := Lib.hid hn29
    have HWX := Lib.hid hw'
    have HBX := Lib.hid hB'
    have HAX := Lib.hid hA'
    have h29 : n15 < n29 := by omega
    clear hw5 hn29 hw' hB' hA' T0 T1 T2 HF
    go_upto_block 5 with fail
    rw [← HW5.out, ← HN29.out]
    refine wp_norm (b5_any W S A B g cp n15 n29 L' O' I' tj ti fo w5 _ _ _ _ _ _ _ _ _ _ _ _ _ _ _ _ _ _ _ _ _ _ _ _ _ _ _ _ _ _ _ _ _ _ _ _ _ _ _ _ _ _ _ _ _ _ _ _ _ _ _ _ _ _ _ _ _ _ _ _ _ _ _ _ _ _ _ _ _ _ _ _ _ _ _ _ _ _ _ _ _ _ _ _ _ _ _ _ _ _ _ _ _ _ _ _ _ _ _ _ _ _ _ _ _ _ _ _ _ _ _ _ _ _ _ _ _ _ _ _ _ _ _ _ _ _ _ _ _ _ _ _ _ _ _ _ _ _ _ _ _ _ _ _ _ _ _ _ _ _ _ _ _ _ _ _ _ _ _ _ _ _ _ _ _ _ _ _ _ _ _ _ _ _ _ _ _ _ _ _ _ _ _ _ _ _ _ _ _ _ _ _ _ _ _ _ _ _ _ _ _ _ _ _ _ _ _ _ _ _ _ _ _ _ _ _ _ _ _ _ _ _ _ _ _ _ _ _ _ _ _ _ _ _ _ _ _ _ _ _ _ _ _ _ _ _ _ _ _ _ _ _ _ _ _ _ _ _ _ _ _ _ _ _ _ _ _ _ _ _ _ _ _ _ _ _ _ _ _ _ _ _ _ _ _ _ _ _ _ _ _ _ _ _ _ _ _ _ _ _ _ _ _ _ _ _ _ _ _ _ _ _ _ _ _ _ _ _ _ _ _ _ _ _ _ _ _ _ _ _ _ _ _ _ _ _ _ _ _ _ _ _ _ (HBX.out.blw hb5) (HAX.out.blw hb5) hJ' h15 h29 (cell_blw t0 hb5) (cell_blw t1 hb5) (cell_blw t2 hb5) M5.out ?_)
    refine Lib.hid ?_
    intro y6 y30 y31 y32 y237 y238 y239 y240 y241 y242 y243 y244 y245 y246 y247 y248 y249 y250 y251 y252 y253 y254 y255 y256 y257 y258 y259 y260 y261 y262 y263 y264 y265 y266 y267 y268 y269 y270 y271 y272 y273 y274 y275 y276 y277 y278 y279 y280 y281 y282 y283 y284 y285 y286 y287 y288 y289 y290 y291 y292 y293 y294 y295 y296 y297 y298 y299 y300 y301 y302 y303 y304 y305 y306 y307 y308 y309 y310 y311 y312 y313 y314 y315 y316 y317 y318 wy hMy hwy
    have u0 := (World.cell?_of_block (w := w5) (a := ⟨n15, 0, none⟩) (hwy.block n15 (block_lt (cell_blw t0 hb5)) (.inl h29))).trans (cell_blw t0 hb5)
    have u1 := (World.cell?_of_block (w := w5) (a := ⟨n15, 1, none⟩) (hwy.block n15 (block_lt (cell_blw t0 hb5)) (.inl h29))).trans (cell_blw t1 hb5)
    have u2 := (World.cell?_of_block (w := w5) (a := ⟨n15, 2, none⟩) (hwy.block n15 (block_lt (cell_blw t0 hb5)) (.inl h29))).trans (cell_blw t2 hb5)
    have hBn : B + 1 < n29 := by omega
    have BY := Lib.hid ((HBX.out.blw hb5).win hwy (.inl (by omega)))
    have AY := Lib.hid ((HAX.out.blw hb5).of hwy hBn)
    have WY : Hid (Win A (B + 2) w wy) := ((Win.of_blw HB3.out).trans (HWX.out.trans (Win.of_blw hb5))).thenUp hwy (by rw [HN29.out]; exact Nat.le_trans HB3.out.size ws)
    have MY := Lib.hid hMy
    have SZ := Lib.hid (size_any wy BY.out)
    have CT : Hid (∀ w6, Below wy.heap.size wy w6 → Calls Try.prog 25 #[.pointer (some ⟨A, 0, none⟩), .int .i64 3, .func (.func 26) #[] #[]] w6 fun e w' => ∃ v, e = .returned v ∧ IsIs w' v (cnts L' L'.length) ∧ Below w6.heap.size w6 w') := fun w6 hb => (bcount_any w6 (BY.out.blw hb)).mono fun e w' h => by
      obtain ⟨v, h1, h2, h3⟩ := h
      exact ⟨v, h1, isIs_of h2, h3⟩
    have RN : Hid (∀ w6, Below wy.heap.size wy w6 → Calls Try.prog 27 #[.pointer (some ⟨A, 0, none⟩), .agg #[.int .i64 tj, .bool fo, .int .i64 ti]] w6 fun e w' => e = .returned (.bool (L'.any (isTask tj fo ti))) ∧ Below w6.heap.size w6 w') := fun w6 hb => by
      rw [← idx_any]
      exact runs_any w6 (BY.out.blw hb) tj ti fo
    have hlen := (cnts_ok L' L'.length (Nat.le_refl _)).1
    have SN : Hid (∀ v w6, Below wy.heap.size wy w6 → IsIs w6 v (cnts L' L'.length) → Calls Try.prog 14 #[v, .slice (some ⟨n29, 0, none⟩) 3 3] w6 fun e w' => e = .returned (.bool true) ∧ Below w6.heap.size w6 w') := fun v w6 hb hv => sameNumbers_any v _ _ w6 hv (isIs_arr (MY.out.blw hb) hlen) (by omega)
    obtain ⟨rb, hrb⟩ : ∃ rb, rb = L'.any (isTask tj fo ti) := ⟨_, rfl⟩
    rw [← hrb] at RN ⊢
    clear hrb hlen hMy hwy t0 t1 t2 hb5
    go_wp2_with (first | (go_at_call 24; refine SZ.out.mono ?_; rintro _ w6 ⟨rfl, hb6⟩; dsimp only) | (go_at_call 25; refine (CT.out _ hb6).mono ?_; rintro _ w7 ⟨v7, rfl, hv7, hb7⟩; have hb67 := blw_step hb6 hb7; have HV7 := Lib.hid hv7; clear hv7; have x0 := cell_blw u0 hb67; have x1 := cell_blw u1 hb67; have x2 := cell_blw u2 hb67; dsimp only) | (go_at_call 27; refine (RN.out _ hb67).mono ?_; rintro _ w8 ⟨rfl, hb8⟩; have hb68 := blw_step hb67 hb8; dsimp only) | (go_at_call 14; refine (SN.out _ _ hb68 (isIs_blw HV7.out hb8)).mono ?_; rintro _ w9 ⟨rfl, hb9⟩; dsimp only))
    exact HK.out _ _ _ _ _ _ _ _ _ _ _ _ _ _ _ _ _ _ _ _ _ _ _ _ _ _ _ _ _ _ _ _ _ _ _ _ _ _ _ _ _ _ _ _ _ _ _ _ _ _ _ _ _ _ _ _ _ _ _ _ _ _ _ _ _ _ _ _ _ _ _ _ _ _ _ _ _ _ _ _ _ _ _ _ _ _ _ _ _ _ _ _ _ _ _ _ _ _ _ _ _ _ _ _ _ _ _ _ _ _ _ _ _ _ _ _ _ _ _ _ _ _ _ _ _ _ _ _ _ _ _ _ _ _ _ _ _ _ _ _ _ _ _ _ _ _ _ _ _ _ _ _ _ _ _ _ _ _ _ _ _ _ _ _ _ _ _ _ _ _ _ _ _ _ _ _ _ _ _ _ _ _ _ _ _ _ _ _ _ _ _ _ _ _ _ _ _ _ _ _ _ _ _ _ _ _ _ _ _ _ _ _ _ _ _ _ _ _ _ _ _ _ _ _ _ _ _ _ _ _ _ _ _ _ _ _ _ _ _ _ _ _ _ _ _ _ _ _ _ _ _ _ _ _ _ _ _ _ _ _ _ _ _ _ _ _ _ _ _ _ _ _ _ _ _ _ _ _ _ _ _ _ _ _ _ _ _ _ _ _ _ _ w9 L' O' I' (BY.out.blw (blw_step hb68 hb9)) hJ' (AY.out.blw (blw_step hb68 hb9)) (WY.out.trans (Win.of_blw (blw_step hb68 hb9)))
end Go.Proofs.Ytilgiehcpmafgaa
