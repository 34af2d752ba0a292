/- Benches: the law BenchSays: free, where a task is in the slot. -/
import Derived.Test.YtilgiehcpmafgaaB14
namespace Go.Proofs.Ytilgiehcpmafgaa
open Go.ChangeShapes Go.WideShapes Go.ChangeAt Go.RowKit
open Bn
set_option maxRecDepth 1000000 in
set_option maxHeartbeats 4000000 in
theorem sw_free_on (W S A B g cp n13 n14 n15 : Nat) (L : List Sl) (O I : List Value) (kd : ByteArray) (ta tb tj ti : Int) (fo : Bool) (w : World) (K : Act → World → Prop) (Q0 : Exit → Act → World → Prop) (s2 s3 s4 s5 s6 s7 s9 s12 s19 s20 s21 s22 s23 s24 s25 s26 s27 s28 s29 s30 s31 s32 s33 s34 s35 s36 s37 s38 s39 s40 s41 s42 s43 s44 s45 s46 s47 s48 s49 s50 s51 s52 s53 s54 s55 s56 s57 s58 s59 s60 s61 s62 s63 s64 s65 s66 s67 s68 s69 s70 s71 s72 s73 s74 s75 s76 s77 s78 s79 s80 s81 s82 s83 s84 s85 s86 s87 s88 s89 s90 s91 s92 s93 s94 s95 s96 s97 s98 s99 s100 s101 s102 s103 s104 s105 s106 s107 s108 s109 s110 s111 s112 s113 s114 s115 s116 s117 s118 s119 s120 s121 s122 s123 s124 s125 s126 s127 s128 s129 s130 s132 s133 s134 s135 s136 s137 s138 s139 s140 s141 s142 s143 s144 s145 s146 s147 s148 s149 s150 s151 s152 s153 s154 s155 s156 s157 s158 s159 s160 s161 s162 s163 s164 s165 s166 s167 s168 s169 s170 s171 s172 s173 s174 s175 s176 s177 s178 s179 s180 s181 s182 s183 s184 s185 s186 s187 s188 s189 s190 s191 s192 s193 s194 s195 s196 s197 s198 s199 s200 s201 s202 s203 s204 s205 s206 s207 s208 s209 s210 s211 s212 s213 s214 s215 s216 s217 s218 s219 s220 s221 s222 s223 s224 s225 s226 s227 s228 s229 s230 s231 s232 s233 s234 s235 s236 s237 s238 s239 s240 s241 s242 s243 s244 s245 s246 s247 s248 s249 s250 s251 s252 s253 s254 s255 s256 s257 s258 s259 s260 s261 s262 s263 s264 s265 s266 s267 s268 s269 s270 s271 s272 s273 s274 s275 s276 s277 s278 s279 s280 s281 s282 s283 s284 s285 s286 s287 s288 s289 s290 s291 s292 s293 s294 s295 s296 s297 s298 s299 s300 s301 s302 s303 s304 s305 s306 s307 s308 s309 s310 s311 s312 s313 s314 s315 s316 s317 s318 s319 s320 s321 s322 s323 s324 s325 s326 s327 s328 s329 s330 s331 s332 s333 s334 s335 s336 s337 s338 s339 s340 s341 s342 s343 s344 s345 s346 s347 s348 s349 s350 : Value)
    (hB : IsB w A B A W S g cp L) (hA : Arr 49 52 w B L O I) (hF : SwF w A B n13 n14 n15 ta tb tj ti fo) (hJ : Hid (JobsOk L))
    (hkd : (kd.toList == [112, 117, 116]) = false) (hkd2 : (kd.toList == [102, 114, 101, 101]) = true) (m : Nat) (hat : SwAt W S L ta tb m) (htk : (L[m]'hat.lt).taken = true)
    (HK : Hid (∀ (z19 z20 z21 z22 z23 z24 z25 z26 z27 z132 z133 z134 z135 z136 z137 z138 z139 z140 z141 z142 z143 z144 z145 z146 z147 z148 z149 z150 z151 z152 z153 z154 z155 z156 z157 z158 z159 z160 z161 z162 z163 z164 z165 z166 z167 z168 z169 z170 z171 z172 z173 z174 z175 z176 z177 z178 z179 z180 z181 z182 z183 z184 z185 z186 z187 z188 z189 z190 z191 z192 z193 z194 z195 z196 z197 z198 z199 z200 z201 z202 z203 z204 z205 z206 z207 z208 z209 z210 z211 z212 z213 z214 z215 z216 z217 z218 z219 z220 z221 z222 z223 z224 z225 z226 z227 z228 z229 z230 z231 z232 z233 z234 z235 z236 : Value) (wx : World) (L' : List Sl) (O' I' : List Value), IsB wx A B A W S g cp L' → Hid (JobsOk L') → Arr 49 52 wx B L' O' I' → Win A (B + 2) w wx → K ⟨#[.int .i64 W, .int .i64 S, s2, s3, s4, s5, s6, s7, .pointer (some ⟨A, 0, none⟩), s9, .pointer (some ⟨B, 0, none⟩), .pointer (some ⟨B + 1, 0, none⟩), s12, .pointer (some ⟨n13, 0, none⟩), .pointer (some ⟨n14, 0, none⟩), .pointer (some ⟨n15, 0, none⟩), .bool true, .int .i64 (m : Nat), .bool true, z19, z20, z21, z22, z23, z24, z25, z26, z27, s28, s29, s30, s31, s32, s33, s34, s35, s36, s37, s38, s39, s40, s41, s42, s43, s44, s45, s46, s47, s48, s49, s50, s51, s52, s53, s54, s55, s56, s57, s58, s59, s60, s61, s62, s63, s64, s65, s66, s67, s68, s69, s70, s71, s72, s73, s74, s75, s76, s77, s78, s79, s80, s81, s82, s83, s84, s85, s86, s87, s88, s89, s90, s91, s92, s93, s94, s95, s96, s97, s98, s99, s100, s101, s102, s103, s104, s105, s106, s107, s108, s109, s110, s111, s112, s113, s114, s115, s116, s117, s118, s119, s120, s121, s122, s123, s124, s125, s126, s127, s128, s129, s130, .string kd, z132, z133, z134, z135, z136, z137, z138, z139, z140, z141, z142, z143, z144, z145, z146, z147, z148, z149, z150, z151, z152, z153, z154, z155, z156, z157, z158, z159, z160, z161, z162, z163, z164, z165, z166, z167, z168, z169, z170, z171, z172, z173, z174, z175, z176, z177, z178, z179, z180, z181, z182, z183, z184, z185, z186, z187, z188, z189, z190, z191, z192, z193, z194, z195, z196, z197, z198, z199, z200, z201, z202, z203, z204, z205, z206, z207, z208, z209, z210, z211, z212, z213, z214, z215, z216, z217, z218, z219, z220, z221, z222, z223, z224, z225, z226, z227, z228, z229, z230, z231, z232, z233, z234, z235, z236, s237, s238, s239, s240, s241, s242, s243, s244, s245, s246, s247, s248, s249, s250, s251, s252, s253, s254, s255, s256, s257, s258, s259, s260, s261, s262, s263, s264, s265, s266, s267, s268, s269, s270, s271, s272, s273, s274, s275, s276, s277, s278, s279, s280, s281, s282, s283, s284, s285, s286, s287, s288, s289, s290, s291, s292, s293, s294, s295, s296, s297, s298, s299, s300, s301, s302, s303, s304, s305, s306, s307, s308, s309, s310, s311, s312, s313, s314, s315, s316, s317, s318, s319, s320, s321, s322, s323, s324, s325, s326, s327, s328, s329, s330, s331, s332, s333, s334, s335, s336, s337, s338, s339, s340, s341, s342, s343, s344, s345, s346, s347, s348, s349, s350], []⟩ wx)) :
    Code.wp Try.prog (pieceIn Try.f4.body 2) (Exit.then K Q0) ⟨#[.int .i64 W, .int .i64 S, s2, s3, s4, s5, s6, s7, .pointer (some ⟨A, 0, none⟩), s9, .pointer (some ⟨B, 0, none⟩), .pointer (some ⟨B + 1, 0, none⟩), s12, .pointer (some ⟨n13, 0, none⟩), .pointer (some ⟨n14, 0, none⟩), .pointer (some ⟨n15, 0, none⟩), .bool true, .int .i64 (m : Nat), .bool true, s19, s20, s21, s22, s23, s24, s25, s26, s27, s28, s29, s30, s31, s32, s33, s34, s35, s36, s37, s38, s39, s40, s41, s42, s43, s44, s45, s46, s47, s48, s49, s50, s51, s52, s53, s54, s55, s56, s57, s58, s59, s60, s61, s62, s63, s64, s65, s66, s67, s68, s69, s70, s71, s72, s73, s74, s75, s76, s77, s78, s79, s80, s81, s82, s83, s84, s85, s86, s87, s88, s89, s90, s91, s92, s93, s94, s95, s96, s97, s98, s99, s100, s101, s102, s103, s104, s105, s106, s107, s108, s109, s110, s111, s112, s113, s114, s115, s116, s117, s118, s119, s120, s121, s122, s123, s124, s125, s126, s127, s128, s129, s130, .string kd, s132, s133, s134, s135, s136, s137, s138, s139, s140, s141, s142, s143, s144, s145, s146, s147, s148, s149, s150, s151, s152, s153, s154, s155, s156, s157, s158, s159, s160, s161, s162, s163, s164, s165, s166, s167, s168, s169, s170, s171, s172, s173, s174, s175, s176, s177, s178, s179, s180, s181, s182, s183, s184, s185, s186, s187, s188, s189, s190, s191, s192, s193, s194, s195, s196, s197, s198, s199, s200, s201, s202, s203, s204, s205, s206, s207, s208, s209, s210, s211, s212, s213, s214, s215, s216, s217, s218, s219, s220, s221, s222, s223, s224, s225, s226, s227, s228, s229, s230, s231, s232, s233, s234, s235, s236, s237, s238, s239, s240, s241, s242, s243, s244, s245, s246, s247, s248, s249, s250, s251, s252, s253, s254, s255, s256, s257, s258, s259, s260, s261, s262, s263, s264, s265, s266, s267, s268, s269, s270, s271, s272, s273, s274, s275, s276, s277, s278, s279, s280, s281, s282, s283, s284, s285, s286, s287, s288, s289, s290, s291, s292, s293, s294, s295, s296, s297, s298, s299, s300, s301, s302, s303, s304, s305, s306, s307, s308, s309, s310, s311, s312, s313, s314, s315, s316, s317, s318, s319, s320, s321, s322, s323, s324, s325, s326, s327, s328, s329, s330, s331, s332, s333, s334, s335, s336, s337, s338, s339, s340, s341, s342, s343, s344, s345, s346, s347, s348, s349, s350], []⟩ w := by
  have hAB := hF.hAB
  have p0 := hF.p0
  have p1 := hF.p1
  have EQ := eqTask
  have hwB : B + 1 < w.heap.size := hA.tk.lt
  have P1 : Hid (Calls Try.prog 21 #[.pointer (some ⟨A, 0, none⟩), .agg #[.int .i64 ta, .int .i64 tb]] w fun e w' => e = .returned (.tuple #[.agg #[.int .i64 (L[m]'hat.lt).job, .bool (L[m]'hat.lt).fold, .int .i64 (L[m]'hat.lt).index], .nilIface]) ∧ IsB w' A B A W S g cp (L.set m (L[m]'hat.lt).free) ∧ Win A B w w') := by
    refine (free_any w hB (by omega) ta tb).mono ?_
    have hx := hat.ix
    rintro e w' ⟨⟨h2, _, _⟩ | ⟨k, hk, h2, h3⟩, h4⟩
    · omega
    · have ek : k = m := by omega
      subst ek
      rcases h3 with ⟨h5, h6, h7⟩ | ⟨h5, h6, h7⟩
      · rw [htk] at h5; cases h5
      · exact ⟨h6, h7, h4⟩
  have d0 : w.cell? ⟨B, m, none⟩ = some (.bool true) := by rw [hA.cellOn hat.lt, htk]
  have hm12 : m < 12 := hat.sm
  have S5 : Hid (∀ w1, Calls Try.prog 9 #[.nilIface, .int .i64 0] w1 fun e w' => e = .returned (.bool true) ∧ w' = w1) := fun w1 => same_any 0 (by omega) w1
  have HA : Hid (∀ w1, Win A B w w1 → Arr 49 52 w1 B L O I) := fun w1 h1 => hA.win h1 (Nat.le_refl _)
  have HP : Hid (∀ w1, Arr 49 52 w1 B L O I → Arr 49 52 (w1.setCell ⟨B, m, none⟩ (.bool false)) B (L.set m (L[m]'hat.lt).free) (O.set m (.bool false)) I) := fun w1 h1 => h1.freeAt hat.lt
  have HC : Hid (∀ w1, Arr 49 52 w1 B L O I → w1.cell? ⟨B, m, none⟩ = some (.bool true) ∧ w1.frozen? ⟨B, m, none⟩ = false ∧ w1.cell? ⟨B + 1, m * 3, none⟩ = some (.int .i64 (L[m]'hat.lt).job) ∧ w1.cell? ⟨B + 1, m * 3 + 1, none⟩ = some (.bool (L[m]'hat.lt).fold) ∧ w1.cell? ⟨B + 1, m * 3 + 2, none⟩ = some (.int .i64 (L[m]'hat.lt).index)) := fun w1 h1 => by
    have h3 := h1.ts m hat.lt htk
    exact ⟨by rw [h1.cellOn hat.lt, htk], h1.on.frozen _, (h1.tk.cell _).trans h3.1, (h1.tk.cell _).trans h3.2.1, (h1.tk.cell _).trans h3.2.2⟩
  have J2 : Hid (JobsOk (L.set m (L[m]'hat.lt).free)) := hJ.out.set m _ (Int.le_refl 0)
  generalize L.set m (L[m]'hat.lt).free = L2 at *
  generalize (L[m]'hat.lt).job = q3 at *
  generalize (L[m]'hat.lt).fold = q4 at *
  generalize (L[m]'hat.lt).index = q5 at *
  clear hat htk hB hA
  clear hF
  conv => arg 2; whnf
  go_wp2_with (go_at_call 21; refine P1.out.mono ?_; rintro _ w1 ⟨rfl, hB1, hw1⟩; have A1 := Lib.hid (HA.out w1 hw1); obtain ⟨f0, f1, f2, f3, f4⟩ := HC.out w1 A1.out; have hB1' := Lib.hid hB1; clear hB1; have hs1 : B + 1 < w1.heap.size := A1.out.tk.lt)
  go_quiet ((go_at_call 9; exact Calls.quiet_of_same (S5.out _)))
  obtain ⟨w2, hw2⟩ : ∃ w2, w2 = (w1.alloc (.cells #[.int .i64 q3, .bool q4, .int .i64 q5] 51)).drewN nq := ⟨_, rfl⟩
  have hb2 : Below w1.heap.size w1 w2 := by rw [hw2]; exact blw_step (blw_box _) (blw_drewN _ _)
  rw [← hw2]
  have A2 := Lib.hid (A1.out.blw hb2)
  have g0 := cell_blw f0 hb2
  have g1 := A2.out.on.frozen m
  clear hw2 f0 f1 f2 f3 f4
  go_wp2
  refine HK.out _ _ _ _ _ _ _ _ _ _ _ _ _ _ _ _ _ _ _ _ _ _ _ _ _ _ _ _ _ _ _ _ _ _ _ _ _ _ _ _ _ _ _ _ _ _ _ _ _ _ _ _ _ _ _ _ _ _ _ _ _ _ _ _ _ _ _ _ _ _ _ _ _ _ _ _ _ _ _ _ _ _ _ _ _ _ _ _ _ _ _ _ _ _ _ _ _ _ _ _ _ _ _ _ _ _ _ _ _ _ _ _ _ _ _ L2 _ _ ?_ J2 (HP.out _ A2.out) ?_
  · exact (hB1'.out.blw hb2).win (lo' := B) (hi' := B + 2) ((Win.refl _ _ _).store _ (Nat.le_refl _) (by omega)) (.inl (Nat.le_refl _))
  · exact (((hw1.mono (Nat.le_refl _) (Nat.le_add_right _ 2)).trans (Win.of_blw hb2)).store _ hAB (by omega))
end Go.Proofs.Ytilgiehcpmafgaa
