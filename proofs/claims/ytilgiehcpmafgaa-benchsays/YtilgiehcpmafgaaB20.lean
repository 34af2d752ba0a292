/- Benches: the law BenchSays: room, of a worker that there is. -/
import Derived.Test.YtilgiehcpmafgaaB14
namespace Go.Proofs.Ytilgiehcpmafgaa
open Go.ChangeShapes Go.WideShapes Go.ChangeAt Go.RowKit
open Bn
/-- What the law's loop over a worker's slots, from behind, has found. -/
def RmRel (L : List Sl) (a S r : Nat) (f x y : Int) : Prop :=
  (f = 8 ∧ x = 0 ∧ y = 0 ∧ ∀ j (h : a * S + j < L.length), r ≤ j → j < S → L[a * S + j].taken = true) ∨ (f = 0 ∧ x = a ∧ ∃ b : Nat, y = b ∧ r ≤ b ∧ b < S ∧ (∃ h : a * S + b < L.length, L[a * S + b].taken = false) ∧ ∀ j (h : a * S + j < L.length), r ≤ j → j < b → L[a * S + j].taken = true)
theorem RmRel.on {L : List Sl} {a S r : Nat} {f x y : Int} (h : RmRel L a S (r + 1) f x y) (hm : a * S + r < L.length) (ht : L[a * S + r].taken = true) : RmRel L a S r f x y := by
  rcases h with ⟨h1, h2, h3, h4⟩ | ⟨h1, h2, b, h3, h4, h5, h6, h7⟩
  · refine .inl ⟨h1, h2, h3, fun j hj hr hs => ?_⟩
    by_cases e : j = r
    · subst e; exact ht
    · exact h4 j hj (by omega) hs
  · refine .inr ⟨h1, h2, b, h3, by omega, h5, h6, fun j hj hr hs => ?_⟩
    by_cases e : j = r
    · subst e; exact ht
    · exact h7 j hj (by omega) hs
theorem RmRel.off {L : List Sl} {a S r : Nat} (hr : r < S) (hm : a * S + r < L.length) (ht : L[a * S + r].taken = false) : RmRel L a S r 0 a r :=
  .inr ⟨rfl, rfl, r, rfl, Nat.le_refl _, hr, ⟨hm, ht⟩, fun j hj h1 h2 => by omega⟩
theorem RmRel.pos {L : List Sl} {a S r : Nat} {f x y : Int} (h : RmRel L a S r f x y) : 0 ≤ f := by
  rcases h with ⟨h1, _⟩ | ⟨h1, _⟩ <;> omega
theorem room_is {lo hi P W S g cap a : Nat} {L : List Sl} {f x y : Int} (w : World) (h : IsB w lo hi P W S g cap L) (ha : a < W) (hr : RmRel L a S 0 f x y) :
    Calls Try.prog 22 #[.pointer (some ⟨P, 0, none⟩), .int .i64 a] w fun e w' => e = .returned (.tuple #[.agg #[.int .i64 x, .int .i64 y], errV f]) ∧ Below w.heap.size w w' := by
  refine (room_any w h a).mono ?_
  have hp := h.placed
  rintro e w' ⟨⟨h1, h2⟩ | ⟨_, ⟨h1, h2⟩ | ⟨k, hk, h1, h2⟩⟩, hb⟩
  · omega
  · rcases hr with ⟨e1, e2, e3, _⟩ | ⟨e1, e2, b, e3, _, e5, ⟨e6, e7⟩, e8⟩
    · subst e1; subst e2; subst e3; exact ⟨h2, hb⟩
    · have := hp.free ha e5 e7 (fun n hn => e8 n (hp.lt ha (Nat.lt_trans hn e5)) (Nat.zero_le _) hn)
      omega
  · rcases hr with ⟨e1, e2, e3, e4⟩ | ⟨e1, e2, b, e3, _, e5, ⟨e6, e7⟩, e8⟩
    · have := hp.full ha (fun n hn => e4 n (hp.lt ha hn) (Nat.zero_le _) hn)
      omega
    · have hx := hp.free ha e5 e7 (fun n hn => e8 n (hp.lt ha (Nat.lt_trans hn e5)) (Nat.zero_le _) hn)
      have ek : k = a * S + b := by omega
      subst ek
      have hpl := hp.place _ hk
      have hdm := Placed.dm (a := a) e5
      rw [hdm.1, hdm.2] at hpl
      subst e1; subst e2; subst e3
      rw [hpl.1, hpl.2] at h2
      exact ⟨h2, hb⟩
set_option maxRecDepth 1000000 in
set_option maxHeartbeats 4000000 in
theorem sw_room_in (W S A B g cp n13 n14 n15 : Nat) (L : List Sl) (O I : List Value) (kd : ByteArray) (ta tb tj ti : Int) (fo : Bool) (w : World) (K : Act → World → Prop) (Q0 : Exit → Act → World → Prop) (s2 s3 s4 s5 s6 s7 s9 s12 s19 s20 s21 s22 s23 s24 s25 s26 s27 s28 s29 s30 s31 s32 s33 s34 s35 s36 s37 s38 s39 s40 s41 s42 s43 s44 s45 s46 s47 s48 s49 s50 s51 s52 s53 s54 s55 s56 s57 s58 s59 s60 s61 s62 s63 s64 s65 s66 s67 s68 s69 s70 s71 s72 s73 s74 s75 s76 s77 s78 s79 s80 s81 s82 s83 s84 s85 s86 s87 s88 s89 s90 s91 s92 s93 s94 s95 s96 s97 s98 s99 s100 s101 s102 s103 s104 s105 s106 s107 s108 s109 s110 s111 s112 s113 s114 s115 s116 s117 s118 s119 s120 s121 s122 s123 s124 s125 s126 s127 s128 s129 s130 s132 s133 s134 s135 s136 s137 s138 s139 s140 s141 s142 s143 s144 s145 s146 s147 s148 s149 s150 s151 s152 s153 s154 s155 s156 s157 s158 s159 s160 s161 s162 s163 s164 s165 s166 s167 s168 s169 s170 s171 s172 s173 s174 s175 s176 s177 s178 s179 s180 s181 s182 s183 s184 s185 s186 s187 s188 s189 s190 s191 s192 s193 s194 s195 s196 s197 s198 s199 s200 s201 s202 s203 s204 s205 s206 s207 s208 s209 s210 s211 s212 s213 s214 s215 s216 s217 s218 s219 s220 s221 s222 s223 s224 s225 s226 s227 s228 s229 s230 s231 s232 s233 s234 s235 s236 s237 s238 s239 s240 s241 s242 s243 s244 s245 s246 s247 s248 s249 s250 s251 s252 s253 s254 s255 s256 s257 s258 s259 s260 s261 s262 s263 s264 s265 s266 s267 s268 s269 s270 s271 s272 s273 s274 s275 s276 s277 s278 s279 s280 s281 s282 s283 s284 s285 s286 s287 s288 s289 s290 s291 s292 s293 s294 s295 s296 s297 s298 s299 s300 s301 s302 s303 s304 s305 s306 s307 s308 s309 s310 s311 s312 s313 s314 s315 s316 s317 s318 s319 s320 s321 s322 s323 s324 s325 s326 s327 s328 s329 s330 s331 s332 s333 s334 s335 s336 s337 s338 s339 s340 s341 s342 s343 s344 s345 s346 s347 s348 s349 s350 : Value)
    (hB : IsB w A B A W S g cp L) (hA : Arr 49 52 w B L O I) (hF : SwF w A B n13 n14 n15 ta tb tj ti fo) (hJ : Hid (JobsOk L))
    (th : Bool) (kk : Int) (hkd : (kd.toList == [112, 117, 116]) = false) (hkd2 : (kd.toList == [102, 114, 101, 101]) = false) (a : Nat) (haW : a < W) (hta : ta = a)
    (HK : Hid (∀ (z19 z20 z21 z22 z23 z24 z25 z26 z27 z132 z133 z134 z135 z136 z137 z138 z139 z140 z141 z142 z143 z144 z145 z146 z147 z148 z149 z150 z151 z152 z153 z154 z155 z156 z157 z158 z159 z160 z161 z162 z163 z164 z165 z166 z167 z168 z169 z170 z171 z172 z173 z174 z175 z176 z177 z178 z179 z180 z181 z182 z183 z184 z185 z186 z187 z188 z189 z190 z191 z192 z193 z194 z195 z196 z197 z198 z199 z200 z201 z202 z203 z204 z205 z206 z207 z208 z209 z210 z211 z212 z213 z214 z215 z216 z217 z218 z219 z220 z221 z222 z223 z224 z225 z226 z227 z228 z229 z230 z231 z232 z233 z234 z235 z236 : Value) (wx : World) (L' : List Sl) (O' I' : List Value), IsB wx A B A W S g cp L' → Hid (JobsOk L') → Arr 49 52 wx B L' O' I' → Win A (B + 2) w wx → K ⟨#[.int .i64 W, .int .i64 S, s2, s3, s4, s5, s6, s7, .pointer (some ⟨A, 0, none⟩), s9, .pointer (some ⟨B, 0, none⟩), .pointer (some ⟨B + 1, 0, none⟩), s12, .pointer (some ⟨n13, 0, none⟩), .pointer (some ⟨n14, 0, none⟩), .pointer (some ⟨n15, 0, none⟩), .bool th, .int .i64 kk, .bool true, z19, z20, z21, z22, z23, z24, z25, z26, z27, s28, s29, s30, s31, s32, s33, s34, s35, s36, s37, s38, s39, s40, s41, s42, s43, s44, s45, s46, s47, s48, s49, s50, s51, s52, s53, s54, s55, s56, s57, s58, s59, s60, s61, s62, s63, s64, s65, s66, s67, s68, s69, s70, s71, s72, s73, s74, s75, s76, s77, s78, s79, s80, s81, s82, s83, s84, s85, s86, s87, s88, s89, s90, s91, s92, s93, s94, s95, s96, s97, s98, s99, s100, s101, s102, s103, s104, s105, s106, s107, s108, s109, s110, s111, s112, s113, s114, s115, s116, s117, s118, s119, s120, s121, s122, s123, s124, s125, s126, s127, s128, s129, s130, .string kd, z132, z133, z134, z135, z136, z137, z138, z139, z140, z141, z142, z143, z144, z145, z146, z147, z148, z149, z150, z151, z152, z153, z154, z155, z156, z157, z158, z159, z160, z161, z162, z163, z164, z165, z166, z167, z168, z169, z170, z171, z172, z173, z174, z175, z176, z177, z178, z179, z180, z181, z182, z183, z184, z185, z186, z187, z188, z189, z190, z191, z192, z193, z194, z195, z196, z197, z198, z199, z200, z201, z202, z203, z204, z205, z206, z207, z208, z209, z210, z211, z212, z213, z214, z215, z216, z217, z218, z219, z220, z221, z222, z223, z224, z225, z226, z227, z228, z229, z230, z231, z232, z233, z234, z235, z236, s237, s238, s239, s240, s241, s242, s243, s244, s245, s246, s247, s248, s249, s250, s251, s252, s253, s254, s255, s256, s257, s258, s259, s260, s261, s262, s263, s264, s265, s266, s267, s268, s269, s270, s271, s272, s273, s274, s275, s276, s277, s278, s279, s280, s281, s282, s283, s284, s285, s286, s287, s288, s289, s290, s291, s292, s293, s294, s295, s296, s297, s298, s299, s300, s301, s302, s303, s304, s305, s306, s307, s308, s309, s310, s311, s312, s313, s314, s315, s316, s317, s318, s319, s320, s321, s322, s323, s324, s325, s326, s327, s328, s329, s330, s331, s332, s333, s334, s335, s336, s337, s338, s339, s340, s341, s342, s343, s344, s345, s346, s347, s348, s349, s350], []⟩ wx)) :
    Code.wp Try.prog (pieceIn Try.f4.body 2) (Exit.then K Q0) ⟨#[.int .i64 W, .int .i64 S, s2, s3, s4, s5, s6, s7, .pointer (some ⟨A, 0, none⟩), s9, .pointer (some ⟨B, 0, none⟩), .pointer (some ⟨B + 1, 0, none⟩), s12, .pointer (some ⟨n13, 0, none⟩), .pointer (some ⟨n14, 0, none⟩), .pointer (some ⟨n15, 0, none⟩), .bool th, .int .i64 kk, .bool true, s19, s20, s21, s22, s23, s24, s25, s26, s27, s28, s29, s30, s31, s32, s33, s34, s35, s36, s37, s38, s39, s40, s41, s42, s43, s44, s45, s46, s47, s48, s49, s50, s51, s52, s53, s54, s55, s56, s57, s58, s59, s60, s61, s62, s63, s64, s65, s66, s67, s68, s69, s70, s71, s72, s73, s74, s75, s76, s77, s78, s79, s80, s81, s82, s83, s84, s85, s86, s87, s88, s89, s90, s91, s92, s93, s94, s95, s96, s97, s98, s99, s100, s101, s102, s103, s104, s105, s106, s107, s108, s109, s110, s111, s112, s113, s114, s115, s116, s117, s118, s119, s120, s121, s122, s123, s124, s125, s126, s127, s128, s129, s130, .string kd, s132, s133, s134, s135, s136, s137, s138, s139, s140, s141, s142, s143, s144, s145, s146, s147, s148, s149, s150, s151, s152, s153, s154, s155, s156, s157, s158, s159, s160, s161, s162, s163, s164, s165, s166, s167, s168, s169, s170, s171, s172, s173, s174, s175, s176, s177, s178, s179, s180, s181, s182, s183, s184, s185, s186, s187, s188, s189, s190, s191, s192, s193, s194, s195, s196, s197, s198, s199, s200, s201, s202, s203, s204, s205, s206, s207, s208, s209, s210, s211, s212, s213, s214, s215, s216, s217, s218, s219, s220, s221, s222, s223, s224, s225, s226, s227, s228, s229, s230, s231, s232, s233, s234, s235, s236, s237, s238, s239, s240, s241, s242, s243, s244, s245, s246, s247, s248, s249, s250, s251, s252, s253, s254, s255, s256, s257, s258, s259, s260, s261, s262, s263, s264, s265, s266, s267, s268, s269, s270, s271, s272, s273, s274, s275, s276, s277, s278, s279, s280, s281, s282, s283, s284, s285, s286, s287, s288, s289, s290, s291, s292, s293, s294, s295, s296, s297, s298, s299, s300, s301, s302, s303, s304, s305, s306, s307, s308, s309, s310, s311, s312, s313, s314, s315, s316, s317, s318, s319, s320, s321, s322, s323, s324, s325, s326, s327, s328, s329, s330, s331, s332, s333, s334, s335, s336, s337, s338, s339, s340, s341, s342, s343, s344, s345, s346, s347, s348, s349, s350], []⟩ w := by
  have h13 := hF.h13
  have hAB := hF.hAB
  have c1 := hF.c1
  subst hta
  have EQ := eqPlace
  have hn13 : n13 < w.heap.size := block_lt c1
  have hS3 : S ≤ 3 := hB.s1.2
  have hS1 : 1 ≤ S := hB.s1.1
  have hW4 : (a : Int) < W := by omega
  have hwB : B + 1 < w.heap.size := hA.tk.lt
  have hAB2 : A ≤ B := hAB
  obtain ⟨aS, haS⟩ : ∃ aS, aS = a * S := ⟨_, rfl⟩
  have hmul : (a : Int) * (S : Int) = (aS : Int) := by rw [haS]; simp
  have hm : ∀ r, r < S → aS + r < L.length := fun r hr => by rw [haS]; exact hB.placed.lt haW hr
  have hsm := hB.small
  have hm0 := hm 0 (by omega)
  have haS12 : aS < 12 := by omega
  have HM : Hid (∀ r, r < S → aS + r < L.length) := hm
  have HAS := Lib.hid haS
  have P1 : Hid (∀ w1 f x y, Win w.heap.size (w.heap.size + 1) w w1 → RmRel L a S 0 f x y → Calls Try.prog 22 #[.pointer (some ⟨A, 0, none⟩), .int .i64 a] w1 fun e w' => e = .returned (.tuple #[.agg #[.int .i64 x, .int .i64 y], errV f]) ∧ Below w1.heap.size w1 w') := fun w1 f x y hw hr => room_is w1 (hB.win hw (.inl (by omega))) haW hr
  have SM : Hid (∀ (f : Int) w1, 0 ≤ f → Calls Try.prog 9 #[errV f, .int .i64 f] w1 fun e w' => e = .returned (.bool true) ∧ w' = w1) := fun f w1 h => same_any f h w1
  have HD : Hid (∀ w1 (m : Nat) (hm : m < L.length), Win w.heap.size (w.heap.size + 1) w w1 → w1.cell? ⟨B, m, none⟩ = some (.bool L[m].taken) ∧ w1.cell? ⟨n13, 1, none⟩ = some (.int .i64 a)) := fun w1 m hm hw => ⟨(World.cell?_of_block (w := w) (a := ⟨B, m, none⟩) (hw.block B (by omega) (.inl (by omega)))).trans (hA.cellOn hm), (World.cell?_of_block (w := w) (a := ⟨n13, 1, none⟩) (hw.block n13 hn13 (.inl hn13))).trans c1⟩
  have HA := Lib.hid hA
  have HB := Lib.hid hB
  have R0 : Hid (RmRel L a S S 8 0 0) := .inl ⟨rfl, rfl, rfl, fun j _ h1 h2 => by omega⟩
  obtain ⟨w0, hw0⟩ : ∃ w0, w0 = w.alloc (.cells #[.int .i64 0, .int .i64 0] 54) := ⟨_, rfl⟩
  obtain ⟨G, hG⟩ : ∃ G, G = w.heap.size := ⟨_, rfl⟩
  have B0 : Hid (Blk w0 G 54 [.int .i64 0, .int .i64 0]) := by rw [hw0, hG]; exact Blk.new w _ _
  have W0 : Win w.heap.size (w.heap.size + 1) w w0 := by rw [hw0]; exact Win.of_blw (blw_box _)
  have hGB : B + 1 < G := by omega
  have hG13 : n13 < G := by omega
  have hGw := Lib.hid hG
  have HW0 := Lib.hid hw0
  rw [← hG] at P1 HD W0
  clear hB hA hm hm0 haS hG hw0
  clear hF
  conv => arg 2; whnf
  go_upto_block 3 with fail
  rw [← HW0.out, ← hGw.out]
  have C1 := Lib.hid c1
  clear HW0 c1
  go_wp2_with fail
  go_loopg [23, 25] S (fun gg fv nv wr => ∃ (r : Nat) (f x y nI : Int), gg = r ∧ r ≤ S ∧ fv = .int .i64 f ∧ nv = .int .i64 nI ∧ Hid (nI = (r : Int) - 1) ∧ Hid (Blk wr G 54 [.int .i64 x, .int .i64 y]) ∧ Hid (RmRel L a S r f x y) ∧ Win G (G + 1) w wr)
  case atStart => exact ⟨S, 8, 0, 0, _, rfl, Nat.le_refl _, rfl, rfl, rfl, B0, R0, W0⟩
  case round =>
    obtain ⟨r, f, x, y, nI, hgk, hr, rfl, rfl, HN, HX, HR, hw⟩ := hrel
    have HGK := Lib.hid hgk
    clear hgk
    cases r with
    | zero =>
      obtain rfl : nI = -1 := HN.out
      clear HN HM HD
      have hf := HR.out.pos
      have PR := Lib.hid (P1.out wr f x y hw HR.out)
      have SF : Hid (∀ w1, Calls Try.prog 9 #[errV f, .int .i64 f] w1 fun e w' => e = .returned (.bool true) ∧ w' = w1) := fun w1 => SM.out f w1 hf
      have c1 : wr.cell? ⟨n13, 1, none⟩ = some (.int .i64 a) := (World.cell?_of_block (w := w) (a := ⟨n13, 1, none⟩) (hw.block n13 hn13 (.inl hG13))).trans C1.out
      have g0 := HX.out.at (i := 0) (v := .int .i64 x) rfl
      have g1 := HX.out.at (i := 1) (v := .int .i64 y) rfl
      generalize errV f = ev at *
      clear P1 SM
      go_wp2_with (first | (go_at_call 22; refine PR.out.mono ?_; rintro _ w1 ⟨rfl, hb1⟩; have u0 := cell_blw g0 hb1; have u1 := cell_blw g1 hb1; have hlt1 := block_lt u0; simp only at hlt1) | (go_at_call 9; refine (SF.out _).mono ?_; rintro _ w9 ⟨rfl, h9⟩; rw [h9]; clear h9 w9))
      exact HK.out _ _ _ _ _ _ _ _ _ _ _ _ _ _ _ _ _ _ _ _ _ _ _ _ _ _ _ _ _ _ _ _ _ _ _ _ _ _ _ _ _ _ _ _ _ _ _ _ _ _ _ _ _ _ _ _ _ _ _ _ _ _ _ _ _ _ _ _ _ _ _ _ _ _ _ _ _ _ _ _ _ _ _ _ _ _ _ _ _ _ _ _ _ _ _ _ _ _ _ _ _ _ _ _ _ _ _ _ _ _ _ _ _ _ _ L O I ((HB.out.win hw (.inl (by omega))).blw (blw_step hb1 (blw_box _))) hJ ((Arr.of (HA.out) hw (by omega)).blw (blw_step hb1 (blw_box _))) ((Win.up hw (by rw [hGw.out]; exact Nat.le_refl _)).trans (Win.of_blw (blw_step hb1 (blw_box _))))
    | succ r =>
      obtain rfl : nI = (r : Int) := by have := HN.out; omega
      have hrS : r < S := by omega
      have hml := HM.out r hrS
      obtain ⟨m, hme⟩ : ∃ m, m = aS + r := ⟨_, rfl⟩
      have hadd : (aS : Int) + (r : Int) = (m : Int) := by rw [hme]; simp
      rw [← hme] at hml
      have hm12 : m < 12 := by omega
      obtain ⟨e0, e1⟩ := HD.out wr m hml hw
      have g0 := HX.out.at (i := 0) (v := .int .i64 x) rfl
      have g1 := HX.out.at (i := 1) (v := .int .i64 y) rfl
      have y0 := HX.out.frozen 0
      have y1 := HX.out.frozen 1
      have e2 : a * S + r = m := by rw [← HAS.out, hme]
      have HT : Hid (L[m].taken = true → RmRel L a S r f x y) := fun ht => HR.out.on (by rw [e2]; exact hml) (by simp only [e2]; exact ht)
      have HO : Hid (L[m].taken = false → RmRel L a S r 0 a r) := fun ht => RmRel.off hrS (by rw [e2]; exact hml) (by simp only [e2]; exact ht)
      clear e2 hme HR HN P1 SM
      generalize L[m].taken = tk at *
      cases tk with
      | true =>
        have HT' := Lib.hid (HT.out rfl)
        clear HT HO
        go_wp2
        go_roundg r
        case measure => have := HGK.out; omega
        case rel => exact ⟨r, f, x, y, _, rfl, by omega, rfl, rfl, rfl, HX, HT', hw⟩
      | false =>
        have HO' := Lib.hid (HO.out rfl)
        clear HT HO
        go_wp2
        go_roundg r
        case measure => have := HGK.out; omega
        case rel => exact ⟨r, 0, a, r, _, rfl, by omega, rfl, rfl, rfl, (HX.out.set 0 _).set 1 _, HO', (hw.store _ (Nat.le_refl _) (Nat.lt_succ_self _)).store _ (Nat.le_refl _) (Nat.lt_succ_self _)⟩

end Go.Proofs.Ytilgiehcpmafgaa
