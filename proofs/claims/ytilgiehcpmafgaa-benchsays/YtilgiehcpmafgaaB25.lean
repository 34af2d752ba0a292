/- Benches: the walk of the law BenchSays. -/
import Derived.Test.YtilgiehcpmafgaaB24
namespace Go.Proofs.Ytilgiehcpmafgaa
open Go.ChangeShapes Go.WideShapes Go.ChangeAt Go.RowKit
open Bn
set_option maxRecDepth 100000 in
set_option maxHeartbeats 4000000 in
theorem benchSays_in (W S : Nat) (h1 : 1 ≤ W ∧ W ≤ 4) (h2 : 1 ≤ S ∧ S ≤ 3) (v : Value) (l : List ActV) (w : World) (h : IsActs w v l) (hl : l.length ≤ maxLen) :
    Calls Try.prog 4 #[.int .i64 W, .int .i64 S, v] w fun e w' => e = .returned (.bool true) ∧ Below w.heap.size w w' := by
  have L0 := Lib.hid (seats_any w)
  have LA : Hid (∀ w1, Below w.heap.size w w1 → Calls Try.prog 6 #[v, .int .i64 80] w1 fun e w' => (e = .returned (.bool true) ∨ e = .returned (.bool false)) ∧ w' = w1) := fun w1 hb => lightActs_any v l 80 w1 (isActs_blw h hb) hl
  obtain ⟨ao, cap, rfl, hc⟩ := h
  have HC := Lib.hid hc
  clear hc
  unfold maxLen at hl
  obtain ⟨q, hq⟩ : ∃ q, q = l.length := ⟨_, rfl⟩
  rw [← hq] at hl LA ⊢
  have HQ := Lib.hid hq
  have N1 := Lib.hid (fun w => new_good w W S h1 h2)
  obtain ⟨h1a, h1b⟩ := h1
  obtain ⟨h2a, h2b⟩ := h2
  clear hq
  go_enter Try.func4, Try.ntmps4
  go_wp2_with (first | (go_at_call 18; refine L0.out.mono ?_; rintro _ w1 ⟨rfl, hb1⟩) | (go_at_call 6; refine (LA.out _ hb1).mono ?_; rintro _ w9 ⟨rfl | rfl, h9⟩ <;> (rw [h9]; clear h9 w9)) | (go_at_call 19; refine (N1.out _).mono ?_; rintro _ w2 ⟨rfl, ⟨g, cp, hB⟩, hb2⟩))
  · have bb2 : Below w.heap.size w w2 := blw_step hb1 hb2
    have s1 : w.heap.size ≤ w1.heap.size := hb1.size
    have s2 : w1.heap.size ≤ w2.heap.size := hb2.size
    obtain ⟨A, hA⟩ : ∃ A, A = w1.heap.size := ⟨_, rfl⟩
    obtain ⟨B, hB'⟩ : ∃ B, B = w2.heap.size := ⟨_, rfl⟩
    rw [← hA, ← hB'] at hB
    have A0 : Hid (Arr 49 52 ((w2.alloc (.cells #[.bool false, .bool false, .bool false, .bool false, .bool false, .bool false, .bool false, .bool false, .bool false, .bool false, .bool false, .bool false] 49)).alloc (.cells #[.int .i64 0, .bool false, .int .i64 0, .int .i64 0, .bool false, .int .i64 0, .int .i64 0, .bool false, .int .i64 0, .int .i64 0, .bool false, .int .i64 0, .int .i64 0, .bool false, .int .i64 0, .int .i64 0, .bool false, .int .i64 0, .int .i64 0, .bool false, .int .i64 0, .int .i64 0, .bool false, .int .i64 0, .int .i64 0, .bool false, .int .i64 0, .int .i64 0, .bool false, .int .i64 0, .int .i64 0, .bool false, .int .i64 0, .int .i64 0, .bool false, .int .i64 0] 52)) B (mkL S (W * S)) ((List.range 12).map fun _ => .bool false) (((List.range 12).map fun _ => [Value.int .i64 0, .bool false, .int .i64 0]).flatten)) := by
      have hsm := hB.small
      rw [mkL_len] at hsm
      refine ⟨?_, ?_, by rw [mkL_len]; exact hsm, rfl, rfl, ?_, ?_⟩
      · rw [hB']
        exact (Blk.new w2 _ 49).blw (blw_box _)
      · have e : B + 1 = (w2.alloc (.cells #[.bool false, .bool false, .bool false, .bool false, .bool false, .bool false, .bool false, .bool false, .bool false, .bool false, .bool false, .bool false] 49)).heap.size := by rw [hB']; simp
        rw [e]
        exact Blk.new _ _ _
      · intro k hk
        rw [mkL_len] at hk
        have : k < 12 := by omega
        simp [mkL, this]
      · intro k hk ht
        simp [mkL] at ht
    have I0 := Lib.hid (hB.blw (blw_step (blw_box (.cells #[.bool false, .bool false, .bool false, .bool false, .bool false, .bool false, .bool false, .bool false, .bool false, .bool false, .bool false, .bool false] 49)) (blw_box (.cells #[.int .i64 0, .bool false, .int .i64 0, .int .i64 0, .bool false, .int .i64 0, .int .i64 0, .bool false, .int .i64 0, .int .i64 0, .bool false, .int .i64 0, .int .i64 0, .bool false, .int .i64 0, .int .i64 0, .bool false, .int .i64 0, .int .i64 0, .bool false, .int .i64 0, .int .i64 0, .bool false, .int .i64 0, .int .i64 0, .bool false, .int .i64 0, .int .i64 0, .bool false, .int .i64 0, .int .i64 0, .bool false, .int .i64 0, .int .i64 0, .bool false, .int .i64 0] 52))))
    rw [← hA, ← hB']
    have hAw : w.heap.size ≤ A := by omega
    have hAB : A ≤ B := by omega
    have HB' := Lib.hid hB'
    clear hB hA hB' s1 s2 L0 LA N1 hb1 hb2
    have J0 : Hid (JobsOk (mkL S (W * S))) := fun s hs => by
      simp only [mkL, List.mem_map] at hs
      obtain ⟨m, _, rfl⟩ := hs
      exact Int.le_refl 0
    go_loopg [12] q (fun gg kv wr => ∃ (k : Nat) (L : List Sl) (O I : List Value), k ≤ q ∧ gg = q - k ∧ kv = .int .i64 k ∧ Below w.heap.size w wr ∧ Hid (IsB wr A B A W S g cp L) ∧ Hid (JobsOk L) ∧ Hid (Arr 49 52 wr B L O I))
    case atStart => exact ⟨0, _, _, _, Nat.zero_le _, rfl, rfl, blw_step bb2 (blw_step (blw_box _) (blw_box _)), I0, J0, A0⟩
    case round =>
      obtain ⟨k, L, O, I, hk, hgk, rfl, hb4, HB, HJ, HA⟩ := hrel
      clear I0 A0 J0 bb2
      have HG := Lib.hid hgk
      clear hgk
      by_cases hlt : k < q
      · have hkl : k < l.length := by have := HQ.out; omega
        obtain ⟨g9, off, rfl, c0, c1, c2, c3, c4, c5, c6⟩ := HC.out k hkl
        replace c0 := cell_blw c0 hb4
        replace c1 := cell_blw c1 hb4
        replace c2 := cell_blw c2 hb4
        replace c3 := cell_blw c3 hb4
        replace c4 := cell_blw c4 hb4
        replace c5 := cell_blw c5 hb4
        replace c6 := cell_blw c6 hb4
        clear HC
        generalize l[k] = t at c0 c1 c2 c3 c4 c5 c6
        obtain ⟨kd, ta, tb, tc, fo, pr, inp⟩ := t
        simp only at c0 c1 c2 c3 c4 c5 c6
        have C0 := Lib.hid c0
        have C1 := Lib.hid c1
        have C2 := Lib.hid c2
        have C3 := Lib.hid c3
        have C4 := Lib.hid c4
        have C5 := Lib.hid c5
        have C6 := Lib.hid c6
        clear c0 c1 c2 c3 c4 c5 c6
        go_upto_block 1 with fail
        refine wp_norm (b1_any W S A B g cp q cap g9 off k L O I kd pr inp ta tb tc fo wr _ _ _ _ _ _ _ _ _ _ _ _ _ _ _ _ _ _ _ _ _ _ _ _ _ _ _ _ _ _ _ _ _ _ _ _ _ _ _ _ _ _ _ _ _ _ _ _ _ _ _ _ _ _ _ _ _ _ _ _ _ _ _ _ _ _ _ _ _ _ _ _ _ _ _ _ _ _ _ _ _ _ _ _ _ _ _ _ _ _ _ _ _ _ _ _ _ _ _ _ _ _ _ _ _ _ _ _ _ _ _ _ _ _ _ _ _ _ _ _ _ _ _ _ _ _ _ _ _ _ _ _ _ _ _ _ _ _ _ _ _ _ _ _ _ _ _ _ _ _ _ _ _ _ _ _ _ _ _ _ _ _ _ _ _ _ _ _ _ _ _ _ _ _ _ _ _ _ _ _ _ _ _ _ _ _ _ _ _ _ _ _ _ _ _ _ _ _ _ _ _ _ _ _ _ _ _ _ _ _ _ _ _ _ _ _ _ _ _ _ _ _ _ _ _ _ _ _ _ _ _ _ _ _ _ _ _ _ _ _ _ _ _ _ _ _ _ _ _ _ _ _ _ _ _ _ _ _ _ _ _ _ _ _ _ _ _ _ _ _ _ _ _ _ _ _ _ _ _ _ _ _ _ _ _ _ _ _ _ _ _ _ _ _ _ _ _ _ _ _ _ _ _ _ _ _ _ _ _ _ _ _ _ _ _ _ _ _ _ _ _ _ _ _ _ _ _ _ _ _ _ _ _ _ _ _ _ _ _ _ _ _ _ _ _ HB.out HA.out HJ hAB hlt C0.out C1.out C2.out C3.out C4.out C5.out C6.out ?_)
        refine Lib.hid ?_
        intro z6 z13 z14 z15 z16 z17 z18 z19 z20 z21 z22 z23 z24 z25 z26 z27 z28 z29 z30 z31 z32 z33 z34 z35 z83 z84 z85 z86 z87 z88 z89 z90 z91 z92 z93 z94 z95 z96 z97 z98 z99 z100 z101 z102 z103 z104 z105 z106 z107 z108 z109 z110 z111 z112 z113 z114 z115 z116 z117 z118 z119 z120 z121 z122 z123 z124 z125 z126 z127 z128 z129 z130 z131 z132 z133 z134 z135 z136 z137 z138 z139 z140 z141 z142 z143 z144 z145 z146 z147 z148 z149 z150 z151 z152 z153 z154 z155 z156 z157 z158 z159 z160 z161 z162 z163 z164 z165 z166 z167 z168 z169 z170 z171 z172 z173 z174 z175 z176 z177 z178 z179 z180 z181 z182 z183 z184 z185 z186 z187 z188 z189 z190 z191 z192 z193 z194 z195 z196 z197 z198 z199 z200 z201 z202 z203 z204 z205 z206 z207 z208 z209 z210 z211 z212 z213 z214 z215 z216 z217 z218 z219 z220 z221 z222 z223 z224 z225 z226 z227 z228 z229 z230 z231 z232 z233 z234 z235 z236 z237 z238 z239 z240 z241 z242 z243 z244 z245 z246 z247 z248 z249 z250 z251 z252 z253 z254 z255 z256 z257 z258 z259 z260 z261 z262 z263 z264 z265 z266 z267 z268 z269 z270 z271 z272 z273 z274 z275 z276 z277 z278 z279 z280 z281 z282 z283 z284 z285 z286 z287 z288 z289 z290 z291 z292 z293 z294 z295 z296 z297 z298 z299 z300 z301 z302 z303 z304 z305 z306 z307 z308 z309 z310 z311 z312 z313 z314 z315 z316 z317 z318 z319 z320 z321 z322 z323 z324 z325 z326 z327 z328 z329 z330 z331 z332 z333 z334 z335 z336 z337 z338 z339 z340 z341 z342 z343 z344 z345 z346 z347 z348 z349 z350 wx L' O' I' hB' hJ' hA' hw'
        have bb : Hid (Below w.heap.size w wx) := Win.blw hb4 hw' hAw
        have HB2 := Lib.hid hB'
        have HA2 := Lib.hid hA'
        clear hB' hA' hw'
        go_wp2
        go_roundg (q - (k + 1))
        case measure => have := HG.out; omega
        case rel => exact ⟨k + 1, L', O', I', by omega, rfl, by go_num, bb.out, HB2, hJ', HA2⟩
      · go_wp2
        go_ret
        exact ⟨rfl, hb4⟩
  · go_ret
    exact ⟨rfl, hb1⟩
theorem benchSays_walk (W S : Int) (v : Value) (l : List ActV) (w : World) (h : IsActs w v l) (hl : l.length ≤ maxLen) :
    Calls Try.prog 4 #[.int .i64 W, .int .i64 S, v] w fun e w' => e = .returned (.bool true) ∧ Below w.heap.size w w' := by
  by_cases hr : 1 ≤ W ∧ W ≤ 4 ∧ 1 ≤ S ∧ S ≤ 3
  · obtain ⟨W, rfl⟩ := Int.eq_ofNat_of_zero_le (a := W) (by omega)
    obtain ⟨S, rfl⟩ := Int.eq_ofNat_of_zero_le (a := S) (by omega)
    exact benchSays_in W S (by omega) (by omega) v l w h hl
  · exact benchSays_out W S hr v l w h hl
end Go.Proofs.Ytilgiehcpmafgaa
