/- Journals: the law TopJournal: an entry that is read is held against the one that was written. -/
import Derived.Test.YtifbjngkdifenaaDoorJ11
import Derived.Lib.QuietBelow
namespace Go.Proofs.YtifbjngkdifenaaDoor
open Go.ChangeShapes Go.WideShapes Go.ChangeAt Go.RowKit
open Num
set_option maxRecDepth 1000000 in
set_option maxHeartbeats 4000000 in
theorem r32_any (ga oa qa ca gx ox qx cx j : Nat) (k : ByteArray) (n1 n2 t1 t2 : Option Addr) (nl cn1 cn2 tl ct1 ct2 : Nat) (w : World) (K : Act → World → Prop) (s1 s2 s3 s4 s5 s6 s7 s8 s9 s10 s12 s14 s15 s16 s17 s18 s19 s20 s21 s22 s23 s24 s25 s26 s27 s28 s29 s30 s31 s32 s33 s34 s35 s36 s37 s38 s39 s40 s41 s42 s43 s44 s45 s46 s47 s48 s49 s50 s51 s52 s53 s54 s55 s56 s57 s58 s59 s60 s61 s62 s63 s64 s65 s66 s67 s68 s69 s70 s71 s72 s73 s74 s75 s76 s77 s78 s79 s80 s81 s82 s83 s84 s85 s86 s87 s88 s89 s90 s91 s92 s93 s94 s95 s96 s97 s98 s99 s100 s101 s102 s103 s104 s105 s106 s107 s108 s109 s110 s111 s112 s113 s114 s115 s116 s117 s118 s119 s120 s121 s122 s123 s124 s125 s126 s127 s128 s129 s130 s131 s132 s133 s134 s135 s136 s137 s138 s139 s140 s141 s142 s143 s144 s145 s146 s147 s148 s149 s150 s151 s152 s153 s154 : Value)
    (hja : j < qa) (hjx : j < qx)
    (a0 : w.cell? ⟨ga, oa + j * 3, none⟩ = some (.string k)) (a1 : w.cell? ⟨ga, oa + j * 3 + 1, none⟩ = some (.slice n1 nl cn1)) (a2 : w.cell? ⟨ga, oa + j * 3 + 2, none⟩ = some (.slice t1 tl ct1))
    (x0 : w.cell? ⟨gx, ox + j * 3, none⟩ = some (.string k)) (x1 : w.cell? ⟨gx, ox + j * 3 + 1, none⟩ = some (.slice n2 nl cn2)) (x2 : w.cell? ⟨gx, ox + j * 3 + 2, none⟩ = some (.slice t2 tl ct2))
    (SN : Hid (∀ w1, Below w.heap.size w w1 → Calls Tryd.prog 14 #[.slice n2 nl cn2, .slice n1 nl cn1] w1 fun e w' => e = .returned (.bool true) ∧ Below w1.heap.size w1 w'))
    (ST : Hid (∀ w1, Below w.heap.size w w1 → Calls Tryd.prog 15 #[.slice t2 tl ct2, .slice t1 tl ct1] w1 fun e w' => e = .returned (.bool true) ∧ Below w1.heap.size w1 w'))
    (HK : Hid (∀ (z116 z117 z118 z119 z120 z121 z122 z123 z124 z125 z126 z127 z128 z129 z130 z131 z132 z133 z134 z135 z136 z137 z138 z139 z140 z141 z142 z143 z144 z145 z146 z147 z148 z149 z150 z151 z152 z153 : Value) (wx : World), Below w.heap.size w wx → K ⟨#[.slice (some ⟨ga, oa, none⟩) qa ca, s1, s2, s3, s4, s5, s6, s7, s8, s9, s10, .slice (some ⟨gx, ox, none⟩) qx cx, s12, .int .i64 j, s14, s15, s16, s17, s18, s19, s20, s21, s22, s23, s24, s25, s26, s27, s28, s29, s30, s31, s32, s33, s34, s35, s36, s37, s38, s39, s40, s41, s42, s43, s44, s45, s46, s47, s48, s49, s50, s51, s52, s53, s54, s55, s56, s57, s58, s59, s60, s61, s62, s63, s64, s65, s66, s67, s68, s69, s70, s71, s72, s73, s74, s75, s76, s77, s78, s79, s80, s81, s82, s83, s84, s85, s86, s87, s88, s89, s90, s91, s92, s93, s94, s95, s96, s97, s98, s99, s100, s101, s102, s103, s104, s105, s106, s107, s108, s109, s110, s111, s112, s113, s114, s115, z116, z117, z118, z119, z120, z121, z122, z123, z124, z125, z126, z127, z128, z129, z130, z131, z132, z133, z134, z135, z136, z137, z138, z139, z140, z141, z142, z143, z144, z145, z146, z147, z148, z149, z150, z151, z152, z153, .bool false], []⟩ wx)) :
    Code.wp Tryd.prog (regionIn Tryd.f4.body 32) (Exit.then K fun _ _ _ => False) ⟨#[.slice (some ⟨ga, oa, none⟩) qa ca, s1, s2, s3, s4, s5, s6, s7, s8, s9, s10, .slice (some ⟨gx, ox, none⟩) qx cx, s12, .int .i64 j, s14, s15, s16, s17, s18, s19, s20, s21, s22, s23, s24, s25, s26, s27, s28, s29, s30, s31, s32, s33, s34, s35, s36, s37, s38, s39, s40, s41, s42, s43, s44, s45, s46, s47, s48, s49, s50, s51, s52, s53, s54, s55, s56, s57, s58, s59, s60, s61, s62, s63, s64, s65, s66, s67, s68, s69, s70, s71, s72, s73, s74, s75, s76, s77, s78, s79, s80, s81, s82, s83, s84, s85, s86, s87, s88, s89, s90, s91, s92, s93, s94, s95, s96, s97, s98, s99, s100, s101, s102, s103, s104, s105, s106, s107, s108, s109, s110, s111, s112, s113, s114, s115, s116, s117, s118, s119, s120, s121, s122, s123, s124, s125, s126, s127, s128, s129, s130, s131, s132, s133, s134, s135, s136, s137, s138, s139, s140, s141, s142, s143, s144, s145, s146, s147, s148, s149, s150, s151, s152, s153, s154], []⟩ w := by
  have hmix : Tryd.prog.follows .mixedOrders = true := by kernel_rfl
  have K1 : Hid (∀ d os, Calls Tryd.prog 14 #[.slice n2 nl cn2, .slice n1 nl cn1] (Sort.grow (redrawn w d) os) fun e w'' => e = .returned (.bool true) ∧ ∃ p : Regrown, w'' = Sort.grow (redrawn w p.d) p.os) := fun d os => Calls.regrown_of (SN.out _ (below_regrown w d os))
  have K2 : Hid (∀ d os, Calls Tryd.prog 15 #[.slice t2 tl ct2, .slice t1 tl ct1] (Sort.grow (redrawn w d) os) fun e w'' => e = .returned (.bool true) ∧ ∃ p : Regrown, w'' = Sort.grow (redrawn w p.d) p.os) := fun d os => Calls.regrown_of (ST.out _ (below_regrown w d os))
  have a0' : ∀ d os, (Sort.grow (redrawn w d) os).cell? ⟨ga, oa + j * 3, none⟩ = some (.string k) := fun d os => cell_below a0 (below_regrown w d os)
  have a1' : ∀ d os, (Sort.grow (redrawn w d) os).cell? ⟨ga, oa + j * 3 + 1, none⟩ = some (.slice n1 nl cn1) := fun d os => cell_below a1 (below_regrown w d os)
  have a2' : ∀ d os, (Sort.grow (redrawn w d) os).cell? ⟨ga, oa + j * 3 + 2, none⟩ = some (.slice t1 tl ct1) := fun d os => cell_below a2 (below_regrown w d os)
  have x0' : ∀ d os, (Sort.grow (redrawn w d) os).cell? ⟨gx, ox + j * 3, none⟩ = some (.string k) := fun d os => cell_below x0 (below_regrown w d os)
  have x1' : ∀ d os, (Sort.grow (redrawn w d) os).cell? ⟨gx, ox + j * 3 + 1, none⟩ = some (.slice n2 nl cn2) := fun d os => cell_below x1 (below_regrown w d os)
  have x2' : ∀ d os, (Sort.grow (redrawn w d) os).cell? ⟨gx, ox + j * 3 + 2, none⟩ = some (.slice t2 tl ct2) := fun d os => cell_below x2 (below_regrown w d os)
  clear SN ST
  conv => arg 2; whnf
  dsimp only
  refine wp_region_quiet_below hmix (by kernel_rfl) ?_
  repeat (first | go_big_quiet_step (first | (go_at_call 14; exact K1.out _ _) | (go_at_call 15; exact K2.out _ _)) | quiet_step (first | (go_at_call 14; exact K1.out _ _) | (go_at_call 15; exact K2.out _ _)))
  refine wpQuiet_nil ?_
  intro _ hw2
  obtain ⟨⟨dq2, osq2⟩, hw2'⟩ := hw2
  subst hw2'
  have hb4 : Below w.heap.size w (Sort.grow (redrawn w dq2) osq2) := below_regrown w dq2 osq2
  generalize Sort.grow (redrawn w dq2) osq2 = w4 at *
  go_wp2
  exact HK.out _ _ _ _ _ _ _ _ _ _ _ _ _ _ _ _ _ _ _ _ _ _ _ _ _ _ _ _ _ _ _ _ _ _ _ _ _ _ w4 hb4
end Go.Proofs.YtifbjngkdifenaaDoor
