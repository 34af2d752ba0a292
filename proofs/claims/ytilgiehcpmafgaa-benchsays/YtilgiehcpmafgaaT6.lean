/- Tasks: has a job's tasks what their model has? Acts as they lie in memory. -/
import Derived.Test.YtilgiehcpmafgaaT5
namespace Go.Proofs.Ytilgiehcpmafgaa
open Go.ChangeShapes Go.WideShapes Go.ChangeAt Go.RowKit
open Tk
/-- An act. -/
structure ActV where
  kind : ByteArray
  a : Int
  b : Int
  c : Int
  fold : Bool
  prog : ByteArray
  input : ByteArray
/-- A slice of acts. -/
def IsActs (w : World) (v : Value) (l : List ActV) : Prop :=
  ∃ a cap, v = .slice a l.length cap ∧ ∀ i (h : i < l.length), ∃ b off, a = some ⟨b, off, none⟩ ∧ w.cell? ⟨b, off + i * 7, none⟩ = some (.string l[i].kind) ∧ w.cell? ⟨b, off + i * 7 + 1, none⟩ = some (.int .i64 l[i].a) ∧ w.cell? ⟨b, off + i * 7 + 2, none⟩ = some (.int .i64 l[i].b) ∧ w.cell? ⟨b, off + i * 7 + 3, none⟩ = some (.int .i64 l[i].c) ∧ w.cell? ⟨b, off + i * 7 + 4, none⟩ = some (.bool l[i].fold) ∧ w.cell? ⟨b, off + i * 7 + 5, none⟩ = some (.string l[i].prog) ∧ w.cell? ⟨b, off + i * 7 + 6, none⟩ = some (.string l[i].input)
set_option maxRecDepth 100000 in
set_option maxHeartbeats 1000000 in
theorem lightActs_any (v : Value) (l : List ActV) (most : Int) (w : World) (h : IsActs w v l) (hl : l.length ≤ maxLen) :
    Calls Try.prog 6 #[v, .int .i64 most] w fun e w' => (e = .returned (.bool true) ∨ e = .returned (.bool false)) ∧ w' = w := by
  unfold maxLen at hl
  obtain ⟨ao, cap, rfl, hc⟩ := h
  have HC := Lib.hid hc
  clear hc
  cases g0 : decide (most < (l.length : Int)) with
  | true =>
    go_enter Try.func6, Try.ntmps6
    go_wp2
    go_ret
    exact ⟨.inr rfl, rfl⟩
  | false =>
    go_enter Try.func6, Try.ntmps6
    go_wp2
    go_loop [5, 6] (fun nv kv => ∃ (k : Nat) (x : Int), k ≤ l.length ∧ kv = .int .i64 k ∧ nv = .int .i64 x) (fun _ kv => l.length - (intOf kv).toNat)
    case atStart => exact ⟨0, 0, Nat.zero_le _, rfl, rfl⟩
    case round =>
      obtain ⟨k, x, hk, rfl, rfl⟩ := hrel
      by_cases hlt : k < l.length
      · obtain ⟨b, off, rfl, _, _, _, _, _, c5, c6⟩ := HC.out k hlt
        clear HC
        generalize l[k].prog = p at c5
        generalize l[k].input = q at c6
        obtain ⟨y, hy⟩ : ∃ y, y = IntKind.i64.wrap (x + (q.size : Int)) := ⟨_, rfl⟩
        cases g1 : decide ((900 : Int) < p.size) with
        | true =>
          go_wp2
          go_ret
          exact ⟨.inr rfl, rfl⟩
        | false =>
          cases g2 : decide ((3000 : Int) < q.size) with
          | true =>
            go_wp2
            go_ret
            exact ⟨.inr rfl, rfl⟩
          | false =>
            go_wp2
            all_goals first
              | (go_ret; exact ⟨.inr rfl, rfl⟩)
              | (go_round
                 case rel => exact ⟨k + 1, _, by omega, by go_num, rfl⟩
                 case measure => simp [intOf]; omega)
      · clear HC
        go_wp2
        go_ret
        exact ⟨.inl rfl, rfl⟩
/-- How many are done, as the law counts them, behind k of the two kinds. -/
def dsAt (a b : List Int) : Nat → List Int
  | 0 => [0, 0]
  | 1 => [(cnt a : Int), 0]
  | _ => [(cnt a : Int), (cnt b : Int)]
theorem dsAt_len (a b : List Int) (k : Nat) : (dsAt a b k).length = 2 := by unfold dsAt; split <;> rfl
theorem dsAt_step (a b : List Int) (k : Nat) (h : k < 2) : (dsAt a b k).set k (cnt (sel ((k : Int) == 1) a b)) = dsAt a b (k + 1) := by
  have : k = 0 ∨ k = 1 := by omega
  rcases this with rfl | rfl <;> rfl
theorem dsAt_zero (a b : List Int) (k : Nat) (h : k < 2) : (dsAt a b k).set k 0 = dsAt a b k := by
  have : k = 0 ∨ k = 1 := by omega
  rcases this with rfl | rfl <;> rfl
theorem set_set (l : List Int) (k : Nat) (x y : Int) : (l.set k x).set k y = l.set k y := by simp
theorem cnt_take (l : List Int) (k : Nat) (h : k < l.length) : cnt (l.take (k + 1)) = cnt (l.take k) + if l[k] == 2 then 1 else 0 := by
  rw [List.take_succ_eq_append_getElem h, cnt_snoc]
set_option maxRecDepth 100000 in
set_option maxHeartbeats 4000000 in
theorem asTasks_any {lo hi P lo' hi' Q : Nat} {va vb vc ua ub uc : Value} {a b c : List Int} (w : World) (h1 : IsT 70 w lo hi P va vb vc a b c) (h2 : IsT 72 w lo' hi' Q ua ub uc a b c) :
    Calls Try.prog 17 #[.pointer (some ⟨P, 0, none⟩), .pointer (some ⟨Q, 0, none⟩)] w fun e w' => e = .returned (.bool true) ∧ Below w.heap.size w w' := by
  have N1 := Lib.hid (next_any w h1)
  have N2 : Hid (∀ w1, Below w.heap.size w w1 → Calls Try.prog 36 #[.pointer (some ⟨Q, 0, none⟩)] w1 fun e w' => e = .returned (.tuple #[.bool (next a b).1, .int .i64 (next a b).2.1, .bool (next a b).2.2]) ∧ w' = w1) := fun w1 hb => nextOf_any w1 (h2.blw hb)
  have M1 : Hid (∀ w1, Below w.heap.size w w1 → Calls Try.prog 34 #[.pointer (some ⟨P, 0, none⟩)] w1 fun e w' => e = .returned (.bool (allD a)) ∧ Below w1.heap.size w1 w') := fun w1 hb => mapped_any w1 (h1.blw hb)
  have M2 : Hid (∀ w1, Below w.heap.size w w1 → Calls Try.prog 37 #[.pointer (some ⟨P, 0, none⟩)] w1 fun e w' => e = .returned (.bool (allD b)) ∧ Below w1.heap.size w1 w') := fun w1 hb => out_any w1 (h1.blw hb)
  have O1 : Hid (∀ w1, Below w.heap.size w w1 → Calls Try.prog 32 #[.pointer (some ⟨Q, 0, none⟩), .bool false] w1 fun e w' => e = .returned (.bool (allD a)) ∧ w' = w1) := fun w1 hb => over_any w1 (h2.blw hb) false
  have O2 : Hid (∀ w1, Below w.heap.size w w1 → Calls Try.prog 32 #[.pointer (some ⟨Q, 0, none⟩), .bool true] w1 fun e w' => e = .returned (.bool (allD b)) ∧ w' = w1) := fun w1 hb => over_any w1 (h2.blw hb) true
  have CT : Hid (∀ w1, Below w.heap.size w w1 → Calls Try.prog 38 #[.pointer (some ⟨P, 0, none⟩)] w1 fun e w' => e = .returned (.tuple #[.int .i64 (cnt a), .int .i64 (cnt b)]) ∧ Below w1.heap.size w1 w') := fun w1 hb => count_any w1 (h1.blw hb)
  have LS : Hid (∀ w1, Below w.heap.size w w1 → ∀ fold, Calls Try.prog 31 #[.pointer (some ⟨Q, 0, none⟩), .bool fold] w1 fun e w' => e = .returned (if fold then ub else ua) ∧ w' = w1) := fun w1 hb fold => (h2.blw hb).list fold
  have SI : Hid (∀ w1, Below w.heap.size w w1 → ∀ fold k (hk : k < (sel fold a b).length), Calls Try.prog 33 #[.pointer (some ⟨P, 0, none⟩), .bool fold, .int .i64 k] w1 fun e w' => e = .returned (.tuple #[.int .i64 ((sel fold a b)[k]), .nilIface]) ∧ w' = w1) := fun w1 hb fold k hk => state_in w1 (h1.blw hb) fold k hk
  have SO : Hid (∀ w1, Below w.heap.size w w1 → ∀ fold (i : Int) (hi : i < 0 ∨ ((sel fold a b).length : Int) ≤ i), Calls Try.prog 33 #[.pointer (some ⟨P, 0, none⟩), .bool fold, .int .i64 i] w1 fun e w' => e = .returned (.tuple #[.int .i64 0, .iface 68 (.int .i64 5)]) ∧ w' = w1) := fun w1 hb fold i hi => state_out w1 (h1.blw hb) fold i hi
  have SM : Hid (∀ w1, Calls Try.prog 9 #[.iface 68 (.int .i64 5), .int .i64 5] w1 fun e w' => e = .returned (.bool true) ∧ w' = w1) := fun w1 => same_any 5 (by omega) w1
  have PK : Hid (∀ w1, Below w.heap.size w w1 → ∀ fold, IsIs w1 (if fold then ub else ua) (sel fold a b)) := fun w1 hb fold => (h2.blw hb).pick fold
  have SL : Hid (∀ fold, (sel fold a b).length ≤ 60) := fun fold => sel_len h1 fold
  clear h1 h2
  generalize (next a b).1 = nx1 at *
  generalize (next a b).2.1 = nx2 at *
  generalize (next a b).2.2 = nx3 at *
  generalize allD a = da at *
  generalize allD b = db at *
  go_enter Try.func17, Try.ntmps17
  go_wp2_with (first | (go_at_call 28; refine N1.out.mono ?_; rintro _ w1 ⟨rfl, hb1⟩) | (go_at_call 36; refine (N2.out _ hb1).mono ?_; rintro _ w9 ⟨rfl, h9⟩; rw [h9]; clear h9 w9) | (go_at_call 34; refine (M1.out _ hb1).mono ?_; rintro _ w2 ⟨rfl, hb2⟩; have bb2 := blw_step hb1 hb2) | (go_at_call_of 32 (Value.bool false); refine (O1.out _ bb2).mono ?_; rintro _ w9 ⟨rfl, h9⟩; rw [h9]; clear h9 w9) | (go_at_call 37; refine (M2.out _ bb2).mono ?_; rintro _ w3 ⟨rfl, hb3⟩; have bb3 := blw_step bb2 hb3) | (go_at_call_of 32 (Value.bool true); refine (O2.out _ bb3).mono ?_; rintro _ w9 ⟨rfl, h9⟩; rw [h9]; clear h9 w9))
  have bb4 : Below w.heap.size w (w3.alloc (.cells #[.int .i64 0, .int .i64 0] 79)) := blw_step bb3 (blw_box _)
  have BD : Hid (Blk (w3.alloc (.cells #[.int .i64 0, .int .i64 0] 79)) w3.heap.size 79 (cellsI (dsAt a b 0))) := Blk.new w3 _ _
  have hD := bb3.size
  generalize w3.alloc (.cells #[.int .i64 0, .int .i64 0] 79) = w4 at *
  generalize w3.heap.size = D at *
  clear N1 N2 M1 M2 O1 O2 hb1 hb2 hb3 bb2 bb3
  go_loopw [12] (fun kv wr => ∃ k : Nat, k ≤ 2 ∧ kv = .int .i64 k ∧ Below w.heap.size w wr ∧ Hid (Blk wr D 79 (cellsI (dsAt a b k)))) (fun kv _ => 2 - (intOf kv).toNat)
  case atStart => exact ⟨0, by omega, rfl, bb4, BD.out⟩
  case round =>
    obtain ⟨k, hk, rfl, hb5, HB⟩ := hrel
    clear BD bb4
    by_cases hlt : k < 2
    · obtain ⟨fold, hfold⟩ : ∃ f, ((k : Int) == 1) = f := ⟨_, rfl⟩
      have HST := Lib.hid (dsAt_step a b k hlt)
      have HZ := Lib.hid (dsAt_zero a b k hlt)
      have hdl := dsAt_len a b k
      rw [hfold] at HST
      have HB2 : Hid (Blk wr D 79 (cellsI ((dsAt a b k).set k (cnt ((sel fold a b).take 0))))) := by
        have e : (dsAt a b k).set k ((cnt ((sel fold a b).take 0) : Nat) : Int) = dsAt a b k := HZ.out
        show Blk _ _ _ _
        rw [e]
        exact HB.out
      have L0 := LS.out wr hb5 fold
      obtain ⟨ao, cap, ev, hcell⟩ := PK.out wr hb5 fold
      rw [ev] at L0
      have HL0 := Lib.hid L0
      have HSI := Lib.hid (fun w1 hb => SI.out w1 hb fold)
      have HSO := Lib.hid (fun w1 hb => SO.out w1 hb fold)
      have HCELL : Hid (∀ w1, Below w.heap.size w w1 → ∀ j (h : j < (sel fold a b).length), ∃ g off, ao = some ⟨g, off, none⟩ ∧ w1.cell? ⟨g, off + j, none⟩ = some (.int .i64 (sel fold a b)[j])) := fun w1 hb => by
        obtain ⟨ao', cap', ev', hc'⟩ := PK.out w1 hb fold
        rw [ev] at ev'
        injection ev' with e1 e2 e3
        rw [e1]
        exact hc'
      have hn60 := SL.out fold
      clear L0 ev hcell HB HZ
      generalize sel fold a b = L at *
      obtain ⟨ds2, hds2⟩ : ∃ ds2, ds2 = dsAt a b (k + 1) := ⟨_, rfl⟩
      rw [← hds2] at HST
      have HD2 := Lib.hid hds2
      clear hds2
      generalize dsAt a b k = ds at *
      obtain ⟨n, hn⟩ : ∃ n, n = L.length := ⟨_, rfl⟩
      rw [← hn] at HL0 hn60
      have HN := Lib.hid hn
      clear hn
      generalize wr = w5 at *
      go_wp2_with (go_at_call 31; refine HL0.out.mono ?_; rintro _ w9 ⟨rfl, h9⟩; rw [h9]; clear h9 w9)
      go_loopw [14] (fun iv wr => ∃ i : Int, -1 ≤ i ∧ i ≤ n + 1 ∧ iv = .int .i64 i ∧ Below w.heap.size w wr ∧ Hid (Blk wr D 79 (cellsI (ds.set k (cnt (L.take i.toNat)))))) (fun iv _ => ((n : Int) + 1 - intOf iv).toNat)
      case atStart => exact ⟨-1, by omega, by omega, rfl, hb5, HB2.out⟩
      case round =>
        obtain ⟨i, hi1, hi2, rfl, hb6, HB3⟩ := hrel
        clear HB2 HL0 hb5
        by_cases hin : i ≤ n
        · by_cases hneg : i < 0
          · have S0 := Lib.hid (HSO.out wr hb6 i (.inl hneg))
            have HB4 : Hid (Blk wr D 79 (cellsI (ds.set k (cnt (L.take (i + 1).toNat))))) := by
              have e1 : (i + 1).toNat = i.toNat := by omega
              show Blk _ _ _ _
              rw [e1]
              exact HB3.out
            have g1 : decide (i < 0) = true := decide_eq_true hneg
            clear HSO HSI HCELL HB3
            go_wp2_with (first | (go_at_call 33; refine S0.out.mono ?_; rintro _ w9 ⟨rfl, h9⟩; rw [h9]; clear h9 w9) | (go_at_call 9; refine (SM.out _).mono ?_; rintro _ w9 ⟨rfl, h9⟩; rw [h9]; clear h9 w9))
            go_roundw
            case rel => exact ⟨i + 1, by omega, by omega, by go_num, hb6, HB4⟩
            case measure => simp [intOf]; omega
          · by_cases hie : i = n
            · have S0 := Lib.hid (HSO.out wr hb6 i (.inr (by have := HN.out; omega)))
              have HB4 : Hid (Blk wr D 79 (cellsI (ds.set k (cnt (L.take (i + 1).toNat))))) := by
                have e1 : L.take (i + 1).toNat = L.take i.toNat := by
                  rw [List.take_of_length_le (by have := HN.out; omega), List.take_of_length_le (by have := HN.out; omega)]
                show Blk _ _ _ _
                rw [e1]
                exact HB3.out
              have g1 : decide (i < 0) = false := decide_eq_false hneg
              have g2 : (i == (n : Int)) = true := by simpa using hie
              have HIE := Lib.hid hie
              clear HSO HSI HCELL HB3 hie
              go_wp2_with (first | (go_at_call 33; refine S0.out.mono ?_; rintro _ w9 ⟨rfl, h9⟩; rw [h9]; clear h9 w9) | (go_at_call 9; refine (SM.out _).mono ?_; rintro _ w9 ⟨rfl, h9⟩; rw [h9]; clear h9 w9))
              go_roundw
              case rel => exact ⟨i + 1, by omega, by omega, by go_num, hb6, HB4⟩
              case measure => simp [intOf]; omega
            · obtain ⟨j, rfl⟩ := Int.eq_ofNat_of_zero_le (a := i) (by omega)
              have hjL : j < L.length := by have := HN.out; omega
              have S0 := Lib.hid (HSI.out wr hb6 j hjL)
              obtain ⟨g, off, rfl, c0⟩ := HCELL.out wr hb6 j hjL
              have hkd : k < (cellsI (ds.set k (cnt (L.take (j : Int).toNat)))).length := by rw [cellsI_length, List.length_set]; omega
              have HCN : Hid (∀ x : Int, L[j] = x → cnt (L.take ((j : Int) + 1).toNat) = cnt (L.take j) + if x == 2 then 1 else 0) := fun x hx => by
                have e1 : ((j : Int) + 1).toNat = j + 1 := by omega
                rw [e1, cnt_take L j hjL, hx]
              have HX : Hid (∃ x : Int, L[j] = x) := ⟨_, rfl⟩
              have e0 : ((j : Int)).toNat = j := by omega
              rw [e0] at HB3
              have hcl := cnt_le (L.take j)
              have htl : (L.take j).length ≤ j := List.length_take_le _ _
              have cD : wr.cell? ⟨D, k, none⟩ = some (.int .i64 (cnt (L.take j))) := HB3.out.at (by rw [cellsI_at _ _ (by rw [List.length_set]; omega), List.getElem_set_self])
              have fD := HB3.out.frozen k
              have HB4 : Hid (Blk (wr.setCell ⟨D, k, none⟩ (.int .i64 ((cnt (L.take j) : Int) + 1))) D 79 (cellsI (ds.set k ((cnt (L.take j) : Int) + 1)))) := by
                have h := HB3.out.set k (.int .i64 ((cnt (L.take j) : Int) + 1))
                rw [cellsI_set, set_set] at h
                exact h
              have hb8 : Below w.heap.size w (wr.setCell ⟨D, k, none⟩ (.int .i64 ((cnt (L.take j) : Int) + 1))) := hb6.setCell (show w.heap.size ≤ D from hD) _
              have HCN2 := HCN.out L[j] rfl
              have HCN3 := Lib.hid HCN2
              clear HCN HCN2 HX HSO HSI HCELL hkd e0
              generalize L[j] = x at *
              obtain ⟨m2, hm2⟩ : ∃ m2, m2 = cnt (L.take ((j : Int) + 1).toNat) := ⟨_, rfl⟩
              rw [← hm2] at HCN3
              have HM2 := Lib.hid hm2
              clear hm2
              generalize cnt (L.take j) = m at *
              have g1 : decide ((j : Int) < 0) = false := decide_eq_false hneg
              have hjn : j < n := by omega
              have g2 : ((j : Int) == (n : Int)) = false := by simpa using hie
              have g3 : (j == n) = false := by simp; omega
              clear hie hneg hin
              cases gx : x == 2 with
              | false =>
                have HB5 : Hid (Blk wr D 79 (cellsI (ds.set k (m2 : Int)))) := by
                  show Blk _ _ _ _
                  rw [HCN3.out, gx]
                  exact HB3.out
                clear HCN3 HB3 HB4 hb8
                go_wp2_with (go_at_call 33; refine S0.out.mono ?_; rintro _ w9 ⟨rfl, h9⟩; rw [h9]; clear h9 w9)
                go_roundw
                case rel => exact ⟨(j : Int) + 1, by omega, by omega, by go_num, hb6, by rw [← HM2.out]; exact HB5.out⟩
                case measure => simp [intOf]; omega
              | true =>
                clear HB3
                go_wp2_with (go_at_call 33; refine S0.out.mono ?_; rintro _ w9 ⟨rfl, h9⟩; rw [h9]; clear h9 w9)
                go_roundw
                case rel => exact ⟨(j : Int) + 1, by omega, by omega, by go_num, hb8, by rw [← HM2.out, HCN3.out, gx]; exact HB4.out⟩
                case measure => simp [intOf]; omega
        · have hin' : i = n + 1 := by omega
          have HB4 : Hid (Blk wr D 79 (cellsI ds2)) := by
            have h := HB3.out
            rw [List.take_of_length_le (by have := HN.out; omega), HST.out] at h
            exact h
          clear HSO HSI HCELL HB3 hin'
          go_wp2
          go_roundw
          case rel => exact ⟨k + 1, by omega, by go_num, hb6, by rw [← HD2.out]; exact HB4.out⟩
          case measure => simp [intOf]; omega
    · have hk2 : k = 2 := by omega
      have HB2 : Hid (Blk wr D 79 (cellsI [(cnt a : Int), (cnt b : Int)])) := by
        have h := HB.out
        rw [hk2] at h
        exact h
      have C0 := Lib.hid (CT.out wr hb5)
      clear HB hk2
      go_wp2_with (go_at_call 38; refine C0.out.mono ?_; rintro _ w6 ⟨rfl, hb6⟩; have B6 := HB2.out.blw hb6; have c0 := B6.at (i := 0) (v := .int .i64 (cnt a)) rfl; have c1 := B6.at (i := 1) (v := .int .i64 (cnt b)) rfl; clear B6)
      go_ret
      exact ⟨rfl, blw_step hb5 hb6⟩
end Go.Proofs.Ytilgiehcpmafgaa
