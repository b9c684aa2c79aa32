/- The walks of the laws OctetNumbers and OctetOrder: they return true in every world and leave what lay there. -/
import Derived.Test.YtcpaclefogappaaWake5
import Derived.Test.YtcpaclefogappaaBt5
namespace Go.Proofs.Ytcpaclefogappaa
open Go.RowKit

theorem oput_bt (n x : Int) (hn : n ≤ 9223372036854775807) (w : World) :
    Calls Try.prog 10 #[.int .i64 n, .int .i64 x] w fun e w' => e = .returned (.tuple #[.string (bt (putL n x)), .int .i64 (putE n x)]) ∧ Below w.heap.size w w' :=
  (oput_any n x hn w).mono fun _ _ ⟨t, he, ht, hb⟩ => ⟨by rw [he, bt_of ht.out], hb⟩

set_option maxRecDepth 100000 in
set_option maxHeartbeats 1000000 in
theorem octetNumbers_walk (w : World) (n : Int) (hn : (Lit.int .i64 n).wf = true) (s : ByteArray) (_hs : s.size ≤ maxLen) (x0 x1 : Int) (h0 : (Lit.int .i64 x0).wf = true) :
    Calls Try.prog 3 #[.int .i64 n, .string s, .agg #[.int .i64 x0, .int .i64 x1]] w fun e w' => e = .returned (.bool true) ∧ Below w.heap.size w w' := by
  have hb := Below.refl w.heap.size w
  have hn1 := Go.bounds_i64 hn
  have hx1 := Go.bounds_i64 h0
  clear hn h0
  have vx := Var2.new w (.int .i64 x0) (.int .i64 x1) 22
  replace hb := hb.alloc hb.size (Obj.cells #[.int .i64 x0, .int .i64 x1] 22)
  by_cases h : (2000 : Int) < (s.size : Int)
  · have hd : decide ((2000 : Int) < (s.size : Int)) = true := decide_eq_true h
    go_enter Try.func3, Try.ntmps3
    go_wp2_with (go_at_call 9; refine (awake5_any _).mono ?_; rintro e w1 ⟨rfl, b1⟩; replace hb := hb.trans (b1.mono hb.size))
    go_ret
    exact ⟨rfl, hb⟩
  · have hd : decide ((2000 : Int) < (s.size : Int)) = false := decide_eq_false h
    have hs : s.size ≤ 4611686018427387904 := by omega
    clear h
    have H1 := Lib.hid (oput_bt n x1 (by omega))
    have H2 := Lib.hid (rput_bt n x1 (by omega))
    have H3 := Lib.hid (oget_any s hs x0 x1 (by omega) (by omega))
    have H4 := Lib.hid (rget_any s hs x0 x1 (by omega) (by omega))
    generalize bt (putL n x1) = T at *
    generalize putE n x1 = E at *
    generalize getV s.data.toList x0 x1 = GV at *
    generalize getT s.data.toList x0 x1 = GT at *
    generalize getE s.data.toList x0 x1 = GE at *
    go_enter Try.func3, Try.ntmps3
    go_upto_region 3 with fail
    generalize w.alloc (Obj.cells #[.int .i64 x0, .int .i64 x1] 22) = V at *
    have c0 := vx.c0
    have c1 := vx.c1
    go_upto_region 6 with (first
      | (go_at_call 10; refine (H1.out _).mono ?_; rintro e w1 ⟨rfl, b1⟩; replace hb := hb.trans (b1.mono hb.size); replace vx := vx.step b1; clear b1 c0 c1; have c0 := vx.c0; have c1 := vx.c1)
      | (go_at_call 11; refine (H2.out _).mono ?_; rintro e w1 ⟨rfl, b1⟩; replace hb := hb.trans (b1.mono hb.size); replace vx := vx.step b1; clear b1 c0 c1; have c0 := vx.c0; have c1 := vx.c1)
      | (go_at_call 12; refine (H3.out _).mono ?_; rintro e w3 ⟨rfl, b1⟩; replace hb := hb.trans (b1.mono hb.size); replace vx := vx.step b1; clear b1 c0 c1; have c0 := vx.c0; have c1 := vx.c1))
    have v3 := Var2.new w3 (.int .i64 GV) (.int .i64 GT) 30
    replace vx := vx.alloc (Obj.cells #[.int .i64 GV, .int .i64 GT] 30)
    replace hb := hb.alloc hb.size (Obj.cells #[.int .i64 GV, .int .i64 GT] 30)
    generalize w3.alloc (Obj.cells #[.int .i64 GV, .int .i64 GT] 30) = V3 at *
    generalize w3.heap.size = n3 at *
    clear c0 c1
    have c0 := vx.c0
    have c1 := vx.c1
    have c2 := v3.c0
    have c3 := v3.c1
    go_wp2_with (first
      | (go_at_call 13; refine (H4.out _).mono ?_; rintro e w4 ⟨rfl, rfl⟩)
      | (go_at_call 9; refine (awake5_any _).mono ?_; rintro e w5 ⟨rfl, b1⟩; replace hb := hb.trans (b1.mono hb.size)))
    go_ret
    exact ⟨rfl, hb⟩

theorem less_lex (x : List UInt8) : ∀ y : List UInt8, Op.bytesLess x y = decide (x < y) := by
  induction x with
  | nil => intro y; cases y <;> simp [Op.bytesLess]
  | cons c x ih =>
    intro y
    cases y with
    | nil => simp [Op.bytesLess]
    | cons d y =>
      have h : (c :: x < d :: y) ↔ (c < d ∨ c = d ∧ x < y) := List.cons_lt_cons_iff
      rw [show Op.bytesLess (c :: x) (d :: y) = (decide (c < d) || (c == d && Op.bytesLess x y)) from rfl, ih y]
      rw [decide_eq_decide.2 h]
      rw [Bool.decide_or, Bool.decide_and]
      congr 2
theorem put_order {a b : Int} {k : Int} (ha : a ≤ 9223372036854775807) (hb : b ≤ 9223372036854775807) (h1 : putE a k = 0) (h2 : putE b k = 0) : Op.bytesLess (bt (putL a k)).toList (bt (putL b k)).toList = decide (a < b) := by
  rw [less_lex, ByteArray.toList_eq, ByteArray.toList_eq, bt_list, bt_list]
  have e1 := h1
  have e2 := h2
  unfold putE at h1 h2
  by_cases hw : wideW k
  · rw [if_pos hw] at h1 h2
    by_cases r1 : 0 ≤ a ∧ a < (256 : Int) ^ k.toNat
    · by_cases r2 : 0 ≤ b ∧ b < (256 : Int) ^ k.toNat
      · have l1 := put_len e1
        have l2 := put_len e2
        have v1 : val (putL a k) = a.toNat := by unfold putL; rw [if_pos e1, val_be _ _ (wide_pow a (fun _ => ha) r1.2)]
        have v2 : val (putL b k) = b.toNat := by unfold putL; rw [if_pos e2, val_be _ _ (wide_pow b (fun _ => hb) r2.2)]
        refine decide_eq_decide.2 ?_
        rw [lex_val _ _ (l1.trans l2.symm), v1, v2]
        omega
      · rw [if_neg r2] at h2; omega
    · rw [if_neg r1] at h1; omega
  · rw [if_neg hw] at h1; omega

set_option maxRecDepth 100000 in
set_option maxHeartbeats 1000000 in
theorem octetOrder_walk (w : World) (a : Int) (ha : (Lit.int .i64 a).wf = true) (b : Int) (hb1 : (Lit.int .i64 b).wf = true) :
    Calls Try.prog 8 #[.int .i64 a, .int .i64 b] w fun e w' => e = .returned (.bool true) ∧ Below w.heap.size w w' := by
  have ha1 := Go.bounds_i64 ha
  have hb2 := Go.bounds_i64 hb1
  clear ha hb1
  go_enter Try.func8, Try.ntmps8
  go_wp2
  go_loopw [5] (fun k' wr => ∃ k : Int, k' = .int .i64 k ∧ 1 ≤ k ∧ k ≤ 16 ∧ Hid (Below w.heap.size w wr)) (fun k _ => 17 - (intOf k).toNat)
  case atStart => exact ⟨1, rfl, by omega, by omega, Lib.hid (Below.refl _ _)⟩
  case round =>
    obtain ⟨k, rfl, hk1, hk2, hb⟩ := hrel
    by_cases hlt : k ≤ 8
    · have d1 : decide (k ≤ 8) = true := decide_eq_true hlt
      have H1 := Lib.hid (oput_bt a k (by omega))
      have H2 := Lib.hid (oput_bt b k (by omega))
      by_cases e1 : putE a k = 0
      · have f1 : (putE a k == 0) = true := by rw [e1]; rfl
        by_cases e2 : putE b k = 0
        · have f2 : (putE b k == 0) = true := by rw [e2]; rfl
          have ho := put_order ha1.2 hb2.2 e1 e2
          clear e1 e2
          generalize bt (putL a k) = S at *
          generalize bt (putL b k) = T at *
          generalize putE a k = E at *
          generalize putE b k = F at *
          go_upto_region 5 with (go_at_call 10; refine (H1.out _).mono ?_; rintro e w1 ⟨rfl, b1⟩; replace hb := Lib.hid (hb.out.trans (b1.mono hb.out.size)); clear b1)
          go_wp2_with (go_at_call 10; refine (H2.out _).mono ?_; rintro e w2 ⟨rfl, b1⟩; replace hb := Lib.hid (hb.out.trans (b1.mono hb.out.size)); clear b1)
          go_roundw
          case rel => exact ⟨k + k, rfl, by omega, by omega, hb⟩
          case measure => simp [intOf]; omega
        · have f2 : (putE b k == 0) = false := by rw [beq_eq_false_iff_ne]; exact e2
          clear e1 e2
          generalize bt (putL a k) = S at *
          generalize bt (putL b k) = T at *
          generalize putE a k = E at *
          generalize putE b k = F at *
          go_upto_region 5 with (go_at_call 10; refine (H1.out _).mono ?_; rintro e w1 ⟨rfl, b1⟩; replace hb := Lib.hid (hb.out.trans (b1.mono hb.out.size)); clear b1)
          go_wp2_with (go_at_call 10; refine (H2.out _).mono ?_; rintro e w2 ⟨rfl, b1⟩; replace hb := Lib.hid (hb.out.trans (b1.mono hb.out.size)); clear b1)
          go_roundw
          case rel => exact ⟨k + k, rfl, by omega, by omega, hb⟩
          case measure => simp [intOf]; omega
      · have f1 : (putE a k == 0) = false := by rw [beq_eq_false_iff_ne]; exact e1
        clear e1
        generalize bt (putL a k) = S at *
        generalize bt (putL b k) = T at *
        generalize putE a k = E at *
        generalize putE b k = F at *
        go_upto_region 5 with (go_at_call 10; refine (H1.out _).mono ?_; rintro e w1 ⟨rfl, b1⟩; replace hb := Lib.hid (hb.out.trans (b1.mono hb.out.size)); clear b1)
        go_wp2_with (go_at_call 10; refine (H2.out _).mono ?_; rintro e w2 ⟨rfl, b1⟩; replace hb := Lib.hid (hb.out.trans (b1.mono hb.out.size)); clear b1)
        go_roundw
        case rel => exact ⟨k + k, rfl, by omega, by omega, hb⟩
        case measure => simp [intOf]; omega
    · have d1 : decide (k ≤ 8) = false := decide_eq_false hlt
      go_wp2_with (go_at_call 9; refine (awake5_any _).mono ?_; rintro e w5 ⟨rfl, b1⟩; replace hb := Lib.hid (hb.out.trans (b1.mono hb.out.size)))
      go_ret
      exact ⟨rfl, hb.out⟩
end Go.Proofs.Ytcpaclefogappaa
