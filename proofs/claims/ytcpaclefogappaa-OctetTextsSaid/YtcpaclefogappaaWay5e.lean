import Derived.Test.YtcpaclefogappaaWay5d
import Derived.StillTailTactics
/-! Layer 5: OctetTexts. -/
namespace Go.Proofs.Ytcpaclefogappaa
open Go.RowKit

set_option maxRecDepth 100000 in
set_option maxHeartbeats 2000000 in
theorem octetTexts_walk (w : World) (t : ByteArray) (_ht : t.size ≤ maxLen) (s : ByteArray) (_hs : s.size ≤ maxLen) (x0 x1 : Int) (h0 : (Lit.int .i64 x0).wf = true) :
    Calls Try.prog 4 #[.string t, .string s, .agg #[.int .i64 x0, .int .i64 x1]] w fun e w' => e = .returned (.bool true) ∧ Below w.heap.size w w' := by
  have hb := Below.refl w.heap.size w
  have hx1 := Go.bounds_i64 h0
  clear h0
  have vx := Var2.new w (.int .i64 x0) (.int .i64 x1) 22
  replace hb := hb.alloc hb.size (Obj.cells #[.int .i64 x0, .int .i64 x1] 22)
  by_cases h : (70000 : Int) < (t.size : Int)
  · have hd : decide ((70000 : Int) < (t.size : Int)) = true := decide_eq_true h
    go_enter Try.func4, Try.ntmps4
    go_wp2_with (go_at_call 9; refine (awake5_any _).mono ?_; rintro e w1 ⟨rfl, b1⟩; replace hb := hb.trans (b1.mono hb.size))
    go_ret
    exact ⟨rfl, hb⟩
  · have hd : decide ((70000 : Int) < (t.size : Int)) = false := decide_eq_false h
    by_cases h2 : (2000 : Int) < (s.size : Int)
    · have hd2 : decide ((2000 : Int) < (s.size : Int)) = true := decide_eq_true h2
      clear h h2
      go_enter Try.func4, Try.ntmps4
      go_wp2_with (go_at_call 9; refine (awake5_any _).mono ?_; rintro e w1 ⟨rfl, b1⟩; replace hb := hb.trans (b1.mono hb.size))
      go_ret
      exact ⟨rfl, hb⟩
    · have hd2 : decide ((2000 : Int) < (s.size : Int)) = false := decide_eq_false h2
      have ht : t.size ≤ 4611686018427387904 := by omega
      have hs : s.size ≤ 4611686018427387904 := by omega
      have H1 := Lib.hid (olay_bt t ht)
      have H2 := Lib.hid (rlay_bt t ht)
      have H3 := Lib.hid (otake_bt s hs x0 x1 (by omega) (by omega))
      have H4 := Lib.hid (rtake_bt s hs x0 x1 (by omega) (by omega))
      generalize bt (layL t.data.toList) = T at *
      generalize layE t.data.toList = E at *
      generalize bt (takeL s.data.toList x0 x1) = GV at *
      generalize takeT s.data.toList x0 x1 = GT at *
      generalize takeE s.data.toList x0 x1 = GE at *
      clear h h2
      go_enter Try.func4, Try.ntmps4
      go_upto_region 3 with fail
      generalize w.alloc (Obj.cells #[.int .i64 x0, .int .i64 x1] 22) = V at *
      have c0 := vx.c0
      have c1 := vx.c1
      go_upto_region 6 with (first
        | (go_at_call 14; refine (H1.out _).mono ?_; rintro e w1 ⟨rfl, b1⟩; replace hb := hb.trans (b1.mono hb.size); replace vx := vx.step b1; clear b1 c0 c1; have c0 := vx.c0; have c1 := vx.c1)
        | (go_at_call 15; refine (H2.out _).mono ?_; rintro e w1 ⟨rfl, b1⟩; replace hb := hb.trans (b1.mono hb.size); replace vx := vx.step b1; clear b1 c0 c1; have c0 := vx.c0; have c1 := vx.c1)
        | (go_at_call 16; refine (H3.out _).mono ?_; rintro e w3 ⟨rfl, b1⟩; replace hb := hb.trans (b1.mono hb.size); replace vx := vx.step b1; clear b1 c0 c1; have c0 := vx.c0; have c1 := vx.c1))
      have v3 := Var2.new w3 (.string GV) (.int .i64 GT) 39
      replace vx := vx.alloc (Obj.cells #[.string GV, .int .i64 GT] 39)
      replace hb := hb.alloc hb.size (Obj.cells #[.string GV, .int .i64 GT] 39)
      generalize w3.alloc (Obj.cells #[.string GV, .int .i64 GT] 39) = V3 at *
      generalize w3.heap.size = n3 at *
      clear c0 c1
      have c0 := vx.c0
      have c1 := vx.c1
      go_upto_region 7 with (go_at_call 17; refine (H4.out _).mono ?_; rintro e w4 ⟨rfl, rfl⟩)
      clear c0 c1
      have c0 : V3.drew.cell? ⟨w.heap.size, 0, none⟩ = some (.int .i64 x0) := vx.c0
      have c2 : V3.drew.cell? ⟨n3, 0, none⟩ = some (.string GV) := v3.c0
      have c3 : V3.drew.cell? ⟨n3, 1, none⟩ = some (.int .i64 GT) := v3.c1
      replace hb := hb.drew
      clear H1 H2 H3 H4 vx v3
      refine wp_region_still_tail 45 (by kernel_rfl) (by kernel_rfl) ?_
      change wpStill Try.prog _ V3.drew (fun a' => wpList Try.prog _ _ _ a' V3.drew) _ _
      generalize V3.drew = V4 at *
      simp only [List.take_succ_cons, List.take_zero, List.drop_succ_cons, List.drop_zero]
      by_cases hp : 0 < x0
      · have q0 : decide (0 < x0) = true := decide_eq_true hp
        have F := oflag_same true
        rw [show (if true = true then (1 : UInt8) else 0) = 1 from rfl] at F
        have q1 : ((⟨#[0]⟩ : ByteArray) == ⟨#[1]⟩) = false := by decide
        have q2 : ((⟨#[1]⟩ : ByteArray) == ⟨#[1]⟩) = true := by decide
        clear hp
        repeat still_step
        still_call (F _)
        repeat still_step
        still_call (F _)
        repeat still_step
        refine wpStill_nil ?_
        clear c0 c2 c3
        go_wp2_with (go_at_call 9; refine (awake5_any _).mono ?_; rintro e w5 ⟨rfl, b1⟩; replace hb := hb.trans (b1.mono hb.size))
        go_ret
        exact ⟨rfl, hb⟩
      · have q0 : decide (0 < x0) = false := decide_eq_false hp
        have F := oflag_same false
        rw [show (if false = true then (1 : UInt8) else 0) = 0 from rfl] at F
        have q1 : ((⟨#[0]⟩ : ByteArray) == ⟨#[1]⟩) = false := by decide
        have q2 : ((⟨#[1]⟩ : ByteArray) == ⟨#[1]⟩) = true := by decide
        clear hp
        repeat still_step
        still_call (F _)
        repeat still_step
        still_call (F _)
        repeat still_step
        refine wpStill_nil ?_
        clear c0 c2 c3
        go_wp2_with (go_at_call 9; refine (awake5_any _).mono ?_; rintro e w5 ⟨rfl, b1⟩; replace hb := hb.trans (b1.mono hb.size))
        go_ret
        exact ⟨rfl, hb⟩
end Go.Proofs.Ytcpaclefogappaa
