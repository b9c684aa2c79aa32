/- The document's CheckRow, CheckFacts and bit: for every row and all facts, in every world. -/
import Derived.Test.YtifihejogbcbgaaWant18
import Derived.BigQuiet
namespace Go.Proofs.Ytifihejogbcbgaa
open Go.RowKit

set_option maxHeartbeats 4000000 in
theorem rrow18_any (r : Row18) (w : World) : Calls Try.prog 46 #[rowVal r] w fun e w' => e = .returned (.int .i64 (rowE r)) ∧ Below w.heap.size w w' := by
  obtain ⟨c0, c1, c2, c3, c4⟩ := box_row18 w r 52
  have HB := Lib.hid (lit16 w (.cells #[.int .i64 r.g, .int .i64 r.v, .int .i64 r.lo, .int .i64 r.hi, .int .i64 r.way] 52))
  by_cases hok : RowOk r
  · have HE := Lib.hid (row_yes hok)
    obtain ⟨q1, q2, q3, q4, q5, q6, q7, q8, q9⟩ := hok
    have d1 : decide (r.g < 1) = false := decide_eq_false (by omega)
    have d2 : decide (15 < r.g) = false := decide_eq_false (by omega)
    have d3 : decide (r.v < 1) = false := decide_eq_false (by omega)
    have d4 : decide (3 < r.v) = false := decide_eq_false (by omega)
    have d5 : decide (r.lo < 0) = false := decide_eq_false (by omega)
    have d6 : decide (r.hi < r.lo) = false := decide_eq_false (by omega)
    have d7 : decide (1000000000000 < r.hi) = false := decide_eq_false (by omega)
    have d8 : decide (r.way < 1) = false := decide_eq_false (by omega)
    have d9 : decide (5 < r.way) = false := decide_eq_false (by omega)
    clear q1 q2 q3 q4 q5 q6 q7 q8 q9
    generalize rowE r = E at *
    obtain ⟨rg, rv, rl, rh, rw⟩ := r
    dsimp only at *
    go_enter Try.func46, Try.ntmps46
    go_wp2
    go_ret
    exact ⟨by rw [HE.out]; rfl, HB.out⟩
  have HE := Lib.hid (row_no hok)
  have hs : decide (r.g < 1) = true ∨ (decide (r.g < 1) = false ∧ decide (15 < r.g) = true) ∨ (decide (r.g < 1) = false ∧ decide (15 < r.g) = false ∧ decide (r.v < 1) = true) ∨ (decide (r.g < 1) = false ∧ decide (15 < r.g) = false ∧ decide (r.v < 1) = false ∧ decide (3 < r.v) = true)
      ∨ (decide (r.g < 1) = false ∧ decide (15 < r.g) = false ∧ decide (r.v < 1) = false ∧ decide (3 < r.v) = false ∧ decide (r.lo < 0) = true)
      ∨ (decide (r.g < 1) = false ∧ decide (15 < r.g) = false ∧ decide (r.v < 1) = false ∧ decide (3 < r.v) = false ∧ decide (r.lo < 0) = false ∧ decide (r.hi < r.lo) = true)
      ∨ (decide (r.g < 1) = false ∧ decide (15 < r.g) = false ∧ decide (r.v < 1) = false ∧ decide (3 < r.v) = false ∧ decide (r.lo < 0) = false ∧ decide (r.hi < r.lo) = false ∧ decide (1000000000000 < r.hi) = true)
      ∨ (decide (r.g < 1) = false ∧ decide (15 < r.g) = false ∧ decide (r.v < 1) = false ∧ decide (3 < r.v) = false ∧ decide (r.lo < 0) = false ∧ decide (r.hi < r.lo) = false ∧ decide (1000000000000 < r.hi) = false ∧ decide (r.way < 1) = true)
      ∨ (decide (r.g < 1) = false ∧ decide (15 < r.g) = false ∧ decide (r.v < 1) = false ∧ decide (3 < r.v) = false ∧ decide (r.lo < 0) = false ∧ decide (r.hi < r.lo) = false ∧ decide (1000000000000 < r.hi) = false ∧ decide (r.way < 1) = false ∧ decide (5 < r.way) = true) := by
    unfold RowOk at hok
    simp only [decide_eq_true_eq, decide_eq_false_iff_not]
    omega
  clear hok
  generalize rowE r = E at *
  obtain ⟨rg, rv, rl, rh, rw⟩ := r
  dsimp only at *
  rcases hs with d1 | ⟨d1, d2⟩ | ⟨d1, d2, d3⟩ | ⟨d1, d2, d3, d4⟩ | ⟨d1, d2, d3, d4, d5⟩ | ⟨d1, d2, d3, d4, d5, d6⟩ | ⟨d1, d2, d3, d4, d5, d6, d7⟩ | ⟨d1, d2, d3, d4, d5, d6, d7, d8⟩ | ⟨d1, d2, d3, d4, d5, d6, d7, d8, d9⟩
  all_goals
    go_enter Try.func46, Try.ntmps46
    go_wp2
    go_ret
    exact ⟨by rw [HE.out]; rfl, HB.out⟩
set_option maxHeartbeats 2000000 in
theorem rfact18_any (f : Fact18) (w : World) : Calls Try.prog 48 #[factVal f] w fun e w' => e = .returned (.int .i64 (factE f)) ∧ Below w.heap.size w w' := by
  obtain ⟨c0, c1, c2⟩ := box_fact18 w f 31
  have HB := Lib.hid (lit16 w (.cells #[.int .i64 f.g, .bool f.v, .int .i64 f.n] 31))
  have hs : (decide (f.g < 0) = false ∧ decide (3 < f.g) = false ∧ decide (f.n < 0) = false ∧ decide (1000000000000 < f.n) = false ∧ factE f = 0) ∨ (factE f = 2 ∧ (decide (f.g < 0) = true ∨ (decide (f.g < 0) = false ∧ decide (3 < f.g) = true) ∨ (decide (f.g < 0) = false ∧ decide (3 < f.g) = false ∧ decide (f.n < 0) = true) ∨ (decide (f.g < 0) = false ∧ decide (3 < f.g) = false ∧ decide (f.n < 0) = false ∧ decide (1000000000000 < f.n) = true))) := by
    by_cases hok : FactOk f
    · left
      have h := hok
      unfold FactOk at h
      refine ⟨decide_eq_false (by omega), decide_eq_false (by omega), decide_eq_false (by omega), decide_eq_false (by omega), fact_yes hok⟩
    · right
      refine ⟨fact_no hok, ?_⟩
      unfold FactOk at hok
      simp only [decide_eq_true_eq, decide_eq_false_iff_not]
      omega
  have HF : Hid (factE f = factE f) := Lib.hid rfl
  generalize factE f = E at *
  obtain ⟨fg, fv, fn⟩ := f
  dsimp only at *
  rcases hs with ⟨d1, d2, d3, d4, hE⟩ | ⟨hE, d1 | ⟨d1, d2⟩ | ⟨d1, d2, d3⟩ | ⟨d1, d2, d3, d4⟩⟩
  all_goals
    have HE := Lib.hid hE
    clear hE HF
    go_enter Try.func48, Try.ntmps48
    go_wp2
    go_ret
    exact ⟨by rw [HE.out]; rfl, HB.out⟩
theorem half_pow (n k : Nat) : n / 2 / 2 ^ k = n / 2 ^ (k + 1) := by rw [Nat.div_div_eq_div_mul, Nat.pow_succ, Nat.mul_comm]
set_option maxHeartbeats 1000000 in
theorem rbit18_any (n k : Nat) (hn : n ≤ 1000) (hk : k ≤ 1000) (w : World) : Calls Try.prog 49 #[.int .i64 (n : Int), .int .i64 (k : Int)] w fun e w' => e = .returned (.bool (bitB n k)) ∧ w = w' := by
  go_enter Try.func49, Try.ntmps49
  go_wp2
  go_loopw [0, 1] (fun s0 s1 wr => ∃ m j : Nat, s0 = .int .i64 (m : Int) ∧ s1 = .int .i64 (j : Int) ∧ wr = w ∧ m ≤ 1000 ∧ j ≤ 1000 ∧ Hid (bitB n k = decide (m / 2 ^ j % 2 = 1))) (fun _ s1 _ => (intOf s1).toNat)
  case atStart => exact ⟨n, k, rfl, rfl, rfl, hn, hk, Lib.hid (bit_nat n k)⟩
  case round =>
    obtain ⟨m, j, rfl, rfl, rfl, hm, hj, HB⟩ := hrel
    cases j with
    | zero =>
      have hy : Hid (bitB n k = decide (m % 2 = 1)) := Lib.hid (by rw [HB.out, Nat.pow_zero, Nat.div_one])
      obtain ⟨y, hyy⟩ : ∃ y, ((m : Int) % 2 == 1) = y := ⟨_, rfl⟩
      have HY : Hid (bitB n k = y) := Lib.hid (by
        rw [hy.out, ← hyy, Bool.eq_iff_iff, decide_eq_true_iff, beq_iff_eq]
        omega)
      clear HB hy
      go_wp2
      go_ret
      exact ⟨by rw [HY.out]; first | rfl | simp [hyy], rfl⟩
    | succ j =>
      have hd : decide ((0 : Int) < ((j + 1 : Nat) : Int)) = true := decide_eq_true (by omega)
      have HN : Hid (bitB n k = decide (m / 2 / 2 ^ j % 2 = 1)) := Lib.hid (by rw [HB.out, half_pow])
      have e1 : IntKind.i64.wrap ((j : Int) + 1 - 1) = (j : Int) := by rw [Int.add_sub_cancel]; exact IntWalk.i64_in _ (by omega)
      go_wp2
      go_roundw
      case rel => exact ⟨m / 2, j, by first | rfl | go_num, by first | rfl | go_num, by first | rfl | trivial, by omega, by omega, HN⟩
      case measure => first | (simp [intOf]; omega) | simp [intOf]
end Go.Proofs.Ytifihejogbcbgaa
