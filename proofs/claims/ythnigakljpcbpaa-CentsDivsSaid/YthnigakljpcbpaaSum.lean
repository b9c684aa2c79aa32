/- What the document says of amounts, in plain words over numbers, and the document's own In, Sub and Times, for all numbers and in every world. -/
import Derived.Test.YthnigakljpcbpaaRows
import Derived.WalkKit
import Derived.LoopTactic
import Derived.Outline
import Derived.Below
import Derived.Lib.Hide
namespace Go.Proofs.Ythnigakljpcbpaa
open Go.RowKit

def inB (n : Int) : Bool := decide (-1000000000000 ≤ n ∧ n ≤ 1000000000000)
theorem inB_iff (n : Int) : inB n = true ↔ -1000000000000 ≤ n ∧ n ≤ 1000000000000 := by unfold inB; exact decide_eq_true_iff
theorem inB_no {n : Int} (h : inB n = false) : n < -1000000000000 ∨ 1000000000000 < n := by
  unfold inB at h; rw [decide_eq_false_iff_not] at h; omega

theorem rin_any (n : Int) (w : World) : Calls Try.prog 15 #[.int .i64 n] w fun e w' => e = .returned (.bool (inB n)) ∧ w = w' := by
  by_cases h1 : -1000000000000 ≤ n
  · by_cases h2 : n ≤ 1000000000000
    · have He := Lib.hid ((inB_iff n).2 ⟨h1, h2⟩)
      go_enter Try.func15, Try.ntmps15
      go_wp2
      go_ret
      exact ⟨by rw [He.out]; rfl, rfl⟩
    · have He : Hid (inB n = false) := Lib.hid (by unfold inB; rw [decide_eq_false_iff_not]; omega)
      have h2' : 1000000000000 < n := by omega
      have h2d : decide (n ≤ 1000000000000) = false := by rw [decide_eq_false_iff_not]; omega
      clear h2
      go_enter Try.func15, Try.ntmps15
      go_wp2
      go_ret
      exact ⟨by rw [He.out]; rfl, rfl⟩
  · have He : Hid (inB n = false) := Lib.hid (by unfold inB; rw [decide_eq_false_iff_not]; omega)
    have h1' : n < -1000000000000 := by omega
    clear h1
    go_enter Try.func15, Try.ntmps15
    go_wp2
    go_ret
    exact ⟨by rw [He.out]; rfl, rfl⟩

def subOk (a b : Int) : Bool := inB a && inB b && inB (a - b)
def subV (a b : Int) : Int := if subOk a b = true then a - b else 0
def subE (a b : Int) : Int := if subOk a b = true then 0 else 8

theorem rsub_any (a b : Int) (w : World) : Calls Try.prog 11 #[.int .i64 a, .int .i64 b] w fun e w' => e = .returned (.tuple #[.int .i64 (subV a b), .int .i64 (subE a b)]) ∧ w = w' := by
  cases ha : inB a with
  | false =>
    have He : Hid (subV a b = 0 ∧ subE a b = 8) := Lib.hid (by unfold subV subE subOk; rw [ha]; exact ⟨rfl, rfl⟩)
    go_enter Try.func11, Try.ntmps11
    go_wp2_with (go_at_call 15; refine (rin_any _ _).mono ?_; rintro e w' ⟨rfl, rfl⟩)
    go_ret2
    exact ⟨by rw [He.out.1, He.out.2]; rfl, rfl⟩
  | true =>
    have ha2 := (inB_iff a).1 ha
    obtain ⟨ha3, ha4⟩ := ha2
    cases hb : inB b with
    | false =>
      have He : Hid (subV a b = 0 ∧ subE a b = 8) := Lib.hid (by unfold subV subE subOk; rw [ha, hb]; exact ⟨rfl, rfl⟩)
      go_enter Try.func11, Try.ntmps11
      go_wp2_with (go_at_call 15; refine (rin_any _ _).mono ?_; rintro e w' ⟨rfl, rfl⟩)
      go_ret2
      exact ⟨by rw [He.out.1, He.out.2]; rfl, rfl⟩
    | true =>
      obtain ⟨hb3, hb4⟩ := (inB_iff b).1 hb
      cases hc : inB (a - b) with
      | false =>
        have He : Hid (subV a b = 0 ∧ subE a b = 8) := Lib.hid (by unfold subV subE subOk; rw [ha, hb, hc]; exact ⟨rfl, rfl⟩)
        go_enter Try.func11, Try.ntmps11
        go_wp2_with (go_at_call 15; refine (rin_any _ _).mono ?_; rintro e w' ⟨rfl, rfl⟩)
        go_ret2
        exact ⟨by rw [He.out.1, He.out.2]; rfl, rfl⟩
      | true =>
        have He : Hid (subV a b = a - b ∧ subE a b = 0) := Lib.hid (by unfold subV subE subOk; rw [ha, hb, hc]; exact ⟨rfl, rfl⟩)
        go_enter Try.func11, Try.ntmps11
        go_wp2_with (go_at_call 15; refine (rin_any _ _).mono ?_; rintro e w' ⟨rfl, rfl⟩)
        go_ret2
        exact ⟨by rw [He.out.1, He.out.2]; rfl, rfl⟩

def mulOk (a n : Int) : Bool := inB a && inB n && inB (a * n)
def mulV (a n : Int) : Int := if mulOk a n = true then a * n else 0
def mulE (a n : Int) : Int := if mulOk a n = true then 0 else 8
/-- A product is an amount just if one factor goes often enough into the greatest amount. -/
theorem mul_bound (x y : Int) (hy : 0 < y) : 1000000000000 / y < x ↔ 1000000000000 < x * y := Int.ediv_lt_iff_lt_mul hy

theorem mul_ok {a n : Int} (ha : inB a = true) (hn : inB n = true) (h : -1000000000000 ≤ a * n ∧ a * n ≤ 1000000000000) : mulV a n = a * n ∧ mulE a n = 0 := by
  unfold mulV mulE mulOk; rw [ha, hn, (inB_iff _).2 h]; exact ⟨rfl, rfl⟩
theorem mul_no {a n : Int} (h : a * n < -1000000000000 ∨ 1000000000000 < a * n) : mulV a n = 0 ∧ mulE a n = 8 := by
  have : inB (a * n) = false := by unfold inB; rw [decide_eq_false_iff_not]; omega
  unfold mulV mulE mulOk; rw [this, Bool.and_false]; exact ⟨rfl, rfl⟩

set_option maxHeartbeats 1000000 in
theorem rtimes_any (a n : Int) (w : World) : Calls Try.prog 13 #[.int .i64 a, .int .i64 n] w fun e w' => e = .returned (.tuple #[.int .i64 (mulV a n), .int .i64 (mulE a n)]) ∧ w = w' := by
  cases ha : inB a with
  | false =>
    have He : Hid (mulV a n = 0 ∧ mulE a n = 8) := Lib.hid (by unfold mulV mulE mulOk; rw [ha]; exact ⟨rfl, rfl⟩)
    go_enter Try.func13, Try.ntmps13
    go_wp2_with (go_at_call 15; refine (rin_any _ _).mono ?_; rintro e w' ⟨rfl, rfl⟩)
    go_ret2
    exact ⟨by rw [He.out.1, He.out.2]; rfl, rfl⟩
  | true =>
    obtain ⟨ha3, ha4⟩ := (inB_iff a).1 ha
    cases hn : inB n with
    | false =>
      have He : Hid (mulV a n = 0 ∧ mulE a n = 8) := Lib.hid (by unfold mulV mulE mulOk; rw [ha, hn]; exact ⟨rfl, rfl⟩)
      go_enter Try.func13, Try.ntmps13
      go_wp2_with (go_at_call 15; refine (rin_any _ _).mono ?_; rintro e w' ⟨rfl, rfl⟩)
      go_ret2
      exact ⟨by rw [He.out.1, He.out.2]; rfl, rfl⟩
    | true =>
      obtain ⟨hn3, hn4⟩ := (inB_iff n).1 hn
      have Hok := Lib.hid (fun h => mul_ok (a := a) (n := n) ha hn h)
      by_cases hsn : n < 0
      · obtain ⟨m, rfl⟩ : ∃ m, n = -m := ⟨-n, by omega⟩
        have hm0 : 0 < m := by omega
        by_cases hsa : a < 0
        · obtain ⟨b, rfl⟩ : ∃ b, a = -b := ⟨-a, by omega⟩
          have hb0 : 0 < b := by omega
          have hp : (-b) * (-m) = b * m := Int.neg_mul_neg _ _
          have hp0 : 0 ≤ b * m := Int.mul_nonneg (by omega) (by omega)
          have hmb := mul_bound b m (by omega)
          have hy1 : 1 ≤ m := by omega
          by_cases hq : 1000000000000 / m < b
          · have He : Hid (mulV (-b) (-m) = 0 ∧ mulE (-b) (-m) = 8) := Lib.hid (mul_no (by have := hmb.1 hq; omega))
            have hqd : decide (1000000000000 / m < b) = true := decide_eq_true hq
            clear hp hp0 hmb
            go_enter Try.func13, Try.ntmps13
            go_wp2_with (go_at_call 15; refine (rin_any _ _).mono ?_; rintro e w' ⟨rfl, rfl⟩)
            go_ret2
            exact ⟨by rw [He.out.1, He.out.2]; rfl, rfl⟩
          · have hr : -1000000000000 ≤ (-b) * (-m) ∧ (-b) * (-m) ≤ 1000000000000 := by
              have : ¬ (1000000000000 < b * m) := fun h => hq (hmb.2 h)
              omega
            have He : Hid (mulV (-b) (-m) = b * m ∧ mulE (-b) (-m) = 0) := Lib.hid (by rw [← hp]; exact Hok.out hr)
            rw [hp] at hr
            obtain ⟨hr1, hr2⟩ := hr
            have hr3 : b * m ≤ 1000000000000 := by omega
            have hqd : decide (1000000000000 / m < b) = false := decide_eq_false hq
            have hq2 : b ≤ 1000000000000 / m := by omega
            have Hp := Lib.hid hp
            clear hp hp0 hmb hq
            go_enter Try.func13, Try.ntmps13
            go_wp2_with (go_at_call 15; refine (rin_any _ _).mono ?_; rintro e w' ⟨rfl, rfl⟩)
            go_ret2
            exact ⟨by rw [He.out.1, He.out.2]; show Ending.returned (.tuple #[.int .i64 (wrap64 ((-b) * (-m))), .int .i64 0]) = _; rw [IntWalk.wrap64_in _ (by rw [Hp.out]; omega), Hp.out], rfl⟩
        · have hsa' : 0 ≤ a := by omega
          clear hsa
          have hp : a * (-m) = -(a * m) := Int.mul_neg _ _
          have hp0 : 0 ≤ a * m := Int.mul_nonneg (by omega) (by omega)
          have hmb := mul_bound a m (by omega)
          have hy1 : 1 ≤ m := by omega
          by_cases hq : 1000000000000 / m < a
          · have He : Hid (mulV a (-m) = 0 ∧ mulE a (-m) = 8) := Lib.hid (mul_no (by have := hmb.1 hq; omega))
            have hqd : decide (1000000000000 / m < a) = true := decide_eq_true hq
            clear hp hp0 hmb
            go_enter Try.func13, Try.ntmps13
            go_wp2_with (go_at_call 15; refine (rin_any _ _).mono ?_; rintro e w' ⟨rfl, rfl⟩)
            go_ret2
            exact ⟨by rw [He.out.1, He.out.2]; rfl, rfl⟩
          · have hr : -1000000000000 ≤ a * (-m) ∧ a * (-m) ≤ 1000000000000 := by
              have : ¬ (1000000000000 < a * m) := fun h => hq (hmb.2 h)
              omega
            have He : Hid (mulV a (-m) = -(a * m) ∧ mulE a (-m) = 0) := Lib.hid (by rw [← hp]; exact Hok.out hr)
            rw [hp] at hr
            obtain ⟨hr1, hr2⟩ := hr
            have hr3 : a * m ≤ 1000000000000 := by omega
            have hqd : decide (1000000000000 / m < a) = false := decide_eq_false hq
            have hq2 : a ≤ 1000000000000 / m := by omega
            have Hp := Lib.hid hp
            clear hp hp0 hmb hq
            go_enter Try.func13, Try.ntmps13
            go_wp2_with (go_at_call 15; refine (rin_any _ _).mono ?_; rintro e w' ⟨rfl, rfl⟩)
            go_ret2
            exact ⟨by rw [He.out.1, He.out.2]; show Ending.returned (.tuple #[.int .i64 (wrap64 (a * (-m))), .int .i64 0]) = _; rw [IntWalk.wrap64_in _ (by rw [Hp.out]; omega), Hp.out], rfl⟩
      · by_cases hs0 : n = 0
        · subst hs0
          have He : Hid (mulV a 0 = 0 ∧ mulE a 0 = 0) := Lib.hid (by
            have := Hok.out (by rw [Int.mul_zero]; omega)
            rw [Int.mul_zero] at this
            exact this)
          by_cases hsa : a < 0
          · obtain ⟨b, rfl⟩ : ∃ b, a = -b := ⟨-a, by omega⟩
            have hb0 : 0 < b := by omega
            go_enter Try.func13, Try.ntmps13
            go_wp2_with (go_at_call 15; refine (rin_any _ _).mono ?_; rintro e w' ⟨rfl, rfl⟩)
            go_ret2
            exact ⟨by rw [He.out.1, He.out.2]; rfl, rfl⟩
          · have hsa' : 0 ≤ a := by omega
            clear hsa
            go_enter Try.func13, Try.ntmps13
            go_wp2_with (go_at_call 15; refine (rin_any _ _).mono ?_; rintro e w' ⟨rfl, rfl⟩)
            go_ret2
            exact ⟨by rw [He.out.1, He.out.2]; rfl, rfl⟩
        · have hsn' : 0 < n := by omega
          clear hsn hs0
          by_cases hsa : a < 0
          · obtain ⟨b, rfl⟩ : ∃ b, a = -b := ⟨-a, by omega⟩
            have hb0 : 0 < b := by omega
            have hp : (-b) * n = -(b * n) := Int.neg_mul _ _
            have hp0 : 0 ≤ b * n := Int.mul_nonneg (by omega) (by omega)
            have hmb := mul_bound b n (by omega)
            have hy1 : 1 ≤ n := by omega
            by_cases hq : 1000000000000 / n < b
            · have He : Hid (mulV (-b) n = 0 ∧ mulE (-b) n = 8) := Lib.hid (mul_no (by have := hmb.1 hq; omega))
              have hqd : decide (1000000000000 / n < b) = true := decide_eq_true hq
              clear hp hp0 hmb
              go_enter Try.func13, Try.ntmps13
              go_wp2_with (go_at_call 15; refine (rin_any _ _).mono ?_; rintro e w' ⟨rfl, rfl⟩)
              go_ret2
              exact ⟨by rw [He.out.1, He.out.2]; rfl, rfl⟩
            · have hr : -1000000000000 ≤ (-b) * n ∧ (-b) * n ≤ 1000000000000 := by
                have : ¬ (1000000000000 < b * n) := fun h => hq (hmb.2 h)
                omega
              have He : Hid (mulV (-b) n = -(b * n) ∧ mulE (-b) n = 0) := Lib.hid (by rw [← hp]; exact Hok.out hr)
              rw [hp] at hr
              obtain ⟨hr1, hr2⟩ := hr
              have hr3 : b * n ≤ 1000000000000 := by omega
              have hqd : decide (1000000000000 / n < b) = false := decide_eq_false hq
              have hq2 : b ≤ 1000000000000 / n := by omega
              have Hp := Lib.hid hp
              clear hp hp0 hmb hq
              go_enter Try.func13, Try.ntmps13
              go_wp2_with (go_at_call 15; refine (rin_any _ _).mono ?_; rintro e w' ⟨rfl, rfl⟩)
              go_ret2
              exact ⟨by rw [He.out.1, He.out.2]; show Ending.returned (.tuple #[.int .i64 (wrap64 ((-b) * n)), .int .i64 0]) = _; rw [IntWalk.wrap64_in _ (by rw [Hp.out]; omega), Hp.out], rfl⟩
          · have hsa' : 0 ≤ a := by omega
            clear hsa
            have hp : a * n = a * n := rfl
            have hp0 : 0 ≤ a * n := Int.mul_nonneg (by omega) (by omega)
            have hmb := mul_bound a n (by omega)
            have hy1 : 1 ≤ n := by omega
            by_cases hq : 1000000000000 / n < a
            · have He : Hid (mulV a n = 0 ∧ mulE a n = 8) := Lib.hid (mul_no (by have := hmb.1 hq; omega))
              have hqd : decide (1000000000000 / n < a) = true := decide_eq_true hq
              clear hp hp0 hmb
              go_enter Try.func13, Try.ntmps13
              go_wp2_with (go_at_call 15; refine (rin_any _ _).mono ?_; rintro e w' ⟨rfl, rfl⟩)
              go_ret2
              exact ⟨by rw [He.out.1, He.out.2]; rfl, rfl⟩
            · have hr : -1000000000000 ≤ a * n ∧ a * n ≤ 1000000000000 := by
                have : ¬ (1000000000000 < a * n) := fun h => hq (hmb.2 h)
                omega
              have He : Hid (mulV a n = a * n ∧ mulE a n = 0) := Lib.hid (by rw [← hp]; exact Hok.out hr)
              rw [hp] at hr
              obtain ⟨hr1, hr2⟩ := hr
              have hr3 : a * n ≤ 1000000000000 := by omega
              have hqd : decide (1000000000000 / n < a) = false := decide_eq_false hq
              have hq2 : a ≤ 1000000000000 / n := by omega
              clear hp hp0 hmb hq
              go_enter Try.func13, Try.ntmps13
              go_wp2_with (go_at_call 15; refine (rin_any _ _).mono ?_; rintro e w' ⟨rfl, rfl⟩)
              go_ret2
              exact ⟨by rw [He.out.1, He.out.2]; rfl, rfl⟩
end Go.Proofs.Ythnigakljpcbpaa
