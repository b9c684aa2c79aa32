/- What the document says of amounts, in plain words over numbers, and the document's own In, Sub and Times, for all numbers and in every world. -/
import Derived.Test.YtbhdjpohplpjdaaRows
import Derived.WalkKit
import Derived.LoopTactic
import Derived.Outline
import Derived.Below
import Derived.Lib.Hide
namespace Go.Proofs.Ytbhdjpohplpjdaa
open Go.RowKit

def inB (n : Int) : Bool := decide (-1000000000000 ≤ n ∧ n ≤ 1000000000000)
theorem inB_iff (n : Int) : inB n = true ↔ -1000000000000 ≤ n ∧ n ≤ 1000000000000 := by unfold inB; exact decide_eq_true_iff
theorem inB_no {n : Int} (h : inB n = false) : n < -1000000000000 ∨ 1000000000000 < n := by
  unfold inB at h; rw [decide_eq_false_iff_not] at h; omega

def subOk (a b : Int) : Bool := inB a && inB b && inB (a - b)
def subV (a b : Int) : Int := if subOk a b = true then a - b else 0
def subE (a b : Int) : Int := if subOk a b = true then 0 else 8

def mulOk (a n : Int) : Bool := inB a && inB n && inB (a * n)
def mulV (a n : Int) : Int := if mulOk a n = true then a * n else 0
def mulE (a n : Int) : Int := if mulOk a n = true then 0 else 8
/-- A product is an amount just if one factor goes often enough into the greatest amount. -/
theorem mul_bound (x y : Int) (hy : 0 < y) : 1000000000000 / y < x ↔ 1000000000000 < x * y := Int.ediv_lt_iff_lt_mul hy

theorem mul_ok {a n : Int} (ha : inB a = true) (hn : inB n = true) (h : -1000000000000 ≤ a * n ∧ a * n ≤ 1000000000000) : mulV a n = a * n ∧ mulE a n = 0 := by
  unfold mulV mulE mulOk; rw [ha, hn, (inB_iff _).2 h]; exact ⟨rfl, rfl⟩
theorem mul_no {a n : Int} (h : a * n < -1000000000000 ∨ 1000000000000 < a * n) : mulV a n = 0 ∧ mulE a n = 8 := by
  have : inB (a * n) = false := by unfold inB; rw [decide_eq_false_iff_not]; omega
  unfold mulV mulE mulOk; rw [this, Bool.and_false]; exact ⟨rfl, rfl⟩

end Go.Proofs.Ytbhdjpohplpjdaa
