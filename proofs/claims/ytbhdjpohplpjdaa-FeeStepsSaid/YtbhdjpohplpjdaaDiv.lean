/- The document's own division, digit by digit, for all numbers that may be divided: how often, and the rest. -/
import Derived.Test.YtbhdjpohplpjdaaSum
namespace Go.Proofs.Ytbhdjpohplpjdaa
open Go.RowKit

def divN (a b c : Int) : Int := if 4000000000000 < a * b / c then -1 else a * b / c
def divR (a b c : Int) : Int := if 4000000000000 < a * b / c then 0 else a * b % c

theorem step_one (a c n r T q m : Int) (h : n * c + r = a * T) (hq : q * c + m = a) : (2 * n + q) * c + (2 * r + m) = a * (2 * T + 1) := by
  have e1 : (2 * n + q) * c = 2 * (n * c) + q * c := by rw [Int.add_mul, Int.mul_assoc]
  have e2 : a * (2 * T + 1) = 2 * (a * T) + a := by rw [Int.mul_add, Int.mul_one, Int.mul_left_comm]
  omega
theorem step_two (a c n r T : Int) (h : n * c + r = a * T) : (2 * n) * c + (2 * r) = a * (2 * T) := by
  have e1 : (2 * n) * c = 2 * (n * c) := by rw [Int.mul_assoc]
  have e2 : a * (2 * T) = 2 * (a * T) := by rw [Int.mul_left_comm]
  omega
theorem one_less (c n r S : Int) (h : n * c + r = S) : (n + 1) * c + (r - c) = S := by
  have e1 : (n + 1) * c = n * c + c := by rw [Int.add_mul, Int.one_mul]
  omega
theorem half_of (b : Int) (k : Nat) : b / 2 ^ k / 2 = b / 2 ^ (k + 1) := by
  have hp : (0 : Int) < 2 ^ k := Int.pow_pos (by omega)
  rw [Int.pow_succ, Int.ediv_ediv, if_neg (by omega), Int.sub_zero]
theorem early (a b c n r T : Int) (h : n * c + r = a * T) (hT : T ≤ b) (ha : 0 ≤ a) (hr : 0 ≤ r) (hc : 0 < c) (hn : 4000000000000 < n) : 4000000000000 < a * b / c := by
  have h1 : n ≤ a * b / c := (Int.le_ediv_iff_mul_le hc).2 (by
    have := Int.mul_le_mul_of_nonneg_left hT ha
    omega)
  omega
theorem late (a b c n r : Int) (h : n * c + r = a * b) (hr0 : 0 ≤ r) (hr1 : r < c) (hn : n ≤ 4000000000000) : divN a b c = n ∧ divR a b c = r := by
  have hc : 0 < c := by omega
  obtain ⟨h1, h2⟩ := (Int.ediv_emod_unique (a := a * b) (q := n) (r := r) hc).2 ⟨by rw [Int.mul_comm c n]; omega, hr0, hr1⟩
  unfold divN divR
  rw [h1, h2, if_neg (by omega), if_neg (by omega)]
  exact ⟨rfl, rfl⟩

end Go.Proofs.Ytbhdjpohplpjdaa
