/- The document's own Floor, Half and Rest, for all numbers and in every world. -/
import Derived.Test.YtbhdjpohplpjdaaDiv
namespace Go.Proofs.Ytbhdjpohplpjdaa
open Go.RowKit

def mayOk (a b c : Int) : Prop := 1 ≤ c ∧ 0 ≤ a ∧ 0 ≤ b ∧ a ≤ 1000000000000 ∧ b ≤ 1000000000000 ∧ c ≤ 1000000000000
def mayE (a b c : Int) : Int := if c < 1 then 2 else if a < 0 ∨ b < 0 ∨ 1000000000000 < a ∨ 1000000000000 < b ∨ 1000000000000 < c then 8 else 0
def halfN (a b c : Int) : Int := if c ≤ 2 * (a * b % c) then a * b / c + 1 else a * b / c
def floorE (a b c : Int) : Int := if mayE a b c = 0 then (if 1000000000000 < a * b / c then 8 else 0) else mayE a b c
def floorV (a b c : Int) : Int := if floorE a b c = 0 then a * b / c else 0
def halfE (a b c : Int) : Int := if mayE a b c = 0 then (if 1000000000000 < halfN a b c then 8 else 0) else mayE a b c
def halfV (a b c : Int) : Int := if halfE a b c = 0 then halfN a b c else 0
def restV (a b c : Int) : Int := if floorE a b c = 0 then a * b % c else 0

theorem may_three (a b c : Int) : (mayE a b c = 0 ∧ mayOk a b c) ∨ (mayE a b c = 2 ∧ c < 1) ∨ (mayE a b c = 8 ∧ 1 ≤ c) := by
  unfold mayE mayOk
  split
  · exact Or.inr (Or.inl ⟨rfl, by assumption⟩)
  · split
    · exact Or.inr (Or.inr ⟨rfl, by omega⟩)
    · exact Or.inl ⟨rfl, by omega⟩

theorem floor_bad {a b c : Int} (h : mayE a b c ≠ 0) : floorE a b c = mayE a b c ∧ floorV a b c = 0 := by
  unfold floorV floorE; rw [if_neg h, if_neg h]; exact ⟨rfl, rfl⟩
theorem half_bad {a b c : Int} (h : mayE a b c ≠ 0) : halfE a b c = mayE a b c ∧ halfV a b c = 0 := by
  unfold halfV halfE; rw [if_neg h, if_neg h]; exact ⟨rfl, rfl⟩
theorem floor_over {a b c : Int} (h : mayE a b c = 0) (hq : 1000000000000 < a * b / c) : floorE a b c = 8 ∧ floorV a b c = 0 := by
  unfold floorV floorE; rw [if_pos h, if_pos hq]; exact ⟨rfl, rfl⟩
theorem floor_fine {a b c : Int} (h : mayE a b c = 0) (hq : a * b / c ≤ 1000000000000) : floorE a b c = 0 ∧ floorV a b c = a * b / c := by
  unfold floorV floorE; rw [if_pos h, if_neg (by omega)]; exact ⟨rfl, rfl⟩
theorem half_over {a b c : Int} (h : mayE a b c = 0) (hq : 1000000000000 < halfN a b c) : halfE a b c = 8 ∧ halfV a b c = 0 := by
  unfold halfV halfE; rw [if_pos h, if_pos hq]; exact ⟨rfl, rfl⟩
theorem half_fine {a b c : Int} (h : mayE a b c = 0) (hq : halfN a b c ≤ 1000000000000) : halfE a b c = 0 ∧ halfV a b c = halfN a b c := by
  unfold halfV halfE; rw [if_pos h, if_neg (by omega)]; exact ⟨rfl, rfl⟩
theorem quo_nonneg {a b c : Int} (h : mayOk a b c) : 0 ≤ a * b / c := Int.ediv_nonneg (Int.mul_nonneg h.2.1 h.2.2.1) (by have := h.1; omega)
theorem rem_bd {a b c : Int} (h : mayOk a b c) : 0 ≤ a * b % c ∧ a * b % c < c := ⟨Int.emod_nonneg _ (by have := h.1; omega), Int.emod_lt_of_pos _ (by have := h.1; omega)⟩
theorem div_says (a b c : Int) : (divN a b c = -1 ∧ divR a b c = 0 ∧ 4000000000000 < a * b / c) ∨ (divN a b c = a * b / c ∧ divR a b c = a * b % c ∧ a * b / c ≤ 4000000000000) := by
  unfold divN divR
  by_cases h : 4000000000000 < a * b / c
  · rw [if_pos h, if_pos h]; exact Or.inl ⟨rfl, rfl, h⟩
  · rw [if_neg h, if_neg h]; exact Or.inr ⟨rfl, rfl, by omega⟩
end Go.Proofs.Ytbhdjpohplpjdaa
