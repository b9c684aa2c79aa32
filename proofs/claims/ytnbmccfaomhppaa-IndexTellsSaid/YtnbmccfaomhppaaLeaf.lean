/- The contracts of the small functions of layer 1 (classes and values of runes), each for every rune and in every world. -/
import Derived.Test.YtnbmccfaomhppaaRows
import Derived.WalkKit
import Derived.LoopTactic
import Derived.Outline
import Derived.Deep.QuietTactic
import Derived.BigQuiet
namespace Go.Proofs.Ytnbmccfaomhppaa
open Go.RowKit

theorem ret_int {k : IntKind} {a b : Int} (h : a = b) : Ending.returned (.int k a) = .returned (.int k b) := by rw [h]

def lowB (r : Int) : Bool := decide (97 ≤ r ∧ r ≤ 122)
def uppB (r : Int) : Bool := decide (65 ≤ r ∧ r ≤ 90)
def digB (r : Int) : Bool := decide (48 ≤ r ∧ r ≤ 57)
def classOf (r : Int) : Int := if (97 ≤ r ∧ r ≤ 122) ∨ (65 ≤ r ∧ r ≤ 90) then 1 else if 48 ≤ r ∧ r ≤ 57 then 2 else if r = 45 then 3 else 0
def valueOf (r : Int) : Int := if 48 ≤ r ∧ r ≤ 57 then r - 48 else if 65 ≤ r ∧ r ≤ 90 then r - 55 else if r = 42 then 36 else -1
def capOf (r : Int) : Int := if 97 ≤ r ∧ r ≤ 122 then r - 32 else r

theorem low_any (r : Int) (w : World) : Calls Try.prog 41 #[.int .i32 r] w fun e w' => e = .returned (.bool (lowB r)) ∧ w = w' := by
  by_cases h : 97 ≤ r
  · by_cases h2 : r ≤ 122
    · have e : lowB r = true := by simp [lowB, h, h2]
      go_enter Try.func41, Try.ntmps41
      go_wp2
      go_ret
      first | exact ⟨rfl, rfl⟩ | exact ⟨by rw [e]; rfl, rfl⟩
    · have e : lowB r = false := by simp [lowB, h2]
      go_enter Try.func41, Try.ntmps41
      go_wp2
      go_ret
      first | exact ⟨rfl, rfl⟩ | exact ⟨by rw [e]; rfl, rfl⟩
  · have e : lowB r = false := by simp [lowB, h]
    go_enter Try.func41, Try.ntmps41
    go_wp2
    go_ret
    first | exact ⟨rfl, rfl⟩ | exact ⟨by rw [e]; rfl, rfl⟩

theorem upp_any (r : Int) (w : World) : Calls Try.prog 55 #[.int .i32 r] w fun e w' => e = .returned (.bool (uppB r)) ∧ w = w' := by
  by_cases h : 65 ≤ r
  · by_cases h2 : r ≤ 90
    · have e : uppB r = true := by simp [uppB, h, h2]
      go_enter Try.func55, Try.ntmps55
      go_wp2
      go_ret
      first | exact ⟨rfl, rfl⟩ | exact ⟨by rw [e]; rfl, rfl⟩
    · have e : uppB r = false := by simp [uppB, h2]
      go_enter Try.func55, Try.ntmps55
      go_wp2
      go_ret
      first | exact ⟨rfl, rfl⟩ | exact ⟨by rw [e]; rfl, rfl⟩
  · have e : uppB r = false := by simp [uppB, h]
    go_enter Try.func55, Try.ntmps55
    go_wp2
    go_ret
    first | exact ⟨rfl, rfl⟩ | exact ⟨by rw [e]; rfl, rfl⟩

theorem dig_any (r : Int) (w : World) : Calls Try.prog 56 #[.int .i32 r] w fun e w' => e = .returned (.bool (digB r)) ∧ w = w' := by
  by_cases h : 48 ≤ r
  · by_cases h2 : r ≤ 57
    · have e : digB r = true := by simp [digB, h, h2]
      go_enter Try.func56, Try.ntmps56
      go_wp2
      go_ret
      first | exact ⟨rfl, rfl⟩ | exact ⟨by rw [e]; rfl, rfl⟩
    · have e : digB r = false := by simp [digB, h2]
      go_enter Try.func56, Try.ntmps56
      go_wp2
      go_ret
      first | exact ⟨rfl, rfl⟩ | exact ⟨by rw [e]; rfl, rfl⟩
  · have e : digB r = false := by simp [digB, h]
    go_enter Try.func56, Try.ntmps56
    go_wp2
    go_ret
    first | exact ⟨rfl, rfl⟩ | exact ⟨by rw [e]; rfl, rfl⟩

theorem low_yes {r : Int} (h : 97 ≤ r ∧ r ≤ 122) : lowB r = true := by simp [lowB, h]
theorem low_no {r : Int} (h : ¬ (97 ≤ r ∧ r ≤ 122)) : lowB r = false := by simp [lowB]; omega
theorem upp_yes {r : Int} (h : 65 ≤ r ∧ r ≤ 90) : uppB r = true := by simp [uppB, h]
theorem upp_no {r : Int} (h : ¬ (65 ≤ r ∧ r ≤ 90)) : uppB r = false := by simp [uppB]; omega
theorem dig_yes {r : Int} (h : 48 ≤ r ∧ r ≤ 57) : digB r = true := by simp [digB, h]
theorem dig_no {r : Int} (h : ¬ (48 ≤ r ∧ r ≤ 57)) : digB r = false := by simp [digB]; omega

theorem class_any (r : Int) (w : World) : Calls Try.prog 40 #[.int .i32 r] w fun e w' => e = .returned (.int .i64 (classOf r)) ∧ w = w' := by
  by_cases h1 : 97 ≤ r ∧ r ≤ 122
  · have e1 := low_yes h1
    have e : classOf r = 1 := by unfold classOf; rw [if_pos (Or.inl h1)]
    clear h1
    go_enter Try.func40, Try.ntmps40
    go_wp2_with (go_at_call 41; refine (low_any _ _).mono ?_; rintro e w' ⟨rfl, rfl⟩)
    go_ret
    first | exact ⟨rfl, rfl⟩ | exact ⟨by rw [e]; rfl, rfl⟩
  · have e1 := low_no h1
    by_cases h2 : 65 ≤ r ∧ r ≤ 90
    · have e2 := upp_yes h2
      have e : classOf r = 1 := by unfold classOf; rw [if_pos (Or.inr h2)]
      clear h1 h2
      go_enter Try.func40, Try.ntmps40
      go_wp2_with (first | (go_at_call 41; refine (low_any _ _).mono ?_; rintro e w' ⟨rfl, rfl⟩) | (go_at_call 55; refine (upp_any _ _).mono ?_; rintro e w' ⟨rfl, rfl⟩))
      go_ret
      first | exact ⟨rfl, rfl⟩ | exact ⟨by rw [e]; rfl, rfl⟩
    · have e2 := upp_no h2
      have h12 : ¬ ((97 ≤ r ∧ r ≤ 122) ∨ (65 ≤ r ∧ r ≤ 90)) := by omega
      by_cases h3 : 48 ≤ r ∧ r ≤ 57
      · have e3 := dig_yes h3
        have e : classOf r = 2 := by unfold classOf; rw [if_neg h12, if_pos h3]
        clear h1 h2 h3 h12
        go_enter Try.func40, Try.ntmps40
        go_wp2_with (first | (go_at_call 41; refine (low_any _ _).mono ?_; rintro e w' ⟨rfl, rfl⟩) | (go_at_call 55; refine (upp_any _ _).mono ?_; rintro e w' ⟨rfl, rfl⟩) | (go_at_call 56; refine (dig_any _ _).mono ?_; rintro e w' ⟨rfl, rfl⟩))
        go_ret
        first | exact ⟨rfl, rfl⟩ | exact ⟨by rw [e]; rfl, rfl⟩
      · have e3 := dig_no h3
        by_cases h4 : r = 45
        · subst h4
          go_enter Try.func40, Try.ntmps40
          go_wp2_with (first | (go_at_call 41; refine (low_any _ _).mono ?_; rintro e w' ⟨rfl, rfl⟩) | (go_at_call 55; refine (upp_any _ _).mono ?_; rintro e w' ⟨rfl, rfl⟩) | (go_at_call 56; refine (dig_any _ _).mono ?_; rintro e w' ⟨rfl, rfl⟩))
          go_ret
          first | exact ⟨rfl, rfl⟩ | exact ⟨by rw [e]; rfl, rfl⟩
        · have e : classOf r = 0 := by unfold classOf; rw [if_neg h12, if_neg h3, if_neg h4]
          have e4 : (r == 45) = false := by simp [h4]
          clear h1 h2 h3 h12
          go_enter Try.func40, Try.ntmps40
          go_wp2_with (first | (go_at_call 41; refine (low_any _ _).mono ?_; rintro e w' ⟨rfl, rfl⟩) | (go_at_call 55; refine (upp_any _ _).mono ?_; rintro e w' ⟨rfl, rfl⟩) | (go_at_call 56; refine (dig_any _ _).mono ?_; rintro e w' ⟨rfl, rfl⟩))
          go_ret
          first | exact ⟨rfl, rfl⟩ | exact ⟨by rw [e]; rfl, rfl⟩

def longB (s : ByteArray) : Bool := decide ((16 : Int) < (s.size : Int))
theorem long_any (s : ByteArray) (w : World) : Calls Try.prog 38 #[.string s] w fun e w' => e = .returned (.bool (longB s)) ∧ w = w' := by
  go_enter Try.func38, Try.ntmps38
  go_wp2
  go_ret
  exact ⟨rfl, rfl⟩
end Go.Proofs.Ytnbmccfaomhppaa
