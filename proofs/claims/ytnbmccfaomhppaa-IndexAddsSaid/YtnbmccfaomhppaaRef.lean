/- The document's own answers for classes and values of runes, for every rune and in every world. -/
import Derived.Test.YtnbmccfaomhppaaMFold
import Derived.Laws.IdiomStrings
import Derived.Lib.SmallJoins
namespace Go.Proofs.Ytnbmccfaomhppaa
open Go.RowKit

set_option maxHeartbeats 1000000 in
theorem rclass_any (r : Int) (w : World) : Calls Try.prog 70 #[.int .i32 r] w fun e w' => e = .returned (.int .i64 (classOf r)) ∧ w = w' := by
  have hcases : r < 45 ∨ r = 45 ∨ (45 < r ∧ r < 48) ∨ (48 ≤ r ∧ r ≤ 57) ∨ (57 < r ∧ r < 65) ∨ (65 ≤ r ∧ r ≤ 90) ∨ (90 < r ∧ r < 97) ∨ (97 ≤ r ∧ r ≤ 122) ∨ 122 < r := by omega
  rcases hcases with h | h | ⟨h, h'⟩ | ⟨h, h'⟩ | ⟨h, h'⟩ | ⟨h, h'⟩ | ⟨h, h'⟩ | ⟨h, h'⟩ | h
  · have e : classOf r = 0 := by unfold classOf; rw [if_neg (by omega), if_neg (by omega), if_neg (by omega)]
    have ed : (r == 45) = false := by simp; omega
    have He := Lib.hid e
    clear e
    go_enter Try.func70, Try.ntmps70
    go_wp2
    go_ret
    exact ⟨by rw [He.out]; rfl, rfl⟩
  · subst h
    go_enter Try.func70, Try.ntmps70
    go_wp2
    go_ret
    exact ⟨rfl, rfl⟩
  · have e : classOf r = 0 := by unfold classOf; rw [if_neg (by omega), if_neg (by omega), if_neg (by omega)]
    have ed : (r == 45) = false := by simp; omega
    have He := Lib.hid e
    clear e
    go_enter Try.func70, Try.ntmps70
    go_wp2
    go_ret
    exact ⟨by rw [He.out]; rfl, rfl⟩
  · have e : classOf r = 2 := by unfold classOf; rw [if_neg (by omega), if_pos (by omega)]
    have He := Lib.hid e
    clear e
    go_enter Try.func70, Try.ntmps70
    go_wp2
    go_ret
    exact ⟨by rw [He.out]; rfl, rfl⟩
  · have e : classOf r = 0 := by unfold classOf; rw [if_neg (by omega), if_neg (by omega), if_neg (by omega)]
    have ed : (r == 45) = false := by simp; omega
    have He := Lib.hid e
    clear e
    go_enter Try.func70, Try.ntmps70
    go_wp2
    go_ret
    exact ⟨by rw [He.out]; rfl, rfl⟩
  · have e : classOf r = 1 := by unfold classOf; rw [if_pos (by omega)]
    have He := Lib.hid e
    clear e
    go_enter Try.func70, Try.ntmps70
    go_wp2
    go_ret
    exact ⟨by rw [He.out]; rfl, rfl⟩
  · have e : classOf r = 0 := by unfold classOf; rw [if_neg (by omega), if_neg (by omega), if_neg (by omega)]
    have ed : (r == 45) = false := by simp; omega
    have He := Lib.hid e
    clear e
    go_enter Try.func70, Try.ntmps70
    go_wp2
    go_ret
    exact ⟨by rw [He.out]; rfl, rfl⟩
  · have e : classOf r = 1 := by unfold classOf; rw [if_pos (by omega)]
    have He := Lib.hid e
    clear e
    go_enter Try.func70, Try.ntmps70
    go_wp2
    go_ret
    exact ⟨by rw [He.out]; rfl, rfl⟩
  · have e : classOf r = 0 := by unfold classOf; rw [if_neg (by omega), if_neg (by omega), if_neg (by omega)]
    have ed : (r == 45) = false := by simp; omega
    have He := Lib.hid e
    clear e
    go_enter Try.func70, Try.ntmps70
    go_wp2
    go_ret
    exact ⟨by rw [He.out]; rfl, rfl⟩

theorem sym_value (k : Nat) (h : k < 37) (r : Int) : symAt (k : Int) = r ↔ valueOf r = (k : Int) := by
  unfold symAt valueOf
  constructor
  · intro e
    split at e
    · rw [if_pos (by omega)]; omega
    · split at e
      · rw [if_neg (by omega), if_pos (by omega)]; omega
      · rw [if_neg (by omega), if_neg (by omega), if_pos (by omega)]; omega
  · intro e
    split at e
    · rw [if_pos (by omega)]; omega
    · split at e
      · rw [if_neg (by omega), if_pos (by omega)]; omega
      · split at e
        · rw [if_neg (by omega), if_neg (by omega)]; omega
        · omega

end Go.Proofs.Ytnbmccfaomhppaa
