/- The document's own answers for classes and values of runes, for every rune and in every world. -/
import Derived.Test.YtjkdfagkdgghpaaMark
import Derived.Laws.IdiomStrings
import Derived.Lib.SmallJoins
namespace Go.Proofs.Ytjkdfagkdgghpaa
open Go.RowKit

set_option maxHeartbeats 1000000 in
theorem rclass_any (r : Int) (w : World) : Calls Try.prog 9 #[.int .i32 r] w fun e w' => e = .returned (.int .i64 (classOf r)) ∧ w = w' := by
  have hcases : r < 45 ∨ r = 45 ∨ (45 < r ∧ r < 48) ∨ (48 ≤ r ∧ r ≤ 57) ∨ (57 < r ∧ r < 65) ∨ (65 ≤ r ∧ r ≤ 90) ∨ (90 < r ∧ r < 97) ∨ (97 ≤ r ∧ r ≤ 122) ∨ 122 < r := by omega
  rcases hcases with h | h | ⟨h, h'⟩ | ⟨h, h'⟩ | ⟨h, h'⟩ | ⟨h, h'⟩ | ⟨h, h'⟩ | ⟨h, h'⟩ | h
  · have e : classOf r = 0 := by unfold classOf; rw [if_neg (by omega), if_neg (by omega), if_neg (by omega)]
    have ed : (r == 45) = false := by simp; omega
    have He := Lib.hid e
    clear e
    go_enter Try.func9, Try.ntmps9
    go_wp2
    go_ret
    exact ⟨by rw [He.out]; rfl, rfl⟩
  · subst h
    go_enter Try.func9, Try.ntmps9
    go_wp2
    go_ret
    exact ⟨rfl, rfl⟩
  · have e : classOf r = 0 := by unfold classOf; rw [if_neg (by omega), if_neg (by omega), if_neg (by omega)]
    have ed : (r == 45) = false := by simp; omega
    have He := Lib.hid e
    clear e
    go_enter Try.func9, Try.ntmps9
    go_wp2
    go_ret
    exact ⟨by rw [He.out]; rfl, rfl⟩
  · have e : classOf r = 2 := by unfold classOf; rw [if_neg (by omega), if_pos (by omega)]
    have He := Lib.hid e
    clear e
    go_enter Try.func9, Try.ntmps9
    go_wp2
    go_ret
    exact ⟨by rw [He.out]; rfl, rfl⟩
  · have e : classOf r = 0 := by unfold classOf; rw [if_neg (by omega), if_neg (by omega), if_neg (by omega)]
    have ed : (r == 45) = false := by simp; omega
    have He := Lib.hid e
    clear e
    go_enter Try.func9, Try.ntmps9
    go_wp2
    go_ret
    exact ⟨by rw [He.out]; rfl, rfl⟩
  · have e : classOf r = 1 := by unfold classOf; rw [if_pos (by omega)]
    have He := Lib.hid e
    clear e
    go_enter Try.func9, Try.ntmps9
    go_wp2
    go_ret
    exact ⟨by rw [He.out]; rfl, rfl⟩
  · have e : classOf r = 0 := by unfold classOf; rw [if_neg (by omega), if_neg (by omega), if_neg (by omega)]
    have ed : (r == 45) = false := by simp; omega
    have He := Lib.hid e
    clear e
    go_enter Try.func9, Try.ntmps9
    go_wp2
    go_ret
    exact ⟨by rw [He.out]; rfl, rfl⟩
  · have e : classOf r = 1 := by unfold classOf; rw [if_pos (by omega)]
    have He := Lib.hid e
    clear e
    go_enter Try.func9, Try.ntmps9
    go_wp2
    go_ret
    exact ⟨by rw [He.out]; rfl, rfl⟩
  · have e : classOf r = 0 := by unfold classOf; rw [if_neg (by omega), if_neg (by omega), if_neg (by omega)]
    have ed : (r == 45) = false := by simp; omega
    have He := Lib.hid e
    clear e
    go_enter Try.func9, Try.ntmps9
    go_wp2
    go_ret
    exact ⟨by rw [He.out]; rfl, rfl⟩

theorem sym_value (k : Nat) (h : k < 37) (r : Int) : symAt (k : Int) = r ↔ valueOf r = (k : Int) := by
  unfold symAt valueOf
  constructor
  · intro e
    split at e
    · rw [if_pos (by omega)]; omega
    · split at e
      · rw [if_neg (by omega), if_pos (by omega)]; omega
      · rw [if_neg (by omega), if_neg (by omega), if_pos (by omega)]; omega
  · intro e
    split at e
    · rw [if_pos (by omega)]; omega
    · split at e
      · rw [if_neg (by omega), if_pos (by omega)]; omega
      · split at e
        · rw [if_neg (by omega), if_neg (by omega)]; omega
        · omega

set_option maxHeartbeats 1000000 in
theorem rvalue_any (r : Int) (w : World) : Calls Try.prog 11 #[.int .i32 r] w fun e w' => e = .returned (.int .i64 (valueOf r)) ∧ w = w' := by
  have hv := value_le r
  go_enter Try.func11, Try.ntmps11
  go_wp2
  go_loop [4] (fun i => ∃ k : Nat, k ≤ 37 ∧ i = .int .i64 k ∧ (valueOf r = -1 ∨ (k : Int) ≤ valueOf r)) (fun i => 37 - (intOf i).toNat)
  case atStart => exact ⟨0, by omega, rfl, by omega⟩
  case round =>
    obtain ⟨k, hk, rfl, hkv⟩ := hrel
    by_cases hlt : k < 37
    · have hix := sym_index (k : Int) (by omega) (by omega)
      have hsb := symAt_bd (k : Int) (by omega) (by omega)
      by_cases hq : valueOf r = (k : Int)
      · have ht : (symAt (k : Int) == r) = true := by simp [(sym_value k hlt r).2 hq]
        have Hq := Lib.hid hq
        clear hq hkv
        go_wp2
        go_ret
        exact ⟨by rw [Hq.out]; rfl, rfl⟩
      · have ht : (symAt (k : Int) == r) = false := by
          simp
          exact fun e => hq ((sym_value k hlt r).1 e)
        have hn : valueOf r = -1 ∨ ((k + 1 : Nat) : Int) ≤ valueOf r := by omega
        have Hn := Lib.hid hn
        clear hq hkv hn
        go_wp2
        go_round
        case rel => exact ⟨k + 1, by omega, by go_num, Hn.out⟩
        case measure => simp [intOf]; omega
    · obtain rfl : k = 37 := by omega
      have hn : valueOf r = -1 := by omega
      have Hn := Lib.hid hn
      clear hn hkv
      go_wp2
      go_ret
      exact ⟨by rw [Hn.out]; rfl, rfl⟩
end Go.Proofs.Ytjkdfagkdgghpaa
