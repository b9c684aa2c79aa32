/- Whether two rows of numbers are the same, for every row of numbers and in every world. -/
import Derived.Test.YtkefbgjbgblalaaInts
import Derived.Deep.QuietTactic
import Derived.BigQuiet
import Derived.Deep.CutBlock
import Derived.Lib.SmallJoins
namespace Go.Proofs.Ytkefbgjbgblalaa
open Go.RowKit

theorem drawn_below {B : Nat} {a w : World} (h : Below B a w) (n : Nat) : Below B a (w.drewN n) := ⟨h.os, h.tape, h.output, h.size, h.block⟩
theorem same_apart (a b : Option Addr) (cap cap' : Nat) (xs ys : List Int) (w : World) (hl : xs.length ≠ ys.length) :
    Calls Try.prog 19 #[.slice a xs.length cap, .slice b ys.length cap'] w fun e w' => e = .returned (.bool (decide (xs = ys))) ∧ Below w.heap.size w w' := by
  have He : Hid (decide (xs = ys) = false) := Lib.hid (decide_eq_false fun h => hl (by rw [h]))
  have hd : ((xs.length : Int) != (ys.length : Int)) = true := by rw [bne_iff_ne]; omega
  clear hl
  go_enter Try.func19, Try.ntmps19
  go_wp2
  go_ret
  exact ⟨by rw [He.out]; rfl, Below.refl _ _⟩
theorem same_none (a b : Option Addr) (cap cap' : Nat) (w : World) :
    Calls Try.prog 19 #[.slice a 0 cap, .slice b 0 cap'] w fun e w' => e = .returned (.bool true) ∧ Below w.heap.size w w' := by
  go_enter Try.func19, Try.ntmps19
  go_wp2
  go_loop [5] (fun i => i = .int .i64 0) (fun _ => 0)
  case atStart => rfl
  case round =>
    obtain rfl := hrel
    go_wp2
    go_ret
    exact ⟨rfl, Below.refl _ _⟩
set_option maxHeartbeats 1000000 in
theorem same_some (b off b' off' cap cap' : Nat) (xs ys : List Int) (w : World) (hn : xs.length ≤ 4611686018427387904) (hl : xs.length = ys.length)
    (hc : ∀ j, j < xs.length → w.cell? ⟨b, off + j, none⟩ = some (.int .i64 (numAt xs j))) (hc' : ∀ j, j < ys.length → w.cell? ⟨b', off' + j, none⟩ = some (.int .i64 (numAt ys j))) :
    Calls Try.prog 19 #[.slice (some ⟨b, off, none⟩) xs.length cap, .slice (some ⟨b', off', none⟩) ys.length cap'] w fun e w' => e = .returned (.bool (decide (xs = ys))) ∧ Below w.heap.size w w' := by
  have HC := Lib.hid hc
  have HC' := Lib.hid hc'
  have hd : ((xs.length : Int) != (ys.length : Int)) = false := by rw [hl]; simp
  clear hc hc'
  go_enter Try.func19, Try.ntmps19
  go_wp2
  go_loopw [5] (fun i wr => ∃ k m : Nat, i = .int .i64 k ∧ wr = w.drewN m ∧ k ≤ xs.length ∧ Hid (∀ j, j < k → numAt xs j = numAt ys j)) (fun i _ => xs.length - (intOf i).toNat)
  case atStart => exact ⟨0, 0, rfl, rfl, by omega, Lib.hid (fun j h => absurd h (by omega))⟩
  case round =>
    obtain ⟨k, m, rfl, rfl, hk, hs⟩ := hrel
    by_cases hlt : k < xs.length
    · have hx := HC.out k hlt
      have hy := HC'.out k (by omega)
      have i1 : (k : Int) < (xs.length : Int) := by omega
      have i2 : (k : Int) < (ys.length : Int) := by omega
      have i3 : (0 : Int) ≤ (k : Int) := by omega
      by_cases he : numAt xs k = numAt ys k
      · have hd2 : (numAt xs k != numAt ys k) = false := by rw [he]; simp
        have Hn : Hid (∀ j, j < k + 1 → numAt xs j = numAt ys j) := Lib.hid (fun j h => by
          rcases (by omega : j < k ∨ j = k) with h1 | h1
          · exact hs.out j h1
          · rw [h1]; exact he)
        clear he
        go_upto_region 6 with fail
        go_quiet (fail)
        go_wp2
        go_roundw
        case rel => exact ⟨k + 1, _, by go_num, rfl, by omega, Hn⟩
        case measure => simp [intOf]; omega
      · have hd2 : (numAt xs k != numAt ys k) = true := by rw [bne_iff_ne]; exact he
        have He : Hid (decide (xs = ys) = false) := Lib.hid (decide_eq_false fun h => he (by rw [h]))
        clear he
        go_upto_region 6 with fail
        go_quiet (fail)
        go_wp2
        go_ret
        exact ⟨by rw [He.out]; rfl, drawn_below (drawn_below (Below.refl _ _) _) _⟩
    · have He : Hid (decide (xs = ys) = true) := Lib.hid (decide_eq_true (num_ext hl fun i hi => hs.out i (by omega)))
      obtain rfl : k = xs.length := by omega
      go_wp2
      go_ret
      exact ⟨by rw [He.out]; rfl, drawn_below (Below.refl _ _) _⟩
theorem same_any (a b : Option Addr) (cap cap' : Nat) (xs ys : List Int) (w : World) (hn : xs.length ≤ 4611686018427387904) (hx : Ints w.heap.size w a xs) (hy : Ints w.heap.size w b ys) :
    Calls Try.prog 19 #[.slice a xs.length cap, .slice b ys.length cap'] w fun e w' => e = .returned (.bool (decide (xs = ys))) ∧ Below w.heap.size w w' := by
  by_cases hl : xs.length = ys.length
  · rcases hx with rfl | ⟨b1, o1, rfl, _, hc⟩
    · have : ys = [] := List.length_eq_zero_iff.1 hl.symm
      subst this
      exact same_none a b cap cap' w
    · rcases hy with rfl | ⟨b2, o2, rfl, _, hc'⟩
      · have : xs = [] := List.length_eq_zero_iff.1 hl
        subst this
        exact same_none _ b cap cap' w
      · exact same_some b1 o1 b2 o2 cap cap' xs ys w hn hl hc hc'
  · exact same_apart a b cap cap' xs ys w hl

/-! The document's Whole. -/
end Go.Proofs.Ytkefbgjbgblalaa
