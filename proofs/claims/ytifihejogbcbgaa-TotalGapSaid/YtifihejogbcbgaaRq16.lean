/- The document's Check, Worst, Failed and Score of questions: for every slice of numbers, in every world. -/
import Derived.Test.YtifihejogbcbgaaMQz16
import Derived.Test.YtifihejogbcbgaaMSameInts
namespace Go.Proofs.Ytifihejogbcbgaa
open Go.RowKit

theorem drew_more16 (w : World) (n m : Nat) : (w.drewN n).drewN m = w.drewN (n + m) := by
  first
  | rfl
  | (simp [World.drewN]; omega)
theorem asks_stop {l : List Int} {k : Nat} (hk : k < l.length) (h : ¬ AskAt l k) : asksE l = 36 := asks_no fun q => h (q.2.2 k hk)
set_option maxHeartbeats 1000000 in
theorem rcheck16_any (a : Option Addr) (cap : Nat) (xs : List Int) (B : Nat) (w : World) (hx : Ints B w a xs) (hn : xs.length ≤ 1000000) :
    Calls Try.prog 34 #[.slice a xs.length cap] w fun e w' => e = .returned (.int .i64 (asksE xs)) ∧ ∃ m, w' = w.drewN m := by
  have HX := Lib.hid hx
  clear hx
  by_cases h0 : xs.length = 0
  · have d0 : ((xs.length : Int) == 0) = true := by rw [h0]; rfl
    have HE : Hid (asksE xs = 36) := Lib.hid (asks_no fun q => absurd q.1 (by omega))
    clear h0
    go_enter Try.func34, Try.ntmps34
    go_wp2
    go_ret
    exact ⟨by rw [HE.out]; rfl, 0, rfl⟩
  have d0 : ((xs.length : Int) == 0) = false := by rw [beq_eq_false_iff_ne]; omega
  by_cases h8 : 8 < xs.length
  · have d1 : decide (8 < (xs.length : Int)) = true := decide_eq_true (by omega)
    have d1' : decide (8 < xs.length) = true := decide_eq_true h8
    have HE : Hid (asksE xs = 36) := Lib.hid (asks_no fun q => absurd q.2.1 (by omega))
    clear h0 h8
    go_enter Try.func34, Try.ntmps34
    go_wp2
    go_ret
    exact ⟨by rw [HE.out]; rfl, 0, rfl⟩
  have d1 : decide (8 < (xs.length : Int)) = false := decide_eq_false (by omega)
  have d1' : decide (8 < xs.length) = false := decide_eq_false h8
  go_enter Try.func34, Try.ntmps34
  go_wp2
  go_loopw [3] (fun i wr => ∃ k m : Nat, i = .int .i64 k ∧ wr = w.drewN m ∧ k ≤ xs.length ∧ Hid (∀ j, j < k → AskAt xs j)) (fun i _ => xs.length - (intOf i).toNat)
  case atStart => exact ⟨0, 0, rfl, rfl, by omega, Lib.hid fun j h => absurd h (by omega)⟩
  case round =>
    obtain ⟨k, m, rfl, rfl, hk, hr⟩ := hrel
    by_cases hlt : k < xs.length
    · rcases HX.out with h | ⟨b, off, rfl, _, hc⟩
      · exfalso; rw [h] at hlt; simp at hlt
      have hx := hc k hlt
      clear hc
      have i1 : (k : Int) < (xs.length : Int) := by omega
      have i3 : (0 : Int) ≤ (k : Int) := by omega
      by_cases q1 : numAt xs k < 0
      · have q1' : decide (numAt xs k < 0) = true := decide_eq_true q1
        have HE : Hid (asksE xs = 36) := Lib.hid (asks_stop hlt fun q => by have := q.1; omega)
        clear q1
        go_wp2
        go_ret
        refine ⟨by rw [HE.out]; rfl, ?_⟩; first | exact ⟨_, rfl⟩ | exact ⟨_, drew_more16 _ _ _⟩
      · have q1' : decide (numAt xs k < 0) = false := decide_eq_false q1
        by_cases q2 : 1000 < numAt xs k
        · have q2' : decide (1000 < numAt xs k) = true := decide_eq_true q2
          have HE : Hid (asksE xs = 36) := Lib.hid (asks_stop hlt fun q => by have := q.2; omega)
          clear q1 q2
          go_wp2
          go_ret
          refine ⟨by rw [HE.out]; rfl, ?_⟩; first | exact ⟨_, rfl⟩ | exact ⟨_, drew_more16 _ _ _⟩
        · have q2' : decide (1000 < numAt xs k) = false := decide_eq_false q2
          have HN : Hid (∀ j, j < k + 1 → AskAt xs j) := Lib.hid fun j hj => by
            rcases (by omega : j < k ∨ j = k) with h | h
            · exact hr.out j h
            · rw [h]; exact ⟨by omega, by omega⟩
          clear q1 q2
          go_wp2
          go_roundw
          case rel => exact ⟨k + 1, _, by go_num, rfl, by omega, HN⟩
          case measure => simp [intOf]; omega
    · obtain rfl : k = xs.length := by omega
      have HE : Hid (asksE xs = 0) := Lib.hid (asks_yes ⟨by omega, by omega, hr.out⟩)
      go_wp2
      go_ret
      refine ⟨by rw [HE.out]; rfl, ?_⟩; first | exact ⟨_, rfl⟩ | exact ⟨_, drew_more16 _ _ _⟩
/-- A call of the document's Check, from a world that has only been drawn from. -/
theorem rcheck16_on (a : Option Addr) (cap : Nat) (xs : List Int) (w : World) (hx : Ints w.heap.size w a xs) (hn : xs.length ≤ 1000000) (m : Nat) :
    Calls Try.prog 34 #[.slice a xs.length cap] (w.drewN m) fun e w' => e = .returned (.int .i64 (asksE xs)) ∧ ∃ m', w' = w.drewN m' := by
  refine (rcheck16_any a cap xs _ (w.drewN m) (hx.below (drawn_below (Below.refl _ _) m)) hn).mono ?_
  rintro e w' ⟨rfl, m', rfl⟩
  exact ⟨rfl, m + m', drew_more16 _ _ _⟩
theorem worst_small {l : List Int} (h : ∀ j, j < l.length → AskAt l j) (k : Nat) (hk : k ≤ l.length) : 0 ≤ worstTo l k ∧ worstTo l k ≤ 1000 * k := by
  have := sum_bounds l 0 h k hk
  omega
end Go.Proofs.Ytifihejogbcbgaa
