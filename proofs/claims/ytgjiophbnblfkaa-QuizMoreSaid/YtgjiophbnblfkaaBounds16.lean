/- The walks of QuizBounds and QuizMore, from what is wanted of quiz's functions. -/
import Derived.Test.YtgjiophbnblfkaaWalks16
namespace Go.Proofs.Ytgjiophbnblfkaa
open Go.RowKit

set_option maxHeartbeats 4000000 in
theorem quizBounds_from (Q : Quiz16) (w : World) (a : Option Addr) (cap : Nat) (xs : List Int) (_ : xs.length ≤ maxLen) (hx : Ints w.heap.size w a xs) (hcap : xs.length ≤ cap) (m : Int) (hwf : (Lit.int .i64 m).wf = true) :
    Calls Try.prog 4 #[.slice a xs.length cap, .int .i64 m] w fun e w' => e = .returned (.bool true) ∧ Below w.heap.size w w' := by
  by_cases h1 : 100 < xs.length
  · have e1 : decide (100 < (xs.length : Int)) = true := decide_eq_true (by omega)
    have e1' : decide (100 < xs.length) = true := decide_eq_true h1
    have hA := awake16 Q w
    clear h1 hx hcap hwf Q
    go_enter Try.func4, Try.ntmps4
    go_wp2_with (go_at_call 6; refine hA.mono ?_; rintro e w2 ⟨rfl, hb⟩; have HB := Lib.hid hb; clear hb)
    go_ret
    exact ⟨rfl, HB.out⟩
  have e1 : decide (100 < (xs.length : Int)) = false := decide_eq_false (by omega)
  have e1' : decide (100 < xs.length) = false := decide_eq_false h1
  have A0 : Hid (At16 w w a xs none []) := Lib.hid ⟨Below.refl _ _, hx, Or.inl rfl⟩
  have HQ := Lib.hid Q
  have HC := Lib.hid hcap
  have HW := Lib.hid hwf
  have hch := Q.check a cap xs w hcap hx (by omega)
  by_cases hA : ¬ Asks xs
  · rw [asks_no hA] at hch
    clear h1 hx hcap hwf hA
    go_enter Try.func4, Try.ntmps4
    go_wp2_with (first
      | (go_at_call 13; refine hch.mono ?_; rintro e w1 ⟨rfl, hb⟩; have A1 := Lib.hid (A0.out.step hb); clear hb A0)
      | (go_at_call 6; refine (awake16 HQ.out _).mono ?_; rintro e w12 ⟨rfl, hb⟩; have B12 := Lib.hid (A1.out.step hb); clear hb))
    go_ret
    exact ⟨rfl, B12.out.below⟩
  have hA := Decidable.not_not.1 hA
  rw [asks_yes hA] at hch
  have h8 := hA.2.1
  have HA := Lib.hid hA
  have hin : InA xs (((2 ^ xs.length - 1 : Nat)) : Int) := ⟨by omega, by have := Nat.two_pow_pos xs.length; omega⟩
  have hin0 : InA xs 0 := ⟨by omega, by have := Nat.two_pow_pos xs.length; omega⟩
  have h0 := hA.1
  obtain ⟨n, hn⟩ : ∃ n, xs.length = n := ⟨_, rfl⟩
  obtain ⟨U, hU⟩ : ∃ U : Int, ((2 ^ n - 1 : Nat) : Int) = U := ⟨_, rfl⟩
  have hc : (n = 1 ∧ U = 1) ∨ (n = 2 ∧ U = 3) ∨ (n = 3 ∧ U = 7) ∨ (n = 4 ∧ U = 15) ∨ (n = 5 ∧ U = 31) ∨ (n = 6 ∧ U = 63) ∨ (n = 7 ∧ U = 127) ∨ (n = 8 ∧ U = 255) := by
    rw [hn] at h0 h8
    match n, h0, h8, hU with
    | 1, _, _, hU => exact Or.inl ⟨rfl, hU.symm⟩
    | 2, _, _, hU => exact Or.inr (Or.inl ⟨rfl, hU.symm⟩)
    | 3, _, _, hU => exact Or.inr (Or.inr (Or.inl ⟨rfl, hU.symm⟩))
    | 4, _, _, hU => exact Or.inr (Or.inr (Or.inr (Or.inl ⟨rfl, hU.symm⟩)))
    | 5, _, _, hU => exact Or.inr (Or.inr (Or.inr (Or.inr (Or.inl ⟨rfl, hU.symm⟩))))
    | 6, _, _, hU => exact Or.inr (Or.inr (Or.inr (Or.inr (Or.inr (Or.inl ⟨rfl, hU.symm⟩)))))
    | 7, _, _, hU => exact Or.inr (Or.inr (Or.inr (Or.inr (Or.inr (Or.inr (Or.inl ⟨rfl, hU.symm⟩))))))
    | 8, _, _, hU => exact Or.inr (Or.inr (Or.inr (Or.inr (Or.inr (Or.inr (Or.inr ⟨rfl, hU.symm⟩))))))
  have hU8 : (Lit.int .i64 U).wf = true := WalkArith.wf_i64 (by omega)
  have H1 : Hid (∀ W, Ints W.heap.size W a xs → Calls Try.prog 7 #[.slice a n cap, .int .i64 U] W fun e w' => e = .returned (.tuple #[.int .i64 0, .int .i64 0]) ∧ Below W.heap.size W w') := Lib.hid fun W h => by
    have := Q.score a cap xs U W hcap h (by omega) hU8
    rw [← hU, ← hn] at this ⊢
    rw [scoreV, (fail_yes hA hin).1, (fail_yes hA hin).2, sum_all xs _ (Nat.le_refl _)] at this
    exact this
  have H2 : Hid (∀ W, Ints W.heap.size W a xs → Calls Try.prog 7 #[.slice a n cap, .int .i64 0] W fun e w' => e = .returned (.tuple #[.int .i64 (worstV xs), .int .i64 0]) ∧ Below W.heap.size W w') := Lib.hid fun W h => by
    have := Q.score a cap xs 0 W hcap h (by omega) (by decide)
    rw [scoreV, (fail_yes hA hin0).1, (fail_yes hA hin0).2, sum_none, hn] at this
    rw [worstV, if_pos hA, hn]
    exact this
  have hE : (failE xs m ≠ 0 ∧ (failE xs m != 0) = true) ∨ (failE xs m = 0 ∧ 0 ≤ scoreV xs m ∧ scoreV xs m ≤ worstV xs) := by
    by_cases q : failE xs m = 0
    · have z := fail_zero q
      have := sum_bounds xs m hA.2.2 xs.length (Nat.le_refl _)
      rw [scoreV, (fail_yes z.1 z.2).2, worstV, if_pos hA]
      exact Or.inr ⟨q, this.1, this.2.1⟩
    · exact Or.inl ⟨q, by rw [bne_iff_ne]; exact q⟩
  have H3 : Hid (∀ W, Ints W.heap.size W a xs → Calls Try.prog 7 #[.slice a n cap, .int .i64 m] W fun e w' => e = .returned (.tuple #[.int .i64 (scoreV xs m), .int .i64 (failE xs m)]) ∧ Below W.heap.size W w') := Lib.hid fun W h => by rw [← hn]; exact Q.score a cap xs m W hcap h (by omega) hwf
  have H4 : Hid (∀ W, Ints W.heap.size W a xs → Calls Try.prog 15 #[.slice a n cap] W fun e w' => e = .returned (.int .i64 (worstV xs)) ∧ Below W.heap.size W w') := Lib.hid fun W h => by rw [← hn]; exact Q.worst a cap xs W hcap h (by omega)
  rw [hn] at hch e1 e1' ⊢
  have H0 := Lib.hid hch
  clear hx hcap hwf hA hU Q hin hin0 h0 h8 h1 HA hn hch hU8 e1 e1'
  generalize scoreV xs m = sc at *
  generalize failE xs m = E at *
  generalize worstV xs = wo at *
  have hE2 : (∃ d : E ≠ 0, (E != 0) = true) ∨ (E = 0 ∧ decide (0 ≤ sc) = true ∧ decide (sc ≤ wo) = true) := by
    rcases hE with ⟨h, h'⟩ | ⟨h, h2, h3⟩
    · exact Or.inl ⟨h, h'⟩
    · exact Or.inr ⟨h, decide_eq_true h2, decide_eq_true h3⟩
  clear hE
  rcases hE2 with ⟨hE, hE'⟩ | ⟨rfl, hE, hE'⟩
  all_goals
    rcases hc with ⟨rfl, rfl⟩ | ⟨rfl, rfl⟩ | ⟨rfl, rfl⟩ | ⟨rfl, rfl⟩ | ⟨rfl, rfl⟩ | ⟨rfl, rfl⟩ | ⟨rfl, rfl⟩ | ⟨rfl, rfl⟩
    all_goals
      go_enter Try.func4, Try.ntmps4
      go_wp2_with (first
        | (go_at_call 13; refine H0.out.mono ?_; rintro e w1 ⟨rfl, hb⟩; have A1 := Lib.hid (A0.out.step hb); clear hb A0)
        | (go_at_call 7; refine (H1.out _ A1.out.one).mono ?_; rintro e w2 ⟨rfl, hb⟩; have A2 := Lib.hid (A1.out.step hb); clear hb A1)
        | (go_at_call 7; refine (H2.out _ A2.out.one).mono ?_; rintro e w3 ⟨rfl, hb⟩; have A3 := Lib.hid (A2.out.step hb); clear hb A2)
        | (go_at_call 15; refine (H4.out _ A3.out.one).mono ?_; rintro e w4 ⟨rfl, hb⟩; have A4 := Lib.hid (A3.out.step hb); clear hb A3)
        | (go_at_call 7; refine (H3.out _ A4.out.one).mono ?_; rintro e w5 ⟨rfl, hb⟩; have A5 := Lib.hid (A4.out.step hb); clear hb A4)
        | (go_at_call 6; refine (awake16 HQ.out _).mono ?_; rintro e w12 ⟨rfl, hb⟩; have B12 := Lib.hid (A5.out.step hb); clear hb))
      go_ret
      exact ⟨rfl, B12.out.below⟩
end Go.Proofs.Ytgjiophbnblfkaa
