/- The walk of QuizMore, from what is wanted of quiz's functions. -/
import Derived.Test.YtgjiophbnblfkaaWalks16
namespace Go.Proofs.Ytgjiophbnblfkaa
open Go.RowKit

/-- The last bit of a number. -/
theorem and_one16 (n : Int) : bits .and .i64 n 1 = n % 2 := by
  have e : (BitVec.ofInt 64 n &&& BitVec.ofInt 64 1).toNat = (n % 18446744073709551616).toNat % 2 := by
    rw [BitVec.toNat_and, BitVec.toNat_ofInt, show (BitVec.ofInt 64 1).toNat = 1 by decide, Nat.and_one_is_mod]
    rfl
  show IntKind.i64.wrap ((BitVec.ofInt 64 n &&& BitVec.ofInt 64 1).toNat : Nat) = n % 2
  rw [e, IntKind.wrap_i64]
  omega
set_option maxRecDepth 100000 in
set_option maxHeartbeats 4000000 in
theorem quizMore_from (Q : Quiz16) (w : World) (a : Option Addr) (cap : Nat) (xs : List Int) (_ : xs.length ≤ maxLen) (hx : Ints w.heap.size w a xs) (hcap : xs.length ≤ cap) (m : Int) (hwf : (Lit.int .i64 m).wf = true) (t : Int) (_ : (Lit.int .i64 t).wf = true) :
    Calls Try.prog 5 #[.slice a xs.length cap, .int .i64 m, .int .i64 t] w fun e w' => e = .returned (.bool true) ∧ Below w.heap.size w w' := by
  by_cases h1 : 100 < xs.length
  · have e1 : decide (100 < (xs.length : Int)) = true := decide_eq_true (by omega)
    have e1' : decide (100 < xs.length) = true := decide_eq_true h1
    have hA := awake16 Q w
    clear h1 hx hcap hwf Q
    go_enter Try.func5, Try.ntmps5
    go_wp2_with (go_at_call 6; refine hA.mono ?_; rintro e w2 ⟨rfl, hb⟩; have HB := Lib.hid hb; clear hb)
    go_ret
    exact ⟨rfl, HB.out⟩
  have e1 : decide (100 < (xs.length : Int)) = false := decide_eq_false (by omega)
  have e1' : decide (100 < xs.length) = false := decide_eq_false h1
  have A0 : Hid (At16 w w a xs none []) := Lib.hid ⟨Below.refl _ _, hx, Or.inl rfl⟩
  have HQ := Lib.hid Q
  have HC := Lib.hid hcap
  have HW := Lib.hid hwf
  have H1 : Hid (∀ W, Ints W.heap.size W a xs → Calls Try.prog 7 #[.slice a xs.length cap, .int .i64 m] W fun e w' => e = .returned (.tuple #[.int .i64 (scoreV xs m), .int .i64 (failE xs m)]) ∧ Below W.heap.size W w') := Lib.hid fun W h => Q.score a cap xs m W hcap h (by omega) hwf
  have H2 : Hid (∀ W, Ints W.heap.size W a xs → Calls Try.prog 9 #[.slice a xs.length cap, .int .i64 m] W fun e w' => Gives16 W e w' (failV xs m) (failE xs m)) := Lib.hid fun W h => Q.failed a cap xs m W hcap h (by omega) hwf
  have HK : Hid (∀ W, Below w.heap.size w W → Calls Try.prog 6 #[] W fun e w' => e = .returned (.bool true) ∧ Below w.heap.size w w') := Lib.hid fun W hb => by
    refine (awake16 Q W).mono ?_
    rintro e w' ⟨rfl, hb2⟩
    exact ⟨rfl, hb.trans (hb2.mono hb.size)⟩
  by_cases hE : ¬ failE xs m = 0
  · obtain ⟨q1, q2⟩ := fail_off hE
    rw [q2] at H1
    rw [q1] at H2
    have d1 : (failE xs m != 0) = true := by rw [bne_iff_ne]; exact hE
    clear hx hcap hwf q1 q2 Q h1
    generalize failE xs m = E at *
    go_enter Try.func5, Try.ntmps5
    go_wp2_with (first
      | (go_at_call 7; refine (H1.out _ A0.out.one).mono ?_; rintro e w1 ⟨rfl, hb⟩; have A1 := Lib.hid (A0.out.step hb); clear hb A0)
      | (go_at_call 9; refine (H2.out _ A1.out.one).mono ?_; rintro e w2 ⟨a2, c2, rfl, _, _, hb⟩; have A2 := Lib.hid (A1.out.step hb); clear hb A1)
      | (go_at_call 6; refine (HK.out _ A2.out.below).mono ?_; rintro e w12 ⟨rfl, hb⟩; have B12 := Lib.hid hb; clear hb))
    go_ret
    exact ⟨by simp, B12.out⟩
  have hE := Decidable.not_not.1 hE
  obtain ⟨hA, hin⟩ := fail_zero hE
  have h8 := hA.2.1
  obtain ⟨M, rfl⟩ : ∃ M : Nat, m = M := ⟨m.toNat, by have := hin.1; omega⟩
  have hM : M < 2 ^ xs.length := by have := hin.2; omega
  have hM8 := pow_small h8
  have hv := (fail_yes hA hin).2
  rw [scoreV, hE, hv] at H1
  rw [hE, hv] at H2
  have hlen := noes_len (M : Int) xs.length
  have hans := ans_yes hA (noes_fails (M : Int) xs.length)
  rw [ans_noes hM] at hans
  have H3 : Hid (∀ (W : World) (a2 : Option Addr) (c2 : Nat), Ints W.heap.size W a xs → (noesTo (M : Int) xs.length).length ≤ c2 → Ints W.heap.size W a2 (noesTo (M : Int) xs.length) → Calls Try.prog 11 #[.slice a xs.length cap, .slice a2 (noesTo (M : Int) xs.length).length c2] W fun e w' => e = .returned (.tuple #[.int .i64 (M : Int), .int .i64 0]) ∧ Below W.heap.size W w') := Lib.hid fun W a2 c2 h hc2 h2 => by
    have := Q.answers a cap xs a2 c2 (noesTo (M : Int) xs.length) W hcap h (by omega) hc2 h2 (by omega)
    rw [hans.1, hans.2] at this
    exact this
  by_cases ht : t < 0
  · have d1 : decide (t < 0) = true := decide_eq_true ht
    clear hx hcap hwf Q h1 ht hE hA hin hM hM8 hv hlen hans
    go_enter Try.func5, Try.ntmps5
    go_wp2_with (first
      | (go_at_call 7; refine (H1.out _ A0.out.one).mono ?_; rintro e w1 ⟨rfl, hb⟩; have A1 := Lib.hid (A0.out.step hb); clear hb A0)
      | (go_at_call 9; refine (H2.out _ A1.out.one).mono ?_; rintro e w2 ⟨a2, c2, rfl, hc2, hi2, hb⟩; have A2 := Lib.hid (A1.out.step hb); have I2 := Lib.hid (And.intro hc2 hi2); clear hb A1 hc2 hi2)
      | (go_at_call 11; refine (H3.out _ _ _ A2.out.one I2.out.1 I2.out.2).mono ?_; rintro e w3 ⟨rfl, hb⟩; have A3 := Lib.hid (A2.out.step hb); clear hb A2)
      | (go_at_call 6; refine (HK.out _ A3.out.below).mono ?_; rintro e w12 ⟨rfl, hb⟩; have B12 := Lib.hid hb; clear hb))
    go_ret
    exact ⟨rfl, B12.out⟩
  have d1 : decide (t < 0) = false := decide_eq_false ht
  by_cases ht2 : (xs.length : Int) ≤ t
  · have d2 : decide ((xs.length : Int) ≤ t) = true := decide_eq_true ht2
    clear hx hcap hwf Q h1 ht ht2 hE hA hin hM hM8 hv hlen hans
    go_enter Try.func5, Try.ntmps5
    go_wp2_with (first
      | (go_at_call 7; refine (H1.out _ A0.out.one).mono ?_; rintro e w1 ⟨rfl, hb⟩; have A1 := Lib.hid (A0.out.step hb); clear hb A0)
      | (go_at_call 9; refine (H2.out _ A1.out.one).mono ?_; rintro e w2 ⟨a2, c2, rfl, hc2, hi2, hb⟩; have A2 := Lib.hid (A1.out.step hb); have I2 := Lib.hid (And.intro hc2 hi2); clear hb A1 hc2 hi2)
      | (go_at_call 11; refine (H3.out _ _ _ A2.out.one I2.out.1 I2.out.2).mono ?_; rintro e w3 ⟨rfl, hb⟩; have A3 := Lib.hid (A2.out.step hb); clear hb A2)
      | (go_at_call 6; refine (HK.out _ A3.out.below).mono ?_; rintro e w12 ⟨rfl, hb⟩; have B12 := Lib.hid hb; clear hb))
    go_ret
    exact ⟨rfl, B12.out⟩
  have d2 : decide ((xs.length : Int) ≤ t) = false := decide_eq_false ht2
  obtain ⟨k, rfl⟩ : ∃ k : Nat, t = k := ⟨t.toNat, by omega⟩
  have hk : k < xs.length := by omega
  obtain ⟨P, hP⟩ : ∃ P : Int, ((2 ^ k : Nat) : Int) = P := ⟨_, rfl⟩
  have hc : (k = 0 ∧ P = 1) ∨ (k = 1 ∧ P = 2) ∨ (k = 2 ∧ P = 4) ∨ (k = 3 ∧ P = 8) ∨ (k = 4 ∧ P = 16) ∨ (k = 5 ∧ P = 32) ∨ (k = 6 ∧ P = 64) ∨ (k = 7 ∧ P = 128) := by
    have h7 : k < 8 := by omega
    rcases (by omega : k = 0 ∨ k = 1 ∨ k = 2 ∨ k = 3 ∨ k = 4 ∨ k = 5 ∨ k = 6 ∨ k = 7) with h | h | h | h | h | h | h | h
    all_goals (rw [h] at hP ⊢; simp at hP; omega)
  have hq : ((M / 2 ^ k % 2 : Nat) : Int) = (M : Int) / P % 2 := by rw [← hP]; rfl
  have hbit : M.testBit k = decide (M / 2 ^ k % 2 = 1) := Nat.testBit_eq_decide_div_mod_eq
  have hne : ¬ xs = [] := fun h => by rw [h] at hk; simp at hk
  have i3 : decide ((k : Int) < 0) = false := decide_eq_false (by omega)
  have i4 : (k : Int) < (xs.length : Int) := by omega
  by_cases hb0 : M / 2 ^ k % 2 = 0
  · have dB : (bits BinOp.and IntKind.i64 ((M : Int) / P) 1 == 0) = true := by rw [and_one16, ← hq, hb0]; rfl
    clear hx hcap hwf Q h1 ht ht2 hE hA hin hM hM8 hv hlen hans hbit hP hq hb0
    rcases hc with ⟨rfl, rfl⟩ | ⟨rfl, rfl⟩ | ⟨rfl, rfl⟩ | ⟨rfl, rfl⟩ | ⟨rfl, rfl⟩ | ⟨rfl, rfl⟩ | ⟨rfl, rfl⟩ | ⟨rfl, rfl⟩
    all_goals
      try rw [Int.ediv_one] at dB
      go_enter Try.func5, Try.ntmps5
      go_wp2_with (first
        | (go_at_call 7; refine (H1.out _ A0.out.one).mono ?_; rintro e w1 ⟨rfl, hb⟩; have A1 := Lib.hid (A0.out.step hb); clear hb A0)
        | (go_at_call 9; refine (H2.out _ A1.out.one).mono ?_; rintro e w2 ⟨a2, c2, rfl, hc2, hi2, hb⟩; have A2 := Lib.hid (A1.out.step hb); have I2 := Lib.hid (And.intro hc2 hi2); clear hb A1 hc2 hi2)
        | (go_at_call 11; refine (H3.out _ _ _ A2.out.one I2.out.1 I2.out.2).mono ?_; rintro e w3 ⟨rfl, hb⟩; have A3 := Lib.hid (A2.out.step hb); clear hb A2)
        | (go_at_call 6; refine (HK.out _ A3.out.below).mono ?_; rintro e w12 ⟨rfl, hb⟩; have B12 := Lib.hid hb; clear hb))
      go_ret
      exact ⟨rfl, B12.out⟩
  · have hone : M / 2 ^ k % 2 = 1 := by have := Nat.mod_two_eq_zero_or_one (M / 2 ^ k); omega
    have dB : (bits BinOp.and IntKind.i64 ((M : Int) / P) 1 == 0) = false := by rw [and_one16, ← hq, hone]; rfl
    rw [hone] at hbit
    have hbit : M.testBit k = true := by rw [hbit]; rfl
    have hge : 2 ^ k ≤ M := Nat.ge_two_pow_of_testBit hbit
    have hsub : ((M : Int) - P) = ((M - 2 ^ k : Nat) : Int) := by rw [← hP]; omega
    have hin2 : InA xs ((M : Int) - P) := by rw [hsub]; exact ⟨by omega, by omega⟩
    have hsl := sum_less xs hbit xs.length
    rw [if_pos hk, ← hsub] at hsl
    have hsm := sum_bounds xs (M : Int) hA.2.2 xs.length (Nat.le_refl _)
    have hak := hA.2.2 k hk
    unfold AskAt at hak
    have H5 : Hid (∀ W, Ints W.heap.size W a xs → Calls Try.prog 7 #[.slice a xs.length cap, .int .i64 ((M : Int) - P)] W fun e w' => e = .returned (.tuple #[.int .i64 (sumF xs (noesTo (M : Int) xs.length) + numAt xs k), .int .i64 0]) ∧ Below W.heap.size W w') := Lib.hid fun W h => by
      have := Q.score a cap xs ((M : Int) - P) W hcap h (by omega) (WalkArith.wf_i64 (by rw [hsub]; omega))
      rw [scoreV, (fail_yes hA hin2).1, (fail_yes hA hin2).2, hsl] at this
      exact this
    have e5 : wrap64 ((M : Int) - P) = (M : Int) - P := IntWalk.wrap64_in _ (by rw [hsub]; omega)
    have e5' : IntKind.i64.wrap ((M : Int) - P) = (M : Int) - P := IntWalk.i64_in _ (by rw [hsub]; omega)
    have e6 : wrap64 (sumF xs (noesTo (M : Int) xs.length) + numAt xs k) = sumF xs (noesTo (M : Int) xs.length) + numAt xs k := IntWalk.wrap64_in _ (by omega)
    have e6' : IntKind.i64.wrap (sumF xs (noesTo (M : Int) xs.length) + numAt xs k) = sumF xs (noesTo (M : Int) xs.length) + numAt xs k := IntWalk.i64_in _ (by omega)
    rcases hx with h | ⟨b, off, rfl, hB, hcells⟩
    · exfalso; rw [h] at hk; simp at hk
    have HCELL : Hid (∀ W, Below w.heap.size w W → W.cell? ⟨b, off + k, none⟩ = some (.int .i64 (numAt xs k))) := Lib.hid fun W hW => (hW.cell (p := ⟨b, off + k, none⟩) hB).trans (hcells k hk)
    clear hcells hcap hwf Q h1 ht ht2 hE hA hin hM hM8 hv hlen hans hbit hP hq hb0 hone hge hsub hin2 hsl hsm hak hk
    generalize sumF xs (noesTo (M : Int) xs.length) = S at *
    rcases hc with ⟨rfl, rfl⟩ | ⟨rfl, rfl⟩ | ⟨rfl, rfl⟩ | ⟨rfl, rfl⟩ | ⟨rfl, rfl⟩ | ⟨rfl, rfl⟩ | ⟨rfl, rfl⟩ | ⟨rfl, rfl⟩
    all_goals
      try rw [Int.ediv_one] at dB
      try rw [Nat.add_zero] at HCELL
      go_enter Try.func5, Try.ntmps5
      go_wp2_with (first
        | (go_at_call 7; refine (H1.out _ A0.out.one).mono ?_; rintro e w1 ⟨rfl, hb⟩; have A1 := Lib.hid (A0.out.step hb); clear hb A0)
        | (go_at_call 9; refine (H2.out _ A1.out.one).mono ?_; rintro e w2 ⟨a2, c2, rfl, hc2, hi2, hb⟩; have A2 := Lib.hid (A1.out.step hb); have I2 := Lib.hid (And.intro hc2 hi2); clear hb A1 hc2 hi2)
        | (go_at_call 11; refine (H3.out _ _ _ A2.out.one I2.out.1 I2.out.2).mono ?_; rintro e w3 ⟨rfl, hb⟩; have A3 := Lib.hid (A2.out.step hb); clear hb A2)
        | (go_at_call 7; refine (H5.out _ A3.out.one).mono ?_; rintro e w4 ⟨rfl, hb⟩; have A4 := Lib.hid (A3.out.step hb); have c4 := HCELL.out _ A4.out.below; clear hb A3)
        | (go_at_call 6; refine (HK.out _ A4.out.below).mono ?_; rintro e w12 ⟨rfl, hb⟩; have B12 := Lib.hid hb; clear hb))
      go_ret
      exact ⟨by simp, B12.out⟩
end Go.Proofs.Ytgjiophbnblfkaa
