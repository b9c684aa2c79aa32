/- The walk of the law FeeBounds: it returns true in every world and leaves what lay there. -/
import Derived.Test.YtbhdjpohplpjdaaWaya
namespace Go.Proofs.Ytbhdjpohplpjdaa
open Go.RowKit

theorem fee_none (a : Int) : feeN a 0 = 0 := by unfold feeN; rw [Int.mul_zero]; rfl
theorem fee_whole (a : Int) : feeN a 10000 = a := by unfold feeN; omega

set_option maxHeartbeats 2000000 in
theorem feeBounds_walk (w : World) (a : Int) (_ : (Lit.int .i64 a).wf = true) (b : Int) (_ : (Lit.int .i64 b).wf = true) :
    Calls Try.prog 4 #[.int .i64 a, .int .i64 b] w fun e w' => e = .returned (.bool true) ∧ Below w.heap.size w w' := by
  have hb := Below.refl w.heap.size w
  by_cases he : feeE a b = 0
  · obtain ⟨f1, f2, f3, f4⟩ := fee_fine he
    obtain ⟨g1, g2⟩ := fee_bd (a := a) (b := b) ⟨f1, f2⟩ ⟨f3, f4⟩
    have hv : feeV a b = feeN a b := by unfold feeV; rw [if_pos he]
    have hl : lessV a b = a - feeN a b := by unfold lessV; rw [if_pos he]
    have z0 : b = 0 → feeN a b = 0 := fun h => by rw [h, fee_none]
    have z1 : b = 10000 → feeN a b = a := fun h => by rw [h, fee_whole]
    obtain ⟨v, hve⟩ : ∃ v, v = feeN a b := ⟨_, rfl⟩
    have HO : Hid (∀ w, Calls Try.prog 7 #[.int .i64 a, .int .i64 b] w fun e w' => e = .returned (.tuple #[.int .i64 v, .int .i64 0]) ∧ Below w.heap.size w w') := Lib.hid fun w => by
      have := fof_any a b w
      rw [he, hv, ← hve] at this
      exact this
    have HL : Hid (∀ w, Calls Try.prog 9 #[.int .i64 a, .int .i64 b] w fun e w' => e = .returned (.tuple #[.int .i64 (a - v), .int .i64 0]) ∧ Below w.heap.size w w') := Lib.hid fun w => by
      have := fless_any a b w
      rw [he, hl, ← hve] at this
      exact this
    rw [← hve] at g1 g2 z0 z1
    have q : IntKind.i64.wrap (a - v) = a - v := IntWalk.i64_in _ (by omega)
    have d1 : decide (v < 0) = false := decide_eq_false (by omega)
    have d2 : decide (a < v) = false := decide_eq_false (by omega)
    clear he hv hl hve
    by_cases hb0 : b = 0
    · have e0 : (b != 0) = false := by rw [hb0]; rfl
      have e1 : (b != 10000) = true := by rw [hb0]; rfl
      have e2 : (v == 0) = true := by rw [z0 hb0]; rfl
      clear z0 z1 hb0
      go_enter Try.func4, Try.ntmps4
      go_wp2_with (first
        | (go_at_call 7; refine (HO.out _).mono ?_; rintro e w1 ⟨rfl, b1⟩; replace hb := hb.trans (b1.mono hb.size))
        | (go_at_call 9; refine (HL.out _).mono ?_; rintro e w2 ⟨rfl, b2⟩; replace hb := hb.trans (b2.mono hb.size))
        | (go_at_call 6; refine (awake_any _).mono ?_; rintro e w3 ⟨rfl, b3⟩; replace hb := hb.trans (b3.mono hb.size)))
      go_ret
      exact ⟨rfl, hb⟩
    · have e0 : (b != 0) = true := by rw [bne_iff_ne]; exact hb0
      by_cases hb1 : b = 10000
      · have e1 : (b != 10000) = false := by rw [hb1]; rfl
        have e2 : (v == a) = true := by rw [z1 hb1]; exact beq_self_eq_true a
        clear z0 z1 hb0 hb1
        go_enter Try.func4, Try.ntmps4
        go_wp2_with (first
          | (go_at_call 7; refine (HO.out _).mono ?_; rintro e w1 ⟨rfl, b1⟩; replace hb := hb.trans (b1.mono hb.size))
          | (go_at_call 9; refine (HL.out _).mono ?_; rintro e w2 ⟨rfl, b2⟩; replace hb := hb.trans (b2.mono hb.size))
          | (go_at_call 6; refine (awake_any _).mono ?_; rintro e w3 ⟨rfl, b3⟩; replace hb := hb.trans (b3.mono hb.size)))
        go_ret
        exact ⟨rfl, hb⟩
      · have e1 : (b != 10000) = true := by rw [bne_iff_ne]; exact hb1
        clear z0 z1 hb0 hb1
        go_enter Try.func4, Try.ntmps4
        go_wp2_with (first
          | (go_at_call 7; refine (HO.out _).mono ?_; rintro e w1 ⟨rfl, b1⟩; replace hb := hb.trans (b1.mono hb.size))
          | (go_at_call 9; refine (HL.out _).mono ?_; rintro e w2 ⟨rfl, b2⟩; replace hb := hb.trans (b2.mono hb.size))
          | (go_at_call 6; refine (awake_any _).mono ?_; rintro e w3 ⟨rfl, b3⟩; replace hb := hb.trans (b3.mono hb.size)))
        go_ret
        exact ⟨rfl, hb⟩
  · have HO : Hid (∀ w, Calls Try.prog 7 #[.int .i64 a, .int .i64 b] w fun e w' => e = .returned (.tuple #[.int .i64 0, .int .i64 (feeE a b)]) ∧ Below w.heap.size w w') := Lib.hid fun w => by
      have := fof_any a b w
      rw [show feeV a b = 0 by unfold feeV; rw [if_neg he]] at this
      exact this
    have HL : Hid (∀ w, Calls Try.prog 9 #[.int .i64 a, .int .i64 b] w fun e w' => e = .returned (.tuple #[.int .i64 0, .int .i64 (feeE a b)]) ∧ Below w.heap.size w w') := Lib.hid fun w => by
      have := fless_any a b w
      rw [show lessV a b = 0 by unfold lessV; rw [if_neg he]] at this
      exact this
    have hd : (feeE a b != 0) = true := by rw [bne_iff_ne]; exact he
    clear he
    go_enter Try.func4, Try.ntmps4
    go_wp2_with (first
      | (go_at_call 7; refine (HO.out _).mono ?_; rintro e w1 ⟨rfl, b1⟩; replace hb := hb.trans (b1.mono hb.size))
      | (go_at_call 9; refine (HL.out _).mono ?_; rintro e w2 ⟨rfl, b2⟩; replace hb := hb.trans (b2.mono hb.size))
      | (go_at_call 6; refine (awake_any _).mono ?_; rintro e w3 ⟨rfl, b3⟩; replace hb := hb.trans (b3.mono hb.size)))
    go_ret
    exact ⟨rfl, hb⟩
end Go.Proofs.Ytbhdjpohplpjdaa
