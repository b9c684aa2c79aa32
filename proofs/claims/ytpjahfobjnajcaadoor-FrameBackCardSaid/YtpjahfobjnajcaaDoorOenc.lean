/- The program's isWidth, fits and encode, for all numbers and rows, in every world. -/
import Derived.Test.YtpjahfobjnajcaaDoorRow5
namespace Go.Proofs.YtpjahfobjnajcaaDoor
open Go.RowKit

theorem oiswidth_any (x : Int) (w : World) : Calls Tryd.prog 42 #[.int .i64 x] w fun e w' => e = .returned (.bool (decide (wideW x))) ∧ w = w' := by
  by_cases h : wideW x
  · rw [decide_eq_true h]
    rcases h with rfl | rfl | rfl | rfl
    all_goals (go_enter Tryd.func42, Tryd.ntmps42; go_wp2; go_ret; exact ⟨rfl, rfl⟩)
  · rw [decide_eq_false h]
    unfold wideW at h
    have h1 : (x == 1) = false := by rw [beq_eq_false_iff_ne]; omega
    have h2 : (x == 2) = false := by rw [beq_eq_false_iff_ne]; omega
    have h4 : (x == 4) = false := by rw [beq_eq_false_iff_ne]; omega
    have h8 : (x == 8) = false := by rw [beq_eq_false_iff_ne]; omega
    clear h
    go_enter Tryd.func42, Tryd.ntmps42
    go_wp2
    go_ret
    exact ⟨rfl, rfl⟩

theorem put_fit {n x : Int} (hx : wideW x) (h0 : 0 ≤ n) (K : Int) (hK : (256 : Int) ^ x.toNat = K) (hpos : 0 < K) : (n / K == 0) = decide (putE n x = 0) := by
  unfold putE
  rw [if_pos hx, hK, Bool.eq_iff_iff, beq_iff_eq, decide_eq_true_iff]
  constructor
  · intro h
    have h2 := Int.lt_ediv_add_one_mul_self n hpos
    rw [h] at h2
    rw [if_pos ⟨h0, by omega⟩]
  · intro h
    by_cases h1 : 0 ≤ n ∧ n < K
    · exact Int.ediv_eq_zero_of_lt h0 h1.2
    · rw [if_neg h1] at h; omega
theorem ofits_any (n x : Int) (hx : wideW x) (hn : n ≤ 9223372036854775807) (w : World) : Calls Tryd.prog 53 #[.int .i64 n, .int .i64 x] w fun e w' => e = .returned (.bool (decide (putE n x = 0))) ∧ w = w' := by
  by_cases h0 : 0 ≤ n
  · have hu : IntKind.u64.wrap n = n := IntWalk.u64_in _ (by omega)
    rcases hx with rfl | rfl | rfl | rfl
    · have HE := Lib.hid (put_fit (n := n) (x := 1) (by unfold wideW; omega) h0 256 rfl (by omega))
      go_enter Tryd.func53, Tryd.ntmps53
      go_wp2
      go_ret
      exact ⟨by rw [← HE.out]; rfl, rfl⟩
    · have HE := Lib.hid (put_fit (n := n) (x := 2) (by unfold wideW; omega) h0 65536 rfl (by omega))
      go_enter Tryd.func53, Tryd.ntmps53
      go_wp2
      go_ret
      exact ⟨by rw [← HE.out]; rfl, rfl⟩
    · have HE := Lib.hid (put_fit (n := n) (x := 4) (by unfold wideW; omega) h0 4294967296 rfl (by omega))
      go_enter Tryd.func53, Tryd.ntmps53
      go_wp2
      go_ret
      exact ⟨by rw [← HE.out]; rfl, rfl⟩
    · have HE := Lib.hid (put_fit (n := n) (x := 8) (by unfold wideW; omega) h0 18446744073709551616 rfl (by omega))
      go_enter Tryd.func53, Tryd.ntmps53
      go_wp2
      go_ret
      exact ⟨by rw [← HE.out]; rfl, rfl⟩
  · have hd : decide (0 ≤ n) = false := decide_eq_false h0
    have HE : Hid (decide (putE n x = 0) = false) := Lib.hid (by
      rw [decide_eq_false_iff_not]
      unfold putE
      rw [if_pos hx, if_neg (fun h => h0 h.1)]
      decide)
    clear h0
    go_enter Tryd.func53, Tryd.ntmps53
    go_wp2
    go_ret
    exact ⟨by rw [HE.out]; rfl, rfl⟩
end Go.Proofs.YtpjahfobjnajcaaDoor
