/- The walk of TrailFalls, for every input. -/
import Derived.Test.YtdomcgbfpinpoaaGreatDoorTrJ11
namespace Go.Proofs.YtdomcgbfpinpoaaGreatDoor
open Go.RowKit Go.Maps

set_option maxRecDepth 100000 in
set_option maxHeartbeats 4000000 in
theorem trailFalls_walk (w : World) (tab : Tab w) (a : Option Addr) (cap : Nat) (xs : List (List UInt8)) (_hm : xs.length ≤ maxLen) (hX : Txs 0 w.heap.size w a xs) (hcap : xs.length ≤ cap) (O : ByteArray) (_hO : O.size ≤ maxLen) (n : Int) (hn : Num64 n) (ka : Option Addr) (kc : Nat) (ks : List Bool) (tn ct : Int) (hK : Bools w.heap.size w ka ks) (_hl : ks.length ≤ maxLen) :
    Calls Tryz.prog 3 #[.slice a xs.length cap, .string O, .agg #[.int .i64 n, .slice ka ks.length kc, .int .i64 tn, .int .i64 ct]] w fun e w' => e = .returned (.bool true) ∧ Below w.heap.size w w' := by
  unfold Num64 at hn
  by_cases hall : shortB xs = true ∧ xs.length ≠ 0 ∧ O.size ≤ 2000 ∧ ks.length ≤ 3000 ∧ 1 ≤ n
  · exact trailFalls_main w tab a cap xs hcap hX O hall.2.2.1 n ⟨hall.2.2.2.2, by omega⟩ ka kc ks tn ct hK hall.1 hall.2.1 hall.2.2.2.1
  have HB : Hid (∀ o : Obj, Below w.heap.size w (w.alloc o)) := Lib.hid fun o => (Below.refl _ w).alloc (Nat.le_refl _) o
  have HT := Lib.hid tab
  have HX := Lib.hid hX
  have hsm := fun v (hv : Txs 0 w.heap.size v a xs) => small_any a cap xs 0 w.heap.size v hv
  clear hX hK tab hn
  by_cases b1 : shortB xs = false
  · rw [b1] at hsm
    clear b1 hall
    go_enter Tryz.func3, Tryz.ntmps3
    go_wp2_with (first
      | (go_at_call 4; refine (hsm _ (HX.out.below (HB.out _))).mono ?_; rintro e w1 ⟨rfl, rfl⟩)
      | (go_at_call 5; refine (awake11 _ (HT.out.alloc _)).mono ?_; rintro e w2 ⟨rfl, hb2⟩))
    go_ret
    exact ⟨rfl, (HB.out _).trans (hb2.mono (HB.out _).size)⟩
  have b1 : shortB xs = true := by simpa using b1
  rw [b1] at hsm
  by_cases b0 : xs.length = 0
  · have e0 : ((xs.length : Int) == 0) = true := by rw [b0]; rfl
    clear b1 b0 hall
    go_enter Tryz.func3, Tryz.ntmps3
    go_wp2_with (first
      | (go_at_call 4; refine (hsm _ (HX.out.below (HB.out _))).mono ?_; rintro e w1 ⟨rfl, rfl⟩)
      | (go_at_call 5; refine (awake11 _ (HT.out.alloc _)).mono ?_; rintro e w2 ⟨rfl, hb2⟩))
    go_ret
    exact ⟨rfl, (HB.out _).trans (hb2.mono (HB.out _).size)⟩
  have e0 : ((xs.length : Int) == 0) = false := by rw [beq_eq_false_iff_ne]; omega
  by_cases b2 : 2000 < O.size
  · have e1 : decide (2000 < (O.size : Int)) = true := decide_eq_true (by omega)
    have e1n : decide (2000 < O.size) = true := decide_eq_true b2
    clear b1 b0 b2 hall
    go_enter Tryz.func3, Tryz.ntmps3
    go_wp2_with (first
      | (go_at_call 4; refine (hsm _ (HX.out.below (HB.out _))).mono ?_; rintro e w1 ⟨rfl, rfl⟩)
      | (go_at_call 5; refine (awake11 _ (HT.out.alloc _)).mono ?_; rintro e w2 ⟨rfl, hb2⟩))
    go_ret
    exact ⟨rfl, (HB.out _).trans (hb2.mono (HB.out _).size)⟩
  have e1 : decide (2000 < (O.size : Int)) = false := decide_eq_false (by omega)
  by_cases b3 : 3000 < ks.length
  · have e2 : decide (3000 < (ks.length : Int)) = true := decide_eq_true (by omega)
    clear b1 b0 b2 b3 hall
    go_enter Tryz.func3, Tryz.ntmps3
    go_wp2_with (first
      | (go_at_call 4; refine (hsm _ (HX.out.below (HB.out _))).mono ?_; rintro e w1 ⟨rfl, rfl⟩)
      | (go_at_call 5; refine (awake11 _ (HT.out.alloc _)).mono ?_; rintro e w2 ⟨rfl, hb2⟩))
    go_ret
    exact ⟨rfl, (HB.out _).trans (hb2.mono (HB.out _).size)⟩
  have e2 : decide (3000 < (ks.length : Int)) = false := decide_eq_false (by omega)
  have e3 : decide (n < 1) = true := decide_eq_true (by
    rcases Int.lt_or_le n 1 with q | q
    · exact q
    · exact absurd ⟨b1, b0, by omega, by omega, q⟩ hall)
  clear b1 b0 b2 b3 hall
  go_enter Tryz.func3, Tryz.ntmps3
  go_wp2_with (first
    | (go_at_call 4; refine (hsm _ (HX.out.below (HB.out _))).mono ?_; rintro e w1 ⟨rfl, rfl⟩)
    | (go_at_call 5; refine (awake11 _ (HT.out.alloc _)).mono ?_; rintro e w2 ⟨rfl, hb2⟩))
  go_ret
  exact ⟨rfl, (HB.out _).trans (hb2.mono (HB.out _).size)⟩
end Go.Proofs.YtdomcgbfpinpoaaGreatDoor
