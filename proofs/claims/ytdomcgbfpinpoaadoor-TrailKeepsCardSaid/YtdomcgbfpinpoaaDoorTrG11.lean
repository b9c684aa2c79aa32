/- The walk of TrailKeeps, for every input. -/
import Derived.Test.YtdomcgbfpinpoaaDoorTrF11
namespace Go.Proofs.YtdomcgbfpinpoaaDoor
open Go.RowKit Go.Maps

set_option maxRecDepth 100000 in
set_option maxHeartbeats 2000000 in
theorem trailKeeps_walk (w : World) (tab : Tab w) (a : Option Addr) (cap : Nat) (xs : List (List UInt8)) (_hm : xs.length ≤ maxLen) (hX : Txs 0 w.heap.size w a xs) (ep : Int) (_hep : (Lit.int .i64 ep).wf = true) (ka : Option Addr) (kc : Nat) (ks : List Bool) (tn ct : Int) (hK : Bools w.heap.size w ka ks) (_hl : ks.length ≤ maxLen) :
    Calls Tryd.prog 3 #[.slice a xs.length cap, .int .i64 ep, .agg #[.slice ka ks.length kc, .int .i64 tn, .int .i64 ct]] w fun e w' => e = .returned (.bool true) ∧ Below w.heap.size w w' := by
  by_cases hall : shortB xs = true ∧ 1 ≤ ep ∧ ep ≤ 999999999 ∧ ks.length ≤ 3000
  · exact trailKeeps_main w tab a cap xs hX ep ka kc ks tn ct hK hall.1 ⟨hall.2.1, hall.2.2.1⟩ hall.2.2.2
  have HB : Hid (∀ o : Obj, Below w.heap.size w (w.alloc o)) := Lib.hid fun o => (Below.refl _ w).alloc (Nat.le_refl _) o
  have HT := Lib.hid tab
  have HX := Lib.hid hX
  have hsm := fun v (hv : Txs 0 w.heap.size v a xs) => small_any a cap xs 0 w.heap.size v hv
  clear hX hK tab
  by_cases b1 : shortB xs = false
  · rw [b1] at hsm
    clear b1 hall
    go_enter Tryd.func3, Tryd.ntmps3
    go_wp2_with (first
      | (go_at_call 4; refine (hsm _ (HX.out.below (HB.out _))).mono ?_; rintro e w1 ⟨rfl, rfl⟩)
      | (go_at_call 5; refine (awake11 _ (HT.out.alloc _)).mono ?_; rintro e w2 ⟨rfl, hb2⟩))
    go_ret
    exact ⟨rfl, (HB.out _).trans (hb2.mono (HB.out _).size)⟩
  have b1 : shortB xs = true := by simpa using b1
  rw [b1] at hsm
  by_cases b2 : ep < 1
  · have e1 : decide (ep < 1) = true := decide_eq_true b2
    clear b1 b2 hall
    go_enter Tryd.func3, Tryd.ntmps3
    go_wp2_with (first
      | (go_at_call 4; refine (hsm _ (HX.out.below (HB.out _))).mono ?_; rintro e w1 ⟨rfl, rfl⟩)
      | (go_at_call 5; refine (awake11 _ (HT.out.alloc _)).mono ?_; rintro e w2 ⟨rfl, hb2⟩))
    go_ret
    exact ⟨rfl, (HB.out _).trans (hb2.mono (HB.out _).size)⟩
  have e1 : decide (ep < 1) = false := decide_eq_false b2
  by_cases b3 : 999999999 < ep
  · have e2 : decide (999999999 < ep) = true := decide_eq_true b3
    clear b1 b2 b3 hall
    go_enter Tryd.func3, Tryd.ntmps3
    go_wp2_with (first
      | (go_at_call 4; refine (hsm _ (HX.out.below (HB.out _))).mono ?_; rintro e w1 ⟨rfl, rfl⟩)
      | (go_at_call 5; refine (awake11 _ (HT.out.alloc _)).mono ?_; rintro e w2 ⟨rfl, hb2⟩))
    go_ret
    exact ⟨rfl, (HB.out _).trans (hb2.mono (HB.out _).size)⟩
  have e2 : decide (999999999 < ep) = false := decide_eq_false b3
  have e3 : decide (3000 < (ks.length : Int)) = true := decide_eq_true (by
    rcases Nat.lt_or_ge 3000 ks.length with q | q
    · omega
    · exact absurd ⟨b1, by omega, by omega, q⟩ hall)
  clear b1 b2 b3 hall
  go_enter Tryd.func3, Tryd.ntmps3
  go_wp2_with (first
    | (go_at_call 4; refine (hsm _ (HX.out.below (HB.out _))).mono ?_; rintro e w1 ⟨rfl, rfl⟩)
    | (go_at_call 5; refine (awake11 _ (HT.out.alloc _)).mono ?_; rintro e w2 ⟨rfl, hb2⟩))
  go_ret
  exact ⟨rfl, (HB.out _).trans (hb2.mono (HB.out _).size)⟩
end Go.Proofs.YtdomcgbfpinpoaaDoor
