/- The walks of the laws CentsSums and CentsShares: each returns true in every world and leaves what lay there. -/
import Derived.Test.YthnigakljpcbpaaWake
namespace Go.Proofs.Ythnigakljpcbpaa
open Go.RowKit

set_option maxHeartbeats 2000000 in
theorem centsSums_walk (w : World) (s : Option Addr) (cap : Nat) (xs : List Int) (hm : xs.length ≤ maxLen) (ht : Ints w.heap.size w s xs) (_hw : ∀ n ∈ xs, (Lit.int .i64 n).wf = true) (a : Int) (wa : (Lit.int .i64 a).wf = true) (b : Int) (wb : (Lit.int .i64 b).wf = true) :
    Calls Try.prog 3 #[.slice s xs.length cap, .int .i64 a, .int .i64 b] w fun e w' => e = .returned (.bool true) ∧ Below w.heap.size w w' := by
  have hb := Below.refl w.heap.size w
  have WA := Lib.hid wa
  have WB := Lib.hid wb
  clear wa wb
  unfold maxLen at hm
  by_cases h : (1000 : Int) < (xs.length : Int)
  · go_enter Try.func3, Try.ntmps3
    go_wp2_with (go_at_call 7; refine (awake_any _).mono ?_; rintro e w1 ⟨rfl, b1⟩; replace hb := hb.trans (b1.mono hb.size))
    go_ret
    exact ⟨rfl, hb⟩
  · have hn : xs.length ≤ 4611686018427387904 := by omega
    go_enter Try.func3, Try.ntmps3
    go_wp2_with (first
      | (go_at_call 8; refine (cadd_any _ _ _ _ hn ((ht.below hb).up hb.size)).mono ?_; rintro e w1 ⟨rfl, b1⟩; replace hb := hb.trans (b1.mono hb.size))
      | (go_at_call 9; refine (radd_any _ _ _ _ hn ((ht.below hb).up hb.size)).mono ?_; rintro e w1 ⟨rfl, rfl⟩)
      | (go_at_call 10; refine (csub_any _ _ _).mono ?_; rintro e w1 ⟨rfl, b1⟩; replace hb := hb.trans (b1.mono hb.size))
      | (go_at_call 11; refine (rsub_any _ _ _).mono ?_; rintro e w1 ⟨rfl, rfl⟩)
      | (go_at_call 12; refine (ctimes_any _ _ _).mono ?_; rintro e w1 ⟨rfl, b1⟩; replace hb := hb.trans (b1.mono hb.size))
      | (go_at_call 13; refine (rtimes_any _ _ _).mono ?_; rintro e w1 ⟨rfl, rfl⟩)
      | (go_at_call 14; refine (cin_any _ _).mono ?_; rintro e w1 ⟨rfl, rfl⟩)
      | (go_at_call 15; refine (rin_any _ _).mono ?_; rintro e w1 ⟨rfl, rfl⟩)
      | (go_at_call 7; refine (awake_any _).mono ?_; rintro e w1 ⟨rfl, b1⟩; replace hb := hb.trans (b1.mono hb.size)))
    go_ret
    exact ⟨rfl, hb⟩

set_option maxHeartbeats 2000000 in
theorem centsShares_walk (w : World) (a : Int) (wa : (Lit.int .i64 a).wf = true) (b : Int) (wb : (Lit.int .i64 b).wf = true) (c : Int) (wc : (Lit.int .i64 c).wf = true) :
    Calls Try.prog 4 #[.int .i64 a, .int .i64 b, .int .i64 c] w fun e w' => e = .returned (.bool true) ∧ Below w.heap.size w w' := by
  have hb := Below.refl w.heap.size w
  have WA := Lib.hid wa
  have WB := Lib.hid wb
  have WC := Lib.hid wc
  clear wa wb wc
  go_enter Try.func4, Try.ntmps4
  go_wp2_with (first
    | (go_at_call 16; refine (cfloor_any _ _ _ _).mono ?_; rintro e w1 ⟨rfl, b1⟩; replace hb := hb.trans (b1.mono hb.size))
    | (go_at_call 17; refine (rfloor_any _ _ _ _).mono ?_; rintro e w1 ⟨rfl, rfl⟩)
    | (go_at_call 18; refine (chalf_any _ _ _ _).mono ?_; rintro e w1 ⟨rfl, b1⟩; replace hb := hb.trans (b1.mono hb.size))
    | (go_at_call 19; refine (rhalf_any _ _ _ _).mono ?_; rintro e w1 ⟨rfl, rfl⟩)
    | (go_at_call 20; refine (crest_any _ _ _ _).mono ?_; rintro e w1 ⟨rfl, b1⟩; replace hb := hb.trans (b1.mono hb.size))
    | (go_at_call 21; refine (rrest_any _ _ _ _).mono ?_; rintro e w1 ⟨rfl, rfl⟩)
    | (go_at_call 7; refine (awake_any _).mono ?_; rintro e w1 ⟨rfl, b1⟩; replace hb := hb.trans (b1.mono hb.size)))
  go_ret
  exact ⟨rfl, hb⟩
end Go.Proofs.Ythnigakljpcbpaa
