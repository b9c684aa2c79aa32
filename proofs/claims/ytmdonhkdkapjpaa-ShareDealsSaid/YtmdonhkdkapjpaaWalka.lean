/- The walk of the law ShareDeals: it returns true in every world and leaves what lay there. -/
import Derived.Test.YtmdonhkdkapjpaaWoke
namespace Go.Proofs.Ytmdonhkdkapjpaa
open Go.RowKit

theorem same_self (w : World) (a b : Option Addr) (xs : List Int) (c c' : Nat) (hs : xs.length ≤ 4611686018427387904) (h : Ints w.heap.size w a xs) (h' : Ints w.heap.size w b xs) :
    Calls Try.prog 15 #[.slice a xs.length c, .slice b xs.length c'] w fun e w' => e = .returned (.bool true) ∧ Below w.heap.size w w' := same_lit w a b xs xs.length c c' rfl hs h h'
theorem out_short (T : Int) (ws : List Int) : (outL T ws).length ≤ 4611686018427387904 := by
  unfold outL
  split
  · rename_i h; have := (out_fine h).len2; simp; omega
  · simp
theorem even_short (T n : Int) : (evenL T n).length ≤ 4611686018427387904 := by
  unfold evenL
  split
  · simp
  · exact out_short _ _

set_option maxHeartbeats 1000000 in
theorem shareDeals_walk (w : World) (T : Int) (_ : (Lit.int .i64 T).wf = true) (s : Option Addr) (cap : Nat) (xs : List Int) (_ : xs.length ≤ maxLen) (ht : Ints w.heap.size w s xs) (_ : ∀ n ∈ xs, (Lit.int .i64 n).wf = true) (n : Int) (_ : (Lit.int .i64 n).wf = true) :
    Calls Try.prog 3 #[.int .i64 T, .slice s xs.length cap, .int .i64 n] w fun e w' => e = .returned (.bool true) ∧ Below w.heap.size w w' := by
  have hb := Below.refl w.heap.size w
  by_cases hl : 300 < xs.length
  · have hd : decide ((300 : Int) < (xs.length : Int)) = true := decide_eq_true (by omega)
    clear hl
    go_enter Try.func3, Try.ntmps3
    go_wp2_with (go_at_call 6; refine (awake_any _).mono ?_; rintro e w1 ⟨rfl, b1⟩; replace hb := hb.trans (b1.mono hb.size))
    go_ret
    exact ⟨rfl, hb⟩
  · have hd : decide ((300 : Int) < (xs.length : Int)) = false := decide_eq_false (by omega)
    have hn : xs.length ≤ 4611686018427387904 := by omega
    have hso := Lib.hid (out_short T xs)
    have hse := Lib.hid (even_short T n)
    clear hl
    go_enter Try.func3, Try.ntmps3
    go_upto_region 4 with (go_at_call 7; refine (sout_any _ _ _ _ _ hn ht).mono ?_; rintro e w1 ⟨a1, c1, rfl, k1, b1⟩; replace hb := hb.trans (b1.mono hb.size); replace ht := ht.step b1)
    go_upto_region 5 with (go_at_call 8; refine (rout_any _ _ _ _ _ ht).mono ?_; rintro e w2 ⟨a2, c2, rfl, k2, b2⟩; replace hb := hb.trans (b2.mono hb.size); replace ht := ht.step b2; replace k1 := k1.step b2)
    go_upto_region 6 with (go_at_call 9; refine (seven_any _ _ _).mono ?_; rintro e w3 ⟨a3, c3, rfl, k3, b3⟩; replace hb := hb.trans (b3.mono hb.size); replace ht := ht.step b3; replace k1 := k1.step b3; replace k2 := k2.step b3)
    go_upto_region 7 with (go_at_call 10; refine (reven_any _ _ _).mono ?_; rintro e w4 ⟨a4, c4, rfl, k4, b4⟩; replace hb := hb.trans (b4.mono hb.size); replace ht := ht.step b4; replace k1 := k1.step b4; replace k2 := k2.step b4; replace k3 := k3.step b4)
    go_upto_region 8 with (go_at_call 11; refine (splace_any _ _ _ _ _ _ hn ht).mono ?_; rintro e w5 ⟨rfl, b5⟩; replace hb := hb.trans (b5.mono hb.size); replace ht := ht.step b5; replace k1 := k1.step b5; replace k2 := k2.step b5; replace k3 := k3.step b5; replace k4 := k4.step b5)
    go_upto_region 9 with (go_at_call 12; refine (rplace_any _ _ _ _ _ _ ht).mono ?_; rintro e w6 ⟨rfl, b6⟩; replace hb := hb.trans (b6.mono hb.size); replace ht := ht.step b6; replace k1 := k1.step b6; replace k2 := k2.step b6; replace k3 := k3.step b6; replace k4 := k4.step b6)
    go_upto_region 10 with (go_at_call 13; refine (swhole_any _ _ _ _ hn ht).mono ?_; rintro e w7 ⟨rfl, b7⟩; replace hb := hb.trans (b7.mono hb.size); replace ht := ht.step b7; replace k1 := k1.step b7; replace k2 := k2.step b7; replace k3 := k3.step b7; replace k4 := k4.step b7)
    go_wp2_with (first
      | (go_at_call 14; refine (rwhole_any _ _ _ _ ht).mono ?_; rintro e w8 ⟨rfl, rfl⟩)
      | (go_at_call 15; refine (same_self _ _ _ _ _ _ hso.out k1 k2).mono ?_; rintro e w9 ⟨rfl, b9⟩; replace hb := hb.trans (b9.mono hb.size); replace k3 := k3.step b9; replace k4 := k4.step b9; clear k1)
      | (go_at_call 15; refine (same_self _ _ _ _ _ _ hse.out k3 k4).mono ?_; rintro e w10 ⟨rfl, b10⟩; replace hb := hb.trans (b10.mono hb.size))
      | (go_at_call 6; refine (awake_any _).mono ?_; rintro e w11 ⟨rfl, b11⟩; replace hb := hb.trans (b11.mono hb.size)))
    go_ret
    exact ⟨rfl, hb⟩
end Go.Proofs.Ytmdonhkdkapjpaa
