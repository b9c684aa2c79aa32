/- The walks of the laws CrcSums and CrcOn: they return true in every world and leave what lay there. -/
import Derived.Test.YtgeklainhncnnaaDoorAwake7
import Derived.OpenShut
namespace Go.Proofs.YtgeklainhncnnaaDoor
open Go.RowKit

theorem on_says {n : Nat} (hn : n < 4294967296) {s : ByteArray} (hs : s.size ≤ 4611686018427387904) {m : Nat} (h : onN n s.data.toList = m) (w : World) (hT : Tab w) :
    Calls Tryd.prog 11 #[.int .u32 n, .string s] w fun e w' => e = .returned (.int .u32 m) ∧ Below w.heap.size w w' := by
  subst h; exact con_any n hn s hs w hT

set_option maxRecDepth 100000 in
set_option maxHeartbeats 1000000 in
theorem crcSums_walk (w : World) (hT : Tab w) (s : ByteArray) (_hs : s.size ≤ maxLen) (sum : Int) (hn : (Lit.int .u32 sum).wf = true) :
    Calls Tryd.prog 3 #[.string s, .int .u32 sum] w fun e w' => e = .returned (.bool true) ∧ Below w.heap.size w w' := by
  have hb := Below.refl w.heap.size w
  have hn1 := Go.bounds_u32 hn
  obtain ⟨n, rfl⟩ : ∃ n : Nat, sum = n := ⟨sum.toNat, by omega⟩
  have hn2 : n < 4294967296 := by omega
  clear hn hn1
  by_cases h : (3000 : Int) < (s.size : Int)
  · have hd : decide ((3000 : Int) < (s.size : Int)) = true := decide_eq_true h
    go_enter Tryd.func3, Tryd.ntmps3
    go_wp2_with (go_at_call 6; refine (awake7_any _ (by first | exact hT.below hb | exact (hT.below hb).drew)).mono ?_; rintro e w1 ⟨rfl, b1⟩; replace hb := hb.trans (b1.mono hb.size))
    go_ret
    exact ⟨rfl, hb⟩
  · have hd : decide ((3000 : Int) < (s.size : Int)) = false := decide_eq_false h
    have hs : s.size ≤ 4611686018427387904 := by omega
    have hs0 : s.size ≤ 281474976710656 := by omega
    clear h
    have H1 := Lib.hid (cunseal_any s hs0)
    have H2 := Lib.hid (runseal_any s hs)
    have H3 := Lib.hid (cof_any s hs)
    have H4 := Lib.hid (rof_any s hs)
    have H5 := Lib.hid (con_any n hn2 s hs)
    have H6 := Lib.hid (ron_any n hn2 s hs)
    have H7 := Lib.hid (cseal_any s hs)
    have H8 := Lib.hid (rseal_any s hs)
    generalize s ++ fourT (ofN s.data.toList) = S at *
    generalize ofN s.data.toList = O at *
    generalize onN n s.data.toList = P at *
    generalize unE s.data.toList = E at *
    generalize unL s.data.toList = L at *
    go_enter Tryd.func3, Tryd.ntmps3
    go_upto_region 5 with (first
      | (go_at_call 7; refine (H1.out _ (by first | exact hT.below hb | exact (hT.below hb).drew)).mono ?_; rintro e w1 ⟨t1, rfl, ht1, b1⟩; replace hb := hb.trans (b1.mono hb.size); clear b1)
      | (go_at_call 8; refine (H2.out _).mono ?_; rintro e w2 ⟨t2, rfl, ht2, b2⟩; replace hb := hb.trans (b2.mono hb.size); clear b2))
    obtain rfl : t1 = t2 := text_eq (ht1.out.trans ht2.out.symm)
    clear ht1 ht2 H1 H2
    go_wp2_with (first
      | (go_at_call 9; refine (H3.out _ (by first | exact hT.below hb | exact (hT.below hb).drew)).mono ?_; rintro e w3 ⟨rfl, b3⟩; replace hb := hb.trans (b3.mono hb.size); clear b3)
      | (go_at_call 10; refine (H4.out _).mono ?_; rintro e w4 ⟨rfl, rfl⟩)
      | (go_at_call 11; refine (H5.out _ (by first | exact hT.below hb | exact (hT.below hb).drew)).mono ?_; rintro e w5 ⟨rfl, b5⟩; replace hb := hb.trans (b5.mono hb.size); clear b5)
      | (go_at_call 12; refine (H6.out _).mono ?_; rintro e w6 ⟨rfl, rfl⟩)
      | (go_at_call 13; refine (H7.out _ (by first | exact hT.below hb | exact (hT.below hb).drew)).mono ?_; rintro e w7 ⟨rfl, b7⟩; replace hb := hb.trans (b7.mono hb.size); clear b7)
      | (go_at_call 14; refine (H8.out _).mono ?_; rintro e w8 ⟨rfl, b8⟩; replace hb := hb.trans (b8.mono hb.size); clear b8)
      | (go_at_call 6; refine (awake7_any _ (by first | exact hT.below hb | exact (hT.below hb).drew)).mono ?_; rintro e w9 ⟨rfl, b9⟩; replace hb := hb.trans (b9.mono hb.size); clear b9))
    go_ret
    exact ⟨rfl, hb⟩

set_option maxRecDepth 100000 in
set_option maxHeartbeats 1000000 in
theorem crcOn_walk (w : World) (hT : Tab w) (a : ByteArray) (_ha : a.size ≤ maxLen) (b : ByteArray) (_hb : b.size ≤ maxLen) :
    Calls Tryd.prog 4 #[.string a, .string b] w fun e w' => e = .returned (.bool true) ∧ Below w.heap.size w w' := by
  have hb := Below.refl w.heap.size w
  have awake : ∀ (x : Bool), decide ((3000 : Int) < (a.size : Int)) = x → (x = true ∨ decide ((3000 : Int) < (b.size : Int)) = true) →
      Calls Tryd.prog 4 #[.string a, .string b] w fun e w' => e = .returned (.bool true) ∧ Below w.heap.size w w' := by
    intro x hx hy
    cases x
    · have hd : decide ((3000 : Int) < (b.size : Int)) = true := by rcases hy with h | h; cases h; exact h
      clear hy
      go_enter Tryd.func4, Tryd.ntmps4
      go_wp2_with (go_at_call 6; refine (awake7_any _ (by first | exact hT.below hb | exact (hT.below hb).drew)).mono ?_; rintro e w1 ⟨rfl, b1⟩; replace hb := hb.trans (b1.mono hb.size))
      go_ret
      exact ⟨rfl, hb⟩
    · clear hy
      go_enter Tryd.func4, Tryd.ntmps4
      go_wp2_with (go_at_call 6; refine (awake7_any _ (by first | exact hT.below hb | exact (hT.below hb).drew)).mono ?_; rintro e w1 ⟨rfl, b1⟩; replace hb := hb.trans (b1.mono hb.size))
      go_ret
      exact ⟨rfl, hb⟩
  by_cases h : (3000 : Int) < (a.size : Int)
  · exact awake true (decide_eq_true h) (Or.inl rfl)
  · have hd : decide ((3000 : Int) < (a.size : Int)) = false := decide_eq_false h
    by_cases h' : (3000 : Int) < (b.size : Int)
    · exact awake false hd (Or.inr (decide_eq_true h'))
    · have hd' : decide ((3000 : Int) < (b.size : Int)) = false := decide_eq_false h'
      clear awake
      have hab : (a ++ b).data.toList = a.data.toList ++ b.data.toList := by simp
      have hsz : ¬ 9223372036854775807 < a.size + b.size := by omega
      have H1 : Hid (∀ w, Tab w → Calls Tryd.prog 9 #[.string (a ++ b)] w fun e w' => e = .returned (.int .u32 (ofN (a.data.toList ++ b.data.toList) : Nat)) ∧ Below w.heap.size w w') := Lib.hid fun w hT => by
        have := cof_any (a ++ b) (by simp; omega) w hT
        rw [hab] at this; exact this
      have H2 := Lib.hid (cof_any a (by omega))
      have H3 := Lib.hid (cof_any b (by omega))
      have hbt := both_two a.data.toList b.data.toList (by rw [text_size]; omega)
      rw [text_size] at hbt
      have H4 : Hid (∀ w, Calls Tryd.prog 15 #[.int .u32 (ofN a.data.toList : Nat), .int .u32 (ofN b.data.toList : Nat), .int .i64 b.size] w fun e w' => e = .returned (.tuple #[.int .u32 (ofN (a.data.toList ++ b.data.toList) : Nat), .int .i64 0]) ∧ Below w.heap.size w w') := Lib.hid fun w => by
        have := cboth_any (ofN a.data.toList) (ofN b.data.toList) (on_lt 0 _) (on_lt 0 _) b.size w
        rw [hbt.1, hbt.2] at this; exact this
      have H5 := Lib.hid (on_says (on_lt 0 a.data.toList) (show b.size ≤ 4611686018427387904 by omega) (on_two a.data.toList b.data.toList))
      rw [show onN 0 a.data.toList = ofN a.data.toList from rfl] at H5
      clear hab hbt h h'
      generalize ofN (a.data.toList ++ b.data.toList) = N at *
      generalize ofN a.data.toList = A at *
      generalize ofN b.data.toList = B at *
      go_enter Tryd.func4, Tryd.ntmps4
      go_upto_region 4 with (go_at_call 9; refine (H1.out _ (by first | exact hT.below hb | exact (hT.below hb).drew)).mono ?_; rintro e w1 ⟨rfl, b1⟩; replace hb := hb.trans (b1.mono hb.size); clear b1)
      go_upto_region 5 with (first
        | (go_at_call 9; (with_reducible refine (H2.out _ (by first | exact hT.below hb | exact (hT.below hb).drew)).mono ?_); rintro e w2 ⟨rfl, b2⟩; replace hb := hb.trans (b2.mono hb.size); clear b2)
        | (go_at_call 9; (with_reducible refine (H3.out _ (by first | exact hT.below hb | exact (hT.below hb).drew)).mono ?_); rintro e w3 ⟨rfl, b3⟩; replace hb := hb.trans (b3.mono hb.size); clear b3)
        | (go_at_call 15; refine (H4.out _).mono ?_; rintro e w4 ⟨rfl, b4⟩; replace hb := hb.trans (b4.mono hb.size); clear b4))
      go_wp2_with (first
        | (go_at_call 9; (with_reducible refine (H2.out _ (by first | exact hT.below hb | exact (hT.below hb).drew)).mono ?_); rintro e w5 ⟨rfl, b5⟩; replace hb := hb.trans (b5.mono hb.size); clear b5)
        | (go_at_call 11; refine (H5.out _ (by first | exact hT.below hb | exact (hT.below hb).drew)).mono ?_; rintro e w6 ⟨rfl, b6⟩; replace hb := hb.trans (b6.mono hb.size); clear b6)
        | (go_at_call 6; refine (awake7_any _ (by first | exact hT.below hb | exact (hT.below hb).drew)).mono ?_; rintro e w9 ⟨rfl, b9⟩; replace hb := hb.trans (b9.mono hb.size); clear b9))
      go_ret
      exact ⟨rfl, hb⟩
end Go.Proofs.YtgeklainhncnnaaDoor
