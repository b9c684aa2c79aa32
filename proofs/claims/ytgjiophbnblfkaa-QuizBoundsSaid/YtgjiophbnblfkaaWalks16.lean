/- The walks of layer 16's laws, from what is wanted of quiz's functions. -/
import Derived.Test.YtgjiophbnblfkaaRs16
namespace Go.Proofs.Ytgjiophbnblfkaa
open Go.RowKit

/-- The arguments, as they stand in a later world. -/
structure At16 (w W : World) (a : Option Addr) (xs : List Int) (b : Option Addr) (fs : List Int) : Prop where
  below : Below w.heap.size w W
  one : Ints W.heap.size W a xs
  two : Ints W.heap.size W b fs
theorem At16.step {w W W' : World} {a b : Option Addr} {xs fs : List Int} (h : At16 w W a xs b fs) (hb : Below W.heap.size W W') : At16 w W' a xs b fs :=
  ⟨h.below.trans (hb.mono h.below.size), h.one.step hb, h.two.step hb⟩
theorem drawn16 (W : World) (m : Nat) : Below W.heap.size W (W.drewN m) := drawn_below (Below.refl _ _) m
set_option maxHeartbeats 4000000 in
theorem quizTells_from (Q : Quiz16) (w : World) (a : Option Addr) (cap : Nat) (xs : List Int) (_ : xs.length ≤ maxLen) (hx : Ints w.heap.size w a xs) (hcap : xs.length ≤ cap) (m : Int) (hwf : (Lit.int .i64 m).wf = true)
    (b : Option Addr) (cap' : Nat) (fs : List Int) (_ : fs.length ≤ maxLen) (hf : Ints w.heap.size w b fs) (hcap' : fs.length ≤ cap') :
    Calls Try.prog 3 #[.slice a xs.length cap, .int .i64 m, .slice b fs.length cap'] w fun e w' => e = .returned (.bool true) ∧ Below w.heap.size w w' := by
  by_cases h1 : 100 < xs.length
  · have e1 : decide (100 < (xs.length : Int)) = true := decide_eq_true (by omega)
    have e1' : decide (100 < xs.length) = true := decide_eq_true h1
    have hA := awake16 Q w
    clear h1 hx hf hcap hcap' hwf Q
    go_enter Try.func3, Try.ntmps3
    go_wp2_with (go_at_call 6; refine hA.mono ?_; rintro e w2 ⟨rfl, hb⟩; have HB := Lib.hid hb; clear hb)
    go_ret
    exact ⟨rfl, HB.out⟩
  have e1 : decide (100 < (xs.length : Int)) = false := decide_eq_false (by omega)
  have e1' : decide (100 < xs.length) = false := decide_eq_false h1
  by_cases h2 : 100 < fs.length
  · have e2 : decide (100 < (fs.length : Int)) = true := decide_eq_true (by omega)
    have e2' : decide (100 < fs.length) = true := decide_eq_true h2
    have hA := awake16 Q w
    clear h1 h2 hx hf hcap hcap' hwf Q
    go_enter Try.func3, Try.ntmps3
    go_wp2_with (go_at_call 6; refine hA.mono ?_; rintro e w2 ⟨rfl, hb⟩; have HB := Lib.hid hb; clear hb)
    go_ret
    exact ⟨rfl, HB.out⟩
  have e2 : decide (100 < (fs.length : Int)) = false := decide_eq_false (by omega)
  have e2' : decide (100 < fs.length) = false := decide_eq_false h2
  have A0 : Hid (At16 w w a xs b fs) := Lib.hid ⟨Below.refl _ _, hx, hf⟩
  have HQ := Lib.hid Q
  have HC := Lib.hid (And.intro hcap hcap')
  have HW := Lib.hid hwf
  have HN : Hid (xs.length ≤ 1000000 ∧ fs.length ≤ 1000000) := Lib.hid (by omega)
  have HL := Lib.hid (failV_len (a := m) HN.out.1)
  clear hx hf hcap hcap' hwf h1 h2 Q
  generalize hv : failV xs m = v at *
  generalize hE : failE xs m = E at *
  have HFP : Hid (∀ W, Ints W.heap.size W a xs → Calls Try.prog 9 #[.slice a xs.length cap, .int .i64 m] W fun e w' => Gives16 W e w' v E) := Lib.hid fun W h => by
    have := HQ.out.failed a cap xs m W HC.out.1 h HN.out.1 HW.out
    rwa [hv, hE] at this
  have HFR : Hid (∀ W, Ints W.heap.size W a xs → Calls Try.prog 10 #[.slice a xs.length cap, .int .i64 m] W fun e w' => Gives16 W e w' v E) := Lib.hid fun W h => by
    have := rfailed16_any a cap xs m W h HN.out.1 HW.out
    rwa [hv, hE] at this
  have HSP : Hid (∀ W, Ints W.heap.size W a xs → Calls Try.prog 7 #[.slice a xs.length cap, .int .i64 m] W fun e w' => e = .returned (.tuple #[.int .i64 (scoreV xs m), .int .i64 E]) ∧ Below W.heap.size W w') := Lib.hid fun W h => by
    have := HQ.out.score a cap xs m W HC.out.1 h HN.out.1 HW.out
    rwa [hE] at this
  have HSR : Hid (∀ W, Ints W.heap.size W a xs → Calls Try.prog 8 #[.slice a xs.length cap, .int .i64 m] W fun e w' => e = .returned (.tuple #[.int .i64 (scoreV xs m), .int .i64 E]) ∧ Below W.heap.size W w') := Lib.hid fun W h => by
    have := rscore16_any a cap xs m W h HN.out.1 HW.out
    rwa [hE] at this
  clear hv hE
  generalize scoreV xs m = sc at *
  go_enter Try.func3, Try.ntmps3
  go_wp2_with (first
    | (go_at_call 7; refine (HSP.out _ A0.out.one).mono ?_; rintro e w1 ⟨rfl, hb⟩; have A1 := Lib.hid (A0.out.step hb); clear hb A0)
    | (go_at_call 8; refine (HSR.out _ A1.out.one).mono ?_; rintro e w2 ⟨rfl, hb⟩; have A2 := Lib.hid (A1.out.step hb); clear hb A1)
    | (go_at_call 9; refine (HFP.out _ A2.out.one).mono ?_; rintro e w3 ⟨a3, c3, rfl, _, hi, hb⟩; have A3 := Lib.hid (A2.out.step hb); have C3 := Lib.hid hi; clear hb hi A2)
    | (go_at_call 10; refine (HFR.out _ A3.out.one).mono ?_; rintro e w4 ⟨a4, c4, rfl, _, hi, hb⟩; have A4 := Lib.hid (A3.out.step hb); have C4 := Lib.hid (And.intro (C3.out.step hb) hi); clear hb hi A3 C3)
    | (go_at_call 11; refine (HQ.out.answers a cap xs b cap' fs _ HC.out.1 A4.out.one HN.out.1 HC.out.2 A4.out.two HN.out.2).mono ?_; rintro e w5 ⟨rfl, hb⟩; have A5 := Lib.hid (A4.out.step hb); have C5 := Lib.hid (And.intro (C4.out.1.step hb) (C4.out.2.step hb)); clear hb A4 C4)
    | (go_at_call 12; refine (ranswers16_any a cap xs b cap' fs _ A5.out.one HN.out.1 A5.out.two HN.out.2).mono ?_; rintro e w6 ⟨rfl, m6, rfl⟩; have A6 := Lib.hid (A5.out.step (drawn16 _ m6)); have C6 := Lib.hid (And.intro (C5.out.1.step (drawn16 _ m6)) (C5.out.2.step (drawn16 _ m6))); clear A5 C5)
    | (go_at_call 13; refine (HQ.out.check a cap xs _ HC.out.1 A6.out.one HN.out.1).mono ?_; rintro e w7 ⟨rfl, hb⟩; have A7 := Lib.hid (A6.out.step hb); have C7 := Lib.hid (And.intro (C6.out.1.step hb) (C6.out.2.step hb)); clear hb A6 C6)
    | (go_at_call 14; refine (rcheck16_any a cap xs _ _ A7.out.one HN.out.1).mono ?_; rintro e w8 ⟨rfl, m8, rfl⟩; have A8 := Lib.hid (A7.out.step (drawn16 _ m8)); have C8 := Lib.hid (And.intro (C7.out.1.step (drawn16 _ m8)) (C7.out.2.step (drawn16 _ m8))); clear A7 C7)
    | (go_at_call 15; refine (HQ.out.worst a cap xs _ HC.out.1 A8.out.one HN.out.1).mono ?_; rintro e w9 ⟨rfl, hb⟩; have A9 := Lib.hid (A8.out.step hb); have C9 := Lib.hid (And.intro (C8.out.1.step hb) (C8.out.2.step hb)); clear hb A8 C8)
    | (go_at_call 16; refine (rworst16_any a cap xs _ A9.out.one HN.out.1).mono ?_; rintro e w10 ⟨rfl, m10, rfl⟩; have B10 := Lib.hid (A9.out.step (drawn16 _ m10)); have D10 := Lib.hid (And.intro (C9.out.1.step (drawn16 _ m10)) (C9.out.2.step (drawn16 _ m10))); clear A9 C9)
    | (go_at_call 17; refine (same_any a3 a4 c3 c4 v v _ (by have := HL.out; have := HN.out; omega) D10.out.1 D10.out.2).mono ?_; rintro e w11 ⟨rfl, hb⟩; have B11 := Lib.hid (B10.out.step hb); clear hb B10 D10)
    | (go_at_call 6; refine (awake16 HQ.out _).mono ?_; rintro e w12 ⟨rfl, hb⟩; have B12 := Lib.hid (B11.out.step hb); clear hb B11))
  go_ret
  exact ⟨by simp, B12.out.below⟩
end Go.Proofs.Ytgjiophbnblfkaa
