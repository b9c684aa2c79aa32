/- The walks of RowsFind and RowsOrder. -/
import Derived.Test.YtnamoinedajoaaaFew13
namespace Go.Proofs.Ytnamoinedajoaaa
open Go.RowKit

set_option maxHeartbeats 2000000 in
theorem rowsFind_walk (w : World) (a : Option Addr) (cap : Nat) (xs : List Int) (_ : xs.length ≤ maxLen) (hx : Ints w.heap.size w a xs) (_ : xs.length ≤ cap) (id : Int) (_ : (Lit.int .i64 id).wf = true) :
    Calls Try.prog 3 #[.slice a xs.length cap, .int .i64 id] w fun e w' => e = .returned (.bool true) ∧ Below w.heap.size w w' := by
  by_cases h3 : 300 < xs.length
  · have e1 : decide (300 < (xs.length : Int)) = true := decide_eq_true (by omega)
    have e1' : decide (300 < xs.length) = true := decide_eq_true h3
    have hA := awake13 w
    clear h3 hx
    go_enter Try.func3, Try.ntmps3
    go_wp2_with (go_at_call 7; refine hA.mono ?_; rintro e w2 ⟨rfl, hb⟩; have HB := Lib.hid hb; clear hb)
    go_ret
    exact ⟨rfl, HB.out⟩
  · have e1 : decide (300 < (xs.length : Int)) = false := decide_eq_false (by omega)
    have e1' : decide (300 < xs.length) = false := decide_eq_false h3
    have hat : ∀ m, Ints w.heap.size (w.drewN m) a xs := fun m => hx.below (drawn_below (Below.refl _ _) m)
    have H1 := Lib.hid (pfind_any a cap xs id _ w hx (by omega))
    have H2 : Hid (∀ m, Calls Try.prog 9 #[.slice a xs.length cap, .int .i64 id] (w.drewN m) fun e w' => e = .returned (.tuple #[.int .i64 (findN xs id : Nat), .bool (findB13 xs id)]) ∧ ∃ m', w' = w.drewN m') := Lib.hid fun m => by
      refine (rfind13_any a cap xs id _ (w.drewN m) (hat m) (by omega)).mono ?_
      rintro e w' ⟨rfl, m', rfl⟩
      exact ⟨rfl, m + m', drew_more _ _ _⟩
    have H3 : Hid (∀ m, Calls Try.prog 10 #[.slice a xs.length cap] (w.drewN m) fun e w' => e = .returned (.int .i64 (risingE xs)) ∧ ∃ m', w' = w.drewN m') := Lib.hid fun m => by
      refine (prising_any a cap xs _ (w.drewN m) (hat m) (by omega)).mono ?_
      rintro e w' ⟨rfl, m', rfl⟩
      exact ⟨rfl, m + m', drew_more _ _ _⟩
    have H4 : Hid (∀ m, Calls Try.prog 11 #[.slice a xs.length cap] (w.drewN m) fun e w' => e = .returned (.int .i64 (risingE xs)) ∧ ∃ m', w' = w.drewN m') := Lib.hid fun m => by
      refine (rrising_any a cap xs _ (w.drewN m) (hat m) (by omega)).mono ?_
      rintro e w' ⟨rfl, m', rfl⟩
      exact ⟨rfl, m + m', drew_more _ _ _⟩
    have H5 : Hid (∀ m, Calls Try.prog 7 #[] (w.drewN m) fun e w' => e = .returned (.bool true) ∧ Below w.heap.size w w') := Lib.hid fun m => by
      refine (awake13 (w.drewN m)).mono ?_
      rintro e w' ⟨rfl, hb⟩
      exact ⟨rfl, (drawn_below (Below.refl _ _) m).trans hb⟩
    clear h3 hx hat
    generalize findN xs id = F at *
    generalize findB13 xs id = G at *
    generalize risingE xs = E at *
    go_enter Try.func3, Try.ntmps3
    go_wp2_with (first
      | (go_at_call 8; refine H1.out.mono ?_; rintro e w1 ⟨rfl, m1, rfl⟩)
      | (go_at_call 9; refine (H2.out _).mono ?_; rintro e w2 ⟨rfl, m2, rfl⟩)
      | (go_at_call 10; refine (H3.out _).mono ?_; rintro e w3 ⟨rfl, m3, rfl⟩)
      | (go_at_call 11; refine (H4.out _).mono ?_; rintro e w4 ⟨rfl, m4, rfl⟩)
      | (go_at_call 7; refine (H5.out _).mono ?_; rintro e w5 ⟨rfl, hb⟩; have HB := Lib.hid hb; clear hb))
    go_ret
    exact ⟨by simp, HB.out⟩
theorem ints_at {B : Nat} {w : World} {a : Option Addr} {xs : List Int} (h : Ints B w a xs) {k : Nat} (hk : k < xs.length) : ∃ b off, a = some ⟨b, off, none⟩ ∧ w.cell? ⟨b, off + k, none⟩ = some (.int .i64 (numAt xs k)) := by
  rcases h with h | ⟨b, off, ha, _, hc⟩
  · subst h; simp at hk
  · exact ⟨b, off, ha, hc k hk⟩
set_option maxHeartbeats 4000000 in
theorem rowsOrder_walk (w : World) (a : Option Addr) (cap : Nat) (xs : List Int) (_ : xs.length ≤ maxLen) (hx : Ints w.heap.size w a xs) (hcap : xs.length ≤ cap) (id : Int) (_ : (Lit.int .i64 id).wf = true) :
    Calls Try.prog 6 #[.slice a xs.length cap, .int .i64 id] w fun e w' => e = .returned (.bool true) ∧ Below w.heap.size w w' := by
  have hA : ∀ m, Calls Try.prog 7 #[] (w.drewN m) fun e w' => e = .returned (.bool true) ∧ Below w.heap.size w w' := fun m => by
    refine (awake13 (w.drewN m)).mono ?_
    rintro e w' ⟨rfl, hb⟩
    exact ⟨rfl, (drawn_below (Below.refl _ _) m).trans hb⟩
  have HA := Lib.hid hA
  by_cases h3 : 300 < xs.length
  · have e1 : decide (300 < (xs.length : Int)) = true := decide_eq_true (by omega)
    have e1' : decide (300 < xs.length) = true := decide_eq_true h3
    have hA0 := awake13 w
    clear h3 hx hA
    go_enter Try.func6, Try.ntmps6
    go_wp2_with (go_at_call 7; refine hA0.mono ?_; rintro e w2 ⟨rfl, hb⟩; have HB := Lib.hid hb; clear hb)
    go_ret
    exact ⟨rfl, HB.out⟩
  have e1 : decide (300 < (xs.length : Int)) = false := decide_eq_false (by omega)
  have e1' : decide (300 < xs.length) = false := decide_eq_false h3
  have H3 := Lib.hid (prising_any a cap xs _ w hx (by omega))
  by_cases hE : ¬ risingE xs = 0
  · have d1 : (risingE xs != 0) = true := by rw [bne_iff_ne]; exact hE
    clear h3 hx hA hE
    go_enter Try.func6, Try.ntmps6
    go_wp2_with (first
      | (go_at_call 10; refine H3.out.mono ?_; rintro e w3 ⟨rfl, m3, rfl⟩)
      | (go_at_call 7; refine (HA.out _).mono ?_; rintro e w5 ⟨rfl, hb⟩; have HB := Lib.hid hb; clear hb))
    go_ret
    exact ⟨rfl, HB.out⟩
  have hE := Decidable.not_not.1 hE
  have hrises := (rising_iff xs).1 hE
  rw [hE] at H3
  by_cases h1 : id < 1
  · have d2 : decide (id < 1) = true := decide_eq_true h1
    clear h3 hx hA hE h1 hrises
    go_enter Try.func6, Try.ntmps6
    go_wp2_with (first
      | (go_at_call 10; refine H3.out.mono ?_; rintro e w3 ⟨rfl, m3, rfl⟩)
      | (go_at_call 7; refine (HA.out _).mono ?_; rintro e w5 ⟨rfl, hb⟩; have HB := Lib.hid hb; clear hb))
    go_ret
    exact ⟨rfl, HB.out⟩
  have d2 : decide (id < 1) = false := decide_eq_false h1
  by_cases h2 : 999999 < id
  · have d3 : decide (999999 < id) = true := decide_eq_true h2
    clear h3 hx hA hE h1 h2 hrises
    go_enter Try.func6, Try.ntmps6
    go_wp2_with (first
      | (go_at_call 10; refine H3.out.mono ?_; rintro e w3 ⟨rfl, m3, rfl⟩)
      | (go_at_call 7; refine (HA.out _).mono ?_; rintro e w5 ⟨rfl, hb⟩; have HB := Lib.hid hb; clear hb))
    go_ret
    exact ⟨rfl, HB.out⟩
  have d3 : decide (999999 < id) = false := decide_eq_false h2
  have hF : ∀ m, Calls Try.prog 8 #[.slice a xs.length cap, .int .i64 id] (w.drewN m) fun e w' => e = .returned (.tuple #[.int .i64 (findN xs id : Nat), .bool (findB13 xs id)]) ∧ ∃ m', w' = w.drewN m' := fun m => by
    refine (pfind_any a cap xs id _ (w.drewN m) (hx.below (drawn_below (Below.refl _ _) m)) (by omega)).mono ?_
    rintro e w' ⟨rfl, m', rfl⟩
    exact ⟨rfl, m + m', drew_more _ _ _⟩
  rcases hit_or xs id with ⟨k, hk, ek, _, hh⟩ | ⟨h0, hh⟩
  · obtain ⟨q1, q2⟩ := find_hit hh
    rw [q1, q2] at hF
    have HF := Lib.hid hF
    obtain ⟨b, off, rfl, c0⟩ := ints_at hx hk
    rw [ek] at c0
    have i1 : (k : Int) < (xs.length : Int) := by omega
    have i2 : (0 : Int) ≤ (k : Int) := by omega
    have i3 : decide ((0 : Int) ≤ (k : Int)) = true := decide_eq_true i2
    have i4 : decide ((k : Int) < (xs.length : Int)) = true := decide_eq_true i1
    have i5 : decide (k < xs.length) = true := decide_eq_true hk
    clear h3 hx hA hE h1 h2 hF hrises ek hh q1 q2
    go_enter Try.func6, Try.ntmps6
    go_wp2_with (first
      | (go_at_call 10; refine H3.out.mono ?_; rintro e w3 ⟨rfl, m3, rfl⟩)
      | (go_at_call 8; refine (HF.out _).mono ?_; rintro e w4 ⟨rfl, m4, rfl⟩)
      | (go_at_call 7; refine (HA.out _).mono ?_; rintro e w5 ⟨rfl, hb⟩; have HB := Lib.hid hb; clear hb))
    go_ret
    exact ⟨rfl, HB.out⟩
  · obtain ⟨q1, q2⟩ := find_none hh
    rw [if_pos hE] at q1
    rw [q1, q2] at hF
    have HF := Lib.hid hF
    have hlo := (low_spec xs id xs.length).1
    have hnew := (rising_iff _).2 (rises_with hrises ⟨by omega, by omega⟩ h0)
    obtain ⟨p, hp⟩ : ∃ p, lowTo xs id xs.length = p := ⟨_, rfl⟩
    rw [hp] at HF hlo hnew
    have hlen := with_len xs p id hlo
    have HW : Hid (∀ m, Calls Try.prog 22 #[.slice a xs.length cap, .int .i64 (p : Int), .int .i64 id] (w.drewN m) fun e w' => ∃ a' c', e = .returned (.tuple #[.slice a' (xs.length + 1) c', .int .i64 0]) ∧ Ints w'.heap.size w' a' (with13 xs p id) ∧ Below w.heap.size w w') := Lib.hid fun m => by
      refine (iwith_any a cap xs p id (w.drewN m) hcap (hx.below (drawn_below (Below.refl _ _) m)) (by omega) hlo).mono ?_
      rintro e w' ⟨a', c', rfl, hi, hb⟩
      exact ⟨a', c', by rw [hlen], hi, (drawn_below (Below.refl _ _) m).trans hb⟩
    have HR : Hid (∀ (W : World) (a' : Option Addr) (c' : Nat), Ints W.heap.size W a' (with13 xs p id) → Below w.heap.size w W → Calls Try.prog 10 #[.slice a' (xs.length + 1) c'] W fun e w' => e = .returned (.int .i64 0) ∧ Below w.heap.size w w') := Lib.hid fun W a' c' hi hb => by
      have := prising_any a' c' (with13 xs p id) _ W hi (by omega)
      rw [hlen, hnew] at this
      refine this.mono ?_
      rintro e w' ⟨rfl, m, rfl⟩
      exact ⟨rfl, drawn_below hb m⟩
    have HAw : Hid (∀ W, Below w.heap.size w W → Calls Try.prog 7 #[] W fun e w' => e = .returned (.bool true) ∧ Below w.heap.size w w') := Lib.hid fun W hb => by
      refine (awake13 W).mono ?_
      rintro e w' ⟨rfl, hb2⟩
      exact ⟨rfl, hb.trans (hb2.mono hb.size)⟩
    have i6 : IntKind.i64.wrap ((xs.length : Int) + 1) = (xs.length : Int) + 1 := IntWalk.i64_in _ (by omega)
    clear h3 hx hA hE h1 h2 hF hrises hh q1 q2 h0 hp hlen hnew
    go_enter Try.func6, Try.ntmps6
    go_wp2_with (first
      | (go_at_call 10; refine H3.out.mono ?_; rintro e w3 ⟨rfl, m3, rfl⟩; clear H3)
      | (go_at_call 8; refine (HF.out _).mono ?_; rintro e w4 ⟨rfl, m4, rfl⟩)
      | (go_at_call 22; refine (HW.out _).mono ?_; rintro e w5 ⟨a5, c5, rfl, hi, hb⟩; have HI := Lib.hid hi; have HB := Lib.hid hb; clear hi hb)
      | (go_at_call 10; refine (HR.out _ _ _ HI.out HB.out).mono ?_; rintro e w6 ⟨rfl, hb⟩; have HB6 := Lib.hid hb; clear hb)
      | (go_at_call 7; refine (HAw.out _ HB6.out).mono ?_; rintro e w7 ⟨rfl, hb⟩; have HB7 := Lib.hid hb; clear hb))
    go_ret
    exact ⟨rfl, HB7.out⟩
end Go.Proofs.Ytnamoinedajoaaa
