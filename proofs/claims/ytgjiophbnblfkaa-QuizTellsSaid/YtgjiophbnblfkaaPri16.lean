/- The program's Answers, and all that the walks want of quiz. -/
import Derived.Test.YtgjiophbnblfkaaPrh16
namespace Go.Proofs.Ytgjiophbnblfkaa
open Go.RowKit

set_option maxRecDepth 100000 in
set_option maxHeartbeats 4000000 in
theorem panswers16_any (a : Option Addr) (cap : Nat) (xs : List Int) (b : Option Addr) (cap' : Nat) (fs : List Int) (w : World) (hx : Ints w.heap.size w a xs) (hn : xs.length ≤ 1000000) (hf : Ints w.heap.size w b fs) (hn2 : fs.length ≤ 1000000) :
    Calls Try.prog 11 #[.slice a xs.length cap, .slice b fs.length cap'] w fun e w' => e = .returned (.tuple #[.int .i64 (ansV xs fs), .int .i64 (ansE xs fs)]) ∧ w = w' := by
  have HC := Lib.hid (pcheck16_any a cap xs _ w hx hn)
  have HX := Lib.hid hf
  clear hx hf
  by_cases hA : ¬ Asks xs
  · rw [asks_no hA] at HC
    have HV := Lib.hid (ans_no (f := fs) hA)
    clear hA
    go_enter Try.func11, Try.ntmps11
    go_wp2_with (go_at_call 13; refine HC.out.mono ?_; rintro e w2 ⟨rfl, rfl⟩)
    go_ret2
    exact ⟨by rw [HV.out.1, HV.out.2]; rfl, rfl⟩
  have hA := Decidable.not_not.1 hA
  rw [asks_yes hA] at HC
  have HA := Lib.hid hA
  have h8 := hA.2.1
  obtain ⟨P, hP⟩ : ∃ P, 2 ^ xs.length = P + 1 := ⟨2 ^ xs.length - 1, by have := Nat.two_pow_pos xs.length; omega⟩
  have hP8 : P < 256 := by have := pow_small h8; omega
  have hst := AnsAt.start xs.length fs
  rw [show 2 ^ xs.length - 1 = P from by omega] at hst
  have HST := Lib.hid hst
  have HY := Lib.hid (pall16_any xs.length P hA.1 h8 hP w)
  have H8 := Lib.hid h8
  clear hA hP hst h8
  go_enter Try.func11, Try.ntmps11
  go_wp2_with (first
    | (go_at_call 13; refine HC.out.mono ?_; rintro e w2 ⟨rfl, rfl⟩)
    | (go_at_call 18; refine HY.out.mono ?_; rintro e w2 ⟨rfl, rfl⟩))
  go_loopw [7, 8, 21] (fun s7 s8 i wr => ∃ k V : Nat, ∃ L : Int, s7 = .int .i64 (V : Int) ∧ s8 = .int .i64 L ∧ i = .int .i64 k ∧ wr = w ∧ k ≤ fs.length ∧ V < 256 ∧ Hid (L = leastN fs k) ∧ Hid (AnsAt xs.length fs k V) ∧ Hid (∀ j, j < k → FailAt xs.length fs j)) (fun _ _ i _ => fs.length - (intOf i).toNat)
  case atStart => exact ⟨0, P, 0, rfl, rfl, rfl, rfl, by omega, hP8, Lib.hid rfl, HST, Lib.hid fun j h => absurd h (by omega)⟩
  case round =>
    obtain ⟨k, V, L, rfl, rfl, rfl, rfl, hk, hV, HL, HN, HR⟩ := hrel
    by_cases hlt : k < fs.length
    · rcases HX.out with h | ⟨b, off, rfl, _, hc⟩
      · exfalso; rw [h] at hlt; simp at hlt
      have hx := hc k hlt
      clear hc
      have i1 : (k : Int) < (fs.length : Int) := by omega
      have i3 : (0 : Int) ≤ (k : Int) := by omega
      have HBAD : Hid (¬ FailAt xs.length fs k → ansE xs fs = 2 ∧ ansV xs fs = 0) := Lib.hid fun q => ans_out HA.out fun z => q (z k hlt)
      by_cases q1 : numAt fs k < L
      · have q1' : decide (numAt fs k < L) = true := decide_eq_true q1
        have HV := Lib.hid (HBAD.out (least_no (by rw [← HL.out]; exact q1)))
        clear q1
        go_wp2
        go_ret2
        exact ⟨by rw [HV.out.1, HV.out.2]; rfl, rfl⟩
      have q1' : decide (numAt fs k < L) = false := decide_eq_false q1
      by_cases q2 : (xs.length : Int) ≤ numAt fs k
      · have q2' : decide ((xs.length : Int) ≤ numAt fs k) = true := decide_eq_true q2
        have HV := Lib.hid (HBAD.out fun z => by have := z.2.1; omega)
        clear q1 q2
        go_wp2
        go_ret2
        exact ⟨by rw [HV.out.1, HV.out.2]; rfl, rfl⟩
      have q2' : decide ((xs.length : Int) ≤ numAt fs k) = false := decide_eq_false q2
      have hok := least_ok HR.out (by rw [← HL.out]; exact q1) q2
      have HR2 : Hid (∀ j, j < k + 1 → FailAt xs.length fs j) := Lib.hid fun j hj => by
        rcases (by omega : j < k ∨ j = k) with h | h
        · exact HR.out j h
        · rw [h]; exact hok
      have h8 := H8.out
      obtain ⟨j, hj⟩ : ∃ j : Nat, numAt fs k = j := ⟨(numAt fs k).toNat, by have := hok.1; omega⟩
      have hj8 : j < 8 := by have := hok.2.1; omega
      obtain ⟨V', hb, hV', hbit⟩ := and_not16 (A := V) (j := j) hV
      have HN2 := Lib.hid (HN.out.more hlt hj hbit)
      have HL2 : Hid ((j : Int) + 1 = leastN fs (k + 1)) := Lib.hid (by rw [leastN, hj])
      clear hok q1 q2 hbit h8
      rw [hj] at hx q1' q2'
      clear hj
      obtain ⟨Q, hQ⟩ : ∃ Q : Int, ((2 ^ j : Nat) : Int) = Q := ⟨_, rfl⟩
      rw [hQ] at hb
      obtain ⟨J, hJ⟩ : ∃ J : Int, (j : Int) = J := ⟨_, rfl⟩
      have hcs : (J = 0 ∧ Q = 1) ∨ (J = 1 ∧ Q = 2) ∨ (J = 2 ∧ Q = 4) ∨ (J = 3 ∧ Q = 8) ∨ (J = 4 ∧ Q = 16) ∨ (J = 5 ∧ Q = 32) ∨ (J = 6 ∧ Q = 64) ∨ (J = 7 ∧ Q = 128) := by
        rcases (by omega : j = 0 ∨ j = 1 ∨ j = 2 ∨ j = 3 ∨ j = 4 ∨ j = 5 ∨ j = 6 ∨ j = 7) with h | h | h | h | h | h | h | h
        all_goals (rw [h] at hQ hJ; simp at hQ hJ; omega)
      rw [hJ] at hx q1' q2' HL2
      have hne : ¬ xs = [] := fun z => by have := HA.out.1; rw [z] at this; exact absurd this (by simp)
      have hne' : decide (xs = []) = false := decide_eq_false hne
      clear hQ hj8 HBAD hJ
      have HB := Lib.hid hb
      clear hb
      rcases hcs with ⟨rfl, rfl⟩ | ⟨rfl, rfl⟩ | ⟨rfl, rfl⟩ | ⟨rfl, rfl⟩ | ⟨rfl, rfl⟩ | ⟨rfl, rfl⟩ | ⟨rfl, rfl⟩ | ⟨rfl, rfl⟩
      all_goals
        go_wp2
        go_roundw
        case rel => exact ⟨k + 1, V', _, by rw [HB.out], by first | rfl | trivial, by first | go_num | trivial, by first | rfl | trivial, by omega, hV', HL2, HN2, HR2⟩
        case measure => simp [intOf]; omega
    · obtain rfl : k = fs.length := by omega
      have HV := Lib.hid (ans_yes HA.out HR.out)
      go_wp2
      go_ret2
      exact ⟨by rw [HV.out.1, HV.out.2, ← HN.out.done]; rfl, rfl⟩
theorem quiz16 : Quiz16 where
  check a cap xs w _ hx hn := (pcheck16_any a cap xs _ w hx hn).mono fun _ _ h => ⟨h.1, h.2 ▸ Below.refl _ _⟩
  worst a cap xs w _ hx hn := pworst16_any a cap xs w hx hn
  score a cap xs m w _ hx hn _ := pscore16_any a cap xs m w hx hn
  failed a cap xs m w _ hx hn _ := pfailed16_any a cap xs m w hx hn
  answers a cap xs b cap' fs w _ hx hn _ hf hn2 := (panswers16_any a cap xs b cap' fs w hx hn hf hn2).mono fun _ _ h => ⟨h.1, h.2 ▸ Below.refl _ _⟩
end Go.Proofs.Ytgjiophbnblfkaa
