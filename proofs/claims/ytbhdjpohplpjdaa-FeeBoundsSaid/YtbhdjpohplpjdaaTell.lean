/- Fees in basis points, in plain words over numbers, and the document's own Of, Less and Check, for all numbers and lists, in every world. -/
import Derived.Test.YtbhdjpohplpjdaaQuo
import Derived.Test.YtbhdjpohplpjdaaAdd
import Derived.Deep.QuietTactic
import Derived.BigQuiet
import Derived.Deep.CutBlock
import Derived.Deep.DeepCutAuto
import Derived.Lib.SmallJoins
namespace Go.Proofs.Ytbhdjpohplpjdaa
open Go.RowKit

def feeE (a b : Int) : Int := if b < 0 ∨ 10000 < b then 2 else if a < 0 ∨ 1000000000000 < a then 8 else 0
def feeN (a b : Int) : Int := (2 * a * b + 10000) / 20000
def feeV (a b : Int) : Int := if feeE a b = 0 then feeN a b else 0
def lessV (a b : Int) : Int := if feeE a b = 0 then a - feeN a b else 0
def feesB (l : List Int) : Bool := decide (l.length = 4 ∧ 0 ≤ numAt l 0 ∧ numAt l 0 ≤ numAt l 1 ∧ numAt l 1 ≤ numAt l 2 ∧ numAt l 2 ≤ numAt l 3 ∧ numAt l 3 ≤ 10000)
theorem fees_iff (l : List Int) : feesB l = true ↔ (l.length = 4 ∧ ∀ i, i < 4 → 0 ≤ numAt l i ∧ numAt l i ≤ 10000 ∧ (0 < i → numAt l (i - 1) ≤ numAt l i)) := by
  unfold feesB
  rw [decide_eq_true_iff]
  constructor
  · rintro ⟨h, h0, h1, h2, h3, h4⟩
    refine ⟨h, fun i hi => ?_⟩
    match i, hi with
    | 0, _ => exact ⟨h0, by omega, fun h => absurd h (by omega)⟩
    | 1, _ => exact ⟨by omega, by omega, fun _ => h1⟩
    | 2, _ => exact ⟨by omega, by omega, fun _ => h2⟩
    | 3, _ => exact ⟨by omega, by omega, fun _ => h3⟩
  · rintro ⟨h, h1⟩
    have a0 := h1 0 (by omega)
    have a1 := h1 1 (by omega)
    have a2 := h1 2 (by omega)
    have a3 := h1 3 (by omega)
    exact ⟨h, a0.1, a1.2.2 (by omega), a2.2.2 (by omega), a3.2.2 (by omega), a3.2.1⟩
def checkE (l : List Int) : Int := if feesB l = true then 0 else 36
def gradeE (a : Int) (l : List Int) (g : Int) : Int := if feesB l = true then (if g < 0 ∨ 3 < g then 2 else feeE a (numAt l g.toNat)) else 36
def gradeV (a : Int) (l : List Int) (g : Int) : Int := if gradeE a l g = 0 then lessV a (numAt l g.toNat) else 0
def allE (a : Int) (l : List Int) : Int := if feesB l = true then (if a < 0 ∨ 1000000000000 < a then 8 else 0) else 36
def allAt (a : Int) (l : List Int) (i : Nat) : Int := if allE a l = 0 then lessV a (numAt l i) else 0
def allAgg (a : Int) (l : List Int) : Value := .agg #[.int .i64 (allAt a l 0), .int .i64 (allAt a l 1), .int .i64 (allAt a l 2), .int .i64 (allAt a l 3)]

theorem fee_arg {a b : Int} (h : b < 0 ∨ 10000 < b) : feeE a b = 2 ∧ feeV a b = 0 ∧ lessV a b = 0 := by
  have : feeE a b = 2 := by unfold feeE; rw [if_pos h]
  unfold feeV lessV; rw [this]; exact ⟨rfl, rfl, rfl⟩
theorem fee_over {a b : Int} (h : ¬ (b < 0 ∨ 10000 < b)) (h2 : a < 0 ∨ 1000000000000 < a) : feeE a b = 8 ∧ feeV a b = 0 ∧ lessV a b = 0 := by
  have : feeE a b = 8 := by unfold feeE; rw [if_neg h, if_pos h2]
  unfold feeV lessV; rw [this]; exact ⟨rfl, rfl, rfl⟩
theorem fee_good {a b : Int} (h : ¬ (b < 0 ∨ 10000 < b)) (h2 : ¬ (a < 0 ∨ 1000000000000 < a)) : feeE a b = 0 ∧ feeV a b = feeN a b ∧ lessV a b = a - feeN a b := by
  have : feeE a b = 0 := by unfold feeE; rw [if_neg h, if_neg h2]
  unfold feeV lessV; rw [this]; exact ⟨rfl, rfl, rfl⟩
theorem fee_fine {a b : Int} (h : feeE a b = 0) : 0 ≤ b ∧ b ≤ 10000 ∧ 0 ≤ a ∧ a ≤ 1000000000000 := by
  unfold feeE at h
  split at h
  · cases h
  · split at h
    · cases h
    · omega
theorem prod_bd {a b : Int} (h : 0 ≤ b ∧ b ≤ 10000) (h2 : 0 ≤ a ∧ a ≤ 1000000000000) : 0 ≤ 2 * a * b ∧ 2 * a * b ≤ 20000 * a := by
  refine ⟨Int.mul_nonneg (by omega) h.1, ?_⟩
  have := Int.mul_le_mul_of_nonneg_left h.2 (show 0 ≤ 2 * a by omega)
  omega
theorem fee_bd {a b : Int} (h : 0 ≤ b ∧ b ≤ 10000) (h2 : 0 ≤ a ∧ a ≤ 1000000000000) : 0 ≤ feeN a b ∧ feeN a b ≤ a := by
  have := prod_bd h h2
  unfold feeN
  omega

theorem rof_any (a b : Int) (w : World) : Calls Try.prog 8 #[.int .i64 a, .int .i64 b] w fun e w' => e = .returned (.tuple #[.int .i64 (feeV a b), .int .i64 (feeE a b)]) ∧ w = w' := by
  by_cases h1 : b < 0
  · have He := Lib.hid (fee_arg (a := a) (Or.inl h1))
    have hd : decide (b < 0) = true := decide_eq_true h1
    clear h1
    go_enter Try.func8, Try.ntmps8
    go_wp2
    go_ret2
    exact ⟨by rw [He.out.1, He.out.2.1]; rfl, rfl⟩
  · have hd : decide (b < 0) = false := decide_eq_false h1
    by_cases h2 : 10000 < b
    · have He := Lib.hid (fee_arg (a := a) (Or.inr h2))
      have hd2 : decide (10000 < b) = true := decide_eq_true h2
      clear h1 h2
      go_enter Try.func8, Try.ntmps8
      go_wp2
      go_ret2
      exact ⟨by rw [He.out.1, He.out.2.1]; rfl, rfl⟩
    · have hd2 : decide (10000 < b) = false := decide_eq_false h2
      by_cases h3 : a < 0
      · have He := Lib.hid (fee_over (by omega) (Or.inl h3 : a < 0 ∨ 1000000000000 < a) (b := b))
        have hd3 : decide (a < 0) = true := decide_eq_true h3
        clear h1 h2 h3
        go_enter Try.func8, Try.ntmps8
        go_wp2
        go_ret2
        exact ⟨by rw [He.out.1, He.out.2.1]; rfl, rfl⟩
      · have hd3 : decide (a < 0) = false := decide_eq_false h3
        by_cases h4 : 1000000000000 < a
        · have He := Lib.hid (fee_over (by omega) (Or.inr h4 : a < 0 ∨ 1000000000000 < a) (b := b))
          have hd4 : decide (1000000000000 < a) = true := decide_eq_true h4
          clear h1 h2 h3 h4
          go_enter Try.func8, Try.ntmps8
          go_wp2
          go_ret2
          exact ⟨by rw [He.out.1, He.out.2.1]; rfl, rfl⟩
        · have hd4 : decide (1000000000000 < a) = false := decide_eq_false h4
          have He := Lib.hid (fee_good (a := a) (b := b) (by omega) (by omega))
          obtain ⟨hp0, hp1⟩ := prod_bd (a := a) (b := b) ⟨by omega, by omega⟩ ⟨by omega, by omega⟩
          have q1 : IntKind.i64.wrap (2 * a) = 2 * a := IntWalk.i64_in _ (by omega)
          have q2 : IntKind.i64.wrap (2 * a * b) = 2 * a * b := IntWalk.i64_in _ (by omega)
          have q3 : IntKind.i64.wrap (2 * a * b + 10000) = 2 * a * b + 10000 := IntWalk.i64_in _ (by omega)
          have q4 : (2 * a * b + 10000).tdiv 20000 = feeN a b := by rw [Int.tdiv_eq_ediv_of_nonneg (by omega)]; rfl
          have q5 : IntKind.i64.wrap (feeN a b) = feeN a b := IntWalk.i64_in _ (by have := fee_bd (a := a) (b := b) ⟨by omega, by omega⟩ ⟨by omega, by omega⟩; omega)
          have q6 : (2 * a * b + 10000) / 20000 = feeN a b := rfl
          clear h1 h2 h3 h4
          go_enter Try.func8, Try.ntmps8
          go_wp2
          go_ret2
          exact ⟨by rw [He.out.1, He.out.2.1]; rfl, rfl⟩

theorem rless_any (a b : Int) (w : World) : Calls Try.prog 10 #[.int .i64 a, .int .i64 b] w fun e w' => e = .returned (.tuple #[.int .i64 (lessV a b), .int .i64 (feeE a b)]) ∧ w = w' := by
  by_cases h : feeE a b = 0
  · have hd : (feeE a b != 0) = false := by rw [h]; rfl
    have hf := fee_fine h
    have hb := fee_bd ⟨hf.1, hf.2.1⟩ hf.2.2
    have he : feeV a b = feeN a b := by unfold feeV; rw [if_pos h]
    have He : Hid (lessV a b = a - feeV a b ∧ feeE a b = 0) := Lib.hid ⟨by unfold lessV; rw [if_pos h, he], h⟩
    rw [← he] at hb
    obtain ⟨hb1, hb2⟩ := hb
    have hf3 := hf.2.2.1
    have hf4 := hf.2.2.2
    clear hf he h
    go_enter Try.func10, Try.ntmps10
    go_wp2_with (go_at_call 8; refine (rof_any _ _ _).mono ?_; rintro e w' ⟨rfl, rfl⟩)
    go_ret2
    exact ⟨by rw [He.out.1, He.out.2]; rfl, rfl⟩
  · have hd : (feeE a b != 0) = true := by rw [bne_iff_ne]; exact h
    have He : Hid (lessV a b = 0) := Lib.hid (by unfold lessV; rw [if_neg h])
    clear h
    go_enter Try.func10, Try.ntmps10
    go_wp2_with (go_at_call 8; refine (rof_any _ _ _).mono ?_; rintro e w' ⟨rfl, rfl⟩)
    go_ret2
    exact ⟨by rw [He.out]; rfl, rfl⟩

theorem fees_no {l : List Int} (h : ¬ (l.length = 4 ∧ ∀ i, i < 4 → 0 ≤ numAt l i ∧ numAt l i ≤ 10000 ∧ (0 < i → numAt l (i - 1) ≤ numAt l i))) : checkE l = 36 := by
  have : feesB l = false := by
    cases hb : feesB l with
    | false => rfl
    | true => exact absurd ((fees_iff l).1 hb) h
  unfold checkE; rw [this]; rfl
theorem fees_yes {l : List Int} (h : l.length = 4 ∧ ∀ i, i < 4 → 0 ≤ numAt l i ∧ numAt l i ≤ 10000 ∧ (0 < i → numAt l (i - 1) ≤ numAt l i)) : checkE l = 0 := by
  have : feesB l = true := (fees_iff l).2 h
  unfold checkE; rw [this]; rfl
theorem fees_are {l : List Int} (h : feesB l = true) : l.length = 4 ∧ ∀ i, i < 4 → 0 ≤ numAt l i ∧ numAt l i ≤ 10000 ∧ (0 < i → numAt l (i - 1) ≤ numAt l i) := by
  exact (fees_iff l).1 h
theorem rcheck_len (a0 : Option Addr) (cap : Nat) (l : List Int) (w : World) (h : l.length ≠ 4) :
    Calls Try.prog 16 #[.slice a0 l.length cap] w fun e w' => e = .returned (.int .i64 (checkE l)) ∧ ∃ m, w' = w.drewN m := by
  have He := Lib.hid (fees_no (l := l) fun h2 => h h2.1)
  have hd : ((l.length : Int) != 4) = true := by rw [bne_iff_ne]; omega
  clear h
  go_enter Try.func16, Try.ntmps16
  go_wp2
  go_ret
  exact ⟨by rw [He.out]; rfl, 0, rfl⟩
set_option maxHeartbeats 2000000 in
theorem rcheck_some (b off cap : Nat) (l : List Int) (w : World) (h4 : l.length = 4) (hc : ∀ j, j < l.length → w.cell? ⟨b, off + j, none⟩ = some (.int .i64 (numAt l j))) :
    Calls Try.prog 16 #[.slice (some ⟨b, off, none⟩) l.length cap] w fun e w' => e = .returned (.int .i64 (checkE l)) ∧ ∃ m, w' = w.drewN m := by
  have hd : ((l.length : Int) != 4) = false := by rw [h4]; rfl
  have HC := Lib.hid hc
  clear hc
  go_enter Try.func16, Try.ntmps16
  go_wp2
  go_loopw [3] (fun i wr => ∃ k m : Nat, i = .int .i64 k ∧ wr = w.drewN m ∧ k ≤ 4 ∧ Hid (∀ i, i < k → 0 ≤ numAt l i ∧ numAt l i ≤ 10000 ∧ (0 < i → numAt l (i - 1) ≤ numAt l i))) (fun i _ => 4 - (intOf i).toNat)
  case atStart => exact ⟨0, 0, rfl, rfl, by omega, Lib.hid fun i h => absurd h (by omega)⟩
  case round =>
    obtain ⟨k, m, rfl, rfl, hk, hs⟩ := hrel
    by_cases hlt : k < 4
    · have hx := HC.out k (by omega)
      have i1 : (k : Int) < (l.length : Int) := by omega
      have i2 : (0 : Int) ≤ (k : Int) := by omega
      have i4 : (k : Int) < 4 := by omega
      by_cases h1 : numAt l k < 0
      · have He := Lib.hid (fees_no (l := l) fun h2 => by have := (h2.2 k hlt).1; omega)
        have d1 : decide (numAt l k < 0) = true := decide_eq_true h1
        clear h1
        go_upto_region 6 with fail
        go_quiet (fail)
        go_wp2
        go_ret
        exact ⟨by rw [He.out]; rfl, m + nq, by rw [World.drewN_drewN]⟩
      · have d1 : decide (numAt l k < 0) = false := decide_eq_false h1
        by_cases h2 : 10000 < numAt l k
        · have He := Lib.hid (fees_no (l := l) fun h3 => by have := (h3.2 k hlt).2.1; omega)
          have d2 : decide (10000 < numAt l k) = true := decide_eq_true h2
          clear h1 h2
          go_upto_region 6 with fail
          go_quiet (fail)
          go_wp2
          go_ret
          exact ⟨by rw [He.out]; rfl, m + nq, by rw [World.drewN_drewN]⟩
        · have d2 : decide (10000 < numAt l k) = false := decide_eq_false h2
          by_cases h0 : k = 0
          · have d3 : decide (0 < k) = false := decide_eq_false (by omega)
            have Hs : Hid (∀ i, i < k + 1 → 0 ≤ numAt l i ∧ numAt l i ≤ 10000 ∧ (0 < i → numAt l (i - 1) ≤ numAt l i)) := Lib.hid fun i hi => by
              rcases (by omega : i < k ∨ i = k) with h | h
              · exact hs.out i h
              · rw [h]; exact ⟨by omega, by omega, fun h5 => absurd h5 (by omega)⟩
            clear h1 h2 h0
            go_upto_region 6 with fail
            go_quiet (fail)
            go_wp2
            go_roundw
            case rel => exact ⟨k + 1, _, by go_num, rfl, by omega, Hs⟩
            case measure => simp [intOf]; omega
          · have d3 : decide (0 < k) = true := decide_eq_true (by omega)
            obtain ⟨p, hp⟩ : ∃ p, k = p + 1 := ⟨k - 1, by omega⟩
            have hy := HC.out p (by omega)
            have w1 : IntKind.i64.wrap ((k : Int) - 1) = (p : Int) := by rw [IntWalk.i64_in _ (by omega)]; omega
            have j1 : (p : Int) < (l.length : Int) := by omega
            have j2 : (0 : Int) ≤ (p : Int) := by omega
            by_cases h5 : numAt l k < numAt l p
            · have He := Lib.hid (fees_no (l := l) fun h3 => by have := (h3.2 k hlt).2.2 (by omega); rw [show k - 1 = p by omega] at this; omega)
              have d4 : decide (numAt l k < numAt l p) = true := decide_eq_true h5
              clear h1 h2 h0 h5 hp
              go_upto_region 6 with fail
              go_quiet (fail)
              go_wp2
              go_ret
              exact ⟨by rw [He.out]; rfl, m + nq, by rw [World.drewN_drewN]⟩
            · have d4 : decide (numAt l k < numAt l p) = false := decide_eq_false h5
              have Hs : Hid (∀ i, i < k + 1 → 0 ≤ numAt l i ∧ numAt l i ≤ 10000 ∧ (0 < i → numAt l (i - 1) ≤ numAt l i)) := Lib.hid fun i hi => by
                rcases (by omega : i < k ∨ i = k) with h | h
                · exact hs.out i h
                · rw [h]; exact ⟨by omega, by omega, fun _ => by rw [show k - 1 = p by omega]; omega⟩
              clear h1 h2 h0 h5 hp
              go_upto_region 6 with fail
              go_quiet (fail)
              go_wp2
              go_roundw
              case rel => exact ⟨k + 1, _, by go_num, rfl, by omega, Hs⟩
              case measure => simp [intOf]; omega
    · obtain rfl : k = 4 := by omega
      have He := Lib.hid (fees_yes (l := l) ⟨h4, hs.out⟩)
      go_wp2
      go_ret
      exact ⟨by rw [He.out]; rfl, _, rfl⟩
theorem rcheck_any (a0 : Option Addr) (cap : Nat) (l : List Int) (w : World) (hx : Ints w.heap.size w a0 l) :
    Calls Try.prog 16 #[.slice a0 l.length cap] w fun e w' => e = .returned (.int .i64 (checkE l)) ∧ ∃ m, w' = w.drewN m := by
  by_cases h : l.length = 4
  · rcases hx with rfl | ⟨b, off, rfl, _, hc⟩
    · cases h
    · exact rcheck_some b off cap l w h hc
  · exact rcheck_len a0 cap l w h
end Go.Proofs.Ytbhdjpohplpjdaa
