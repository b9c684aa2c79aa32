/- What the document says of amounts, in plain words over numbers, and the document's own In, Sub and Times, for all numbers and in every world. -/
import Derived.Test.YtifihejogbcbgaaInts
import Derived.Test.YtifihejogbcbgaaMSameInts
import Derived.Test.YtifihejogbcbgaaRows
import Derived.WalkKit
import Derived.LoopTactic
import Derived.Outline
import Derived.Below
import Derived.Lib.Hide
import Derived.Deep.QuietTactic
import Derived.BigQuiet
import Derived.Deep.CutBlock
import Derived.Deep.DeepCutAuto
import Derived.Lib.SmallJoins
import Derived.Laws.ResultCell
import Derived.Laws.Rows
import Derived.OneCell
namespace Go.Proofs.Ytifihejogbcbgaa
open Go.RowKit

def inB (n : Int) : Bool := decide (-1000000000000 ≤ n ∧ n ≤ 1000000000000)
theorem inB_iff (n : Int) : inB n = true ↔ -1000000000000 ≤ n ∧ n ≤ 1000000000000 := by unfold inB; exact decide_eq_true_iff
theorem inB_no {n : Int} (h : inB n = false) : n < -1000000000000 ∨ 1000000000000 < n := by
  unfold inB at h; rw [decide_eq_false_iff_not] at h; omega

def subOk (a b : Int) : Bool := inB a && inB b && inB (a - b)
def subV (a b : Int) : Int := if subOk a b = true then a - b else 0
def subE (a b : Int) : Int := if subOk a b = true then 0 else 8

def mulOk (a n : Int) : Bool := inB a && inB n && inB (a * n)
def mulV (a n : Int) : Int := if mulOk a n = true then a * n else 0
def mulE (a n : Int) : Int := if mulOk a n = true then 0 else 8
/-- A product is an amount just if one factor goes often enough into the greatest amount. -/
theorem mul_bound (x y : Int) (hy : 0 < y) : 1000000000000 / y < x ↔ 1000000000000 < x * y := Int.ediv_lt_iff_lt_mul hy

theorem mul_ok {a n : Int} (ha : inB a = true) (hn : inB n = true) (h : -1000000000000 ≤ a * n ∧ a * n ≤ 1000000000000) : mulV a n = a * n ∧ mulE a n = 0 := by
  unfold mulV mulE mulOk; rw [ha, hn, (inB_iff _).2 h]; exact ⟨rfl, rfl⟩
theorem mul_no {a n : Int} (h : a * n < -1000000000000 ∨ 1000000000000 < a * n) : mulV a n = 0 ∧ mulE a n = 8 := by
  have : inB (a * n) = false := by unfold inB; rw [decide_eq_false_iff_not]; omega
  unfold mulV mulE mulOk; rw [this, Bool.and_false]; exact ⟨rfl, rfl⟩

end Go.Proofs.Ytifihejogbcbgaa
namespace Go.Proofs.Ytifihejogbcbgaa
open Go.RowKit

def divN (a b c : Int) : Int := if 4000000000000 < a * b / c then -1 else a * b / c
def divR (a b c : Int) : Int := if 4000000000000 < a * b / c then 0 else a * b % c

theorem step_one (a c n r T q m : Int) (h : n * c + r = a * T) (hq : q * c + m = a) : (2 * n + q) * c + (2 * r + m) = a * (2 * T + 1) := by
  have e1 : (2 * n + q) * c = 2 * (n * c) + q * c := by rw [Int.add_mul, Int.mul_assoc]
  have e2 : a * (2 * T + 1) = 2 * (a * T) + a := by rw [Int.mul_add, Int.mul_one, Int.mul_left_comm]
  omega
theorem step_two (a c n r T : Int) (h : n * c + r = a * T) : (2 * n) * c + (2 * r) = a * (2 * T) := by
  have e1 : (2 * n) * c = 2 * (n * c) := by rw [Int.mul_assoc]
  have e2 : a * (2 * T) = 2 * (a * T) := by rw [Int.mul_left_comm]
  omega
theorem one_less (c n r S : Int) (h : n * c + r = S) : (n + 1) * c + (r - c) = S := by
  have e1 : (n + 1) * c = n * c + c := by rw [Int.add_mul, Int.one_mul]
  omega
theorem half_of (b : Int) (k : Nat) : b / 2 ^ k / 2 = b / 2 ^ (k + 1) := by
  have hp : (0 : Int) < 2 ^ k := Int.pow_pos (by omega)
  rw [Int.pow_succ, Int.ediv_ediv, if_neg (by omega), Int.sub_zero]
theorem early (a b c n r T : Int) (h : n * c + r = a * T) (hT : T ≤ b) (ha : 0 ≤ a) (hr : 0 ≤ r) (hc : 0 < c) (hn : 4000000000000 < n) : 4000000000000 < a * b / c := by
  have h1 : n ≤ a * b / c := (Int.le_ediv_iff_mul_le hc).2 (by
    have := Int.mul_le_mul_of_nonneg_left hT ha
    omega)
  omega
theorem late (a b c n r : Int) (h : n * c + r = a * b) (hr0 : 0 ≤ r) (hr1 : r < c) (hn : n ≤ 4000000000000) : divN a b c = n ∧ divR a b c = r := by
  have hc : 0 < c := by omega
  obtain ⟨h1, h2⟩ := (Int.ediv_emod_unique (a := a * b) (q := n) (r := r) hc).2 ⟨by rw [Int.mul_comm c n]; omega, hr0, hr1⟩
  unfold divN divR
  rw [h1, h2, if_neg (by omega), if_neg (by omega)]
  exact ⟨rfl, rfl⟩

end Go.Proofs.Ytifihejogbcbgaa
namespace Go.Proofs.Ytifihejogbcbgaa
open Go.RowKit

def mayOk (a b c : Int) : Prop := 1 ≤ c ∧ 0 ≤ a ∧ 0 ≤ b ∧ a ≤ 1000000000000 ∧ b ≤ 1000000000000 ∧ c ≤ 1000000000000
def mayE (a b c : Int) : Int := if c < 1 then 2 else if a < 0 ∨ b < 0 ∨ 1000000000000 < a ∨ 1000000000000 < b ∨ 1000000000000 < c then 8 else 0
def halfN (a b c : Int) : Int := if c ≤ 2 * (a * b % c) then a * b / c + 1 else a * b / c
def floorE (a b c : Int) : Int := if mayE a b c = 0 then (if 1000000000000 < a * b / c then 8 else 0) else mayE a b c
def floorV (a b c : Int) : Int := if floorE a b c = 0 then a * b / c else 0
def halfE (a b c : Int) : Int := if mayE a b c = 0 then (if 1000000000000 < halfN a b c then 8 else 0) else mayE a b c
def halfV (a b c : Int) : Int := if halfE a b c = 0 then halfN a b c else 0
def restV (a b c : Int) : Int := if floorE a b c = 0 then a * b % c else 0

theorem may_three (a b c : Int) : (mayE a b c = 0 ∧ mayOk a b c) ∨ (mayE a b c = 2 ∧ c < 1) ∨ (mayE a b c = 8 ∧ 1 ≤ c) := by
  unfold mayE mayOk
  split
  · exact Or.inr (Or.inl ⟨rfl, by assumption⟩)
  · split
    · exact Or.inr (Or.inr ⟨rfl, by omega⟩)
    · exact Or.inl ⟨rfl, by omega⟩

theorem floor_bad {a b c : Int} (h : mayE a b c ≠ 0) : floorE a b c = mayE a b c ∧ floorV a b c = 0 := by
  unfold floorV floorE; rw [if_neg h, if_neg h]; exact ⟨rfl, rfl⟩
theorem half_bad {a b c : Int} (h : mayE a b c ≠ 0) : halfE a b c = mayE a b c ∧ halfV a b c = 0 := by
  unfold halfV halfE; rw [if_neg h, if_neg h]; exact ⟨rfl, rfl⟩
theorem floor_over {a b c : Int} (h : mayE a b c = 0) (hq : 1000000000000 < a * b / c) : floorE a b c = 8 ∧ floorV a b c = 0 := by
  unfold floorV floorE; rw [if_pos h, if_pos hq]; exact ⟨rfl, rfl⟩
theorem floor_fine {a b c : Int} (h : mayE a b c = 0) (hq : a * b / c ≤ 1000000000000) : floorE a b c = 0 ∧ floorV a b c = a * b / c := by
  unfold floorV floorE; rw [if_pos h, if_neg (by omega)]; exact ⟨rfl, rfl⟩
theorem half_over {a b c : Int} (h : mayE a b c = 0) (hq : 1000000000000 < halfN a b c) : halfE a b c = 8 ∧ halfV a b c = 0 := by
  unfold halfV halfE; rw [if_pos h, if_pos hq]; exact ⟨rfl, rfl⟩
theorem half_fine {a b c : Int} (h : mayE a b c = 0) (hq : halfN a b c ≤ 1000000000000) : halfE a b c = 0 ∧ halfV a b c = halfN a b c := by
  unfold halfV halfE; rw [if_pos h, if_neg (by omega)]; exact ⟨rfl, rfl⟩
theorem quo_nonneg {a b c : Int} (h : mayOk a b c) : 0 ≤ a * b / c := Int.ediv_nonneg (Int.mul_nonneg h.2.1 h.2.2.1) (by have := h.1; omega)
theorem rem_bd {a b c : Int} (h : mayOk a b c) : 0 ≤ a * b % c ∧ a * b % c < c := ⟨Int.emod_nonneg _ (by have := h.1; omega), Int.emod_lt_of_pos _ (by have := h.1; omega)⟩
theorem div_says (a b c : Int) : (divN a b c = -1 ∧ divR a b c = 0 ∧ 4000000000000 < a * b / c) ∨ (divN a b c = a * b / c ∧ divR a b c = a * b % c ∧ a * b / c ≤ 4000000000000) := by
  unfold divN divR
  by_cases h : 4000000000000 < a * b / c
  · rw [if_pos h, if_pos h]; exact Or.inl ⟨rfl, rfl, h⟩
  · rw [if_neg h, if_neg h]; exact Or.inr ⟨rfl, rfl, by omega⟩
end Go.Proofs.Ytifihejogbcbgaa
namespace Go.Proofs.Ytifihejogbcbgaa
open Go.RowKit

def feeE (a b : Int) : Int := if b < 0 ∨ 10000 < b then 2 else if a < 0 ∨ 1000000000000 < a then 8 else 0
def feeN (a b : Int) : Int := (2 * a * b + 10000) / 20000
def feeV (a b : Int) : Int := if feeE a b = 0 then feeN a b else 0
def lessV (a b : Int) : Int := if feeE a b = 0 then a - feeN a b else 0
def feesB (l : List Int) : Bool := decide (l.length = 4 ∧ 0 ≤ numAt l 0 ∧ numAt l 0 ≤ numAt l 1 ∧ numAt l 1 ≤ numAt l 2 ∧ numAt l 2 ≤ numAt l 3 ∧ numAt l 3 ≤ 10000)
theorem fees_iff (l : List Int) : feesB l = true ↔ (l.length = 4 ∧ ∀ i, i < 4 → 0 ≤ numAt l i ∧ numAt l i ≤ 10000 ∧ (0 < i → numAt l (i - 1) ≤ numAt l i)) := by
  unfold feesB
  rw [decide_eq_true_iff]
  constructor
  · rintro ⟨h, h0, h1, h2, h3, h4⟩
    refine ⟨h, fun i hi => ?_⟩
    match i, hi with
    | 0, _ => exact ⟨h0, by omega, fun h => absurd h (by omega)⟩
    | 1, _ => exact ⟨by omega, by omega, fun _ => h1⟩
    | 2, _ => exact ⟨by omega, by omega, fun _ => h2⟩
    | 3, _ => exact ⟨by omega, by omega, fun _ => h3⟩
  · rintro ⟨h, h1⟩
    have a0 := h1 0 (by omega)
    have a1 := h1 1 (by omega)
    have a2 := h1 2 (by omega)
    have a3 := h1 3 (by omega)
    exact ⟨h, a0.1, a1.2.2 (by omega), a2.2.2 (by omega), a3.2.2 (by omega), a3.2.1⟩
def checkE (l : List Int) : Int := if feesB l = true then 0 else 36
def gradeE (a : Int) (l : List Int) (g : Int) : Int := if feesB l = true then (if g < 0 ∨ 3 < g then 2 else feeE a (numAt l g.toNat)) else 36
def gradeV (a : Int) (l : List Int) (g : Int) : Int := if gradeE a l g = 0 then lessV a (numAt l g.toNat) else 0
def allE (a : Int) (l : List Int) : Int := if feesB l = true then (if a < 0 ∨ 1000000000000 < a then 8 else 0) else 36
def allAt (a : Int) (l : List Int) (i : Nat) : Int := if allE a l = 0 then lessV a (numAt l i) else 0
def allAgg (a : Int) (l : List Int) : Value := .agg #[.int .i64 (allAt a l 0), .int .i64 (allAt a l 1), .int .i64 (allAt a l 2), .int .i64 (allAt a l 3)]

theorem fee_arg {a b : Int} (h : b < 0 ∨ 10000 < b) : feeE a b = 2 ∧ feeV a b = 0 ∧ lessV a b = 0 := by
  have : feeE a b = 2 := by unfold feeE; rw [if_pos h]
  unfold feeV lessV; rw [this]; exact ⟨rfl, rfl, rfl⟩
theorem fee_over {a b : Int} (h : ¬ (b < 0 ∨ 10000 < b)) (h2 : a < 0 ∨ 1000000000000 < a) : feeE a b = 8 ∧ feeV a b = 0 ∧ lessV a b = 0 := by
  have : feeE a b = 8 := by unfold feeE; rw [if_neg h, if_pos h2]
  unfold feeV lessV; rw [this]; exact ⟨rfl, rfl, rfl⟩
theorem fee_good {a b : Int} (h : ¬ (b < 0 ∨ 10000 < b)) (h2 : ¬ (a < 0 ∨ 1000000000000 < a)) : feeE a b = 0 ∧ feeV a b = feeN a b ∧ lessV a b = a - feeN a b := by
  have : feeE a b = 0 := by unfold feeE; rw [if_neg h, if_neg h2]
  unfold feeV lessV; rw [this]; exact ⟨rfl, rfl, rfl⟩
theorem fee_fine {a b : Int} (h : feeE a b = 0) : 0 ≤ b ∧ b ≤ 10000 ∧ 0 ≤ a ∧ a ≤ 1000000000000 := by
  unfold feeE at h
  split at h
  · cases h
  · split at h
    · cases h
    · omega
theorem prod_bd {a b : Int} (h : 0 ≤ b ∧ b ≤ 10000) (h2 : 0 ≤ a ∧ a ≤ 1000000000000) : 0 ≤ 2 * a * b ∧ 2 * a * b ≤ 20000 * a := by
  refine ⟨Int.mul_nonneg (by omega) h.1, ?_⟩
  have := Int.mul_le_mul_of_nonneg_left h.2 (show 0 ≤ 2 * a by omega)
  omega
theorem fee_bd {a b : Int} (h : 0 ≤ b ∧ b ≤ 10000) (h2 : 0 ≤ a ∧ a ≤ 1000000000000) : 0 ≤ feeN a b ∧ feeN a b ≤ a := by
  have := prod_bd h h2
  unfold feeN
  omega

theorem fees_no {l : List Int} (h : ¬ (l.length = 4 ∧ ∀ i, i < 4 → 0 ≤ numAt l i ∧ numAt l i ≤ 10000 ∧ (0 < i → numAt l (i - 1) ≤ numAt l i))) : checkE l = 36 := by
  have : feesB l = false := by
    cases hb : feesB l with
    | false => rfl
    | true => exact absurd ((fees_iff l).1 hb) h
  unfold checkE; rw [this]; rfl
theorem fees_yes {l : List Int} (h : l.length = 4 ∧ ∀ i, i < 4 → 0 ≤ numAt l i ∧ numAt l i ≤ 10000 ∧ (0 < i → numAt l (i - 1) ≤ numAt l i)) : checkE l = 0 := by
  have : feesB l = true := (fees_iff l).2 h
  unfold checkE; rw [this]; rfl
theorem fees_are {l : List Int} (h : feesB l = true) : l.length = 4 ∧ ∀ i, i < 4 → 0 ≤ numAt l i ∧ numAt l i ≤ 10000 ∧ (0 < i → numAt l (i - 1) ≤ numAt l i) := by
  exact (fees_iff l).1 h
theorem rcheck_len (a0 : Option Addr) (cap : Nat) (l : List Int) (w : World) (h : l.length ≠ 4) :
    Calls Try.prog 36 #[.slice a0 l.length cap] w fun e w' => e = .returned (.int .i64 (checkE l)) ∧ ∃ m, w' = w.drewN m := by
  have He := Lib.hid (fees_no (l := l) fun h2 => h h2.1)
  have hd : ((l.length : Int) != 4) = true := by rw [bne_iff_ne]; omega
  clear h
  go_enter Try.func36, Try.ntmps36
  go_wp2
  go_ret
  exact ⟨by rw [He.out]; rfl, 0, rfl⟩
set_option maxHeartbeats 2000000 in
theorem rcheck_some (b off cap : Nat) (l : List Int) (w : World) (h4 : l.length = 4) (hc : ∀ j, j < l.length → w.cell? ⟨b, off + j, none⟩ = some (.int .i64 (numAt l j))) :
    Calls Try.prog 36 #[.slice (some ⟨b, off, none⟩) l.length cap] w fun e w' => e = .returned (.int .i64 (checkE l)) ∧ ∃ m, w' = w.drewN m := by
  have hd : ((l.length : Int) != 4) = false := by rw [h4]; rfl
  have HC := Lib.hid hc
  clear hc
  go_enter Try.func36, Try.ntmps36
  go_wp2
  go_loopw [3] (fun i wr => ∃ k m : Nat, i = .int .i64 k ∧ wr = w.drewN m ∧ k ≤ 4 ∧ Hid (∀ i, i < k → 0 ≤ numAt l i ∧ numAt l i ≤ 10000 ∧ (0 < i → numAt l (i - 1) ≤ numAt l i))) (fun i _ => 4 - (intOf i).toNat)
  case atStart => exact ⟨0, 0, rfl, rfl, by omega, Lib.hid fun i h => absurd h (by omega)⟩
  case round =>
    obtain ⟨k, m, rfl, rfl, hk, hs⟩ := hrel
    by_cases hlt : k < 4
    · have hx := HC.out k (by omega)
      have i1 : (k : Int) < (l.length : Int) := by omega
      have i2 : (0 : Int) ≤ (k : Int) := by omega
      have i4 : (k : Int) < 4 := by omega
      by_cases h1 : numAt l k < 0
      · have He := Lib.hid (fees_no (l := l) fun h2 => by have := (h2.2 k hlt).1; omega)
        have d1 : decide (numAt l k < 0) = true := decide_eq_true h1
        clear h1
        go_upto_region 6 with fail
        go_quiet (fail)
        go_wp2
        go_ret
        exact ⟨by rw [He.out]; rfl, m + nq, by rw [World.drewN_drewN]⟩
      · have d1 : decide (numAt l k < 0) = false := decide_eq_false h1
        by_cases h2 : 10000 < numAt l k
        · have He := Lib.hid (fees_no (l := l) fun h3 => by have := (h3.2 k hlt).2.1; omega)
          have d2 : decide (10000 < numAt l k) = true := decide_eq_true h2
          clear h1 h2
          go_upto_region 6 with fail
          go_quiet (fail)
          go_wp2
          go_ret
          exact ⟨by rw [He.out]; rfl, m + nq, by rw [World.drewN_drewN]⟩
        · have d2 : decide (10000 < numAt l k) = false := decide_eq_false h2
          by_cases h0 : k = 0
          · have d3 : decide (0 < k) = false := decide_eq_false (by omega)
            have Hs : Hid (∀ i, i < k + 1 → 0 ≤ numAt l i ∧ numAt l i ≤ 10000 ∧ (0 < i → numAt l (i - 1) ≤ numAt l i)) := Lib.hid fun i hi => by
              rcases (by omega : i < k ∨ i = k) with h | h
              · exact hs.out i h
              · rw [h]; exact ⟨by omega, by omega, fun h5 => absurd h5 (by omega)⟩
            clear h1 h2 h0
            go_upto_region 6 with fail
            go_quiet (fail)
            go_wp2
            go_roundw
            case rel => exact ⟨k + 1, _, by go_num, rfl, by omega, Hs⟩
            case measure => simp [intOf]; omega
          · have d3 : decide (0 < k) = true := decide_eq_true (by omega)
            obtain ⟨p, hp⟩ : ∃ p, k = p + 1 := ⟨k - 1, by omega⟩
            have hy := HC.out p (by omega)
            have w1 : IntKind.i64.wrap ((k : Int) - 1) = (p : Int) := by rw [IntWalk.i64_in _ (by omega)]; omega
            have j1 : (p : Int) < (l.length : Int) := by omega
            have j2 : (0 : Int) ≤ (p : Int) := by omega
            by_cases h5 : numAt l k < numAt l p
            · have He := Lib.hid (fees_no (l := l) fun h3 => by have := (h3.2 k hlt).2.2 (by omega); rw [show k - 1 = p by omega] at this; omega)
              have d4 : decide (numAt l k < numAt l p) = true := decide_eq_true h5
              clear h1 h2 h0 h5 hp
              go_upto_region 6 with fail
              go_quiet (fail)
              go_wp2
              go_ret
              exact ⟨by rw [He.out]; rfl, m + nq, by rw [World.drewN_drewN]⟩
            · have d4 : decide (numAt l k < numAt l p) = false := decide_eq_false h5
              have Hs : Hid (∀ i, i < k + 1 → 0 ≤ numAt l i ∧ numAt l i ≤ 10000 ∧ (0 < i → numAt l (i - 1) ≤ numAt l i)) := Lib.hid fun i hi => by
                rcases (by omega : i < k ∨ i = k) with h | h
                · exact hs.out i h
                · rw [h]; exact ⟨by omega, by omega, fun _ => by rw [show k - 1 = p by omega]; omega⟩
              clear h1 h2 h0 h5 hp
              go_upto_region 6 with fail
              go_quiet (fail)
              go_wp2
              go_roundw
              case rel => exact ⟨k + 1, _, by go_num, rfl, by omega, Hs⟩
              case measure => simp [intOf]; omega
    · obtain rfl : k = 4 := by omega
      have He := Lib.hid (fees_yes (l := l) ⟨h4, hs.out⟩)
      go_wp2
      go_ret
      exact ⟨by rw [He.out]; rfl, _, rfl⟩
theorem rcheck04_any (a0 : Option Addr) (cap : Nat) (l : List Int) (w : World) (hx : Ints w.heap.size w a0 l) :
    Calls Try.prog 36 #[.slice a0 l.length cap] w fun e w' => e = .returned (.int .i64 (checkE l)) ∧ ∃ m, w' = w.drewN m := by
  by_cases h : l.length = 4
  · rcases hx with rfl | ⟨b, off, rfl, _, hc⟩
    · cases h
    · exact rcheck_some b off cap l w h hc
  · exact rcheck_len a0 cap l w h
end Go.Proofs.Ytifihejogbcbgaa
namespace Go.Proofs.Ytifihejogbcbgaa
open Go.RowKit

theorem check_no {l : List Int} (h : feesB l = false) : checkE l = 36 := by unfold checkE; rw [h]; rfl
theorem check_yes {l : List Int} (h : feesB l = true) : checkE l = 0 := by unfold checkE; rw [h]; rfl

def four (a b c d : Int) : Array Value := #[.int .i64 a, .int .i64 b, .int .i64 c, .int .i64 d]
theorem cell_in {w : World} {g j : Nat} {cs : Array Value} {t : TypeId} {fr : Nat × Nat} {v : Value} (h : w.heap[g]? = some (.cells cs t fr)) (h2 : cs[j]? = some v) : w.cell? ⟨g, j, none⟩ = some v := by
  unfold World.cell?
  rw [h]
  exact h2
theorem stored_four {w : World} {g : Nat} {t : TypeId} {x0 x1 x2 x3 v0 v1 v2 v3 : Value} (h : w.heap[g]? = some (.cells #[x0, x1, x2, x3] t (0, 0))) :
    ((((w.setCell ⟨g, 0, none⟩ v0).setCell ⟨g, 1, none⟩ v1).setCell ⟨g, 2, none⟩ v2).setCell ⟨g, 3, none⟩ v3).heap[g]? = some (.cells #[v0, v1, v2, v3] t (0, 0)) := by
  have h0 := heap_setCell_same w g 0 _ t v0 h
  have h1 := heap_setCell_same _ g 1 _ t v1 h0
  have h2 := heap_setCell_same _ g 2 _ t v2 h1
  have h3 := heap_setCell_same _ g 3 _ t v3 h2
  exact h3
theorem below_four {B : Nat} {w w' : World} (h : Below B w w') {g : Nat} (hg : B ≤ g) (v0 v1 v2 v3 : Value) :
    Below B w ((((w'.setCell ⟨g, 0, none⟩ v0).setCell ⟨g, 1, none⟩ v1).setCell ⟨g, 2, none⟩ v2).setCell ⟨g, 3, none⟩ v3) :=
  (((h.setCell (p := ⟨g, 0, none⟩) hg v0).setCell (p := ⟨g, 1, none⟩) hg v1).setCell (p := ⟨g, 2, none⟩) hg v2).setCell (p := ⟨g, 3, none⟩) hg v3
def arrAt (a : Int) (l : List Int) (k j : Nat) : Int := if j < k then lessV a (numAt l j) else 0
def arrCells (a : Int) (l : List Int) (k : Nat) : Array Value := four (arrAt a l k 0) (arrAt a l k 1) (arrAt a l k 2) (arrAt a l k 3)
theorem arr_step (a : Int) (l : List Int) {k : Nat} (hk : k < 4) : (arrCells a l k).setIfInBounds k (.int .i64 (lessV a (numAt l k))) = arrCells a l (k + 1) := by
  match k, hk with
  | 0, _ => rfl
  | 1, _ => rfl
  | 2, _ => rfl
  | 3, _ => rfl
theorem arr_has (a : Int) (l : List Int) {k : Nat} (m : Nat) (hk : k < 4) : ∃ v, (arrCells a l m)[k]? = some v := by
  match k, hk with
  | 0, _ => exact ⟨_, rfl⟩
  | 1, _ => exact ⟨_, rfl⟩
  | 2, _ => exact ⟨_, rfl⟩
  | 3, _ => exact ⟨_, rfl⟩
theorem two_new (w : World) (o o' : Obj) (m : Nat) : (((w.alloc o).alloc o').drewN m).heap[w.heap.size]? = some o ∧ (((w.alloc o).alloc o').drewN m).heap[w.heap.size + 1]? = some o' :=
  ⟨heap_alloc2_old w o o', heap_alloc2_new w o o'⟩
theorem all_bad {a : Int} {l : List Int} (he : allE a l ≠ 0) : allAgg a l = .agg (four 0 0 0 0) := by
  unfold allAgg allAt four; rw [if_neg he, if_neg he, if_neg he, if_neg he]
end Go.Proofs.Ytifihejogbcbgaa
