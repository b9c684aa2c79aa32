/- The program's fees: Check, Of, Less, Grade and All, for all numbers and lists, in every world. -/
import Derived.Test.YtifihejogbcbgaaInts
import Derived.Test.YtifihejogbcbgaaMSum
import Derived.Test.YtifihejogbcbgaaRows
import Derived.Test.YtifihejogbcbgaaShelf
import Derived.OwnWalk
import Derived.Deep.RegionWith
import Derived.ProofKit
import Derived.ChangeOld
import Derived.OpenShut
import Derived.BigCall
import Derived.Lib.SmallJoins
import Derived.StillTailTactics
import Derived.WalkKit
import Derived.LoopTactic
import Derived.Outline
import Derived.Below
import Derived.BigQuiet
import Derived.Deep.CutBlock
import Derived.Lib.Hide
import Derived.Lib.ItoaNum
import Derived.Deep.DeepCutAuto
namespace Go.Proofs.Ytifihejogbcbgaa
open Go.RowKit

def basisB (n : Int) : Bool := decide (0 ≤ n ∧ n ≤ 10000)
theorem basis_iff (n : Int) : basisB n = true ↔ 0 ≤ n ∧ n ≤ 10000 := by unfold basisB; exact decide_eq_true_iff
theorem basis_no {n : Int} (h : basisB n = false) : n < 0 ∨ 10000 < n := by
  unfold basisB at h; rw [decide_eq_false_iff_not] at h; omega
theorem basis_any (n : Int) (w : World) : Calls Try.prog 54 #[.int .i64 n] w fun e w' => e = .returned (.bool (basisB n)) ∧ w' = w := by
  by_cases h1 : 0 ≤ n
  · by_cases h2 : n ≤ 10000
    · have He : Hid (basisB n = true) := Lib.hid ((basis_iff n).2 ⟨h1, h2⟩)
      go_enter Try.func54, Try.ntmps54
      go_wp2
      go_ret
      exact ⟨by rw [He.out]; rfl, rfl⟩
    · have He : Hid (basisB n = false) := Lib.hid (by unfold basisB; rw [decide_eq_false_iff_not]; omega)
      have hd : decide (n ≤ 10000) = false := decide_eq_false h2
      clear h2
      go_enter Try.func54, Try.ntmps54
      go_wp2
      go_ret
      exact ⟨by rw [He.out]; rfl, rfl⟩
  · have He : Hid (basisB n = false) := Lib.hid (by unfold basisB; rw [decide_eq_false_iff_not]; omega)
    have hd : decide (0 ≤ n) = false := decide_eq_false h1
    clear h1
    go_enter Try.func54, Try.ntmps54
    go_wp2
    go_ret
    exact ⟨by rw [He.out]; rfl, rfl⟩

theorem fee_half {a b : Int} (hb : basisB b = true) : halfE a b 10000 = feeE a b ∧ halfV a b 10000 = feeV a b := by
  obtain ⟨h0, h1⟩ := (basis_iff b).1 hb
  by_cases ha : a < 0 ∨ 1000000000000 < a
  · have hm : mayE a b 10000 = 8 := by unfold mayE; rw [if_neg (by omega), if_pos (by omega)]
    obtain ⟨e1, e2⟩ := half_bad (a := a) (b := b) (c := 10000) (by rw [hm]; decide)
    obtain ⟨f1, f2, _⟩ := fee_over (a := a) (b := b) (by omega) ha
    rw [e1, e2, f1, f2, hm]; exact ⟨rfl, rfl⟩
  · have hm : mayE a b 10000 = 0 := by unfold mayE; rw [if_neg (by omega), if_neg (by omega)]
    have hN : halfN a b 10000 = feeN a b := by
      unfold halfN feeN
      rw [Int.mul_assoc]
      generalize a * b = x
      split <;> omega
    have hbd := fee_bd (a := a) (b := b) ⟨h0, h1⟩ ⟨by omega, by omega⟩
    obtain ⟨e1, e2⟩ := half_fine (a := a) (b := b) (c := 10000) hm (by rw [hN]; omega)
    obtain ⟨f1, f2, _⟩ := fee_good (a := a) (b := b) (by omega) ha
    rw [e1, e2, f1, f2, hN]; exact ⟨rfl, rfl⟩

theorem fee_sub {a b : Int} (h : feeE a b = 0) : subV a (feeV a b) = lessV a b ∧ subE a (feeV a b) = 0 := by
  have hf := fee_fine h
  have hb := fee_bd ⟨hf.1, hf.2.1⟩ hf.2.2
  have h1 : feeV a b = feeN a b := by unfold feeV; rw [if_pos h]
  have h2 : lessV a b = a - feeN a b := by unfold lessV; rw [if_pos h]
  have h3 : subOk a (feeN a b) = true := by
    unfold subOk
    rw [(inB_iff a).2 (by omega), (inB_iff (feeN a b)).2 (by omega), (inB_iff (a - feeN a b)).2 (by omega)]; rfl
  rw [h1, h2]
  unfold subV subE
  rw [if_pos h3, if_pos h3]; exact ⟨rfl, rfl⟩

theorem lessi_yes {x y : Int} (h : x < y) (w : World) : Calls Try.prog 62 #[.int .i64 x, .int .i64 y] w fun e w' => e = .returned (.bool true) ∧ w' = w :=
  (Try.cmp_Less_int2 x y w).mono fun _ _ he => ⟨by rw [he.1, decide_eq_true h], he.2⟩
theorem lessi_no {x y : Int} (h : ¬ x < y) (w : World) : Calls Try.prog 62 #[.int .i64 x, .int .i64 y] w fun e w' => e = .returned (.bool false) ∧ w' = w :=
  (Try.cmp_Less_int2 x y w).mono fun _ _ he => ⟨by rw [he.1, decide_eq_false h], he.2⟩

def rise4 (l : List Int) : Bool := decide (numAt l 0 ≤ numAt l 1 ∧ numAt l 1 ≤ numAt l 2 ∧ numAt l 2 ≤ numAt l 3)
theorem rise4_yes {l : List Int} (h : ∀ j, 0 < j → j < 4 → numAt l (j - 1) ≤ numAt l j) : rise4 l = true := by
  unfold rise4; rw [decide_eq_true_iff]; exact ⟨h 1 (by omega) (by omega), h 2 (by omega) (by omega), h 3 (by omega) (by omega)⟩
theorem rise4_no {l : List Int} {k p : Nat} (hk : k < 4) (hp : k = p + 1) (h : numAt l k < numAt l p) : rise4 l = false := by
  unfold rise4; rw [decide_eq_false_iff_not]; intro h2
  subst hp
  match p, hk with
  | 0, _ => simp only [Nat.zero_add] at h; omega
  | 1, _ => simp only [Nat.reduceAdd] at h; omega
  | 2, _ => simp only [Nat.reduceAdd] at h; omega
set_option maxHeartbeats 1000000 in
theorem rises_any (b off cap : Nat) (l : List Int) (w : World) (hc : ∀ j, j < 4 → w.cell? ⟨b, off + j, none⟩ = some (.int .i64 (numAt l j))) :
    Calls Try.prog 52 #[.slice (some ⟨b, off, none⟩) 4 cap] w fun e w' => e = .returned (.bool (rise4 l)) ∧ ∃ m, w' = w.drewN m := by
  have HC := Lib.hid hc
  clear hc
  go_enter Try.func52, Try.ntmps52
  go_wp2
  go_loopw [3] (fun i wr => ∃ k m : Nat, i = .int .i64 k ∧ wr = w.drewN m ∧ k < 4 ∧ Hid (∀ j, k < j → j < 4 → numAt l (j - 1) ≤ numAt l j)) (fun i _ => (intOf i).toNat)
  case atStart => exact ⟨3, 0, rfl, rfl, by omega, Lib.hid fun j h1 h2 => absurd h1 (by omega)⟩
  case round =>
    obtain ⟨k, m, rfl, hw, hk, hs⟩ := hrel
    have HW := Lib.hid hw
    by_cases h0 : 0 < k
    · obtain ⟨p, hp⟩ : ∃ p, k = p + 1 := ⟨k - 1, by omega⟩
      have hx : wr.cell? ⟨b, off + k, none⟩ = some (.int .i64 (numAt l k)) := by rw [hw]; exact HC.out k hk
      have hy : wr.cell? ⟨b, off + p, none⟩ = some (.int .i64 (numAt l p)) := by rw [hw]; exact HC.out p (by omega)
      clear hw
      have i1 : (k : Int) < 4 := by omega
      have i2 : (0 : Int) ≤ (k : Int) := by omega
      have j1 : (p : Int) < 4 := by omega
      have j2 : (0 : Int) ≤ (p : Int) := by omega
      have hpk : p < k := by omega
      have hpf : p < 4 := by omega
      have w1 : IntKind.i64.wrap ((k : Int) - 1) = (p : Int) := by rw [IntWalk.i64_in _ (by omega)]; omega
      by_cases h1 : numAt l k < numAt l p
      · have He := Lib.hid (rise4_no hk hp h1)
        have HL := Lib.hid (lessi_yes h1)
        clear h1 hp
        go_upto_region 4 with fail
        go_quiet ((go_at_call 62; exact Calls.quiet_of_same (HL.out _)))
        go_wp2
        go_ret
        exact ⟨by rw [He.out]; rfl, m + nq, by rw [HW.out, World.drewN_drewN]⟩
      · have HL := Lib.hid (lessi_no h1)
        have Hs : Hid (∀ j, p < j → j < 4 → numAt l (j - 1) ≤ numAt l j) := Lib.hid fun j h2 h3 => by
          rcases (by omega : j = k ∨ k < j) with h4 | h4
          · rw [h4, show k - 1 = p by omega]; omega
          · exact hs.out j h4 h3
        clear h1 hp
        go_upto_region 4 with fail
        go_quiet ((go_at_call 62; exact Calls.quiet_of_same (HL.out _)))
        go_wp2
        go_roundw
        case rel => exact ⟨p, m + nq, rfl, by rw [HW.out, World.drewN_drewN], hpf, Hs⟩
        case measure => simp [intOf]; omega
    · obtain rfl : k = 0 := by omega
      have He := Lib.hid (rise4_yes hs.out)
      clear hw
      go_wp2
      go_ret
      exact ⟨by rw [He.out]; rfl, m, HW.out⟩

theorem check4_no {l : List Int} (h : ¬ (rise4 l = true ∧ basisB (numAt l 0) = true ∧ basisB (numAt l 3) = true)) : checkE l = 36 := by
  refine check_no ?_
  cases hf : feesB l with
  | false => rfl
  | true =>
    have hg := (fees_iff l).1 hf
    exact absurd ⟨rise4_yes fun j h1 h2 => (hg.2 j h2).2.2 h1, (basis_iff _).2 ⟨(hg.2 0 (by omega)).1, (hg.2 0 (by omega)).2.1⟩, (basis_iff _).2 ⟨(hg.2 3 (by omega)).1, (hg.2 3 (by omega)).2.1⟩⟩ h
theorem check4_yes {l : List Int} (h4 : l.length = 4) (h1 : rise4 l = true) (h2 : basisB (numAt l 0) = true) (h3 : basisB (numAt l 3) = true) : checkE l = 0 := by
  refine check_yes ?_
  unfold rise4 at h1
  rw [decide_eq_true_iff] at h1
  rw [basis_iff] at h2 h3
  unfold feesB
  rw [decide_eq_true_iff]
  exact ⟨h4, h2.1, h1.1, h1.2.1, h1.2.2, h3.2⟩
theorem basis_says {n : Int} {v : Bool} (h : basisB n = v) (w : World) : Calls Try.prog 54 #[.int .i64 n] w fun e w' => e = .returned (.bool v) ∧ w = w' :=
  (basis_any n w).mono fun _ _ he => ⟨by rw [he.1, h], he.2.symm⟩
theorem fcheck_len (a0 : Option Addr) (cap : Nat) (l : List Int) (w : World) (h : l.length ≠ 4) :
    Calls Try.prog 33 #[.slice a0 l.length cap] w fun e w' => e = .returned (.int .i64 (checkE l)) ∧ ∃ m, w' = w.drewN m := by
  have He := Lib.hid (fees_no (l := l) fun h2 => h h2.1)
  have hd : ((l.length : Int) != 4) = true := by rw [bne_iff_ne]; omega
  clear h
  go_enter Try.func33, Try.ntmps33
  go_wp2
  go_ret
  exact ⟨by rw [He.out]; rfl, 0, rfl⟩
set_option maxHeartbeats 1000000 in
theorem fcheck_some (b off cap : Nat) (l : List Int) (w : World) (h4 : l.length = 4) (hc : ∀ j, j < 4 → w.cell? ⟨b, off + j, none⟩ = some (.int .i64 (numAt l j))) :
    Calls Try.prog 33 #[.slice (some ⟨b, off, none⟩) 4 cap] w fun e w' => e = .returned (.int .i64 (checkE l)) ∧ ∃ m, w' = w.drewN m := by
  have HS := Lib.hid (rises_any b off cap l w hc)
  have hx := hc 0 (by omega)
  have hy := hc 3 (by omega)
  rw [Nat.add_zero] at hx
  have H4 := Lib.hid h4
  clear h4 hc
  cases h1 : rise4 l with
  | false =>
    have He := Lib.hid (check4_no (l := l) fun h => by rw [h1] at h; cases h.1)
    rw [h1] at HS
    clear h1
    go_enter Try.func33, Try.ntmps33
    go_wp2_with (go_at_call 52; refine HS.out.mono ?_; rintro e w' ⟨rfl, m, rfl⟩)
    go_ret
    exact ⟨by rw [He.out]; rfl, m, rfl⟩
  | true =>
    have H1 := Lib.hid h1
    rw [h1] at HS
    clear h1
    cases h2 : basisB (numAt l 0) with
    | false =>
      have He := Lib.hid (check4_no (l := l) fun h => by rw [h2] at h; cases h.2.1)
      have HB := Lib.hid (basis_says h2)
      clear h2
      go_enter Try.func33, Try.ntmps33
      go_wp2_with (first
        | (go_at_call 52; refine HS.out.mono ?_; rintro e w' ⟨rfl, m, rfl⟩)
        | (go_at_call 54; refine (HB.out _).mono ?_; rintro e w' ⟨rfl, rfl⟩))
      go_ret
      exact ⟨by rw [He.out]; rfl, m, rfl⟩
    | true =>
      cases h3 : basisB (numAt l 3) with
      | false =>
        have He := Lib.hid (check4_no (l := l) fun h => by rw [h3] at h; cases h.2.2)
        have HB := Lib.hid (basis_says h2)
        have HB3 := Lib.hid (basis_says h3)
        clear h2 h3
        go_enter Try.func33, Try.ntmps33
        go_wp2_with (first
          | (go_at_call 52; refine HS.out.mono ?_; rintro e w' ⟨rfl, m, rfl⟩)
          | (go_at_call 54; (with_reducible refine (HB.out _).mono ?_); rintro e w' ⟨rfl, rfl⟩)
          | (go_at_call 54; (with_reducible refine (HB3.out _).mono ?_); rintro e w' ⟨rfl, rfl⟩))
        go_ret
        exact ⟨by rw [He.out]; rfl, m, rfl⟩
      | true =>
        have He := Lib.hid (check4_yes H4.out H1.out h2 h3)
        have HB := Lib.hid (basis_says h2)
        have HB3 := Lib.hid (basis_says h3)
        clear h2 h3
        go_enter Try.func33, Try.ntmps33
        go_wp2_with (first
          | (go_at_call 52; refine HS.out.mono ?_; rintro e w' ⟨rfl, m, rfl⟩)
          | (go_at_call 54; (with_reducible refine (HB.out _).mono ?_); rintro e w' ⟨rfl, rfl⟩)
          | (go_at_call 54; (with_reducible refine (HB3.out _).mono ?_); rintro e w' ⟨rfl, rfl⟩))
        go_ret
        exact ⟨by rw [He.out]; rfl, m, rfl⟩
theorem fcheck_quiet (a0 : Option Addr) (cap : Nat) (l : List Int) (w : World) (hx : Ints w.heap.size w a0 l) :
    Calls Try.prog 33 #[.slice a0 l.length cap] w fun e w' => e = .returned (.int .i64 (checkE l)) ∧ ∃ m, w' = w.drewN m := by
  by_cases h : l.length = 4
  · rcases hx with rfl | ⟨b, off, rfl, _, hc⟩
    · cases h
    · have := fcheck_some b off cap l w h (by rw [← h]; exact hc)
      rw [h]; exact this
  · exact fcheck_len a0 cap l w h
theorem fcheck_any (a0 : Option Addr) (cap : Nat) (l : List Int) (w : World) (_ : l.length ≤ 4611686018427387904) (hx : Ints w.heap.size w a0 l) :
    Calls Try.prog 33 #[.slice a0 l.length cap] w fun e w' => e = .returned (.int .i64 (checkE l)) ∧ Below w.heap.size w w' :=
  (fcheck_quiet a0 cap l w hx).mono fun _ _ ⟨he, m, hm⟩ => ⟨he, by rw [hm]; exact drawn_below (Below.refl _ _) m⟩

theorem kept_obj {wr w1 : World} (b1 : Below wr.heap.size wr w1) {g : Nat} {o : Obj} (h : wr.heap[g]? = some o) : w1.heap[g]? = some o := by
  rw [b1.block g (Array.getElem?_eq_some_iff.1 h).1]; exact h
end Go.Proofs.Ytifihejogbcbgaa
