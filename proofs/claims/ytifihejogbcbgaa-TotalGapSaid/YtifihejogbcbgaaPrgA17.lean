/- The program's isScore, slices.IsSorted at three numbers, Check, grade, ends, Of and Span: for every slice of numbers, in every world. -/
import Derived.Test.YtifihejogbcbgaaMGr17
import Derived.Test.YtifihejogbcbgaaShelf
import Derived.BigQuiet
namespace Go.Proofs.Ytifihejogbcbgaa
open Go.RowKit

theorem pis17_any (s : Int) (w : World) : Calls Try.prog 53 #[.int .i64 s] w fun e w' => e = .returned (.bool (decide (Score17 s))) ∧ w = w' := by
  by_cases h0 : 0 ≤ s
  · have d0 : decide ((0 : Int) ≤ s) = true := decide_eq_true h0
    by_cases h1 : s ≤ 8000
    · have d1 : decide (s ≤ 8000) = true := decide_eq_true h1
      have HE : Hid (decide (Score17 s) = true) := Lib.hid (decide_eq_true ⟨h0, h1⟩)
      clear h0 h1
      go_enter Try.func53, Try.ntmps53
      go_wp2
      go_ret
      exact ⟨by rw [HE.out]; rfl, rfl⟩
    · have d1 : decide (s ≤ 8000) = false := decide_eq_false h1
      have HE : Hid (decide (Score17 s) = false) := Lib.hid (decide_eq_false fun q => h1 q.2)
      clear h0 h1
      go_enter Try.func53, Try.ntmps53
      go_wp2
      go_ret
      exact ⟨by rw [HE.out]; rfl, rfl⟩
  · have d0 : decide ((0 : Int) ≤ s) = false := decide_eq_false h0
    have HE : Hid (decide (Score17 s) = false) := Lib.hid (decide_eq_false fun q => h0 q.1)
    clear h0
    go_enter Try.func53, Try.ntmps53
    go_wp2
    go_ret
    exact ⟨by rw [HE.out]; rfl, rfl⟩
theorem pis17_says {n : Int} {v : Bool} (h : decide (Score17 n) = v) (w : World) : Calls Try.prog 53 #[.int .i64 n] w fun e w' => e = .returned (.bool v) ∧ w = w' :=
  (pis17_any n w).mono fun _ _ he => ⟨by rw [he.1, h], he.2⟩

theorem lessi17_yes {x y : Int} (h : x < y) (w : World) : Calls Try.prog 62 #[.int .i64 x, .int .i64 y] w fun e w' => e = .returned (.bool true) ∧ w' = w :=
  (Try.cmp_Less_int2 x y w).mono fun _ _ he => ⟨by rw [he.1, decide_eq_true h], he.2⟩
theorem lessi17_no {x y : Int} (h : ¬ x < y) (w : World) : Calls Try.prog 62 #[.int .i64 x, .int .i64 y] w fun e w' => e = .returned (.bool false) ∧ w' = w :=
  (Try.cmp_Less_int2 x y w).mono fun _ _ he => ⟨by rw [he.1, decide_eq_false h], he.2⟩
def rise3 (l : List Int) : Bool := decide (numAt l 0 ≤ numAt l 1 ∧ numAt l 1 ≤ numAt l 2)
theorem rise3_yes {l : List Int} (h : ∀ j, 0 < j → j < 3 → numAt l (j - 1) ≤ numAt l j) : rise3 l = true := by
  unfold rise3; rw [decide_eq_true_iff]; exact ⟨h 1 (by omega) (by omega), h 2 (by omega) (by omega)⟩
theorem rise3_no {l : List Int} {k p : Nat} (hk : k < 3) (hp : k = p + 1) (h : numAt l k < numAt l p) : rise3 l = false := by
  unfold rise3; rw [decide_eq_false_iff_not]; intro h2
  subst hp
  match p, hk with
  | 0, _ => simp only [Nat.zero_add] at h; omega
  | 1, _ => simp only [Nat.reduceAdd] at h; omega
set_option maxHeartbeats 1000000 in
theorem rises17_any (b off cap : Nat) (l : List Int) (w : World) (hc : ∀ j, j < 3 → w.cell? ⟨b, off + j, none⟩ = some (.int .i64 (numAt l j))) :
    Calls Try.prog 52 #[.slice (some ⟨b, off, none⟩) 3 cap] w fun e w' => e = .returned (.bool (rise3 l)) ∧ ∃ m, w' = w.drewN m := by
  have HC := Lib.hid hc
  clear hc
  go_enter Try.func52, Try.ntmps52
  go_wp2
  go_loopw [3] (fun i wr => ∃ k m : Nat, i = .int .i64 k ∧ wr = w.drewN m ∧ k < 3 ∧ Hid (∀ j, k < j → j < 3 → numAt l (j - 1) ≤ numAt l j)) (fun i _ => (intOf i).toNat)
  case atStart => exact ⟨2, 0, rfl, rfl, by omega, Lib.hid fun j h1 h2 => absurd h1 (by omega)⟩
  case round =>
    obtain ⟨k, m, rfl, hw, hk, hs⟩ := hrel
    have HW := Lib.hid hw
    by_cases h0 : 0 < k
    · obtain ⟨p, hp⟩ : ∃ p, k = p + 1 := ⟨k - 1, by omega⟩
      have hx : wr.cell? ⟨b, off + k, none⟩ = some (.int .i64 (numAt l k)) := by rw [hw]; exact HC.out k hk
      have hy : wr.cell? ⟨b, off + p, none⟩ = some (.int .i64 (numAt l p)) := by rw [hw]; exact HC.out p (by omega)
      clear hw
      have i1 : (k : Int) < 3 := by omega
      have i2 : (0 : Int) ≤ (k : Int) := by omega
      have j1 : (p : Int) < 3 := by omega
      have j2 : (0 : Int) ≤ (p : Int) := by omega
      have hpk : p < k := by omega
      have hpf : p < 3 := by omega
      have w1 : IntKind.i64.wrap ((k : Int) - 1) = (p : Int) := by rw [IntWalk.i64_in _ (by omega)]; omega
      by_cases h1 : numAt l k < numAt l p
      · have He := Lib.hid (rise3_no hk hp h1)
        have HL := Lib.hid (lessi17_yes h1)
        clear h1 hp
        go_upto_region 4 with fail
        go_quiet ((go_at_call 62; exact Calls.quiet_of_same (HL.out _)))
        go_wp2
        go_ret
        exact ⟨by rw [He.out]; rfl, m + nq, by rw [HW.out, World.drewN_drewN]⟩
      · have HL := Lib.hid (lessi17_no h1)
        have Hs : Hid (∀ j, p < j → j < 3 → numAt l (j - 1) ≤ numAt l j) := Lib.hid fun j h2 h3 => by
          rcases (by omega : j = k ∨ k < j) with h4 | h4
          · rw [h4, show k - 1 = p by omega]; omega
          · exact hs.out j h4 h3
        clear h1 hp
        go_upto_region 4 with fail
        go_quiet ((go_at_call 62; exact Calls.quiet_of_same (HL.out _)))
        go_wp2
        go_roundw
        case rel => exact ⟨p, m + nq, rfl, by rw [HW.out, World.drewN_drewN], hpf, Hs⟩
        case measure => simp [intOf]; omega
    · obtain rfl : k = 0 := by omega
      have He := Lib.hid (rise3_yes hs.out)
      clear hw
      go_wp2
      go_ret
      exact ⟨by rw [He.out]; rfl, m, HW.out⟩

theorem cuts3_iff {l : List Int} (h3 : l.length = 3) : Cuts l ↔ rise3 l = true ∧ Score17 (numAt l 0) ∧ Score17 (numAt l 2) := by
  unfold rise3 Cuts Score17
  rw [decide_eq_true_iff]
  omega
theorem pcheck17_any (a : Option Addr) (cap : Nat) (xs : List Int) (B : Nat) (w : World) (hx : Ints B w a xs) :
    Calls Try.prog 32 #[.slice a xs.length cap] w fun e w' => e = .returned (.int .i64 (cutsE xs)) ∧ ∃ m, w' = w.drewN m := by
  by_cases h3 : xs.length ≠ 3
  · have d0 : ((xs.length : Int) != 3) = true := by rw [bne_iff_ne]; omega
    have HE : Hid (cutsE xs = 36) := Lib.hid (cuts_no fun q => h3 q.1)
    clear h3 hx
    go_enter Try.func32, Try.ntmps32
    go_wp2
    go_ret
    exact ⟨by rw [HE.out]; rfl, 0, rfl⟩
  have h3 := Decidable.not_not.1 h3
  obtain ⟨b, off, rfl, hc⟩ : ∃ b off, a = some ⟨b, off, none⟩ ∧ ∀ j, j < 3 → w.cell? ⟨b, off + j, none⟩ = some (.int .i64 (numAt xs j)) := by
    rcases hx with h | ⟨b, off, h, _, hc⟩
    · rw [h] at h3; cases h3
    · exact ⟨b, off, h, fun j hj => hc j (by omega)⟩
  have HI := Lib.hid (cuts3_iff h3)
  have HS := Lib.hid (rises17_any b off cap xs w hc)
  have hx := hc 0 (by omega)
  have hy := hc 2 (by omega)
  rw [Nat.add_zero] at hx
  rw [h3]
  clear h3 hc
  cases h1 : rise3 xs with
  | false =>
    have He : Hid (cutsE xs = 36) := Lib.hid (cuts_no fun q => by have := (HI.out.1 q).1; rw [h1] at this; cases this)
    rw [h1] at HS
    clear h1
    go_enter Try.func32, Try.ntmps32
    go_wp2_with (go_at_call 52; refine HS.out.mono ?_; rintro e w' ⟨rfl, m, rfl⟩)
    go_ret
    exact ⟨by rw [He.out]; rfl, m, rfl⟩
  | true =>
    have H1 := Lib.hid h1
    rw [h1] at HS
    clear h1
    by_cases h2 : Score17 (numAt xs 0)
    · have HB := Lib.hid (pis17_says (decide_eq_true h2))
      by_cases h4 : Score17 (numAt xs 2)
      · have He : Hid (cutsE xs = 0) := Lib.hid (cuts_yes (HI.out.2 ⟨H1.out, h2, h4⟩))
        have HB3 := Lib.hid (pis17_says (decide_eq_true h4))
        clear h2 h4
        go_enter Try.func32, Try.ntmps32
        go_wp2_with (first
          | (go_at_call 52; refine HS.out.mono ?_; rintro e w' ⟨rfl, m, rfl⟩)
          | (go_at_call 53; (with_reducible refine (HB.out _).mono ?_); rintro e w' ⟨rfl, rfl⟩)
          | (go_at_call 53; (with_reducible refine (HB3.out _).mono ?_); rintro e w' ⟨rfl, rfl⟩))
        go_ret
        exact ⟨by rw [He.out]; rfl, m, rfl⟩
      · have He : Hid (cutsE xs = 36) := Lib.hid (cuts_no fun q => h4 (HI.out.1 q).2.2)
        have HB3 := Lib.hid (pis17_says (decide_eq_false h4))
        clear h2 h4
        go_enter Try.func32, Try.ntmps32
        go_wp2_with (first
          | (go_at_call 52; refine HS.out.mono ?_; rintro e w' ⟨rfl, m, rfl⟩)
          | (go_at_call 53; (with_reducible refine (HB.out _).mono ?_); rintro e w' ⟨rfl, rfl⟩)
          | (go_at_call 53; (with_reducible refine (HB3.out _).mono ?_); rintro e w' ⟨rfl, rfl⟩))
        go_ret
        exact ⟨by rw [He.out]; rfl, m, rfl⟩
    · have He : Hid (cutsE xs = 36) := Lib.hid (cuts_no fun q => h2 (HI.out.1 q).2.1)
      have HB := Lib.hid (pis17_says (decide_eq_false h2))
      clear h2
      go_enter Try.func32, Try.ntmps32
      go_wp2_with (first
        | (go_at_call 52; refine HS.out.mono ?_; rintro e w' ⟨rfl, m, rfl⟩)
        | (go_at_call 53; refine (HB.out _).mono ?_; rintro e w' ⟨rfl, rfl⟩))
      go_ret
      exact ⟨by rw [He.out]; rfl, m, rfl⟩

theorem grade_is {xs : List Int} (s : Int) {k : Nat} (hk : k < 3) (h : ∀ j, j < k → numAt xs j < s) (h2 : s ≤ numAt xs k) : gradeN xs s = k := by
  unfold gradeN
  match k, hk with
  | 0, _ => rw [if_pos h2]
  | 1, _ => rw [if_neg (by have := h 0 (by omega); omega), if_pos h2]
  | 2, _ => rw [if_neg (by have := h 0 (by omega); omega), if_neg (by have := h 1 (by omega); omega), if_pos h2]
theorem grade_last {xs : List Int} (s : Int) (h : ∀ j, j < 3 → numAt xs j < s) : gradeN xs s = 3 := by
  have := h 0 (by omega); have := h 1 (by omega); have := h 2 (by omega)
  unfold gradeN
  rw [if_neg (by omega), if_neg (by omega), if_neg (by omega)]
/-- Three cells of cuts, in each world that is as this one below its end. -/
theorem cells17 {w : World} {a : Option Addr} {xs : List Int} (hx : Ints w.heap.size w a xs) (h3 : xs.length = 3) : ∃ b off, a = some ⟨b, off, none⟩ ∧ ∀ W, Below w.heap.size w W → ∀ j, j < 3 → W.cell? ⟨b, off + j, none⟩ = some (.int .i64 (numAt xs j)) := by
  rcases hx with h | ⟨b, off, h, hB, hc⟩
  · rw [h] at h3; cases h3
  · exact ⟨b, off, h, fun W hW j hj => (hW.cell (p := ⟨b, off + j, none⟩) hB).trans (hc j (by omega))⟩
end Go.Proofs.Ytifihejogbcbgaa
