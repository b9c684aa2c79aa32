/- The program's Check, allYes and the closure that tests a bit: for every slice of numbers, in every world. -/
import Derived.Test.YtifihejogbcbgaaBit16
import Derived.Test.YtifihejogbcbgaaShelf
import Derived.Test.YtifihejogbcbgaaWalks16
import Derived.Lib.Slices
namespace Go.Proofs.Ytifihejogbcbgaa
open Go.RowKit

theorem min_any16 {l : List Int} (h : 1 ≤ l.length) : Lib.minOf l < 0 ↔ ∃ j, j < l.length ∧ numAt l j < 0 := by
  have e : Lib.minOf l < 0 ↔ ∃ x ∈ l, x < 0 := by
    cases l with
    | nil => simp at h
    | cons y l =>
      unfold Lib.minOf
      rw [foldmin_lt16]
      exact ⟨fun q => q.elim (fun q => ⟨y, List.mem_cons_self .., q⟩) id, Or.inr⟩
  rw [e]
  constructor
  · rintro ⟨x, hx, h0⟩
    obtain ⟨j, hj, he⟩ := mem_num16 hx
    exact ⟨j, hj, by omega⟩
  · rintro ⟨j, hj, h0⟩
    exact ⟨_, num_mem l j hj, h0⟩
theorem max_any16 {l : List Int} (h : 1 ≤ l.length) : 1000 < Lib.maxOf l ↔ ∃ j, j < l.length ∧ 1000 < numAt l j := by
  have e : 1000 < Lib.maxOf l ↔ ∃ x ∈ l, 1000 < x := by
    cases l with
    | nil => simp at h
    | cons y l =>
      unfold Lib.maxOf
      rw [foldmax_gt16]
      exact ⟨fun q => q.elim (fun q => ⟨y, List.mem_cons_self .., q⟩) id, Or.inr⟩
  rw [e]
  constructor
  · rintro ⟨x, hx, h0⟩
    obtain ⟨j, hj, he⟩ := mem_num16 hx
    exact ⟨j, hj, by omega⟩
  · rintro ⟨j, hj, h0⟩
    exact ⟨_, num_mem l j hj, h0⟩

set_option maxHeartbeats 1000000 in
theorem pcheck16_any (a : Option Addr) (cap : Nat) (xs : List Int) (B : Nat) (w : World) (hx : Ints B w a xs) (hn : xs.length ≤ 1000000) :
    Calls Try.prog 31 #[.slice a xs.length cap] w fun e w' => e = .returned (.int .i64 (asksE xs)) ∧ w = w' := by
  by_cases h0 : xs.length = 0
  · have d0 : decide ((xs.length : Int) < 1) = true := decide_eq_true (by omega)
    have d0' : decide (xs.length < 1) = true := decide_eq_true (by omega)
    have HE : Hid (asksE xs = 36) := Lib.hid (asks_no fun q => absurd q.1 (by omega))
    clear h0 hx
    go_enter Try.func31, Try.ntmps31
    go_wp2
    go_ret
    exact ⟨by rw [HE.out]; rfl, rfl⟩
  have d0 : decide ((xs.length : Int) < 1) = false := decide_eq_false (by omega)
  have d0' : decide (xs.length < 1) = false := decide_eq_false (by omega)
  by_cases h8 : 8 < xs.length
  · have d1 : decide (8 < (xs.length : Int)) = true := decide_eq_true (by omega)
    have d1' : decide (8 < xs.length) = true := decide_eq_true h8
    have HE : Hid (asksE xs = 36) := Lib.hid (asks_no fun q => absurd q.2.1 (by omega))
    clear h0 h8 hx
    go_enter Try.func31, Try.ntmps31
    go_wp2
    go_ret
    exact ⟨by rw [HE.out]; rfl, rfl⟩
  have d1 : decide (8 < (xs.length : Int)) = false := decide_eq_false (by omega)
  have d1' : decide (8 < xs.length) = false := decide_eq_false h8
  rcases hx with h | ⟨b, off, rfl, hB, hc⟩
  · exact absurd (by rw [h]; rfl) h0
  have HM : Hid (Calls Try.prog 50 #[.slice (some ⟨b, off, none⟩) xs.length cap] w fun e w' => e = .returned (.int .i64 (Lib.minOf xs)) ∧ w = w') := by
    have h := Try.slices_Min_int b off xs.length cap xs w (by omega) (Nat.le_refl _) (by omega) hc
    rw [List.take_length] at h
    exact Lib.hid (h.mono fun _ _ hh => ⟨hh.1, hh.2.symm⟩)
  have HX : Hid (Calls Try.prog 51 #[.slice (some ⟨b, off, none⟩) xs.length cap] w fun e w' => e = .returned (.int .i64 (Lib.maxOf xs)) ∧ w = w') := by
    have h := Try.slices_Max_int b off xs.length cap xs w (by omega) (Nat.le_refl _) (by omega) hc
    rw [List.take_length] at h
    exact Lib.hid (h.mono fun _ _ hh => ⟨hh.1, hh.2.symm⟩)
  have m1 := min_any16 (show 1 ≤ xs.length by omega)
  have m2 := max_any16 (show 1 ≤ xs.length by omega)
  by_cases q1 : Lib.minOf xs < 0
  · have q1' : decide (Lib.minOf xs < 0) = true := decide_eq_true q1
    have HE : Hid (asksE xs = 36) := Lib.hid (by obtain ⟨j, hj, h⟩ := m1.1 q1; exact asks_stop hj fun q => by have := q.1; omega)
    clear q1 m1 m2 h0 h8 hc
    generalize Lib.minOf xs = mn at *
    go_enter Try.func31, Try.ntmps31
    go_wp2_with (go_at_call 50; refine HM.out.mono ?_; rintro e w1 ⟨rfl, rfl⟩)
    go_ret
    exact ⟨by rw [HE.out]; rfl, rfl⟩
  have q1' : decide (Lib.minOf xs < 0) = false := decide_eq_false q1
  by_cases q2 : 1000 < Lib.maxOf xs
  · have q2' : decide (1000 < Lib.maxOf xs) = true := decide_eq_true q2
    have HE : Hid (asksE xs = 36) := Lib.hid (by obtain ⟨j, hj, h⟩ := m2.1 q2; exact asks_stop hj fun q => by have := q.2; omega)
    clear q1 q2 m1 m2 h0 h8 hc
    generalize Lib.minOf xs = mn at *
    generalize Lib.maxOf xs = mx at *
    go_enter Try.func31, Try.ntmps31
    go_wp2_with (first
      | (go_at_call 50; refine HM.out.mono ?_; rintro e w1 ⟨rfl, rfl⟩)
      | (go_at_call 51; refine HX.out.mono ?_; rintro e w1 ⟨rfl, rfl⟩))
    go_ret
    exact ⟨by rw [HE.out]; rfl, rfl⟩
  have q2' : decide (1000 < Lib.maxOf xs) = false := decide_eq_false q2
  have HE : Hid (asksE xs = 0) := Lib.hid (asks_yes ⟨by omega, by omega, fun j hj => ⟨by
    rcases (by omega : 0 ≤ numAt xs j ∨ numAt xs j < 0) with z | z
    · exact z
    · exact absurd (m1.2 ⟨j, hj, z⟩) q1, by
    rcases (by omega : numAt xs j ≤ 1000 ∨ 1000 < numAt xs j) with z | z
    · exact z
    · exact absurd (m2.2 ⟨j, hj, z⟩) q2⟩⟩)
  clear q1 q2 m1 m2 h0 h8 hc
  generalize Lib.minOf xs = mn at *
  generalize Lib.maxOf xs = mx at *
  go_enter Try.func31, Try.ntmps31
  go_wp2_with (first
    | (go_at_call 50; refine HM.out.mono ?_; rintro e w1 ⟨rfl, rfl⟩)
    | (go_at_call 51; refine HX.out.mono ?_; rintro e w1 ⟨rfl, rfl⟩))
  go_ret
  exact ⟨by rw [HE.out]; rfl, rfl⟩

end Go.Proofs.Ytifihejogbcbgaa
