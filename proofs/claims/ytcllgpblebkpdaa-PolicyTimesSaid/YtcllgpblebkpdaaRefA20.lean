/- The document's functions of items and times: in every world. -/
import Derived.Test.YtcllgpblebkpdaaWant20
import Derived.BigQuiet
import Derived.Deep.RegionHeld3
import Derived.Deep.QuietTactic
import Derived.OwnWalk
namespace Go.Proofs.Ytcllgpblebkpdaa
open Go.RowKit

theorem rtime20_any (t : Int) (w : World) : Calls Try.prog 13 #[.int .i64 t] w fun e w' => e = .returned (.bool (timeB t)) ∧ w = w' := by
  have hs : (decide (0 ≤ t) = false ∧ timeB t = false) ∨ (decide (0 ≤ t) = true ∧ decide (t ≤ 1000000) = timeB t) := by
    unfold timeB
    by_cases h : 0 ≤ t
    · refine Or.inr ⟨decide_eq_true h, ?_⟩
      rw [Bool.eq_iff_iff, decide_eq_true_iff, decide_eq_true_iff]
      exact ⟨fun q => ⟨h, q⟩, fun q => q.2⟩
    · exact Or.inl ⟨decide_eq_false h, decide_eq_false fun q => h q.1⟩
  generalize timeB t = b at *
  rcases hs with ⟨d1, rfl⟩ | ⟨d1, d2⟩
  · go_enter Try.func13, Try.ntmps13
    go_wp2
    go_ret
    exact ⟨rfl, rfl⟩
  · cases b
    all_goals
      go_enter Try.func13, Try.ntmps13
      go_wp2
      go_ret
      exact ⟨rfl, rfl⟩
theorem rtop20_any (t : Int) (w : World) : Calls Try.prog 22 #[.int .i64 t] w fun e w' => e = .returned (.int .i64 (topN t)) ∧ w = w' := by
  by_cases h : 1000000 < t
  · have d1 : decide (1000000 < t) = true := decide_eq_true h
    have HE : Hid (topN t = 1000000) := Lib.hid (if_pos h)
    clear h
    go_enter Try.func22, Try.ntmps22
    go_wp2
    go_ret
    exact ⟨by rw [HE.out]; rfl, rfl⟩
  · have d1 : decide (1000000 < t) = false := decide_eq_false h
    have HE : Hid (topN t = t) := Lib.hid (if_neg h)
    clear h
    go_enter Try.func22, Try.ntmps22
    go_wp2
    go_ret
    exact ⟨by rw [HE.out]; rfl, rfl⟩
set_option maxHeartbeats 4000000 in
theorem rcheck20_any (i : Item20) (w : World) : Calls Try.prog 11 #[itemVal i] w fun e w' => e = .returned (.int .i64 (itemE i)) ∧ Below w.heap.size w w' := by
  have X0 := Lib.hid (bx20_start w i)
  obtain ⟨c0, c1, c2, c3⟩ := X0.out.cells
  have HT : Hid (∀ t W, Calls Try.prog 13 #[.int .i64 t] W fun e w' => e = .returned (.bool (timeB t)) ∧ W = w') := Lib.hid fun t W => rtime20_any t W
  have h2 := HT.out i.win
  have h3 := HT.out i.war
  have hs : (decide (i.id < 1) = true ∧ itemE i = 2) ∨ (decide (i.id < 1) = false ∧ decide (999999 < i.id) = true ∧ itemE i = 2) ∨ (decide (i.id < 1) = false ∧ decide (999999 < i.id) = false ∧ decide (i.ven < 1) = true ∧ itemE i = 2) ∨ (decide (i.id < 1) = false ∧ decide (999999 < i.id) = false ∧ decide (i.ven < 1) = false ∧ decide (999999 < i.ven) = true ∧ itemE i = 2)
      ∨ (decide (i.id < 1) = false ∧ decide (999999 < i.id) = false ∧ decide (i.ven < 1) = false ∧ decide (999999 < i.ven) = false ∧ timeB i.win = false ∧ itemE i = 2)
      ∨ (decide (i.id < 1) = false ∧ decide (999999 < i.id) = false ∧ decide (i.ven < 1) = false ∧ decide (999999 < i.ven) = false ∧ timeB i.win = true ∧ timeB i.war = false ∧ itemE i = 2)
      ∨ (decide (i.id < 1) = false ∧ decide (999999 < i.id) = false ∧ decide (i.ven < 1) = false ∧ decide (999999 < i.ven) = false ∧ timeB i.win = true ∧ timeB i.war = true ∧ itemE i = 0) := by
    by_cases hok : ItemOk i
    · have h := hok
      unfold ItemOk at h
      rw [item_yes hok]
      have t1 : timeB i.win = true := decide_eq_true h.2.2.2.2.1
      have t2 : timeB i.war = true := decide_eq_true h.2.2.2.2.2
      rw [t1, t2]
      simp only [decide_eq_true_eq, decide_eq_false_iff_not, reduceCtorEq, and_true, true_and]
      omega
    · rw [item_no hok]
      unfold ItemOk at hok
      unfold timeB
      simp only [decide_eq_true_eq, decide_eq_false_iff_not, and_true]
      by_cases q1 : TimeOk i.win <;> by_cases q2 : TimeOk i.war <;> simp only [q1, q2, not_true_eq_false, not_false_eq_true, and_true, and_false, true_and, false_and, or_false, false_or] at * <;> omega
  clear HT
  generalize itemE i = E at *
  generalize timeB i.win = t1 at *
  generalize timeB i.war = t2 at *
  obtain ⟨ii, iv, iw, ir⟩ := i
  dsimp only at *
  rcases hs with ⟨d1, hE⟩ | ⟨d1, d2, hE⟩ | ⟨d1, d2, d3, hE⟩ | ⟨d1, d2, d3, d4, hE⟩ | ⟨d1, d2, d3, d4, rfl, hE⟩ | ⟨d1, d2, d3, d4, rfl, rfl, hE⟩ | ⟨d1, d2, d3, d4, rfl, rfl, hE⟩
  all_goals
    have HE := Lib.hid hE
    clear hE
    go_enter Try.func11, Try.ntmps11
    go_wp2_with (first
      | (go_at_call 13; refine (h2 _).mono ?_; rintro e w1 ⟨rfl, rfl⟩; clear h2)
      | (go_at_call 13; refine (h3 _).mono ?_; rintro e w1 ⟨rfl, rfl⟩; clear h3))
    go_ret
    exact ⟨by rw [HE.out]; rfl, X0.out.below⟩
set_option maxHeartbeats 4000000 in
theorem rmay20_any (i : Item20) (a n : Int) (w : World) : Calls Try.prog 26 #[itemVal i, .int .i64 a, .int .i64 n] w fun e w' => e = .returned (.bool (mayB i a n)) ∧ Below w.heap.size w w' := by
  have X0 := Lib.hid (bx20_start w i)
  obtain ⟨c0, c1, c2, c3⟩ := X0.out.cells
  have HC : Hid (∀ W, Calls Try.prog 11 #[itemVal i] W fun e w' => e = .returned (.int .i64 (itemE i)) ∧ Below W.heap.size W w') := Lib.hid fun W => rcheck20_any i W
  have h2 := rtime20_any a
  have h3 := rtime20_any n
  have hs : ((itemE i == 0) = false ∧ mayB i a n = false) ∨ ((itemE i == 0) = true ∧ timeB a = false ∧ mayB i a n = false) ∨ ((itemE i == 0) = true ∧ timeB a = true ∧ timeB n = false ∧ mayB i a n = false) ∨ ((itemE i == 0) = true ∧ timeB a = true ∧ timeB n = true ∧ decide (a ≤ n) = mayB i a n) := by
    by_cases h1 : ItemOk i
    · rw [item_yes h1]
      by_cases h2 : TimeOk a
      · have t2 : timeB a = true := decide_eq_true h2
        by_cases h3 : TimeOk n
        · have t3 : timeB n = true := decide_eq_true h3
          refine Or.inr (Or.inr (Or.inr ⟨rfl, t2, t3, ?_⟩))
          unfold mayB
          rw [Bool.eq_iff_iff, decide_eq_true_iff, decide_eq_true_iff]
          exact ⟨fun q => ⟨h1, h2, h3, q⟩, fun q => q.2.2.2⟩
        · exact Or.inr (Or.inr (Or.inl ⟨rfl, t2, decide_eq_false h3, decide_eq_false fun q => h3 q.2.2.1⟩))
      · exact Or.inr (Or.inl ⟨rfl, decide_eq_false h2, decide_eq_false fun q => h2 q.2.1⟩)
    · rw [item_no h1]
      exact Or.inl ⟨rfl, decide_eq_false fun q => h1 q.1⟩
  generalize mayB i a n = m at *
  generalize itemE i = E at *
  generalize timeB a = t1 at *
  generalize timeB n = t2 at *
  obtain ⟨ii, iv, iw, ir⟩ := i
  dsimp only at *
  rcases hs with ⟨d1, rfl⟩ | ⟨d1, rfl, rfl⟩ | ⟨d1, rfl, rfl, rfl⟩ | ⟨d1, rfl, rfl, d4⟩
  rotate_left 3
  · cases m
    all_goals
      go_enter Try.func26, Try.ntmps26
      go_wp2_with (first
        | (go_at_call 11; refine (HC.out _).mono ?_; rintro e w1 ⟨rfl, hb⟩; have X1 := Lib.hid (X0.out.step hb); clear hb)
        | (go_at_call 13; refine (h2 _).mono ?_; rintro e w2 ⟨rfl, rfl⟩; clear h2)
        | (go_at_call 13; refine (h3 _).mono ?_; rintro e w3 ⟨rfl, rfl⟩; clear h3))
      go_ret
      exact ⟨rfl, X1.out.below⟩
  all_goals
    go_enter Try.func26, Try.ntmps26
    go_wp2_with (first
      | (go_at_call 11; refine (HC.out _).mono ?_; rintro e w1 ⟨rfl, hb⟩; have X1 := Lib.hid (X0.out.step hb); clear hb)
      | (go_at_call 13; refine (h2 _).mono ?_; rintro e w2 ⟨rfl, rfl⟩; clear h2)
      | (go_at_call 13; refine (h3 _).mono ?_; rintro e w3 ⟨rfl, rfl⟩; clear h3))
    go_ret
    exact ⟨rfl, X1.out.below⟩
end Go.Proofs.Ytcllgpblebkpdaa
