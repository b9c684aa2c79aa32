/- The program's checked arithmetic: what In, Add, Sub and Times return, for all numbers and rows of numbers, in every world. -/
import Derived.Test.YtbhdjpohplpjdaaWide
import Derived.Test.YtbhdjpohplpjdaaAdd
import Derived.OwnWalk
import Derived.Deep.RegionWith
namespace Go.Proofs.Ytbhdjpohplpjdaa
open Go.RowKit

theorem cin_any (n : Int) (w : World) : Calls Try.prog 24 #[.int .i64 n] w fun e w' => e = .returned (.bool (inB n)) ∧ w = w' := by
  by_cases h1 : -1000000000000 ≤ n
  · by_cases h2 : n ≤ 1000000000000
    · have He := Lib.hid ((inB_iff n).2 ⟨h1, h2⟩)
      go_enter Try.func24, Try.ntmps24
      go_wp2
      go_ret
      exact ⟨by rw [He.out]; rfl, rfl⟩
    · have He : Hid (inB n = false) := Lib.hid (by unfold inB; rw [decide_eq_false_iff_not]; omega)
      have h2' : 1000000000000 < n := by omega
      have h2d : decide (n ≤ 1000000000000) = false := by rw [decide_eq_false_iff_not]; omega
      clear h2
      go_enter Try.func24, Try.ntmps24
      go_wp2
      go_ret
      exact ⟨by rw [He.out]; rfl, rfl⟩
  · have He : Hid (inB n = false) := Lib.hid (by unfold inB; rw [decide_eq_false_iff_not]; omega)
    have h1' : n < -1000000000000 := by omega
    clear h1
    go_enter Try.func24, Try.ntmps24
    go_wp2
    go_ret
    exact ⟨by rw [He.out]; rfl, rfl⟩

theorem csub_any (a b : Int) (w : World) : Calls Try.prog 19 #[.int .i64 a, .int .i64 b] w fun e w' => e = .returned (.tuple #[.int .i64 (subV a b), .int .i64 (subE a b)]) ∧ Below w.heap.size w w' := by
  cases ha : inB a with
  | false =>
    have He : Hid (subV a b = 0 ∧ subE a b = 8) := Lib.hid (by unfold subV subE subOk; rw [ha]; exact ⟨rfl, rfl⟩)
    go_enter Try.func19, Try.ntmps19
    go_wp2_with (go_at_call 24; refine (cin_any _ _).mono ?_; rintro e w' ⟨rfl, rfl⟩)
    go_ret2
    exact ⟨by rw [He.out.1, He.out.2]; rfl, Below.refl _ _⟩
  | true =>
    obtain ⟨ha3, ha4⟩ := (inB_iff a).1 ha
    cases hb : inB b with
    | false =>
      have He : Hid (subV a b = 0 ∧ subE a b = 8) := Lib.hid (by unfold subV subE subOk; rw [ha, hb]; exact ⟨rfl, rfl⟩)
      go_enter Try.func19, Try.ntmps19
      go_wp2_with (go_at_call 24; refine (cin_any _ _).mono ?_; rintro e w' ⟨rfl, rfl⟩)
      go_ret2
      exact ⟨by rw [He.out.1, He.out.2]; rfl, Below.refl _ _⟩
    | true =>
      obtain ⟨hb3, hb4⟩ := (inB_iff b).1 hb
      cases hc : inB (a - b) with
      | false =>
        have He : Hid (subV a b = 0 ∧ subE a b = 8) := Lib.hid (by unfold subV subE subOk; rw [ha, hb, hc]; exact ⟨rfl, rfl⟩)
        go_enter Try.func19, Try.ntmps19
        go_wp2_with (go_at_call 24; refine (cin_any _ _).mono ?_; rintro e w' ⟨rfl, rfl⟩)
        go_ret2
        exact ⟨by rw [He.out.1, He.out.2]; rfl, Below.refl _ _⟩
      | true =>
        have He : Hid (subV a b = a - b ∧ subE a b = 0) := Lib.hid (by unfold subV subE subOk; rw [ha, hb, hc]; exact ⟨rfl, rfl⟩)
        go_enter Try.func19, Try.ntmps19
        go_wp2_with (go_at_call 24; refine (cin_any _ _).mono ?_; rintro e w' ⟨rfl, rfl⟩)
        go_ret2
        exact ⟨by rw [He.out.1, He.out.2]; rfl, Below.refl _ _⟩

theorem mul_says {a n : Int} (ha : inB a = true) (hn : inB n = true) :
    (decide (a.natAbs * n.natAbs ≤ 1000000000000) = true ∧ mulV a n = a * n ∧ mulE a n = 0 ∧ -1000000000000 ≤ a * n ∧ a * n ≤ 1000000000000) ∨ (decide (a.natAbs * n.natAbs ≤ 1000000000000) = false ∧ mulV a n = 0 ∧ mulE a n = 8) := by
  have e : (a * n).natAbs = a.natAbs * n.natAbs := Int.natAbs_mul a n
  by_cases h : a.natAbs * n.natAbs ≤ 1000000000000
  · have h2 : -1000000000000 ≤ a * n ∧ a * n ≤ 1000000000000 := by omega
    exact Or.inl ⟨decide_eq_true h, (mul_ok ha hn h2).1, (mul_ok ha hn h2).2, h2.1, h2.2⟩
  · have h2 := mul_no (a := a) (n := n) (by omega)
    exact Or.inr ⟨decide_eq_false h, h2.1, h2.2⟩

end Go.Proofs.Ytbhdjpohplpjdaa
