/- The program's checked arithmetic: what In, Add, Sub and Times return, for all numbers and rows of numbers, in every world. -/
import Derived.Test.YtmdonhkdkapjpaaWide
import Derived.Test.YtmdonhkdkapjpaaAdd
import Derived.OwnWalk
import Derived.Deep.RegionWith
namespace Go.Proofs.Ytmdonhkdkapjpaa
open Go.RowKit

theorem cin_any (n : Int) (w : World) : Calls Try.prog 18 #[.int .i64 n] w fun e w' => e = .returned (.bool (inB n)) ∧ w = w' := by
  by_cases h1 : -1000000000000 ≤ n
  · by_cases h2 : n ≤ 1000000000000
    · have He := Lib.hid ((inB_iff n).2 ⟨h1, h2⟩)
      go_enter Try.func18, Try.ntmps18
      go_wp2
      go_ret
      exact ⟨by rw [He.out]; rfl, rfl⟩
    · have He : Hid (inB n = false) := Lib.hid (by unfold inB; rw [decide_eq_false_iff_not]; omega)
      have h2' : 1000000000000 < n := by omega
      have h2d : decide (n ≤ 1000000000000) = false := by rw [decide_eq_false_iff_not]; omega
      clear h2
      go_enter Try.func18, Try.ntmps18
      go_wp2
      go_ret
      exact ⟨by rw [He.out]; rfl, rfl⟩
  · have He : Hid (inB n = false) := Lib.hid (by unfold inB; rw [decide_eq_false_iff_not]; omega)
    have h1' : n < -1000000000000 := by omega
    clear h1
    go_enter Try.func18, Try.ntmps18
    go_wp2
    go_ret
    exact ⟨by rw [He.out]; rfl, rfl⟩

set_option maxHeartbeats 1000000 in
theorem cadd_some (b off cap : Nat) (xs : List Int) (w : World) (hn : xs.length ≤ 4611686018427387904) (hc : ∀ j, j < xs.length → w.cell? ⟨b, off + j, none⟩ = some (.int .i64 (numAt xs j))) :
    Calls Try.prog 16 #[.slice (some ⟨b, off, none⟩) xs.length cap] w fun e w' => e = .returned (.tuple #[.int .i64 (addV xs), .int .i64 (addE xs)]) ∧ w = w' := by
  have HC := Lib.hid hc
  clear hc
  go_enter Try.func16, Try.ntmps16
  go_wp2
  go_loop [4, 6, 9] (fun x _ i => ∃ (n : Int) (k : Nat), k ≤ xs.length ∧ i = .int .i64 k ∧ x = .int .i64 n ∧ -1000000000000 ≤ n ∧ n ≤ 1000000000000 ∧ Hid (addFrom n (xs.drop k) = addFrom 0 xs)) (fun _ _ i => xs.length - (intOf i).toNat)
  case atStart => exact ⟨0, 0, by omega, rfl, rfl, by omega, by omega, Lib.hid rfl⟩
  case round =>
    obtain ⟨n, k, hk, rfl, rfl, hn1, hn2, hr⟩ := hrel
    by_cases hlt : k < xs.length
    · have hcell := HC.out k hlt
      cases hx : inB (numAt xs k) with
      | false =>
        have He := Lib.hid (add_stop hlt hr.out (by rw [hx]; rfl))
        go_wp2_with (go_at_call 18; refine (cin_any _ _).mono ?_; rintro e w' ⟨rfl, rfl⟩)
        go_ret2
        exact ⟨by rw [He.out.1, He.out.2]; rfl, rfl⟩
      | true =>
        obtain ⟨hx1, hx2⟩ := (inB_iff _).1 hx
        cases hy : inB (n + numAt xs k) with
        | false =>
          have He := Lib.hid (add_stop hlt hr.out (by rw [hx, hy]; rfl))
          go_wp2_with (go_at_call 18; refine (cin_any _ _).mono ?_; rintro e w' ⟨rfl, rfl⟩)
          go_ret2
          exact ⟨by rw [He.out.1, He.out.2]; rfl, rfl⟩
        | true =>
          obtain ⟨hy1, hy2⟩ := (inB_iff _).1 hy
          have Hr := Lib.hid (add_go hlt hr.out (by rw [hx, hy]; rfl))
          go_wp2_with (go_at_call 18; refine (cin_any _ _).mono ?_; rintro e w' ⟨rfl, rfl⟩)
          go_round
          case rel => exact ⟨n + numAt xs k, k + 1, by omega, by go_num, rfl, hy1, hy2, Hr⟩
          case measure => simp [intOf]; omega
    · obtain rfl : k = xs.length := by omega
      have He := Lib.hid (add_end hr.out)
      go_wp2
      go_ret2
      exact ⟨by rw [He.out.1, He.out.2]; rfl, rfl⟩
theorem cadd_none (a : Option Addr) (cap : Nat) (w : World) :
    Calls Try.prog 16 #[.slice a 0 cap] w fun e w' => e = .returned (.tuple #[.int .i64 (addV []), .int .i64 (addE [])]) ∧ w = w' := by
  go_enter Try.func16, Try.ntmps16
  go_wp2
  go_loop [4, 6, 9] (fun x _ i => x = .int .i64 0 ∧ i = .int .i64 0) (fun _ _ _ => 0)
  case atStart => exact ⟨rfl, rfl⟩
  case round =>
    obtain ⟨rfl, rfl⟩ := hrel
    go_wp2
    go_ret2
    exact ⟨rfl, rfl⟩
theorem cadd_any (a : Option Addr) (cap : Nat) (xs : List Int) (w : World) (hn : xs.length ≤ 4611686018427387904) (ht : Ints w.heap.size w a xs) :
    Calls Try.prog 16 #[.slice a xs.length cap] w fun e w' => e = .returned (.tuple #[.int .i64 (addV xs), .int .i64 (addE xs)]) ∧ Below w.heap.size w w' := by
  rcases ht with rfl | ⟨b, off, rfl, hB, hc⟩
  · exact (cadd_none a cap w).mono fun _ _ h => ⟨h.1, h.2 ▸ Below.refl _ _⟩
  · exact (cadd_some b off cap xs w hn hc).mono fun _ _ h => ⟨h.1, h.2 ▸ Below.refl _ _⟩

theorem mul_says {a n : Int} (ha : inB a = true) (hn : inB n = true) :
    (decide (a.natAbs * n.natAbs ≤ 1000000000000) = true ∧ mulV a n = a * n ∧ mulE a n = 0 ∧ -1000000000000 ≤ a * n ∧ a * n ≤ 1000000000000) ∨ (decide (a.natAbs * n.natAbs ≤ 1000000000000) = false ∧ mulV a n = 0 ∧ mulE a n = 8) := by
  have e : (a * n).natAbs = a.natAbs * n.natAbs := Int.natAbs_mul a n
  by_cases h : a.natAbs * n.natAbs ≤ 1000000000000
  · have h2 : -1000000000000 ≤ a * n ∧ a * n ≤ 1000000000000 := by omega
    exact Or.inl ⟨decide_eq_true h, (mul_ok ha hn h2).1, (mul_ok ha hn h2).2, h2.1, h2.2⟩
  · have h2 := mul_no (a := a) (n := n) (by omega)
    exact Or.inr ⟨decide_eq_false h, h2.1, h2.2⟩

end Go.Proofs.Ytmdonhkdkapjpaa
