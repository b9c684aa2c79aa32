/- The program's conditions of a row, and the list of them: in every world. -/
import Derived.Test.YtkefbgjbgblalaaPrgA18
namespace Go.Proofs.Ytkefbgjbgblalaa
open Go.RowKit

theorem boxes18 (w : World) (r : Row18) (f : Fact18) (t u : TypeId) :
    ((((w.alloc (.cells #[.int .i64 r.g, .int .i64 r.v, .int .i64 r.lo, .int .i64 r.hi, .int .i64 r.way] t)).alloc (.cells #[.int .i64 f.g, .bool f.v, .int .i64 f.n] u)).cell? ⟨w.heap.size, 0, none⟩ = some (.int .i64 r.g) ∧
      ((w.alloc (.cells #[.int .i64 r.g, .int .i64 r.v, .int .i64 r.lo, .int .i64 r.hi, .int .i64 r.way] t)).alloc (.cells #[.int .i64 f.g, .bool f.v, .int .i64 f.n] u)).cell? ⟨w.heap.size, 1, none⟩ = some (.int .i64 r.v) ∧
      ((w.alloc (.cells #[.int .i64 r.g, .int .i64 r.v, .int .i64 r.lo, .int .i64 r.hi, .int .i64 r.way] t)).alloc (.cells #[.int .i64 f.g, .bool f.v, .int .i64 f.n] u)).cell? ⟨w.heap.size, 2, none⟩ = some (.int .i64 r.lo) ∧
      ((w.alloc (.cells #[.int .i64 r.g, .int .i64 r.v, .int .i64 r.lo, .int .i64 r.hi, .int .i64 r.way] t)).alloc (.cells #[.int .i64 f.g, .bool f.v, .int .i64 f.n] u)).cell? ⟨w.heap.size, 3, none⟩ = some (.int .i64 r.hi)) ∧
    ((w.alloc (.cells #[.int .i64 r.g, .int .i64 r.v, .int .i64 r.lo, .int .i64 r.hi, .int .i64 r.way] t)).alloc (.cells #[.int .i64 f.g, .bool f.v, .int .i64 f.n] u)).cell? ⟨w.heap.size + 1, 0, none⟩ = some (.int .i64 f.g) ∧
    ((w.alloc (.cells #[.int .i64 r.g, .int .i64 r.v, .int .i64 r.lo, .int .i64 r.hi, .int .i64 r.way] t)).alloc (.cells #[.int .i64 f.g, .bool f.v, .int .i64 f.n] u)).cell? ⟨w.heap.size + 1, 1, none⟩ = some (.bool f.v) ∧
    ((w.alloc (.cells #[.int .i64 r.g, .int .i64 r.v, .int .i64 r.lo, .int .i64 r.hi, .int .i64 r.way] t)).alloc (.cells #[.int .i64 f.g, .bool f.v, .int .i64 f.n] u)).cell? ⟨w.heap.size + 1, 2, none⟩ = some (.int .i64 f.n)) ∧
    Below w.heap.size w ((w.alloc (.cells #[.int .i64 r.g, .int .i64 r.v, .int .i64 r.lo, .int .i64 r.hi, .int .i64 r.way] t)).alloc (.cells #[.int .i64 f.g, .bool f.v, .int .i64 f.n] u)) := by
  have h0 := heap_alloc2_old w (.cells #[.int .i64 r.g, .int .i64 r.v, .int .i64 r.lo, .int .i64 r.hi, .int .i64 r.way] t) (.cells #[.int .i64 f.g, .bool f.v, .int .i64 f.n] u)
  have h1 := heap_alloc2_new w (.cells #[.int .i64 r.g, .int .i64 r.v, .int .i64 r.lo, .int .i64 r.hi, .int .i64 r.way] t) (.cells #[.int .i64 f.g, .bool f.v, .int .i64 f.n] u)
  exact ⟨⟨⟨cell_of (j := 0) h0 rfl, cell_of (j := 1) h0 rfl, cell_of (j := 2) h0 rfl, cell_of (j := 3) h0 rfl⟩, cell_of (j := 0) h1 rfl, cell_of (j := 1) h1 rfl, cell_of (j := 2) h1 rfl⟩,
    ((Below.refl _ w).alloc (Nat.le_refl _) _).alloc ((Below.refl _ w).alloc (Nat.le_refl _) _).size _⟩
set_option maxHeartbeats 1000000 in
theorem pgrade18_any (r : Row18) (f : Fact18) (h1 : RowOk r) (h2 : FactOk f) (w : World) : Calls Try.prog 30 #[rowVal r, factVal f] w fun e w' => e = .returned (.bool (bitB r.g f.g)) ∧ Below w.heap.size w w' := by
  obtain ⟨⟨⟨c0, c1, c2, c3⟩, x0, x1, x2⟩, hb⟩ := boxes18 w r f 57 25
  have HB := Lib.hid hb
  have HC : Hid (∀ W, Calls Try.prog 33 #[.int .i64 r.g, .int .i64 f.g] W fun e w' => e = .returned (.bool (bitB r.g f.g)) ∧ W = w') := Lib.hid fun W => by
    obtain ⟨n, hn⟩ : ∃ n : Nat, r.g = n := ⟨r.g.toNat, by have := h1.1; omega⟩
    obtain ⟨k, hk⟩ : ∃ k : Nat, f.g = k := ⟨f.g.toNat, by have := h2.1; omega⟩
    rw [hn, hk]
    exact phasbit18_any n k (by have := h2.2.1; omega) W
  generalize bitB r.g f.g = y at *
  clear h1 h2 hb
  obtain ⟨rg, rv, rl, rh, rw⟩ := r
  obtain ⟨fg, fv, fn⟩ := f
  dsimp only at *
  go_enter Try.func30, Try.ntmps30
  go_wp2_with (go_at_call 33; refine (HC.out _).mono ?_; rintro e w1 ⟨rfl, rfl⟩)
  go_ret
  exact ⟨rfl, HB.out⟩
set_option maxHeartbeats 1000000 in
theorem pwarr18_any (r : Row18) (f : Fact18) (h1 : RowOk r) (w : World) : Calls Try.prog 31 #[rowVal r, factVal f] w fun e w' => e = .returned (.bool (bitB r.v (warN f))) ∧ Below w.heap.size w w' := by
  obtain ⟨⟨⟨c0, c1, c2, c3⟩, x0, x1, x2⟩, hb⟩ := boxes18 w r f 57 25
  have HB := Lib.hid hb
  have HC : Hid (∀ W, Calls Try.prog 33 #[.int .i64 r.v, .int .i64 (warN f)] W fun e w' => e = .returned (.bool (bitB r.v (warN f))) ∧ W = w') := Lib.hid fun W => by
    obtain ⟨n, hn⟩ : ∃ n : Nat, r.v = n := ⟨r.v.toNat, by have := h1.2.2.1; omega⟩
    obtain ⟨k, hk, hk1⟩ : ∃ k : Nat, warN f = k ∧ k ≤ 1 := by
      unfold warN
      split
      · exact ⟨1, rfl, Nat.le_refl _⟩
      · exact ⟨0, rfl, by omega⟩
    rw [hn, hk]
    exact phasbit18_any n k (by omega) W
  have hw : (f.v = true ∧ warN f = 1) ∨ (f.v = false ∧ warN f = 0) := by
    unfold warN
    cases f.v <;> simp
  generalize bitB r.v (warN f) = y at *
  generalize warN f = kk at *
  clear h1 hb
  obtain ⟨rg, rv, rl, rh, rw⟩ := r
  obtain ⟨fg, fv, fn⟩ := f
  dsimp only at *
  rcases hw with ⟨rfl, rfl⟩ | ⟨rfl, rfl⟩
  all_goals
    go_enter Try.func31, Try.ntmps31
    go_wp2_with (go_at_call 33; refine (HC.out _).mono ?_; rintro e w1 ⟨rfl, rfl⟩)
    go_ret
    exact ⟨rfl, HB.out⟩
set_option maxHeartbeats 1000000 in
theorem pamount18_any (r : Row18) (f : Fact18) (w : World) : Calls Try.prog 32 #[rowVal r, factVal f] w fun e w' => e = .returned (.bool (withinB f.n r.lo r.hi)) ∧ Below w.heap.size w w' := by
  obtain ⟨⟨⟨c0, c1, c2, c3⟩, x0, x1, x2⟩, hb⟩ := boxes18 w r f 57 25
  have HB := Lib.hid hb
  have HC : Hid (∀ W, Calls Try.prog 22 #[.int .i64 f.n, .int .i64 r.lo, .int .i64 r.hi] W fun e w' => e = .returned (.bool (withinB f.n r.lo r.hi)) ∧ W = w') := Lib.hid fun W => pwithin18_any _ _ _ W
  generalize withinB f.n r.lo r.hi = y at *
  clear hb
  obtain ⟨rg, rv, rl, rh, rw⟩ := r
  obtain ⟨fg, fv, fn⟩ := f
  dsimp only at *
  go_enter Try.func32, Try.ntmps32
  go_wp2_with (go_at_call 22; refine (HC.out _).mono ?_; rintro e w1 ⟨rfl, rfl⟩)
  go_ret
  exact ⟨rfl, HB.out⟩
abbrev fnGrade18 (r : Row18) : Value := .func (.func 30) #[rowVal r] #[]
abbrev fnWarr18 (r : Row18) : Value := .func (.func 31) #[rowVal r] #[]
abbrev fnAmount18 (r : Row18) : Value := .func (.func 32) #[rowVal r] #[]
/-- The three conditions lie in a row. -/
structure Conds18 (w W : World) (b : Nat) (r : Row18) : Prop where
  below : Below w.heap.size w W
  lt : b < W.heap.size
  c0 : W.cell? ⟨b, 0, none⟩ = some (fnGrade18 r)
  c1 : W.cell? ⟨b, 1, none⟩ = some (fnWarr18 r)
  c2 : W.cell? ⟨b, 2, none⟩ = some (fnAmount18 r)
theorem Conds18.step {w W V : World} {b : Nat} {r : Row18} (h : Conds18 w W b r) (hb : Below W.heap.size W V) : Conds18 w V b r :=
  ⟨h.below.trans (hb.mono h.below.size), Nat.lt_of_lt_of_le h.lt hb.size, (hb.cell (p := ⟨b, 0, none⟩) h.lt).trans h.c0, (hb.cell (p := ⟨b, 1, none⟩) h.lt).trans h.c1, (hb.cell (p := ⟨b, 2, none⟩) h.lt).trans h.c2⟩
set_option maxHeartbeats 1000000 in
theorem pall18_any (r : Row18) (w : World) : Calls Try.prog 28 #[rowVal r] w fun e w' => ∃ b, e = .returned (.slice (some ⟨b, 0, none⟩) 3 3) ∧ Conds18 w w' b r := by
  have hmf : ∀ (fn : Fn) (first cap : Array Value) (w : World), (Instr.makeFunc fn first cap).run Try.prog w = .ok (.func fn first cap) w := fun _ _ _ _ => rfl
  obtain ⟨c0, c1, c2, c3, c4⟩ := box_row18 w r 57
  have HB := Lib.hid (lit16 w (.cells #[.int .i64 r.g, .int .i64 r.v, .int .i64 r.lo, .int .i64 r.hi, .int .i64 r.way] 57))
  obtain ⟨rg, rv, rl, rh, rw⟩ := r
  dsimp only at *
  go_enter Try.func28, Try.ntmps28
  go_wp2
  go_ret
  have h1 := heap_alloc2_new w (.cells #[.int .i64 rg, .int .i64 rv, .int .i64 rl, .int .i64 rh, .int .i64 rw] 57) (.cells #[fnGrade18 ⟨rg, rv, rl, rh, rw⟩, fnWarr18 ⟨rg, rv, rl, rh, rw⟩, fnAmount18 ⟨rg, rv, rl, rh, rw⟩] 59)
  refine ⟨w.heap.size + 1, rfl, HB.out.alloc HB.out.size _, by simp, cell_of (j := 0) h1 rfl, cell_of (j := 1) h1 rfl, cell_of (j := 2) h1 rfl⟩
end Go.Proofs.Ytkefbgjbgblalaa
