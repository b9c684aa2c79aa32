/- The fixed probes of the layer: they all come out true, in every world. -/
import Derived.Test.YtbhdjpohplpjdaaFee
namespace Go.Proofs.Ytbhdjpohplpjdaa
open Go.RowKit

/-- Two arrays of four numbers, compared. -/
theorem same_four (x y z u x' y' z' u' : Int) (w : World) : (Op.equalIn 10000 31 (.agg #[.int .i64 x, .int .i64 y, .int .i64 z, .int .i64 u]) (.agg #[.int .i64 x', .int .i64 y', .int .i64 z', .int .i64 u'])).run Try.prog w = .ok (x == x' && (y == y' && (z == z' && u == u'))) w := by
  have u3 := Try.underlying3
  have a3 := Try.isAgg3
  have z3 := Try.sizeOf3
  rw [show (10000 : Nat) = 9999 + 1 from rfl, Op.equalIn]
  simp only [Sem.run_bind, run_underlying Try.underlying31, Result.andThen_ok]
  simp only [Std.Legacy.Range.forIn_eq_forIn_range', Std.Legacy.Range.size, Nat.sub_zero, Nat.add_sub_cancel, Nat.div_one, List.range'_succ, List.range'_zero, List.forIn_cons, List.forIn_nil]
  go_simp
  by_cases h1 : x = x' <;> by_cases h2 : y = y' <;> by_cases h3 : z = z' <;> by_cases h4 : u = u' <;> simp [h1, h2, h3, h4]
theorem q1 (w : World) : Calls Try.prog 7 #[.int .i64 1005, .int .i64 1000] w fun e w' => e = .returned (.tuple #[.int .i64 101, .int .i64 0]) ∧ Below w.heap.size w w' := by
  have := fof_any 1005 1000 w
  rw [show feeV 1005 1000 = 101 by decide, show feeE 1005 1000 = 0 by decide] at this
  exact this
theorem q2 (w : World) : Calls Try.prog 9 #[.int .i64 1005, .int .i64 1000] w fun e w' => e = .returned (.tuple #[.int .i64 904, .int .i64 0]) ∧ Below w.heap.size w w' := by
  have := fless_any 1005 1000 w
  rw [show lessV 1005 1000 = 904 by decide, show feeE 1005 1000 = 0 by decide] at this
  exact this
theorem q3 (w : World) (a : Option Addr) (c : Nat) (h : Ints w.heap.size w a [0, 1000, 1000, 10000]) : Calls Try.prog 11 #[.int .i64 1005, .slice a 4 c, .int .i64 3] w fun e w' => e = .returned (.tuple #[.int .i64 0, .int .i64 0]) ∧ Below w.heap.size w w' := by
  have := fgrade_any a c 1005 [0, 1000, 1000, 10000] 3 w (by simp) h
  rw [show gradeV 1005 [0, 1000, 1000, 10000] 3 = 0 by decide, show gradeE 1005 [0, 1000, 1000, 10000] 3 = 0 by decide] at this
  exact this
theorem q4 (w : World) (a : Option Addr) (c : Nat) (h : Ints w.heap.size w a [0, 1000, 1000, 10000]) : Calls Try.prog 13 #[.int .i64 1005, .slice a 4 c] w fun e w' => e = .returned (.tuple #[.agg #[.int .i64 1005, .int .i64 904, .int .i64 904, .int .i64 0], .int .i64 0]) ∧ Below w.heap.size w w' := by
  have := fall_any a c 1005 [0, 1000, 1000, 10000] w (by simp) h
  rw [show allAgg 1005 [0, 1000, 1000, 10000] = .agg #[.int .i64 1005, .int .i64 904, .int .i64 904, .int .i64 0] from rfl, show allE 1005 [0, 1000, 1000, 10000] = 0 by decide] at this
  exact this
theorem q5 (w : World) : Calls Try.prog 7 #[.int .i64 1, .int .i64 10001] w fun e w' => e = .returned (.tuple #[.int .i64 0, .int .i64 2]) ∧ Below w.heap.size w w' := by
  have := fof_any 1 10001 w
  rw [show feeV 1 10001 = 0 by decide, show feeE 1 10001 = 2 by decide] at this
  exact this
theorem q6 (w : World) (a : Option Addr) (c : Nat) (h : Ints w.heap.size w a [1, 0, 2, 3]) : Calls Try.prog 15 #[.slice a 4 c] w fun e w' => e = .returned (.int .i64 36) ∧ Below w.heap.size w w' := by
  have := fcheck_any a c [1, 0, 2, 3] w (by simp) h
  rw [show checkE [1, 0, 2, 3] = 36 by decide] at this
  exact this

set_option maxRecDepth 100000 in
set_option maxHeartbeats 1000000 in
theorem awake_any (w : World) : Calls Try.prog 6 #[] w fun e w' => e = .returned (.bool true) ∧ Below w.heap.size w w' := by
  have hb := Below.refl w.heap.size w
  go_enter Try.func6, Try.ntmps6
  go_upto_region 5 with (first
    | (go_at_call 7; refine (q1 _).mono ?_; rintro e w1 ⟨rfl, b1⟩; replace hb := hb.trans (b1.mono hb.size))
    | (go_at_call 9; refine (q2 _).mono ?_; rintro e w2 ⟨rfl, b2⟩; replace hb := hb.trans (b2.mono hb.size))
    | (go_at_call 11; refine (q3 _ _ _ (lit_four _ _ _ _ _ _)).mono ?_; rintro e w3 ⟨rfl, b3⟩; replace hb := (hb.alloc hb.size _).trans (b3.mono (hb.alloc hb.size _).size))
    | (go_at_call 13; refine (q4 _ _ _ (lit_four _ _ _ _ _ _)).mono ?_; rintro e w4 ⟨rfl, b4⟩; replace hb := (hb.alloc hb.size _).trans (b4.mono (hb.alloc hb.size _).size)))
  replace hb := hb.alloc hb.size (Obj.cells #[Value.int .i64 1005, Value.int .i64 904, Value.int .i64 904, Value.int .i64 0] 31)
  have hlt : w4.heap.size < (w4.alloc (Obj.cells #[Value.int .i64 1005, Value.int .i64 904, Value.int .i64 904, Value.int .i64 0] 31)).heap.size := by simp
  have hh := heap_alloc_new w4 (Obj.cells #[Value.int .i64 1005, Value.int .i64 904, Value.int .i64 904, Value.int .i64 0] 31)
  go_upto_region 6 with (go_at_call 7; refine (q5 _).mono ?_; rintro e w5 ⟨rfl, b5⟩; replace hb := hb.trans (b5.mono hb.size))
  have c0 : w5.cell? ⟨w4.heap.size, 0, none⟩ = some (.int .i64 1005) := (b5.cell (p := ⟨w4.heap.size, 0, none⟩) hlt).trans (cell_in hh rfl)
  have c1 : w5.cell? ⟨w4.heap.size, 1, none⟩ = some (.int .i64 904) := (b5.cell (p := ⟨w4.heap.size, 1, none⟩) hlt).trans (cell_in hh rfl)
  have c2 : w5.cell? ⟨w4.heap.size, 2, none⟩ = some (.int .i64 904) := (b5.cell (p := ⟨w4.heap.size, 2, none⟩) hlt).trans (cell_in hh rfl)
  have c3 : w5.cell? ⟨w4.heap.size, 3, none⟩ = some (.int .i64 0) := (b5.cell (p := ⟨w4.heap.size, 3, none⟩) hlt).trans (cell_in hh rfl)
  clear hh hlt
  have E : (Op.equalIn 10000 31 (.agg #[.int .i64 1005, .int .i64 904, .int .i64 904, .int .i64 0]) (.agg #[.int .i64 1005, .int .i64 904, .int .i64 904, .int .i64 0])).run Try.prog w5 = .ok true w5 := same_four 1005 904 904 0 1005 904 904 0 w5
  go_wp2_with (go_at_call 15; refine (q6 _ _ _ (lit_four _ _ _ _ _ _)).mono ?_; rintro e w6 ⟨rfl, b6⟩; replace hb := (hb.alloc hb.size _).trans (b6.mono (hb.alloc hb.size _).size))
  go_ret
  exact ⟨rfl, hb⟩
end Go.Proofs.Ytbhdjpohplpjdaa
