/- The walk of the law FeeTells: it returns true in every world and leaves what lay there. -/
import Derived.Test.YtbhdjpohplpjdaaWaked
namespace Go.Proofs.Ytbhdjpohplpjdaa
open Go.RowKit

theorem tell_one (a0 : Option Addr) (cap : Nat) (a : Int) (l : List Int) (w : World) (hn : l.length ≤ 4611686018427387904) (hx : Ints w.heap.size w a0 l) :
    Calls Try.prog 13 #[.int .i64 a, .slice a0 l.length cap] w fun e w' => e = .returned (.tuple #[.agg #[.int .i64 (allAt a l 0), .int .i64 (allAt a l 1), .int .i64 (allAt a l 2), .int .i64 (allAt a l 3)], .int .i64 (allE a l)]) ∧ Below w.heap.size w w' := by
  have := fall_any a0 cap a l w hn hx
  unfold allAgg at this
  exact this
theorem tell_two (a0 : Option Addr) (cap : Nat) (a : Int) (l : List Int) (w : World) (hx : Ints w.heap.size w a0 l) :
    Calls Try.prog 14 #[.int .i64 a, .slice a0 l.length cap] w fun e w' => e = .returned (.tuple #[.agg #[.int .i64 (allAt a l 0), .int .i64 (allAt a l 1), .int .i64 (allAt a l 2), .int .i64 (allAt a l 3)], .int .i64 (allE a l)]) ∧ Below w.heap.size w w' := by
  have := rall_any a0 cap a l w hx
  unfold allAgg at this
  exact this

set_option maxRecDepth 100000 in
set_option maxHeartbeats 2000000 in
theorem feeTells_walk (w : World) (a : Int) (_ : (Lit.int .i64 a).wf = true) (s : Option Addr) (cap : Nat) (xs : List Int) (_ : xs.length ≤ maxLen) (ht : Ints w.heap.size w s xs) (_ : ∀ n ∈ xs, (Lit.int .i64 n).wf = true) (n : Int) (_ : (Lit.int .i64 n).wf = true) :
    Calls Try.prog 3 #[.int .i64 a, .slice s xs.length cap, .int .i64 n] w fun e w' => e = .returned (.bool true) ∧ Below w.heap.size w w' := by
  have hb := Below.refl w.heap.size w
  by_cases hl : 100 < xs.length
  · have hd : decide ((100 : Int) < (xs.length : Int)) = true := decide_eq_true (by omega)
    clear hl
    go_enter Try.func3, Try.ntmps3
    go_wp2_with (go_at_call 6; refine (awake_any _).mono ?_; rintro e w1 ⟨rfl, b1⟩; replace hb := hb.trans (b1.mono hb.size))
    go_ret
    exact ⟨rfl, hb⟩
  · have hd : decide ((100 : Int) < (xs.length : Int)) = false := decide_eq_false (by omega)
    have hn : xs.length ≤ 4611686018427387904 := by omega
    clear hl
    obtain ⟨x0, hx0⟩ : ∃ x, x = allAt a xs 0 := ⟨_, rfl⟩
    obtain ⟨x1, hx1⟩ : ∃ x, x = allAt a xs 1 := ⟨_, rfl⟩
    obtain ⟨x2, hx2⟩ : ∃ x, x = allAt a xs 2 := ⟨_, rfl⟩
    obtain ⟨x3, hx3⟩ : ∃ x, x = allAt a xs 3 := ⟨_, rfl⟩
    have H1 : Hid (∀ w, Ints w.heap.size w s xs → Calls Try.prog 13 #[.int .i64 a, .slice s xs.length cap] w fun e w' => e = .returned (.tuple #[.agg #[.int .i64 x0, .int .i64 x1, .int .i64 x2, .int .i64 x3], .int .i64 (allE a xs)]) ∧ Below w.heap.size w w') := Lib.hid (fun w h => by
      rw [hx0, hx1, hx2, hx3]; exact tell_one s cap a xs w hn h)
    have H2 : Hid (∀ w, Ints w.heap.size w s xs → Calls Try.prog 14 #[.int .i64 a, .slice s xs.length cap] w fun e w' => e = .returned (.tuple #[.agg #[.int .i64 x0, .int .i64 x1, .int .i64 x2, .int .i64 x3], .int .i64 (allE a xs)]) ∧ Below w.heap.size w w') := Lib.hid (fun w h => by
      rw [hx0, hx1, hx2, hx3]; exact tell_two s cap a xs w h)
    clear hx0 hx1 hx2 hx3
    go_enter Try.func3, Try.ntmps3
    go_upto_region 9 with (first
      | (go_at_call 7; refine (fof_any _ _ _).mono ?_; rintro e w1 ⟨rfl, b1⟩; replace hb := hb.trans (b1.mono hb.size); replace ht := ht.step b1)
      | (go_at_call 8; refine (rof_any _ _ _).mono ?_; rintro e w2 ⟨rfl, rfl⟩)
      | (go_at_call 9; refine (fless_any _ _ _).mono ?_; rintro e w3 ⟨rfl, b3⟩; replace hb := hb.trans (b3.mono hb.size); replace ht := ht.step b3)
      | (go_at_call 10; refine (rless_any _ _ _).mono ?_; rintro e w4 ⟨rfl, rfl⟩)
      | (go_at_call 11; refine (fgrade_any _ _ _ _ _ _ hn ht).mono ?_; rintro e w5 ⟨rfl, b5⟩; replace hb := hb.trans (b5.mono hb.size); replace ht := ht.step b5)
      | (go_at_call 12; refine (rgrade_any _ _ _ _ _ _ ht).mono ?_; rintro e w6 ⟨rfl, b6⟩; replace hb := hb.trans (b6.mono hb.size); replace ht := ht.step b6))
    go_upto_region 10 with (go_at_call 13; refine (H1.out _ ht).mono ?_; rintro e w7 ⟨rfl, b7⟩; replace hb := hb.trans (b7.mono hb.size); replace ht := ht.step b7)
    replace hb := hb.alloc hb.size (Obj.cells #[Value.int .i64 x0, Value.int .i64 x1, Value.int .i64 x2, Value.int .i64 x3] 31)
    replace ht := ht.lit (Obj.cells #[Value.int .i64 x0, Value.int .i64 x1, Value.int .i64 x2, Value.int .i64 x3] 31)
    have hlt : w7.heap.size < (w7.alloc (Obj.cells #[Value.int .i64 x0, Value.int .i64 x1, Value.int .i64 x2, Value.int .i64 x3] 31)).heap.size := by simp
    have hh := heap_alloc_new w7 (Obj.cells #[Value.int .i64 x0, Value.int .i64 x1, Value.int .i64 x2, Value.int .i64 x3] 31)
    go_upto_region 11 with (go_at_call 14; refine (H2.out _ ht).mono ?_; rintro e w8 ⟨rfl, b8⟩; replace hb := hb.trans (b8.mono hb.size); replace ht := ht.step b8)
    replace hb := hb.alloc hb.size (Obj.cells #[Value.int .i64 x0, Value.int .i64 x1, Value.int .i64 x2, Value.int .i64 x3] 31)
    replace ht := ht.lit (Obj.cells #[Value.int .i64 x0, Value.int .i64 x1, Value.int .i64 x2, Value.int .i64 x3] 31)
    have hh8 := heap_alloc_new w8 (Obj.cells #[Value.int .i64 x0, Value.int .i64 x1, Value.int .i64 x2, Value.int .i64 x3] 31)
    have hlt8 : w7.heap.size < w8.heap.size := Nat.lt_of_lt_of_le hlt b8.size
    have bA := (Below.refl w8.heap.size w8).alloc (Nat.le_refl _) (Obj.cells #[Value.int .i64 x0, Value.int .i64 x1, Value.int .i64 x2, Value.int .i64 x3] 31)
    obtain ⟨W, hW⟩ : ∃ W, W = w8.alloc (Obj.cells #[Value.int .i64 x0, Value.int .i64 x1, Value.int .i64 x2, Value.int .i64 x3] 31) := ⟨_, rfl⟩
    rw [← hW] at hb ht hh8 bA
    rw [← hW]
    clear hW
    have c0 : W.cell? ⟨w7.heap.size, 0, none⟩ = some (.int .i64 x0) := (bA.cell (p := ⟨w7.heap.size, 0, none⟩) hlt8).trans ((b8.cell (p := ⟨w7.heap.size, 0, none⟩) hlt).trans (cell_in hh rfl))
    have c1 : W.cell? ⟨w7.heap.size, 1, none⟩ = some (.int .i64 x1) := (bA.cell (p := ⟨w7.heap.size, 1, none⟩) hlt8).trans ((b8.cell (p := ⟨w7.heap.size, 1, none⟩) hlt).trans (cell_in hh rfl))
    have c2 : W.cell? ⟨w7.heap.size, 2, none⟩ = some (.int .i64 x2) := (bA.cell (p := ⟨w7.heap.size, 2, none⟩) hlt8).trans ((b8.cell (p := ⟨w7.heap.size, 2, none⟩) hlt).trans (cell_in hh rfl))
    have c3 : W.cell? ⟨w7.heap.size, 3, none⟩ = some (.int .i64 x3) := (bA.cell (p := ⟨w7.heap.size, 3, none⟩) hlt8).trans ((b8.cell (p := ⟨w7.heap.size, 3, none⟩) hlt).trans (cell_in hh rfl))
    have d0 : W.cell? ⟨w8.heap.size, 0, none⟩ = some (.int .i64 x0) := cell_in hh8 rfl
    have d1 : W.cell? ⟨w8.heap.size, 1, none⟩ = some (.int .i64 x1) := cell_in hh8 rfl
    have d2 : W.cell? ⟨w8.heap.size, 2, none⟩ = some (.int .i64 x2) := cell_in hh8 rfl
    have d3 : W.cell? ⟨w8.heap.size, 3, none⟩ = some (.int .i64 x3) := cell_in hh8 rfl
    clear hh hlt hh8 hlt8 bA
    have E : ∀ w, (Op.equalIn 10000 31 (.agg #[.int .i64 x0, .int .i64 x1, .int .i64 x2, .int .i64 x3]) (.agg #[.int .i64 x0, .int .i64 x1, .int .i64 x2, .int .i64 x3])).run Try.prog w = .ok true w := fun w => by
      rw [same_four]; simp
    go_wp2_with (first
      | (go_at_call 15; refine (fcheck_any _ _ _ _ hn ht).mono ?_; rintro e w9 ⟨rfl, b9⟩; replace hb := hb.trans (b9.mono hb.size); replace ht := ht.step b9)
      | (go_at_call 16; refine (rcheck_any _ _ _ _ ht).mono ?_; rintro e w10 ⟨rfl, m, rfl⟩; replace hb := drawn_below hb m)
      | (go_at_call 6; refine (awake_any _).mono ?_; rintro e w11 ⟨rfl, b11⟩; replace hb := hb.trans (b11.mono hb.size)))
    go_ret
    exact ⟨rfl, hb⟩
end Go.Proofs.Ytbhdjpohplpjdaa
