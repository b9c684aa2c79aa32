/- The program's number of sectors, its limits, the closure that decodes one number, and Put, in every world in which the table lies. -/
import Derived.Test.YtkmkohpdldamhaaDoorWant9
import Derived.Test.YtkmkohpdldamhaaDoorCrc
import Derived.Test.YtkmkohpdldamhaaDoorOget
import Derived.Test.YtkmkohpdldamhaaDoorOlay
import Derived.Lib.TrimByte
import Derived.Lib.Repeat
namespace Go.Proofs.YtkmkohpdldamhaaDoor
open Go.RowKit

theorem secof_any (n : Nat) (hn : n ≤ 281474976710656) (w : World) :
    Calls Tryd.prog 22 #[.int .i64 n] w fun e w' => e = .returned (.int .i64 (sect9 n : Nat)) ∧ w = w' := by
  have HS : Hid ((16 + (n : Int) + 64 - 1) / 64 = (sect9 n : Nat)) := Lib.hid (by unfold sect9; omega)
  have i1 : IntKind.i64.wrap (16 + (n : Int)) = 16 + (n : Int) := IntWalk.i64_in _ (by omega)
  have i2 : IntKind.i64.wrap (16 + (n : Int) + 64) = 16 + (n : Int) + 64 := IntWalk.i64_in _ (by omega)
  have i3 : IntKind.i64.wrap (16 + (n : Int) + 64 - 1) = 16 + (n : Int) + 64 - 1 := IntWalk.i64_in _ (by omega)
  go_enter Tryd.func22, Tryd.ntmps22
  go_wp2
  go_ret
  refine ⟨?_, rfl⟩
  rw [← HS.out]; rfl
theorem sects_any (t : ByteArray) (hn : t.size ≤ 281474976710656) (w : World) :
    Calls Tryd.prog 14 #[.string t] w fun e w' => e = .returned (.int .i64 (sect9 t.size : Nat)) ∧ w = w' := by
  have HS := Lib.hid (secof_any t.size hn w)
  go_enter Tryd.func14, Tryd.ntmps14
  go_wp2_with (go_at_call 22; refine HS.out.mono ?_; rintro e w1 ⟨rfl, rfl⟩)
  go_ret
  exact ⟨rfl, rfl⟩
def outE9 (g : Int) (n : Nat) : Int := if 1 ≤ g ∧ g ≤ 1000000000 then (if n ≤ 100000 then 0 else 3) else 2
theorem outside_any (g : Int) (n : Nat) (w : World) :
    Calls Tryd.prog 16 #[.int .i64 g, .int .i64 n] w fun e w' => e = .returned (.int .i64 (outE9 g n)) ∧ w = w' := by
  by_cases h1 : g < 1
  · have d1 : decide (g < 1) = true := decide_eq_true h1
    have he : outE9 g n = 2 := by unfold outE9; rw [if_neg (by omega)]
    rw [he]
    clear he h1
    go_enter Tryd.func16, Tryd.ntmps16
    go_wp2
    go_ret
    exact ⟨rfl, rfl⟩
  · have d1 : decide (g < 1) = false := decide_eq_false h1
    by_cases h2 : 1000000000 < g
    · have d2 : decide (1000000000 < g) = true := decide_eq_true h2
      have he : outE9 g n = 2 := by unfold outE9; rw [if_neg (by omega)]
      rw [he]
      clear he h1 h2
      go_enter Tryd.func16, Tryd.ntmps16
      go_wp2
      go_ret
      exact ⟨rfl, rfl⟩
    · have d2 : decide (1000000000 < g) = false := decide_eq_false h2
      by_cases h3 : 100000 < n
      · have d3 : decide ((100000 : Int) < (n : Int)) = true := decide_eq_true (by omega)
        have he : outE9 g n = 3 := by unfold outE9; rw [if_pos (by omega), if_neg (by omega)]
        rw [he]
        clear he h1 h2
        go_enter Tryd.func16, Tryd.ntmps16
        go_wp2
        go_ret
        exact ⟨rfl, rfl⟩
      · have d3 : decide ((100000 : Int) < (n : Int)) = false := decide_eq_false (by omega)
        have he : outE9 g n = 0 := by unfold outE9; rw [if_pos (by omega), if_pos (by omega)]
        rw [he]
        clear he h1 h2
        go_enter Tryd.func16, Tryd.ntmps16
        go_wp2
        go_ret
        exact ⟨rfl, rfl⟩

/-- The closure that decodes the next number: the variable of the place is moved on. -/
theorem number_any (s : ByteArray) (hs : s.size ≤ 4611686018427387904) (p x : Int) (hp0 : -9223372036854775808 ≤ p) (hp1 : p ≤ 9223372036854775807) (b1 b2 : Nat) (w : World) (h1 : w.cell? ⟨b1, 0, none⟩ = some (.string s)) (h2 : w.cell? ⟨b2, 0, none⟩ = some (.int .i64 p)) (hf : w.frozen? ⟨b2, 0, none⟩ = false) (hb : b2 < w.heap.size) :
    Calls Tryd.prog 20 #[.int .i64 x, .pointer (some ⟨b1, 0, none⟩), .pointer (some ⟨b2, 0, none⟩)] w fun e w' => e = .returned (.tuple #[.int .i64 (getV s.data.toList p x), .int .i64 (getE s.data.toList p x)]) ∧ ∃ W, Below w.heap.size w W ∧ w' = W.setCell ⟨b2, 0, none⟩ (.int .i64 (getT s.data.toList p x)) := by
  have HG := Lib.hid (oget_any s hs p x hp0 hp1)
  generalize getV s.data.toList p x = V at *
  generalize getE s.data.toList p x = E at *
  generalize getT s.data.toList p x = T at *
  clear hp0 hp1
  go_enter Tryd.func20, Tryd.ntmps20
  go_upto_region 2 with (go_at_call 21; refine (HG.out _).mono ?_; rintro e w1 ⟨rfl, hb1⟩)
  obtain ⟨W, hW, hbW, c0, c1, k2, f2⟩ : ∃ W, W = w1.alloc (.cells #[.int .i64 V, .int .i64 T] 50) ∧ Below w.heap.size w W ∧ W.cell? ⟨w1.heap.size, 0, none⟩ = some (.int .i64 V) ∧ W.cell? ⟨w1.heap.size, 1, none⟩ = some (.int .i64 T) ∧ W.cell? ⟨b2, 0, none⟩ = some (.int .i64 p) ∧ W.frozen? ⟨b2, 0, none⟩ = false := by
    have hbW : Below w.heap.size w (w1.alloc (.cells #[.int .i64 V, .int .i64 T] 50)) := hb1.alloc hb1.size _
    obtain ⟨q0, q1, _, _⟩ := two_cells (heap_alloc_new w1 (.cells #[.int .i64 V, .int .i64 T] 50))
    exact ⟨_, rfl, hbW, q0, q1, (hbW.cell (p := ⟨b2, 0, none⟩) hb).trans h2, by rw [hbW.frozen (p := ⟨b2, 0, none⟩) hb]; exact hf⟩
  have hne : w1.heap.size ≠ b2 := by have := hb1.size; omega
  have hne2 : b2 ≠ w1.heap.size := fun h => hne h.symm
  rw [← hW]
  clear hW h1 h2 hf hb1
  have HBW := Lib.hid hbW
  clear hbW
  go_wp2
  go_ret2
  exact ⟨rfl, W, HBW.out, rfl⟩

theorem rep_nul (c : Nat) : Lib.repeatL [0] c = List.replicate c (0 : UInt8) := by
  have := Lib.repeatL_replicate 0 1 c
  rw [Nat.mul_one] at this
  exact this
theorem be_putL (n : Int) (x : Nat) (hx : wideW x) (h0 : 0 ≤ n) (h1 : n < (256 : Int) ^ x) : putE n x = 0 ∧ putL n x = be x n.toNat := by
  have he : putE n x = 0 := by unfold putE; rw [if_pos hx, if_pos ⟨h0, by simpa using h1⟩]
  exact ⟨he, by unfold putL; rw [if_pos he, Int.toNat_natCast]⟩
end Go.Proofs.YtkmkohpdldamhaaDoor
