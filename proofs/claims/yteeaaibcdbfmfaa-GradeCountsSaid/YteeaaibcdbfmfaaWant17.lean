/- What the walks of layer 17 want of grade's five functions, for every slice of numbers and in every world. -/
import Derived.Test.YteeaaibcdbfmfaaGr17
import Derived.Test.YteeaaibcdbfmfaaWant16
namespace Go.Proofs.Yteeaaibcdbfmfaa
open Go.RowKit

def cnts (x y z u : Int) : Value := .agg #[.int .i64 x, .int .i64 y, .int .i64 z, .int .i64 u]
def oneB (n : Int) : Value := .bool (decide (0 < n))
structure Grade17S : Prop where
  check : ∀ (a : Option Addr) (cap : Nat) (xs : List Int) (w : World), xs.length ≤ cap → Ints w.heap.size w a xs → xs.length ≤ 1000000 →
    Calls Try.prog 12 #[.slice a xs.length cap] w fun e w' => e = .returned (.int .i64 (cutsE xs)) ∧ Below w.heap.size w w'
  of : ∀ (a : Option Addr) (cap : Nat) (xs : List Int) (m : Int) (w : World), xs.length ≤ cap → Ints w.heap.size w a xs → xs.length ≤ 1000000 → (Lit.int .i64 m).wf = true →
    Calls Try.prog 8 #[.slice a xs.length cap, .int .i64 m] w fun e w' => e = .returned (.tuple #[.int .i64 (ofV17 xs m), .int .i64 (ofE17 xs m)]) ∧ Below w.heap.size w w'
  span : ∀ (a : Option Addr) (cap : Nat) (xs : List Int) (g : Int) (w : World), xs.length ≤ cap → Ints w.heap.size w a xs → xs.length ≤ 1000000 → (Lit.int .i64 g).wf = true →
    Calls Try.prog 10 #[.slice a xs.length cap, .int .i64 g] w fun e w' => e = .returned (.tuple #[.int .i64 (spanLo xs g), .int .i64 (spanHi xs g), .int .i64 (spanE xs g)]) ∧ Below w.heap.size w w'
  count : ∀ (a : Option Addr) (cap : Nat) (ks : List Int) (b : Option Addr) (cap' : Nat) (xs : List Int) (w : World), ks.length ≤ cap → Ints w.heap.size w a ks → ks.length ≤ 1000000 → xs.length ≤ cap' → Ints w.heap.size w b xs → xs.length ≤ 1000000 →
    Calls Try.prog 14 #[.slice a ks.length cap, .slice b xs.length cap'] w fun e w' => e = .returned (.tuple #[.agg #[.int .i64 (cntV ks xs 0), .int .i64 (cntV ks xs 1), .int .i64 (cntV ks xs 2), .int .i64 (cntV ks xs 3)], .int .i64 (cntE ks xs)]) ∧ Below w.heap.size w w'
  reached : ∀ (a : Option Addr) (cap : Nat) (ks : List Int) (b : Option Addr) (cap' : Nat) (xs : List Int) (w : World), ks.length ≤ cap → Ints w.heap.size w a ks → ks.length ≤ 1000000 → xs.length ≤ cap' → Ints w.heap.size w b xs → xs.length ≤ 1000000 →
    Calls Try.prog 16 #[.slice a ks.length cap, .slice b xs.length cap'] w fun e w' => e = .returned (.tuple #[.agg #[.bool (decide (0 < cntV ks xs 0)), .bool (decide (0 < cntV ks xs 1)), .bool (decide (0 < cntV ks xs 2)), .bool (decide (0 < cntV ks xs 3))], .int .i64 (cntE ks xs)]) ∧ Below w.heap.size w w'
/-- The law's own cuts. -/
theorem cuts17_any (w : World) : Calls Try.prog 18 #[] w fun e w' => ∃ a, e = .returned (.slice a 3 3) ∧ Ints w'.heap.size w' a [0, 5, 20] ∧ Below w.heap.size w w' := by
  go_enter Try.func18, Try.ntmps18
  go_wp2
  go_ret
  exact ⟨_, rfl, lit_three w 0 5 20 _, lit16 w _⟩
end Go.Proofs.Yteeaaibcdbfmfaa
