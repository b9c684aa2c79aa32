/- The document's Check, Worst, Failed and Score of questions: for every slice of numbers, in every world. -/
import Derived.Test.YtkefbgjbgblalaaWant16
import Derived.Test.YtkefbgjbgblalaaOwn
namespace Go.Proofs.Ytkefbgjbgblalaa
open Go.RowKit

theorem drew_more16 (w : World) (n m : Nat) : (w.drewN n).drewN m = w.drewN (n + m) := by
  first
  | rfl
  | (simp [World.drewN]; omega)
theorem asks_stop {l : List Int} {k : Nat} (hk : k < l.length) (h : ¬ AskAt l k) : asksE l = 36 := asks_no fun q => h (q.2.2 k hk)
theorem worst_small {l : List Int} (h : ∀ j, j < l.length → AskAt l j) (k : Nat) (hk : k ≤ l.length) : 0 ≤ worstTo l k ∧ worstTo l k ≤ 1000 * k := by
  have := sum_bounds l 0 h k hk
  omega
end Go.Proofs.Ytkefbgjbgblalaa
