/- The four walks of layer 18, as the closings want them. -/
import Derived.Test.YtkefbgjbgblalaaPrg18
import Derived.Test.YtkefbgjbgblalaaTells18
import Derived.Test.YtkefbgjbgblalaaDecides18
import Derived.Test.YtkefbgjbgblalaaFirst18
import Derived.Test.YtkefbgjbgblalaaOrder18
import Derived.Test.YtkefbgjbgblalaaArg18
namespace Go.Proofs.Ytkefbgjbgblalaa
open Go.RowKit

theorem ruleTells_walk (w : World) (r : Row18) (f : Fact18) :
    Calls Try.prog 3 #[rowVal r, factVal f] w fun e w' => e = .returned (.bool true) ∧ Below w.heap.size w w' := ruleTells_from rule18 w r f
theorem ruleDecides_walk (w : World) (a : Option Addr) (cap : Nat) (l : List Row18) (hm : l.length ≤ maxLen) (hx : RowsIn w.heap.size w a l) (hc : l.length ≤ cap) (f : Fact18) :
    Calls Try.prog 4 #[.slice a l.length cap, factVal f] w fun e w' => e = .returned (.bool true) ∧ Below w.heap.size w w' := ruleDecides_from rule18 w a cap l hm hx hc f
theorem ruleFirst_walk (w : World) (a : Option Addr) (cap : Nat) (l : List Row18) (hm : l.length ≤ maxLen) (hx : RowsIn w.heap.size w a l) (hc : l.length ≤ cap) (f : Fact18) :
    Calls Try.prog 5 #[.slice a l.length cap, factVal f] w fun e w' => e = .returned (.bool true) ∧ Below w.heap.size w w' := ruleFirst_from rule18 w a cap l hm hx hc f
theorem ruleOrder_walk (w : World) (a : Option Addr) (cap : Nat) (l : List Row18) (hm : l.length ≤ maxLen) (hx : RowsIn w.heap.size w a l) (hc : l.length ≤ cap) (f : Fact18) (o : Int) (_ : (Lit.int .i64 o).wf = true) :
    Calls Try.prog 6 #[.slice a l.length cap, factVal f, .int .i64 o] w fun e w' => e = .returned (.bool true) ∧ Below w.heap.size w w' := ruleOrder_from rule18 w a cap l hm hx hc f o
end Go.Proofs.Ytkefbgjbgblalaa
