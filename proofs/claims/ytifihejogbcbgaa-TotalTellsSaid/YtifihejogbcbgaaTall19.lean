/- The four walks of layer 19, as the closings want them. -/
import Derived.Test.YtifihejogbcbgaaArg19
import Derived.Test.YtifihejogbcbgaaDead19
import Derived.Test.YtifihejogbcbgaaGap19
import Derived.Test.YtifihejogbcbgaaInts
import Derived.Test.YtifihejogbcbgaaLives19
import Derived.Test.YtifihejogbcbgaaPrg19
import Derived.Test.YtifihejogbcbgaaTells19
import Derived.OpenShut
import Derived.WideShapes
namespace Go.Proofs.Ytifihejogbcbgaa
open Go.RowKit

theorem totalTells_walk (w : World) (a1 a2 a3 a4 : Option Addr) (c1 c2 c3 c4 : Nat) (ks cs fs : List Int) (l : List Row18) (h : RulesIn19 w a1 a2 a3 a4 c1 c2 c3 c4 ks cs fs l) :
    Calls Try.prog 3 #[rulesVal a1 a2 a3 a4 ks.length c1 cs.length c2 fs.length c3 l.length c4] w fun e w' => e = .returned (.bool true) ∧ Below w.heap.size w w' :=
  totalTells_from total19 totalC19 w a1 a2 a3 a4 c1 c2 c3 c4 ks cs fs l h.h1 h.h2 h.h3 h.h4 h.k1 h.k2 h.k3 h.k4
theorem totalGap_walk (w : World) (a : Option Addr) (cap : Nat) (l : List Row18) (hm : l.length ≤ maxLen) (hx : RowsIn w.heap.size w a l) (hc : l.length ≤ cap) (f : Fact18) :
    Calls Try.prog 4 #[.slice a l.length cap, factVal f] w fun e w' => e = .returned (.bool true) ∧ Below w.heap.size w w' := totalGap_from rule19 total19 totalC19 w a cap l hm hx hc f
theorem totalDead_walk (w : World) (a : Option Addr) (cap : Nat) (l : List Row18) (hm : l.length ≤ maxLen) (hx : RowsIn w.heap.size w a l) (hc : l.length ≤ cap) (f : Fact18) :
    Calls Try.prog 5 #[.slice a l.length cap, factVal f] w fun e w' => e = .returned (.bool true) ∧ Below w.heap.size w w' := totalDead_from rule19 total19 totalC19 w a cap l hm hx hc f
theorem totalLives_walk (w : World) (a : Option Addr) (cap : Nat) (l : List Row18) (hm : l.length ≤ maxLen) (hx : RowsIn w.heap.size w a l) (hc : l.length ≤ cap) :
    Calls Try.prog 6 #[.slice a l.length cap] w fun e w' => e = .returned (.bool true) ∧ Below w.heap.size w w' := totalLives_from rule19 total19 totalC19 w a cap l hm hx hc
end Go.Proofs.Ytifihejogbcbgaa
