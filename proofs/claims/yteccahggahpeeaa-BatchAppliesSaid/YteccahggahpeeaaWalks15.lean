/- The program's batch is what the walks want of it; the five walks as the closings want them. -/
import Derived.Test.YteccahggahpeeaaApplies15
import Derived.Test.YteccahggahpeeaaCodes15
import Derived.Test.YteccahggahpeeaaMElt15
import Derived.Test.YteccahggahpeeaaTakw15
import Derived.Test.YteccahggahpeeaaWake15
import Derived.OpenShut
namespace Go.Proofs.Yteccahggahpeeaa
open Go.RowKit

theorem batch15 : Batch15 := ⟨pcheck15_any, pget15_any, papply15_any, pundo15_any, pput15_any, ptake15_any, pdiff15_any⟩
theorem wakes15 : Wakes15 := awake15 batch15
theorem batchApplies_walk (w : World) (a : Option Addr) (c : Nat) (S : St15) (hc : S.length ≤ c) (hs : TabsV 0 w.heap.size w a S) (la : Option Addr) (lc : Nat) (l : List Op15) (hlc : l.length ≤ lc) (hl : Els opE 0 w.heap.size w la l) (x y : Int) (_ : (Lit.int .i64 x).wf = true) :
    Calls Try.prog 3 #[stVal a c S, .slice la l.length lc, .agg #[.int .i64 x, .int .i64 y]] w fun e w' => e = .returned (.bool true) ∧ Below w.heap.size w w' := batchApplies_main batch15 wakes15 w a c S hc hs la lc l hlc hl x y
theorem batchCodes_walk (w : World) (a : Option Addr) (c : Nat) (A : St15) (hac : A.length ≤ c) (ha : TabsV 0 w.heap.size w a A) (b : Option Addr) (d : Nat) (B : St15) (hbd : B.length ≤ d) (hb : TabsV 0 w.heap.size w b B) (s : ByteArray) (_ : s.size ≤ maxLen) :
    Calls Try.prog 4 #[stVal a c A, stVal b d B, .string s] w fun e w' => e = .returned (.bool true) ∧ Below w.heap.size w w' := batchCodes_main batch15 wakes15 w a c A hac ha b d B hbd hb s
theorem batchWhole_walk (w : World) (a : Option Addr) (c : Nat) (S : St15) (hc : S.length ≤ c) (hs : TabsV 0 w.heap.size w a S) (la : Option Addr) (lc : Nat) (l : List Op15) (hlc : l.length ≤ lc) (hl : Els opE 0 w.heap.size w la l) :
    Calls Try.prog 5 #[stVal a c S, .slice la l.length lc] w fun e w' => e = .returned (.bool true) ∧ Below w.heap.size w w' := batchWhole_main batch15 wakes15 w a c S hc hs la lc l hlc hl
theorem batchUndo_walk (w : World) (a : Option Addr) (c : Nat) (S : St15) (hc : S.length ≤ c) (hs : TabsV 0 w.heap.size w a S) (la : Option Addr) (lc : Nat) (l : List Op15) (hlc : l.length ≤ lc) (hl : Els opE 0 w.heap.size w la l) :
    Calls Try.prog 6 #[stVal a c S, .slice la l.length lc] w fun e w' => e = .returned (.bool true) ∧ Below w.heap.size w w' := batchUndo_main batch15 wakes15 w a c S hc hs la lc l hlc hl
theorem batchDiff_walk (w : World) (a : Option Addr) (c : Nat) (A : St15) (hac : A.length ≤ c) (ha : TabsV 0 w.heap.size w a A) (b : Option Addr) (d : Nat) (B : St15) (hbd : B.length ≤ d) (hb : TabsV 0 w.heap.size w b B) (s : ByteArray) (_ : s.size ≤ maxLen) :
    Calls Try.prog 7 #[stVal a c A, stVal b d B, .string s] w fun e w' => e = .returned (.bool true) ∧ Below w.heap.size w w' := batchDiff_main batch15 wakes15 w a c A hac ha b d B hbd hb s
end Go.Proofs.Yteccahggahpeeaa
