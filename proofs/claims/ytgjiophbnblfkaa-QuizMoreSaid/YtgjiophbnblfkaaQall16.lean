/- The three walks of layer 16, as the closings want them. -/
import Derived.Test.YtgjiophbnblfkaaPri16
import Derived.Test.YtgjiophbnblfkaaBounds16
import Derived.Test.YtgjiophbnblfkaaMore16
namespace Go.Proofs.Ytgjiophbnblfkaa
open Go.RowKit

theorem quizTells_walk (w : World) (a : Option Addr) (cap : Nat) (xs : List Int) (hm : xs.length ≤ maxLen) (hx : Ints w.heap.size w a xs) (hc : xs.length ≤ cap) (m : Int) (hw : (Lit.int .i64 m).wf = true)
    (b : Option Addr) (cap' : Nat) (fs : List Int) (hm' : fs.length ≤ maxLen) (hf : Ints w.heap.size w b fs) (hc' : fs.length ≤ cap') :
    Calls Try.prog 3 #[.slice a xs.length cap, .int .i64 m, .slice b fs.length cap'] w fun e w' => e = .returned (.bool true) ∧ Below w.heap.size w w' := quizTells_from quiz16 w a cap xs hm hx hc m hw b cap' fs hm' hf hc'
theorem quizBounds_walk (w : World) (a : Option Addr) (cap : Nat) (xs : List Int) (hm : xs.length ≤ maxLen) (hx : Ints w.heap.size w a xs) (hc : xs.length ≤ cap) (m : Int) (hw : (Lit.int .i64 m).wf = true) :
    Calls Try.prog 4 #[.slice a xs.length cap, .int .i64 m] w fun e w' => e = .returned (.bool true) ∧ Below w.heap.size w w' := quizBounds_from quiz16 w a cap xs hm hx hc m hw
theorem quizMore_walk (w : World) (a : Option Addr) (cap : Nat) (xs : List Int) (hm : xs.length ≤ maxLen) (hx : Ints w.heap.size w a xs) (hc : xs.length ≤ cap) (m : Int) (hw : (Lit.int .i64 m).wf = true) (t : Int) (ht : (Lit.int .i64 t).wf = true) :
    Calls Try.prog 5 #[.slice a xs.length cap, .int .i64 m, .int .i64 t] w fun e w' => e = .returned (.bool true) ∧ Below w.heap.size w w' := quizMore_from quiz16 w a cap xs hm hx hc m hw t ht
end Go.Proofs.Ytgjiophbnblfkaa
