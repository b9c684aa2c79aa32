/- The walk of FrameBack at the program's own frame. -/
import Derived.Test.YtpjahfobjnajcaaDoorLaid10
import Derived.Test.YtpjahfobjnajcaaDoorBack10
namespace Go.Proofs.YtpjahfobjnajcaaDoor
open Go.RowKit

theorem frameBack_walk (w : World) (tab : Tab w) (E Q : Int) (t : ByteArray) (s : ByteArray) (_ : s.size ≤ maxLen) (p : Int) (hp : (Lit.int .i64 p).wf = true) :
    Calls Tryd.prog 4 #[.agg #[.int .i64 E, .int .i64 Q, .string t], .string s, .int .i64 p] w fun e w' => e = .returned (.bool true) ∧ Below w.heap.size w w' :=
  frameBack_walk10 frame10 (wakes10 frame10) w tab E Q t s p hp
end Go.Proofs.YtpjahfobjnajcaaDoor
