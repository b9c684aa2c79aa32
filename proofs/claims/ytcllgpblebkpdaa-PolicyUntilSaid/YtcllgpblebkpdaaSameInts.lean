/- Whether two rows of numbers are the same, for every row of numbers and in every world. -/
import Derived.Test.YtcllgpblebkpdaaInts
import Derived.Deep.QuietTactic
import Derived.BigQuiet
import Derived.Deep.CutBlock
import Derived.Lib.SmallJoins
namespace Go.Proofs.Ytcllgpblebkpdaa
open Go.RowKit

theorem drawn_below {B : Nat} {a w : World} (h : Below B a w) (n : Nat) : Below B a (w.drewN n) := ⟨h.os, h.tape, h.output, h.size, h.block⟩
/-! The document's Whole. -/
end Go.Proofs.Ytcllgpblebkpdaa
