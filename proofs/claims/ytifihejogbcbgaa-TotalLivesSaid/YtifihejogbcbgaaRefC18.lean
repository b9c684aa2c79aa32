/- The document's Fits and Decide: for every table and all facts, in every world. -/
import Derived.Test.YtifihejogbcbgaaRefB18
import Derived.Test.YtifihejogbcbgaaRf16
import Derived.Deep.RegionHeld3
import Derived.OwnWalk
import Derived.Deep.CutBlock
import Derived.Deep.DeepCutAuto
namespace Go.Proofs.Ytifihejogbcbgaa
open Go.RowKit

theorem Nums16.step {w W V : World} {a : Option Addr} {c : Nat} {ys : List Int} (h : Nums16 w W a c ys) (hb : Below W.heap.size W V) : Nums16 w V a c ys :=
  ⟨ownk_on h.own hb, h.below.trans (hb.mono h.below.size)⟩
/-- Facts in a box of their own. -/
theorem fact_box18 (w : World) (f : Fact18) : (w.alloc (.cells #[.int .i64 f.g, .bool f.v, .int .i64 f.n] 31)).heap[w.heap.size]? = some (.cells #[.int .i64 f.g, .bool f.v, .int .i64 f.n] 31 (0, 0)) := heap_alloc_new w _
end Go.Proofs.Ytifihejogbcbgaa
