/- The three walks of layer 20, as the closings want them. -/
import Derived.Test.YtcllgpblebkpdaaPrg20
import Derived.Test.YtcllgpblebkpdaaTells20
import Derived.Test.YtcllgpblebkpdaaUntil20
import Derived.Test.YtcllgpblebkpdaaTimes20
import Derived.Test.YtcllgpblebkpdaaArg20
import Derived.Test.YtcllgpblebkpdaaTwos
namespace Go.Proofs.Ytcllgpblebkpdaa
open Go.RowKit

theorem policyTells_walk (w : World) (i : Item20) (a : Int) (ha : (Lit.int .i64 a).wf = true) (n : Int) (hn : (Lit.int .i64 n).wf = true) :
    Calls Try.prog 3 #[itemVal i, .int .i64 a, .int .i64 n] w fun e w' => e = .returned (.bool true) ∧ Below w.heap.size w w' := policyTells_from policy20 w i a n ha hn
theorem policyTimes_walk (w : World) (i : Item20) (a : Int) (ha : (Lit.int .i64 a).wf = true) (s t : Int) (hs : (Lit.int .i64 s).wf = true) (ht : (Lit.int .i64 t).wf = true) :
    Calls Try.prog 4 #[itemVal i, .int .i64 a, .agg #[.int .i64 s, .int .i64 t]] w fun e w' => e = .returned (.bool true) ∧ Below w.heap.size w w' := policyTimes_from policy20 w i a ha s t hs ht
theorem policyUntil_walk (w : World) (i : Item20) (a : Int) (ha : (Lit.int .i64 a).wf = true) (n : Int) (hn : (Lit.int .i64 n).wf = true) :
    Calls Try.prog 5 #[itemVal i, .int .i64 a, .int .i64 n] w fun e w' => e = .returned (.bool true) ∧ Below w.heap.size w w' := policyUntil_from policy20 w i a n ha hn
end Go.Proofs.Ytcllgpblebkpdaa
