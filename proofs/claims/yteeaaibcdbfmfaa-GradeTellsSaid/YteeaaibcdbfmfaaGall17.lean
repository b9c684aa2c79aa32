/- The four walks of layer 17, as the closings want them. -/
import Derived.Test.YteeaaibcdbfmfaaPrg17
import Derived.Test.YteeaaibcdbfmfaaSteps17
import Derived.Test.YteeaaibcdbfmfaaAll17
import Derived.Test.YteeaaibcdbfmfaaTwos
import Derived.Test.YteeaaibcdbfmfaaPrg16
namespace Go.Proofs.Yteeaaibcdbfmfaa
open Go.RowKit

theorem check17 : Check17 := fun a cap xs w hx hn => (pcheck16_any a cap xs _ w hx hn).mono fun _ _ h => ⟨h.1, h.2 ▸ Below.refl _ _⟩
theorem gradeTells_walk (w : World) (a : Option Addr) (cap : Nat) (xs : List Int) (hm : xs.length ≤ maxLen) (hx : Ints w.heap.size w a xs) (hc : xs.length ≤ cap) (s : Int) (hs : (Lit.int .i64 s).wf = true) (g : Int) (hg : (Lit.int .i64 g).wf = true) :
    Calls Try.prog 3 #[.slice a xs.length cap, .int .i64 s, .int .i64 g] w fun e w' => e = .returned (.bool true) ∧ Below w.heap.size w w' := gradeTells_from grade17 w a cap xs hm hx hc s hs g hg
theorem gradeCounts_walk (w : World) (a : Option Addr) (cap : Nat) (ks : List Int) (hm : ks.length ≤ maxLen) (hx : Ints w.heap.size w a ks) (hc : ks.length ≤ cap) (b : Option Addr) (cap' : Nat) (xs : List Int) (hm' : xs.length ≤ maxLen) (hf : Ints w.heap.size w b xs) (hc' : xs.length ≤ cap') :
    Calls Try.prog 4 #[.slice a ks.length cap, .slice b xs.length cap'] w fun e w' => e = .returned (.bool true) ∧ Below w.heap.size w w' := gradeCounts_from grade17 w a cap ks hm hx hc b cap' xs hm' hf hc'
theorem gradeSteps_walk (w : World) (a : Option Addr) (cap : Nat) (xs : List Int) (hm : xs.length ≤ maxLen) (hx : Ints w.heap.size w a xs) (hc : xs.length ≤ cap) (b : Option Addr) (cap' : Nat) (ys : List Int) (hm' : ys.length ≤ maxLen) (hf : Ints w.heap.size w b ys) (hc' : ys.length ≤ cap') (p q : Int) (hp : (Lit.int .i64 p).wf = true) (hq : (Lit.int .i64 q).wf = true) :
    Calls Try.prog 5 #[.slice a xs.length cap, .slice b ys.length cap', .agg #[.int .i64 p, .int .i64 q]] w fun e w' => e = .returned (.bool true) ∧ Below w.heap.size w w' := gradeSteps_from grade17 w a cap xs hm hx hc b cap' ys hm' hf hc' p q hp hq
theorem gradeAll_walk (w : World) (b : Option Addr) (cap' : Nat) (xs : List Int) (hm : xs.length ≤ maxLen) (hf : Ints w.heap.size w b xs) (hc : xs.length ≤ cap') (s : Int) (hs : (Lit.int .i64 s).wf = true) (a : Option Addr) (cap : Nat) (ks : List Int) (hm' : ks.length ≤ maxLen) (hx : Ints w.heap.size w a ks) (hc' : ks.length ≤ cap) :
    Calls Try.prog 6 #[.slice b xs.length cap', .int .i64 s, .slice a ks.length cap] w fun e w' => e = .returned (.bool true) ∧ Below w.heap.size w w' := gradeAll_from grade17 check17 w b cap' xs hm hf hc s hs a cap ks hm' hx hc'
end Go.Proofs.Yteeaaibcdbfmfaa
