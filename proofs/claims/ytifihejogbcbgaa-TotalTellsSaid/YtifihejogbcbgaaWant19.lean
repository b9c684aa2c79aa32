/- What the walks of layer 19 want of rule's and of total's functions. -/
import Derived.Test.YtifihejogbcbgaaTo19
import Derived.Test.YtifihejogbcbgaaWant18
namespace Go.Proofs.Ytifihejogbcbgaa
open Go.RowKit

/-- Of rule's functions. -/
structure Rule19 : Prop where
  check : ∀ (a : Option Addr) (cap : Nat) (l : List Row18) (w : World), l.length ≤ cap → RowsIn w.heap.size w a l → l.length ≤ 1000000 →
    Calls Try.prog 18 #[.slice a l.length cap] w fun e w' => e = .returned (.int .i64 (tabE l)) ∧ Below w.heap.size w w'
  fact : ∀ (f : Fact18) (w : World), Calls Try.prog 20 #[factVal f] w fun e w' => e = .returned (.int .i64 (factE f)) ∧ Below w.heap.size w w'
  decide : ∀ (a : Option Addr) (cap : Nat) (l : List Row18) (f : Fact18) (w : World), l.length ≤ cap → RowsIn w.heap.size w a l → l.length ≤ 1000000 →
    Calls Try.prog 19 #[.slice a l.length cap, factVal f] w fun e w' => e = .returned (.tuple #[.int .i64 (decWay l f), .int .i64 (decAt l f), .int .i64 (decE l f)]) ∧ Below w.heap.size w w'
structure Total19 : Prop where
  gap : ∀ (a : Option Addr) (cap : Nat) (l : List Row18) (w : World), l.length ≤ cap → RowsIn w.heap.size w a l → l.length ≤ 1000000 →
    Calls Try.prog 8 #[.slice a l.length cap] w fun e w' => e = .returned (.tuple #[factVal (gapF l), .bool (gapB l)]) ∧ Below w.heap.size w w'
  whole : ∀ (a : Option Addr) (cap : Nat) (l : List Row18) (w : World), l.length ≤ cap → RowsIn w.heap.size w a l → l.length ≤ 1000000 →
    Calls Try.prog 12 #[.slice a l.length cap] w fun e w' => e = .returned (.bool (!gapB l)) ∧ Below w.heap.size w w'
  dead : ∀ (a : Option Addr) (cap : Nat) (l : List Row18) (w : World), l.length ≤ cap → RowsIn w.heap.size w a l → l.length ≤ 1000000 →
    Calls Try.prog 14 #[.slice a l.length cap] w fun e w' => ∃ b c, e = .returned (.slice b (deadV l).length c) ∧ (deadV l).length ≤ c ∧ Ints w'.heap.size w' b (deadV l) ∧ Below w.heap.size w w'
  cells : ∀ (a : Option Addr) (cap : Nat) (l : List Row18) (w : World), l.length ≤ cap → RowsIn w.heap.size w a l → l.length ≤ 1000000 →
    Calls Try.prog 10 #[.slice a l.length cap] w fun e w' => e = .returned (.tuple #[.agg #[.int .i64 (cellV l 0), .int .i64 (cellV l 1), .int .i64 (cellV l 2), .int .i64 (cellV l 3), .int .i64 (cellV l 4), .int .i64 (cellV l 5), .int .i64 (cellV l 6), .int .i64 (cellV l 7)], .int .i64 (tabE l)]) ∧ Below w.heap.size w w'
end Go.Proofs.Ytifihejogbcbgaa
