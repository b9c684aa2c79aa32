/- The walks of layer 16's laws, from what is wanted of quiz's functions. -/
import Derived.Test.YtifihejogbcbgaaRf16
namespace Go.Proofs.Ytifihejogbcbgaa
open Go.RowKit

/-- The arguments, as they stand in a later world. -/
structure At16 (w W : World) (a : Option Addr) (xs : List Int) (b : Option Addr) (fs : List Int) : Prop where
  below : Below w.heap.size w W
  one : Ints W.heap.size W a xs
  two : Ints W.heap.size W b fs
theorem At16.step {w W W' : World} {a b : Option Addr} {xs fs : List Int} (h : At16 w W a xs b fs) (hb : Below W.heap.size W W') : At16 w W' a xs b fs :=
  ⟨h.below.trans (hb.mono h.below.size), h.one.step hb, h.two.step hb⟩
theorem drawn16 (W : World) (m : Nat) : Below W.heap.size W (W.drewN m) := drawn_below (Below.refl _ _) m
end Go.Proofs.Ytifihejogbcbgaa
