/- What the walks of layer 16 want of quiz's five functions, for every slice of numbers and in every world. -/
import Derived.Test.YtkefbgjbgblalaaQz16
import Derived.Test.YtkefbgjbgblalaaSameInts
namespace Go.Proofs.Ytkefbgjbgblalaa
open Go.RowKit

/-- A slice of numbers and an error are told. -/
def Gives16 (w : World) (e : Ending) (w' : World) (ys : List Int) (E : Int) : Prop :=
  ∃ a c, e = .returned (.tuple #[.slice a ys.length c, .int .i64 E]) ∧ ys.length ≤ c ∧ Ints w'.heap.size w' a ys ∧ Below w.heap.size w w'
theorem lit16 (W : World) (o : Obj) : Below W.heap.size W (W.alloc o) := (Below.refl _ W).alloc (Nat.le_refl _) o
/-- A slice of numbers that came in: its length is no more than its capacity. -/
theorem ints_cap16 {H : Type} {enc : TypeId × Value → H} {base : Nat} {held : Bool} {t e : TypeId} {fuel : Nat} {a : Option Addr} {len cap : Nat} {W : World} {x : DataW H × List MemPlace} (ht : Try.prog.underlying t = some (.slice e)) (he : Try.prog.underlying e = some (.int .i64)) (hc : Try.prog.cellsOf e = 1)
    (h : DataW.trod enc Try.prog W base (fun _ => true) held fuel t (Value.slice a len cap).cells.toList = some x) :
    ∃ xs : List Int, xs.length = len ∧ len ≤ cap ∧ xs.length ≤ maxLen ∧ Ints W.heap.size W a xs := by
  obtain ⟨xs, h1, h2, h3, _⟩ := ints_of ht he hc h
  refine ⟨xs, h1, ?_, h2, h3⟩
  rcases ChangeShapes.open_ints ht he hc h with ⟨hcs, _⟩ | ⟨y, l, c, zs, hcs, _, hl, hm, hz, _, hcell, hwz⟩
  · simp [Value.cells] at hcs
    obtain ⟨_, rfl, rfl⟩ := hcs
    exact Nat.le_refl _
  · simp [Value.cells] at hcs
    obtain ⟨_, rfl, rfl⟩ := hcs
    first | exact hl | omega
end Go.Proofs.Ytkefbgjbgblalaa
