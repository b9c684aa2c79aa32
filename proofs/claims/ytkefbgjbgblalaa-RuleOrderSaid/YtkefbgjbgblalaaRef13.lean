/- The document's own lists with one more, another one, one less, and their last ones: for every list of texts, in every world. -/
import Derived.Test.YtkefbgjbgblalaaRw13
import Derived.Test.YtkefbgjbgblalaaRow13
namespace Go.Proofs.Ytkefbgjbgblalaa
open Go.RowKit

theorem rowAt_get (xs : List (List UInt8)) (k : Nat) (h : k < xs.length) : xs[k]? = some (rowAt xs k) := by
  unfold rowAt
  rw [List.getElem?_eq_getElem h, List.getD_eq_getElem?_getD, List.getElem?_eq_getElem h]
  rfl
/-- A list of texts of the call's own, under way. -/
structure Out13 (w W : World) (a : Option Addr) (c : Nat) (ys : List (List UInt8)) : Prop where
  own : W.ownsRow w.heap.size 9 1 (.slice a ys.length c) ys.length (txCells ys)
  below : Below w.heap.size w W
theorem Out13.start (w : World) : Out13 w w none 0 [] := ⟨World.ownsRow_nil _ _ _ _, Below.refl _ _⟩
/-- What a call of such a list tells. -/
def Tells13 (w : World) (e : Ending) (w' : World) (ys : List (List UInt8)) : Prop :=
  ∃ a c, e = .returned (.slice a ys.length c) ∧ ys.length ≤ c ∧ Txs w.heap.size w'.heap.size w' a ys ∧ Below w.heap.size w w'
def Gives13 (w : World) (e : Ending) (w' : World) (ys : List (List UInt8)) (E : Int) : Prop :=
  ∃ a c, e = .returned (.tuple #[.slice a ys.length c, .int .i64 E]) ∧ ys.length ≤ c ∧ Txs w.heap.size w'.heap.size w' a ys ∧ Below w.heap.size w w'
theorem Out13.txs {w W : World} {a : Option Addr} {c : Nat} {ys : List (List UInt8)} (h : Out13 w W a c ys) : ys.length ≤ c ∧ Txs w.heap.size W.heap.size W a ys := by
  obtain ⟨a', c', hv, hc, ht⟩ := txs_own h.own
  injection hv with h1 _ h3
  subst h1 h3
  exact ⟨hc, ht⟩
theorem txCells_append (xs ys : List (List UInt8)) : txCells xs ++ txCells ys = txCells (xs ++ ys) := by unfold txCells; simp
theorem txCells_set (xs : List (List UInt8)) (k : Nat) (v : List UInt8) : (txCells xs).set k (.string (tx v)) = txCells (xs.set k v) := by unfold txCells; rw [List.map_set]
theorem txCells_one (xs : List (List UInt8)) : ∀ u ∈ txCells xs, u.oneCell' = true := by
  unfold txCells
  intro u hu
  obtain ⟨x, _, rfl⟩ := List.mem_map.1 hu
  rfl
end Go.Proofs.Ytkefbgjbgblalaa
