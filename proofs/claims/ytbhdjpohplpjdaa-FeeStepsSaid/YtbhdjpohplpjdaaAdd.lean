/- Rows of numbers that come in, and the document's own Add, for every row of numbers and in every world. -/
import Derived.Test.YtbhdjpohplpjdaaQuo
import Derived.Test.YtbhdjpohplpjdaaInts
namespace Go.Proofs.Ytbhdjpohplpjdaa
open Go.RowKit

def addFrom (n : Int) : List Int → Option Int
  | [] => some n
  | x :: l => if inB x && inB (n + x) then addFrom (n + x) l else none
def addV (xs : List Int) : Int := (addFrom 0 xs).getD 0
def addE (xs : List Int) : Int := if (addFrom 0 xs).isSome then 0 else 8
theorem add_stop {xs : List Int} {k : Nat} {n : Int} (h : k < xs.length) (hr : addFrom n (xs.drop k) = addFrom 0 xs) (hs : (inB (numAt xs k) && inB (n + numAt xs k)) = false) : addV xs = 0 ∧ addE xs = 8 := by
  rw [drop_at xs k h] at hr
  simp only [addFrom, hs] at hr
  unfold addV addE; rw [← hr]; exact ⟨rfl, rfl⟩
theorem add_go {xs : List Int} {k : Nat} {n : Int} (h : k < xs.length) (hr : addFrom n (xs.drop k) = addFrom 0 xs) (hs : (inB (numAt xs k) && inB (n + numAt xs k)) = true) : addFrom (n + numAt xs k) (xs.drop (k + 1)) = addFrom 0 xs := by
  rw [drop_at xs k h] at hr
  simp only [addFrom, hs] at hr
  exact hr
theorem add_end {xs : List Int} {n : Int} (hr : addFrom n (xs.drop xs.length) = addFrom 0 xs) : addV xs = n ∧ addE xs = 0 := by
  rw [List.drop_length] at hr
  unfold addV addE; rw [← hr]; exact ⟨rfl, rfl⟩

end Go.Proofs.Ytbhdjpohplpjdaa
