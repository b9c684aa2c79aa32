/- The document's own Row and Unrow, for every row of numbers and place, in every world. -/
import Derived.Test.YtpjahfobjnajcaaDoorTexts5
import Derived.Test.YtpjahfobjnajcaaDoorOwn
namespace Go.Proofs.YtpjahfobjnajcaaDoor
open Go.RowKit

theorem put_two {x : Int} (hw : wideW x) (n : Int) : putE n x = 0 ∨ putE n x = 8 := by
  unfold putE; rw [if_pos hw]; split
  · exact Or.inl rfl
  · exact Or.inr rfl
theorem put_len {n x : Int} (h : putE n x = 0) : (putL n x).length = x.toNat := by unfold putL; rw [if_pos h, be_len]
theorem flat_take (w : Nat) (l : List Int) (k : Nat) (h : k < l.length) : flat w (l.take (k + 1)) = flat w (l.take k) ++ be w (numAt l k).toNat := by
  rw [take_more l k h, flat_more]
  simp [flat]

end Go.Proofs.YtpjahfobjnajcaaDoor
