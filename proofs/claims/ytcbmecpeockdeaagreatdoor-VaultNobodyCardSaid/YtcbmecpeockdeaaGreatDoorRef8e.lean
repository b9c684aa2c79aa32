/- The document's own Boot, for every device and choice, in every world. -/
import Derived.Test.YtcbmecpeockdeaaGreatDoorMMap8
import Derived.BigQuiet
import Derived.RegionTactic
import Derived.BigRegion
import Derived.ChangeAlike
namespace Go.Proofs.YtcbmecpeockdeaaGreatDoor
open Go.RowKit

/-- A slice of bools, whose cells lie below block B. -/
def Bools (B : Nat) (w : World) (a : Option Addr) (xs : List Bool) : Prop :=
  xs = [] ∨ ∃ b off, a = some ⟨b, off, none⟩ ∧ b < B ∧ ∀ j, j < xs.length → w.cell? ⟨b, off + j, none⟩ = some (.bool (xs.getD j false))
theorem Bools.below {B : Nat} {w w' : World} {a : Option Addr} {xs : List Bool} (h : Bools B w a xs) (hb : Below B w w') : Bools B w' a xs := by
  rcases h with h | ⟨b, off, ha, hB, hc⟩
  · exact Or.inl h
  · exact Or.inr ⟨b, off, ha, hB, fun j hj => (hb.cell (p := ⟨b, off + j, none⟩) hB).trans (hc j hj)⟩
theorem looseTo_le (l : List Sec) (k : Nat) : looseTo l k ≤ k := by
  unfold looseTo
  have h1 := List.countP_le_length (p := Sec.loose) (l := l.take k)
  rw [List.length_take] at h1
  omega

end Go.Proofs.YtcbmecpeockdeaaGreatDoor
