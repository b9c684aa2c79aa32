/- Rows of texts: what the plain words say of them, and serial.Row and the document's own Row, for every row of texts. -/
import Derived.Test.YtkflpkcggjpbfaaRefc
import Derived.WalkLawsBesides
import Derived.WalkSpells
import Derived.Deep.QuietTactic
import Derived.BigQuiet
namespace Go.Proofs.Ytkflpkcggjpbfaa
open Go.RowKit

theorem below_drewN {B : Nat} {a w : World} (h : Below B a w) (n : Nat) : Below B a (w.drewN n) := ⟨h.os, h.tape, h.output, h.size, h.block⟩
def ltS (a b : ByteArray) : Bool := Op.bytesLess a.toList b.toList
def eqS (a b : ByteArray) : Bool := a.toList == b.toList
def textAt (xs : List ByteArray) (i : Nat) : ByteArray := xs.getD i ByteArray.empty
/-- What is wrong with the text at a place, of those behind it nothing is asked. -/
def stepOf (xs : List ByteArray) (i : Nat) : Int :=
  if checkOf (textAt xs i).data.toList = 9 then 9 else if 0 < i ∧ (Op.bytesLess (textAt xs i).toList (textAt xs (i - 1)).toList || (textAt xs i).toList == (textAt xs (i - 1)).toList) = true then 32 else 0
def rowFrom (xs : List ByteArray) : Nat → Nat → Int
  | 0, _ => 0
  | n + 1, i => if stepOf xs i = 0 then rowFrom xs n (i + 1) else stepOf xs i
def rowOf (xs : List ByteArray) : Int := rowFrom xs xs.length 0

theorem check_two (l : List UInt8) : checkOf l = 0 ∨ checkOf l = 9 := by unfold checkOf; split <;> simp
theorem rowFrom_stop (xs : List ByteArray) (n i : Nat) (h : 0 < n) (hs : stepOf xs i ≠ 0) : rowFrom xs n i = stepOf xs i := by
  obtain ⟨m, rfl⟩ : ∃ m, n = m + 1 := ⟨n - 1, by omega⟩
  simp only [rowFrom]; rw [if_neg hs]
theorem rowFrom_go (xs : List ByteArray) (n i : Nat) (h : 0 < n) (hs : stepOf xs i = 0) : rowFrom xs n i = rowFrom xs (n - 1) (i + 1) := by
  obtain ⟨m, rfl⟩ : ∃ m, n = m + 1 := ⟨n - 1, by omega⟩
  simp only [rowFrom]; rw [if_pos hs]; rfl

/-- A slice value whose elements are just these texts; its cells lie below block B. -/
def Texts (B : Nat) (w : World) (a : Option Addr) (xs : List ByteArray) : Prop :=
  xs = [] ∨ ∃ b off, a = some ⟨b, off, none⟩ ∧ b < B ∧ ∀ j, j < xs.length → w.cell? ⟨b, off + j, none⟩ = some (.string (textAt xs j))
theorem Texts.below {B : Nat} {w w' : World} {a : Option Addr} {xs : List ByteArray} (h : Texts B w a xs) (hb : Below B w w') : Texts B w' a xs := by
  rcases h with h | ⟨b, off, ha, hB, hc⟩
  · exact Or.inl h
  · exact Or.inr ⟨b, off, ha, hB, fun j hj => (hb.cell (p := ⟨b, off + j, none⟩) hB).trans (hc j hj)⟩

end Go.Proofs.Ytkflpkcggjpbfaa
