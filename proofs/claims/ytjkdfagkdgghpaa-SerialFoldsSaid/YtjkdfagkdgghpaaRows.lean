/-
  No cell of these rows narrows 'for every input' (looked for: loops, veiled, ifaces, maps, wideKeys, modest, calm, conditions, laid).
  DERIVED. THE GIVEN ROWS OF THIS SEAT. 5 by the template 'for every input the law returns true; each argument reads behind the call as it read before'; 0 by the template 'total and deterministic' (their statements: YtjkdfagkdgghpaaTotals.lean).
  GIVEN WITH THE SEED: the statements are not yours to turn. If you find one false, say at which input.
  Laid BY PROGRAM, IN A SANDBOX (cutbox-rows.mjs): the forced cells as the released guide's own fill.sh prints them over the translation c4083cc489cca5c8… (all of the seat's roots in one cut). By AI agents, Wed Nov 11 2026. No macro, syntax, notation, axiom, sorry.
-/
import Derived.Test.YtjkdfagkdgghpaaChecked
import GoSem.Claim
import GoSem.ClaimJoined
import GoSem.ClaimMapViews
import Derived.JoinedTies
import Derived.KernelRfl
namespace Go.Proofs.Ytjkdfagkdgghpaa
/- THE CELL 'sum', in the pinned program and in every row, IS THE sha256 OF THE DUMP (.gsa) THAT YtjkdfagkdgghpaaProg.lean LOADS. Nothing in Lean hashes anything: it is a label: what it is worth is what the hold of that sum in a sandbox is worth. -/
noncomputable def Try.pinned : Pinned := { name := "ytjkdfagkdgghpaa", sum := "c4083cc489cca5c8c07d516bf15b9dde50bb26299b07af4a5918c7040e2142ef", checked := Try.checked }
namespace Rows
def none {H : Type} : Left H := { results := [], args := [] }

/-- 'backhaullaw01.SerialRunes': WHATEVER THE INPUT: true; the input reads as it did. -/
def serialRunesSpec : ChangeSpec := { name := "serialRunes", fn := fun _ => fun
  | [d] => { results := [.lit (.bool true)], args := [d] }
  | _ => none }
def serialRunesRow : OpenClaim := { program := "ytjkdfagkdgghpaa", sum := "c4083cc489cca5c8c07d516bf15b9dde50bb26299b07af4a5918c7040e2142ef", func := "backhaul/backhaullaw01.SerialRunes", spec := "serialRunes", inPlace := ["internal/abi.NoEscape"], unfollowed := true, recurses := true, apart := false }
def SerialRunesSaid : Prop := serialRunesRow.holds Try.pinned (OpenSpec.ofChange serialRunesSpec)

/-- ITS FALSE NEIGHBOUR: 'it returns false'. Refute it at one input. -/
def serialRunesWrong : ChangeSpec := { name := "serialRunes", fn := fun _ => fun
  | [d] => { results := [.lit (.bool false)], args := [d] }
  | _ => none }
def SerialRunesWrongFalsely : Prop := serialRunesRow.holds Try.pinned (OpenSpec.ofChange serialRunesWrong)

/-- 'backhaullaw01.SerialTexts': WHATEVER THE INPUT: true; the input reads as it did. -/
def serialTextsSpec : ChangeSpec := { name := "serialTexts", fn := fun _ => fun
  | [d] => { results := [.lit (.bool true)], args := [d] }
  | _ => none }
def serialTextsRow : OpenClaim := { program := "ytjkdfagkdgghpaa", sum := "c4083cc489cca5c8c07d516bf15b9dde50bb26299b07af4a5918c7040e2142ef", func := "backhaul/backhaullaw01.SerialTexts", spec := "serialTexts", inPlace := ["internal/abi.NoEscape"], unfollowed := true, recurses := true, apart := false }
def SerialTextsSaid : Prop := serialTextsRow.holds Try.pinned (OpenSpec.ofChange serialTextsSpec)

/-- ITS FALSE NEIGHBOUR: 'it returns false'. Refute it at one input. -/
def serialTextsWrong : ChangeSpec := { name := "serialTexts", fn := fun _ => fun
  | [d] => { results := [.lit (.bool false)], args := [d] }
  | _ => none }
def SerialTextsWrongFalsely : Prop := serialTextsRow.holds Try.pinned (OpenSpec.ofChange serialTextsWrong)

/-- 'backhaullaw01.SerialRows': WHATEVER THE INPUT: true; the input reads as it did. -/
def serialRowsSpec : ChangeSpec := { name := "serialRows", fn := fun _ => fun
  | [d1, d2] => { results := [.lit (.bool true)], args := [d1, d2] }
  | _ => none }
def serialRowsRow : OpenClaim := { program := "ytjkdfagkdgghpaa", sum := "c4083cc489cca5c8c07d516bf15b9dde50bb26299b07af4a5918c7040e2142ef", func := "backhaul/backhaullaw01.SerialRows", spec := "serialRows", inPlace := ["internal/abi.NoEscape"], unfollowed := true, recurses := true, apart := false }
def SerialRowsSaid : Prop := serialRowsRow.holds Try.pinned (OpenSpec.ofChange serialRowsSpec)

/-- ITS FALSE NEIGHBOUR: 'it returns false'. Refute it at one input. -/
def serialRowsWrong : ChangeSpec := { name := "serialRows", fn := fun _ => fun
  | [d1, d2] => { results := [.lit (.bool false)], args := [d1, d2] }
  | _ => none }
def SerialRowsWrongFalsely : Prop := serialRowsRow.holds Try.pinned (OpenSpec.ofChange serialRowsWrong)

/-- 'backhaullaw01.SerialFolds': WHATEVER THE INPUT: true; the input reads as it did. -/
def serialFoldsSpec : ChangeSpec := { name := "serialFolds", fn := fun _ => fun
  | [d1, d2] => { results := [.lit (.bool true)], args := [d1, d2] }
  | _ => none }
def serialFoldsRow : OpenClaim := { program := "ytjkdfagkdgghpaa", sum := "c4083cc489cca5c8c07d516bf15b9dde50bb26299b07af4a5918c7040e2142ef", func := "backhaul/backhaullaw01.SerialFolds", spec := "serialFolds", inPlace := ["internal/abi.NoEscape"], unfollowed := true, recurses := true, apart := false }
def SerialFoldsSaid : Prop := serialFoldsRow.holds Try.pinned (OpenSpec.ofChange serialFoldsSpec)

/-- ITS FALSE NEIGHBOUR: 'it returns false'. Refute it at one input. -/
def serialFoldsWrong : ChangeSpec := { name := "serialFolds", fn := fun _ => fun
  | [d1, d2] => { results := [.lit (.bool false)], args := [d1, d2] }
  | _ => none }
def SerialFoldsWrongFalsely : Prop := serialFoldsRow.holds Try.pinned (OpenSpec.ofChange serialFoldsWrong)

/-- 'backhaullaw01.SerialMarks': WHATEVER THE INPUT: true; the input reads as it did. -/
def serialMarksSpec : ChangeSpec := { name := "serialMarks", fn := fun _ => fun
  | [d1, d2, d3] => { results := [.lit (.bool true)], args := [d1, d2, d3] }
  | _ => none }
def serialMarksRow : OpenClaim := { program := "ytjkdfagkdgghpaa", sum := "c4083cc489cca5c8c07d516bf15b9dde50bb26299b07af4a5918c7040e2142ef", func := "backhaul/backhaullaw01.SerialMarks", spec := "serialMarks", inPlace := ["internal/abi.NoEscape"], unfollowed := true, recurses := true, apart := false }
def SerialMarksSaid : Prop := serialMarksRow.holds Try.pinned (OpenSpec.ofChange serialMarksSpec)

/-- ITS FALSE NEIGHBOUR: 'it returns false'. Refute it at one input. -/
def serialMarksWrong : ChangeSpec := { name := "serialMarks", fn := fun _ => fun
  | [d1, d2, d3] => { results := [.lit (.bool false)], args := [d1, d2, d3] }
  | _ => none }
def SerialMarksWrongFalsely : Prop := serialMarksRow.holds Try.pinned (OpenSpec.ofChange serialMarksWrong)

/- THE SECOND FORM. 'bulk': how many values and letters a reading holds, each counted each time it is reached (what is shared counts as often as it is met; a slice's spare places count too). A statement '..UptoSaid' is the law's where the arguments, and the package variables that the reading takes, are together of bulk at most 1048576: NARROWER than '..Said'. Prove '..Said' where nothing that the law and all that it calls make is longer than what came in: it says more and counts as full. Else prove '..UptoSaid'. A law counts once. -/
mutual
def uptoBulk {H : Type} : DataW H → Nat
  | .lit (.string bytes) => bytes.length + 1
  | .lit _ => 1
  | .nil => 1
  | .ptr d => uptoBulk d + 1
  | .slice elems spare => uptoBulkAll elems + uptoBulkAll spare + 1
  | .agg parts => uptoBulkAll parts + 1
  | .iface _ d => uptoBulk d + 1
  | .map entries => uptoBulkEntries entries + 1
  | .held _ => 1
def uptoBulkAll {H : Type} : List (DataW H) → Nat
  | [] => 0
  | d :: r => uptoBulk d + uptoBulkAll r
def uptoBulkEntries {H : Type} : List (Lit × DataW H) → Nat
  | [] => 0
  | x :: r => uptoBulkEntry x + uptoBulkEntries r
def uptoBulkEntry {H : Type} : Lit × DataW H → Nat
  | (.string bytes, d) => bytes.length + uptoBulk d + 1
  | (_, d) => uptoBulk d + 1
 end
def uptoSmall : (H : Type) → List (DataW H) → Bool := fun _ ds => decide (uptoBulkAll ds ≤ 1048576)
def OpenSpec.upto (s : _root_.Go.ChangeSpec) : _root_.Go.OpenSpec := { _root_.Go.OpenSpec.ofChange s with cond := some uptoSmall }

/-- 'backhaullaw01.SerialRunes', WHERE WHAT IT READS IS OF BULK AT MOST 1048576: true; the input reads as it did. -/
def serialRunesUptoRow : OpenClaim := { program := "ytjkdfagkdgghpaa", sum := "c4083cc489cca5c8c07d516bf15b9dde50bb26299b07af4a5918c7040e2142ef", func := "backhaul/backhaullaw01.SerialRunes", spec := "serialRunes", inPlace := ["internal/abi.NoEscape"], unfollowed := true, recurses := true, apart := false, narrowed := true }
def SerialRunesUptoSaid : Prop := serialRunesUptoRow.holds Try.pinned (OpenSpec.upto serialRunesSpec)

/-- 'backhaullaw01.SerialTexts', WHERE WHAT IT READS IS OF BULK AT MOST 1048576: true; the input reads as it did. -/
def serialTextsUptoRow : OpenClaim := { program := "ytjkdfagkdgghpaa", sum := "c4083cc489cca5c8c07d516bf15b9dde50bb26299b07af4a5918c7040e2142ef", func := "backhaul/backhaullaw01.SerialTexts", spec := "serialTexts", inPlace := ["internal/abi.NoEscape"], unfollowed := true, recurses := true, apart := false, narrowed := true }
def SerialTextsUptoSaid : Prop := serialTextsUptoRow.holds Try.pinned (OpenSpec.upto serialTextsSpec)

/-- 'backhaullaw01.SerialRows', WHERE WHAT IT READS IS OF BULK AT MOST 1048576: true; the input reads as it did. -/
def serialRowsUptoRow : OpenClaim := { program := "ytjkdfagkdgghpaa", sum := "c4083cc489cca5c8c07d516bf15b9dde50bb26299b07af4a5918c7040e2142ef", func := "backhaul/backhaullaw01.SerialRows", spec := "serialRows", inPlace := ["internal/abi.NoEscape"], unfollowed := true, recurses := true, apart := false, narrowed := true }
def SerialRowsUptoSaid : Prop := serialRowsUptoRow.holds Try.pinned (OpenSpec.upto serialRowsSpec)

/-- 'backhaullaw01.SerialFolds', WHERE WHAT IT READS IS OF BULK AT MOST 1048576: true; the input reads as it did. -/
def serialFoldsUptoRow : OpenClaim := { program := "ytjkdfagkdgghpaa", sum := "c4083cc489cca5c8c07d516bf15b9dde50bb26299b07af4a5918c7040e2142ef", func := "backhaul/backhaullaw01.SerialFolds", spec := "serialFolds", inPlace := ["internal/abi.NoEscape"], unfollowed := true, recurses := true, apart := false, narrowed := true }
def SerialFoldsUptoSaid : Prop := serialFoldsUptoRow.holds Try.pinned (OpenSpec.upto serialFoldsSpec)

/-- 'backhaullaw01.SerialMarks', WHERE WHAT IT READS IS OF BULK AT MOST 1048576: true; the input reads as it did. -/
def serialMarksUptoRow : OpenClaim := { program := "ytjkdfagkdgghpaa", sum := "c4083cc489cca5c8c07d516bf15b9dde50bb26299b07af4a5918c7040e2142ef", func := "backhaul/backhaullaw01.SerialMarks", spec := "serialMarks", inPlace := ["internal/abi.NoEscape"], unfollowed := true, recurses := true, apart := false, narrowed := true }
def SerialMarksUptoSaid : Prop := serialMarksUptoRow.holds Try.pinned (OpenSpec.upto serialMarksSpec)

end Rows
end Go.Proofs.Ytjkdfagkdgghpaa
