/-
  No cell of these rows narrows 'for every input' (looked for: loops, veiled, ifaces, maps, wideKeys, modest, calm, conditions, laid).
  DERIVED. THE GIVEN ROWS OF THIS SEAT. 3 by the template 'for every input the law returns true; each argument reads behind the call as it read before'; 0 by the template 'total and deterministic' (their statements: YtkflpkcggjpbfaaTotals.lean).
  GIVEN WITH THE SEED: the statements are not yours to turn. If you find one false, say at which input.
  Laid BY PROGRAM, IN A SANDBOX (cutbox-rows.mjs): the forced cells as the released guide's own fill.sh prints them over the translation 18fdcce48a65d602… (all of the seat's roots in one cut). By AI agents, Wed Nov 11 2026. No macro, syntax, notation, axiom, sorry.
-/
import Derived.Test.YtkflpkcggjpbfaaChecked
import GoSem.Claim
import GoSem.ClaimJoined
import GoSem.ClaimMapViews
import Derived.JoinedTies
import Derived.KernelRfl
namespace Go.Proofs.Ytkflpkcggjpbfaa
/- THE CELL 'sum', in the pinned program and in every row, IS THE sha256 OF THE DUMP (.gsa) THAT YtkflpkcggjpbfaaProg.lean LOADS. Nothing in Lean hashes anything: it is a label: what it is worth is what the hold of that sum in a sandbox is worth. -/
noncomputable def Try.pinned : Pinned := { name := "ytkflpkcggjpbfaa", sum := "18fdcce48a65d60235103e5e575595d6268f4dc3cad0dec28028b3da1a405696", checked := Try.checked }
namespace Rows
def none {H : Type} : Left H := { results := [], args := [] }

/-- 'backhaullaw06.StrictReads': WHATEVER THE INPUT: true; the input reads as it did. -/
def strictReadsSpec : ChangeSpec := { name := "strictReads", fn := fun _ => fun
  | [d1, d2] => { results := [.lit (.bool true)], args := [d1, d2] }
  | _ => none }
def strictReadsRow : OpenClaim := { program := "ytkflpkcggjpbfaa", sum := "18fdcce48a65d60235103e5e575595d6268f4dc3cad0dec28028b3da1a405696", func := "backhaul/backhaullaw06.StrictReads", spec := "strictReads", unfollowed := true, recurses := true, apart := false }
def StrictReadsSaid : Prop := strictReadsRow.holds Try.pinned (OpenSpec.ofChange strictReadsSpec)

/-- ITS FALSE NEIGHBOUR: 'it returns false'. Refute it at one input. -/
def strictReadsWrong : ChangeSpec := { name := "strictReads", fn := fun _ => fun
  | [d1, d2] => { results := [.lit (.bool false)], args := [d1, d2] }
  | _ => none }
def StrictReadsWrongFalsely : Prop := strictReadsRow.holds Try.pinned (OpenSpec.ofChange strictReadsWrong)

/-- 'backhaullaw06.StrictFirst': WHATEVER THE INPUT: true; the input reads as it did. -/
def strictFirstSpec : ChangeSpec := { name := "strictFirst", fn := fun _ => fun
  | [d1, d2, d3] => { results := [.lit (.bool true)], args := [d1, d2, d3] }
  | _ => none }
def strictFirstRow : OpenClaim := { program := "ytkflpkcggjpbfaa", sum := "18fdcce48a65d60235103e5e575595d6268f4dc3cad0dec28028b3da1a405696", func := "backhaul/backhaullaw06.StrictFirst", spec := "strictFirst", unfollowed := true, recurses := true, apart := false }
def StrictFirstSaid : Prop := strictFirstRow.holds Try.pinned (OpenSpec.ofChange strictFirstSpec)

/-- ITS FALSE NEIGHBOUR: 'it returns false'. Refute it at one input. -/
def strictFirstWrong : ChangeSpec := { name := "strictFirst", fn := fun _ => fun
  | [d1, d2, d3] => { results := [.lit (.bool false)], args := [d1, d2, d3] }
  | _ => none }
def StrictFirstWrongFalsely : Prop := strictFirstRow.holds Try.pinned (OpenSpec.ofChange strictFirstWrong)

/-- 'backhaullaw06.StrictWhole': WHATEVER THE INPUT: true; the input reads as it did. -/
def strictWholeSpec : ChangeSpec := { name := "strictWhole", fn := fun _ => fun
  | [d1, d2] => { results := [.lit (.bool true)], args := [d1, d2] }
  | _ => none }
def strictWholeRow : OpenClaim := { program := "ytkflpkcggjpbfaa", sum := "18fdcce48a65d60235103e5e575595d6268f4dc3cad0dec28028b3da1a405696", func := "backhaul/backhaullaw06.StrictWhole", spec := "strictWhole", inPlace := ["internal/abi.NoEscape"], unfollowed := true, recurses := true, apart := false }
def StrictWholeSaid : Prop := strictWholeRow.holds Try.pinned (OpenSpec.ofChange strictWholeSpec)

/-- ITS FALSE NEIGHBOUR: 'it returns false'. Refute it at one input. -/
def strictWholeWrong : ChangeSpec := { name := "strictWhole", fn := fun _ => fun
  | [d1, d2] => { results := [.lit (.bool false)], args := [d1, d2] }
  | _ => none }
def StrictWholeWrongFalsely : Prop := strictWholeRow.holds Try.pinned (OpenSpec.ofChange strictWholeWrong)

/- THE SECOND FORM. 'bulk': how many values and letters a reading holds, each counted each time it is reached (what is shared counts as often as it is met; a slice's spare places count too). A statement '..UptoSaid' is the law's where the arguments, and the package variables that the reading takes, are together of bulk at most 1048576: NARROWER than '..Said'. Prove '..Said' where nothing that the law and all that it calls make is longer than what came in: it says more and counts as full. Else prove '..UptoSaid'. A law counts once. -/
mutual
def uptoBulk {H : Type} : DataW H → Nat
  | .lit (.string bytes) => bytes.length + 1
  | .lit _ => 1
  | .nil => 1
  | .ptr d => uptoBulk d + 1
  | .slice elems spare => uptoBulkAll elems + uptoBulkAll spare + 1
  | .agg parts => uptoBulkAll parts + 1
  | .iface _ d => uptoBulk d + 1
  | .map entries => uptoBulkEntries entries + 1
  | .held _ => 1
def uptoBulkAll {H : Type} : List (DataW H) → Nat
  | [] => 0
  | d :: r => uptoBulk d + uptoBulkAll r
def uptoBulkEntries {H : Type} : List (Lit × DataW H) → Nat
  | [] => 0
  | x :: r => uptoBulkEntry x + uptoBulkEntries r
def uptoBulkEntry {H : Type} : Lit × DataW H → Nat
  | (.string bytes, d) => bytes.length + uptoBulk d + 1
  | (_, d) => uptoBulk d + 1
 end
def uptoSmall : (H : Type) → List (DataW H) → Bool := fun _ ds => decide (uptoBulkAll ds ≤ 1048576)
def OpenSpec.upto (s : _root_.Go.ChangeSpec) : _root_.Go.OpenSpec := { _root_.Go.OpenSpec.ofChange s with cond := some uptoSmall }

/-- 'backhaullaw06.StrictReads', WHERE WHAT IT READS IS OF BULK AT MOST 1048576: true; the input reads as it did. -/
def strictReadsUptoRow : OpenClaim := { program := "ytkflpkcggjpbfaa", sum := "18fdcce48a65d60235103e5e575595d6268f4dc3cad0dec28028b3da1a405696", func := "backhaul/backhaullaw06.StrictReads", spec := "strictReads", unfollowed := true, recurses := true, apart := false, narrowed := true }
def StrictReadsUptoSaid : Prop := strictReadsUptoRow.holds Try.pinned (OpenSpec.upto strictReadsSpec)

/-- 'backhaullaw06.StrictFirst', WHERE WHAT IT READS IS OF BULK AT MOST 1048576: true; the input reads as it did. -/
def strictFirstUptoRow : OpenClaim := { program := "ytkflpkcggjpbfaa", sum := "18fdcce48a65d60235103e5e575595d6268f4dc3cad0dec28028b3da1a405696", func := "backhaul/backhaullaw06.StrictFirst", spec := "strictFirst", unfollowed := true, recurses := true, apart := false, narrowed := true }
def StrictFirstUptoSaid : Prop := strictFirstUptoRow.holds Try.pinned (OpenSpec.upto strictFirstSpec)

/-- 'backhaullaw06.StrictWhole', WHERE WHAT IT READS IS OF BULK AT MOST 1048576: true; the input reads as it did. -/
def strictWholeUptoRow : OpenClaim := { program := "ytkflpkcggjpbfaa", sum := "18fdcce48a65d60235103e5e575595d6268f4dc3cad0dec28028b3da1a405696", func := "backhaul/backhaullaw06.StrictWhole", spec := "strictWhole", inPlace := ["internal/abi.NoEscape"], unfollowed := true, recurses := true, apart := false, narrowed := true }
def StrictWholeUptoSaid : Prop := strictWholeUptoRow.holds Try.pinned (OpenSpec.upto strictWholeSpec)

end Rows
end Go.Proofs.Ytkflpkcggjpbfaa
