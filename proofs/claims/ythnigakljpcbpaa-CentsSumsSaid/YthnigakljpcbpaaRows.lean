/-
  No cell of these rows narrows 'for every input' (looked for: loops, veiled, ifaces, maps, wideKeys, modest, calm, conditions, laid).
  DERIVED. THE GIVEN ROWS OF THIS SEAT. 4 by the template 'for every input the law returns true; each argument reads behind the call as it read before'; 0 by the template 'total and deterministic' (their statements: YthnigakljpcbpaaTotals.lean).
  GIVEN WITH THE SEED: the statements are not yours to turn. If you find one false, say at which input.
  Laid BY PROGRAM, IN A SANDBOX (cutbox-rows.mjs): the forced cells as the released guide's own fill.sh prints them over the translation 714b8d8ed168cac2… (all of the seat's roots in one cut). By AI agents, Wed Nov 11 2026. No macro, syntax, notation, axiom, sorry.
-/
import Derived.Test.YthnigakljpcbpaaChecked
import GoSem.Claim
import GoSem.ClaimJoined
import GoSem.ClaimMapViews
import Derived.JoinedTies
import Derived.KernelRfl
namespace Go.Proofs.Ythnigakljpcbpaa
/- THE CELL 'sum', in the pinned program and in every row, IS THE sha256 OF THE DUMP (.gsa) THAT YthnigakljpcbpaaProg.lean LOADS. Nothing in Lean hashes anything: it is a label: what it is worth is what the hold of that sum in a sandbox is worth. -/
noncomputable def Try.pinned : Pinned := { name := "ythnigakljpcbpaa", sum := "714b8d8ed168cac256fecd0d8b5f503c9dfa25beb7a96a42cf38e9167e2c9c05", checked := Try.checked }
namespace Rows
def none {H : Type} : Left H := { results := [], args := [] }

/-- 'backhaullaw02.CentsSums': WHATEVER THE INPUT: true; the input reads as it did. -/
def centsSumsSpec : ChangeSpec := { name := "centsSums", fn := fun _ => fun
  | [d1, d2, d3] => { results := [.lit (.bool true)], args := [d1, d2, d3] }
  | _ => none }
def centsSumsRow : OpenClaim := { program := "ythnigakljpcbpaa", sum := "714b8d8ed168cac256fecd0d8b5f503c9dfa25beb7a96a42cf38e9167e2c9c05", func := "backhaul/backhaullaw02.CentsSums", spec := "centsSums", unfollowed := true, recurses := true, named := ["math/bits.divideError", "math/bits.overflowError"], apart := false }
def CentsSumsSaid : Prop := centsSumsRow.holds Try.pinned (OpenSpec.ofChange centsSumsSpec)

/-- ITS FALSE NEIGHBOUR: 'it returns false'. Refute it at one input. -/
def centsSumsWrong : ChangeSpec := { name := "centsSums", fn := fun _ => fun
  | [d1, d2, d3] => { results := [.lit (.bool false)], args := [d1, d2, d3] }
  | _ => none }
def CentsSumsWrongFalsely : Prop := centsSumsRow.holds Try.pinned (OpenSpec.ofChange centsSumsWrong)

/-- 'backhaullaw02.CentsShares': WHATEVER THE INPUT: true; the input reads as it did. -/
def centsSharesSpec : ChangeSpec := { name := "centsShares", fn := fun _ => fun
  | [d1, d2, d3] => { results := [.lit (.bool true)], args := [d1, d2, d3] }
  | _ => none }
def centsSharesRow : OpenClaim := { program := "ythnigakljpcbpaa", sum := "714b8d8ed168cac256fecd0d8b5f503c9dfa25beb7a96a42cf38e9167e2c9c05", func := "backhaul/backhaullaw02.CentsShares", spec := "centsShares", unfollowed := true, recurses := true, named := ["math/bits.divideError", "math/bits.overflowError"], apart := false }
def CentsSharesSaid : Prop := centsSharesRow.holds Try.pinned (OpenSpec.ofChange centsSharesSpec)

/-- ITS FALSE NEIGHBOUR: 'it returns false'. Refute it at one input. -/
def centsSharesWrong : ChangeSpec := { name := "centsShares", fn := fun _ => fun
  | [d1, d2, d3] => { results := [.lit (.bool false)], args := [d1, d2, d3] }
  | _ => none }
def CentsSharesWrongFalsely : Prop := centsSharesRow.holds Try.pinned (OpenSpec.ofChange centsSharesWrong)

/-- 'backhaullaw02.CentsOver': WHATEVER THE INPUT: true; the input reads as it did. -/
def centsOverSpec : ChangeSpec := { name := "centsOver", fn := fun _ => fun
  | [d1, d2] => { results := [.lit (.bool true)], args := [d1, d2] }
  | _ => none }
def centsOverRow : OpenClaim := { program := "ythnigakljpcbpaa", sum := "714b8d8ed168cac256fecd0d8b5f503c9dfa25beb7a96a42cf38e9167e2c9c05", func := "backhaul/backhaullaw02.CentsOver", spec := "centsOver", unfollowed := true, recurses := true, named := ["math/bits.divideError", "math/bits.overflowError"], apart := false }
def CentsOverSaid : Prop := centsOverRow.holds Try.pinned (OpenSpec.ofChange centsOverSpec)

/-- ITS FALSE NEIGHBOUR: 'it returns false'. Refute it at one input. -/
def centsOverWrong : ChangeSpec := { name := "centsOver", fn := fun _ => fun
  | [d1, d2] => { results := [.lit (.bool false)], args := [d1, d2] }
  | _ => none }
def CentsOverWrongFalsely : Prop := centsOverRow.holds Try.pinned (OpenSpec.ofChange centsOverWrong)

/-- 'backhaullaw02.CentsDivs': WHATEVER THE INPUT: true; the input reads as it did. -/
def centsDivsSpec : ChangeSpec := { name := "centsDivs", fn := fun _ => fun
  | [d1, d2, d3] => { results := [.lit (.bool true)], args := [d1, d2, d3] }
  | _ => none }
def centsDivsRow : OpenClaim := { program := "ythnigakljpcbpaa", sum := "714b8d8ed168cac256fecd0d8b5f503c9dfa25beb7a96a42cf38e9167e2c9c05", func := "backhaul/backhaullaw02.CentsDivs", spec := "centsDivs", unfollowed := true, recurses := true, named := ["math/bits.divideError", "math/bits.overflowError"], apart := false }
def CentsDivsSaid : Prop := centsDivsRow.holds Try.pinned (OpenSpec.ofChange centsDivsSpec)

/-- ITS FALSE NEIGHBOUR: 'it returns false'. Refute it at one input. -/
def centsDivsWrong : ChangeSpec := { name := "centsDivs", fn := fun _ => fun
  | [d1, d2, d3] => { results := [.lit (.bool false)], args := [d1, d2, d3] }
  | _ => none }
def CentsDivsWrongFalsely : Prop := centsDivsRow.holds Try.pinned (OpenSpec.ofChange centsDivsWrong)

/- THE SECOND FORM. 'bulk': how many values and letters a reading holds, each counted each time it is reached (what is shared counts as often as it is met; a slice's spare places count too). A statement '..UptoSaid' is the law's where the arguments, and the package variables that the reading takes, are together of bulk at most 1048576: NARROWER than '..Said'. Prove '..Said' where nothing that the law and all that it calls make is longer than what came in: it says more and counts as full. Else prove '..UptoSaid'. A law counts once. -/
mutual
def uptoBulk {H : Type} : DataW H → Nat
  | .lit (.string bytes) => bytes.length + 1
  | .lit _ => 1
  | .nil => 1
  | .ptr d => uptoBulk d + 1
  | .slice elems spare => uptoBulkAll elems + uptoBulkAll spare + 1
  | .agg parts => uptoBulkAll parts + 1
  | .iface _ d => uptoBulk d + 1
  | .map entries => uptoBulkEntries entries + 1
  | .held _ => 1
def uptoBulkAll {H : Type} : List (DataW H) → Nat
  | [] => 0
  | d :: r => uptoBulk d + uptoBulkAll r
def uptoBulkEntries {H : Type} : List (Lit × DataW H) → Nat
  | [] => 0
  | x :: r => uptoBulkEntry x + uptoBulkEntries r
def uptoBulkEntry {H : Type} : Lit × DataW H → Nat
  | (.string bytes, d) => bytes.length + uptoBulk d + 1
  | (_, d) => uptoBulk d + 1
 end
def uptoSmall : (H : Type) → List (DataW H) → Bool := fun _ ds => decide (uptoBulkAll ds ≤ 1048576)
def OpenSpec.upto (s : _root_.Go.ChangeSpec) : _root_.Go.OpenSpec := { _root_.Go.OpenSpec.ofChange s with cond := some uptoSmall }

/-- 'backhaullaw02.CentsSums', WHERE WHAT IT READS IS OF BULK AT MOST 1048576: true; the input reads as it did. -/
def centsSumsUptoRow : OpenClaim := { program := "ythnigakljpcbpaa", sum := "714b8d8ed168cac256fecd0d8b5f503c9dfa25beb7a96a42cf38e9167e2c9c05", func := "backhaul/backhaullaw02.CentsSums", spec := "centsSums", unfollowed := true, recurses := true, named := ["math/bits.divideError", "math/bits.overflowError"], apart := false, narrowed := true }
def CentsSumsUptoSaid : Prop := centsSumsUptoRow.holds Try.pinned (OpenSpec.upto centsSumsSpec)

/-- 'backhaullaw02.CentsShares', WHERE WHAT IT READS IS OF BULK AT MOST 1048576: true; the input reads as it did. -/
def centsSharesUptoRow : OpenClaim := { program := "ythnigakljpcbpaa", sum := "714b8d8ed168cac256fecd0d8b5f503c9dfa25beb7a96a42cf38e9167e2c9c05", func := "backhaul/backhaullaw02.CentsShares", spec := "centsShares", unfollowed := true, recurses := true, named := ["math/bits.divideError", "math/bits.overflowError"], apart := false, narrowed := true }
def CentsSharesUptoSaid : Prop := centsSharesUptoRow.holds Try.pinned (OpenSpec.upto centsSharesSpec)

/-- 'backhaullaw02.CentsOver', WHERE WHAT IT READS IS OF BULK AT MOST 1048576: true; the input reads as it did. -/
def centsOverUptoRow : OpenClaim := { program := "ythnigakljpcbpaa", sum := "714b8d8ed168cac256fecd0d8b5f503c9dfa25beb7a96a42cf38e9167e2c9c05", func := "backhaul/backhaullaw02.CentsOver", spec := "centsOver", unfollowed := true, recurses := true, named := ["math/bits.divideError", "math/bits.overflowError"], apart := false, narrowed := true }
def CentsOverUptoSaid : Prop := centsOverUptoRow.holds Try.pinned (OpenSpec.upto centsOverSpec)

/-- 'backhaullaw02.CentsDivs', WHERE WHAT IT READS IS OF BULK AT MOST 1048576: true; the input reads as it did. -/
def centsDivsUptoRow : OpenClaim := { program := "ythnigakljpcbpaa", sum := "714b8d8ed168cac256fecd0d8b5f503c9dfa25beb7a96a42cf38e9167e2c9c05", func := "backhaul/backhaullaw02.CentsDivs", spec := "centsDivs", unfollowed := true, recurses := true, named := ["math/bits.divideError", "math/bits.overflowError"], apart := false, narrowed := true }
def CentsDivsUptoSaid : Prop := centsDivsUptoRow.holds Try.pinned (OpenSpec.upto centsDivsSpec)

end Rows
end Go.Proofs.Ythnigakljpcbpaa
