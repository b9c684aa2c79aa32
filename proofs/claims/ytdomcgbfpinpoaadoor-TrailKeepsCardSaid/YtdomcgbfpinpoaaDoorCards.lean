/-
  DERIVED. GIVEN WITH THE SEED: THE CARDS: each row of YtdomcgbfpinpoaaDoorRows.lean that lists a variable, with what it lists TIED to the program's text (the seventh form; the later family's looks); each row that meets fmt, with fmt's text TOLD by the authors' own Lean function (tested against real Go, not proved from fmt's source: count such statements apart). THE CARD IS WHAT COUNTS. Prove the row's statement (the work); the ties are given (YtdomcgbfpinpoaaDoorTie.lean); close each card by the builder's one call (the guide's Derived/Test/ToyasCard.lean, 'card_holds'). Laid BY PROGRAM, IN A SANDBOX (cutbox-door.mjs). By AI agents, Wed Nov 11 2026. No macro, syntax, notation, axiom, sorry.
-/
import Derived.Test.YtdomcgbfpinpoaaDoorRows
import GoSem.ClaimSeven
namespace Go.Proofs.YtdomcgbfpinpoaaDoor
namespace Rows

/-- THE TIED CARD OF 'backhaullaw11.TrailKeeps'. -/
def trailKeepsCard : Claim7 := { stood := { row := trailKeepsRow, standIns := [], harness := (true, "635802651aebe4f97609c25191848950d7c9025c912d5acf0964135ebbf72273"), looks := false }, kinds := [], alts := [], laidByText := true, laidKinds := [.data], laidTests := true, laidLooks := .later }
def TrailKeepsCardSaid : Prop := Claim7.holds Tryd.pinned (.plain (OpenSpec.ofChange trailKeepsSpec)) trailKeepsCard

/-- THE SECOND FORM's CARD OF 'backhaullaw11.TrailKeeps'. -/
def trailKeepsUptoCard : Claim7 := { stood := { row := trailKeepsUptoRow, standIns := [], harness := (true, "635802651aebe4f97609c25191848950d7c9025c912d5acf0964135ebbf72273"), looks := false }, kinds := [], alts := [], laidByText := true, laidKinds := [.data], laidTests := true, laidLooks := .later }
def TrailKeepsUptoCardSaid : Prop := Claim7.holds Tryd.pinned (.plain (OpenSpec.upto trailKeepsSpec)) trailKeepsUptoCard
end Rows
end Go.Proofs.YtdomcgbfpinpoaaDoor
