/-
  DERIVED. GIVEN WITH THE SEED: THE CARDS: each row of YtdomcgbfpinpoaaGreatDoorRows.lean that lists a variable, with what it lists TIED to the program's text (the seventh form; the later family's looks); each row that meets fmt, with fmt's text TOLD by the authors' own Lean function (tested against real Go, not proved from fmt's source: count such statements apart). THE CARD IS WHAT COUNTS. Prove the row's statement (the work); the ties are given (YtdomcgbfpinpoaaGreatDoorTie.lean); close each card by the builder's one call (the guide's Derived/Test/ToyasCard.lean, 'card_holds'). Laid BY PROGRAM, IN A SANDBOX (cutbox-door.mjs). By AI agents, Wed Nov 11 2026. No macro, syntax, notation, axiom, sorry.
-/
import Derived.Test.YtdomcgbfpinpoaaGreatDoorRows
import GoSem.ClaimSeven
namespace Go.Proofs.YtdomcgbfpinpoaaGreatDoor
namespace Rows

/-- THE TIED CARD OF 'backhaullaw11.TrailFalls'. -/
def trailFallsCard : Claim7 := { stood := { row := trailFallsRow, standIns := [], harness := (true, "276598823e7b47451a2c5b20388ab86915ee1226dd2834a81ce5a9720bbd3074"), looks := true }, kinds := [], alts := [], laidByText := true, laidKinds := [.data], laidTests := true, laidLooks := .later }
def TrailFallsCardSaid : Prop := Claim7.holds Tryz.pinned (.plain (OpenSpec.ofChange trailFallsSpec)) trailFallsCard

/-- THE SECOND FORM's CARD OF 'backhaullaw11.TrailFalls'. -/
def trailFallsUptoCard : Claim7 := { stood := { row := trailFallsUptoRow, standIns := [], harness := (true, "276598823e7b47451a2c5b20388ab86915ee1226dd2834a81ce5a9720bbd3074"), looks := true }, kinds := [], alts := [], laidByText := true, laidKinds := [.data], laidTests := true, laidLooks := .later }
def TrailFallsUptoCardSaid : Prop := Claim7.holds Tryz.pinned (.plain (OpenSpec.upto trailFallsSpec)) trailFallsUptoCard
end Rows
end Go.Proofs.YtdomcgbfpinpoaaGreatDoor
