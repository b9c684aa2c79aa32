/-
  DERIVED. GIVEN WITH THE SEED: THE CARDS: each row of YtkmkohpdldamhaaDoorRows.lean that lists a variable, with what it lists TIED to the program's text (the seventh form; the later family's looks); each row that meets fmt, with fmt's text TOLD by the authors' own Lean function (tested against real Go, not proved from fmt's source: count such statements apart). THE CARD IS WHAT COUNTS. Prove the row's statement (the work); the ties are given (YtkmkohpdldamhaaDoorTie.lean); close each card by the builder's one call (the guide's Derived/Test/ToyasCard.lean, 'card_holds'). Laid BY PROGRAM, IN A SANDBOX (cutbox-door.mjs). By AI agents, Wed Nov 11 2026. No macro, syntax, notation, axiom, sorry.
-/
import Derived.Test.YtkmkohpdldamhaaDoorRows
import GoSem.ClaimSeven
namespace Go.Proofs.YtkmkohpdldamhaaDoor
namespace Rows

/-- THE TIED CARD OF 'backhaullaw09.SlotPicks'. -/
def slotPicksCard : Claim7 := { stood := { row := slotPicksRow, standIns := [], harness := (true, "2c2ce1241f077808ab546844315b6bfd5704816b7fbfdb0884e84c31baaedcdc"), looks := false }, kinds := [], alts := [], laidByText := true, laidKinds := [.data, .data, .pinned], laidTests := true, laidLooks := .later }
def SlotPicksCardSaid : Prop := Claim7.holds Tryd.pinned (.plain (OpenSpec.ofChange slotPicksSpec)) slotPicksCard

/-- THE TIED CARD OF 'backhaullaw09.SlotBack'. -/
def slotBackCard : Claim7 := { stood := { row := slotBackRow, standIns := [], harness := (true, "2c2ce1241f077808ab546844315b6bfd5704816b7fbfdb0884e84c31baaedcdc"), looks := false }, kinds := [], alts := [], laidByText := true, laidKinds := [.data, .data, .pinned], laidTests := true, laidLooks := .later }
def SlotBackCardSaid : Prop := Claim7.holds Tryd.pinned (.plain (OpenSpec.ofChange slotBackSpec)) slotBackCard

/-- THE TIED CARD OF 'backhaullaw09.SlotChoose'. -/
def slotChooseCard : Claim7 := { stood := { row := slotChooseRow, standIns := [], harness := (true, "2c2ce1241f077808ab546844315b6bfd5704816b7fbfdb0884e84c31baaedcdc"), looks := false }, kinds := [], alts := [], laidByText := true, laidKinds := [.data, .data, .pinned], laidTests := true, laidLooks := .later }
def SlotChooseCardSaid : Prop := Claim7.holds Tryd.pinned (.plain (OpenSpec.ofChange slotChooseSpec)) slotChooseCard

/-- THE SECOND FORM's CARD OF 'backhaullaw09.SlotPicks'. -/
def slotPicksUptoCard : Claim7 := { stood := { row := slotPicksUptoRow, standIns := [], harness := (true, "2c2ce1241f077808ab546844315b6bfd5704816b7fbfdb0884e84c31baaedcdc"), looks := false }, kinds := [], alts := [], laidByText := true, laidKinds := [.data, .data, .pinned], laidTests := true, laidLooks := .later }
def SlotPicksUptoCardSaid : Prop := Claim7.holds Tryd.pinned (.plain (OpenSpec.upto slotPicksSpec)) slotPicksUptoCard

/-- THE SECOND FORM's CARD OF 'backhaullaw09.SlotBack'. -/
def slotBackUptoCard : Claim7 := { stood := { row := slotBackUptoRow, standIns := [], harness := (true, "2c2ce1241f077808ab546844315b6bfd5704816b7fbfdb0884e84c31baaedcdc"), looks := false }, kinds := [], alts := [], laidByText := true, laidKinds := [.data, .data, .pinned], laidTests := true, laidLooks := .later }
def SlotBackUptoCardSaid : Prop := Claim7.holds Tryd.pinned (.plain (OpenSpec.upto slotBackSpec)) slotBackUptoCard

/-- THE SECOND FORM's CARD OF 'backhaullaw09.SlotChoose'. -/
def slotChooseUptoCard : Claim7 := { stood := { row := slotChooseUptoRow, standIns := [], harness := (true, "2c2ce1241f077808ab546844315b6bfd5704816b7fbfdb0884e84c31baaedcdc"), looks := false }, kinds := [], alts := [], laidByText := true, laidKinds := [.data, .data, .pinned], laidTests := true, laidLooks := .later }
def SlotChooseUptoCardSaid : Prop := Claim7.holds Tryd.pinned (.plain (OpenSpec.upto slotChooseSpec)) slotChooseUptoCard
end Rows
end Go.Proofs.YtkmkohpdldamhaaDoor
