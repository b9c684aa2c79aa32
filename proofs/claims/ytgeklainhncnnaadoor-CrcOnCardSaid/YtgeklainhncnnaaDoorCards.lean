/-
  DERIVED. GIVEN WITH THE SEED: THE CARDS: each row of YtgeklainhncnnaaDoorRows.lean that lists a variable, with what it lists TIED to the program's text (the seventh form; the later family's looks); each row that meets fmt, with fmt's text TOLD by the authors' own Lean function (tested against real Go, not proved from fmt's source: count such statements apart). THE CARD IS WHAT COUNTS. Prove the row's statement (the work); the ties are given (YtgeklainhncnnaaDoorTie.lean); close each card by the builder's one call (the guide's Derived/Test/ToyasCard.lean, 'card_holds'). Laid BY PROGRAM, IN A SANDBOX (cutbox-door.mjs). By AI agents, Wed Nov 11 2026. No macro, syntax, notation, axiom, sorry.
-/
import Derived.Test.YtgeklainhncnnaaDoorRows
import GoSem.ClaimSeven
namespace Go.Proofs.YtgeklainhncnnaaDoor
namespace Rows

/-- THE TIED CARD OF 'backhaullaw07.CrcSums'. -/
def crcSumsCard : Claim7 := { stood := { row := crcSumsRow, standIns := [], harness := (true, "08696cff1776f2709457f409edd73875d1e29a76b5dc5df63e7473ac6b999132"), looks := false }, kinds := [], alts := [], laidByText := true, laidKinds := [.data], laidTests := true, laidLooks := .later }
def CrcSumsCardSaid : Prop := Claim7.holds Tryd.pinned (.plain (OpenSpec.ofChange crcSumsSpec)) crcSumsCard

/-- THE TIED CARD OF 'backhaullaw07.CrcOn'. -/
def crcOnCard : Claim7 := { stood := { row := crcOnRow, standIns := [], harness := (true, "08696cff1776f2709457f409edd73875d1e29a76b5dc5df63e7473ac6b999132"), looks := false }, kinds := [], alts := [], laidByText := true, laidKinds := [.data], laidTests := true, laidLooks := .later }
def CrcOnCardSaid : Prop := Claim7.holds Tryd.pinned (.plain (OpenSpec.ofChange crcOnSpec)) crcOnCard

/-- THE TIED CARD OF 'backhaullaw07.CrcBurst'. -/
def crcBurstCard : Claim7 := { stood := { row := crcBurstRow, standIns := [], harness := (true, "08696cff1776f2709457f409edd73875d1e29a76b5dc5df63e7473ac6b999132"), looks := false }, kinds := [], alts := [], laidByText := true, laidKinds := [.data], laidTests := true, laidLooks := .later }
def CrcBurstCardSaid : Prop := Claim7.holds Tryd.pinned (.plain (OpenSpec.ofChange crcBurstSpec)) crcBurstCard

/-- THE SECOND FORM's CARD OF 'backhaullaw07.CrcSums'. -/
def crcSumsUptoCard : Claim7 := { stood := { row := crcSumsUptoRow, standIns := [], harness := (true, "08696cff1776f2709457f409edd73875d1e29a76b5dc5df63e7473ac6b999132"), looks := false }, kinds := [], alts := [], laidByText := true, laidKinds := [.data], laidTests := true, laidLooks := .later }
def CrcSumsUptoCardSaid : Prop := Claim7.holds Tryd.pinned (.plain (OpenSpec.upto crcSumsSpec)) crcSumsUptoCard

/-- THE SECOND FORM's CARD OF 'backhaullaw07.CrcOn'. -/
def crcOnUptoCard : Claim7 := { stood := { row := crcOnUptoRow, standIns := [], harness := (true, "08696cff1776f2709457f409edd73875d1e29a76b5dc5df63e7473ac6b999132"), looks := false }, kinds := [], alts := [], laidByText := true, laidKinds := [.data], laidTests := true, laidLooks := .later }
def CrcOnUptoCardSaid : Prop := Claim7.holds Tryd.pinned (.plain (OpenSpec.upto crcOnSpec)) crcOnUptoCard

/-- THE SECOND FORM's CARD OF 'backhaullaw07.CrcBurst'. -/
def crcBurstUptoCard : Claim7 := { stood := { row := crcBurstUptoRow, standIns := [], harness := (true, "08696cff1776f2709457f409edd73875d1e29a76b5dc5df63e7473ac6b999132"), looks := false }, kinds := [], alts := [], laidByText := true, laidKinds := [.data], laidTests := true, laidLooks := .later }
def CrcBurstUptoCardSaid : Prop := Claim7.holds Tryd.pinned (.plain (OpenSpec.upto crcBurstSpec)) crcBurstUptoCard
end Rows
end Go.Proofs.YtgeklainhncnnaaDoor
