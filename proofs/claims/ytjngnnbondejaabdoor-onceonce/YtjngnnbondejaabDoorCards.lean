/-
  DERIVED. GIVEN WITH THE SEED: THE CARDS: each row of YtjngnnbondejaabDoorRows.lean that lists a variable, with what it lists TIED to the program's text (the seventh form; the later family's looks); each row that meets fmt, with fmt's text TOLD by the authors' own Lean function (tested against real Go, not proved from fmt's source: count such statements apart). THE CARD IS WHAT COUNTS. Prove the row's statement (the work); the ties are given (YtjngnnbondejaabDoorTie.lean); close each card by the builder's one call (the guide's Derived/Test/ToyasCard.lean, 'card_holds'). Laid BY PROGRAM, IN A SANDBOX (cutbox-door.mjs). By AI agents, Wed Nov 11 2026. No macro, syntax, notation, axiom, sorry.
-/
import Derived.Test.YtjngnnbondejaabDoorRows
import GoSem.ClaimSeven
namespace Go.Proofs.YtjngnnbondejaabDoor
namespace Rows

/-- THE TIED CARD OF 'cornbinlaw2.OwnerMoves'. -/
def ownerMovesCard : Claim7 := { stood := { row := ownerMovesRow, standIns := [], harness := (true, "2c523f12c2cce1a78767700f122997a40327b832bfd7265682d7c19d1e5bcf6f"), looks := true }, kinds := [], alts := [], laidByText := true, laidKinds := [.data, .data, .data, .sentinel, .sentinel, .sentinel, .sentinel, .sentinel], laidTests := true, laidLooks := .later }
def OwnerMovesCardSaid : Prop := Claim7.holds Tryd.pinned (.plain (OpenSpec.ofChange ownerMovesSpec)) ownerMovesCard

/-- THE TIED CARD OF 'cornbinlaw2.OwnerTells'. -/
def ownerTellsCard : Claim7 := { stood := { row := ownerTellsRow, standIns := [], harness := (true, "2c523f12c2cce1a78767700f122997a40327b832bfd7265682d7c19d1e5bcf6f"), looks := true }, kinds := [], alts := [], laidByText := true, laidKinds := [.data, .data, .data, .handle, .sentinel, .sentinel, .sentinel, .sentinel, .sentinel, .sentinel, .sentinel, .sentinel, .sentinel, .sentinel, .sentinel, .sentinel], laidTests := true, laidLooks := .later }
def OwnerTellsCardSaid : Prop := Claim7.holds Tryd.pinned (.plain (OpenSpec.ofChange ownerTellsSpec)) ownerTellsCard

/-- THE TIED CARD OF 'cornbinlaw3.OnceOnce'. -/
def onceOnceCard : Claim7 := { stood := { row := onceOnceRow, standIns := [], harness := (true, "2c523f12c2cce1a78767700f122997a40327b832bfd7265682d7c19d1e5bcf6f"), looks := true }, kinds := [], alts := [], laidByText := true, laidKinds := [.handle, .sentinel, .sentinel, .sentinel, .sentinel, .sentinel, .sentinel, .sentinel, .sentinel, .sentinel, .sentinel, .sentinel, .sentinel], laidTests := true, laidLooks := .later }
def OnceOnceCardSaid : Prop := Claim7.holds Tryd.pinned (.plain (OpenSpec.ofChange onceOnceSpec)) onceOnceCard

/-- THE TIED CARD OF 'cornbinlaw3.OnceActs'. -/
def onceActsCard : Claim7 := { stood := { row := onceActsRow, standIns := [], harness := (true, "2c523f12c2cce1a78767700f122997a40327b832bfd7265682d7c19d1e5bcf6f"), looks := true }, kinds := [], alts := [], laidByText := true, laidKinds := [.handle, .sentinel, .sentinel, .sentinel, .sentinel, .sentinel, .sentinel, .sentinel, .sentinel, .sentinel, .sentinel, .sentinel, .sentinel], laidTests := true, laidLooks := .later }
def OnceActsCardSaid : Prop := Claim7.holds Tryd.pinned (.plain (OpenSpec.ofChange onceActsSpec)) onceActsCard

/-- THE SECOND FORM's CARD OF 'cornbinlaw2.OwnerMoves'. -/
def ownerMovesUptoCard : Claim7 := { stood := { row := ownerMovesUptoRow, standIns := [], harness := (true, "2c523f12c2cce1a78767700f122997a40327b832bfd7265682d7c19d1e5bcf6f"), looks := true }, kinds := [], alts := [], laidByText := true, laidKinds := [.data, .data, .data, .sentinel, .sentinel, .sentinel, .sentinel, .sentinel], laidTests := true, laidLooks := .later }
def OwnerMovesUptoCardSaid : Prop := Claim7.holds Tryd.pinned (.plain (OpenSpec.upto ownerMovesSpec)) ownerMovesUptoCard

/-- THE SECOND FORM's CARD OF 'cornbinlaw2.OwnerTells'. -/
def ownerTellsUptoCard : Claim7 := { stood := { row := ownerTellsUptoRow, standIns := [], harness := (true, "2c523f12c2cce1a78767700f122997a40327b832bfd7265682d7c19d1e5bcf6f"), looks := true }, kinds := [], alts := [], laidByText := true, laidKinds := [.data, .data, .data, .handle, .sentinel, .sentinel, .sentinel, .sentinel, .sentinel, .sentinel, .sentinel, .sentinel, .sentinel, .sentinel, .sentinel, .sentinel], laidTests := true, laidLooks := .later }
def OwnerTellsUptoCardSaid : Prop := Claim7.holds Tryd.pinned (.plain (OpenSpec.upto ownerTellsSpec)) ownerTellsUptoCard

/-- THE SECOND FORM's CARD OF 'cornbinlaw3.OnceOnce'. -/
def onceOnceUptoCard : Claim7 := { stood := { row := onceOnceUptoRow, standIns := [], harness := (true, "2c523f12c2cce1a78767700f122997a40327b832bfd7265682d7c19d1e5bcf6f"), looks := true }, kinds := [], alts := [], laidByText := true, laidKinds := [.handle, .sentinel, .sentinel, .sentinel, .sentinel, .sentinel, .sentinel, .sentinel, .sentinel, .sentinel, .sentinel, .sentinel, .sentinel], laidTests := true, laidLooks := .later }
def OnceOnceUptoCardSaid : Prop := Claim7.holds Tryd.pinned (.plain (OpenSpec.upto onceOnceSpec)) onceOnceUptoCard

/-- THE SECOND FORM's CARD OF 'cornbinlaw3.OnceActs'. -/
def onceActsUptoCard : Claim7 := { stood := { row := onceActsUptoRow, standIns := [], harness := (true, "2c523f12c2cce1a78767700f122997a40327b832bfd7265682d7c19d1e5bcf6f"), looks := true }, kinds := [], alts := [], laidByText := true, laidKinds := [.handle, .sentinel, .sentinel, .sentinel, .sentinel, .sentinel, .sentinel, .sentinel, .sentinel, .sentinel, .sentinel, .sentinel, .sentinel], laidTests := true, laidLooks := .later }
def OnceActsUptoCardSaid : Prop := Claim7.holds Tryd.pinned (.plain (OpenSpec.upto onceActsSpec)) onceActsUptoCard
end Rows
end Go.Proofs.YtjngnnbondejaabDoor
