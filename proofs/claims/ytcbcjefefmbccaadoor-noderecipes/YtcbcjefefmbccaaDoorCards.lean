/-
  DERIVED. GIVEN WITH THE SEED: THE CARDS: each row of YtcbcjefefmbccaaDoorRows.lean that lists a variable, with what it lists TIED to the program's text (the seventh form; the later family's looks); each row that meets fmt, with fmt's text TOLD by the authors' own Lean function (tested against real Go, not proved from fmt's source: count such statements apart). THE CARD IS WHAT COUNTS. Prove the row's statement (the work); the ties are given (YtcbcjefefmbccaaDoorTie.lean); close each card by the builder's one call (the guide's Derived/Test/ToyasCard.lean, 'card_holds'). Laid BY PROGRAM, IN A SANDBOX (cutbox-door.mjs). By AI agents, Wed Nov 11 2026. No macro, syntax, notation, axiom, sorry.
-/
import Derived.Test.YtcbcjefefmbccaaDoorRows
import GoSem.ClaimSeven
namespace Go.Proofs.YtcbcjefefmbccaaDoor
namespace Rows

/-- THE TIED CARD OF 'cornbinlaw1.Names'. -/
def namesCard : Claim7 := { stood := { row := namesRow, standIns := [], harness := (true, "66fa5480a11da955444b093bf186e8c1fb0b9825dc39076907bd5e53602ceff4"), looks := true }, kinds := [], alts := [], laidByText := true, laidKinds := [.handle, .sentinel, .sentinel, .sentinel, .sentinel, .sentinel, .sentinel, .sentinel, .sentinel, .sentinel, .sentinel, .sentinel, .sentinel], laidTests := true, laidLooks := .later }
def NamesCardSaid : Prop := Claim7.holds Tryd.pinned (.plain (OpenSpec.ofChange namesSpec)) namesCard

/-- THE TIED CARD OF 'cornbinlaw1.PrintParts'. -/
def printPartsCard : Claim7 := { stood := { row := printPartsRow, standIns := [], harness := (true, "66fa5480a11da955444b093bf186e8c1fb0b9825dc39076907bd5e53602ceff4"), looks := true }, kinds := [], alts := [], laidByText := true, laidKinds := [.data, .data, .data, .sentinel], laidTests := true, laidLooks := .later }
def PrintPartsCardSaid : Prop := Claim7.holds Tryd.pinned (.plain (OpenSpec.ofChange printPartsSpec)) printPartsCard

/-- THE TIED CARD OF 'cornbinlaw1.PrintTells'. -/
def printTellsCard : Claim7 := { stood := { row := printTellsRow, standIns := [], harness := (true, "66fa5480a11da955444b093bf186e8c1fb0b9825dc39076907bd5e53602ceff4"), looks := true }, kinds := [], alts := [], laidByText := true, laidKinds := [.data, .data, .data, .handle, .sentinel, .sentinel, .sentinel, .sentinel, .sentinel, .sentinel, .sentinel, .sentinel, .sentinel, .sentinel, .sentinel, .sentinel], laidTests := true, laidLooks := .later }
def PrintTellsCardSaid : Prop := Claim7.holds Tryd.pinned (.plain (OpenSpec.ofChange printTellsSpec)) printTellsCard

/-- THE TIED CARD OF 'cornbinlaw1.BinUses'. -/
def binUsesCard : Claim7 := { stood := { row := binUsesRow, standIns := [], harness := (true, "66fa5480a11da955444b093bf186e8c1fb0b9825dc39076907bd5e53602ceff4"), looks := true }, kinds := [], alts := [], laidByText := true, laidKinds := [.data, .data, .data, .sentinel, .sentinel, .sentinel, .sentinel, .sentinel, .sentinel, .sentinel, .sentinel], laidTests := true, laidLooks := .later }
def BinUsesCardSaid : Prop := Claim7.holds Tryd.pinned (.plain (OpenSpec.ofChange binUsesSpec)) binUsesCard

/-- THE TIED CARD OF 'cornbinlaw1.BinActs'. -/
def binActsCard : Claim7 := { stood := { row := binActsRow, standIns := [], harness := (true, "66fa5480a11da955444b093bf186e8c1fb0b9825dc39076907bd5e53602ceff4"), looks := true }, kinds := [], alts := [], laidByText := true, laidKinds := [.handle, .sentinel, .sentinel, .sentinel, .sentinel, .sentinel, .sentinel, .sentinel, .sentinel, .sentinel, .sentinel, .sentinel, .sentinel], laidTests := true, laidLooks := .later }
def BinActsCardSaid : Prop := Claim7.holds Tryd.pinned (.plain (OpenSpec.ofChange binActsSpec)) binActsCard

/-- THE TIED CARD OF 'cornbinlaw2.NodeRecipes'. -/
def nodeRecipesCard : Claim7 := { stood := { row := nodeRecipesRow, standIns := [], harness := (true, "66fa5480a11da955444b093bf186e8c1fb0b9825dc39076907bd5e53602ceff4"), looks := true }, kinds := [], alts := [], laidByText := true, laidKinds := [.handle, .sentinel, .sentinel, .sentinel, .sentinel, .sentinel, .sentinel, .sentinel, .sentinel], laidTests := true, laidLooks := .later }
def NodeRecipesCardSaid : Prop := Claim7.holds Tryd.pinned (.plain (OpenSpec.ofChange nodeRecipesSpec)) nodeRecipesCard

/-- THE SECOND FORM's CARD OF 'cornbinlaw1.Names'. -/
def namesUptoCard : Claim7 := { stood := { row := namesUptoRow, standIns := [], harness := (true, "66fa5480a11da955444b093bf186e8c1fb0b9825dc39076907bd5e53602ceff4"), looks := true }, kinds := [], alts := [], laidByText := true, laidKinds := [.handle, .sentinel, .sentinel, .sentinel, .sentinel, .sentinel, .sentinel, .sentinel, .sentinel, .sentinel, .sentinel, .sentinel, .sentinel], laidTests := true, laidLooks := .later }
def NamesUptoCardSaid : Prop := Claim7.holds Tryd.pinned (.plain (OpenSpec.upto namesSpec)) namesUptoCard

/-- THE SECOND FORM's CARD OF 'cornbinlaw1.PrintParts'. -/
def printPartsUptoCard : Claim7 := { stood := { row := printPartsUptoRow, standIns := [], harness := (true, "66fa5480a11da955444b093bf186e8c1fb0b9825dc39076907bd5e53602ceff4"), looks := true }, kinds := [], alts := [], laidByText := true, laidKinds := [.data, .data, .data, .sentinel], laidTests := true, laidLooks := .later }
def PrintPartsUptoCardSaid : Prop := Claim7.holds Tryd.pinned (.plain (OpenSpec.upto printPartsSpec)) printPartsUptoCard

/-- THE SECOND FORM's CARD OF 'cornbinlaw1.PrintTells'. -/
def printTellsUptoCard : Claim7 := { stood := { row := printTellsUptoRow, standIns := [], harness := (true, "66fa5480a11da955444b093bf186e8c1fb0b9825dc39076907bd5e53602ceff4"), looks := true }, kinds := [], alts := [], laidByText := true, laidKinds := [.data, .data, .data, .handle, .sentinel, .sentinel, .sentinel, .sentinel, .sentinel, .sentinel, .sentinel, .sentinel, .sentinel, .sentinel, .sentinel, .sentinel], laidTests := true, laidLooks := .later }
def PrintTellsUptoCardSaid : Prop := Claim7.holds Tryd.pinned (.plain (OpenSpec.upto printTellsSpec)) printTellsUptoCard

/-- THE SECOND FORM's CARD OF 'cornbinlaw1.BinUses'. -/
def binUsesUptoCard : Claim7 := { stood := { row := binUsesUptoRow, standIns := [], harness := (true, "66fa5480a11da955444b093bf186e8c1fb0b9825dc39076907bd5e53602ceff4"), looks := true }, kinds := [], alts := [], laidByText := true, laidKinds := [.data, .data, .data, .sentinel, .sentinel, .sentinel, .sentinel, .sentinel, .sentinel, .sentinel, .sentinel], laidTests := true, laidLooks := .later }
def BinUsesUptoCardSaid : Prop := Claim7.holds Tryd.pinned (.plain (OpenSpec.upto binUsesSpec)) binUsesUptoCard

/-- THE SECOND FORM's CARD OF 'cornbinlaw1.BinActs'. -/
def binActsUptoCard : Claim7 := { stood := { row := binActsUptoRow, standIns := [], harness := (true, "66fa5480a11da955444b093bf186e8c1fb0b9825dc39076907bd5e53602ceff4"), looks := true }, kinds := [], alts := [], laidByText := true, laidKinds := [.handle, .sentinel, .sentinel, .sentinel, .sentinel, .sentinel, .sentinel, .sentinel, .sentinel, .sentinel, .sentinel, .sentinel, .sentinel], laidTests := true, laidLooks := .later }
def BinActsUptoCardSaid : Prop := Claim7.holds Tryd.pinned (.plain (OpenSpec.upto binActsSpec)) binActsUptoCard

/-- THE SECOND FORM's CARD OF 'cornbinlaw2.NodeRecipes'. -/
def nodeRecipesUptoCard : Claim7 := { stood := { row := nodeRecipesUptoRow, standIns := [], harness := (true, "66fa5480a11da955444b093bf186e8c1fb0b9825dc39076907bd5e53602ceff4"), looks := true }, kinds := [], alts := [], laidByText := true, laidKinds := [.handle, .sentinel, .sentinel, .sentinel, .sentinel, .sentinel, .sentinel, .sentinel, .sentinel], laidTests := true, laidLooks := .later }
def NodeRecipesUptoCardSaid : Prop := Claim7.holds Tryd.pinned (.plain (OpenSpec.upto nodeRecipesSpec)) nodeRecipesUptoCard
end Rows
end Go.Proofs.YtcbcjefefmbccaaDoor
