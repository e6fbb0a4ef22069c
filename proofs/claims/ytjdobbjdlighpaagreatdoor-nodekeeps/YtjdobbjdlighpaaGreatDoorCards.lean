/-
  DERIVED. GIVEN WITH THE SEED: THE CARDS: each row of YtjdobbjdlighpaaGreatDoorRows.lean that lists a variable, with what it lists TIED to the program's text (the seventh form; the later family's looks); each row that meets fmt, with fmt's text TOLD by the authors' own Lean function (tested against real Go, not proved from fmt's source: count such statements apart). THE CARD IS WHAT COUNTS. Prove the row's statement (the work); the ties are given (YtjdobbjdlighpaaGreatDoorTie.lean); close each card by the builder's one call (the guide's Derived/Test/ToyasCard.lean, 'card_holds'). Laid BY PROGRAM, IN A SANDBOX (cutbox-door.mjs). By AI agents, Wed Nov 11 2026. No macro, syntax, notation, axiom, sorry.
-/
import Derived.Test.YtjdobbjdlighpaaGreatDoorRows
import GoSem.ClaimSeven
namespace Go.Proofs.YtjdobbjdlighpaaGreatDoor
namespace Rows

/-- THE TIED CARD OF 'cornbinlaw1.RecipeBack'. -/
def recipeBackCard : Claim7 := { stood := { row := recipeBackRow, standIns := [], harness := (true, "f1d362532e6a6d0234f456c517b1b497dbb6de2a4e8fb81bd533edeba46c0c2f"), looks := true }, kinds := [], alts := [], laidByText := true, laidKinds := [.data, .data, .data, .data, .handle, .sentinel, .sentinel, .sentinel, .sentinel, .sentinel, .sentinel, .sentinel, .sentinel, .sentinel, .sentinel, .sentinel, .sentinel, .pinned], laidTests := true, laidLooks := .later }
def RecipeBackCardSaid : Prop := Claim7.holds Tryz.pinned (.plain (OpenSpec.ofChange recipeBackSpec)) recipeBackCard

/-- THE TIED CARD OF 'cornbinlaw1.RecipeTells'. -/
def recipeTellsCard : Claim7 := { stood := { row := recipeTellsRow, standIns := [], harness := (true, "f1d362532e6a6d0234f456c517b1b497dbb6de2a4e8fb81bd533edeba46c0c2f"), looks := true }, kinds := [], alts := [], laidByText := true, laidKinds := [.data, .data, .data, .data, .handle, .sentinel, .sentinel, .sentinel, .sentinel, .sentinel, .sentinel, .sentinel, .sentinel, .sentinel, .sentinel, .sentinel, .sentinel, .pinned], laidTests := true, laidLooks := .later }
def RecipeTellsCardSaid : Prop := Claim7.holds Tryz.pinned (.plain (OpenSpec.ofChange recipeTellsSpec)) recipeTellsCard

/-- THE TIED CARD OF 'cornbinlaw1.BinFills'. -/
def binFillsCard : Claim7 := { stood := { row := binFillsRow, standIns := [], harness := (true, "f1d362532e6a6d0234f456c517b1b497dbb6de2a4e8fb81bd533edeba46c0c2f"), looks := true }, kinds := [], alts := [], laidByText := true, laidKinds := [.data, .data, .data, .handle, .sentinel, .sentinel, .sentinel, .sentinel, .sentinel, .sentinel, .sentinel, .sentinel, .sentinel, .sentinel, .sentinel, .sentinel], laidTests := true, laidLooks := .later }
def BinFillsCardSaid : Prop := Claim7.holds Tryz.pinned (.plain (OpenSpec.ofChange binFillsSpec)) binFillsCard

/-- THE TIED CARD OF 'cornbinlaw2.NodeKeeps'. -/
def nodeKeepsCard : Claim7 := { stood := { row := nodeKeepsRow, standIns := [], harness := (true, "f1d362532e6a6d0234f456c517b1b497dbb6de2a4e8fb81bd533edeba46c0c2f"), looks := true }, kinds := [], alts := [], laidByText := true, laidKinds := [.handle, .sentinel, .sentinel, .sentinel, .sentinel, .sentinel, .sentinel, .sentinel, .sentinel, .sentinel], laidTests := true, laidLooks := .later }
def NodeKeepsCardSaid : Prop := Claim7.holds Tryz.pinned (.plain (OpenSpec.ofChange nodeKeepsSpec)) nodeKeepsCard

/-- THE SECOND FORM's CARD OF 'cornbinlaw1.RecipeBack'. -/
def recipeBackUptoCard : Claim7 := { stood := { row := recipeBackUptoRow, standIns := [], harness := (true, "f1d362532e6a6d0234f456c517b1b497dbb6de2a4e8fb81bd533edeba46c0c2f"), looks := true }, kinds := [], alts := [], laidByText := true, laidKinds := [.data, .data, .data, .data, .handle, .sentinel, .sentinel, .sentinel, .sentinel, .sentinel, .sentinel, .sentinel, .sentinel, .sentinel, .sentinel, .sentinel, .sentinel, .pinned], laidTests := true, laidLooks := .later }
def RecipeBackUptoCardSaid : Prop := Claim7.holds Tryz.pinned (.plain (OpenSpec.upto recipeBackSpec)) recipeBackUptoCard

/-- THE SECOND FORM's CARD OF 'cornbinlaw1.RecipeTells'. -/
def recipeTellsUptoCard : Claim7 := { stood := { row := recipeTellsUptoRow, standIns := [], harness := (true, "f1d362532e6a6d0234f456c517b1b497dbb6de2a4e8fb81bd533edeba46c0c2f"), looks := true }, kinds := [], alts := [], laidByText := true, laidKinds := [.data, .data, .data, .data, .handle, .sentinel, .sentinel, .sentinel, .sentinel, .sentinel, .sentinel, .sentinel, .sentinel, .sentinel, .sentinel, .sentinel, .sentinel, .pinned], laidTests := true, laidLooks := .later }
def RecipeTellsUptoCardSaid : Prop := Claim7.holds Tryz.pinned (.plain (OpenSpec.upto recipeTellsSpec)) recipeTellsUptoCard

/-- THE SECOND FORM's CARD OF 'cornbinlaw1.BinFills'. -/
def binFillsUptoCard : Claim7 := { stood := { row := binFillsUptoRow, standIns := [], harness := (true, "f1d362532e6a6d0234f456c517b1b497dbb6de2a4e8fb81bd533edeba46c0c2f"), looks := true }, kinds := [], alts := [], laidByText := true, laidKinds := [.data, .data, .data, .handle, .sentinel, .sentinel, .sentinel, .sentinel, .sentinel, .sentinel, .sentinel, .sentinel, .sentinel, .sentinel, .sentinel, .sentinel], laidTests := true, laidLooks := .later }
def BinFillsUptoCardSaid : Prop := Claim7.holds Tryz.pinned (.plain (OpenSpec.upto binFillsSpec)) binFillsUptoCard

/-- THE SECOND FORM's CARD OF 'cornbinlaw2.NodeKeeps'. -/
def nodeKeepsUptoCard : Claim7 := { stood := { row := nodeKeepsUptoRow, standIns := [], harness := (true, "f1d362532e6a6d0234f456c517b1b497dbb6de2a4e8fb81bd533edeba46c0c2f"), looks := true }, kinds := [], alts := [], laidByText := true, laidKinds := [.handle, .sentinel, .sentinel, .sentinel, .sentinel, .sentinel, .sentinel, .sentinel, .sentinel, .sentinel], laidTests := true, laidLooks := .later }
def NodeKeepsUptoCardSaid : Prop := Claim7.holds Tryz.pinned (.plain (OpenSpec.upto nodeKeepsSpec)) nodeKeepsUptoCard
end Rows
end Go.Proofs.YtjdobbjdlighpaaGreatDoor
