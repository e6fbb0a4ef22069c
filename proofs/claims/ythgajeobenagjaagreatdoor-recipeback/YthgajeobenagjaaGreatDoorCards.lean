/-
  DERIVED. GIVEN WITH THE SEED: THE CARDS: each row of YthgajeobenagjaaGreatDoorRows.lean that lists a variable, with what it lists TIED to the program's text (the seventh form; the later family's looks); each row that meets fmt, with fmt's text TOLD by the authors' own Lean function (tested against real Go, not proved from fmt's source: count such statements apart). THE CARD IS WHAT COUNTS. Prove the row's statement (the work); the ties are given (YthgajeobenagjaaGreatDoorTie.lean); close each card by the builder's one call (the guide's Derived/Test/ToyasCard.lean, 'card_holds'). Laid BY PROGRAM, IN A SANDBOX (cutbox-door.mjs). By AI agents, Wed Nov 11 2026. No macro, syntax, notation, axiom, sorry.
-/
import Derived.Test.YthgajeobenagjaaGreatDoorRows
import GoSem.ClaimSeven
namespace Go.Proofs.YthgajeobenagjaaGreatDoor
namespace Rows

/-- THE TIED CARD OF 'cornbinlaw1.RecipeBack'. -/
def recipeBackCard : Claim7 := { stood := { row := recipeBackRow, standIns := [], harness := (true, "d02826bc3be3efb231f3adb7992cd5f39ee259b2d0c09d2fce87fbebd8e4d28f"), looks := true }, kinds := [], alts := [], laidByText := true, laidKinds := [.data, .data, .data, .data, .handle, .sentinel, .sentinel, .sentinel, .sentinel, .sentinel, .sentinel, .sentinel, .sentinel, .sentinel, .sentinel, .sentinel, .sentinel, .pinned], laidTests := true, laidLooks := .later }
def RecipeBackCardSaid : Prop := Claim7.holds Tryz.pinned (.plain (OpenSpec.ofChange recipeBackSpec)) recipeBackCard

/-- THE TIED CARD OF 'cornbinlaw1.RecipeTells'. -/
def recipeTellsCard : Claim7 := { stood := { row := recipeTellsRow, standIns := [], harness := (true, "d02826bc3be3efb231f3adb7992cd5f39ee259b2d0c09d2fce87fbebd8e4d28f"), looks := true }, kinds := [], alts := [], laidByText := true, laidKinds := [.data, .data, .data, .data, .handle, .sentinel, .sentinel, .sentinel, .sentinel, .sentinel, .sentinel, .sentinel, .sentinel, .sentinel, .sentinel, .sentinel, .sentinel, .pinned], laidTests := true, laidLooks := .later }
def RecipeTellsCardSaid : Prop := Claim7.holds Tryz.pinned (.plain (OpenSpec.ofChange recipeTellsSpec)) recipeTellsCard

/-- THE SECOND FORM's CARD OF 'cornbinlaw1.RecipeBack'. -/
def recipeBackUptoCard : Claim7 := { stood := { row := recipeBackUptoRow, standIns := [], harness := (true, "d02826bc3be3efb231f3adb7992cd5f39ee259b2d0c09d2fce87fbebd8e4d28f"), looks := true }, kinds := [], alts := [], laidByText := true, laidKinds := [.data, .data, .data, .data, .handle, .sentinel, .sentinel, .sentinel, .sentinel, .sentinel, .sentinel, .sentinel, .sentinel, .sentinel, .sentinel, .sentinel, .sentinel, .pinned], laidTests := true, laidLooks := .later }
def RecipeBackUptoCardSaid : Prop := Claim7.holds Tryz.pinned (.plain (OpenSpec.upto recipeBackSpec)) recipeBackUptoCard

/-- THE SECOND FORM's CARD OF 'cornbinlaw1.RecipeTells'. -/
def recipeTellsUptoCard : Claim7 := { stood := { row := recipeTellsUptoRow, standIns := [], harness := (true, "d02826bc3be3efb231f3adb7992cd5f39ee259b2d0c09d2fce87fbebd8e4d28f"), looks := true }, kinds := [], alts := [], laidByText := true, laidKinds := [.data, .data, .data, .data, .handle, .sentinel, .sentinel, .sentinel, .sentinel, .sentinel, .sentinel, .sentinel, .sentinel, .sentinel, .sentinel, .sentinel, .sentinel, .pinned], laidTests := true, laidLooks := .later }
def RecipeTellsUptoCardSaid : Prop := Claim7.holds Tryz.pinned (.plain (OpenSpec.upto recipeTellsSpec)) recipeTellsUptoCard
end Rows
end Go.Proofs.YthgajeobenagjaaGreatDoor
