/- A part. -/
import Derived.Test.YtjngnnbondejaabGreatDoorM22
namespace Go.Proofs.YtjngnnbondejaabGreatDoor.mbCard
open Go.ChangeShapes Go.WideShapes Go.ChangeAt Go.RowKit
theorem wft:Rows.moveBackRow.wfByText (OpenSpec.ofChange Rows.moveBackSpec)=true:=by kernel_rfl
theorem goes:false=Rows.moveBackRow.goesBy Tryz.pinned.checked.prog:=by kernel_rfl
end Go.Proofs.YtjngnnbondejaabGreatDoor.mbCard
