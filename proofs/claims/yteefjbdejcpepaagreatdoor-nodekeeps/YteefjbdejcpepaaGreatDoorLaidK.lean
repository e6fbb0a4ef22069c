/-
  Own text. From what a row lists of the nine sentinels that packages node, recipe and bin name at put, get and drop ('laid') to ErrE.
-/
import Derived.Test.YteefjbdejcpepaaGreatDoorLaid
import Derived.Test.YteefjbdejcpepaaGreatDoorErrE
import Derived.MakeChecks
namespace Go.Proofs.YteefjbdejcpepaaGreatDoor
open Go.RowKit Go.ChangeShapes

def errSentsK : List (String × Nat × List UInt8) := [("cornbin/api.ErrBound", 1, [99, 111, 114, 110, 98, 105, 110, 58, 32, 98, 111, 117, 110, 100]), ("cornbin/api.ErrShape", 2, [99, 111, 114, 110, 98, 105, 110, 58, 32, 115, 104, 97, 112, 101]), ("cornbin/api.ErrName", 0, [99, 111, 114, 110, 98, 105, 110, 58, 32, 110, 97, 109, 101]), ("cornbin/api.ErrNone", 8, [99, 111, 114, 110, 98, 105, 110, 58, 32, 110, 111, 110, 101]), ("cornbin/api.ErrExist", 7, [99, 111, 114, 110, 98, 105, 110, 58, 32, 101, 120, 105, 115, 116]), ("cornbin/api.ErrFull", 4, [99, 111, 114, 110, 98, 105, 110, 58, 32, 102, 117, 108, 108]), ("cornbin/api.ErrSum", 3, [99, 111, 114, 110, 98, 105, 110, 58, 32, 115, 117, 109]), ("cornbin/api.ErrClash", 6, [99, 111, 114, 110, 98, 105, 110, 58, 32, 99, 108, 97, 115, 104]), ("cornbin/api.ErrUsed", 10, [99, 111, 114, 110, 98, 105, 110, 58, 32, 117, 115, 101, 100])]
theorem lAllK : (errSentsK.all fun x => Tryz.prog.globalNamed x.1 == some x.2.1 && (Tryz.prog.globals[x.2.1]?).map (·.type) == some 28) = true := by kernel_rfl
theorem errK_of_laid {W : World} (h : laidMetH Tryz.prog (errSentsK.map sentD) W) : ∃ a, ErrE [1, 2, 3, 4, 5, 6, 8, 9, 10] W a := by
  have h' : laidMet Tryz.prog (errSentsK.map sentD) W := by rw [← Go.MakeChecks.laidMetH_plain _ _ _ (by decide)]; exact h
  obtain ⟨ps, hv, hnd, hrows⟩ := h'
  obtain ⟨b, ha, hne⟩ := sents_of_laid (P := Tryz.prog) Tryz.underlying28 lRowE Tryz.underlying276 Tryz.underlying294 rfl rfl Tryz.underlying9 lCellsE lCellsS errSentsK ps
    (fun x hx => by have := List.all_eq_true.1 lAllK x hx; simpa using this) hv hnd hrows
  refine ⟨fun i => match i with | 1 => b 0 | 2 => b 1 | 3 => b 2 | 4 => b 3 | 5 => b 4 | 6 => b 5 | 8 => b 6 | 9 => b 7 | 10 => b 8 | _ => b 0, ⟨fun i hi => ?_⟩⟩
  have : i = 1 ∨ i = 2 ∨ i = 3 ∨ i = 4 ∨ i = 5 ∨ i = 6 ∨ i = 8 ∨ i = 9 ∨ i = 10 := by simpa using hi
  rcases this with rfl | rfl | rfl | rfl | rfl | rfl | rfl | rfl | rfl
  · exact (ha 0 (by decide)).1
  · exact (ha 1 (by decide)).1
  · exact (ha 2 (by decide)).1
  · exact (ha 3 (by decide)).1
  · exact (ha 4 (by decide)).1
  · exact (ha 5 (by decide)).1
  · exact (ha 6 (by decide)).1
  · exact (ha 7 (by decide)).1
  · exact (ha 8 (by decide)).1
end Go.Proofs.YteefjbdejcpepaaGreatDoor
