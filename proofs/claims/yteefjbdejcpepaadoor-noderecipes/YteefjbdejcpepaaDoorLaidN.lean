/-
  Own text. From what a row lists of the eight sentinels that packages node, recipe and bin name at put and get ('laid') to ErrE.
-/
import Derived.Test.YteefjbdejcpepaaDoorLaid
import Derived.Test.YteefjbdejcpepaaDoorErrE
import Derived.MakeChecks
namespace Go.Proofs.YteefjbdejcpepaaDoor
open Go.RowKit Go.ChangeShapes

def errSentsN : List (String × Nat × List UInt8) := [("cornbin/api.ErrBound", 1, [99, 111, 114, 110, 98, 105, 110, 58, 32, 98, 111, 117, 110, 100]), ("cornbin/api.ErrShape", 2, [99, 111, 114, 110, 98, 105, 110, 58, 32, 115, 104, 97, 112, 101]), ("cornbin/api.ErrName", 3, [99, 111, 114, 110, 98, 105, 110, 58, 32, 110, 97, 109, 101]), ("cornbin/api.ErrNone", 4, [99, 111, 114, 110, 98, 105, 110, 58, 32, 110, 111, 110, 101]), ("cornbin/api.ErrExist", 5, [99, 111, 114, 110, 98, 105, 110, 58, 32, 101, 120, 105, 115, 116]), ("cornbin/api.ErrFull", 6, [99, 111, 114, 110, 98, 105, 110, 58, 32, 102, 117, 108, 108]), ("cornbin/api.ErrSum", 8, [99, 111, 114, 110, 98, 105, 110, 58, 32, 115, 117, 109]), ("cornbin/api.ErrClash", 9, [99, 111, 114, 110, 98, 105, 110, 58, 32, 99, 108, 97, 115, 104])]
theorem lAllN : (errSentsN.all fun x => Tryd.prog.globalNamed x.1 == some x.2.1 && (Tryd.prog.globals[x.2.1]?).map (·.type) == some 25) = true := by kernel_rfl
theorem errN_of_laid {W : World} (h : laidMetH Tryd.prog (errSentsN.map sentD) W) : ∃ a, ErrE [1, 2, 3, 4, 5, 6, 8, 9] W a := by
  have h' : laidMet Tryd.prog (errSentsN.map sentD) W := by rw [← Go.MakeChecks.laidMetH_plain _ _ _ (by decide)]; exact h
  obtain ⟨ps, hv, hnd, hrows⟩ := h'
  obtain ⟨b, ha, hne⟩ := sents_of_laid (P := Tryd.prog) Tryd.underlying25 lRowE Tryd.underlying98 Tryd.underlying100 rfl rfl Tryd.underlying9 lCellsE lCellsS errSentsN ps
    (fun x hx => by have := List.all_eq_true.1 lAllN x hx; simpa using this) hv hnd hrows
  refine ⟨fun i => match i with | 1 => b 0 | 2 => b 1 | 3 => b 2 | 4 => b 3 | 5 => b 4 | 6 => b 5 | 8 => b 6 | 9 => b 7 | _ => b 0, ⟨fun i hi => ?_⟩⟩
  have : i = 1 ∨ i = 2 ∨ i = 3 ∨ i = 4 ∨ i = 5 ∨ i = 6 ∨ i = 8 ∨ i = 9 := by simpa using hi
  rcases this with rfl | rfl | rfl | rfl | rfl | rfl | rfl | rfl
  · exact (ha 0 (by decide)).1
  · exact (ha 1 (by decide)).1
  · exact (ha 2 (by decide)).1
  · exact (ha 3 (by decide)).1
  · exact (ha 4 (by decide)).1
  · exact (ha 5 (by decide)).1
  · exact (ha 6 (by decide)).1
  · exact (ha 7 (by decide)).1
end Go.Proofs.YteefjbdejcpepaaDoor
