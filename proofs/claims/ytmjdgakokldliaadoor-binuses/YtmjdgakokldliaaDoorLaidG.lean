/-
  Own text. From what a row lists of the eight sentinels that package bin names ('laid', with no handle) to ErrG.
-/
import Derived.Test.YtmjdgakokldliaaDoorLaid
import Derived.Test.YtmjdgakokldliaaDoorErrG
import Derived.MakeChecks
namespace Go.Proofs.YtmjdgakokldliaaDoor
open Go.RowKit Go.ChangeShapes

def errSents8 : List (String × Nat × List UInt8) := [("cornbin/api.ErrText", 0, [99, 111, 114, 110, 98, 105, 110, 58, 32, 116, 101, 120, 116]), ("cornbin/api.ErrBound", 1, [99, 111, 114, 110, 98, 105, 110, 58, 32, 98, 111, 117, 110, 100]), ("cornbin/api.ErrNone", 4, [99, 111, 114, 110, 98, 105, 110, 58, 32, 110, 111, 110, 101]), ("cornbin/api.ErrFull", 6, [99, 111, 114, 110, 98, 105, 110, 58, 32, 102, 117, 108, 108]), ("cornbin/api.ErrOrder", 7, [99, 111, 114, 110, 98, 105, 110, 58, 32, 111, 114, 100, 101, 114]), ("cornbin/api.ErrSum", 8, [99, 111, 114, 110, 98, 105, 110, 58, 32, 115, 117, 109]), ("cornbin/api.ErrClash", 9, [99, 111, 114, 110, 98, 105, 110, 58, 32, 99, 108, 97, 115, 104]), ("cornbin/api.ErrUsed", 10, [99, 111, 114, 110, 98, 105, 110, 58, 32, 117, 115, 101, 100])]
theorem lAll8 : (errSents8.all fun x => Tryd.prog.globalNamed x.1 == some x.2.1 && (Tryd.prog.globals[x.2.1]?).map (·.type) == some 25) = true := by kernel_rfl
theorem errG_of_laid {W : World} (h : laidMetH Tryd.prog (errSents8.map sentD) W) : ∃ a, ErrG W a := by
  have h' : laidMet Tryd.prog (errSents8.map sentD) W := by rw [← Go.MakeChecks.laidMetH_plain _ _ _ (by decide)]; exact h
  obtain ⟨ps, hv, hnd, hrows⟩ := h'
  obtain ⟨b, ha, hne⟩ := sents_of_laid (P := Tryd.prog) Tryd.underlying25 lRowE Tryd.underlying98 Tryd.underlying100 rfl rfl Tryd.underlying9 lCellsE lCellsS errSents8 ps
    (fun x hx => by have := List.all_eq_true.1 lAll8 x hx; simpa using this) hv hnd hrows
  refine ⟨fun i => match i with | 0 => b 0 | 1 => b 1 | 4 => b 2 | 6 => b 3 | 7 => b 4 | 8 => b 5 | 9 => b 6 | 10 => b 7 | _ => b 0, ⟨fun i hi => ?_⟩⟩
  have : i = 0 ∨ i = 1 ∨ i = 4 ∨ i = 6 ∨ i = 7 ∨ i = 8 ∨ i = 9 ∨ i = 10 := by simpa [ErrU] using hi
  rcases this with rfl | rfl | rfl | rfl | rfl | rfl | rfl | rfl
  · exact (ha 0 (by decide)).1
  · exact (ha 1 (by decide)).1
  · exact (ha 2 (by decide)).1
  · exact (ha 3 (by decide)).1
  · exact (ha 4 (by decide)).1
  · exact (ha 5 (by decide)).1
  · exact (ha 6 (by decide)).1
  · exact (ha 7 (by decide)).1
end Go.Proofs.YtmjdgakokldliaaDoor
