/-
  Own text. The sentinels that package bin names, as the world holds them: less than ErrW (which has all twelve, and errors' handle).
-/
import Derived.Test.YtmjdgakokldliaaGreatDoorRecErr
namespace Go.Proofs.YtmjdgakokldliaaGreatDoor
open Go.RowKit

def ErrU (i : Nat) : Bool := [0, 1, 4, 6, 7, 8, 9, 10].contains i
structure ErrG (w : World) (a : Nat → Addr) : Prop where
  glob : ∀ i, ErrU i = true → w.cell? ⟨errG i, 0, none⟩ = some (sentV a i)
theorem ErrG.below {w0 w w' : World} {a : Nat → Addr} (h : ErrG w a) (hb : Below w0.heap.size w w') (hle : w.heap.size ≤ w0.heap.size) : ErrG w' a where
  glob i hi := by rw [hb.cell (p := ⟨errG i, 0, none⟩) (Nat.lt_of_lt_of_le (lt_of_cell (h.glob i hi)) hle)]; exact h.glob i hi
theorem errU_lt {i : Nat} (h : ErrU i = true) : i < 12 := by
  simp [ErrU] at h; omega
theorem ErrW.some {w : World} {a : Nat → Addr} (h : ErrW w a) : ErrG w a := ⟨fun i hi => h.glob i (errU_lt hi)⟩
end Go.Proofs.YtmjdgakokldliaaGreatDoor
