/-
  Own text. Some of the sentinels, as the world holds them: those of a list (ErrE), whatever the others are.
-/
import Derived.Test.YtjngnnbondejaabDoorRecErr
namespace Go.Proofs.YtjngnnbondejaabDoor
open Go.RowKit

structure ErrE (L : List Nat) (w : World) (a : Nat → Addr) : Prop where
  glob : ∀ i, L.contains i = true → w.cell? ⟨errG i, 0, none⟩ = some (sentV a i)
theorem ErrE.below {L : List Nat} {w0 w w' : World} {a : Nat → Addr} (h : ErrE L w a) (hb : Below w0.heap.size w w') (hle : w.heap.size ≤ w0.heap.size) : ErrE L w' a where
  glob i hi := by rw [hb.cell (p := ⟨errG i, 0, none⟩) (Nat.lt_of_lt_of_le (lt_of_cell (h.glob i hi)) hle)]; exact h.glob i hi
theorem ErrE.sub {L M : List Nat} {w : World} {a : Nat → Addr} (h : ErrE L w a) (hs : (M.all fun i => L.contains i) = true) : ErrE M w a where
  glob i hi := h.glob i (List.all_eq_true.1 hs i (List.contains_iff_mem.1 hi))
theorem ErrW.on {L : List Nat} {w : World} {a : Nat → Addr} (h : ErrW w a) (hl : (L.all fun i => decide (i < 12)) = true) : ErrE L w a where
  glob i hi := h.glob i (by simpa using List.all_eq_true.1 hl i (List.contains_iff_mem.1 hi))
end Go.Proofs.YtjngnnbondejaabDoor
