/-
  Own text. An error stays what it is where what has turned is not its own.
-/
import Derived.Test.YtjngnnbondejaabDoorRecErr
import Derived.Test.YtjngnnbondejaabDoorBinMem
namespace Go.Proofs.YtjngnnbondejaabDoor
open Go.RowKit

theorem ErrIn.off {base : Nat} {w w' : World} {a : Nat → Addr} {v : Value} {f : Int × Int} {G : Nat → Prop} (h : ErrIn base w a v f) (ho : Off G w w') (hG : ∀ k, base ≤ k → ¬ G k) : ErrIn base w' a v f := by
  rcases h with h | h | ⟨k, pb, po, at0, hk, hl, hv, h0, h1, hf⟩
  · exact .inl h
  · exact .inr (.inl h)
  · have e : ∀ j, w'.cell? ⟨pb, j, none⟩ = w.cell? ⟨pb, j, none⟩ := fun j => World.cell?_of_block (w := w) (ho.block pb (lt_of_cell h0) (hG pb hl))
    exact .inr (.inr ⟨k, pb, po, at0, hk, hl, hv, (e _).trans h0, (e _).trans h1, hf⟩)
end Go.Proofs.YtjngnnbondejaabDoor
