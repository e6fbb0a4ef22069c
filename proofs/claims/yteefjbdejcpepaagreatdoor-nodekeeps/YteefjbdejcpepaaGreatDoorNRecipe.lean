/-
  Own text. (*node.Node).Recipe by a contract.
-/
import Derived.Test.YteefjbdejcpepaaGreatDoorNClone
import Derived.Test.YteefjbdejcpepaaGreatDoorErrE
namespace Go.Proofs.YteefjbdejcpepaaGreatDoor
open Go.RowKit Go.Maps

def RecPost (a : Nat → Addr) (nm : ByteArray) (w : World) (r : Option (List UInt8)) (e : Ending) (w' : World) : Prop :=
  (match r with
    | none => ∃ ev, e = .returned (.tuple #[rcpV ⟨#[]⟩ 0 0 (.slice none 0 0), ev]) ∧ ErrIn w.heap.size w' a ev (5, -1)
    | some s => ∃ v, e = .returned (.tuple #[rcpV nm (s.length : Int) ((pmore 2166136261 s : Nat) : Int) v, .nilIface]) ∧ IdsIn w.heap.size w' v (idsOf s)) ∧ Below w.heap.size w w'
theorem IdsIn.off {base : Nat} {F : Nat → Prop} {w w' : World} {v : Value} {ids : List (Nat × Int)} (h : IdsIn base w v ids) (ho : Off F w w') (hn : ∀ k, base ≤ k → ¬ F k) : IdsIn base w' v ids := by
  obtain ⟨p, c, rfl, h⟩ := h
  refine ⟨p, c, rfl, fun i hi => ?_⟩
  obtain ⟨b, o, rfl, hb0, hb, h0, h1⟩ := h i hi
  have he : w'.heap[b]? = w.heap[b]? := ho.block b hb (hn b hb0)
  exact ⟨b, o, rfl, hb0, Nat.lt_of_lt_of_le hb ho.size, (World.cell?_of_block (w := w) he).trans h0, (World.cell?_of_block (w := w) he).trans h1⟩
end Go.Proofs.YteefjbdejcpepaaGreatDoor
