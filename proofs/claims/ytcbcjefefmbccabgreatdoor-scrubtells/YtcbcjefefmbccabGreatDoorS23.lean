/-
  Own text. The program's recipe.Text by a contract.
  Own text. The program's recipe.Join by a contract.
  Own text. (*node.Node).Get by a contract, at a file that is there and whose bin has its pieces.
-/
import Derived.Test.YtcbcjefefmbccabGreatDoorS22
import Derived.Test.YtcbcjefefmbccabGreatDoorS06
import Derived.Laws.OwnMore
import Derived.Deep.RegionHeld3
import Derived.Test.YtcbcjefefmbccabGreatDoorS19
import Derived.Test.YtcbcjefefmbccabGreatDoorS01
import Derived.Maps.Own
import Derived.Test.YtcbcjefefmbccabGreatDoorS20
import Derived.Laws.MakeOwn
namespace Go.Proofs.YtcbcjefefmbccabGreatDoor
open Go.RowKit

theorem ErrIn.low {base base' : Nat} {w : World} {a : Nat → Addr} {v : Value} {f : Int × Int} (h : ErrIn base w a v f) (hb : base' ≤ base) : ErrIn base' w a v f := by
  rcases h with h | h | ⟨k, pb, po, at0, hk, hl, hv, h0, h1, hf⟩
  · exact .inl h
  · exact .inr (.inl h)
  · exact .inr (.inr ⟨k, pb, po, at0, hk, Nat.le_trans hb hl, hv, h0, h1, hf⟩)
def idTexts (ids : List (Nat × Int)) : List (List UInt8) := ids.map fun x => idText x.1 x.2.toNat
def textPost (a : Nat → Addr) (nm : ByteArray) (len : Int) (p : Nat) (ids : List (Nat × Int)) (w : World) (e : Ending) (w' : World) : Prop := ∃ ev, e = .returned (.tuple #[.string ⟨(textR nm.data.toList len p ids).toArray⟩, ev]) ∧ ErrIn w.heap.size w' a ev (recFault nm.data.toList len ids) ∧ Below w.heap.size w w'

def wordsOf (nm D X : ByteArray) (ids : List (Nat × Int)) : List ByteArray := nm :: D :: X :: (idTexts ids).map fun l => ⟨l.toArray⟩
end Go.Proofs.YtcbcjefefmbccabGreatDoor
namespace Go.Proofs.YtcbcjefefmbccabGreatDoor
open Go.RowKit

def joinPost (a : Nat → Addr) (nm : ByteArray) (len : Int) (p : Nat) (ids : List (Nat × Int)) (ls : List (List UInt8)) (w : World) (e : Ending) (w' : World) : Prop := ∃ ev, e = .returned (.tuple #[.string ⟨(joinOf nm.data.toList len p ids ls).1.toArray⟩, ev]) ∧ ErrIn w.heap.size w' a ev (joinOf nm.data.toList len p ids ls).2 ∧ Below w.heap.size w w'

/- strings.Join of a slice of texts with nothing between. -/
end Go.Proofs.YtcbcjefefmbccabGreatDoor
namespace Go.Proofs.YtcbcjefefmbccabGreatDoor
open Go.RowKit Go.Maps

theorem look1 {P : Program} {k : TypeId} {κ β : Type} {M : MapKit P k κ β} {w : World} {b : Nat} {l : List (κ × β)} {t e : TypeId} {c0 : β} (h : M.Of w b l) (ht : P.underlying t = some (.map k e)) (hz : (zeroValue e).run P w = .ok (M.mkV c0) w) {x : κ} {c : β} (hm : (x, c) ∈ l) :
    (Instr.lookup t (.map (some b)) (M.mkK x) false).run P w = .ok (M.mkV c) w := by
  have hx : M.wf x := h.wf _ hm
  obtain ⟨ds, ho, hp⟩ := h.own
  obtain ⟨es, e, hap, _⟩ := ho.entries M.K
  cases e
  have hd : (M.kl x, DataW.held (M.mkV c)) ∈ ds := hp.mem_iff.2 (List.mem_map.2 ⟨_, hm, rfl⟩)
  have hat : ∀ z, (DataW.map ds).atKey (M.kl x) z = .held (M.mkV c) := fun z => WideAt.atKey_mem z (M.isKey hx) hap hd
  obtain ⟨v, ps, hrun, hv⟩ := ho.lookup M.K ht hz (M.R_mk c0) (M.key_kl hx)
  rw [hat] at hv
  obtain ⟨c', rfl, e⟩ := M.R_inv hv
  have ev : M.mkV c = M.mkV c' := DataW.held.inj (Prod.mk.inj e).1
  rw [hrun, ev]
end Go.Proofs.YtcbcjefefmbccabGreatDoor
