/-
  Own text. Errors by their numbers and places, in one word (ErrIs); faulted and coded at the right ones by contracts; LongRecipe.
-/
import Derived.Test.YtjngnnbondejaabDoorCode
import Derived.Test.YtjngnnbondejaabDoorRecFault
namespace Go.Proofs.YtjngnnbondejaabDoor
open Go.RowKit

/- The error v has the number f.1 and the place f.2 (0: nil; -1: no place). -/
def ErrIs (w : World) (a : Nat → Addr) (v : Value) (f : Int × Int) : Prop :=
  (v = .nilIface ∧ f = (0, -1)) ∨ (∃ k : Nat, k < 12 ∧ v = sentV a k ∧ f = ((k : Int) + 1, -1)) ∨
  (∃ (k pb po : Nat) (at0 : Int), k < 12 ∧ v = .iface 97 (.pointer (some ⟨pb, po, none⟩)) ∧ w.cell? ⟨pb, po, none⟩ = some (.int .i64 at0) ∧ w.cell? ⟨pb, po + 1, none⟩ = some (sentV a k) ∧ f = ((k : Int) + 1, at0))
theorem ErrIs.below {w w' : World} {a : Nat → Addr} {v : Value} {f : Int × Int} (h : ErrIs w a v f) (hb : Below w.heap.size w w') : ErrIs w' a v f := by
  rcases h with h | h | ⟨k, pb, po, at0, hk, hv, h0, h1, hf⟩
  · exact .inl h
  · exact .inr (.inl h)
  · exact .inr (.inr ⟨k, pb, po, at0, hk, hv, (hb.cell (p := ⟨pb, po, none⟩) (lt_of_cell h0)).trans h0, (hb.cell (p := ⟨pb, po + 1, none⟩) (lt_of_cell h1)).trans h1, hf⟩)
/- The same, and a fault lies from block 'base' on. -/
def ErrIn (base : Nat) (w : World) (a : Nat → Addr) (v : Value) (f : Int × Int) : Prop :=
  (v = .nilIface ∧ f = (0, -1)) ∨ (∃ k : Nat, k < 12 ∧ v = sentV a k ∧ f = ((k : Int) + 1, -1)) ∨
  (∃ (k pb po : Nat) (at0 : Int), k < 12 ∧ base ≤ pb ∧ v = .iface 97 (.pointer (some ⟨pb, po, none⟩)) ∧ w.cell? ⟨pb, po, none⟩ = some (.int .i64 at0) ∧ w.cell? ⟨pb, po + 1, none⟩ = some (sentV a k) ∧ f = ((k : Int) + 1, at0))
theorem ErrIn.at {base : Nat} {w : World} {a : Nat → Addr} {v : Value} {f : Int × Int} (h : ErrIn base w a v f) : ErrIs w a v f := by
  rcases h with h | h | ⟨k, pb, po, at0, hk, _, hv, h0, h1, hf⟩
  · exact .inl h
  · exact .inr (.inl h)
  · exact .inr (.inr ⟨k, pb, po, at0, hk, hv, h0, h1, hf⟩)
theorem ErrIn.below {base : Nat} {w w' : World} {a : Nat → Addr} {v : Value} {f : Int × Int} (h : ErrIn base w a v f) (hb : Below w.heap.size w w') : ErrIn base w' a v f := by
  rcases h with h | h | ⟨k, pb, po, at0, hk, hl, hv, h0, h1, hf⟩
  · exact .inl h
  · exact .inr (.inl h)
  · exact .inr (.inr ⟨k, pb, po, at0, hk, hl, hv, (hb.cell (p := ⟨pb, po, none⟩) (lt_of_cell h0)).trans h0, (hb.cell (p := ⟨pb, po + 1, none⟩) (lt_of_cell h1)).trans h1, hf⟩)
theorem ErrIn.setCell {base : Nat} {w : World} {a : Nat → Addr} {v : Value} {f : Int × Int} (h : ErrIn base w a v f) {x : Addr} (hx : x.block < base) (u : Value) : ErrIn base (w.setCell x u) a v f := by
  rcases h with h | h | ⟨k, pb, po, at0, hk, hl, hv, h0, h1, hf⟩
  · exact .inl h
  · exact .inr (.inl h)
  · have hn : ∀ j, x ≠ ⟨pb, j, none⟩ := fun j e => by rw [e] at hx; simp at hx; omega
    exact .inr (.inr ⟨k, pb, po, at0, hk, hl, hv, by rw [World.cell?_setCell_other _ _ _ _ (hn _)]; exact h0, by rw [World.cell?_setCell_other _ _ _ _ (hn _)]; exact h1, hf⟩)
theorem ErrIn.nil {base : Nat} {w : World} {a : Nat → Addr} {v : Value} {x : Int} (h : ErrIn base w a v (0, x)) : v = .nilIface := by
  rcases h with h | ⟨k, _, _, hf⟩ | ⟨k, pb, po, at0, _, _, _, _, _, hf⟩
  · exact h.1
  · have := congrArg Prod.fst hf
    simp only at this
    omega
  · have := congrArg Prod.fst hf
    simp only at this
    omega
theorem ErrIn.some {base : Nat} {w : World} {a : Nat → Addr} {v : Value} {c x : Int} (h : ErrIn base w a v (c, x)) (hc : c ≠ 0) : ∃ t q, v = .iface t (.pointer q) := by
  rcases h with ⟨_, hf⟩ | ⟨k, _, hv, _⟩ | ⟨k, pb, po, at0, _, _, hv, _⟩
  · exact (hc (Prod.mk.inj hf).1).elim
  · exact ⟨_, _, hv⟩
  · exact ⟨_, _, hv⟩
theorem ErrIs.code {w : World} {a : Nat → Addr} {v : Value} {f : Int × Int} (h : ErrIs w a v f) (hE : ErrW w a) :
    Calls Tryd.prog 42 #[v] w fun e w' => e = .returned (.tuple #[.int .i64 f.1, .int .i64 f.2]) ∧ Below w.heap.size w w' := by
  rcases h with ⟨rfl, rfl⟩ | ⟨k, hk, rfl, rfl⟩ | ⟨k, pb, po, at0, hk, rfl, h0, h1, rfl⟩
  · exact (code_nil w).mono fun e w' ⟨h1, h2⟩ => ⟨h1, by rw [h2]; exact Below.refl _ _⟩
  · exact code_sent a k hk w hE
  · exact code_fault a k hk pb po at0 w hE h0 h1

end Go.Proofs.YtjngnnbondejaabDoor
