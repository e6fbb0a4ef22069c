/-
  Own text. The document's bin by contracts: a use more or less in place; Drop.
  Own text. The document's bin by contracts: Put.
-/
import Derived.Test.YtcbcjefefmbccabGreatDoorS08
namespace Go.Proofs.YtcbcjefefmbccabGreatDoor
open Go.RowKit

theorem RBin.open {w : World} {B : Nat} {v : Value} {l : List Hd} (h : RBin w B v l) (hn : 1 ≤ l.length) : ∃ g cap, v = .slice (some ⟨g, 0, none⟩) l.length cap ∧ (g ≠ B ∧ l.length ≤ cap ∧ cap ≤ maxLen) ∧ (∀ i, w.frozen? ⟨g, i, none⟩ = false) ∧ ∀ i (hi : i < l.length), w.cell? ⟨g, i * 4, none⟩ = some (.int .u32 (l[i].1.1 : Nat)) ∧ w.cell? ⟨g, i * 4 + 1, none⟩ = some (.int .i64 l[i].1.2) ∧ w.cell? ⟨g, i * 4 + 2, none⟩ = some (.int .i64 l[i].2.1) ∧ w.cell? ⟨g, i * 4 + 3, none⟩ = some (.string ⟨l[i].2.2.toArray⟩) := by
  have hap := h.apart
  obtain ⟨p, c, hv, hc⟩ := h.at
  obtain ⟨_, ho⟩ := h.row
  rcases ho with ⟨rfl, h0⟩ | ⟨g, cap, cur, rfl, _, hb, h1, h2, _⟩
  · omega
  · refine ⟨g, cap, rfl, ⟨fun e => hap (by simp [Value.ownBlock, e]), h1, h2⟩, fun i => ?_, fun i hi => ?_⟩
    · simp only [World.frozen?, hb]
      simp
    · obtain ⟨b, o, hp, _, a⟩ := hc i hi
      have hpp : p = some ⟨g, 0, none⟩ := (by simpa using hv.symm : p = some ⟨g, 0, none⟩ ∧ c = cap).1
      rw [hpp] at hp
      cases hp
      simpa using a
end Go.Proofs.YtcbcjefefmbccabGreatDoor
namespace Go.Proofs.YtcbcjefefmbccabGreatDoor
open Go.RowKit

theorem four_new (W : World) (h : Hd) (t : TypeId) (B : Nat) (hB : B = W.heap.size) : ∀ j u, (heldCells [h])[j]? = some u → (W.alloc (.cells #[.int .u32 (h.1.1 : Nat), .int .i64 h.1.2, .int .i64 h.2.1, .string ⟨h.2.2.toArray⟩] t)).cell? ((⟨B, 0, none⟩ : Addr).add j) = some u := by
  intro j u hj
  have ha : (⟨B, 0, none⟩ : Addr).add j = ⟨B, j, none⟩ := by unfold Addr.add; split <;> simp_all
  rw [ha]
  refine new_cell W _ t ?_ hB
  rw [← hj]
  match j with
  | 0 => rfl
  | 1 => rfl
  | 2 => rfl
  | 3 => rfl
  | j + 4 => simp [heldCells]
/- What Put leaves behind. -/
def PutPost (w : World) (B : Nat) (v : Value) (r : ((Nat × Int) × Bool × Int) × List Hd) (e : Ending) (w' : World) : Prop :=
  ∃ v', e = .returned (.tuple #[idV (r.1.1.1 : Nat) r.1.1.2, .bool r.1.2.1, .int .i64 r.1.2.2]) ∧ RBin w' B v' r.2 ∧ (∀ k, v'.ownBlock = some k → v.ownBlock = some k ∨ w.heap.size ≤ k) ∧ Off (RBin.Of B v) w w'

/- Behind Find: the result's block, the ID's block, the bin. -/
structure PutW (w W : World) (I B : Nat) (v : Value) (l : List Hd) (x : Nat × Int) : Prop where
  below : Below w.heap.size w W
  res : Blk W w.heap.size #[.int .u32 0, .int .i64 0] 25
  id : Blk W I #[.int .u32 (x.1 : Nat), .int .i64 x.2] 25
  ne : w.heap.size < I
  bin : RBin W B v l
theorem PutW.next {w W W' : World} {I B : Nat} {v : Value} {l : List Hd} {x : Nat × Int} (h : PutW w W I B v l x) (hb : Below W.heap.size W W') : PutW w W' I B v l x :=
  ⟨h.below.trans (hb.mono h.below.size), h.res.next hb, h.id.next hb, h.ne, h.bin.below hb⟩

end Go.Proofs.YtcbcjefefmbccabGreatDoor
