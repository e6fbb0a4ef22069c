/-
  Own text. Memory that is followed through calls: new blocks, blocks that hold what they held (Blk), what lies between two block numbers (SameIn).
-/
import Derived.Test.YtjngnnbondejaabDoorChecked
import Derived.WalkKit
import Derived.Below
import Derived.RangeFuncRecord
namespace Go.Proofs.YtjngnnbondejaabDoor
open Go.RowKit

theorem hideN {q : Prop} (h : q) : Hid q := h
theorem frozen_alloc_lt' (w : World) (o : Obj) {b i : Nat} (h : b < w.heap.size) : (w.alloc o).frozen? ⟨b, i, none⟩ = w.frozen? ⟨b, i, none⟩ := World.frozen?_of_block (w := w) (Below.heap_alloc w o b h)
theorem new_cell (W : World) (cs : Array Value) (t : TypeId) {i B : Nat} {v : Value} (h : cs[i]? = some v) (hB : B = W.heap.size) : (W.alloc (.cells cs t)).cell? ⟨B, i, none⟩ = some v := by
  subst hB
  have h2 := World.alloc_heap_new W (.cells cs t)
  simp only [World.cell?, h2, h]
  rfl
theorem new_frozen (W : World) (cs : Array Value) (t : TypeId) {i B : Nat} (hB : B = W.heap.size) : (W.alloc (.cells cs t)).frozen? ⟨B, i, none⟩ = false := by
  subst hB
  have h2 := World.alloc_heap_new W (.cells cs t)
  simp only [World.frozen?, h2]
  simp
theorem grown_of_below {w w' : World} (h : Below w.heap.size w w') : w.grownBy w' none := ⟨h.os, h.tape, h.output, h.size, fun k hk _ => h.block k hk⟩
theorem below_of_grown {w w' : World} (h : w.grownBy w' none) : Below w.heap.size w w' := ⟨h.os, h.tape, h.output, h.size, fun k hk => h.block k hk (by simp)⟩
theorem row_below {w w' : World} {base : Nat} {e : TypeId} {size : Nat} {v : Value} {n : Nat} {xs : List Value} (h : w.ownsRow base e size v n xs) (hb : Below w.heap.size w w') : w'.ownsRow base e size v n xs := by
  refine h.kept (grown_of_below hb) ?_
  cases hv : v.ownBlock with
  | none => exact .inl rfl
  | some j => exact .inr (by simp)
/- Block B holds cs. -/
def Blk (W : World) (B : Nat) (cs : Array Value) (t : TypeId) : Prop := W.heap[B]? = some (.cells cs t (0, 0))
theorem Blk.lt {W : World} {B : Nat} {cs : Array Value} {t : TypeId} (h : Blk W B cs t) : B < W.heap.size := (Array.getElem?_eq_some_iff.1 h).1
theorem Blk.cell {W : World} {B : Nat} {cs : Array Value} {t : TypeId} (h : Blk W B cs t) {i : Nat} {u : Value} (hi : cs[i]? = some u) : W.cell? ⟨B, i, none⟩ = some u := by
  simp only [World.cell?, show W.heap[B]? = _ from h, hi]
  rfl
theorem Blk.frozen {W : World} {B : Nat} {cs : Array Value} {t : TypeId} (h : Blk W B cs t) (i : Nat) : W.frozen? ⟨B, i, none⟩ = false := by
  simp only [World.frozen?, show W.heap[B]? = _ from h]
  simp
theorem Blk.next {W W' : World} {B : Nat} {cs : Array Value} {t : TypeId} (h : Blk W B cs t) (hb : Below W.heap.size W W') : Blk W' B cs t := (hb.block B h.lt).trans h
theorem Blk.new (W : World) (cs : Array Value) (t : TypeId) : Blk (W.alloc (.cells cs t)) W.heap.size cs t := World.alloc_heap_new W _
theorem Blk.set {W : World} {B : Nat} {cs : Array Value} {t : TypeId} (h : Blk W B cs t) (i : Nat) (u : Value) : Blk (W.setCell ⟨B, i, none⟩ u) B (cs.setIfInBounds i u) t := by
  obtain ⟨hlt, hk⟩ := Array.getElem?_eq_some_iff.1 h
  show (W.heap.modify B _)[B]? = _
  rw [Array.getElem?_eq_getElem (by rw [Array.size_modify]; exact hlt), Array.getElem_modify_self, hk]
  simp
theorem Blk.other {W : World} {B : Nat} {cs : Array Value} {t : TypeId} (h : Blk W B cs t) {a : Addr} (ha : B ≠ a.block) (u : Value) : Blk (W.setCell a u) B cs t := (Below.heap_setCell W a u B ha).trans h
/- Between two block numbers nothing has turned. -/
def SameIn (lo hi : Nat) (W W' : World) : Prop := ∀ b, lo ≤ b → b < hi → W'.heap[b]? = W.heap[b]?
theorem SameIn.refl (lo hi : Nat) (W : World) : SameIn lo hi W W := fun _ _ _ => rfl
theorem SameIn.next {lo hi : Nat} {W W' W'' : World} (h : SameIn lo hi W W') (hs : hi ≤ W'.heap.size) (hb : Below W'.heap.size W' W'') : SameIn lo hi W W'' := fun b h1 h2 => (hb.block b (by omega)).trans (h b h1 h2)
theorem SameIn.setCell {lo hi : Nat} {W W' : World} (h : SameIn lo hi W W') {a : Addr} (ha : a.block < lo ∨ hi ≤ a.block) (u : Value) : SameIn lo hi W (W'.setCell a u) := fun b h1 h2 => (Below.heap_setCell W' a u b (by omega)).trans (h b h1 h2)
theorem Blk.below {W W' : World} {B n : Nat} {cs : Array Value} {t : TypeId} (h : Blk W B cs t) (hb : Below n W W') (hn : B < n) : Blk W' B cs t := (hb.block B hn).trans h
theorem SameIn.below {lo hi n : Nat} {W W' W'' : World} (h : SameIn lo hi W W') (hn : hi ≤ n) (hb : Below n W' W'') : SameIn lo hi W W'' := fun b h1 h2 => (hb.block b (by omega)).trans (h b h1 h2)
theorem SameIn.cell {lo hi : Nat} {W W' : World} (h : SameIn lo hi W W') {b : Nat} (h1 : lo ≤ b) (h2 : b < hi) (o : Nat) : W'.cell? ⟨b, o, none⟩ = W.cell? ⟨b, o, none⟩ := World.cell?_of_block (w := W) (h b h1 h2)
end Go.Proofs.YtjngnnbondejaabDoor
