/-
  Own text. How pieces lie in memory: slices of pieces (HeldsAt, HeldsIn); the document's bin (RBin); worlds that turn in some blocks alone (Off).
-/
import Derived.Test.YtjngnnbondejaabDoorBinPure
import Derived.Test.YtjngnnbondejaabDoorMem
namespace Go.Proofs.YtjngnnbondejaabDoor
open Go.RowKit

/- Of the blocks that were there only those of F may have turned. -/
structure Off (F : Nat → Prop) (w w' : World) : Prop where
  os : w'.os = w.os
  tape : w'.tape = w.tape
  output : w'.output = w.output
  size : w.heap.size ≤ w'.heap.size
  block : ∀ k, k < w.heap.size → ¬ F k → w'.heap[k]? = w.heap[k]?
theorem Off.of_below {F : Nat → Prop} {w w' : World} (h : Below w.heap.size w w') : Off F w w' := ⟨h.os, h.tape, h.output, h.size, fun k hk _ => h.block k hk⟩
theorem Off.refl (F : Nat → Prop) (w : World) : Off F w w := ⟨rfl, rfl, rfl, Nat.le_refl _, fun _ _ _ => rfl⟩
theorem Off.trans {F G : Nat → Prop} {a b c : World} (h : Off F a b) (k : Off G b c) (hG : ∀ i, i < a.heap.size → G i → F i) : Off F a c :=
  ⟨k.os.trans h.os, k.tape.trans h.tape, k.output.trans h.output, Nat.le_trans h.size k.size, fun i hi hf => (k.block i (Nat.lt_of_lt_of_le hi h.size) (fun hg => hf (hG i hi hg))).trans (h.block i hi hf)⟩
theorem Off.mono {F G : Nat → Prop} {a b : World} (h : Off F a b) (hG : ∀ i, i < a.heap.size → F i → G i) : Off G a b := ⟨h.os, h.tape, h.output, h.size, fun i hi hg => h.block i hi (fun hf => hg (hG i hi hf))⟩
theorem Off.setCell {F : Nat → Prop} {a b : World} (h : Off F a b) {p : Addr} (hp : F p.block ∨ a.heap.size ≤ p.block) (u : Value) : Off F a (b.setCell p u) :=
  ⟨h.os, h.tape, h.output, by simpa [World.setCell] using h.size, fun k hk hf => (Below.heap_setCell b p u k (fun e => by subst e; rcases hp with hp | hp; exact hf hp; omega)).trans (h.block k hk hf)⟩
theorem Off.below {F : Nat → Prop} {w w' : World} {n : Nat} (h : Off F w w') (hn : n ≤ w.heap.size) (hF : ∀ k, k < n → ¬ F k) : Below n w w' := ⟨h.os, h.tape, h.output, h.size, fun k hk => h.block k (Nat.lt_of_lt_of_le hk hn) (hF k hk)⟩
theorem off_of_grown {w w' : World} {b : Nat} {F : Nat → Prop} (h : w.grownBy w' (some b)) (hF : F b) : Off F w w' := ⟨h.os, h.tape, h.output, h.size, fun k hk hf => h.block k hk (fun e => hf (by cases e; exact hF))⟩
theorem Off.blk {F : Nat → Prop} {w w' : World} (h : Off F w w') {B : Nat} {cs : Array Value} {t : TypeId} (hB : Blk w B cs t) (hn : ¬ F B) : Blk w' B cs t := (h.block B hB.lt hn).trans hB
theorem Off.row {F : Nat → Prop} {w w' : World} (h : Off F w w') {base : Nat} {e : TypeId} {size : Nat} {v : Value} {n : Nat} {xs : List Value} (ho : w.ownsRow base e size v n xs) (hn : ∀ k, v.ownBlock = some k → ¬ F k) : w'.ownsRow base e size v n xs := by
  obtain ⟨hl, ho⟩ := ho
  refine ⟨hl, ?_⟩
  rcases ho with ho | ⟨g, cap, cur, rfl, hg, hb, h1, h2, h3, h4⟩
  · exact .inl ho
  · exact .inr ⟨g, cap, cur, rfl, hg, (h.block g (Array.getElem?_eq_some_iff.1 hb).1 (hn g rfl)).trans hb, h1, h2, h3, h4⟩

/- v is a slice of pieces. -/
def HeldsAt (w : World) (v : Value) (l : List Hd) : Prop :=
  ∃ (p : Option Addr) (c : Nat), v = .slice p l.length c ∧ ∀ i (h : i < l.length), ∃ b o, p = some ⟨b, o, none⟩ ∧ (b < w.heap.size ∧ l.length ≤ c) ∧ w.cell? ⟨b, o + i * 4, none⟩ = some (.int .u32 (l[i].1.1 : Nat)) ∧ w.cell? ⟨b, o + i * 4 + 1, none⟩ = some (.int .i64 l[i].1.2) ∧
    w.cell? ⟨b, o + i * 4 + 2, none⟩ = some (.int .i64 l[i].2.1) ∧ w.cell? ⟨b, o + i * 4 + 3, none⟩ = some (.string ⟨l[i].2.2.toArray⟩)
theorem HeldsAt.below {w w' : World} {v : Value} {l : List Hd} (h : HeldsAt w v l) (hb : Below w.heap.size w w') : HeldsAt w' v l := by
  obtain ⟨p, c, rfl, h⟩ := h
  refine ⟨p, c, rfl, fun i hi => ?_⟩
  obtain ⟨b, o, hp, ⟨hlt, hc⟩, h1, h2, h3, h4⟩ := h i hi
  exact ⟨b, o, hp, ⟨Nat.lt_of_lt_of_le hlt hb.size, hc⟩, (hb.cell (p := ⟨b, o + i * 4, none⟩) hlt).trans h1, (hb.cell (p := ⟨b, o + i * 4 + 1, none⟩) hlt).trans h2, (hb.cell (p := ⟨b, o + i * 4 + 2, none⟩) hlt).trans h3, (hb.cell (p := ⟨b, o + i * 4 + 3, none⟩) hlt).trans h4⟩
theorem HeldsAt.off {F : Nat → Prop} {w w' : World} {v : Value} {l : List Hd} (h : HeldsAt w v l) (ho : Off F w w') (hn : ∀ k, v.ownBlock = some k → ¬ F k) : HeldsAt w' v l := by
  obtain ⟨p, c, rfl, h⟩ := h
  refine ⟨p, c, rfl, fun i hi => ?_⟩
  obtain ⟨b, o, rfl, ⟨hlt, hc⟩, h1, h2, h3, h4⟩ := h i hi
  have e : ∀ j, w'.cell? ⟨b, j, none⟩ = w.cell? ⟨b, j, none⟩ := fun j => World.cell?_of_block (w := w) (ho.block b hlt (hn b rfl))
  exact ⟨b, o, rfl, ⟨Nat.lt_of_lt_of_le hlt ho.size, hc⟩, (e _).trans h1, (e _).trans h2, (e _).trans h3, (e _).trans h4⟩
theorem HeldsAt.nil (w : World) : HeldsAt w (.slice none 0 0) [] := ⟨none, 0, rfl, fun i hi => by simp at hi⟩
theorem HeldsAt.of_row {w : World} {base : Nat} {e : TypeId} {v : Value} {l : List Hd} (h : w.ownsRow base e 4 v l.length (heldCells l)) : HeldsAt w v l := by
  obtain ⟨hl, h⟩ := h
  rcases h with ⟨rfl, h0⟩ | ⟨g, cap, cur, rfl, hg, hb, h1, h2, h3, h4⟩
  · exact ⟨none, 0, by rw [h0], fun i hi => by omega⟩
  · have hgl : g < w.heap.size := (Array.getElem?_eq_some_iff.1 hb).1
    have hc : ∀ j u, (heldCells l)[j]? = some u → w.cell? ⟨g, 0 + j, none⟩ = some u := fun j u hj => by
      have hjl : j < (heldCells l).length := (List.getElem?_eq_some_iff.1 hj).1
      have e1 : cur.toList[j]? = some u := by
        rw [← hj, ← h4, List.getElem?_take, if_pos (by omega)]
      rw [Nat.zero_add]
      simp only [World.cell?, hb]
      rw [← Array.getElem?_toList, e1]
      simp
    exact ⟨some ⟨g, 0, none⟩, cap, rfl, fun i hi => ⟨g, 0, rfl, ⟨hgl, h1⟩, hc _ _ (heldCells_at l i hi).1, hc _ _ (heldCells_at l i hi).2.1, hc _ _ (heldCells_at l i hi).2.2.1, hc _ _ (heldCells_at l i hi).2.2.2⟩⟩
/- The cells of a slice of pieces, one behind the other. -/
theorem heldCells_cells {W : World} {b o : Nat} {l : List Hd} (h : ∀ i (h : i < l.length), W.cell? ⟨b, o + i * 4, none⟩ = some (.int .u32 (l[i].1.1 : Nat)) ∧ W.cell? ⟨b, o + i * 4 + 1, none⟩ = some (.int .i64 l[i].1.2) ∧ W.cell? ⟨b, o + i * 4 + 2, none⟩ = some (.int .i64 l[i].2.1) ∧ W.cell? ⟨b, o + i * 4 + 3, none⟩ = some (.string ⟨l[i].2.2.toArray⟩)) :
    ∀ j u, (heldCells l)[j]? = some u → W.cell? ((⟨b, o, none⟩ : Addr).add j) = some u := by
  intro j u hj
  have hjl : j < (heldCells l).length := (List.getElem?_eq_some_iff.1 hj).1
  rw [heldCells_length] at hjl
  have hi : j / 4 < l.length := by omega
  have ha : (⟨b, o, none⟩ : Addr).add j = ⟨b, o + j, none⟩ := by unfold Addr.add; split <;> simp_all
  rw [ha]
  obtain ⟨e0, e1, e2, e3⟩ := heldCells_at l (j / 4) hi
  obtain ⟨h0, h1, h2, h3⟩ := h (j / 4) hi
  have : j % 4 = 0 ∨ j % 4 = 1 ∨ j % 4 = 2 ∨ j % 4 = 3 := by omega
  rcases this with hm | hm | hm | hm
  · rw [show j / 4 * 4 = j by omega] at e0 h0
    rw [h0, ← hj, e0]
  · rw [show j / 4 * 4 + 1 = j by omega] at e1
    rw [Nat.add_assoc, show j / 4 * 4 + 1 = j by omega] at h1
    rw [h1, ← hj, e1]
  · rw [show j / 4 * 4 + 2 = j by omega] at e2
    rw [Nat.add_assoc, show j / 4 * 4 + 2 = j by omega] at h2
    rw [h2, ← hj, e2]
  · rw [show j / 4 * 4 + 3 = j by omega] at e3
    rw [Nat.add_assoc, show j / 4 * 4 + 3 = j by omega] at h3
    rw [h3, ← hj, e3]

/- The document's bin: a block with a slice, and the slice's own row. -/
/- Its blocks. -/
def RBin.Of (B : Nat) (v : Value) (k : Nat) : Prop := k = B ∨ v.ownBlock = some k
end Go.Proofs.YtjngnnbondejaabDoor
