/-
  Own text. Memory that is followed through calls: new blocks, blocks that hold what they held (Blk), what lies between two block numbers (SameIn).
  Own text. How pieces lie in memory: slices of pieces (HeldsAt, HeldsIn); the document's bin (RBin); worlds that turn in some blocks alone (Off).
  Own text. Recipes, pure: names, a recipe's fault; and the document's IsName, Bare, Fine by contracts.
  Own text. A recipe's fault, pure, and the document's RecipeFault by a contract.
  Own text. Errors by their numbers and places, in one word (ErrIs); faulted and coded at the right ones by contracts; LongRecipe.
-/
import Derived.Test.YtcbcjefefmbccabGreatDoorChecked
import Derived.WalkKit
import Derived.Below
import Derived.RangeFuncRecord
import Derived.Test.YtcbcjefefmbccabGreatDoorS02
import Derived.Lib.Strings
import Derived.BigQuiet
import Derived.Test.YtcbcjefefmbccabGreatDoorS01
namespace Go.Proofs.YtcbcjefefmbccabGreatDoor
open Go.RowKit

theorem hideN {q : Prop} (h : q) : Hid q := h
theorem frozen_alloc_lt' (w : World) (o : Obj) {b i : Nat} (h : b < w.heap.size) : (w.alloc o).frozen? ⟨b, i, none⟩ = w.frozen? ⟨b, i, none⟩ := World.frozen?_of_block (w := w) (Below.heap_alloc w o b h)
theorem new_cell (W : World) (cs : Array Value) (t : TypeId) {i B : Nat} {v : Value} (h : cs[i]? = some v) (hB : B = W.heap.size) : (W.alloc (.cells cs t)).cell? ⟨B, i, none⟩ = some v := by
  subst hB
  have h2 := World.alloc_heap_new W (.cells cs t)
  simp only [World.cell?, h2, h]
  rfl
theorem new_frozen (W : World) (cs : Array Value) (t : TypeId) {i B : Nat} (hB : B = W.heap.size) : (W.alloc (.cells cs t)).frozen? ⟨B, i, none⟩ = false := by
  subst hB
  have h2 := World.alloc_heap_new W (.cells cs t)
  simp only [World.frozen?, h2]
  simp
theorem grown_of_below {w w' : World} (h : Below w.heap.size w w') : w.grownBy w' none := ⟨h.os, h.tape, h.output, h.size, fun k hk _ => h.block k hk⟩
theorem below_of_grown {w w' : World} (h : w.grownBy w' none) : Below w.heap.size w w' := ⟨h.os, h.tape, h.output, h.size, fun k hk => h.block k hk (by simp)⟩
theorem row_below {w w' : World} {base : Nat} {e : TypeId} {size : Nat} {v : Value} {n : Nat} {xs : List Value} (h : w.ownsRow base e size v n xs) (hb : Below w.heap.size w w') : w'.ownsRow base e size v n xs := by
  refine h.kept (grown_of_below hb) ?_
  cases hv : v.ownBlock with
  | none => exact .inl rfl
  | some j => exact .inr (by simp)
/- Block B holds cs. -/
def Blk (W : World) (B : Nat) (cs : Array Value) (t : TypeId) : Prop := W.heap[B]? = some (.cells cs t (0, 0))
theorem Blk.lt {W : World} {B : Nat} {cs : Array Value} {t : TypeId} (h : Blk W B cs t) : B < W.heap.size := (Array.getElem?_eq_some_iff.1 h).1
theorem Blk.cell {W : World} {B : Nat} {cs : Array Value} {t : TypeId} (h : Blk W B cs t) {i : Nat} {u : Value} (hi : cs[i]? = some u) : W.cell? ⟨B, i, none⟩ = some u := by
  simp only [World.cell?, show W.heap[B]? = _ from h, hi]
  rfl
theorem Blk.frozen {W : World} {B : Nat} {cs : Array Value} {t : TypeId} (h : Blk W B cs t) (i : Nat) : W.frozen? ⟨B, i, none⟩ = false := by
  simp only [World.frozen?, show W.heap[B]? = _ from h]
  simp
theorem Blk.next {W W' : World} {B : Nat} {cs : Array Value} {t : TypeId} (h : Blk W B cs t) (hb : Below W.heap.size W W') : Blk W' B cs t := (hb.block B h.lt).trans h
theorem Blk.new (W : World) (cs : Array Value) (t : TypeId) : Blk (W.alloc (.cells cs t)) W.heap.size cs t := World.alloc_heap_new W _
theorem Blk.set {W : World} {B : Nat} {cs : Array Value} {t : TypeId} (h : Blk W B cs t) (i : Nat) (u : Value) : Blk (W.setCell ⟨B, i, none⟩ u) B (cs.setIfInBounds i u) t := by
  obtain ⟨hlt, hk⟩ := Array.getElem?_eq_some_iff.1 h
  show (W.heap.modify B _)[B]? = _
  rw [Array.getElem?_eq_getElem (by rw [Array.size_modify]; exact hlt), Array.getElem_modify_self, hk]
  simp
theorem Blk.other {W : World} {B : Nat} {cs : Array Value} {t : TypeId} (h : Blk W B cs t) {a : Addr} (ha : B ≠ a.block) (u : Value) : Blk (W.setCell a u) B cs t := (Below.heap_setCell W a u B ha).trans h
/- Between two block numbers nothing has turned. -/
def SameIn (lo hi : Nat) (W W' : World) : Prop := ∀ b, lo ≤ b → b < hi → W'.heap[b]? = W.heap[b]?
theorem SameIn.refl (lo hi : Nat) (W : World) : SameIn lo hi W W := fun _ _ _ => rfl
theorem SameIn.next {lo hi : Nat} {W W' W'' : World} (h : SameIn lo hi W W') (hs : hi ≤ W'.heap.size) (hb : Below W'.heap.size W' W'') : SameIn lo hi W W'' := fun b h1 h2 => (hb.block b (by omega)).trans (h b h1 h2)
theorem SameIn.setCell {lo hi : Nat} {W W' : World} (h : SameIn lo hi W W') {a : Addr} (ha : a.block < lo ∨ hi ≤ a.block) (u : Value) : SameIn lo hi W (W'.setCell a u) := fun b h1 h2 => (Below.heap_setCell W' a u b (by omega)).trans (h b h1 h2)
theorem Blk.below {W W' : World} {B n : Nat} {cs : Array Value} {t : TypeId} (h : Blk W B cs t) (hb : Below n W W') (hn : B < n) : Blk W' B cs t := (hb.block B hn).trans h
theorem SameIn.below {lo hi n : Nat} {W W' W'' : World} (h : SameIn lo hi W W') (hn : hi ≤ n) (hb : Below n W' W'') : SameIn lo hi W W'' := fun b h1 h2 => (hb.block b (by omega)).trans (h b h1 h2)
theorem SameIn.cell {lo hi : Nat} {W W' : World} (h : SameIn lo hi W W') {b : Nat} (h1 : lo ≤ b) (h2 : b < hi) (o : Nat) : W'.cell? ⟨b, o, none⟩ = W.cell? ⟨b, o, none⟩ := World.cell?_of_block (w := W) (h b h1 h2)
end Go.Proofs.YtcbcjefefmbccabGreatDoor
namespace Go.Proofs.YtcbcjefefmbccabGreatDoor
open Go.RowKit

/- Of the blocks that were there only those of F may have turned. -/
structure Off (F : Nat → Prop) (w w' : World) : Prop where
  os : w'.os = w.os
  tape : w'.tape = w.tape
  output : w'.output = w.output
  size : w.heap.size ≤ w'.heap.size
  block : ∀ k, k < w.heap.size → ¬ F k → w'.heap[k]? = w.heap[k]?
theorem Off.of_below {F : Nat → Prop} {w w' : World} (h : Below w.heap.size w w') : Off F w w' := ⟨h.os, h.tape, h.output, h.size, fun k hk _ => h.block k hk⟩
theorem Off.refl (F : Nat → Prop) (w : World) : Off F w w := ⟨rfl, rfl, rfl, Nat.le_refl _, fun _ _ _ => rfl⟩
theorem Off.trans {F G : Nat → Prop} {a b c : World} (h : Off F a b) (k : Off G b c) (hG : ∀ i, i < a.heap.size → G i → F i) : Off F a c :=
  ⟨k.os.trans h.os, k.tape.trans h.tape, k.output.trans h.output, Nat.le_trans h.size k.size, fun i hi hf => (k.block i (Nat.lt_of_lt_of_le hi h.size) (fun hg => hf (hG i hi hg))).trans (h.block i hi hf)⟩
theorem Off.mono {F G : Nat → Prop} {a b : World} (h : Off F a b) (hG : ∀ i, i < a.heap.size → F i → G i) : Off G a b := ⟨h.os, h.tape, h.output, h.size, fun i hi hg => h.block i hi (fun hf => hg (hG i hi hf))⟩
theorem Off.setCell {F : Nat → Prop} {a b : World} (h : Off F a b) {p : Addr} (hp : F p.block ∨ a.heap.size ≤ p.block) (u : Value) : Off F a (b.setCell p u) :=
  ⟨h.os, h.tape, h.output, by simpa [World.setCell] using h.size, fun k hk hf => (Below.heap_setCell b p u k (fun e => by subst e; rcases hp with hp | hp; exact hf hp; omega)).trans (h.block k hk hf)⟩
theorem Off.below {F : Nat → Prop} {w w' : World} {n : Nat} (h : Off F w w') (hn : n ≤ w.heap.size) (hF : ∀ k, k < n → ¬ F k) : Below n w w' := ⟨h.os, h.tape, h.output, h.size, fun k hk => h.block k (Nat.lt_of_lt_of_le hk hn) (hF k hk)⟩
theorem Off.blk {F : Nat → Prop} {w w' : World} (h : Off F w w') {B : Nat} {cs : Array Value} {t : TypeId} (hB : Blk w B cs t) (hn : ¬ F B) : Blk w' B cs t := (h.block B hB.lt hn).trans hB
theorem Off.row {F : Nat → Prop} {w w' : World} (h : Off F w w') {base : Nat} {e : TypeId} {size : Nat} {v : Value} {n : Nat} {xs : List Value} (ho : w.ownsRow base e size v n xs) (hn : ∀ k, v.ownBlock = some k → ¬ F k) : w'.ownsRow base e size v n xs := by
  obtain ⟨hl, ho⟩ := ho
  refine ⟨hl, ?_⟩
  rcases ho with ho | ⟨g, cap, cur, rfl, hg, hb, h1, h2, h3, h4⟩
  · exact .inl ho
  · exact .inr ⟨g, cap, cur, rfl, hg, (h.block g (Array.getElem?_eq_some_iff.1 hb).1 (hn g rfl)).trans hb, h1, h2, h3, h4⟩

/- v is a slice of pieces. -/
def HeldsAt (w : World) (v : Value) (l : List Hd) : Prop :=
  ∃ (p : Option Addr) (c : Nat), v = .slice p l.length c ∧ ∀ i (h : i < l.length), ∃ b o, p = some ⟨b, o, none⟩ ∧ (b < w.heap.size ∧ l.length ≤ c) ∧ w.cell? ⟨b, o + i * 4, none⟩ = some (.int .u32 (l[i].1.1 : Nat)) ∧ w.cell? ⟨b, o + i * 4 + 1, none⟩ = some (.int .i64 l[i].1.2) ∧
    w.cell? ⟨b, o + i * 4 + 2, none⟩ = some (.int .i64 l[i].2.1) ∧ w.cell? ⟨b, o + i * 4 + 3, none⟩ = some (.string ⟨l[i].2.2.toArray⟩)
theorem HeldsAt.below {w w' : World} {v : Value} {l : List Hd} (h : HeldsAt w v l) (hb : Below w.heap.size w w') : HeldsAt w' v l := by
  obtain ⟨p, c, rfl, h⟩ := h
  refine ⟨p, c, rfl, fun i hi => ?_⟩
  obtain ⟨b, o, hp, ⟨hlt, hc⟩, h1, h2, h3, h4⟩ := h i hi
  exact ⟨b, o, hp, ⟨Nat.lt_of_lt_of_le hlt hb.size, hc⟩, (hb.cell (p := ⟨b, o + i * 4, none⟩) hlt).trans h1, (hb.cell (p := ⟨b, o + i * 4 + 1, none⟩) hlt).trans h2, (hb.cell (p := ⟨b, o + i * 4 + 2, none⟩) hlt).trans h3, (hb.cell (p := ⟨b, o + i * 4 + 3, none⟩) hlt).trans h4⟩
theorem HeldsAt.off {F : Nat → Prop} {w w' : World} {v : Value} {l : List Hd} (h : HeldsAt w v l) (ho : Off F w w') (hn : ∀ k, v.ownBlock = some k → ¬ F k) : HeldsAt w' v l := by
  obtain ⟨p, c, rfl, h⟩ := h
  refine ⟨p, c, rfl, fun i hi => ?_⟩
  obtain ⟨b, o, rfl, ⟨hlt, hc⟩, h1, h2, h3, h4⟩ := h i hi
  have e : ∀ j, w'.cell? ⟨b, j, none⟩ = w.cell? ⟨b, j, none⟩ := fun j => World.cell?_of_block (w := w) (ho.block b hlt (hn b rfl))
  exact ⟨b, o, rfl, ⟨Nat.lt_of_lt_of_le hlt ho.size, hc⟩, (e _).trans h1, (e _).trans h2, (e _).trans h3, (e _).trans h4⟩
theorem HeldsAt.nil (w : World) : HeldsAt w (.slice none 0 0) [] := ⟨none, 0, rfl, fun i hi => by simp at hi⟩
theorem HeldsAt.of_row {w : World} {base : Nat} {e : TypeId} {v : Value} {l : List Hd} (h : w.ownsRow base e 4 v l.length (heldCells l)) : HeldsAt w v l := by
  obtain ⟨hl, h⟩ := h
  rcases h with ⟨rfl, h0⟩ | ⟨g, cap, cur, rfl, hg, hb, h1, h2, h3, h4⟩
  · exact ⟨none, 0, by rw [h0], fun i hi => by omega⟩
  · have hgl : g < w.heap.size := (Array.getElem?_eq_some_iff.1 hb).1
    have hc : ∀ j u, (heldCells l)[j]? = some u → w.cell? ⟨g, 0 + j, none⟩ = some u := fun j u hj => by
      have hjl : j < (heldCells l).length := (List.getElem?_eq_some_iff.1 hj).1
      have e1 : cur.toList[j]? = some u := by
        rw [← hj, ← h4, List.getElem?_take, if_pos (by omega)]
      rw [Nat.zero_add]
      simp only [World.cell?, hb]
      rw [← Array.getElem?_toList, e1]
      simp
    exact ⟨some ⟨g, 0, none⟩, cap, rfl, fun i hi => ⟨g, 0, rfl, ⟨hgl, h1⟩, hc _ _ (heldCells_at l i hi).1, hc _ _ (heldCells_at l i hi).2.1, hc _ _ (heldCells_at l i hi).2.2.1, hc _ _ (heldCells_at l i hi).2.2.2⟩⟩
/- The cells of a slice of pieces, one behind the other. -/
theorem heldCells_cells {W : World} {b o : Nat} {l : List Hd} (h : ∀ i (h : i < l.length), W.cell? ⟨b, o + i * 4, none⟩ = some (.int .u32 (l[i].1.1 : Nat)) ∧ W.cell? ⟨b, o + i * 4 + 1, none⟩ = some (.int .i64 l[i].1.2) ∧ W.cell? ⟨b, o + i * 4 + 2, none⟩ = some (.int .i64 l[i].2.1) ∧ W.cell? ⟨b, o + i * 4 + 3, none⟩ = some (.string ⟨l[i].2.2.toArray⟩)) :
    ∀ j u, (heldCells l)[j]? = some u → W.cell? ((⟨b, o, none⟩ : Addr).add j) = some u := by
  intro j u hj
  have hjl : j < (heldCells l).length := (List.getElem?_eq_some_iff.1 hj).1
  rw [heldCells_length] at hjl
  have hi : j / 4 < l.length := by omega
  have ha : (⟨b, o, none⟩ : Addr).add j = ⟨b, o + j, none⟩ := by unfold Addr.add; split <;> simp_all
  rw [ha]
  obtain ⟨e0, e1, e2, e3⟩ := heldCells_at l (j / 4) hi
  obtain ⟨h0, h1, h2, h3⟩ := h (j / 4) hi
  have : j % 4 = 0 ∨ j % 4 = 1 ∨ j % 4 = 2 ∨ j % 4 = 3 := by omega
  rcases this with hm | hm | hm | hm
  · rw [show j / 4 * 4 = j by omega] at e0 h0
    rw [h0, ← hj, e0]
  · rw [show j / 4 * 4 + 1 = j by omega] at e1
    rw [Nat.add_assoc, show j / 4 * 4 + 1 = j by omega] at h1
    rw [h1, ← hj, e1]
  · rw [show j / 4 * 4 + 2 = j by omega] at e2
    rw [Nat.add_assoc, show j / 4 * 4 + 2 = j by omega] at h2
    rw [h2, ← hj, e2]
  · rw [show j / 4 * 4 + 3 = j by omega] at e3
    rw [Nat.add_assoc, show j / 4 * 4 + 3 = j by omega] at h3
    rw [h3, ← hj, e3]

/- The document's bin: a block with a slice, and the slice's own row. -/
structure RBin (w : World) (B : Nat) (v : Value) (l : List Hd) : Prop where
  blk : Blk w B #[v] 111
  row : w.ownsRow 0 78 4 v l.length (heldCells l)
/- Its blocks. -/
def RBin.Of (B : Nat) (v : Value) (k : Nat) : Prop := k = B ∨ v.ownBlock = some k
theorem RBin.at {w : World} {B : Nat} {v : Value} {l : List Hd} (h : RBin w B v l) : HeldsAt w v l := HeldsAt.of_row h.row
theorem RBin.lt {w : World} {B : Nat} {v : Value} {l : List Hd} (h : RBin w B v l) {k : Nat} (hk : RBin.Of B v k) : k < w.heap.size := by
  rcases hk with rfl | hk
  · exact h.blk.lt
  · exact (h.row.lt k hk).2
theorem RBin.off {F : Nat → Prop} {w w' : World} {B : Nat} {v : Value} {l : List Hd} (h : RBin w B v l) (ho : Off F w w') (hn : ∀ k, RBin.Of B v k → ¬ F k) : RBin w' B v l := ⟨ho.blk h.blk (hn B (.inl rfl)), ho.row h.row (fun k hk => hn k (.inr hk))⟩
theorem RBin.below {w w' : World} {B : Nat} {v : Value} {l : List Hd} (h : RBin w B v l) (hb : Below w.heap.size w w') : RBin w' B v l := h.off (Off.of_below (F := fun _ => False) hb) (fun _ _ h => h)
theorem RBin.apart {w : World} {B : Nat} {v : Value} {l : List Hd} (h : RBin w B v l) : v.ownBlock ≠ some B := by
  intro e
  obtain ⟨_, ho⟩ := h.row
  rcases ho with ⟨rfl, _⟩ | ⟨g, cap, cur, rfl, _, hb, _⟩
  · cases e
  · have eg : g = B := by simpa [Value.ownBlock] using e
    subst eg
    have hB : w.heap[g]? = some (.cells #[.slice (some ⟨g, 0, none⟩) l.length cap] 111 (0, 0)) := h.blk
    rw [hb] at hB
    have := (Obj.cells.inj (Option.some.inj hB)).2.1
    exact absurd this (by decide)
theorem infoHeld : (Tryz.prog.info? 78).map (fun i => (i.zero, i.size, i.bytes)) = some (some (heldV ((0, 0), 0, [])), 4, 40) := by kernel_rfl
end Go.Proofs.YtcbcjefefmbccabGreatDoor
namespace Go.Proofs.YtcbcjefefmbccabGreatDoor
open Go.RowKit

def nameByte (c : UInt8) : Bool := decide ((97 ≤ c.toNat ∧ c.toNat ≤ 122) ∨ (48 ≤ c.toNat ∧ c.toNat ≤ 57) ∨ c.toNat = 46 ∨ c.toNat = 45)
def isName (l : List UInt8) : Bool := l.all nameByte && (decide (1 ≤ l.length) && decide (l.length ≤ 12))
theorem isName_bad {l : List UInt8} {k : Nat} {c : UInt8} (h : l[k]? = some c) (hc : nameByte c = false) : isName l = false := by
  unfold isName
  rw [Bool.and_eq_false_iff]
  left
  rw [List.all_eq_false]
  exact ⟨c, List.mem_of_getElem? h, by rw [hc]; simp⟩
theorem nameTo_next {l : List UInt8} {k : Nat} {c : UInt8} (h : (l.take k).all nameByte = true) (hg : l[k]? = some c) (hc : nameByte c = true) : (l.take (k + 1)).all nameByte = true := by
  obtain ⟨hk, rfl⟩ := List.getElem?_eq_some_iff.1 hg
  rw [List.take_succ_eq_append_getElem hk, List.all_append, h]
  simp [hc]
theorem cases8 (x : Int) : x < 45 ∨ x = 45 ∨ x = 46 ∨ x = 47 ∨ (48 ≤ x ∧ x ≤ 57) ∨ (58 ≤ x ∧ x ≤ 96) ∨ (97 ≤ x ∧ x ≤ 122) ∨ 123 ≤ x := by
  rcases Int.lt_or_le x 45 with h | h
  · exact .inl h
  · omega

set_option maxRecDepth 100000 in
set_option maxHeartbeats 4000000 in
theorem refIsName_any (s : ByteArray) (hs : s.size ≤ maxLen) (w : World) :
    Calls Tryz.prog 167 #[.string s] w fun e w' => e = .returned (.bool (isName s.data.toList)) ∧ w' = w := by
  have HSL : Hid (s.data.toList.length = s.size) := by show _ = _; rw [Array.length_toList]; rfl
  have hs2 : (s.size : Int) ≤ 9223372036854775807 := by unfold maxLen at hs; omega
  clear hs
  go_enter Tryz.func167, Tryz.ntmps167
  go_wp2_with fail
  go_loopw [3] (fun i wr => ∃ (k : Nat), k ≤ s.size ∧ i = .int .i64 k ∧ (s.data.toList.take k).all nameByte = true ∧ wr = w) (fun i _ => s.size - (intOf i).toNat)
  case atStart => exact ⟨0, Nat.zero_le _, rfl, rfl, rfl⟩
  case round =>
    obtain ⟨k, hk, rfl, ht, rfl⟩ := hrel
    have HT : Hid ((s.data.toList.take k).all nameByte = true) := ht
    clear ht
    by_cases hlt : k < s.size
    · have HG : Hid (s.data.toList[k]? = some s[k]) := by show _ = _; rw [List.getElem?_eq_getElem (by rw [HSL.out]; exact hlt)]; rfl
      have hlt' : (k : Int) < (s.size : Int) := by omega
      rcases cases8 (s[k].toNat : Int) with hx | hx | hx | hx | hx | hx | hx | hx
      · -- x < 45
        have f1 : (s[k].toNat : Int) < 97 := by omega
        have f2 : (s[k].toNat : Int) ≤ 122 := by omega
        have f3 : (s[k].toNat : Int) < 48 := by omega
        have f4 : (s[k].toNat : Int) ≤ 57 := by omega
        have f5 : ((s[k].toNat : Int) == 46) = false := by rw [beq_eq_false_iff_ne]; omega
        have f6 : ((s[k].toNat : Int) == 45) = false := by rw [beq_eq_false_iff_ne]; omega
        have e1 : decide (97 ≤ (s[k].toNat : Int)) = false := by simp; omega
        have e2 : decide ((s[k].toNat : Int) ≤ 122) = true := by simp; omega
        have e3 : decide (48 ≤ (s[k].toNat : Int)) = false := by simp; omega
        have e4 : decide ((s[k].toNat : Int) ≤ 57) = true := by simp; omega
        have g5 : ((s[k].toNat : Int) != 46) = true := by rw [bne, f5]; rfl
        have g6 : ((s[k].toNat : Int) != 45) = true := by rw [bne, f6]; rfl
        have HY : Hid (nameByte s[k] = false) := by show _ = _; unfold nameByte; simp only [decide_eq_false_iff_not]; omega
        clear hx
        go_wp2_with fail
        go_ret
        exact ⟨by rw [isName_bad (HG.out) HY.out]; rfl, rfl⟩
      · -- x = 45
        have f1 : (s[k].toNat : Int) < 97 := by omega
        have f2 : (s[k].toNat : Int) ≤ 122 := by omega
        have f3 : (s[k].toNat : Int) < 48 := by omega
        have f4 : (s[k].toNat : Int) ≤ 57 := by omega
        have f5 : ((s[k].toNat : Int) == 46) = false := by rw [beq_eq_false_iff_ne]; omega
        have f6 : ((s[k].toNat : Int) == 45) = true := by rw [beq_iff_eq]; omega
        have e1 : decide (97 ≤ (s[k].toNat : Int)) = false := by simp; omega
        have e2 : decide ((s[k].toNat : Int) ≤ 122) = true := by simp; omega
        have e3 : decide (48 ≤ (s[k].toNat : Int)) = false := by simp; omega
        have e4 : decide ((s[k].toNat : Int) ≤ 57) = true := by simp; omega
        have g5 : ((s[k].toNat : Int) != 46) = true := by rw [bne, f5]; rfl
        have g6 : ((s[k].toNat : Int) != 45) = false := by rw [bne, f6]; rfl
        have HY : Hid (nameByte s[k] = true) := by show _ = _; unfold nameByte; simp only [decide_eq_true_eq]; omega
        clear hx
        go_wp2_with fail
        go_roundw
        case rel => exact ⟨k + 1, by omega, by go_num, nameTo_next HT.out (HG.out) HY.out, trivial⟩
        case measure => simp [intOf]; omega
      · -- x = 46
        have f1 : (s[k].toNat : Int) < 97 := by omega
        have f2 : (s[k].toNat : Int) ≤ 122 := by omega
        have f3 : (s[k].toNat : Int) < 48 := by omega
        have f4 : (s[k].toNat : Int) ≤ 57 := by omega
        have f5 : ((s[k].toNat : Int) == 46) = true := by rw [beq_iff_eq]; omega
        have f6 : ((s[k].toNat : Int) == 45) = false := by rw [beq_eq_false_iff_ne]; omega
        have e1 : decide (97 ≤ (s[k].toNat : Int)) = false := by simp; omega
        have e2 : decide ((s[k].toNat : Int) ≤ 122) = true := by simp; omega
        have e3 : decide (48 ≤ (s[k].toNat : Int)) = false := by simp; omega
        have e4 : decide ((s[k].toNat : Int) ≤ 57) = true := by simp; omega
        have g5 : ((s[k].toNat : Int) != 46) = false := by rw [bne, f5]; rfl
        have g6 : ((s[k].toNat : Int) != 45) = true := by rw [bne, f6]; rfl
        have HY : Hid (nameByte s[k] = true) := by show _ = _; unfold nameByte; simp only [decide_eq_true_eq]; omega
        clear hx
        go_wp2_with fail
        go_roundw
        case rel => exact ⟨k + 1, by omega, by go_num, nameTo_next HT.out (HG.out) HY.out, trivial⟩
        case measure => simp [intOf]; omega
      · -- x = 47
        have f1 : (s[k].toNat : Int) < 97 := by omega
        have f2 : (s[k].toNat : Int) ≤ 122 := by omega
        have f3 : (s[k].toNat : Int) < 48 := by omega
        have f4 : (s[k].toNat : Int) ≤ 57 := by omega
        have f5 : ((s[k].toNat : Int) == 46) = false := by rw [beq_eq_false_iff_ne]; omega
        have f6 : ((s[k].toNat : Int) == 45) = false := by rw [beq_eq_false_iff_ne]; omega
        have e1 : decide (97 ≤ (s[k].toNat : Int)) = false := by simp; omega
        have e2 : decide ((s[k].toNat : Int) ≤ 122) = true := by simp; omega
        have e3 : decide (48 ≤ (s[k].toNat : Int)) = false := by simp; omega
        have e4 : decide ((s[k].toNat : Int) ≤ 57) = true := by simp; omega
        have g5 : ((s[k].toNat : Int) != 46) = true := by rw [bne, f5]; rfl
        have g6 : ((s[k].toNat : Int) != 45) = true := by rw [bne, f6]; rfl
        have HY : Hid (nameByte s[k] = false) := by show _ = _; unfold nameByte; simp only [decide_eq_false_iff_not]; omega
        clear hx
        go_wp2_with fail
        go_ret
        exact ⟨by rw [isName_bad (HG.out) HY.out]; rfl, rfl⟩
      · -- 48..57
        have f1 : (s[k].toNat : Int) < 97 := by omega
        have f2 : (s[k].toNat : Int) ≤ 122 := by omega
        have f3 : 48 ≤ (s[k].toNat : Int) := by omega
        have f4 : (s[k].toNat : Int) ≤ 57 := by omega
        have f5 : ((s[k].toNat : Int) == 46) = false := by rw [beq_eq_false_iff_ne]; omega
        have f6 : ((s[k].toNat : Int) == 45) = false := by rw [beq_eq_false_iff_ne]; omega
        have e1 : decide (97 ≤ (s[k].toNat : Int)) = false := by simp; omega
        have e2 : decide ((s[k].toNat : Int) ≤ 122) = true := by simp; omega
        have e3 : decide (48 ≤ (s[k].toNat : Int)) = true := by simp; omega
        have e4 : decide ((s[k].toNat : Int) ≤ 57) = true := by simp; omega
        have g5 : ((s[k].toNat : Int) != 46) = true := by rw [bne, f5]; rfl
        have g6 : ((s[k].toNat : Int) != 45) = true := by rw [bne, f6]; rfl
        have HY : Hid (nameByte s[k] = true) := by show _ = _; unfold nameByte; simp only [decide_eq_true_eq]; omega
        clear hx
        go_wp2_with fail
        go_roundw
        case rel => exact ⟨k + 1, by omega, by go_num, nameTo_next HT.out (HG.out) HY.out, trivial⟩
        case measure => simp [intOf]; omega
      · -- 58..96
        have f1 : (s[k].toNat : Int) < 97 := by omega
        have f2 : (s[k].toNat : Int) ≤ 122 := by omega
        have f3 : 48 ≤ (s[k].toNat : Int) := by omega
        have f4 : 57 < (s[k].toNat : Int) := by omega
        have f5 : ((s[k].toNat : Int) == 46) = false := by rw [beq_eq_false_iff_ne]; omega
        have f6 : ((s[k].toNat : Int) == 45) = false := by rw [beq_eq_false_iff_ne]; omega
        have e1 : decide (97 ≤ (s[k].toNat : Int)) = false := by simp; omega
        have e2 : decide ((s[k].toNat : Int) ≤ 122) = true := by simp; omega
        have e3 : decide (48 ≤ (s[k].toNat : Int)) = true := by simp; omega
        have e4 : decide ((s[k].toNat : Int) ≤ 57) = false := by simp; omega
        have g5 : ((s[k].toNat : Int) != 46) = true := by rw [bne, f5]; rfl
        have g6 : ((s[k].toNat : Int) != 45) = true := by rw [bne, f6]; rfl
        have HY : Hid (nameByte s[k] = false) := by show _ = _; unfold nameByte; simp only [decide_eq_false_iff_not]; omega
        clear hx
        go_wp2_with fail
        go_ret
        exact ⟨by rw [isName_bad (HG.out) HY.out]; rfl, rfl⟩
      · -- 97..122
        have f1 : 97 ≤ (s[k].toNat : Int) := by omega
        have f2 : (s[k].toNat : Int) ≤ 122 := by omega
        have f3 : 48 ≤ (s[k].toNat : Int) := by omega
        have f4 : 57 < (s[k].toNat : Int) := by omega
        have f5 : ((s[k].toNat : Int) == 46) = false := by rw [beq_eq_false_iff_ne]; omega
        have f6 : ((s[k].toNat : Int) == 45) = false := by rw [beq_eq_false_iff_ne]; omega
        have e1 : decide (97 ≤ (s[k].toNat : Int)) = true := by simp; omega
        have e2 : decide ((s[k].toNat : Int) ≤ 122) = true := by simp; omega
        have e3 : decide (48 ≤ (s[k].toNat : Int)) = true := by simp; omega
        have e4 : decide ((s[k].toNat : Int) ≤ 57) = false := by simp; omega
        have g5 : ((s[k].toNat : Int) != 46) = true := by rw [bne, f5]; rfl
        have g6 : ((s[k].toNat : Int) != 45) = true := by rw [bne, f6]; rfl
        have HY : Hid (nameByte s[k] = true) := by show _ = _; unfold nameByte; simp only [decide_eq_true_eq]; omega
        clear hx
        go_wp2_with fail
        go_roundw
        case rel => exact ⟨k + 1, by omega, by go_num, nameTo_next HT.out (HG.out) HY.out, trivial⟩
        case measure => simp [intOf]; omega
      · -- 123..
        have f1 : 97 ≤ (s[k].toNat : Int) := by omega
        have f2 : 122 < (s[k].toNat : Int) := by omega
        have f3 : 48 ≤ (s[k].toNat : Int) := by omega
        have f4 : 57 < (s[k].toNat : Int) := by omega
        have f5 : ((s[k].toNat : Int) == 46) = false := by rw [beq_eq_false_iff_ne]; omega
        have f6 : ((s[k].toNat : Int) == 45) = false := by rw [beq_eq_false_iff_ne]; omega
        have e1 : decide (97 ≤ (s[k].toNat : Int)) = true := by simp; omega
        have e2 : decide ((s[k].toNat : Int) ≤ 122) = false := by simp; omega
        have e3 : decide (48 ≤ (s[k].toNat : Int)) = true := by simp; omega
        have e4 : decide ((s[k].toNat : Int) ≤ 57) = false := by simp; omega
        have g5 : ((s[k].toNat : Int) != 46) = true := by rw [bne, f5]; rfl
        have g6 : ((s[k].toNat : Int) != 45) = true := by rw [bne, f6]; rfl
        have HY : Hid (nameByte s[k] = false) := by show _ = _; unfold nameByte; simp only [decide_eq_false_iff_not]; omega
        clear hx
        go_wp2_with fail
        go_ret
        exact ⟨by rw [isName_bad (HG.out) HY.out]; rfl, rfl⟩
    · have hge : (s.size : Int) ≤ (k : Int) := by omega
      have hall : s.data.toList.all nameByte = true := by
        have := HT.out
        rwa [List.take_of_length_le (by rw [HSL.out]; omega)] at this
      have HN : Hid (isName s.data.toList = (decide (1 ≤ s.size) && decide (s.size ≤ 12))) := by
        show _ = _
        unfold isName
        rw [hall, HSL.out, Bool.true_and]
      clear hall
      by_cases h1 : 1 ≤ s.size
      · have h1' : (1 : Int) ≤ (s.size : Int) := by omega
        by_cases h12 : s.size ≤ 12
        · have h12' : (s.size : Int) ≤ 12 := by omega
          have h12d : decide ((s.size : Int) ≤ 12) = true := by simp; omega
          have HV : Hid (isName s.data.toList = true) := by show _ = _; rw [HN.out]; simp [h1, h12]
          clear h1 h12
          go_wp2_with fail
          go_ret
          exact ⟨by rw [HV.out]; rfl, rfl⟩
        · have h12' : (12 : Int) < (s.size : Int) := by omega
          have h12d : decide ((s.size : Int) ≤ 12) = false := by simp; omega
          have HV : Hid (isName s.data.toList = false) := by show _ = _; rw [HN.out]; simp; omega
          clear h1 h12
          go_wp2_with fail
          go_ret
          exact ⟨by rw [HV.out]; rfl, rfl⟩
      · have h1' : (s.size : Int) < 1 := by omega
        have HV : Hid (isName s.data.toList = false) := by show _ = _; rw [HN.out]; simp; omega
        clear h1
        go_wp2_with fail
        go_ret
        exact ⟨by rw [HV.out]; rfl, rfl⟩

abbrev faultV (c a : Int) : Value := .agg #[.int .i64 c, .int .i64 a]
theorem bare_any (c : Int) (w : World) : Calls Tryz.prog 65 #[.int .i64 c] w fun e w' => e = .returned (faultV c (-1)) ∧ Below w.heap.size w w' := by
  go_enter Tryz.func65, Tryz.ntmps65
  go_wp2_with fail
  exact bodyPost_ret (v := faultV c (-1)) (by simp [results, Tryz.results65, go_sem]) rfl ⟨rfl, (Below.refl _ w).alloc (Nat.le_refl _) _⟩
theorem fine_any (w : World) : Calls Tryz.prog 69 #[] w fun e w' => e = .returned (faultV 0 (-1)) ∧ Below w.heap.size w w' := by
  go_enter Tryz.func69, Tryz.ntmps69
  go_wp2_with fail
  exact bodyPost_ret (v := faultV 0 (-1)) (by simp [results, Tryz.results69, go_sem]) rfl ⟨rfl, (Below.refl _ w).alloc (Nat.le_refl _) _⟩
end Go.Proofs.YtcbcjefefmbccabGreatDoor
namespace Go.Proofs.YtcbcjefefmbccabGreatDoor
open Go.RowKit

/- v is a slice of IDs. -/
def IdsAt (w : World) (v : Value) (ids : List (Nat × Int)) : Prop :=
  ∃ (p : Option Addr) (c : Nat), v = .slice p ids.length c ∧ ∀ i (h : i < ids.length), ∃ b o, p = some ⟨b, o, none⟩ ∧ b < w.heap.size ∧ w.cell? ⟨b, o + i * 2, none⟩ = some (.int .u32 (ids[i].1 : Nat)) ∧ w.cell? ⟨b, o + i * 2 + 1, none⟩ = some (.int .i64 ids[i].2)
theorem IdsAt.below {w w' : World} {v : Value} {ids : List (Nat × Int)} (h : IdsAt w v ids) (hb : Below w.heap.size w w') : IdsAt w' v ids := by
  obtain ⟨p, c, rfl, h⟩ := h
  refine ⟨p, c, rfl, fun i hi => ?_⟩
  obtain ⟨b, o, hp, hlt, h1, h2⟩ := h i hi
  exact ⟨b, o, hp, Nat.lt_of_lt_of_le hlt hb.size, (hb.cell (p := ⟨b, o + i * 2, none⟩) hlt).trans h1, (hb.cell (p := ⟨b, o + i * 2 + 1, none⟩) hlt).trans h2⟩
abbrev rcpV (nm : ByteArray) (len p : Int) (v : Value) : Value := .agg #[.string nm, .int .i64 len, .int .u32 p, v]

def idOk (x : Nat × Int) : Bool := decide (1 ≤ x.2 ∧ x.2 ≤ 64)
def firstBad : Nat → List (Nat × Int) → Option Nat
  | _, [] => none
  | i, x :: r => if idOk x = true then firstBad (i + 1) r else some i
def lenSum (ids : List (Nat × Int)) : Int := (ids.map (·.2)).sum
def recFault (nm : List UInt8) (len : Int) (ids : List (Nat × Int)) : Int × Int :=
  if isName nm = false then (4, -1) else if len < 0 ∨ 4000 < len then (2, -1) else if 250 < ids.length then (7, -1) else
    match firstBad 0 ids with
    | some i => (3, (i : Int))
    | none => if lenSum ids = len then (0, -1) else (9, -1)
theorem firstBad_at : ∀ (ids : List (Nat × Int)) (i k : Nat) (h : k < ids.length), (∀ j (hj : j < k), idOk (ids[j]'(by omega)) = true) → idOk ids[k] = false → firstBad i ids = some (i + k)
  | [], _, _, h, _, _ => by simp at h
  | x :: r, i, 0, _, _, hb => by
    have hb' : idOk x = false := hb
    rw [firstBad, hb']
    rfl
  | x :: r, i, k + 1, h, ha, hb => by
    have h0 : idOk x = true := ha 0 (by omega)
    rw [firstBad, if_pos h0, firstBad_at r (i + 1) k (by simpa using h) (fun j hj => by have := ha (j + 1) (by omega); simpa using this) (by simpa using hb)]
    congr 1
    omega
theorem firstBad_none : ∀ (ids : List (Nat × Int)) (i : Nat), (∀ j (hj : j < ids.length), idOk ids[j] = true) → firstBad i ids = none
  | [], _, _ => rfl
  | x :: r, i, ha => by
    have h0 : idOk x = true := ha 0 (by simp)
    rw [firstBad, if_pos h0, firstBad_none r (i + 1) (fun j hj => by have := ha (j + 1) (by simpa using hj); simpa using this)]
theorem lenSum_snoc (ids : List (Nat × Int)) (k : Nat) (h : k < ids.length) : lenSum (ids.take (k + 1)) = lenSum (ids.take k) + ids[k].2 := by
  rw [List.take_succ_eq_append_getElem h, lenSum, List.map_append, List.sum_append]
  simp [lenSum]
theorem recFault_name {nm : List UInt8} (len : Int) (ids : List (Nat × Int)) (h : isName nm = false) : recFault nm len ids = (4, -1) := by unfold recFault; rw [if_pos h]
theorem recFault_len {nm : List UInt8} {len : Int} (ids : List (Nat × Int)) (h : isName nm = true) (h2 : len < 0 ∨ 4000 < len) : recFault nm len ids = (2, -1) := by
  unfold recFault
  rw [if_neg (by rw [h]; simp), if_pos h2]
theorem recFault_many {nm : List UInt8} {len : Int} {ids : List (Nat × Int)} (h : isName nm = true) (h2 : ¬ (len < 0 ∨ 4000 < len)) (h3 : 250 < ids.length) : recFault nm len ids = (7, -1) := by
  unfold recFault
  rw [if_neg (by rw [h]; simp), if_neg h2, if_pos h3]
theorem recFault_shape {nm : List UInt8} {len : Int} {ids : List (Nat × Int)} (h : isName nm = true) (h2 : ¬ (len < 0 ∨ 4000 < len)) (h3 : ¬ 250 < ids.length) {i : Nat} (h4 : firstBad 0 ids = some i) : recFault nm len ids = (3, (i : Int)) := by
  unfold recFault
  rw [if_neg (by rw [h]; simp), if_neg h2, if_neg h3, h4]
theorem recFault_sum {nm : List UInt8} {len : Int} {ids : List (Nat × Int)} (h : isName nm = true) (h2 : ¬ (len < 0 ∨ 4000 < len)) (h3 : ¬ 250 < ids.length) (h4 : firstBad 0 ids = none) (h5 : lenSum ids ≠ len) : recFault nm len ids = (9, -1) := by
  unfold recFault
  rw [if_neg (by rw [h]; simp), if_neg h2, if_neg h3, h4]
  simp only
  rw [if_neg h5]
theorem recFault_fine {nm : List UInt8} {len : Int} {ids : List (Nat × Int)} (h : isName nm = true) (h2 : ¬ (len < 0 ∨ 4000 < len)) (h3 : ¬ 250 < ids.length) (h4 : firstBad 0 ids = none) (h5 : lenSum ids = len) : recFault nm len ids = (0, -1) := by
  unfold recFault
  rw [if_neg (by rw [h]; simp), if_neg h2, if_neg h3, h4]
  simp only
  rw [if_pos h5]

/- A recipe in a box of its own, and a result of two cells behind it: what both hold. -/
structure FaultW (w W : World) (nm : ByteArray) (len p : Int) (v : Value) : Prop where
  below : Below w.heap.size w W
  size : w.heap.size + 1 < W.heap.size
  b0 : W.cell? ⟨w.heap.size, 0, none⟩ = some (.string nm)
  b1 : W.cell? ⟨w.heap.size, 1, none⟩ = some (.int .i64 len)
  b2 : W.cell? ⟨w.heap.size, 2, none⟩ = some (.int .u32 p)
  b3 : W.cell? ⟨w.heap.size, 3, none⟩ = some v
  r0 : W.cell? ⟨w.heap.size + 1, 0, none⟩ = some (.int .i64 0)
  r1 : W.cell? ⟨w.heap.size + 1, 1, none⟩ = some (.int .i64 0)
  f0 : W.frozen? ⟨w.heap.size + 1, 0, none⟩ = false
  f1 : W.frozen? ⟨w.heap.size + 1, 1, none⟩ = false
theorem FaultW.new (w : World) (nm : ByteArray) (len p : Int) (v : Value) (t t' : TypeId) : FaultW w ((w.alloc (.cells #[.string nm, .int .i64 len, .int .u32 p, v] t)).alloc (.cells #[.int .i64 0, .int .i64 0] t')) nm len p v where
  below := ((Below.refl _ w).alloc (Nat.le_refl _) _).alloc (by simp) _
  size := by simp
  b0 := by rw [World.cell?_alloc_lt _ _ ⟨w.heap.size, 0, none⟩ (by simp)]; simp
  b1 := by rw [World.cell?_alloc_lt _ _ ⟨w.heap.size, 1, none⟩ (by simp)]; simp
  b2 := by rw [World.cell?_alloc_lt _ _ ⟨w.heap.size, 2, none⟩ (by simp)]; simp
  b3 := by rw [World.cell?_alloc_lt _ _ ⟨w.heap.size, 3, none⟩ (by simp)]; simp
  r0 := by simp
  r1 := by simp
  f0 := by simp
  f1 := by simp
theorem FaultW.next {w W W' : World} {nm : ByteArray} {len p : Int} {v : Value} (h : FaultW w W nm len p v) (hb : Below W.heap.size W W') : FaultW w W' nm len p v := by
  have hs := h.size
  have hs' := hb.size
  exact ⟨h.below.trans (hb.mono h.below.size), by omega, (hb.cell (p := ⟨_, 0, none⟩) (by simp; omega)).trans h.b0, (hb.cell (p := ⟨_, 1, none⟩) (by simp; omega)).trans h.b1, (hb.cell (p := ⟨_, 2, none⟩) (by simp; omega)).trans h.b2, (hb.cell (p := ⟨_, 3, none⟩) (by simp; omega)).trans h.b3,
    (hb.cell (p := ⟨_, 0, none⟩) (by simp; omega)).trans h.r0, (hb.cell (p := ⟨_, 1, none⟩) (by simp; omega)).trans h.r1, (hb.frozen (p := ⟨_, 0, none⟩) (by simp; omega)).trans h.f0, (hb.frozen (p := ⟨_, 1, none⟩) (by simp; omega)).trans h.f1⟩

set_option maxRecDepth 100000 in
set_option maxHeartbeats 4000000 in
theorem recipeFault_any (nm : ByteArray) (hnm : nm.size ≤ maxLen) (len p : Int) (v : Value) (ids : List (Nat × Int)) (w : World) (hv : IdsAt w v ids) (hlen : ids.length ≤ maxLen) :
    Calls Tryz.prog 126 #[rcpV nm len p v] w fun e w' => e = .returned (faultV (recFault nm.data.toList len ids).1 (recFault nm.data.toList len ids).2) ∧ Below w.heap.size w w' := by
  obtain ⟨pa, c, rfl, hcell⟩ := hv
  have HN : Hid (nm.size ≤ maxLen) := hnm
  have hl2 : (ids.length : Int) ≤ 9223372036854775807 := by unfold maxLen at hlen; omega
  clear hnm hlen
  go_enter Tryz.func126, Tryz.ntmps126
  go_wp2_with fail
  refine (refIsName_any nm HN.out _).mono ?_
  rintro e w1 ⟨rfl, rfl⟩
  have hF := FaultW.new w nm len p (.slice pa ids.length c) 40 64
  obtain ⟨W, hW⟩ : ∃ W, (w.alloc (.cells #[.string nm, .int .i64 len, .int .u32 p, .slice pa ids.length c] 40)).alloc (.cells #[.int .i64 0, .int .i64 0] 64) = W := ⟨_, rfl⟩
  rw [hW] at hF ⊢
  clear hW
  have hb1 := hF.b1
  have hb3 := hF.b3
  have HCELL : Hid (∀ i (h : i < ids.length), ∃ b o, pa = some ⟨b, o, none⟩ ∧ W.cell? ⟨b, o + i * 2 + 1, none⟩ = some (.int .i64 ids[i].2)) := fun i hi => by
    obtain ⟨b, o, hp, hlt, _, h2⟩ := hcell i hi
    exact ⟨b, o, hp, (hF.below.cell (p := ⟨b, o + i * 2 + 1, none⟩) hlt).trans h2⟩
  clear hcell
  by_cases h1 : isName nm.data.toList = true
  · rw [h1]
    have H1 : Hid (isName nm.data.toList = true) := h1
    clear h1
    by_cases h2a : len < 0
    · have HR : Hid (recFault nm.data.toList len ids = (2, -1)) := recFault_len ids H1.out (.inl h2a)
      go_wp2_with fail
      refine (bare_any 2 _).mono ?_
      rintro e w2 ⟨rfl, hb2⟩
      have hF2 := hF.next hb2
      have k0 := hF2.r0
      have k1 := hF2.r1
      have f0 := hF2.f0
      have f1 := hF2.f1
      go_wp2_with fail
      exact bodyPost_ret (v := faultV 2 (-1)) (by simp [results, Tryz.results126, go_sem, k0, k1]) rfl ⟨by rw [HR.out], (hF2.below.setCell (p := ⟨w.heap.size + 1, 0, none⟩) (by simp) _).setCell (p := ⟨w.heap.size + 1, 1, none⟩) (by simp) _⟩
    · by_cases h2b : 4000 < len
      · have HR : Hid (recFault nm.data.toList len ids = (2, -1)) := recFault_len ids H1.out (.inr h2b)
        go_wp2_with fail
        refine (bare_any 2 _).mono ?_
        rintro e w2 ⟨rfl, hb2⟩
        have hF2 := hF.next hb2
        have k0 := hF2.r0
        have k1 := hF2.r1
        have f0 := hF2.f0
        have f1 := hF2.f1
        go_wp2_with fail
        exact bodyPost_ret (v := faultV 2 (-1)) (by simp [results, Tryz.results126, go_sem, k0, k1]) rfl ⟨by rw [HR.out], (hF2.below.setCell (p := ⟨w.heap.size + 1, 0, none⟩) (by simp) _).setCell (p := ⟨w.heap.size + 1, 1, none⟩) (by simp) _⟩
      · have H2 : Hid (¬ (len < 0 ∨ 4000 < len)) := fun h => h.elim h2a h2b
        by_cases h3 : 250 < ids.length
        · have h3' : (250 : Int) < (ids.length : Int) := by omega
          have HR : Hid (recFault nm.data.toList len ids = (7, -1)) := recFault_many H1.out H2.out h3
          clear h3
          go_wp2_with fail
          refine (bare_any 7 _).mono ?_
          rintro e w2 ⟨rfl, hb2⟩
          have hF2 := hF.next hb2
          have k0 := hF2.r0
          have k1 := hF2.r1
          have f0 := hF2.f0
          have f1 := hF2.f1
          go_wp2_with fail
          exact bodyPost_ret (v := faultV 7 (-1)) (by simp [results, Tryz.results126, go_sem, k0, k1]) rfl ⟨by rw [HR.out], (hF2.below.setCell (p := ⟨w.heap.size + 1, 0, none⟩) (by simp) _).setCell (p := ⟨w.heap.size + 1, 1, none⟩) (by simp) _⟩
        · have h3' : ¬ (250 : Int) < (ids.length : Int) := by omega
          have H3 : Hid (¬ 250 < ids.length) := h3
          clear h3
          go_wp2_with fail
          go_loopw [4, 5] (fun t i wr => ∃ (k : Nat), k ≤ ids.length ∧ i = .int .i64 k ∧ t = .int .i64 (lenSum (ids.take k)) ∧ (∀ j (hj : j < ids.length), j < k → idOk ids[j] = true) ∧ 0 ≤ lenSum (ids.take k) ∧ lenSum (ids.take k) ≤ 64 * (k : Int) ∧ wr = W) (fun _ i _ => ids.length - (intOf i).toNat)
          case atStart => exact ⟨0, Nat.zero_le _, rfl, by simp [lenSum], fun j _ h => by omega, by simp [lenSum], by simp [lenSum], rfl⟩
          case round =>
            obtain ⟨k, hk, rfl, rfl, hok, hs0, hs1, rfl⟩ := hrel
            have HOK : Hid (∀ j (hj : j < ids.length), j < k → idOk ids[j] = true) := hok
            clear hok
            by_cases hlt : k < ids.length
            · have hlt' : (k : Int) < (ids.length : Int) := by omega
              obtain ⟨b, o, rfl, hc⟩ := HCELL.out k hlt
              have HSN : Hid (lenSum (ids.take (k + 1)) = lenSum (ids.take k) + ids[k].2) := lenSum_snoc ids k hlt
              obtain ⟨x, hx⟩ : ∃ x, ids[k].2 = x := ⟨_, rfl⟩
              obtain ⟨t, ht⟩ : ∃ t, lenSum (ids.take k) = t := ⟨_, rfl⟩
              have HOX : Hid (idOk ids[k] = decide (1 ≤ x ∧ x ≤ 64)) := by show _ = _; rw [← hx]; rfl
              rw [hx] at hc HSN
              rw [ht] at HSN hs0 hs1
              rw [ht]
              clear hx ht
              by_cases hx1 : x < 1
              · have HB : Hid (firstBad 0 ids = some k) := by
                  have := firstBad_at ids 0 k hlt (fun j hj => HOK.out j (by omega) hj) (by rw [HOX.out]; simp; omega)
                  rwa [Nat.zero_add] at this
                have HR : Hid (recFault nm.data.toList len ids = (3, (k : Int))) := recFault_shape H1.out H2.out H3.out HB.out
                have k0 := hF.r0
                have k1 := hF.r1
                have f0 := hF.f0
                have f1 := hF.f1
                go_wp2_with fail
                exact bodyPost_ret (v := faultV 3 (k : Int)) (by simp [results, Tryz.results126, go_sem, k0, k1]) rfl ⟨by rw [HR.out], (hF.below.setCell (p := ⟨w.heap.size + 1, 0, none⟩) (by simp) _).setCell (p := ⟨w.heap.size + 1, 1, none⟩) (by simp) _⟩
              · by_cases hx2 : 64 < x
                · have HB : Hid (firstBad 0 ids = some k) := by
                    have := firstBad_at ids 0 k hlt (fun j hj => HOK.out j (by omega) hj) (by rw [HOX.out]; simp; omega)
                    rwa [Nat.zero_add] at this
                  have HR : Hid (recFault nm.data.toList len ids = (3, (k : Int))) := recFault_shape H1.out H2.out H3.out HB.out
                  have k0 := hF.r0
                  have k1 := hF.r1
                  have f0 := hF.f0
                  have f1 := hF.f1
                  go_wp2_with fail
                  exact bodyPost_ret (v := faultV 3 (k : Int)) (by simp [results, Tryz.results126, go_sem, k0, k1]) rfl ⟨by rw [HR.out], (hF.below.setCell (p := ⟨w.heap.size + 1, 0, none⟩) (by simp) _).setCell (p := ⟨w.heap.size + 1, 1, none⟩) (by simp) _⟩
                · go_wp2_with fail
                  go_roundw
                  case rel => exact ⟨k + 1, by omega, by go_num, by rw [HSN.out], fun j hj h => by
                    by_cases e : j = k
                    · subst e; rw [HOX.out]; simp; omega
                    · exact HOK.out j hj (by omega), by rw [HSN.out]; omega, by rw [HSN.out]; omega, trivial⟩
                  case measure => simp [intOf]; omega
            · have hge : (ids.length : Int) ≤ (k : Int) := by omega
              have hall : ids.take k = ids := List.take_of_length_le (by omega)
              rw [hall] at hs0 hs1 ⊢
              have HB : Hid (firstBad 0 ids = none) := firstBad_none ids 0 (fun j hj => HOK.out j hj (by omega))
              obtain ⟨t, ht⟩ : ∃ t, lenSum ids = t := ⟨_, rfl⟩
              have HLS : Hid (lenSum ids = t) := ht
              rw [ht] at hs0 hs1 ⊢
              clear ht hall
              by_cases hsum : t = len
              · have HR : Hid (recFault nm.data.toList len ids = (0, -1)) := recFault_fine H1.out H2.out H3.out HB.out (by rw [HLS.out]; exact hsum)
                have hq : (t == len) = true := by rw [beq_iff_eq]; exact hsum
                clear hsum
                go_wp2_with fail
                refine (fine_any _).mono ?_
                rintro e w2 ⟨rfl, hb2⟩
                have hF2 := hF.next hb2
                have k0 := hF2.r0
                have k1 := hF2.r1
                have f0 := hF2.f0
                have f1 := hF2.f1
                go_wp2_with fail
                exact bodyPost_ret (v := faultV 0 (-1)) (by simp [results, Tryz.results126, go_sem, k0, k1]) rfl ⟨by rw [HR.out], (hF2.below.setCell (p := ⟨w.heap.size + 1, 0, none⟩) (by simp) _).setCell (p := ⟨w.heap.size + 1, 1, none⟩) (by simp) _⟩
              · have HR : Hid (recFault nm.data.toList len ids = (9, -1)) := recFault_sum H1.out H2.out H3.out HB.out (by rw [HLS.out]; exact hsum)
                have hq : (t == len) = false := by rw [beq_eq_false_iff_ne]; exact hsum
                clear hsum
                go_wp2_with fail
                refine (bare_any 9 _).mono ?_
                rintro e w2 ⟨rfl, hb2⟩
                have hF2 := hF.next hb2
                have k0 := hF2.r0
                have k1 := hF2.r1
                have f0 := hF2.f0
                have f1 := hF2.f1
                go_wp2_with fail
                exact bodyPost_ret (v := faultV 9 (-1)) (by simp [results, Tryz.results126, go_sem, k0, k1]) rfl ⟨by rw [HR.out], (hF2.below.setCell (p := ⟨w.heap.size + 1, 0, none⟩) (by simp) _).setCell (p := ⟨w.heap.size + 1, 1, none⟩) (by simp) _⟩
  · have h1' : isName nm.data.toList = false := by simpa using h1
    rw [h1']
    have HR : Hid (recFault nm.data.toList len ids = (4, -1)) := recFault_name len ids h1'
    clear h1 h1'
    go_wp2_with fail
    refine (bare_any 4 _).mono ?_
    rintro e w2 ⟨rfl, hb2⟩
    have hF2 := hF.next hb2
    have k0 := hF2.r0
    have k1 := hF2.r1
    have f0 := hF2.f0
    have f1 := hF2.f1
    go_wp2_with fail
    exact bodyPost_ret (v := faultV 4 (-1)) (by simp [results, Tryz.results126, go_sem, k0, k1]) rfl ⟨by rw [HR.out], (hF2.below.setCell (p := ⟨w.heap.size + 1, 0, none⟩) (by simp) _).setCell (p := ⟨w.heap.size + 1, 1, none⟩) (by simp) _⟩
end Go.Proofs.YtcbcjefefmbccabGreatDoor
namespace Go.Proofs.YtcbcjefefmbccabGreatDoor
open Go.RowKit

/- The error v has the number f.1 and the place f.2 (0: nil; -1: no place). -/
def ErrIs (w : World) (a : Nat → Addr) (v : Value) (f : Int × Int) : Prop :=
  (v = .nilIface ∧ f = (0, -1)) ∨ (∃ k : Nat, k < 12 ∧ v = sentV a k ∧ f = ((k : Int) + 1, -1)) ∨
  (∃ (k pb po : Nat) (at0 : Int), k < 12 ∧ v = .iface 186 (.pointer (some ⟨pb, po, none⟩)) ∧ w.cell? ⟨pb, po, none⟩ = some (.int .i64 at0) ∧ w.cell? ⟨pb, po + 1, none⟩ = some (sentV a k) ∧ f = ((k : Int) + 1, at0))
theorem ErrIs.below {w w' : World} {a : Nat → Addr} {v : Value} {f : Int × Int} (h : ErrIs w a v f) (hb : Below w.heap.size w w') : ErrIs w' a v f := by
  rcases h with h | h | ⟨k, pb, po, at0, hk, hv, h0, h1, hf⟩
  · exact .inl h
  · exact .inr (.inl h)
  · exact .inr (.inr ⟨k, pb, po, at0, hk, hv, (hb.cell (p := ⟨pb, po, none⟩) (lt_of_cell h0)).trans h0, (hb.cell (p := ⟨pb, po + 1, none⟩) (lt_of_cell h1)).trans h1, hf⟩)
/- The same, and a fault lies from block 'base' on. -/
def ErrIn (base : Nat) (w : World) (a : Nat → Addr) (v : Value) (f : Int × Int) : Prop :=
  (v = .nilIface ∧ f = (0, -1)) ∨ (∃ k : Nat, k < 12 ∧ v = sentV a k ∧ f = ((k : Int) + 1, -1)) ∨
  (∃ (k pb po : Nat) (at0 : Int), k < 12 ∧ base ≤ pb ∧ v = .iface 186 (.pointer (some ⟨pb, po, none⟩)) ∧ w.cell? ⟨pb, po, none⟩ = some (.int .i64 at0) ∧ w.cell? ⟨pb, po + 1, none⟩ = some (sentV a k) ∧ f = ((k : Int) + 1, at0))
theorem ErrIn.at {base : Nat} {w : World} {a : Nat → Addr} {v : Value} {f : Int × Int} (h : ErrIn base w a v f) : ErrIs w a v f := by
  rcases h with h | h | ⟨k, pb, po, at0, hk, _, hv, h0, h1, hf⟩
  · exact .inl h
  · exact .inr (.inl h)
  · exact .inr (.inr ⟨k, pb, po, at0, hk, hv, h0, h1, hf⟩)
theorem ErrIn.below {base : Nat} {w w' : World} {a : Nat → Addr} {v : Value} {f : Int × Int} (h : ErrIn base w a v f) (hb : Below w.heap.size w w') : ErrIn base w' a v f := by
  rcases h with h | h | ⟨k, pb, po, at0, hk, hl, hv, h0, h1, hf⟩
  · exact .inl h
  · exact .inr (.inl h)
  · exact .inr (.inr ⟨k, pb, po, at0, hk, hl, hv, (hb.cell (p := ⟨pb, po, none⟩) (lt_of_cell h0)).trans h0, (hb.cell (p := ⟨pb, po + 1, none⟩) (lt_of_cell h1)).trans h1, hf⟩)
theorem ErrIn.setCell {base : Nat} {w : World} {a : Nat → Addr} {v : Value} {f : Int × Int} (h : ErrIn base w a v f) {x : Addr} (hx : x.block < base) (u : Value) : ErrIn base (w.setCell x u) a v f := by
  rcases h with h | h | ⟨k, pb, po, at0, hk, hl, hv, h0, h1, hf⟩
  · exact .inl h
  · exact .inr (.inl h)
  · have hn : ∀ j, x ≠ ⟨pb, j, none⟩ := fun j e => by rw [e] at hx; simp at hx; omega
    exact .inr (.inr ⟨k, pb, po, at0, hk, hl, hv, by rw [World.cell?_setCell_other _ _ _ _ (hn _)]; exact h0, by rw [World.cell?_setCell_other _ _ _ _ (hn _)]; exact h1, hf⟩)
theorem ErrIn.nil {base : Nat} {w : World} {a : Nat → Addr} {v : Value} {x : Int} (h : ErrIn base w a v (0, x)) : v = .nilIface := by
  rcases h with h | ⟨k, _, _, hf⟩ | ⟨k, pb, po, at0, _, _, _, _, _, hf⟩
  · exact h.1
  · have := congrArg Prod.fst hf
    simp only at this
    omega
  · have := congrArg Prod.fst hf
    simp only at this
    omega
theorem ErrIs.code {w : World} {a : Nat → Addr} {v : Value} {f : Int × Int} (h : ErrIs w a v f) (hE : ErrW w a) :
    Calls Tryz.prog 58 #[v] w fun e w' => e = .returned (.tuple #[.int .i64 f.1, .int .i64 f.2]) ∧ Below w.heap.size w w' := by
  rcases h with ⟨rfl, rfl⟩ | ⟨k, hk, rfl, rfl⟩ | ⟨k, pb, po, at0, hk, rfl, h0, h1, rfl⟩
  · exact (code_nil w).mono fun e w' ⟨h1, h2⟩ => ⟨h1, by rw [h2]; exact Below.refl _ _⟩
  · exact code_sent a k hk w hE
  · exact code_fault a k hk pb po at0 w hE h0 h1

def longR (nm : ByteArray) (ids : List (Nat × Int)) : Int := if 30 < nm.size ∨ (60 < ids.length ∧ ids.length ≠ 251) then 1 else 0
set_option maxHeartbeats 2000000 in
theorem longRecipe_any (nm : ByteArray) (len p : Int) (v : Value) (ids : List (Nat × Int)) (w : World) (hv : IdsAt w v ids) :
    Calls Tryz.prog 19 #[rcpV nm len p v] w fun e w' => e = .returned (.int .i64 (longR nm ids)) ∧ Below w.heap.size w w' := by
  obtain ⟨pa, c, rfl, _⟩ := hv
  by_cases h1 : 30 < nm.size
  · have h1' : (30 : Int) < (nm.size : Int) := by omega
    have HV : Hid (longR nm ids = 1) := by show _ = _; unfold longR; rw [if_pos (.inl h1)]
    clear h1
    go_enter Tryz.func19, Tryz.ntmps19
    go_wp2_with fail
    go_ret
    exact ⟨by rw [HV.out]; rfl, (Below.refl _ w).alloc (Nat.le_refl _) _⟩
  · have h1' : ¬ (30 : Int) < (nm.size : Int) := by omega
    by_cases h2 : 60 < ids.length
    · have h2' : (60 : Int) < (ids.length : Int) := by omega
      by_cases h3 : ids.length = 251
      · have h3' : ((ids.length : Int) == 251) = true := by rw [beq_iff_eq]; omega
        have h3n : ((ids.length : Int) != 251) = false := by rw [bne, h3']; rfl
        have HV : Hid (longR nm ids = 0) := by show _ = _; unfold longR; rw [if_neg (by omega)]
        clear h1 h2 h3
        go_enter Tryz.func19, Tryz.ntmps19
        go_wp2_with fail
        go_ret
        exact ⟨by rw [HV.out]; rfl, (Below.refl _ w).alloc (Nat.le_refl _) _⟩
      · have h3' : ((ids.length : Int) == 251) = false := by rw [beq_eq_false_iff_ne]; omega
        have h3n : ((ids.length : Int) != 251) = true := by rw [bne, h3']; rfl
        have HV : Hid (longR nm ids = 1) := by show _ = _; unfold longR; rw [if_pos (.inr ⟨h2, h3⟩)]
        clear h1 h2 h3
        go_enter Tryz.func19, Tryz.ntmps19
        go_wp2_with fail
        go_ret
        exact ⟨by rw [HV.out]; rfl, (Below.refl _ w).alloc (Nat.le_refl _) _⟩
    · have h2' : ¬ (60 : Int) < (ids.length : Int) := by omega
      have HV : Hid (longR nm ids = 0) := by show _ = _; unfold longR; rw [if_neg (by omega)]
      clear h1 h2
      go_enter Tryz.func19, Tryz.ntmps19
      go_wp2_with fail
      go_ret
      exact ⟨by rw [HV.out]; rfl, (Below.refl _ w).alloc (Nat.le_refl _) _⟩
end Go.Proofs.YtcbcjefefmbccabGreatDoor
