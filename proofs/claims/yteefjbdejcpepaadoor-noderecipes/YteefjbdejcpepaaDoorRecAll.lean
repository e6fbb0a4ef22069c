/-
  Own text. The least of a recipe's IDs, pure, and the document's RepOf by a contract.
  Own text. A right recipe as a text, pure, and the document's RecipeText by a contract.
  Own text. A text's recipe, pure, and the document's RecipeOf by a contract: the IDs in new memory.
  Own text. OwnRecipe by a contract: the same recipe, its IDs in new memory.
  Own text. IDs in memory that is followed through calls.
  Own text. What is joined of a recipe and pieces, pure, and the document's JoinOf by a contract.
  Own text. A recipe out of a text, pure, and the document's ReadRecipe by a contract.
  Own text. Recipes, pure: a text's recipe has no fault; what is joined of it and its pieces is the text, with another piece none; it is read as it was written; its rep is one of its IDs, and none is less.
  Own text. The document's SameIDs and SameRecipe of two that hold the same, by contracts: true; no old memory turns.
  Own text. What the program's package recipe is to answer, as contracts (RecSpec), over what the world holds (Env); blocks that are followed through calls (Blk); the document's RecipeOf in one word.
-/
import Derived.Test.YteefjbdejcpepaaDoorRecFault
import Derived.Test.YteefjbdejcpepaaDoorMem
import Derived.Test.YteefjbdejcpepaaDoorPrint
import Derived.Deep.RegionHeld3
import Derived.RangeFuncRecord
import Derived.Test.YteefjbdejcpepaaDoorText
import Derived.Test.YteefjbdejcpepaaDoorCutAll
import Derived.Test.YteefjbdejcpepaaDoorReadID
import Derived.Deep.QuietTactic
import Derived.BigQuiet
import Derived.Test.YteefjbdejcpepaaDoorRecErr
namespace Go.Proofs.YteefjbdejcpepaaDoor
open Go.RowKit

def lesser (m y : Nat × Int) : Nat × Int := if lessB y m = true then y else m
def repOf : List (Nat × Int) → Nat × Int
  | [] => (2166136261, 0)
  | x :: r => r.foldl lesser x
theorem repOf_snoc (l : List (Nat × Int)) (y : Nat × Int) (h : l ≠ []) : repOf (l ++ [y]) = lesser (repOf l) y := by
  cases l with
  | nil => exact (h rfl).elim
  | cons x r => show (r ++ [y]).foldl lesser x = _; rw [List.foldl_append]; rfl
theorem repOf_next (ids : List (Nat × Int)) (k : Nat) (h : k < ids.length) (h1 : 1 ≤ k) : repOf (ids.take (k + 1)) = lesser (repOf (ids.take k)) ids[k] := by
  rw [List.take_succ_eq_append_getElem h, repOf_snoc]
  intro e
  have := congrArg List.length e
  rw [List.length_take, List.length_nil] at this
  omega

/- Between two rounds: the recipe's box, the result, and the least one so far, each in a block of its own. -/
structure RepW (w W : World) (v : Value) (m : Nat × Int) : Prop where
  below : Below w.heap.size w W
  size : w.heap.size + 1 + 1 < W.heap.size
  b3 : W.cell? ⟨w.heap.size, 3, none⟩ = some v
  r0 : W.cell? ⟨w.heap.size + 1, 0, none⟩ = some (.int .u32 0)
  r1 : W.cell? ⟨w.heap.size + 1, 1, none⟩ = some (.int .i64 0)
  f0 : W.frozen? ⟨w.heap.size + 1, 0, none⟩ = false
  f1 : W.frozen? ⟨w.heap.size + 1, 1, none⟩ = false
  q0 : W.cell? ⟨w.heap.size + 1 + 1, 0, none⟩ = some (.int .u32 (m.1 : Nat))
  q1 : W.cell? ⟨w.heap.size + 1 + 1, 1, none⟩ = some (.int .i64 m.2)
  g0 : W.frozen? ⟨w.heap.size + 1 + 1, 0, none⟩ = false
  g1 : W.frozen? ⟨w.heap.size + 1 + 1, 1, none⟩ = false
theorem RepW.new (w : World) (nm : ByteArray) (len p : Int) (v : Value) (m : Nat × Int) (t t' : TypeId) : RepW w (((w.alloc (.cells #[.string nm, .int .i64 len, .int .u32 p, v] t)).alloc (.cells #[.int .u32 0, .int .i64 0] t')).alloc (.cells #[.int .u32 (m.1 : Nat), .int .i64 m.2] t')) v m where
  below := (((Below.refl _ w).alloc (Nat.le_refl _) _).alloc (by simp) _).alloc (by simp; omega) _
  size := by simp
  b3 := by rw [World.cell?_alloc_lt _ _ ⟨w.heap.size, 3, none⟩ (by simp; omega), World.cell?_alloc_lt _ _ ⟨w.heap.size, 3, none⟩ (by simp)]; simp
  r0 := by rw [World.cell?_alloc_lt _ _ ⟨w.heap.size + 1, 0, none⟩ (by simp)]; simp
  r1 := by rw [World.cell?_alloc_lt _ _ ⟨w.heap.size + 1, 1, none⟩ (by simp)]; simp
  f0 := by rw [frozen_alloc_lt' _ _ (by simp)]; simp
  f1 := by rw [frozen_alloc_lt' _ _ (by simp)]; simp
  q0 := new_cell _ _ _ rfl (by simp)
  q1 := new_cell _ _ _ rfl (by simp)
  g0 := new_frozen _ _ _ (by simp)
  g1 := new_frozen _ _ _ (by simp)
theorem RepW.next {w W W' : World} {v : Value} {m : Nat × Int} (h : RepW w W v m) (hb : Below W.heap.size W W') : RepW w W' v m := by
  have hs := h.size
  have hs' := hb.size
  exact ⟨h.below.trans (hb.mono h.below.size), by omega, (hb.cell (p := ⟨_, 3, none⟩) (by simp; omega)).trans h.b3, (hb.cell (p := ⟨_, 0, none⟩) (by simp; omega)).trans h.r0, (hb.cell (p := ⟨_, 1, none⟩) (by simp; omega)).trans h.r1, (hb.frozen (p := ⟨_, 0, none⟩) (by simp; omega)).trans h.f0, (hb.frozen (p := ⟨_, 1, none⟩) (by simp; omega)).trans h.f1,
    (hb.cell (p := ⟨_, 0, none⟩) (by simp; omega)).trans h.q0, (hb.cell (p := ⟨_, 1, none⟩) (by simp; omega)).trans h.q1, (hb.frozen (p := ⟨_, 0, none⟩) (by simp; omega)).trans h.g0, (hb.frozen (p := ⟨_, 1, none⟩) (by simp; omega)).trans h.g1⟩
theorem RepW.set {w W : World} {v : Value} {m : Nat × Int} (h : RepW w W v m) (y : Nat × Int) : RepW w ((W.setCell ⟨w.heap.size + 1 + 1, 0, none⟩ (.int .u32 (y.1 : Nat))).setCell ⟨w.heap.size + 1 + 1, 1, none⟩ (.int .i64 y.2)) v y := by
  have o : ∀ (b i : Nat), b ≠ w.heap.size + 1 + 1 → ((W.setCell ⟨w.heap.size + 1 + 1, 0, none⟩ (.int .u32 (y.1 : Nat))).setCell ⟨w.heap.size + 1 + 1, 1, none⟩ (.int .i64 y.2)).cell? ⟨b, i, none⟩ = W.cell? ⟨b, i, none⟩ := fun b i hb => by
    have hn : ∀ j, (⟨w.heap.size + 1 + 1, j, none⟩ : Addr) ≠ ⟨b, i, none⟩ := fun j e => hb (by cases e; rfl)
    rw [World.cell?_setCell_other _ _ _ _ (hn 1), World.cell?_setCell_other _ _ _ _ (hn 0)]
  refine ⟨(h.below.setCell (p := ⟨w.heap.size + 1 + 1, 0, none⟩) (by show _ ≤ w.heap.size + 1 + 1; omega) _).setCell (p := ⟨w.heap.size + 1 + 1, 1, none⟩) (by show _ ≤ w.heap.size + 1 + 1; omega) _, by simp [World.setCell]; exact h.size, (o _ _ (by omega)).trans h.b3, (o _ _ (by omega)).trans h.r0, (o _ _ (by omega)).trans h.r1, by rw [World.frozen?_setCell, World.frozen?_setCell]; exact h.f0, by rw [World.frozen?_setCell, World.frozen?_setCell]; exact h.f1, ?_, ?_, by rw [World.frozen?_setCell, World.frozen?_setCell]; exact h.g0, by rw [World.frozen?_setCell, World.frozen?_setCell]; exact h.g1⟩
  · rw [World.cell?_setCell_other _ _ _ _ (by simp), World.cell?_setCell_same' _ _ _ (by rw [h.q0]; rfl)]
  · rw [World.cell?_setCell_same' _ _ _ (by rw [World.cell?_setCell_other _ _ _ _ (by simp), h.q1]; rfl)]

end Go.Proofs.YteefjbdejcpepaaDoor
namespace Go.Proofs.YteefjbdejcpepaaDoor
open Go.RowKit

def idsText (ids : List (Nat × Int)) : List UInt8 := (ids.map fun x => 32 :: idText x.1 x.2.toNat).flatten
def rcpText (nm : List UInt8) (len : Int) (p : Nat) (ids : List (Nat × Int)) : List UInt8 := nm ++ [32] ++ Lib.decDigits len.toNat ++ [32] ++ hexLast p 8 ++ idsText ids
theorem idsText_snoc (ids : List (Nat × Int)) (k : Nat) (h : k < ids.length) : idsText (ids.take (k + 1)) = idsText (ids.take k) ++ [32] ++ idText ids[k].1 ids[k].2.toNat := by
  rw [List.take_succ_eq_append_getElem h, idsText, List.map_append, List.flatten_append]
  simp [idsText]
theorem bytes_append (a b : ByteArray) : (a ++ b).data.toList = a.data.toList ++ b.data.toList := by
  rw [ByteArray.data_append, Array.toList_append]
theorem sz_blank : (⟨#[32]⟩ : ByteArray).size = 1 := rfl
theorem add_eq (a b : ByteArray) (h : a.size + b.size ≤ 100000) : ∃ c : ByteArray, (∀ w : World, (Op.stringOp .add a b).run Tryd.prog w = .ok (.string c) w) ∧ c.data.toList = a.data.toList ++ b.data.toList ∧ c.size = a.size + b.size :=
  ⟨a ++ b, fun w => run_string_add_sum w a b (by omega), bytes_append a b, ByteArray.size_append⟩
theorem bytes_of (l : List UInt8) : (⟨l.toArray⟩ : ByteArray).data.toList = l := by simp
theorem bytes_eq {a : ByteArray} {l : List UInt8} (h : a.data.toList = l) : a = ⟨l.toArray⟩ := by
  apply ByteArray.ext
  apply Array.toList_inj.1
  rw [h]
theorem idText_len (n l : Nat) (h : l ≤ 9223372036854775807) : (idText n l).length ≤ 28 := by
  have := decDigits_le19 l h
  simp [idText, hexLast_length]
  omega

end Go.Proofs.YteefjbdejcpepaaDoor
namespace Go.Proofs.YteefjbdejcpepaaDoor
open Go.RowKit

def idsOf (l : List UInt8) : List (Nat × Int) := (pieces l).map fun p => (pmore 2166136261 p, (p.length : Int))
def idCells : List (Nat × Int) → List Value
  | [] => []
  | x :: r => .int .u32 (x.1 : Nat) :: .int .i64 x.2 :: idCells r
theorem idCells_append : ∀ (a b : List (Nat × Int)), idCells (a ++ b) = idCells a ++ idCells b
  | [], _ => rfl
  | x :: r, b => by rw [List.cons_append, idCells, idCells_append r b, idCells]; rfl
theorem idCells_length : ∀ (a : List (Nat × Int)), (idCells a).length = a.length * 2
  | [] => rfl
  | x :: r => by rw [idCells, List.length_cons, List.length_cons, idCells_length r, List.length_cons]; omega
theorem idCells_at : ∀ (a : List (Nat × Int)) (i : Nat) (h : i < a.length), (idCells a)[i * 2]? = some (.int .u32 (a[i].1 : Nat)) ∧ (idCells a)[i * 2 + 1]? = some (.int .i64 a[i].2)
  | x :: r, 0, _ => ⟨rfl, rfl⟩
  | x :: r, i + 1, h => by
    have := idCells_at r i (by simpa using h)
    rw [show (i + 1) * 2 = i * 2 + 1 + 1 by omega]
    exact this
/- The same, and the IDs lie from block 'base' on. -/
def IdsIn (base : Nat) (w : World) (v : Value) (ids : List (Nat × Int)) : Prop :=
  ∃ (p : Option Addr) (c : Nat), v = .slice p ids.length c ∧ ∀ i (h : i < ids.length), ∃ b o, p = some ⟨b, o, none⟩ ∧ base ≤ b ∧ b < w.heap.size ∧ w.cell? ⟨b, o + i * 2, none⟩ = some (.int .u32 (ids[i].1 : Nat)) ∧ w.cell? ⟨b, o + i * 2 + 1, none⟩ = some (.int .i64 ids[i].2)
theorem IdsIn.at {base : Nat} {w : World} {v : Value} {ids : List (Nat × Int)} (h : IdsIn base w v ids) : IdsAt w v ids := by
  obtain ⟨p, c, hv, h⟩ := h
  refine ⟨p, c, hv, fun i hi => ?_⟩
  obtain ⟨b, o, hp, _, hlt, h1, h2⟩ := h i hi
  exact ⟨b, o, hp, hlt, h1, h2⟩
theorem IdsIn.low {base base' : Nat} {w : World} {v : Value} {ids : List (Nat × Int)} (h : IdsIn base w v ids) (hb : base' ≤ base) : IdsIn base' w v ids := by
  obtain ⟨p, c, hv, h⟩ := h
  refine ⟨p, c, hv, fun i hi => ?_⟩
  obtain ⟨b, o, hp, hl, h⟩ := h i hi
  exact ⟨b, o, hp, Nat.le_trans hb hl, h⟩
theorem IdsIn.below {base : Nat} {w w' : World} {v : Value} {ids : List (Nat × Int)} (h : IdsIn base w v ids) (hb : Below w.heap.size w w') : IdsIn base w' v ids := by
  obtain ⟨p, c, hv, h⟩ := h
  refine ⟨p, c, hv, fun i hi => ?_⟩
  obtain ⟨b, o, hp, hl, hlt, h1, h2⟩ := h i hi
  exact ⟨b, o, hp, hl, Nat.lt_of_lt_of_le hlt hb.size, (hb.cell (p := ⟨b, o + i * 2, none⟩) hlt).trans h1, (hb.cell (p := ⟨b, o + i * 2 + 1, none⟩) hlt).trans h2⟩
theorem IdsIn.setCell {base : Nat} {w : World} {v : Value} {ids : List (Nat × Int)} (h : IdsIn base w v ids) {a : Addr} (ha : a.block < base) (u : Value) : IdsIn base (w.setCell a u) v ids := by
  obtain ⟨p, c, hv, h⟩ := h
  refine ⟨p, c, hv, fun i hi => ?_⟩
  obtain ⟨b, o, hp, hl, hlt, h1, h2⟩ := h i hi
  have hn : ∀ j, a ≠ ⟨b, j, none⟩ := fun j e => by rw [e] at ha; simp at ha; omega
  exact ⟨b, o, hp, hl, by simp [World.setCell]; exact hlt, by rw [World.cell?_setCell_other _ _ _ _ (hn _)]; exact h1, by rw [World.cell?_setCell_other _ _ _ _ (hn _)]; exact h2⟩
theorem IdsIn.nil (base : Nat) (w : World) : IdsIn base w (.slice none 0 0) [] := ⟨none, 0, rfl, fun i hi => by simp at hi⟩
theorem IdsIn.of_row {w : World} {base : Nat} {e : TypeId} {v : Value} {ids : List (Nat × Int)} (h : w.ownsRow base e 2 v ids.length (idCells ids)) : IdsIn base w v ids := by
  obtain ⟨hl, h⟩ := h
  rcases h with ⟨rfl, h0⟩ | ⟨g, cap, cur, rfl, hg, hb, h1, h2, h3, h4⟩
  · exact ⟨none, 0, by rw [h0], fun i hi => by omega⟩
  · have hgl : g < w.heap.size := by
      rcases Nat.lt_or_ge g w.heap.size with h' | h'
      · exact h'
      · simp [Array.getElem?_eq_none h'] at hb
    have hc : ∀ j u, (idCells ids)[j]? = some u → w.cell? ⟨g, 0 + j, none⟩ = some u := fun j u hj => by
      have hjl : j < (idCells ids).length := (List.getElem?_eq_some_iff.1 hj).1
      have e1 : cur.toList[j]? = some u := by
        rw [← hj, ← h4, List.getElem?_take, if_pos (by omega)]
      rw [Nat.zero_add]
      simp only [World.cell?, hb]
      rw [← Array.getElem?_toList, e1]
      simp
    exact ⟨some ⟨g, 0, none⟩, cap, rfl, fun i hi => ⟨g, 0, rfl, hg, hgl, hc _ _ (idCells_at ids i hi).1, hc _ _ (idCells_at ids i hi).2⟩⟩
theorem IdsAt.of_row {w : World} {base : Nat} {e : TypeId} {v : Value} {ids : List (Nat × Int)} (h : w.ownsRow base e 2 v ids.length (idCells ids)) : IdsAt w v ids := (IdsIn.of_row h).at
theorem IdsAt.nil (w : World) : IdsAt w (.slice none 0 0) [] := ⟨none, 0, rfl, fun i hi => by simp at hi⟩
theorem two_new (W : World) (a b : Value) (t : TypeId) (B : Nat) (hB : B = W.heap.size) : ∀ j u, [a, b][j]? = some u → (W.alloc (.cells #[a, b] t)).cell? ((⟨B, 0, none⟩ : Addr).add j) = some u := by
  intro j u hj
  match j, hj with
  | 0, hj =>
    have : (⟨B, 0, none⟩ : Addr).add 0 = ⟨B, 0, none⟩ := rfl
    rw [this]
    exact new_cell W #[a, b] t (by simpa using hj) hB
  | 1, hj =>
    have : (⟨B, 0, none⟩ : Addr).add 1 = ⟨B, 1, none⟩ := rfl
    rw [this]
    exact new_cell W #[a, b] t (by simpa using hj) hB
  | j + 2, hj => simp at hj
theorem infoID : (Tryd.prog.info? 37).map (fun i => (i.zero, i.size, i.bytes)) = some (some (idV 0 0), 2, 16) := by kernel_rfl

end Go.Proofs.YteefjbdejcpepaaDoor
namespace Go.Proofs.YteefjbdejcpepaaDoor
open Go.RowKit

theorem idCells_cells {W : World} {b o : Nat} {ids : List (Nat × Int)} (h : ∀ i (h : i < ids.length), W.cell? ⟨b, o + i * 2, none⟩ = some (.int .u32 (ids[i].1 : Nat)) ∧ W.cell? ⟨b, o + i * 2 + 1, none⟩ = some (.int .i64 ids[i].2)) :
    ∀ j u, (idCells ids)[j]? = some u → W.cell? ((⟨b, o, none⟩ : Addr).add j) = some u := by
  intro j u hj
  have hjl : j < (idCells ids).length := (List.getElem?_eq_some_iff.1 hj).1
  rw [idCells_length] at hjl
  have hi : j / 2 < ids.length := by omega
  have ha : (⟨b, o, none⟩ : Addr).add j = ⟨b, o + j, none⟩ := by unfold Addr.add; split <;> simp_all
  rw [ha]
  have e := idCells_at ids (j / 2) hi
  rcases Nat.mod_two_eq_zero_or_one j with h0 | h0
  · have hj2 : j / 2 * 2 = j := by omega
    rw [hj2] at e
    have h1 := (h (j / 2) hi).1
    rw [hj2] at h1
    rw [h1, ← hj, e.1]
  · have hj2 : j / 2 * 2 + 1 = j := by omega
    rw [hj2] at e
    have h1 := (h (j / 2) hi).2
    rw [Nat.add_assoc, hj2] at h1
    rw [h1, ← hj, e.2]
theorem idCells_one (ids : List (Nat × Int)) : ∀ u ∈ idCells ids, u.oneCell' = true := by
  induction ids with
  | nil => simp [idCells]
  | cons x r ih =>
    intro u hu
    simp only [idCells, List.mem_cons] at hu
    rcases hu with rfl | rfl | hu
    · rfl
    · rfl
    · exact ih u hu

/- A recipe in a box, and an empty one behind it. -/
structure OwnW (w W : World) (nm : ByteArray) (len p : Int) (v : Value) : Prop where
  below : Below w.heap.size w W
  size : w.heap.size + 1 < W.heap.size
  b0 : W.cell? ⟨w.heap.size, 0, none⟩ = some (.string nm)
  b1 : W.cell? ⟨w.heap.size, 1, none⟩ = some (.int .i64 len)
  b2 : W.cell? ⟨w.heap.size, 2, none⟩ = some (.int .u32 p)
  b3 : W.cell? ⟨w.heap.size, 3, none⟩ = some v
  r0 : W.cell? ⟨w.heap.size + 1, 0, none⟩ = some (.string ⟨#[]⟩)
  r1 : W.cell? ⟨w.heap.size + 1, 1, none⟩ = some (.int .i64 0)
  r2 : W.cell? ⟨w.heap.size + 1, 2, none⟩ = some (.int .u32 0)
  r3 : W.cell? ⟨w.heap.size + 1, 3, none⟩ = some (.slice none 0 0)
  g : ∀ i, W.frozen? ⟨w.heap.size, i, none⟩ = false
  f : ∀ i, W.frozen? ⟨w.heap.size + 1, i, none⟩ = false
theorem OwnW.of {w W : World} (nm : ByteArray) (len p : Int) (v : Value) (t : TypeId)
    (hb : Below ((w.alloc (.cells #[.string nm, .int .i64 len, .int .u32 p, v] t)).alloc (.cells #[.string ⟨#[]⟩, .int .i64 0, .int .u32 0, .slice none 0 0] t)).heap.size ((w.alloc (.cells #[.string nm, .int .i64 len, .int .u32 p, v] t)).alloc (.cells #[.string ⟨#[]⟩, .int .i64 0, .int .u32 0, .slice none 0 0] t)) W) : OwnW w W nm len p v := by
  have hs := hb.size
  simp only [World.size_alloc] at hs
  have c : ∀ i u, (#[.string nm, .int .i64 len, .int .u32 p, v] : Array Value)[i]? = some u → W.cell? ⟨w.heap.size, i, none⟩ = some u := fun i u h =>
    (hb.cell (p := ⟨w.heap.size, i, none⟩) (by simp; omega)).trans ((World.cell?_alloc_lt _ _ ⟨w.heap.size, i, none⟩ (by simp)).trans (new_cell w _ _ h rfl))
  have r : ∀ i u, (#[.string ⟨#[]⟩, .int .i64 0, .int .u32 0, .slice none 0 0] : Array Value)[i]? = some u → W.cell? ⟨w.heap.size + 1, i, none⟩ = some u := fun i u h =>
    (hb.cell (p := ⟨w.heap.size + 1, i, none⟩) (by simp)).trans (new_cell _ _ _ h (by simp))
  refine ⟨(((Below.refl _ w).alloc (Nat.le_refl _) _).alloc (by simp) _).trans (hb.mono (by simp; omega)), by omega, c 0 _ rfl, c 1 _ rfl, c 2 _ rfl, c 3 _ rfl, r 0 _ rfl, r 1 _ rfl, r 2 _ rfl, r 3 _ rfl, fun i => ?_, fun i => ?_⟩
  · rw [hb.frozen (p := ⟨w.heap.size, i, none⟩) (by simp; omega), frozen_alloc_lt' _ _ (by simp)]
    exact new_frozen w _ _ rfl
  · rw [hb.frozen (p := ⟨w.heap.size + 1, i, none⟩) (by simp)]
    exact new_frozen _ _ _ (by simp)

end Go.Proofs.YteefjbdejcpepaaDoor
namespace Go.Proofs.YteefjbdejcpepaaDoor
open Go.RowKit

theorem IdsIn.same {lo : Nat} {W W' : World} {v : Value} {ids : List (Nat × Int)} (h : IdsIn lo W v ids) (hs : SameIn lo W.heap.size W W') (hz : W.heap.size ≤ W'.heap.size) : IdsIn lo W' v ids := by
  obtain ⟨p, c, hv, h⟩ := h
  refine ⟨p, c, hv, fun i hi => ?_⟩
  obtain ⟨b, o, hp, hl, hlt, h1, h2⟩ := h i hi
  have hc : ∀ j, W'.cell? ⟨b, j, none⟩ = W.cell? ⟨b, j, none⟩ := fun j => World.cell?_of_block (w := W) (hs b hl hlt)
  exact ⟨b, o, hp, hl, Nat.lt_of_lt_of_le hlt hz, (hc _).trans h1, (hc _).trans h2⟩
end Go.Proofs.YteefjbdejcpepaaDoor
namespace Go.Proofs.YteefjbdejcpepaaDoor
open Go.RowKit

/- The first piece that has another ID. -/
def firstOdd : Nat → List (List UInt8) → List (Nat × Int) → Option Nat
  | i, p :: l, x :: r => if idOfL p = x then firstOdd (i + 1) l r else some i
  | _, _, _ => none
def joinOf (nm : List UInt8) (len : Int) (p : Nat) (ids : List (Nat × Int)) (ls : List (List UInt8)) : List UInt8 × (Int × Int) :=
  if recFault nm len ids ≠ (0, -1) then ([], recFault nm len ids) else if ls.length ≠ ids.length then ([], (3, -1)) else
    match firstOdd 0 ls ids with
    | some i => ([], (9, (i : Int)))
    | none => if pmore 2166136261 ls.flatten = p then (ls.flatten, (0, -1)) else ([], (9, -1))
theorem recFault_code (nm : List UInt8) (len : Int) (ids : List (Nat × Int)) : recFault nm len ids = (0, -1) ∨ 0 < (recFault nm len ids).1 := by
  unfold recFault
  split
  · exact .inr (by decide)
  · split
    · exact .inr (by decide)
    · split
      · exact .inr (by decide)
      · split
        · exact .inr (by show (0 : Int) < 3; decide)
        · split
          · exact .inl rfl
          · exact .inr (by decide)
theorem recFault_zero {nm : List UInt8} {len : Int} {ids : List (Nat × Int)} (h : recFault nm len ids = (0, -1)) : isName nm = true ∧ (0 ≤ len ∧ len ≤ 4000) ∧ ids.length ≤ 250 ∧ firstBad 0 ids = none ∧ lenSum ids = len := by
  unfold recFault at h
  split at h
  · cases h
  · rename_i h1
    split at h
    · cases h
    · rename_i h2
      split at h
      · cases h
      · rename_i h3
        split at h
        · cases h
        · rename_i h4
          split at h
          · rename_i h5
            exact ⟨by simpa using h1, by omega, by omega, h4, h5⟩
          · cases h
theorem firstOdd_at : ∀ (ls : List (List UInt8)) (ids : List (Nat × Int)) (i k : Nat) (h : k < ls.length) (h' : k < ids.length), (∀ j (hj : j < ls.length) (hj' : j < ids.length), j < k → idOfL ls[j] = ids[j]) → idOfL ls[k] ≠ ids[k] → firstOdd i ls ids = some (i + k)
  | [], _, _, _, h, _, _, _ => by simp at h
  | _ :: _, [], _, _, _, h', _, _ => by simp at h'
  | p :: l, x :: r, i, 0, _, _, _, hb => by
    have hb' : idOfL p ≠ x := hb
    rw [firstOdd, if_neg hb']
    rfl
  | p :: l, x :: r, i, k + 1, h, h', ha, hb => by
    have h0 : idOfL p = x := ha 0 (by simp) (by simp) (by omega)
    rw [firstOdd, if_pos h0, firstOdd_at l r (i + 1) k (by simpa using h) (by simpa using h') (fun j hj hj' hk => by have := ha (j + 1) (by simpa using hj) (by simpa using hj') (by omega); simpa using this) (by simpa using hb)]
    congr 1
    omega
theorem firstOdd_none : ∀ (ls : List (List UInt8)) (ids : List (Nat × Int)) (i : Nat), (∀ j (hj : j < ls.length) (hj' : j < ids.length), idOfL ls[j] = ids[j]) → firstOdd i ls ids = none
  | [], _, _, _ => by simp [firstOdd]
  | _ :: _, [], _, _ => by simp [firstOdd]
  | p :: l, x :: r, i, ha => by
    have h0 : idOfL p = x := ha 0 (by simp) (by simp)
    rw [firstOdd, if_pos h0, firstOdd_none l r (i + 1) (fun j hj hj' => by have := ha (j + 1) (by simpa using hj) (by simpa using hj'); simpa using this)]

/- The recipe's box, the result, and a fault in a block of its own. -/
structure JoinW (w W : World) (nm : ByteArray) (len p : Int) (v : Value) (B : Nat) (c a : Int) : Prop where
  fault : FaultW w W nm len p v
  lo : w.heap.size + 1 < B
  hi : B < W.heap.size
  q0 : W.cell? ⟨B, 0, none⟩ = some (.int .i64 c)
  q1 : W.cell? ⟨B, 1, none⟩ = some (.int .i64 a)
theorem JoinW.next {w W W' : World} {nm : ByteArray} {len p : Int} {v : Value} {B : Nat} {c a : Int} (h : JoinW w W nm len p v B c a) (hb : Below W.heap.size W W') : JoinW w W' nm len p v B c a :=
  ⟨h.fault.next hb, h.lo, Nat.lt_of_lt_of_le h.hi hb.size, (hb.cell (p := ⟨B, 0, none⟩) h.hi).trans h.q0, (hb.cell (p := ⟨B, 1, none⟩) h.hi).trans h.q1⟩
theorem JoinW.new {w W : World} {nm : ByteArray} {len p : Int} {v : Value} (h : FaultW w W nm len p v) (c a : Int) (t : TypeId) : JoinW w (W.alloc (.cells #[.int .i64 c, .int .i64 a] t)) nm len p v W.heap.size c a :=
  ⟨h.next ((Below.refl _ W).alloc (Nat.le_refl _) _), h.size, by simp, new_cell W _ _ rfl rfl, new_cell W _ _ rfl rfl⟩

end Go.Proofs.YteefjbdejcpepaaDoor
namespace Go.Proofs.YteefjbdejcpepaaDoor
open Go.RowKit

def readIds : List (List UInt8) → Option (List (Nat × Int))
  | [] => some []
  | t :: r => match idRead t, readIds r with
    | some x, some ids => some ((x.1, (x.2 : Int)) :: ids)
    | _, _ => none
abbrev RcpD := List UInt8 × Int × Nat × List (Nat × Int)
def rcpRead (t : List UInt8) : RcpD × (Int × Int) :=
  match cutBy 32 t with
  | nm :: ln :: pr :: r => match numOf ln 6, unhex8 pr, readIds r with
    | some n, some p, some ids => if recFault nm n ids = (0, -1) then ((nm, (n : Int), p, ids), (0, -1)) else (([], 0, 0, []), recFault nm n ids)
    | _, _, _ => (([], 0, 0, []), (1, -1))
  | _ => (([], 0, 0, []), (1, -1))
theorem readIds_snoc : ∀ (l : List (List UInt8)) (t : List UInt8) (ids : List (Nat × Int)) (x : Nat × Nat), readIds l = some ids → idRead t = some x → readIds (l ++ [t]) = some (ids ++ [(x.1, (x.2 : Int))])
  | [], t, ids, x, h, hx => by
    cases h
    simp [readIds, hx]
  | u :: r, t, ids, x, h, hx => by
    rw [readIds] at h
    rw [List.cons_append, readIds]
    split at h
    · rename_i y js hy hj
      cases h
      rw [hy, readIds_snoc r t js x hj hx]
      rfl
    · cases h
theorem readIds_none : ∀ (l : List (List UInt8)) (k : Nat) (h : k < l.length), idRead l[k] = none → readIds l = none
  | u :: r, 0, _, hx => by
    have hx' : idRead u = none := hx
    rw [readIds, hx']
  | u :: r, k + 1, h, hx => by
    rw [readIds, readIds_none r k (by simpa using h) (by simpa using hx)]
    cases idRead u <;> rfl
theorem cutBy_len (c : UInt8) : ∀ (l : List UInt8), (cutBy c l).length ≤ l.length + 1 ∧ ∀ p ∈ cutBy c l, p.length ≤ l.length
  | [] => by simp [cutBy]
  | x :: l => by
    have ih := cutBy_len c l
    rw [cutBy]
    split
    · refine ⟨by simp; exact ih.1, fun p hp => ?_⟩
      rcases List.mem_cons.1 hp with rfl | hp
      · simp
      · exact Nat.le_trans (ih.2 p hp) (by simp)
    · split
      · rename_i p r he
        rw [he] at ih
        refine ⟨by simp at ih ⊢; omega, fun q hq => ?_⟩
        rcases List.mem_cons.1 hq with rfl | hq
        · have := ih.2 p (by simp)
          simp
          omega
        · exact Nat.le_trans (ih.2 q (by simp [hq])) (by simp)
      · exact ⟨by simp, fun q hq => by simp at hq; subst hq; simp⟩
theorem rcpRead_short (t : List UInt8) (h : (cutBy 32 t).length < 3) : rcpRead t = (([], 0, 0, []), (1, -1)) := by
  unfold rcpRead
  split
  · rename_i e
    rw [e] at h
    simp at h
    omega
  · rfl

theorem rcpRead_parts {t nm ln pr : List UInt8} {rs : List (List UInt8)} (h : cutBy 32 t = nm :: ln :: pr :: rs) : rcpRead t = match numOf ln 6, unhex8 pr, readIds rs with
    | some n, some p, some ids => if recFault nm n ids = (0, -1) then ((nm, (n : Int), p, ids), (0, -1)) else (([], 0, 0, []), recFault nm n ids)
    | _, _, _ => (([], 0, 0, []), (1, -1)) := by
  unfold rcpRead
  rw [h]
theorem rcpRead_num {t nm ln pr : List UInt8} {rs : List (List UInt8)} (h : cutBy 32 t = nm :: ln :: pr :: rs) (hn : numOf ln 6 = none) : rcpRead t = (([], 0, 0, []), (1, -1)) := by
  rw [rcpRead_parts h, hn]
theorem rcpRead_hex {t nm ln pr : List UInt8} {rs : List (List UInt8)} (h : cutBy 32 t = nm :: ln :: pr :: rs) {n : Nat} (hn : numOf ln 6 = some n) (hu : unhex8 pr = none) : rcpRead t = (([], 0, 0, []), (1, -1)) := by
  rw [rcpRead_parts h, hn, hu]
theorem rcpRead_ids {t nm ln pr : List UInt8} {rs : List (List UInt8)} (h : cutBy 32 t = nm :: ln :: pr :: rs) {n p : Nat} (hn : numOf ln 6 = some n) (hu : unhex8 pr = some p) (hi : readIds rs = none) : rcpRead t = (([], 0, 0, []), (1, -1)) := by
  rw [rcpRead_parts h, hn, hu, hi]
theorem rcpRead_all {t nm ln pr : List UInt8} {rs : List (List UInt8)} (h : cutBy 32 t = nm :: ln :: pr :: rs) {n p : Nat} (hn : numOf ln 6 = some n) (hu : unhex8 pr = some p) {ids : List (Nat × Int)} (hi : readIds rs = some ids) : rcpRead t = if recFault nm n ids = (0, -1) then ((nm, (n : Int), p, ids), (0, -1)) else (([], 0, 0, []), recFault nm n ids) := by
  rw [rcpRead_parts h, hn, hu, hi]
theorem unhex8_any (p : List UInt8) (w : World) : Calls Tryd.prog 62 #[strV p] w fun e w' => e = .returned (hexRes (unhex8 p)) ∧ w' = w := by
  by_cases h : p.length = 8
  · have := refUnhex_any ⟨p.toArray⟩ (by rw [str_size]; exact h) w
    rw [str_list] at this
    rw [unhex8, if_pos h]
    exact this
  · have := refUnhex_no ⟨p.toArray⟩ (by rw [str_size]; exact h) w
    rw [unhex8, if_neg h]
    exact this
/- The two results, in blocks of their own, still empty. -/
structure ReadW (w W : World) : Prop where
  below : Below w.heap.size w W
  size : w.heap.size + 1 < W.heap.size
  r0 : W.cell? ⟨w.heap.size, 0, none⟩ = some (.string ⟨#[]⟩)
  r1 : W.cell? ⟨w.heap.size, 1, none⟩ = some (.int .i64 0)
  r2 : W.cell? ⟨w.heap.size, 2, none⟩ = some (.int .u32 0)
  r3 : W.cell? ⟨w.heap.size, 3, none⟩ = some (.slice none 0 0)
  k0 : W.cell? ⟨w.heap.size + 1, 0, none⟩ = some (.int .i64 0)
  k1 : W.cell? ⟨w.heap.size + 1, 1, none⟩ = some (.int .i64 0)
  g : ∀ i, W.frozen? ⟨w.heap.size, i, none⟩ = false
  f : ∀ i, W.frozen? ⟨w.heap.size + 1, i, none⟩ = false
theorem ReadW.new (w : World) (t t' : TypeId) : ReadW w ((w.alloc (.cells #[.string ⟨#[]⟩, .int .i64 0, .int .u32 0, .slice none 0 0] t)).alloc (.cells #[.int .i64 0, .int .i64 0] t')) where
  below := ((Below.refl _ w).alloc (Nat.le_refl _) _).alloc (by simp) _
  size := by simp
  r0 := by rw [World.cell?_alloc_lt _ _ ⟨w.heap.size, 0, none⟩ (by simp)]; simp
  r1 := by rw [World.cell?_alloc_lt _ _ ⟨w.heap.size, 1, none⟩ (by simp)]; simp
  r2 := by rw [World.cell?_alloc_lt _ _ ⟨w.heap.size, 2, none⟩ (by simp)]; simp
  r3 := by rw [World.cell?_alloc_lt _ _ ⟨w.heap.size, 3, none⟩ (by simp)]; simp
  k0 := by simp
  k1 := by simp
  g := fun i => by rw [frozen_alloc_lt' _ _ (by simp)]; exact new_frozen w _ _ rfl
  f := fun i => new_frozen _ _ _ (by simp)
theorem ReadW.next {w W W' : World} (h : ReadW w W) (hb : Below W.heap.size W W') : ReadW w W' := by
  have hs := h.size
  have hs' := hb.size
  exact ⟨h.below.trans (hb.mono h.below.size), by omega, (hb.cell (p := ⟨_, 0, none⟩) (by simp; omega)).trans h.r0, (hb.cell (p := ⟨_, 1, none⟩) (by simp; omega)).trans h.r1, (hb.cell (p := ⟨_, 2, none⟩) (by simp; omega)).trans h.r2, (hb.cell (p := ⟨_, 3, none⟩) (by simp; omega)).trans h.r3,
    (hb.cell (p := ⟨_, 0, none⟩) (by simp; omega)).trans h.k0, (hb.cell (p := ⟨_, 1, none⟩) (by simp; omega)).trans h.k1, fun i => (hb.frozen (p := ⟨_, i, none⟩) (by simp; omega)).trans (h.g i), fun i => (hb.frozen (p := ⟨_, i, none⟩) (by simp; omega)).trans (h.f i)⟩

/- A refusal: both results stored. -/
def readPost (s : ByteArray) (w : World) (e : Ending) (w' : World) : Prop := ∃ v, e = .returned (.tuple #[rcpV ⟨(rcpRead s.data.toList).1.1.toArray⟩ (rcpRead s.data.toList).1.2.1 ((rcpRead s.data.toList).1.2.2.1 : Nat) v, faultV (rcpRead s.data.toList).2.1 (rcpRead s.data.toList).2.2]) ∧ IdsIn w.heap.size w' v (rcpRead s.data.toList).1.2.2.2 ∧ Below w.heap.size w w'
abbrev stored (W : World) (h : Nat) (c a : Int) : World := (((((W.setCell ⟨h, 0, none⟩ (.string ⟨#[]⟩)).setCell ⟨h, 1, none⟩ (.int .i64 0)).setCell ⟨h, 2, none⟩ (.int .u32 0)).setCell ⟨h, 3, none⟩ (.slice none 0 0)).setCell ⟨h + 1, 0, none⟩ (.int .i64 c)).setCell ⟨h + 1, 1, none⟩ (.int .i64 a)
theorem readBad {s : ByteArray} {w W : World} {c a : Int} (h : ReadW w W) (hr : rcpRead s.data.toList = (([], 0, 0, []), (c, a))) : readPost s w (.returned (.tuple #[rcpV ⟨#[]⟩ 0 0 (.slice none 0 0), faultV c a])) (stored W w.heap.size c a) := by
  refine ⟨.slice none 0 0, by rw [hr]; rfl, by rw [hr]; exact IdsIn.nil _ _, ?_⟩
  exact (((((h.below.setCell (p := ⟨w.heap.size, 0, none⟩) (Nat.le_refl _) _).setCell (p := ⟨w.heap.size, 1, none⟩) (Nat.le_refl _) _).setCell (p := ⟨w.heap.size, 2, none⟩) (Nat.le_refl _) _).setCell (p := ⟨w.heap.size, 3, none⟩) (Nat.le_refl _) _).setCell (p := ⟨w.heap.size + 1, 0, none⟩) (by simp) _).setCell (p := ⟨w.heap.size + 1, 1, none⟩) (by simp) _

theorem readPost.drew {s : ByteArray} {w w' : World} {e : Ending} (h : readPost s w e w') : readPost s w e w'.drew := by
  obtain ⟨v, h1, h2, h3⟩ := h
  exact ⟨v, h1, h2.below (Below.refl _ _).drew, h3.drew⟩
abbrev stored4 (W : World) (h : Nat) (a b c d : Value) (x y : Int) : World := (((((W.setCell ⟨h, 0, none⟩ a).setCell ⟨h, 1, none⟩ b).setCell ⟨h, 2, none⟩ c).setCell ⟨h, 3, none⟩ d).setCell ⟨h + 1, 0, none⟩ (.int .i64 x)).setCell ⟨h + 1, 1, none⟩ (.int .i64 y)
theorem readGood {s : ByteArray} {w W : World} {nm : ByteArray} {n : Int} {p : Nat} {ids : List (Nat × Int)} {v : Value} {base : Nat} {e : TypeId} (h : ReadW w W) (hb : w.heap.size + 1 < base) (ho : W.ownsRow base e 2 v ids.length (idCells ids)) (hr : rcpRead s.data.toList = ((nm.data.toList, n, p, ids), (0, -1))) :
    readPost s w (.returned (.tuple #[rcpV nm n (p : Nat) v, faultV 0 (-1)])) (stored4 W w.heap.size (.string nm) (.int .i64 n) (.int .u32 (p : Nat)) v 0 (-1)) := by
  refine ⟨v, ?_, ?_, ?_⟩
  · rw [hr, show (⟨nm.data.toList.toArray⟩ : ByteArray) = nm from (bytes_eq rfl).symm]
  · rw [hr]
    refine (IdsIn.of_row (base := base) (e := e) ?_).low (by omega)
    have h0 : w.heap.size < base := by omega
    exact ownsRow_setCell_below (ownsRow_setCell_below (ownsRow_setCell_below (ownsRow_setCell_below (ownsRow_setCell_below (ownsRow_setCell_below ho (a := ⟨w.heap.size, 0, none⟩) h0 _) (a := ⟨w.heap.size, 1, none⟩) h0 _) (a := ⟨w.heap.size, 2, none⟩) h0 _) (a := ⟨w.heap.size, 3, none⟩) h0 _) (a := ⟨w.heap.size + 1, 0, none⟩) hb _) (a := ⟨w.heap.size + 1, 1, none⟩) hb _
  · exact (((((h.below.setCell (p := ⟨w.heap.size, 0, none⟩) (Nat.le_refl _) _).setCell (p := ⟨w.heap.size, 1, none⟩) (Nat.le_refl _) _).setCell (p := ⟨w.heap.size, 2, none⟩) (Nat.le_refl _) _).setCell (p := ⟨w.heap.size, 3, none⟩) (Nat.le_refl _) _).setCell (p := ⟨w.heap.size + 1, 0, none⟩) (by simp) _).setCell (p := ⟨w.heap.size + 1, 1, none⟩) (by simp) _

end Go.Proofs.YteefjbdejcpepaaDoor
namespace Go.Proofs.YteefjbdejcpepaaDoor

theorem pieces_many : ∀ (l : List UInt8), l ≠ [] → 16 * ((pieces l).length - 1) + 1 ≤ l.length := by
  refine pieces_rec (fun h => (h rfl).elim) ?_
  intro l hl ih _
  have hp := first_pos l hl
  have hle := first_le l
  rw [pieces_ne l hl, List.length_cons, Nat.add_sub_cancel]
  by_cases hd : l.drop (first l) = []
  · rw [hd, pieces_nil]
    have := List.length_pos_iff.2 hl
    simp
    omega
  · have h16 := first_ge16 l (drop_ne_nil hd)
    have hlt := drop_ne_nil hd
    have := ih hd
    rw [List.length_drop] at this
    have hn : 1 ≤ (pieces (l.drop (first l))).length := by
      rcases Nat.eq_zero_or_pos (pieces (l.drop (first l))).length with h | h
      · exact (hd ((pieces_eq_nil _).1 (List.eq_nil_of_length_eq_zero h))).elim
      · exact h
    omega
theorem pieces_250 (l : List UInt8) (h : l.length ≤ 4000) : (pieces l).length ≤ 250 := by
  by_cases e : l = []
  · subst e; decide
  · have := pieces_many l e
    omega
theorem idsOf_length (l : List UInt8) : (idsOf l).length = (pieces l).length := List.length_map _
theorem idsOf_at (l : List UInt8) (i : Nat) (h : i < (idsOf l).length) : (idsOf l)[i] = idOfL ((pieces l)[i]'(by rw [← idsOf_length]; exact h)) := by
  simp only [idsOf, List.getElem_map]
  rfl
theorem lenSum_pieces : ∀ (ps : List (List UInt8)), lenSum (ps.map fun p => (pmore 2166136261 p, (p.length : Int))) = (ps.flatten.length : Int)
  | [] => rfl
  | p :: r => by
    have ih := lenSum_pieces r
    simp only [lenSum, List.map_cons, List.sum_cons, List.flatten_cons, List.length_append] at ih ⊢
    rw [ih]
    omega
theorem recFault_of (nm l : List UInt8) (hn : isName nm = true) (hl : l.length ≤ 4000) : recFault nm l.length (idsOf l) = (0, -1) := by
  refine recFault_fine hn (by omega) (by have := pieces_250 l hl; rw [idsOf_length]; omega) (firstBad_none _ _ fun j hj => ?_) ?_
  · have hj' : j < (pieces l).length := by rw [← idsOf_length]; exact hj
    have := pieces_at l j hj'
    rw [idsOf_at]
    unfold idOk idOfL
    exact decide_eq_true ⟨by show (1 : Int) ≤ ((pieces l)[j].length : Int); omega, by show ((pieces l)[j].length : Int) ≤ 64; omega⟩
  · rw [idsOf, lenSum_pieces, pieces_flatten]
theorem joinOf_pieces (nm l : List UInt8) (hn : isName nm = true) (hl : l.length ≤ 4000) : joinOf nm l.length (pmore 2166136261 l) (idsOf l) (pieces l) = (l, (0, -1)) := by
  unfold joinOf
  rw [if_neg (by rw [recFault_of nm l hn hl]; simp), if_neg (by rw [idsOf_length]; simp), firstOdd_none (pieces l) (idsOf l) 0 (fun j hj hj' => (idsOf_at l j hj').symm), pieces_flatten]
  simp
theorem joinOf_other (nm l p : List UInt8) (hn : isName nm = true) (hl : l.length ≤ 4000) (k : Nat) (hk : k < (pieces l).length) (hp : idOfL p ≠ idOfL (pieces l)[k]) : joinOf nm l.length (pmore 2166136261 l) (idsOf l) ((pieces l).set k p) = ([], (9, (k : Int))) := by
  have hf : firstOdd 0 ((pieces l).set k p) (idsOf l) = some k := by
    have := firstOdd_at ((pieces l).set k p) (idsOf l) 0 k (by rw [List.length_set]; exact hk) (by rw [idsOf_length]; exact hk) (fun j hj hj' h => ?_) ?_
    · rwa [Nat.zero_add] at this
    · rw [List.getElem_set_ne (by omega), idsOf_at]
    · rw [List.getElem_set_self, idsOf_at]
      exact hp
  unfold joinOf
  rw [if_neg (by rw [recFault_of nm l hn hl]; simp), if_neg (by rw [idsOf_length, List.length_set]; simp), hf]

theorem undec_no (c : UInt8) (hc : undec1 c = none) : ∀ (q : List UInt8) (n v : Nat), undec n q = some v → c ∉ q
  | [], _, _, _ => by simp
  | x :: q, n, v, h => by
    rw [undec] at h
    split at h
    · rename_i d hd
      have ih := undec_no c hc q _ _ h
      intro hm
      rcases List.mem_cons.1 hm with e | hm
      · rw [← e, hc] at hd
        cases hd
      · exact ih hm
    · cases h
theorem unhex_no (c : UInt8) (hc : unhex1 c = none) : ∀ (q : List UInt8) (n v : Nat), unhex n q = some v → c ∉ q
  | [], _, _, _ => by simp
  | x :: q, n, v, h => by
    rw [unhex] at h
    split at h
    · rename_i d hd
      have ih := unhex_no c hc q _ _ h
      intro hm
      rcases List.mem_cons.1 hm with e | hm
      · rw [← e, hc] at hd
        cases hd
      · exact ih hm
    · cases h
theorem blank_dec (u : Nat) : (32 : UInt8) ∉ Lib.decDigits u := undec_no 32 (by decide) _ 0 u (undec_decDigits u)
theorem pow16 : (16 : Nat) ^ 8 = 4294967296 := by decide
theorem unhex_hex (n : Nat) (h : n < 4294967296) : unhex 0 (hexLast n 8) = some n := by
  rw [unhex_hexLast 0 n 8 (by rw [pow16]; exact h), Nat.zero_mul, Nat.zero_add]
theorem blank_hex (n : Nat) (h : n < 4294967296) : (32 : UInt8) ∉ hexLast n 8 := unhex_no 32 (by decide) _ 0 n (unhex_hex n h)
theorem blank_id (n l : Nat) (h : n < 4294967296) : (32 : UInt8) ∉ idText n l := by
  intro hm
  rcases List.mem_append.1 hm with hm | hm
  · exact blank_hex n h hm
  · rcases List.mem_cons.1 hm with e | hm
    · exact absurd e (by decide)
    · exact blank_dec l hm
theorem blank_name (nm : List UInt8) (h : isName nm = true) : (32 : UInt8) ∉ nm := by
  intro hm
  unfold isName at h
  rw [Bool.and_eq_true] at h
  have := List.all_eq_true.1 h.1 32 hm
  exact absurd this (by decide)
theorem cut_ids : ∀ (ids : List (Nat × Int)) (X : List UInt8), (32 : UInt8) ∉ X → (∀ x ∈ ids, x.1 < 4294967296) → cutBy 32 (X ++ idsText ids) = X :: ids.map fun x => idText x.1 x.2.toNat
  | [], X, hX, _ => by
    rw [show idsText [] = [] from rfl, List.append_nil, cutBy_noc _ _ hX]
    rfl
  | x :: r, X, hX, h => by
    rw [show idsText (x :: r) = 32 :: (idText x.1 x.2.toNat ++ idsText r) from rfl, cutBy_split _ _ _ hX, cut_ids r _ (blank_id _ _ (h x (by simp))) (fun y hy => h y (by simp [hy]))]
    rfl
theorem read_ids : ∀ (ids : List (Nat × Int)), (∀ x ∈ ids, x.1 < 4294967296) → (∀ x ∈ ids, idOk x = true) → readIds (ids.map fun x => idText x.1 x.2.toNat) = some ids
  | [], _, _ => rfl
  | x :: r, h, ho => by
    have h0 := ho x (by simp)
    simp only [idOk, decide_eq_true_eq] at h0
    have e := idRead_idText x.1 x.2.toNat (h x (by simp)) (by omega)
    rw [List.map_cons, readIds, e, read_ids r (fun y hy => h y (by simp [hy])) (fun y hy => ho y (by simp [hy]))]
    simp only [Option.some.injEq, List.cons.injEq, and_true]
    apply Prod.ext
    · rfl
    · simp only
      omega
theorem firstBad_all : ∀ (ids : List (Nat × Int)) (i : Nat), firstBad i ids = none → ∀ x ∈ ids, idOk x = true
  | [], _, _, x, hx => by simp at hx
  | y :: r, i, h, x, hx => by
    rw [firstBad] at h
    split at h
    · rename_i hy
      rcases List.mem_cons.1 hx with e | hx
      · rw [e]; exact hy
      · exact firstBad_all r (i + 1) h x hx
    · cases h
theorem rcpRead_text (nm : List UInt8) (len : Int) (p : Nat) (ids : List (Nat × Int)) (hf : recFault nm len ids = (0, -1)) (hp : p < 4294967296) (h32 : ∀ x ∈ ids, x.1 < 4294967296) : rcpRead (rcpText nm len p ids) = ((nm, len, p, ids), (0, -1)) := by
  obtain ⟨h1, ⟨h2, h2'⟩, _, h4, _⟩ := recFault_zero hf
  have hcut : cutBy 32 (rcpText nm len p ids) = nm :: Lib.decDigits len.toNat :: hexLast p 8 :: ids.map fun x => idText x.1 x.2.toNat := by
    have e : rcpText nm len p ids = nm ++ 32 :: (Lib.decDigits len.toNat ++ 32 :: (hexLast p 8 ++ idsText ids)) := by
      simp [rcpText]
    rw [e, cutBy_split _ _ _ (blank_name nm h1), cutBy_split _ _ _ (blank_dec _), cut_ids ids _ (blank_hex p hp) h32]
  have hlen : ((len.toNat : Nat) : Int) = len := Int.toNat_of_nonneg h2
  have h6 : (10 : Nat) ^ 6 = 1000000 := by decide
  have hn : numOf (Lib.decDigits len.toNat) 6 = some len.toNat := numOf_decDigits len.toNat 6 (by decide) (by rw [h6]; omega)
  have hu : unhex8 (hexLast p 8) = some p := by rw [unhex8, if_pos (hexLast_length p 8), unhex_hex p hp]
  have hr := read_ids ids h32 (firstBad_all ids 0 h4)
  rw [rcpRead_all hcut hn hu hr, hlen, if_pos hf]

theorem lesser_mem (m y : Nat × Int) : lesser m y = m ∨ lesser m y = y := by
  unfold lesser
  split
  · exact .inr rfl
  · exact .inl rfl
theorem lesser_least (m y x : Nat × Int) (h : lessB x m = false) : lessB x (lesser m y) = false := by
  unfold lesser
  split
  · rename_i hy
    have h1 : ¬ lessB x m = true := by rw [h]; simp
    rw [lessB_iff] at h1 hy
    have h2 : ¬ lessB x y = true := by rw [lessB_iff]; omega
    simpa using h2
  · exact h
theorem lesser_self (m y : Nat × Int) : lessB y (lesser m y) = false := by
  unfold lesser
  split
  · have h2 : ¬ lessB y y = true := by rw [lessB_iff]; omega
    simpa using h2
  · rename_i h
    simpa using h
theorem fold_least : ∀ (r : List (Nat × Int)) (m x : Nat × Int), lessB x m = false → lessB x (r.foldl lesser m) = false
  | [], _, _, h => h
  | y :: r, m, x, h => fold_least r (lesser m y) x (lesser_least m y x h)
theorem fold_all : ∀ (r : List (Nat × Int)) (m x : Nat × Int), x ∈ r → lessB x (r.foldl lesser m) = false
  | y :: r, m, x, h => by
    rcases List.mem_cons.1 h with e | h
    · rw [e]
      exact fold_least r (lesser m y) y (lesser_self m y)
    · exact fold_all r (lesser m y) x h
theorem fold_mem : ∀ (r : List (Nat × Int)) (m : Nat × Int), r.foldl lesser m = m ∨ r.foldl lesser m ∈ r
  | [], _ => .inl rfl
  | y :: r, m => by
    rcases fold_mem r (lesser m y) with h | h
    · rcases lesser_mem m y with e | e
      · exact .inl (h.trans e)
      · exact .inr (by rw [List.foldl_cons, h, e]; simp)
    · exact .inr (List.mem_cons.2 (.inr h))
theorem repOf_mem (ids : List (Nat × Int)) (h : ids ≠ []) : repOf ids ∈ ids := by
  cases ids with
  | nil => exact (h rfl).elim
  | cons x r =>
    rcases fold_mem r x with e | e
    · exact List.mem_cons.2 (.inl e)
    · exact List.mem_cons.2 (.inr e)
theorem repOf_least (ids : List (Nat × Int)) (x : Nat × Int) (h : x ∈ ids) : lessB x (repOf ids) = false := by
  cases ids with
  | nil => simp at h
  | cons y r =>
    rcases List.mem_cons.1 h with e | h
    · rw [e]
      refine fold_least r y y ?_
      have h2 : ¬ lessB y y = true := by rw [lessB_iff]; omega
      simpa using h2
    · exact fold_all r y x h
end Go.Proofs.YteefjbdejcpepaaDoor
namespace Go.Proofs.YteefjbdejcpepaaDoor
open Go.RowKit

set_option maxRecDepth 100000 in
set_option maxHeartbeats 4000000 in
theorem sameIDs_true (va vb : Value) (ids : List (Nat × Int)) (w : World) (hn : (ids.length : Int) ≤ 9223372036854775807) (ha : IdsAt w va ids) (hb : IdsAt w vb ids) :
    Calls Tryd.prog 82 #[va, vb] w fun e w' => e = .returned (.bool true) ∧ Below w.heap.size w w' := by
  obtain ⟨pa, ca, rfl, ha⟩ := ha
  obtain ⟨pb, cb, rfl, hb⟩ := hb
  go_enter Tryd.func82, Tryd.ntmps82
  go_wp2_with fail
  go_loopw [5] (fun i wr => ∃ j m : Nat, j ≤ ids.length ∧ i = .int .i64 j ∧ wr = w.drewN m) (fun i _ => ids.length - (intOf i).toNat)
  case atStart => exact ⟨0, 0, Nat.zero_le _, rfl, rfl⟩
  case round =>
    obtain ⟨j, m, hj, rfl, rfl⟩ := hrel
    by_cases hlt : j < ids.length
    · obtain ⟨ba, oa, rfl, _, hca, hca'⟩ := ha j hlt
      obtain ⟨bb, ob, rfl, _, hcb, hcb'⟩ := hb j hlt
      have hlt' : (j : Int) < (ids.length : Int) := by omega
      obtain ⟨y, hy⟩ : ∃ y, ids[j] = y := ⟨_, rfl⟩
      rw [hy] at hca hca' hcb hcb'
      clear hy
      go_wp2_with fail
      go_quiet (fail)
      go_wp2_with fail
      go_roundw
      case rel => exact ⟨j + 1, _, by omega, by go_num, rfl⟩
      case measure => simp [intOf]; omega
    · have hge : (ids.length : Int) ≤ (j : Int) := by omega
      go_wp2_with fail
      go_ret
      exact ⟨rfl, ⟨rfl, rfl, rfl, Nat.le_refl _, fun _ _ => rfl⟩⟩

set_option maxRecDepth 100000 in
set_option maxHeartbeats 4000000 in
theorem sameRecipe_true (nm : ByteArray) (len p : Int) (va vb : Value) (ids : List (Nat × Int)) (w : World) (hn : (ids.length : Int) ≤ 9223372036854775807) (ha : IdsAt w va ids) (hb : IdsAt w vb ids) :
    Calls Tryd.prog 50 #[rcpV nm len p va, rcpV nm len p vb] w fun e w' => e = .returned (.bool true) ∧ Below w.heap.size w w' := by
  have HA : Hid (IdsAt w va ids) := ha
  have HB : Hid (IdsAt w vb ids) := hb
  have HN : Hid ((ids.length : Int) ≤ 9223372036854775807) := hn
  obtain ⟨pa, ca, rfl, _⟩ := ha
  obtain ⟨pb, cb, rfl, _⟩ := hb
  clear hn
  go_enter Tryd.func50, Tryd.ntmps50
  go_wp2_with fail
  have hbw : ∀ oo oo', Below w.heap.size w ((w.alloc oo).alloc oo') := fun oo oo' => ((Below.refl _ w).alloc (Nat.le_refl _) _).alloc (by simp) _
  refine (sameIDs_true _ _ ids _ HN.out (HA.out.below (hbw _ _)) (HB.out.below (hbw _ _))).mono ?_
  rintro e w2 ⟨rfl, hb2⟩
  go_wp2_with fail
  go_ret
  exact ⟨rfl, (hbw _ _).trans (hb2.mono (by simp; omega))⟩
end Go.Proofs.YteefjbdejcpepaaDoor
namespace Go.Proofs.YteefjbdejcpepaaDoor
open Go.RowKit

abbrev rcpDV (d : RcpD) (v : Value) : Value := rcpV ⟨d.1.toArray⟩ d.2.1 (d.2.2.1 : Nat) v
def ofR (nm l : List UInt8) : RcpD × Int := if isName nm = false then (([], 0, 0, []), 4) else if 4000 < l.length then (([], 0, 0, []), 2) else ((nm, (l.length : Int), pmore 2166136261 l, idsOf l), 0)
def textR (nm : List UInt8) (len : Int) (p : Nat) (ids : List (Nat × Int)) : List UInt8 := if recFault nm len ids = (0, -1) then rcpText nm len p ids else []
end Go.Proofs.YteefjbdejcpepaaDoor
