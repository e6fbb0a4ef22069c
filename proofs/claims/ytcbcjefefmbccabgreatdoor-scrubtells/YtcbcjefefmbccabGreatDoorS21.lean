/-
  Own text. A recipe out of a text, pure, and the document's ReadRecipe by a contract.
  Own text. Recipes, pure: a text's recipe has no fault; what is joined of it and its pieces is the text, with another piece none; it is read as it was written; its rep is one of its IDs, and none is less.
  Own text. The document's SameIDs and SameRecipe of two that hold the same, by contracts: true; no old memory turns.
  Own text. What the program's package recipe is to answer, as contracts (RecSpec), over what the world holds (Env); blocks that are followed through calls (Blk); the document's RecipeOf in one word.
-/
import Derived.Test.YtcbcjefefmbccabGreatDoorS19
import Derived.Test.YtcbcjefefmbccabGreatDoorS20
import Derived.Test.YtcbcjefefmbccabGreatDoorS03
import Derived.Test.YtcbcjefefmbccabGreatDoorS02
import Derived.Deep.QuietTactic
import Derived.BigQuiet
import Derived.Test.YtcbcjefefmbccabGreatDoorS18
import Derived.Test.YtcbcjefefmbccabGreatDoorS11
namespace Go.Proofs.YtcbcjefefmbccabGreatDoor
open Go.RowKit

def readIds : List (List UInt8) → Option (List (Nat × Int))
  | [] => some []
  | t :: r => match idRead t, readIds r with
    | some x, some ids => some ((x.1, (x.2 : Int)) :: ids)
    | _, _ => none
abbrev RcpD := List UInt8 × Int × Nat × List (Nat × Int)
def rcpRead (t : List UInt8) : RcpD × (Int × Int) :=
  match cutBy 32 t with
  | nm :: ln :: pr :: r => match numOf ln 6, unhex8 pr, readIds r with
    | some n, some p, some ids => if recFault nm n ids = (0, -1) then ((nm, (n : Int), p, ids), (0, -1)) else (([], 0, 0, []), recFault nm n ids)
    | _, _, _ => (([], 0, 0, []), (1, -1))
  | _ => (([], 0, 0, []), (1, -1))
/- The two results, in blocks of their own, still empty. -/
structure ReadW (w W : World) : Prop where
  below : Below w.heap.size w W
  size : w.heap.size + 1 < W.heap.size
  r0 : W.cell? ⟨w.heap.size, 0, none⟩ = some (.string ⟨#[]⟩)
  r1 : W.cell? ⟨w.heap.size, 1, none⟩ = some (.int .i64 0)
  r2 : W.cell? ⟨w.heap.size, 2, none⟩ = some (.int .u32 0)
  r3 : W.cell? ⟨w.heap.size, 3, none⟩ = some (.slice none 0 0)
  k0 : W.cell? ⟨w.heap.size + 1, 0, none⟩ = some (.int .i64 0)
  k1 : W.cell? ⟨w.heap.size + 1, 1, none⟩ = some (.int .i64 0)
  g : ∀ i, W.frozen? ⟨w.heap.size, i, none⟩ = false
  f : ∀ i, W.frozen? ⟨w.heap.size + 1, i, none⟩ = false
theorem ReadW.new (w : World) (t t' : TypeId) : ReadW w ((w.alloc (.cells #[.string ⟨#[]⟩, .int .i64 0, .int .u32 0, .slice none 0 0] t)).alloc (.cells #[.int .i64 0, .int .i64 0] t')) where
  below := ((Below.refl _ w).alloc (Nat.le_refl _) _).alloc (by simp) _
  size := by simp
  r0 := by rw [World.cell?_alloc_lt _ _ ⟨w.heap.size, 0, none⟩ (by simp)]; simp
  r1 := by rw [World.cell?_alloc_lt _ _ ⟨w.heap.size, 1, none⟩ (by simp)]; simp
  r2 := by rw [World.cell?_alloc_lt _ _ ⟨w.heap.size, 2, none⟩ (by simp)]; simp
  r3 := by rw [World.cell?_alloc_lt _ _ ⟨w.heap.size, 3, none⟩ (by simp)]; simp
  k0 := by simp
  k1 := by simp
  g := fun i => by rw [frozen_alloc_lt' _ _ (by simp)]; exact new_frozen w _ _ rfl
  f := fun i => new_frozen _ _ _ (by simp)
theorem ReadW.next {w W W' : World} (h : ReadW w W) (hb : Below W.heap.size W W') : ReadW w W' := by
  have hs := h.size
  have hs' := hb.size
  exact ⟨h.below.trans (hb.mono h.below.size), by omega, (hb.cell (p := ⟨_, 0, none⟩) (by simp; omega)).trans h.r0, (hb.cell (p := ⟨_, 1, none⟩) (by simp; omega)).trans h.r1, (hb.cell (p := ⟨_, 2, none⟩) (by simp; omega)).trans h.r2, (hb.cell (p := ⟨_, 3, none⟩) (by simp; omega)).trans h.r3,
    (hb.cell (p := ⟨_, 0, none⟩) (by simp; omega)).trans h.k0, (hb.cell (p := ⟨_, 1, none⟩) (by simp; omega)).trans h.k1, fun i => (hb.frozen (p := ⟨_, i, none⟩) (by simp; omega)).trans (h.g i), fun i => (hb.frozen (p := ⟨_, i, none⟩) (by simp; omega)).trans (h.f i)⟩

/- A refusal: both results stored. -/
def readPost (s : ByteArray) (w : World) (e : Ending) (w' : World) : Prop := ∃ v, e = .returned (.tuple #[rcpV ⟨(rcpRead s.data.toList).1.1.toArray⟩ (rcpRead s.data.toList).1.2.1 ((rcpRead s.data.toList).1.2.2.1 : Nat) v, faultV (rcpRead s.data.toList).2.1 (rcpRead s.data.toList).2.2]) ∧ IdsIn w.heap.size w' v (rcpRead s.data.toList).1.2.2.2 ∧ Below w.heap.size w w'
abbrev stored (W : World) (h : Nat) (c a : Int) : World := (((((W.setCell ⟨h, 0, none⟩ (.string ⟨#[]⟩)).setCell ⟨h, 1, none⟩ (.int .i64 0)).setCell ⟨h, 2, none⟩ (.int .u32 0)).setCell ⟨h, 3, none⟩ (.slice none 0 0)).setCell ⟨h + 1, 0, none⟩ (.int .i64 c)).setCell ⟨h + 1, 1, none⟩ (.int .i64 a)
theorem readPost.drew {s : ByteArray} {w w' : World} {e : Ending} (h : readPost s w e w') : readPost s w e w'.drew := by
  obtain ⟨v, h1, h2, h3⟩ := h
  exact ⟨v, h1, h2.below (Below.refl _ _).drew, h3.drew⟩
abbrev stored4 (W : World) (h : Nat) (a b c d : Value) (x y : Int) : World := (((((W.setCell ⟨h, 0, none⟩ a).setCell ⟨h, 1, none⟩ b).setCell ⟨h, 2, none⟩ c).setCell ⟨h, 3, none⟩ d).setCell ⟨h + 1, 0, none⟩ (.int .i64 x)).setCell ⟨h + 1, 1, none⟩ (.int .i64 y)
end Go.Proofs.YtcbcjefefmbccabGreatDoor
namespace Go.Proofs.YtcbcjefefmbccabGreatDoor

theorem pieces_many : ∀ (l : List UInt8), l ≠ [] → 16 * ((pieces l).length - 1) + 1 ≤ l.length := by
  refine pieces_rec (fun h => (h rfl).elim) ?_
  intro l hl ih _
  have hp := first_pos l hl
  have hle := first_le l
  rw [pieces_ne l hl, List.length_cons, Nat.add_sub_cancel]
  by_cases hd : l.drop (first l) = []
  · rw [hd, pieces_nil]
    have := List.length_pos_iff.2 hl
    simp
    omega
  · have h16 := first_ge16 l (drop_ne_nil hd)
    have hlt := drop_ne_nil hd
    have := ih hd
    rw [List.length_drop] at this
    have hn : 1 ≤ (pieces (l.drop (first l))).length := by
      rcases Nat.eq_zero_or_pos (pieces (l.drop (first l))).length with h | h
      · exact (hd ((pieces_eq_nil _).1 (List.eq_nil_of_length_eq_zero h))).elim
      · exact h
    omega
theorem pieces_250 (l : List UInt8) (h : l.length ≤ 4000) : (pieces l).length ≤ 250 := by
  by_cases e : l = []
  · subst e; decide
  · have := pieces_many l e
    omega
theorem idsOf_length (l : List UInt8) : (idsOf l).length = (pieces l).length := List.length_map _
theorem idsOf_at (l : List UInt8) (i : Nat) (h : i < (idsOf l).length) : (idsOf l)[i] = idOfL ((pieces l)[i]'(by rw [← idsOf_length]; exact h)) := by
  simp only [idsOf, List.getElem_map]
  rfl
theorem lenSum_pieces : ∀ (ps : List (List UInt8)), lenSum (ps.map fun p => (pmore 2166136261 p, (p.length : Int))) = (ps.flatten.length : Int)
  | [] => rfl
  | p :: r => by
    have ih := lenSum_pieces r
    simp only [lenSum, List.map_cons, List.sum_cons, List.flatten_cons, List.length_append] at ih ⊢
    rw [ih]
    omega
theorem recFault_of (nm l : List UInt8) (hn : isName nm = true) (hl : l.length ≤ 4000) : recFault nm l.length (idsOf l) = (0, -1) := by
  refine recFault_fine hn (by omega) (by have := pieces_250 l hl; rw [idsOf_length]; omega) (firstBad_none _ _ fun j hj => ?_) ?_
  · have hj' : j < (pieces l).length := by rw [← idsOf_length]; exact hj
    have := pieces_at l j hj'
    rw [idsOf_at]
    unfold idOk idOfL
    exact decide_eq_true ⟨by show (1 : Int) ≤ ((pieces l)[j].length : Int); omega, by show ((pieces l)[j].length : Int) ≤ 64; omega⟩
  · rw [idsOf, lenSum_pieces, pieces_flatten]
theorem lesser_mem (m y : Nat × Int) : lesser m y = m ∨ lesser m y = y := by
  unfold lesser
  split
  · exact .inr rfl
  · exact .inl rfl
theorem fold_mem : ∀ (r : List (Nat × Int)) (m : Nat × Int), r.foldl lesser m = m ∨ r.foldl lesser m ∈ r
  | [], _ => .inl rfl
  | y :: r, m => by
    rcases fold_mem r (lesser m y) with h | h
    · rcases lesser_mem m y with e | e
      · exact .inl (h.trans e)
      · exact .inr (by rw [List.foldl_cons, h, e]; simp)
    · exact .inr (List.mem_cons.2 (.inr h))
theorem repOf_mem (ids : List (Nat × Int)) (h : ids ≠ []) : repOf ids ∈ ids := by
  cases ids with
  | nil => exact (h rfl).elim
  | cons x r =>
    rcases fold_mem r x with e | e
    · exact List.mem_cons.2 (.inl e)
    · exact List.mem_cons.2 (.inr e)
end Go.Proofs.YtcbcjefefmbccabGreatDoor
namespace Go.Proofs.YtcbcjefefmbccabGreatDoor
open Go.RowKit

end Go.Proofs.YtcbcjefefmbccabGreatDoor
namespace Go.Proofs.YtcbcjefefmbccabGreatDoor
open Go.RowKit

abbrev rcpDV (d : RcpD) (v : Value) : Value := rcpV ⟨d.1.toArray⟩ d.2.1 (d.2.2.1 : Nat) v
def ofR (nm l : List UInt8) : RcpD × Int := if isName nm = false then (([], 0, 0, []), 4) else if 4000 < l.length then (([], 0, 0, []), 2) else ((nm, (l.length : Int), pmore 2166136261 l, idsOf l), 0)
def textR (nm : List UInt8) (len : Int) (p : Nat) (ids : List (Nat × Int)) : List UInt8 := if recFault nm len ids = (0, -1) then rcpText nm len p ids else []
structure RecSpec (a : Nat → Addr) (Env : World → Prop) : Prop where
  stable : ∀ {w w' : World}, Env w → Below w.heap.size w w' → Env w'
  err : ∀ {w : World}, Env w → ErrW w a
  name : ∀ (s : ByteArray) (w : World), s.size ≤ 50000 → Env w → Calls Tryz.prog 130 #[.string s] w fun e w' => e = .returned (.bool (isName s.data.toList)) ∧ Below w.heap.size w w'
  of' : ∀ (nm s : ByteArray) (w : World), nm.size ≤ 50000 → s.size ≤ 50000 → Env w → Calls Tryz.prog 72 #[.string nm, .string s] w fun e w' => ∃ v ev, e = .returned (.tuple #[rcpDV (ofR nm.data.toList s.data.toList).1 v, ev]) ∧ IdsIn w.heap.size w' v (ofR nm.data.toList s.data.toList).1.2.2.2 ∧ ErrIn w.heap.size w' a ev ((ofR nm.data.toList s.data.toList).2, -1) ∧ Below w.heap.size w w'
  check : ∀ (nm : ByteArray) (len : Int) (p : Nat) (v : Value) (ids : List (Nat × Int)) (w : World), nm.size ≤ 50000 → ids.length ≤ 50000 → Env w → IdsAt w v ids → Calls Tryz.prog 123 #[rcpV nm len (p : Nat) v] w fun e w' => ∃ ev, e = .returned ev ∧ ErrIn w.heap.size w' a ev (recFault nm.data.toList len ids) ∧ Below w.heap.size w w'
  rep : ∀ (nm : ByteArray) (len : Int) (p : Nat) (v : Value) (ids : List (Nat × Int)) (w : World), ids.length ≤ 50000 → Env w → IdsAt w v ids → Calls Tryz.prog 73 #[rcpV nm len (p : Nat) v] w fun e w' => e = .returned (idV ((repOf ids).1 : Nat) (repOf ids).2) ∧ Below w.heap.size w w'
  text : ∀ (nm : ByteArray) (len : Int) (p : Nat) (v : Value) (ids : List (Nat × Int)) (w : World), nm.size ≤ 50000 → ids.length ≤ 50000 → p < 4294967296 → (∀ j (hj : j < ids.length), ids[j].1 < 4294967296) → Env w → IdsAt w v ids → Calls Tryz.prog 148 #[rcpV nm len (p : Nat) v] w fun e w' => ∃ ev, e = .returned (.tuple #[.string ⟨(textR nm.data.toList len p ids).toArray⟩, ev]) ∧ ErrIn w.heap.size w' a ev (recFault nm.data.toList len ids) ∧ Below w.heap.size w w'
  read : ∀ (t : ByteArray) (w : World), t.size ≤ 40000 → (rcpRead t.data.toList).2 = (0, -1) → Env w → Calls Tryz.prog 210 #[.string t] w fun e w' => ∃ v ev, e = .returned (.tuple #[rcpDV (rcpRead t.data.toList).1 v, ev]) ∧ IdsIn w.heap.size w' v (rcpRead t.data.toList).1.2.2.2 ∧ ErrIn w.heap.size w' a ev (rcpRead t.data.toList).2 ∧ Below w.heap.size w w'
  join : ∀ (nm : ByteArray) (len : Int) (p : Nat) (v vl : Value) (ids : List (Nat × Int)) (ls : List (List UInt8)) (w : World), nm.size ≤ 50000 → ids.length ≤ 50000 → ls.length ≤ 50000 → (∀ i (h : i < ls.length), ls[i].length ≤ 100) → Env w → IdsAt w v ids → CellsAt w vl (ls.map txtV) → Calls Tryz.prog 97 #[rcpV nm len (p : Nat) v, vl] w fun e w' => ∃ ev, e = .returned (.tuple #[.string ⟨(joinOf nm.data.toList len p ids ls).1.toArray⟩, ev]) ∧ ErrIn w.heap.size w' a ev (joinOf nm.data.toList len p ids ls).2 ∧ Below w.heap.size w w'

end Go.Proofs.YtcbcjefefmbccabGreatDoor
