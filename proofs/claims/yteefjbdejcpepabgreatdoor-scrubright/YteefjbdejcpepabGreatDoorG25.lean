/-
  Own text. A recipe out of a text, pure, and the document's ReadRecipe by a contract.
  Own text. Recipes, pure: a text's recipe has no fault; what is joined of it and its pieces is the text, with another piece none; it is read as it was written; its rep is one of its IDs, and none is less.
  Own text. The document's SameIDs and SameRecipe of two that hold the same, by contracts: true; no old memory turns.
  Own text. What the program's package recipe is to answer, as contracts (RecSpec), over what the world holds (Env); blocks that are followed through calls (Blk); the document's RecipeOf in one word.
-/
import Derived.Test.YteefjbdejcpepabGreatDoorG24
import Derived.Test.YteefjbdejcpepabGreatDoorG04
import Derived.Test.YteefjbdejcpepabGreatDoorG03
import Derived.Deep.QuietTactic
import Derived.BigQuiet
import Derived.Test.YteefjbdejcpepabGreatDoorG23
import Derived.Test.YteefjbdejcpepabGreatDoorG11
namespace Go.Proofs.YteefjbdejcpepabGreatDoor
open Go.RowKit

def readIds : List (List UInt8) → Option (List (Nat × Int))
  | [] => some []
  | t :: r => match idRead t, readIds r with
    | some x, some ids => some ((x.1, (x.2 : Int)) :: ids)
    | _, _ => none
abbrev RcpD := List UInt8 × Int × Nat × List (Nat × Int)
def rcpRead (t : List UInt8) : RcpD × (Int × Int) :=
  match cutBy 32 t with
  | nm :: ln :: pr :: r => match numOf ln 6, unhex8 pr, readIds r with
    | some n, some p, some ids => if recFault nm n ids = (0, -1) then ((nm, (n : Int), p, ids), (0, -1)) else (([], 0, 0, []), recFault nm n ids)
    | _, _, _ => (([], 0, 0, []), (1, -1))
  | _ => (([], 0, 0, []), (1, -1))
theorem readIds_snoc : ∀ (l : List (List UInt8)) (t : List UInt8) (ids : List (Nat × Int)) (x : Nat × Nat), readIds l = some ids → idRead t = some x → readIds (l ++ [t]) = some (ids ++ [(x.1, (x.2 : Int))])
  | [], t, ids, x, h, hx => by
    cases h
    simp [readIds, hx]
  | u :: r, t, ids, x, h, hx => by
    rw [readIds] at h
    rw [List.cons_append, readIds]
    split at h
    · rename_i y js hy hj
      cases h
      rw [hy, readIds_snoc r t js x hj hx]
      rfl
    · cases h
theorem readIds_none : ∀ (l : List (List UInt8)) (k : Nat) (h : k < l.length), idRead l[k] = none → readIds l = none
  | u :: r, 0, _, hx => by
    have hx' : idRead u = none := hx
    rw [readIds, hx']
  | u :: r, k + 1, h, hx => by
    rw [readIds, readIds_none r k (by simpa using h) (by simpa using hx)]
    cases idRead u <;> rfl
theorem cutBy_len (c : UInt8) : ∀ (l : List UInt8), (cutBy c l).length ≤ l.length + 1 ∧ ∀ p ∈ cutBy c l, p.length ≤ l.length
  | [] => by simp [cutBy]
  | x :: l => by
    have ih := cutBy_len c l
    rw [cutBy]
    split
    · refine ⟨by simp; exact ih.1, fun p hp => ?_⟩
      rcases List.mem_cons.1 hp with rfl | hp
      · simp
      · exact Nat.le_trans (ih.2 p hp) (by simp)
    · split
      · rename_i p r he
        rw [he] at ih
        refine ⟨by simp at ih ⊢; omega, fun q hq => ?_⟩
        rcases List.mem_cons.1 hq with rfl | hq
        · have := ih.2 p (by simp)
          simp
          omega
        · exact Nat.le_trans (ih.2 q (by simp [hq])) (by simp)
      · exact ⟨by simp, fun q hq => by simp at hq; subst hq; simp⟩
theorem rcpRead_short (t : List UInt8) (h : (cutBy 32 t).length < 3) : rcpRead t = (([], 0, 0, []), (1, -1)) := by
  unfold rcpRead
  split
  · rename_i e
    rw [e] at h
    simp at h
    omega
  · rfl

theorem rcpRead_parts {t nm ln pr : List UInt8} {rs : List (List UInt8)} (h : cutBy 32 t = nm :: ln :: pr :: rs) : rcpRead t = match numOf ln 6, unhex8 pr, readIds rs with
    | some n, some p, some ids => if recFault nm n ids = (0, -1) then ((nm, (n : Int), p, ids), (0, -1)) else (([], 0, 0, []), recFault nm n ids)
    | _, _, _ => (([], 0, 0, []), (1, -1)) := by
  unfold rcpRead
  rw [h]
theorem rcpRead_num {t nm ln pr : List UInt8} {rs : List (List UInt8)} (h : cutBy 32 t = nm :: ln :: pr :: rs) (hn : numOf ln 6 = none) : rcpRead t = (([], 0, 0, []), (1, -1)) := by
  rw [rcpRead_parts h, hn]
theorem rcpRead_hex {t nm ln pr : List UInt8} {rs : List (List UInt8)} (h : cutBy 32 t = nm :: ln :: pr :: rs) {n : Nat} (hn : numOf ln 6 = some n) (hu : unhex8 pr = none) : rcpRead t = (([], 0, 0, []), (1, -1)) := by
  rw [rcpRead_parts h, hn, hu]
theorem rcpRead_ids {t nm ln pr : List UInt8} {rs : List (List UInt8)} (h : cutBy 32 t = nm :: ln :: pr :: rs) {n p : Nat} (hn : numOf ln 6 = some n) (hu : unhex8 pr = some p) (hi : readIds rs = none) : rcpRead t = (([], 0, 0, []), (1, -1)) := by
  rw [rcpRead_parts h, hn, hu, hi]
theorem rcpRead_all {t nm ln pr : List UInt8} {rs : List (List UInt8)} (h : cutBy 32 t = nm :: ln :: pr :: rs) {n p : Nat} (hn : numOf ln 6 = some n) (hu : unhex8 pr = some p) {ids : List (Nat × Int)} (hi : readIds rs = some ids) : rcpRead t = if recFault nm n ids = (0, -1) then ((nm, (n : Int), p, ids), (0, -1)) else (([], 0, 0, []), recFault nm n ids) := by
  rw [rcpRead_parts h, hn, hu, hi]
/- The two results, in blocks of their own, still empty. -/
structure ReadW (w W : World) : Prop where
  below : Below w.heap.size w W
  size : w.heap.size + 1 < W.heap.size
  r0 : W.cell? ⟨w.heap.size, 0, none⟩ = some (.string ⟨#[]⟩)
  r1 : W.cell? ⟨w.heap.size, 1, none⟩ = some (.int .i64 0)
  r2 : W.cell? ⟨w.heap.size, 2, none⟩ = some (.int .u32 0)
  r3 : W.cell? ⟨w.heap.size, 3, none⟩ = some (.slice none 0 0)
  k0 : W.cell? ⟨w.heap.size + 1, 0, none⟩ = some (.int .i64 0)
  k1 : W.cell? ⟨w.heap.size + 1, 1, none⟩ = some (.int .i64 0)
  g : ∀ i, W.frozen? ⟨w.heap.size, i, none⟩ = false
  f : ∀ i, W.frozen? ⟨w.heap.size + 1, i, none⟩ = false
theorem ReadW.new (w : World) (t t' : TypeId) : ReadW w ((w.alloc (.cells #[.string ⟨#[]⟩, .int .i64 0, .int .u32 0, .slice none 0 0] t)).alloc (.cells #[.int .i64 0, .int .i64 0] t')) where
  below := ((Below.refl _ w).alloc (Nat.le_refl _) _).alloc (by simp) _
  size := by simp
  r0 := by rw [World.cell?_alloc_lt _ _ ⟨w.heap.size, 0, none⟩ (by simp)]; simp
  r1 := by rw [World.cell?_alloc_lt _ _ ⟨w.heap.size, 1, none⟩ (by simp)]; simp
  r2 := by rw [World.cell?_alloc_lt _ _ ⟨w.heap.size, 2, none⟩ (by simp)]; simp
  r3 := by rw [World.cell?_alloc_lt _ _ ⟨w.heap.size, 3, none⟩ (by simp)]; simp
  k0 := by simp
  k1 := by simp
  g := fun i => by rw [frozen_alloc_lt' _ _ (by simp)]; exact new_frozen w _ _ rfl
  f := fun i => new_frozen _ _ _ (by simp)
theorem ReadW.next {w W W' : World} (h : ReadW w W) (hb : Below W.heap.size W W') : ReadW w W' := by
  have hs := h.size
  have hs' := hb.size
  exact ⟨h.below.trans (hb.mono h.below.size), by omega, (hb.cell (p := ⟨_, 0, none⟩) (by simp; omega)).trans h.r0, (hb.cell (p := ⟨_, 1, none⟩) (by simp; omega)).trans h.r1, (hb.cell (p := ⟨_, 2, none⟩) (by simp; omega)).trans h.r2, (hb.cell (p := ⟨_, 3, none⟩) (by simp; omega)).trans h.r3,
    (hb.cell (p := ⟨_, 0, none⟩) (by simp; omega)).trans h.k0, (hb.cell (p := ⟨_, 1, none⟩) (by simp; omega)).trans h.k1, fun i => (hb.frozen (p := ⟨_, i, none⟩) (by simp; omega)).trans (h.g i), fun i => (hb.frozen (p := ⟨_, i, none⟩) (by simp; omega)).trans (h.f i)⟩

/- A refusal: both results stored. -/
def readPost (s : ByteArray) (w : World) (e : Ending) (w' : World) : Prop := ∃ v, e = .returned (.tuple #[rcpV ⟨(rcpRead s.data.toList).1.1.toArray⟩ (rcpRead s.data.toList).1.2.1 ((rcpRead s.data.toList).1.2.2.1 : Nat) v, faultV (rcpRead s.data.toList).2.1 (rcpRead s.data.toList).2.2]) ∧ IdsIn w.heap.size w' v (rcpRead s.data.toList).1.2.2.2 ∧ Below w.heap.size w w'
abbrev stored (W : World) (h : Nat) (c a : Int) : World := (((((W.setCell ⟨h, 0, none⟩ (.string ⟨#[]⟩)).setCell ⟨h, 1, none⟩ (.int .i64 0)).setCell ⟨h, 2, none⟩ (.int .u32 0)).setCell ⟨h, 3, none⟩ (.slice none 0 0)).setCell ⟨h + 1, 0, none⟩ (.int .i64 c)).setCell ⟨h + 1, 1, none⟩ (.int .i64 a)
theorem readBad {s : ByteArray} {w W : World} {c a : Int} (h : ReadW w W) (hr : rcpRead s.data.toList = (([], 0, 0, []), (c, a))) : readPost s w (.returned (.tuple #[rcpV ⟨#[]⟩ 0 0 (.slice none 0 0), faultV c a])) (stored W w.heap.size c a) := by
  refine ⟨.slice none 0 0, by rw [hr]; rfl, by rw [hr]; exact IdsIn.nil _ _, ?_⟩
  exact (((((h.below.setCell (p := ⟨w.heap.size, 0, none⟩) (Nat.le_refl _) _).setCell (p := ⟨w.heap.size, 1, none⟩) (Nat.le_refl _) _).setCell (p := ⟨w.heap.size, 2, none⟩) (Nat.le_refl _) _).setCell (p := ⟨w.heap.size, 3, none⟩) (Nat.le_refl _) _).setCell (p := ⟨w.heap.size + 1, 0, none⟩) (by simp) _).setCell (p := ⟨w.heap.size + 1, 1, none⟩) (by simp) _

theorem readPost.drew {s : ByteArray} {w w' : World} {e : Ending} (h : readPost s w e w') : readPost s w e w'.drew := by
  obtain ⟨v, h1, h2, h3⟩ := h
  exact ⟨v, h1, h2.below (Below.refl _ _).drew, h3.drew⟩
abbrev stored4 (W : World) (h : Nat) (a b c d : Value) (x y : Int) : World := (((((W.setCell ⟨h, 0, none⟩ a).setCell ⟨h, 1, none⟩ b).setCell ⟨h, 2, none⟩ c).setCell ⟨h, 3, none⟩ d).setCell ⟨h + 1, 0, none⟩ (.int .i64 x)).setCell ⟨h + 1, 1, none⟩ (.int .i64 y)
theorem readGood {s : ByteArray} {w W : World} {nm : ByteArray} {n : Int} {p : Nat} {ids : List (Nat × Int)} {v : Value} {base : Nat} {e : TypeId} (h : ReadW w W) (hb : w.heap.size + 1 < base) (ho : W.ownsRow base e 2 v ids.length (idCells ids)) (hr : rcpRead s.data.toList = ((nm.data.toList, n, p, ids), (0, -1))) :
    readPost s w (.returned (.tuple #[rcpV nm n (p : Nat) v, faultV 0 (-1)])) (stored4 W w.heap.size (.string nm) (.int .i64 n) (.int .u32 (p : Nat)) v 0 (-1)) := by
  refine ⟨v, ?_, ?_, ?_⟩
  · rw [hr, show (⟨nm.data.toList.toArray⟩ : ByteArray) = nm from (bytes_eq rfl).symm]
  · rw [hr]
    refine (IdsIn.of_row (base := base) (e := e) ?_).low (by omega)
    have h0 : w.heap.size < base := by omega
    exact ownsRow_setCell_below (ownsRow_setCell_below (ownsRow_setCell_below (ownsRow_setCell_below (ownsRow_setCell_below (ownsRow_setCell_below ho (a := ⟨w.heap.size, 0, none⟩) h0 _) (a := ⟨w.heap.size, 1, none⟩) h0 _) (a := ⟨w.heap.size, 2, none⟩) h0 _) (a := ⟨w.heap.size, 3, none⟩) h0 _) (a := ⟨w.heap.size + 1, 0, none⟩) hb _) (a := ⟨w.heap.size + 1, 1, none⟩) hb _
  · exact (((((h.below.setCell (p := ⟨w.heap.size, 0, none⟩) (Nat.le_refl _) _).setCell (p := ⟨w.heap.size, 1, none⟩) (Nat.le_refl _) _).setCell (p := ⟨w.heap.size, 2, none⟩) (Nat.le_refl _) _).setCell (p := ⟨w.heap.size, 3, none⟩) (Nat.le_refl _) _).setCell (p := ⟨w.heap.size + 1, 0, none⟩) (by simp) _).setCell (p := ⟨w.heap.size + 1, 1, none⟩) (by simp) _

end Go.Proofs.YteefjbdejcpepabGreatDoor
namespace Go.Proofs.YteefjbdejcpepabGreatDoor

theorem pieces_many : ∀ (l : List UInt8), l ≠ [] → 16 * ((pieces l).length - 1) + 1 ≤ l.length := by
  refine pieces_rec (fun h => (h rfl).elim) ?_
  intro l hl ih _
  have hp := first_pos l hl
  have hle := first_le l
  rw [pieces_ne l hl, List.length_cons, Nat.add_sub_cancel]
  by_cases hd : l.drop (first l) = []
  · rw [hd, pieces_nil]
    have := List.length_pos_iff.2 hl
    simp
    omega
  · have h16 := first_ge16 l (drop_ne_nil hd)
    have hlt := drop_ne_nil hd
    have := ih hd
    rw [List.length_drop] at this
    have hn : 1 ≤ (pieces (l.drop (first l))).length := by
      rcases Nat.eq_zero_or_pos (pieces (l.drop (first l))).length with h | h
      · exact (hd ((pieces_eq_nil _).1 (List.eq_nil_of_length_eq_zero h))).elim
      · exact h
    omega
theorem pieces_250 (l : List UInt8) (h : l.length ≤ 4000) : (pieces l).length ≤ 250 := by
  by_cases e : l = []
  · subst e; decide
  · have := pieces_many l e
    omega
theorem idsOf_length (l : List UInt8) : (idsOf l).length = (pieces l).length := List.length_map _
theorem idsOf_at (l : List UInt8) (i : Nat) (h : i < (idsOf l).length) : (idsOf l)[i] = idOfL ((pieces l)[i]'(by rw [← idsOf_length]; exact h)) := by
  simp only [idsOf, List.getElem_map]
  rfl
theorem lenSum_pieces : ∀ (ps : List (List UInt8)), lenSum (ps.map fun p => (pmore 2166136261 p, (p.length : Int))) = (ps.flatten.length : Int)
  | [] => rfl
  | p :: r => by
    have ih := lenSum_pieces r
    simp only [lenSum, List.map_cons, List.sum_cons, List.flatten_cons, List.length_append] at ih ⊢
    rw [ih]
    omega
theorem recFault_of (nm l : List UInt8) (hn : isName nm = true) (hl : l.length ≤ 4000) : recFault nm l.length (idsOf l) = (0, -1) := by
  refine recFault_fine hn (by omega) (by have := pieces_250 l hl; rw [idsOf_length]; omega) (firstBad_none _ _ fun j hj => ?_) ?_
  · have hj' : j < (pieces l).length := by rw [← idsOf_length]; exact hj
    have := pieces_at l j hj'
    rw [idsOf_at]
    unfold idOk idOfL
    exact decide_eq_true ⟨by show (1 : Int) ≤ ((pieces l)[j].length : Int); omega, by show ((pieces l)[j].length : Int) ≤ 64; omega⟩
  · rw [idsOf, lenSum_pieces, pieces_flatten]
theorem joinOf_pieces (nm l : List UInt8) (hn : isName nm = true) (hl : l.length ≤ 4000) : joinOf nm l.length (pmore 2166136261 l) (idsOf l) (pieces l) = (l, (0, -1)) := by
  unfold joinOf
  rw [if_neg (by rw [recFault_of nm l hn hl]; simp), if_neg (by rw [idsOf_length]; simp), firstOdd_none (pieces l) (idsOf l) 0 (fun j hj hj' => (idsOf_at l j hj').symm), pieces_flatten]
  simp
theorem joinOf_other (nm l p : List UInt8) (hn : isName nm = true) (hl : l.length ≤ 4000) (k : Nat) (hk : k < (pieces l).length) (hp : idOfL p ≠ idOfL (pieces l)[k]) : joinOf nm l.length (pmore 2166136261 l) (idsOf l) ((pieces l).set k p) = ([], (9, (k : Int))) := by
  have hf : firstOdd 0 ((pieces l).set k p) (idsOf l) = some k := by
    have := firstOdd_at ((pieces l).set k p) (idsOf l) 0 k (by rw [List.length_set]; exact hk) (by rw [idsOf_length]; exact hk) (fun j hj hj' h => ?_) ?_
    · rwa [Nat.zero_add] at this
    · rw [List.getElem_set_ne (by omega), idsOf_at]
    · rw [List.getElem_set_self, idsOf_at]
      exact hp
  unfold joinOf
  rw [if_neg (by rw [recFault_of nm l hn hl]; simp), if_neg (by rw [idsOf_length, List.length_set]; simp), hf]

theorem undec_no (c : UInt8) (hc : undec1 c = none) : ∀ (q : List UInt8) (n v : Nat), undec n q = some v → c ∉ q
  | [], _, _, _ => by simp
  | x :: q, n, v, h => by
    rw [undec] at h
    split at h
    · rename_i d hd
      have ih := undec_no c hc q _ _ h
      intro hm
      rcases List.mem_cons.1 hm with e | hm
      · rw [← e, hc] at hd
        cases hd
      · exact ih hm
    · cases h
theorem unhex_no (c : UInt8) (hc : unhex1 c = none) : ∀ (q : List UInt8) (n v : Nat), unhex n q = some v → c ∉ q
  | [], _, _, _ => by simp
  | x :: q, n, v, h => by
    rw [unhex] at h
    split at h
    · rename_i d hd
      have ih := unhex_no c hc q _ _ h
      intro hm
      rcases List.mem_cons.1 hm with e | hm
      · rw [← e, hc] at hd
        cases hd
      · exact ih hm
    · cases h
theorem blank_dec (u : Nat) : (32 : UInt8) ∉ Lib.decDigits u := undec_no 32 (by decide) _ 0 u (undec_decDigits u)
theorem pow16 : (16 : Nat) ^ 8 = 4294967296 := by decide
theorem unhex_hex (n : Nat) (h : n < 4294967296) : unhex 0 (hexLast n 8) = some n := by
  rw [unhex_hexLast 0 n 8 (by rw [pow16]; exact h), Nat.zero_mul, Nat.zero_add]
theorem blank_hex (n : Nat) (h : n < 4294967296) : (32 : UInt8) ∉ hexLast n 8 := unhex_no 32 (by decide) _ 0 n (unhex_hex n h)
theorem blank_id (n l : Nat) (h : n < 4294967296) : (32 : UInt8) ∉ idText n l := by
  intro hm
  rcases List.mem_append.1 hm with hm | hm
  · exact blank_hex n h hm
  · rcases List.mem_cons.1 hm with e | hm
    · exact absurd e (by decide)
    · exact blank_dec l hm
theorem blank_name (nm : List UInt8) (h : isName nm = true) : (32 : UInt8) ∉ nm := by
  intro hm
  unfold isName at h
  rw [Bool.and_eq_true] at h
  have := List.all_eq_true.1 h.1 32 hm
  exact absurd this (by decide)
theorem cut_ids : ∀ (ids : List (Nat × Int)) (X : List UInt8), (32 : UInt8) ∉ X → (∀ x ∈ ids, x.1 < 4294967296) → cutBy 32 (X ++ idsText ids) = X :: ids.map fun x => idText x.1 x.2.toNat
  | [], X, hX, _ => by
    rw [show idsText [] = [] from rfl, List.append_nil, cutBy_noc _ _ hX]
    rfl
  | x :: r, X, hX, h => by
    rw [show idsText (x :: r) = 32 :: (idText x.1 x.2.toNat ++ idsText r) from rfl, cutBy_split _ _ _ hX, cut_ids r _ (blank_id _ _ (h x (by simp))) (fun y hy => h y (by simp [hy]))]
    rfl
theorem read_ids : ∀ (ids : List (Nat × Int)), (∀ x ∈ ids, x.1 < 4294967296) → (∀ x ∈ ids, idOk x = true) → readIds (ids.map fun x => idText x.1 x.2.toNat) = some ids
  | [], _, _ => rfl
  | x :: r, h, ho => by
    have h0 := ho x (by simp)
    simp only [idOk, decide_eq_true_eq] at h0
    have e := idRead_idText x.1 x.2.toNat (h x (by simp)) (by omega)
    rw [List.map_cons, readIds, e, read_ids r (fun y hy => h y (by simp [hy])) (fun y hy => ho y (by simp [hy]))]
    simp only [Option.some.injEq, List.cons.injEq, and_true]
    apply Prod.ext
    · rfl
    · simp only
      omega
theorem firstBad_all : ∀ (ids : List (Nat × Int)) (i : Nat), firstBad i ids = none → ∀ x ∈ ids, idOk x = true
  | [], _, _, x, hx => by simp at hx
  | y :: r, i, h, x, hx => by
    rw [firstBad] at h
    split at h
    · rename_i hy
      rcases List.mem_cons.1 hx with e | hx
      · rw [e]; exact hy
      · exact firstBad_all r (i + 1) h x hx
    · cases h
theorem rcpRead_text (nm : List UInt8) (len : Int) (p : Nat) (ids : List (Nat × Int)) (hf : recFault nm len ids = (0, -1)) (hp : p < 4294967296) (h32 : ∀ x ∈ ids, x.1 < 4294967296) : rcpRead (rcpText nm len p ids) = ((nm, len, p, ids), (0, -1)) := by
  obtain ⟨h1, ⟨h2, h2'⟩, _, h4, _⟩ := recFault_zero hf
  have hcut : cutBy 32 (rcpText nm len p ids) = nm :: Lib.decDigits len.toNat :: hexLast p 8 :: ids.map fun x => idText x.1 x.2.toNat := by
    have e : rcpText nm len p ids = nm ++ 32 :: (Lib.decDigits len.toNat ++ 32 :: (hexLast p 8 ++ idsText ids)) := by
      simp [rcpText]
    rw [e, cutBy_split _ _ _ (blank_name nm h1), cutBy_split _ _ _ (blank_dec _), cut_ids ids _ (blank_hex p hp) h32]
  have hlen : ((len.toNat : Nat) : Int) = len := Int.toNat_of_nonneg h2
  have h6 : (10 : Nat) ^ 6 = 1000000 := by decide
  have hn : numOf (Lib.decDigits len.toNat) 6 = some len.toNat := numOf_decDigits len.toNat 6 (by decide) (by rw [h6]; omega)
  have hu : unhex8 (hexLast p 8) = some p := by rw [unhex8, if_pos (hexLast_length p 8), unhex_hex p hp]
  have hr := read_ids ids h32 (firstBad_all ids 0 h4)
  rw [rcpRead_all hcut hn hu hr, hlen, if_pos hf]

theorem lesser_mem (m y : Nat × Int) : lesser m y = m ∨ lesser m y = y := by
  unfold lesser
  split
  · exact .inr rfl
  · exact .inl rfl
theorem lesser_least (m y x : Nat × Int) (h : lessB x m = false) : lessB x (lesser m y) = false := by
  unfold lesser
  split
  · rename_i hy
    have h1 : ¬ lessB x m = true := by rw [h]; simp
    rw [lessB_iff] at h1 hy
    have h2 : ¬ lessB x y = true := by rw [lessB_iff]; omega
    simpa using h2
  · exact h
theorem lesser_self (m y : Nat × Int) : lessB y (lesser m y) = false := by
  unfold lesser
  split
  · have h2 : ¬ lessB y y = true := by rw [lessB_iff]; omega
    simpa using h2
  · rename_i h
    simpa using h
theorem fold_least : ∀ (r : List (Nat × Int)) (m x : Nat × Int), lessB x m = false → lessB x (r.foldl lesser m) = false
  | [], _, _, h => h
  | y :: r, m, x, h => fold_least r (lesser m y) x (lesser_least m y x h)
theorem fold_all : ∀ (r : List (Nat × Int)) (m x : Nat × Int), x ∈ r → lessB x (r.foldl lesser m) = false
  | y :: r, m, x, h => by
    rcases List.mem_cons.1 h with e | h
    · rw [e]
      exact fold_least r (lesser m y) y (lesser_self m y)
    · exact fold_all r (lesser m y) x h
theorem fold_mem : ∀ (r : List (Nat × Int)) (m : Nat × Int), r.foldl lesser m = m ∨ r.foldl lesser m ∈ r
  | [], _ => .inl rfl
  | y :: r, m => by
    rcases fold_mem r (lesser m y) with h | h
    · rcases lesser_mem m y with e | e
      · exact .inl (h.trans e)
      · exact .inr (by rw [List.foldl_cons, h, e]; simp)
    · exact .inr (List.mem_cons.2 (.inr h))
theorem repOf_mem (ids : List (Nat × Int)) (h : ids ≠ []) : repOf ids ∈ ids := by
  cases ids with
  | nil => exact (h rfl).elim
  | cons x r =>
    rcases fold_mem r x with e | e
    · exact List.mem_cons.2 (.inl e)
    · exact List.mem_cons.2 (.inr e)
theorem repOf_least (ids : List (Nat × Int)) (x : Nat × Int) (h : x ∈ ids) : lessB x (repOf ids) = false := by
  cases ids with
  | nil => simp at h
  | cons y r =>
    rcases List.mem_cons.1 h with e | h
    · rw [e]
      refine fold_least r y y ?_
      have h2 : ¬ lessB y y = true := by rw [lessB_iff]; omega
      simpa using h2
    · exact fold_all r y x h
end Go.Proofs.YteefjbdejcpepabGreatDoor
namespace Go.Proofs.YteefjbdejcpepabGreatDoor
open Go.RowKit

set_option maxRecDepth 100000 in
set_option maxHeartbeats 4000000 in
theorem sameIDs_true (va vb : Value) (ids : List (Nat × Int)) (w : World) (hn : (ids.length : Int) ≤ 9223372036854775807) (ha : IdsAt w va ids) (hb : IdsAt w vb ids) :
    Calls Tryz.prog 42 #[va, vb] w fun e w' => e = .returned (.bool true) ∧ Below w.heap.size w w' := by
  obtain ⟨pa, ca, rfl, ha⟩ := ha
  obtain ⟨pb, cb, rfl, hb⟩ := hb
  go_enter Tryz.func42, Tryz.ntmps42
  go_wp2_with fail
  go_loopw [5] (fun i wr => ∃ j m : Nat, j ≤ ids.length ∧ i = .int .i64 j ∧ wr = w.drewN m) (fun i _ => ids.length - (intOf i).toNat)
  case atStart => exact ⟨0, 0, Nat.zero_le _, rfl, rfl⟩
  case round =>
    obtain ⟨j, m, hj, rfl, rfl⟩ := hrel
    by_cases hlt : j < ids.length
    · obtain ⟨ba, oa, rfl, _, hca, hca'⟩ := ha j hlt
      obtain ⟨bb, ob, rfl, _, hcb, hcb'⟩ := hb j hlt
      have hlt' : (j : Int) < (ids.length : Int) := by omega
      obtain ⟨y, hy⟩ : ∃ y, ids[j] = y := ⟨_, rfl⟩
      rw [hy] at hca hca' hcb hcb'
      clear hy
      go_wp2_with fail
      go_quiet (fail)
      go_wp2_with fail
      go_roundw
      case rel => exact ⟨j + 1, _, by omega, by go_num, rfl⟩
      case measure => simp [intOf]; omega
    · have hge : (ids.length : Int) ≤ (j : Int) := by omega
      go_wp2_with fail
      go_ret
      exact ⟨rfl, ⟨rfl, rfl, rfl, Nat.le_refl _, fun _ _ => rfl⟩⟩

set_option maxRecDepth 100000 in
set_option maxHeartbeats 4000000 in
theorem sameRecipe_true (nm : ByteArray) (len p : Int) (va vb : Value) (ids : List (Nat × Int)) (w : World) (hn : (ids.length : Int) ≤ 9223372036854775807) (ha : IdsAt w va ids) (hb : IdsAt w vb ids) :
    Calls Tryz.prog 44 #[rcpV nm len p va, rcpV nm len p vb] w fun e w' => e = .returned (.bool true) ∧ Below w.heap.size w w' := by
  have HA : Hid (IdsAt w va ids) := ha
  have HB : Hid (IdsAt w vb ids) := hb
  have HN : Hid ((ids.length : Int) ≤ 9223372036854775807) := hn
  obtain ⟨pa, ca, rfl, _⟩ := ha
  obtain ⟨pb, cb, rfl, _⟩ := hb
  clear hn
  go_enter Tryz.func44, Tryz.ntmps44
  go_wp2_with fail
  have hbw : ∀ oo oo', Below w.heap.size w ((w.alloc oo).alloc oo') := fun oo oo' => ((Below.refl _ w).alloc (Nat.le_refl _) _).alloc (by simp) _
  refine (sameIDs_true _ _ ids _ HN.out (HA.out.below (hbw _ _)) (HB.out.below (hbw _ _))).mono ?_
  rintro e w2 ⟨rfl, hb2⟩
  go_wp2_with fail
  go_ret
  exact ⟨rfl, (hbw _ _).trans (hb2.mono (by simp; omega))⟩
end Go.Proofs.YteefjbdejcpepabGreatDoor
namespace Go.Proofs.YteefjbdejcpepabGreatDoor
open Go.RowKit

abbrev rcpDV (d : RcpD) (v : Value) : Value := rcpV ⟨d.1.toArray⟩ d.2.1 (d.2.2.1 : Nat) v
def ofR (nm l : List UInt8) : RcpD × Int := if isName nm = false then (([], 0, 0, []), 4) else if 4000 < l.length then (([], 0, 0, []), 2) else ((nm, (l.length : Int), pmore 2166136261 l, idsOf l), 0)
def textR (nm : List UInt8) (len : Int) (p : Nat) (ids : List (Nat × Int)) : List UInt8 := if recFault nm len ids = (0, -1) then rcpText nm len p ids else []
theorem refOf_any (nm s : ByteArray) (hnm : nm.size ≤ 50000) (hs : s.size ≤ 50000) (w : World) :
    Calls Tryz.prog 83 #[.string nm, .string s] w fun e w' => ∃ v, e = .returned (.tuple #[rcpDV (ofR nm.data.toList s.data.toList).1 v, .int .i64 (ofR nm.data.toList s.data.toList).2]) ∧ IdsIn w.heap.size w' v (ofR nm.data.toList s.data.toList).1.2.2.2 ∧ Below w.heap.size w w' := by
  have hm : nm.size ≤ maxLen := by unfold maxLen; omega
  have hsl : s.data.toList.length = s.size := by rw [Array.length_toList]; rfl
  by_cases h1 : isName nm.data.toList = true
  · by_cases h2 : 4000 < s.size
    · have e : ofR nm.data.toList s.data.toList = (([], 0, 0, []), 2) := by unfold ofR; rw [if_neg (by rw [h1]; simp), if_pos (by omega)]
      rw [e]
      exact (recipeOf_bound nm s hm h1 h2 w).mono fun e w' ⟨h, hb⟩ => ⟨.slice none 0 0, h, IdsIn.nil _ _, hb⟩
    · have e : ofR nm.data.toList s.data.toList = ((nm.data.toList, (s.size : Int), pmore 2166136261 s.data.toList, idsOf s.data.toList), 0) := by unfold ofR; rw [if_neg (by rw [h1]; simp), if_neg (by omega), hsl]
      rw [e]
      exact (recipeOf_fine nm s hm h1 (by omega) w).mono fun e w' ⟨v, h, hi, hb⟩ => ⟨v, h, hi, hb⟩
  · have h1' : isName nm.data.toList = false := by simpa using h1
    have e : ofR nm.data.toList s.data.toList = (([], 0, 0, []), 4) := by unfold ofR; rw [if_pos h1']
    rw [e]
    exact (recipeOf_name nm s hm h1' w).mono fun e w' ⟨h, hb⟩ => ⟨.slice none 0 0, h, IdsIn.nil _ _, hb⟩

end Go.Proofs.YteefjbdejcpepabGreatDoor
