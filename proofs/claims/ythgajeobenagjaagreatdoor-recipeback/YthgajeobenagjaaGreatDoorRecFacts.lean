/-
  Own text. Recipes, pure: a text's recipe has no fault; what is joined of it and its pieces is the text, with another piece none; it is read as it was written; its rep is one of its IDs, and none is less.
-/
import Derived.Test.YthgajeobenagjaaGreatDoorRecRead
namespace Go.Proofs.YthgajeobenagjaaGreatDoor

theorem pieces_many : ∀ (l : List UInt8), l ≠ [] → 16 * ((pieces l).length - 1) + 1 ≤ l.length := by
  refine pieces_rec (fun h => (h rfl).elim) ?_
  intro l hl ih _
  have hp := first_pos l hl
  have hle := first_le l
  rw [pieces_ne l hl, List.length_cons, Nat.add_sub_cancel]
  by_cases hd : l.drop (first l) = []
  · rw [hd, pieces_nil]
    have := List.length_pos_iff.2 hl
    simp
    omega
  · have h16 := first_ge16 l (drop_ne_nil hd)
    have hlt := drop_ne_nil hd
    have := ih hd
    rw [List.length_drop] at this
    have hn : 1 ≤ (pieces (l.drop (first l))).length := by
      rcases Nat.eq_zero_or_pos (pieces (l.drop (first l))).length with h | h
      · exact (hd ((pieces_eq_nil _).1 (List.eq_nil_of_length_eq_zero h))).elim
      · exact h
    omega
theorem pieces_250 (l : List UInt8) (h : l.length ≤ 4000) : (pieces l).length ≤ 250 := by
  by_cases e : l = []
  · subst e; decide
  · have := pieces_many l e
    omega
theorem idsOf_length (l : List UInt8) : (idsOf l).length = (pieces l).length := List.length_map _
theorem idsOf_at (l : List UInt8) (i : Nat) (h : i < (idsOf l).length) : (idsOf l)[i] = idOfL ((pieces l)[i]'(by rw [← idsOf_length]; exact h)) := by
  simp only [idsOf, List.getElem_map]
  rfl
theorem lenSum_pieces : ∀ (ps : List (List UInt8)), lenSum (ps.map fun p => (pmore 2166136261 p, (p.length : Int))) = (ps.flatten.length : Int)
  | [] => rfl
  | p :: r => by
    have ih := lenSum_pieces r
    simp only [lenSum, List.map_cons, List.sum_cons, List.flatten_cons, List.length_append] at ih ⊢
    rw [ih]
    omega
theorem recFault_of (nm l : List UInt8) (hn : isName nm = true) (hl : l.length ≤ 4000) : recFault nm l.length (idsOf l) = (0, -1) := by
  refine recFault_fine hn (by omega) (by have := pieces_250 l hl; rw [idsOf_length]; omega) (firstBad_none _ _ fun j hj => ?_) ?_
  · have hj' : j < (pieces l).length := by rw [← idsOf_length]; exact hj
    have := pieces_at l j hj'
    rw [idsOf_at]
    unfold idOk idOfL
    exact decide_eq_true ⟨by show (1 : Int) ≤ ((pieces l)[j].length : Int); omega, by show ((pieces l)[j].length : Int) ≤ 64; omega⟩
  · rw [idsOf, lenSum_pieces, pieces_flatten]
theorem joinOf_pieces (nm l : List UInt8) (hn : isName nm = true) (hl : l.length ≤ 4000) : joinOf nm l.length (pmore 2166136261 l) (idsOf l) (pieces l) = (l, (0, -1)) := by
  unfold joinOf
  rw [if_neg (by rw [recFault_of nm l hn hl]; simp), if_neg (by rw [idsOf_length]; simp), firstOdd_none (pieces l) (idsOf l) 0 (fun j hj hj' => (idsOf_at l j hj').symm), pieces_flatten]
  simp
theorem joinOf_other (nm l p : List UInt8) (hn : isName nm = true) (hl : l.length ≤ 4000) (k : Nat) (hk : k < (pieces l).length) (hp : idOfL p ≠ idOfL (pieces l)[k]) : joinOf nm l.length (pmore 2166136261 l) (idsOf l) ((pieces l).set k p) = ([], (9, (k : Int))) := by
  have hf : firstOdd 0 ((pieces l).set k p) (idsOf l) = some k := by
    have := firstOdd_at ((pieces l).set k p) (idsOf l) 0 k (by rw [List.length_set]; exact hk) (by rw [idsOf_length]; exact hk) (fun j hj hj' h => ?_) ?_
    · rwa [Nat.zero_add] at this
    · rw [List.getElem_set_ne (by omega), idsOf_at]
    · rw [List.getElem_set_self, idsOf_at]
      exact hp
  unfold joinOf
  rw [if_neg (by rw [recFault_of nm l hn hl]; simp), if_neg (by rw [idsOf_length, List.length_set]; simp), hf]

theorem undec_no (c : UInt8) (hc : undec1 c = none) : ∀ (q : List UInt8) (n v : Nat), undec n q = some v → c ∉ q
  | [], _, _, _ => by simp
  | x :: q, n, v, h => by
    rw [undec] at h
    split at h
    · rename_i d hd
      have ih := undec_no c hc q _ _ h
      intro hm
      rcases List.mem_cons.1 hm with e | hm
      · rw [← e, hc] at hd
        cases hd
      · exact ih hm
    · cases h
theorem unhex_no (c : UInt8) (hc : unhex1 c = none) : ∀ (q : List UInt8) (n v : Nat), unhex n q = some v → c ∉ q
  | [], _, _, _ => by simp
  | x :: q, n, v, h => by
    rw [unhex] at h
    split at h
    · rename_i d hd
      have ih := unhex_no c hc q _ _ h
      intro hm
      rcases List.mem_cons.1 hm with e | hm
      · rw [← e, hc] at hd
        cases hd
      · exact ih hm
    · cases h
theorem blank_dec (u : Nat) : (32 : UInt8) ∉ Lib.decDigits u := undec_no 32 (by decide) _ 0 u (undec_decDigits u)
theorem pow16 : (16 : Nat) ^ 8 = 4294967296 := by decide
theorem unhex_hex (n : Nat) (h : n < 4294967296) : unhex 0 (hexLast n 8) = some n := by
  rw [unhex_hexLast 0 n 8 (by rw [pow16]; exact h), Nat.zero_mul, Nat.zero_add]
theorem blank_hex (n : Nat) (h : n < 4294967296) : (32 : UInt8) ∉ hexLast n 8 := unhex_no 32 (by decide) _ 0 n (unhex_hex n h)
theorem blank_id (n l : Nat) (h : n < 4294967296) : (32 : UInt8) ∉ idText n l := by
  intro hm
  rcases List.mem_append.1 hm with hm | hm
  · exact blank_hex n h hm
  · rcases List.mem_cons.1 hm with e | hm
    · exact absurd e (by decide)
    · exact blank_dec l hm
theorem blank_name (nm : List UInt8) (h : isName nm = true) : (32 : UInt8) ∉ nm := by
  intro hm
  unfold isName at h
  rw [Bool.and_eq_true] at h
  have := List.all_eq_true.1 h.1 32 hm
  exact absurd this (by decide)
theorem cut_ids : ∀ (ids : List (Nat × Int)) (X : List UInt8), (32 : UInt8) ∉ X → (∀ x ∈ ids, x.1 < 4294967296) → cutBy 32 (X ++ idsText ids) = X :: ids.map fun x => idText x.1 x.2.toNat
  | [], X, hX, _ => by
    rw [show idsText [] = [] from rfl, List.append_nil, cutBy_noc _ _ hX]
    rfl
  | x :: r, X, hX, h => by
    rw [show idsText (x :: r) = 32 :: (idText x.1 x.2.toNat ++ idsText r) from rfl, cutBy_split _ _ _ hX, cut_ids r _ (blank_id _ _ (h x (by simp))) (fun y hy => h y (by simp [hy]))]
    rfl
theorem read_ids : ∀ (ids : List (Nat × Int)), (∀ x ∈ ids, x.1 < 4294967296) → (∀ x ∈ ids, idOk x = true) → readIds (ids.map fun x => idText x.1 x.2.toNat) = some ids
  | [], _, _ => rfl
  | x :: r, h, ho => by
    have h0 := ho x (by simp)
    simp only [idOk, decide_eq_true_eq] at h0
    have e := idRead_idText x.1 x.2.toNat (h x (by simp)) (by omega)
    rw [List.map_cons, readIds, e, read_ids r (fun y hy => h y (by simp [hy])) (fun y hy => ho y (by simp [hy]))]
    simp only [Option.some.injEq, List.cons.injEq, and_true]
    apply Prod.ext
    · rfl
    · simp only
      omega
theorem firstBad_all : ∀ (ids : List (Nat × Int)) (i : Nat), firstBad i ids = none → ∀ x ∈ ids, idOk x = true
  | [], _, _, x, hx => by simp at hx
  | y :: r, i, h, x, hx => by
    rw [firstBad] at h
    split at h
    · rename_i hy
      rcases List.mem_cons.1 hx with e | hx
      · rw [e]; exact hy
      · exact firstBad_all r (i + 1) h x hx
    · cases h
theorem rcpRead_text (nm : List UInt8) (len : Int) (p : Nat) (ids : List (Nat × Int)) (hf : recFault nm len ids = (0, -1)) (hp : p < 4294967296) (h32 : ∀ x ∈ ids, x.1 < 4294967296) : rcpRead (rcpText nm len p ids) = ((nm, len, p, ids), (0, -1)) := by
  obtain ⟨h1, ⟨h2, h2'⟩, _, h4, _⟩ := recFault_zero hf
  have hcut : cutBy 32 (rcpText nm len p ids) = nm :: Lib.decDigits len.toNat :: hexLast p 8 :: ids.map fun x => idText x.1 x.2.toNat := by
    have e : rcpText nm len p ids = nm ++ 32 :: (Lib.decDigits len.toNat ++ 32 :: (hexLast p 8 ++ idsText ids)) := by
      simp [rcpText]
    rw [e, cutBy_split _ _ _ (blank_name nm h1), cutBy_split _ _ _ (blank_dec _), cut_ids ids _ (blank_hex p hp) h32]
  have hlen : ((len.toNat : Nat) : Int) = len := Int.toNat_of_nonneg h2
  have h6 : (10 : Nat) ^ 6 = 1000000 := by decide
  have hn : numOf (Lib.decDigits len.toNat) 6 = some len.toNat := numOf_decDigits len.toNat 6 (by decide) (by rw [h6]; omega)
  have hu : unhex8 (hexLast p 8) = some p := by rw [unhex8, if_pos (hexLast_length p 8), unhex_hex p hp]
  have hr := read_ids ids h32 (firstBad_all ids 0 h4)
  rw [rcpRead_all hcut hn hu hr, hlen, if_pos hf]

theorem lessB_iff (a b : Nat × Int) : lessB a b = true ↔ a.1 < b.1 ∨ (a.1 = b.1 ∧ a.2 < b.2) := by
  unfold lessB
  split
  · rename_i h
    simp only [decide_eq_true_eq]
    omega
  · rename_i h
    simp only [decide_eq_true_eq]
    omega
theorem lesser_mem (m y : Nat × Int) : lesser m y = m ∨ lesser m y = y := by
  unfold lesser
  split
  · exact .inr rfl
  · exact .inl rfl
theorem lesser_least (m y x : Nat × Int) (h : lessB x m = false) : lessB x (lesser m y) = false := by
  unfold lesser
  split
  · rename_i hy
    have h1 : ¬ lessB x m = true := by rw [h]; simp
    rw [lessB_iff] at h1 hy
    have h2 : ¬ lessB x y = true := by rw [lessB_iff]; omega
    simpa using h2
  · exact h
theorem lesser_self (m y : Nat × Int) : lessB y (lesser m y) = false := by
  unfold lesser
  split
  · have h2 : ¬ lessB y y = true := by rw [lessB_iff]; omega
    simpa using h2
  · rename_i h
    simpa using h
theorem fold_least : ∀ (r : List (Nat × Int)) (m x : Nat × Int), lessB x m = false → lessB x (r.foldl lesser m) = false
  | [], _, _, h => h
  | y :: r, m, x, h => fold_least r (lesser m y) x (lesser_least m y x h)
theorem fold_all : ∀ (r : List (Nat × Int)) (m x : Nat × Int), x ∈ r → lessB x (r.foldl lesser m) = false
  | y :: r, m, x, h => by
    rcases List.mem_cons.1 h with e | h
    · rw [e]
      exact fold_least r (lesser m y) y (lesser_self m y)
    · exact fold_all r (lesser m y) x h
theorem fold_mem : ∀ (r : List (Nat × Int)) (m : Nat × Int), r.foldl lesser m = m ∨ r.foldl lesser m ∈ r
  | [], _ => .inl rfl
  | y :: r, m => by
    rcases fold_mem r (lesser m y) with h | h
    · rcases lesser_mem m y with e | e
      · exact .inl (h.trans e)
      · exact .inr (by rw [List.foldl_cons, h, e]; simp)
    · exact .inr (List.mem_cons.2 (.inr h))
theorem repOf_mem (ids : List (Nat × Int)) (h : ids ≠ []) : repOf ids ∈ ids := by
  cases ids with
  | nil => exact (h rfl).elim
  | cons x r =>
    rcases fold_mem r x with e | e
    · exact List.mem_cons.2 (.inl e)
    · exact List.mem_cons.2 (.inr e)
theorem repOf_least (ids : List (Nat × Int)) (x : Nat × Int) (h : x ∈ ids) : lessB x (repOf ids) = false := by
  cases ids with
  | nil => simp at h
  | cons y r =>
    rcases List.mem_cons.1 h with e | h
    · rw [e]
      refine fold_least r y y ?_
      have h2 : ¬ lessB y y = true := by rw [lessB_iff]; omega
      simpa using h2
    · exact fold_all r y x h
end Go.Proofs.YthgajeobenagjaaGreatDoor
